/- Identity, of the program and of the model. No condition. -/
import Derived.Test.YtonanelghnjhpabPerm
namespace Go.Proofs.Ytonanelghnjhpab
open Go.RowKit

theorem idL_length (n : Nat) : (idL n).length = n := by simp [idL]
theorem idL_getD {n j : Nat} (h : j < n) : (idL n).getD j 0 = (j : Int) := by
  rw [List.getD_eq_getElem?_getD, List.getElem?_eq_getElem (by simp [idL, h])]; simp [idL]
theorem idL_succ (n : Nat) : idL (n + 1) = idL n ++ [(n : Int)] := by simp [idL, List.range_succ]

/-- What Identity answers. -/
def identL (n : Int) : List Int := if 1 ≤ n ∧ n ≤ 20 then idL n.toNat else []

set_option maxHeartbeats 400000 in
theorem implId_core (n : Nat) (w : World) (h1 : 1 ≤ n) (h2 : n ≤ 20) :
    Calls Try.prog 19 #[.int .i64 n] w fun e w' => ∃ A' c', e = .returned (.slice A' n c') ∧ Slc w' w.heap.size A' n c' (idL n) ∧ Below w.heap.size w w' := by
  obtain ⟨i0, hi, hz0, hz1, hz2⟩ := info_parts infoI
  have d1 : decide ((n : Int) < 1) = false := by simp; omega
  have d2 : decide ((20 : Int) < n) = false := by simp; omega
  go_enter Try.func19, Try.ntmps19
  go_wp2_with (first | (at_make; refine wpList_make_full _ rfl _ _ 22 rfl w.heap.size 2 i0 (.int .i64 0) 1 Try.underlying22 hi hz0 hz1 .i64 .i64 _ _ n rfl rfl rfl rfl (by rw [hz2]; omega) (by unfold maxLen; omega) (Nat.le_refl _) ?_; intro w1 hown1 hgrow1))
  have row1 := Row.made hown1
  have bel1 : Below w.heap.size w w1 := (Below.refl _ _).grown hgrow1 (Nat.le_refl _) (fun k e => nomatch e)
  clear hown1 hgrow1 d1 d2
  go_loopw [4, 15] (fun _ i wr => ∃ k ys, k ≤ n ∧ i = .int .i64 (k : Nat) ∧ Row wr w.heap.size w.heap.size n n ys ∧ (∀ j, j < k → ys.getD j 0 = (j : Int)) ∧ Below w.heap.size w wr) (fun _ i _ => n - (intOf i).toNat)
  case atStart => exact ⟨0, _, Nat.zero_le _, rfl, row1, fun j h => absurd h (by omega), bel1⟩
  case round =>
    clear row1 bel1
    obtain ⟨k, ys, hk, rfl, row, heq, bel⟩ := hrel
    have Heq := Lib.hid heq
    clear heq
    by_cases hlt : k < n
    · have c2 := row.cell hlt
      have f2 := row.free k
      have Row2 := Lib.hid (row.store k (k : Int))
      have Bel2 := Lib.hid (bel.setCell (p := ⟨w.heap.size, k, none⟩) (Nat.le_refl _) (.int .i64 (k : Int)))
      have hyl : Hid (ys.length = n) := Lib.hid row.1
      clear row bel
      go_wp2
      go_roundw
      case rel =>
        refine ⟨k + 1, _, by omega, by go_num, Row2.out, fun j hj => ?_, Bel2.out⟩
        rw [set_getD hyl.out (by omega)]
        by_cases e : k = j
        · subst e; rw [if_pos rfl]
        · rw [if_neg e]; exact Heq.out j (by omega)
      case measure => simp [intOf]; omega
    · have hkn : k = n := by omega
      subst hkn
      have Em : Hid (ys = idL k) := Lib.hid (ext_getD row.1 (idL_length k) fun j hj => by rw [Heq.out j hj, idL_getD hj])
      have Ro := Lib.hid row
      have Be := Lib.hid bel
      clear row bel
      go_wp2
      go_ret
      exact ⟨_, _, rfl, by rw [← Em.out]; exact Ro.out.slc, Be.out⟩

/-- The program's Identity. -/
theorem implId (n : Int) (w : World) :
    Calls Try.prog 19 #[.int .i64 n] w fun e w' => ∃ A' n' c', e = .returned (.slice A' n' c') ∧ Slc w' w.heap.size A' n' c' (identL n) ∧ n' ≤ 20 ∧ Below w.heap.size w w' := by
  by_cases h1 : n < 1
  · have Fin : Hid (identL n = []) := Lib.hid (if_neg (by omega))
    have d1 : decide ((n : Int) < 1) = true := by simp; omega
    go_enter Try.func19, Try.ntmps19
    go_wp2
    go_ret
    exact ⟨_, _, _, rfl, by rw [Fin.out]; exact Slc.nil_, Nat.zero_le _, Below.refl _ _⟩
  · by_cases h2 : 20 < n
    · have Fin : Hid (identL n = []) := Lib.hid (if_neg (by omega))
      have d1 : decide ((n : Int) < 1) = false := by simp; omega
      have d2 : decide ((20 : Int) < n) = true := by simp; omega
      go_enter Try.func19, Try.ntmps19
      go_wp2
      go_ret
      exact ⟨_, _, _, rfl, by rw [Fin.out]; exact Slc.nil_, Nat.zero_le _, Below.refl _ _⟩
    · obtain ⟨m, rfl⟩ := Int.eq_ofNat_of_zero_le (show 0 ≤ n by omega)
      refine (implId_core m w (by omega) (by omega)).mono fun e w' ⟨A', c', he, hs, hb⟩ => ⟨A', m, c', he, ?_, by omega, hb⟩
      rw [show identL (m : Int) = idL m from by unfold identL; rw [if_pos (by omega)]; rfl]
      exact hs

set_option maxHeartbeats 400000 in
theorem specIdent (n : Nat) (w : World) (h2 : n ≤ 1000000) :
    Calls Try.prog 32 #[.int .i64 n] w fun e w' => ∃ A' c', e = .returned (.slice A' n c') ∧ Slc w' w.heap.size A' n c' (idL n) ∧ Below w.heap.size w w' := by
  go_enter Try.func32, Try.ntmps32
  go_wp2
  go_loopw [3, 4] (fun v i wr => ∃ k A c, k ≤ n ∧ i = .int .i64 (k : Nat) ∧ v = .slice A k c ∧ Slc wr w.heap.size A k c (idL k) ∧ Below w.heap.size w wr) (fun _ i _ => n - (intOf i).toNat)
  case atStart => exact ⟨0, _, _, Nat.zero_le _, rfl, rfl, Slc.lit0 w _ (Nat.le_refl _), (Below.refl _ _).alloc (Nat.le_refl _) _⟩
  case round =>
    obtain ⟨k, A, c, hk, rfl, rfl, own, bel⟩ := hrel
    have Own' := Lib.hid own
    have Bel := Lib.hid bel
    clear own bel
    by_cases hlt : k < n
    · go_wp2_with (first | (at_builtin; refine wpList_app1 rfl _ _ rfl w.heap.size A k c (idL k) rfl (Own'.out.alloc _) wr.heap.size k rfl (by rw [World.cell?_alloc_at _ _ _ _ rfl]; rfl) (by omega) (by have := Bel.out.size; simp; omega) ?_; intro A' c' w1 own1 hg1))
      have Own1 := Lib.hid own1
      have Bel1 : Hid (Below w.heap.size w w1) := Lib.hid ((Bel.out.alloc Bel.out.size _).grown hg1 (by have := Bel.out.size; simp; omega) (fun j hj => (Own'.out.lt_ j hj).1))
      clear own1 hg1
      go_wp2
      go_roundw
      case rel => exact ⟨k + 1, A', c', by omega, by go_num, rfl, by rw [idL_succ]; exact Own1.out, Bel1.out⟩
      case measure => simp [intOf]; omega
    · have hkn : k = n := by omega
      subst hkn
      go_wp2
      go_ret
      exact ⟨_, _, rfl, Own'.out, Bel.out⟩

/-- The model's Identity. -/
theorem specId (n : Int) (w : World) :
    Calls Try.prog 20 #[.int .i64 n] w fun e w' => ∃ A' n' c', e = .returned (.slice A' n' c') ∧ Slc w' w.heap.size A' n' c' (identL n) ∧ n' ≤ 20 ∧ Below w.heap.size w w' := by
  by_cases h1 : n < 1 ∨ 20 < n
  · have Fin : Hid (identL n = []) := Lib.hid (if_neg (by omega))
    have H1 := Lib.hid h1
    clear h1
    go_enter Try.func20, Try.ntmps20
    go_wp2_with (go_at_call 31; refine (inR_false _ _ _ _ H1.out).mono ?_; rintro e w' ⟨rfl, rfl⟩)
    go_ret
    exact ⟨_, _, _, rfl, by rw [Fin.out]; exact Slc.lit0 w _ (Nat.le_refl _), Nat.zero_le _, (Below.refl _ _).alloc (Nat.le_refl _) _⟩
  · obtain ⟨m, rfl⟩ := Int.eq_ofNat_of_zero_le (show 0 ≤ n by omega)
    have Fin : Hid (identL (m : Int) = idL m) := Lib.hid (by unfold identL; rw [if_pos (by omega)]; rfl)
    go_enter Try.func20, Try.ntmps20
    go_wp2_with (first | (go_at_call 31; refine (inR_true _ _ _ _ (by omega) (by omega)).mono ?_; rintro e w' ⟨rfl, rfl⟩) | (go_at_call 32; refine (specIdent m w (by omega)).mono ?_; rintro e w' ⟨A', c', rfl, own, bel⟩))
    have Own' := Lib.hid own
    have Bel := Lib.hid bel
    clear own bel
    go_wp2
    go_ret
    exact ⟨_, _, _, rfl, by rw [Fin.out]; exact Own'.out, by omega, Bel.out⟩
end Go.Proofs.Ytonanelghnjhpab
