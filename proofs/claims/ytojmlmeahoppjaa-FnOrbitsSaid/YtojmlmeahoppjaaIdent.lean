/- Identity, of the program and of the model. No condition. -/
import Derived.Test.YtojmlmeahoppjaaPerm
namespace Go.Proofs.Ytojmlmeahoppjaa
open Go.RowKit

theorem idL_length (n : Nat) : (idL n).length = n := by simp [idL]
theorem idL_getD {n j : Nat} (h : j < n) : (idL n).getD j 0 = (j : Int) := by
  rw [List.getD_eq_getElem?_getD, List.getElem?_eq_getElem (by simp [idL, h])]; simp [idL]
theorem idL_succ (n : Nat) : idL (n + 1) = idL n ++ [(n : Int)] := by simp [idL, List.range_succ]

/-- What Identity answers. -/
def identL (n : Int) : List Int := if 1 ≤ n ∧ n ≤ 20 then idL n.toNat else []

set_option maxHeartbeats 400000 in
theorem specIdent (n : Nat) (w : World) (h2 : n ≤ 1000000) :
    Calls Try.prog 78 #[.int .i64 n] w fun e w' => ∃ A' c', e = .returned (.slice A' n c') ∧ Slc w' w.heap.size A' n c' (idL n) ∧ Below w.heap.size w w' := by
  go_enter Try.func78, Try.ntmps78
  go_wp2
  go_loopw [3, 4] (fun v i wr => ∃ k A c, k ≤ n ∧ i = .int .i64 (k : Nat) ∧ v = .slice A k c ∧ Slc wr w.heap.size A k c (idL k) ∧ Below w.heap.size w wr) (fun _ i _ => n - (intOf i).toNat)
  case atStart => exact ⟨0, _, _, Nat.zero_le _, rfl, rfl, Slc.lit0 w _ (Nat.le_refl _), (Below.refl _ _).alloc (Nat.le_refl _) _⟩
  case round =>
    obtain ⟨k, A, c, hk, rfl, rfl, own, bel⟩ := hrel
    have Own' := Lib.hid own
    have Bel := Lib.hid bel
    clear own bel
    by_cases hlt : k < n
    · go_wp2_with (first | (at_builtin; refine wpList_app1 rfl _ _ rfl w.heap.size A k c (idL k) rfl (Own'.out.alloc _) wr.heap.size k rfl (by rw [World.cell?_alloc_at _ _ _ _ rfl]; rfl) (by omega) (by have := Bel.out.size; simp; omega) ?_; intro A' c' w1 own1 hg1))
      have Own1 := Lib.hid own1
      have Bel1 : Hid (Below w.heap.size w w1) := Lib.hid ((Bel.out.alloc Bel.out.size _).grown hg1 (by have := Bel.out.size; simp; omega) (fun j hj => (Own'.out.lt_ j hj).1))
      clear own1 hg1
      go_wp2
      go_roundw
      case rel => exact ⟨k + 1, A', c', by omega, by go_num, rfl, by rw [idL_succ]; exact Own1.out, Bel1.out⟩
      case measure => simp [intOf]; omega
    · have hkn : k = n := by omega
      subst hkn
      go_wp2
      go_ret
      exact ⟨_, _, rfl, Own'.out, Bel.out⟩

end Go.Proofs.Ytojmlmeahoppjaa
