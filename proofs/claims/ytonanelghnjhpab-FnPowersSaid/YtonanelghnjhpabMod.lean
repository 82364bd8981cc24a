/- Go's remainder as a number below m; the program's modulo. Condition: m from 1 to 2^62. -/
import Derived.Test.YtonanelghnjhpabBase
namespace Go.Proofs.Ytonanelghnjhpab
open Go.RowKit

/-- Go's remainder, and how it becomes the number below m. -/
theorem rem_facts (k : Int) (m : Nat) (hm : 1 ≤ m) : ∃ s : Nat, s < m ∧ s = (k % (m : Int)).toNat ∧ -(m : Int) < k.tmod m ∧ k.tmod m < m ∧ ((k.tmod m < 0 ∧ k.tmod m + m = s) ∨ (0 ≤ k.tmod m ∧ k.tmod m = s)) ∧ (k.tmod m + m) % (m : Int) = s := by
  have h0 := Int.emod_nonneg k (show (m : Int) ≠ 0 by omega)
  have h1 := Int.emod_lt_of_pos k (show (0 : Int) < m by omega)
  refine ⟨(k % (m : Int)).toNat, by omega, rfl, ?_⟩
  have hs : (((k % (m : Int)).toNat : Nat) : Int) = k % m := by omega
  rw [hs, Int.tmod_eq_emod]
  generalize hE : k % (m : Int) = E at *
  have ha : ((m : Int).natAbs : Int) = m := by omega
  split
  · refine ⟨by omega, by omega, .inr ⟨by omega, by omega⟩, ?_⟩
    rw [show E - ((0 : Nat) : Int) + (m : Int) = E + m from by omega, Int.add_emod_right, Int.emod_eq_of_lt h0 h1]
  · rename_i hn
    have hE0 : E ≠ 0 := fun e => hn (.inr (Int.dvd_of_emod_eq_zero (by rw [hE, e])))
    rw [ha]
    refine ⟨by omega, by omega, .inl ⟨by omega, by omega⟩, ?_⟩
    rw [Int.sub_add_cancel, Int.emod_eq_of_lt h0 h1]

set_option maxHeartbeats 400000 in
/-- modulo. -/
theorem implModulo (k : Int) (m : Nat) (hm : 1 ≤ m) (hmb : m ≤ 4611686018427387904) (w : World) :
    Calls Try.prog 35 #[.int .i64 k, .int .i64 (m : Nat)] w fun e w' => e = .returned (.int .i64 (((k % (m : Int)).toNat : Nat) : Int)) ∧ w = w' := by
  obtain ⟨s, hs1, hs2, r1, r2, r3, _⟩ := rem_facts k m hm
  rw [← hs2]
  obtain ⟨r, er⟩ : ∃ r, k.tmod (m : Int) = r := ⟨_, rfl⟩
  rw [er] at r1 r2 r3
  have wr : IntKind.i64.wrap r = r := by rw [IntKind.wrap_i64]; omega
  have hm0 : ¬ ((m : Int) = 0) := by omega
  clear hs2
  go_enter Try.func35, Try.ntmps35
  rcases r3 with ⟨h1, h2⟩ | ⟨h1, h2⟩
  · have d : decide (r < 0) = true := by simpa using h1
    have w2 : IntKind.i64.wrap (r + (m : Int)) = (s : Int) := by rw [IntKind.wrap_i64]; omega
    go_wp2
    go_ret
    exact ⟨rfl, rfl⟩
  · have d : decide (r < 0) = false := by simp; omega
    go_wp2
    go_ret
    exact ⟨by first | rfl | exact ret_int h2, rfl⟩
end Go.Proofs.Ytonanelghnjhpab
