/- Plain facts on powers; Power, Inverse and ElementOrder at permutations. -/
import Derived.Test.YtonanelghnjhpabPow
import Derived.Test.YtonanelghnjhpabOrder
import Derived.Test.YtonanelghnjhpabGroup
namespace Go.Proofs.Ytonanelghnjhpab
open Go.RowKit

theorem pow_nx {p : List Int} {K : Int} {x : Nat} (hx : x < p.length) : nx (powL p K) x = it p (K % (per p x : Int)).toNat x := by
  unfold nx; rw [powL_getD hx]; omega
theorem isP_pow {p : List Int} (hp : IsP p) (K : Int) : IsP (powL p K) := by
  have hl := powL_length p K
  refine ⟨by rw [hl]; exact hp.pos, by rw [hl]; exact hp.le, fun i hi => ?_, fun i hi => ?_, fun i j hi hj e => ?_⟩
  · rw [hl] at hi; rw [powL_getD hi]; omega
  · rw [hl] at hi ⊢; rw [powL_getD hi]; have := it_lt hp hi (K % (per p i : Int)).toNat; omega
  · rw [hl] at hi hj
    rw [powL_getD hi, powL_getD hj] at e
    have e2 : it p (K % (per p i : Int)).toNat i = it p (K % (per p j : Int)).toNat j := by omega
    have e3 : per p i = per p j := by
      rw [← per_it hp hi (K % (per p i : Int)).toNat, e2, per_it hp hj]
    rw [e3] at e2
    exact it_inj hp hi hj _ e2
theorem pow_add {p : List Int} (hp : IsP p) (j k : Int) : compL (powL p j) (powL p k) = powL p (j + k) := by
  refine ext_getD (n := p.length) ((compL_length _ _).trans (powL_length _ _)) (powL_length _ _) fun x hx => ?_
  rw [compL_getD (by rw [powL_length]; exact hx), pow_nx hx]
  have hy := it_lt hp hx (j % (per p x : Int)).toNat
  rw [powL_getD hy, powL_getD hx, per_it hp hx]
  have hm := (per_spec hp hx).1
  obtain ⟨m, em⟩ : ∃ m, per p x = m := ⟨_, rfl⟩
  rw [em] at hm ⊢
  rw [← it_add, it_mod hp hx, em]
  congr 2
  have h1 := Int.emod_nonneg j (show (m : Int) ≠ 0 by omega)
  have h2 := Int.emod_nonneg k (show (m : Int) ≠ 0 by omega)
  have h3 := Int.emod_nonneg (j + k) (show (m : Int) ≠ 0 by omega)
  have e : (((k % (m : Int)).toNat + (j % (m : Int)).toNat) % m : Nat) = ((j + k) % (m : Int)).toNat := by
    have h4 : ((((k % (m : Int)).toNat + (j % (m : Int)).toNat) % m : Nat) : Int) = (j + k) % (m : Int) := by
      rw [Int.natCast_emod, Int.natCast_add, Int.toNat_of_nonneg h1, Int.toNat_of_nonneg h2, ← Int.add_emod, Int.add_comm]
    omega
  exact e
theorem pow_zero_of {p : List Int} (hp : IsP p) (N : Nat) (h : ∀ x, x < p.length → per p x ∣ N) : powL p (N : Int) = idL p.length := by
  refine ext_getD (powL_length _ _) (idL_length _) fun x hx => ?_
  rw [powL_getD hx, idL_getD hx]
  obtain ⟨q, hq⟩ := h x hx
  have : ((N : Int) % (per p x : Int)).toNat = 0 := by
    rw [hq, Int.natCast_mul, Int.mul_emod_right]; rfl
  rw [this]; rfl
theorem pow_ord {p : List Int} (hp : IsP p) : powL p (ordL p : Int) = idL p.length :=
  pow_zero_of hp _ fun x hx => dvd_lcmL (List.mem_map.2 ⟨x, List.mem_range.2 hx, rfl⟩)
theorem pow_not {p : List Int} (hp : IsP p) {i : Nat} (h1 : 1 ≤ i) (h2 : i < ordL p) : powL p (i : Int) ≠ idL p.length := by
  intro e
  have hd : ∀ x, x < p.length → per p x ∣ i := fun x hx => by
    have e1 : (powL p (i : Int)).getD x 0 = (x : Int) := by rw [e, idL_getD hx]
    rw [powL_getD hx] at e1
    have hm := (per_spec hp hx).1
    have e2 : it p ((i : Int) % (per p x : Int)).toNat x = x := by omega
    have e3 : ((i : Int) % (per p x : Int)).toNat = i % per p x := by omega
    rw [e3] at e2
    have := (it_eq_iff hp hx _).1 e2
    rw [Nat.mod_mod] at this
    exact Nat.dvd_of_mod_eq_zero this
  have : ordL p ∣ i := lcmL_dvd fun a ha => by
    rw [List.mem_map] at ha
    obtain ⟨x, hx, rfl⟩ := ha
    exact hd x (List.mem_range.1 hx)
  have := Nat.le_of_dvd h1 this
  omega
theorem pow_neg {p : List Int} (hp : IsP p) : powL p (-1) = invL p p.length := by
  refine ext_getD (n := p.length) (powL_length _ _) (invL_length _ _) fun x hx => ?_
  rw [powL_getD hx, invL_getD hp hx]
  have hm := (per_spec hp hx).1
  obtain ⟨m, em⟩ : ∃ m, per p x = m := ⟨_, rfl⟩
  unfold pre
  rw [em] at hm ⊢
  have : ((-1 : Int) % (m : Int)).toNat = m - 1 := by
    have h1 := Int.emod_nonneg (-1) (show (m : Int) ≠ 0 by omega)
    have h2 := Int.emod_lt_of_pos (-1) (show (0 : Int) < m by omega)
    have h3 : (-1 : Int) % (m : Int) = (m : Int) - 1 := by
      rw [show (-1 : Int) = ((m : Int) - 1) + (m : Int) * (-1) from by omega, Int.add_mul_emod_self_left, Int.emod_eq_of_lt (by omega) (by omega)]
    omega
  rw [this]

theorem powT (K : Int) (A : Option Addr) (c n : Nat) (p : List Int) (b1 : Nat) (w : World) (hp : Slc w b1 A n c p) (ip : Hid (IsP p)) (h1 : -9223372036854775808 ≤ K) (h2 : K ≤ 9223372036854775807) :
    Calls Try.prog 7 #[.slice A n c, .int .i64 K] w fun e w' => ∃ A' c', e = .returned (.slice A' n c') ∧ Slc w' w.heap.size A' n c' (powL p K) ∧ Below w.heap.size w w' := by
  have hn : n ≤ 20 := by rw [← hp.1]; exact ip.out.le
  refine (implPower A c n p K w hp.ri_ hp.hid (by omega) h1 h2).mono ?_
  rintro e w' ⟨A', n', c', rfl, s, _, b⟩
  have hc : powerL p K = powL p K := if_pos (isP_iff.2 ip.out)
  rw [hc] at s
  have : n' = n := by rw [← s.1, powL_length, hp.1]
  subst this
  exact ⟨A', c', rfl, s, b⟩
theorem ordT (A : Option Addr) (c n o : Nat) (p : List Int) (b1 : Nat) (w : World) (hp : Slc w b1 A n c p) (ip : Hid (IsP p)) (ho : Hid (ordL p = o)) :
    Calls Try.prog 16 #[.slice A n c] w fun e w' => e = .returned (.int .i64 o) ∧ Below w.heap.size w w' := by
  have hn : n ≤ 20 := by rw [← hp.1]; exact ip.out.le
  exact (implElementOrder A c n p w hp.ri_ hp.hid (by omega)).mono fun e w' ⟨he, hb⟩ => ⟨he.trans (ret_int (by unfold orderL; rw [if_pos (isP_iff.2 ip.out), ho.out])), hb⟩
theorem ordTs (A : Option Addr) (c n o : Nat) (p : List Int) (b1 : Nat) (w : World) (hp : Slc w b1 A n c p) (ip : Hid (IsP p)) (ho : Hid (ordL p = o)) :
    Calls Try.prog 18 #[.slice A n c] w fun e w' => e = .returned (.int .i64 o) ∧ Below w.heap.size w w' := by
  have hn : n ≤ 20 := by rw [← hp.1]; exact ip.out.le
  exact (specElementOrder A c n p w hp.ri_ hp.hid (by omega) hp.le.1).mono fun e w' ⟨he, hb⟩ => ⟨he.trans (ret_int (by unfold orderL; rw [if_pos (isP_iff.2 ip.out), ho.out])), hb⟩
theorem idTs (K : Int) (n : Nat) (w : World) (hK : K = (n : Int)) (h1 : 1 ≤ n) (h2 : n ≤ 20) :
    Calls Try.prog 20 #[.int .i64 K] w fun e w' => ∃ A' c', e = .returned (.slice A' n c') ∧ Slc w' w.heap.size A' n c' (idL n) ∧ Below w.heap.size w w' := by
  subst hK
  refine (specId n w).mono ?_
  rintro e w' ⟨A', n', c', rfl, s, _, b⟩
  have hc : identL (n : Int) = idL n := by unfold identL; rw [if_pos (by omega)]; rfl
  rw [hc] at s
  have : n' = n := by rw [← s.1, idL_length]
  subst this
  exact ⟨A', c', rfl, s, b⟩
theorem likeF {xs ys : List Int} (hne : xs ≠ ys) (b1 b2 : Nat) (A B : Option Addr) (n c m d : Nat) (w : World) (hx : Slc w b1 A n c xs) (hy : Slc w b2 B m d ys) (hn : n ≤ 2097152) (hm : m ≤ 2097152) :
    Calls Try.prog 17 #[.slice A n c, .slice B m d] w fun e w' => e = .returned (.bool false) ∧ Below w.heap.size w w' :=
  (quiet_below (likeI_any A B c d n m _ _ w hx.ri_ hy.ri_ hx.hid hy.hid hn hm)).mono fun e w' ⟨he, hb⟩ => ⟨he.trans (ret_bool (by simp [hne])), hb⟩
end Go.Proofs.Ytonanelghnjhpab
