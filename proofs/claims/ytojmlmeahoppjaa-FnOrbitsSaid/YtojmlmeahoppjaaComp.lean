/- Compose and Inverse, of the program and of the model. Condition: at most 2097152 entries. -/
import Derived.Test.YtojmlmeahoppjaaIdent
namespace Go.Proofs.Ytojmlmeahoppjaa
open Go.RowKit

def sameD (p q : List Int) : Bool := decide (p.length = q.length) && isP p && isP q
theorem sameD_iff {p q : List Int} : sameD p q = true ↔ p.length = q.length ∧ IsP p ∧ IsP q := by
  unfold sameD
  rw [Bool.and_eq_true, Bool.and_eq_true, decide_eq_true_eq, isP_iff, isP_iff]
  exact ⟨fun ⟨⟨a, b⟩, c⟩ => ⟨a, b, c⟩, fun ⟨a, b, c⟩ => ⟨⟨a, b⟩, c⟩⟩

theorem compL_length (p q : List Int) : (compL p q).length = p.length := by simp [compL]
theorem compL_getD {p q : List Int} {k : Nat} (hk : k < p.length) : (compL p q).getD k 0 = q.getD (nx p k) 0 := by
  unfold compL nx
  rw [List.getD_eq_getElem?_getD, List.getElem?_map, List.getElem?_eq_getElem hk, List.getD_eq_getElem?_getD (l := p), List.getElem?_eq_getElem hk]
  rfl

def composeL (p q : List Int) : List Int := if sameD p q = true then compL p q else []

theorem compL_snoc {p q : List Int} {k : Nat} (hk : k < p.length) : compL (p.take (k + 1)) q = compL (p.take k) q ++ [q.getD (nx p k) 0] := by
  unfold compL nx
  rw [List.take_succ_eq_append_getElem hk, List.map_append, List.getD_eq_getElem?_getD (l := p), List.getElem?_eq_getElem hk]
  rfl

set_option maxHeartbeats 400000 in
theorem specComp (A B : Option Addr) (c d n : Nat) (p q : List Int) (w : World) (hp : RI w w.heap.size A p) (hq : RI w w.heap.size B q) (lp : Hid (p.length = n)) (lq : Hid (q.length = n)) (ip : Hid (IsP p)) (hn : n ≤ 20) :
    Calls Try.prog 84 #[.slice A n c, .slice B n d] w fun e w' => ∃ A' c', e = .returned (.slice A' n c') ∧ Slc w' w.heap.size A' n c' (compL p q) ∧ Below w.heap.size w w' := by
  go_enter Try.func84, Try.ntmps84
  go_wp2
  go_loopw [5, 6] (fun v i wr => ∃ k A c, k ≤ n ∧ i = .int .i64 (k : Nat) ∧ v = .slice A k c ∧ Slc wr w.heap.size A k c (compL (p.take k) q) ∧ Below w.heap.size w wr) (fun _ i _ => n - (intOf i).toNat)
  case atStart => exact ⟨0, _, _, Nat.zero_le _, rfl, rfl, Slc.lit0 w _ (Nat.le_refl _), (Below.refl _ _).alloc (Nat.le_refl _) _⟩
  case round =>
    obtain ⟨k, A', c', hk, rfl, rfl, own, bel⟩ := hrel
    have Own' := Lib.hid own
    clear own
    by_cases hlt : k < n
    · obtain ⟨b, off, rfl, hb, hc⟩ := hp (by rw [lp.out]; omega)
      obtain ⟨b', off', rfl, hb', hc'⟩ := hq (by rw [lq.out]; omega)
      obtain ⟨y, ey⟩ : ∃ y, nx p k = y := ⟨_, rfl⟩
      have hy : y < n := by rw [← ey, ← lp.out]; exact nx_lt ip.out (by rw [lp.out]; exact hlt)
      have c1 := (bel.cell (p := ⟨b, off + k, none⟩) hb).trans (hc k (by rw [lp.out]; omega))
      rw [nx_val ip.out (by rw [lp.out]; exact hlt), ey] at c1
      have c2 := (bel.cell (p := ⟨b', off' + y, none⟩) hb').trans (hc' y (by rw [lq.out]; omega))
      obtain ⟨x, ex⟩ : ∃ x, q.getD y 0 = x := ⟨_, rfl⟩
      rw [ex] at c2
      have Ex := Lib.hid ex
      have Ey := Lib.hid ey
      have Bel := Lib.hid bel
      clear ex ey hc hc' hp hq bel
      go_wp2_with (first | (at_builtin; refine wpList_app1 rfl _ _ rfl w.heap.size A' k c' _ rfl (Own'.out.alloc _) wr.heap.size x rfl (by rw [World.cell?_alloc_at _ _ _ _ rfl]; rfl) (by omega) (by have := Bel.out.size; simp; omega) ?_; intro A1 c1' w1 own1 hg1))
      have Own1 := Lib.hid own1
      have Bel1 : Hid (Below w.heap.size w w1) := Lib.hid ((Bel.out.alloc Bel.out.size _).grown hg1 (by have := Bel.out.size; simp; omega) (fun j hj => (Own'.out.lt_ j hj).1))
      clear own1 hg1
      go_wp2
      go_roundw
      case rel => exact ⟨k + 1, A1, c1', by omega, by go_num, rfl, by rw [compL_snoc (by rw [lp.out]; exact hlt), Ey.out, Ex.out]; exact Own1.out, Bel1.out⟩
      case measure => simp [intOf]; omega
    · have hkn : k = n := by omega
      subst hkn
      have Bel := Lib.hid bel
      have Em : Hid (p.take k = p) := Lib.hid (List.take_of_length_le (by rw [lp.out]; exact Nat.le_refl _))
      clear bel
      go_wp2
      go_ret
      exact ⟨_, _, rfl, by have := Own'.out; rw [Em.out] at this; exact this, Bel.out⟩

end Go.Proofs.Ytojmlmeahoppjaa
