/- Support, of the program and of the model, and the program's search for points. Condition: at most 2097152 entries. -/
import Derived.Test.YtopaeojcpidfgaaInv
namespace Go.Proofs.Ytopaeojcpidfgaa
open Go.RowKit

def ptsL (f : Nat → Bool) (k : Nat) : List Int := ((List.range k).filter f).map Int.ofNat
theorem ptsL_yes {f : Nat → Bool} {k : Nat} (h : f k = true) : ptsL f (k + 1) = ptsL f k ++ [(k : Int)] := by simp [ptsL, List.range_succ, List.filter_append, h]
theorem ptsL_no {f : Nat → Bool} {k : Nat} (h : f k = false) : ptsL f (k + 1) = ptsL f k := by simp [ptsL, List.range_succ, List.filter_append, h]
theorem ptsL_le (f : Nat → Bool) (k : Nat) : (ptsL f k).length ≤ k := by
  unfold ptsL; rw [List.length_map]; exact Nat.le_trans (List.length_filter_le _ _) (by simp)
def movesB (p : List Int) (x : Nat) : Bool := p.getD x 0 != (x : Int)
theorem supp_eq (p : List Int) : supp p = ptsL (movesB p) p.length := rfl
def suppL (p : List Int) : List Int := if isP p = true then supp p else []

theorem implMoves (A : Option Addr) (c n x : Nat) (p : List Int) (w : World) (B : Nat) (hp : RI w B A p) (lp : Hid (p.length = n)) (hx : x < n) (ans : Bool) (ha : Hid (movesB p x = ans)) (hn : n ≤ 20) :
    Calls Try.prog 59 #[.slice A n c, .int .i64 x] w fun e w' => e = .returned (.bool ans) ∧ w = w' := by
  obtain ⟨b, off, rfl, hb, hc⟩ := hp (by rw [lp.out]; omega)
  have c1 := hc x (by rw [lp.out]; omega)
  obtain ⟨y, ey⟩ : ∃ y, p.getD x 0 = y := ⟨_, rfl⟩
  rw [ey] at c1
  have Fin : Hid ((y != (x : Int)) = ans) := Lib.hid (by rw [← ha.out, ← ey]; rfl)
  clear ey hc
  go_enter Try.func59, Try.ntmps59
  go_wp2
  go_ret
  exact ⟨ret_bool Fin.out, rfl⟩

set_option maxHeartbeats 400000 in
/-- pointsWhere at a method value: the points that p moves. -/
theorem pwMoves (A : Option Addr) (c n : Nat) (p : List Int) (w : World) (hp : RI w w.heap.size A p) (lp : Hid (p.length = n)) (hn : n ≤ 20) :
    Calls Try.prog 58 #[.int .i64 n, .func (.func 59) #[.slice A n c] #[]] w fun e w' => ∃ A' n' c', e = .returned (.slice A' n' c') ∧ Slc w' w.heap.size A' n' c' (ptsL (movesB p) n) ∧ n' ≤ n ∧ Below w.heap.size w w' := by
  go_enter Try.func58, Try.ntmps58
  go_wp2
  go_loopw [5, 6, 8] (fun v _ i wr => ∃ k A' m c', k ≤ n ∧ m ≤ k ∧ i = .int .i64 (k : Nat) ∧ v = .slice A' m c' ∧ Slc wr w.heap.size A' m c' (ptsL (movesB p) k) ∧ Below w.heap.size w wr) (fun _ _ i _ => n - (intOf i).toNat)
  case atStart => exact ⟨0, _, _, _, Nat.zero_le _, Nat.le_refl _, rfl, rfl, Slc.nil_, Below.refl _ _⟩
  case round =>
    obtain ⟨k, A', m, c', hk, hmk, rfl, rfl, own, bel⟩ := hrel
    have Own' := Lib.hid own
    have Bel := Lib.hid bel
    clear own bel
    by_cases hlt : k < n
    · rcases hmv : movesB p k with _ | _
      · have Hm := Lib.hid hmv
        clear hmv
        go_wp2_with fail
        refine (implMoves A c n k p wr _ (hp.below Bel.out (Nat.le_refl _)) lp hlt false Hm hn).mono ?_
        rintro e w1 ⟨rfl, rfl⟩
        go_wp2_with fail
        go_roundw
        case rel => exact ⟨k + 1, A', m, c', by omega, by omega, by go_num, rfl, by rw [ptsL_no Hm.out]; exact Own'.out, Bel.out⟩
        case measure => simp [intOf]; omega
      · have Hm := Lib.hid hmv
        clear hmv
        go_wp2_with fail
        refine (implMoves A c n k p wr _ (hp.below Bel.out (Nat.le_refl _)) lp hlt true Hm hn).mono ?_
        rintro e w1 ⟨rfl, rfl⟩
        go_wp2_with (first | (at_builtin; refine wpList_app1 rfl _ _ rfl w.heap.size A' m c' _ rfl (Own'.out.alloc _) wr.heap.size k rfl (by rw [World.cell?_alloc_at _ _ _ _ rfl]; rfl) (by omega) (by have := Bel.out.size; simp; omega) ?_; intro A1 c1' w1 own1 hg1))
        have Own1 := Lib.hid own1
        have Bel1 : Hid (Below w.heap.size w w1) := Lib.hid ((Bel.out.alloc Bel.out.size _).grown hg1 (by have := Bel.out.size; simp; omega) (fun j hj => (Own'.out.lt_ j hj).1))
        clear own1 hg1
        go_wp2
        go_roundw
        case rel => exact ⟨k + 1, A1, m + 1, c1', by omega, by omega, by go_num, rfl, by rw [ptsL_yes Hm.out]; exact Own1.out, Bel1.out⟩
        case measure => simp [intOf]; omega
    · have hkn : k = n := by omega
      subst hkn
      go_wp2
      go_ret
      exact ⟨_, _, _, rfl, Own'.out, hmk, Bel.out⟩

set_option maxHeartbeats 400000 in
/-- The program's Support. -/
theorem implSupport (A : Option Addr) (c n : Nat) (p : List Int) (w : World) (hp : RI w w.heap.size A p) (lp : Hid (p.length = n)) (hn : n ≤ 2097152) :
    Calls Try.prog 30 #[.slice A n c] w fun e w' => ∃ A' n' c', e = .returned (.slice A' n' c') ∧ Slc w' w.heap.size A' n' c' (suppL p) ∧ n' ≤ 20 ∧ Below w.heap.size w w' := by
  have hmf : ∀ (fn : Fn) (first cap : Array Value) (w : World), (Instr.makeFunc fn first cap).run Try.prog w = .ok (.func fn first cap) w := fun _ _ _ _ => rfl
  rcases hs : isP p with _ | _
  · have Fin : Hid (suppL p = []) := Lib.hid (if_neg (by rw [hs]; decide))
    go_enter Try.func30, Try.ntmps30
    go_wp2_with fail
    refine (implIsP A c n p w hp lp hn).mono ?_
    rintro e w1 ⟨rfl, b1⟩
    have B1 := Lib.hid b1
    clear b1
    go_wp2_with fail
    go_ret
    exact ⟨_, _, _, rfl, by rw [Fin.out]; exact Slc.nil_, Nat.zero_le _, B1.out⟩
  · have Fin : Hid (suppL p = ptsL (movesB p) n) := Lib.hid (by unfold suppL; rw [if_pos hs, supp_eq, lp.out])
    have hn20 : n ≤ 20 := by rw [← lp.out]; exact (isP_iff.1 hs).le
    go_enter Try.func30, Try.ntmps30
    go_wp2_with fail
    refine (implIsP A c n p w hp lp hn).mono ?_
    rintro e w1 ⟨rfl, b1⟩
    have B1 := Lib.hid b1
    clear b1
    go_wp2_with fail
    refine (pwMoves A c n p w1 (hp.up B1.out) lp hn20).mono ?_
    rintro e w2 ⟨A2, n2, c2, rfl, s2, l2, b2⟩
    have S2 := Lib.hid (s2.mono B1.out.size)
    have B2 : Hid (Below w.heap.size w w2) := Lib.hid (btr B1.out b2)
    clear s2 b2
    go_wp2_with fail
    go_ret
    exact ⟨_, _, _, rfl, by rw [Fin.out]; exact S2.out, by omega, B2.out⟩

set_option maxHeartbeats 400000 in
/-- The model's Support. -/
theorem specSupport (A : Option Addr) (c n : Nat) (p : List Int) (w : World) (hp : RI w w.heap.size A p) (lp : Hid (p.length = n)) (hn : n ≤ 2097152) (hc : n ≤ c) :
    Calls Try.prog 32 #[.slice A n c] w fun e w' => ∃ A' n' c', e = .returned (.slice A' n' c') ∧ Slc w' w.heap.size A' n' c' (suppL p) ∧ n' ≤ 20 ∧ Below w.heap.size w w' := by
  rcases hs : isP p with _ | _
  · have Fin : Hid (suppL p = []) := Lib.hid (if_neg (by rw [hs]; decide))
    have Hs := Lib.hid hs
    by_cases h0 : n = 0
    · subst h0
      go_enter Try.func32, Try.ntmps32
      go_wp2_with fail
      refine wp_loop_rounds 1 ?_
      rw [rounds_succ]
      go_wp2
      go_ret
      exact ⟨_, _, _, rfl, by rw [Fin.out]; exact Slc.lit0 w _ (Nat.le_refl _), Nat.zero_le _, (Below.refl _ _).alloc (Nat.le_refl _) _⟩
    · have hpos : (0 : Int) < n := by omega
      go_enter Try.func32, Try.ntmps32
      go_wp2_with fail
      refine wp_loop_rounds 1 ?_
      rw [rounds_succ]
      go_wp2_with fail
      refine (quiet_below (specIsP A c n p _ ((hp.alloc (Nat.le_refl _) _).more (by simp)) lp hn hc)).mono ?_
      rintro e w1 ⟨rfl, b1⟩
      have B1 : Hid (Below w.heap.size w w1) := Lib.hid (((Below.refl _ _).alloc (Nat.le_refl _) _).trans (b1.mono (by simp)))
      have S1 : Hid (Slc w1 w.heap.size (some ⟨w.heap.size, 0, none⟩) 0 0 []) := Lib.hid ((Slc.lit0 w _ (Nat.le_refl _)).up b1)
      clear b1
      go_wp2_with fail
      go_ret
      exact ⟨_, _, _, rfl, by rw [Fin.out]; exact S1.out, Nat.zero_le _, B1.out⟩
  · have Fin : Hid (suppL p = ptsL (movesB p) n) := Lib.hid (by unfold suppL; rw [if_pos hs, supp_eq, lp.out])
    have hn20 : n ≤ 20 := by rw [← lp.out]; exact (isP_iff.1 hs).le
    have Hs := Lib.hid hs
    go_enter Try.func32, Try.ntmps32
    go_wp2
    go_loopw [3, 4] (fun v i wr => ∃ k A' m c', k ≤ n ∧ m ≤ k ∧ i = .int .i64 (k : Nat) ∧ v = .slice A' m c' ∧ Slc wr w.heap.size A' m c' (ptsL (movesB p) k) ∧ Below w.heap.size w wr) (fun _ i _ => n - (intOf i).toNat)
    case atStart => exact ⟨0, _, _, _, Nat.zero_le _, Nat.le_refl _, rfl, rfl, Slc.lit0 w _ (Nat.le_refl _), (Below.refl _ _).alloc (Nat.le_refl _) _⟩
    case round =>
      obtain ⟨k, A', m, c', hk, hmk, rfl, rfl, own, bel⟩ := hrel
      have Own' := Lib.hid own
      have Bel := Lib.hid bel
      clear own bel
      by_cases hlt : k < n
      · have hlt' : (k : Int) < n := by omega
        have hpx := hp
        obtain ⟨b, off, rfl, hb, hc1⟩ := hp (by rw [lp.out]; omega)
        obtain ⟨y, ey⟩ : ∃ y, p.getD k 0 = y := ⟨_, rfl⟩
        have c0 := hc1 k (by rw [lp.out]; omega)
        rw [ey] at c0
        clear hc1
        have C0 := Lib.hid c0
        have HP := Lib.hid hpx
        clear c0 hpx
        rcases hmv : movesB p k with _ | _
        · have hd : (y != (k : Int)) = false := by rw [← ey]; exact hmv
          have hd2 : (y == (k : Int)) = true := by simpa using hd
          have Hm := Lib.hid hmv
          clear hmv ey
          go_wp2_with fail
          refine (quiet_below (specIsP _ c n p wr ((HP.out.below Bel.out (Nat.le_refl _)).more Bel.out.size) lp hn hc)).mono ?_
          rintro e w1 ⟨rfl, b1⟩
          have Bel1 : Hid (Below w.heap.size w w1) := Lib.hid (btr Bel.out b1)
          have Own1 := Lib.hid (Own'.out.up b1)
          have c1 := (Bel1.out.cell (p := ⟨b, off + k, none⟩) hb).trans C0.out
          clear b1
          go_wp2_with fail
          go_roundw
          case rel => exact ⟨k + 1, A', m, c', by omega, by omega, by go_num, rfl, by rw [ptsL_no Hm.out]; exact Own1.out, Bel1.out⟩
          case measure => simp [intOf]; omega
        · have hd : (y != (k : Int)) = true := by rw [← ey]; exact hmv
          have hd2 : (y == (k : Int)) = false := by simpa using hd
          have Hm := Lib.hid hmv
          clear hmv ey
          go_wp2_with fail
          refine (quiet_below (specIsP _ c n p wr ((HP.out.below Bel.out (Nat.le_refl _)).more Bel.out.size) lp hn hc)).mono ?_
          rintro e w1 ⟨rfl, b1⟩
          have Bel1 : Hid (Below w.heap.size w w1) := Lib.hid (btr Bel.out b1)
          have Own1 := Lib.hid (Own'.out.up b1)
          have c1 := (Bel1.out.cell (p := ⟨b, off + k, none⟩) hb).trans C0.out
          clear b1
          go_wp2_with (first | (at_builtin; refine wpList_app1 rfl _ _ rfl w.heap.size A' m c' _ rfl (Own1.out.alloc _) w1.heap.size k rfl (by rw [World.cell?_alloc_at _ _ _ _ rfl]; rfl) (by omega) (by have := Bel1.out.size; simp; omega) ?_; intro A2 c2' w2 own2 hg2))
          have Own2 := Lib.hid own2
          have Bel2 : Hid (Below w.heap.size w w2) := Lib.hid ((Bel1.out.alloc Bel1.out.size _).grown hg2 (by have := Bel1.out.size; simp; omega) (fun j hj => (Own1.out.lt_ j hj).1))
          clear own2 hg2
          go_wp2
          go_roundw
          case rel => exact ⟨k + 1, A2, m + 1, c2', by omega, by omega, by go_num, rfl, by rw [ptsL_yes Hm.out]; exact Own2.out, Bel2.out⟩
          case measure => simp [intOf]; omega
      · have hkn : k = n := by omega
        subst hkn
        go_wp2
        go_ret
        exact ⟨_, _, _, rfl, by rw [Fin.out]; exact Own'.out, by omega, Bel.out⟩
end Go.Proofs.Ytopaeojcpidfgaa
