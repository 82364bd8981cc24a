/- Cycles, point by point: cycleFrom and startsCycle of the program, cycleOf and isSmallest of the model. Condition: the list is a permutation. -/
import Derived.Test.YtonanelghnjhpabSS
import Derived.Test.YtonanelghnjhpabSupp
import Derived.Deep.LoopGhost
namespace Go.Proofs.Ytonanelghnjhpab
open Go.RowKit

def lenV : Value → Nat | .slice _ n _ => n | _ => 0
/-- The first k points from x on. -/
def cycTo (p : List Int) (x k : Nat) : List Int := (List.range k).map fun j => (it p j x : Int)
theorem cycTo_succ (p : List Int) (x k : Nat) : cycTo p x (k + 1) = cycTo p x k ++ [(it p k x : Int)] := by simp [cycTo, List.range_succ]
theorem cycTo_one (p : List Int) (x : Nat) : cycTo p x 1 = [(x : Int)] := rfl
theorem cyc_eq (p : List Int) (x : Nat) : cyc p x = cycTo p x (per p x) := rfl
theorem cyc_getD {p : List Int} {x j : Nat} (h : j < per p x) : (cyc p x).getD j 0 = (it p j x : Int) := by
  rw [List.getD_eq_getElem?_getD, List.getElem?_eq_getElem (by rw [cyc_length]; exact h)]; simp [cyc]

set_option maxHeartbeats 400000 in
/-- cycleFrom. -/
theorem implCycleFrom (A : Option Addr) (c n x : Nat) (p : List Int) (w : World) (hp : RI w w.heap.size A p) (lp : Hid (p.length = n)) (ip : Hid (IsP p)) (hx : x < n) (hn : n ≤ 20) :
    Calls Try.prog 38 #[.slice A n c, .int .i64 x] w fun e w' => ∃ A' m c', e = .returned (.slice A' m c') ∧ Slc w' w.heap.size A' m c' (cyc p x) ∧ m ≤ 20 ∧ Below w.heap.size w w' := by
  obtain ⟨b, off, rfl, hb, hc⟩ := hp (by rw [lp.out]; omega)
  have C : Hid (∀ j, j < n → w.cell? ⟨b, off + j, none⟩ = some (.int .i64 (nx p j : Int))) := Lib.hid fun j hj => by rw [← nx_val ip.out (by rw [lp.out]; exact hj)]; exact hc j (by rw [lp.out]; exact hj)
  have PS := Lib.hid (per_spec ip.out (x := x) (by rw [lp.out]; exact hx))
  have hper : per p x ≤ n := by rw [← lp.out]; exact PS.out.2.1
  clear hc
  have c0 := C.out x hx
  rw [World.cell?_alloc_lt w (.cells #[.int .i64 x] 2) ⟨b, off + x, none⟩ hb |>.symm] at c0
  go_enter Try.func38, Try.ntmps38
  go_wp2
  go_loopw [5, 6] (fun v y wr => ∃ k A' c', 1 ≤ k ∧ k ≤ per p x ∧ v = .slice A' k c' ∧ y = .int .i64 (it p k x : Nat) ∧ Slc wr w.heap.size A' k c' (cycTo p x k) ∧ Below w.heap.size w wr) (fun v _ _ => per p x - lenV v)
  case atStart => exact ⟨1, _, _, Nat.le_refl _, PS.out.1, rfl, rfl, Slc.lit1 w _ x (Nat.le_refl _), (Below.refl _ _).alloc (Nat.le_refl _) _⟩
  case round =>
    clear c0
    obtain ⟨k, A', c', hk1, hk, rfl, rfl, own, bel⟩ := hrel
    have Own' := Lib.hid own
    have Bel := Lib.hid bel
    clear own bel
    by_cases hlt : k < per p x
    · have hne := PS.out.2.2.2 k hk1 hlt
      obtain ⟨y, ey⟩ : ∃ y, it p k x = y := ⟨_, rfl⟩
      have hy : y < n := by rw [← ey, ← lp.out]; exact it_lt ip.out (by rw [lp.out]; exact hx) k
      rw [ey] at hne ⊢
      have Ey := Lib.hid ey
      have hd : ((y : Int) != (x : Int)) = true := by rw [bne_iff_ne]; omega
      have hd' : ((y : Int) == (x : Int)) = false := by rw [beq_eq_false_iff_ne]; omega
      clear ey hne
      go_wp2_with (first | (at_builtin; refine wpList_app1 rfl _ _ rfl w.heap.size A' k c' _ rfl (Own'.out.alloc _) wr.heap.size y rfl (by rw [World.cell?_alloc_at _ _ _ _ rfl]; rfl) (by omega) (by have := Bel.out.size; simp; omega) ?_; intro A1 c1' w1 own1 hg1; have Own1 := Lib.hid own1; have Bel1 : Hid (Below w.heap.size w w1) := Lib.hid ((Bel.out.alloc Bel.out.size _).grown hg1 (by have := Bel.out.size; simp; omega) (fun j hj => (Own'.out.lt_ j hj).1)); clear own1 hg1; have c1 := (Bel1.out.cell (p := ⟨b, off + y, none⟩) hb).trans (C.out y hy)))
      go_roundw
      case rel => exact ⟨k + 1, A1, c1', by omega, by omega, rfl, by show Value.int .i64 (nx p y : Int) = .int .i64 ((nx p (it p k x) : Nat) : Int); rw [Ey.out], by rw [cycTo_succ, Ey.out]; exact Own1.out, Bel1.out⟩
      case measure => simp [lenV]; omega
    · have hkn : k = per p x := by omega
      have hx' := PS.out.2.2.1
      subst hkn
      rw [hx']
      have hd : ((x : Int) != (x : Int)) = false := by simp
      clear hx'
      go_wp2
      go_ret
      exact ⟨_, _, _, rfl, by rw [cyc_eq]; exact Own'.out, by omega, Bel.out⟩
set_option maxHeartbeats 400000 in
/-- cycleOf. -/
theorem specCycleOf (A : Option Addr) (c n x : Nat) (p : List Int) (w : World) (hp : RI w w.heap.size A p) (lp : Hid (p.length = n)) (ip : Hid (IsP p)) (hx : x < n) (hn : n ≤ 20) :
    Calls Try.prog 23 #[.slice A n c, .int .i64 x] w fun e w' => ∃ A' m c', e = .returned (.slice A' m c') ∧ Slc w' w.heap.size A' m c' (cyc p x) ∧ m ≤ 20 ∧ Below w.heap.size w w' := by
  obtain ⟨b, off, rfl, hb, hc⟩ := hp (by rw [lp.out]; omega)
  have C : Hid (∀ j, j < n → w.cell? ⟨b, off + j, none⟩ = some (.int .i64 (nx p j : Int))) := Lib.hid fun j hj => by rw [← nx_val ip.out (by rw [lp.out]; exact hj)]; exact hc j (by rw [lp.out]; exact hj)
  have PS := Lib.hid (per_spec ip.out (x := x) (by rw [lp.out]; exact hx))
  have hper : per p x ≤ n := by rw [← lp.out]; exact PS.out.2.1
  clear hc
  have c0 := C.out x hx
  rw [World.cell?_alloc_lt w (.cells #[.int .i64 x] 2) ⟨b, off + x, none⟩ hb |>.symm] at c0
  go_enter Try.func23, Try.ntmps23
  go_wp2
  go_loopw [5, 6] (fun v y wr => ∃ k A' c', 1 ≤ k ∧ k ≤ per p x ∧ v = .slice A' k c' ∧ y = .int .i64 (it p k x : Nat) ∧ Slc wr w.heap.size A' k c' (cycTo p x k) ∧ Below w.heap.size w wr) (fun v _ _ => per p x - lenV v)
  case atStart => exact ⟨1, _, _, Nat.le_refl _, PS.out.1, rfl, rfl, Slc.lit1 w _ x (Nat.le_refl _), (Below.refl _ _).alloc (Nat.le_refl _) _⟩
  case round =>
    clear c0
    obtain ⟨k, A', c', hk1, hk, rfl, rfl, own, bel⟩ := hrel
    have Own' := Lib.hid own
    have Bel := Lib.hid bel
    clear own bel
    by_cases hlt : k < per p x
    · have hne := PS.out.2.2.2 k hk1 hlt
      obtain ⟨y, ey⟩ : ∃ y, it p k x = y := ⟨_, rfl⟩
      have hy : y < n := by rw [← ey, ← lp.out]; exact it_lt ip.out (by rw [lp.out]; exact hx) k
      rw [ey] at hne ⊢
      have Ey := Lib.hid ey
      have hd : ((y : Int) != (x : Int)) = true := by rw [bne_iff_ne]; omega
      have hd' : ((y : Int) == (x : Int)) = false := by rw [beq_eq_false_iff_ne]; omega
      clear ey hne
      go_wp2_with (first | (at_builtin; refine wpList_app1 rfl _ _ rfl w.heap.size A' k c' _ rfl (Own'.out.alloc _) wr.heap.size y rfl (by rw [World.cell?_alloc_at _ _ _ _ rfl]; rfl) (by omega) (by have := Bel.out.size; simp; omega) ?_; intro A1 c1' w1 own1 hg1; have Own1 := Lib.hid own1; have Bel1 : Hid (Below w.heap.size w w1) := Lib.hid ((Bel.out.alloc Bel.out.size _).grown hg1 (by have := Bel.out.size; simp; omega) (fun j hj => (Own'.out.lt_ j hj).1)); clear own1 hg1; have c1 := (Bel1.out.cell (p := ⟨b, off + y, none⟩) hb).trans (C.out y hy)))
      go_roundw
      case rel => exact ⟨k + 1, A1, c1', by omega, by omega, rfl, by show Value.int .i64 (nx p y : Int) = .int .i64 ((nx p (it p k x) : Nat) : Int); rw [Ey.out], by rw [cycTo_succ, Ey.out]; exact Own1.out, Bel1.out⟩
      case measure => simp [lenV]; omega
    · have hkn : k = per p x := by omega
      have hx' := PS.out.2.2.1
      subst hkn
      rw [hx']
      have hd : ((x : Int) != (x : Int)) = false := by simp
      clear hx'
      go_wp2
      go_ret
      exact ⟨_, _, _, rfl, by rw [cyc_eq]; exact Own'.out, by omega, Bel.out⟩

theorem st_true {p : List Int} {x : Nat} (h : ∀ j, j < per p x → x ≤ it p j x) : st p x = true := by
  unfold st; rw [List.all_eq_true]; intro j hj; rw [decide_eq_true_eq]; exact h j (List.mem_range.1 hj)
theorem st_false {p : List Int} {x j : Nat} (hj : j < per p x) (h : it p j x < x) : st p x = false := by
  unfold st; rw [List.all_eq_false]; exact ⟨j, List.mem_range.2 hj, by simp; omega⟩

set_option maxHeartbeats 400000 in
/-- startsCycle. -/
theorem implStarts (A : Option Addr) (c n x : Nat) (p : List Int) (w : World) (B : Nat) (hp : RI w B A p) (lp : Hid (p.length = n)) (ip : Hid (IsP p)) (hx : x < n) (hn : n ≤ 20) (ans : Bool) (ha : Hid (st p x = ans)) :
    Calls Try.prog 37 #[.slice A n c, .int .i64 x] w fun e w' => e = .returned (.bool ans) ∧ w = w' := by
  obtain ⟨b, off, rfl, hb, hc⟩ := hp (by rw [lp.out]; omega)
  have C : Hid (∀ j, j < n → w.cell? ⟨b, off + j, none⟩ = some (.int .i64 (nx p j : Int))) := Lib.hid fun j hj => by rw [← nx_val ip.out (by rw [lp.out]; exact hj)]; exact hc j (by rw [lp.out]; exact hj)
  have PS := Lib.hid (per_spec ip.out (x := x) (by rw [lp.out]; exact hx))
  have hper : per p x ≤ n := by rw [← lp.out]; exact PS.out.2.1
  clear hc
  have c0 := C.out x hx
  go_enter Try.func37, Try.ntmps37
  go_wp2
  go_loopg [5] (per p x) (fun g y wr => ∃ k, 1 ≤ k ∧ k + g = per p x + 1 ∧ 1 ≤ g ∧ y = .int .i64 (it p k x : Nat) ∧ (∀ j, 1 ≤ j → j < k → x < it p j x) ∧ w = wr)
  case atStart => exact ⟨1, Nat.le_refl _, by omega, PS.out.1, rfl, fun j h1 h2 => absurd h2 (by omega), rfl⟩
  case round =>
    clear c0
    obtain ⟨k, hk1, hkg, hg1, rfl, hall, rfl⟩ := hrel
    have Hall := Lib.hid hall
    have Hkg := Lib.hid hkg
    have hkle : k ≤ per p x := by omega
    clear hall hkg
    obtain ⟨y, ey⟩ : ∃ y, it p k x = y := ⟨_, rfl⟩
    have hy : y < n := by rw [← ey, ← lp.out]; exact it_lt ip.out (by rw [lp.out]; exact hx) k
    rw [ey]
    have Ey := Lib.hid ey
    clear ey
    by_cases hgt : x < y
    · have hd : decide ((x : Int) < (y : Int)) = true := by simpa using hgt
      have c1 := C.out y hy
      have hlt : k < per p x := by
        have h1 := PS.out.2.2.1
        have h2 := Ey.out
        rcases Nat.lt_or_ge k (per p x) with h | h
        · exact h
        · have : k = per p x := by omega
          rw [this, h1] at h2; omega
      go_wp2
      go_roundg (gk - 1)
      case measure => omega
      case rel =>
        have := Hkg.out
        exact ⟨k + 1, by omega, by omega, by omega, by show Value.int .i64 (nx p y : Int) = .int .i64 ((nx p (it p k x) : Nat) : Int); rw [Ey.out], fun j h1 h2 => by
          by_cases e : j = k
          · subst e; rw [Ey.out]; exact hgt
          · exact Hall.out j h1 (by omega), rfl⟩
    · have hd : decide ((x : Int) < (y : Int)) = false := by simp; omega
      have Fin : Hid (((y : Int) == (x : Int)) = ans) := by
        apply Lib.hid
        rw [← ha.out]
        by_cases e : y = x
        · have hkp : k = per p x := by
            rcases Nat.lt_or_ge k (per p x) with h | h
            · exact absurd (Ey.out.trans e) (PS.out.2.2.2 k hk1 h)
            · omega
          rw [st_true (fun j hj => by
            by_cases h0 : j = 0
            · subst h0; exact Nat.le_refl _
            · exact Nat.le_of_lt (Hall.out j (by omega) (by omega)))]
          rw [beq_iff_eq]; omega
        · have hlt : k < per p x := by
            rcases Nat.lt_or_ge k (per p x) with h | h
            · exact h
            · have h3 : k = per p x := by omega
              have h2 := Ey.out
              rw [h3, PS.out.2.2.1] at h2; omega
          rw [st_false hlt (by rw [Ey.out]; omega)]
          rw [beq_eq_false_iff_ne]; omega
      go_wp2
      go_ret
      exact ⟨ret_bool Fin.out, rfl⟩


set_option maxHeartbeats 400000 in
/-- pointsWhere at a method value: the smallest points of the cycles. -/
theorem pwStarts (A : Option Addr) (c n : Nat) (p : List Int) (w : World) (hp : RI w w.heap.size A p) (lp : Hid (p.length = n)) (ip : Hid (IsP p)) (hn : n ≤ 20) :
    Calls Try.prog 36 #[.int .i64 n, .func (.func 37) #[.slice A n c] #[]] w fun e w' => ∃ A' n' c', e = .returned (.slice A' n' c') ∧ Slc w' w.heap.size A' n' c' (ptsL (st p) n) ∧ n' ≤ n ∧ Below w.heap.size w w' := by
  go_enter Try.func36, Try.ntmps36
  go_wp2
  go_loopw [5, 6, 8] (fun v _ i wr => ∃ k A' m c', k ≤ n ∧ m ≤ k ∧ i = .int .i64 (k : Nat) ∧ v = .slice A' m c' ∧ Slc wr w.heap.size A' m c' (ptsL (st p) k) ∧ Below w.heap.size w wr) (fun _ _ i _ => n - (intOf i).toNat)
  case atStart => exact ⟨0, _, _, _, Nat.zero_le _, Nat.le_refl _, rfl, rfl, Slc.nil_, Below.refl _ _⟩
  case round =>
    obtain ⟨k, A', m, c', hk, hmk, rfl, rfl, own, bel⟩ := hrel
    have Own' := Lib.hid own
    have Bel := Lib.hid bel
    clear own bel
    by_cases hlt : k < n
    · rcases hmv : st p k with _ | _
      · have Hm := Lib.hid hmv
        clear hmv
        go_wp2_with fail
        refine (implStarts A c n k p wr _ (hp.below Bel.out (Nat.le_refl _)) lp ip hlt hn false Hm).mono ?_
        rintro e w1 ⟨rfl, rfl⟩
        go_wp2_with fail
        go_roundw
        case rel => exact ⟨k + 1, A', m, c', by omega, by omega, by go_num, rfl, by rw [ptsL_no Hm.out]; exact Own'.out, Bel.out⟩
        case measure => simp [intOf]; omega
      · have Hm := Lib.hid hmv
        clear hmv
        go_wp2_with fail
        refine (implStarts A c n k p wr _ (hp.below Bel.out (Nat.le_refl _)) lp ip hlt hn true Hm).mono ?_
        rintro e w1 ⟨rfl, rfl⟩
        go_wp2_with (first | (at_builtin; refine wpList_app1 rfl _ _ rfl w.heap.size A' m c' _ rfl (Own'.out.alloc _) wr.heap.size k rfl (by rw [World.cell?_alloc_at _ _ _ _ rfl]; rfl) (by omega) (by have := Bel.out.size; simp; omega) ?_; intro A1 c1' w1 own1 hg1))
        have Own1 := Lib.hid own1
        have Bel1 : Hid (Below w.heap.size w w1) := Lib.hid ((Bel.out.alloc Bel.out.size _).grown hg1 (by have := Bel.out.size; simp; omega) (fun j hj => (Own'.out.lt_ j hj).1))
        clear own1 hg1
        go_wp2
        go_roundw
        case rel => exact ⟨k + 1, A1, m + 1, c1', by omega, by omega, by go_num, rfl, by rw [ptsL_yes Hm.out]; exact Own1.out, Bel1.out⟩
        case measure => simp [intOf]; omega
    · have hkn : k = n := by omega
      subst hkn
      go_wp2
      go_ret
      exact ⟨_, _, _, rfl, Own'.out, hmk, Bel.out⟩

end Go.Proofs.Ytonanelghnjhpab
