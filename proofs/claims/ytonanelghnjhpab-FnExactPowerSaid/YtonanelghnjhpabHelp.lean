/- The helpers of the laws: copy, comparison, marking. No condition but lengths. -/
import Derived.Test.YtonanelghnjhpabBase
import Derived.Test.YtonanelghnjhpabProg
import Derived.Deep.QuietTactic
import Derived.BigQuiet
import Derived.WalkSpells
namespace Go.Proofs.Ytonanelghnjhpab
open Go.RowKit

set_option maxHeartbeats 400000 in
theorem eqS_core (A B : Option Addr) (c d n : Nat) (xs ys : List Int) (w : World) (hx : RI w w.heap.size A xs) (hy : RI w w.heap.size B ys) (lx : Hid (xs.length = n)) (ly : Hid (ys.length = n)) (hn : n ≤ 2097152) :
    Calls Try.prog 8 #[.slice A n c, .slice B n d] w fun e w' => e = .returned (.bool (decide (xs = ys))) ∧ ∃ m, w' = w.drewN m := by
  go_enter Try.func8, Try.ntmps8
  go_wp2
  go_loopw [5] (fun i wr => ∃ k : Nat, k ≤ n ∧ i = .int .i64 k ∧ (∀ j, j < k → xs.getD j 0 = ys.getD j 0) ∧ ∃ m, wr = w.drewN m) (fun i _ => n - (intOf i).toNat)
  case atStart => exact ⟨0, Nat.zero_le _, rfl, fun j h => absurd h (by omega), 0, rfl⟩
  case round =>
    obtain ⟨k, hk, rfl, heq, m, rfl⟩ := hrel
    have Heq := Lib.hid heq
    clear heq
    by_cases hlt : k < n
    · obtain ⟨b, off, rfl, hb, hc⟩ := hx (by rw [lx.out]; omega)
      obtain ⟨b', off', rfl, hb', hc'⟩ := hy (by rw [ly.out]; omega)
      have c1 := hc k (by rw [lx.out]; omega)
      have c2 := hc' k (by rw [ly.out]; omega)
      obtain ⟨x, ex⟩ : ∃ x, xs.getD k 0 = x := ⟨_, rfl⟩
      obtain ⟨y, ey⟩ : ∃ y, ys.getD k 0 = y := ⟨_, rfl⟩
      rw [ex] at c1
      rw [ey] at c2
      have Ex := Lib.hid ex
      have Ey := Lib.hid ey
      clear ex ey hc hc' hx hy
      have p1 : (0 : Int) ≤ k := by omega
      have p2 : (k : Int) < n := by omega
      by_cases hxy : x = y
      · subst hxy
        go_wp2
        go_quiet (fail)
        go_wp2
        go_roundw
        case rel => exact ⟨k + 1, by omega, by go_num, fun j hj => by
          by_cases e : j = k
          · subst e; rw [Ex.out, Ey.out]
          · exact Heq.out j (by omega), _, rfl⟩
        case measure => simp [intOf]; omega
      · have hd : (x != y) = true := by simpa using hxy
        have hd' : (x == y) = false := by simpa using hxy
        go_wp2
        go_quiet (fail)
        go_wp2
        go_ret
        refine ⟨ret_bool (Eq.symm (decide_eq_false fun e => hxy ?_)), _, World.drewN_drewN _ _ _⟩
        rw [← Ex.out, ← Ey.out, e]
    · go_wp2
      go_ret
      have : k = n := by omega
      subst this
      exact ⟨ret_bool (Eq.symm (decide_eq_true (ext_getD lx.out ly.out Heq.out))), _, rfl⟩

/-- eqInt64S compares two lists. -/
theorem eqS_any (A B : Option Addr) (c d n m : Nat) (xs ys : List Int) (w : World) (hx : RI w w.heap.size A xs) (hy : RI w w.heap.size B ys) (lx : Hid (xs.length = n)) (ly : Hid (ys.length = m)) (hn : n ≤ 2097152) (hm : m ≤ 2097152) :
    Calls Try.prog 8 #[.slice A n c, .slice B m d] w fun e w' => e = .returned (.bool (decide (xs = ys))) ∧ ∃ m, w' = w.drewN m := by
  by_cases hl : n = m
  · subst hl
    exact eqS_core A B c d n xs ys w hx hy lx ly hn
  · have hd : ((n : Int) != (m : Int)) = true := by rw [bne_iff_ne]; omega
    have hd' : ((n : Int) == (m : Int)) = false := by rw [beq_eq_false_iff_ne]; omega
    go_enter Try.func8, Try.ntmps8
    go_wp2
    go_ret
    refine ⟨ret_bool (Eq.symm (decide_eq_false fun e => hl ?_)), 0, rfl⟩
    rw [← lx.out, ← ly.out, e]
set_option maxHeartbeats 400000 in
theorem likeI_core (A B : Option Addr) (c d n : Nat) (xs ys : List Int) (w : World) (hx : RI w w.heap.size A xs) (hy : RI w w.heap.size B ys) (lx : Hid (xs.length = n)) (ly : Hid (ys.length = n)) (hn : n ≤ 2097152) :
    Calls Try.prog 17 #[.slice A n c, .slice B n d] w fun e w' => e = .returned (.bool (decide (xs = ys))) ∧ ∃ m, w' = w.drewN m := by
  go_enter Try.func17, Try.ntmps17
  go_wp2
  go_loopw [5] (fun i wr => ∃ k : Nat, k ≤ n ∧ i = .int .i64 k ∧ (∀ j, j < k → xs.getD j 0 = ys.getD j 0) ∧ ∃ m, wr = w.drewN m) (fun i _ => n - (intOf i).toNat)
  case atStart => exact ⟨0, Nat.zero_le _, rfl, fun j h => absurd h (by omega), 0, rfl⟩
  case round =>
    obtain ⟨k, hk, rfl, heq, m, rfl⟩ := hrel
    have Heq := Lib.hid heq
    clear heq
    by_cases hlt : k < n
    · obtain ⟨b, off, rfl, hb, hc⟩ := hx (by rw [lx.out]; omega)
      obtain ⟨b', off', rfl, hb', hc'⟩ := hy (by rw [ly.out]; omega)
      have c1 := hc k (by rw [lx.out]; omega)
      have c2 := hc' k (by rw [ly.out]; omega)
      obtain ⟨x, ex⟩ : ∃ x, xs.getD k 0 = x := ⟨_, rfl⟩
      obtain ⟨y, ey⟩ : ∃ y, ys.getD k 0 = y := ⟨_, rfl⟩
      rw [ex] at c1
      rw [ey] at c2
      have Ex := Lib.hid ex
      have Ey := Lib.hid ey
      clear ex ey hc hc' hx hy
      have p1 : (0 : Int) ≤ k := by omega
      have p2 : (k : Int) < n := by omega
      by_cases hxy : x = y
      · subst hxy
        go_wp2
        go_quiet (fail)
        go_wp2
        go_roundw
        case rel => exact ⟨k + 1, by omega, by go_num, fun j hj => by
          by_cases e : j = k
          · subst e; rw [Ex.out, Ey.out]
          · exact Heq.out j (by omega), _, rfl⟩
        case measure => simp [intOf]; omega
      · have hd : (x != y) = true := by simpa using hxy
        have hd' : (x == y) = false := by simpa using hxy
        go_wp2
        go_quiet (fail)
        go_wp2
        go_ret
        refine ⟨ret_bool (Eq.symm (decide_eq_false fun e => hxy ?_)), _, World.drewN_drewN _ _ _⟩
        rw [← Ex.out, ← Ey.out, e]
    · go_wp2
      go_ret
      have : k = n := by omega
      subst this
      exact ⟨ret_bool (Eq.symm (decide_eq_true (ext_getD lx.out ly.out Heq.out))), _, rfl⟩

/-- likeInts compares two lists. -/
theorem likeI_any (A B : Option Addr) (c d n m : Nat) (xs ys : List Int) (w : World) (hx : RI w w.heap.size A xs) (hy : RI w w.heap.size B ys) (lx : Hid (xs.length = n)) (ly : Hid (ys.length = m)) (hn : n ≤ 2097152) (hm : m ≤ 2097152) :
    Calls Try.prog 17 #[.slice A n c, .slice B m d] w fun e w' => e = .returned (.bool (decide (xs = ys))) ∧ ∃ m, w' = w.drewN m := by
  by_cases hl : n = m
  · subst hl
    exact likeI_core A B c d n xs ys w hx hy lx ly hn
  · have hd : ((n : Int) != (m : Int)) = true := by rw [bne_iff_ne]; omega
    have hd' : ((n : Int) == (m : Int)) = false := by rw [beq_eq_false_iff_ne]; omega
    go_enter Try.func17, Try.ntmps17
    go_wp2
    go_ret
    refine ⟨ret_bool (Eq.symm (decide_eq_false fun e => hl ?_)), 0, rfl⟩
    rw [← lx.out, ← ly.out, e]

set_option maxHeartbeats 400000 in
/-- toInt64S copies a slice. -/
theorem toS_any (A : Option Addr) (c n : Nat) (xs : List Int) (w : World) (hx : RI w w.heap.size A xs) (lx : Hid (xs.length = n)) (hn : n ≤ 2097152) :
    Calls Try.prog 6 #[.slice A n c] w fun e w' => ∃ A' c', e = .returned (.slice A' n c') ∧ Slc w' w.heap.size A' n c' xs ∧ Below w.heap.size w w' := by
  obtain ⟨i0, hi, hz0, hz1, hz2⟩ := info_parts infoI
  go_enter Try.func6, Try.ntmps6
  go_wp2_with (first | (at_make; refine wpList_make_full _ rfl _ _ 22 rfl w.heap.size 2 i0 (.int .i64 0) 1 Try.underlying22 hi hz0 hz1 .i64 .i64 _ _ n rfl rfl rfl rfl (by rw [hz2]; omega) (by unfold maxLen; omega) (Nat.le_refl _) ?_; intro w1 hown1 hgrow1))
  have row1 := Row.made hown1
  have bel1 : Below w.heap.size w w1 := (Below.refl _ _).grown hgrow1 (Nat.le_refl _) (fun k e => nomatch e)
  clear hown1 hgrow1
  go_loopw [4] (fun i wr => ∃ k ys, k ≤ n ∧ i = .int .i64 (k : Nat) ∧ Row wr w.heap.size w.heap.size n n ys ∧ (∀ j, j < k → ys.getD j 0 = xs.getD j 0) ∧ Below w.heap.size w wr) (fun i _ => n - (intOf i).toNat)
  case atStart => exact ⟨0, _, Nat.zero_le _, rfl, row1, fun j h => absurd h (by omega), bel1⟩
  case round =>
    clear row1 bel1
    obtain ⟨k, ys, hk, rfl, row, heq, bel⟩ := hrel
    have Heq := Lib.hid heq
    clear heq
    by_cases hlt : k < n
    · obtain ⟨b, off, rfl, hb, hc⟩ := hx (by rw [lx.out]; omega)
      have c1 := (bel.cell (p := ⟨b, off + k, none⟩) hb).trans (hc k (by rw [lx.out]; omega))
      have c2 := row.cell hlt
      have f2 := row.free k
      obtain ⟨x, ex⟩ : ∃ x, xs.getD k 0 = x := ⟨_, rfl⟩
      rw [ex] at c1
      have Ex := Lib.hid ex
      clear ex hc hx
      have row2 := row.store k x
      have bel2 := bel.setCell (p := ⟨w.heap.size, k, none⟩) (Nat.le_refl _) (.int .i64 x)
      have Row2 := Lib.hid row2
      have Bel2 := Lib.hid bel2
      have hyl : Hid (ys.length = n) := Lib.hid row.1
      clear row2 bel2 row bel
      go_wp2
      go_roundw
      case rel =>
        refine ⟨k + 1, _, by omega, by go_num, Row2.out, fun j hj => ?_, Bel2.out⟩
        rw [set_getD hyl.out (by omega)]
        by_cases e : k = j
        · subst e; rw [if_pos rfl, Ex.out]
        · rw [if_neg e]; exact Heq.out j (by omega)
      case measure => simp [intOf]; omega
    · have hkn : k = n := by omega
      subst hkn
      obtain rfl : ys = xs := ext_getD row.1 lx.out Heq.out
      have Ro := Lib.hid row
      have Be := Lib.hid bel
      clear row bel
      go_wp2
      go_ret
      exact ⟨_, _, rfl, Ro.out.slc, Be.out⟩

set_option maxHeartbeats 400000 in
theorem markS_row (base g n c k0 : Nat) (xs : List Int) (w : World) (hr : Row w base g n c xs) (hn : n ≤ 2097152) (hk0 : k0 ≤ 1000000000000) :
    Calls Try.prog 9 #[.slice (some ⟨g, 0, none⟩) n c, .int .i64 k0] w fun e w' => e = .returned (.int .i64 ((k0 + n : Nat) : Int)) ∧ Row w' base g n c (marks k0 n) ∧ w.grownBy w' (some g) := by
  go_enter Try.func9, Try.ntmps9
  go_wp2
  go_loopw [1, 5] (fun v i wr => ∃ k ys, k ≤ n ∧ i = .int .i64 (k : Nat) ∧ v = .int .i64 ((k0 + k : Nat) : Int) ∧ Row wr base g n c ys ∧ (∀ j, j < k → ys.getD j 0 = ((k0 + j : Nat) : Int)) ∧ w.grownBy wr (some g)) (fun _ i _ => n - (intOf i).toNat)
  case atStart => exact ⟨0, _, Nat.zero_le _, rfl, rfl, hr, fun j h => absurd h (by omega), grown_refl _ _⟩
  case round =>
    clear hr
    obtain ⟨k, ys, hk, rfl, rfl, row, heq, gro⟩ := hrel
    have Heq := Lib.hid heq
    clear heq
    by_cases hlt : k < n
    · have c2 := row.cell hlt
      have f2 := row.free k
      have row2 := row.store k ((k0 + k : Nat) : Int)
      have gro2 := grown_set gro k (.int .i64 ((k0 + k : Nat) : Int))
      have Row2 := Lib.hid row2
      have Gro2 := Lib.hid gro2
      have hyl : Hid (ys.length = n) := Lib.hid row.1
      clear row2 gro2 row gro
      go_wp2
      go_roundw
      case rel =>
        refine ⟨k + 1, _, by omega, by go_num, by go_num, Row2.out, fun j hj => ?_, Gro2.out⟩
        rw [set_getD hyl.out (by omega)]
        by_cases e : k = j
        · subst e; rw [if_pos rfl]
        · rw [if_neg e]; exact Heq.out j (by omega)
      case measure => simp [intOf]; omega
    · have hkn : k = n := by omega
      subst hkn
      have Em : Hid (ys = marks k0 k) := Lib.hid (ext_getD row.1 (marks_length k0 k) fun j hj => by rw [Heq.out j hj, marks_getD hj])
      have Ro := Lib.hid row
      have Gr := Lib.hid gro
      clear row gro
      go_wp2
      go_ret
      exact ⟨rfl, by rw [← Em.out]; exact Ro.out, Gr.out⟩

theorem markS_nil (k0 : Nat) (w : World) : Calls Try.prog 9 #[.slice none 0 0, .int .i64 k0] w fun e w' => e = .returned (.int .i64 k0) ∧ w = w' := by
  go_enter Try.func9, Try.ntmps9
  go_wp2
  refine wp_loop_rounds 1 ?_
  rw [rounds_succ]
  go_wp2
  go_ret
  exact ⟨rfl, rfl⟩

/-- markInt64S fills a slice of the call's own with k0, k0 + 1 and so on. -/
theorem markS_any (base k0 : Nat) (A : Option Addr) (n c : Nat) (xs : List Int) (w : World) (hr : Slc w base A n c xs) (hn : n ≤ 2097152) (hk0 : k0 ≤ 1000000000000) :
    Calls Try.prog 9 #[.slice A n c, .int .i64 k0] w fun e w' => e = .returned (.int .i64 ((k0 + n : Nat) : Int)) ∧ Slc w' base A n c (marks k0 n) ∧ w.grownBy w' (Value.slice A n c).ownBlock := by
  rcases hr.at_ with ⟨rfl, rfl, rfl, rfl⟩ | ⟨g, rfl, _, _⟩
  · exact (markS_nil k0 w).mono fun e w' ⟨he, hw⟩ => by subst hw; exact ⟨by simpa using he, hr, grown_refl _ _⟩
  · have row : Row w base g n c xs := by obtain ⟨rfl, h⟩ := hr; exact Row.of_own h
    exact (markS_row base g n c k0 xs w row hn hk0).mono fun e w' ⟨he, h1, h2⟩ => ⟨he, h1.slc, h2⟩

set_option maxHeartbeats 400000 in
theorem heldS_core (A : Option Addr) (c n k0 : Nat) (xs : List Int) (w : World) (hx : RI w w.heap.size A xs) (lx : Hid (xs.length = n)) (hn : n ≤ 2097152) (hk0 : k0 ≤ 1000000000000) (hm : Hid (xs = marks k0 n)) :
    Calls Try.prog 10 #[.slice A n c, .int .i64 k0] w fun e w' => e = .returned (.int .i64 ((k0 + n : Nat) : Int)) ∧ w = w' := by
  go_enter Try.func10, Try.ntmps10
  go_wp2
  go_loop [1, 5] (fun v i => ∃ k : Nat, k ≤ n ∧ i = .int .i64 (k : Nat) ∧ v = .int .i64 ((k0 + k : Nat) : Int)) (fun _ i => n - (intOf i).toNat)
  case atStart => exact ⟨0, Nat.zero_le _, rfl, rfl⟩
  case round =>
    obtain ⟨k, hk, rfl, rfl⟩ := hrel
    by_cases hlt : k < n
    · obtain ⟨b, off, rfl, hb, hc⟩ := hx (by rw [lx.out]; omega)
      have c1 := hc k (by rw [lx.out]; omega)
      rw [show xs.getD k 0 = ((k0 + k : Nat) : Int) from by rw [hm.out, marks_getD hlt]] at c1
      clear hc hx
      go_wp2
      go_round
      case rel => exact ⟨k + 1, by omega, by go_num, by go_num⟩
      case measure => simp [intOf]; omega
    · have hkn : k = n := by omega
      subst hkn
      go_wp2
      go_ret
      exact ⟨rfl, rfl⟩

theorem markK (base k0 : Nat) (K : Int) (A : Option Addr) (n c : Nat) (xs : List Int) (w : World) (hr : Slc w base A n c xs) (hn : n ≤ 2097152) (hk0 : k0 ≤ 1000000000000) (hK : K = (k0 : Int)) :
    Calls Try.prog 9 #[.slice A n c, .int .i64 K] w fun e w' => e = .returned (.int .i64 (K + (n : Int))) ∧ Slc w' base A n c (marks k0 n) ∧ w.grownBy w' (Value.slice A n c).ownBlock := by
  subst hK
  exact (markS_any base k0 A n c xs w hr hn hk0).mono fun e w' ⟨he, h1, h2⟩ => ⟨he.trans (ret_int (by omega)), h1, h2⟩
theorem heldK (k0 : Nat) (K : Int) (A : Option Addr) (n c : Nat) (xs : List Int) (w : World) (hx : RI w w.heap.size A xs) (lx : Hid (xs.length = n)) (hn : n ≤ 2097152) (hk0 : k0 ≤ 1000000000000) (hm : Hid (xs = marks k0 n)) (hK : K = (k0 : Int)) :
    Calls Try.prog 10 #[.slice A n c, .int .i64 K] w fun e w' => e = .returned (.int .i64 (K + (n : Int))) ∧ w = w' := by
  subst hK
  exact (heldS_core A c n k0 xs w hx lx hn hk0 hm).mono fun e w' ⟨he, h1⟩ => ⟨he.trans (ret_int (by omega)), h1⟩
theorem mark1 (base : Nat) (A : Option Addr) (n c : Nat) (xs : List Int) (w : World) (hr : Slc w base A n c xs) (hn : n ≤ 2097152) :
    Calls Try.prog 9 #[.slice A n c, .int .i64 1] w fun e w' => e = .returned (.int .i64 (1 + (n : Int))) ∧ Slc w' base A n c (marks 1 n) ∧ w.grownBy w' (Value.slice A n c).ownBlock :=
  (markS_any base 1 A n c xs w hr hn (by decide)).mono fun e w' ⟨he, h1, h2⟩ => ⟨he.trans (ret_int (by omega)), h1, h2⟩
theorem held1 (base : Nat) (A : Option Addr) (n c : Nat) (w : World) (hr : Slc w base A n c (marks 1 n)) (hn : n ≤ 2097152) :
    Calls Try.prog 10 #[.slice A n c, .int .i64 1] w fun e w' => e = .returned (.int .i64 (1 + (n : Int))) ∧ w = w' :=
  (heldS_core A c n 1 _ w hr.ri_ hr.hid hn (by decide) (Lib.hid rfl)).mono fun e w' ⟨he, h1⟩ => ⟨he.trans (ret_int (by omega)), h1⟩
theorem eqS_same {xs : List Int} (base base' : Nat) (A B : Option Addr) (n c m d : Nat) (w : World) (hx : Slc w base A n c xs) (hy : Slc w base' B m d xs) (hn : n ≤ 2097152) :
    Calls Try.prog 8 #[.slice A n c, .slice B m d] w fun e w' => e = .returned (.bool true) ∧ Below w.heap.size w w' :=
  (quiet_below (eqS_any A B c d n m _ _ w hx.ri_ hy.ri_ hx.hid hy.hid hn (by rw [← hy.1, hx.1]; exact hn))).mono fun e w' ⟨he, hb⟩ => ⟨he.trans (ret_bool (by simp)), hb⟩
end Go.Proofs.Ytonanelghnjhpab
