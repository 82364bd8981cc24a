/- The program's cursor over a text. Condition: the position is no further than the end. -/
import Derived.Test.YtplgdbkolklgnaaDoorTxt
import Derived.Test.YtplgdbkolklgnaaDoorBase
import Derived.WalkSpells
import Derived.Deep.RegionWith
import Derived.Lib.ConvBytes
import Derived.BigQuiet
import Derived.Deep.LoopGhost
namespace Go.Proofs.YtplgdbkolklgnaaDoor
open Go.RowKit

/-- Block g is a cursor over s at place k. -/
def Cur (w : World) (g : Nat) (s : ByteArray) (k : Nat) : Prop := k ≤ s.size ∧ Blk w g 54 #[.string s, .int .i64 k]

theorem Cur.drewN {w : World} {g k : Nat} {s : ByteArray} (h : Cur w g s k) (n : Nat) : Cur (w.drewN n) g s k := h
theorem Cur.below {w w' : World} {g k B : Nat} {s : ByteArray} (h : Cur w g s k) (hb : Below B w w') (hg : g < B) : Cur w' g s k := ⟨h.1, h.2.below hb hg⟩
theorem Cur.kept {w w' : World} {g k : Nat} {s : ByteArray} {row : Option Nat} (h : Cur w g s k) (hb : w.grownBy w' row) (hg : some g ≠ row) : Cur w' g s k := ⟨h.1, h.2.grown hb hg⟩
theorem Cur.step {w : World} {g k : Nat} {s : ByteArray} (h : Cur w g s k) (hk : k < s.size) (K : Int) (hK : K = ((k + 1 : Nat) : Int)) : Cur (w.setCell ⟨g, 1, none⟩ (.int .i64 K)) g s (k + 1) :=
  ⟨hk, by subst hK; exact h.2.set_ 1 _⟩
theorem Cur.lt {w : World} {g k : Nat} {s : ByteArray} (h : Cur w g s k) : g < w.heap.size := h.2.lt

theorem curEnd (g k : Nat) (s : ByteArray) (w : World) (h : Cur w g s k) (ans : Bool) (ha : Hid (decide (k = s.size) = ans)) :
    Calls Tryd.prog 34 #[.pointer (some ⟨g, 0, none⟩)] w fun e w' => e = .returned (.bool ans) ∧ ∃ m, w' = w.drewN m := by
  have c0 : w.cell? ⟨g, 0, none⟩ = some (.string s) := h.2.cell 0
  have c1 : w.cell? ⟨g, 1, none⟩ = some (.int .i64 k) := h.2.cell 1
  clear h
  have e2 : Hid (((k : Int) == (s.size : Int)) = ans) := Lib.hid (by
    rw [← ha.out]
    by_cases e : k = s.size
    · rw [decide_eq_true e, beq_iff_eq]; omega
    · rw [decide_eq_false e, beq_eq_false_iff_ne]; omega)
  go_enter Tryd.func34, Tryd.ntmps34
  go_wp2
  go_quiet (fail)
  go_wp2
  go_ret
  exact ⟨ret_bool e2.out, _, rfl⟩
theorem digT (b : UInt8) (w : World) (ans : Bool) (ha : Hid (isD b = ans)) :
    Calls Tryd.prog 70 #[.int .u8 (b.toNat : Int)] w fun e w' => e = .returned (.bool ans) ∧ ∃ m, w' = w.drewN m := by
  by_cases h1 : 48 ≤ b.toNat
  · have d1 : decide ((48 : Int) ≤ (b.toNat : Int)) = true := by simp; omega
    have e2 : Hid (decide ((b.toNat : Int) ≤ 57) = ans) := Lib.hid (by
      rw [← ha.out]; unfold isD
      rw [decide_eq_true h1, Bool.true_and]
      by_cases e : b.toNat ≤ 57
      · rw [decide_eq_true e, decide_eq_true (by omega)]
      · rw [decide_eq_false e, decide_eq_false (by omega)])
    go_enter Tryd.func70, Tryd.ntmps70
    go_wp2
    go_ret
    exact ⟨ret_bool e2.out, 0, rfl⟩
  · have d1 : decide ((48 : Int) ≤ (b.toNat : Int)) = false := by simp; omega
    have e2 : Hid (false = ans) := Lib.hid (by rw [← ha.out]; unfold isD; rw [decide_eq_false h1]; rfl)
    go_enter Tryd.func70, Tryd.ntmps70
    go_wp2
    go_ret
    exact ⟨ret_bool e2.out, 0, rfl⟩
/-- The symbol comes next. -/
theorem curTake (g k : Nat) (s : ByteArray) (b : UInt8) (w : World) (h : Cur w g s k) (hs : s.size ≤ 1000) (hk : k < s.size) (e : s[k] = b) :
    Calls Tryd.prog 56 #[.pointer (some ⟨g, 0, none⟩), .int .u8 (b.toNat : Int)] w fun e w' => e = .returned (.bool true) ∧ Cur w' g s (k + 1) ∧ w.grownBy w' (some g) := by
  have c0 : w.cell? ⟨g, 0, none⟩ = some (.string s) := h.2.cell 0
  have c1 : w.cell? ⟨g, 1, none⟩ = some (.int .i64 k) := h.2.cell 1
  have f1 := h.2.frozen 1
  have H := Lib.hid h
  have HC : Hid (∀ n, Cur (w.drewN n) g s k) := Lib.hid fun _ => h
  have E1 : Hid (decide (k = s.size) = false) := Lib.hid (by simp; omega)
  have k1 : (k : Int) < s.size := by omega
  have k0 : (0 : Int) ≤ k := by omega
  have t1 : (((s[k]).toNat : Int) != (b.toNat : Int)) = false := by rw [e]; simp
  have t2 : (((s[k]).toNat : Int) == (b.toNat : Int)) = true := by rw [e]; simp
  clear h e
  go_enter Tryd.func56, Tryd.ntmps56
  go_wp2
  go_quiet (exact Calls.quiet_of (curEnd g k s _ (HC.out _) false E1))
  go_wp2
  go_ret
  exact ⟨rfl, (H.out.drewN _).step hk _ (by go_num), grown_set (grown_drewN (grown_refl _ _) _) _ _⟩
/-- It does not. -/
theorem curNot (g k : Nat) (s : ByteArray) (b : UInt8) (w : World) (h : Cur w g s k) (e : ∀ hk : k < s.size, s[k] ≠ b) :
    Calls Tryd.prog 56 #[.pointer (some ⟨g, 0, none⟩), .int .u8 (b.toNat : Int)] w fun e w' => e = .returned (.bool false) ∧ ∃ m, w' = w.drewN m := by
  have c0 : w.cell? ⟨g, 0, none⟩ = some (.string s) := h.2.cell 0
  have c1 : w.cell? ⟨g, 1, none⟩ = some (.int .i64 k) := h.2.cell 1
  have H := Lib.hid h
  have HC : Hid (∀ n, Cur (w.drewN n) g s k) := Lib.hid fun _ => h
  by_cases hk : k < s.size
  · have E1 : Hid (decide (k = s.size) = false) := Lib.hid (by simp; omega)
    have k1 : (k : Int) < s.size := by omega
    have k0 : (0 : Int) ≤ k := by omega
    have hne : ((s[k]).toNat : Int) ≠ (b.toNat : Int) := fun e2 => e hk (UInt8.toNat_inj.1 (by omega))
    have t1 : (((s[k]).toNat : Int) != (b.toNat : Int)) = true := by simpa using hne
    have t2 : (((s[k]).toNat : Int) == (b.toNat : Int)) = false := by simpa using hne
    clear h e hne
    go_enter Tryd.func56, Tryd.ntmps56
    go_wp2
    go_quiet (exact Calls.quiet_of (curEnd g k s _ (HC.out _) false E1))
    go_wp2
    go_ret
    exact ⟨rfl, _, rfl⟩
  · have E1 : Hid (decide (k = s.size) = true) := Lib.hid (by have := h.1; simp; omega)
    clear h e
    go_enter Tryd.func56, Tryd.ntmps56
    go_wp2
    go_quiet (exact Calls.quiet_of (curEnd g k s _ (HC.out _) true E1))
    go_wp2
    go_ret
    exact ⟨rfl, _, rfl⟩
theorem len_toList (s : ByteArray) : s.toList.length = s.size := by rw [ByteArray.toList_eq]; exact Array.length_toList
theorem getD_toList (s : ByteArray) {j : Nat} (h : j < s.size) : s.data.toList.getD j 0 = s[j] := by
  rw [List.getD_eq_getElem?_getD, List.getElem?_eq_getElem (by have := len_toList s; rw [ByteArray.toList_eq] at this; omega)]; rfl
theorem get_toList (s : ByteArray) {j : Nat} (h : j < s.size) : s.toList[j]'(by rw [len_toList]; exact h) = s[j] := by
  simp only [ByteArray.toList_eq]; rfl
theorem empty_yes {s : ByteArray} (h : s.size = 0) : s.toList.isEmpty = true := by
  rw [List.isEmpty_iff]; exact List.eq_nil_of_length_eq_zero (by rw [len_toList]; exact h)
theorem empty_no {s : ByteArray} (h : ¬ s.size = 0) : s.toList.isEmpty = false := by
  rw [Bool.eq_false_iff]; intro e; rw [List.isEmpty_iff] at e; apply h; rw [← len_toList, e]; rfl
theorem okD_toList (s : ByteArray) : okD s.toList = (decide (1 ≤ s.size) && decide (s.size ≤ 9) && !(s.toList.head? == some 48 && decide (1 < s.size))) := by unfold okD; rw [len_toList]
theorem head_toList (s : ByteArray) (h : 0 < s.size) : s.toList.head? = some s[0] := by
  rw [List.head?_eq_getElem?, List.getElem?_eq_getElem (by rw [len_toList]; exact h), get_toList s h]
theorem take_toList (s : ByteArray) {j : Nat} (h : j < s.size) : s.toList.take (j + 1) = s.toList.take j ++ [s[j]] := by
  rw [List.take_succ_eq_append_getElem (by rw [len_toList]; exact h), get_toList s h]

set_option maxHeartbeats 1000000 in
/-- The number behind the guards. -/
theorem parseT_go (s : ByteArray) (w : World) (hs : s.size ≤ 9) (h1 : 1 ≤ s.size) (hd : Hid (s.toList.all isD = true)) (z3 : ¬ (s[0] = 48 ∧ 1 < s.size)) :
    Calls Tryd.prog 71 #[.string s] w fun e w' => e = .returned (.tuple #[.int .i64 (dval s.toList : Nat), .bool true]) ∧ Below w.heap.size w w' := by
  have z1 := empty_no (s := s) (by omega)
  have z2 : decide ((9 : Int) < s.size) = false := by simp; omega
  have z4 : 0 < s.size := by omega
  have z5 : (0 : Int) < s.size := by omega
  have hcv := Lib.run_convert_string_bytes (P := Tryd.prog) w 9 22 5 s (u := .string) Tryd.underlying9 Tryd.underlying22 Tryd.underlying5
  obtain ⟨C, eC⟩ : ∃ C, grownCap w s.size 0 5 = C := ⟨_, rfl⟩
  obtain ⟨W1, eW⟩ : ∃ W1, Lib.bytesWorld w 5 s = W1 := ⟨_, rfl⟩
  rw [eC, eW] at hcv
  have hcell : Hid (∀ j (hj : j < s.size), W1.cell? ⟨w.heap.size, j, none⟩ = some (.int .u8 (s[j]).toNat)) := Lib.hid fun j hj => by rw [← eW, Lib.bytesWorld_cell w _ s j hj, getD_toList s hj]
  have B1 : Hid (Below w.heap.size w W1) := Lib.hid (by
    rw [← eW]
    exact ⟨rfl, rfl, rfl, by rw [Lib.bytesWorld_size]; omega, fun i hi => Lib.bytesWorld_at_old w _ s i hi⟩)
  clear eC eW
  have key : (((s[0]).toNat : Int) == 48) = false ∨ ((((s[0]).toNat : Int) == 48) = true ∧ decide ((1 : Int) < s.size) = false) := by
    by_cases e : s[0] = 48
    · exact .inr ⟨by rw [e]; rfl, by simp; have : ¬ 1 < s.size := fun h => z3 ⟨e, h⟩; omega⟩
    · left
      rw [beq_eq_false_iff_ne]
      exact fun e2 => e (UInt8.toNat_inj.1 (by have : (48 : UInt8).toNat = 48 := rfl; omega))
  have Fin : Hid (s.toList.take s.size = s.toList) := Lib.hid (List.take_of_length_le (by rw [len_toList]; exact Nat.le_refl _))
  clear z3
  rcases key with hh | ⟨hh, z6⟩ <;> (
    go_enter Tryd.func71, Tryd.ntmps71
    go_wp2
    go_loopw [4, 6, 27] (fun a _ i wr => ∃ j, j ≤ s.size ∧ i = .int .i64 (j : Nat) ∧ a = .int .i64 (dval (s.toList.take j) : Nat) ∧ wr = W1) (fun _ _ i _ => s.size - (intOf i).toNat)
    case atStart => exact ⟨0, Nat.zero_le _, rfl, rfl, rfl⟩
    case round =>
      obtain ⟨j, hj, rfl, rfl, rfl⟩ := hrel
      by_cases hlt : j < s.size
      · have c1 := hcell.out j hlt
        have hdj : isD s[j] = true := by
          have := List.all_eq_true.1 hd.out (s.toList[j]'(by rw [len_toList]; exact hlt)) (List.getElem_mem _)
          rw [get_toList s hlt] at this; exact this
        have hD : dval (s.toList.take j) < 100000000 := by
          have h2 := dval_lt (s.toList.take j) (List.all_eq_true.2 fun x hx => List.all_eq_true.1 hd.out x (List.mem_of_mem_take hx))
          have h3 : (s.toList.take j).length ≤ 8 := by rw [List.length_take]; omega
          exact Nat.lt_of_lt_of_le h2 (Nat.le_trans (Nat.pow_le_pow_right (by omega) h3) (by decide))
        have Sn : Hid (dval (s.toList.take (j + 1)) = 10 * dval (s.toList.take j) + ((s[j]).toNat - 48)) := Lib.hid (by rw [take_toList s hlt, dval_snoc])
        obtain ⟨D, eD⟩ : ∃ D, dval (s.toList.take j) = D := ⟨_, rfl⟩
        obtain ⟨b, eb⟩ : ∃ b, (s[j]).toNat = b := ⟨_, rfl⟩
        rw [eb] at c1
        have hb : 48 ≤ b ∧ b ≤ 57 := by unfold isD at hdj; simp at hdj; omega
        rw [eD, eb] at Sn
        rw [eD] at hD ⊢
        obtain ⟨hb1, hb2⟩ := hb
        clear hdj eD eb
        go_wp2
        go_roundw
        case rel => exact ⟨j + 1, by omega, by go_num, by rw [Sn.out]; exact congrArg (Value.int .i64) (by omega), trivial⟩
        case measure => simp [intOf]; omega
      · obtain rfl : j = s.size := by omega
        rw [Fin.out]
        go_wp2
        go_ret2
        exact ⟨rfl, B1.out⟩)
/-- parseDigits, of digits. -/
theorem parseT (s : ByteArray) (w : World) (hs : s.size ≤ 1000) (hd : Hid (s.toList.all isD = true)) (o : Option Nat) (hp : Hid (pD s.toList = o)) :
    Calls Tryd.prog 71 #[.string s] w fun e w' => e = .returned (.tuple #[.int .i64 (o.getD 0 : Nat), .bool o.isSome]) ∧ Below w.heap.size w w' := by
  by_cases hz : s.size = 0
  · have z1 := empty_yes hz
    obtain rfl : o = none := by rw [← hp.out]; unfold pD; rw [okD_toList, hz]; rfl
    clear hp hd
    go_enter Tryd.func71, Tryd.ntmps71
    go_wp2
    go_ret2
    exact ⟨rfl, Below.refl _ _⟩
  by_cases h9 : 9 < s.size
  · have z1 := empty_no hz
    have z2 : decide ((9 : Int) < s.size) = true := by simp; omega
    obtain rfl : o = none := by rw [← hp.out]; unfold pD; rw [okD_toList, decide_eq_false (show ¬ s.size ≤ 9 by omega)]; simp
    clear hp hd
    go_enter Tryd.func71, Tryd.ntmps71
    go_wp2
    go_ret2
    exact ⟨rfl, Below.refl _ _⟩
  by_cases z3 : s[0] = 48 ∧ 1 < s.size
  · have z1 := empty_no hz
    have z2 : decide ((9 : Int) < s.size) = false := by simp; omega
    have z4 : 0 < s.size := by omega
    have z5 : (0 : Int) < s.size := by omega
    have z6 : decide ((1 : Int) < s.size) = true := by simp; omega
    have hh : (((s[0]).toNat : Int) == 48) = true := by rw [z3.1]; rfl
    obtain rfl : o = none := by rw [← hp.out]; unfold pD; rw [okD_toList, head_toList s z4, z3.1, decide_eq_true z3.2]; simp
    clear hp hd z3
    go_enter Tryd.func71, Tryd.ntmps71
    go_wp2
    go_ret2
    exact ⟨rfl, Below.refl _ _⟩
  · have z4 : 0 < s.size := by omega
    obtain rfl : o = some (dval s.toList) := by
      rw [← hp.out]; unfold pD
      rw [if_pos]
      rw [okD_toList, head_toList s z4, decide_eq_true (show 1 ≤ s.size by omega), decide_eq_true (show s.size ≤ 9 by omega)]
      by_cases e : s[0] = 48
      · rw [decide_eq_false (fun h => z3 ⟨e, h⟩)]; simp
      · have : (some s[0] == some (48 : UInt8)) = false := by simpa using e
        rw [this]; rfl
    exact parseT_go s w (by omega) z4 hd z3

/-- What is left of the text from place k on. -/
def rest (s : ByteArray) (k : Nat) : List UInt8 := s.toList.drop k
theorem rest_cons (s : ByteArray) {k : Nat} (h : k < s.size) : rest s k = s[k] :: rest s (k + 1) := by
  unfold rest; rw [List.drop_eq_getElem_cons (by rw [len_toList]; exact h), get_toList s h]
theorem rest_end (s : ByteArray) {k : Nat} (h : s.size ≤ k) : rest s k = [] := by
  unfold rest; exact List.drop_of_length_le (by rw [len_toList]; exact h)
theorem rest_head (s : ByteArray) (k : Nat) (b : UInt8) (hk : k ≤ s.size) : (rest s k).head? = some b ↔ ∃ h : k < s.size, s[k] = b := by
  by_cases h : k < s.size
  · rw [rest_cons s h]; simp [h]
  · rw [rest_end s (by omega)]; simp [h]
/-- The piece of the text from a to b. -/
theorem extract_toList (s : ByteArray) (a b : Nat) : (s.extract a b).toList = (s.toList.drop a).take (b - a) := by
  rw [ByteArray.toList_eq, ByteArray.toList_eq]
  simp [ByteArray.data_extract, List.extract_eq_take_drop]
theorem drop_take_while (s : ByteArray) (a : Nat) {k : Nat} (hk : a ≤ k) (h : ∀ j, a ≤ j → j < k → ∃ hj : j < s.size, isD s[j] = true) (he : ∀ hj : k < s.size, isD s[k] = false) :
    (rest s a).takeWhile isD = (rest s a).take (k - a) ∧ (rest s a).dropWhile isD = rest s k := by
  obtain ⟨d, rfl⟩ : ∃ d, k = a + d := ⟨k - a, by omega⟩
  have e1 : a + d - a = d := by omega
  rw [e1]
  clear e1 hk
  induction d generalizing a with
  | zero =>
    by_cases hj : a < s.size
    · have hf := he hj
      have e := rest_cons s hj
      have hf' : isD s[a] = false := hf
      refine ⟨?_, ?_⟩
      · rw [e, List.takeWhile_cons, hf']; rfl
      · rw [e, List.dropWhile_cons, hf']; exact e.symm
    · have e := rest_end s (k := a) (by omega)
      refine ⟨?_, ?_⟩
      · rw [e]; rfl
      · rw [e]; exact e.symm
  | succ d ih =>
    obtain ⟨hj, hd⟩ := h a (Nat.le_refl _) (by omega)
    have ea : a + (d + 1) = a + 1 + d := by omega
    have he' : ∀ hj : a + 1 + d < s.size, isD s[a + 1 + d] = false := by
      intro hj
      have := he (by omega)
      simp only [ea] at this
      exact this
    have := ih (a + 1) (fun j h1 h2 => h j (by omega) (by omega)) he'
    rw [ea, rest_cons s hj, List.takeWhile_cons, List.dropWhile_cons, hd]
    simp only [if_true, List.take_succ_cons]
    rw [this.1, this.2]
    exact ⟨rfl, rfl⟩

set_option maxHeartbeats 4000000 in
set_option maxRecDepth 50000 in
/-- number: the digits that come next. -/
theorem curNumber (g k : Nat) (s : ByteArray) (w : World) (h : Cur w g s k) (hs : s.size ≤ 1000) (o : Option Nat) (ho : Hid (pD ((rest s k).takeWhile isD) = o)) :
    Calls Tryd.prog 57 #[.pointer (some ⟨g, 0, none⟩)] w fun e w' => e = .returned (.tuple #[.int .i64 (o.getD 0 : Nat), .bool o.isSome]) ∧ ∃ k' w1, Cur w1 g s k' ∧ k ≤ k' ∧ rest s k' = (rest s k).dropWhile isD ∧ w.grownBy w1 (some g) ∧ Below w1.heap.size w1 w' := by
  have H := Lib.hid h
  have c1 : w.cell? ⟨g, 1, none⟩ = some (.int .i64 k) := h.2.cell 1
  clear h
  go_enter Tryd.func57, Tryd.ntmps57
  go_wp2
  clear c1
  go_loopg [] s.size (fun gg wr => ∃ j, k ≤ j ∧ s.size - j ≤ gg ∧ Cur wr g s j ∧ (∀ i, k ≤ i → i < j → ∃ hi : i < s.size, isD s[i] = true) ∧ w.grownBy wr (some g))
  case atStart => exact ⟨k, Nat.le_refl _, by omega, H.out, fun i h1 h2 => absurd h2 (by omega), grown_refl _ _⟩
  case round =>
    obtain ⟨j, hj, hg, cur, dg, gro⟩ := hrel
    have Cu := Lib.hid cur
    have Dg := Lib.hid dg
    have Gr := Lib.hid gro
    have c0 : wr.cell? ⟨g, 0, none⟩ = some (.string s) := cur.2.cell 0
    have c1 : wr.cell? ⟨g, 1, none⟩ = some (.int .i64 j) := cur.2.cell 1
    have f1 := cur.2.frozen 1
    have HC : Hid (∀ n, Cur (wr.drewN n) g s j) := Lib.hid fun _ => cur
    clear cur dg gro
    by_cases hlt : j < s.size
    · have E1 : Hid (decide (j = s.size) = false) := Lib.hid (by simp; omega)
      have k1 : (j : Int) < s.size := by omega
      have k0 : (0 : Int) ≤ j := by omega
      rcases hd : isD s[j] with _ | _
      · have Hd := Lib.hid hd
        clear hd
        go_wp2
        go_quiet (first | (go_at_call 34; exact Calls.quiet_of (curEnd g j s _ (HC.out _) false E1)) | (go_at_call 70; exact Calls.quiet_of (digT _ _ false Hd)))
        have Tw : Hid ((rest s k).takeWhile isD = (rest s k).take (j - k) ∧ (rest s k).dropWhile isD = rest s j) := Lib.hid (drop_take_while s k hj Dg.out (fun _ => Hd.out))
        have Sl : Hid ((s.extract k j).toList = (rest s k).takeWhile isD) := Lib.hid (by rw [Tw.out.1, extract_toList]; rfl)
        have al : Hid ((s.extract k j).toList.all isD = true) := Lib.hid (by rw [Sl.out]; exact tw_all _)
        have po : Hid (pD (s.extract k j).toList = o) := Lib.hid (by rw [Sl.out]; exact ho.out)
        have sz : (s.extract k j).size ≤ 1000 := by rw [ByteArray.size_extract]; omega
        have q1 : (0 : Int) ≤ k := by omega
        have q2 : (k : Int) ≤ j := by omega
        have q3 : (j : Int) ≤ s.size := by omega
        go_wp2
        go_region_with (go_at_call 71; refine (parseT (s.extract k j) _ sz al o po).mono ?_; rintro e w2 ⟨rfl, b2⟩; have B2 := Lib.hid b2; clear b2)
        all_goals
          go_wp2
          go_ret2
          exact ⟨rfl, j, _, (HC.out _).drewN 1, hj, Tw.out.2.symm, grown_drewN (grown_drewN Gr.out _) 1, B2.out⟩
      · have Hd := Lib.hid hd
        clear hd
        have Dg2 : Hid (∀ i, k ≤ i → i < j + 1 → ∃ hi : i < s.size, isD s[i] = true) := Lib.hid fun i h1 h2 => by
          by_cases e : i = j
          · subst e; exact ⟨hlt, Hd.out⟩
          · exact Dg.out i h1 (by omega)
        go_wp2
        go_quiet (first | (go_at_call 34; exact Calls.quiet_of (curEnd g j s _ (HC.out _) false E1)) | (go_at_call 70; exact Calls.quiet_of (digT _ _ true Hd)))
        go_wp2
        go_roundg (s.size - (j + 1))
        case rel => exact ⟨j + 1, by omega, Nat.le_refl _, (HC.out _).step hlt _ (by go_num), Dg2.out, grown_set (grown_drewN Gr.out _) _ _⟩
        case measure => omega
    · have E1 : Hid (decide (j = s.size) = true) := Lib.hid (by have := Cu.out.1; simp; omega)
      have hjs : j = s.size := by have := Cu.out.1; omega
      have Tw : Hid ((rest s k).takeWhile isD = (rest s k).take (j - k) ∧ (rest s k).dropWhile isD = rest s j) := Lib.hid (drop_take_while s k hj Dg.out (fun h => absurd h hlt))
      have Sl : Hid ((s.extract k j).toList = (rest s k).takeWhile isD) := Lib.hid (by rw [Tw.out.1, extract_toList]; rfl)
      have al : Hid ((s.extract k j).toList.all isD = true) := Lib.hid (by rw [Sl.out]; exact tw_all _)
      have po : Hid (pD (s.extract k j).toList = o) := Lib.hid (by rw [Sl.out]; exact ho.out)
      have sz : (s.extract k j).size ≤ 1000 := by rw [ByteArray.size_extract]; omega
      have q1 : (0 : Int) ≤ k := by omega
      have q2 : (k : Int) ≤ j := by omega
      have q3 : (j : Int) ≤ s.size := by omega
      clear hjs
      go_wp2
      go_quiet (exact Calls.quiet_of (curEnd g j s _ (HC.out _) true E1))
      go_wp2
      go_region_with (go_at_call 71; refine (parseT (s.extract k j) _ sz al o po).mono ?_; rintro e w2 ⟨rfl, b2⟩; have B2 := Lib.hid b2; clear b2)
      all_goals
        go_wp2
        go_ret2
        exact ⟨rfl, j, _, (HC.out _).drewN 1, hj, Tw.out.2.symm, grown_drewN (grown_drewN Gr.out _) 1, B2.out⟩
end Go.Proofs.YtplgdbkolklgnaaDoor
