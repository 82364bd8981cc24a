/- The laws' helpers that compare, mark and read slices of slices. Conditions: at most 1048576 slices, numbers in all. -/
import Derived.Test.YtooafmifbplbhaaSSx
namespace Go.Proofs.Ytooafmifbplbhaa
open Go.RowKit

set_option maxHeartbeats 800000 in
/-- eqInt64SS at two slices of slices that read the same. -/
theorem eqRR_same (A B : Option Addr) (n c m d : Nat) (vs us : List SV) (xss : List (List Int)) (w : World) (hx : RR w w.heap.size A n vs xss) (hy : RR w w.heap.size B m us xss) (hn : n ≤ 1048576) (hlen : Hid (∀ i, i < n → (xss.getD i []).length ≤ 1048576)) :
    Calls Try.prog 34 #[.slice A n c, .slice B m d] w fun e w' => e = .returned (.bool true) ∧ Below w.heap.size w w' := by
  refine quiet_below ?_
  obtain rfl : n = m := by rw [← hx.lx, ← hy.lx]
  have HX := Lib.hid hx
  have HY := Lib.hid hy
  clear hx hy
  go_enter Try.func34, Try.ntmps34
  go_wp2
  go_loopw [5] (fun i wr => ∃ k : Nat, k ≤ n ∧ i = .int .i64 k ∧ ∃ m, wr = w.drewN m) (fun i _ => n - (intOf i).toNat)
  case atStart => exact ⟨0, Nat.zero_le _, rfl, 0, rfl⟩
  case round =>
    obtain ⟨k, hk, rfl, q, rfl⟩ := hrel
    by_cases hlt : k < n
    · obtain ⟨b, off, A5, l, c5, y, rfl, hb, ev, ey, c1, r1, hy1, hlc⟩ := HX.out.at_ hlt
      obtain ⟨b', off', A6, l', c6, y', rfl, hb', ev', ey', c2, r2, hy2, hlc'⟩ := HY.out.at_ hlt
      obtain rfl : y = y' := ey.symm.trans ey'
      have hl1 : l ≤ 1048576 := by rw [← hy1, ← ey]; exact hlen.out k hlt
      have hl2 : l' ≤ 1048576 := by rw [← hy2, ← ey]; exact hlen.out k hlt
      have R1 := Lib.hid r1
      have R2 := Lib.hid r2
      have Y1 : Hid (y.length = l) := Lib.hid hy1
      have Y2 : Hid (y.length = l') := Lib.hid hy2
      clear r1 r2 ev ey ev' ey' hy1 hy2
      have p1 : (0 : Int) ≤ k := by omega
      have p2 : (k : Int) < n := by omega
      have K : ∀ W : World, (∃ q, W = w.drewN q) → Calls Try.prog 36 #[.slice A5 l c5, .slice A6 l' c6] W fun e w' => e = .returned (.bool true) ∧ ∃ m, w' = W.drewN m := by
        rintro W ⟨q, rfl⟩
        exact (eqS_any A5 A6 c5 c6 l l' y y (w.drewN q) (R1.out.drewN q) (R2.out.drewN q) Y1 Y2 (by omega) (by omega)).mono fun e w' ⟨he, hb⟩ => ⟨he.trans (ret_bool (by simp)), hb⟩
      have HK := Lib.hid K
      clear K
      go_wp2
      go_quiet ((go_at_call 36; exact quiet_add (HK.out _ ⟨_, rfl⟩)))
      go_wp2
      go_roundw
      case rel => exact ⟨k + 1, by omega, by go_num, _, rfl⟩
      case measure => simp [intOf]; omega
    · go_wp2
      go_ret
      exact ⟨rfl, _, rfl⟩

set_option maxHeartbeats 800000 in
/-- likeLists at two slices of slices that read the same. -/
theorem likeRR_same (A B : Option Addr) (n c m d : Nat) (vs us : List SV) (xss : List (List Int)) (w : World) (hx : RR w w.heap.size A n vs xss) (hy : RR w w.heap.size B m us xss) (hn : n ≤ 1048576) (hlen : Hid (∀ i, i < n → (xss.getD i []).length ≤ 1048576)) :
    Calls Try.prog 24 #[.slice A n c, .slice B m d] w fun e w' => e = .returned (.bool true) ∧ Below w.heap.size w w' := by
  refine quiet_below ?_
  obtain rfl : n = m := by rw [← hx.lx, ← hy.lx]
  have HX := Lib.hid hx
  have HY := Lib.hid hy
  clear hx hy
  go_enter Try.func24, Try.ntmps24
  go_wp2
  go_loopw [5] (fun i wr => ∃ k : Nat, k ≤ n ∧ i = .int .i64 k ∧ ∃ m, wr = w.drewN m) (fun i _ => n - (intOf i).toNat)
  case atStart => exact ⟨0, Nat.zero_le _, rfl, 0, rfl⟩
  case round =>
    obtain ⟨k, hk, rfl, q, rfl⟩ := hrel
    by_cases hlt : k < n
    · obtain ⟨b, off, A5, l, c5, y, rfl, hb, ev, ey, c1, r1, hy1, hlc⟩ := HX.out.at_ hlt
      obtain ⟨b', off', A6, l', c6, y', rfl, hb', ev', ey', c2, r2, hy2, hlc'⟩ := HY.out.at_ hlt
      obtain rfl : y = y' := ey.symm.trans ey'
      have hl1 : l ≤ 1048576 := by rw [← hy1, ← ey]; exact hlen.out k hlt
      have hl2 : l' ≤ 1048576 := by rw [← hy2, ← ey]; exact hlen.out k hlt
      have R1 := Lib.hid r1
      have R2 := Lib.hid r2
      have Y1 : Hid (y.length = l) := Lib.hid hy1
      have Y2 : Hid (y.length = l') := Lib.hid hy2
      clear r1 r2 ev ey ev' ey' hy1 hy2
      have p1 : (0 : Int) ≤ k := by omega
      have p2 : (k : Int) < n := by omega
      have K : ∀ W : World, (∃ q, W = w.drewN q) → Calls Try.prog 21 #[.slice A5 l c5, .slice A6 l' c6] W fun e w' => e = .returned (.bool true) ∧ ∃ m, w' = W.drewN m := by
        rintro W ⟨q, rfl⟩
        exact (likeI_any A5 A6 c5 c6 l l' y y (w.drewN q) (R1.out.drewN q) (R2.out.drewN q) Y1 Y2 (by omega) (by omega)).mono fun e w' ⟨he, hb⟩ => ⟨he.trans (ret_bool (by simp)), hb⟩
      have HK := Lib.hid K
      clear K
      go_wp2
      go_quiet ((go_at_call 21; exact quiet_add (HK.out _ ⟨_, rfl⟩)))
      go_wp2
      go_roundw
      case rel => exact ⟨k + 1, by omega, by go_num, _, rfl⟩
      case measure => simp [intOf]; omega
    · go_wp2
      go_ret
      exact ⟨rfl, _, rfl⟩

/-- The marks of the slices one after the other. -/
def marks2 (vs : List SV) (k0 n : Nat) : List (List Int) := (List.range n).map fun i => marks (k0 + tot vs i) (vs.getD i sd0).2.1
theorem marks2_getD {vs : List SV} {k0 n i : Nat} (h : i < n) : (marks2 vs k0 n).getD i [] = marks (k0 + tot vs i) (vs.getD i sd0).2.1 := by
  rw [List.getD_eq_getElem?_getD, List.getElem?_eq_getElem (by simp [marks2, h])]; simp [marks2]

/-- Only blocks of the inner rows have turned. -/
structure OnlyIn (w w' : World) (vs : List SV) (n : Nat) : Prop where
  os : w'.os = w.os
  tape : w'.tape = w.tape
  output : w'.output = w.output
  size : w.heap.size ≤ w'.heap.size
  block : ∀ k, k < w.heap.size → (∀ i, i < n → (sval (vs.getD i sd0)).ownBlock ≠ some k) → w'.heap[k]? = w.heap[k]?
theorem OnlyIn.refl (w : World) (vs : List SV) (n : Nat) : OnlyIn w w vs n := ⟨rfl, rfl, rfl, Nat.le_refl _, fun _ _ _ => rfl⟩
theorem OnlyIn.step {w w1 w2 : World} {vs : List SV} {n i : Nat} (h : OnlyIn w w1 vs n) (hg : w1.grownBy w2 (sval (vs.getD i sd0)).ownBlock) (hi : i < n) : OnlyIn w w2 vs n :=
  ⟨hg.os.trans h.os, hg.tape.trans h.tape, hg.output.trans h.output, Nat.le_trans h.size hg.size, fun k hk hne => (hg.block k (Nat.lt_of_lt_of_le hk h.size) (fun e => hne i hi e.symm)).trans (h.block k hk hne)⟩
theorem OnlyIn.below {w w' : World} {vs : List SV} {n B : Nat} (h : OnlyIn w w' vs n) (hB : B ≤ w.heap.size) (hv : ∀ i, i < n → ∀ k, (sval (vs.getD i sd0)).ownBlock = some k → B ≤ k) : Below B w w' :=
  ⟨h.os, h.tape, h.output, h.size, fun k hk => h.block k (by omega) (fun i hi e => by have := hv i hi k e; omega)⟩

theorem SS.marked {w w' : World} {bo bi n c j : Nat} {A : Option Addr} {vs : List SV} {zss : List (List Int)} {ys : List Int} (h : SS w bo bi A n c vs zss) (hj : j < n)
    (hs : Slc w' bi (vs.getD j sd0).1 (vs.getD j sd0).2.1 (vs.getD j sd0).2.2 ys) (hg : w.grownBy w' (sval (vs.getD j sd0)).ownBlock) : SS w' bo bi A n c vs (zss.set j ys) := by
  refine ⟨World.ownsRow.kept h.own hg ?_, h.lv, by rw [List.length_set]; exact h.lx, fun i hi => ?_, h.dis⟩
  · rcases apart_types (h.row j hj) h.own with e | e
    · rw [show (sval (vs.getD j sd0)).ownBlock = none from e]
      rcases (Value.slice A n c).ownBlock with _ | b
      · exact .inl rfl
      · exact .inr (by simp)
    · exact .inr fun e2 => e e2.symm
  · by_cases e : j = i
    · subst e
      rw [show (zss.set j ys).getD j [] = ys from by rw [List.getD_eq_getElem?_getD, List.getElem?_set, if_pos rfl, if_pos (by rw [h.lx]; exact hj)]; rfl]
      exact hs
    · rw [show (zss.set j ys).getD i [] = zss.getD i [] from by rw [List.getD_eq_getElem?_getD, List.getElem?_set, if_neg e, ← List.getD_eq_getElem?_getD]]
      refine (h.row i hi).kept hg ?_
      rcases Nat.lt_or_gt_of_ne e with hlt | hgt
      · rcases h.dis j i hlt hi with e1 | e1
        · rw [e1]
          rcases (Value.slice (vs.getD i sd0).1 (vs.getD i sd0).2.1 (vs.getD i sd0).2.2).ownBlock with _ | b
          · exact .inl rfl
          · exact .inr (by simp)
        · exact .inr fun e2 => e1 e2.symm
      · exact h.dis i j hgt hj


set_option maxHeartbeats 800000 in
/-- markInt64SS. -/
theorem markSS (A : Option Addr) (n c bo bi : Nat) (vs : List SV) (xss : List (List Int)) (w : World) (hx : SS w bo bi A n c vs xss) (hn : n ≤ 1048576) (hlen : Hid (tot vs n ≤ 1048576)) :
    Calls Try.prog 38 #[.slice A n c, .int .i64 1] w fun e w' => e = .returned (.int .i64 (1 + (tot vs n : Int))) ∧ SS w' bo bi A n c vs (marks2 vs 1 n) ∧ OnlyIn w w' vs n := by
  have HX := Lib.hid hx
  clear hx
  go_enter Try.func38, Try.ntmps38
  go_wp2
  go_loopw [1, 5] (fun v i wr => ∃ (k T : Nat) (zss : List (List Int)), k ≤ n ∧ Hid (tot vs k = T) ∧ i = .int .i64 (k : Nat) ∧ v = .int .i64 (1 + (T : Int)) ∧ SS wr bo bi A n c vs zss ∧ (∀ t, t < k → zss.getD t [] = marks (1 + tot vs t) (vs.getD t sd0).2.1) ∧ OnlyIn w wr vs n) (fun _ i _ => n - (intOf i).toNat)
  case atStart => exact ⟨0, 0, _, Nat.zero_le _, Lib.hid rfl, rfl, by go_num, HX.out, fun j h => absurd h (by omega), OnlyIn.refl _ _ _⟩
  case round =>
    obtain ⟨k, T, zss, hk, hT, rfl, rfl, ss, hz, oi⟩ := hrel
    have Ss := Lib.hid ss
    have Hz := Lib.hid hz
    have Oi := Lib.hid oi
    have hT1 : T ≤ 1048576 := by have := tot_mono (vs := vs) hk; rw [hT.out] at this; have := hlen.out; omega
    clear ss hz oi
    by_cases hlt : k < n
    · obtain ⟨g, rfl, _, _, hc⟩ := Ss.out.at_ (by omega)
      have c1 := hc k hlt
      have r1 := Ss.out.row k hlt
      have hl : (vs.getD k sd0).2.1 ≤ 1048576 := Nat.le_trans (tot_row hlt) hlen.out
      have hT2 : Hid (tot vs (k + 1) = T + (vs.getD k sd0).2.1) := Lib.hid (by rw [tot_succ, hT.out])
      have ev : sval (vs.getD k sd0) = .slice (vs.getD k sd0).1 (vs.getD k sd0).2.1 (vs.getD k sd0).2.2 := rfl
      have MK : Hid (∀ w2 ys, Slc w2 bi (vs.getD k sd0).1 (vs.getD k sd0).2.1 (vs.getD k sd0).2.2 ys → wr.grownBy w2 (Value.slice (vs.getD k sd0).1 (vs.getD k sd0).2.1 (vs.getD k sd0).2.2).ownBlock → SS w2 bo bi (some ⟨g, 0, none⟩) n c vs (zss.set k ys) ∧ OnlyIn w w2 vs n) :=
        Lib.hid fun w2 ys h1 h2 => ⟨Ss.out.marked hlt h1 h2, Oi.out.step (i := k) h2 hlt⟩
      obtain ⟨l, el⟩ : ∃ l, (vs.getD k sd0).2.1 = l := ⟨_, rfl⟩
      obtain ⟨A5, e5⟩ : ∃ A5, (vs.getD k sd0).1 = A5 := ⟨_, rfl⟩
      obtain ⟨c5, ec5⟩ : ∃ c5, (vs.getD k sd0).2.2 = c5 := ⟨_, rfl⟩
      have El := Lib.hid el
      rw [e5, el, ec5] at c1 r1 MK
      rw [el] at hl hT2
      have R1 := Lib.hid r1
      clear r1 e5 el ec5 hc ev
      go_wp2_with fail
      refine (markK bi (1 + T) _ A5 l c5 _ wr R1.out (by omega) (by omega) (by omega)).mono ?_
      rintro e w2 ⟨rfl, s2, g2⟩
      have M2 := Lib.hid (MK.out w2 _ s2 g2)
      clear s2 g2
      go_wp2_with fail
      go_roundw
      case rel =>
        refine ⟨k + 1, T + l, zss.set k (marks (1 + T) l), by omega, hT2, by go_num, by go_num, M2.out.1, fun t ht => ?_, M2.out.2⟩
        by_cases e : k = t
        · subst e
          rw [List.getD_eq_getElem?_getD, List.getElem?_set, if_pos rfl, if_pos (by rw [Ss.out.lx]; exact hlt), hT.out, El.out]; rfl
        · rw [List.getD_eq_getElem?_getD, List.getElem?_set, if_neg e, ← List.getD_eq_getElem?_getD]; exact Hz.out t (by omega)
      case measure => simp [intOf]; omega
    · have hkn : k = n := by omega
      subst hkn
      have Ez : Hid (zss = marks2 vs 1 k) := Lib.hid (by
        apply List.ext_getElem (by rw [Ss.out.lx]; simp [marks2])
        intro i h1 h2
        have h3 : i < k := by rw [← Ss.out.lx]; exact h1
        have := Hz.out i h3
        rw [← marks2_getD h3, List.getD_eq_getElem?_getD, List.getD_eq_getElem?_getD, List.getElem?_eq_getElem h1, List.getElem?_eq_getElem h2] at this
        exact this)
      go_wp2
      go_ret
      exact ⟨ret_int (by rw [hT.out]), by rw [← Ez.out]; exact Ss.out, Oi.out⟩

set_option maxHeartbeats 800000 in
/-- heldInt64SS. -/
theorem heldSS (A : Option Addr) (n c bo bi : Nat) (vs : List SV) (w : World) (hx : SS w bo bi A n c vs (marks2 vs 1 n)) (hn : n ≤ 1048576) (hlen : Hid (tot vs n ≤ 1048576)) :
    Calls Try.prog 42 #[.slice A n c, .int .i64 1] w fun e w' => e = .returned (.int .i64 (1 + (tot vs n : Int))) ∧ w = w' := by
  have HX := Lib.hid hx
  clear hx
  go_enter Try.func42, Try.ntmps42
  go_wp2
  go_loop [1, 5] (fun v i => ∃ (k T : Nat), k ≤ n ∧ Hid (tot vs k = T) ∧ i = .int .i64 (k : Nat) ∧ v = .int .i64 (1 + (T : Int))) (fun _ i => n - (intOf i).toNat)
  case atStart => exact ⟨0, 0, Nat.zero_le _, Lib.hid rfl, rfl, by go_num⟩
  case round =>
    obtain ⟨k, T, hk, hT, rfl, rfl⟩ := hrel
    have hT1 : T ≤ 1048576 := by have := tot_mono (vs := vs) hk; rw [hT.out] at this; have := hlen.out; omega
    by_cases hlt : k < n
    · obtain ⟨g, rfl, _, _, hc⟩ := HX.out.at_ (by omega)
      have c1 := hc k hlt
      have r1 := HX.out.row k hlt
      rw [marks2_getD hlt] at r1
      have hl : (vs.getD k sd0).2.1 ≤ 1048576 := Nat.le_trans (tot_row hlt) hlen.out
      have hT2 : Hid (tot vs (k + 1) = T + (vs.getD k sd0).2.1) := Lib.hid (by rw [tot_succ, hT.out])
      obtain ⟨l, el⟩ : ∃ l, (vs.getD k sd0).2.1 = l := ⟨_, rfl⟩
      obtain ⟨A5, e5⟩ : ∃ A5, (vs.getD k sd0).1 = A5 := ⟨_, rfl⟩
      obtain ⟨c5, ec5⟩ : ∃ c5, (vs.getD k sd0).2.2 = c5 := ⟨_, rfl⟩
      rw [e5, el, ec5] at c1
      rw [e5, el, ec5, hT.out] at r1
      rw [el] at hl hT2
      have R1 := Lib.hid r1
      clear r1 e5 el ec5 hc
      go_wp2_with fail
      refine (heldK (1 + T) _ A5 l c5 _ w R1.out.ri_ R1.out.hid (by omega) (by omega) (Lib.hid rfl) (by omega)).mono ?_
      rintro e w2 ⟨rfl, rfl⟩
      go_wp2_with fail
      go_round
      case rel => exact ⟨k + 1, T + l, by omega, hT2, by go_num, by go_num⟩
      case measure => simp [intOf]; omega
    · have hkn : k = n := by omega
      subst hkn
      go_wp2
      go_ret
      exact ⟨ret_int (by rw [hT.out]), rfl⟩
--§ end
end Go.Proofs.Ytooafmifbplbhaa
