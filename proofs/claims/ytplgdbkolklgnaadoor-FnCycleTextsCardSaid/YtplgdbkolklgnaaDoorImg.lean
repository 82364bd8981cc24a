/- ParseImages, of the program and of the model. Condition: at most 2097152 bytes. -/
import Derived.Test.YtplgdbkolklgnaaDoorSplit
namespace Go.Proofs.YtplgdbkolklgnaaDoor
open Go.RowKit

/-- The permutation that a list of numbers is, if it is one. -/
def permO (o : Option (List Nat)) : Option (List Int) := match o with
  | none => none
  | some xs => if isP (ofN xs) = true then some (ofN xs) else none
/-- What ParseImages reads. -/
def imgO (s : ByteArray) : Option (List Int) := if s.size ≤ 200 then permO (wordsP 32 s.toList) else none
theorem imgO_big {s : ByteArray} (h : ¬ s.size ≤ 200) : imgO s = none := if_neg h
theorem imgO_nums {s : ByteArray} (h : s.size ≤ 200) : imgO s = permO (match numsP s.toList with | some (xs, []) => some xs | _ => none) := by
  rw [imgO, if_pos h]
  exact congrArg permO (nums_words _ _ (Nat.le_refl _)).symm
theorem rest_zero (s : ByteArray) : rest s 0 = s.toList := rfl
theorem rest_nil_iff (s : ByteArray) {k : Nat} (h : k ≤ s.size) : rest s k = [] ↔ k = s.size := by
  constructor
  · intro e
    have := rest_len s k
    rw [e] at this
    simp at this
    omega
  · intro e; exact rest_end s (by omega)

set_option maxHeartbeats 1000000 in
/-- The program's ParseImages. -/
theorem implParseImages (s : ByteArray) (w : World) (hs : s.size ≤ 2097152) :
    Calls Tryd.prog 14 #[.string s] w fun e w' => ∃ A n c, e = .returned (.tuple #[.slice A n c, .bool (imgO s).isSome]) ∧ Slc w' w.heap.size A n c ((imgO s).getD []) ∧ n ≤ 20 ∧ Below w.heap.size w w' := by
  by_cases h2 : s.size ≤ 200
  · have d2 : decide ((200 : Int) < s.size) = false := by simp; omega
    obtain ⟨R, hR⟩ : ∃ R, numsP (rest s 0) = R := ⟨_, rfl⟩
    have I := Lib.hid (imgO_nums h2)
    rw [← rest_zero, hR] at I
    have HR : Hid (R = numsP (rest s 0)) := Lib.hid hR.symm
    have C0 : Hid (Cur (w.alloc (.cells #[.string s, .int .i64 0] 54)) w.heap.size s 0) := Lib.hid ⟨Nat.zero_le _, Blk.new w _ _⟩
    have B0 : Hid (Below w.heap.size w (w.alloc (.cells #[.string s, .int .i64 0] 54))) := Lib.hid ((Below.refl _ _).alloc (Nat.le_refl _) _)
    clear hR
    go_enter Tryd.func14, Tryd.ntmps14
    go_wp2_with fail
    refine (curNumbers w.heap.size 0 s _ C0.out (by omega) R HR).mono ?_
    rintro e w2 ⟨g2, ⟨rfl, rfl, k', cu2⟩ | ⟨xs, r, A, n, c, k', rfl, rfl, s2, cu2, hr2, _, hn2⟩⟩
    · have Fin : Hid (imgO s = none) := Lib.hid (by rw [I.out]; rfl)
      have B2 : Hid (Below w.heap.size w w2) := Lib.hid (B0.out.grown g2 (by simp) (fun k e => by injection e with e; omega))
      clear g2 cu2
      go_wp2_with fail
      go_ret2
      exact ⟨_, _, _, by rw [Fin.out]; rfl, by rw [Fin.out]; exact Slc.nil_, Nat.zero_le _, B2.out⟩
    · have B2 : Hid (Below w.heap.size w w2) := Lib.hid (B0.out.grown g2 (by simp) (fun k e => by injection e with e; omega))
      have C2 := Lib.hid cu2
      have S2 := Lib.hid (s2.mono (show w.heap.size ≤ _ by simp))
      have hr2' : r = [] ↔ k' = s.size := by rw [← hr2]; exact rest_nil_iff s cu2.1
      clear g2 cu2 s2 hr2
      by_cases he : k' = s.size
      · have E1 : Hid (decide (k' = s.size) = true) := Lib.hid (by simpa using he)
        have hr := hr2'.2 he
        subst hr
        have I2 : Hid (imgO s = if isP (ofN xs) = true then some (ofN xs) else none) := Lib.hid I.out
        clear he hr2'
        go_wp2_with fail
        refine (curEnd w.heap.size k' s w2 C2.out true E1).mono ?_
        rintro e w3 ⟨rfl, m3, rfl⟩
        have B3 : Hid (Below w.heap.size w (w2.drewN m3)) := Lib.hid (below_drewN B2.out _)
        have S3 : Hid (Slc (w2.drewN m3) w.heap.size A n c (ofN xs)) := Lib.hid (S2.out.drewN _)
        rcases hp : isP (ofN xs) with _ | _
        · have Fin : Hid (imgO s = none) := Lib.hid (by rw [I2.out, hp]; rfl)
          go_wp2_with fail
          refine (implIsP A c n (ofN xs) _ S3.out.ri_ S3.out.hid (by omega)).mono ?_
          rintro e w4 ⟨he4, b4⟩
          rw [hp] at he4
          subst he4
          have B4 : Hid (Below w.heap.size w w4) := Lib.hid (btr B3.out b4)
          clear b4
          go_wp2_with fail
          go_ret2
          exact ⟨_, _, _, by rw [Fin.out]; rfl, by rw [Fin.out]; exact Slc.nil_, Nat.zero_le _, B4.out⟩
        · have Fin : Hid (imgO s = some (ofN xs)) := Lib.hid (by rw [I2.out, hp]; rfl)
          have n20 : n ≤ 20 := by have := (isP_iff.1 hp).le; rw [S2.out.1] at this; exact this
          go_wp2_with fail
          refine (implIsP A c n (ofN xs) _ S3.out.ri_ S3.out.hid (by omega)).mono ?_
          rintro e w4 ⟨he4, b4⟩
          rw [hp] at he4
          subst he4
          have B4 : Hid (Below w.heap.size w w4) := Lib.hid (btr B3.out b4)
          have S4 := Lib.hid (S3.out.up b4)
          clear b4
          go_wp2_with fail
          go_ret2
          exact ⟨_, _, _, by rw [Fin.out]; rfl, by rw [Fin.out]; exact S4.out, n20, B4.out⟩
      · have E1 : Hid (decide (k' = s.size) = false) := Lib.hid (by simpa using he)
        have Fin : Hid (imgO s = none) := Lib.hid (by
          rw [I.out]
          cases r with
          | nil => exact absurd (hr2'.1 rfl) he
          | cons a t => rfl)
        clear he hr2'
        go_wp2_with fail
        refine (curEnd w.heap.size k' s w2 C2.out false E1).mono ?_
        rintro e w3 ⟨rfl, m3, rfl⟩
        have B3 : Hid (Below w.heap.size w (w2.drewN m3)) := Lib.hid (below_drewN B2.out _)
        go_wp2_with fail
        go_ret2
        exact ⟨_, _, _, by rw [Fin.out]; rfl, by rw [Fin.out]; exact Slc.nil_, Nat.zero_le _, B3.out⟩
  · have d2 : decide ((200 : Int) < s.size) = true := by simp; omega
    have Fin : Hid (imgO s = none) := Lib.hid (imgO_big h2)
    go_enter Tryd.func14, Tryd.ntmps14
    go_wp2_with fail
    go_ret2
    exact ⟨_, _, _, by rw [Fin.out]; rfl, by rw [Fin.out]; exact Slc.nil_, Nat.zero_le _, Below.refl _ _⟩

theorem mapM_append_ {α β : Type} (f : α → Option β) (l l' : List α) : (l ++ l').mapM f = (l.mapM f).bind fun x => (l'.mapM f).map (x ++ ·) := by
  induction l with
  | nil => rw [List.nil_append, show ([] : List α).mapM f = some [] from rfl]; cases h : l'.mapM f <;> simp [h]
  | cons a t ih =>
    rw [List.cons_append, mapM_cons_, mapM_cons_, ih]
    cases f a with
    | none => rfl
    | some x => cases t.mapM f with
      | none => rfl
      | some y => cases l'.mapM f <;> simp
theorem take_succ_map {ws : List ByteArray} {k : Nat} (hk : k < ws.length) : (ws.map ByteArray.toList).take (k + 1) = (ws.map ByteArray.toList).take k ++ [ws[k].toList] := by
  rw [List.take_succ_eq_append_getElem (by simpa using hk)]; simp
theorem mapM_take_none {ls : List (List UInt8)} {k : Nat} {v : List UInt8} (h : ls.take (k + 1) = ls.take k ++ [v]) (hn : pW v = none) : ls.mapM pW = none := by
  rw [← List.take_append_drop (k + 1) ls, mapM_append_, h, mapM_append_, mapM_cons_, hn]
  cases (ls.take k).mapM pW <;> rfl
theorem mapM_take_some {ls : List (List UInt8)} {k x : Nat} {xs : List Nat} {v : List UInt8} (h : ls.take (k + 1) = ls.take k ++ [v]) (hx : (ls.take k).mapM pW = some xs) (hn : pW v = some x) : (ls.take (k + 1)).mapM pW = some (xs ++ [x]) := by
  rw [h, mapM_append_, hx, mapM_cons_, hn]; rfl

end Go.Proofs.YtplgdbkolklgnaaDoor
