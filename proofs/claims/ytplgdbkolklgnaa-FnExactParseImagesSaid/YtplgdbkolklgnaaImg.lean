/- ParseImages, of the program and of the model. Condition: at most 2097152 bytes. -/
import Derived.Test.YtplgdbkolklgnaaSplit
namespace Go.Proofs.Ytplgdbkolklgnaa
open Go.RowKit

/-- The permutation that a list of numbers is, if it is one. -/
def permO (o : Option (List Nat)) : Option (List Int) := match o with
  | none => none
  | some xs => if isP (ofN xs) = true then some (ofN xs) else none
/-- What ParseImages reads. -/
def imgO (s : ByteArray) : Option (List Int) := if s.size ≤ 200 then permO (wordsP 32 s.toList) else none
theorem imgO_big {s : ByteArray} (h : ¬ s.size ≤ 200) : imgO s = none := if_neg h
theorem imgO_nums {s : ByteArray} (h : s.size ≤ 200) : imgO s = permO (match numsP s.toList with | some (xs, []) => some xs | _ => none) := by
  rw [imgO, if_pos h]
  exact congrArg permO (nums_words _ _ (Nat.le_refl _)).symm
theorem rest_zero (s : ByteArray) : rest s 0 = s.toList := rfl
theorem rest_nil_iff (s : ByteArray) {k : Nat} (h : k ≤ s.size) : rest s k = [] ↔ k = s.size := by
  constructor
  · intro e
    have := rest_len s k
    rw [e] at this
    simp at this
    omega
  · intro e; exact rest_end s (by omega)

set_option maxHeartbeats 1000000 in
/-- The program's ParseImages. -/
theorem implParseImages (s : ByteArray) (w : World) (hs : s.size ≤ 2097152) :
    Calls Try.prog 20 #[.string s] w fun e w' => ∃ A n c, e = .returned (.tuple #[.slice A n c, .bool (imgO s).isSome]) ∧ Slc w' w.heap.size A n c ((imgO s).getD []) ∧ n ≤ 20 ∧ Below w.heap.size w w' := by
  by_cases h2 : s.size ≤ 200
  · have d2 : decide ((200 : Int) < s.size) = false := by simp; omega
    obtain ⟨R, hR⟩ : ∃ R, numsP (rest s 0) = R := ⟨_, rfl⟩
    have I := Lib.hid (imgO_nums h2)
    rw [← rest_zero, hR] at I
    have HR : Hid (R = numsP (rest s 0)) := Lib.hid hR.symm
    have C0 : Hid (Cur (w.alloc (.cells #[.string s, .int .i64 0] 55)) w.heap.size s 0) := Lib.hid ⟨Nat.zero_le _, Blk.new w _ _⟩
    have B0 : Hid (Below w.heap.size w (w.alloc (.cells #[.string s, .int .i64 0] 55))) := Lib.hid ((Below.refl _ _).alloc (Nat.le_refl _) _)
    clear hR
    go_enter Try.func20, Try.ntmps20
    go_wp2_with fail
    refine (curNumbers w.heap.size 0 s _ C0.out (by omega) R HR).mono ?_
    rintro e w2 ⟨g2, ⟨rfl, rfl, k', cu2⟩ | ⟨xs, r, A, n, c, k', rfl, rfl, s2, cu2, hr2, _, hn2⟩⟩
    · have Fin : Hid (imgO s = none) := Lib.hid (by rw [I.out]; rfl)
      have B2 : Hid (Below w.heap.size w w2) := Lib.hid (B0.out.grown g2 (by simp) (fun k e => by injection e with e; omega))
      clear g2 cu2
      go_wp2_with fail
      go_ret2
      exact ⟨_, _, _, by rw [Fin.out]; rfl, by rw [Fin.out]; exact Slc.nil_, Nat.zero_le _, B2.out⟩
    · have B2 : Hid (Below w.heap.size w w2) := Lib.hid (B0.out.grown g2 (by simp) (fun k e => by injection e with e; omega))
      have C2 := Lib.hid cu2
      have S2 := Lib.hid (s2.mono (show w.heap.size ≤ _ by simp))
      have hr2' : r = [] ↔ k' = s.size := by rw [← hr2]; exact rest_nil_iff s cu2.1
      clear g2 cu2 s2 hr2
      by_cases he : k' = s.size
      · have E1 : Hid (decide (k' = s.size) = true) := Lib.hid (by simpa using he)
        have hr := hr2'.2 he
        subst hr
        have I2 : Hid (imgO s = if isP (ofN xs) = true then some (ofN xs) else none) := Lib.hid I.out
        clear he hr2'
        go_wp2_with fail
        refine (curEnd w.heap.size k' s w2 C2.out true E1).mono ?_
        rintro e w3 ⟨rfl, m3, rfl⟩
        have B3 : Hid (Below w.heap.size w (w2.drewN m3)) := Lib.hid (below_drewN B2.out _)
        have S3 : Hid (Slc (w2.drewN m3) w.heap.size A n c (ofN xs)) := Lib.hid (S2.out.drewN _)
        rcases hp : isP (ofN xs) with _ | _
        · have Fin : Hid (imgO s = none) := Lib.hid (by rw [I2.out, hp]; rfl)
          go_wp2_with fail
          refine (implIsP A c n (ofN xs) _ S3.out.ri_ S3.out.hid (by omega)).mono ?_
          rintro e w4 ⟨he4, b4⟩
          rw [hp] at he4
          subst he4
          have B4 : Hid (Below w.heap.size w w4) := Lib.hid (btr B3.out b4)
          clear b4
          go_wp2_with fail
          go_ret2
          exact ⟨_, _, _, by rw [Fin.out]; rfl, by rw [Fin.out]; exact Slc.nil_, Nat.zero_le _, B4.out⟩
        · have Fin : Hid (imgO s = some (ofN xs)) := Lib.hid (by rw [I2.out, hp]; rfl)
          have n20 : n ≤ 20 := by have := (isP_iff.1 hp).le; rw [S2.out.1] at this; exact this
          go_wp2_with fail
          refine (implIsP A c n (ofN xs) _ S3.out.ri_ S3.out.hid (by omega)).mono ?_
          rintro e w4 ⟨he4, b4⟩
          rw [hp] at he4
          subst he4
          have B4 : Hid (Below w.heap.size w w4) := Lib.hid (btr B3.out b4)
          have S4 := Lib.hid (S3.out.up b4)
          clear b4
          go_wp2_with fail
          go_ret2
          exact ⟨_, _, _, by rw [Fin.out]; rfl, by rw [Fin.out]; exact S4.out, n20, B4.out⟩
      · have E1 : Hid (decide (k' = s.size) = false) := Lib.hid (by simpa using he)
        have Fin : Hid (imgO s = none) := Lib.hid (by
          rw [I.out]
          cases r with
          | nil => exact absurd (hr2'.1 rfl) he
          | cons a t => rfl)
        clear he hr2'
        go_wp2_with fail
        refine (curEnd w.heap.size k' s w2 C2.out false E1).mono ?_
        rintro e w3 ⟨rfl, m3, rfl⟩
        have B3 : Hid (Below w.heap.size w (w2.drewN m3)) := Lib.hid (below_drewN B2.out _)
        go_wp2_with fail
        go_ret2
        exact ⟨_, _, _, by rw [Fin.out]; rfl, by rw [Fin.out]; exact Slc.nil_, Nat.zero_le _, B3.out⟩
  · have d2 : decide ((200 : Int) < s.size) = true := by simp; omega
    have Fin : Hid (imgO s = none) := Lib.hid (imgO_big h2)
    go_enter Try.func20, Try.ntmps20
    go_wp2_with fail
    go_ret2
    exact ⟨_, _, _, by rw [Fin.out]; rfl, by rw [Fin.out]; exact Slc.nil_, Nat.zero_le _, Below.refl _ _⟩

theorem mapM_append_ {α β : Type} (f : α → Option β) (l l' : List α) : (l ++ l').mapM f = (l.mapM f).bind fun x => (l'.mapM f).map (x ++ ·) := by
  induction l with
  | nil => rw [List.nil_append, show ([] : List α).mapM f = some [] from rfl]; cases h : l'.mapM f <;> simp [h]
  | cons a t ih =>
    rw [List.cons_append, mapM_cons_, mapM_cons_, ih]
    cases f a with
    | none => rfl
    | some x => cases t.mapM f with
      | none => rfl
      | some y => cases l'.mapM f <;> simp
theorem take_succ_map {ws : List ByteArray} {k : Nat} (hk : k < ws.length) : (ws.map ByteArray.toList).take (k + 1) = (ws.map ByteArray.toList).take k ++ [ws[k].toList] := by
  rw [List.take_succ_eq_append_getElem (by simpa using hk)]; simp
theorem mapM_take_none {ls : List (List UInt8)} {k : Nat} {v : List UInt8} (h : ls.take (k + 1) = ls.take k ++ [v]) (hn : pW v = none) : ls.mapM pW = none := by
  rw [← List.take_append_drop (k + 1) ls, mapM_append_, h, mapM_append_, mapM_cons_, hn]
  cases (ls.take k).mapM pW <;> rfl
theorem mapM_take_some {ls : List (List UInt8)} {k x : Nat} {xs : List Nat} {v : List UInt8} (h : ls.take (k + 1) = ls.take k ++ [v]) (hx : (ls.take k).mapM pW = some xs) (hn : pW v = some x) : (ls.take (k + 1)).mapM pW = some (xs ++ [x]) := by
  rw [h, mapM_append_, hx, mapM_cons_, hn]; rfl

set_option maxHeartbeats 1000000 in
/-- The model's ParseImages. -/
theorem specParseImages (s : ByteArray) (w : World) (hs : s.size ≤ 2097152) :
    Calls Try.prog 19 #[.string s] w fun e w' => ∃ A n c, e = .returned (.tuple #[.slice A n c, .bool (imgO s).isSome]) ∧ Slc w' w.heap.size A n c ((imgO s).getD []) ∧ n ≤ 20 ∧ Below w.heap.size w w' := by
  by_cases h2 : s.size ≤ 200
  · have d2 : decide ((200 : Int) < s.size) = false := by simp; omega
    have I : Hid (imgO s = permO (wordsP 32 s.toList)) := Lib.hid (if_pos h2)
    go_enter Try.func19, Try.ntmps19
    go_wp2_with fail
    refine (specSplit s 32 w (by omega)).mono ?_
    rintro e w1 ⟨A1, n1, c1, ws, rfl, t1, hw, h1n, hn1, hsz, b1⟩
    have T1 := Lib.hid t1
    have B1 := Lib.hid b1
    have Hw := Lib.hid hw
    have Sz := Lib.hid hsz
    have lw := t1.1
    clear t1 b1 hw hsz
    go_wp2_with fail
    go_loopg [5, 6, 7, 8] n1 (fun gg v i _ _ wr => ∃ k A c xs, k ≤ n1 ∧ n1 - k ≤ gg ∧ i = .int .i64 (k : Nat) ∧ v = .slice A k c ∧ Slc wr w1.heap.size A k c (ofN xs) ∧ ((splitB 32 s.toList).take k).mapM pW = some xs ∧ Below w1.heap.size w1 wr)
    case atStart => exact ⟨0, _, _, [], Nat.zero_le _, by omega, rfl, rfl, Slc.lit0 w1 _ (Nat.le_refl _), rfl, (Below.refl _ _).alloc (Nat.le_refl _) _⟩
    case round =>
      obtain ⟨k, A, c, xs, hk, hg, rfl, rfl, sl, hm, bel⟩ := hrel
      have Sl := Lib.hid sl
      have Hm := Lib.hid hm
      have Bel := Lib.hid bel
      have Bw : Hid (Below w.heap.size w wr) := Lib.hid (btr B1.out bel)
      clear sl hm bel
      by_cases hlt : k < n1
      · obtain ⟨g, rfl, hg1, hg2, hc⟩ := T1.out.at_ (by omega)
        have c0 := (Bel.out.cell (p := ⟨g, k, none⟩) hg2).trans (hc k (by omega))
        obtain ⟨u, eu⟩ : ∃ u, ws[k]'(by omega) = u := ⟨_, rfl⟩
        have hu : u.size ≤ s.size := by rw [← eu]; exact Sz.out _ (List.getElem_mem _)
        have Tk : Hid ((splitB 32 s.toList).take (k + 1) = (splitB 32 s.toList).take k ++ [u.toList]) := Lib.hid (by rw [← Hw.out, take_succ_map (by omega), eu])
        rw [eu] at c0
        clear eu hc
        rcases hp : pW u.toList with _ | x
        · have Hp := Lib.hid hp
          have Fin : Hid (imgO s = none) := Lib.hid (by rw [I.out, wordsP, mapM_take_none Tk.out hp]; rfl)
          clear hp
          go_wp2_with fail
          refine (specInt u wr (by omega) none Hp).mono ?_
          rintro e w2 ⟨rfl, rfl⟩
          go_wp2_with fail
          go_ret2
          exact ⟨_, _, _, by rw [Fin.out]; rfl, by rw [Fin.out]; exact Slc.lit0 wr _ Bw.out.size, Nat.zero_le _, Bw.out.alloc Bw.out.size _⟩
        · have Hp := Lib.hid hp
          have Hm2 := Lib.hid (mapM_take_some Tk.out Hm.out hp)
          clear hp
          go_wp2_with fail
          refine (specInt u wr (by omega) (some x) Hp).mono ?_
          rintro e w2 ⟨rfl, rfl⟩
          go_wp2_with (first | (at_builtin; refine wpList_app1 rfl _ _ rfl w1.heap.size A k c _ rfl (Sl.out.alloc _) wr.heap.size (x : Int) rfl (by rw [World.cell?_alloc_at _ _ _ _ rfl]; rfl) (by omega) (by have := Bel.out.size; simp; omega) ?_; intro A3 c3 w3 s3 g3))
          have S3 : Hid (Slc w3 w1.heap.size A3 (k + 1) c3 (ofN (xs ++ [x]))) := Lib.hid (by rw [ofN_snoc]; exact s3)
          have Bel3 : Hid (Below w1.heap.size w1 w3) := Lib.hid ((Bel.out.alloc Bel.out.size _).grown g3 (by have := Bel.out.size; simp; omega) (fun j hj => (Sl.out.lt_ j hj).1))
          clear s3 g3
          go_wp2
          go_roundg (n1 - (k + 1))
          case rel => exact ⟨k + 1, A3, c3, _, by omega, Nat.le_refl _, by go_num, rfl, S3.out, Hm2.out, Bel3.out⟩
          case measure => omega
      · have hkn : k = n1 := by omega
        subst hkn
        have I2 : Hid (imgO s = if isP (ofN xs) = true then some (ofN xs) else none) := Lib.hid (by
          have := Hm.out
          rw [List.take_of_length_le (by rw [← Hw.out, List.length_map, lw]; exact Nat.le_refl _)] at this
          rw [I.out, wordsP, this]; rfl)
        have hkc := Sl.out.le.1
        rcases hp : isP (ofN xs) with _ | _
        · have Fin : Hid (imgO s = none) := Lib.hid (by rw [I2.out, hp]; rfl)
          go_wp2_with fail
          refine (quiet_below (specIsP A c k (ofN xs) wr Sl.out.ri_ Sl.out.hid (by omega) hkc)).mono ?_
          rintro e w4 ⟨he4, b4⟩
          rw [hp] at he4
          subst he4
          have B4 : Hid (Below w.heap.size w w4) := Lib.hid (btr Bw.out b4)
          clear b4
          go_wp2_with fail
          go_ret2
          exact ⟨_, _, _, by rw [Fin.out]; rfl, by rw [Fin.out]; exact Slc.lit0 w4 _ B4.out.size, Nat.zero_le _, B4.out.alloc B4.out.size _⟩
        · have Fin : Hid (imgO s = some (ofN xs)) := Lib.hid (by rw [I2.out, hp]; rfl)
          have n20 : k ≤ 20 := by have := (isP_iff.1 hp).le; rw [Sl.out.1] at this; exact this
          go_wp2_with fail
          refine (quiet_below (specIsP A c k (ofN xs) wr Sl.out.ri_ Sl.out.hid (by omega) hkc)).mono ?_
          rintro e w4 ⟨he4, b4⟩
          rw [hp] at he4
          subst he4
          have B4 : Hid (Below w.heap.size w w4) := Lib.hid (btr Bw.out b4)
          have S4 := Lib.hid ((Sl.out.up b4).mono B1.out.size)
          clear b4
          go_wp2_with fail
          go_ret2
          exact ⟨_, _, _, by rw [Fin.out]; rfl, by rw [Fin.out]; exact S4.out, n20, B4.out⟩
  · have d2 : decide ((200 : Int) < s.size) = true := by simp; omega
    have Fin : Hid (imgO s = none) := Lib.hid (imgO_big h2)
    go_enter Try.func19, Try.ntmps19
    go_wp2_with fail
    go_ret2
    exact ⟨_, _, _, by rw [Fin.out]; rfl, by rw [Fin.out]; exact Slc.lit0 w _ (Nat.le_refl _), Nat.zero_le _, (Below.refl _ _).alloc (Nat.le_refl _) _⟩
end Go.Proofs.Ytplgdbkolklgnaa
