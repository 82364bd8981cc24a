/- ParseCycles, of the program and of the model. Condition: at most 2097152 bytes. -/
import Derived.Test.YtplgdbkolklgnaaDoorPM
import Derived.Test.YtplgdbkolklgnaaDoorIdent
namespace Go.Proofs.YtplgdbkolklgnaaDoor
open Go.RowKit

theorem idOut (n : Int) (w : World) (h : n < 1 ∨ 20 < n) : Calls Tryd.prog 33 #[.int .i64 n] w fun e w' => e = .returned (.slice none 0 0) ∧ w' = w := by
  by_cases h1 : n < 1
  · have d1 : decide ((n : Int) < 1) = true := by simp; omega
    go_enter Tryd.func33, Tryd.ntmps33
    go_wp2
    go_ret
    exact ⟨rfl, rfl⟩
  · have d1 : decide ((n : Int) < 1) = false := by simp; omega
    have d2 : decide ((20 : Int) < n) = true := by simp; omega
    go_enter Tryd.func33, Tryd.ntmps33
    go_wp2
    go_ret
    exact ⟨rfl, rfl⟩

theorem grown_join {w w1 w' : World} {row : Option Nat} (h : w.grownBy w1 row) (b : w1.grownBy w' row) : w.grownBy w' row :=
  ⟨b.os.trans h.os, b.tape.trans h.tape, b.output.trans h.output, Nat.le_trans h.size b.size, fun i hi hne => (b.block i (Nat.lt_of_lt_of_le hi h.size) hne).trans (h.block i hi hne)⟩

theorem cycP_no {l : List UInt8} (h : l.head? ≠ some 40) : cycP l = none := if_neg h
theorem cycP_empty {l r : List UInt8} (h : l = 40 :: 41 :: r) : cycP l = some ([], r) := by subst h; rfl
theorem cycP_nums {l t : List UInt8} (h : l = 40 :: t) (h2 : t.head? ≠ some 41) : cycP l = match numsP t with
      | none => none
      | some y => if y.2.head? = some 41 then some (y.1, y.2.tail) else none := by
  subst h; unfold cycP; simp [h2]
  cases numsP t <;> rfl

set_option maxHeartbeats 1000000 in
/-- cycle. -/
theorem curCycle (g k : Nat) (s : ByteArray) (w : World) (h : Cur w g s k) (hs : s.size ≤ 1000) (R : Option (List Nat × List UInt8)) (hR : Hid (R = cycP (rest s k))) :
    Calls Tryd.prog 35 #[.pointer (some ⟨g, 0, none⟩)] w fun e w' => w.grownBy w' (some g) ∧
      ((R = none ∧ ∃ A n c, e = .returned (.tuple #[.slice A n c, .bool false])) ∨ ∃ xs r A n c k', R = some (xs, r) ∧ e = .returned (.tuple #[.slice A n c, .bool true]) ∧ Slc w' w.heap.size A n c (ofN xs) ∧ Cur w' g s k' ∧ rest s k' = r ∧ n ≤ 1001) := by
  have H := Lib.hid h
  have gw := h.lt
  have hks := h.1
  clear h
  by_cases h1 : ∃ hk : k < s.size, s[k] = 40
  · obtain ⟨hk, e1⟩ := h1
    have r1 : Hid (rest s k = 40 :: rest s (k + 1)) := Lib.hid (by rw [rest_cons s hk, e1])
    by_cases h2 : ∃ hk : k + 1 < s.size, s[k + 1] = 41
    · obtain ⟨hk2, e2⟩ := h2
      have Rs : Hid (R = some ([], rest s (k + 2))) := Lib.hid (by rw [hR.out, r1.out]; exact cycP_empty (by rw [rest_cons s hk2, e2]))
      go_enter Tryd.func35, Tryd.ntmps35
      go_wp2_with fail
      refine (curTake g k s 40 w H.out hs hk e1).mono ?_
      rintro e w1 ⟨rfl, c1, g1⟩
      have C1 := Lib.hid c1
      have G1 := Lib.hid g1
      clear c1 g1 e1
      go_wp2_with fail
      refine (curTake g (k + 1) s 41 w1 C1.out hs hk2 e2).mono ?_
      rintro e w2 ⟨rfl, c2, g2⟩
      have C2 := Lib.hid c2
      have G2 := Lib.hid (grown_join G1.out g2)
      clear c2 g2 e2
      go_wp2_with fail
      go_ret2
      exact ⟨G2.out, .inr ⟨[], _, _, _, _, k + 2, Rs.out, rfl, Slc.nil_, C2.out, rfl, by omega⟩⟩
    · have Rn : Hid (R = match numsP (rest s (k + 1)) with
          | none => none
          | some y => if y.2.head? = some 41 then some (y.1, y.2.tail) else none) := Lib.hid (by
        rw [hR.out]
        exact cycP_nums r1.out (by rw [Ne, rest_head s (k + 1) 41 (by omega)]; exact h2))
      obtain ⟨N, hN⟩ : ∃ N, numsP (rest s (k + 1)) = N := ⟨_, rfl⟩
      rw [hN] at Rn
      have HN : Hid (N = numsP (rest s (k + 1))) := Lib.hid hN.symm
      clear hN
      have H2 := Lib.hid h2
      clear h2
      go_enter Tryd.func35, Tryd.ntmps35
      go_wp2_with fail
      refine (curTake g k s 40 w H.out hs hk e1).mono ?_
      rintro e w1 ⟨rfl, c1, g1⟩
      have C1 := Lib.hid c1
      have G1 := Lib.hid g1
      clear c1 g1 e1
      go_wp2_with fail
      refine (curNot g (k + 1) s 41 w1 C1.out (fun hk e => H2.out ⟨hk, e⟩)).mono ?_
      rintro e w2 ⟨rfl, m2, rfl⟩
      have C2 : Hid (Cur (w1.drewN m2) g s (k + 1)) := Lib.hid (C1.out.drewN _)
      have G2 : Hid (w.grownBy (w1.drewN m2) (some g)) := Lib.hid (grown_drewN G1.out _)
      generalize w1.drewN m2 = w2 at C2 G2 ⊢
      go_wp2_with fail
      refine (curNumbers g (k + 1) s w2 C2.out hs N HN).mono ?_
      rintro e w3 ⟨g3, ⟨rfl, rfl, k', cu3⟩ | ⟨xs, r, A, n, c, k', rfl, rfl, s3, cu3, hr3, hk3, hn3⟩⟩
      · have G3 := Lib.hid (grown_join G2.out g3)
        have Re : Hid (R = none) := Lib.hid Rn.out
        clear g3 cu3
        go_wp2_with fail
        go_ret2
        exact ⟨G3.out, .inl ⟨Re.out, _, _, _, rfl⟩⟩
      · have G3 := Lib.hid (grown_join G2.out g3)
        have C3 := Lib.hid cu3
        have S3 := Lib.hid (s3.mono G2.out.size)
        have S3' := Lib.hid s3
        have z2 := G2.out.size
        have k's := cu3.1
        have Re : Hid (R = if r.head? = some 41 then some (xs, r.tail) else none) := Lib.hid Rn.out
        have Hr3 := Lib.hid hr3
        clear g3 cu3 s3 hr3
        by_cases h4 : ∃ hk : k' < s.size, s[k'] = 41
        · obtain ⟨hk4, e4⟩ := h4
          have Rf : Hid (R = some (xs, rest s (k' + 1))) := Lib.hid (by
            rw [Re.out, ← Hr3.out, if_pos ((rest_head s k' 41 k's).2 ⟨hk4, e4⟩), rest_cons s hk4]; rfl)
          go_wp2_with fail
          refine (curTake g k' s 41 w3 C3.out hs hk4 e4).mono ?_
          rintro e w4 ⟨rfl, c4, g4⟩
          have C4 := Lib.hid c4
          have G4 := Lib.hid (grown_join G3.out g4)
          have S4 : Hid (Slc w4 w.heap.size A n c (ofN xs)) := Lib.hid (S3.out.kept g4 (by
            rcases e : (Value.slice A n c).ownBlock with _ | q
            · exact .inl rfl
            · right; intro e2; have h1 := (S3.out.lt_ q e).1; injection e2 with e2; omega))
          clear c4 g4 e4
          go_wp2_with fail
          go_ret2
          exact ⟨G4.out, .inr ⟨xs, _, A, n, c, k' + 1, Rf.out, rfl, S4.out, C4.out, rfl, hn3⟩⟩
        · have Rf : Hid (R = none) := Lib.hid (by rw [Re.out, ← Hr3.out, if_neg (by rw [rest_head s k' 41 k's]; exact h4)])
          have H4 := Lib.hid h4
          clear h4
          go_wp2_with fail
          refine (curNot g k' s 41 w3 C3.out (fun hk e => H4.out ⟨hk, e⟩)).mono ?_
          rintro e w4 ⟨rfl, m4, rfl⟩
          go_wp2_with fail
          go_ret2
          exact ⟨grown_drewN G3.out _, .inl ⟨Rf.out, _, _, _, rfl⟩⟩
  · have Rn : Hid (R = none) := Lib.hid (by rw [hR.out]; exact cycP_no (by rw [Ne, rest_head s k 40 hks]; exact h1))
    have H1 := Lib.hid h1
    clear h1
    go_enter Tryd.func35, Tryd.ntmps35
    go_wp2_with fail
    refine (curNot g k s 40 w H.out (fun hk e => H1.out ⟨hk, e⟩)).mono ?_
    rintro e w1 ⟨rfl, m, rfl⟩
    go_wp2_with fail
    go_ret2
    exact ⟨grown_drewN (grown_refl _ _) _, .inl ⟨Rn.out, _, _, _, rfl⟩⟩

set_option maxHeartbeats 1000000 in
/-- setCycle. -/
theorem implSet (g n c base : Nat) (q : List Int) (A : Option Addr) (m cm : Nat) (xs : List Nat) (w : World) (hq : Row w base g n c q) (hx : RI w w.heap.size A (ofN xs)) (hxg : ∀ b off, A = some ⟨b, off, none⟩ → 0 < m → b ≠ g) (lx : Hid (xs.length = m)) (hn : n ≤ 20) (hm : m ≤ 2000) :
    Calls Tryd.prog 36 #[.slice (some ⟨g, 0, none⟩) n c, .slice A m cm] w fun e w' => e = .returned (.bool (allLt n xs)) ∧ (allLt n xs = true → Row w' base g n c (setAll q xs)) ∧ w.grownBy w' (some g) := by
  have lq := hq.1
  have Q := Lib.hid hq
  clear hq
  go_enter Tryd.func36, Tryd.ntmps36
  go_wp2
  go_loopg [5, 6, 9] m (fun gg _ _ i wr => ∃ k, k ≤ m ∧ m - k ≤ gg ∧ i = .int .i64 (k : Nat) ∧ Row wr base g n c (setK q xs k) ∧ allLt n (xs.take k) = true ∧ w.grownBy wr (some g))
  case atStart => exact ⟨0, Nat.zero_le _, by omega, rfl, Q.out, rfl, grown_refl _ _⟩
  case round =>
    obtain ⟨k, hk, hg, rfl, row, hall, gro⟩ := hrel
    have Rw := Lib.hid row
    have Al := Lib.hid hall
    have Gr := Lib.hid gro
    clear row hall gro
    by_cases hlt : k < m
    · obtain ⟨b, off, rfl, hb, hc⟩ := hx (by rw [ofN_len, lx.out]; omega)
      have hbg := hxg b off rfl (by omega)
      have hbw : b < w.heap.size := hb
      have hm2 := Nat.mod_lt (k + 1) (show 0 < m by omega)
      have cellAt : ∀ j, j < m → wr.cell? ⟨b, off + j, none⟩ = some (.int .i64 ((xs.getD j 0 : Nat) : Int)) := fun j hj => by
        rw [World.cell?_of_block (Gr.out.block b hbw (fun e => hbg (by injection e))), hc j (by rw [ofN_len, lx.out]; exact hj)]
        have : (ofN xs).getD j 0 = ((xs.getD j 0 : Nat) : Int) := by
          unfold ofN
          rw [List.getD_eq_getElem?_getD, List.getElem?_map, List.getD_eq_getElem?_getD, List.getElem?_eq_getElem (by rw [lx.out]; exact hj)]; rfl
        rw [this]
      have c1 := cellAt k hlt
      have c2 := cellAt ((k + 1) % m) hm2
      obtain ⟨x, ex⟩ : ∃ x, xs.getD k 0 = x := ⟨_, rfl⟩
      obtain ⟨y, ey⟩ : ∃ y, xs.getD ((k + 1) % m) 0 = y := ⟨_, rfl⟩
      have Sk : Hid (setK q xs (k + 1) = (setK q xs k).set x (y : Int)) := Lib.hid (by rw [setK, lx.out, ex, ey])
      have Tk : Hid (xs.take (k + 1) = xs.take k ++ [x]) := Lib.hid (by
        rw [List.take_succ_eq_append_getElem (by rw [lx.out]; exact hlt), ← ex, List.getD_eq_getElem?_getD, List.getElem?_eq_getElem (by rw [lx.out]; exact hlt)]; rfl)
      obtain ⟨z, ez⟩ : ∃ z, (k + 1) % m = z := ⟨_, rfl⟩
      have eint : (((k : Int) + 1) % (m : Int)) = (z : Int) := by rw [← ez]; exact_mod_cast rfl
      rw [ex] at c1
      rw [ey, ez] at c2
      rw [ez] at hm2
      by_cases hxn : x < n
      · have d1 : decide ((n : Int) ≤ (x : Int)) = false := by simp; omega
        have c3 := Rw.out.cell hxn
        have f3 := Rw.out.free x
        have Rw2 := Lib.hid (Rw.out.store x (y : Int))
        have Gr2 := Lib.hid (grown_set Gr.out x (.int .i64 (y : Int)))
        have Al2 : Hid (allLt n (xs.take (k + 1)) = true) := Lib.hid (by
          have := Al.out
          unfold allLt at this ⊢
          rw [Tk.out, List.all_append, this]; simpa using hxn)
        clear cellAt hc ex ey ez
        go_wp2
        go_roundg (m - (k + 1))
        case rel => exact ⟨k + 1, by omega, Nat.le_refl _, by go_num, by rw [Sk.out]; exact Rw2.out, Al2.out, Gr2.out⟩
        case measure => omega
      · have d1 : decide ((n : Int) ≤ (x : Int)) = true := by simp; omega
        have F : Hid (allLt n xs = false) := Lib.hid (by
          rw [Bool.eq_false_iff]
          intro h
          unfold allLt at h
          rw [List.all_eq_true] at h
          have hm : x ∈ xs := List.mem_of_mem_take (i := k + 1) (by rw [Tk.out]; simp)
          have := h x hm
          simp at this
          omega)
        clear cellAt hc ex ey ez
        go_wp2
        go_ret
        refine ⟨by rw [F.out]; rfl, ?_, Gr.out⟩
        intro h
        rw [F.out] at h
        cases h
    · have hkm : k = m := by omega
      subst hkm
      have F : Hid (allLt n xs = true) := Lib.hid (by have := Al.out; rw [List.take_of_length_le (by rw [lx.out]; exact Nat.le_refl _)] at this; exact this)
      have Sf : Hid (setK q xs k = setAll q xs) := Lib.hid (by unfold setAll; rw [lx.out])
      go_wp2
      go_ret
      exact ⟨by rw [F.out]; rfl, fun _ => by rw [← Sf.out]; exact Rw.out, Gr.out⟩
end Go.Proofs.YtplgdbkolklgnaaDoor
