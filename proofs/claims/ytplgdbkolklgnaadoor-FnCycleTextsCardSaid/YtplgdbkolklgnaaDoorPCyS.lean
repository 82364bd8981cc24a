/- The model's parseCycle. Conditions: at most 1000 bytes; a permutation's row of at most 20. -/
import Derived.Test.YtplgdbkolklgnaaDoorPCyI
import Derived.Test.YtplgdbkolklgnaaDoorImg
import Derived.RegionTactic
namespace Go.Proofs.YtplgdbkolklgnaaDoor
open Go.RowKit

/-- Whether a cycle is read: numbers, all below n. -/
def okC (n : Nat) (R : Option (List Nat)) : Bool := match R with
  | some xs => allLt n xs
  | none => false
theorem okC_some {n : Nat} {R : Option (List Nat)} {xs : List Nat} (h : R = some xs) : okC n R = allLt n xs := by subst h; rfl
theorem okC_none {n : Nat} {R : Option (List Nat)} (h : R = none) : okC n R = false := by subst h; rfl
theorem grown_drew1 {a w : World} {row : Option Nat} (h : a.grownBy w row) : a.grownBy w.drew row := ⟨h.os, h.tape, h.output, h.size, h.block⟩
theorem mapM_mem : ∀ (l : List (List UInt8)) (ys : List Nat), l.mapM pW = some ys → ∀ v ∈ l, ∀ x, pW v = some x → x ∈ ys := by
  intro l
  induction l with
  | nil => intro ys _ v hv; cases hv
  | cons a l ih =>
    intro ys h v hv x hx
    rw [mapM_cons_] at h
    cases ha : pW a with
    | none => rw [ha] at h; cases h
    | some y =>
      rw [ha] at h
      cases hl : l.mapM pW with
      | none => rw [hl] at h; cases h
      | some zs =>
        rw [hl] at h
        simp at h
        subst h
        rcases List.mem_cons.1 hv with rfl | hv
        · rw [ha] at hx; injection hx with hx; subst hx; exact List.mem_cons_self
        · exact List.mem_cons_of_mem _ (ih zs hl v hv x hx)
theorem take_mem {ls : List (List UInt8)} {k : Nat} {v : List UInt8} (h : ls.take (k + 1) = ls.take k ++ [v]) : v ∈ ls := List.mem_of_mem_take (i := k + 1) (by rw [h]; simp)
theorem allLt_snoc {n x : Nat} {xs : List Nat} (h : allLt n xs = true) (hx : x < n) : allLt n (xs ++ [x]) = true := by
  unfold allLt at h ⊢; rw [List.all_append, h]; simpa using hx
theorem okC_out {n x : Nat} {ls : List (List UInt8)} {v : List UInt8} (hm : v ∈ ls) (hp : pW v = some x) (hx : ¬ x < n) : okC n (ls.mapM pW) = false := by
  cases h : ls.mapM pW with
  | none => rfl
  | some ys =>
    show allLt n ys = false
    rw [Bool.eq_false_iff]
    intro ha
    unfold allLt at ha
    rw [List.all_eq_true] at ha
    have := ha x (mapM_mem ls ys h v hm x hp)
    simp at this
    omega

set_option maxHeartbeats 1600000 in
theorem specPC (g n c base : Nat) (q : List Int) (s : ByteArray) (w : World) (hq : Row w base g n c q) (hs : s.size ≤ 1000) (hn : n ≤ 20) (R : Option (List Nat)) (hR : Hid (R = wordsP 32 s.toList)) :
    Calls Tryd.prog 44 #[.slice (some ⟨g, 0, none⟩) n c, .string s] w fun e w' => e = .returned (.bool (okC n R)) ∧ (∀ xs, R = some xs → allLt n xs = true → Row w' base g n c (setAll q xs)) ∧ w.grownBy w' (some g) := by
  have Q := Lib.hid hq
  have hgw := hq.lt_.2
  clear hq
  go_enter Tryd.func44, Tryd.ntmps44
  go_wp2_with fail
  refine (specSplit s 32 w (by omega)).mono ?_
  rintro e w1 ⟨A1, n1, c1, ws, rfl, t1, hw, h1n, hn1, hsz, b1⟩
  have T1 := Lib.hid t1
  have Q1 : Hid (Row w1 base g n c q) := Lib.hid (Q.out.below b1 hgw)
  have G1 : Hid (w.grownBy w1 (some g)) := Lib.hid (grown_below (grown_refl _ _) b1)
  have Hw := Lib.hid hw
  have Sz := Lib.hid hsz
  have lw := t1.1
  have z1 : w.heap.size ≤ w1.heap.size := b1.size
  clear t1 b1 hw hsz
  go_wp2_with fail
  go_loopg [6, 7, 8, 9] n1 (fun gg v i _ _ wr => ∃ k A c xs, k ≤ n1 ∧ n1 - k ≤ gg ∧ i = .int .i64 (k : Nat) ∧ v = .slice A k c ∧ Slc wr w1.heap.size A k c (ofN xs) ∧ ((splitB 32 s.toList).take k).mapM pW = some xs ∧ allLt n xs = true ∧ Below w1.heap.size w1 wr)
  case atStart => exact ⟨0, _, _, [], Nat.zero_le _, by omega, rfl, rfl, Slc.lit0 w1 _ (Nat.le_refl _), rfl, rfl, (Below.refl _ _).alloc (Nat.le_refl _) _⟩
  case round =>
    obtain ⟨k, A, ca, xs, hk, hg, rfl, rfl, sl, hm, hal, bel⟩ := hrel
    have Sl := Lib.hid sl
    have Hm := Lib.hid hm
    have Al := Lib.hid hal
    have Bel := Lib.hid bel
    have Rw : Hid (Row wr base g n c q) := Lib.hid (Q1.out.below bel (by omega))
    have Gr : Hid (w.grownBy wr (some g)) := Lib.hid (grown_past G1.out (grown_below (grown_refl _ none) bel) (by intro k e; cases e))
    clear sl hm hal bel
    by_cases hlt : k < n1
    · obtain ⟨g2, rfl, hg1, hg2, hc⟩ := T1.out.at_ (by omega)
      have c0 := (Bel.out.cell (p := ⟨g2, k, none⟩) hg2).trans (hc k (by omega))
      obtain ⟨u, eu⟩ : ∃ u, ws[k]'(by omega) = u := ⟨_, rfl⟩
      have hu : u.size ≤ s.size := by rw [← eu]; exact Sz.out _ (List.getElem_mem _)
      have Tk : Hid ((splitB 32 s.toList).take (k + 1) = (splitB 32 s.toList).take k ++ [u.toList]) := Lib.hid (by rw [← Hw.out, take_succ_map (by omega), eu])
      rw [eu] at c0
      clear eu hc
      rcases hp : pW u.toList with _ | x
      · have Hp := Lib.hid hp
        have Fin : Hid (R = none) := Lib.hid (by rw [hR.out, wordsP, mapM_take_none Tk.out hp])
        clear hp
        go_wp2_with fail
        refine (specInt u wr (by omega) none Hp).mono ?_
        rintro e w2 ⟨rfl, rfl⟩
        go_wp2_with fail
        go_ret
        exact ⟨by rw [okC_none Fin.out]; rfl, fun xs h => (by rw [Fin.out] at h; cases h), Gr.out⟩
      · have Hp := Lib.hid hp
        have Hm2 := Lib.hid (mapM_take_some Tk.out Hm.out hp)
        by_cases hxn : x < n
        · have d1 : decide ((n : Int) ≤ (x : Int)) = false := by simp; omega
          have Al2 := Lib.hid (allLt_snoc Al.out hxn)
          clear hp
          go_wp2_with fail
          refine (specInt u wr (by omega) (some x) Hp).mono ?_
          rintro e w2 ⟨rfl, rfl⟩
          go_wp2_with (first | (at_builtin; refine wpList_app1 rfl _ _ rfl w1.heap.size A k ca _ rfl (Sl.out.alloc _) wr.heap.size (x : Int) rfl (by rw [World.cell?_alloc_at _ _ _ _ rfl]; rfl) (by omega) (by have := Bel.out.size; simp; omega) ?_; intro A3 c3 w3 s3 g3))
          have S3 : Hid (Slc w3 w1.heap.size A3 (k + 1) c3 (ofN (xs ++ [x]))) := Lib.hid (by rw [ofN_snoc]; exact s3)
          have Bel3 : Hid (Below w1.heap.size w1 w3) := Lib.hid ((Bel.out.alloc Bel.out.size _).grown g3 (by have := Bel.out.size; simp; omega) (fun j hj => (Sl.out.lt_ j hj).1))
          clear s3 g3
          go_wp2
          go_roundg (n1 - (k + 1))
          case rel => exact ⟨k + 1, A3, c3, _, by omega, Nat.le_refl _, by go_num, rfl, S3.out, Hm2.out, Al2.out, Bel3.out⟩
          case measure => omega
        · have d1 : decide ((n : Int) ≤ (x : Int)) = true := by simp; omega
          have Fin : Hid (okC n R = false) := Lib.hid (by rw [hR.out, wordsP]; exact okC_out (take_mem Tk.out) hp hxn)
          clear hp
          go_wp2_with fail
          refine (specInt u wr (by omega) (some x) Hp).mono ?_
          rintro e w2 ⟨rfl, rfl⟩
          go_wp2_with fail
          go_ret
          exact ⟨by rw [Fin.out]; rfl, fun ys h ha => (by have := Fin.out; rw [okC_some h, ha] at this; cases this), Gr.out⟩
    · have hkn : k = n1 := by omega
      subst hkn
      have Fin : Hid (R = some xs) := Lib.hid (by
        have := Hm.out
        rw [List.take_of_length_le (by rw [← Hw.out, List.length_map, lw]; exact Nat.le_refl _)] at this
        rw [hR.out, wordsP, this])
      have lx : xs.length = k := by have := Sl.out.1; rw [ofN_len] at this; exact this
      have Lx := Lib.hid lx
      clear lx
      obtain ⟨wl, rfl⟩ : ∃ wl, wl = wr := ⟨_, rfl⟩
      go_wp2_with fail
      go_loopg [10] k (fun gg i wr2 => ∃ j, j ≤ k ∧ k - j ≤ gg ∧ i = .int .i64 (j : Nat) ∧ Row wr2 base g n c (setK q xs j) ∧ wl.grownBy wr2 (some g))
      case atStart => exact ⟨0, Nat.zero_le _, by omega, rfl, Rw.out, grown_refl _ _⟩
      case round =>
        obtain ⟨j, hj, hgj, rfl, row, gro⟩ := hrel
        have Rw2 := Lib.hid row
        have Gr2 := Lib.hid gro
        clear row gro
        by_cases hjl : j < k
        · obtain ⟨b, off, rfl, hb, hc⟩ := Sl.out.ri_ (by rw [Sl.out.1]; omega)
          have hbg : b ≠ g := by
            rcases Sl.out.at_ with ⟨_, _, e0, _⟩ | ⟨q3, e0, e1, e2⟩
            · omega
            · injection e0 with e0; injection e0 with e0; omega
          have hm2 := Nat.mod_lt (j + 1) (show 0 < k by omega)
          have cellAt : ∀ i, i < k → wr.cell? ⟨b, off + i, none⟩ = some (.int .i64 ((xs.getD i 0 : Nat) : Int)) := fun i hi => by
            rw [World.cell?_of_block (Gr2.out.block b hb (fun e => hbg (by injection e))), hc i (by rw [ofN_len, Lx.out]; exact hi)]
            have : (ofN xs).getD i 0 = ((xs.getD i 0 : Nat) : Int) := by
              unfold ofN
              rw [List.getD_eq_getElem?_getD, List.getElem?_map, List.getD_eq_getElem?_getD, List.getElem?_eq_getElem (by rw [Lx.out]; exact hi)]; rfl
            rw [this]
          have c1' := cellAt j hjl
          have c2' := cellAt ((j + 1) % k) hm2
          obtain ⟨x, ex⟩ : ∃ x, xs.getD j 0 = x := ⟨_, rfl⟩
          obtain ⟨y, ey⟩ : ∃ y, xs.getD ((j + 1) % k) 0 = y := ⟨_, rfl⟩
          have Sk : Hid (setK q xs (j + 1) = (setK q xs j).set x (y : Int)) := Lib.hid (by rw [setK, Lx.out, ex, ey])
          have hxn : x < n := by
            have ha := Al.out
            unfold allLt at ha
            rw [List.all_eq_true] at ha
            have hmem : x ∈ xs := by
              rw [← ex, List.getD_eq_getElem?_getD, List.getElem?_eq_getElem (by rw [Lx.out]; exact hjl)]
              exact List.getElem_mem _
            have := ha x hmem
            simpa using this
          obtain ⟨z, ez⟩ : ∃ z, (j + 1) % k = z := ⟨_, rfl⟩
          have eint : (((j : Int) + 1) % (k : Int)) = (z : Int) := by rw [← ez]; exact_mod_cast rfl
          rw [ex] at c1'
          rw [ey, ez] at c2'
          rw [ez] at hm2
          have c3 := Rw2.out.cell hxn
          have f3 := Rw2.out.free x
          have Rw3 := Lib.hid (Rw2.out.store x (y : Int))
          have Gr3 := Lib.hid (grown_set Gr2.out x (.int .i64 (y : Int)))
          clear cellAt hc ex ey ez
          go_wp2_with fail
          go_region
          all_goals go_wp2_with fail
          all_goals go_roundg (k - (j + 1))
          case rel => exact ⟨j + 1, by omega, Nat.le_refl _, by go_num, by rw [Sk.out]; exact Rw3.out.drew, grown_drew1 Gr3.out⟩
          case measure => omega
        · have hjk : j = k := by omega
          subst hjk
          have Sf : Hid (setK q xs j = setAll q xs) := Lib.hid (by unfold setAll; rw [Lx.out])
          have G2 : Hid (w.grownBy wr (some g)) := Lib.hid (grown_join Gr.out Gr2.out)
          go_wp2_with fail
          go_ret
          exact ⟨by rw [okC_some Fin.out, Al.out]; rfl, fun ys h _ => (by rw [Fin.out] at h; injection h with h; subst h; rw [← Sf.out]; exact Rw2.out), G2.out⟩
end Go.Proofs.YtplgdbkolklgnaaDoor
