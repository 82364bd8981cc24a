/- The model's ParseCycles. Condition: at most 2097152 bytes. -/
import Derived.Test.YtplgdbkolklgnaaDoorPCyS
namespace Go.Proofs.YtplgdbkolklgnaaDoor
open Go.RowKit

theorem pcM_bad {n : Nat} {l : List UInt8} (h : ¬ (2 ≤ l.length ∧ l.head? = some 40 ∧ l.getLast? = some 41)) : pcM n l = none := by
  unfold pcM
  rw [if_neg (fun e => h (by subst e; exact ⟨by decide, rfl, rfl⟩)), if_neg h]
theorem cycO_bad {n : Int} {s : ByteArray} (h : ¬ (2 ≤ s.toList.length ∧ s.toList.head? = some 40 ∧ s.toList.getLast? = some 41)) : cycO n s = none := by
  by_cases hr : 1 ≤ n ∧ n ≤ 20 ∧ s.size ≤ 200
  · rw [cycO_model hr, pcM_bad h]; rfl
  · exact cycO_out hr
/-- Where the model's way stands before part k. -/
def pcInv (l inner : List UInt8) (RR : Option (List Int)) (k : Nat) (q : List Int) : Prop :=
  (l = [40, 41] → RR = some q) ∧ (l ≠ [40, 41] → pcS (decide (k = 0)) q ((splitB 41 inner).drop k) = RR)
theorem pcInv_start {n : Nat} {l inner : List UInt8} (h : 2 ≤ l.length ∧ l.head? = some 40 ∧ l.getLast? = some 41) (hi : inner = (l.drop 1).take (l.length - 2)) : pcInv l inner (pcM n l) 0 (idL n) := by
  refine ⟨fun e => ?_, fun e => ?_⟩
  · unfold pcM; rw [if_pos e]
  · unfold pcM; rw [if_neg e, if_pos h, hi]; rfl
theorem pcInv_end {l inner : List UInt8} {RR : Option (List Int)} {k : Nat} {q : List Int} (h : pcInv l inner RR k q) (he : (splitB 41 inner).length ≤ k ∨ l = [40, 41]) : RR = some q := by
  by_cases e : l = [40, 41]
  · exact h.1 e
  · rcases he with he | he
    · rw [← h.2 e, List.drop_eq_nil_of_le he, pcS]
    · exact absurd he e
/-- What a part's numbers lead to. -/
def stepR (n : Nat) (q : List Int) (ps : List (List UInt8)) (R : Option (List Nat)) : Option (List Int) := match R with
      | none => none
      | some xs => if allLt n xs = true then pcS false (setAll q xs) ps else none
theorem stepR_no {n : Nat} {q : List Int} {ps : List (List UInt8)} {R : Option (List Nat)} (h : okC n R = false) : stepR n q ps R = none := by
  cases R with
  | none => rfl
  | some xs => have h : allLt n xs = false := h; unfold stepR; simp [h]
theorem stepR_yes {n : Nat} {q : List Int} {ps : List (List UInt8)} {R : Option (List Nat)} (h : okC n R = true) : ∃ xs, R = some xs ∧ allLt n xs = true ∧ stepR n q ps R = pcS false (setAll q xs) ps := by
  cases R with
  | none => cases h
  | some xs => have h : allLt n xs = true := h; exact ⟨xs, rfl, h, by unfold stepR; simp [h]⟩
theorem pcInv_first {l inner : List UInt8} {RR : Option (List Int)} {k n : Nat} {q : List Int} {v : List UInt8} (h : pcInv l inner RR k q) (hl : l ≠ [40, 41]) (hk : k = 0) (lq : q.length = n) (hd : (splitB 41 inner).drop k = v :: (splitB 41 inner).drop (k + 1)) : RR = stepR n q ((splitB 41 inner).drop (k + 1)) (wordsP 32 v) := by
  rw [← h.2 hl, hd, decide_eq_true hk, pcS_first, lq]; rfl
theorem pcInv_next {l inner : List UInt8} {RR : Option (List Int)} {k n : Nat} {q : List Int} {v t : List UInt8} (h : pcInv l inner RR k q) (hl : l ≠ [40, 41]) (hk : k ≠ 0) (lq : q.length = n) (hd : (splitB 41 inner).drop k = v :: (splitB 41 inner).drop (k + 1)) (hv : v = 40 :: t) : RR = stepR n q ((splitB 41 inner).drop (k + 1)) (wordsP 32 t) := by
  subst hv; rw [← h.2 hl, hd, decide_eq_false hk, pcS_next, lq]; rfl
theorem pcInv_bad {l inner : List UInt8} {RR : Option (List Int)} {k : Nat} {q : List Int} {v : List UInt8} (h : pcInv l inner RR k q) (hl : l ≠ [40, 41]) (hk : k ≠ 0) (hd : (splitB 41 inner).drop k = v :: (splitB 41 inner).drop (k + 1)) (hv : v.head? ≠ some 40) : RR = none := by
  rw [← h.2 hl, hd, decide_eq_false hk, pcS_bad _ _ _ hv]
theorem pcInv_go {l inner : List UInt8} {RR : Option (List Int)} {k : Nat} {q : List Int} (hl : l ≠ [40, 41]) (h : pcS false q ((splitB 41 inner).drop (k + 1)) = RR) : pcInv l inner RR (k + 1) q := ⟨fun e => absurd e hl, fun _ => h⟩
theorem last_toList (s : ByteArray) {t : Nat} (h : t + 1 = s.size) : s.toList.getLast? = some (s[t]'(by omega)) := by
  have e : s.size - 1 = t := by omega
  rw [List.getLast?_eq_getElem?, len_toList, e]
  rw [List.getElem?_eq_getElem (by rw [len_toList]; omega)]
  have := rest_get s 0 t (by rw [rest_len]; omega) (by omega)
  simp only [Nat.zero_add] at this
  rw [← this]
  rfl
theorem drop_map {ws : List ByteArray} {k : Nat} (hk : k < ws.length) : (ws.map ByteArray.toList).drop k = ws[k].toList :: (ws.map ByteArray.toList).drop (k + 1) := by
  rw [List.drop_eq_getElem_cons (by rw [List.length_map]; exact hk), List.getElem_map]
theorem bne40 {x : UInt8} {b : UInt8} (h : x ≠ b) : ((x.toNat : Int) != (b.toNat : Int)) = true := by
  rw [bne_iff_ne]; exact fun e => h (UInt8.toNat_inj.1 (by omega))

set_option maxHeartbeats 2000000 in
theorem specPC_core (n : Nat) (s : ByteArray) (w : World) (h1 : 1 ≤ n) (h2 : n ≤ 20) (h3 : s.size ≤ 200) (t : Nat) (ht : Hid (t + 1 = s.size)) (t1 : 1 ≤ t) (z0 : 0 < s.size) (b0 : s[0] = 40) (bt : ∀ h : t < s.size, s[t] = 41) (O : Option (List Int)) (hO : Hid (O = chk s.toList (pcM n s.toList))) :
    Calls Tryd.prog 17 #[.int .i64 (n : Int), .string s] w fun e w' => ∃ A m c, e = .returned (.tuple #[.slice A m c, .bool O.isSome]) ∧ Slc w' w.heap.size A m c (O.getD []) ∧ m ≤ 20 ∧ Below w.heap.size w w' := by
  have hts : t < s.size := by have := ht.out; omega
  have d1 : decide ((s.size : Int) < 2) = false := by have := ht.out; simp; omega
  have d3 : decide ((200 : Int) < s.size) = false := by simp; omega
  have f0 : (((s[0]).toNat : Int) != 40) = false := by rw [b0]; rfl
  have ft : (((s[t]).toNat : Int) != 41) = false := by rw [bt hts]; rfl
  have et : (s.size : Int) - 1 = (t : Int) := by have := ht.out; omega
  have p1 : (1 : Int) ≤ t := by omega
  have p2 : (t : Int) ≤ s.size := by omega
  have p3 : (0 : Int) < s.size := by omega
  have p4 : (t : Int) < s.size := by omega
  have p5 : (0 : Int) ≤ t := by omega
  obtain ⟨inner, hin⟩ : ∃ l, (s.extract 1 t).toList = l := ⟨_, rfl⟩
  have Inn := Lib.hid hin
  clear hin
  obtain ⟨RR, hRR⟩ : ∃ RR, pcM n s.toList = RR := ⟨_, rfl⟩
  have Start : Hid (pcInv s.toList inner RR 0 (idL n)) := Lib.hid (by
    rw [← hRR]
    refine pcInv_start ⟨by rw [len_toList]; omega, by rw [head_toList s z0, b0], by rw [last_toList s ht.out, bt hts]⟩ ?_
    rw [← Inn.out, extract_toList, len_toList]
    have := ht.out
    rw [show s.size - 2 = t - 1 by omega])
  rw [hRR] at hO
  clear hRR b0 bt
  go_enter Tryd.func17, Tryd.ntmps17
  go_wp2_with (first | (go_at_call 41; refine (inR_true _ _ _ _ (by omega) (by omega)).mono ?_; rintro e w' ⟨rfl, rfl⟩) | (go_at_call 42; refine (specIdent n w (by omega)).mono ?_; rintro e w1 ⟨A1, c1, rfl, s1, b1⟩))
  obtain ⟨gp, rfl, hg1, hg2⟩ : ∃ gp, A1 = some ⟨gp, 0, none⟩ ∧ w.heap.size ≤ gp ∧ gp < w1.heap.size := by
    rcases s1.at_ with ⟨_, _, e0, _⟩ | ⟨gp, e0, e1, e2⟩
    · omega
    · exact ⟨gp, e0, e1, e2⟩
  have Q1 : Hid (Row w1 w.heap.size gp n c1 (idL n)) := Lib.hid (Row.of_own (by have := s1.2; rw [← s1.1] at this; rw [s1.1] at this; exact this))
  have B1 := Lib.hid b1
  have z1 := b1.size
  have hnc := s1.le.1
  clear s1 b1
  go_wp2_with fail
  refine (specSplit (s.extract 1 t) 41 w1 (by rw [ByteArray.size_extract]; omega)).mono ?_
  rintro e w2 ⟨A2, n2, c2, ws, rfl, t2, hw, h1n, hn1, hsz, b2⟩
  have T2 := Lib.hid t2
  have Q2 : Hid (Row w2 w.heap.size gp n c1 (idL n)) := Lib.hid (Q1.out.below b2 hg2)
  have B2 : Hid (Below w.heap.size w w2) := Lib.hid (btr B1.out b2)
  have Hw : Hid (ws.map ByteArray.toList = splitB 41 inner) := Lib.hid (by rw [hw, Inn.out])
  have Sz : Hid (∀ u ∈ ws, u.size ≤ 200) := Lib.hid fun u hu => by have := hsz u hu; rw [ByteArray.size_extract] at this; omega
  have lw := t2.1
  have z2 := b2.size
  clear t2 b2 hw hsz
  go_wp2_with fail
  go_loopg [8, 9] n2 (fun gg i _ wr => ∃ k q, k ≤ n2 ∧ n2 - k ≤ gg ∧ i = .int .i64 (k : Nat) ∧ Row wr w.heap.size gp n c1 q ∧ pcInv s.toList inner RR k q ∧ w2.grownBy wr (some gp) ∧ Below w.heap.size w wr)
  case atStart => exact ⟨0, idL n, Nat.zero_le _, by omega, rfl, Q2.out, Start.out, grown_refl _ _, B2.out⟩
  case round =>
    obtain ⟨k, q, hk, hg, rfl, row, inv, gro, bel⟩ := hrel
    have Rw := Lib.hid row
    have Inv := Lib.hid inv
    have Gr := Lib.hid gro
    have Bel := Lib.hid bel
    have lq := row.1
    clear row inv gro bel
    by_cases hgo : k < n2 ∧ s.toList ≠ [40, 41]
    · have hlt := hgo.1
      have Hne := Lib.hid hgo.2
      have te : (s.toList == [40, 41]) = false := by simpa using hgo.2
      obtain ⟨g2, rfl, hg3, hg4, hc⟩ := (T2.out.kept Gr.out (by
        right
        intro e
        have := (T2.out.lt_ _ e).1
        omega)).at_ (by omega)
      have c0 := hc k (by omega)
      obtain ⟨u, eu⟩ : ∃ u, ws[k]'(by omega) = u := ⟨_, rfl⟩
      have hu : u.size ≤ 200 := by rw [← eu]; exact Sz.out _ (List.getElem_mem _)
      have Dk : Hid ((splitB 41 inner).drop k = u.toList :: (splitB 41 inner).drop (k + 1)) := Lib.hid (by rw [← Hw.out, drop_map (by omega), eu])
      rw [eu] at c0
      clear eu hc hgo
      by_cases hk0 : k = 0
      · have dk : decide (0 < k) = false := by simp; omega
        have St : Hid (RR = stepR n q ((splitB 41 inner).drop (k + 1)) (wordsP 32 u.toList)) := Lib.hid (pcInv_first Inv.out Hne.out hk0 lq Dk.out)
        clear hk0
        go_wp2_with fail
        refine (specPC gp n c1 w.heap.size q u wr Rw.out (by omega) h2 (wordsP 32 u.toList) (Lib.hid rfl)).mono ?_
        rintro e w4 ⟨he4, hrow, g4⟩
        have Bel4 : Hid (Below w.heap.size w w4) := Lib.hid (Bel.out.grown g4 Bel.out.size (fun k e => by injection e with e; omega))
        have Gr4 : Hid (w2.grownBy w4 (some gp)) := Lib.hid (grown_join Gr.out g4)
        rcases ha : okC n (wordsP 32 u.toList) with _ | _
        · have O1 : Hid (O = none) := Lib.hid (by rw [hO.out, St.out, stepR_no ha]; rfl)
          rw [ha] at he4
          subst he4
          clear hrow g4 ha
          go_wp2_with fail
          go_ret2
          exact ⟨_, _, _, by rw [O1.out]; rfl, by rw [O1.out]; exact Slc.lit0 w4 _ Bel4.out.size, Nat.zero_le _, Bel4.out.alloc Bel4.out.size _⟩
        · obtain ⟨xs, e1, e2, e3⟩ := stepR_yes (q := q) (ps := (splitB 41 inner).drop (k + 1)) ha
          have Rw4 := Lib.hid (hrow xs e1 e2)
          have Inv4 : Hid (pcInv s.toList inner RR (k + 1) (setAll q xs)) := Lib.hid (pcInv_go Hne.out (by rw [St.out, e3]))
          rw [ha] at he4
          subst he4
          clear hrow g4 ha e1 e2 e3
          go_wp2_with fail
          go_roundg (n2 - (k + 1))
          case rel => exact ⟨k + 1, setAll q xs, by omega, Nat.le_refl _, by go_num, Rw4.out, Inv4.out, Gr4.out, Bel4.out⟩
          case measure => omega
      · have dk : decide (0 < k) = true := by simp; omega
        have kp : 0 < k := by omega
        by_cases hu0 : u.size = 0
        · have e0 : ((u.size : Int) == 0) = true := by rw [beq_iff_eq]; omega
          have O1 : Hid (O = none) := Lib.hid (by
            rw [hO.out, pcInv_bad Inv.out Hne.out hk0 Dk.out (by rw [List.head?_eq_getElem?, List.getElem?_eq_none (by rw [len_toList]; omega)]; simp)]; rfl)
          clear hk0 hu0
          go_wp2_with fail
          go_ret2
          exact ⟨_, _, _, by rw [O1.out]; rfl, by rw [O1.out]; exact Slc.lit0 wr _ Bel.out.size, Nat.zero_le _, Bel.out.alloc Bel.out.size _⟩
        · have e0 : ((u.size : Int) == 0) = false := by rw [beq_eq_false_iff_ne]; omega
          have u0 : 0 < u.size := by omega
          have v0 : (0 : Int) < u.size := by omega
          have v1 : (1 : Int) ≤ u.size := by omega
          by_cases hb : u[0] = 40
          · have fb : (((u[0]).toNat : Int) != 40) = false := by rw [hb]; rfl
            obtain ⟨b, eb⟩ : ∃ b, u.extract 1 u.size = b := ⟨_, rfl⟩
            have sb : b.size ≤ 200 := by rw [← eb, ByteArray.size_extract]; omega
            have Sp : Hid (u.toList = 40 :: b.toList) := Lib.hid (by
              rw [← eb, extract_toList]
              have hh := head_toList u u0
              have hl := len_toList u
              cases hx : u.toList with
              | nil => rw [hx] at hl; simp at hl; omega
              | cons a r =>
                rw [hx] at hh hl
                simp at hh hl
                rw [hh, hb]
                show _ = 40 :: List.take _ r
                rw [List.take_of_length_le (by omega)])
            have St : Hid (RR = stepR n q ((splitB 41 inner).drop (k + 1)) (wordsP 32 b.toList)) := Lib.hid (pcInv_next Inv.out Hne.out hk0 lq Dk.out Sp.out)
            clear hk0 hu0 hb
            go_wp2_with fail
            refine (specPC gp n c1 w.heap.size q b wr Rw.out (by omega) h2 (wordsP 32 b.toList) (Lib.hid rfl)).mono ?_
            rintro e w4 ⟨he4, hrow, g4⟩
            have Bel4 : Hid (Below w.heap.size w w4) := Lib.hid (Bel.out.grown g4 Bel.out.size (fun k e => by injection e with e; omega))
            have Gr4 : Hid (w2.grownBy w4 (some gp)) := Lib.hid (grown_join Gr.out g4)
            rcases ha : okC n (wordsP 32 b.toList) with _ | _
            · have O1 : Hid (O = none) := Lib.hid (by rw [hO.out, St.out, stepR_no ha]; rfl)
              rw [ha] at he4
              subst he4
              clear hrow g4 ha
              go_wp2_with fail
              go_ret2
              exact ⟨_, _, _, by rw [O1.out]; rfl, by rw [O1.out]; exact Slc.lit0 w4 _ Bel4.out.size, Nat.zero_le _, Bel4.out.alloc Bel4.out.size _⟩
            · obtain ⟨xs, e1, e2, e3⟩ := stepR_yes (q := q) (ps := (splitB 41 inner).drop (k + 1)) ha
              have Rw4 := Lib.hid (hrow xs e1 e2)
              have Inv4 : Hid (pcInv s.toList inner RR (k + 1) (setAll q xs)) := Lib.hid (pcInv_go Hne.out (by rw [St.out, e3]))
              rw [ha] at he4
              subst he4
              clear hrow g4 ha e1 e2 e3
              go_wp2_with fail
              go_roundg (n2 - (k + 1))
              case rel => exact ⟨k + 1, setAll q xs, by omega, Nat.le_refl _, by go_num, Rw4.out, Inv4.out, Gr4.out, Bel4.out⟩
              case measure => omega
          · have fb : (((u[0]).toNat : Int) != 40) = true := bne40 (b := 40) hb
            have O1 : Hid (O = none) := Lib.hid (by
              rw [hO.out, pcInv_bad Inv.out Hne.out hk0 Dk.out (by rw [head_toList u u0]; intro e; injection e with e; exact hb e)]; rfl)
            clear hk0 hu0 hb
            go_wp2_with fail
            go_ret2
            exact ⟨_, _, _, by rw [O1.out]; rfl, by rw [O1.out]; exact Slc.lit0 wr _ Bel.out.size, Nat.zero_le _, Bel.out.alloc Bel.out.size _⟩
    · have Rq : Hid (RR = some q) := Lib.hid (pcInv_end Inv.out (by
        rw [← Hw.out, List.length_map, lw]
        by_cases hl : s.toList = [40, 41]
        · exact .inr hl
        · exact .inl (by have : ¬ k < n2 := fun h => hgo ⟨h, hl⟩; omega)))
      have key : ¬ k < n2 ∨ (k < n2 ∧ (s.toList == [40, 41]) = true) := by
        by_cases hl : k < n2
        · refine .inr ⟨hl, ?_⟩
          have : s.toList = [40, 41] := Decidable.byContradiction fun h => hgo ⟨hl, h⟩
          rw [this]; rfl
        · exact .inl hl
      clear hgo
      rcases key with dl | ⟨dl, te⟩
      all_goals
        go_wp2_with fail
        refine (specFormatCycles (some ⟨gp, 0, none⟩) c1 n q wr Rw.out.slc.ri_ Rw.out.slc.hid (by omega) hnc).mono ?_
        rintro e w3 ⟨tt, rfl, htt, b3⟩
        have Bel3 : Hid (Below w.heap.size w w3) := Lib.hid (btr Bel.out b3)
        have S3 := Lib.hid (Rw.out.slc.up b3)
        clear b3
        by_cases he : fmtCyc q = s.toList
        · have O1 : Hid (O = some q) := Lib.hid (by rw [hO.out, Rq.out, chk_yes he])
          have te2 : (tt.toList == s.toList) = true := by rw [htt, he]; simp
          clear htt he
          go_wp2_with fail
          go_ret2
          exact ⟨_, _, _, by rw [O1.out]; rfl, by rw [O1.out]; exact S3.out, h2, Bel3.out⟩
        · have O1 : Hid (O = none) := Lib.hid (by rw [hO.out, Rq.out, chk_no he])
          have te2 : (tt.toList == s.toList) = false := by rw [htt]; simpa using he
          clear htt he
          go_wp2_with fail
          go_ret2
          exact ⟨_, _, _, by rw [O1.out]; rfl, by rw [O1.out]; exact Slc.lit0 w3 _ Bel3.out.size, Nat.zero_le _, Bel3.out.alloc Bel3.out.size _⟩

/-- The model's ParseCycles. -/
theorem specParseCycles0 (n : Int) (s : ByteArray) (w : World) (hs : s.size ≤ 2097152) :
    Calls Tryd.prog 17 #[.int .i64 n, .string s] w fun e w' => ∃ A m c, e = .returned (.tuple #[.slice A m c, .bool (cycO n s).isSome]) ∧ Slc w' w.heap.size A m c ((cycO n s).getD []) ∧ m ≤ 20 ∧ Below w.heap.size w w' := by
  by_cases hr : 1 ≤ n ∧ n ≤ 20
  · by_cases d1 : s.size < 2
    · have d1' : decide ((s.size : Int) < 2) = true := by simp; omega
      have Fin : Hid (cycO n s = none) := Lib.hid (cycO_bad fun h => by have := h.1; rw [len_toList] at this; omega)
      go_enter Tryd.func17, Tryd.ntmps17
      go_wp2_with (go_at_call 41; refine (inR_true _ _ _ _ hr.1 hr.2).mono ?_; rintro e w' ⟨rfl, rfl⟩)
      go_ret2
      exact ⟨_, _, _, by rw [Fin.out]; rfl, by rw [Fin.out]; exact Slc.lit0 w _ (Nat.le_refl _), Nat.zero_le _, (Below.refl _ _).alloc (Nat.le_refl _) _⟩
    have d1' : decide ((s.size : Int) < 2) = false := by simp; omega
    by_cases h3 : s.size ≤ 200
    · have d3 : decide ((200 : Int) < s.size) = false := by simp; omega
      have z0 : 0 < s.size := by omega
      have p3 : (0 : Int) < s.size := by omega
      by_cases hb : s[0] = 40
      · obtain ⟨t, ht⟩ : ∃ t, t + 1 = s.size := ⟨s.size - 1, by omega⟩
        by_cases hb2 : s[t] = 41
        · obtain ⟨m, rfl⟩ := Int.eq_ofNat_of_zero_le (show 0 ≤ n by omega)
          exact specPC_core m s w (by omega) (by omega) h3 t (Lib.hid ht) (by omega) z0 hb (fun _ => hb2) _ (Lib.hid (cycO_model ⟨hr.1, hr.2, h3⟩))
        · have Fin : Hid (cycO n s = none) := Lib.hid (cycO_bad fun h => by
            have := h.2.2; rw [last_toList s ht] at this; injection this with this; exact hb2 this)
          have hts : t < s.size := by omega
          have f0 : (((s[0]).toNat : Int) != 40) = false := by rw [hb]; rfl
          have ft : (((s[t]).toNat : Int) != 41) = true := bne40 (b := 41) hb2
          have et : (s.size : Int) - 1 = (t : Int) := by omega
          have p4 : (t : Int) < s.size := by omega
          have p5 : (0 : Int) ≤ t := by omega
          clear ht hb hb2
          go_enter Tryd.func17, Tryd.ntmps17
          go_wp2_with (go_at_call 41; refine (inR_true _ _ _ _ hr.1 hr.2).mono ?_; rintro e w' ⟨rfl, rfl⟩)
          go_ret2
          exact ⟨_, _, _, by rw [Fin.out]; rfl, by rw [Fin.out]; exact Slc.lit0 w _ (Nat.le_refl _), Nat.zero_le _, (Below.refl _ _).alloc (Nat.le_refl _) _⟩
      · have Fin : Hid (cycO n s = none) := Lib.hid (cycO_bad fun h => by
          have := h.2.1; rw [head_toList s z0] at this; injection this with this; exact hb this)
        have f0 : (((s[0]).toNat : Int) != 40) = true := bne40 (b := 40) hb
        clear hb
        go_enter Tryd.func17, Tryd.ntmps17
        go_wp2_with (go_at_call 41; refine (inR_true _ _ _ _ hr.1 hr.2).mono ?_; rintro e w' ⟨rfl, rfl⟩)
        go_ret2
        exact ⟨_, _, _, by rw [Fin.out]; rfl, by rw [Fin.out]; exact Slc.lit0 w _ (Nat.le_refl _), Nat.zero_le _, (Below.refl _ _).alloc (Nat.le_refl _) _⟩
    · have d3 : decide ((200 : Int) < s.size) = true := by simp; omega
      have Fin : Hid (cycO n s = none) := Lib.hid (cycO_out fun h => h3 h.2.2)
      go_enter Tryd.func17, Tryd.ntmps17
      go_wp2_with (go_at_call 41; refine (inR_true _ _ _ _ hr.1 hr.2).mono ?_; rintro e w' ⟨rfl, rfl⟩)
      go_ret2
      exact ⟨_, _, _, by rw [Fin.out]; rfl, by rw [Fin.out]; exact Slc.lit0 w _ (Nat.le_refl _), Nat.zero_le _, (Below.refl _ _).alloc (Nat.le_refl _) _⟩
  · have Fin : Hid (cycO n s = none) := Lib.hid (cycO_out fun h => hr ⟨h.1, h.2.1⟩)
    have H1 : Hid (n < 1 ∨ 20 < n) := Lib.hid (by omega)
    go_enter Tryd.func17, Tryd.ntmps17
    go_wp2_with (go_at_call 41; refine (inR_false _ _ _ _ H1.out).mono ?_; rintro e w' ⟨rfl, rfl⟩)
    go_ret2
    exact ⟨_, _, _, by rw [Fin.out]; rfl, by rw [Fin.out]; exact Slc.lit0 w _ (Nat.le_refl _), Nat.zero_le _, (Below.refl _ _).alloc (Nat.le_refl _) _⟩
theorem specParseCycles (n : Int) (s : ByteArray) (w : World) (hs : s.size ≤ 2097152) (_hn : -9223372036854775808 ≤ n ∧ n ≤ 9223372036854775807) :
    Calls Tryd.prog 17 #[.int .i64 n, .string s] w fun e w' => ∃ A m c, e = .returned (.tuple #[.slice A m c, .bool (cycO n s).isSome]) ∧ Slc w' w.heap.size A m c ((cycO n s).getD []) ∧ m ≤ 20 ∧ Below w.heap.size w w' := specParseCycles0 n s w hs
end Go.Proofs.YtplgdbkolklgnaaDoor
