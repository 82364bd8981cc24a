/- Part 3 of the texts: CycType, SameT, Ext, Find, DrawC, WalkV, SSx, Ct, ChM, ChS, ChH, ChU, ChW, ChP. No condition of its own: each text tells its own. -/
import Derived.Test.YtcjcmhoalomjfabMg2
import Derived.Test.YtcjcmhoalomjfabMg1
import Derived.Deep.LoopGhost
import Derived.BigQuiet
import Derived.RegionTactic
import Derived.BigRegion
set_option linter.unusedVariables false
set_option linter.unusedSimpArgs false

/- CycleType and SameCycleType, of the program and of the model. No condition but lengths. -/
namespace Go.Proofs.Ytcjcmhoalomjfab
open Go.RowKit


set_option maxHeartbeats 800000 in
/-- The program's CycleType. -/
theorem implCycleType (A : Option Addr) (c n : Nat) (p : List Int) (w : World) (hp : RI w w.heap.size A p) (lp : Hid (p.length = n)) (hn : n ≤ 2097152) :
    Calls Try.prog 26 #[.slice A n c] w fun e w' => ∃ A' n' c', e = .returned (.slice A' n' c') ∧ Slc w' w.heap.size A' n' c' (ctypeL p) ∧ n' ≤ 20 ∧ Below w.heap.size w w' := by
  rcases hs : isP p with _ | _
  · have Fin : Hid (ctypeL p = []) := Lib.hid (if_neg (by rw [hs]; decide))
    go_enter Try.func26, Try.ntmps26
    go_wp2_with fail
    refine (implIsP A c n p w hp lp hn).mono ?_
    rintro e w1 ⟨rfl, b1⟩
    have B1 := Lib.hid b1
    clear b1
    go_wp2_with fail
    go_ret
    exact ⟨_, _, _, rfl, by rw [Fin.out]; exact Slc.nil_, Nat.zero_le _, B1.out⟩
  · have Ip := Lib.hid (isP_iff.1 hs)
    have Fin : Hid (ctypeL p = (((lens p).map Int.ofNat).mergeSort fun x y => decide (x ≤ y)).reverse) := Lib.hid ((if_pos hs).trans (ctype_sort Ip.out).symm)
    have hn20 : n ≤ 20 := by rw [← lp.out]; exact Ip.out.le
    go_enter Try.func26, Try.ntmps26
    go_wp2_with fail
    refine (implIsP A c n p w hp lp hn).mono ?_
    rintro e w0 ⟨rfl, b0⟩
    have B0 := Lib.hid b0
    clear b0
    go_wp2_with fail
    refine (implAll A c n p w0 (hp.up B0.out) lp Ip hn20).mono ?_
    rintro e w1 ⟨A1, M, c1, vs, rfl, s1, hm, b1⟩
    have S1 := Lib.hid s1
    have B1 : Hid (Below w.heap.size w w1) := Lib.hid (btr B0.out b1)
    have LM : Hid ((lens p).length = M) := Lib.hid ((lens_len p).trans s1.lx)
    have h1M : 1 ≤ M := by have := cycs_pos Ip.out; rw [s1.lx] at this; exact this
    clear s1 b1
    go_wp2_with fail
    clear hs
    go_loopw [3, 5, 12] (fun v _ i wr => ∃ k A' c', k ≤ M ∧ i = .int .i64 (k : Nat) ∧ v = .slice A' k c' ∧ Slc wr w1.heap.size A' k c' (lensI p k) ∧ Below w1.heap.size w1 wr) (fun _ _ i _ => M - (intOf i).toNat)
    case atStart => exact ⟨0, _, _, Nat.zero_le _, rfl, rfl, Slc.nil_, Below.refl _ _⟩
    case round =>
      obtain ⟨k, A', c', hk, rfl, rfl, ss, bel⟩ := hrel
      have Ss := Lib.hid ss
      have Bel := Lib.hid bel
      clear ss bel
      by_cases hlt : k < M
      · obtain ⟨g, rfl, hg1, hg2, hc⟩ := S1.out.at_ (by omega)
        have c0 := (Bel.out.cell (p := ⟨g, k, none⟩) hg2).trans (hc k hlt)
        have hrow := S1.out.row k hlt
        obtain ⟨l, el⟩ : ∃ l, (vs.getD k sd0).2.1 = l := ⟨_, rfl⟩
        obtain ⟨A5, e5⟩ : ∃ A5, (vs.getD k sd0).1 = A5 := ⟨_, rfl⟩
        obtain ⟨c5, ec5⟩ : ∃ c5, (vs.getD k sd0).2.2 = c5 := ⟨_, rfl⟩
        rw [e5, el, ec5] at c0 hrow
        have Lk : Hid (lensI p (k + 1) = lensI p k ++ [(l : Int)]) := Lib.hid (lensI_succ (by rw [LM.out]; exact hlt) (by
          have := hrow.1
          rw [List.getD_eq_getElem?_getD, List.getElem?_eq_getElem (by rw [S1.out.lx]; exact hlt)] at this
          rw [← this]; simp [lens]))
        have hll := (hrow.le).2
        unfold maxLen at hll
        clear hrow el e5 ec5 hc
        go_wp2_with (first | (at_builtin; refine wpList_app1 rfl _ _ rfl w1.heap.size A' k c' _ rfl (Ss.out.alloc _) wr.heap.size (l : Int) rfl (by rw [World.cell?_alloc_at _ _ _ _ rfl]; rfl) (by omega) (by have := Bel.out.size; simp; omega) ?_; intro A3 c3 w3 ss3 hg3))
        have Ss3 := Lib.hid ss3
        have Bel3 : Hid (Below w1.heap.size w1 w3) := Lib.hid ((Bel.out.alloc Bel.out.size _).grown hg3 (by have := Bel.out.size; simp; omega) (fun j hj => (Ss.out.lt_ j hj).1))
        clear ss3 hg3
        go_wp2
        go_roundw
        case rel => exact ⟨k + 1, A3, c3, by omega, by go_num, rfl, by rw [Lk.out]; exact Ss3.out, Bel3.out⟩
        case measure => simp [intOf]; omega
      · have hkm : k = M := by omega
        subst hkm
        have Fq : Hid (lensI p k = (lens p).map Int.ofNat) := Lib.hid (by unfold lensI; rw [List.take_of_length_le (by rw [LM.out]; exact Nat.le_refl _)])
        go_wp2_with fail
        refine (sortT w1.heap.size A' k c' _ wr Ss.out h1M (by omega)).mono ?_
        rintro e w4 ⟨rfl, s4, g4⟩
        have S4 := Lib.hid s4
        have Bel4 : Hid (Below w1.heap.size w1 w4) := Lib.hid (Bel.out.grown g4 Bel.out.size (fun j hj => (Ss.out.lt_ j hj).1))
        clear s4 g4
        go_wp2_with fail
        refine (revT w1.heap.size A' k c' _ w4 S4.out h1M (by omega)).mono ?_
        rintro e w5 ⟨rfl, s5, g5⟩
        have S5 := Lib.hid s5
        have Bel5 : Hid (Below w.heap.size w w5) := Lib.hid (btr B1.out (Bel4.out.grown g5 Bel4.out.size (fun j hj => (S4.out.lt_ j hj).1)))
        clear s5 g5
        go_wp2_with fail
        go_ret
        exact ⟨_, _, _, rfl, by rw [Fin.out, ← Fq.out]; exact S5.out.mono B1.out.size, by omega, Bel5.out⟩

end Go.Proofs.Ytcjcmhoalomjfab

/- SameCycleType, of the program and of the model. No condition but lengths. -/
namespace Go.Proofs.Ytcjcmhoalomjfab
open Go.RowKit

set_option maxHeartbeats 800000 in
/-- The program's SameCycleType. -/
theorem implSameCycleType (A B : Option Addr) (c d n m : Nat) (p q : List Int) (w : World) (hp : RI w w.heap.size A p) (hq : RI w w.heap.size B q) (lp : Hid (p.length = n)) (lq : Hid (q.length = m)) (hn : n ≤ 2097152) (hm : m ≤ 2097152) :
    Calls Try.prog 20 #[.slice A n c, .slice B m d] w fun e w' => e = .returned (.bool (sameType p q)) ∧ Below w.heap.size w w' := by
  rcases hs : sameD p q with _ | _
  · have Fin : Hid (sameType p q = false) := Lib.hid (by unfold sameType; rw [hs]; rfl)
    go_enter Try.func20, Try.ntmps20
    go_wp2_with fail
    refine (implEq A B c d n m p q w hp hq lp lq hn hm).mono ?_
    rintro e w1 ⟨rfl, b1⟩
    have B1 := Lib.hid b1
    clear b1
    go_wp2_with fail
    go_ret
    exact ⟨by rw [Fin.out]; rfl, B1.out⟩
  · obtain ⟨h1, h2, h3⟩ := sameD_iff.1 hs
    have Fin : Hid (sameType p q = decide (ctypeL p = ctypeL q)) := Lib.hid (by unfold sameType ctypeL; rw [hs, if_pos (isP_iff.2 h2), if_pos (isP_iff.2 h3)]; rfl)
    have n1 : 1 ≤ (ctypeL p).length := by unfold ctypeL; rw [if_pos (isP_iff.2 h2), ctype_len h2]; exact cycs_pos h2
    have n2 : 1 ≤ (ctypeL q).length := by unfold ctypeL; rw [if_pos (isP_iff.2 h3), ctype_len h3]; exact cycs_pos h3
    clear h1 h2 h3
    go_enter Try.func20, Try.ntmps20
    go_wp2_with fail
    refine (implEq A B c d n m p q w hp hq lp lq hn hm).mono ?_
    rintro e w1 ⟨rfl, b1⟩
    have B1 := Lib.hid b1
    clear b1
    go_wp2_with fail
    refine (implCycleType A c n p w1 (hp.up B1.out) lp hn).mono ?_
    rintro e w2 ⟨A2, n2', c2, rfl, s2, l2, b2⟩
    have S2 := Lib.hid s2
    have B2 : Hid (Below w.heap.size w w2) := Lib.hid (btr B1.out b2)
    clear s2 b2
    go_wp2_with fail
    refine (implCycleType B d m q w2 (hq.up B2.out) lq hm).mono ?_
    rintro e w3 ⟨A3, n3', c3, rfl, s3, l3, b3⟩
    have S3 := Lib.hid s3
    have S2' := Lib.hid (S2.out.up b3)
    have B3 : Hid (Below w.heap.size w w3) := Lib.hid (btr B2.out b3)
    have k2 : 1 ≤ n2' := by rw [← S2.out.1]; exact n1
    have k3 : 1 ≤ n3' := by rw [← s3.1]; exact n2
    clear s3 b3 n1 n2
    go_wp2_with fail
    refine (equalT _ _ A2 A3 n2' c2 n3' c3 _ _ w3 S2'.out S3.out k2 k3 (by omega) (by omega)).mono ?_
    rintro e w4 ⟨rfl, b4⟩
    have B4 : Hid (Below w.heap.size w w4) := Lib.hid (btr B3.out b4)
    clear b4
    go_wp2_with fail
    go_ret
    exact ⟨by rw [Fin.out]; rfl, B4.out⟩

set_option maxHeartbeats 800000 in
/-- The model's SameCycleType. -/
theorem specSameCycleType (A B : Option Addr) (c d n m : Nat) (p q : List Int) (w : World) (hp : RI w w.heap.size A p) (hq : RI w w.heap.size B q) (lp : Hid (p.length = n)) (lq : Hid (q.length = m)) (hn : n ≤ 2097152) (hm : m ≤ 2097152) (hc : n ≤ c) (hd : m ≤ d) :
    Calls Try.prog 23 #[.slice A n c, .slice B m d] w fun e w' => e = .returned (.bool (sameType p q)) ∧ Below w.heap.size w w' := by
  rcases hs : isP p with _ | _
  · have Fin : Hid (sameType p q = false) := Lib.hid (by unfold sameType sameD; rw [hs]; simp)
    go_enter Try.func23, Try.ntmps23
    go_wp2_with fail
    refine (quiet_below (specIsP A c n p w hp lp hn hc)).mono ?_
    rintro e w1 ⟨rfl, b1⟩
    have B1 := Lib.hid b1
    clear b1
    go_wp2_with fail
    go_ret
    exact ⟨by rw [Fin.out]; rfl, B1.out⟩
  rcases hs2 : isP q with _ | _
  · have Fin : Hid (sameType p q = false) := Lib.hid (by unfold sameType sameD; rw [hs2]; simp)
    go_enter Try.func23, Try.ntmps23
    go_wp2_with fail
    refine (quiet_below (specIsP A c n p w hp lp hn hc)).mono ?_
    rintro e w1 ⟨rfl, b1⟩
    have B1 := Lib.hid b1
    clear b1
    go_wp2_with fail
    refine (quiet_below (specIsP B d m q w1 (hq.up B1.out) lq hm hd)).mono ?_
    rintro e w2 ⟨rfl, b2⟩
    have B2 : Hid (Below w.heap.size w w2) := Lib.hid (btr B1.out b2)
    clear b2
    go_wp2_with fail
    go_ret
    exact ⟨by rw [Fin.out]; rfl, B2.out⟩
  · have Fin : Hid (sameType p q = decide (ctypeL p = ctypeL q)) := Lib.hid (by
      unfold sameType sameD ctypeL
      rw [hs, hs2]
      simp only [Bool.and_true, if_true]
      by_cases e : ctype p = ctype q
      · rw [decide_eq_true (ctype_deg (isP_iff.1 hs) (isP_iff.1 hs2) e)]; rfl
      · rw [decide_eq_false e, Bool.and_false])
    go_enter Try.func23, Try.ntmps23
    go_wp2_with fail
    refine (quiet_below (specIsP A c n p w hp lp hn hc)).mono ?_
    rintro e w1 ⟨rfl, b1⟩
    have B1 := Lib.hid b1
    clear b1
    go_wp2_with fail
    refine (quiet_below (specIsP B d m q w1 (hq.up B1.out) lq hm hd)).mono ?_
    rintro e w2 ⟨rfl, b2⟩
    have B2 : Hid (Below w.heap.size w w2) := Lib.hid (btr B1.out b2)
    clear b2
    go_wp2_with fail
    refine (specCycleType A c n p w2 (hp.up B2.out) lp hn hc).mono ?_
    rintro e w3 ⟨A3, n3, c3, rfl, s3, l3, b3⟩
    have S3 := Lib.hid s3
    have B3 : Hid (Below w.heap.size w w3) := Lib.hid (btr B2.out b3)
    clear s3 b3
    go_wp2_with fail
    refine (specCycleType B d m q w3 (hq.up B3.out) lq hm hd).mono ?_
    rintro e w4 ⟨A4, n4, c4, rfl, s4, l4, b4⟩
    have S4 := Lib.hid s4
    have S3' := Lib.hid (S3.out.up b4)
    have B4 : Hid (Below w.heap.size w w4) := Lib.hid (btr B3.out b4)
    clear s4 b4
    go_wp2_with fail
    refine (quiet_below (equalIs A3 A4 c3 c4 n3 n4 _ _ w4 S3'.out.ri_ S4.out.ri_ S3'.out.hid S4.out.hid (by omega) (by omega))).mono ?_
    rintro e w5 ⟨rfl, b5⟩
    have B5 : Hid (Below w.heap.size w w5) := Lib.hid (btr B4.out b5)
    clear b5
    go_wp2_with fail
    go_ret
    exact ⟨by rw [Fin.out]; rfl, B5.out⟩
end Go.Proofs.Ytcjcmhoalomjfab

/- The model's search for a conjugator, entry by entry. Condition: permutations of one degree. -/
namespace Go.Proofs.Ytcjcmhoalomjfab
open Go.RowKit

/-- copyInts. -/
theorem copyT (g n c base : Nat) (xs : List Int) (w : World) (h : Slc w base (some ⟨g, 0, none⟩) n c xs) (hn : n ≤ 1000000) :
    Calls Try.prog 78 #[.slice (some ⟨g, 0, none⟩) n c] w fun e w' => ∃ A' c', e = .returned (.slice A' n c') ∧ Slc w' w.heap.size A' n c' xs ∧ Below w.heap.size w w' := by
  obtain ⟨i0, hi, hz0, hz1, hz2⟩ := info_parts infoI
  have Ha := Lib.hid (h.alloc (.cells #[] 2))
  have H0 := Lib.hid (Slc.lit0 w w.heap.size (Nat.le_refl _))
  have Hg : g < w.heap.size := (h.lt_ g rfl).2
  have lx := h.1
  clear h
  go_enter Try.func78, Try.ntmps78
  go_wp2_with (first | (at_builtin; refine wpList_append_own _ rfl _ _ 22 rfl w.heap.size 2 i0 (.int .i64 0) 1 8 Try.underlying22 hi hz0 hz1 hz2 rfl (by decide) _ 0 [] rfl H0.out.2 ⟨g, 0, none⟩ n c (xs.map (Value.int .i64)) rfl (by simp [lx]) ?_ (fun u hu => by rw [List.mem_map] at hu; obtain ⟨a, _, rfl⟩ := hu; rfl) (by unfold maxLen; omega) (by omega) (by simp) ?_))
  · intro j u hj
    have e : (⟨g, 0, none⟩ : Addr).add j = ⟨g, j, none⟩ := by unfold Addr.add; split <;> simp_all
    rw [e]
    have hjl : j < n := by
      have := (List.getElem?_eq_some_iff.1 hj).1
      simpa [lx] using this
    have := (Row.of_own (g := g) (n := n) (xs := xs) (by have := Ha.out.2; exact this)).cell hjl
    rw [this]
    rw [List.getElem?_map, List.getElem?_eq_getElem (by omega)] at hj
    rw [← Option.some.inj hj, getD_eq (by omega)]
  · intro v' w' hown' hg _
    have hO : Own w' w.heap.size v' xs := by
      unfold Own
      rw [lx]
      simpa using hown'
    obtain ⟨A', c', rfl, hS⟩ := Slc.of_own (n := n) hO lx
    have hS' := Lib.hid hS
    have B1 : Hid (Below w.heap.size w w') := Lib.hid (((Below.refl _ w).alloc (Nat.le_refl _) _).grown hg (by simp) (fun k e => by simp [Value.ownBlock] at e; omega))
    clear hS hO hown' hg
    go_wp2
    go_ret
    exact ⟨_, _, rfl, hS'.out, B1.out⟩

/-- y is a permutation that begins with x and conjugates p to q. -/
def CX (p q x y : List Int) : Prop := IsP y ∧ y.length = p.length ∧ conjP p y = q ∧ ∃ t, y = x ++ t
theorem CX.leaf {p q x y : List Int} (h : CX p q x y) (hl : x.length = p.length) : y = x := by
  obtain ⟨h1, h2, h3, t, rfl⟩ := h
  rw [List.length_append] at h2
  obtain rfl : t = [] := List.eq_nil_of_length_eq_zero (by omega)
  simp
theorem CX.step {p q x y : List Int} (h : CX p q x y) (hl : x.length < p.length) : ∃ v : Nat, v < p.length ∧ hasB x (v : Int) = false ∧ CX p q (x ++ [(v : Int)]) y := by
  obtain ⟨h1, h2, h3, t, e⟩ := h
  cases t with
  | nil => rw [e] at h2; simp at h2; omega
  | cons u t =>
    have ex : y.getD x.length 0 = u := by
      subst e
      rw [List.getD_eq_getElem?_getD, List.getElem?_append_right (Nat.le_refl _), Nat.sub_self]; rfl
    have lo := h1.lo x.length (by omega)
    have hi := h1.hi x.length (by omega)
    rw [ex] at lo hi
    obtain ⟨v, rfl⟩ := Int.eq_ofNat_of_zero_le lo
    refine ⟨v, by omega, ?_, h1, h2, h3, t, by rw [e]; simp⟩
    unfold hasB
    apply decide_eq_false
    rintro ⟨j, hj, ej⟩
    have := h1.inj j x.length (by omega) (by omega) (by
      rw [ex]
      have : y.getD j 0 = x.getD j 0 := by
        subst e
        rw [List.getD_eq_getElem?_getD, List.getElem?_append_left hj, ← List.getD_eq_getElem?_getD]
      rw [this, ej])
    omega
theorem CX.back {p q x y : List Int} {v : Int} (h : CX p q (x ++ [v]) y) : CX p q x y := by
  obtain ⟨h1, h2, h3, t, e⟩ := h
  exact ⟨h1, h2, h3, v :: t, by rw [e]; simp⟩
theorem CX.at_ {p q x y : List Int} {v : Int} (h : CX p q (x ++ [v]) y) : y.getD x.length 0 = v := by
  obtain ⟨h1, h2, h3, t, rfl⟩ := h
  rw [List.getD_eq_getElem?_getD, List.append_assoc, List.getElem?_append_right (Nat.le_refl _), Nat.sub_self]; rfl
theorem CX.pre {p q x y : List Int} (h : CX p q x y) {i : Nat} (hi : i < x.length) : y.getD i 0 = x.getD i 0 := by
  obtain ⟨h1, h2, h3, t, rfl⟩ := h
  rw [List.getD_eq_getElem?_getD, List.getElem?_append_left hi, ← List.getD_eq_getElem?_getD]
/-- What the search hands back: nothing, or the first. -/
def Found (p q x ys : List Int) : Prop := (ys = [] ∧ ∀ y, ¬ CX p q x y) ∨ (ys ≠ [] ∧ CX p q x ys ∧ ∀ y, CX p q x y → Lex ys y)
theorem Found.first {p q x ys : List Int} {v : Nat} (hl : x.length < p.length) (hn : ∀ u : Nat, u < v → ∀ y, ¬ CX p q (x ++ [(u : Int)]) y) (h : Found p q (x ++ [(v : Int)]) ys) (hne : ys ≠ []) : Found p q x ys := by
  rcases h with ⟨e, _⟩ | ⟨_, h1, h2⟩
  · exact absurd e hne
  · refine .inr ⟨hne, h1.back, fun y hy => ?_⟩
    obtain ⟨u, hu, _, hc⟩ := hy.step hl
    rcases Nat.lt_trichotomy u v with hlt | rfl | hgt
    · exact absurd hc (hn u hlt y)
    · exact h2 y hc
    · intro i hi hag
      have a1 := h1.at_
      have a2 := hc.at_
      rcases Nat.lt_trichotomy i x.length with hi2 | rfl | hi2
      · rw [h1.back.pre hi2, hy.pre hi2]; exact Int.le_refl _
      · omega
      · have := hag x.length hi2
        omega
theorem Found.leaf {p q x : List Int} (hp : IsP p) (hq : IsP q) (hl : x.length = p.length) (hd : p.length = q.length) : Found p q x (if decide (conjL p x = q) = true then x else []) := by
  by_cases e : conjL p x = q
  · rw [if_pos (by simpa using e)]
    unfold conjL at e
    have hs : sameD p x = true := by
      cases h : sameD p x with
      | true => rfl
      | false => rw [h] at e; simp at e; have := hq.pos; rw [e] at this; simp at this
    rw [if_pos hs] at e
    have hx := (sameD_iff.1 hs).2.2
    refine .inr ⟨fun e => by have := hx.pos; rw [e] at this; simp at this, ⟨hx, hl, e, [], by simp⟩, fun y hy => ?_⟩
    rw [hy.leaf hl]
    exact fun i _ _ => Int.le_refl _
  · rw [if_neg (by simpa using e)]
    refine .inl ⟨rfl, fun y hy => e ?_⟩
    have := hy.leaf hl
    subst this
    unfold conjL
    rw [if_pos (sameD_iff.2 ⟨hl.symm, hp, hy.1⟩)]
    exact hy.2.2.1

set_option maxHeartbeats 1000000 in
/-- extendConjugator. -/
theorem specExtend (A B : Option Addr) (c d n : Nat) (p q : List Int) (lp : Hid (p.length = n)) (lq : Hid (q.length = n)) (ip : Hid (IsP p)) (iq : Hid (IsP q)) (hn : n ≤ 20) (hc : n ≤ c) :
    ∀ (k : Nat) (gx m cx bx : Nat) (x : List Int) (w : World), m + k = n → RI w w.heap.size A p → RI w w.heap.size B q → Slc w bx (some ⟨gx, 0, none⟩) m cx x → bx ≤ w.heap.size →
    Calls Try.prog 54 #[.slice A n c, .slice B n d, .slice (some ⟨gx, 0, none⟩) m cx] w fun e w' => ∃ A' n' c' ys, e = .returned (.slice A' n' c') ∧ Slc w' bx A' n' c' ys ∧ Found p q x ys ∧ n' ≤ n ∧ Below w.heap.size w w' := by
  intro k
  induction k with
  | zero =>
    intro gx m cx bx x w hm hp hq hx hb
    obtain rfl : m = n := by omega
    have X := Lib.hid hx
    have hcx := hx.le.1
    have Fd := Lib.hid (Found.leaf ip.out iq.out (hx.1.trans lp.out.symm) (lp.out.trans lq.out.symm))
    have Lq : Hid (q.length = m) := lq
    clear hx
    rcases hz : decide (conjL p x = q) with _ | _
    · have Hz : Hid (decide (conjL p x = q) = false) := Lib.hid hz
      have F : Hid (Found p q x []) := Lib.hid (by have := Fd.out; rw [hz] at this; exact this)
      clear hz Fd
      go_enter Try.func54, Try.ntmps54
      go_wp2_with fail
      refine (specConjugate A (some ⟨gx, 0, none⟩) c cx m m p x w hp X.out.ri_ lp X.out.hid (by omega) (by omega) hc hcx).mono ?_
      rintro e w1 ⟨A1, n1, c1, rfl, s1, l1, b1⟩
      have S1 := Lib.hid s1
      have B1 := Lib.hid b1
      clear s1 b1
      go_wp2_with fail
      refine (quiet_below (equalIs A1 B c1 d n1 m _ _ w1 S1.out.ri_ (hq.up B1.out) S1.out.hid lq (by omega) (by omega))).mono ?_
      rintro e w2 ⟨he, b2⟩
      rw [Hz.out] at he
      subst he
      have B2 : Hid (Below w.heap.size w w2) := Lib.hid (btr B1.out b2)
      clear b2
      go_wp2_with fail
      go_ret
      exact ⟨_, _, _, [], rfl, Slc.lit0 w2 _ (Nat.le_trans hb B2.out.size), F.out, Nat.zero_le _, B2.out.alloc B2.out.size _⟩
    · have Hz : Hid (decide (conjL p x = q) = true) := Lib.hid hz
      have F : Hid (Found p q x x) := Lib.hid (by have := Fd.out; rw [hz] at this; exact this)
      clear hz Fd
      go_enter Try.func54, Try.ntmps54
      go_wp2_with fail
      refine (specConjugate A (some ⟨gx, 0, none⟩) c cx m m p x w hp X.out.ri_ lp X.out.hid (by omega) (by omega) hc hcx).mono ?_
      rintro e w1 ⟨A1, n1, c1, rfl, s1, l1, b1⟩
      have S1 := Lib.hid s1
      have B1 := Lib.hid b1
      clear s1 b1
      go_wp2_with fail
      refine (quiet_below (equalIs A1 B c1 d n1 m _ _ w1 S1.out.ri_ (hq.up B1.out) S1.out.hid lq (by omega) (by omega))).mono ?_
      rintro e w2 ⟨he, b2⟩
      rw [Hz.out] at he
      subst he
      have B2 : Hid (Below w.heap.size w w2) := Lib.hid (btr B1.out b2)
      clear b2
      go_wp2_with fail
      go_ret
      exact ⟨_, _, _, x, rfl, X.out.up B2.out, F.out, Nat.le_refl _, B2.out⟩
  | succ k ih =>
    intro gx m cx bx x w hm hp hq hx hb
    have X := Lib.hid hx
    have Ih := Lib.hid ih
    have Lx : Hid (x.length < p.length) := Lib.hid (by rw [hx.1, lp.out]; omega)
    have hne : ((m : Int) == (n : Int)) = false := by rw [beq_eq_false_iff_ne]; omega
    clear hx ih
    go_enter Try.func54, Try.ntmps54
    go_wp2_with fail
    go_loopg [10, 11] n (fun gg v _ wr => ∃ u : Nat, u ≤ n ∧ n - u ≤ gg ∧ v = .int .i64 (u : Int) ∧ (∀ t : Nat, t < u → ∀ y, ¬ CX p q (x ++ [(t : Int)]) y) ∧ Below w.heap.size w wr)
    case atStart => exact ⟨0, Nat.zero_le _, by omega, rfl, fun t h => absurd h (by omega), Below.refl _ _⟩
    case round =>
      obtain ⟨u, hu, hg, rfl, hno, bel⟩ := hrel
      have No := Lib.hid hno
      have Bel := Lib.hid bel
      clear hno bel
      by_cases hlt : u < n
      · have Xr := Lib.hid (X.out.up Bel.out)
        rcases hh : hasB x (u : Int) with _ | _
        · have Hh := Lib.hid hh
          clear hh
          go_wp2_with fail
          refine (containsI_any (some ⟨gx, 0, none⟩) cx m x (u : Int) wr wr.heap.size Xr.out.ri_ Xr.out.hid (by omega) false Hh).mono ?_
          rintro e w1 ⟨rfl, rfl⟩
          go_wp2_with fail
          refine (copyT gx m cx bx x wr Xr.out (by omega)).mono ?_
          rintro e w2 ⟨A2, c2, rfl, s2, b2⟩
          have S2 := Lib.hid s2
          have B2 := Lib.hid b2
          have Z2 := b2.size
          clear s2 b2
          go_wp2_with (first | (at_builtin; refine wpList_app1 rfl _ _ rfl wr.heap.size A2 m c2 _ rfl (S2.out.alloc _) w2.heap.size (u : Int) rfl (by rw [World.cell?_alloc_at _ _ _ _ rfl]; rfl) (by omega) (by simp; omega) ?_; intro A3 c3 w3 s3 g3))
          have B3 : Hid (Below wr.heap.size wr w3) := Lib.hid ((B2.out.alloc Z2 _).grown g3 (by simp; omega) (fun j hj => (S2.out.lt_ j hj).1))
          have Bel3 : Hid (Below w.heap.size w w3) := Lib.hid (btr Bel.out B3.out)
          obtain ⟨ga, rfl⟩ : ∃ ga, A3 = some ⟨ga, 0, none⟩ := by
            rcases s3.at_ with ⟨_, _, e0, _⟩ | ⟨ga, e0, _⟩
            · omega
            · exact ⟨ga, e0⟩
          have S3 := Lib.hid s3
          have Z3 := B3.out.size
          clear s3 g3
          go_wp2_with fail
          refine (Ih.out ga (m + 1) c3 wr.heap.size (x ++ [(u : Int)]) w3 (by omega) (hp.up Bel3.out) (hq.up Bel3.out) S3.out Z3).mono ?_
          rintro e w4 ⟨A4, n4, c4, ys, rfl, s4, f4, l4, b4⟩
          have Bel4 : Hid (Below w.heap.size w w4) := Lib.hid (btr Bel3.out b4)
          have S4 := Lib.hid (s4.mono (Nat.le_trans hb Bel.out.size))
          have F4 := Lib.hid f4
          have ly := s4.1
          clear s4 f4 b4
          by_cases h4 : n4 = 0
          · subst h4
            have No2 : Hid (∀ t : Nat, t < u + 1 → ∀ y, ¬ CX p q (x ++ [(t : Int)]) y) := Lib.hid fun t ht y hy => by
              by_cases e : t = u
              · subst e
                rcases F4.out with ⟨_, h⟩ | ⟨h, _⟩
                · exact h y hy
                · exact h (List.eq_nil_of_length_eq_zero ly)
              · exact No.out t (by omega) y hy
            clear ly
            go_wp2_with fail
            go_roundg (n - (u + 1))
            case rel => exact ⟨u + 1, by omega, Nat.le_refl _, by go_num, No2.out, Bel4.out⟩
            case measure => omega
          · have F : Hid (Found p q x ys) := Lib.hid (F4.out.first Lx.out No.out (fun e => h4 (by rw [← ly, e]; rfl)))
            clear ly
            go_wp2_with fail
            go_ret
            exact ⟨_, _, _, ys, rfl, S4.out, F.out, l4, Bel4.out⟩
        · have Hh := Lib.hid hh
          clear hh
          have No2 : Hid (∀ t : Nat, t < u + 1 → ∀ y, ¬ CX p q (x ++ [(t : Int)]) y) := Lib.hid fun t ht y hy => by
            by_cases e : t = u
            · subst e
              obtain ⟨t2, _, h2, h3⟩ := hy.back.step Lx.out
              have h4 := h3.at_
              rw [hy.at_] at h4
              rw [← h4, Hh.out] at h2
              cases h2
            · exact No.out t (by omega) y hy
          go_wp2_with fail
          refine (containsI_any (some ⟨gx, 0, none⟩) cx m x (u : Int) wr wr.heap.size Xr.out.ri_ Xr.out.hid (by omega) true Hh).mono ?_
          rintro e w1 ⟨rfl, rfl⟩
          go_wp2_with fail
          go_roundg (n - (u + 1))
          case rel => exact ⟨u + 1, by omega, Nat.le_refl _, by go_num, No2.out, Bel.out⟩
          case measure => omega
      · have hun : u = n := by omega
        subst hun
        have F : Hid (Found p q x []) := Lib.hid (.inl ⟨rfl, fun y hy => by
          obtain ⟨t2, h1, _, h3⟩ := hy.step Lx.out
          exact No.out t2 (by rw [← lp.out]; exact h1) y h3⟩)
        go_wp2
        go_ret
        exact ⟨_, _, _, [], rfl, Slc.lit0 wr _ (Nat.le_trans hb Bel.out.size), F.out, Nat.zero_le _, Bel.out.alloc Bel.out.size _⟩
end Go.Proofs.Ytcjcmhoalomjfab

/- FindConjugator, of the program and of the model. No condition but lengths. -/
namespace Go.Proofs.Ytcjcmhoalomjfab
open Go.RowKit

def findB (p q : List Int) : Bool := sameType p q && decide (p.length ≤ 7)
def findL (p q : List Int) : List Int := if findB p q = true then grL p q else []
theorem sameType_iff {p q : List Int} : sameType p q = true ↔ p.length = q.length ∧ IsP p ∧ IsP q ∧ ctype p = ctype q := by
  unfold sameType
  rw [Bool.and_eq_true, sameD_iff, decide_eq_true_eq]
  exact ⟨fun ⟨⟨a, b, c⟩, d⟩ => ⟨a, b, c, d⟩, fun ⟨a, b, c, d⟩ => ⟨⟨a, b, c⟩, d⟩⟩

set_option maxHeartbeats 1000000 in
/-- The program's FindConjugator. -/
theorem implFindConjugator (A B : Option Addr) (c d n m : Nat) (p q : List Int) (w : World) (hp : RI w w.heap.size A p) (hq : RI w w.heap.size B q) (lp : Hid (p.length = n)) (lq : Hid (q.length = m)) (hn : n ≤ 2097152) (hm : m ≤ 2097152) :
    Calls Try.prog 21 #[.slice A n c, .slice B m d] w fun e w' => ∃ A' n' c', e = .returned (.tuple #[.slice A' n' c', .bool (findB p q)]) ∧ Slc w' w.heap.size A' n' c' (findL p q) ∧ n' ≤ 20 ∧ Below w.heap.size w w' := by
  by_cases h7 : n ≤ 7
  · have d7 : decide ((7 : Int) < n) = false := by simp; omega
    by_cases k7 : m ≤ 7
    · have e7 : decide ((7 : Int) < m) = false := by simp; omega
      rcases hs : sameType p q with _ | _
      · have Fb : Hid (findB p q = false) := Lib.hid (by unfold findB; rw [hs]; rfl)
        have Fin : Hid (findL p q = []) := Lib.hid (if_neg (by rw [Fb.out]; decide))
        go_enter Try.func21, Try.ntmps21
        go_wp2_with fail
        refine (implSameCycleType A B c d n m p q w hp hq lp lq hn hm).mono ?_
        rintro e w1 ⟨he, b1⟩
        rw [hs] at he
        subst he
        have B1 := Lib.hid b1
        clear b1
        go_wp2_with fail
        go_ret2
        exact ⟨_, _, _, by rw [Fb.out]; rfl, by rw [Fin.out]; exact Slc.nil_, Nat.zero_le _, B1.out⟩
      · obtain ⟨h1, h2, h3, h4⟩ := sameType_iff.1 hs
        have Fb : Hid (findB p q = true) := Lib.hid (by unfold findB; rw [hs, lp.out]; simpa using h7)
        have Fin : Hid (findL p q = grL p q) := Lib.hid (if_pos Fb.out)
        have Ip := Lib.hid h2
        have Iq := Lib.hid h3
        have Ht := Lib.hid h4
        obtain rfl : n = m := by rw [← lp.out, ← lq.out, h1]
        clear h1 h2 h3 h4
        go_enter Try.func21, Try.ntmps21
        go_wp2_with fail
        refine (implSameCycleType A B c d n n p q w hp hq lp lq hn hm).mono ?_
        rintro e w1 ⟨he, b1⟩
        rw [hs] at he
        subst he
        have B1 := Lib.hid b1
        clear b1
        go_wp2_with fail
        refine (implSmallest A B c d n p q w1 (hp.up B1.out) (hq.up B1.out) lp lq Ip Iq Ht (by omega)).mono ?_
        rintro e w2 ⟨A2, c2, rfl, s2, b2⟩
        have S2 := Lib.hid (s2.mono B1.out.size)
        have B2 : Hid (Below w.heap.size w w2) := Lib.hid (btr B1.out b2)
        clear s2 b2
        go_wp2_with fail
        go_ret2
        exact ⟨_, _, _, by rw [Fb.out]; rfl, by rw [Fin.out]; exact S2.out, by omega, B2.out⟩
    · have e7 : decide ((7 : Int) < m) = true := by simp; omega
      have Fb : Hid (findB p q = false) := Lib.hid (by
        unfold findB
        cases hs : sameType p q with
        | false => rfl
        | true => have := (sameType_iff.1 hs).1; rw [lp.out, lq.out] at this; omega)
      have Fin : Hid (findL p q = []) := Lib.hid (if_neg (by rw [Fb.out]; decide))
      go_enter Try.func21, Try.ntmps21
      go_wp2_with fail
      go_ret2
      exact ⟨_, _, _, by rw [Fb.out]; rfl, by rw [Fin.out]; exact Slc.nil_, Nat.zero_le _, Below.refl _ _⟩
  · have d7 : decide ((7 : Int) < n) = true := by simp; omega
    have Fb : Hid (findB p q = false) := Lib.hid (by unfold findB; rw [lp.out, decide_eq_false h7, Bool.and_false])
    have Fin : Hid (findL p q = []) := Lib.hid (if_neg (by rw [Fb.out]; decide))
    go_enter Try.func21, Try.ntmps21
    go_wp2_with fail
    go_ret2
    exact ⟨_, _, _, by rw [Fb.out]; rfl, by rw [Fin.out]; exact Slc.nil_, Nat.zero_le _, Below.refl _ _⟩

set_option maxHeartbeats 1000000 in
/-- The model's FindConjugator. -/
theorem specFindConjugator (A B : Option Addr) (c d n m : Nat) (p q : List Int) (w : World) (hp : RI w w.heap.size A p) (hq : RI w w.heap.size B q) (lp : Hid (p.length = n)) (lq : Hid (q.length = m)) (hn : n ≤ 2097152) (hm : m ≤ 2097152) (hc : n ≤ c) (hd : m ≤ d) :
    Calls Try.prog 22 #[.slice A n c, .slice B m d] w fun e w' => ∃ A' n' c', e = .returned (.tuple #[.slice A' n' c', .bool (findB p q)]) ∧ Slc w' w.heap.size A' n' c' (findL p q) ∧ n' ≤ 20 ∧ Below w.heap.size w w' := by
  rcases hs : sameType p q with _ | _
  · have Fb : Hid (findB p q = false) := Lib.hid (by unfold findB; rw [hs]; rfl)
    have Fin : Hid (findL p q = []) := Lib.hid (if_neg (by rw [Fb.out]; decide))
    go_enter Try.func22, Try.ntmps22
    go_wp2_with fail
    refine (specSameCycleType A B c d n m p q w hp hq lp lq hn hm hc hd).mono ?_
    rintro e w1 ⟨he, b1⟩
    rw [hs] at he
    subst he
    have B1 := Lib.hid b1
    clear b1
    go_wp2_with fail
    go_ret2
    exact ⟨_, _, _, by rw [Fb.out]; rfl, by rw [Fin.out]; exact Slc.lit0 w1 _ B1.out.size, Nat.zero_le _, B1.out.alloc B1.out.size _⟩
  · obtain ⟨h1, h2, h3, h4⟩ := sameType_iff.1 hs
    have Ip := Lib.hid h2
    have Iq := Lib.hid h3
    have Ht := Lib.hid h4
    obtain rfl : n = m := by rw [← lp.out, ← lq.out, h1]
    have hn20 : n ≤ 20 := by rw [← lp.out]; exact h2.le
    clear h1 h2 h3 h4
    by_cases h7 : n ≤ 7
    · have d7 : decide ((7 : Int) < n) = false := by simp; omega
      have Fb : Hid (findB p q = true) := Lib.hid (by unfold findB; rw [hs, lp.out]; simpa using h7)
      have Fin : Hid (findL p q = grL p q) := Lib.hid (if_pos Fb.out)
      have Cx : Hid (CX p q [] (grL p q)) := Lib.hid ⟨gr_isP Ip.out Iq.out Ht.out, gr_len p q, gr_conj Ip.out Iq.out Ht.out, grL p q, rfl⟩
      have Lst : Hid (∀ y, CX p q [] y → Lex (grL p q) y) := Lib.hid fun y hy => gr_least Ip.out Iq.out Ht.out hy.1 hy.2.1.symm hy.2.2.1
      go_enter Try.func22, Try.ntmps22
      go_wp2_with fail
      refine (specSameCycleType A B c d n n p q w hp hq lp lq hn hm hc hd).mono ?_
      rintro e w1 ⟨he, b1⟩
      rw [hs] at he
      subst he
      have B1 := Lib.hid b1
      have Z1 := b1.size
      clear b1
      go_wp2_with fail
      refine (specExtend A B c d n p q lp lq Ip Iq hn20 hc n w1.heap.size 0 0 w1.heap.size [] (w1.alloc (.cells #[] 2)) (by omega) (((hp.up B1.out).alloc (Nat.le_refl _) _).more (by simp)) (((hq.up B1.out).alloc (Nat.le_refl _) _).more (by simp)) (Slc.lit0 w1 _ (Nat.le_refl _)) (by simp)).mono ?_
      rintro e w2 ⟨A2, n2, c2, ys, rfl, s2, f2, l2, b2⟩
      obtain rfl : ys = grL p q := by
        rcases f2 with ⟨_, h⟩ | ⟨_, h1, h2⟩
        · exact absurd Cx.out (h _)
        · exact Lex.anti h1.2.1 Cx.out.2.1 (h2 _ Cx.out) (Lst.out _ h1)
      have S2 := Lib.hid (s2.mono Z1)
      have B2 : Hid (Below w.heap.size w w2) := Lib.hid ((B1.out.alloc Z1 _).trans (b2.mono (by simp; omega)))
      clear s2 b2 f2
      go_wp2_with fail
      go_ret2
      exact ⟨_, _, _, by rw [Fb.out]; rfl, by rw [Fin.out]; exact S2.out, by omega, B2.out⟩
    · have d7 : decide ((7 : Int) < n) = true := by simp; omega
      have Fb : Hid (findB p q = false) := Lib.hid (by unfold findB; rw [lp.out, decide_eq_false h7, Bool.and_false])
      have Fin : Hid (findL p q = []) := Lib.hid (if_neg (by rw [Fb.out]; decide))
      go_enter Try.func22, Try.ntmps22
      go_wp2_with fail
      refine (specSameCycleType A B c d n n p q w hp hq lp lq hn hm hc hd).mono ?_
      rintro e w1 ⟨he, b1⟩
      rw [hs] at he
      subst he
      have B1 := Lib.hid b1
      clear b1
      go_wp2_with fail
      go_ret2
      exact ⟨_, _, _, by rw [Fb.out]; rfl, by rw [Fin.out]; exact Slc.lit0 w1 _ B1.out.size, Nat.zero_le _, B1.out.alloc B1.out.size _⟩
end Go.Proofs.Ytcjcmhoalomjfab

/- The model's draw of two permutations for FindConjugator. Condition: at most 4096 bytes. -/
namespace Go.Proofs.Ytcjcmhoalomjfab
open Go.RowKit

theorem bigT2 (A : Option Addr) (len cap : Nat) (w : World) (hl : len ≤ 4096) : Calls Try.prog 18 #[.slice A len cap] w fun e w' => e = .returned (.bool false) ∧ w = w' := by
  have d1 : decide ((4096 : Int) < len) = false := by simp; omega
  go_enter Try.func18, Try.ntmps18
  go_wp2
  go_ret
  exact ⟨rfl, rfl⟩
theorem bigF2 (A : Option Addr) (len cap : Nat) (w : World) (hl : 4096 < len) : Calls Try.prog 18 #[.slice A len cap] w fun e w' => e = .returned (.bool true) ∧ w = w' := by
  have d1 : decide ((4096 : Int) < len) = true := by simp; omega
  go_enter Try.func18, Try.ntmps18
  go_wp2
  go_ret
  exact ⟨rfl, rfl⟩
theorem SB.of_row {w : World} {a : Option Addr} {len cap : Nat} {zs : List Int}
    (h : (a = none ∧ len = 0 ∧ cap = 0 ∧ zs = []) ∨ ∃ x, a = some x ∧ len ≤ cap ∧ cap ≤ maxLen ∧ zs.length = cap ∧ (∀ i, i < zs.length → w.cell? (x.add i) = some (.int .u8 (zs.getD i 0))) ∧ ∀ n ∈ zs, (Lit.int .u8 n).wf = true)
    (hw : ∀ n : Int, (Lit.int .u8 n).wf = true → 0 ≤ n ∧ n ≤ 255) : SB w w.heap.size a len := by
  rcases h with ⟨rfl, rfl, rfl, rfl⟩ | ⟨⟨b, off, spot⟩, rfl, hl, hm, hz, hc, hwf⟩
  · exact fun h => absurd h (by omega)
  · intro hp
    have h0 := hc 0 (by omega)
    have hspot : spot = none := by simpa [Addr.add] using World.cell?_spot h0
    subst hspot
    refine ⟨b, off, rfl, ?_, fun j hj => ?_⟩
    · have := World.block_lt_of_cell? w _ h0
      simpa [Addr.add] using this
    · have hjz : j < zs.length := by omega
      have hr := hw (zs.getD j 0) (hwf _ (by rw [List.getD_eq_getElem?_getD, List.getElem?_eq_getElem hjz]; exact List.getElem_mem _))
      refine ⟨(zs.getD j 0).toNat, by omega, ?_⟩
      rw [Int.toNat_of_nonneg hr.1, ← hc j hjz]
      unfold Addr.add
      split <;> simp_all
theorem below_gro2 {w0 w w' : World} {g : Nat} (h : Below w0.heap.size w0 w) (hg : w.grownBy w' (some g)) (hB : w0.heap.size ≤ g) : Below w0.heap.size w0 w' := h.grown hg h.size (fun k e => by injection e with e; omega)
theorem Pm.hid {w : World} {base n c : Nat} {A : Option Addr} {xs : List Int} (h : Pm w base A n c xs) : Hid (xs.length = n) := Lib.hid h.1

set_option maxHeartbeats 2000000 in
theorem drawFC (len cap : Nat) (A : Option Addr) (w : World) (hb : SB w w.heap.size A len) (hl : len ≤ 4096) :
    Calls Try.prog 19 #[.slice A len cap] w fun e w' => ∃ P np cp p Q nq cq q, e = .returned (.tuple #[.slice P np cp, .slice Q nq cq]) ∧ Pm w' w.heap.size P np cp p ∧ Pm w' w.heap.size Q nq cq q ∧ np ≤ 21 ∧ nq ≤ 21 ∧ Below w.heap.size w w' := by
  go_enter Try.func19, Try.ntmps19
  go_wp2_with fail
  refine (newSrc len cap A w hb hl).mono ?_
  rintro e w1 ⟨rfl, s1, b1⟩
  have S1 := Lib.hid s1
  have B1 := Lib.hid b1
  have hg1 := s1.lt
  clear s1 b1
  go_wp2_with fail
  refine (srcBetween w.heap.size 1 5 w1 S1.out (by omega) (by omega)).mono ?_
  rintro e w2 ⟨n, hn1, hn5, rfl, s2, g2⟩
  have S2 := Lib.hid s2
  have B2 : Hid (Below w.heap.size w w2) := Lib.hid (below_gro2 B1.out g2 (Nat.le_refl _))
  have hg2 := s2.lt
  clear s2 g2
  go_wp2_with fail
  refine (drawAny w.heap.size n w2 S2.out (by omega) (by omega)).mono ?_
  rintro e w3 ⟨P, np, cp, p, rfl, p3, hnp, s3, g3⟩
  have S3 := Lib.hid s3
  have P3 := Lib.hid p3
  have B3 : Hid (Below w.heap.size w w3) := Lib.hid (below_gro2 B2.out g3 (Nat.le_refl _))
  have hg3 := s3.lt
  clear s3 g3 p3
  go_wp2_with fail
  refine (drawAny w.heap.size n w3 S3.out (by omega) (by omega)).mono ?_
  rintro e w4 ⟨Q, nq, cq, q, rfl, q4, hnq, s4, g4⟩
  have S4 := Lib.hid s4
  have P4 : Hid (Pm w4 (w.heap.size + 1) P np cp p) := Lib.hid ((P3.out.gro g4 hg2).mono (by omega))
  have Q4 : Hid (Pm w4 (w.heap.size + 1) Q nq cq q) := Lib.hid (q4.mono (by omega))
  have B4 : Hid (Below w.heap.size w w4) := Lib.hid (below_gro2 B3.out g4 (Nat.le_refl _))
  have hg4 := s4.lt
  clear s4 g4 q4
  go_wp2_with fail
  refine (specConjugate P Q cp cq np nq p q w4 P4.out.ri Q4.out.ri P4.out.hid Q4.out.hid (by omega) (by omega) P4.out.2.1 Q4.out.2.1).mono ?_
  rintro e w5 ⟨A5, n5, c5, rfl, s5, l5, b5⟩
  have S5 : Hid (Src w5 w.heap.size) := Lib.hid (S4.out.below b5 S4.out.lt)
  have P5 := Lib.hid (P4.out.up b5)
  have Q5 := Lib.hid (Q4.out.up b5)
  have B5 : Hid (Below w.heap.size w w5) := Lib.hid (btr B4.out b5)
  have R5 : Hid (Pm w5 (w.heap.size + 1) A5 n5 c5 (conjL p q)) := Lib.hid ((Pm.of_slc s5).mono (by omega))
  clear s5 b5
  rcases hs : sameD p q with _ | _
  · clear hs
    go_wp2_with fail
    go_ret2
    exact ⟨_, _, _, _, _, _, _, _, rfl, P5.out.mono (by omega), Q5.out.mono (by omega), hnp, hnq, B5.out⟩
  · clear hs
    go_wp2_with fail
    refine (srcOne w.heap.size _ 3 w5 S5.out rfl (by omega) (by omega)).mono ?_
    rintro e w6 ⟨b6, rfl, s6, g6⟩
    have P6 := Lib.hid (P5.out.gro g6 (by omega))
    have Q6 := Lib.hid (Q5.out.gro g6 (by omega))
    have R6 := Lib.hid (R5.out.gro g6 (by omega))
    have B6 : Hid (Below w.heap.size w w6) := Lib.hid (below_gro2 B5.out g6 (Nat.le_refl _))
    clear s6 g6
    cases b6
    · go_wp2_with fail
      go_ret2
      exact ⟨_, _, _, _, _, _, _, _, rfl, P6.out.mono (by omega), R6.out.mono (by omega), hnp, by omega, B6.out⟩
    · go_wp2_with fail
      go_ret2
      exact ⟨_, _, _, _, _, _, _, _, rfl, P6.out.mono (by omega), Q6.out.mono (by omega), hnp, hnq, B6.out⟩
end Go.Proofs.Ytcjcmhoalomjfab

/- The walk of the law FnConjugacy: it returns true at every input, and writes nothing that was there. No condition. -/
namespace Go.Proofs.Ytcjcmhoalomjfab
open Go.RowKit

theorem sameD_of {p q : List Int} {np nq : Nat} (lp : p.length = np) (lq : q.length = nq) (h1 : isP p = true) (h2 : isP q = true) (h3 : np = nq) : sameD p q = true := sameD_iff.2 ⟨by omega, isP_iff.1 h1, isP_iff.1 h2⟩
theorem conjL_of {p q : List Int} (h : sameD p q = true) : conjL p q = conjP p q := if_pos h
theorem sameType_conj {p q : List Int} (h : sameD p q = true) : sameType p (conjL p q) = true := by
  obtain ⟨hl, hp, hq⟩ := sameD_iff.1 h
  rw [conjL_of h]
  exact sameType_iff.2 ⟨(conj_length hl).symm, hp, isP_conj hp hq hl, (ctype_conj hp hq hl).symm⟩
theorem ctypeL_conj {p q : List Int} (h : sameD p q = true) : ctypeL p = ctypeL (conjL p q) := by
  obtain ⟨hl, hp, hq⟩ := sameD_iff.1 h
  rw [conjL_of h]
  unfold ctypeL
  rw [if_pos (isP_iff.2 hp), if_pos (isP_iff.2 (isP_conj hp hq hl)), ctype_conj hp hq hl]
theorem findL_none {p q : List Int} (h : findB p q = false) : findL p q = [] := if_neg (by rw [h]; decide)
theorem findL_some {p q : List Int} (h : findB p q = true) : sameType p q = true ∧ sameD p (findL p q) = true ∧ conjL p (findL p q) = q := by
  have ht : sameType p q = true := by unfold findB at h; rw [Bool.and_eq_true] at h; exact h.1
  obtain ⟨hl, hp, hq, hc⟩ := sameType_iff.1 ht
  have e : findL p q = grL p q := if_pos h
  have hs : sameD p (grL p q) = true := sameD_iff.2 ⟨(gr_len p q).symm, hp, gr_isP hp hq hc⟩
  refine ⟨ht, by rw [e]; exact hs, ?_⟩
  rw [e, conjL_of hs]
  exact gr_conj hp hq hc

set_option maxHeartbeats 4000000 in
set_option maxRecDepth 100000 in
theorem lawConjugacy (A : Option Addr) (cap len : Nat) (w : World) (hb : SB w w.heap.size A len) :
    Calls Try.prog 5 #[.slice A len cap] w fun e w' => e = .returned (.bool true) ∧ Below w.heap.size w w' := by
  by_cases hl : len ≤ 4096
  · go_enter Try.func5, Try.ntmps5
    go_wp2_with fail
    refine (bigT2 A len cap w hl).mono ?_
    rintro e w0 ⟨rfl, rfl⟩
    go_wp2_with fail
    refine (drawFC len cap A w hb hl).mono ?_
    rintro e w1 ⟨P, np, cp, p, Q, nq, cq, q, rfl, p1, q1, hnp, hnq, b1⟩
    have P1 := Lib.hid p1
    have Q1 := Lib.hid q1
    have B1 := Lib.hid b1
    clear p1 q1 b1
    go_wp2_with fail
    refine (implSameCycleType P Q cp cq np nq p q w1 P1.out.ri Q1.out.ri P1.out.hid Q1.out.hid (by omega) (by omega)).mono ?_
    rintro e w2 ⟨rfl, b2⟩
    have P2 := Lib.hid (P1.out.up b2)
    have Q2 := Lib.hid (Q1.out.up b2)
    have B2 : Hid (Below w.heap.size w w2) := Lib.hid (btr B1.out b2)
    clear b2
    go_wp2_with fail
    refine (implFindConjugator P Q cp cq np nq p q w2 P2.out.ri Q2.out.ri P2.out.hid Q2.out.hid (by omega) (by omega)).mono ?_
    rintro e w3 ⟨A3, n3, c3, rfl, s3, l3, b3⟩
    have P3 := Lib.hid (P2.out.up b3)
    have Q3 := Lib.hid (Q2.out.up b3)
    have G3 := Lib.hid (Pm.of_slc s3)
    have B3 : Hid (Below w.heap.size w w3) := Lib.hid (btr B2.out b3)
    clear b3 s3
    go_wp2_with fail
    refine (specFindConjugator P Q cp cq np nq p q w3 P3.out.ri Q3.out.ri P3.out.hid Q3.out.hid (by omega) (by omega) P3.out.2.1 Q3.out.2.1).mono ?_
    rintro e w4 ⟨A4, n4, c4, rfl, s4, l4, b4⟩
    have P4 := Lib.hid (P3.out.up b4)
    have Q4 := Lib.hid (Q3.out.up b4)
    have G4 := Lib.hid (G3.out.up b4)
    have B4 : Hid (Below w.heap.size w w4) := Lib.hid (btr B3.out b4)
    clear b4 s4
    go_wp2_with fail
    refine (specSameCycleType P Q cp cq np nq p q w4 P4.out.ri Q4.out.ri P4.out.hid Q4.out.hid (by omega) (by omega) P4.out.2.1 Q4.out.2.1).mono ?_
    rintro e w5 ⟨rfl, b5⟩
    have P5 := Lib.hid (P4.out.up b5)
    have Q5 := Lib.hid (Q4.out.up b5)
    have G5 := Lib.hid (G4.out.up b5)
    have B5 : Hid (Below w.heap.size w w5) := Lib.hid (btr B4.out b5)
    clear b5
    have ne1 : (sameType p q != sameType p q) = false := by simp
    have ne2 : (findB p q != findB p q) = false := by simp
    go_wp2_with fail
    refine (quiet_below (specIsP P cp np p w5 P5.out.ri P5.out.hid (by omega) P5.out.2.1)).mono ?_
    rintro e w6 ⟨he6, b6⟩
    have P6 := Lib.hid (P5.out.up b6)
    have Q6 := Lib.hid (Q5.out.up b6)
    have G6 := Lib.hid (G5.out.up b6)
    have B6 : Hid (Below w.heap.size w w6) := Lib.hid (btr B5.out b6)
    clear b6
    rcases hip : isP p with _ | _
    · rw [hip] at he6
      subst he6
      rcases hf : findB p q with _ | _
      · have F3 := Lib.hid (findL_none hf)
        have n0 : n3 = 0 := by have := G6.out.1; rw [F3.out] at this; simpa using this.symm
        subst n0
        clear hf
        go_wp2_with fail
        go_ret
        exact ⟨rfl, B6.out⟩
      · obtain ⟨ht, hd, hc⟩ := findL_some hf
        have Hc := Lib.hid hc
        rw [ht]
        clear hf hc
        go_wp2_with fail
        refine (implConjugate P A3 cp c3 np n3 p (findL p q) w6 P6.out.ri G6.out.ri P6.out.hid G6.out.hid (by omega) (by omega)).mono ?_
        rintro e wa ⟨Aa, na, ca, rfl, sa, la, ba⟩
        have Qa := Lib.hid (Q6.out.up ba)
        have Ra : Hid (Pm wa w6.heap.size Aa na ca q) := Lib.hid (by have := Pm.of_slc sa; rw [Hc.out] at this; exact this)
        have Ba : Hid (Below w.heap.size w wa) := Lib.hid (btr B6.out ba)
        rw [hd]
        clear ba sa hd ht
        go_wp2_with fail
        refine (quiet_below (likeI_any Aa Q ca cq na nq q q wa Ra.out.ri Qa.out.ri Ra.out.hid Qa.out.hid (by omega) (by omega))).mono ?_
        rintro e wb ⟨heb, bb⟩
        have Bb : Hid (Below w.heap.size w wb) := Lib.hid (btr Ba.out bb)
        rw [decide_eq_true rfl] at heb
        subst heb
        clear bb
        go_wp2_with fail
        go_ret
        exact ⟨rfl, Bb.out⟩
    · rw [hip] at he6
      subst he6
      go_wp2_with fail
      refine (quiet_below (specIsP Q cq nq q w6 Q6.out.ri Q6.out.hid (by omega) Q6.out.2.1)).mono ?_
      rintro e w7 ⟨he7, b7⟩
      have P7 := Lib.hid (P6.out.up b7)
      have Q7 := Lib.hid (Q6.out.up b7)
      have G7 := Lib.hid (G6.out.up b7)
      have B7 : Hid (Below w.heap.size w w7) := Lib.hid (btr B6.out b7)
      clear b7
      rcases hiq : isP q with _ | _
      · rw [hiq] at he7
        subst he7
        rcases hf : findB p q with _ | _
        · have F3 := Lib.hid (findL_none hf)
          have n0 : n3 = 0 := by have := G7.out.1; rw [F3.out] at this; simpa using this.symm
          subst n0
          clear hf
          go_wp2_with fail
          go_ret
          exact ⟨rfl, B7.out⟩
        · obtain ⟨ht, hd, hc⟩ := findL_some hf
          have Hc := Lib.hid hc
          rw [ht]
          clear hf hc
          go_wp2_with fail
          refine (implConjugate P A3 cp c3 np n3 p (findL p q) w7 P7.out.ri G7.out.ri P7.out.hid G7.out.hid (by omega) (by omega)).mono ?_
          rintro e wa ⟨Aa, na, ca, rfl, sa, la, ba⟩
          have Qa := Lib.hid (Q7.out.up ba)
          have Ra : Hid (Pm wa w7.heap.size Aa na ca q) := Lib.hid (by have := Pm.of_slc sa; rw [Hc.out] at this; exact this)
          have Ba : Hid (Below w.heap.size w wa) := Lib.hid (btr B7.out ba)
          rw [hd]
          clear ba sa hd ht
          go_wp2_with fail
          refine (quiet_below (likeI_any Aa Q ca cq na nq q q wa Ra.out.ri Qa.out.ri Ra.out.hid Qa.out.hid (by omega) (by omega))).mono ?_
          rintro e wb ⟨heb, bb⟩
          have Bb : Hid (Below w.heap.size w wb) := Lib.hid (btr Ba.out bb)
          rw [decide_eq_true rfl] at heb
          subst heb
          clear bb
          go_wp2_with fail
          go_ret
          exact ⟨rfl, Bb.out⟩
      · rw [hiq] at he7
        subst he7
        by_cases hn : np = nq
        · have hsd := sameD_of P7.out.1 Q7.out.1 hip hiq hn
          have eq1 : ((np : Int) == (nq : Int)) = true := by rw [beq_iff_eq]; omega
          have Hsd := Lib.hid hsd
          clear hn hip hiq hsd
          go_wp2_with fail
          refine (implConjugate P Q cp cq np nq p q w7 P7.out.ri Q7.out.ri P7.out.hid Q7.out.hid (by omega) (by omega)).mono ?_
          rintro e w8 ⟨A8, n8, c8, rfl, s8, l8, b8⟩
          have P8 := Lib.hid (P7.out.up b8)
          have Q8 := Lib.hid (Q7.out.up b8)
          have G8 := Lib.hid (G7.out.up b8)
          have R8 := Lib.hid (Pm.of_slc s8)
          have B8 : Hid (Below w.heap.size w w8) := Lib.hid (btr B7.out b8)
          rw [Hsd.out]
          clear b8 s8
          go_wp2_with fail
          refine (implSameCycleType P A8 cp c8 np n8 p (conjL p q) w8 P8.out.ri R8.out.ri P8.out.hid R8.out.hid (by omega) (by omega)).mono ?_
          rintro e w9 ⟨he9, b9⟩
          have P9 := Lib.hid (P8.out.up b9)
          have Q9 := Lib.hid (Q8.out.up b9)
          have G9 := Lib.hid (G8.out.up b9)
          have R9 := Lib.hid (R8.out.up b9)
          have B9 : Hid (Below w.heap.size w w9) := Lib.hid (btr B8.out b9)
          rw [sameType_conj Hsd.out] at he9
          subst he9
          clear b9
          go_wp2_with fail
          refine (implCycleType P cp np p w9 P9.out.ri P9.out.hid (by omega)).mono ?_
          rintro e w10 ⟨A10, n10, c10, rfl, s10, l10, b10⟩
          have P10 := Lib.hid (P9.out.up b10)
          have Q10 := Lib.hid (Q9.out.up b10)
          have G10 := Lib.hid (G9.out.up b10)
          have R10 := Lib.hid (R9.out.up b10)
          have S10 := Lib.hid (Pm.of_slc s10)
          have B10 : Hid (Below w.heap.size w w10) := Lib.hid (btr B9.out b10)
          clear b10 s10
          go_wp2_with fail
          refine (implCycleType A8 c8 n8 (conjL p q) w10 R10.out.ri R10.out.hid (by omega)).mono ?_
          rintro e w11 ⟨A11, n11, c11, rfl, s11, l11, b11⟩
          have P11 := Lib.hid (P10.out.up b11)
          have Q11 := Lib.hid (Q10.out.up b11)
          have G11 := Lib.hid (G10.out.up b11)
          have S11 := Lib.hid (S10.out.up b11)
          have T11 := Lib.hid (Pm.of_slc s11)
          have B11 : Hid (Below w.heap.size w w11) := Lib.hid (btr B10.out b11)
          clear b11 s11
          go_wp2_with fail
          refine (quiet_below (likeI_any A10 A11 c10 c11 n10 n11 (ctypeL p) (ctypeL (conjL p q)) w11 S11.out.ri T11.out.ri S11.out.hid T11.out.hid (by omega) (by omega))).mono ?_
          rintro e w12 ⟨he12, b12⟩
          have P12 := Lib.hid (P11.out.up b12)
          have Q12 := Lib.hid (Q11.out.up b12)
          have G12 := Lib.hid (G11.out.up b12)
          have B12 : Hid (Below w.heap.size w w12) := Lib.hid (btr B11.out b12)
          rw [decide_eq_true (ctypeL_conj Hsd.out)] at he12
          subst he12
          clear b12
          rcases hf : findB p q with _ | _
          · have F3 := Lib.hid (findL_none hf)
            have n0 : n3 = 0 := by have := G12.out.1; rw [F3.out] at this; simpa using this.symm
            subst n0
            clear hf
            go_wp2_with fail
            go_ret
            exact ⟨rfl, B12.out⟩
          · obtain ⟨ht, hd, hc⟩ := findL_some hf
            have Hc := Lib.hid hc
            rw [ht]
            clear hf hc
            go_wp2_with fail
            refine (implConjugate P A3 cp c3 np n3 p (findL p q) w12 P12.out.ri G12.out.ri P12.out.hid G12.out.hid (by omega) (by omega)).mono ?_
            rintro e wa ⟨Aa, na, ca, rfl, sa, la, ba⟩
            have Qa := Lib.hid (Q12.out.up ba)
            have Ra : Hid (Pm wa w12.heap.size Aa na ca q) := Lib.hid (by have := Pm.of_slc sa; rw [Hc.out] at this; exact this)
            have Ba : Hid (Below w.heap.size w wa) := Lib.hid (btr B12.out ba)
            rw [hd]
            clear ba sa hd ht
            go_wp2_with fail
            refine (quiet_below (likeI_any Aa Q ca cq na nq q q wa Ra.out.ri Qa.out.ri Ra.out.hid Qa.out.hid (by omega) (by omega))).mono ?_
            rintro e wb ⟨heb, bb⟩
            have Bb : Hid (Below w.heap.size w wb) := Lib.hid (btr Ba.out bb)
            rw [decide_eq_true rfl] at heb
            subst heb
            clear bb
            go_wp2_with fail
            go_ret
            exact ⟨rfl, Bb.out⟩
        · have eq1 : ((np : Int) == (nq : Int)) = false := by rw [beq_eq_false_iff_ne]; omega
          clear hn hip hiq
          rcases hf : findB p q with _ | _
          · have F3 := Lib.hid (findL_none hf)
            have n0 : n3 = 0 := by have := G7.out.1; rw [F3.out] at this; simpa using this.symm
            subst n0
            clear hf
            go_wp2_with fail
            go_ret
            exact ⟨rfl, B7.out⟩
          · obtain ⟨ht, hd, hc⟩ := findL_some hf
            have Hc := Lib.hid hc
            rw [ht]
            clear hf hc
            go_wp2_with fail
            refine (implConjugate P A3 cp c3 np n3 p (findL p q) w7 P7.out.ri G7.out.ri P7.out.hid G7.out.hid (by omega) (by omega)).mono ?_
            rintro e wa ⟨Aa, na, ca, rfl, sa, la, ba⟩
            have Qa := Lib.hid (Q7.out.up ba)
            have Ra : Hid (Pm wa w7.heap.size Aa na ca q) := Lib.hid (by have := Pm.of_slc sa; rw [Hc.out] at this; exact this)
            have Ba : Hid (Below w.heap.size w wa) := Lib.hid (btr B7.out ba)
            rw [hd]
            clear ba sa hd ht
            go_wp2_with fail
            refine (quiet_below (likeI_any Aa Q ca cq na nq q q wa Ra.out.ri Qa.out.ri Ra.out.hid Qa.out.hid (by omega) (by omega))).mono ?_
            rintro e wb ⟨heb, bb⟩
            have Bb : Hid (Below w.heap.size w wb) := Lib.hid (btr Ba.out bb)
            rw [decide_eq_true rfl] at heb
            subst heb
            clear bb
            go_wp2_with fail
            go_ret
            exact ⟨rfl, Bb.out⟩
  · go_enter Try.func5, Try.ntmps5
    go_wp2_with fail
    refine (bigF2 A len cap w (by omega)).mono ?_
    rintro e w0 ⟨rfl, rfl⟩
    go_wp2_with fail
    go_ret
    exact ⟨rfl, Below.refl _ _⟩
end Go.Proofs.Ytcjcmhoalomjfab

/- Slices of slices of int64 that are only read, and the laws' helpers on them. Conditions: at most 1048576 slices, numbers in all. -/
namespace Go.Proofs.Ytcjcmhoalomjfab
open Go.RowKit

/-- '.slice A n _' reads as the slices vs, which read as the lists xss, all in blocks below B. -/
structure RR (w : World) (B : Nat) (A : Option Addr) (n : Nat) (vs : List SV) (xss : List (List Int)) : Prop where
  lv : vs.length = n
  lx : xss.length = n
  cells : 0 < n → ∃ b off, A = some ⟨b, off, none⟩ ∧ b < B ∧ ∀ j, j < n → w.cell? ⟨b, off + j, none⟩ = some (.slice (vs.getD j sd0).1 (vs.getD j sd0).2.1 (vs.getD j sd0).2.2)
  rows : ∀ j, j < n → RI w B (vs.getD j sd0).1 (xss.getD j [])
  lens : ∀ j, j < n → (xss.getD j []).length = (vs.getD j sd0).2.1
  caps : ∀ j, j < n → (vs.getD j sd0).2.1 ≤ (vs.getD j sd0).2.2

section
variable {w w' : World} {B B' n : Nat} {A : Option Addr} {vs : List SV} {xss : List (List Int)}
theorem RR.keep (h : RR w B A n vs xss) (hk : ∀ p : Addr, p.block < B → w'.cell? p = w.cell? p) : RR w' B A n vs xss :=
  ⟨h.lv, h.lx, fun hn => by obtain ⟨b, off, e, hb, hc⟩ := h.cells hn; exact ⟨b, off, e, hb, fun j hj => (hk ⟨b, off + j, none⟩ hb).trans (hc j hj)⟩, fun j hj => (h.rows j hj).keep hk, h.lens, h.caps⟩
theorem RR.more (h : RR w B A n vs xss) (hB : B ≤ B') : RR w B' A n vs xss :=
  ⟨h.lv, h.lx, fun hn => by obtain ⟨b, off, e, hb, hc⟩ := h.cells hn; exact ⟨b, off, e, by omega, hc⟩, fun j hj => (h.rows j hj).more hB, h.lens, h.caps⟩
theorem RR.below (h : RR w B A n vs xss) {B' : Nat} (hb : Below B' w w') (hB : B ≤ B') : RR w' B A n vs xss := h.keep fun _ hp => hb.cell (by omega)
theorem RR.up (h : RR w w.heap.size A n vs xss) (hb : Below w.heap.size w w') : RR w' w'.heap.size A n vs xss := (h.below hb (Nat.le_refl _)).more hb.size
theorem RR.drewN (h : RR w B A n vs xss) (k : Nat) : RR (w.drewN k) B A n vs xss := h.keep fun _ _ => rfl
theorem RR.alloc (h : RR w B A n vs xss) (hB : B ≤ w.heap.size) (o : Obj) : RR (w.alloc o) B A n vs xss := h.keep fun p hp => World.cell?_alloc_lt w o p (by omega)
theorem RR.grown (h : RR w B A n vs xss) {row : Option Nat} (hg : w.grownBy w' row) (hB : B ≤ w.heap.size) (hr : ∀ g, row = some g → B ≤ g) : RR w' B A n vs xss :=
  h.keep fun p hp => World.cell?_of_block (hg.block p.block (by omega) (fun e => by have := hr _ e.symm; omega))
theorem RR.setCell (h : RR w B A n vs xss) {p : Addr} (hB : B ≤ p.block) (u : Value) : RR (w.setCell p u) B A n vs xss :=
  h.keep fun q hq => World.cell?_setCell_other w p q u (fun e => by subst e; omega)
theorem RR.nil_ : RR w B A 0 [] [] := ⟨rfl, rfl, fun h => absurd h (by omega), fun j h => absurd h (by omega), fun j h => absurd h (by omega), fun j h => absurd h (by omega)⟩
/-- What the k-th slice is. -/
theorem RR.at_ (h : RR w B A n vs xss) {k : Nat} (hk : k < n) : ∃ b off A5 l c5 y, A = some ⟨b, off, none⟩ ∧ b < B ∧ vs.getD k sd0 = (A5, l, c5) ∧ xss.getD k [] = y ∧
    w.cell? ⟨b, off + k, none⟩ = some (.slice A5 l c5) ∧ RI w B A5 y ∧ y.length = l ∧ l ≤ c5 := by
  obtain ⟨b, off, e, hb, hc⟩ := h.cells (by omega)
  exact ⟨b, off, _, _, _, _, e, hb, rfl, rfl, hc k hk, h.rows k hk, h.lens k hk, h.caps k hk⟩
theorem SS.rr {bo bi c : Nat} (h : SS w bo bi A n c vs xss) : RR w w.heap.size A n vs xss :=
  ⟨h.lv, h.lx, fun hn => by obtain ⟨g, e, _, hg, hc⟩ := h.at_ hn; exact ⟨g, 0, e, hg, fun j hj => by rw [Nat.zero_add]; exact hc j hj⟩, fun j hj => (h.row j hj).ri_, fun j hj => (h.row j hj).1, fun j hj => (h.row j hj).le.1⟩
end

/-- The sum of the first k lengths. -/
def tot : List SV → Nat → Nat
  | _, 0 => 0
  | vs, k + 1 => tot vs k + (vs.getD k sd0).2.1
theorem tot_succ (vs : List SV) (k : Nat) : tot vs (k + 1) = tot vs k + (vs.getD k sd0).2.1 := rfl
theorem tot_mono {vs : List SV} {a b : Nat} (h : a ≤ b) : tot vs a ≤ tot vs b := by
  induction b with
  | zero => obtain rfl : a = 0 := by omega
            exact Nat.le_refl _
  | succ b ih =>
    by_cases e : a = b + 1
    · subst e; exact Nat.le_refl _
    · have := ih (by omega); rw [tot_succ]; omega
theorem tot_row {vs : List SV} {k n : Nat} (h : k < n) : (vs.getD k sd0).2.1 ≤ tot vs n := by
  have := tot_mono (vs := vs) (show k + 1 ≤ n from h)
  rw [tot_succ] at this; omega
theorem tot_eq {vs us : List SV} : ∀ n, (∀ i, i < n → (vs.getD i sd0).2.1 = (us.getD i sd0).2.1) → tot vs n = tot us n
  | 0, _ => rfl
  | n + 1, h => by rw [tot_succ, tot_succ, tot_eq n (fun i hi => h i (by omega)), h n (by omega)]
theorem tot_le_mul {vs : List SV} {n m : Nat} (h : ∀ i, i < n → (vs.getD i sd0).2.1 ≤ m) : tot vs n ≤ n * m := by
  induction n with
  | zero => exact Nat.zero_le _
  | succ n ih => have := ih (fun i hi => h i (by omega)); have := h n (by omega); rw [tot_succ, Nat.succ_mul]; omega

/-- szInt64S. -/
theorem szS (A : Option Addr) (n c : Nat) (left : Int) (w : World) (h0 : 0 ≤ left) (h1 : left ≤ 1048576) (hn : n ≤ maxLen) :
    Calls Try.prog 41 #[.slice A n c, .int .i64 left] w fun e w' => e = .returned (.int .i64 (if (n : Int) ≤ left then left - n else -1)) ∧ w = w' := by
  unfold maxLen at hn
  by_cases h : (n : Int) ≤ left
  · have d : decide (left - (n : Int) < 0) = false := by simp; omega
    rw [if_pos h]
    go_enter Try.func41, Try.ntmps41
    go_wp2
    go_ret
    exact ⟨rfl, rfl⟩
  · have d : decide (left - (n : Int) < 0) = true := by simp; omega
    rw [if_neg h]
    go_enter Try.func41, Try.ntmps41
    go_wp2
    go_ret
    exact ⟨rfl, rfl⟩

set_option maxHeartbeats 800000 in
/-- szInt64SS at a slice of slices. -/
theorem szSS (A : Option Addr) (n c : Nat) (vs : List SV) (xss : List (List Int)) (w : World) (hx : RR w w.heap.size A n vs xss) (hn : n ≤ maxLen) (hl : Hid (∀ i, i < n → (vs.getD i sd0).2.1 ≤ maxLen)) :
    Calls Try.prog 13 #[.slice A n c, .int .i64 1048576] w fun e w' => e = .returned (.int .i64 (if n + tot vs n ≤ 1048576 then 1048576 - ((n + tot vs n : Nat) : Int) else -1)) ∧ w = w' := by
  have HX := Lib.hid hx
  clear hx
  have hn' := hn
  unfold maxLen at hn'
  obtain ⟨r, er⟩ : ∃ r : Int, (if n + tot vs n ≤ 1048576 then 1048576 - ((n + tot vs n : Nat) : Int) else -1) = r := ⟨_, rfl⟩
  rw [er]
  have Er := Lib.hid er
  clear er
  by_cases h : n ≤ 1048576
  · have d : decide ((1048576 : Int) - (n : Int) < 0) = false := by simp; omega
    go_enter Try.func13, Try.ntmps13
    go_wp2
    go_loop [1, 5] (fun v i => ∃ (k T : Nat), k ≤ n ∧ Hid (tot vs k = T) ∧ n + T ≤ 1048576 ∧ i = .int .i64 (k : Nat) ∧ v = .int .i64 (1048576 - ((n + T : Nat) : Int))) (fun _ i => n - (intOf i).toNat)
    case atStart => exact ⟨0, 0, Nat.zero_le _, Lib.hid rfl, by omega, rfl, by go_num⟩
    case round =>
      obtain ⟨k, T, hk, hT, hT1, rfl, rfl⟩ := hrel
      by_cases hlt : k < n
      · obtain ⟨b, off, A5, l, c5, y, rfl, hb, ev, ey, hc, hr, hy, hlc⟩ := HX.out.at_ hlt
        have hl1 := hl.out k hlt
        have hT2 : Hid (tot vs (k + 1) = T + l) := Lib.hid (by rw [tot_succ, hT.out, ev])
        have hm : Hid (tot vs (k + 1) ≤ tot vs n) := Lib.hid (tot_mono hlt)
        rw [ev] at hl1
        clear ev ey hr
        by_cases hfit : n + T + l ≤ 1048576
        · have d2 : decide ((1048576 : Int) - ((n + T : Nat) : Int) - (l : Int) < 0) = false := by simp; omega
          go_wp2_with fail
          refine (szS A5 l c5 _ w (by omega) (by omega) hl1).mono ?_
          rintro e w1 ⟨rfl, rfl⟩
          rw [if_pos (by omega)]
          go_wp2
          go_round
          case rel => exact ⟨k + 1, T + l, by omega, hT2, by omega, by go_num, by go_num⟩
          case measure => simp [intOf]; omega
        · go_wp2_with fail
          refine (szS A5 l c5 _ w (by omega) (by omega) hl1).mono ?_
          rintro e w1 ⟨rfl, rfl⟩
          rw [if_neg (by omega)]
          go_wp2
          go_ret
          exact ⟨by rw [← Er.out, if_neg (by have := hm.out; rw [hT2.out] at this; omega)]; rfl, rfl⟩
      · have hkn : k = n := by omega
        subst hkn
        go_wp2
        go_ret
        exact ⟨by rw [← Er.out, hT.out, if_pos hT1]; go_num, rfl⟩
  · have d : decide ((1048576 : Int) - (n : Int) < 0) = true := by simp; omega
    have er2 : r = -1 := by rw [← Er.out, if_neg (by omega)]
    subst er2
    go_enter Try.func13, Try.ntmps13
    go_wp2
    go_ret
    exact ⟨rfl, rfl⟩

theorem getD_set_ne {α : Type} {l : List α} {i j : Nat} {x d : α} (h : i ≠ j) : (l.set i x).getD j d = l.getD j d := by
  rw [List.getD_eq_getElem?_getD, List.getElem?_set, if_neg h, ← List.getD_eq_getElem?_getD]
theorem getD_set_eq {α : Type} {l : List α} {i : Nat} {x d : α} (h : i < l.length) : (l.set i x).getD i d = x := by
  rw [List.getD_eq_getElem?_getD, List.getElem?_set, if_pos rfl, if_pos h]; rfl
theorem getD_rep {α : Type} {n i : Nat} {d : α} : (List.replicate n d).getD i d = d := by
  rw [List.getD_eq_getElem?_getD, List.getElem?_replicate]; split <;> rfl
/-- 'make([][]int64, n)': a row of nil slices. -/
theorem SS.made {w : World} {base bi g n : Nat} (h : w.ownsRow base 22 1 (.slice (some ⟨g, 0, none⟩) n n) n (madeCells (Value.slice none 0 0).cells (n * 1)).toList) : SS w base bi (some ⟨g, 0, none⟩) n n (List.replicate n sd0) (List.replicate n []) := by
  refine ⟨?_, by simp, by simp, fun i _ => ?_, fun i j _ _ => ?_⟩
  · have e : (madeCells (Value.slice none 0 0).cells (n * 1)).toList = (List.replicate n sd0).map sval := by
      show (madeCells #[Value.slice none 0 0] (n * 1)).toList = _
      rw [toList_madeCells_one]; simp [sval, sd0]
    rw [← e]; exact h
  · rw [getD_rep, getD_rep]; exact Slc.nil_
  · rw [getD_rep]; exact .inl rfl
/-- Where cell j of the outer row takes another slice. -/
theorem SS.store {w : World} {base bi g n c j dn dc : Nat} {dA : Option Addr} {vs : List SV} {xss : List (List Int)} {ys : List Int} (h : SS w base bi (some ⟨g, 0, none⟩) n c vs xss) (hj : j < n) (hs : Slc w bi dA dn dc ys)
    (hd : ∀ i, i < n → i ≠ j → (sval (vs.getD i sd0)).ownBlock = none ∨ (sval (vs.getD i sd0)).ownBlock ≠ (Value.slice dA dn dc).ownBlock) :
    SS (w.setCell ⟨g, j, none⟩ (.slice dA dn dc)) base bi (some ⟨g, 0, none⟩) n c (vs.set j (dA, dn, dc)) (xss.set j ys) ∧ w.grownBy (w.setCell ⟨g, j, none⟩ (.slice dA dn dc)) (some g) := by
  obtain ⟨hown, hgr⟩ := h.own.stored j (.slice dA dn dc)
  refine ⟨⟨by rw [List.map_set]; exact hown, by rw [List.length_set]; exact h.lv, by rw [List.length_set]; exact h.lx, fun i hi => ?_, fun a b hab hb => ?_⟩, hgr⟩
  · by_cases e : j = i
    · subst e
      rw [getD_set_eq (by rw [h.lv]; exact hj), getD_set_eq (by rw [h.lx]; exact hj)]
      exact hs.kept hgr (apart_types hs h.own)
    · rw [getD_set_ne e, getD_set_ne e]
      exact (h.row i hi).kept hgr (apart_types (h.row i hi) h.own)
  · by_cases ea : j = a
    · subst ea
      rw [getD_set_eq (by rw [h.lv]; exact hj), getD_set_ne (by omega)]
      rcases hd b hb (by omega) with e | e
      · rw [e]
        rcases (sval (dA, dn, dc)).ownBlock with _ | q
        · exact .inl rfl
        · exact .inr (by simp)
      · exact .inr fun e2 => e e2.symm
    · rw [getD_set_ne ea]
      by_cases eb : j = b
      · subst eb
        rw [getD_set_eq (by rw [h.lv]; exact hj)]
        exact hd a (by omega) (by omega)
      · rw [getD_set_ne eb]; exact h.dis a b hab hb

set_option maxHeartbeats 1600000 in
/-- toInt64SS: a copy of the call's own. -/
theorem toSS (A : Option Addr) (n c : Nat) (vs : List SV) (xss : List (List Int)) (w : World) (hx : RR w w.heap.size A n vs xss) (hn : n ≤ 1048576) (hl : Hid (∀ i, i < n → (vs.getD i sd0).2.1 ≤ 1048576)) :
    Calls Try.prog 15 #[.slice A n c] w fun e w' => ∃ A' c' vs', e = .returned (.slice A' n c') ∧ SS w' w.heap.size w.heap.size A' n c' vs' xss ∧ (∀ i, i < n → (vs'.getD i sd0).2.1 = (vs.getD i sd0).2.1) ∧ Below w.heap.size w w' := by
  obtain ⟨i0, hi, hz0, hz1, hz2⟩ := info_parts infoS
  have HX := Lib.hid hx
  clear hx
  go_enter Try.func15, Try.ntmps15
  go_wp2_with (first | (at_make; refine wpList_make_full _ rfl _ _ 28 rfl w.heap.size 22 i0 (.slice none 0 0) 1 Try.underlying28 hi hz0 hz1 .i64 .i64 _ _ n rfl rfl rfl rfl (by rw [hz2]; omega) (by unfold maxLen; omega) (Nat.le_refl _) ?_; intro w1 hown1 hgrow1))
  have S1 : Hid (SS w1 w.heap.size w.heap.size (some ⟨w.heap.size, 0, none⟩) n n (List.replicate n sd0) (List.replicate n [])) := Lib.hid (SS.made hown1)
  have bel1 : Below w.heap.size w w1 := (Below.refl _ _).grown hgrow1 (Nat.le_refl _) (fun k e => nomatch e)
  clear hown1 hgrow1
  go_loopw [4] (fun i wr => ∃ k us zss, k ≤ n ∧ i = .int .i64 (k : Nat) ∧ SS wr w.heap.size w.heap.size (some ⟨w.heap.size, 0, none⟩) n n us zss ∧
    (∀ j, j < k → zss.getD j [] = xss.getD j []) ∧ (∀ j, j < k → (us.getD j sd0).2.1 = (vs.getD j sd0).2.1) ∧ Below w.heap.size w wr) (fun i _ => n - (intOf i).toNat)
  case atStart => exact ⟨0, _, _, Nat.zero_le _, rfl, S1.out, fun j h => absurd h (by omega), fun j h => absurd h (by omega), bel1⟩
  case round =>
    clear S1 bel1
    obtain ⟨k, us, zss, hk, rfl, ss, hz, hu, bel⟩ := hrel
    have Ss := Lib.hid ss
    have Hz := Lib.hid hz
    have Hu := Lib.hid hu
    have Be := Lib.hid bel
    clear ss hz hu bel
    by_cases hlt : k < n
    · obtain ⟨b, off, A5, l, c5, y, rfl, hb, ev, ey, hc0, hr0, hy, hlc⟩ := HX.out.at_ hlt
      have hl1 := hl.out k hlt
      rw [ev] at hl1
      have hc := (Be.out.cell (p := ⟨b, off + k, none⟩) hb).trans hc0
      have hr := Lib.hid ((hr0.below Be.out (Nat.le_refl _)).more Be.out.size)
      have Ev := Lib.hid ev
      have Ey := Lib.hid ey
      clear ev ey hc0 hr0
      go_wp2_with fail
      refine (toS_any A5 c5 l y wr hr.out (Lib.hid hy) (by omega)).mono ?_
      rintro e w3 ⟨A3, c3, rfl, s3, b3⟩
      have hd : ∀ i, i < n → i ≠ k → (sval (us.getD i sd0)).ownBlock = none ∨ (sval (us.getD i sd0)).ownBlock ≠ (Value.slice A3 l c3).ownBlock := fun i hi _ => lies_dis Ss.out s3.lies (Nat.le_refl _) i hi
      have ss3 := (Ss.out.up b3).store hlt (s3.mono Be.out.size) hd
      obtain ⟨g, eg, hg1, hg2, hcc⟩ := (Ss.out.up b3).at_ (by omega)
      have eg2 : g = w.heap.size := by simpa using eg.symm
      rw [eg2] at hcc
      have c2 := hcc k hlt
      have f2 := (Ss.out.up b3).own.frozenAt k
      have Ss3 := Lib.hid ss3.1
      have Be3 : Hid (Below w.heap.size w (w3.setCell ⟨w.heap.size, k, none⟩ (.slice A3 l c3))) := Lib.hid ((btr Be.out b3).setCell (p := ⟨w.heap.size, k, none⟩) (Nat.le_refl _) _)
      clear ss3 hd s3 b3 hcc eg
      obtain ⟨o1, o2, o3, hu5⟩ : ∃ o1 o2 o3, us.getD k sd0 = (o1, o2, o3) := ⟨_, _, _, rfl⟩
      rw [hu5] at c2
      clear hu5
      go_wp2
      go_roundw
      case rel =>
        refine ⟨k + 1, _, _, by omega, by go_num, Ss3.out, fun j hj => ?_, fun j hj => ?_, Be3.out⟩
        · by_cases e : k = j
          · subst e; rw [getD_set_eq (by rw [Ss.out.lx]; exact hlt), Ey.out]
          · rw [getD_set_ne e]; exact Hz.out j (by omega)
        · by_cases e : k = j
          · subst e; rw [getD_set_eq (by rw [Ss.out.lv]; exact hlt), Ev.out]
          · rw [getD_set_ne e]; exact Hu.out j (by omega)
      case measure => simp [intOf]; omega
    · have hkn : k = n := by omega
      subst hkn
      have Ez : Hid (zss = xss) := Lib.hid (by
        apply List.ext_getElem (by rw [Ss.out.lx, HX.out.lx])
        intro i h1 h2
        have := Hz.out i (by rw [← Ss.out.lx]; exact h1)
        rw [List.getD_eq_getElem?_getD, List.getD_eq_getElem?_getD, List.getElem?_eq_getElem h1, List.getElem?_eq_getElem h2] at this
        exact this)
      go_wp2
      go_ret
      exact ⟨_, _, _, rfl, by rw [← Ez.out]; exact Ss.out, Hu.out, Be.out⟩
end Go.Proofs.Ytcjcmhoalomjfab

/- The shape of a contract over generators: what goes in, what comes out, what is kept. No condition. -/
namespace Go.Proofs.Ytcjcmhoalomjfab
open Go.RowKit

/-- Generators that can be read, not too many. -/
structure GIn (w : World) (A : Option Addr) (n : Nat) (vs : List SV) (xss : List (List Int)) : Prop where
  rr : RR w w.heap.size A n vs xss
  hn : n ≤ 1048576
  hl : ∀ i, i < n → (vs.getD i sd0).2.1 ≤ 1048576
/-- A list of numbers that can be read, not too long. -/
structure SIn (w : World) (P : Option Addr) (np cp : Nat) (p : List Int) : Prop where
  ri : RI w w.heap.size P p
  lp : p.length = np
  hn : np ≤ 1048576
  hc : np ≤ cp
def I64 (a : Int) : Prop := -9223372036854775808 ≤ a ∧ a ≤ 9223372036854775807
section
variable {w w' : World} {A P : Option Addr} {n np cp : Nat} {vs : List SV} {xss : List (List Int)} {p : List Int}
theorem GIn.up (h : GIn w A n vs xss) (hb : Below w.heap.size w w') : GIn w' A n vs xss := ⟨h.rr.up hb, h.hn, h.hl⟩
theorem SIn.up (h : SIn w P np cp p) (hb : Below w.heap.size w w') : SIn w' P np cp p := ⟨h.ri.up hb, h.lp, h.hn, h.hc⟩
end

def CtImI (F : Nat) (R : Int → List (List Int) → Int → Prop) : Prop := ∀ (a : Int) (A : Option Addr) (n c : Nat) (vs : List SV) (xss : List (List Int)) (w : World), GIn w A n vs xss → I64 a →
  Calls Try.prog F #[.int .i64 a, .slice A n c] w fun e w' => ∃ v, e = .returned (.int .i64 v) ∧ R a xss v ∧ Below w.heap.size w w'
def CtImB (F : Nat) (R : Int → List (List Int) → Bool → Prop) : Prop := ∀ (a : Int) (A : Option Addr) (n c : Nat) (vs : List SV) (xss : List (List Int)) (w : World), GIn w A n vs xss → I64 a →
  Calls Try.prog F #[.int .i64 a, .slice A n c] w fun e w' => ∃ v, e = .returned (.bool v) ∧ R a xss v ∧ Below w.heap.size w w'
def CtImS (F : Nat) (R : Int → List (List Int) → List Int → Prop) : Prop := ∀ (a : Int) (A : Option Addr) (n c : Nat) (vs : List SV) (xss : List (List Int)) (w : World), GIn w A n vs xss → I64 a →
  Calls Try.prog F #[.int .i64 a, .slice A n c] w fun e w' => ∃ A' m c' zs, e = .returned (.slice A' m c') ∧ Slc w' w.heap.size A' m c' zs ∧ R a xss zs ∧ Below w.heap.size w w'
def CtImM (F : Nat) (R : Int → List (List Int) → List (List Int) → Prop) : Prop := ∀ (a : Int) (A : Option Addr) (n c : Nat) (vs : List SV) (xss : List (List Int)) (w : World), GIn w A n vs xss → I64 a →
  Calls Try.prog F #[.int .i64 a, .slice A n c] w fun e w' => ∃ A' m c' us l, e = .returned (.slice A' m c') ∧ SS w' w.heap.size w.heap.size A' m c' us l ∧ R a xss l ∧ Below w.heap.size w w'
def CtImsI (F : Nat) (R : Int → List (List Int) → List Int → Int → Prop) : Prop := ∀ (a : Int) (A : Option Addr) (n c : Nat) (vs : List SV) (xss : List (List Int)) (P : Option Addr) (np cp : Nat) (p : List Int) (w : World), GIn w A n vs xss → SIn w P np cp p → I64 a →
  Calls Try.prog F #[.int .i64 a, .slice A n c, .slice P np cp] w fun e w' => ∃ v, e = .returned (.int .i64 v) ∧ R a xss p v ∧ Below w.heap.size w w'
def CtImsB (F : Nat) (R : Int → List (List Int) → List Int → Bool → Prop) : Prop := ∀ (a : Int) (A : Option Addr) (n c : Nat) (vs : List SV) (xss : List (List Int)) (P : Option Addr) (np cp : Nat) (p : List Int) (w : World), GIn w A n vs xss → SIn w P np cp p → I64 a →
  Calls Try.prog F #[.int .i64 a, .slice A n c, .slice P np cp] w fun e w' => ∃ v, e = .returned (.bool v) ∧ R a xss p v ∧ Below w.heap.size w w'
def CtImsP (F : Nat) (R : Int → List (List Int) → List Int → List Int → Bool → Prop) : Prop := ∀ (a : Int) (A : Option Addr) (n c : Nat) (vs : List SV) (xss : List (List Int)) (P : Option Addr) (np cp : Nat) (p : List Int) (w : World), GIn w A n vs xss → SIn w P np cp p → I64 a →
  Calls Try.prog F #[.int .i64 a, .slice A n c, .slice P np cp] w fun e w' => ∃ A' m c' zs ok, e = .returned (.tuple #[.slice A' m c', .bool ok]) ∧ Slc w' w.heap.size A' m c' zs ∧ R a xss p zs ok ∧ Below w.heap.size w w'
def CtImmB (F : Nat) (R : Int → List (List Int) → List (List Int) → Bool → Prop) : Prop := ∀ (a : Int) (A : Option Addr) (n c : Nat) (vs : List SV) (xss : List (List Int)) (M : Option Addr) (m cm : Nat) (us : List SV) (yss : List (List Int)) (w : World), GIn w A n vs xss → GIn w M m us yss → I64 a →
  Calls Try.prog F #[.int .i64 a, .slice A n c, .slice M m cm] w fun e w' => ∃ v, e = .returned (.bool v) ∧ R a xss yss v ∧ Below w.heap.size w w'
def CtImiP (F : Nat) (R : Int → List (List Int) → Int → List Int → Bool → Prop) : Prop := ∀ (a : Int) (A : Option Addr) (n c : Nat) (vs : List SV) (xss : List (List Int)) (k : Int) (w : World), GIn w A n vs xss → I64 a → I64 k →
  Calls Try.prog F #[.int .i64 a, .slice A n c, .int .i64 k] w fun e w' => ∃ A' m c' zs ok, e = .returned (.tuple #[.slice A' m c', .bool ok]) ∧ Slc w' w.heap.size A' m c' zs ∧ R a xss k zs ok ∧ Below w.heap.size w w'
def CtImP (F : Nat) (R : Int → List (List Int) → List Int → Bool → Prop) : Prop := ∀ (a : Int) (A : Option Addr) (n c : Nat) (vs : List SV) (xss : List (List Int)) (w : World), GIn w A n vs xss → I64 a →
  Calls Try.prog F #[.int .i64 a, .slice A n c] w fun e w' => ∃ A' m c' zs ok, e = .returned (.tuple #[.slice A' m c', .bool ok]) ∧ Slc w' w.heap.size A' m c' zs ∧ R a xss zs ok ∧ Below w.heap.size w w'
end Go.Proofs.Ytcjcmhoalomjfab

/- Groups of permutations and stabilizer chains: what a chain holds, when it is whole, how it grows. No Go in it. No condition. -/
namespace Go.Proofs.Ytcjcmhoalomjfab
open Go.RowKit

/-- A permutation of degree N. -/
def Pn (N : Nat) (p : List Int) : Prop := IsP p ∧ p.length = N
/-- It moves nothing below k. -/
def Fx (k : Nat) (p : List Int) : Prop := ∀ i, i < k → nx p i = i
def iv (p : List Int) : List Int := invL p p.length

section
variable {N k : Nat} {p q r : List Int}
theorem Pn.ext (hp : Pn N p) (hq : Pn N q) (h : ∀ x, x < N → nx p x = nx q x) : p = q :=
  ext_getD hp.2 hq.2 fun x hx => by rw [nx_val hp.1 (by rw [hp.2]; exact hx), nx_val hq.1 (by rw [hq.2]; exact hx), h x hx]
theorem Pn.lt (hp : Pn N p) {x : Nat} (hx : x < N) : nx p x < N := by have := nx_lt hp.1 (x := x) (by rw [hp.2]; exact hx); rw [hp.2] at this; exact this
theorem Pn.inj (hp : Pn N p) {x y : Nat} (hx : x < N) (hy : y < N) (e : nx p x = nx p y) : x = y := nx_inj hp.1 (by rw [hp.2]; exact hx) (by rw [hp.2]; exact hy) e
theorem Pn.pos (hp : Pn N p) : 1 ≤ N ∧ N ≤ 20 := by have h1 := hp.1.pos; have h2 := hp.1.le; rw [hp.2] at h1 h2; exact ⟨h1, h2⟩
theorem Pn.comp (hp : Pn N p) (hq : Pn N q) : Pn N (compL p q) := ⟨isP_comp hp.1 hq.1 (by rw [hp.2, hq.2]), by rw [compL_length]; exact hp.2⟩
theorem Pn.iv (hp : Pn N p) : Pn N (iv p) := ⟨isP_inv hp.1, by unfold Proofs.Ytcjcmhoalomjfab.iv; rw [invL_length]; exact hp.2⟩
theorem nx_id {n x : Nat} (hx : x < n) : nx (idL n) x = x := by unfold nx; rw [idL_getD hx]; rfl
theorem pn_id (h1 : 1 ≤ N) (h2 : N ≤ 20) : Pn N (idL N) := by
  refine ⟨⟨by rw [idL_length]; exact h1, by rw [idL_length]; exact h2, fun i hi => ?_, fun i hi => ?_, fun i j hi hj e => ?_⟩, idL_length N⟩
  · rw [idL_length] at hi; rw [idL_getD hi]; omega
  · rw [idL_length] at hi ⊢; rw [idL_getD hi]; omega
  · rw [idL_length] at hi hj; rw [idL_getD hi, idL_getD hj] at e; omega
theorem Pn.nxc (hp : Pn N p) {x : Nat} (hx : x < N) : nx (compL p q) x = nx q (nx p x) := nx_comp (by rw [hp.2]; exact hx)
theorem Pn.nxi (hp : Pn N p) {x : Nat} (hx : x < N) : nx (Proofs.Ytcjcmhoalomjfab.iv p) (nx p x) = x := by
  have h := invL_at hp.1 p.length (Nat.le_refl _) x (by rw [hp.2]; exact hx)
  show ((invL p p.length).getD (nx p x) 0).toNat = x
  rw [h]; omega
theorem Pn.nxi' (hp : Pn N p) {x : Nat} (hx : x < N) : nx p (nx (Proofs.Ytcjcmhoalomjfab.iv p) x) = x :=
  hp.iv.inj (hp.lt (hp.iv.lt hx)) hx (hp.nxi (hp.iv.lt hx))
theorem Pn.assoc (hp : Pn N p) (hq : Pn N q) : compL (compL p q) r = compL p (compL q r) := comp_assoc hp.1 (by rw [hp.2, hq.2])
theorem Pn.idl (hp : Pn N p) : compL (idL N) p = p :=
  ((pn_id hp.pos.1 hp.pos.2).comp hp).ext hp fun x hx => by rw [(pn_id hp.pos.1 hp.pos.2).nxc hx, nx_id hx]
theorem Pn.idr (hp : Pn N p) : compL p (idL N) = p :=
  (hp.comp (pn_id hp.pos.1 hp.pos.2)).ext hp fun x hx => by rw [hp.nxc hx, nx_id (hp.lt hx)]
theorem Pn.ci (hp : Pn N p) : compL p (Proofs.Ytcjcmhoalomjfab.iv p) = idL N :=
  (hp.comp hp.iv).ext (pn_id hp.pos.1 hp.pos.2) fun x hx => by rw [hp.nxc hx, hp.nxi hx, nx_id hx]
theorem Pn.ic (hp : Pn N p) : compL (Proofs.Ytcjcmhoalomjfab.iv p) p = idL N :=
  (hp.iv.comp hp).ext (pn_id hp.pos.1 hp.pos.2) fun x hx => by rw [hp.iv.nxc hx, hp.nxi' hx, nx_id hx]
theorem iv_id (h1 : 1 ≤ N) (h2 : N ≤ 20) : Proofs.Ytcjcmhoalomjfab.iv (idL N) = idL N :=
  (pn_id h1 h2).iv.ext (pn_id h1 h2) fun x hx => by
    have := (pn_id h1 h2).nxi hx
    rw [nx_id hx] at this ⊢; exact this
theorem Fx.mono {j : Nat} (h : Fx k p) (hj : j ≤ k) : Fx j p := fun i hi => h i (by omega)
theorem Fx.comp (hp : Pn N p) (h : Fx k p) (h2 : Fx k q) (hk : k ≤ N) : Fx k (compL p q) := fun i hi => by rw [hp.nxc (by omega), h i hi, h2 i hi]
theorem Fx.iv (hp : Pn N p) (h : Fx k p) (hk : k ≤ N) : Fx k (Proofs.Ytcjcmhoalomjfab.iv p) := fun i hi => by
  have := hp.nxi (x := i) (by omega)
  rw [h i hi] at this; exact this
theorem Fx.all (hp : Pn N p) (h : Fx N p) : p = idL N := hp.ext (pn_id hp.pos.1 hp.pos.2) fun x hx => by rw [h x hx, nx_id hx]
theorem fx_id (hk : k ≤ N) : Fx k (idL N) := fun i hi => nx_id (by omega)
theorem Fx.zero : Fx 0 p := fun _ hi => absurd hi (by omega)
theorem Fx.ge (hp : Pn N p) (h : Fx k p) (hk : k < N) : k ≤ nx p k := by
  rcases Nat.lt_or_ge (nx p k) k with hl | hl
  · have := hp.inj (x := nx p k) (y := k) (by omega) hk (h _ hl)
    omega
  · exact hl
theorem Fx.succ (h : Fx k p) (e : nx p k = k) : Fx (k + 1) p := fun i hi => by
  rcases Nat.lt_or_ge i k with hl | hl
  · exact h i hl
  · obtain rfl : i = k := by omega
    exact e
end

/-! ### what generators generate -/
inductive Mb (gs : List (List Int)) (N : Nat) : List Int → Prop
  | one : Mb gs N (idL N)
  | mul {p g : List Int} : Mb gs N p → g ∈ gs → Mb gs N (compL p g)

section
variable {gs hs : List (List Int)} {N k : Nat} {p q : List Int}
theorem Mb.pn (hg : ∀ g ∈ gs, Pn N g) (h1 : 1 ≤ N) (h2 : N ≤ 20) (h : Mb gs N p) : Pn N p := by
  induction h with
  | one => exact pn_id h1 h2
  | mul _ hm ih => exact ih.comp (hg _ hm)
theorem Mb.fx (hg : ∀ g ∈ gs, Pn N g ∧ Fx k g) (h1 : 1 ≤ N) (h2 : N ≤ 20) (hk : k ≤ N) (h : Mb gs N p) : Fx k p := by
  induction h with
  | one => exact fx_id hk
  | mul hm hg' ih => exact ih.comp (hm.pn (fun g h => (hg g h).1) h1 h2) (hg _ hg').2 hk
theorem Mb.of (hg : Pn N p) (hm : p ∈ gs) : Mb gs N p := by
  have := Mb.mul (Mb.one (gs := gs) (N := N)) hm
  rw [hg.idl] at this; exact this
theorem Mb.comp (hg : ∀ g ∈ gs, Pn N g) (h1 : 1 ≤ N) (h2 : N ≤ 20) (hp : Mb gs N p) (hq : Mb gs N q) : Mb gs N (compL p q) := by
  induction hq with
  | one => rw [(hp.pn hg h1 h2).idr]; exact hp
  | mul hq' hm ih =>
    rw [← (hp.pn hg h1 h2).assoc (hq'.pn hg h1 h2)]
    exact .mul ih hm
/-- Whatever lies in a set closed under products lies there. -/
theorem Mb.sub (hs1 : 1 ≤ N) (hs2 : N ≤ 20) (hg : ∀ g ∈ hs, Pn N g) (h : ∀ g ∈ gs, Mb hs N g) (hp : Mb gs N p) : Mb hs N p := by
  induction hp with
  | one => exact .one
  | mul _ hm ih => exact ih.comp hg hs1 hs2 (h _ hm)
def pw (N : Nat) (p : List Int) : Nat → List Int
  | 0 => idL N
  | k + 1 => compL (pw N p k) p
theorem pw_pn (hp : Pn N p) : ∀ k, Pn N (pw N p k)
  | 0 => pn_id hp.pos.1 hp.pos.2
  | k + 1 => (pw_pn hp k).comp hp
theorem pw_nx (hp : Pn N p) {x : Nat} (hx : x < N) : ∀ k, nx (pw N p k) x = it p k x
  | 0 => nx_id hx
  | k + 1 => by
    show nx (compL (pw N p k) p) x = nx p (it p k x)
    rw [(pw_pn hp k).nxc hx, pw_nx hp hx k]
theorem ord_pos (hp : Pn N p) : 1 ≤ ordL p := by
  refine (lcmL_pos fun a ha => ?_).1
  obtain ⟨x, hx, rfl⟩ := List.mem_map.1 ha
  have h := per_spec hp.1 (List.mem_range.1 hx)
  have := hp.1.le
  exact ⟨h.1, by have := h.2.1; omega⟩
theorem iv_pw (hp : Pn N p) : iv p = pw N p (ordL p - 1) := by
  refine hp.iv.ext (pw_pn hp _) fun x hx => ?_
  have e : nx p (nx (pw N p (ordL p - 1)) x) = x := by
    rw [pw_nx hp hx]
    show it p (ordL p - 1 + 1) x = x
    rw [Nat.sub_add_cancel (ord_pos hp)]
    refine (it_eq_iff hp.1 (by rw [hp.2]; exact hx) _).2 (Nat.mod_eq_zero_of_dvd ?_)
    exact dvd_lcmL (List.mem_map.2 ⟨x, List.mem_range.2 (by rw [hp.2]; exact hx), rfl⟩)
  have := hp.nxi ((pw_pn hp (ordL p - 1)).lt hx)
  rw [e] at this; exact this
theorem Mb.inv (hg : ∀ g ∈ gs, Pn N g) (h1 : 1 ≤ N) (h2 : N ≤ 20) (hp : Mb gs N p) : Mb gs N (iv p) := by
  rw [iv_pw (hp.pn hg h1 h2)]
  have : ∀ k, Mb gs N (pw N p k) := fun k => by
    induction k with
    | zero => exact .one
    | succ k ih => exact ih.comp hg h1 h2 hp
  exact this _
theorem Mb.none_ (h : Mb [] N p) : p = idL N := by
  cases h with
  | one => rfl
  | mul _ hm => cases hm
theorem Mb.more (h : Mb gs N p) (hsub : ∀ g ∈ gs, g ∈ hs) : Mb hs N p := by
  induction h with
  | one => exact .one
  | mul _ hm ih => exact .mul ih (hsub _ hm)
end
end Go.Proofs.Ytcjcmhoalomjfab

/- Stabilizer chains: when a chain is whole from a level on, what one insertion asks of it and leaves. No Go in it. No condition. -/
namespace Go.Proofs.Ytcjcmhoalomjfab
open Go.RowKit

/-- Representatives by level and point ([] where there is none), generators by level. -/
structure Ch where
  rep : Nat → Nat → List Int
  gen : Nat → List (List Int)

/-- p is divided away by representatives from level i on. -/
inductive Sv (N : Nat) (c : Ch) : Nat → List Int → Prop
  | top : Sv N c N (idL N)
  | low {i : Nat} {p : List Int} : i < N → Pn N p → Fx i p → c.rep i (nx p i) ≠ [] → Sv N c (i + 1) (compL p (iv (c.rep i (nx p i)))) → Sv N c i p

section
variable {N k i : Nat} {c c' : Ch} {p q : List Int}
theorem Sv.inv_low (h : Sv N c i p) (hi : i < N) : Pn N p ∧ Fx i p ∧ c.rep i (nx p i) ≠ [] ∧ Sv N c (i + 1) (compL p (iv (c.rep i (nx p i)))) := by
  cases h with
  | top => omega
  | low _ a b d e => exact ⟨a, b, d, e⟩
theorem Sv.inv_top (h : Sv N c N p) : p = idL N := by
  cases h with
  | top => rfl
  | low h _ _ _ _ => omega
theorem Sv.le (h : Sv N c i p) : i ≤ N := by cases h <;> omega
/-- It asks only for the representatives at its level and above. -/
theorem Sv.congr (h : Sv N c i p) (e : ∀ j, i ≤ j → ∀ y, c'.rep j y = c.rep j y) : Sv N c' i p := by
  induction h with
  | top => exact .top
  | low hi a b d _ ih =>
    refine .low hi a b (by rw [e _ (Nat.le_refl _)]; exact d) ?_
    rw [e _ (Nat.le_refl _)]
    exact ih fun j hj => e j (by omega)

theorem sv_back {j : Nat} (h : Sv N c i p) (hj : j ≤ i) (e : ∀ t y, j ≤ t → t < N → y < N → c'.rep t y = c.rep t y) : Sv N c' i p := by
  induction h with
  | top => exact .top
  | @low i p hi a b d _ ih =>
    have e2 := e i (nx p i) hj hi (a.lt hi)
    refine .low hi a b (by rw [e2]; exact d) ?_
    rw [e2]
    exact ih (by omega)

/-- The representatives of a level. -/
structure RepOK (N : Nat) (c : Ch) (k : Nat) : Prop where
  at_ : ∀ y, c.rep k y ≠ [] → y < N ∧ Pn N (c.rep k y) ∧ Fx k (c.rep k y) ∧ nx (c.rep k y) k = y
  one : c.rep k k = idL N
def GenOK (N : Nat) (c : Ch) (k : Nat) : Prop := ∀ g ∈ c.gen k, Pn N g ∧ Fx k g
/-- How many representatives there are from a level on. -/
def cnt (N : Nat) (c : Ch) (k : Nat) : Nat := (List.range (N * N)).countP fun t => decide (k ≤ t / N) && !(c.rep (t / N) (t % N)).isEmpty

/-- The chain is whole from level k on. -/
structure UpTo (N : Nat) (c : Ch) (k : Nat) : Prop where
  rep : ∀ i, k ≤ i → i < N → RepOK N c i
  gp : ∀ i, k ≤ i → i < N → GenOK N c i
  sv : ∀ i, k ≤ i → i ≤ N → ∀ p, Sv N c i p ↔ Mb (c.gen i) N p
  len : ∀ i, k ≤ i → i < N → (c.gen i).length ≤ cnt N c i
  top : c.gen N = []
/-- The chain grew from level k on. -/
structure Grw (k : Nat) (c c' : Ch) : Prop where
  keep : ∀ i y, c.rep i y ≠ [] → c'.rep i y = c.rep i y
  rep : ∀ i y, i < k → c'.rep i y = c.rep i y
  gen : ∀ i, i < k → c'.gen i = c.gen i
theorem Grw.refl (k : Nat) (c : Ch) : Grw k c c := ⟨fun _ _ _ => rfl, fun _ _ _ => rfl, fun _ _ => rfl⟩
theorem Grw.trans {d : Ch} (h : Grw k c c') (h2 : Grw k c' d) : Grw k c d :=
  ⟨fun i y e => by rw [h2.keep i y (by rw [h.keep i y e]; exact e), h.keep i y e], fun i y hi => by rw [h2.rep i y hi, h.rep i y hi], fun i hi => by rw [h2.gen i hi, h.gen i hi]⟩
theorem Grw.mono {j : Nat} (h : Grw k c c') (hj : j ≤ k) : Grw j c c' := ⟨h.keep, fun i y hi => h.rep i y (by omega), fun i hi => h.gen i (by omega)⟩

/-- The state in which products are added at level k. -/
structure Low (N : Nat) (c : Ch) (k : Nat) : Prop where
  up : UpTo N c (k + 1)
  rep : RepOK N c k
  gp : GenOK N c k
  sub : ∀ p, Mb (c.gen (k + 1)) N p → Mb (c.gen k) N p
  inn : ∀ y, c.rep k y ≠ [] → Mb (c.gen k) N (c.rep k y)

theorem UpTo.pn (h : UpTo N c k) (hi : k ≤ i) (hN : i ≤ N) : ∀ g ∈ c.gen i, Pn N g := fun g hg => by
  rcases Nat.lt_or_ge i N with hl | hl
  · exact (h.gp i hi hl g hg).1
  · obtain rfl : i = N := by omega
    rw [h.top] at hg; cases hg
theorem UpTo.mono {j : Nat} (h : UpTo N c k) (hj : k ≤ j) : UpTo N c j :=
  ⟨fun i hi => h.rep i (by omega), fun i hi => h.gp i (by omega), fun i hi => h.sv i (by omega), fun i hi => h.len i (by omega), h.top⟩
theorem cnt_congr (e : ∀ j, k ≤ j → ∀ y, c'.rep j y = c.rep j y) : cnt N c' k = cnt N c k := by
  unfold cnt
  refine List.countP_congr fun t _ => ?_
  by_cases h : k ≤ t / N
  · rw [e _ h]
  · simp [h]
theorem UpTo.congr (h : UpTo N c k) (e : ∀ j, k ≤ j → ∀ y, c'.rep j y = c.rep j y) (g : ∀ j, k ≤ j → c'.gen j = c.gen j) (hk : k ≤ N) : UpTo N c' k := by
  refine ⟨fun i hi hN => ⟨fun y hy => ?_, ?_⟩, fun i hi hN => ?_, fun i hi hN p => ?_, fun i hi hN => ?_, ?_⟩
  · rw [e i hi] at hy ⊢; exact (h.rep i hi hN).at_ y hy
  · rw [e i hi]; exact (h.rep i hi hN).one
  · intro x hx; rw [g i hi] at hx; exact h.gp i hi hN x hx
  · rw [g i hi]
    exact ⟨fun hs => (h.sv i hi hN p).1 (hs.congr fun j hj y => (e j (by omega) y).symm), fun hm => ((h.sv i hi hN p).2 hm).congr fun j hj y => e j (by omega) y⟩
  · rw [g i hi, cnt_congr fun j hj => e j (by omega)]; exact h.len i hi hN
  · rw [g N hk]; exact h.top
theorem cnt_le (N : Nat) (c : Ch) (k : Nat) : cnt N c k ≤ N * N := by
  have := List.countP_le_length (p := fun t => decide (k ≤ t / N) && !(c.rep (t / N) (t % N)).isEmpty) (l := List.range (N * N))
  rw [List.length_range] at this; exact this
theorem cnt_mono (h : Grw k c c') (i : Nat) : cnt N c i ≤ cnt N c' i := by
  refine List.countP_mono_left fun t _ ht => ?_
  rw [Bool.and_eq_true, decide_eq_true_eq, Bool.not_eq_true', List.isEmpty_eq_false_iff] at ht ⊢
  exact ⟨ht.1, by rw [h.keep _ _ ht.2]; exact ht.2⟩
theorem countP_lt {l : List Nat} {f g : Nat → Bool} (h : ∀ t, f t = true → g t = true) {x : Nat} (hx : x ∈ l) (h1 : f x = false) (h2 : g x = true) : l.countP f < l.countP g := by
  induction l with
  | nil => cases hx
  | cons a t ih =>
    have hm : t.countP f ≤ t.countP g := List.countP_mono_left fun y _ => h y
    rw [List.countP_cons, List.countP_cons]
    rcases List.mem_cons.1 hx with rfl | hx
    · rw [h1, h2]; simp; omega
    · have := ih hx
      rcases ha : f a with _ | _
      · simp; split <;> omega
      · rw [h a ha]; simp; omega
/-- No more representatives: nothing has changed. -/
theorem cnt_same (h : Grw k c c') (e : cnt N c' i ≤ cnt N c i) {j y : Nat} (hj : i ≤ j) (hj2 : j < N) (hy : y < N) : c'.rep j y = c.rep j y := by
  by_cases hc : c.rep j y = []
  · by_cases hc' : c'.rep j y = []
    · rw [hc, hc']
    · exfalso
      have hlt : cnt N c i < cnt N c' i := by
        have hd : (j * N + y) / N = j := by
          rw [Nat.mul_comm, Nat.mul_add_div (by omega), Nat.div_eq_of_lt hy]; rfl
        have hm : (j * N + y) % N = y := by
          rw [Nat.mul_comm, Nat.mul_add_mod, Nat.mod_eq_of_lt hy]
        refine countP_lt (x := j * N + y) (fun t ht => ?_) ?_ ?_ ?_
        · rw [Bool.and_eq_true, decide_eq_true_eq, Bool.not_eq_true', List.isEmpty_eq_false_iff] at ht ⊢
          exact ⟨ht.1, by rw [h.keep _ _ ht.2]; exact ht.2⟩
        · rw [List.mem_range]
          have : (j + 1) * N ≤ N * N := Nat.mul_le_mul_right N (by omega)
          rw [Nat.add_mul] at this; omega
        · rw [hd, hm, hc]; simp
        · rw [hd, hm]; simp [hj, hc']
      omega
  · exact h.keep j y hc

/-- One level down: what fixes one point more. -/
theorem sv_down (h : RepOK N c k) (hk : k < N) (hp : Pn N p) (hf : Fx k p) (e : nx p k = k) : Sv N c k p ↔ Sv N c (k + 1) p := by
  have h1 := hp.pos
  constructor
  · intro hs
    have := (hs.inv_low hk).2.2.2
    rw [e, h.one, iv_id h1.1 h1.2, hp.idr] at this
    exact this
  · intro hs
    refine .low hk hp hf ?_ ?_
    · rw [e, h.one]; intro e2; have := idL_length N; rw [e2] at this; simp at this; omega
    · rw [e, h.one, iv_id h1.1 h1.2, hp.idr]; exact hs
theorem Low.mono_sv (h : Low N c k) (h' : Low N c' k) (g : Grw k c c') (hk : k < N) (hm : ∀ p, Mb (c.gen (k + 1)) N p → Mb (c'.gen (k + 1)) N p) (hs : Sv N c k p) : Sv N c' k p := by
  obtain ⟨a, b, d, e⟩ := hs.inv_low hk
  refine .low hk a b (by rw [g.keep _ _ d]; exact d) ?_
  rw [g.keep _ _ d]
  exact (h'.up.sv (k + 1) (Nat.le_refl _) hk _).2 (hm _ ((h.up.sv (k + 1) (Nat.le_refl _) hk _).1 e))
theorem Low.rep_sv (h : Low N c k) (hk : k < N) {y : Nat} (hy : c.rep k y ≠ []) : Sv N c k (c.rep k y) := by
  obtain ⟨h1, h2, h3, h4⟩ := h.rep.at_ y hy
  refine .low hk h2 h3 (by rw [h4]; exact hy) ?_
  rw [h4, h2.ci]
  exact (h.up.sv (k + 1) (Nat.le_refl _) hk _).2 .one
theorem Low.pn (h : Low N c k) : ∀ g ∈ c.gen k, Pn N g := fun g hg => (h.gp g hg).1
/-- Where every representative times every generator is divided away, the level is whole. -/
theorem Low.whole (h : Low N c k) (hk : k < N) (h1 : 1 ≤ N) (h2 : N ≤ 20) (hc : ∀ y, c.rep k y ≠ [] → ∀ g ∈ c.gen k, Sv N c k (compL (c.rep k y) g)) (hlen : (c.gen k).length ≤ cnt N c k) : UpTo N c k := by
  have hsv : ∀ p, Sv N c k p ↔ Mb (c.gen k) N p := fun p => by
    constructor
    · intro hs
      obtain ⟨a, b, d, e⟩ := hs.inv_low hk
      have e2 := h.sub _ ((h.up.sv (k + 1) (Nat.le_refl _) hk _).1 e)
      have hr := (h.rep.at_ _ d).2.1
      have := e2.comp h.pn h1 h2 (h.inn _ d)
      rw [a.assoc hr.iv, hr.ic, a.idr] at this
      exact this
    · intro hm
      induction hm with
      | one =>
        have hid : nx (idL N) k = k := nx_id hk
        exact (sv_down h.rep hk (pn_id h1 h2) (fx_id (by omega)) hid).2 ((h.up.sv (k + 1) (Nat.le_refl _) hk _).2 .one)
      | @mul p g hm hg ih =>
        obtain ⟨a, b, d, e⟩ := ih.inv_low hk
        obtain ⟨hyN, hr, hrf, hrk⟩ := h.rep.at_ _ d
        obtain ⟨r, er⟩ : ∃ r, c.rep k (nx p k) = r := ⟨_, rfl⟩
        rw [er] at d e hr hrf hrk
        have hs := hc (nx p k) (by rw [er]; exact d) g hg
        rw [er] at hs
        obtain ⟨a', b', d', e'⟩ := hs.inv_low hk
        have hgP := h.gp g hg
        have hpg : nx (compL p g) k = nx (compL r g) k := by rw [a.nxc hk, hr.nxc hk, hrk]
        have hr' := (h.rep.at_ _ d').2.1
        refine .low hk (a.comp hgP.1) (b.comp a hgP.2 (by omega)) (by rw [hpg]; exact d') ?_
        rw [hpg]
        have m1 := (h.up.sv (k + 1) (Nat.le_refl _) hk _).1 e
        have m2 := (h.up.sv (k + 1) (Nat.le_refl _) hk _).1 e'
        have m3 := m1.comp (h.up.pn (Nat.le_refl _) hk) h1 h2 m2
        refine (h.up.sv (k + 1) (Nat.le_refl _) hk _).2 ?_
        rw [← (a.comp hr.iv).assoc (hr.comp hgP.1), ← (a.comp hr.iv).assoc hr, a.assoc hr.iv, hr.ic, a.idr] at m3
        exact m3
  refine ⟨fun i hi hN => ?_, fun i hi hN => ?_, fun i hi hN => ?_, fun i hi hN => ?_, h.up.top⟩
  · rcases Nat.lt_or_ge k i with hl | hl
    · exact h.up.rep i hl hN
    · obtain rfl : i = k := by omega
      exact h.rep
  · rcases Nat.lt_or_ge k i with hl | hl
    · exact h.up.gp i hl hN
    · obtain rfl : i = k := by omega
      exact h.gp
  · rcases Nat.lt_or_ge k i with hl | hl
    · exact h.up.sv i hl hN
    · obtain rfl : i = k := by omega
      exact hsv
  · rcases Nat.lt_or_ge k i with hl | hl
    · exact h.up.len i hl hN
    · obtain rfl : i = k := by omega
      exact hlen
/-- A whole level is one in which products may be added. -/
theorem UpTo.low (h : UpTo N c k) (hk : k < N) (h1 : 1 ≤ N) (h2 : N ≤ 20) : Low N c k := by
  have hr := h.rep k (Nat.le_refl _) hk
  have hg := h.gp k (Nat.le_refl _) hk
  have hu := h.mono (Nat.le_succ k)
  refine ⟨hu, hr, hg, fun p hm => ?_, fun y hy => ?_⟩
  · have hpn := hm.pn (hu.pn (Nat.le_refl _) hk) h1 h2
    have hfx : Fx (k + 1) p := by
      rcases Nat.lt_or_ge (k + 1) N with hl | hl
      · exact hm.fx (h.gp (k + 1) (by omega) hl) h1 h2 hk
      · obtain rfl : k + 1 = N := by omega
        rw [h.top] at hm
        rw [hm.none_]; exact fx_id (Nat.le_refl _)
    refine (h.sv k (Nat.le_refl _) (by omega) p).1 ((sv_down hr hk hpn (hfx.mono (by omega)) (hfx k (by omega))).2 ((h.sv (k + 1) (by omega) hk p).2 hm))
  · obtain ⟨a1, a2, a3, a4⟩ := hr.at_ y hy
    refine (h.sv k (Nat.le_refl _) (by omega) _).1 (.low hk a2 a3 (by rw [a4]; exact hy) ?_)
    rw [a4, a2.ci]
    exact (h.sv (k + 1) (by omega) hk _).2 .one

def Ch.set (c : Ch) (k y : Nat) (q : List Int) : Ch := ⟨fun i z => if i = k ∧ z = y then q else c.rep i z, c.gen⟩
def Ch.push (c : Ch) (k : Nat) (p : List Int) : Ch := ⟨c.rep, fun i => if i = k then c.gen k ++ [p] else c.gen i⟩
theorem set_at (c : Ch) (k y : Nat) (q : List Int) : (c.set k y q).rep k y = q := if_pos ⟨rfl, rfl⟩
theorem set_ne {j z y : Nat} (h : j ≠ k ∨ z ≠ y) : (c.set k y q).rep j z = c.rep j z := if_neg (by rintro ⟨rfl, rfl⟩; rcases h with h | h <;> exact h rfl)
theorem push_at (c : Ch) (k : Nat) (p : List Int) : (c.push k p).gen k = c.gen k ++ [p] := if_pos rfl
theorem push_ne {j : Nat} (h : j ≠ k) : (c.push k p).gen j = c.gen j := if_neg h

/-- What adding a product leaves. -/
structure Bp (N k : Nat) (c c' : Ch) (q : List Int) : Prop where
  low : Low N c' k
  grw : Grw k c c'
  gen : c'.gen k = c.gen k
  sv : Sv N c' k q
  mono : ∀ p, Sv N c k p → Sv N c' k p
  new_ : ∀ y, c.rep k y = [] → c'.rep k y ≠ [] → ∀ g ∈ c.gen k, Sv N c' k (compL (c'.rep k y) g)
/-- What adding a generator leaves. -/
structure Ap (N k : Nat) (c c' : Ch) (p : List Int) : Prop where
  up : UpTo N c' k
  grw : Grw k c c'
  gen : ∀ q, Mb (c'.gen k) N q ↔ Mb (c.gen k ++ [p]) N q

/-- The rest that goes one level down. -/
theorem Low.rest (h : Low N c k) (hk : k < N) (h1 : 1 ≤ N) (h2 : N ≤ 20) (hq : Mb (c.gen k) N q) (hr : c.rep k (nx q k) ≠ []) : Pn N (compL q (iv (c.rep k (nx q k)))) ∧ Fx (k + 1) (compL q (iv (c.rep k (nx q k)))) := by
  obtain ⟨a1, a2, a3, a4⟩ := h.rep.at_ _ hr
  have hp := hq.pn h.pn h1 h2
  have hf := hq.fx h.gp h1 h2 (by omega)
  refine ⟨hp.comp a2.iv, (hf.comp hp (a3.iv a2 (by omega)) (by omega)).succ ?_⟩
  rw [hp.nxc hk]
  have := a2.nxi hk
  rw [a4] at this
  exact this
theorem Bp.old (h : Low N c k) (hk : k < N) (h1 : 1 ≤ N) (h2 : N ≤ 20) (hq : Mb (c.gen k) N q) (hr : c.rep k (nx q k) ≠ []) (ha : Ap N (k + 1) c c' (compL q (iv (c.rep k (nx q k))))) : Bp N k c c' q := by
  have er : ∀ y, c'.rep k y = c.rep k y := fun y => ha.grw.rep k y (by omega)
  have eg : c'.gen k = c.gen k := ha.grw.gen k (by omega)
  obtain ⟨a1, a2, a3, a4⟩ := h.rep.at_ _ hr
  have hp := hq.pn h.pn h1 h2
  have hf := hq.fx h.gp h1 h2 (by omega)
  have hm : Mb (c.gen k) N (compL q (iv (c.rep k (nx q k)))) := hq.comp h.pn h1 h2 ((h.inn _ hr).inv h.pn h1 h2)
  have hl : Low N c' k := by
    refine ⟨ha.up, ⟨fun y hy => by rw [er] at hy ⊢; exact h.rep.at_ y hy, by rw [er]; exact h.rep.one⟩, fun g hg => h.gp g (by rw [← eg]; exact hg), fun p hp => ?_, fun y hy => by rw [er] at hy ⊢; rw [eg]; exact h.inn y hy⟩
    rw [eg]
    refine ((ha.gen p).1 hp).sub h1 h2 h.pn fun g hg => ?_
    rcases List.mem_append.1 hg with hg | hg
    · exact h.sub _ (.of (h.up.pn (Nat.le_refl _) hk g hg) hg)
    · obtain rfl := List.mem_singleton.1 hg
      exact hm
  have hmono : ∀ p, Mb (c.gen (k + 1)) N p → Mb (c'.gen (k + 1)) N p := fun p hp => (ha.gen p).2 (hp.more fun g hg => List.mem_append_left _ hg)
  refine ⟨hl, ha.grw.mono (by omega), eg, .low hk hp hf (by rw [er]; exact hr) ?_, fun p hs => h.mono_sv hl (ha.grw.mono (by omega)) hk hmono hs, fun y hy hy' => absurd (by rw [er]; exact hy) hy'⟩
  rw [er]
  refine (ha.up.sv (k + 1) (Nat.le_refl _) hk _).2 ((ha.gen _).2 (.of (h.rest hk h1 h2 hq hr).1 (by simp)))
theorem Low.put (h : Low N c k) (hk : k < N) (h1 : 1 ≤ N) (h2 : N ≤ 20) (hq : Mb (c.gen k) N q) (hr : c.rep k (nx q k) = []) : Low N (c.set k (nx q k) q) k ∧ Grw k c (c.set k (nx q k) q) := by
  have hp := hq.pn h.pn h1 h2
  have hf := hq.fx h.gp h1 h2 (by omega)
  refine ⟨⟨h.up.congr (fun j hj y => set_ne (.inl (by omega))) (fun j _ => rfl) hk, ⟨fun y hy => ?_, ?_⟩, h.gp, h.sub, fun y hy => ?_⟩, ⟨fun i y hy => ?_, fun i y hi => set_ne (.inl (by omega)), fun i _ => rfl⟩⟩
  · by_cases e : y = nx q k
    · subst e; rw [set_at]; exact ⟨hp.lt hk, hp, hf, rfl⟩
    · rw [set_ne (.inr e)] at hy ⊢; exact h.rep.at_ y hy
  · rw [set_ne]; · exact h.rep.one
    · right; intro e
      rw [← e, h.rep.one] at hr
      have := idL_length N; rw [hr] at this; simp at this; omega
  · by_cases e : y = nx q k
    · subst e; rw [set_at]; exact hq
    · rw [set_ne (.inr e)] at hy ⊢; exact h.inn y hy
  · by_cases e : i = k ∧ y = nx q k
    · obtain ⟨rfl, rfl⟩ := e; exact absurd hr hy
    · exact if_neg e
/-- The loop over the generators behind a new representative. -/
structure Bl (N k : Nat) (c1 cj : Ch) (q : List Int) (j : Nat) : Prop where
  low : Low N cj k
  grw : Grw k c1 cj
  gen : cj.gen k = c1.gen k
  mono : ∀ p, Sv N c1 k p → Sv N cj k p
  new_ : ∀ y, c1.rep k y = [] → cj.rep k y ≠ [] → ∀ g ∈ c1.gen k, Sv N cj k (compL (cj.rep k y) g)
  done : ∀ t, t < j → Sv N cj k (compL q ((c1.gen k).getD t []))
theorem Bl.start (h : Low N c k) : Bl N k c c q 0 := ⟨h, .refl _ _, rfl, fun _ h => h, fun y a b => absurd a b, fun t ht => absurd ht (by omega)⟩
theorem Bl.next {c1 cj : Ch} {j : Nat} (h : Bl N k c1 cj q j) (hb : Bp N k cj c' (compL q ((c1.gen k).getD j []))) : Bl N k c1 c' q (j + 1) := by
  refine ⟨hb.low, h.grw.trans hb.grw, by rw [hb.gen, h.gen], fun p hs => hb.mono _ (h.mono _ hs), fun y hy hy' g hg => ?_, fun t ht => ?_⟩
  · by_cases e : cj.rep k y = []
    · exact hb.new_ y e hy' g (by rw [h.gen]; exact hg)
    · rw [hb.grw.keep _ _ e]
      exact hb.mono _ (h.new_ y hy e g hg)
  · rcases Nat.lt_or_ge t j with hl | hl
    · exact hb.mono _ (h.done t hl)
    · obtain rfl : t = j := by omega
      exact hb.sv
theorem mem_at {l : List (List Int)} {g : List Int} (h : g ∈ l) : ∃ t, t < l.length ∧ l.getD t [] = g := by
  obtain ⟨t, ht, e⟩ := List.mem_iff_getElem.1 h
  exact ⟨t, ht, by rw [List.getD_eq_getElem?_getD, List.getElem?_eq_getElem ht, ← e]; rfl⟩
theorem Bl.all {cj : Ch} (h : Low N c k) (hk : k < N) (h1 : 1 ≤ N) (h2 : N ≤ 20) (hq : Mb (c.gen k) N q) (hr : c.rep k (nx q k) = []) (hb : Bl N k (c.set k (nx q k) q) cj q (c.gen k).length) : Bp N k c cj q := by
  obtain ⟨l1, g1⟩ := h.put hk h1 h2 hq hr
  have hp := hq.pn h.pn h1 h2
  have hne : q ≠ [] := by intro e; have := hp.2; rw [e] at this; simp at this; omega
  have e0 : cj.rep k (nx q k) = q := by rw [hb.grw.keep _ _ (by rw [set_at]; exact hne), set_at]
  refine ⟨hb.low, g1.trans hb.grw, hb.gen, ?_, fun p hs => hb.mono _ (h.mono_sv l1 g1 hk (fun _ h => h) hs), fun y hy hy' g hg => ?_⟩
  · have := hb.low.rep_sv hk (y := nx q k) (by rw [e0]; exact hne)
    rw [e0] at this; exact this
  · by_cases e : y = nx q k
    · subst e
      rw [e0]
      obtain ⟨t, ht, rfl⟩ := mem_at hg
      exact hb.done t ht
    · exact hb.new_ y (by rw [set_ne (.inr e)]; exact hy) hy' g hg

/-! ### adding a generator -/
theorem Ap.same (h : UpTo N c k) (hkN : k ≤ N) (h1 : 1 ≤ N) (h2 : N ≤ 20) (hs : Sv N c k p) : Ap N k c c p := by
  have hp := (h.sv k (Nat.le_refl _) hkN p).1 hs
  refine ⟨h, .refl _ _, fun q => ⟨fun hq => hq.more fun g hg => List.mem_append_left _ hg, fun hq => hq.sub h1 h2 (h.pn (Nat.le_refl _) hkN) fun g hg => ?_⟩⟩
  rcases List.mem_append.1 hg with hg | hg
  · exact .of (h.pn (Nat.le_refl _) hkN g hg) hg
  · obtain rfl := List.mem_singleton.1 hg
    exact hp
/-- At the top there is nothing to add. -/
theorem Ap.top (h : UpTo N c N) (h1 : 1 ≤ N) (h2 : N ≤ 20) (hp : Pn N p) (hf : Fx N p) : Ap N N c c p := by
  refine .same h (Nat.le_refl _) h1 h2 ?_
  rw [hf.all hp]; exact .top
theorem UpTo.pushed (h : UpTo N c k) (hk : k < N) (h1 : 1 ≤ N) (h2 : N ≤ 20) (hp : Pn N p) (hf : Fx k p) : Low N (c.push k p) k := by
  have hl := h.low hk h1 h2
  refine ⟨hl.up.congr (fun _ _ _ => rfl) (fun j hj => push_ne (by omega)) hk, ⟨hl.rep.at_, hl.rep.one⟩, fun g hg => ?_, fun q hq => ?_, fun y hy => ?_⟩
  · rw [push_at] at hg
    rcases List.mem_append.1 hg with hg | hg
    · exact hl.gp g hg
    · obtain rfl := List.mem_singleton.1 hg
      exact ⟨hp, hf⟩
  · rw [push_ne (by omega)] at hq
    rw [push_at]
    exact (hl.sub _ hq).more fun g hg => List.mem_append_left _ hg
  · rw [push_at]
    exact (hl.inn _ hy).more fun g hg => List.mem_append_left _ hg
/-- The representatives of level k among the first m points, in order. -/
def knL (c : Ch) (k m : Nat) : List (List Int) := ((List.range m).filter fun y => !(c.rep k y).isEmpty).map (c.rep k)
theorem knL_mem {m : Nat} {r : List Int} : r ∈ knL c k m ↔ ∃ y, y < m ∧ c.rep k y ≠ [] ∧ c.rep k y = r := by
  simp only [knL, List.mem_map, List.mem_filter, List.mem_range, Bool.not_eq_true', List.isEmpty_eq_false_iff, and_assoc]
theorem knL_yes {m : Nat} (h : c.rep k m ≠ []) : knL c k (m + 1) = knL c k m ++ [c.rep k m] := by
  unfold knL; rw [List.range_succ, List.filter_append]; simp [List.isEmpty_eq_false_iff.2 h]
theorem knL_no {m : Nat} (h : c.rep k m = []) : knL c k (m + 1) = knL c k m := by
  unfold knL; rw [List.range_succ, List.filter_append]; simp [h]
theorem knL_len (m : Nat) : (knL c k m).length ≤ m := by
  unfold knL; rw [List.length_map]
  have := List.length_filter_le (fun y => !(c.rep k y).isEmpty) (List.range m)
  simpa using this
/-- The loop over the known representatives. -/
structure Al (N k : Nat) (c1 cj : Ch) (p : List Int) (j : Nat) : Prop where
  low : Low N cj k
  grw : Grw k c1 cj
  gen : cj.gen k = c1.gen k
  mono : ∀ p, Sv N c1 k p → Sv N cj k p
  new_ : ∀ y, c1.rep k y = [] → cj.rep k y ≠ [] → ∀ g ∈ c1.gen k, Sv N cj k (compL (cj.rep k y) g)
  done : ∀ t, t < j → Sv N cj k (compL ((knL c1 k N).getD t []) p)
theorem Al.start (h : Low N c k) : Al N k c c p 0 := ⟨h, .refl _ _, rfl, fun _ h => h, fun y a b => absurd a b, fun t ht => absurd ht (by omega)⟩
theorem Al.next {c1 cj : Ch} {j : Nat} (h : Al N k c1 cj p j) (hb : Bp N k cj c' (compL ((knL c1 k N).getD j []) p)) : Al N k c1 c' p (j + 1) := by
  refine ⟨hb.low, h.grw.trans hb.grw, by rw [hb.gen, h.gen], fun p hs => hb.mono _ (h.mono _ hs), fun y hy hy' g hg => ?_, fun t ht => ?_⟩
  · by_cases e : cj.rep k y = []
    · exact hb.new_ y e hy' g (by rw [h.gen]; exact hg)
    · rw [hb.grw.keep _ _ e]
      exact hb.mono _ (h.new_ y hy e g hg)
  · rcases Nat.lt_or_ge t j with hl | hl
    · exact hb.mono _ (h.done t hl)
    · obtain rfl : t = j := by omega
      exact hb.sv
/-- The products that the loop adds are of the level. -/
theorem kn_mb (h : Low N c k) {j : Nat} (hj : j < (knL c k N).length) (hp : p ∈ c.gen k) : Mb (c.gen k) N (compL ((knL c k N).getD j []) p) ∧ Pn N ((knL c k N).getD j []) := by
  have hm : (knL c k N).getD j [] ∈ knL c k N := by
    rw [List.getD_eq_getElem?_getD, List.getElem?_eq_getElem hj]; exact List.getElem_mem _
  obtain ⟨y, _, hy, e⟩ := knL_mem.1 hm
  rw [← e]
  exact ⟨.mul (h.inn y hy) hp, (h.rep.at_ y hy).2.1⟩
theorem Al.all {cj : Ch} (h : UpTo N c k) (hk : k < N) (h1 : 1 ≤ N) (h2 : N ≤ 20) (hp : Pn N p) (hf : Fx k p) (hs : ¬ Sv N c k p) (hb : Al N k (c.push k p) cj p (knL (c.push k p) k N).length) : Ap N k c cj p := by
  have hl := h.low hk h1 h2
  have hg1 : cj.gen k = c.gen k ++ [p] := by rw [hb.gen, push_at]
  have g0 : Grw k c (c.push k p) := ⟨fun _ _ _ => rfl, fun _ _ _ => rfl, fun i hi => push_ne (by omega)⟩
  have hG := g0.trans hb.grw
  have hclose : ∀ y, cj.rep k y ≠ [] → ∀ g ∈ cj.gen k, Sv N cj k (compL (cj.rep k y) g) := fun y hy g hg => by
    by_cases e : c.rep k y = []
    · exact hb.new_ y e hy g (by rw [← hb.gen]; exact hg)
    · rw [hG.keep _ _ e]
      rw [hg1] at hg
      rcases List.mem_append.1 hg with hg | hg
      · refine hb.mono _ (Sv.congr (c := c) ?_ fun _ _ _ => rfl)
        exact (h.sv k (Nat.le_refl _) (by omega) _).2 (.mul (hl.inn y e) hg)
      · obtain rfl := List.mem_singleton.1 hg
        obtain ⟨t, ht, et⟩ := mem_at (knL_mem.2 ⟨y, (hl.rep.at_ y e).1, e, rfl⟩ : c.rep k y ∈ knL (c.push k g) k N)
        rw [← et]
        exact hb.done t ht
  have hsv : Sv N cj k p := by
    obtain ⟨t, ht, et⟩ := mem_at (knL_mem.2 ⟨k, hk, by show c.rep k k ≠ []; rw [hl.rep.one]; intro e; have := idL_length N; rw [e] at this; simp at this; omega, rfl⟩ : c.rep k k ∈ knL (c.push k p) k N)
    have := hb.done t ht
    rw [et, hl.rep.one, hp.idl] at this
    exact this
  have hcnt : cnt N c k < cnt N cj k := by
    have hle := cnt_mono (N := N) hG k
    rcases Nat.lt_or_ge (cnt N c k) (cnt N cj k) with hlt | hge
    · exact hlt
    · exfalso
      refine hs (sv_back hsv (Nat.le_refl _) fun j y hj hjN hy => (cnt_same hG hge hj hjN hy).symm)
  refine ⟨hb.low.whole hk h1 h2 hclose ?_, hG, fun q => by rw [hg1]⟩
  rw [hg1, List.length_append]
  have := h.len k (Nat.le_refl _) hk
  simp; omega
end
end Go.Proofs.Ytcjcmhoalomjfab

/- The model's chain in memory: its blocks, how it reads, what one store and one append leave of it. No condition. -/
namespace Go.Proofs.Ytcjcmhoalomjfab
open Go.RowKit

/-- From w to w' only blocks of M and new ones have turned. -/
structure Chg (w w' : World) (M : Nat → Prop) : Prop where
  os : w'.os = w.os
  tape : w'.tape = w.tape
  output : w'.output = w.output
  size : w.heap.size ≤ w'.heap.size
  block : ∀ k, k < w.heap.size → ¬ M k → w'.heap[k]? = w.heap[k]?
theorem Chg.refl (w : World) (M : Nat → Prop) : Chg w w M := ⟨rfl, rfl, rfl, Nat.le_refl _, fun _ _ _ => rfl⟩
theorem Chg.trans {w w1 w2 : World} {M M1 : Nat → Prop} (h : Chg w w1 M) (h1 : Chg w1 w2 M1) (hM : ∀ k, M1 k → M k ∨ w.heap.size ≤ k) : Chg w w2 M :=
  ⟨h1.os.trans h.os, h1.tape.trans h.tape, h1.output.trans h.output, Nat.le_trans h.size h1.size, fun k hk hn => (h1.block k (Nat.lt_of_lt_of_le hk h.size) (fun e => by rcases hM k e with e | e; exact hn e; omega)).trans (h.block k hk hn)⟩
theorem Chg.of_below {w w' : World} {M : Nat → Prop} (h : Below w.heap.size w w') : Chg w w' M := ⟨h.os, h.tape, h.output, h.size, fun k hk _ => h.block k hk⟩
theorem Chg.of_grown {w w' : World} {M : Nat → Prop} {row : Option Nat} (h : w.grownBy w' row) (hr : ∀ k, row = some k → M k) : Chg w w' M := ⟨h.os, h.tape, h.output, h.size, fun k hk hn => h.block k hk (fun e => hn (hr k e.symm))⟩
theorem Chg.below {w w' : World} {M : Nat → Prop} {B : Nat} (h : Chg w w' M) (hM : ∀ k, M k → B ≤ k) (hB : B ≤ w.heap.size) : Below B w w' := ⟨h.os, h.tape, h.output, h.size, fun k hk => h.block k (by omega) (fun e => by have := hM k e; omega)⟩
theorem Chg.drew {w w' : World} {M : Nat → Prop} (h : Chg w w' M) : Chg w w'.drew M := ⟨h.os, h.tape, h.output, h.size, h.block⟩

theorem ownsRow_chg {w w' : World} {M : Nat → Prop} {base n size : Nat} {e : TypeId} {v : Value} {xs : List Value} (h : w.ownsRow base e size v n xs) (hc : Chg w w' M) (hn : ∀ k, v.ownBlock = some k → ¬ M k) : w'.ownsRow base e size v n xs := by
  refine ⟨h.1, ?_⟩
  rcases h.2 with h0 | ⟨g, cap, cur, e2, hb, hg, rest⟩
  · exact .inl h0
  · exact .inr ⟨g, cap, cur, e2, hb, by rw [hc.block g (Array.getElem?_eq_some_iff.1 hg).1 (hn g (by rw [e2]; rfl))]; exact hg, rest⟩
theorem ownsRow_typ {w : World} {base n size : Nat} {e : TypeId} {v : Value} {xs : List Value} (h : w.ownsRow base e size v n xs) {k : Nat} (hk : v.ownBlock = some k) : ∃ cur, w.heap[k]? = some (.cells cur e (0, 0)) := by
  rcases h.2 with ⟨e2, _⟩ | ⟨g, cap, cur, e2, hb, hg, rest⟩
  · rw [e2] at hk; cases hk
  · rw [e2] at hk
    have : g = k := by simpa [Value.ownBlock] using hk
    subst this
    exact ⟨cur, hg⟩
/-- Blocks of M hold no numbers. -/
def NoInt (w : World) (M : Nat → Prop) : Prop := ∀ k, M k → ∃ cs t fz, w.heap[k]? = some (.cells cs t fz) ∧ t ≠ 2
theorem Slc.chg {w w' : World} {M : Nat → Prop} {base n c : Nat} {A : Option Addr} {xs : List Int} (h : Slc w base A n c xs) (hc : Chg w w' M) (hM : NoInt w M) : Slc w' base A n c xs := by
  refine ⟨h.1, ownsRow_chg h.2 hc fun k hk hm => ?_⟩
  obtain ⟨cur, e1⟩ := ownsRow_typ h.2 hk
  obtain ⟨cs, t, fz, e2, ht⟩ := hM k hm
  rw [e1] at e2
  injection e2 with e2
  injection e2 with _ e3
  exact ht e3.symm

/-- Where a chain lies: its table of rows (block R), the rows' blocks and entries, its table of generators (block G), the generators' rows and entries. -/
structure LY where
  R : Nat
  cR : Nat
  G : Nat
  cG : Nat
  ro : Nat → Nat
  en : Nat → List SV
  gv : Nat → SV
  ge : Nat → List SV
/-- The blocks that an insertion may turn. -/
def Mut (N : Nat) (L : LY) (b : Nat) : Prop := b = L.G ∨ (∃ i, i < N ∧ b = L.ro i) ∨ ∃ i, i < N ∧ (sval (L.gv i)).ownBlock = some b
structure Cn (w : World) (base g N : Nat) (c : Ch) (L : LY) : Prop where
  blk : Blk w g 98 #[.int .i64 (N : Nat), .slice (some ⟨L.R, 0, none⟩) N L.cR, .slice (some ⟨L.G, 0, none⟩) N L.cG]
  hg : base ≤ g
  own1 : w.ownsRow base 28 1 (.slice (some ⟨L.R, 0, none⟩) N L.cR) N ((List.range N).map fun i => Value.slice (some ⟨L.ro i, 0, none⟩) N N)
  row1 : ∀ i, i < N → w.ownsRow base 22 1 (.slice (some ⟨L.ro i, 0, none⟩) N N) N ((L.en i).map sval)
  len1 : ∀ i, i < N → (L.en i).length = N
  ent1 : ∀ i, i < N → ∀ y, y < N → Slc w base ((L.en i).getD y sd0).1 ((L.en i).getD y sd0).2.1 ((L.en i).getD y sd0).2.2 (c.rep i y)
  own2 : w.ownsRow base 28 1 (.slice (some ⟨L.G, 0, none⟩) N L.cG) N ((List.range N).map fun i => sval (L.gv i))
  row2 : ∀ i, i < N → w.ownsRow base 22 1 (sval (L.gv i)) (c.gen i).length ((L.ge i).map sval)
  len2 : ∀ i, i < N → (L.ge i).length = (c.gen i).length
  ent2 : ∀ i, i < N → ∀ y, y < (c.gen i).length → Slc w base ((L.ge i).getD y sd0).1 ((L.ge i).getD y sd0).2.1 ((L.ge i).getD y sd0).2.2 ((c.gen i).getD y [])
  dRG : L.R ≠ L.G
  dro : ∀ i j, i < N → j < N → i ≠ j → L.ro i ≠ L.ro j
  drg : ∀ i j, i < N → j < N → (sval (L.gv j)).ownBlock ≠ some (L.ro i)
  dgv : ∀ i j, i < N → j < N → i ≠ j → ∀ b, (sval (L.gv i)).ownBlock = some b → (sval (L.gv j)).ownBlock ≠ some b

section
variable {w w' : World} {base g N i y : Nat} {c : Ch} {L : LY}
theorem rng_at {f : Nat → Value} (hi : i < N) : ((List.range N).map f)[i]? = some (f i) := by
  rw [List.getElem?_map, List.getElem?_range hi]; rfl
theorem ents_at {l : List SV} (hy : y < l.length) : (l.map sval)[y]? = some (sval (l.getD y sd0)) := by
  rw [List.getElem?_map, List.getD_eq_getElem?_getD, List.getElem?_eq_getElem hy]; rfl
theorem Cn.ltG (h : Cn w base g N c L) : base ≤ L.G ∧ L.G < w.heap.size := World.ownsRow.lt h.own2 L.G rfl
theorem Cn.ltR (h : Cn w base g N c L) : base ≤ L.R ∧ L.R < w.heap.size := World.ownsRow.lt h.own1 L.R rfl
theorem Cn.ltro (h : Cn w base g N c L) (hi : i < N) : base ≤ L.ro i ∧ L.ro i < w.heap.size := World.ownsRow.lt (h.row1 i hi) (L.ro i) rfl
theorem Cn.ltgv (h : Cn w base g N c L) (hi : i < N) : ∀ k, (sval (L.gv i)).ownBlock = some k → base ≤ k ∧ k < w.heap.size := World.ownsRow.lt (h.row2 i hi)
theorem Cn.mut (h : Cn w base g N c L) {b : Nat} (hb : Mut N L b) : base ≤ b ∧ b < w.heap.size := by
  rcases hb with rfl | ⟨i, hi, rfl⟩ | ⟨i, hi, e⟩
  · exact h.ltG
  · exact h.ltro hi
  · exact h.ltgv hi b e
theorem Cn.noInt (h : Cn w base g N c L) : NoInt w (Mut N L) := by
  intro b hb
  rcases hb with rfl | ⟨i, hi, rfl⟩ | ⟨i, hi, e⟩
  · obtain ⟨cur, e⟩ := ownsRow_typ h.own2 (k := L.G) rfl
    exact ⟨cur, _, _, e, by decide⟩
  · obtain ⟨cur, e⟩ := ownsRow_typ (h.row1 i hi) (k := L.ro i) rfl
    exact ⟨cur, _, _, e, by decide⟩
  · obtain ⟨cur, e⟩ := ownsRow_typ (h.row2 i hi) e
    exact ⟨cur, _, _, e, by decide⟩
/-- The chain's own block and its table of rows never turn. -/
theorem Cn.g_mut (h : Cn w base g N c L) : ¬ Mut N L g := by
  intro hb
  have hk : ∀ cs t, w.heap[g]? = some (.cells cs t (0, 0)) → t = 98 := fun cs t e => by
    have := h.blk
    unfold Blk at this
    rw [this] at e
    injection e with e
    injection e with _ e
    exact e.symm
  rcases hb with e | ⟨i, hi, e⟩ | ⟨i, hi, e⟩
  · obtain ⟨cur, e2⟩ := ownsRow_typ h.own2 (k := L.G) rfl
    rw [← e] at e2
    exact absurd (hk _ _ e2) (by decide)
  · obtain ⟨cur, e2⟩ := ownsRow_typ (h.row1 i hi) (k := L.ro i) rfl
    rw [← e] at e2
    exact absurd (hk _ _ e2) (by decide)
  · obtain ⟨cur, e2⟩ := ownsRow_typ (h.row2 i hi) e
    exact absurd (hk _ _ e2) (by decide)
theorem Cn.typS (h : Cn w base g N c L) {b : Nat} {cs : Array Value} {fz} (hb : w.heap[b]? = some (.cells cs 28 fz)) : (∀ i, i < N → L.ro i ≠ b) ∧ ∀ i, i < N → (sval (L.gv i)).ownBlock ≠ some b := by
  refine ⟨fun i hi e => ?_, fun i hi e => ?_⟩
  · obtain ⟨cur, e2⟩ := ownsRow_typ (h.row1 i hi) (k := L.ro i) rfl
    rw [e, hb] at e2
    injection e2 with e2
    injection e2 with _ e3
    exact absurd e3 (by decide)
  · obtain ⟨cur, e2⟩ := ownsRow_typ (h.row2 i hi) e
    rw [hb] at e2
    injection e2 with e2
    injection e2 with _ e3
    exact absurd e3 (by decide)
theorem Cn.R_mut (h : Cn w base g N c L) : ¬ Mut N L L.R := by
  obtain ⟨cur, e2⟩ := ownsRow_typ h.own1 (k := L.R) rfl
  have ht := h.typS e2
  rintro (e | ⟨i, hi, e⟩ | ⟨i, hi, e⟩)
  · exact h.dRG e
  · exact ht.1 i hi e.symm
  · exact ht.2 i hi e
/-- Calls that turn nothing keep it. -/
theorem Cn.up (h : Cn w base g N c L) (hb : Below w.heap.size w w') : Cn w' base g N c L := by
  have hc : Chg w w' (fun _ => False) := .of_below hb
  exact ⟨(hb.block g h.blk.lt).trans h.blk, h.hg, ownsRow_chg h.own1 hc fun _ _ e => e, fun i hi => ownsRow_chg (h.row1 i hi) hc fun _ _ e => e, h.len1, fun i hi y hy => (h.ent1 i hi y hy).up hb,
    ownsRow_chg h.own2 hc fun _ _ e => e, fun i hi => ownsRow_chg (h.row2 i hi) hc fun _ _ e => e, h.len2, fun i hi y hy => (h.ent2 i hi y hy).up hb, h.dRG, h.dro, h.drg, h.dgv⟩
theorem Cn.drewN (h : Cn w base g N c L) (k : Nat) : Cn (w.drewN k) base g N c L := h.up ⟨rfl, rfl, rfl, Nat.le_refl _, fun _ _ => rfl⟩
/-! reading -/
theorem Cn.c0 (h : Cn w base g N c L) : w.cell? ⟨g, 0, none⟩ = some (.int .i64 (N : Nat)) := h.blk.cell 0
theorem Cn.c1 (h : Cn w base g N c L) : w.cell? ⟨g, 1, none⟩ = some (.slice (some ⟨L.R, 0, none⟩) N L.cR) := h.blk.cell 1
theorem Cn.c2 (h : Cn w base g N c L) : w.cell? ⟨g, 2, none⟩ = some (.slice (some ⟨L.G, 0, none⟩) N L.cG) := h.blk.cell 2
theorem Cn.cR (h : Cn w base g N c L) (hi : i < N) : w.cell? ⟨L.R, i, none⟩ = some (.slice (some ⟨L.ro i, 0, none⟩) N N) := by
  rw [h.own1.cellAt i (by omega), rng_at hi]
theorem Cn.cG (h : Cn w base g N c L) (hi : i < N) : w.cell? ⟨L.G, i, none⟩ = some (sval (L.gv i)) := by
  rw [h.own2.cellAt i (by omega), rng_at hi]
theorem Cn.cro (h : Cn w base g N c L) (hi : i < N) (hy : y < N) : w.cell? ⟨L.ro i, y, none⟩ = some (sval ((L.en i).getD y sd0)) := by
  rw [(h.row1 i hi).cellAt y (by omega), ents_at (by rw [h.len1 i hi]; exact hy)]
theorem Cn.gvn (h : Cn w base g N c L) (hi : i < N) : (L.gv i).2.1 = (c.gen i).length := by
  rcases (h.row2 i hi).2 with ⟨e, h0⟩ | ⟨g', cap, cur, e, _⟩
  · unfold sval at e; injection e with _ e _; rw [e, h0]
  · unfold sval at e; injection e
theorem Cn.cge (h : Cn w base g N c L) (hi : i < N) (hy : y < (c.gen i).length) : ∃ q cq, L.gv i = (some ⟨q, 0, none⟩, (c.gen i).length, cq) ∧ w.cell? ⟨q, y, none⟩ = some (sval ((L.ge i).getD y sd0)) := by
  have ho := h.row2 i hi
  rcases ho.2 with ⟨e, h0⟩ | ⟨g', cap, cur, e, _⟩
  · omega
  · refine ⟨g', cap, ?_, ?_⟩
    · rcases hg : L.gv i with ⟨a, b, d⟩
      rw [hg] at e; unfold sval at e; injection e with e1 e2 e3
      subst e1 e2 e3; rfl
    · rw [e] at ho
      rw [ho.cellAt y (by omega), ents_at (by rw [h.len2 i hi]; exact hy)]
theorem Cn.enn (h : Cn w base g N c L) (hi : i < N) (hy : y < N) : ((L.en i).getD y sd0).2.1 = (c.rep i y).length := (h.ent1 i hi y hy).1.symm
end
end Go.Proofs.Ytcjcmhoalomjfab

/- The model's chain in memory: one store of a representative, one generator appended. No condition. -/
namespace Go.Proofs.Ytcjcmhoalomjfab
open Go.RowKit

section
variable {w w' : World} {base g N k y : Nat} {c : Ch} {L : LY} {p : List Int}
theorem typ_ne {w : World} {a b : Nat} {cs ds : Array Value} {s t : TypeId} (ha : w.heap[a]? = some (.cells cs s (0, 0))) (hb : w.heap[b]? = some (.cells ds t (0, 0))) (hn : s ≠ t) : a ≠ b := fun e => by
  subst e
  rw [ha] at hb
  injection hb with hb
  injection hb with _ e
  exact hn e
theorem Cn.ro_ne_G (h : Cn w base g N c L) {i : Nat} (hi : i < N) : L.ro i ≠ L.G := by
  obtain ⟨_, e1⟩ := ownsRow_typ (h.row1 i hi) (k := L.ro i) rfl
  obtain ⟨_, e2⟩ := ownsRow_typ h.own2 (k := L.G) rfl
  exact typ_ne e1 e2 (by decide)
theorem Cn.gv_ne_G (h : Cn w base g N c L) {i : Nat} (hi : i < N) : (sval (L.gv i)).ownBlock ≠ some L.G := fun e => by
  obtain ⟨_, e1⟩ := ownsRow_typ (h.row2 i hi) e
  obtain ⟨_, e2⟩ := ownsRow_typ h.own2 (k := L.G) rfl
  exact typ_ne e1 e2 (by decide) rfl
/-- The layout behind a store of a representative. -/
def LY.put (L : LY) (k y : Nat) (d : SV) : LY := { L with en := fun i => if i = k then (L.en k).set y d else L.en i }
theorem Cn.store (h : Cn w base g N c L) (hk : k < N) (hy : y < N) {d : SV} (hp : Slc w base d.1 d.2.1 d.2.2 p) :
    Cn (w.setCell ⟨L.ro k, y, none⟩ (sval d)) base g N (c.set k y p) (L.put k y d) ∧ w.grownBy (w.setCell ⟨L.ro k, y, none⟩ (sval d)) (some (L.ro k)) := by
  obtain ⟨hown, hgr⟩ := (h.row1 k hk).stored y (sval d)
  have hc : Chg w (w.setCell ⟨L.ro k, y, none⟩ (sval d)) (fun b => b = L.ro k) := .of_grown hgr (by intro b e; injection e with e; exact e.symm)
  have hni : NoInt w (fun b => b = L.ro k) := fun b e => h.noInt b (.inr (.inl ⟨k, hk, e⟩))
  refine ⟨⟨?_, h.hg, ?_, fun i hi => ?_, fun i hi => ?_, fun i hi z hz => ?_, ?_, fun i hi => ?_, h.len2, fun i hi z hz => (h.ent2 i hi z hz).chg hc hni, h.dRG, h.dro, h.drg, h.dgv⟩, hgr⟩
  · exact (hc.block g h.blk.lt (fun e => h.g_mut (.inr (.inl ⟨k, hk, e⟩)))).trans h.blk
  · exact ownsRow_chg h.own1 hc fun b e e2 => h.R_mut (.inr (.inl ⟨k, hk, (Option.some.inj e : L.R = b).trans e2⟩))
  · by_cases e : i = k
    · subst e
      show World.ownsRow _ base _ 1 _ N (List.map sval (if i = i then _ else _))
      rw [if_pos rfl, List.map_set]; exact hown
    · show World.ownsRow _ base _ 1 _ N (List.map sval (if i = k then _ else _))
      rw [if_neg e]
      refine ownsRow_chg (h.row1 i hi) hc fun b e1 e2 => h.dro i k hi hk e ?_
      have : L.ro i = b := Option.some.inj e1
      rw [this]; exact e2
  · show (if i = k then (L.en k).set y d else L.en i).length = N
    by_cases e : i = k
    · rw [if_pos e, List.length_set]; exact h.len1 k hk
    · rw [if_neg e]; exact h.len1 i hi
  · show Slc _ base ((if i = k then (L.en k).set y d else L.en i).getD z sd0).1 ((if i = k then (L.en k).set y d else L.en i).getD z sd0).2.1 ((if i = k then (L.en k).set y d else L.en i).getD z sd0).2.2 (if i = k ∧ z = y then p else c.rep i z)
    by_cases e : i = k
    · rw [if_pos e]
      subst e
      by_cases ez : z = y
      · subst ez
        rw [if_pos ⟨rfl, rfl⟩, getD_set_eq (by rw [h.len1 i hi]; exact hz)]
        exact hp.chg hc hni
      · rw [if_neg (fun e => ez e.2), getD_set_ne (fun e => ez e.symm)]
        exact (h.ent1 i hi z hz).chg hc hni
    · rw [if_neg e, if_neg (fun e2 => e e2.1)]
      exact (h.ent1 i hi z hz).chg hc hni
  · refine ownsRow_chg h.own2 hc fun b e1 e2 => h.ro_ne_G hk ?_
    have : L.G = b := Option.some.inj e1
    rw [this]; exact e2.symm
  · exact ownsRow_chg (h.row2 i hi) hc fun b e1 e2 => h.drg k i hk hi (by rw [← e2]; exact e1)
theorem mut_put {d : SV} (b : Nat) : Mut N (L.put k y d) b ↔ Mut N L b := Iff.rfl

def LY.app (L : LY) (k : Nat) (d e : SV) : LY := { L with gv := fun i => if i = k then d else L.gv i, ge := fun i => if i = k then L.ge k ++ [e] else L.ge i }
theorem Cn.pushed (h : Cn w base g N c L) (hk : k < N) {w1 : World} {d e : SV} (hown : w1.ownsRow base 22 1 (sval d) ((c.gen k).length + 1) ((L.ge k).map sval ++ [sval e])) (hgr : w.grownBy w1 (sval (L.gv k)).ownBlock)
    (hat : (sval d).ownBlock = (sval (L.gv k)).ownBlock ∨ ∃ q, (sval d).ownBlock = some q ∧ w.heap.size ≤ q) (he : Slc w base e.1 e.2.1 e.2.2 p) :
    Cn (w1.setCell ⟨L.G, k, none⟩ (sval d)) base g N (c.push k p) (L.app k d e) ∧ Chg w (w1.setCell ⟨L.G, k, none⟩ (sval d)) (Mut N L) ∧ ∀ b, Mut N (L.app k d e) b → Mut N L b ∨ w.heap.size ≤ b := by
  have own2 := ownsRow_chg h.own2 (Chg.of_grown (M := fun b => (sval (L.gv k)).ownBlock = some b) hgr fun b e => e) fun b e1 e2 => h.gv_ne_G hk (by
    have : L.G = b := Option.some.inj e1
    rw [this]; exact e2)
  obtain ⟨hown2, hgr2⟩ := own2.stored k (sval d)
  have hc : Chg w (w1.setCell ⟨L.G, k, none⟩ (sval d)) (fun b => b = L.G ∨ (sval (L.gv k)).ownBlock = some b) :=
    (Chg.of_grown (M := fun b => b = L.G ∨ (sval (L.gv k)).ownBlock = some b) hgr fun b e => .inr e).trans (.of_grown (M := fun b => b = L.G) hgr2 (by intro b e; injection e with e; exact e.symm)) fun b e => .inl (.inl e)
  have hsub : ∀ b, (b = L.G ∨ (sval (L.gv k)).ownBlock = some b) → Mut N L b := fun b e => by
    rcases e with e | e
    · exact .inl e
    · exact .inr (.inr ⟨k, hk, e⟩)
  have hni : NoInt w (fun b => b = L.G ∨ (sval (L.gv k)).ownBlock = some b) := fun b e => h.noInt b (hsub b e)
  have hlen : ∀ i, ((c.push k p).gen i).length = if i = k then (c.gen k).length + 1 else (c.gen i).length := fun i => by
    show (if i = k then c.gen k ++ [p] else c.gen i).length = _
    split <;> simp
  have hdG : ∀ b, (sval d).ownBlock = some b → b ≠ L.G := fun b eb => by
    obtain ⟨_, e1⟩ := ownsRow_typ hown eb
    obtain ⟨_, e2⟩ := ownsRow_typ own2 (k := L.G) rfl
    exact typ_ne e1 e2 (by decide)
  have hmut : ∀ b, Mut N (L.app k d e) b → Mut N L b ∨ w.heap.size ≤ b := fun b hb => by
    rcases hb with hb | ⟨i, hi, hb⟩ | ⟨i, hi, hb⟩
    · exact .inl (.inl hb)
    · exact .inl (.inr (.inl ⟨i, hi, hb⟩))
    · have hb' : (sval (if i = k then d else L.gv i)).ownBlock = some b := hb
      by_cases ei : i = k
      · rw [if_pos ei] at hb'
        rcases hat with ha | ⟨q, ha, hq⟩
        · exact .inl (.inr (.inr ⟨k, hk, by rw [← ha]; exact hb'⟩))
        · rw [ha] at hb'; injection hb' with hb'; subst hb'; exact .inr hq
      · rw [if_neg ei] at hb'; exact .inl (.inr (.inr ⟨i, hi, hb'⟩))
  refine ⟨⟨?_, h.hg, ?_, fun i hi => ?_, h.len1, fun i hi z hz => (h.ent1 i hi z hz).chg hc hni, ?_, fun i hi => ?_, fun i hi => ?_, fun i hi z hz => ?_, h.dRG, h.dro, fun i j hi hj => ?_, fun i j hi hj hij b => ?_⟩, ⟨hc.os, hc.tape, hc.output, hc.size, fun b hb hn => hc.block b hb fun e => hn (hsub b e)⟩, hmut⟩
  · exact (hc.block g h.blk.lt (fun e => h.g_mut (hsub _ e))).trans h.blk
  · exact ownsRow_chg h.own1 hc fun b e1 e2 => h.R_mut (by
      have : L.R = b := Option.some.inj e1
      rw [this]; exact hsub _ e2)
  · refine ownsRow_chg (h.row1 i hi) hc fun b e1 e2 => ?_
    have eb : L.ro i = b := Option.some.inj e1
    rcases e2 with e2 | e2
    · exact h.ro_ne_G hi (by rw [eb]; exact e2)
    · exact h.drg i k hi hk (by rw [eb]; exact e2)
  · have e3 : ((List.range N).map fun i => sval (L.gv i)).set k (sval d) = (List.range N).map fun i => sval (if i = k then d else L.gv i) := by
      refine List.ext_getElem (by simp) fun j h1 h2 => ?_
      rw [List.getElem_set]
      simp only [List.getElem_map, List.getElem_range]
      by_cases ej : k = j
      · subst ej; simp
      · rw [if_neg ej, if_neg (fun e => ej e.symm)]
    show World.ownsRow _ base _ 1 _ N ((List.range N).map fun i => sval (if i = k then d else L.gv i))
    rw [← e3]; exact hown2
  · rw [hlen]
    show World.ownsRow _ base _ 1 (sval (if i = k then d else L.gv i)) _ (List.map sval (if i = k then L.ge k ++ [e] else L.ge i))
    by_cases ei : i = k
    · rw [if_pos ei, if_pos ei, if_pos ei, List.map_append]
      exact ownsRow_chg hown (.of_grown (M := fun b => b = L.G) hgr2 (by intro b e; injection e with e; exact e.symm)) fun b e1 e2 => hdG b e1 e2
    · rw [if_neg ei, if_neg ei, if_neg ei]
      refine ownsRow_chg (h.row2 i hi) hc fun b e1 e2 => ?_
      rcases e2 with e2 | e2
      · rw [e2] at e1; exact h.gv_ne_G hi e1
      · exact h.dgv i k hi hk ei b e1 e2
  · rw [hlen]
    show (if i = k then L.ge k ++ [e] else L.ge i).length = _
    by_cases ei : i = k
    · rw [if_pos ei, if_pos ei, List.length_append, h.len2 k hk]; rfl
    · rw [if_neg ei, if_neg ei]; exact h.len2 i hi
  · rw [hlen] at hz
    show Slc _ base ((if i = k then L.ge k ++ [e] else L.ge i).getD z sd0).1 ((if i = k then L.ge k ++ [e] else L.ge i).getD z sd0).2.1 ((if i = k then L.ge k ++ [e] else L.ge i).getD z sd0).2.2 ((if i = k then c.gen k ++ [p] else c.gen i).getD z [])
    by_cases ei : i = k
    · rw [if_pos ei] at hz
      rw [if_pos ei, if_pos ei]
      by_cases ez : z < (c.gen k).length
      · rw [getD_app _ _ _ z (by rw [h.len2 k hk]; exact ez), getD_app _ _ _ z ez]
        exact (h.ent2 k hk z ez).chg hc hni
      · have ez2 : z = (c.gen k).length := by omega
        rw [getD_snoc _ _ _ z (by rw [h.len2 k hk]; exact ez2), getD_snoc _ _ _ z ez2]
        exact he.chg hc hni
    · rw [if_neg ei] at hz
      rw [if_neg ei, if_neg ei]
      exact (h.ent2 i hi z hz).chg hc hni
  · show (sval (if j = k then d else L.gv j)).ownBlock ≠ some (L.ro i)
    by_cases ej : j = k
    · rw [if_pos ej]
      rcases hat with ha | ⟨q, ha, hq⟩
      · rw [ha]; exact h.drg i k hi hk
      · rw [ha]; intro e; injection e with e; have := (h.ltro hi).2; omega
    · rw [if_neg ej]; exact h.drg i j hi hj
  · show (sval (if i = k then d else L.gv i)).ownBlock = some b → (sval (if j = k then d else L.gv j)).ownBlock ≠ some b
    by_cases ei : i = k
    · rw [if_pos ei, if_neg (fun e => hij (ei.trans e.symm))]
      intro e1 e2
      rcases hat with ha | ⟨q, ha, hq⟩
      · rw [ha] at e1; exact h.dgv k j hk hj (fun e => hij (ei.trans e)) b e1 e2
      · rw [ha] at e1; injection e1 with e1; have := (h.ltgv hj b e2).2; omega
    · rw [if_neg ei]
      by_cases ej : j = k
      · rw [if_pos ej]
        intro e1 e2
        rcases hat with ha | ⟨q, ha, hq⟩
        · rw [ha] at e2; exact h.dgv k i hk hi (fun e => ei e.symm) b e2 e1
        · rw [ha] at e2; injection e2 with e2; have := (h.ltgv hi b e1).2; omega
      · rw [if_neg ej]; exact h.dgv i j hi hj hij b
end
end Go.Proofs.Ytcjcmhoalomjfab

/- The model's sift. Conditions: at most 20 points; representatives in order from the level on. -/
namespace Go.Proofs.Ytcjcmhoalomjfab
open Go.RowKit

theorem rep_ne_pos {N i y : Nat} {c : Ch} (h : RepOK N c i) (hy : c.rep i y ≠ []) : (c.rep i y).length = N := (h.at_ y hy).2.1.2
theorem bdr {B : Nat} {a w : World} (h : Below B a w) (k : Nat) : Below B a (w.drewN k) := ⟨h.os, h.tape, h.output, h.size, h.block⟩
theorem drewN_below (w : World) (k : Nat) : Below w.heap.size w (w.drewN k) := ⟨rfl, rfl, rfl, Nat.le_refl _, fun _ _ => rfl⟩

set_option maxHeartbeats 4000000 in
set_option maxRecDepth 100000 in
/-- sift: does the chain hold p? -/
theorem specSift (base g N k cp : Nat) (A : Option Addr) (c : Ch) (L : LY) (p : List Int) (w : World) (hc : Cn w base g N c L) (hp : RI w w.heap.size A p) (hP : Hid (Pn N p)) (hF : Hid (Fx k p)) (hk : k ≤ N) (hr : Hid (∀ i, k ≤ i → i < N → RepOK N c i)) :
    Calls Try.prog 102 #[.pointer (some ⟨g, 0, none⟩), .int .i64 (k : Nat), .slice A N cp] w fun e w' => ∃ (A' : Option Addr) (n' c' lvl : Nat), e = .returned (.tuple #[.slice A' n' c', .int .i64 (lvl : Nat)]) ∧ (lvl = N ↔ Sv N c k p) ∧ lvl ≤ N ∧ Below w.heap.size w w' := by
  have HC := Lib.hid hc
  have HP := Lib.hid hp
  have hN := hP.out.pos
  clear hc hp
  go_enter Try.func102, Try.ntmps102
  go_wp2_with fail
  go_loopw [2, 8] (fun v i wr => ∃ (i' c1 : Nat) (A1 : Option Addr) (q : List Int), k ≤ i' ∧ i' ≤ N ∧ i = .int .i64 (i' : Nat) ∧ v = .slice A1 N c1 ∧ RI wr wr.heap.size A1 q ∧ Pn N q ∧ Fx i' q ∧ (Sv N c k p ↔ Sv N c i' q) ∧ Below w.heap.size w wr) (fun _ i _ => N - (intOf i).toNat)
  case atStart => exact ⟨k, _, _, _, Nat.le_refl _, hk, rfl, rfl, HP.out, hP.out, hF.out, Iff.rfl, Below.refl _ _⟩
  case round =>
    obtain ⟨i, c1, A1, q, hki, hiN, rfl, rfl, hq, hqp, hqf, hsv, bel⟩ := hrel
    have Q := Lib.hid hq
    have Qp := Lib.hid hqp
    have Qf := Lib.hid hqf
    have Sv0 := Lib.hid hsv
    have Be := Lib.hid bel
    have Ci := Lib.hid (HC.out.up bel)
    clear hq hqp hqf hsv bel HC HP
    have x0 := Ci.out.c0
    by_cases hlt : i < N
    · have Ri := Lib.hid (hr.out i hki hlt)
      obtain ⟨b, off, rfl, hb, hcell⟩ := Q.out (by rw [Qp.out.2]; omega)
      have c2 := hcell i (by rw [Qp.out.2]; exact hlt)
      obtain ⟨y, ey⟩ : ∃ y, nx q i = y := ⟨_, rfl⟩
      have hy : y < N := by rw [← ey]; exact Qp.out.lt hlt
      rw [nx_val Qp.out.1 (by rw [Qp.out.2]; exact hlt), ey] at c2
      have x1 := Ci.out.c1
      have x2 := Ci.out.cR hlt
      have x3 := Ci.out.cro hlt hy
      have en := Ci.out.enn hlt hy
      have er := Ci.out.ent1 i hlt y hy
      rcases hd : (L.en i).getD y sd0 with ⟨dA, dn, dc⟩
      rw [hd] at x3 en er
      have Er : Hid (RI wr wr.heap.size dA (c.rep i y)) := Lib.hid er.ri_
      have p0 : (0 : Int) ≤ i := by omega
      have p1 : (i : Int) < N := by omega
      have p2 : (0 : Int) ≤ y := by omega
      have p3 : (y : Int) < N := by omega
      simp only [sval] at x3
      clear hb hd er hcell
      by_cases hz : c.rep i y = []
      · have hdn : dn = 0 := by
          have : dn = (c.rep i y).length := en
          rw [this, hz]; rfl
        subst hdn
        clear en
        go_wp2_with fail
        go_quiet (fail)
        go_wp2_with fail
        go_ret2
        exact ⟨_, _, _, i, rfl, ⟨fun e => absurd e (by omega), fun hs => absurd (by rw [ey]; exact hz) ((Sv0.out.1 hs).inv_low hlt).2.2.1⟩, by omega, bdr Be.out _⟩
      · have hRN : (c.rep i y).length = N := rep_ne_pos Ri.out hz
        obtain ⟨h1, hrP, hrF, hrk⟩ := Ri.out.at_ y hz
        obtain rfl : dn = N := by
          have : dn = (c.rep i y).length := en
          omega
        have RP := Lib.hid hrP
        have HRN := Lib.hid hRN
        clear en hRN h1
        have e0 : ((dn : Int) == 0) = false := by simp; omega
        go_wp2_with fail
        go_quiet (fail)
        obtain ⟨wd, hwd⟩ : ∃ wd, wr.drewN nq = wd := ⟨_, rfl⟩
        have Bd : Hid (Below wr.heap.size wr wd) := Lib.hid (by rw [← hwd]; exact drewN_below wr nq)
        have Qd := Lib.hid (Q.out.up Bd.out)
        have Ed := Lib.hid (Er.out.up Bd.out)
        have Bed : Hid (Below w.heap.size w wd) := Lib.hid (btr Be.out Bd.out)
        rw [hwd]
        clear hwd
        go_wp2_with fail
        refine (specInv dA dc dn (c.rep i y) wd Ed.out HRN (Lib.hid RP.out.1) hN.2).mono ?_
        rintro e w1 ⟨A2, c3, rfl, s2, b2⟩
        have S2 := Lib.hid s2
        have Q2 := Lib.hid (Qd.out.up b2)
        have Be2 : Hid (Below w.heap.size w w1) := Lib.hid (btr Bed.out b2)
        clear s2 b2
        go_wp2_with fail
        refine (specComp (some ⟨b, off, none⟩) A2 c1 c3 dn q (invL (c.rep i y) dn) w1 Q2.out S2.out.ri_ (Lib.hid Qp.out.2) S2.out.hid (Lib.hid Qp.out.1) hN.2).mono ?_
        rintro e w2 ⟨A3, c4, rfl, s3, b3⟩
        have S3 := Lib.hid s3
        have Be3 : Hid (Below w.heap.size w w2) := Lib.hid (btr Be2.out b3)
        clear s3 b3
        go_wp2_with fail
        have eiv : invL (c.rep i y) dn = iv (c.rep i y) := by unfold iv; rw [HRN.out]
        rw [eiv] at S3
        go_roundw
        case rel =>
          refine ⟨i + 1, _, _, _, by omega, by omega, by go_num, rfl, S3.out.ri_, Qp.out.comp RP.out.iv, ?_, ?_, Be3.out⟩
          · refine (Qf.out.comp Qp.out (hrF.iv RP.out (by omega)) (by omega)).succ ?_
            rw [Qp.out.nxc hlt, ey]
            have := RP.out.nxi hlt
            rw [hrk] at this; exact this
          · rw [Sv0.out]
            constructor
            · intro hs
              have := (hs.inv_low hlt).2.2.2
              rw [ey] at this; exact this
            · intro hs
              exact .low hlt Qp.out Qf.out (by rw [ey]; exact hz) (by rw [ey]; exact hs)
        case measure => simp [intOf]; omega
    · obtain rfl : i = N := by omega
      go_wp2_with fail
      go_quiet (fail)
      go_wp2_with fail
      go_ret2
      refine ⟨_, _, _, i, rfl, ⟨fun _ => Sv0.out.2 ?_, fun _ => rfl⟩, Nat.le_refl _, bdr Be.out _⟩
      rw [Qf.out.all Qp.out]; exact .top
end Go.Proofs.Ytcjcmhoalomjfab

/- The model's addProduct, where addGenerator one level up keeps its contract. Conditions: at most 20 points; the chain whole above the level. -/
namespace Go.Proofs.Ytcjcmhoalomjfab
open Go.RowKit

/-- What addGenerator keeps at level k. -/
def AGs (base g N k : Nat) : Prop := ∀ (cp : Nat) (A : Option Addr) (c : Ch) (L : LY) (p : List Int) (w : World), Cn w base g N c L → Slc w base A N cp p → Pn N p → Fx k p → UpTo N c k →
  Calls Try.prog 77 #[.pointer (some ⟨g, 0, none⟩), .int .i64 (k : Nat), .slice A N cp] w fun e w' => ∃ c' L', e = .returned (.tuple #[]) ∧ Cn w' base g N c' L' ∧ Chg w w' (Mut N L) ∧ (∀ b, Mut N L' b → Mut N L b ∨ w.heap.size ≤ b) ∧ Ap N k c c' p
/-- How many points of level k have no representative. -/
def miss (N : Nat) (c : Ch) (k : Nat) : Nat := (List.range N).countP fun y => (c.rep k y).isEmpty
/-- What addProduct keeps at level k. -/
def APs (base g N k fuel : Nat) : Prop := ∀ (cp : Nat) (A : Option Addr) (c : Ch) (L : LY) (q : List Int) (w : World), Cn w base g N c L → Slc w base A N cp q → Low N c k → Mb (c.gen k) N q → (c.gen k).length ≤ 401 → miss N c k ≤ fuel →
  Calls Try.prog 103 #[.pointer (some ⟨g, 0, none⟩), .int .i64 (k : Nat), .slice A N cp] w fun e w' => ∃ c' L', e = .returned (.tuple #[]) ∧ Cn w' base g N c' L' ∧ Chg w w' (Mut N L) ∧ (∀ b, Mut N L' b → Mut N L b ∨ w.heap.size ≤ b) ∧ Bp N k c c' q
theorem miss_mono {N k : Nat} {c c' : Ch} (h : Grw k c c') : miss N c' k ≤ miss N c k := by
  refine List.countP_mono_left fun y _ hy => ?_
  rcases e : (c.rep k y).isEmpty with _ | _
  · rw [List.isEmpty_eq_false_iff] at e
    rw [h.keep k y e] at hy
    rw [List.isEmpty_iff] at hy; exact absurd hy e
  · rfl
theorem miss_lt {N k : Nat} {c c' : Ch} (h : Grw k c c') {y : Nat} (hy : y < N) (h1 : c.rep k y = []) (h2 : c'.rep k y ≠ []) : miss N c' k < miss N c k := by
  refine countP_lt (x := y) (fun t ht => ?_) (List.mem_range.2 hy) (List.isEmpty_eq_false_iff.2 h2) (by rw [h1]; rfl)
  rcases e : (c.rep k t).isEmpty with _ | _
  · rw [List.isEmpty_eq_false_iff] at e
    rw [h.keep k t e] at ht
    rw [List.isEmpty_iff] at ht; exact absurd ht e
  · rfl

set_option maxHeartbeats 4000000 in
set_option maxRecDepth 100000 in
theorem specAddProd1 (base g N k : Nat) (hkN : k < N) (AG : AGs base g N (k + 1)) (fuel : Nat) (IH : ∀ f, f < fuel → APs base g N k f) : APs base g N k fuel := by
  intro cp A c L q w hc hs hl hq hgl hm
  have hP := hq.pn hl.pn (by omega) (by
    have := (hl.rep.at_ k (by rw [hl.rep.one]; intro e; have := idL_length N; rw [e] at this; simp at this; omega)).2.1.pos
    exact this.2)
  have hN := hP.pos
  have hb0 : base ≤ w.heap.size := by have := hc.ltR; omega
  have HC := Lib.hid hc
  have HS := Lib.hid hs
  have HL := Lib.hid hl
  have HQ := Lib.hid hq
  have QP := Lib.hid hP
  have Hm := Lib.hid hm
  obtain ⟨b, off, hA, hb, hcell⟩ := hs.ri_ (by rw [hP.2]; omega)
  subst hA
  have x5 := hcell k (by rw [hP.2]; exact hkN)
  obtain ⟨y, ey⟩ : ∃ y, nx q k = y := ⟨_, rfl⟩
  have hy : y < N := by rw [← ey]; exact hP.lt hkN
  rw [nx_val hP.1 (by rw [hP.2]; exact hkN), ey] at x5
  have Ey := Lib.hid ey
  have x1 := hc.c1
  have x2 := hc.cR hkN
  have x3 := hc.cro hkN hy
  have en := hc.enn hkN hy
  have er := hc.ent1 k hkN y hy
  rcases hd : (L.en k).getD y sd0 with ⟨dA, dn, dc⟩
  rw [hd] at x3 en er
  have Er : Hid (RI w w.heap.size dA (c.rep k y)) := Lib.hid er.ri_
  have p0 : (0 : Int) ≤ k := by omega
  have p1 : (k : Int) < N := by omega
  have p2 : (0 : Int) ≤ y := by omega
  have p3 : (y : Int) < N := by omega
  simp only [sval] at x3
  clear hb hcell hd er hc hs hl hq hP hm ey
  by_cases hz : c.rep k y = []
  · obtain rfl : dn = 0 := by
      have : dn = (c.rep k y).length := en
      rw [this, hz]; rfl
    have d0 : decide ((0 : Int) < 0) = false := by decide
    clear en
    have fz := (HC.out.row1 k hkN).frozenAt y
    go_enter Try.func103, Try.ntmps103
    go_wp2_with fail
    go_quiet (fail)
    have x1' : (w.drewN nq).cell? ⟨g, 1, none⟩ = _ := x1
    have x2' : (w.drewN nq).cell? ⟨L.R, k, none⟩ = _ := x2
    have x5' : (w.drewN nq).cell? ⟨b, off + k, none⟩ = _ := x5
    have x3' : (w.drewN nq).cell? ⟨L.ro k, y, none⟩ = _ := x3
    have fz' : (w.drewN nq).frozen? ⟨L.ro k, y, none⟩ = false := fz
    obtain ⟨wd, hwd⟩ : ∃ wd, w.drewN nq = wd := ⟨_, rfl⟩
    have Bd : Hid (Below w.heap.size w wd) := Lib.hid (by rw [← hwd]; exact drewN_below w nq)
    have Sd := Lib.hid (HS.out.up Bd.out)
    have Cd := Lib.hid (HC.out.up Bd.out)
    rw [hwd] at x1' x2' x5' x3' fz' ⊢
    clear hwd HC HS Er x1 x2 x3 x5 fz
    go_wp2_with fail
    go_region
    have St := Cd.out.store hkN hy (d := (some ⟨b, off, none⟩, N, cp)) Sd.out
    obtain ⟨w1, hw1⟩ : ∃ w1, (wd.setCell ⟨L.ro k, y, none⟩ (.slice (some ⟨b, off, none⟩) N cp)).drew = w1 := ⟨_, rfl⟩
    have hcd : Chg wd w1 (Mut N L) := by
      rw [← hw1]
      exact (Chg.of_grown St.2 (fun b e => .inr (.inl ⟨k, hkN, (Option.some.inj e).symm⟩))).drew
    have C1 : Hid (Cn w1 base g N (c.set k y q) (L.put k y (some ⟨b, off, none⟩, N, cp))) := Lib.hid (by
      rw [← hw1]
      exact St.1.up ⟨rfl, rfl, rfl, Nat.le_refl _, fun _ _ => rfl⟩)
    have Ch1 : Hid (Chg w w1 (Mut N L)) := Lib.hid ((Chg.of_below Bd.out).trans hcd fun b hb => .inl hb)
    have S1 := Lib.hid (Sd.out.chg hcd Cd.out.noInt)
    have Put := Lib.hid (HL.out.put hkN hN.1 hN.2 HQ.out (by rw [Ey.out]; exact hz))
    rw [Ey.out] at Put
    have hms : miss N (c.set k y q) k < fuel := by
      have := miss_lt Put.out.2 hy hz (by rw [set_at]; intro e; have := QP.out.2; rw [e] at this; simp at this; omega)
      have := Hm.out; omega
    obtain ⟨G, hG⟩ : ∃ G, (c.gen k).length = G := ⟨_, rfl⟩
    have HG := Lib.hid hG
    rw [hG] at hgl
    rw [hw1]
    clear hw1 hcd St x1' x2' x5' x3' fz' Bd Sd Cd hG p2 p3
    go_wp2_with fail
    go_loopw [7] (fun i wr => ∃ (j : Nat) (cj : Ch) (Lj : LY), j ≤ G ∧ i = .int .i64 (j : Nat) ∧ Cn wr base g N cj Lj ∧ Chg w wr (Mut N L) ∧ (∀ b, Mut N Lj b → Mut N L b ∨ w.heap.size ≤ b) ∧ Bl N k (c.set k y q) cj q j ∧ Slc wr base (some ⟨b, off, none⟩) N cp q) (fun i _ => G - (intOf i).toNat)
    case atStart => exact ⟨0, _, _, Nat.zero_le _, rfl, C1.out, Ch1.out, fun b hb => .inl hb, .start Put.out.1, S1.out⟩
    case round =>
      clear C1 Ch1 S1
      obtain ⟨j, cj, Lj, hj, rfl, hc, hch, hmt, hbl, hs⟩ := hrel
      have C2 := Lib.hid hc
      have Ch2 := Lib.hid hch
      have Mt2 := Lib.hid hmt
      have Bl2 := Lib.hid hbl
      have S2 := Lib.hid hs
      have eg : (cj.gen k).length = G := by rw [hbl.gen]; exact HG.out
      have x1 := hc.c2
      have x2 := hc.cG hkN
      have gn := hc.gvn hkN
      rw [eg] at gn
      by_cases hlt : j < G
      · obtain ⟨gq, cq, hgv, x3⟩ := hc.cge hkN (y := j) (by rw [eg]; exact hlt)
        have er := hc.ent2 k hkN j (by rw [eg]; exact hlt)
        rw [eg] at hgv
        rw [hgv] at x2
        rcases hd : (Lj.ge k).getD j sd0 with ⟨eA, en, ec⟩
        rw [hd] at x3 er
        obtain ⟨gj, hgj⟩ : ∃ gj, (cj.gen k).getD j [] = gj := ⟨_, rfl⟩
        have hgm : gj ∈ c.gen k := by
          have : cj.gen k = c.gen k := hbl.gen
          rw [← hgj, this, List.getD_eq_getElem?_getD, List.getElem?_eq_getElem (by rw [HG.out]; exact hlt)]; exact List.getElem_mem _
        have hgP := (HL.out.gp gj hgm).1
        rw [hgj] at er
        obtain rfl : en = N := by have h3 : gj.length = en := er.1; have := hgP.2; omega
        have Eg := Lib.hid er
        have GP := Lib.hid hgP
        have Gm := Lib.hid hgm
        have Gj := Lib.hid hgj
        have q0 : (0 : Int) ≤ j := by omega
        have q1 : (j : Int) < G := by omega
        simp only [sval] at x2 x3
        clear hc hch hmt hbl hs gn hgv er hd hgj hgm hgP eg
        go_wp2_with fail
        refine (specComp (some ⟨b, off, none⟩) eA cp ec en q gj wr S2.out.ri_ Eg.out.ri_ (Lib.hid QP.out.2) Eg.out.hid (Lib.hid QP.out.1) hN.2).mono ?_
        rintro e w3 ⟨A3, c4, rfl, s3, b3⟩
        have hbr : base ≤ wr.heap.size := by have := Ch2.out.size; omega
        have S3 : Hid (Slc w3 base A3 en c4 (compL q gj)) := Lib.hid (s3.mono hbr)
        have C3 := Lib.hid (C2.out.up b3)
        have Z3 : Hid (Slc w3 base (some ⟨b, off, none⟩) en cp q) := Lib.hid (S2.out.up b3)
        have Ch3 : Hid (Chg w w3 (Mut en L)) := Lib.hid (Ch2.out.trans (M1 := fun _ => False) (.of_below b3) fun b hb => hb.elim)
        have hz3 := b3.size
        clear s3 b3 C2 S2 x1 x2 x3 q0 q1
        go_wp2_with fail
        have egk : cj.gen k = c.gen k := Bl2.out.gen
        refine (IH (miss en cj k) (by have := miss_mono (N := en) Bl2.out.grw; omega) c4 A3 cj Lj _ w3 C3.out S3.out Bl2.out.low (by rw [egk]; exact HQ.out.mul Gm.out) (by rw [egk, HG.out]; exact hgl) (Nat.le_refl _)).mono ?_
        rintro e w4 ⟨c', L', rfl, hc4, hch4, hmt4, hbp⟩
        have C4 := Lib.hid hc4
        have Ch4 : Hid (Chg w w4 (Mut en L)) := Lib.hid (Ch3.out.trans hch4 Mt2.out)
        have Mt4 : Hid (∀ b, Mut en L' b → Mut en L b ∨ w.heap.size ≤ b) := Lib.hid fun b hb => by
          rcases hmt4 b hb with h | h
          · exact Mt2.out b h
          · exact .inr (by have := Ch3.out.size; omega)
        have Bl4 : Hid (Bl en k (c.set k y q) c' q (j + 1)) := Lib.hid (Bl2.out.next (by
          have e1 : ((c.set k y q).gen k).getD j [] = gj := by rw [← Gj.out, Bl2.out.gen]
          rw [e1]; exact hbp))
        have Z4 : Hid (Slc w4 base (some ⟨b, off, none⟩) en cp q) := Lib.hid (Z3.out.chg hch4 C3.out.noInt)
        clear hc4 hch4 hmt4 hbp egk
        go_wp2_with fail
        go_roundw
        case rel => exact ⟨j + 1, c', L', by omega, by go_num, C4.out, Ch4.out, Mt4.out, Bl4.out, Z4.out⟩
        case measure => simp [intOf]; omega
      · obtain rfl : j = G := by omega
        rcases hgv : Lj.gv k with ⟨eA, en, ec⟩
        rw [hgv] at x2 gn
        have gn2 : en = j := gn
        subst gn2
        have Fin : Hid (Bp N k c cj q) := Lib.hid (Bl.all HL.out hkN hN.1 hN.2 HQ.out (by rw [Ey.out]; exact hz) (by rw [Ey.out, HG.out]; exact Bl2.out))
        simp only [sval] at x2
        clear hc hch hmt hbl hs gn hgv eg
        go_wp2_with fail
        go_end0
        exact ⟨cj, Lj, rfl, C2.out, Ch2.out, Mt2.out, Fin.out⟩
  · have hRN : (c.rep k y).length = N := rep_ne_pos HL.out.rep hz
    obtain rfl : dn = N := by
      have : dn = (c.rep k y).length := en
      omega
    have RP := Lib.hid (HL.out.rep.at_ y hz).2.1
    have HRN := Lib.hid hRN
    have hgt : decide ((0 : Int) < (dn : Int)) = true := by simp; omega
    clear en hRN
    go_enter Try.func103, Try.ntmps103
    go_wp2_with fail
    go_quiet (fail)
    obtain ⟨wd, hwd⟩ : ∃ wd, w.drewN nq = wd := ⟨_, rfl⟩
    have Bd : Hid (Below w.heap.size w wd) := Lib.hid (by rw [← hwd]; exact drewN_below w nq)
    have Sd := Lib.hid (HS.out.up Bd.out)
    have Ed := Lib.hid (Er.out.up Bd.out)
    have Cd := Lib.hid (HC.out.up Bd.out)
    rw [hwd]
    clear hwd HC HS Er x1 x2 x3 x5
    go_wp2_with fail
    refine (specInv dA dc dn (c.rep k y) wd Ed.out HRN (Lib.hid RP.out.1) hN.2).mono ?_
    rintro e w1 ⟨A2, c3, rfl, s2, b2⟩
    have S2 := Lib.hid s2
    have Sd1 := Lib.hid (Sd.out.up b2)
    have C1 := Lib.hid (Cd.out.up b2)
    have B1 : Hid (Below w.heap.size w w1) := Lib.hid (btr Bd.out b2)
    clear s2 b2 Sd Cd Ed
    go_wp2_with fail
    refine (specComp (some ⟨b, off, none⟩) A2 cp c3 dn q (invL (c.rep k y) dn) w1 Sd1.out.ri_ S2.out.ri_ (Lib.hid QP.out.2) S2.out.hid (Lib.hid QP.out.1) hN.2).mono ?_
    rintro e w2 ⟨A3, c4, rfl, s3, b3⟩
    have S3 := Lib.hid s3
    have C2 := Lib.hid (C1.out.up b3)
    have B2 : Hid (Below w.heap.size w w2) := Lib.hid (btr B1.out b3)
    clear s3 b3 C1
    have eiv : invL (c.rep k y) dn = iv (c.rep k y) := by unfold iv; rw [HRN.out]
    rw [eiv] at S3
    have Rst := Lib.hid (HL.out.rest hkN hN.1 hN.2 HQ.out (by rw [Ey.out]; exact hz))
    have S3b : Hid (Slc w2 base A3 dn c4 (compL q (iv (c.rep k y)))) := Lib.hid (S3.out.mono (by have := B1.out.size; omega))
    rw [Ey.out] at Rst
    have wk : IntKind.i64.wrap ((k : Int) + 1) = ((k + 1 : Nat) : Int) := by rw [IntKind.wrap_i64]; omega
    go_wp2_with fail
    have ek : ((k : Int) + 1) = ((k + 1 : Nat) : Int) := by omega
    rw [ek]
    refine (AG c4 A3 c L _ w2 C2.out S3b.out Rst.out.1 Rst.out.2 HL.out.up).mono ?_
    rintro e w3 ⟨c', L', rfl, hc3, hch, hmt, hap⟩
    have C3 := Lib.hid hc3
    have Ch3 : Hid (Chg w w3 (Mut dn L)) := Lib.hid ((Chg.of_below B2.out).trans hch fun b hb => .inl hb)
    have Mt : Hid (∀ b, Mut dn L' b → Mut dn L b ∨ w.heap.size ≤ b) := Lib.hid fun b hb => by
      have := B2.out.size
      rcases hmt b hb with h | h
      · exact .inl h
      · exact .inr (by omega)
    have Bp3 : Hid (Bp dn k c c' q) := Lib.hid (.old HL.out hkN hN.1 hN.2 HQ.out (by rw [Ey.out]; exact hz) (by rw [Ey.out]; exact hap))
    clear hc3 hch hmt hap
    go_wp2_with fail
    (try simp only [Exit.inBlock, Exit.then]); refine bodyPost_ret (results_none rfl _ _ _) rfl ?_
    exact ⟨c', L', rfl, C3.out, Ch3.out, Mt.out, Bp3.out⟩
theorem specAddProd (base g N k : Nat) (hkN : k < N) (AG : AGs base g N (k + 1)) (fuel : Nat) : APs base g N k fuel := by
  induction fuel using Nat.strongRecOn with
  | ind f ih => exact specAddProd1 base g N k hkN AG f ih
end Go.Proofs.Ytcjcmhoalomjfab
