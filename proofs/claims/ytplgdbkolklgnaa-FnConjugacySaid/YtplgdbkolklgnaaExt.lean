/- The model's search for a conjugator, entry by entry. Condition: permutations of one degree. -/
import Derived.Test.YtplgdbkolklgnaaFindM
import Derived.Test.YtplgdbkolklgnaaSameT
import Derived.Deep.LoopGhost
namespace Go.Proofs.Ytplgdbkolklgnaa
open Go.RowKit

/-- copyInts. -/
theorem copyT (g n c base : Nat) (xs : List Int) (w : World) (h : Slc w base (some ⟨g, 0, none⟩) n c xs) (hn : n ≤ 1000000) :
    Calls Try.prog 58 #[.slice (some ⟨g, 0, none⟩) n c] w fun e w' => ∃ A' c', e = .returned (.slice A' n c') ∧ Slc w' w.heap.size A' n c' xs ∧ Below w.heap.size w w' := by
  obtain ⟨i0, hi, hz0, hz1, hz2⟩ := info_parts infoI
  have Ha := Lib.hid (h.alloc (.cells #[] 2))
  have H0 := Lib.hid (Slc.lit0 w w.heap.size (Nat.le_refl _))
  have Hg : g < w.heap.size := (h.lt_ g rfl).2
  have lx := h.1
  clear h
  go_enter Try.func58, Try.ntmps58
  go_wp2_with (first | (at_builtin; refine wpList_append_own _ rfl _ _ 24 rfl w.heap.size 2 i0 (.int .i64 0) 1 8 Try.underlying24 hi hz0 hz1 hz2 rfl (by decide) _ 0 [] rfl H0.out.2 ⟨g, 0, none⟩ n c (xs.map (Value.int .i64)) rfl (by simp [lx]) ?_ (fun u hu => by rw [List.mem_map] at hu; obtain ⟨a, _, rfl⟩ := hu; rfl) (by unfold maxLen; omega) (by omega) (by simp) ?_))
  · intro j u hj
    have e : (⟨g, 0, none⟩ : Addr).add j = ⟨g, j, none⟩ := by unfold Addr.add; split <;> simp_all
    rw [e]
    have hjl : j < n := by
      have := (List.getElem?_eq_some_iff.1 hj).1
      simpa [lx] using this
    have := (Row.of_own (g := g) (n := n) (xs := xs) (by have := Ha.out.2; exact this)).cell hjl
    rw [this]
    rw [List.getElem?_map, List.getElem?_eq_getElem (by omega)] at hj
    rw [← Option.some.inj hj, getD_eq (by omega)]
  · intro v' w' hown' hg _
    have hO : Own w' w.heap.size v' xs := by
      unfold Own
      rw [lx]
      simpa using hown'
    obtain ⟨A', c', rfl, hS⟩ := Slc.of_own (n := n) hO lx
    have hS' := Lib.hid hS
    have B1 : Hid (Below w.heap.size w w') := Lib.hid (((Below.refl _ w).alloc (Nat.le_refl _) _).grown hg (by simp) (fun k e => by simp [Value.ownBlock] at e; omega))
    clear hS hO hown' hg
    go_wp2
    go_ret
    exact ⟨_, _, rfl, hS'.out, B1.out⟩

/-- y is a permutation that begins with x and conjugates p to q. -/
def CX (p q x y : List Int) : Prop := IsP y ∧ y.length = p.length ∧ conjP p y = q ∧ ∃ t, y = x ++ t
theorem CX.leaf {p q x y : List Int} (h : CX p q x y) (hl : x.length = p.length) : y = x := by
  obtain ⟨h1, h2, h3, t, rfl⟩ := h
  rw [List.length_append] at h2
  obtain rfl : t = [] := List.eq_nil_of_length_eq_zero (by omega)
  simp
theorem CX.step {p q x y : List Int} (h : CX p q x y) (hl : x.length < p.length) : ∃ v : Nat, v < p.length ∧ hasB x (v : Int) = false ∧ CX p q (x ++ [(v : Int)]) y := by
  obtain ⟨h1, h2, h3, t, e⟩ := h
  cases t with
  | nil => rw [e] at h2; simp at h2; omega
  | cons u t =>
    have ex : y.getD x.length 0 = u := by
      subst e
      rw [List.getD_eq_getElem?_getD, List.getElem?_append_right (Nat.le_refl _), Nat.sub_self]; rfl
    have lo := h1.lo x.length (by omega)
    have hi := h1.hi x.length (by omega)
    rw [ex] at lo hi
    obtain ⟨v, rfl⟩ := Int.eq_ofNat_of_zero_le lo
    refine ⟨v, by omega, ?_, h1, h2, h3, t, by rw [e]; simp⟩
    unfold hasB
    apply decide_eq_false
    rintro ⟨j, hj, ej⟩
    have := h1.inj j x.length (by omega) (by omega) (by
      rw [ex]
      have : y.getD j 0 = x.getD j 0 := by
        subst e
        rw [List.getD_eq_getElem?_getD, List.getElem?_append_left hj, ← List.getD_eq_getElem?_getD]
      rw [this, ej])
    omega
theorem CX.back {p q x y : List Int} {v : Int} (h : CX p q (x ++ [v]) y) : CX p q x y := by
  obtain ⟨h1, h2, h3, t, e⟩ := h
  exact ⟨h1, h2, h3, v :: t, by rw [e]; simp⟩
theorem CX.at_ {p q x y : List Int} {v : Int} (h : CX p q (x ++ [v]) y) : y.getD x.length 0 = v := by
  obtain ⟨h1, h2, h3, t, rfl⟩ := h
  rw [List.getD_eq_getElem?_getD, List.append_assoc, List.getElem?_append_right (Nat.le_refl _), Nat.sub_self]; rfl
theorem CX.pre {p q x y : List Int} (h : CX p q x y) {i : Nat} (hi : i < x.length) : y.getD i 0 = x.getD i 0 := by
  obtain ⟨h1, h2, h3, t, rfl⟩ := h
  rw [List.getD_eq_getElem?_getD, List.getElem?_append_left hi, ← List.getD_eq_getElem?_getD]
/-- What the search hands back: nothing, or the first. -/
def Found (p q x ys : List Int) : Prop := (ys = [] ∧ ∀ y, ¬ CX p q x y) ∨ (ys ≠ [] ∧ CX p q x ys ∧ ∀ y, CX p q x y → Lex ys y)
theorem Found.first {p q x ys : List Int} {v : Nat} (hl : x.length < p.length) (hn : ∀ u : Nat, u < v → ∀ y, ¬ CX p q (x ++ [(u : Int)]) y) (h : Found p q (x ++ [(v : Int)]) ys) (hne : ys ≠ []) : Found p q x ys := by
  rcases h with ⟨e, _⟩ | ⟨_, h1, h2⟩
  · exact absurd e hne
  · refine .inr ⟨hne, h1.back, fun y hy => ?_⟩
    obtain ⟨u, hu, _, hc⟩ := hy.step hl
    rcases Nat.lt_trichotomy u v with hlt | rfl | hgt
    · exact absurd hc (hn u hlt y)
    · exact h2 y hc
    · intro i hi hag
      have a1 := h1.at_
      have a2 := hc.at_
      rcases Nat.lt_trichotomy i x.length with hi2 | rfl | hi2
      · rw [h1.back.pre hi2, hy.pre hi2]; exact Int.le_refl _
      · omega
      · have := hag x.length hi2
        omega
theorem Found.leaf {p q x : List Int} (hp : IsP p) (hq : IsP q) (hl : x.length = p.length) (hd : p.length = q.length) : Found p q x (if decide (conjL p x = q) = true then x else []) := by
  by_cases e : conjL p x = q
  · rw [if_pos (by simpa using e)]
    unfold conjL at e
    have hs : sameD p x = true := by
      cases h : sameD p x with
      | true => rfl
      | false => rw [h] at e; simp at e; have := hq.pos; rw [e] at this; simp at this
    rw [if_pos hs] at e
    have hx := (sameD_iff.1 hs).2.2
    refine .inr ⟨fun e => by have := hx.pos; rw [e] at this; simp at this, ⟨hx, hl, e, [], by simp⟩, fun y hy => ?_⟩
    rw [hy.leaf hl]
    exact fun i _ _ => Int.le_refl _
  · rw [if_neg (by simpa using e)]
    refine .inl ⟨rfl, fun y hy => e ?_⟩
    have := hy.leaf hl
    subst this
    unfold conjL
    rw [if_pos (sameD_iff.2 ⟨hl.symm, hp, hy.1⟩)]
    exact hy.2.2.1

set_option maxHeartbeats 1000000 in
/-- extendConjugator. -/
theorem specExtend (A B : Option Addr) (c d n : Nat) (p q : List Int) (lp : Hid (p.length = n)) (lq : Hid (q.length = n)) (ip : Hid (IsP p)) (iq : Hid (IsP q)) (hn : n ≤ 20) (hc : n ≤ c) :
    ∀ (k : Nat) (gx m cx bx : Nat) (x : List Int) (w : World), m + k = n → RI w w.heap.size A p → RI w w.heap.size B q → Slc w bx (some ⟨gx, 0, none⟩) m cx x → bx ≤ w.heap.size →
    Calls Try.prog 34 #[.slice A n c, .slice B n d, .slice (some ⟨gx, 0, none⟩) m cx] w fun e w' => ∃ A' n' c' ys, e = .returned (.slice A' n' c') ∧ Slc w' bx A' n' c' ys ∧ Found p q x ys ∧ n' ≤ n ∧ Below w.heap.size w w' := by
  intro k
  induction k with
  | zero =>
    intro gx m cx bx x w hm hp hq hx hb
    obtain rfl : m = n := by omega
    have X := Lib.hid hx
    have hcx := hx.le.1
    have Fd := Lib.hid (Found.leaf ip.out iq.out (hx.1.trans lp.out.symm) (lp.out.trans lq.out.symm))
    have Lq : Hid (q.length = m) := lq
    clear hx
    rcases hz : decide (conjL p x = q) with _ | _
    · have Hz : Hid (decide (conjL p x = q) = false) := Lib.hid hz
      have F : Hid (Found p q x []) := Lib.hid (by have := Fd.out; rw [hz] at this; exact this)
      clear hz Fd
      go_enter Try.func34, Try.ntmps34
      go_wp2_with fail
      refine (specConjugate A (some ⟨gx, 0, none⟩) c cx m m p x w hp X.out.ri_ lp X.out.hid (by omega) (by omega) hc hcx).mono ?_
      rintro e w1 ⟨A1, n1, c1, rfl, s1, l1, b1⟩
      have S1 := Lib.hid s1
      have B1 := Lib.hid b1
      clear s1 b1
      go_wp2_with fail
      refine (quiet_below (equalIs A1 B c1 d n1 m _ _ w1 S1.out.ri_ (hq.up B1.out) S1.out.hid lq (by omega) (by omega))).mono ?_
      rintro e w2 ⟨he, b2⟩
      rw [Hz.out] at he
      subst he
      have B2 : Hid (Below w.heap.size w w2) := Lib.hid (btr B1.out b2)
      clear b2
      go_wp2_with fail
      go_ret
      exact ⟨_, _, _, [], rfl, Slc.lit0 w2 _ (Nat.le_trans hb B2.out.size), F.out, Nat.zero_le _, B2.out.alloc B2.out.size _⟩
    · have Hz : Hid (decide (conjL p x = q) = true) := Lib.hid hz
      have F : Hid (Found p q x x) := Lib.hid (by have := Fd.out; rw [hz] at this; exact this)
      clear hz Fd
      go_enter Try.func34, Try.ntmps34
      go_wp2_with fail
      refine (specConjugate A (some ⟨gx, 0, none⟩) c cx m m p x w hp X.out.ri_ lp X.out.hid (by omega) (by omega) hc hcx).mono ?_
      rintro e w1 ⟨A1, n1, c1, rfl, s1, l1, b1⟩
      have S1 := Lib.hid s1
      have B1 := Lib.hid b1
      clear s1 b1
      go_wp2_with fail
      refine (quiet_below (equalIs A1 B c1 d n1 m _ _ w1 S1.out.ri_ (hq.up B1.out) S1.out.hid lq (by omega) (by omega))).mono ?_
      rintro e w2 ⟨he, b2⟩
      rw [Hz.out] at he
      subst he
      have B2 : Hid (Below w.heap.size w w2) := Lib.hid (btr B1.out b2)
      clear b2
      go_wp2_with fail
      go_ret
      exact ⟨_, _, _, x, rfl, X.out.up B2.out, F.out, Nat.le_refl _, B2.out⟩
  | succ k ih =>
    intro gx m cx bx x w hm hp hq hx hb
    have X := Lib.hid hx
    have Ih := Lib.hid ih
    have Lx : Hid (x.length < p.length) := Lib.hid (by rw [hx.1, lp.out]; omega)
    have hne : ((m : Int) == (n : Int)) = false := by rw [beq_eq_false_iff_ne]; omega
    clear hx ih
    go_enter Try.func34, Try.ntmps34
    go_wp2_with fail
    go_loopg [10, 11] n (fun gg v _ wr => ∃ u : Nat, u ≤ n ∧ n - u ≤ gg ∧ v = .int .i64 (u : Int) ∧ (∀ t : Nat, t < u → ∀ y, ¬ CX p q (x ++ [(t : Int)]) y) ∧ Below w.heap.size w wr)
    case atStart => exact ⟨0, Nat.zero_le _, by omega, rfl, fun t h => absurd h (by omega), Below.refl _ _⟩
    case round =>
      obtain ⟨u, hu, hg, rfl, hno, bel⟩ := hrel
      have No := Lib.hid hno
      have Bel := Lib.hid bel
      clear hno bel
      by_cases hlt : u < n
      · have Xr := Lib.hid (X.out.up Bel.out)
        rcases hh : hasB x (u : Int) with _ | _
        · have Hh := Lib.hid hh
          clear hh
          go_wp2_with fail
          refine (containsI_any (some ⟨gx, 0, none⟩) cx m x (u : Int) wr wr.heap.size Xr.out.ri_ Xr.out.hid (by omega) false Hh).mono ?_
          rintro e w1 ⟨rfl, rfl⟩
          go_wp2_with fail
          refine (copyT gx m cx bx x wr Xr.out (by omega)).mono ?_
          rintro e w2 ⟨A2, c2, rfl, s2, b2⟩
          have S2 := Lib.hid s2
          have B2 := Lib.hid b2
          have Z2 := b2.size
          clear s2 b2
          go_wp2_with (first | (at_builtin; refine wpList_app1 rfl _ _ rfl wr.heap.size A2 m c2 _ rfl (S2.out.alloc _) w2.heap.size (u : Int) rfl (by rw [World.cell?_alloc_at _ _ _ _ rfl]; rfl) (by omega) (by simp; omega) ?_; intro A3 c3 w3 s3 g3))
          have B3 : Hid (Below wr.heap.size wr w3) := Lib.hid ((B2.out.alloc Z2 _).grown g3 (by simp; omega) (fun j hj => (S2.out.lt_ j hj).1))
          have Bel3 : Hid (Below w.heap.size w w3) := Lib.hid (btr Bel.out B3.out)
          obtain ⟨ga, rfl⟩ : ∃ ga, A3 = some ⟨ga, 0, none⟩ := by
            rcases s3.at_ with ⟨_, _, e0, _⟩ | ⟨ga, e0, _⟩
            · omega
            · exact ⟨ga, e0⟩
          have S3 := Lib.hid s3
          have Z3 := B3.out.size
          clear s3 g3
          go_wp2_with fail
          refine (Ih.out ga (m + 1) c3 wr.heap.size (x ++ [(u : Int)]) w3 (by omega) (hp.up Bel3.out) (hq.up Bel3.out) S3.out Z3).mono ?_
          rintro e w4 ⟨A4, n4, c4, ys, rfl, s4, f4, l4, b4⟩
          have Bel4 : Hid (Below w.heap.size w w4) := Lib.hid (btr Bel3.out b4)
          have S4 := Lib.hid (s4.mono (Nat.le_trans hb Bel.out.size))
          have F4 := Lib.hid f4
          have ly := s4.1
          clear s4 f4 b4
          by_cases h4 : n4 = 0
          · subst h4
            have No2 : Hid (∀ t : Nat, t < u + 1 → ∀ y, ¬ CX p q (x ++ [(t : Int)]) y) := Lib.hid fun t ht y hy => by
              by_cases e : t = u
              · subst e
                rcases F4.out with ⟨_, h⟩ | ⟨h, _⟩
                · exact h y hy
                · exact h (List.eq_nil_of_length_eq_zero ly)
              · exact No.out t (by omega) y hy
            clear ly
            go_wp2_with fail
            go_roundg (n - (u + 1))
            case rel => exact ⟨u + 1, by omega, Nat.le_refl _, by go_num, No2.out, Bel4.out⟩
            case measure => omega
          · have F : Hid (Found p q x ys) := Lib.hid (F4.out.first Lx.out No.out (fun e => h4 (by rw [← ly, e]; rfl)))
            clear ly
            go_wp2_with fail
            go_ret
            exact ⟨_, _, _, ys, rfl, S4.out, F.out, l4, Bel4.out⟩
        · have Hh := Lib.hid hh
          clear hh
          have No2 : Hid (∀ t : Nat, t < u + 1 → ∀ y, ¬ CX p q (x ++ [(t : Int)]) y) := Lib.hid fun t ht y hy => by
            by_cases e : t = u
            · subst e
              obtain ⟨t2, _, h2, h3⟩ := hy.back.step Lx.out
              have h4 := h3.at_
              rw [hy.at_] at h4
              rw [← h4, Hh.out] at h2
              cases h2
            · exact No.out t (by omega) y hy
          go_wp2_with fail
          refine (containsI_any (some ⟨gx, 0, none⟩) cx m x (u : Int) wr wr.heap.size Xr.out.ri_ Xr.out.hid (by omega) true Hh).mono ?_
          rintro e w1 ⟨rfl, rfl⟩
          go_wp2_with fail
          go_roundg (n - (u + 1))
          case rel => exact ⟨u + 1, by omega, Nat.le_refl _, by go_num, No2.out, Bel.out⟩
          case measure => omega
      · have hun : u = n := by omega
        subst hun
        have F : Hid (Found p q x []) := Lib.hid (.inl ⟨rfl, fun y hy => by
          obtain ⟨t2, h1, _, h3⟩ := hy.step Lx.out
          exact No.out t2 (by rw [← lp.out]; exact h1) y h3⟩)
        go_wp2
        go_ret
        exact ⟨_, _, _, [], rfl, Slc.lit0 wr _ (Nat.le_trans hb Bel.out.size), F.out, Nat.zero_le _, Bel.out.alloc Bel.out.size _⟩
end Go.Proofs.Ytplgdbkolklgnaa
