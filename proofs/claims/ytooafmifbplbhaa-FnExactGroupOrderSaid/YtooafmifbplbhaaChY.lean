/- IsMember, LongestMemberPrefix and SameGroup of the model: what they answer. Conditions: at most 1048576 lists of at most 1048576 numbers. -/
import Derived.Test.YtooafmifbplbhaaChX
namespace Go.Proofs.Ytooafmifbplbhaa
open Go.RowKit

/-- p's first k entries are those of a member, and no more of them are. -/
def LmpOK (N : Nat) (gs : List (List Int)) (p : List Int) (k : Nat) : Prop := k ≤ N ∧ (∃ q, Mb gs N q ∧ ∀ t, t < k → nx q t = nx p t) ∧ (k < N → ¬ ∃ q, Mb gs N q ∧ ∀ t, t ≤ k → nx q t = nx p t)
theorem LmpOK.uniq {N k k' : Nat} {gs : List (List Int)} {p : List Int} (h : LmpOK N gs p k) (h' : LmpOK N gs p k') : k = k' := by
  obtain ⟨a, ⟨q, hq, hq2⟩, b⟩ := h
  obtain ⟨a', ⟨q', hq', hq2'⟩, b'⟩ := h'
  rcases Nat.lt_trichotomy k k' with hl | hl | hl
  · exact absurd ⟨q', hq', fun t ht => hq2' t (by omega)⟩ (b (by omega))
  · exact hl
  · exact absurd ⟨q, hq, fun t ht => hq2 t (by omega)⟩ (b' (by omega))
/-- What LongestMemberPrefix answers. -/
def IsLmp (a : Int) (gs : List (List Int)) (p : List Int) (v : Int) : Prop :=
  (gB a gs = true ∧ (p.length : Int) = a ∧ isP p = true ∧ ∃ k : Nat, v = k ∧ LmpOK a.toNat gs p k) ∨ (¬ (gB a gs = true ∧ (p.length : Int) = a ∧ isP p = true) ∧ v = -1)
theorem IsLmp.uniq {a v v' : Int} {gs : List (List Int)} {p : List Int} (h : IsLmp a gs p v) (h' : IsLmp a gs p v') : v = v' := by
  rcases h with ⟨e1, e2, e3, k, rfl, h⟩ | ⟨e, rfl⟩ <;> rcases h' with ⟨e1', e2', e3', k', rfl, h'⟩ | ⟨e', rfl⟩
  · rw [h.uniq h']
  · exact absurd ⟨e1, e2, e3⟩ e'
  · exact absurd ⟨e1', e2', e3'⟩ e
  · rfl
/-- The two lists generate the same group. -/
def SameG (a : Int) (xs ys : List (List Int)) : Prop := gB a xs = true ∧ gB a ys = true ∧ (∀ g ∈ ys, Mb xs a.toNat g) ∧ ∀ g ∈ xs, Mb ys a.toNat g

theorem bool_of (P : Prop) : ∃ b : Bool, b = true ↔ P := by
  rcases Classical.em P with h | h
  · exact ⟨true, fun _ => h, fun _ => rfl⟩
  · exact ⟨false, fun e => (by cases e), fun e => absurd e h⟩
section
variable (a : Int) (A : Option Addr) (n c : Nat) (vs : List SV) (xss : List (List Int)) (w : World)
theorem specIsPB (N : Nat) (xs : List Int) (ans : Bool) (hx : RI w w.heap.size A xs) (lx : Hid (xs.length = n)) (hn : n ≤ 2097152) (hnc : n ≤ c) (ha : Hid (isP xs = ans)) :
    Calls Try.prog 52 #[.slice A n c] w fun e w' => e = .returned (.bool ans) ∧ Below w.heap.size w w' :=
  (quiet_below (specIsP A c n xs w hx lx hn hnc)).mono fun e w' ⟨he, hb⟩ => ⟨he.trans (ret_bool ha.out), hb⟩
set_option maxHeartbeats 1000000 in
theorem specIsPOf (N : Nat) (xs : List Int) (ans : Bool) (hx : RI w w.heap.size A xs) (lx : Hid (xs.length = n)) (hn : n ≤ 2097152) (hnc : n ≤ c) (ha : Hid ((decide (n = N) && isP xs) = ans)) :
    Calls Try.prog 55 #[.int .i64 (N : Nat), .slice A n c] w fun e w' => e = .returned (.bool ans) ∧ Below w.heap.size w w' := by
  have HX := Lib.hid hx
  clear hx
  by_cases e1 : n = N
  · subst e1
    have e0 : ((n : Int) == (n : Int)) = true := by simp
    have h1 : Hid (isP xs = ans) := Lib.hid (by rw [← ha.out]; simp)
    go_enter Try.func55, Try.ntmps55
    go_wp2_with (first | (go_at_call 52; refine (specIsPB A n c w n xs ans HX.out lx hn hnc h1).mono ?_; rintro e w1 ⟨rfl, b1⟩))
    go_ret
    exact ⟨rfl, b1⟩
  · have e0 : ((n : Int) == (N : Int)) = false := by simp; omega
    have h1 : Hid (ans = false) := Lib.hid (by rw [← ha.out]; simp [e1])
    go_enter Try.func55, Try.ntmps55
    go_wp2_with fail
    go_ret
    exact ⟨ret_bool h1.out.symm, Below.refl _ _⟩
set_option maxHeartbeats 2000000 in
set_option maxRecDepth 100000 in
theorem specIsMember (P : Option Addr) (np cp : Nat) (p : List Int) (hx : RR w w.heap.size A n vs xss) (hn : n ≤ 1048576) (hl : Hid (∀ i, i < n → (vs.getD i sd0).2.1 ≤ 1048576)) (hp : RI w w.heap.size P p) (lp : Hid (p.length = np)) (hnp : np ≤ 1048576) (hpc : np ≤ cp) (ha : -9223372036854775808 ≤ a ∧ a ≤ 9223372036854775807) :
    Calls Try.prog 17 #[.int .i64 a, .slice A n c, .slice P np cp] w fun e w' => ∃ b, e = .returned (.bool b) ∧ (b = true ↔ Memb a xss p) ∧ Below w.heap.size w w' := by
  have HX := Lib.hid hx
  have HP := Lib.hid hp
  have hlx : Hid (xss.length = n) := Lib.hid hx.lx
  clear hx hp
  go_enter Try.func17, Try.ntmps17
  go_wp2_with fail
  refine (specGS a A n c vs xss w HX.out hn hl ha).mono ?_
  rintro e w1 ⟨rfl, b1⟩
  have B1 := Lib.hid b1
  have X1 := Lib.hid (HX.out.up b1)
  have P1 := Lib.hid (HP.out.up b1)
  clear b1
  rcases hs : gB a xss with _ | _
  · have Fin : Hid (false = true ↔ Memb a xss p) := Lib.hid ⟨fun h => (by cases h), fun h => by have := h.1; rw [hs] at this; cases this⟩
    clear hs
    go_wp2_with fail
    go_ret
    exact ⟨_, rfl, Fin.out, B1.out⟩
  · by_cases e1 : (np : Int) = a
    · obtain ⟨N, rfl, hN1, hN2, hg8, hpm, hok⟩ := gB_pm hs
      obtain rfl : np = N := by omega
      have Hs := Lib.hid hs
      have Ok := Lib.hid hok
      have hn8 : n ≤ 8 := by rw [← hlx.out]; exact hg8
      have e0 : ((np : Int) == (np : Int)) = true := by simp
      clear hs hpm hok hg8 e1
      rcases hq : isP p with _ | _
      · have Fin : Hid (false = true ↔ Memb np xss p) := Lib.hid ⟨fun h => (by cases h), fun h => by have := h.2.2.1; rw [hq] at this; cases this⟩
        have Hq := Lib.hid hq
        clear hq
        go_wp2_with fail
        refine (specIsPB P np cp w1 np p false P1.out lp (by omega) hpc Hq).mono ?_
        rintro e w2 ⟨rfl, b2⟩
        have B2 : Hid (Below w.heap.size w w2) := Lib.hid (btr B1.out b2)
        clear b2
        go_wp2_with fail
        go_ret
        exact ⟨_, rfl, Fin.out, B2.out⟩
      · have PP : Hid (Pn np p) := Lib.hid ⟨isP_iff.1 hq, lp.out⟩
        have Hq := Lib.hid hq
        clear hq
        go_wp2_with fail
        refine (specIsPB P np cp w1 np p true P1.out lp (by omega) hpc Hq).mono ?_
        rintro e w2 ⟨rfl, b2⟩
        have X2 := Lib.hid (X1.out.up b2)
        have P2 := Lib.hid (P1.out.up b2)
        have B2 : Hid (Below w.heap.size w w2) := Lib.hid (btr B1.out b2)
        clear b2
        go_wp2_with fail
        refine (specBuild np n c A vs xss w2 X2.out hN1 hN2 hn8 Ok).mono ?_
        rintro e w3 ⟨g, L, ch, rfl, hc3, hw3, b3⟩
        have C3 := Lib.hid hc3
        have W3 := Lib.hid hw3
        have P3 := Lib.hid (P2.out.up b3)
        have B3 : Hid (Below w.heap.size w w3) := Lib.hid (btr B2.out b3)
        clear hc3 hw3 b3
        obtain ⟨ans, hans⟩ : ∃ ans : Bool, ans = true ↔ Mb xss np p := by
          rcases Classical.em (Mb xss np p) with h | h
          · exact ⟨true, fun _ => h, fun _ => rfl⟩
          · exact ⟨false, fun e => (by cases e), fun e => absurd e h⟩
        have Ha := Lib.hid hans
        have Fin : Hid (ans = true ↔ Memb np xss p) := Lib.hid ⟨fun h => ⟨Hs.out, by rw [lp.out], Hq.out, by rw [Int.toNat_natCast]; exact hans.1 h⟩, fun h => hans.2 (by have := h.2.2.2; rwa [Int.toNat_natCast] at this)⟩
        clear hans
        go_wp2_with fail
        refine (specHas w2.heap.size g np cp P ch L xss p w3 C3.out W3.out P3.out PP ans Ha).mono ?_
        rintro e w4 ⟨rfl, b4⟩
        have B4 : Hid (Below w.heap.size w w4) := Lib.hid (btr B3.out b4)
        clear b4
        go_wp2_with fail
        go_ret
        exact ⟨_, rfl, Fin.out, B4.out⟩
    · have e0 : ((np : Int) == a) = false := by simpa using e1
      have Fin : Hid (false = true ↔ Memb a xss p) := Lib.hid ⟨fun h => (by cases h), fun h => by have := h.2.1; rw [lp.out] at this; exact absurd this e1⟩
      clear hs
      go_wp2_with fail
      go_ret
      exact ⟨_, rfl, Fin.out, B1.out⟩

set_option maxHeartbeats 2000000 in
set_option maxRecDepth 100000 in
theorem specHasAll (base g N m cm : Nat) (M : Option Addr) (us : List SV) (gs hs : List (List Int)) (ch : Ch) (L : LY) (hc : Cn w base g N ch L) (hw : Whole N gs ch) (hm : RR w w.heap.size M m us hs) (ok : Hid (∀ g ∈ hs, IsP g ∧ g.length = N)) (hN1 : 1 ≤ N) (hm8 : m ≤ 8) (fin : Bool) (hf : Hid (fin = true ↔ ∀ x ∈ hs, Mb gs N x)) :
    Calls Try.prog 75 #[.pointer (some ⟨g, 0, none⟩), .slice M m cm] w fun e w' => e = .returned (.bool fin) ∧ Below w.heap.size w w' := by
  have HC := Lib.hid hc
  have HW := Lib.hid hw
  have HM := Lib.hid hm
  have hlx : Hid (hs.length = m) := Lib.hid hm.lx
  clear hc hw hm
  go_enter Try.func75, Try.ntmps75
  go_wp2_with fail
  go_loopw [5] (fun i wr => ∃ k : Nat, k ≤ m ∧ i = .int .i64 (k : Nat) ∧ (∀ x ∈ hs.take k, Mb gs N x) ∧ Below w.heap.size w wr) (fun i _ => m - (intOf i).toNat)
  case atStart => exact ⟨0, Nat.zero_le _, rfl, fun x hx => by simp at hx, Below.refl _ _⟩
  case round =>
    obtain ⟨k, hk, rfl, hall, bel⟩ := hrel
    have Al := Lib.hid hall
    have Be := Lib.hid bel
    have C1 := Lib.hid (HC.out.up bel)
    clear hall bel
    by_cases hlt : k < m
    · obtain ⟨b, off, A5, l, c5, y, rfl, hb, hv, ey, x1, ri, ly, hl5⟩ := (HM.out.up Be.out).at_ hlt
      have hym : y ∈ hs := by rw [← ey]; exact getD_memL (by rw [hlx.out]; exact hlt)
      have hyP := ok.out y hym
      obtain rfl : l = N := by omega
      have Ri := Lib.hid ri
      have YP : Hid (Pn l y) := Lib.hid hyP
      have Ym := Lib.hid hym
      have Ey := Lib.hid ey
      have q0 : (0 : Int) ≤ k := by omega
      have q1 : (k : Int) < m := by omega
      obtain ⟨ans, hans⟩ : ∃ ans : Bool, ans = true ↔ Mb gs l y := by
        rcases Classical.em (Mb gs l y) with h | h
        · exact ⟨true, fun _ => h, fun _ => rfl⟩
        · exact ⟨false, fun e => (by cases e), fun e => absurd e h⟩
      have Ha := Lib.hid hans
      clear hv ey hb ri hyP hym hans
      go_wp2_with fail
      refine (specHas base g l c5 A5 ch L gs y wr C1.out HW.out Ri.out YP ans Ha).mono ?_
      rintro e w2 ⟨rfl, b2⟩
      have Be2 : Hid (Below w.heap.size w w2) := Lib.hid (btr Be.out b2)
      clear b2
      rcases ans with _ | _
      · have Fin : Hid (fin = false) := Lib.hid (by
          rcases hq : fin with _ | _
          · rfl
          · exact absurd (Ha.out.2 (hf.out.1 hq y Ym.out)) (by decide))
        go_wp2_with fail
        go_ret
        exact ⟨ret_bool Fin.out.symm, Be2.out⟩
      · have Al2 : Hid (∀ x ∈ hs.take (k + 1), Mb gs l x) := Lib.hid fun x hx => by
          rw [List.take_succ_eq_append_getElem (by rw [hlx.out]; exact hlt)] at hx
          rcases List.mem_append.1 hx with hx | hx
          · exact Al.out x hx
          · have e1 : hs[k]'(by rw [hlx.out]; exact hlt) = y := by rw [← Ey.out, List.getD_eq_getElem?_getD, List.getElem?_eq_getElem (by rw [hlx.out]; exact hlt)]; rfl
            rw [List.mem_singleton.1 hx, e1]; exact Ha.out.1 rfl
        go_wp2_with fail
        go_roundw
        case rel => exact ⟨k + 1, by omega, by go_num, Al2.out, Be2.out⟩
        case measure => simp [intOf]; omega
    · obtain rfl : k = m := by omega
      have Fin : Hid (fin = true) := Lib.hid (hf.out.2 fun x hx => Al.out x (by rw [List.take_of_length_le (by rw [hlx.out]; exact Nat.le_refl _)]; exact hx))
      go_wp2_with fail
      go_ret
      exact ⟨ret_bool Fin.out.symm, Be.out⟩
set_option maxHeartbeats 2000000 in
set_option maxRecDepth 100000 in
theorem specSameGroup (M : Option Addr) (m cm : Nat) (us : List SV) (hss : List (List Int)) (hx : RR w w.heap.size A n vs xss) (hn : n ≤ 1048576) (hl : Hid (∀ i, i < n → (vs.getD i sd0).2.1 ≤ 1048576)) (hy : RR w w.heap.size M m us hss) (hm : m ≤ 1048576) (hlm : Hid (∀ i, i < m → (us.getD i sd0).2.1 ≤ 1048576)) (ha : -9223372036854775808 ≤ a ∧ a ≤ 9223372036854775807) :
    Calls Try.prog 44 #[.int .i64 a, .slice A n c, .slice M m cm] w fun e w' => ∃ b, e = .returned (.bool b) ∧ (b = true ↔ SameG a xss hss) ∧ Below w.heap.size w w' := by
  have HX := Lib.hid hx
  have HY := Lib.hid hy
  have hlx : Hid (xss.length = n) := Lib.hid hx.lx
  have hly : Hid (hss.length = m) := Lib.hid hy.lx
  clear hx hy
  go_enter Try.func44, Try.ntmps44
  go_wp2_with fail
  refine (specGS a A n c vs xss w HX.out hn hl ha).mono ?_
  rintro e w1 ⟨rfl, b1⟩
  have B1 := Lib.hid b1
  have X1 := Lib.hid (HX.out.up b1)
  have Y1 := Lib.hid (HY.out.up b1)
  clear b1
  rcases hs : gB a xss with _ | _
  · have Fin : Hid (false = true ↔ SameG a xss hss) := Lib.hid ⟨fun h => (by cases h), fun h => by have := h.1; rw [hs] at this; cases this⟩
    clear hs
    go_wp2_with fail
    go_ret
    exact ⟨_, rfl, Fin.out, B1.out⟩
  · have Hs := Lib.hid hs
    clear hs
    go_wp2_with fail
    refine (specGS a M m cm us hss w1 Y1.out hm hlm ha).mono ?_
    rintro e w2 ⟨rfl, b2⟩
    have B2 : Hid (Below w.heap.size w w2) := Lib.hid (btr B1.out b2)
    have X2 := Lib.hid (X1.out.up b2)
    have Y2 := Lib.hid (Y1.out.up b2)
    clear b2
    rcases ht : gB a hss with _ | _
    · have Fin : Hid (false = true ↔ SameG a xss hss) := Lib.hid ⟨fun h => (by cases h), fun h => by have := h.2.1; rw [ht] at this; cases this⟩
      clear ht
      go_wp2_with fail
      go_ret
      exact ⟨_, rfl, Fin.out, B2.out⟩
    · have Ht := Lib.hid ht
      obtain ⟨N, rfl, hN1, hN2, hg8, _, hok⟩ := gB_pm Hs.out
      obtain ⟨N2, hNN, _, _, hg8', _, hok'⟩ := gB_pm ht
      obtain rfl : N2 = N := by omega
      have Ok := Lib.hid hok
      have Ok' := Lib.hid hok'
      have hn8 : n ≤ 8 := by rw [← hlx.out]; exact hg8
      have hm8 : m ≤ 8 := by rw [← hly.out]; exact hg8'
      clear ht hok hok' hg8 hg8' hNN
      go_wp2_with fail
      refine (specBuild N2 n c A vs xss w2 X2.out hN1 hN2 hn8 Ok).mono ?_
      rintro e w3 ⟨g, L, ch, rfl, hc3, hw3, b3⟩
      have C3 := Lib.hid hc3
      have W3 := Lib.hid hw3
      have X3 := Lib.hid (X2.out.up b3)
      have Y3 := Lib.hid (Y2.out.up b3)
      have B3 : Hid (Below w.heap.size w w3) := Lib.hid (btr B2.out b3)
      clear hc3 hw3 b3
      obtain ⟨b, hb⟩ : ∃ b : Bool, b = true ↔ ∀ x ∈ hss, Mb xss N2 x := bool_of _
      have Hb := Lib.hid hb
      clear hb
      go_wp2_with fail
      refine (specHasAll w3 w2.heap.size g N2 m cm M us xss hss ch L C3.out W3.out Y3.out Ok' hN1 hm8 b Hb).mono ?_
      rintro e w4 ⟨rfl, b4⟩
      have X4 := Lib.hid (X3.out.up b4)
      have Y4 := Lib.hid (Y3.out.up b4)
      have B4 : Hid (Below w.heap.size w w4) := Lib.hid (btr B3.out b4)
      clear b4
      rcases b with _ | _
      · have Fin : Hid (false = true ↔ SameG N2 xss hss) := Lib.hid ⟨fun h => (by cases h), fun h => Hb.out.2 (by have := h.2.2.1; rwa [Int.toNat_natCast] at this)⟩
        go_wp2_with fail
        go_ret
        exact ⟨_, rfl, Fin.out, B4.out⟩
      · go_wp2_with fail
        refine (specBuild N2 m cm M us hss w4 Y4.out hN1 hN2 hm8 Ok').mono ?_
        rintro e w5 ⟨g5, L5, ch5, rfl, hc5, hw5, b5⟩
        have C5 := Lib.hid hc5
        have W5 := Lib.hid hw5
        have X5 := Lib.hid (X4.out.up b5)
        have B5 : Hid (Below w.heap.size w w5) := Lib.hid (btr B4.out b5)
        clear hc5 hw5 b5
        obtain ⟨b, hb⟩ : ∃ b : Bool, b = true ↔ ∀ x ∈ xss, Mb hss N2 x := bool_of _
        have Hb2 := Lib.hid hb
        clear hb
        go_wp2_with fail
        refine (specHasAll w5 w4.heap.size g5 N2 n c A vs hss xss ch5 L5 C5.out W5.out X5.out Ok hN1 hn8 b Hb2).mono ?_
        rintro e w6 ⟨rfl, b6⟩
        have Fin : Hid (b = true ↔ SameG N2 xss hss) := Lib.hid ⟨fun h => ⟨Hs.out, Ht.out, by rw [Int.toNat_natCast]; exact Hb.out.1 trivial, by rw [Int.toNat_natCast]; exact Hb2.out.1 h⟩, fun h => Hb2.out.2 (by have := h.2.2.2; rwa [Int.toNat_natCast] at this)⟩
        have B6 : Hid (Below w.heap.size w w6) := Lib.hid (btr B5.out b6)
        clear b6
        go_wp2_with fail
        go_ret
        exact ⟨_, rfl, Fin.out, B6.out⟩
end
end Go.Proofs.Ytooafmifbplbhaa
