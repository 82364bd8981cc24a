/- Part 5 of the texts: ChY, ChZ, ChV, Crd, Stb, StbS, Ct4, Sz2, Hel4, WalkH4, PcM, PcH, PcW, PcI. No condition of its own: each text tells its own. -/
import Derived.Test.YtcjcmhoalomjfabMg4
import Derived.Test.YtcjcmhoalomjfabMg3
import Derived.Test.YtcjcmhoalomjfabMg1
import Derived.Deep.Upon
import Derived.BigQuiet
import Derived.WalkSpells
import Derived.Deep.LoopGhost
import Derived.Maps.AppendAt
import Derived.Deep.RegionHeld3
set_option linter.unusedVariables false
set_option linter.unusedSimpArgs false

/- IsMember, LongestMemberPrefix and SameGroup of the model: what they answer. Conditions: at most 1048576 lists of at most 1048576 numbers. -/
namespace Go.Proofs.Ytcjcmhoalomjfab
open Go.RowKit

/-- p's first k entries are those of a member, and no more of them are. -/
def LmpOK (N : Nat) (gs : List (List Int)) (p : List Int) (k : Nat) : Prop := k ≤ N ∧ (∃ q, Mb gs N q ∧ ∀ t, t < k → nx q t = nx p t) ∧ (k < N → ¬ ∃ q, Mb gs N q ∧ ∀ t, t ≤ k → nx q t = nx p t)
theorem LmpOK.uniq {N k k' : Nat} {gs : List (List Int)} {p : List Int} (h : LmpOK N gs p k) (h' : LmpOK N gs p k') : k = k' := by
  obtain ⟨a, ⟨q, hq, hq2⟩, b⟩ := h
  obtain ⟨a', ⟨q', hq', hq2'⟩, b'⟩ := h'
  rcases Nat.lt_trichotomy k k' with hl | hl | hl
  · exact absurd ⟨q', hq', fun t ht => hq2' t (by omega)⟩ (b (by omega))
  · exact hl
  · exact absurd ⟨q, hq, fun t ht => hq2 t (by omega)⟩ (b' (by omega))
/-- What LongestMemberPrefix answers. -/
def IsLmp (a : Int) (gs : List (List Int)) (p : List Int) (v : Int) : Prop :=
  (gB a gs = true ∧ (p.length : Int) = a ∧ isP p = true ∧ ∃ k : Nat, v = k ∧ LmpOK a.toNat gs p k) ∨ (¬ (gB a gs = true ∧ (p.length : Int) = a ∧ isP p = true) ∧ v = -1)
theorem IsLmp.uniq {a v v' : Int} {gs : List (List Int)} {p : List Int} (h : IsLmp a gs p v) (h' : IsLmp a gs p v') : v = v' := by
  rcases h with ⟨e1, e2, e3, k, rfl, h⟩ | ⟨e, rfl⟩ <;> rcases h' with ⟨e1', e2', e3', k', rfl, h'⟩ | ⟨e', rfl⟩
  · rw [h.uniq h']
  · exact absurd ⟨e1, e2, e3⟩ e'
  · exact absurd ⟨e1', e2', e3'⟩ e
  · rfl
/-- The two lists generate the same group. -/
def SameG (a : Int) (xs ys : List (List Int)) : Prop := gB a xs = true ∧ gB a ys = true ∧ (∀ g ∈ ys, Mb xs a.toNat g) ∧ ∀ g ∈ xs, Mb ys a.toNat g

theorem bool_of (P : Prop) : ∃ b : Bool, b = true ↔ P := by
  rcases Classical.em P with h | h
  · exact ⟨true, fun _ => h, fun _ => rfl⟩
  · exact ⟨false, fun e => (by cases e), fun e => absurd e h⟩
section
variable (a : Int) (A : Option Addr) (n c : Nat) (vs : List SV) (xss : List (List Int)) (w : World)
theorem specIsPB (N : Nat) (xs : List Int) (ans : Bool) (hx : RI w w.heap.size A xs) (lx : Hid (xs.length = n)) (hn : n ≤ 2097152) (hnc : n ≤ c) (ha : Hid (isP xs = ans)) :
    Calls Try.prog 24 #[.slice A n c] w fun e w' => e = .returned (.bool ans) ∧ Below w.heap.size w w' :=
  (quiet_below (specIsP A c n xs w hx lx hn hnc)).mono fun e w' ⟨he, hb⟩ => ⟨he.trans (ret_bool ha.out), hb⟩

set_option maxHeartbeats 2000000 in
set_option maxRecDepth 100000 in
theorem specHasAll (base g N m cm : Nat) (M : Option Addr) (us : List SV) (gs hs : List (List Int)) (ch : Ch) (L : LY) (hc : Cn w base g N ch L) (hw : Whole N gs ch) (hm : RR w w.heap.size M m us hs) (ok : Hid (∀ g ∈ hs, IsP g ∧ g.length = N)) (hN1 : 1 ≤ N) (hm8 : m ≤ 8) (fin : Bool) (hf : Hid (fin = true ↔ ∀ x ∈ hs, Mb gs N x)) :
    Calls Try.prog 42 #[.pointer (some ⟨g, 0, none⟩), .slice M m cm] w fun e w' => e = .returned (.bool fin) ∧ Below w.heap.size w w' := by
  have HC := Lib.hid hc
  have HW := Lib.hid hw
  have HM := Lib.hid hm
  have hlx : Hid (hs.length = m) := Lib.hid hm.lx
  clear hc hw hm
  go_enter Try.func42, Try.ntmps42
  go_wp2_with fail
  go_loopw [5] (fun i wr => ∃ k : Nat, k ≤ m ∧ i = .int .i64 (k : Nat) ∧ (∀ x ∈ hs.take k, Mb gs N x) ∧ Below w.heap.size w wr) (fun i _ => m - (intOf i).toNat)
  case atStart => exact ⟨0, Nat.zero_le _, rfl, fun x hx => by simp at hx, Below.refl _ _⟩
  case round =>
    obtain ⟨k, hk, rfl, hall, bel⟩ := hrel
    have Al := Lib.hid hall
    have Be := Lib.hid bel
    have C1 := Lib.hid (HC.out.up bel)
    clear hall bel
    by_cases hlt : k < m
    · obtain ⟨b, off, A5, l, c5, y, rfl, hb, hv, ey, x1, ri, ly, hl5⟩ := (HM.out.up Be.out).at_ hlt
      have hym : y ∈ hs := by rw [← ey]; exact getD_memL (by rw [hlx.out]; exact hlt)
      have hyP := ok.out y hym
      obtain rfl : l = N := by omega
      have Ri := Lib.hid ri
      have YP : Hid (Pn l y) := Lib.hid hyP
      have Ym := Lib.hid hym
      have Ey := Lib.hid ey
      have q0 : (0 : Int) ≤ k := by omega
      have q1 : (k : Int) < m := by omega
      obtain ⟨ans, hans⟩ : ∃ ans : Bool, ans = true ↔ Mb gs l y := by
        rcases Classical.em (Mb gs l y) with h | h
        · exact ⟨true, fun _ => h, fun _ => rfl⟩
        · exact ⟨false, fun e => (by cases e), fun e => absurd e h⟩
      have Ha := Lib.hid hans
      clear hv ey hb ri hyP hym hans
      go_wp2_with fail
      refine (specHas base g l c5 A5 ch L gs y wr C1.out HW.out Ri.out YP ans Ha).mono ?_
      rintro e w2 ⟨rfl, b2⟩
      have Be2 : Hid (Below w.heap.size w w2) := Lib.hid (btr Be.out b2)
      clear b2
      rcases ans with _ | _
      · have Fin : Hid (fin = false) := Lib.hid (by
          rcases hq : fin with _ | _
          · rfl
          · exact absurd (Ha.out.2 (hf.out.1 hq y Ym.out)) (by decide))
        go_wp2_with fail
        go_ret
        exact ⟨ret_bool Fin.out.symm, Be2.out⟩
      · have Al2 : Hid (∀ x ∈ hs.take (k + 1), Mb gs l x) := Lib.hid fun x hx => by
          rw [List.take_succ_eq_append_getElem (by rw [hlx.out]; exact hlt)] at hx
          rcases List.mem_append.1 hx with hx | hx
          · exact Al.out x hx
          · have e1 : hs[k]'(by rw [hlx.out]; exact hlt) = y := by rw [← Ey.out, List.getD_eq_getElem?_getD, List.getElem?_eq_getElem (by rw [hlx.out]; exact hlt)]; rfl
            rw [List.mem_singleton.1 hx, e1]; exact Ha.out.1 rfl
        go_wp2_with fail
        go_roundw
        case rel => exact ⟨k + 1, by omega, by go_num, Al2.out, Be2.out⟩
        case measure => simp [intOf]; omega
    · obtain rfl : k = m := by omega
      have Fin : Hid (fin = true) := Lib.hid (hf.out.2 fun x hx => Al.out x (by rw [List.take_of_length_le (by rw [hlx.out]; exact Nat.le_refl _)]; exact hx))
      go_wp2_with fail
      go_ret
      exact ⟨ret_bool Fin.out.symm, Be.out⟩
set_option maxHeartbeats 2000000 in
set_option maxRecDepth 100000 in
theorem specSameGroup (M : Option Addr) (m cm : Nat) (us : List SV) (hss : List (List Int)) (hx : RR w w.heap.size A n vs xss) (hn : n ≤ 1048576) (hl : Hid (∀ i, i < n → (vs.getD i sd0).2.1 ≤ 1048576)) (hy : RR w w.heap.size M m us hss) (hm : m ≤ 1048576) (hlm : Hid (∀ i, i < m → (us.getD i sd0).2.1 ≤ 1048576)) (ha : -9223372036854775808 ≤ a ∧ a ≤ 9223372036854775807) :
    Calls Try.prog 14 #[.int .i64 a, .slice A n c, .slice M m cm] w fun e w' => ∃ b, e = .returned (.bool b) ∧ (b = true ↔ SameG a xss hss) ∧ Below w.heap.size w w' := by
  have HX := Lib.hid hx
  have HY := Lib.hid hy
  have hlx : Hid (xss.length = n) := Lib.hid hx.lx
  have hly : Hid (hss.length = m) := Lib.hid hy.lx
  clear hx hy
  go_enter Try.func14, Try.ntmps14
  go_wp2_with fail
  refine (specGS a A n c vs xss w HX.out hn hl ha).mono ?_
  rintro e w1 ⟨rfl, b1⟩
  have B1 := Lib.hid b1
  have X1 := Lib.hid (HX.out.up b1)
  have Y1 := Lib.hid (HY.out.up b1)
  clear b1
  rcases hs : gB a xss with _ | _
  · have Fin : Hid (false = true ↔ SameG a xss hss) := Lib.hid ⟨fun h => (by cases h), fun h => by have := h.1; rw [hs] at this; cases this⟩
    clear hs
    go_wp2_with fail
    go_ret
    exact ⟨_, rfl, Fin.out, B1.out⟩
  · have Hs := Lib.hid hs
    clear hs
    go_wp2_with fail
    refine (specGS a M m cm us hss w1 Y1.out hm hlm ha).mono ?_
    rintro e w2 ⟨rfl, b2⟩
    have B2 : Hid (Below w.heap.size w w2) := Lib.hid (btr B1.out b2)
    have X2 := Lib.hid (X1.out.up b2)
    have Y2 := Lib.hid (Y1.out.up b2)
    clear b2
    rcases ht : gB a hss with _ | _
    · have Fin : Hid (false = true ↔ SameG a xss hss) := Lib.hid ⟨fun h => (by cases h), fun h => by have := h.2.1; rw [ht] at this; cases this⟩
      clear ht
      go_wp2_with fail
      go_ret
      exact ⟨_, rfl, Fin.out, B2.out⟩
    · have Ht := Lib.hid ht
      obtain ⟨N, rfl, hN1, hN2, hg8, _, hok⟩ := gB_pm Hs.out
      obtain ⟨N2, hNN, _, _, hg8', _, hok'⟩ := gB_pm ht
      obtain rfl : N2 = N := by omega
      have Ok := Lib.hid hok
      have Ok' := Lib.hid hok'
      have hn8 : n ≤ 8 := by rw [← hlx.out]; exact hg8
      have hm8 : m ≤ 8 := by rw [← hly.out]; exact hg8'
      clear ht hok hok' hg8 hg8' hNN
      go_wp2_with fail
      refine (specBuild N2 n c A vs xss w2 X2.out hN1 hN2 hn8 Ok).mono ?_
      rintro e w3 ⟨g, L, ch, rfl, hc3, hw3, b3⟩
      have C3 := Lib.hid hc3
      have W3 := Lib.hid hw3
      have X3 := Lib.hid (X2.out.up b3)
      have Y3 := Lib.hid (Y2.out.up b3)
      have B3 : Hid (Below w.heap.size w w3) := Lib.hid (btr B2.out b3)
      clear hc3 hw3 b3
      obtain ⟨b, hb⟩ : ∃ b : Bool, b = true ↔ ∀ x ∈ hss, Mb xss N2 x := bool_of _
      have Hb := Lib.hid hb
      clear hb
      go_wp2_with fail
      refine (specHasAll w3 w2.heap.size g N2 m cm M us xss hss ch L C3.out W3.out Y3.out Ok' hN1 hm8 b Hb).mono ?_
      rintro e w4 ⟨rfl, b4⟩
      have X4 := Lib.hid (X3.out.up b4)
      have Y4 := Lib.hid (Y3.out.up b4)
      have B4 : Hid (Below w.heap.size w w4) := Lib.hid (btr B3.out b4)
      clear b4
      rcases b with _ | _
      · have Fin : Hid (false = true ↔ SameG N2 xss hss) := Lib.hid ⟨fun h => (by cases h), fun h => Hb.out.2 (by have := h.2.2.1; rwa [Int.toNat_natCast] at this)⟩
        go_wp2_with fail
        go_ret
        exact ⟨_, rfl, Fin.out, B4.out⟩
      · go_wp2_with fail
        refine (specBuild N2 m cm M us hss w4 Y4.out hN1 hN2 hm8 Ok').mono ?_
        rintro e w5 ⟨g5, L5, ch5, rfl, hc5, hw5, b5⟩
        have C5 := Lib.hid hc5
        have W5 := Lib.hid hw5
        have X5 := Lib.hid (X4.out.up b5)
        have B5 : Hid (Below w.heap.size w w5) := Lib.hid (btr B4.out b5)
        clear hc5 hw5 b5
        obtain ⟨b, hb⟩ : ∃ b : Bool, b = true ↔ ∀ x ∈ xss, Mb hss N2 x := bool_of _
        have Hb2 := Lib.hid hb
        clear hb
        go_wp2_with fail
        refine (specHasAll w5 w4.heap.size g5 N2 n c A vs hss xss ch5 L5 C5.out W5.out X5.out Ok hN1 hn8 b Hb2).mono ?_
        rintro e w6 ⟨rfl, b6⟩
        have Fin : Hid (b = true ↔ SameG N2 xss hss) := Lib.hid ⟨fun h => ⟨Hs.out, Ht.out, by rw [Int.toNat_natCast]; exact Hb.out.1 trivial, by rw [Int.toNat_natCast]; exact Hb2.out.1 h⟩, fun h => Hb2.out.2 (by have := h.2.2.2; rwa [Int.toNat_natCast] at this)⟩
        have B6 : Hid (Below w.heap.size w w6) := Lib.hid (btr B5.out b6)
        clear b6
        go_wp2_with fail
        go_ret
        exact ⟨_, rfl, Fin.out, B6.out⟩
end
end Go.Proofs.Ytcjcmhoalomjfab

/- LongestMemberPrefix and StrongGeneratingSet of the model: what they answer. Conditions: at most 1048576 lists of at most 1048576 numbers. -/
namespace Go.Proofs.Ytcjcmhoalomjfab
open Go.RowKit

section
variable (a : Int) (A : Option Addr) (n c : Nat) (vs : List SV) (xss : List (List Int)) (w : World)

/-! ### StrongGeneratingSet -/
end
/-- The prefix for level i and point y. -/
def preOf (pr : Nat × Nat) : List Int := idL pr.1 ++ [(pr.2 : Int)]
/-- The smallest members for a list of levels and points, where there are any. -/
def Sgs (N : Nat) (gs : List (List Int)) : List (Nat × Nat) → List (List Int) → Prop
  | [], l => l = []
  | pr :: ps, l => ∃ m ok rest, IsMwp N gs (preOf pr) m ok ∧ Sgs N gs ps rest ∧ l = (if ok = true then [m] else []) ++ rest
theorem Sgs.snoc {N : Nat} {gs : List (List Int)} {m : List Int} {ok : Bool} {pr : Nat × Nat} (hm : IsMwp N gs (preOf pr) m ok) : ∀ {ps : List (Nat × Nat)} {l : List (List Int)}, Sgs N gs ps l → Sgs N gs (ps ++ [pr]) (l ++ if ok = true then [m] else [])
  | [], l, h => by
    obtain rfl : l = [] := h
    exact ⟨m, ok, [], hm, rfl, by simp⟩
  | p :: ps, l, h => by
    obtain ⟨m', ok', rest, h1, h2, rfl⟩ := h
    exact ⟨m', ok', _, h1, h2.snoc hm, by rw [List.append_assoc]⟩
theorem Sgs.uniq {N : Nat} {gs : List (List Int)} (h1 : 1 ≤ N) (h2 : N ≤ 20) (hg : ∀ g ∈ gs, Pn N g) : ∀ {ps : List (Nat × Nat)} {l l' : List (List Int)}, (∀ pr ∈ ps, pr.1 < N) → Sgs N gs ps l → Sgs N gs ps l' → l = l'
  | [], l, l', _, h, h' => by rw [show l = [] from h, show l' = [] from h']
  | p :: ps, l, l', hp, h, h' => by
    obtain ⟨m, ok, rest, a1, a2, rfl⟩ := h
    obtain ⟨m', ok', rest', b1, b2, rfl⟩ := h'
    have hl : (preOf p).length ≤ N := by
      have := hp p (by simp)
      unfold preOf; rw [List.length_append, idL_length]; simp; omega
    obtain ⟨e1, e2⟩ := a1.uniq h1 h2 hg hl b1
    rw [e1, e2, Sgs.uniq h1 h2 hg (fun pr hpr => hp pr (by simp [hpr])) a2 b2]
theorem Sgs.ok {N : Nat} {gs : List (List Int)} (h1 : 1 ≤ N) (h2 : N ≤ 20) (hg : ∀ g ∈ gs, Pn N g) : ∀ {ps : List (Nat × Nat)} {l : List (List Int)}, Sgs N gs ps l → l.length ≤ ps.length ∧ ∀ y ∈ l, Mb gs N y ∧ y.length = N
  | [], l, h => by rw [show l = [] from h]; simp
  | p :: ps, l, h => by
    obtain ⟨m, ok, rest, a1, a2, rfl⟩ := h
    obtain ⟨b1, b2⟩ := a2.ok h1 h2 hg
    rcases a1 with ⟨rfl, a1⟩ | ⟨rfl, _, _⟩
    · refine ⟨by simp; omega, fun y hy => ?_⟩
      simp at hy
      rcases hy with rfl | hy
      · exact ⟨a1.1, (a1.1.pn hg h1 h2).2⟩
      · exact b2 y hy
    · refine ⟨by simp; omega, fun y hy => b2 y (by simpa using hy)⟩
/-- The levels below k, and the points behind each. -/
def prsI (N i m : Nat) : List (Nat × Nat) := (List.range m).map fun t => (i, i + 1 + t)
def prs (N : Nat) : Nat → List (Nat × Nat)
  | 0 => []
  | k + 1 => prs N k ++ prsI N k (N - (k + 1))
theorem prsI_succ (N i m : Nat) : prsI N i (m + 1) = prsI N i m ++ [(i, i + 1 + m)] := by simp [prsI, List.range_succ]
theorem prs_lt (N : Nat) : ∀ k, k ≤ N → ∀ pr ∈ prs N k, pr.1 < N
  | 0, _, pr, h => by simp [prs] at h
  | k + 1, hk, pr, h => by
    rcases List.mem_append.1 h with h | h
    · exact prs_lt N k (by omega) pr h
    · simp only [prsI, List.mem_map] at h
      obtain ⟨t, _, rfl⟩ := h
      exact hk
theorem prs_len (N : Nat) : ∀ k, (prs N k).length ≤ k * N
  | 0 => by simp [prs]
  | k + 1 => by
    have := prs_len N k
    simp only [prs, prsI, List.length_append, List.length_map, List.length_range, Nat.add_mul, Nat.one_mul]
    omega
/-- What StrongGeneratingSet answers. -/
def IsSgs (a : Int) (gs l : List (List Int)) : Prop := (gB a gs = true ∧ Sgs a.toNat gs (prs a.toNat a.toNat) l) ∨ (gB a gs = false ∧ l = [])
theorem IsSgs.uniq {a : Int} {gs l l' : List (List Int)} (h : IsSgs a gs l) (h' : IsSgs a gs l') : l = l' := by
  rcases h with ⟨e, h⟩ | ⟨e, rfl⟩ <;> rcases h' with ⟨e', h'⟩ | ⟨e', rfl⟩
  · obtain ⟨N, rfl, h1, hN, _, _, ok⟩ := gB_pm e
    rw [Int.toNat_natCast] at h h'
    exact h.uniq h1 hN ok (prs_lt N N (Nat.le_refl _)) h'
  · rw [e] at e'; cases e'
  · rw [e] at e'; cases e'
  · rfl
end Go.Proofs.Ytcjcmhoalomjfab

/- StrongGeneratingSet of the model. Conditions: at most 1048576 lists of at most 1048576 numbers. -/
namespace Go.Proofs.Ytcjcmhoalomjfab
open Go.RowKit

theorem ownsRow_mid {w w' : World} {base n size lo : Nat} {e : TypeId} {v : Value} {xs : List Value} (h : w.ownsRow base e size v n xs) (hm : ∀ k, lo ≤ k → k < w.heap.size → w'.heap[k]? = w.heap[k]?) (hl : lo ≤ base) : w'.ownsRow base e size v n xs := by
  refine ⟨h.1, ?_⟩
  rcases h.2 with h0 | ⟨g, cap, cur, e2, hb, hg, rest⟩
  · exact .inl h0
  · exact .inr ⟨g, cap, cur, e2, hb, by rw [hm g (by omega) (Array.getElem?_eq_some_iff.1 hg).1]; exact hg, rest⟩
/-- The chain lies where its blocks lie. -/
theorem Cn.mid {w w' : World} {base g N lo : Nat} {c : Ch} {L : LY} (h : Cn w base g N c L) (hm : ∀ k, lo ≤ k → k < w.heap.size → w'.heap[k]? = w.heap[k]?) (hl : lo ≤ base) : Cn w' base g N c L :=
  ⟨(hm g (Nat.le_trans hl h.hg) h.blk.lt).trans h.blk, h.hg, ownsRow_mid h.own1 hm hl, fun i hi => ownsRow_mid (h.row1 i hi) hm hl, h.len1, fun i hi y hy => (h.ent1 i hi y hy).mid hm hl,
    ownsRow_mid h.own2 hm hl, fun i hi => ownsRow_mid (h.row2 i hi) hm hl, h.len2, fun i hi y hy => (h.ent2 i hi y hy).mid hm hl, h.dRG, h.dro, h.drg, h.dgv⟩

set_option maxHeartbeats 4000000 in
set_option maxRecDepth 100000 in
theorem specSgs (a : Int) (A : Option Addr) (n c : Nat) (vs : List SV) (xss : List (List Int)) (w : World) (hx : RR w w.heap.size A n vs xss) (hn : n ≤ 1048576) (hl : Hid (∀ i, i < n → (vs.getD i sd0).2.1 ≤ 1048576)) (ha : -9223372036854775808 ≤ a ∧ a ≤ 9223372036854775807) :
    Calls Try.prog 30 #[.int .i64 a, .slice A n c] w fun e w' => ∃ A' m c' us l, e = .returned (.slice A' m c') ∧ SS w' w.heap.size w.heap.size A' m c' us l ∧ IsSgs a xss l ∧ Below w.heap.size w w' := by
  have HX := Lib.hid hx
  have hlx : Hid (xss.length = n) := Lib.hid hx.lx
  have S0 := Lib.hid (SS.lit0 w w.heap.size w.heap.size (Nat.le_refl _))
  have B0 : Hid (Below w.heap.size w (w.alloc (.cells #[] 22))) := Lib.hid ((Below.refl _ _).alloc (Nat.le_refl _) _)
  obtain ⟨w0, hw0⟩ : ∃ w0, w.alloc (.cells #[] 22) = w0 := ⟨_, rfl⟩
  have z0 : w0.heap.size = w.heap.size + 1 := by rw [← hw0]; simp
  clear hx
  go_enter Try.func30, Try.ntmps30
  go_wp2_with fail
  rw [hw0] at S0 B0
  have X0 := Lib.hid (HX.out.up B0.out)
  refine (specGS a A n c vs xss w0 X0.out hn hl ha).mono ?_
  rintro e w1 ⟨rfl, b1⟩
  have B1 : Hid (Below w.heap.size w w1) := Lib.hid (btr B0.out b1)
  have X1 := Lib.hid (X0.out.up b1)
  have S1 := Lib.hid (S0.out.up b1)
  have z1 := b1.size
  clear b1 hw0 S0 B0
  rcases hs : gB a xss with _ | _
  · have Fin : Hid (IsSgs a xss []) := Lib.hid (.inr ⟨hs, rfl⟩)
    clear hs
    go_wp2_with fail
    go_ret
    exact ⟨_, _, _, _, _, rfl, S1.out, Fin.out, B1.out⟩
  · obtain ⟨N, rfl, hN1, hN2, hg8, hpm, hok⟩ := gB_pm hs
    have Hs := Lib.hid hs
    have Ok := Lib.hid hok
    have hn8 : n ≤ 8 := by rw [← hlx.out]; exact hg8
    clear hs hpm hok hg8
    go_wp2_with fail
    refine (specBuild N n c A vs xss w1 X1.out hN1 hN2 hn8 Ok).mono ?_
    rintro e w3 ⟨g, L, ch, rfl, hc3, hw3, b3⟩
    have C3 := Lib.hid hc3
    have W3 := Lib.hid hw3
    have S3 := Lib.hid (S1.out.up b3)
    have B3 : Hid (Below w.heap.size w w3) := Lib.hid (btr B1.out b3)
    have z3 := b3.size
    clear hc3 hw3 b3 S1 B1
    go_wp2_with fail
    go_loopg [5, 7] N (fun gg o i wr => ∃ (k : Nat) (A1 : Option Addr) (m1 c1 : Nat) (us : List SV) (l : List (List Int)), k ≤ N ∧ N - k ≤ gg ∧ i = .int .i64 (k : Nat) ∧ o = .slice A1 m1 c1 ∧ SS wr w.heap.size w.heap.size A1 m1 c1 us l ∧ Sgs N xss (prs N k) l ∧
      (∀ b, (Value.slice A1 m1 c1).ownBlock = some b → b < w1.heap.size ∨ w3.heap.size ≤ b) ∧ (∀ b, w1.heap.size ≤ b → b < w3.heap.size → wr.heap[b]? = w3.heap[b]?) ∧ w3.heap.size ≤ wr.heap.size ∧ Below w.heap.size w wr)
    case atStart => exact ⟨0, _, _, _, [], [], Nat.zero_le _, by omega, rfl, rfl, S3.out, rfl, fun b hb => .inl (by have := Option.some.inj hb; simp at this; omega), fun b _ _ => rfl, Nat.le_refl _, B3.out⟩
    case round =>
      clear S3 B3
      obtain ⟨k, A1, m1, c1, us, l, hk, hgg, rfl, rfl, hs, hsg, hob, hmid, hsz, bel⟩ := hrel
      have Ss := Lib.hid hs
      have Sg := Lib.hid hsg
      have Ob := Lib.hid hob
      have Mi := Lib.hid hmid
      have Be := Lib.hid bel
      clear hs hsg hob hmid bel
      by_cases hlt : k < N
      · go_wp2_with fail
        obtain ⟨wl, rfl⟩ : ∃ wl, wl = wr := ⟨_, rfl⟩
        go_loopg [5, 8] N (fun gg o i wr2 => ∃ (j : Nat) (A1 : Option Addr) (m1 c1 : Nat) (us : List SV) (l : List (List Int)), k + 1 + j ≤ N ∧ N - (k + 1 + j) ≤ gg ∧ i = .int .i64 ((k + 1 + j : Nat) : Int) ∧ o = .slice A1 m1 c1 ∧ SS wr2 w.heap.size w.heap.size A1 m1 c1 us l ∧ Sgs N xss (prs N k ++ prsI N k j) l ∧
          (∀ b, (Value.slice A1 m1 c1).ownBlock = some b → b < w1.heap.size ∨ w3.heap.size ≤ b) ∧ (∀ b, w1.heap.size ≤ b → b < w3.heap.size → wr2.heap[b]? = w3.heap[b]?) ∧ w3.heap.size ≤ wr2.heap.size ∧ Below w.heap.size w wr2)
        case atStart => exact ⟨0, _, _, _, us, l, by omega, by omega, by go_num, rfl, Ss.out, by simpa [prsI] using Sg.out, Ob.out, Mi.out, hsz, Be.out⟩
        case round =>
          clear Ss Sg Ob Mi Be hsz
          obtain ⟨j, A1, m1, c1, us, l, hj, hg2, rfl, rfl, hs, hsg, hob, hmid, hsz, bel⟩ := hrel
          have Ss := Lib.hid hs
          have Sg := Lib.hid hsg
          have Ob := Lib.hid hob
          have Mi := Lib.hid hmid
          have Be := Lib.hid bel
          have Ok2 := Lib.hid (hsg.ok hN1 hN2 Ok.out)
          have hm1 : m1 ≤ 800 := by
            rw [← hs.lx]
            have h1 := Ok2.out.1
            have h2 := prs_len N k
            have h3 : (prsI N k j).length = j := by simp [prsI]
            have h4 := Nat.mul_le_mul (show k ≤ 20 by omega) hN2
            rw [List.length_append, h3] at h1
            omega
          have Cr := Lib.hid (C3.out.mid hmid (Nat.le_refl _))
          clear hs hsg hob hmid bel
          by_cases hjt : k + 1 + j < N
          · go_wp2_with fail
            refine (specIdent k wr (by omega)).mono ?_
            rintro e w5 ⟨A5, c5, rfl, s5, b5⟩
            have S5 := Lib.hid s5
            have B5 := Lib.hid b5
            have z5 := b5.size
            clear s5 b5
            go_wp2_with (at_builtin; refine wpList_app1 rfl _ _ rfl wr.heap.size A5 k c5 _ rfl (S5.out.alloc _) w5.heap.size ((k + 1 + j : Nat) : Int) rfl (by rw [World.cell?_alloc_at _ _ _ _ rfl]; rfl) (by omega) (by simp; omega) ?_; intro A6 c6 w6 s6 g6)
            have S6 := Lib.hid s6
            have B6 : Hid (Below wr.heap.size wr w6) := Lib.hid ((B5.out.alloc z5 _).grown g6 (by simp; omega) (fun q hq => (S5.out.lt_ q hq).1))
            have z6 := B6.out.size
            have C6 := Lib.hid (Cr.out.up B6.out)
            have lpre : Hid ((preOf (k, k + 1 + j)).length = k + 1) := Lib.hid (by unfold preOf; rw [List.length_append, idL_length]; rfl)
            clear s6 g6
            go_wp2_with fail
            refine (specMwp w1.heap.size g N (k + 1) c6 A6 ch L xss (preOf (k, k + 1 + j)) w6 C6.out W3.out S6.out.ri_ lpre (by omega) hN1 hN2 Ok).mono ?_
            rintro e w7 ⟨A7, n7, c7, m, ok, rfl, s7, hm7, b7⟩
            have S7 := Lib.hid s7
            have M7 := Lib.hid hm7
            have B7 : Hid (Below wr.heap.size wr w7) := Lib.hid (btr B6.out b7)
            have Ss7 := Lib.hid (Ss.out.up B7.out)
            have Mi7 : Hid (∀ b, w1.heap.size ≤ b → b < w3.heap.size → w7.heap[b]? = w3.heap[b]?) := Lib.hid fun b h1 h2 => (B7.out.block b (by omega)).trans (Mi.out b h1 h2)
            have Be7 : Hid (Below w.heap.size w w7) := Lib.hid (btr Be.out B7.out)
            have z7 := B7.out.size
            have Di := Lib.hid (lies_dis Ss.out S7.out.lies (by omega))
            have Sg7 := Lib.hid (Sg.out.snoc hm7)
            clear s7 hm7 b7
            rcases ok with _ | _
            · go_wp2_with fail
              go_roundg (N - (k + 1 + (j + 1)))
              case rel => exact ⟨j + 1, A1, m1, c1, us, l, by omega, by omega, by go_num, rfl, Ss7.out, by
                have := Sg7.out
                rw [prsI_succ, ← List.append_assoc]; simpa using this, Ob.out, Mi7.out, by omega, Be7.out⟩
              case measure => omega
            · have zb : w.heap.size ≤ w6.heap.size := by have := Be.out.size; omega
              go_wp2_with (at_builtin; refine wpList_app2_at rfl _ _ rfl rfl (Ss7.out.alloc _) w7.heap.size A7 n7 c7 m rfl (by rw [World.cell?_alloc_at _ _ _ _ rfl]; rfl) ((S7.out.mono zb).alloc _) Di.out (by omega) (by simp; omega) ?_; intro A8 c8 w8 s8 g8 h8)
              have S8 := Lib.hid s8
              have Ob8 : Hid (∀ b, (Value.slice A8 (m1 + 1) c8).ownBlock = some b → b < w1.heap.size ∨ w3.heap.size ≤ b) := Lib.hid fun b hb => by
                rcases h8 with e | e
                · rw [e] at hb; exact Ob.out b hb
                · rw [e] at hb
                  have := Option.some.inj hb
                  simp at this
                  exact .inr (by omega)
              have Mi8 : Hid (∀ b, w1.heap.size ≤ b → b < w3.heap.size → w8.heap[b]? = w3.heap[b]?) := Lib.hid fun b h1 h2 => by
                refine (g8.block b (by simp; omega) (fun e => ?_)).trans ((Below.heap_alloc w7 _ b (by omega)).trans (Mi7.out b h1 h2))
                have := Ob.out b e.symm
                omega
              have z8 := g8.size
              have Be8 : Hid (Below w.heap.size w w8) := Lib.hid ((Be7.out.alloc (by have := Be.out.size; omega) _).grown g8 (by simp; have := Be.out.size; omega) (fun q hq => (Ss7.out.lt_ q hq).1))
              simp only [World.size_alloc] at z8
              clear s8 g8 h8
              go_wp2_with fail
              go_roundg (N - (k + 1 + (j + 1)))
              case rel => exact ⟨j + 1, A8, m1 + 1, c8, _, _, by omega, by omega, by go_num, rfl, S8.out, by
                have := Sg7.out
                rw [prsI_succ, ← List.append_assoc]; simpa using this, Ob8.out, Mi8.out, by omega, Be8.out⟩
              case measure => omega
          · have hj2 : j = N - (k + 1) := by omega
            have Sg2 : Hid (Sgs N xss (prs N (k + 1)) l) := Lib.hid (by rw [hj2] at Sg; exact Sg.out)
            go_wp2_with fail
            go_roundg (N - (k + 1))
            case rel => exact ⟨k + 1, A1, m1, c1, us, l, by omega, by omega, by go_num, rfl, Ss.out, Sg2.out, Ob.out, Mi.out, by omega, Be.out⟩
            case measure => omega
      · obtain rfl : k = N := by omega
        have Fin : Hid (IsSgs k xss l) := Lib.hid (.inl ⟨Hs.out, by rw [Int.toNat_natCast]; exact Sg.out⟩)
        go_wp2_with fail
        go_ret
        exact ⟨_, _, _, us, l, rfl, Ss.out, Fin.out, Be.out⟩
end Go.Proofs.Ytcjcmhoalomjfab

/- How many members a group of permutations and its stabilizers have: the product of the orbit sizes; conjugate groups. No Go in it. No condition. -/
namespace Go.Proofs.Ytcjcmhoalomjfab
open Go.RowKit

/-! ### lists without repeats -/
theorem nd_subA {α : Type} [BEq α] [LawfulBEq α] {l' : List α} : ∀ {l : List α}, l'.Nodup → (∀ x ∈ l', x ∈ l) → l'.length ≤ l.length := by
  induction l' with
  | nil => intro l _ _; simp
  | cons a t ih =>
    intro l hd h
    rw [List.nodup_cons] at hd
    have ha : a ∈ l := h a (by simp)
    have := ih (l := l.erase a) hd.2 fun x hx => by
      have hne : x ≠ a := fun e => hd.1 (e ▸ hx)
      exact (List.mem_erase_of_ne hne).2 (h x (by simp [hx]))
    rw [List.length_erase_of_mem ha] at this
    have h0 : 0 < l.length := List.length_pos_of_mem ha
    simp; omega
theorem nd_mapA {α β : Type} {f : α → β} {l : List α} (hd : l.Nodup) (hf : ∀ x ∈ l, ∀ y ∈ l, f x = f y → x = y) : (l.map f).Nodup := by
  induction l with
  | nil => simp
  | cons a t ih =>
    rw [List.nodup_cons] at hd
    rw [List.map_cons, List.nodup_cons]
    refine ⟨fun hm => ?_, ih hd.2 fun x hx y hy => hf x (by simp [hx]) y (by simp [hy])⟩
    obtain ⟨b, hb, e⟩ := List.mem_map.1 hm
    have := hf b (by simp [hb]) a (by simp) e
    subst this
    exact hd.1 hb
theorem flat_nd {β : Type} {f : Nat → List β} {m : Nat} : ∀ {O : List Nat}, O.Nodup → (∀ y ∈ O, (f y).Nodup) → (∀ y ∈ O, ∀ z ∈ O, y ≠ z → ∀ p, p ∈ f y → p ∉ f z) → (∀ y ∈ O, (f y).length = m) →
    (O.flatMap f).Nodup ∧ (O.flatMap f).length = O.length * m
  | [], _, _, _, _ => by simp
  | a :: t, hd, h1, h2, h3 => by
    rw [List.nodup_cons] at hd
    obtain ⟨i1, i2⟩ := flat_nd (O := t) hd.2 (fun y hy => h1 y (by simp [hy])) (fun y hy z hz => h2 y (by simp [hy]) z (by simp [hz])) (fun y hy => h3 y (by simp [hy]))
    rw [List.flatMap_cons]
    refine ⟨List.nodup_append.2 ⟨h1 a (by simp), i1, fun p hp q hq e => ?_⟩, ?_⟩
    · subst e
      obtain ⟨z, hz, hq⟩ := List.mem_flatMap.1 hq
      exact h2 a (by simp) z (by simp [hz]) (fun e => hd.1 (e ▸ hz)) p hp hq
    · rw [List.length_append, i2, h3 a (by simp), List.length_cons, Nat.succ_mul]; omega

/-! ### how many -/
def Crd (P : List Int → Prop) (v : Nat) : Prop := ∃ l : List (List Int), l.Nodup ∧ (∀ p, p ∈ l ↔ P p) ∧ v = l.length
section
variable {P Q : List Int → Prop} {v u : Nat}
theorem Crd.uniq (h : Crd P v) (h' : Crd P u) : v = u := by
  obtain ⟨l, d, m, rfl⟩ := h
  obtain ⟨l', d', m', rfl⟩ := h'
  have a := nd_subA d fun x hx => (m' x).2 ((m x).1 hx)
  have b := nd_subA d' fun x hx => (m x).2 ((m' x).1 hx)
  omega
theorem Crd.congr (h : Crd P v) (e : ∀ p, P p ↔ Q p) : Crd Q v := by
  obtain ⟨l, d, m, rfl⟩ := h
  exact ⟨l, d, fun p => (m p).trans (e p), rfl⟩
theorem Crd.map (h : Crd P v) (f : List Int → List Int) (hf : ∀ p, P p → ∀ q, P q → f p = f q → p = q) (e : ∀ q, Q q ↔ ∃ p, P p ∧ q = f p) : Crd Q v := by
  obtain ⟨l, d, m, rfl⟩ := h
  refine ⟨l.map f, nd_mapA d fun x hx y hy => hf x ((m x).1 hx) y ((m y).1 hy), fun q => ?_, by simp⟩
  rw [e, List.mem_map]
  exact ⟨fun ⟨p, hp, e⟩ => ⟨p, (m p).1 hp, e.symm⟩, fun ⟨p, hp, e⟩ => ⟨p, (m p).2 hp, e.symm⟩⟩
end

/-! ### the product of the orbit sizes from one level on -/
def pr (xs : List Int) (k : Nat) : Nat → Int
  | 0 => 1
  | m + 1 => pr xs k m * xs.getD (k + m) 0
theorem pr_front (xs : List Int) (k : Nat) : ∀ m, pr xs k (m + 1) = xs.getD k 0 * pr xs (k + 1) m
  | 0 => by show (1 : Int) * xs.getD (k + 0) 0 = xs.getD k 0 * 1; rw [Int.one_mul, Int.mul_one]; rfl
  | m + 1 => by
    show pr xs k (m + 1) * xs.getD (k + (m + 1)) 0 = xs.getD k 0 * (pr xs (k + 1) m * xs.getD (k + 1 + m) 0)
    rw [pr_front xs k m, Int.mul_assoc, show k + (m + 1) = k + 1 + m by omega]
theorem prodL_take (xs : List Int) : ∀ m, m ≤ xs.length → prodL (xs.take m) = pr xs 0 m
  | 0, _ => rfl
  | m + 1, h => by
    rw [List.take_succ_eq_append_getElem (by omega), prodL_snoc, prodL_take xs m (by omega)]
    show _ = pr xs 0 m * xs.getD (0 + m) 0
    rw [Nat.zero_add, List.getD_eq_getElem?_getD, List.getElem?_eq_getElem (by omega)]; rfl
theorem prodL_pr (xs : List Int) : prodL xs = pr xs 0 xs.length := by rw [← prodL_take xs _ (Nat.le_refl _), List.take_length]
section
variable {N : Nat} {gs : List (List Int)} {xs : List Int}
theorem IsOS.card (h : IsOS N gs xs) (hg : ∀ g ∈ gs, Pn N g) (h1 : 1 ≤ N) (h2 : N ≤ 20) : ∀ m k, k + m = N → ∃ v, Crd (fun p => Mb gs N p ∧ Fx k p) v ∧ pr xs k m = (v : Int)
  | 0, k, e => by
    obtain rfl : k = N := by omega
    refine ⟨1, ⟨[idL k], by simp, fun p => ?_, rfl⟩, rfl⟩
    rw [List.mem_singleton]
    exact ⟨fun e => e ▸ ⟨.one, fx_id (Nat.le_refl _)⟩, fun ⟨a, b⟩ => b.all (a.pn hg h1 h2)⟩
  | m + 1, k, e => by
    obtain ⟨v, ⟨l, d, hm, rfl⟩, hv⟩ := h.card hg h1 h2 m (k + 1) (by omega)
    obtain ⟨O, dO, hO, ex⟩ := h.2 k (by omega)
    have hk : k < N := by omega
    have hr : ∃ r : Nat → List Int, ∀ y ∈ O, Mb gs N (r y) ∧ Fx k (r y) ∧ nx (r y) k = y := by
      refine ⟨fun y => if hy : y ∈ O then Classical.choose ((hO y).1 hy).2 else [], fun y hy => ?_⟩
      simp only [hy, dif_pos]
      exact Classical.choose_spec ((hO y).1 hy).2
    obtain ⟨r, hr⟩ := hr
    have hpn : ∀ p, Mb gs N p → Pn N p := fun p hp => hp.pn hg h1 h2
    have hat : ∀ y ∈ O, ∀ p, p ∈ l → nx (compL p (r y)) k = y := fun y hy p hp => by
      have h3 := (hm p).1 hp
      rw [(hpn p h3.1).nxc hk, h3.2 k (by omega), (hr y hy).2.2]
    obtain ⟨i1, i2⟩ := flat_nd (O := O) (f := fun y => l.map fun p => compL p (r y)) (m := l.length) dO
      (fun y hy => nd_mapA d fun p hp q hq e => by
        have hp' := hpn p ((hm p).1 hp).1
        have hq' := hpn q ((hm q).1 hq).1
        have hry := hpn _ (hr y hy).1
        have : compL (compL p (r y)) (iv (r y)) = compL (compL q (r y)) (iv (r y)) := congrArg (fun t => compL t (iv (r y))) e
        rw [hp'.assoc hry, hq'.assoc hry, hry.ci, hp'.idr, hq'.idr] at this
        exact this)
      (fun y hy z hz hne p hp hp2 => by
        obtain ⟨q, hq, rfl⟩ := List.mem_map.1 hp
        obtain ⟨q', hq', e'⟩ := List.mem_map.1 hp2
        exact hne (by rw [← hat y hy q hq, ← hat z hz q' hq', e']))
      (fun y hy => by simp)
    refine ⟨O.length * l.length, ⟨_, i1, fun p => ?_, i2.symm⟩, ?_⟩
    · rw [List.mem_flatMap]
      constructor
      · rintro ⟨y, hy, hp⟩
        obtain ⟨q, hq, rfl⟩ := List.mem_map.1 hp
        obtain ⟨a, b⟩ := (hm q).1 hq
        obtain ⟨a', b', _⟩ := hr y hy
        exact ⟨a.comp hg h1 h2 a', (b.mono (by omega)).comp (hpn q a) b' (by omega)⟩
      · rintro ⟨a, b⟩
        have hp := hpn p a
        have hy : nx p k ∈ O := (hO _).2 ⟨hp.lt hk, p, a, b, rfl⟩
        obtain ⟨a', b', e'⟩ := hr _ hy
        have hrp := hpn _ a'
        refine ⟨_, hy, List.mem_map.2 ⟨compL p (iv (r (nx p k))), (hm _).2 ⟨a.comp hg h1 h2 (a'.inv hg h1 h2), ?_⟩, ?_⟩⟩
        · refine Fx.succ (b.comp hp (b'.iv hrp (by omega)) (by omega)) ?_
          rw [hp.nxc hk]
          have := hrp.nxi (x := k) hk
          rw [e'] at this; exact this
        · rw [hp.assoc hrp.iv, hrp.ic, hp.idr]
    · rw [pr_front, ex, hv, Int.natCast_mul]
/-- The order is the number of members. -/
theorem IsOS.order (h : IsOS N gs xs) (hg : ∀ g ∈ gs, Pn N g) (h1 : 1 ≤ N) (h2 : N ≤ 20) : ∃ v, Crd (Mb gs N) v ∧ prodL xs = (v : Int) := by
  obtain ⟨v, hc, e⟩ := h.card hg h1 h2 N 0 (by omega)
  exact ⟨v, hc.congr fun p => ⟨fun h => h.1, fun h => ⟨h, Fx.zero⟩⟩, by rw [prodL_pr, h.1]; exact e⟩
end

section
variable {N : Nat} {gs : List (List Int)} {xs : List Int}
theorem IsOS.bnd (h : IsOS N gs xs) (hg : ∀ g ∈ gs, Pn N g) (h1 : 1 ≤ N) (h2 : N ≤ 20) {i : Nat} (hi : i < N) : 1 ≤ xs.getD i 0 ∧ xs.getD i 0 ≤ ((N - i : Nat) : Int) := by
  obtain ⟨l, d, m, e⟩ := h.2 i hi
  rw [e]
  constructor
  · have : i ∈ l := (m i).2 ⟨hi, idL N, .one, fx_id (by omega), nx_id hi⟩
    have := List.length_pos_of_mem this
    omega
  · have : l.length ≤ (List.range' i (N - i)).length := by
      refine nd_sub d fun y hy => ?_
      obtain ⟨hy, p, hp, hf, rfl⟩ := (m y).1 hy
      have := hf.ge (hp.pn hg h1 h2) hi
      rw [List.mem_range'_1]; omega
    rw [List.length_range'] at this
    omega
theorem IsOS.pr_le (h : IsOS N gs xs) (hg : ∀ g ∈ gs, Pn N g) (h1 : 1 ≤ N) (h2 : N ≤ 20) (k : Nat) : ∀ m, k + m ≤ N → 1 ≤ pr xs k m ∧ pr xs k m ≤ (facts N (k + m) : Int)
  | 0, hm => by
    have := facts_pos (N := N) (m := k) (by omega)
    exact ⟨Int.le_refl _, by show (1 : Int) ≤ (facts N (k + 0) : Int); rw [Nat.add_zero]; omega⟩
  | m + 1, hm => by
    obtain ⟨a, b⟩ := h.pr_le hg h1 h2 k m (by omega)
    obtain ⟨d, e⟩ := h.bnd hg h1 h2 (i := k + m) (by omega)
    show 1 ≤ pr xs k m * xs.getD (k + m) 0 ∧ pr xs k m * xs.getD (k + m) 0 ≤ ((facts N (k + m) * (N - (k + m)) : Nat) : Int)
    refine ⟨?_, ?_⟩
    · have := Int.mul_le_mul a d (by omega) (by omega)
      simpa using this
    · rw [Int.natCast_mul]
      exact Int.mul_le_mul b e (by omega) (by omega)
end

/-! ### conjugate groups -/
def cj (o p : List Int) : List Int := compL (compL (iv o) p) o
section
variable {N : Nat} {o p q m : List Int} {gs : List (List Int)}
theorem Pn.iviv (ho : Pn N o) : Proofs.Ytcjcmhoalomjfab.iv (Proofs.Ytcjcmhoalomjfab.iv o) = o := ho.iv.iv.ext ho fun x hx => by
  refine ho.iv.inj (ho.iv.iv.lt hx) (ho.lt hx) ?_
  rw [ho.iv.nxi' hx, ho.nxi hx]
theorem cj_pn (ho : Pn N o) (hp : Pn N p) : Pn N (cj o p) := (ho.iv.comp hp).comp ho
theorem cj_nx (ho : Pn N o) (hp : Pn N p) {x : Nat} (hx : x < N) : nx (cj o p) x = nx o (nx p (nx (iv o) x)) := by
  unfold cj; rw [(ho.iv.comp hp).nxc hx, ho.iv.nxc hx]
theorem cj_id (ho : Pn N o) : cj o (idL N) = idL N := by unfold cj; rw [ho.iv.idr, ho.ic]
theorem cj_mul (ho : Pn N o) (hp : Pn N p) (hq : Pn N q) : cj o (compL p q) = compL (cj o p) (cj o q) :=
  (cj_pn ho (hp.comp hq)).ext ((cj_pn ho hp).comp (cj_pn ho hq)) fun x hx => by
    rw [cj_nx ho (hp.comp hq) hx, (cj_pn ho hp).nxc hx, cj_nx ho hp hx, cj_nx ho hq (ho.lt (hp.lt (ho.iv.lt hx))), ho.nxi (hp.lt (ho.iv.lt hx)), hp.nxc (ho.iv.lt hx)]
theorem cj_back (ho : Pn N o) (hp : Pn N p) : cj (iv o) (cj o p) = p :=
  (cj_pn ho.iv (cj_pn ho hp)).ext hp fun x hx => by
    rw [cj_nx ho.iv (cj_pn ho hp) hx, ho.iviv, cj_nx ho hp (ho.lt hx), ho.nxi hx, ho.nxi (hp.lt hx)]
theorem cj_mb (ho : Pn N o) (hg : ∀ g ∈ gs, Pn N g) (q : List Int) : Mb (gs.map (cj o)) N q ↔ ∃ p, Mb gs N p ∧ q = cj o p := by
  have h1 := ho.pos.1
  have h2 := ho.pos.2
  constructor
  · intro h
    induction h with
    | one => exact ⟨_, .one, (cj_id ho).symm⟩
    | mul _ hm ih =>
      obtain ⟨p, hp, rfl⟩ := ih
      obtain ⟨g, hg', rfl⟩ := List.mem_map.1 hm
      exact ⟨_, .mul hp hg', (cj_mul ho (hp.pn hg h1 h2) (hg _ hg')).symm⟩
  · rintro ⟨p, hp, rfl⟩
    induction hp with
    | one => rw [cj_id ho]; exact .one
    | mul hp hm ih =>
      rw [cj_mul ho (hp.pn hg h1 h2) (hg _ hm)]
      exact .mul ih (List.mem_map.2 ⟨_, hm, rfl⟩)
/-- The points of the list are fixed. -/
def Fxs (pts p : List Int) : Prop := ∀ j, j < pts.length → nx p (nx pts j) = nx pts j
theorem cj_fx (hm : Pn N m) (hp : Pn N p) {pts : List Int} (hk : pts.length ≤ N) (hpre : ∀ j, j < pts.length → m.getD j 0 = pts.getD j 0) : Fx pts.length (cj (iv m) p) ↔ Fxs pts p := by
  have e : ∀ j, j < pts.length → nx m j = nx pts j := fun j hj => by unfold nx; rw [hpre j hj]
  constructor
  · intro h j hj
    have h3 := h j hj
    rw [cj_nx hm.iv hp (by omega), hm.iviv] at h3
    rw [← e j hj]
    exact hm.iv.inj (hp.lt (hm.lt (by omega))) (hm.lt (by omega)) (by rw [h3, hm.nxi (by omega)])
  · intro h j hj
    rw [cj_nx hm.iv hp (by omega), hm.iviv, e j hj, h j hj, ← e j hj, hm.nxi (by omega)]
/-- The stabilizer of the first points of m, counted in the conjugate group. -/
theorem cj_card {xs pts : List Int} (hm : Pn N m) (hg : ∀ g ∈ gs, Pn N g) (h : IsOS N (gs.map (cj (iv m))) xs) (hk : pts.length ≤ N) (hpre : ∀ j, j < pts.length → m.getD j 0 = pts.getD j 0) :
    ∃ v, Crd (fun p => Mb gs N p ∧ Fxs pts p) v ∧ pr xs pts.length (N - pts.length) = (v : Int) := by
  have h1 := hm.pos.1
  have h2 := hm.pos.2
  have hpn : ∀ p, Mb gs N p → Pn N p := fun p hp => hp.pn hg h1 h2
  have hg' : ∀ g ∈ gs.map (cj (iv m)), Pn N g := fun g hg1 => by
    obtain ⟨p, hp, rfl⟩ := List.mem_map.1 hg1
    exact cj_pn hm.iv (hg p hp)
  obtain ⟨v, hc, e⟩ := h.card hg' h1 h2 (N - pts.length) pts.length (by omega)
  refine ⟨v, hc.map (cj m) (fun p hp q hq e2 => ?_) (fun q => ?_), e⟩
  · rw [← cj_back hm (hp.1.pn hg' h1 h2), e2, cj_back hm (hq.1.pn hg' h1 h2)]
  · constructor
    · rintro ⟨a, b⟩
      refine ⟨cj (iv m) q, ⟨(cj_mb hm.iv hg _).2 ⟨q, a, rfl⟩, (cj_fx hm (hpn q a) hk hpre).2 b⟩, ?_⟩
      have := cj_back hm.iv (hpn q a)
      rw [hm.iviv] at this; exact this.symm
    · rintro ⟨p, ⟨a, b⟩, rfl⟩
      obtain ⟨q, hq, rfl⟩ := (cj_mb hm.iv hg _).1 a
      have := cj_back hm.iv (hpn q hq)
      rw [hm.iviv] at this
      rw [this]
      exact ⟨hq, (cj_fx hm (hpn q hq) hk hpre).1 b⟩
end
end Go.Proofs.Ytcjcmhoalomjfab

/- What StabilizerOrder answers; isPointSet and moveToFront of the model. Conditions: at most 20 points; lists of at most 1048576 numbers. -/
namespace Go.Proofs.Ytcjcmhoalomjfab
open Go.RowKit

/-- A strictly increasing list of points. -/
def PtS (N : Nat) (pts : List Int) : Prop := pts.length ≤ N ∧ ∀ i, i < pts.length → 0 ≤ pts.getD i 0 ∧ pts.getD i 0 < N ∧ (0 < i → pts.getD (i - 1) 0 < pts.getD i 0)
/-- What StabilizerOrder answers: how many members fix the points. -/
def IsStb (a : Int) (gs : List (List Int)) (pts : List Int) (v : Int) : Prop :=
  (gB a gs = true ∧ PtS a.toNat pts ∧ ∃ c : Nat, Crd (fun p => Mb gs a.toNat p ∧ Fxs pts p) c ∧ v = (c : Int)) ∨ (¬ (gB a gs = true ∧ PtS a.toNat pts) ∧ v = 0)
theorem IsStb.uniq {a v v' : Int} {gs : List (List Int)} {pts : List Int} (h : IsStb a gs pts v) (h' : IsStb a gs pts v') : v = v' := by
  rcases h with ⟨e, f, c, hc, rfl⟩ | ⟨e, rfl⟩ <;> rcases h' with ⟨e', f', c', hc', rfl⟩ | ⟨e', rfl⟩
  · rw [hc.uniq hc']
  · exact absurd ⟨e, f⟩ e'
  · exact absurd ⟨e', f'⟩ e
  · rfl
section
variable {N : Nat} {pts : List Int}
theorem PtS.lt (h : PtS N pts) {i : Nat} : ∀ j, i < j → j < pts.length → pts.getD i 0 < pts.getD j 0
  | 0, hij, _ => absurd hij (Nat.not_lt_zero _)
  | j + 1, hij, hj => by
    have h1 := (h.2 (j + 1) hj).2.2 (Nat.succ_pos j)
    rw [Nat.add_sub_cancel] at h1
    by_cases e : i = j
    · rw [e]; exact h1
    · have := h.lt (i := i) j (by omega) (by omega)
      omega
theorem gdx {l : List Int} {i : Nat} (h : i < l.length) : l.getD i 0 = l[i] := by
  rw [List.getD_eq_getElem?_getD, List.getElem?_eq_getElem h]; rfl
theorem PtS.nodup (h : PtS N pts) : pts.Nodup := List.pairwise_iff_getElem.2 fun i j hi hj hij => by
  have := h.lt j hij hj
  rw [gdx hi, gdx hj] at this
  exact fun e => by rw [e] at this; omega
theorem PtS.mem (h : PtS N pts) {x : Int} (hx : x ∈ pts) : 0 ≤ x ∧ x < N := by
  obtain ⟨i, hi, rfl⟩ := List.mem_iff_getElem.1 hx
  have := h.2 i hi
  rw [gdx hi] at this
  exact ⟨this.1, this.2.1⟩
theorem hasB_mem {l : List Int} {x : Int} : hasB l x = true ↔ x ∈ l := by
  unfold hasB
  rw [decide_eq_true_eq, List.mem_iff_getElem]
  exact ⟨fun ⟨j, hj, e⟩ => ⟨j, hj, by rw [← gdx hj, e]⟩, fun ⟨j, hj, e⟩ => ⟨j, hj, by rw [gdx hj, e]⟩⟩
/-- The points in a new order: those of the list, then the others. -/
def mtf (pts : List Int) (k : Nat) : List Int := pts ++ ((List.range k).map Int.ofNat).filter fun x => !hasB pts x
theorem mtf_zero : mtf pts 0 = pts := by simp [mtf]
theorem mtf_yes {k : Nat} (h : hasB pts (k : Int) = true) : mtf pts (k + 1) = mtf pts k := by
  unfold mtf
  rw [List.range_succ, List.map_append, List.filter_append]
  simp [h]
theorem mtf_no {k : Nat} (h : hasB pts (k : Int) = false) : mtf pts (k + 1) = mtf pts k ++ [(k : Int)] := by
  unfold mtf
  rw [List.range_succ, List.map_append, List.filter_append]
  simp [h]
theorem mtf_le (k : Nat) : (mtf pts k).length ≤ pts.length + k := by
  unfold mtf
  rw [List.length_append]
  have := List.length_filter_le (fun x => !hasB pts x) ((List.range k).map Int.ofNat)
  simp at this ⊢; omega
theorem mtf_pre (k : Nat) {j : Nat} (hj : j < pts.length) : (mtf pts k).getD j 0 = pts.getD j 0 := getD_app _ _ _ _ hj
theorem PtS.mtf_mem (h : PtS N pts) (x : Int) : x ∈ mtf pts N ↔ 0 ≤ x ∧ x < N := by
  unfold mtf
  rw [List.mem_append, List.mem_filter, List.mem_map]
  constructor
  · rintro (hx | ⟨⟨i, hi, rfl⟩, _⟩)
    · exact h.mem hx
    · have := List.mem_range.1 hi
      exact ⟨Int.natCast_nonneg _, by show (i : Int) < N; omega⟩
  · rintro ⟨h0, h1⟩
    by_cases hx : x ∈ pts
    · exact .inl hx
    · refine .inr ⟨⟨x.toNat, List.mem_range.2 (by omega), by show ((x.toNat : Nat) : Int) = x; omega⟩, ?_⟩
      rw [Bool.not_eq_true', ← Bool.not_eq_true, hasB_mem]; exact hx
theorem PtS.mtf_nd (h : PtS N pts) : (mtf pts N).Nodup := by
  unfold mtf
  refine List.nodup_append.2 ⟨h.nodup, (nd_mapA List.nodup_range fun x _ y _ e => Int.ofNat.inj e).filter _, fun a ha b hb e => ?_⟩
  subst e
  have h2 := (List.mem_filter.1 hb).2
  rw [Bool.not_eq_true', ← Bool.not_eq_true, hasB_mem] at h2
  exact h2 ha
theorem PtS.mtf_pn (h : PtS N pts) (h1 : 1 ≤ N) (h2 : N ≤ 20) : Pn N (mtf pts N) := by
  have hr : ((List.range N).map Int.ofNat).Nodup := nd_mapA List.nodup_range fun x _ y _ e => Int.ofNat.inj e
  have hl : (mtf pts N).length = N := by
    have a := nd_subA (l := (List.range N).map Int.ofNat) h.mtf_nd fun x hx => by
      have := (h.mtf_mem x).1 hx
      exact List.mem_map.2 ⟨x.toNat, List.mem_range.2 (by omega), by show ((x.toNat : Nat) : Int) = x; omega⟩
    have b := nd_subA (l := mtf pts N) hr fun x hx => by
      obtain ⟨i, hi, rfl⟩ := List.mem_map.1 hx
      have := List.mem_range.1 hi
      exact (h.mtf_mem _).2 ⟨Int.natCast_nonneg _, by show (i : Int) < N; omega⟩
    simp at a b; omega
  have hm : ∀ i, i < (mtf pts N).length → 0 ≤ (mtf pts N).getD i 0 ∧ (mtf pts N).getD i 0 < N := fun i hi => by
    rw [gdx hi]; exact (h.mtf_mem _).1 (List.getElem_mem hi)
  refine ⟨⟨by omega, by omega, fun i hi => (hm i hi).1, fun i hi => by have := (hm i hi).2; omega, fun i j hi hj e => ?_⟩, hl⟩
  rw [gdx hi, gdx hj] at e
  have hp := List.pairwise_iff_getElem.1 h.mtf_nd
  rcases Nat.lt_trichotomy i j with hl | hl | hl
  · exact absurd e (hp i j hi hj hl)
  · exact hl
  · exact absurd e.symm (hp j i hj hi hl)
end

/-- append of nothing. -/
theorem wpList_app0 {w : World} {ops : Array Oper} {rest : List Oper} {o : Oper} {a : Act} {Q : Exit → Act → World → Prop} (hgd : o.guard = none) (s x : Operand)
    (ho : o.op = .call { callee := .builtin .append, args := #[s, x], argTypes := #[22, 22] })
    (b : Option Addr) (sl sc : Nat) (hle : sl ≤ sc) (hs : a.eval s = .slice b sl sc) (A : Option Addr) (c : Nat) (hx : a.eval x = .slice A 0 c)
    (h : wpList Try.prog ops Q rest (a.put o.dst (.slice b sl sc)) w) : wpList Try.prog ops Q (o :: rest) a w := by
  obtain ⟨i0, hi, hz0, hz1, hz2⟩ := info_parts infoI
  refine wpList_plain hgd fun _ hK => ?_
  have hr := run_append_nothing (P := Try.prog) w 22 22 o.type 2 i0 Try.underlying22 hi b sl sc hle (.slice A 0 c)
    ⟨.inl ⟨_, Try.underlying22⟩, fun w' => by cases A <;> rfl, by cases A <;> simp [Builtin.firstCells, loadCells, loadCellsFrom], by cases A <;> simp [Builtin.firstCells, loadCells, loadCellsFrom], by simp, fun u hu => by cases hu⟩
  unfold Oper.wp execOp
  simp only [ho, resolve, invoke, builtin, Sem.run_bind, Sem.run_pure, Result.andThen_ok, List.map_toArray, List.map_cons, List.map_nil, hs, hx, hr]
  exact hK _ _ h

/-- copyInts of whatever can be read. -/
theorem copyAny (A : Option Addr) (n c : Nat) (xs : List Int) (w : World) (h : RI w w.heap.size A xs) (lx : Hid (xs.length = n)) (hn : n ≤ 1000000) :
    Calls Try.prog 78 #[.slice A n c] w fun e w' => ∃ A' c', e = .returned (.slice A' n c') ∧ Slc w' w.heap.size A' n c' xs ∧ Below w.heap.size w w' := by
  by_cases h0 : 0 < n
  · obtain ⟨b, off, rfl, hb, hc⟩ := h (by rw [lx.out]; exact h0)
    exact copyRI b off n c xs w h lx.out hn
  · obtain rfl : n = 0 := by omega
    obtain rfl : xs = [] := List.length_eq_zero_iff.1 lx.out
    have H0 := Lib.hid (Slc.lit0 w w.heap.size (Nat.le_refl _))
    have B0 : Hid (Below w.heap.size w (w.alloc (.cells #[] 2))) := Lib.hid ((Below.refl _ w).alloc (Nat.le_refl _) _)
    clear h lx
    go_enter Try.func78, Try.ntmps78
    go_wp2_with (first | (at_builtin; refine wpList_app0 rfl _ _ rfl _ 0 0 (Nat.le_refl _) rfl A c rfl ?_))
    go_ret
    exact ⟨_, _, rfl, H0.out, B0.out⟩



end Go.Proofs.Ytcjcmhoalomjfab

/- StabilizerOrder of the model. Conditions: at most 1048576 lists of at most 1048576 numbers. -/
namespace Go.Proofs.Ytcjcmhoalomjfab
open Go.RowKit

theorem Whole.pr_le {N : Nat} {gs : List (List Int)} {c : Ch} (h : Whole N gs c) (h1 : 1 ≤ N) (k : Nat) : ∀ m, k + m ≤ N → 1 ≤ pr (osL N c N) k m ∧ pr (osL N c N) k m ≤ (facts N (k + m) : Int)
  | 0, hm => by
    have := facts_pos (N := N) (m := k) (by omega)
    exact ⟨Int.le_refl _, by show (1 : Int) ≤ (facts N (k + 0) : Int); rw [Nat.add_zero]; omega⟩
  | m + 1, hm => by
    obtain ⟨a, b⟩ := h.pr_le h1 k m (by omega)
    obtain ⟨d, e⟩ := h.nr_pos h1 (i := k + m) (by omega)
    have ex : pr (osL N c N) k (m + 1) = pr (osL N c N) k m * (nr N c (k + m) N : Int) := by
      show _ * (osL N c N).getD (k + m) 0 = _
      rw [osL_at (by omega)]
    rw [ex]
    refine ⟨?_, ?_⟩
    · have := Int.mul_le_mul a (show (1 : Int) ≤ (nr N c (k + m) N : Int) by omega) (by omega) (by omega)
      simpa using this
    · have := Int.mul_le_mul b (show (nr N c (k + m) N : Int) ≤ ((N - (k + m) : Nat) : Int) by omega) (by omega) (by omega)
      show _ ≤ ((facts N (k + m) * (N - (k + m)) : Nat) : Int)
      rw [Int.natCast_mul]; exact this
theorem take_cj {gs : List (List Int)} {o : List Int} {k : Nat} {y : List Int} (hk : k < gs.length) (ey : gs.getD k [] = y) : (gs.take (k + 1)).map (cj o) = (gs.take k).map (cj o) ++ [cj o y] := by
  rw [List.getD_eq_getElem?_getD, List.getElem?_eq_getElem hk] at ey
  have e' : gs[k] = y := ey
  rw [List.take_succ_eq_append_getElem hk, List.map_append, e']; rfl

/-- One slice more on a slice of slices of the call's own. -/
theorem SS.snocV {w w' : World} {base bi n c : Nat} {A : Option Addr} {vs : List SV} {xss : List (List Int)} {A' : Option Addr} {c' : Nat} {d : SV} {ys : List Int} (hss : SS w base bi A n c vs xss) (hys : Slc w bi d.1 d.2.1 d.2.2 ys)
    (hdis : ∀ i, i < n → (sval (vs.getD i sd0)).ownBlock = none ∨ (sval (vs.getD i sd0)).ownBlock ≠ (sval d).ownBlock) (hown : w'.ownsRow base 22 1 (.slice A' (n + 1) c') (n + 1) (vs.map sval ++ [sval d])) (hg : w.grownBy w' (Value.slice A n c).ownBlock) :
    SS w' base bi A' (n + 1) c' (vs ++ [d]) (xss ++ [ys]) := by
  refine ⟨?_, by simp [hss.lv], by simp [hss.lx], fun i hi' => ?_, fun i j hij hj => ?_⟩
  · rw [List.map_append]; exact hown
  · by_cases e : i < n
    · rw [getD_app _ _ _ _ (by rw [hss.lv]; exact e), getD_app _ _ _ _ (by rw [hss.lx]; exact e)]
      exact (hss.row i e).kept hg (apart_types (hss.row i e) hss.own)
    · obtain rfl : i = n := by omega
      rw [getD_snoc _ _ _ _ hss.lv.symm, getD_snoc _ _ _ _ hss.lx.symm]
      exact hys.kept hg (apart_types hys hss.own)
  · rw [getD_app _ _ _ i (by rw [hss.lv]; omega)]
    by_cases e : j < n
    · rw [getD_app _ _ _ j (by rw [hss.lv]; exact e)]; exact hss.dis i j hij e
    · obtain rfl : j = n := by omega
      rw [getD_snoc _ _ _ _ hss.lv.symm]
      exact hdis i hij
end Go.Proofs.Ytcjcmhoalomjfab

/- What the functions of chapter 4 answer, and that the model's do. No condition. -/
namespace Go.Proofs.Ytcjcmhoalomjfab
open Go.RowKit

def IsMem (a : Int) (gs : List (List Int)) (p : List Int) (b : Bool) : Prop := b = true ↔ Memb a gs p
def IsSam (a : Int) (xs ys : List (List Int)) (b : Bool) : Prop := b = true ↔ SameG a xs ys
theorem IsMem.uniq {a : Int} {gs : List (List Int)} {p : List Int} {b b' : Bool} (h : IsMem a gs p b) (h' : IsMem a gs p b') : b = b' := memb_uniq h h'
theorem IsSam.uniq {a : Int} {xs ys : List (List Int)} {b b' : Bool} (h : IsSam a xs ys b) (h' : IsSam a xs ys b') : b = b' := by
  unfold IsSam at h h'; rw [Bool.eq_iff_iff, h, h']
theorem boundSgs {a : Int} {gs l : List (List Int)} (h : IsSgs a gs l) : l.length ≤ 1048576 ∧ (∀ i, i < l.length → (l.getD i []).length ≤ 1048576) ∧ sumL l ≤ 1048576 := by
  rcases h with ⟨e, h⟩ | ⟨e, rfl⟩
  · obtain ⟨N, rfl, h1, hN, _, _, ok⟩ := gB_pm e
    rw [Int.toNat_natCast] at h
    obtain ⟨a1, a2⟩ := h.ok h1 hN ok
    have a3 := prs_len N N
    have a4 : N * N ≤ 20 * 20 := Nat.mul_le_mul hN hN
    exact bound_all (m := 400) (k := 20) (by omega) (fun y hy => by rw [(a2 y hy).2]; exact hN) (by omega)
  · exact bound_all (m := 0) (k := 0) (Nat.le_refl _) (fun y hy => by cases hy) (by omega)

theorem ctOrd : CtImI 33 IsOrd := fun a A n c vs xss w g ha => specGroupOrder a A n c vs xss w g.rr g.hn (Lib.hid g.hl) ha
theorem ctSiz : CtImS 32 IsSiz := fun a A n c vs xss w g ha => specOrbitSizes a A n c vs xss w g.rr g.hn (Lib.hid g.hl) ha
theorem ctSgs : CtImM 30 IsSgs := fun a A n c vs xss w g ha => specSgs a A n c vs xss w g.rr g.hn (Lib.hid g.hl) ha
theorem ctSam : CtImmB 14 IsSam := fun a A n c vs xss M m cm us yss w g s ha => specSameGroup a A n c vs xss w M m cm us yss g.rr g.hn (Lib.hid g.hl) s.rr s.hn (Lib.hid s.hl) ha
end Go.Proofs.Ytcjcmhoalomjfab

/- The size of a slice of slices against whatever is left. No condition. -/
namespace Go.Proofs.Ytcjcmhoalomjfab
open Go.RowKit

set_option maxHeartbeats 1000000 in
theorem szSS2 (A : Option Addr) (n c : Nat) (left : Int) (vs : List SV) (xss : List (List Int)) (w : World) (hx : RR w w.heap.size A n vs xss) (hn : n ≤ maxLen) (hl : Hid (∀ i, i < n → (vs.getD i sd0).2.1 ≤ maxLen)) (h0 : 0 ≤ left) (h1 : left ≤ 1048576) :
    Calls Try.prog 13 #[.slice A n c, .int .i64 left] w fun e w' => e = .returned (.int .i64 (if ((n + tot vs n : Nat) : Int) ≤ left then left - ((n + tot vs n : Nat) : Int) else -1)) ∧ w = w' := by
  have HX := Lib.hid hx
  clear hx
  have hn' := hn
  unfold maxLen at hn'
  obtain ⟨r, er⟩ : ∃ r : Int, (if ((n + tot vs n : Nat) : Int) ≤ left then left - ((n + tot vs n : Nat) : Int) else -1) = r := ⟨_, rfl⟩
  rw [er]
  have Er := Lib.hid er
  clear er
  by_cases h : (n : Int) ≤ left
  · have d : decide (left - (n : Int) < 0) = false := by simp; omega
    have hwl : IntKind.i64.wrap (left - (n : Int)) = left - (n : Int) := by rw [IntKind.wrap_i64]; omega
    go_enter Try.func13, Try.ntmps13
    go_wp2
    go_loop [1, 5] (fun v i => ∃ (k T : Nat), k ≤ n ∧ Hid (tot vs k = T) ∧ ((n + T : Nat) : Int) ≤ left ∧ i = .int .i64 (k : Nat) ∧ v = .int .i64 (left - ((n + T : Nat) : Int))) (fun _ i => n - (intOf i).toNat)
    case atStart => exact ⟨0, 0, Nat.zero_le _, Lib.hid rfl, by omega, rfl, by go_num⟩
    case round =>
      obtain ⟨k, T, hk, hT, hT1, rfl, rfl⟩ := hrel
      clear hwl
      by_cases hlt : k < n
      · obtain ⟨b, off, A5, l, c5, y, rfl, hb, ev, ey, hc, hr, hy, hlc⟩ := HX.out.at_ hlt
        have hl1 := hl.out k hlt
        have hT2 : Hid (tot vs (k + 1) = T + l) := Lib.hid (by rw [tot_succ, hT.out, ev])
        have hm : Hid (tot vs (k + 1) ≤ tot vs n) := Lib.hid (tot_mono hlt)
        rw [ev] at hl1
        clear ev ey hr
        by_cases hfit : ((n + T + l : Nat) : Int) ≤ left
        · have d2 : decide (left - ((n + T : Nat) : Int) - (l : Int) < 0) = false := by simp; omega
          go_wp2_with fail
          refine (szS A5 l c5 _ w (by omega) (by omega) hl1).mono ?_
          rintro e w1 ⟨rfl, rfl⟩
          rw [if_pos (by omega)]
          go_wp2
          go_round
          case rel => exact ⟨k + 1, T + l, by omega, hT2, by omega, by go_num, by go_num⟩
          case measure => simp [intOf]; omega
        · go_wp2_with fail
          refine (szS A5 l c5 _ w (by omega) (by omega) hl1).mono ?_
          rintro e w1 ⟨rfl, rfl⟩
          rw [if_neg (by omega)]
          go_wp2
          go_ret
          exact ⟨by rw [← Er.out, if_neg (by have := hm.out; rw [hT2.out] at this; omega)]; rfl, rfl⟩
      · have hkn : k = n := by omega
        subst hkn
        go_wp2
        go_ret
        exact ⟨by rw [← Er.out, hT.out, if_pos hT1]; go_num, rfl⟩
  · have d : decide (left - (n : Int) < 0) = true := by simp; omega
    have er2 : r = -1 := by rw [← Er.out, if_neg (by omega)]
    have hwl : IntKind.i64.wrap (left - (n : Int)) = left - (n : Int) := by rw [IntKind.wrap_i64]; omega
    subst er2
    go_enter Try.func13, Try.ntmps13
    go_wp2
    go_ret
    exact ⟨rfl, rfl⟩
end Go.Proofs.Ytcjcmhoalomjfab

/- Slices of slices where a row elsewhere has turned. No condition. -/
namespace Go.Proofs.Ytcjcmhoalomjfab
open Go.RowKit

theorem SS.farM {w w' : World} {bo bi n c n' c' : Nat} {A A' : Option Addr} {vs : List SV} {xss : List (List Int)} (h : SS w bo bi A n c vs xss) (hg : w.grownBy w' (Value.slice A' n' c').ownBlock)
    (hd : ∀ k, (Value.slice A n c).ownBlock = some k → (Value.slice A' n' c').ownBlock = some k → False)
    (hd2 : ∀ s, s < n → ∀ k, (sval (vs.getD s sd0)).ownBlock = some k → (Value.slice A' n' c').ownBlock = some k → False) : SS w' bo bi A n c vs xss := by
  have ap : ∀ v : Value, (∀ k, v.ownBlock = some k → (Value.slice A' n' c').ownBlock = some k → False) → v.ownBlock = none ∨ v.ownBlock ≠ (Value.slice A' n' c').ownBlock := fun v hv => by
    rcases e : v.ownBlock with _ | k
    · exact .inl rfl
    · exact .inr fun e2 => hv k e e2.symm
  refine ⟨h.own.kept hg (ap _ hd), h.lv, h.lx, fun i hi => (h.row i hi).kept hg (ap _ (hd2 i hi)), h.dis⟩
end Go.Proofs.Ytcjcmhoalomjfab

/- The walk of the law FnExactSameGroup: it returns true at every input, and writes nothing that was there. No condition but the program's own contract. -/
namespace Go.Proofs.Ytcjcmhoalomjfab
open Go.RowKit

set_option maxHeartbeats 4000000 in
set_option maxRecDepth 100000 in
/-- The law FnExactSameGroup. -/
theorem lawSameGroup (IM : CtImmB 16 IsSam) (i0 : Int) (g1A : Option Addr) (g1n g1c : Nat) (g1v : List SV) (g1x : List (List Int)) (g2A : Option Addr) (g2n g2c : Nat) (g2v : List SV) (g2x : List (List Int)) (w : World) (wfi0 : I64 i0) (hg1 : RR w w.heap.size g1A g1n g1v g1x) (hmg1 : g1n ≤ maxLen) (hkg1 : Hid (∀ i, i < g1n → (g1v.getD i sd0).2.1 ≤ maxLen)) (hg2 : RR w w.heap.size g2A g2n g2v g2x) (hmg2 : g2n ≤ maxLen) (hkg2 : Hid (∀ i, i < g2n → (g2v.getD i sd0).2.1 ≤ maxLen)) :
    Calls Try.prog 4 #[.int .i64 i0, .slice g1A g1n g1c, .slice g2A g2n g2c] w fun e w' => e = .returned (.bool true) ∧ Below w.heap.size w w' := by
  have Hg1 := Lib.hid hg1
  have hlxg1 := Lib.hid hg1.lx
  have hllg1 := Lib.hid hg1.lens
  have Hg2 := Lib.hid hg2
  have hlxg2 := Lib.hid hg2.lx
  have hllg2 := Lib.hid hg2.lens
  clear hg1 hg2
  by_cases hT0 : ((g1n + tot g1v g1n : Nat) : Int) ≤ (1048576 : Int)
  · skip
    have HT0 := Lib.hid hT0
    obtain ⟨L1, eL1⟩ : ∃ L : Int, (1048576 : Int) - ((g1n + tot g1v g1n : Nat) : Int) = L := ⟨_, rfl⟩
    have hl1 : 0 ≤ L1 ∧ L1 ≤ 1048576 := by omega
    have EL1 := Lib.hid eL1
    clear eL1
    have hLn1 : ¬ L1 < 0 := by omega
    have dLn1 : decide (L1 < 0) = false := by simp; omega
    by_cases hT1 : ((g2n + tot g2v g2n : Nat) : Int) ≤ L1
    · skip
      have HT1 := Lib.hid hT1
      obtain ⟨LE, eLE⟩ : ∃ L : Int, L1 - ((g2n + tot g2v g2n : Nat) : Int) = L := ⟨_, rfl⟩
      have hLE : ¬ LE < 0 := by omega
      have dLE : decide (LE < 0) = false := by simp; omega
      have ELE := Lib.hid eLE
      clear eLE
      have hEq1 := EL1.out
      have hng1 : g1n ≤ 1048576 := by omega
      have KTg1 : Hid (tot g1v g1n ≤ 1048576) := Lib.hid (by omega)
      have hlg1 : Hid (∀ i, i < g1n → (g1v.getD i sd0).2.1 ≤ 1048576) := Lib.hid fun i hi => by have := tot_row (vs := g1v) hi; have := KTg1.out; omega
      have hylg1 : Hid (∀ i, i < g1n → (g1x.getD i []).length ≤ 1048576) := Lib.hid fun i hi => by rw [hllg1.out i hi]; exact hlg1.out i hi
      have hng2 : g2n ≤ 1048576 := by omega
      have KTg2 : Hid (tot g2v g2n ≤ 1048576) := Lib.hid (by omega)
      have hlg2 : Hid (∀ i, i < g2n → (g2v.getD i sd0).2.1 ≤ 1048576) := Lib.hid fun i hi => by have := tot_row (vs := g2v) hi; have := KTg2.out; omega
      have hylg2 : Hid (∀ i, i < g2n → (g2x.getD i []).length ≤ 1048576) := Lib.hid fun i hi => by rw [hllg2.out i hi]; exact hlg2.out i hi
      clear hT0 hT1 hEq1
      go_enter Try.func4, Try.ntmps4
      go_wp2_with fail
      have K0 := szSS2 g1A g1n g1c 1048576 g1v g1x w Hg1.out hmg1 hkg1 (by decide) (by decide)
      refine K0.mono ?_
      rintro e w0 ⟨rfl, rfl⟩
      clear K0
      rw [if_pos HT0.out]
      rw [EL1.out]
      go_wp2_with fail
      have K0 := szSS2 g2A g2n g2c L1 g2v g2x w Hg2.out hmg2 hkg2 hl1.1 hl1.2
      refine K0.mono ?_
      rintro e w0 ⟨rfl, rfl⟩
      clear K0
      rw [if_pos HT1.out]
      rw [ELE.out]
      go_wp2_with fail
      refine (toSS g1A g1n g1c g1v g1x w Hg1.out hng1 hlg1).mono ?_
      rintro e w1 ⟨A1, c1, us1, rfl, s1, q1, b1⟩
      have Z1 : Hid (w.heap.size ≤ w1.heap.size) := Lib.hid b1.size
      have B1 : Hid (Below w.heap.size w w1) := Lib.hid b1
      have Ftg1_1 := Lib.hid s1
      have Ltg1 : Hid (Lies A1 g1n c1 w.heap.size w1.heap.size) := Lib.hid s1.lt_
      have Itg1 : Hid (∀ t, t < g1n → ∀ k, (sval (us1.getD t sd0)).ownBlock = some k → w.heap.size ≤ k ∧ k < w1.heap.size) := Lib.hid fun t ht => (s1.row t ht).lt_
      have Qtg1 := Lib.hid q1
      have hltg1 : Hid (∀ i, i < g1n → (us1.getD i sd0).2.1 ≤ 1048576) := Lib.hid fun i hi => by rw [q1 i hi]; exact hlg1.out i hi
      clear s1 b1 q1
      go_wp2_with fail
      refine (toSS g2A g2n g2c g2v g2x w1 (Hg2.out.up B1.out) hng2 hlg2).mono ?_
      rintro e w2 ⟨A2, c2, us2, rfl, s2, q2, b2⟩
      have Z2 : Hid (w1.heap.size ≤ w2.heap.size) := Lib.hid b2.size
      have B2 : Hid (Below w.heap.size w w2) := Lib.hid (btr B1.out b2)
      have Ftg1_2 := Lib.hid (Ftg1_1.out.up b2)
      clear Ftg1_1
      have Ftg2_2 := Lib.hid s2
      have Ltg2 : Hid (Lies A2 g2n c2 w1.heap.size w2.heap.size) := Lib.hid s2.lt_
      have Itg2 : Hid (∀ t, t < g2n → ∀ k, (sval (us2.getD t sd0)).ownBlock = some k → w1.heap.size ≤ k ∧ k < w2.heap.size) := Lib.hid fun t ht => (s2.row t ht).lt_
      have Qtg2 := Lib.hid q2
      have hltg2 : Hid (∀ i, i < g2n → (us2.getD i sd0).2.1 ≤ 1048576) := Lib.hid fun i hi => by rw [q2 i hi]; exact hlg2.out i hi
      clear s2 b2 q2
      go_wp2_with fail
      have K3 := ctSam i0 A1 g1n c1 us1 g1x A2 g2n c2 us2 g2x w2 ⟨Ftg1_2.out.rr, hng1, hltg1.out⟩ ⟨Ftg2_2.out.rr, hng2, hltg2.out⟩ wfi0
      refine K3.mono ?_
      clear K3
      rintro e w3 ⟨v3, rfl, r3, b3⟩
      have Z3 : Hid (w2.heap.size ≤ w3.heap.size) := Lib.hid b3.size
      have B3 : Hid (Below w.heap.size w w3) := Lib.hid (btr B2.out b3)
      have Ftg1_3 := Lib.hid (Ftg1_2.out.up b3)
      clear Ftg1_2
      have Ftg2_3 := Lib.hid (Ftg2_2.out.up b3)
      clear Ftg2_2
      have HR := Lib.hid r3
      clear r3
      clear b3
      clear Ftg1_3
      clear Ftg2_3
      go_wp2_with fail
      refine (toSS g1A g1n g1c g1v g1x w3 (Hg1.out.up B3.out) hng1 hlg1).mono ?_
      rintro e w4 ⟨A4, c4, us4, rfl, s4, q4, b4⟩
      have Z4 : Hid (w3.heap.size ≤ w4.heap.size) := Lib.hid b4.size
      have B4 : Hid (Below w.heap.size w w4) := Lib.hid (btr B3.out b4)
      have Fxg1_4 := Lib.hid s4
      have Lxg1 : Hid (Lies A4 g1n c4 w3.heap.size w4.heap.size) := Lib.hid s4.lt_
      have Ixg1 : Hid (∀ t, t < g1n → ∀ k, (sval (us4.getD t sd0)).ownBlock = some k → w3.heap.size ≤ k ∧ k < w4.heap.size) := Lib.hid fun t ht => (s4.row t ht).lt_
      have Qxg1 := Lib.hid q4
      have hlxg1 : Hid (∀ i, i < g1n → (us4.getD i sd0).2.1 ≤ 1048576) := Lib.hid fun i hi => by rw [q4 i hi]; exact hlg1.out i hi
      clear s4 b4 q4
      go_wp2_with fail
      refine (toSS g2A g2n g2c g2v g2x w4 (Hg2.out.up B4.out) hng2 hlg2).mono ?_
      rintro e w5 ⟨A5, c5, us5, rfl, s5, q5, b5⟩
      have Z5 : Hid (w4.heap.size ≤ w5.heap.size) := Lib.hid b5.size
      have B5 : Hid (Below w.heap.size w w5) := Lib.hid (btr B4.out b5)
      have Fxg1_5 := Lib.hid (Fxg1_4.out.up b5)
      clear Fxg1_4
      have Fxg2_5 := Lib.hid s5
      have Lxg2 : Hid (Lies A5 g2n c5 w4.heap.size w5.heap.size) := Lib.hid s5.lt_
      have Ixg2 : Hid (∀ t, t < g2n → ∀ k, (sval (us5.getD t sd0)).ownBlock = some k → w4.heap.size ≤ k ∧ k < w5.heap.size) := Lib.hid fun t ht => (s5.row t ht).lt_
      have Qxg2 := Lib.hid q5
      have hlxg2 : Hid (∀ i, i < g2n → (us5.getD i sd0).2.1 ≤ 1048576) := Lib.hid fun i hi => by rw [q5 i hi]; exact hlg2.out i hi
      clear s5 b5 q5
      go_wp2_with fail
      have K6 := IM i0 A4 g1n c4 us4 g1x A5 g2n c5 us5 g2x w5 ⟨Fxg1_5.out.rr, hng1, hlxg1.out⟩ ⟨Fxg2_5.out.rr, hng2, hlxg2.out⟩ wfi0
      refine K6.mono ?_
      clear K6
      rintro e w6 ⟨v6, rfl, r6, b6⟩
      have Z6 : Hid (w5.heap.size ≤ w6.heap.size) := Lib.hid b6.size
      have B6 : Hid (Below w.heap.size w w6) := Lib.hid (btr B5.out b6)
      have Fxg1_6 := Lib.hid (Fxg1_5.out.up b6)
      clear Fxg1_5
      have Fxg2_6 := Lib.hid (Fxg2_5.out.up b6)
      clear Fxg2_5
      have e6 := HR.out.uniq r6
      subst e6
      clear r6
      clear b6
      go_wp2_with fail
      refine (toSS g1A g1n g1c g1v g1x w6 (Hg1.out.up B6.out) hng1 hlg1).mono ?_
      rintro e w7 ⟨A7, c7, us7, rfl, s7, q7, b7⟩
      have Z7 : Hid (w6.heap.size ≤ w7.heap.size) := Lib.hid b7.size
      have B7 : Hid (Below w.heap.size w w7) := Lib.hid (btr B6.out b7)
      have Fxg1_7 := Lib.hid (Fxg1_6.out.up b7)
      clear Fxg1_6
      have Fxg2_7 := Lib.hid (Fxg2_6.out.up b7)
      clear Fxg2_6
      have Fyg1_7 := Lib.hid s7
      have Lyg1 : Hid (Lies A7 g1n c7 w6.heap.size w7.heap.size) := Lib.hid s7.lt_
      have Iyg1 : Hid (∀ t, t < g1n → ∀ k, (sval (us7.getD t sd0)).ownBlock = some k → w6.heap.size ≤ k ∧ k < w7.heap.size) := Lib.hid fun t ht => (s7.row t ht).lt_
      have Qyg1 := Lib.hid q7
      have hlyg1 : Hid (∀ i, i < g1n → (us7.getD i sd0).2.1 ≤ 1048576) := Lib.hid fun i hi => by rw [q7 i hi]; exact hlg1.out i hi
      clear s7 b7 q7
      go_wp2_with fail
      refine (eqRR_same A4 A7 g1n c4 g1n c7 us4 us7 _ w7 Fxg1_7.out.rr Fyg1_7.out.rr (by omega) hylg1).mono ?_
      rintro e w8 ⟨rfl, b8⟩
      have Z8 : Hid (w7.heap.size ≤ w8.heap.size) := Lib.hid b8.size
      have B8 : Hid (Below w.heap.size w w8) := Lib.hid (btr B7.out b8)
      have Fxg1_8 := Lib.hid (Fxg1_7.out.up b8)
      clear Fxg1_7
      have Fxg2_8 := Lib.hid (Fxg2_7.out.up b8)
      clear Fxg2_7
      have Fyg1_8 := Lib.hid (Fyg1_7.out.up b8)
      clear Fyg1_7
      clear b8
      clear Fyg1_8
      go_wp2_with fail
      refine (toSS g2A g2n g2c g2v g2x w8 (Hg2.out.up B8.out) hng2 hlg2).mono ?_
      rintro e w9 ⟨A9, c9, us9, rfl, s9, q9, b9⟩
      have Z9 : Hid (w8.heap.size ≤ w9.heap.size) := Lib.hid b9.size
      have B9 : Hid (Below w.heap.size w w9) := Lib.hid (btr B8.out b9)
      have Fxg1_9 := Lib.hid (Fxg1_8.out.up b9)
      clear Fxg1_8
      have Fxg2_9 := Lib.hid (Fxg2_8.out.up b9)
      clear Fxg2_8
      have Fyg2_9 := Lib.hid s9
      have Lyg2 : Hid (Lies A9 g2n c9 w8.heap.size w9.heap.size) := Lib.hid s9.lt_
      have Iyg2 : Hid (∀ t, t < g2n → ∀ k, (sval (us9.getD t sd0)).ownBlock = some k → w8.heap.size ≤ k ∧ k < w9.heap.size) := Lib.hid fun t ht => (s9.row t ht).lt_
      have Qyg2 := Lib.hid q9
      have hlyg2 : Hid (∀ i, i < g2n → (us9.getD i sd0).2.1 ≤ 1048576) := Lib.hid fun i hi => by rw [q9 i hi]; exact hlg2.out i hi
      clear s9 b9 q9
      go_wp2_with fail
      refine (eqRR_same A5 A9 g2n c5 g2n c9 us5 us9 _ w9 Fxg2_9.out.rr Fyg2_9.out.rr (by omega) hylg2).mono ?_
      rintro e w10 ⟨rfl, b10⟩
      have Z10 : Hid (w9.heap.size ≤ w10.heap.size) := Lib.hid b10.size
      have B10 : Hid (Below w.heap.size w w10) := Lib.hid (btr B9.out b10)
      have Fxg1_10 := Lib.hid (Fxg1_9.out.up b10)
      clear Fxg1_9
      have Fxg2_10 := Lib.hid (Fxg2_9.out.up b10)
      clear Fxg2_9
      have Fyg2_10 := Lib.hid (Fyg2_9.out.up b10)
      clear Fyg2_9
      clear b10
      clear Fyg2_10
      go_wp2_with fail
      go_ret
      exact ⟨rfl, B10.out⟩
    · skip
      have HT1 := Lib.hid hT1
      clear hT0 hT1
      go_enter Try.func4, Try.ntmps4
      go_wp2_with fail
      have K0 := szSS2 g1A g1n g1c 1048576 g1v g1x w Hg1.out hmg1 hkg1 (by decide) (by decide)
      refine K0.mono ?_
      rintro e w0 ⟨rfl, rfl⟩
      clear K0
      rw [if_pos HT0.out]
      rw [EL1.out]
      go_wp2_with fail
      have K0 := szSS2 g2A g2n g2c L1 g2v g2x w Hg2.out hmg2 hkg2 hl1.1 hl1.2
      refine K0.mono ?_
      rintro e w0 ⟨rfl, rfl⟩
      clear K0
      rw [if_neg (Int.not_le.2 HT1.out)]
      go_wp2
      go_ret
      exact ⟨rfl, Below.refl _ _⟩
  · skip
    have HT0 := Lib.hid hT0
    clear hT0
    go_enter Try.func4, Try.ntmps4
    go_wp2_with fail
    have K0 := szSS2 g1A g1n g1c 1048576 g1v g1x w Hg1.out hmg1 hkg1 (by decide) (by decide)
    refine K0.mono ?_
    rintro e w0 ⟨rfl, rfl⟩
    clear K0
    rw [if_neg (Int.not_le.2 HT0.out)]
    go_wp2
    go_ret
    exact ⟨rfl, Below.refl _ _⟩
end Go.Proofs.Ytcjcmhoalomjfab

/- The program's chain: what including one product leaves; the loop over an orbit; members with given entries found link by link. No Go in it. No condition. -/
namespace Go.Proofs.Ytcjcmhoalomjfab
open Go.RowKit

theorem nd_subP {l' : List Nat} : ∀ {l : List Nat}, l'.Nodup → (∀ x ∈ l', x ∈ l) → l'.length ≤ l.length := by
  induction l' with
  | nil => intro l _ _; simp
  | cons a t ih =>
    intro l hd h
    rw [List.nodup_cons] at hd
    have ha : a ∈ l := h a (by simp)
    have := ih (l := l.erase a) hd.2 fun x hx => by
      have hne : x ≠ a := fun e => hd.1 (e ▸ hx)
      exact (List.mem_erase_of_ne hne).2 (h x (by simp [hx]))
    rw [List.length_erase_of_mem ha] at this
    have h0 : 0 < l.length := List.length_pos_of_mem ha
    simp; omega
section
variable {N k : Nat} {c c' cj : Ch} {p q m : List Int} {O O' : List Nat}

/-- What including one product leaves. -/
structure Ic (N k : Nat) (c c' : Ch) (q : List Int) : Prop where
  low : Low N c' k
  grw : Grw k c c'
  gen : c'.gen k = c.gen k
  sv : Sv N c' k q
  mono : ∀ p, Sv N c k p → Sv N c' k p
theorem Ic.old (h : Low N c k) (hk : k < N) (h1 : 1 ≤ N) (h2 : N ≤ 20) (hq : Mb (c.gen k) N q) (hr : c.rep k (nx q k) ≠ []) (ha : Ap N (k + 1) c c' (compL q (iv (c.rep k (nx q k))))) : Ic N k c c' q :=
  have b := Bp.old h hk h1 h2 hq hr ha
  ⟨b.low, b.grw, b.gen, b.sv, b.mono⟩
theorem Ic.put (h : Low N c k) (hk : k < N) (h1 : 1 ≤ N) (h2 : N ≤ 20) (hq : Mb (c.gen k) N q) (hr : c.rep k (nx q k) = []) : Ic N k c (c.set k (nx q k) q) q := by
  obtain ⟨l1, g1⟩ := h.put hk h1 h2 hq hr
  have hp := hq.pn h.pn h1 h2
  have hne : q ≠ [] := by intro e; have := hp.2; rw [e] at this; simp at this; omega
  refine ⟨l1, g1, rfl, ?_, fun p hs => h.mono_sv l1 g1 hk (fun _ h => h) hs⟩
  have := l1.rep_sv hk (y := nx q k) (by rw [set_at]; exact hne)
  rw [set_at] at this; exact this

/-- The orbit lists the points that have a representative, each once. -/
def Orb (c : Ch) (k : Nat) (O : List Nat) : Prop := O.Nodup ∧ ∀ y, y ∈ O ↔ c.rep k y ≠ []
theorem Orb.congr (h : Orb c k O) (e : ∀ y, c'.rep k y = c.rep k y) : Orb c' k O := ⟨h.1, fun y => by rw [h.2, e]⟩
theorem Orb.put (h : Orb c k O) {y : Nat} (hr : c.rep k y = []) (hq : q ≠ []) : Orb (c.set k y q) k (O ++ [y]) := by
  refine ⟨List.nodup_append.2 ⟨h.1, by simp, fun a ha b hb e => ?_⟩, fun z => ?_⟩
  · rw [List.mem_singleton] at hb
    subst hb; subst e
    exact (h.2 a).1 ha hr
  · rw [List.mem_append, List.mem_singleton, h.2]
    by_cases e : z = y
    · subst e; rw [set_at]; exact ⟨fun _ => hq, fun _ => .inr rfl⟩
    · rw [set_ne (.inr e)]; exact ⟨fun h => h.resolve_right e, fun h => .inl h⟩
theorem Orb.lt (h : Orb c k O) (hr : RepOK N c k) {y : Nat} (hy : y ∈ O) : y < N := (hr.at_ y ((h.2 y).1 hy)).1
theorem Orb.len (h : Orb c k O) (hr : RepOK N c k) : O.length ≤ N := by
  have : O.length ≤ (List.range N).length := nd_subP h.1 fun y hy => List.mem_range.2 (h.lt hr hy)
  simpa using this

/-- Which generators the products of the t-th orbit point are formed with. -/
def gsA (kn : Nat) (gs : List (List Int)) (p : List Int) (t : Nat) : List (List Int) := if t < kn then [p] else gs
/-- The loop over the orbit: i points are done, of the next one j products. -/
structure Bf (N k : Nat) (c1 cj : Ch) (O : List Nat) (p : List Int) (kn i j : Nat) : Prop where
  low : Low N cj k
  grw : Grw k c1 cj
  gen : cj.gen k = c1.gen k
  mono : ∀ q, Sv N c1 k q → Sv N cj k q
  old : ∀ t, t < kn → c1.rep k (O.getD t 0) ≠ []
  len : kn ≤ O.length
  done : ∀ t, t < i → ∀ g ∈ gsA kn (c1.gen k) p t, Sv N cj k (compL (cj.rep k (O.getD t 0)) g)
  part : ∀ s, s < j → Sv N cj k (compL (cj.rep k (O.getD i 0)) ((gsA kn (c1.gen k) p i).getD s []))
theorem Bf.start {c1 : Ch} (h : Low N c1 k) (hO : Orb c1 k O) : Bf N k c1 c1 O p O.length 0 0 :=
  ⟨h, .refl _ _, rfl, fun _ h => h, fun t ht => (hO.2 _).1 (by rw [List.getD_eq_getElem?_getD, List.getElem?_eq_getElem ht]; exact List.getElem_mem _), Nat.le_refl _, fun t ht => absurd ht (by omega), fun t ht => absurd ht (by omega)⟩
theorem getD_pre {O O' : List Nat} (h : O <+: O') {t : Nat} (ht : t < O.length) : O'.getD t 0 = O.getD t 0 := by
  obtain ⟨l, rfl⟩ := h
  rw [List.getD_eq_getElem?_getD, List.getD_eq_getElem?_getD, List.getElem?_append_left ht]
theorem Bf.next {c1 : Ch} {kn i j : Nat} (h : Bf N k c1 cj O p kn i j) (hO : Orb cj k O) (hi : i < O.length) (hpre : O <+: O') (hc : Ic N k cj c' (compL (cj.rep k (O.getD i 0)) ((gsA kn (c1.gen k) p i).getD j []))) : Bf N k c1 c' O' p kn i (j + 1) := by
  have hrep : ∀ t, t < O.length → c'.rep k (O'.getD t 0) = cj.rep k (O.getD t 0) := fun t ht => by
    rw [getD_pre hpre ht]
    exact hc.grw.keep _ _ ((hO.2 _).1 (by rw [List.getD_eq_getElem?_getD, List.getElem?_eq_getElem ht]; exact List.getElem_mem _))
  refine ⟨hc.low, h.grw.trans hc.grw, by rw [hc.gen, h.gen], fun p hs => hc.mono _ (h.mono _ hs), fun t ht => by rw [getD_pre hpre (by have := h.len; omega)]; exact h.old t ht, Nat.le_trans h.len hpre.length_le, fun t ht g hg => ?_, fun s hs => ?_⟩
  · rw [hrep t (by omega)]; exact hc.mono _ (h.done t ht g hg)
  · rw [hrep i hi]
    rcases Nat.lt_or_ge s j with hl | hl
    · exact hc.mono _ (h.part s hl)
    · obtain rfl : s = j := by omega
      exact hc.sv
theorem Bf.round {c1 : Ch} {kn i : Nat} (h : Bf N k c1 cj O p kn i (gsA kn (c1.gen k) p i).length) : Bf N k c1 cj O p kn (i + 1) 0 := by
  refine ⟨h.low, h.grw, h.gen, h.mono, h.old, h.len, fun t ht g hg => ?_, fun s hs => absurd hs (by omega)⟩
  rcases Nat.lt_or_ge t i with hl | hl
  · exact h.done t hl g hg
  · obtain rfl : t = i := by omega
    obtain ⟨s, hs, rfl⟩ := mem_at hg
    exact h.part s hs
/-- The product that is formed next lies in the group of the level. -/
theorem Bf.mb {kn i j : Nat} (h : Bf N k (c.push k p) cj O p kn i j) (hO : Orb cj k O) (hi : i < O.length) (hj : j < (gsA kn ((c.push k p).gen k) p i).length) :
    Mb (cj.gen k) N (compL (cj.rep k (O.getD i 0)) ((gsA kn ((c.push k p).gen k) p i).getD j [])) ∧ Pn N (cj.rep k (O.getD i 0)) ∧ (gsA kn ((c.push k p).gen k) p i).getD j [] ∈ cj.gen k := by
  have hr : cj.rep k (O.getD i 0) ≠ [] := (hO.2 _).1 (by rw [List.getD_eq_getElem?_getD, List.getElem?_eq_getElem hi]; exact List.getElem_mem _)
  have hm : (gsA kn ((c.push k p).gen k) p i).getD j [] ∈ gsA kn ((c.push k p).gen k) p i := by
    rw [List.getD_eq_getElem?_getD, List.getElem?_eq_getElem hj]; exact List.getElem_mem _
  have hg : (gsA kn ((c.push k p).gen k) p i).getD j [] ∈ cj.gen k := by
    rw [h.gen]
    unfold gsA at hm ⊢
    by_cases e : i < kn
    · simp only [if_pos e] at hm ⊢
      rw [List.mem_singleton] at hm
      rw [hm, push_at]; simp
    · simp only [if_neg e] at hm ⊢; exact hm
  exact ⟨.mul (h.low.inn _ hr) hg, (h.low.rep.at_ _ hr).2.1, hg⟩
theorem Bf.all {kn : Nat} (h : UpTo N c k) (hk : k < N) (h1 : 1 ≤ N) (h2 : N ≤ 20) (hp : Pn N p) (hf : Fx k p) (hs : ¬ Sv N c k p) (hb : Bf N k (c.push k p) cj O p kn O.length 0) (hO : Orb cj k O) : Ap N k c cj p := by
  have hl := h.low hk h1 h2
  have hg1 : cj.gen k = c.gen k ++ [p] := by rw [hb.gen, push_at]
  have g0 : Grw k c (c.push k p) := ⟨fun _ _ _ => rfl, fun _ _ _ => rfl, fun i hi => push_ne (by omega)⟩
  have hG := g0.trans hb.grw
  have hat : ∀ y, cj.rep k y ≠ [] → ∃ t, t < O.length ∧ O.getD t 0 = y := fun y hy => by
    obtain ⟨t, ht, e⟩ := List.mem_iff_getElem.1 ((hO.2 y).2 hy)
    exact ⟨t, ht, by rw [List.getD_eq_getElem?_getD, List.getElem?_eq_getElem ht, ← e]; rfl⟩
  have hclose : ∀ y, cj.rep k y ≠ [] → ∀ g ∈ cj.gen k, Sv N cj k (compL (cj.rep k y) g) := fun y hy g hg => by
    obtain ⟨t, ht, et⟩ := hat y hy
    by_cases e : t < kn
    · have hc1 := hb.old t e
      rw [et] at hc1
      rw [hg1] at hg
      rcases List.mem_append.1 hg with hg | hg
      · rw [hG.keep _ _ hc1]
        refine hb.mono _ (Sv.congr (c := c) ?_ fun _ _ _ => rfl)
        exact (h.sv k (Nat.le_refl _) (by omega) _).2 (.mul (hl.inn y hc1) hg)
      · have := hb.done t ht g (by unfold gsA; rw [if_pos e]; exact hg)
        rw [et] at this; exact this
    · have := hb.done t ht g (by unfold gsA; rw [if_neg e, ← hb.gen]; exact hg)
      rw [et] at this; exact this
  have hid : c.rep k k ≠ [] := by rw [hl.rep.one]; intro e; have := idL_length N; rw [e] at this; simp at this; omega
  have hsv : Sv N cj k p := by
    have h3 := hclose k (by rw [hG.keep _ _ hid]; exact hid) p (by rw [hg1]; simp)
    rw [hG.keep _ _ hid, hl.rep.one, hp.idl] at h3
    exact h3
  have hcnt : cnt N c k < cnt N cj k := by
    have hle := cnt_mono (N := N) hG k
    rcases Nat.lt_or_ge (cnt N c k) (cnt N cj k) with hlt | hge
    · exact hlt
    · exfalso
      refine hs (sv_back hsv (Nat.le_refl _) fun j y hj hjN hy => (cnt_same hG hge hj hjN hy).symm)
  refine ⟨hb.low.whole hk h1 h2 hclose ?_, hG, fun q => by rw [hg1]⟩
  rw [hg1, List.length_append]
  have := h.len k (Nat.le_refl _) hk
  simp; omega
/-- At the last link everything that fixes the points before is known. -/
theorem sv_last (h : UpTo N c k) (hk : k + 1 = N) (h1 : 1 ≤ N) (h2 : N ≤ 20) (hp : Pn N p) (hf : Fx k p) : Sv N c k p := by
  have e : nx p k = k := by
    have a := hf.ge hp (by omega)
    have b := hp.lt (x := k) (by omega)
    omega
  have hid := (hf.succ e)
  rw [hk] at hid
  rw [hid.all hp]
  exact (sv_down (h.rep k (Nat.le_refl _) (by omega)) (by omega) (pn_id h1 h2) (fx_id (by omega)) (nx_id (by omega))).2 ((h.sv (k + 1) (by omega) (by omega) _).2 .one)

/-! ### members with given entries -/
theorem UpTo.stab (h : UpTo N c k) (h1 : 1 ≤ N) (h2 : N ≤ 20) {j : Nat} (hj : k ≤ j) (hjN : j ≤ N) (hp : Pn N p) (hf : Fx j p) : Sv N c k p ↔ Sv N c j p := by
  induction j with
  | zero => obtain rfl : k = 0 := by omega
            exact Iff.rfl
  | succ j ih =>
    by_cases e : k = j + 1
    · subst e; exact Iff.rfl
    · rw [ih (by omega) (by omega) (hf.mono (by omega))]
      exact sv_down (h.rep j (by omega) (by omega)) (by omega) hp (hf.mono (by omega)) (hf j (by omega))
theorem UpTo.gpn (h : UpTo N c k) (hk : k ≤ N) : ∀ g ∈ c.gen k, Pn N g := h.pn (Nat.le_refl _) hk
theorem UpTo.mfx (h : UpTo N c k) (h1 : 1 ≤ N) (h2 : N ≤ 20) (hk : k ≤ N) (hm : Mb (c.gen k) N p) : Fx k p := by
  rcases Nat.lt_or_ge k N with hl | hl
  · exact hm.fx (h.gp k (Nat.le_refl _) hl) h1 h2 hk
  · obtain rfl : k = N := by omega
    rw [h.top] at hm
    rw [hm.none_]; exact fx_id (Nat.le_refl _)
/-- A representative of a later link is a member of this one. -/
theorem UpTo.rep_mb (h : UpTo N c k) (h1 : 1 ≤ N) (h2 : N ≤ 20) {j y : Nat} (hj : k ≤ j) (hjN : j < N) (hy : c.rep j y ≠ []) : Mb (c.gen k) N (c.rep j y) := by
  obtain ⟨a1, a2, a3, a4⟩ := (h.rep j hj hjN).at_ y hy
  refine (h.sv k (Nat.le_refl _) (by omega) _).1 ((h.stab h1 h2 hj (by omega) a2 a3).2 ?_)
  exact ((h.mono hj).low hjN h1 h2).rep_sv hjN hy
/-- A member that has the given entries from k on, as far as j. -/
structure Mt (N : Nat) (c : Ch) (k : Nat) (vals : List Int) (m : List Int) (j : Nat) : Prop where
  kj : k ≤ j
  jN : j ≤ N
  pn : Pn N m
  mb : Mb (c.gen k) N m
  ag : ∀ i, k ≤ i → i < j → (nx m i : Int) = vals.getD i 0
  jl : j = k ∨ j ≤ vals.length
/-- No member has one entry more. -/
def NoM (N : Nat) (c : Ch) (k : Nat) (vals : List Int) (j : Nat) : Prop := j < N → j < vals.length → ∀ q, Mb (c.gen k) N q → ¬ ∀ i, k ≤ i → i ≤ j → (nx q i : Int) = vals.getD i 0
theorem Mt.start {vals : List Int} (h1 : 1 ≤ N) (h2 : N ≤ 20) (hk : k ≤ N) : Mt N c k vals (idL N) k :=
  ⟨Nat.le_refl _, hk, pn_id h1 h2, .one, fun i a b => absurd b (by omega), .inl rfl⟩
theorem Mt.step {vals : List Int} {j y : Nat} (h : Mt N c k vals m j) (hu : UpTo N c k) (h1 : 1 ≤ N) (h2 : N ≤ 20) (hj : j < N) (hl : j < vals.length) (hy : c.rep j y ≠ []) (hv : (nx m y : Int) = vals.getD j 0) : Mt N c k vals (compL (c.rep j y) m) (j + 1) := by
  obtain ⟨a1, a2, a3, a4⟩ := (hu.rep j h.kj hj).at_ y hy
  have hkj := h.kj
  refine ⟨by omega, by omega, a2.comp h.pn, (hu.rep_mb h1 h2 h.kj hj hy).comp (hu.gpn (by omega)) h1 h2 h.mb, fun i hi hij => ?_, .inr (by omega)⟩
  rcases Nat.lt_or_ge i j with hlt | hge
  · rw [a2.nxc (by omega), a3 i hlt]; exact h.ag i hi hlt
  · obtain rfl : i = j := by omega
    rw [a2.nxc hj, a4]; exact hv
theorem Mt.stop {vals : List Int} {j : Nat} (h : Mt N c k vals m j) (hu : UpTo N c k) (h1 : 1 ≤ N) (h2 : N ≤ 20) (hn : ∀ y, y < N → (nx m y : Int) = vals.getD j 0 → c.rep j y = []) : NoM N c k vals j := fun hj hl q hq hag => by
  have hkj := h.kj
  have hqp := hq.pn (hu.gpn (by omega)) h1 h2
  have hqf := hu.mfx h1 h2 (by omega) hq
  have hmf := hu.mfx h1 h2 (by omega) h.mb
  have hr := hqp.comp h.pn.iv
  have hfx : Fx j (compL q (iv m)) := fun i hi => by
    rw [hqp.nxc (by omega)]
    have e : nx q i = nx m i := by
      rcases Nat.lt_or_ge i k with hlt | hge
      · rw [hqf i hlt, hmf i hlt]
      · have a := hag i hge (by omega)
        have b := h.ag i hge hi
        omega
    rw [e, h.pn.nxi (by omega)]
  have hmb : Mb (c.gen k) N (compL q (iv m)) := hq.comp (hu.gpn (by omega)) h1 h2 (h.mb.inv (hu.gpn (by omega)) h1 h2)
  have hs := (hu.stab h1 h2 h.kj h.jN hr hfx).1 ((hu.sv k (Nat.le_refl _) (by omega) _).2 hmb)
  have h3 := (hs.inv_low hj).2.2.1
  rw [hqp.nxc hj] at h3
  have hlt := hqp.lt hj
  refine h3 (hn _ (h.pn.iv.lt hlt) ?_)
  rw [h.pn.nxi' hlt]
  exact hag j h.kj (Nat.le_refl _)
/-- Membership: all entries are found. -/
theorem Mt.mem {j : Nat} (h : Mt N c k p m j) (hn : NoM N c k p j) (hu : UpTo N c k) (h1 : 1 ≤ N) (h2 : N ≤ 20) (hk : k ≤ N) (hp : Pn N p) (hf : Fx k p) : j = N ↔ Mb (c.gen k) N p := by
  constructor
  · rintro rfl
    have hmf := hu.mfx h1 h2 hk h.mb
    have : m = p := h.pn.ext hp fun x hx => by
      rcases Nat.lt_or_ge x k with hlt | hge
      · rw [hmf x hlt, hf x hlt]
      · have a := h.ag x hge hx
        rw [nx_val hp.1 (by rw [hp.2]; exact hx)] at a
        omega
    rw [← this]; exact h.mb
  · intro hm
    rcases Nat.lt_or_ge j N with hl | hl
    · exfalso
      refine hn hl (by rw [hp.2]; exact hl) p hm fun i _ hi => ?_
      rw [nx_val hp.1 (by rw [hp.2]; omega)]
    · have := h.jN; omega
end
end Go.Proofs.Ytcjcmhoalomjfab

/- The program's chain in memory: linked structs, each with generators, an orbit and movers; how it reads, what one store, one append, one call on a later link leave of it. No condition. -/
namespace Go.Proofs.Ytcjcmhoalomjfab
open Go.RowKit

def ofP (xs : List Nat) : List Int := xs.map Int.ofNat
theorem ofP_snoc (xs : List Nat) (x : Nat) : ofP (xs ++ [x]) = ofP xs ++ [(x : Int)] := by simp [ofP]
theorem ofP_len (xs : List Nat) : (ofP xs).length = xs.length := by simp [ofP]
/-- Where a link lies: its block, its slice of generators and their entries, its orbit's slice, its movers' block and their entries; the orbit. -/
structure LK where
  B : Nat
  g : SV
  ge : List SV
  o : SV
  mb : Nat
  en : List SV
  orb : List Nat
/-- The four blocks of a link that may turn. -/
def mu (l : LK) : Nat → Option Nat
  | 0 => some l.B
  | 1 => (sval l.g).ownBlock
  | 2 => (sval l.o).ownBlock
  | _ => some l.mb
/-- The blocks of the links from k on. -/
def Mu (N k : Nat) (L : Nat → LK) (b : Nat) : Prop := ∃ i t, k ≤ i ∧ i < N ∧ t < 4 ∧ mu (L i) t = some b
/-- The pointer to link i, nil behind the last. -/
def ptr (N : Nat) (L : Nat → LK) (i : Nat) : Value := if i < N then .pointer (some ⟨(L i).B, 0, none⟩) else .pointer none
/-- d reads as p, in blocks outside of M. -/
structure Rd (w : World) (M : Nat → Prop) (d : SV) (p : List Int) : Prop where
  len : p.length = d.2.1
  cap : d.2.1 ≤ d.2.2
  at_ : 0 < p.length → ∃ b off, d.1 = some ⟨b, off, none⟩ ∧ b < w.heap.size ∧ ¬ M b ∧ ∀ j, j < p.length → w.cell? ⟨b, off + j, none⟩ = some (.int .i64 (p.getD j 0))
/-- One link in memory. -/
structure Lk (w : World) (base N k : Nat) (M : Nat → Prop) (rep : Nat → List Int) (gen : List (List Int)) (nxt : Value) (l : LK) : Prop where
  blk : Blk w l.B 69 #[.int .i64 (k : Nat), sval l.g, sval l.o, .slice (some ⟨l.mb, 0, none⟩) N N, nxt]
  hB : base ≤ l.B
  gown : w.ownsRow base 47 1 (sval l.g) gen.length (l.ge.map sval)
  glen : l.ge.length = gen.length
  gent : ∀ y, y < gen.length → Rd w M (l.ge.getD y sd0) (gen.getD y [])
  oown : Slc w base l.o.1 l.o.2.1 l.o.2.2 (ofP l.orb)
  mown : w.ownsRow base 47 1 (.slice (some ⟨l.mb, 0, none⟩) N N) N (l.en.map sval)
  mlen : l.en.length = N
  ment : ∀ y, y < N → (rep y = [] → l.en.getD y sd0 = sd0) ∧ (rep y ≠ [] → Rd w M (l.en.getD y sd0) (rep y))
/-- The links from k on in memory. -/
structure Ck (w : World) (base N k : Nat) (M : Nat → Prop) (c : Ch) (L : Nat → LK) : Prop where
  lk : ∀ i, k ≤ i → i < N → Lk w base N i M (c.rep i) (c.gen i) (ptr N L (i + 1)) (L i)
  mm : ∀ i t b, k ≤ i → i < N → t < 4 → mu (L i) t = some b → M b
  mlt : ∀ b, M b → base ≤ b ∧ b < w.heap.size
  dis : ∀ i t i' t' b, k ≤ i → i < N → t < 4 → k ≤ i' → i' < N → t' < 4 → mu (L i) t = some b → mu (L i') t' = some b → i = i' ∧ t = t'
def Orbs (N k : Nat) (c : Ch) (L : Nat → LK) : Prop := ∀ i, k ≤ i → i < N → Orb c i (L i).orb
/-- What a call on link k leaves of the rest. -/
structure Gw (w w' : World) (N k : Nat) (L L' : Nat → LK) (M M' : Nat → Prop) : Prop where
  chg : Chg w w' (Mu N k L)
  keep : ∀ i, i < k → L' i = L i
  ptr : ∀ i, (L' i).B = (L i).B
  mm : ∀ b, M b → M' b
  new_ : ∀ b, M' b → M b ∨ w.heap.size ≤ b
  mu : ∀ b, Mu N k L' b → Mu N k L b ∨ w.heap.size ≤ b

section
variable {w w' w1 : World} {base N k i y : Nat} {M M' M1 S : Nat → Prop} {c c' : Ch} {L L' L1 : Nat → LK} {l l' : LK} {d : SV} {p q : List Int} {rep : Nat → List Int} {gen : List (List Int)} {nxt : Value}

/-! ### reading -/
theorem Rd.ri (h : Rd w M d p) : RI w w.heap.size d.1 p := fun hp => by
  obtain ⟨b, off, e, hb, _, hc⟩ := h.at_ hp
  exact ⟨b, off, e, hb, hc⟩
theorem Rd.keep (h : Rd w M d p) (hc : Chg w w' S) (hS : ∀ b, S b → M b) (hM : ∀ b, M' b → M b ∨ w.heap.size ≤ b) : Rd w' M' d p :=
  ⟨h.len, h.cap, fun hp => by
    obtain ⟨b, off, e, hb, hn, hcell⟩ := h.at_ hp
    refine ⟨b, off, e, by have := hc.size; omega, fun hm => ?_, fun j hj => ?_⟩
    · rcases hM b hm with h | h
      · exact hn h
      · omega
    · rw [← hcell j hj]
      exact World.cell?_of_block (hc.block b hb fun hs => hn (hS b hs))⟩
theorem Rd.up (h : Rd w M d p) (hb : Below w.heap.size w w') : Rd w' M d p := h.keep (S := fun _ => False) (.of_below hb) (fun _ e => e.elim) fun _ e => .inl e
theorem Rd.of_slc {B : Nat} (h : Slc w B d.1 d.2.1 d.2.2 p) (hM : ∀ b, M b → b < B) : Rd w M d p :=
  ⟨h.1, h.le.1, fun hp => by
    rcases h.at_ with ⟨_, e, _⟩ | ⟨g, e, h1, h2⟩
    · rw [e] at hp; simp at hp
    · refine ⟨g, 0, e, h2, fun hm => by have := hM g hm; omega, fun j hj => ?_⟩
      obtain ⟨b, off, e2, _, hc⟩ := h.ri_ hp
      rw [e] at e2
      injection e2 with e2
      injection e2 with e3 e4
      subst e3
      rw [e4]
      exact hc j hj⟩
theorem Rd.more (h : Rd w M d p) (hM : ∀ b, M' b → M b ∨ w.heap.size ≤ b) : Rd w M' d p := h.keep (S := fun _ => False) (.refl _ _) (fun _ e => e.elim) hM
theorem Rd.of_ri {A : Option Addr} {n cc B : Nat} (h : RI w B A p) (lp : p.length = n) (hc : n ≤ cc) (hB : B ≤ w.heap.size) (hM : ∀ b, M b → B ≤ b) : Rd w M (A, n, cc) p :=
  ⟨lp, hc, fun hp => by
    obtain ⟨b, off, e, hb, hcell⟩ := h hp
    exact ⟨b, off, e, by omega, fun hm => by have := hM b hm; omega, hcell⟩⟩

theorem Blk.chg {g : Nat} {t : TypeId} {cs : Array Value} (h : Blk w g t cs) (hc : Chg w w' S) (hn : ¬ S g) : Blk w' g t cs := (hc.block g h.lt hn).trans h
theorem Slc.chgS {A : Option Addr} {n cc : Nat} {xs : List Int} (h : Slc w base A n cc xs) (hc : Chg w w' S) (hn : ∀ b, (Value.slice A n cc).ownBlock = some b → ¬ S b) : Slc w' base A n cc xs := ⟨h.1, ownsRow_chg h.2 hc hn⟩
/-- A link whose blocks do not turn is kept. -/
theorem Lk.keep (h : Lk w base N k M rep gen nxt l) (hc : Chg w w' S) (hn : ∀ t b, t < 4 → mu l t = some b → ¬ S b) (hS : ∀ b, S b → M b) (hM : ∀ b, M' b → M b ∨ w.heap.size ≤ b) : Lk w' base N k M' rep gen nxt l :=
  ⟨h.blk.chg hc (hn 0 _ (by decide) rfl), h.hB, ownsRow_chg h.gown hc fun b e => hn 1 b (by decide) e, h.glen, fun y hy => (h.gent y hy).keep hc hS hM, h.oown.chgS hc fun b e => hn 2 b (by decide) e,
    ownsRow_chg h.mown hc fun b e => hn 3 b (by decide) e, h.mlen, fun y hy => ⟨(h.ment y hy).1, fun e => ((h.ment y hy).2 e).keep hc hS hM⟩⟩
theorem Ck.up (h : Ck w base N k M c L) (hb : Below w.heap.size w w') : Ck w' base N k M c L :=
  ⟨fun i a b => (h.lk i a b).keep (S := fun _ => False) (.of_below hb) (fun _ _ _ _ e => e.elim) (fun _ e => e.elim) fun _ e => .inl e, h.mm, fun b e => by have := h.mlt b e; have := hb.size; omega, h.dis⟩
theorem Ck.muM (h : Ck w base N k M c L) : ∀ b, Mu N k L b → M b := fun b ⟨i, t, a1, a2, a3, e⟩ => h.mm i t b a1 a2 a3 e
theorem Mu.mono {j : Nat} (h : Mu N k L y) (hj : j ≤ k) : Mu N j L y := by
  obtain ⟨i, t, a1, a2⟩ := h
  exact ⟨i, t, by omega, a2⟩
theorem Ck.above (h : Ck w base N k M c L) {j : Nat} (hj : k ≤ j) : Ck w base N j M c L :=
  ⟨fun i a b => h.lk i (by omega) b, fun i t b a1 a2 => h.mm i t b (by omega) a2, h.mlt, fun i t i' t' b a1 a2 a3 a4 => h.dis i t i' t' b (by omega) a2 a3 (by omega)⟩
theorem Gw.refl (w : World) (N k : Nat) (L : Nat → LK) (M : Nat → Prop) : Gw w w N k L L M M := ⟨.refl _ _, fun _ _ => rfl, fun _ => rfl, fun _ e => e, fun _ e => .inl e, fun _ e => .inl e⟩
theorem Gw.trans (h : Gw w w1 N k L L1 M M1) (h2 : Gw w1 w' N k L1 L' M1 M') : Gw w w' N k L L' M M' :=
  ⟨h.chg.trans h2.chg h.mu, fun i hi => (h2.keep i hi).trans (h.keep i hi), fun i => (h2.ptr i).trans (h.ptr i), fun b e => h2.mm b (h.mm b e), fun b e => by
    rcases h2.new_ b e with h3 | h3
    · exact h.new_ b h3
    · exact .inr (by have := h.chg.size; omega), fun b e => by
    rcases h2.mu b e with h3 | h3
    · exact h.mu b h3
    · exact .inr (by have := h.chg.size; omega)⟩
theorem Gw.of_below (h : Below w.heap.size w w') : Gw w w' N k L L M M := ⟨.of_below h, fun _ _ => rfl, fun _ => rfl, fun _ e => e, fun _ e => .inl e, fun _ e => .inl e⟩
theorem Rd.gw (h : Rd w M d p) (g : Gw w w' N k L L' M M') (hm : ∀ b, Mu N k L b → M b) : Rd w' M' d p := h.keep g.chg hm g.new_
/-- What a call on a later link leaves of this one. -/
theorem Gw.down (g : Gw w w' N (k + 1) L L' M M') (h : Ck w base N k M c L) : Gw w w' N k L L' M M' :=
  ⟨⟨g.chg.os, g.chg.tape, g.chg.output, g.chg.size, fun b hb hn => g.chg.block b hb fun e => hn (e.mono (by omega))⟩, fun i hi => g.keep i (by omega), g.ptr, g.mm, g.new_, fun b ⟨i, t, a1, a2, a3, e⟩ => by
    by_cases ei : i = k
    · subst ei
      rw [g.keep i (by omega)] at e
      exact .inl ⟨i, t, a1, a2, a3, e⟩
    · rcases g.mu b ⟨i, t, by omega, a2, a3, e⟩ with h3 | h3
      · exact .inl (h3.mono (by omega))
      · exact .inr h3⟩
theorem ptr_eq (e : ∀ i, (L' i).B = (L i).B) (i : Nat) : ptr N L' i = ptr N L i := by unfold ptr; rw [e]
theorem Ck.down (h : Ck w base N k M c L) (hk : k < N) (h' : Ck w' base N (k + 1) M' c' L') (g : Gw w w' N (k + 1) L L' M M') (er : c'.rep k = c.rep k) (eg : c'.gen k = c.gen k) : Ck w' base N k M' c' L' := by
  have hL : L' k = L k := g.keep k (by omega)
  have hnS : ∀ t b, t < 4 → mu (L k) t = some b → ¬ Mu N (k + 1) L b := fun t b ht e ⟨i, t', a1, a2, a3, e'⟩ => by
    have := (h.dis k t i t' b (Nat.le_refl _) hk ht (by omega) a2 a3 e e').1
    omega
  refine ⟨fun i a b => ?_, fun i t b a1 a2 a3 e => ?_, h'.mlt, fun i t i' t' b a1 a2 a3 a4 a5 a6 e e' => ?_⟩
  · by_cases ei : i = k
    · subst ei
      rw [er, eg, hL, ptr_eq g.ptr]
      exact (h.lk i (Nat.le_refl _) hk).keep g.chg hnS (fun b e => h.muM b (e.mono (by omega))) g.new_
    · exact h'.lk i (by omega) b
  · by_cases ei : i = k
    · subst ei
      rw [hL] at e
      exact g.mm b (h.mm i t b a1 a2 a3 e)
    · exact h'.mm i t b (by omega) a2 a3 e
  · have hx : ∀ i t t', k + 1 ≤ i → i < N → t < 4 → t' < 4 → mu (L' i) t = some b → mu (L k) t' = some b → False := fun i t t' b1 b2 b3 b4 e1 e2 => by
      rcases g.mu b ⟨i, t, b1, b2, b3, e1⟩ with h3 | h3
      · exact hnS t' b b4 e2 h3
      · have := (h.mlt b (h.mm k t' b (Nat.le_refl _) hk b4 e2)).2
        omega
    by_cases ei : i = k <;> by_cases ei' : i' = k
    · subst ei; subst ei'
      rw [hL] at e e'
      exact h.dis _ t _ t' b a1 a2 a3 a4 a5 a6 e e'
    · subst ei
      rw [hL] at e
      exact (hx i' t' t (by omega) a5 a6 a3 e' e).elim
    · subst ei'
      rw [hL] at e'
      exact (hx i t t' (by omega) a2 a3 a6 e e').elim
    · exact h'.dis i t i' t' b (by omega) a2 a3 (by omega) a5 a6 e e'

/-! ### one link turns -/
def upd (L : Nat → LK) (k : Nat) (l : LK) : Nat → LK := fun i => if i = k then l else L i
theorem upd_at : upd L k l k = l := if_pos rfl
theorem upd_ne (h : i ≠ k) : upd L k l i = L i := if_neg h
theorem upd_B (hB : l.B = (L k).B) : ∀ i, (upd L k l i).B = (L i).B := fun i => by
  unfold upd
  by_cases e : i = k
  · rw [if_pos e, hB, e]
  · rw [if_neg e]
theorem Ck.upd (h : Ck w base N k M c L) (hk : k < N) (hc : Chg w w' S) (hS : ∀ b, S b → ∃ t, t < 4 ∧ mu (L k) t = some b) (hM2 : ∀ b, M' b → M b ∨ (w.heap.size ≤ b ∧ b < w'.heap.size)) (hMM : ∀ b, M b → M' b)
    (hl : Lk w' base N k M' (c'.rep k) (c'.gen k) (ptr N L (k + 1)) l') (hB : l'.B = (L k).B) (ht : ∀ t b, t < 4 → mu l' t = some b → (mu (L k) t = some b ∨ w.heap.size ≤ b) ∧ M' b)
    (hd : ∀ t t' b, t < 4 → t' < 4 → mu l' t = some b → mu l' t' = some b → t = t') (he : ∀ i, k < i → c'.rep i = c.rep i ∧ c'.gen i = c.gen i) : Ck w' base N k M' c' (Proofs.Ytcjcmhoalomjfab.upd L k l') ∧ Gw w w' N k L (Proofs.Ytcjcmhoalomjfab.upd L k l') M M' := by
  have hSM : ∀ b, S b → M b := fun b e => by
    obtain ⟨t, a, e⟩ := hS b e
    exact h.mm k t b (Nat.le_refl _) hk a e
  have hM3 : ∀ b, M' b → M b ∨ w.heap.size ≤ b := fun b e => by
    rcases hM2 b e with h | h
    · exact .inl h
    · exact .inr h.1
  have hbs : base ≤ w.heap.size := by
    have := h.mlt _ (h.mm k 0 _ (Nat.le_refl _) hk (by decide) rfl); omega
  have hx : ∀ i t t' b, k < i → i < N → t < 4 → t' < 4 → mu (L i) t = some b → mu l' t' = some b → False := fun i t t' b b1 b2 b3 b4 e1 e2 => by
    rcases (ht t' b b4 e2).1 with h3 | h3
    · have := (h.dis i t k t' b (by omega) b2 b3 (Nat.le_refl _) hk b4 e1 h3).1
      omega
    · have := (h.mlt b (h.mm i t b (by omega) b2 b3 e1)).2
      omega
  refine ⟨⟨fun i a b => ?_, fun i t b a1 a2 a3 e => ?_, fun b e => ?_, fun i t i' t' b a1 a2 a3 a4 a5 a6 e e' => ?_⟩, ⟨⟨hc.os, hc.tape, hc.output, hc.size, fun b hb hn => hc.block b hb fun e => hn ?_⟩, fun i hi => upd_ne (by omega), upd_B hB, hMM, hM3, fun b ⟨i, t, a1, a2, a3, e⟩ => ?_⟩⟩
  · rw [ptr_eq (upd_B hB)]
    by_cases ei : i = k
    · subst ei; rw [upd_at]; exact hl
    · rw [upd_ne ei, (he i (by omega)).1, (he i (by omega)).2]
      refine (h.lk i a b).keep hc (fun t b' t4 e hs => ?_) hSM hM3
      obtain ⟨t', a', e'⟩ := hS b' hs
      exact ei (h.dis i t k t' b' a b t4 (Nat.le_refl _) hk a' e e').1
  · by_cases ei : i = k
    · subst ei; rw [upd_at] at e; exact (ht t b a3 e).2
    · rw [upd_ne ei] at e; exact hMM b (h.mm i t b a1 a2 a3 e)
  · have := hc.size
    rcases hM2 b e with h3 | h3
    · have := h.mlt b h3; omega
    · omega
  · by_cases ei : i = k <;> by_cases ei' : i' = k
    · subst ei; subst ei'
      rw [upd_at] at e e'
      exact ⟨rfl, hd t t' b a3 a6 e e'⟩
    · subst ei
      rw [upd_at] at e
      rw [upd_ne ei'] at e'
      exact (hx i' t' t b (by omega) a5 a6 a3 e' e).elim
    · subst ei'
      rw [upd_at] at e'
      rw [upd_ne ei] at e
      exact (hx i t t' b (by omega) a2 a3 a6 e e').elim
    · rw [upd_ne ei] at e
      rw [upd_ne ei'] at e'
      exact h.dis i t i' t' b a1 a2 a3 a4 a5 a6 e e'
  · obtain ⟨t, a, e⟩ := hS b e
    exact ⟨k, t, Nat.le_refl _, hk, a, e⟩
  · by_cases ei : i = k
    · subst ei
      rw [upd_at] at e
      rcases (ht t b a3 e).1 with h3 | h3
      · exact .inl ⟨i, t, a1, a2, a3, h3⟩
      · exact .inr h3
    · rw [upd_ne ei] at e
      exact .inl ⟨i, t, a1, a2, a3, e⟩
/-- A mover is stored. -/
theorem Ck.store (h : Ck w base N k M c L) (hk : k < N) (hy : y < N) (hd : Rd w M d q) (hq : q ≠ []) :
    Ck (w.setCell ⟨(L k).mb, y, none⟩ (sval d)) base N k M (c.set k y q) (Proofs.Ytcjcmhoalomjfab.upd L k { L k with en := (L k).en.set y d }) ∧ Gw w (w.setCell ⟨(L k).mb, y, none⟩ (sval d)) N k L (Proofs.Ytcjcmhoalomjfab.upd L k { L k with en := (L k).en.set y d }) M M := by
  have hl := h.lk k (Nat.le_refl _) hk
  obtain ⟨hown, hgr⟩ := hl.mown.stored y (sval d)
  have hc : Chg w (w.setCell ⟨(L k).mb, y, none⟩ (sval d)) (fun b => b = (L k).mb) := .of_grown hgr (by intro b e; injection e with e; exact e.symm)
  have hSM : ∀ b, b = (L k).mb → M b := fun b e => h.mm k 3 b (Nat.le_refl _) hk (by decide) (by rw [e]; rfl)
  have hne : ∀ t b, t < 3 → mu (L k) t = some b → ¬ b = (L k).mb := fun t b ht e e2 => by
    have := (h.dis k t k 3 b (Nat.le_refl _) hk (by omega) (Nat.le_refl _) hk (by decide) e (by rw [e2]; rfl)).2
    omega
  refine h.upd hk hc (fun b e => ⟨3, by decide, by rw [e]; rfl⟩) (fun b e => .inl e) (fun b e => e) ?_ rfl (fun t b ht e => ⟨.inl (by rcases t with _ | _ | _ | t <;> exact e), h.mm k t b (Nat.le_refl _) hk ht (by rcases t with _ | _ | _ | t <;> exact e)⟩)
    (fun t t' b a1 a2 e e' => (h.dis k t k t' b (Nat.le_refl _) hk a1 (Nat.le_refl _) hk a2 (by rcases t with _ | _ | _ | t <;> exact e) (by rcases t' with _ | _ | _ | t' <;> exact e')).2) (fun i hi => ⟨funext fun z => set_ne (.inl (by omega)), rfl⟩)
  refine ⟨hl.blk.chg hc (hne 0 _ (by decide) rfl), hl.hB, ownsRow_chg hl.gown hc fun b e => hne 1 b (by decide) e, hl.glen, fun z hz => (hl.gent z hz).keep hc hSM fun _ e => .inl e, hl.oown.chgS hc fun b e => hne 2 b (by decide) e, ?_, ?_, fun z hz => ?_⟩
  · rw [List.map_set]; exact hown
  · rw [List.length_set]; exact hl.mlen
  · show ((c.set k y q).rep k z = [] → ((L k).en.set y d).getD z sd0 = sd0) ∧ ((c.set k y q).rep k z ≠ [] → Rd _ M (((L k).en.set y d).getD z sd0) ((c.set k y q).rep k z))
    by_cases e : z = y
    · subst e
      rw [set_at, getD_set_eq (by rw [hl.mlen]; exact hz)]
      exact ⟨fun e => absurd e hq, fun _ => hd.keep hc hSM fun _ e => .inl e⟩
    · rw [set_ne (.inr e), getD_set_ne (fun e2 => e e2.symm)]
      exact ⟨(hl.ment z hz).1, fun e => ((hl.ment z hz).2 e).keep hc hSM fun _ e => .inl e⟩
/-- A point is appended to the orbit; the slice is stored. -/
theorem Ck.orbit (h : Ck w base N k M c L) (hk : k < N) (bA : Below w.heap.size w w1) {w2 : World} {A : Option Addr} {n cc : Nat} (hg : w1.grownBy w2 (sval (L k).o).ownBlock) (hown : Slc w2 base A n cc (ofP (L k).orb ++ [(y : Int)]))
    (hat : (Value.slice A n cc).ownBlock = (sval (L k).o).ownBlock ∨ (Value.slice A n cc).ownBlock = some w1.heap.size) :
    ∃ M', Ck (w2.setCell ⟨(L k).B, 2, none⟩ (.slice A n cc)) base N k M' c (Proofs.Ytcjcmhoalomjfab.upd L k { L k with o := (A, n, cc), orb := (L k).orb ++ [y] }) ∧ Gw w (w2.setCell ⟨(L k).B, 2, none⟩ (.slice A n cc)) N k L (Proofs.Ytcjcmhoalomjfab.upd L k { L k with o := (A, n, cc), orb := (L k).orb ++ [y] }) M M' := by
  have hl := h.lk k (Nat.le_refl _) hk
  have hz1 := bA.size
  have hz2 := hg.size
  have hBlt := hl.blk.lt
  have c1 : Chg w w2 (fun b => (sval (L k).o).ownBlock = some b) := (Chg.of_below (M := fun b => (sval (L k).o).ownBlock = some b) bA).trans (.of_grown (M := fun b => (sval (L k).o).ownBlock = some b) hg fun b e => e) fun b e => .inl e
  have hoB : ∀ b, (Value.slice A n cc).ownBlock = some b → b ≠ (L k).B := fun b e e2 => by
    rcases hat with ha | ha
    · rw [ha] at e
      have := (h.dis k 2 k 0 b (Nat.le_refl _) hk (by decide) (Nat.le_refl _) hk (by decide) e (by rw [e2]; rfl)).2
      omega
    · rw [ha] at e; injection e with e; omega
  have c2 : Chg w2 (w2.setCell ⟨(L k).B, 2, none⟩ (.slice A n cc)) (fun b => b = (L k).B) := ⟨rfl, rfl, rfl, by simp, fun b hb hn => heap_setCell_other w2 ⟨(L k).B, 2, none⟩ _ _ fun e => hn e⟩
  have hc : Chg w (w2.setCell ⟨(L k).B, 2, none⟩ (.slice A n cc)) (fun b => (sval (L k).o).ownBlock = some b ∨ b = (L k).B) :=
    (⟨c1.os, c1.tape, c1.output, c1.size, fun b hb hn => c1.block b hb fun e => hn (.inl e)⟩ : Chg w w2 (fun b => (sval (L k).o).ownBlock = some b ∨ b = (L k).B)).trans c2 fun b e => .inl (.inr e)
  have hSM : ∀ b, ((sval (L k).o).ownBlock = some b ∨ b = (L k).B) → M b := fun b e => by
    rcases e with e | e
    · exact h.mm k 2 b (Nat.le_refl _) hk (by decide) e
    · exact h.mm k 0 b (Nat.le_refl _) hk (by decide) (by rw [e]; rfl)
  have hnS : ∀ t b, t = 1 ∨ t = 3 → mu (L k) t = some b → ¬ ((sval (L k).o).ownBlock = some b ∨ b = (L k).B) := fun t b ht e hs => by
    rcases hs with hs | hs
    · have := (h.dis k t k 2 b (Nat.le_refl _) hk (by omega) (Nat.le_refl _) hk (by decide) e hs).2
      omega
    · have := (h.dis k t k 0 b (Nat.le_refl _) hk (by omega) (Nat.le_refl _) hk (by decide) e (by rw [hs]; rfl)).2
      omega
  have hw2 : w2.heap.size = (w2.setCell ⟨(L k).B, 2, none⟩ (.slice A n cc)).heap.size := by simp
  have hM' : ∀ b, (M b ∨ (Value.slice A n cc).ownBlock = some b) → M b ∨ (w.heap.size ≤ b ∧ b < (w2.setCell ⟨(L k).B, 2, none⟩ (.slice A n cc)).heap.size) := fun b e => by
    rcases e with e | e
    · exact .inl e
    · rcases hat with ha | ha
      · rw [ha] at e; exact .inl (h.mm k 2 b (Nat.le_refl _) hk (by decide) e)
      · have hlt := (hown.lt_ b e).2
        rw [ha] at e; injection e with e
        exact .inr ⟨by omega, by rw [← hw2]; exact hlt⟩
  have hM3 : ∀ b, (M b ∨ (Value.slice A n cc).ownBlock = some b) → M b ∨ w.heap.size ≤ b := fun b e => by
    rcases hM' b e with h | h
    · exact .inl h
    · exact .inr h.1
  refine ⟨fun b => M b ∨ (Value.slice A n cc).ownBlock = some b, h.upd hk hc (fun b e => ?_) hM' (fun b e => .inl e) ?_ rfl (fun t b ht e => ?_) (fun t t' b a1 a2 e e' => ?_) (fun i _ => ⟨rfl, rfl⟩)⟩
  · rcases e with e | e
    · exact ⟨2, by decide, e⟩
    · exact ⟨0, by decide, by rw [e]; rfl⟩
  · refine ⟨?_, hl.hB, ownsRow_chg hl.gown hc fun b e => hnS 1 b (.inl rfl) e, hl.glen, fun z hz => (hl.gent z hz).keep hc hSM hM3, ?_, ownsRow_chg hl.mown hc fun b e => hnS 3 b (.inr rfl) e, hl.mlen, fun z hz => ⟨(hl.ment z hz).1, fun e => ((hl.ment z hz).2 e).keep hc hSM hM3⟩⟩
    · have b2 : Blk w2 (L k).B 69 #[.int .i64 (k : Nat), sval (L k).g, sval (L k).o, .slice (some ⟨(L k).mb, 0, none⟩) N N, ptr N L (k + 1)] := hl.blk.chg c1 fun e => by
        have := (h.dis k 2 k 0 _ (Nat.le_refl _) hk (by decide) (Nat.le_refl _) hk (by decide) e rfl).2
        omega
      have := b2.set_ 2 (.slice A n cc)
      simpa [sval] using this
    · have e1 : ofP ((L k).orb ++ [y]) = ofP (L k).orb ++ [(y : Int)] := ofP_snoc _ _
      show Slc _ base A n cc (ofP ((L k).orb ++ [y]))
      rw [e1]
      exact hown.chgS c2 hoB
  · have hold : t ≠ 2 → mu (L k) t = some b := fun ne => by
      rcases t with _ | _ | _ | t
      · exact e
      · exact e
      · exact absurd rfl ne
      · exact e
    by_cases e2 : t = 2
    · subst e2
      have e : (Value.slice A n cc).ownBlock = some b := e
      refine ⟨?_, .inr e⟩
      rcases hat with ha | ha
      · rw [ha] at e; exact .inl e
      · rw [ha] at e; injection e with e; exact .inr (by omega)
    · exact ⟨.inl (hold e2), .inl (h.mm k t b (Nat.le_refl _) hk ht (hold e2))⟩
  · have hold : ∀ t, t < 4 → mu { L k with o := (A, n, cc), orb := (L k).orb ++ [y] } t = some b → mu (L k) t = some b ∨ (t = 2 ∧ w.heap.size ≤ b) := fun t ht e => by
      rcases t with _ | _ | _ | t
      · exact .inl e
      · exact .inl e
      · have e : (Value.slice A n cc).ownBlock = some b := e
        rcases hat with ha | ha
        · rw [ha] at e; exact .inl e
        · rw [ha] at e; injection e with e; exact .inr ⟨rfl, by omega⟩
      · exact .inl e
    have hmx : ∀ t, t < 4 → mu (L k) t = some b → b < w.heap.size := fun t ht e => (h.mlt b (h.mm k t b (Nat.le_refl _) hk ht e)).2
    rcases hold t a1 e with h1 | ⟨h1, h2⟩ <;> rcases hold t' a2 e' with h3 | ⟨h3, h4⟩
    · exact (h.dis k t k t' b (Nat.le_refl _) hk a1 (Nat.le_refl _) hk a2 h1 h3).2
    · have := hmx t a1 h1; omega
    · have := hmx t' a2 h3; omega
    · omega
/-- A generator is appended; the slice is stored. -/
theorem Ck.pushg (h : Ck w base N k M c L) (hk : k < N) (bA : Below w.heap.size w w1) {w2 : World} {A : Option Addr} {n cc : Nat} (hg : w1.grownBy w2 (sval (L k).g).ownBlock) (hown : w2.ownsRow base 47 1 (.slice A n cc) ((c.gen k).length + 1) ((L k).ge.map sval ++ [sval d]))
    (hat : (Value.slice A n cc).ownBlock = (sval (L k).g).ownBlock ∨ (Value.slice A n cc).ownBlock = some w1.heap.size) (hd : Rd w M d q) :
    ∃ M', Ck (w2.setCell ⟨(L k).B, 1, none⟩ (.slice A n cc)) base N k M' (c.push k q) (Proofs.Ytcjcmhoalomjfab.upd L k { L k with g := (A, n, cc), ge := (L k).ge ++ [d] }) ∧ Gw w (w2.setCell ⟨(L k).B, 1, none⟩ (.slice A n cc)) N k L (Proofs.Ytcjcmhoalomjfab.upd L k { L k with g := (A, n, cc), ge := (L k).ge ++ [d] }) M M' := by
  have hl := h.lk k (Nat.le_refl _) hk
  have hz1 := bA.size
  have hz2 := hg.size
  have hBlt := hl.blk.lt
  have c1 : Chg w w2 (fun b => (sval (L k).g).ownBlock = some b) := (Chg.of_below (M := fun b => (sval (L k).g).ownBlock = some b) bA).trans (.of_grown (M := fun b => (sval (L k).g).ownBlock = some b) hg fun b e => e) fun b e => .inl e
  have hoB : ∀ b, (Value.slice A n cc).ownBlock = some b → b ≠ (L k).B := fun b e e2 => by
    rcases hat with ha | ha
    · rw [ha] at e
      have := (h.dis k 1 k 0 b (Nat.le_refl _) hk (by decide) (Nat.le_refl _) hk (by decide) e (by rw [e2]; rfl)).2
      omega
    · rw [ha] at e; injection e with e; omega
  have c2 : Chg w2 (w2.setCell ⟨(L k).B, 1, none⟩ (.slice A n cc)) (fun b => b = (L k).B) := ⟨rfl, rfl, rfl, by simp, fun b hb hn => heap_setCell_other w2 ⟨(L k).B, 1, none⟩ _ _ fun e => hn e⟩
  have hc : Chg w (w2.setCell ⟨(L k).B, 1, none⟩ (.slice A n cc)) (fun b => (sval (L k).g).ownBlock = some b ∨ b = (L k).B) :=
    (⟨c1.os, c1.tape, c1.output, c1.size, fun b hb hn => c1.block b hb fun e => hn (.inl e)⟩ : Chg w w2 (fun b => (sval (L k).g).ownBlock = some b ∨ b = (L k).B)).trans c2 fun b e => .inl (.inr e)
  have hSM : ∀ b, ((sval (L k).g).ownBlock = some b ∨ b = (L k).B) → M b := fun b e => by
    rcases e with e | e
    · exact h.mm k 1 b (Nat.le_refl _) hk (by decide) e
    · exact h.mm k 0 b (Nat.le_refl _) hk (by decide) (by rw [e]; rfl)
  have hnS : ∀ t b, t = 2 ∨ t = 3 → mu (L k) t = some b → ¬ ((sval (L k).g).ownBlock = some b ∨ b = (L k).B) := fun t b ht e hs => by
    rcases hs with hs | hs
    · have := (h.dis k t k 1 b (Nat.le_refl _) hk (by omega) (Nat.le_refl _) hk (by decide) e hs).2
      omega
    · have := (h.dis k t k 0 b (Nat.le_refl _) hk (by omega) (Nat.le_refl _) hk (by decide) e (by rw [hs]; rfl)).2
      omega
  have hw2 : w2.heap.size = (w2.setCell ⟨(L k).B, 1, none⟩ (.slice A n cc)).heap.size := by simp
  have hM' : ∀ b, (M b ∨ (Value.slice A n cc).ownBlock = some b) → M b ∨ (w.heap.size ≤ b ∧ b < (w2.setCell ⟨(L k).B, 1, none⟩ (.slice A n cc)).heap.size) := fun b e => by
    rcases e with e | e
    · exact .inl e
    · rcases hat with ha | ha
      · rw [ha] at e; exact .inl (h.mm k 1 b (Nat.le_refl _) hk (by decide) e)
      · have hlt := (World.ownsRow.lt hown b e).2
        rw [ha] at e; injection e with e
        exact .inr ⟨by omega, by rw [← hw2]; exact hlt⟩
  have hM3 : ∀ b, (M b ∨ (Value.slice A n cc).ownBlock = some b) → M b ∨ w.heap.size ≤ b := fun b e => by
    rcases hM' b e with h | h
    · exact .inl h
    · exact .inr h.1
  refine ⟨fun b => M b ∨ (Value.slice A n cc).ownBlock = some b, h.upd hk hc (fun b e => ?_) hM' (fun b e => .inl e) ?_ rfl (fun t b ht e => ?_) (fun t t' b a1 a2 e e' => ?_) (fun i hi => ⟨rfl, push_ne (by omega)⟩)⟩
  · rcases e with e | e
    · exact ⟨1, by decide, e⟩
    · exact ⟨0, by decide, by rw [e]; rfl⟩
  · rw [push_at]
    refine ⟨?_, hl.hB, ?_, by simp [hl.glen], fun z hz => ?_, hl.oown.chgS hc fun b e => hnS 2 b (.inl rfl) e, ownsRow_chg hl.mown hc fun b e => hnS 3 b (.inr rfl) e, hl.mlen, fun z hz => ⟨(hl.ment z hz).1, fun e => ((hl.ment z hz).2 e).keep hc hSM hM3⟩⟩
    · have b2 : Blk w2 (L k).B 69 #[.int .i64 (k : Nat), sval (L k).g, sval (L k).o, .slice (some ⟨(L k).mb, 0, none⟩) N N, ptr N L (k + 1)] := hl.blk.chg c1 fun e => by
        have := (h.dis k 1 k 0 _ (Nat.le_refl _) hk (by decide) (Nat.le_refl _) hk (by decide) e rfl).2
        omega
      have := b2.set_ 1 (.slice A n cc)
      simpa [sval] using this
    · rw [List.length_append, List.map_append]
      exact ownsRow_chg hown c2 hoB
    · show Rd _ _ (((L k).ge ++ [d]).getD z sd0) ((c.gen k ++ [q]).getD z [])
      have hz : z < (c.gen k).length + 1 := by simpa using hz
      by_cases ez : z < (c.gen k).length
      · rw [getD_app _ _ _ z (by rw [hl.glen]; exact ez), getD_app _ _ _ z ez]
        exact (hl.gent z ez).keep hc hSM hM3
      · have ez2 : z = (c.gen k).length := by omega
        rw [getD_snoc _ _ _ z (by rw [hl.glen]; exact ez2), getD_snoc _ _ _ z ez2]
        exact hd.keep hc hSM hM3
  · have hold : t ≠ 1 → mu (L k) t = some b := fun ne => by
      rcases t with _ | _ | _ | t
      · exact e
      · exact absurd rfl ne
      · exact e
      · exact e
    by_cases e2 : t = 1
    · subst e2
      have e : (Value.slice A n cc).ownBlock = some b := e
      refine ⟨?_, .inr e⟩
      rcases hat with ha | ha
      · rw [ha] at e; exact .inl e
      · rw [ha] at e; injection e with e; exact .inr (by omega)
    · exact ⟨.inl (hold e2), .inl (h.mm k t b (Nat.le_refl _) hk ht (hold e2))⟩
  · have hold : ∀ t, t < 4 → mu { L k with g := (A, n, cc), ge := (L k).ge ++ [d] } t = some b → mu (L k) t = some b ∨ (t = 1 ∧ w.heap.size ≤ b) := fun t ht e => by
      rcases t with _ | _ | _ | t
      · exact .inl e
      · have e : (Value.slice A n cc).ownBlock = some b := e
        rcases hat with ha | ha
        · rw [ha] at e; exact .inl e
        · rw [ha] at e; injection e with e; exact .inr ⟨rfl, by omega⟩
      · exact .inl e
      · exact .inl e
    have hmx : ∀ t, t < 4 → mu (L k) t = some b → b < w.heap.size := fun t ht e => (h.mlt b (h.mm k t b (Nat.le_refl _) hk ht e)).2
    rcases hold t a1 e with h1 | ⟨h1, h2⟩ <;> rcases hold t' a2 e' with h3 | ⟨h3, h4⟩
    · exact (h.dis k t k t' b (Nat.le_refl _) hk a1 (Nat.le_refl _) hk a2 h1 h3).2
    · have := hmx t a1 h1; omega
    · have := hmx t' a2 h3; omega
    · omega
/-! ### reading a link -/
theorem Ck.cB (h : Ck w base N k M c L) (hi : k ≤ i) (hN : i < N) : w.cell? ⟨(L i).B, 0, none⟩ = some (.int .i64 (i : Nat)) ∧ w.cell? ⟨(L i).B, 1, none⟩ = some (sval (L i).g) ∧ w.cell? ⟨(L i).B, 2, none⟩ = some (sval (L i).o) ∧ w.cell? ⟨(L i).B, 3, none⟩ = some (.slice (some ⟨(L i).mb, 0, none⟩) N N) ∧ w.cell? ⟨(L i).B, 4, none⟩ = some (ptr N L (i + 1)) :=
  have b := (h.lk i hi hN).blk
  ⟨b.cell 0, b.cell 1, b.cell 2, b.cell 3, b.cell 4⟩
theorem Ck.cM (h : Ck w base N k M c L) (hi : k ≤ i) (hN : i < N) (hy : y < N) : w.cell? ⟨(L i).mb, y, none⟩ = some (sval ((L i).en.getD y sd0)) := by
  have hl := h.lk i hi hN
  rw [hl.mown.cellAt y (by omega), ents_at (by rw [hl.mlen]; exact hy)]
theorem Ck.eM (h : Ck w base N k M c L) (hi : k ≤ i) (hN : i < N) (hy : y < N) : (c.rep i y = [] → (L i).en.getD y sd0 = sd0) ∧ (c.rep i y ≠ [] → Rd w M ((L i).en.getD y sd0) (c.rep i y)) := (h.lk i hi hN).ment y hy
theorem Ck.olen (h : Ck w base N k M c L) (hi : k ≤ i) (hN : i < N) : (L i).o.2.1 = (L i).orb.length := by
  rw [← (h.lk i hi hN).oown.1, ofP_len]
theorem ofP_at {xs : List Nat} {j : Nat} (hj : j < xs.length) : (ofP xs).getD j 0 = ((xs.getD j 0 : Nat) : Int) := by
  rw [List.getD_eq_getElem?_getD, List.getD_eq_getElem?_getD, ofP, List.getElem?_map, List.getElem?_eq_getElem hj]; rfl
/-- The j-th point of an orbit. -/
theorem Ck.cO (h : Ck w base N k M c L) (hi : k ≤ i) (hN : i < N) {j : Nat} (hj : j < (L i).orb.length) : ∃ ob oc, (L i).o = (some ⟨ob, 0, none⟩, (L i).orb.length, oc) ∧ w.cell? ⟨ob, j, none⟩ = some (.int .i64 (((L i).orb.getD j 0 : Nat) : Int)) := by
  have ho := (h.lk i hi hN).oown
  rcases he : (L i).o with ⟨A, n, cc⟩
  rw [he] at ho
  have e1 : n = (L i).orb.length := by have h3 := ho.1; rw [ofP_len] at h3; exact h3.symm
  subst e1
  rcases ho.at_ with ⟨_, e, _⟩ | ⟨g, e, _, _⟩
  · have := ofP_len (L i).orb; rw [e] at this; simp at this; omega
  · have e : A = some ⟨g, 0, none⟩ := e
    subst e
    refine ⟨g, cc, rfl, ?_⟩
    obtain ⟨b, off, e2, _, hc⟩ := ho.ri_ (by rw [ofP_len]; omega)
    injection e2 with e2
    injection e2 with e3 e4
    subst e3; subst e4
    have := hc j (by rw [ofP_len]; exact hj)
    rw [ofP_at hj, Nat.zero_add] at this
    exact this
/-- The j-th generator of a link. -/
theorem Ck.cG (h : Ck w base N k M c L) (hi : k ≤ i) (hN : i < N) {j : Nat} (hj : j < (c.gen i).length) : ∃ q cq, (L i).g = (some ⟨q, 0, none⟩, (c.gen i).length, cq) ∧ (c.gen i).length ≤ cq ∧ w.cell? ⟨q, j, none⟩ = some (sval ((L i).ge.getD j sd0)) ∧ Rd w M ((L i).ge.getD j sd0) ((c.gen i).getD j []) := by
  have hl := h.lk i hi hN
  have ho := hl.gown
  rcases he : (L i).g with ⟨a, b, d⟩
  rw [he] at ho
  rcases ho.2 with ⟨e, h0⟩ | ⟨g', cap, cur, e, _, _, hcap, _⟩
  · omega
  · unfold sval at e; injection e with e1 e2 e3
    subst e1 e2 e3
    refine ⟨g', _, rfl, hcap, ?_, hl.gent j hj⟩
    have ho : w.ownsRow base 47 1 (.slice (some ⟨g', 0, none⟩) (c.gen i).length d) (c.gen i).length ((L i).ge.map sval) := ho
    rw [ho.cellAt j (by omega), ents_at (by rw [hl.glen]; exact hj)]
theorem rd_not0 (h : Rd w M d p) (hp : p ≠ []) : ∃ b off, d.1 = some ⟨b, off, none⟩ := by
  obtain ⟨b, off, e, _⟩ := h.at_ (by
    rcases p with _ | ⟨x, t⟩
    · exact absurd rfl hp
    · simp)
  exact ⟨b, off, e⟩
end
end Go.Proofs.Ytcjcmhoalomjfab

/- The program's search in its chain: slices.Index, withValue, match, contains. Conditions: at most 20 points; the chain whole from the link on. -/
namespace Go.Proofs.Ytcjcmhoalomjfab
open Go.RowKit

theorem pcDrewBelow (w : World) (k : Nat) : Below w.heap.size w (w.drewN k) := ⟨rfl, rfl, rfl, Nat.le_refl _, fun _ _ => rfl⟩

/-- slices.Index. -/
theorem implIdx (A : Option Addr) (n c : Nat) (p : List Int) (v : Int) (w : World) (hp : RI w w.heap.size A p) (lp : Hid (p.length = n)) (hn : n ≤ 20) :
    Calls Try.prog 120 #[.slice A n c, .int .i64 v] w fun e w' => ∃ r : Int, e = .returned (.int .i64 r) ∧ ((∃ y : Nat, r = (y : Int) ∧ y < n ∧ p.getD y 0 = v) ∨ (r = -1 ∧ ∀ y, y < n → p.getD y 0 ≠ v)) ∧ w = w' := by
  go_enter Try.func120, Try.ntmps120
  go_wp2_with fail
  go_loopw [8] (fun i wr => ∃ k : Nat, k ≤ n ∧ i = .int .i64 (k : Nat) ∧ (∀ y, y < k → p.getD y 0 ≠ v) ∧ w = wr) (fun i _ => n - (intOf i).toNat)
  case atStart => exact ⟨0, Nat.zero_le _, rfl, fun y h => absurd h (by omega), rfl⟩
  case round =>
    obtain ⟨k, hk, rfl, hno, rfl⟩ := hrel
    have Hno := Lib.hid hno
    clear hno
    by_cases hlt : k < n
    · obtain ⟨b, off, rfl, hb, hc⟩ := hp (by rw [lp.out]; omega)
      have c1 := hc k (by rw [lp.out]; omega)
      obtain ⟨y, ey⟩ : ∃ y, p.getD k 0 = y := ⟨_, rfl⟩
      rw [ey] at c1
      have Ey := Lib.hid ey
      have p1 : (0 : Int) ≤ k := by omega
      have p2 : (k : Int) < n := by omega
      clear ey hc hp
      by_cases hv : v = y
      · subst hv
        go_wp2_with fail
        go_ret
        exact ⟨_, rfl, .inl ⟨k, rfl, hlt, Ey.out⟩, rfl⟩
      · have d1 : (v == y) = false := by simpa using hv
        have Hv := Lib.hid hv
        clear hv
        go_wp2_with fail
        go_roundw
        case rel => exact ⟨k + 1, by omega, by go_num, fun z hz => by
          rcases Nat.lt_or_ge z k with h | h
          · exact Hno.out z h
          · obtain rfl : z = k := by omega
            rw [Ey.out]; exact fun e => Hv.out e.symm, trivial⟩
        case measure => simp [intOf]; omega
    · obtain rfl : k = n := by omega
      go_wp2_with fail
      go_ret
      exact ⟨_, rfl, .inr ⟨rfl, Hno.out⟩, rfl⟩

set_option maxHeartbeats 2000000 in
set_option maxRecDepth 100000 in
/-- withValue at link j. -/
theorem implWith (base N k j cp : Nat) (M : Nat → Prop) (c : Ch) (L : Nat → LK) (A : Option Addr) (m : List Int) (v : Int) (w : World) (hc : Ck w base N k M c L) (hkj : k ≤ j) (hjN : j < N) (hr : Hid (RepOK N c j)) (hm : RI w w.heap.size A m) (hP : Hid (Pn N m)) :
    Calls Try.prog 94 #[.pointer (some ⟨(L j).B, 0, none⟩), .slice A N cp, .int .i64 v] w fun e w' => ∃ (A' : Option Addr) (n' c' : Nat), e = .returned (.slice A' n' c') ∧
      ((A' = none ∧ n' = 0 ∧ c' = 0 ∧ ∀ y, y < N → (nx m y : Int) = v → c.rep j y = []) ∨ (∃ g y, A' = some ⟨g, 0, none⟩ ∧ n' = N ∧ y < N ∧ (nx m y : Int) = v ∧ c.rep j y ≠ [] ∧ Slc w' w.heap.size A' N c' (compL (c.rep j y) m))) ∧ Below w.heap.size w w' := by
  have q24 : ∀ (w : World) (a : Option Addr) (n c n' c' : Nat), (binOp .eql 47 (.slice a n c) (.slice none n' c')).run Try.prog w = .ok (.bool a.isNone) w := fun w a n c n' c' => Lib.run_eql_slice_nil w _ _ a n c n' c' Try.underlying47
  have HC := Lib.hid hc
  have HM := Lib.hid hm
  have hN := hP.out.pos
  have cb := hc.cB hkj hjN
  obtain ⟨x0, x1, x2, x3, x4⟩ := cb
  clear hc hm x0 x1 x2 x4
  have hv : ∀ y, y < N → m.getD y 0 = (nx m y : Int) := fun y hy => nx_val hP.out.1 (by rw [hP.out.2]; exact hy)
  have Hv := Lib.hid hv
  clear hv
  go_enter Try.func94, Try.ntmps94
  go_wp2_with fail
  refine (implIdx A N cp m v w HM.out (Lib.hid hP.out.2) hN.2).mono ?_
  rintro e w1 ⟨r, rfl, hyr, rfl⟩
  rcases hyr with ⟨y, rfl, hy, hyv⟩ | ⟨rfl, hno⟩
  · rw [Hv.out y hy] at hyv
    have Yv := Lib.hid hyv
    have x5 := HC.out.cM hkj hjN hy
    have em := HC.out.eM hkj hjN hy
    have d0 : decide ((y : Int) < 0) = false := by simp
    have p0 : (0 : Int) ≤ y := by omega
    have p1 : (y : Int) < N := by omega
    clear hyv
    by_cases hz : c.rep j y = []
    · rw [em.1 hz] at x5
      have Hz := Lib.hid hz
      simp only [sval, sd0] at x5
      clear em hz
      go_wp2_with fail
      go_ret
      exact ⟨_, _, _, rfl, .inl ⟨rfl, rfl, rfl, fun z hzN e => by
        have : z = y := hP.out.inj hzN hy (by have := Yv.out; omega)
        rw [this]; exact Hz.out⟩, Below.refl _ _⟩
    · have hrd := em.2 hz
      have RP := Lib.hid (hr.out.at_ y hz).2.1
      rcases hd : (L j).en.getD y sd0 with ⟨dA, dn, dc⟩
      rw [hd] at x5 hrd
      obtain ⟨b, off, e⟩ := rd_not0 hrd hz
      have e : dA = some ⟨b, off, none⟩ := e
      subst e
      obtain rfl : dn = N := by have h3 : (c.rep j y).length = dn := hrd.len; have := RP.out.2; omega
      have Rr := Lib.hid hrd.ri
      have Hz := Lib.hid hz
      simp only [sval] at x5
      clear em hz hrd hd
      go_wp2_with fail
      refine (implThen (some ⟨b, off, none⟩) A dc cp dn (c.rep j y) m w Rr.out HM.out (Lib.hid RP.out.2) (Lib.hid hP.out.2) (Lib.hid RP.out.1) hN.2).mono ?_
      rintro e w2 ⟨A2, c2, rfl, s2, b2⟩
      have S2 := Lib.hid s2
      have B2 := Lib.hid b2
      clear s2 b2
      go_wp2_with fail
      go_ret
      refine ⟨_, _, _, rfl, .inr ?_, B2.out⟩
      rcases S2.out.at_ with ⟨_, _, h0, _⟩ | ⟨g, rfl, _, _⟩
      · omega
      · exact ⟨g, y, rfl, rfl, hy, Yv.out, Hz.out, S2.out⟩
  · have Hno := Lib.hid hno
    have d0 : decide ((-1 : Int) < 0) = true := by decide
    clear hno
    go_wp2_with fail
    go_ret
    exact ⟨_, _, _, rfl, .inl ⟨rfl, rfl, rfl, fun z hzN e => absurd (by rw [Hv.out z hzN]; exact e) (Hno.out z hzN)⟩, Below.refl _ _⟩

set_option maxHeartbeats 4000000 in
set_option maxRecDepth 100000 in
/-- match at link k. -/
theorem implMatch (base N k nv cv : Nat) (M : Nat → Prop) (c : Ch) (L : Nat → LK) (V : Option Addr) (vals : List Int) (w : World) (hc : Ck w base N k M c L) (hk : k < N) (hU : Hid (UpTo N c k)) (hN : N ≤ 20) (hv : RI w w.heap.size V vals) (lv : Hid (vals.length = nv)) (hnv : nv ≤ 1048576) :
    Calls Try.prog 101 #[.pointer (some ⟨(L k).B, 0, none⟩), .slice V nv cv] w fun e w' => ∃ (g off c' j : Nat) (m : List Int), e = .returned (.tuple #[.slice (some ⟨g, off, none⟩) N c', ptr N L j]) ∧ RI w' w'.heap.size (some ⟨g, off, none⟩) m ∧ Mt N c k vals m j ∧ NoM N c k vals j ∧
      (j = k ∨ Slc w' w.heap.size (some ⟨g, off, none⟩) N c' m) ∧ Below w.heap.size w w' := by
  have q24 : ∀ (w : World) (a : Option Addr) (n c n' c' : Nat), (binOp .eql 47 (.slice a n c) (.slice none n' c')).run Try.prog w = .ok (.bool a.isNone) w := fun w a n c n' c' => Lib.run_eql_slice_nil w _ _ a n c n' c' Try.underlying47
  have HC := Lib.hid hc
  have HV := Lib.hid hv
  obtain ⟨x0, x1, x2, x3, x4⟩ := hc.cB (Nat.le_refl _) hk
  have hid : c.rep k k = idL N := (hU.out.rep k (Nat.le_refl _) hk).one
  have hne : c.rep k k ≠ [] := by rw [hid]; intro e; have := idL_length N; rw [e] at this; simp at this; omega
  have x5 := hc.cM (Nat.le_refl _) hk hk
  have hrd := (hc.eM (Nat.le_refl _) hk hk).2 hne
  rcases hd : (L k).en.getD k sd0 with ⟨dA, dn, dc⟩
  rw [hd] at x5 hrd
  obtain ⟨b, off, e⟩ := rd_not0 hrd hne
  have e : dA = some ⟨b, off, none⟩ := e
  subst e
  rw [hid] at hrd
  obtain rfl : dn = N := by have h3 : (idL N).length = dn := hrd.len; rw [idL_length] at h3; omega
  have Rr := Lib.hid hrd.ri
  have p0 : (0 : Int) ≤ k := by omega
  have p1 : (k : Int) < dn := by omega
  have ep : ptr dn L k = .pointer (some ⟨(L k).B, 0, none⟩) := if_pos hk
  have Ep := Lib.hid ep
  simp only [sval] at x5
  clear hc hv hid hne hrd hd x1 x2 x4 ep
  go_enter Try.func101, Try.ntmps101
  go_wp2_with fail
  go_quiet (fail)
  have B0 : Hid (Below w.heap.size w (w.drewN nq)) := Lib.hid (pcDrewBelow w nq)
  have R0 := Lib.hid (Rr.out.up B0.out)
  generalize w.drewN nq = w0 at B0 R0 ⊢
  clear x0 x3 x5
  go_wp2_with fail
  go_loopg [6, 7, 8] dn (fun gg v l _ wr => ∃ (g off c' j : Nat) (m : List Int), dn - j ≤ gg ∧ v = .slice (some ⟨g, off, none⟩) dn c' ∧ l = ptr dn L j ∧ RI wr wr.heap.size (some ⟨g, off, none⟩) m ∧ Mt dn c k vals m j ∧ (j = k ∨ Slc wr w.heap.size (some ⟨g, off, none⟩) dn c' m) ∧ Below w.heap.size w wr)
  case atStart => exact ⟨b, off, dc, k, idL dn, by omega, rfl, Ep.out.symm, R0.out, .start (by omega) hN (by omega), .inl rfl, B0.out⟩
  case round =>
    clear R0 B0
    obtain ⟨g, off, c', j, m, hgg, rfl, rfl, hm, hmt, hfr, bel⟩ := hrel
    have Hm := Lib.hid hm
    have Mt0 := Lib.hid hmt
    have Fr := Lib.hid hfr
    have Be := Lib.hid bel
    have C1 := Lib.hid (HC.out.up bel)
    have V1 := Lib.hid (HV.out.up bel)
    have hkj := hmt.kj
    have hjN := hmt.jN
    clear hm hmt hfr bel
    by_cases hlt : j < dn
    · have ep : ptr dn L j = .pointer (some ⟨(L j).B, 0, none⟩) := if_pos hlt
      obtain ⟨y0, y1, y2, y3, y4⟩ := C1.out.cB hkj hlt
      rw [ep]
      clear ep y1 y2 y3
      by_cases hjv : j < nv
      · obtain ⟨vb, vo, rfl, hvb, hvc⟩ := V1.out (by rw [lv.out]; omega)
        have z1 := hvc j (by rw [lv.out]; omega)
        obtain ⟨u, eu⟩ : ∃ u, vals.getD j 0 = u := ⟨_, rfl⟩
        rw [eu] at z1
        have Eu := Lib.hid eu
        have d0 : decide ((j : Int) < (nv : Int)) = true := by simp; omega
        have q0 : (0 : Int) ≤ j := by omega
        have q1 : (j : Int) < nv := by omega
        clear hvb hvc eu
        go_wp2_with fail
        refine (implWith base dn k j c' M c L (some ⟨g, off, none⟩) m u wr C1.out hkj hlt (Lib.hid (hU.out.rep j hkj hlt)) Hm.out (Lib.hid Mt0.out.pn)).mono ?_
        rintro e w2 ⟨A2, n2, c2, rfl, (⟨rfl, rfl, rfl, hno⟩ | ⟨g2, y, rfl, rfl, hy, hyv, hyr, hs⟩), b2⟩
        · have B2 : Hid (Below w.heap.size w w2) := Lib.hid (btr Be.out b2)
          have R2 := Lib.hid (Hm.out.up b2)
          have Fr2 : Hid (j = k ∨ Slc w2 w.heap.size (some ⟨g, off, none⟩) dn c' m) := Lib.hid (Fr.out.imp id fun h => h.up b2)
          have Nm : Hid (NoM dn c k vals j) := Lib.hid (Mt0.out.stop hU.out (by omega) hN fun y hy e => hno y hy (by rw [← Eu.out]; exact e))
          clear hno b2
          go_wp2_with fail
          go_ret2
          refine ⟨_, _, _, j, _, ?_, R2.out, Mt0.out, Nm.out, Fr2.out, B2.out⟩
          show Ending.returned (.tuple #[.slice (some ⟨g, off, none⟩) dn c', .pointer (some ⟨(L j).B, 0, none⟩)]) = _
          rw [show ptr dn L j = .pointer (some ⟨(L j).B, 0, none⟩) from if_pos hlt]
        · have B2 : Hid (Below w.heap.size w w2) := Lib.hid (btr Be.out b2)
          have C2 := Lib.hid (C1.out.up b2)
          have S2 : Hid (Slc w2 w.heap.size (some ⟨g2, 0, none⟩) n2 c2 (compL (c.rep j y) m)) := Lib.hid (hs.mono Be.out.size)
          have Mt2 : Hid (Mt n2 c k vals (compL (c.rep j y) m) (j + 1)) := Lib.hid (Mt0.out.step hU.out (by omega) hN hlt (by rw [lv.out]; exact hjv) hyr (by rw [Eu.out]; exact hyv))
          have z4 := (C2.out.cB hkj hlt).2.2.2.2
          have z0 := (C2.out.cB hkj hlt).1
          clear hs b2 y0 y4 hy hyv hyr C1 V1
          go_wp2_with fail
          go_quiet (fail)
          have B3 : Hid (Below w2.heap.size w2 (w2.drewN nq)) := Lib.hid (pcDrewBelow w2 nq)
          have S3 := Lib.hid (S2.out.up B3.out)
          have C3 := Lib.hid (C2.out.up B3.out)
          have B4 : Hid (Below w.heap.size w (w2.drewN nq)) := Lib.hid (btr B2.out B3.out)
          generalize w2.drewN nq = w3 at B3 S3 C3 B4 ⊢
          go_wp2_with fail
          go_roundg (n2 - (j + 1))
          case rel => exact ⟨g2, 0, c2, j + 1, _, by omega, rfl, rfl, S3.out.ri_, Mt2.out, .inr S3.out, B4.out⟩
          case measure => omega
      · have d0 : decide ((j : Int) < (nv : Int)) = false := by simp; omega
        have Nm : Hid (NoM dn c k vals j) := Lib.hid fun _ h => absurd h (by rw [lv.out]; exact hjv)
        go_wp2_with fail
        go_ret2
        refine ⟨_, _, _, j, _, ?_, Hm.out, Mt0.out, Nm.out, Fr.out, Be.out⟩
        show Ending.returned (.tuple #[.slice (some ⟨g, off, none⟩) dn c', .pointer (some ⟨(L j).B, 0, none⟩)]) = _
        rw [show ptr dn L j = .pointer (some ⟨(L j).B, 0, none⟩) from if_pos hlt]
    · obtain rfl : j = dn := by omega
      have ep : ptr j L j = .pointer none := if_neg (by omega)
      have Nm : Hid (NoM j c k vals j) := Lib.hid fun h _ => absurd h (by omega)
      rw [ep]
      clear ep
      go_wp2_with fail
      go_ret2
      refine ⟨_, _, _, j, _, ?_, Hm.out, Mt0.out, Nm.out, Fr.out, Be.out⟩
      show Ending.returned (.tuple #[.slice (some ⟨g, off, none⟩) j c', .pointer none]) = _
      rw [show ptr j L j = .pointer none from if_neg (by omega)]

set_option maxHeartbeats 1000000 in
/-- contains at link k. -/
theorem implContains (base N k cp : Nat) (M : Nat → Prop) (c : Ch) (L : Nat → LK) (A : Option Addr) (p : List Int) (w : World) (hc : Ck w base N k M c L) (hk : k < N) (hU : Hid (UpTo N c k)) (hN : N ≤ 20) (hp : RI w w.heap.size A p) (hP : Hid (Pn N p)) (hF : Hid (Fx k p)) (ans : Bool) (ha : Hid (ans = true ↔ Mb (c.gen k) N p)) :
    Calls Try.prog 72 #[.pointer (some ⟨(L k).B, 0, none⟩), .slice A N cp] w fun e w' => e = .returned (.bool ans) ∧ Below w.heap.size w w' := by
  have HC := Lib.hid hc
  have HP := Lib.hid hp
  clear hc hp
  go_enter Try.func72, Try.ntmps72
  go_wp2_with fail
  refine (implMatch base N k N cp M c L A p w HC.out hk hU hN HP.out (Lib.hid hP.out.2) (by omega)).mono ?_
  rintro e w1 ⟨g, off, c', j, m, rfl, hm, hmt, hnm, hfr, b1⟩
  have B1 := Lib.hid b1
  have hiff := hmt.mem hnm hU.out (by omega) hN (by omega) hP.out hF.out
  have hjN := hmt.jN
  clear hm hmt hnm hfr b1
  by_cases hj : j = N
  · obtain rfl : ans = true := ha.out.2 (hiff.1 hj)
    have ep : ptr N L j = .pointer none := if_neg (by omega)
    rw [ep]
    clear hiff ep
    go_wp2_with fail
    go_ret
    exact ⟨rfl, B1.out⟩
  · obtain rfl : ans = false := by
      rcases ans with _ | _
      · rfl
      · exact absurd (hiff.2 (ha.out.1 rfl)) hj
    have ep : ptr N L j = .pointer (some ⟨(L j).B, 0, none⟩) := if_pos (by omega)
    rw [ep]
    clear hiff ep
    go_wp2_with fail
    go_ret
    exact ⟨rfl, B1.out⟩
end Go.Proofs.Ytcjcmhoalomjfab

/- The program's include: one product is taken as a mover or divided away. Conditions: at most 20 points; the chain whole above the link; add one link on keeps its contract. -/
namespace Go.Proofs.Ytcjcmhoalomjfab
open Go.RowKit

/-- append of one number onto a row of the call's own, and where the new row lies. -/
theorem wpList_appI {w : World} {ops : Array Oper} {rest : List Oper} {o : Oper} {a : Act} {Q : Exit → Act → World → Prop} (hgd : o.guard = none) (s x : Operand)
    (ho : o.op = .call { callee := .builtin .append, args := #[s, x], argTypes := #[22, 22] })
    (base : Nat) (A : Option Addr) (n c : Nat) (xs : List Int) (hs : a.eval s = .slice A n c) (hown : Slc w base A n c xs) (g : Nat) (u : Int) (hx : a.eval x = .slice (some ⟨g, 0, none⟩) 1 1)
    (hcell : w.cell? ⟨g, 0, none⟩ = some (.int .i64 u)) (hn : n ≤ 1000000000) (hbase : base ≤ w.heap.size)
    (h : ∀ A' c' w', Slc w' base A' (n + 1) c' (xs ++ [u]) → w.grownBy w' (Value.slice A n c).ownBlock → ((Value.slice A' (n + 1) c').ownBlock = (Value.slice A n c).ownBlock ∨ (Value.slice A' (n + 1) c').ownBlock = some w.heap.size) → wpList Try.prog ops Q rest (a.put o.dst (.slice A' (n + 1) c')) w') : wpList Try.prog ops Q (o :: rest) a w := by
  obtain ⟨i0, hi, hz0, hz1, hz2⟩ := info_parts infoI
  obtain ⟨hl, ho'⟩ := hown
  subst hl
  refine wpList_append_own_at w hgd s x 22 ho base 2 i0 (.int .i64 0) 1 8 Try.underlying22 hi hz0 hz1 hz2 rfl (by decide) _ xs.length _ hs ho' ⟨g, 0, none⟩ 1 1 [.int .i64 u] hx rfl ?_ ?_ ?_ (by omega) hbase ?_
  · intro j v hj
    match j, hj with
    | 0, hj => simp at hj; subst hj; simpa [Addr.add] using hcell
    | j + 1, hj => simp at hj
  · intro v hv; simp at hv; subst hv; rfl
  · unfold maxLen; omega
  · intro v' w' hown' hg _ hat
    have hO : Own w' base v' (xs ++ [u]) := by
      unfold Own
      rw [List.length_append, List.map_append]
      exact hown'
    obtain ⟨A', c', rfl, hS⟩ := Slc.of_own (n := xs.length + 1) hO (by simp)
    exact h A' c' w' hS hg hat
theorem infoP : (Try.prog.info? 47).map (fun i => (i.zero, i.size, i.bytes)) = some (some (.slice none 0 0), 1, 24) := by kernel_rfl
/-- append of one permutation. -/
theorem wpList_appP {w : World} {ops : Array Oper} {rest : List Oper} {o : Oper} {a : Act} {Q : Exit → Act → World → Prop} (hgd : o.guard = none) (s x : Operand)
    (ho : o.op = .call { callee := .builtin .append, args := #[s, x], argTypes := #[67, 67] })
    (base : Nat) (v : Value) (n : Nat) (xs : List Value) (hs : a.eval s = v) (hown : w.ownsRow base 47 1 v n xs) (g : Nat) (d : SV) (hx : a.eval x = .slice (some ⟨g, 0, none⟩) 1 1)
    (hcell : w.cell? ⟨g, 0, none⟩ = some (sval d)) (hn : n ≤ 1000000000) (hbase : base ≤ w.heap.size)
    (h : ∀ A' c' w', w'.ownsRow base 47 1 (.slice A' (n + 1) c') (n + 1) (xs ++ [sval d]) → w.grownBy w' v.ownBlock → ((Value.slice A' (n + 1) c').ownBlock = v.ownBlock ∨ (Value.slice A' (n + 1) c').ownBlock = some w.heap.size) → wpList Try.prog ops Q rest (a.put o.dst (.slice A' (n + 1) c')) w') : wpList Try.prog ops Q (o :: rest) a w := by
  obtain ⟨i0, hi, hz0, hz1, hz2⟩ := info_parts infoP
  refine wpList_append_own_at w hgd s x 67 ho base 47 i0 (.slice none 0 0) 1 24 Try.underlying67 hi hz0 hz1 hz2 rfl (by decide) v n xs hs hown ⟨g, 0, none⟩ 1 1 [sval d] hx rfl ?_ ?_ ?_ (by omega) hbase ?_
  · intro j u hj
    match j, hj with
    | 0, hj => simp at hj; subst hj; simpa [Addr.add] using hcell
    | j + 1, hj => simp at hj
  · intro u hu; simp at hu; subst hu; rfl
  · unfold maxLen; omega
  · intro v' w' hown' hg _ hat
    have hform : ∃ A' c', v' = .slice A' (n + 1) c' := by
      rcases hown'.2 with ⟨rfl, h0⟩ | ⟨g', cap, cur, rfl, _⟩
      · omega
      · exact ⟨_, _, rfl⟩
    obtain ⟨A', c', rfl⟩ := hform
    exact h A' c' w' hown' hg hat

theorem cells_gw {w w' : World} {base N k : Nat} {M M' : Nat → Prop} {c : Ch} {L L' : Nat → LK} (g : Gw w w' N (k + 1) L L' M M') (h : Ck w base N k M c L) (hk : k < N) (b j : Nat) (hb : b = (L k).B ∨ b = (L k).mb) : w'.cell? ⟨b, j, none⟩ = w.cell? ⟨b, j, none⟩ := by
  have ht : ∃ t, t < 4 ∧ mu (L k) t = some b := by
    rcases hb with rfl | rfl
    · exact ⟨0, by decide, rfl⟩
    · exact ⟨3, by decide, rfl⟩
  obtain ⟨t, ht4, ht⟩ := ht
  refine World.cell?_of_block (g.chg.block b (h.mlt b (h.mm k t b (Nat.le_refl _) hk ht4 ht)).2 fun ⟨i, t', a1, a2, a3, e'⟩ => ?_)
  have := (h.dis k t i t' b (Nat.le_refl _) hk ht4 (by omega) a2 a3 ht e').1
  omega
/-- What add keeps at link k. -/
def ADs (base N k : Nat) : Prop := ∀ (M : Nat → Prop) (c : Ch) (L : Nat → LK) (A : Option Addr) (cp : Nat) (p : List Int) (w : World), Ck w base N k M c L → Orbs N k c L → Rd w M (A, N, cp) p → Pn N p → Fx k p → UpTo N c k →
  Calls Try.prog 80 #[.pointer (some ⟨(L k).B, 0, none⟩), .slice A N cp] w fun e w' => ∃ (c' : Ch) (L' : Nat → LK) (M' : Nat → Prop), e = .returned (.tuple #[]) ∧ Ck w' base N k M' c' L' ∧ Orbs N k c' L' ∧ Gw w w' N k L L' M M' ∧ Ap N k c c' p
/-- What include keeps at link k. -/
def INs (base N k : Nat) : Prop := ∀ (M : Nat → Prop) (c : Ch) (L : Nat → LK) (A : Option Addr) (cp : Nat) (q : List Int) (w : World), Ck w base N k M c L → Orbs N k c L → Rd w M (A, N, cp) q → Low N c k → Mb (c.gen k) N q →
  Calls Try.prog 104 #[.pointer (some ⟨(L k).B, 0, none⟩), .slice A N cp] w fun e w' => ∃ (c' : Ch) (L' : Nat → LK) (M' : Nat → Prop), e = .returned (.tuple #[]) ∧ Ck w' base N k M' c' L' ∧ Orbs N k c' L' ∧ Gw w w' N k L L' M M' ∧ Ic N k c c' q ∧ (L k).orb <+: (L' k).orb ∧ (L' k).g = (L k).g

set_option maxHeartbeats 4000000 in
set_option maxRecDepth 100000 in
theorem implInclude (base N k : Nat) (hkN : k + 1 < N) (h2N : N ≤ 20) (AD : ADs base N (k + 1)) : INs base N k := by
  intro M c L A cp q w hc ho hd hl hq
  have q24 : ∀ (w : World) (a : Option Addr) (n c n' c' : Nat), (binOp .eql 47 (.slice a n c) (.slice none n' c')).run Try.prog w = .ok (.bool a.isNone) w := fun w a n c n' c' => Lib.run_eql_slice_nil w _ _ a n c n' c' Try.underlying47
  have hk : k < N := by omega
  have hP := hq.pn hl.pn (by omega) h2N
  have hbs : base ≤ w.heap.size := by have := hc.mlt _ (hc.mm k 0 _ (Nat.le_refl _) hk (by decide) rfl); omega
  have HC := Lib.hid hc
  have HO := Lib.hid ho
  have HD := Lib.hid hd
  have HL := Lib.hid hl
  have HQ := Lib.hid hq
  have QP := Lib.hid hP
  obtain ⟨b, off, hA, hb, hnM, hcell⟩ := hd.at_ (by rw [hP.2]; omega)
  have hA : A = some ⟨b, off, none⟩ := hA
  subst hA
  have z1 := hcell k (by rw [hP.2]; exact hk)
  obtain ⟨y, ey⟩ : ∃ y, nx q k = y := ⟨_, rfl⟩
  have hy : y < N := by rw [← ey]; exact hP.lt hk
  rw [nx_val hP.1 (by rw [hP.2]; exact hk), ey] at z1
  have Ey := Lib.hid ey
  obtain ⟨x0, x1, x2, x3, x4⟩ := hc.cB (Nat.le_refl _) hk
  have x5 := hc.cM (Nat.le_refl _) hk hy
  have em := hc.eM (Nat.le_refl _) hk hy
  have p0 : (0 : Int) ≤ k := by omega
  have p1 : (k : Int) < N := by omega
  have p2 : (0 : Int) ≤ y := by omega
  have p3 : (y : Int) < N := by omega
  clear hc ho hd hl hq hP hb hnM hcell ey
  by_cases hz : c.rep k y = []
  · have Hz := Lib.hid hz
    rw [em.1 hz] at x5
    simp only [sval, sd0] at x5
    have hqne : q ≠ [] := by intro e; have := QP.out.2; rw [e] at this; simp at this; omega
    have Hqn := Lib.hid hqne
    have fz := (HC.out.lk k (Nat.le_refl _) hk).mown.frozenAt y
    obtain ⟨S1, G1⟩ := HC.out.store hk hy HD.out hqne
    have hx2 : w.setCell ⟨(L k).mb, y, none⟩ (.slice (some ⟨b, off, none⟩) N cp) = w.setCell ⟨(L k).mb, y, none⟩ (sval (some ⟨b, off, none⟩, N, cp)) := rfl
    rw [← hx2] at S1 G1
    obtain ⟨L1, hL1⟩ : ∃ L1, upd L k { L k with en := (L k).en.set y (some ⟨b, off, none⟩, N, cp) } = L1 := ⟨_, rfl⟩
    have e1 : L1 k = { L k with en := (L k).en.set y (some ⟨b, off, none⟩, N, cp) } := by rw [← hL1, upd_at]
    have e1n : ∀ i, i ≠ k → L1 i = L i := fun i hi => by rw [← hL1, upd_ne hi]
    rw [hL1] at S1 G1
    have E1 := Lib.hid e1
    have E1n := Lib.hid e1n
    have C1 := Lib.hid S1
    have Gw1 := Lib.hid G1
    obtain ⟨y0, y1, y2, y3, y4⟩ := S1.cB (Nat.le_refl _) hk
    have hs := (S1.lk k (Nat.le_refl _) hk).oown
    have hol := S1.olen (Nat.le_refl _) hk
    have hO20 := (HO.out k (Nat.le_refl _) hk).len HL.out.rep
    rw [e1] at y0 y1 y2 y3 hs hol
    rcases hoe : (L k).o with ⟨oA, on, oc⟩
    have hs : Slc (w.setCell ⟨(L k).mb, y, none⟩ (.slice (some ⟨b, off, none⟩) N cp)) base (L k).o.1 (L k).o.2.1 (L k).o.2.2 (ofP (L k).orb) := hs
    have hol : (L k).o.2.1 = (L k).orb.length := hol
    have y2 : (w.setCell ⟨(L k).mb, y, none⟩ (.slice (some ⟨b, off, none⟩) N cp)).cell? ⟨(L k).B, 2, none⟩ = some (sval (L k).o) := y2
    rw [hoe] at hs hol y2
    have hs : Slc (w.setCell ⟨(L k).mb, y, none⟩ (.slice (some ⟨b, off, none⟩) N cp)) base oA on oc (ofP (L k).orb) := hs
    have hol : on = (L k).orb.length := hol
    simp only [sval] at y2
    have Hoe := Lib.hid hoe
    have Orb0 := Lib.hid (HO.out k (Nat.le_refl _) hk)
    have hon : on ≤ 20 := by omega
    obtain ⟨wx, hwx⟩ : ∃ wx, w.setCell ⟨(L k).mb, y, none⟩ (.slice (some ⟨b, off, none⟩) N cp) = wx := ⟨_, rfl⟩
    rw [hwx] at y2 hs C1 Gw1
    have Hs := Lib.hid hs
    have Hzx : Hid (wx.heap.size = w.heap.size) := Lib.hid (by rw [← hwx]; simp)
    have Lit : Hid ((wx.alloc (.cells #[.int .i64 (y : Nat)] 2)).cell? ⟨wx.heap.size, 0, none⟩ = some (.int .i64 (y : Nat))) := Lib.hid (by rw [World.cell?_alloc_at _ _ _ _ rfl]; rfl)
    have BL : Hid (Below wx.heap.size wx (wx.alloc (.cells #[.int .i64 (y : Nat)] 2))) := Lib.hid ((Below.refl _ _).alloc (Nat.le_refl _) _)
    have PA : Hid (∀ (A4 : Option Addr) (c4 : Nat) (w4 : World), Slc w4 base A4 (on + 1) c4 (ofP (L k).orb ++ [(y : Int)]) → (wx.alloc (.cells #[.int .i64 (y : Nat)] 2)).grownBy w4 (Value.slice oA on oc).ownBlock →
        ((Value.slice A4 (on + 1) c4).ownBlock = (Value.slice oA on oc).ownBlock ∨ (Value.slice A4 (on + 1) c4).ownBlock = some (wx.alloc (.cells #[.int .i64 (y : Nat)] 2)).heap.size) →
        w4.cell? ⟨(L k).B, 2, none⟩ = some (.slice oA on oc) ∧ w4.frozen? ⟨(L k).B, 2, none⟩ = false ∧ ∃ (L' : Nat → LK) (M' : Nat → Prop), Ck (w4.setCell ⟨(L k).B, 2, none⟩ (.slice A4 (on + 1) c4)) base N k M' (c.set k y q) L' ∧ Orbs N k (c.set k y q) L' ∧ Gw w (w4.setCell ⟨(L k).B, 2, none⟩ (.slice A4 (on + 1) c4)) N k L L' M M' ∧ (L k).orb <+: (L' k).orb ∧ (L' k).g = (L k).g) := Lib.hid (by
      intro A4 c4 w4 s4 g4 hat
      have ho1 : (L1 k).o = (oA, on, oc) := by rw [E1.out]; exact Hoe.out
      have hb1 : (L1 k).orb = (L k).orb := by rw [E1.out]
      have hB1 : (L1 k).B = (L k).B := by rw [E1.out]
      have hg1 : (L1 k).g = (L k).g := by rw [E1.out]
      obtain ⟨M', K1, K2⟩ := C1.out.orbit hk BL.out (y := y) (A := A4) (n := on + 1) (cc := c4) (by rw [ho1]; exact g4) (by rw [hb1]; exact s4) (by rw [ho1]; exact hat)
      rw [hB1] at K1 K2
      have blk1 : Blk w4 (L k).B 69 #[.int .i64 (k : Nat), sval (L1 k).g, sval (L1 k).o, .slice (some ⟨(L1 k).mb, 0, none⟩) N N, ptr N L1 (k + 1)] := by
        have h0 := (C1.out.lk k (Nat.le_refl _) hk).blk
        rw [hB1] at h0
        have h1 := h0.chg (S := fun _ => False) (.of_below BL.out) (fun e => e)
        refine h1.grown g4 fun e => ?_
        have := (C1.out.dis k 0 k 2 (L k).B (Nat.le_refl _) hk (by decide) (Nat.le_refl _) hk (by decide) (by show some (L1 k).B = _; rw [hB1]) (by show (sval (L1 k).o).ownBlock = _; rw [ho1]; exact e.symm)).2
        omega
      refine ⟨by rw [blk1.cell 2, ho1]; rfl, blk1.frozen 2, _, M', K1, fun i a b => ?_, Gw1.out.trans K2, ?_, ?_⟩
      · by_cases ei : i = k
        · subst ei
          rw [upd_at]
          show Orb _ i ((L1 i).orb ++ [y])
          rw [hb1]
          exact Orb0.out.put Hz.out Hqn.out
        · rw [upd_ne ei, E1n.out i ei]
          exact (HO.out i a b).congr fun z => set_ne (.inl ei)
      · rw [upd_at]
        show (L k).orb <+: (L1 k).orb ++ [y]
        rw [hb1]; exact List.prefix_append _ _
      · rw [upd_at]; exact hg1)
    have Inc : Hid (Ic N k c (c.set k y q) q) := Lib.hid (by
      have h3 := Ic.put HL.out hk (by omega) h2N HQ.out (by rw [Ey.out]; exact hz)
      rw [Ey.out] at h3; exact h3)
    clear S1 G1 hx2 hL1 e1 e1n y0 y1 y3 y4 hs hol hO20 hoe em hz hqne
    try clear hol
    try clear hol
    go_enter Try.func104, Try.ntmps104
    go_wp2_with (first
      | (at_builtin; go_must (refine wpList_appI rfl _ _ rfl base oA on oc (ofP (L k).orb) rfl (Hs.out.alloc _) wx.heap.size (y : Int) rfl Lit.out (by omega) (by have := Hzx.out; simp; omega) ?_); intro A4 c4 w4 s4 g4 hat4; obtain ⟨v1, v2, v3⟩ := PA.out A4 c4 w4 s4 g4 hat4; have V3 := Lib.hid v3; clear s4 g4 hat4 v3))
    obtain ⟨L', M', K1, K2, K3, K4, K5⟩ := V3.out
    (try simp only [Exit.inBlock, Exit.then]); refine bodyPost_ret (results_none rfl _ _ _) rfl ?_
    exact ⟨rfl, c.set k y q, L', M', K1, K2, K3, Inc.out, K4, K5⟩
  · have hrd := em.2 hz
    rcases hde : (L k).en.getD y sd0 with ⟨dA, dn, dc⟩
    rw [hde] at x5 hrd
    obtain ⟨b2, off2, e⟩ := rd_not0 hrd hz
    have e : dA = some ⟨b2, off2, none⟩ := e
    subst e
    have RP := Lib.hid (HL.out.rep.at_ y hz).2.1
    obtain rfl : dn = N := by have h3 : (c.rep k y).length = dn := hrd.len; have := RP.out.2; omega
    have Rr : Hid (RI w w.heap.size (some ⟨b2, off2, none⟩) (c.rep k y)) := Lib.hid hrd.ri
    have Rq : Hid (RI w w.heap.size (some ⟨b, off, none⟩) q) := Lib.hid HD.out.ri
    have Rst := Lib.hid (HL.out.rest hk (by omega) h2N HQ.out (by rw [Ey.out]; exact hz))
    rw [Ey.out] at Rst
    have Hz := Lib.hid hz
    have eiv : Hid (invL (c.rep k y) dn = iv (c.rep k y)) := Lib.hid (by unfold iv; rw [RP.out.2])
    have ep : ptr dn L (k + 1) = .pointer (some ⟨(L (k + 1)).B, 0, none⟩) := if_pos hkN
    rw [ep] at x4
    have hB : (L k).B < w.heap.size := (HC.out.lk k (Nat.le_refl _) hk).blk.lt
    have hmb : (L k).mb < w.heap.size := (HC.out.mlt _ (HC.out.mm k 3 _ (Nat.le_refl _) hk (by decide) rfl)).2
    simp only [sval] at x5
    clear em hz hrd hde ep x1 x2
    go_enter Try.func104, Try.ntmps104
    go_wp2_with fail
    go_region_held3 (fun w' => w'.cell? ⟨(L k).B, 4, none⟩ = some (.pointer (some ⟨(L (k + 1)).B, 0, none⟩)) ∧ w'.cell? ⟨(L k).B, 3, none⟩ = some (.slice (some ⟨(L k).mb, 0, none⟩) dn dn) ∧ w'.cell? ⟨(L k).mb, y, none⟩ = some (.slice (some ⟨b2, off2, none⟩) dn dc))
      (first | exact ⟨x4, x3, x5⟩ | exact hS1 | exact hS2 | exact hS3 | go_keep)
      (first
        | (go_at_call 73; refine (implInv (some ⟨b2, off2, none⟩) dc dn (c.rep k y) _ ?_ ?_ ?_ h2N).mono ?_; (exact Rr.out); (exact Lib.hid RP.out.2); (exact Lib.hid RP.out.1); rintro e w1 ⟨A2, c2, rfl, s2, b1'⟩; have b1 : Below w.heap.size w w1 := ⟨b1'.os, b1'.tape, b1'.output, b1'.size, b1'.block⟩; have hS1 := And.intro ((b1.cell (p := ⟨(L k).B, 4, none⟩) hB).trans x4) (And.intro ((b1.cell (p := ⟨(L k).B, 3, none⟩) hB).trans x3) ((b1.cell (p := ⟨(L k).mb, y, none⟩) hmb).trans x5)))
        | (go_at_call 74; refine (implThen (some ⟨b, off, none⟩) A2 cp c2 dn q (invL (c.rep k y) dn) w1 ?_ ?_ ?_ ?_ ?_ h2N).mono ?_; (exact Rq.out.up b1); (exact s2.ri_); (exact Lib.hid QP.out.2); (exact s2.hid); (exact Lib.hid QP.out.1); rintro e w2 ⟨A3, c3, rfl, s3, b2'⟩; have hS2 := And.intro ((b2'.cell (p := ⟨(L k).B, 4, none⟩) (Nat.lt_of_lt_of_le hB b1.size)).trans hS1.1) (And.intro ((b2'.cell (p := ⟨(L k).B, 3, none⟩) (Nat.lt_of_lt_of_le hB b1.size)).trans hS1.2.1) ((b2'.cell (p := ⟨(L k).mb, y, none⟩) (Nat.lt_of_lt_of_le hmb b1.size)).trans hS1.2.2)))
        | (go_at_call 80; refine (AD M c L A3 c3 (compL q (invL (c.rep k y) dn)) w2 ?_ ?_ ?_ ?_ ?_ ?_).mono ?_; (exact ((HC.out.up b1).up b2').above (Nat.le_succ k)); (exact fun i a b => HO.out i (by omega) b); (exact Rd.of_slc (d := (A3, dn, c3)) s3 fun b e => Nat.lt_of_lt_of_le (HC.out.mlt b e).2 b1.size); (rw [eiv.out]; exact Rst.out.1); (rw [eiv.out]; exact Rst.out.2); (exact HL.out.up); rintro e w3 ⟨c', L', M', rfl, hc3, ho3, hg3, hap⟩; have hS3 := And.intro ((cells_gw hg3 ((HC.out.up b1).up b2') hk (L k).B 4 (.inl rfl)).trans hS2.1) (And.intro ((cells_gw hg3 ((HC.out.up b1).up b2') hk (L k).B 3 (.inl rfl)).trans hS2.2.1) ((cells_gw hg3 ((HC.out.up b1).up b2') hk (L k).mb y (.inr rfl)).trans hS2.2.2))))
    have er : c'.rep k = c.rep k := funext fun z => hap.grw.rep k z (by omega)
    have eg : c'.gen k = c.gen k := hap.grw.gen k (by omega)
    have C2 := (HC.out.up b1).up b2'
    have K1 := C2.down hk hc3 hg3 er eg
    have K3 : Gw w w3 dn k L L' M M' := (Gw.of_below (b1.trans (b2'.mono b1.size))).trans (hg3.down C2)
    have hLk := hg3.keep k (by omega)
    have K2 : Orbs dn k c' L' := fun i a b => by
      by_cases ei : i = k
      · subst ei
        rw [hLk]
        exact (HO.out i a b).congr fun z => by rw [er]
      · exact ho3 i (by omega) b
    have K4 : Ic dn k c c' q := Ic.old HL.out hk (by omega) h2N HQ.out (by rw [Ey.out]; exact Hz.out) (by rw [Ey.out, ← eiv.out]; exact hap)
    go_end0
    exact ⟨c', L', M', rfl, K1, K2, K3, K4, by rw [hLk]; exact List.prefix_rfl, by rw [hLk]⟩
end Go.Proofs.Ytcjcmhoalomjfab
