/- Part 3 of the texts: ChT, ChX, ChY, ChZ, ChV, Crd, Stb, StbS, Ct4, DrawM, WalkI4, DrawV, Supp, BlA, BlB, UfA, PcM, PcH, PcW, PcI, PcA, PcC, PcF, PcG, PcN, PcS, PcT, PcU, UfB, UfC. No condition of its own: each text tells its own. -/
import Derived.Test.YtedfcljikgmpgaaGreatMg2
import Derived.Test.YtedfcljikgmpgaaGreatMg1
import Derived.Deep.Upon
import Derived.BigQuiet
import Derived.WalkSpells
import Derived.Deep.LoopGhost
import Derived.Maps.AppendAt
import Derived.Deep.RegionHeld3
import Derived.Deep.CutRange
import Derived.Lib.AppendZerosOnto
import Derived.Lib.AppendZeros
import Derived.Maps.Own
import Derived.Maps.OwnSet
import Derived.StillTailTactics
set_option linter.unusedVariables false
set_option linter.unusedSimpArgs false

/- The smallest member with a prefix: what it is, and that the model finds it. Conditions: at most 20 points, 8 generators. -/
namespace Go.Proofs.YtedfcljikgmpgaaGreat
open Go.RowKit

/-- m is the member with the prefix whose further entries are as small as can be, one after the other. -/
def Greedy (N : Nat) (gs : List (List Int)) (pre m : List Int) : Prop :=
  Mb gs N m ∧ ∀ i, i < N → (i < pre.length → (nx m i : Int) = pre.getD i 0) ∧ (pre.length ≤ i → ∀ q, Mb gs N q → (∀ t, t < i → nx q t = nx m t) → nx m i ≤ nx q i)
def NoMem (N : Nat) (gs : List (List Int)) (pre : List Int) : Prop := ∀ q, Mb gs N q → ¬ ∀ t, t < pre.length → (nx q t : Int) = pre.getD t 0
/-- What MemberWithPrefix answers. -/
def IsMwp (N : Nat) (gs : List (List Int)) (pre m : List Int) (ok : Bool) : Prop := (ok = true ∧ Greedy N gs pre m) ∨ (ok = false ∧ m = [] ∧ NoMem N gs pre)
section
variable {N : Nat} {gs : List (List Int)} {pre m m' : List Int}
theorem Greedy.uniq (h1 : 1 ≤ N) (h2 : N ≤ 20) (hg : ∀ g ∈ gs, Pn N g) (h : Greedy N gs pre m) (h' : Greedy N gs pre m') : m = m' := by
  have hp := h.1.pn hg h1 h2
  have hp' := h'.1.pn hg h1 h2
  refine hp.ext hp' fun x hx => ?_
  induction x using Nat.strongRecOn with
  | ind x ih =>
    by_cases hl : x < pre.length
    · have a := (h.2 x hx).1 hl
      have b := (h'.2 x hx).1 hl
      omega
    · have a := (h.2 x hx).2 (by omega) m' h'.1 fun t ht => (ih t ht (by omega)).symm
      have b := (h'.2 x hx).2 (by omega) m h.1 fun t ht => ih t ht (by omega)
      omega
theorem Greedy.has (h : Greedy N gs pre m) (hl : pre.length ≤ N) : ¬ NoMem N gs pre := fun hn => hn m h.1 fun t ht => (h.2 t (by omega)).1 ht
theorem IsMwp.uniq {ok ok' : Bool} (h1 : 1 ≤ N) (h2 : N ≤ 20) (hg : ∀ g ∈ gs, Pn N g) (hl : pre.length ≤ N) (h : IsMwp N gs pre m ok) (h' : IsMwp N gs pre m' ok') : m = m' ∧ ok = ok' := by
  rcases h with ⟨rfl, a⟩ | ⟨rfl, rfl, a⟩ <;> rcases h' with ⟨rfl, b⟩ | ⟨rfl, rfl, b⟩
  · exact ⟨a.uniq h1 h2 hg b, rfl⟩
  · exact absurd b (a.has hl)
  · exact absurd a (b.has hl)
  · exact ⟨rfl, rfl⟩
/-- m keeps to it in its first k entries. -/
def GrTo (N : Nat) (gs : List (List Int)) (pre m : List Int) (k : Nat) : Prop :=
  Mb gs N m ∧ ∀ i, i < k → (i < pre.length → (nx m i : Int) = pre.getD i 0) ∧ (pre.length ≤ i → ∀ q, Mb gs N q → (∀ t, t < i → nx q t = nx m t) → nx m i ≤ nx q i)
/-- The entries that level i allows are those of the members that agree before. -/
theorem Whole.choice {c : Ch} (h : Whole N gs c) (h1 : 1 ≤ N) (h2 : N ≤ 20) (hg : ∀ g ∈ gs, Pn N g) {i : Nat} (hi : i < N) (hm : Mb gs N m) {v : Int} : v ∈ chL c i m N ↔ ∃ q, Mb gs N q ∧ (∀ t, t < i → nx q t = nx m t) ∧ (nx q i : Int) = v := by
  have hp := hm.pn hg h1 h2
  rw [chL_mem]
  constructor
  · rintro ⟨y, hy, hr, rfl⟩
    obtain ⟨a, b, d, _⟩ := h.rep_mb h1 h2 hi hr
    have hr' := a.pn hg h1 h2
    refine ⟨compL (c.rep i y) m, a.comp hg h1 h2 hm, fun t ht => ?_, ?_⟩
    · rw [hr'.nxc (by omega), b t ht]
    · rw [hr'.nxc hi, d]
  · rintro ⟨q, hq, ha, rfl⟩
    have hq' := hq.pn hg h1 h2
    have hmi := hp.iv
    refine ⟨nx (iv m) (nx q i), hmi.lt (hq'.lt hi), (h.rep_iff h1 h2 hi).2 ⟨compL q (iv m), hq.comp hg h1 h2 (hm.inv hg h1 h2), fun t ht => ?_, ?_⟩, ?_⟩
    · rw [hq'.nxc (by omega), ha t ht, hp.nxi (by omega)]
    · rw [hq'.nxc hi]
    · rw [hp.nxi' (hq'.lt hi)]
theorem GrTo.step {c : Ch} {k : Nat} (h : GrTo N gs pre m k) (hw : Whole N gs c) (h1 : 1 ≤ N) (h2 : N ≤ 20) (hg : ∀ g ∈ gs, Pn N g) (hk : k < N) {y : Nat} (hr : c.rep k y ≠ []) (hv : (k < pre.length → (nx m y : Int) = pre.getD k 0) ∧ (pre.length ≤ k → ∀ v ∈ chL c k m N, (nx m y : Int) ≤ v)) : GrTo N gs pre (compL (c.rep k y) m) (k + 1) := by
  obtain ⟨a, b, d, _⟩ := hw.rep_mb h1 h2 hk hr
  have hr' := a.pn hg h1 h2
  have e : ∀ t, t < k → nx (compL (c.rep k y) m) t = nx m t := fun t ht => by rw [hr'.nxc (by omega), b t ht]
  have e2 : nx (compL (c.rep k y) m) k = nx m y := by rw [hr'.nxc hk, d]
  refine ⟨a.comp hg h1 h2 h.1, fun i hi => ?_⟩
  rcases Nat.lt_or_ge i k with hl | hl
  · rw [e i hl]
    exact ⟨(h.2 i hl).1, fun hp q hq hag => (h.2 i hl).2 hp q hq fun t ht => (hag t ht).trans (e t (by omega))⟩
  · obtain rfl : i = k := by omega
    rw [e2]
    refine ⟨hv.1, fun hp q hq hag => ?_⟩
    have := hv.2 hp (nx q i : Int) ((hw.choice h1 h2 hg hk h.1).2 ⟨q, hq, fun t ht => (hag t ht).trans (e t ht), rfl⟩)
    omega
theorem GrTo.no {c : Ch} {k : Nat} (h : GrTo N gs pre m k) (hw : Whole N gs c) (h1 : 1 ≤ N) (h2 : N ≤ 20) (hg : ∀ g ∈ gs, Pn N g) (hk : k < N) (hl : k < pre.length) (hn : pre.getD k 0 ∉ chL c k m N) : NoMem N gs pre := fun q hq hag =>
  hn ((hw.choice h1 h2 hg hk h.1).2 ⟨q, hq, fun t ht => by
    have a := hag t (by omega)
    have b := (h.2 t ht).1 (by omega)
    omega, hag k hl⟩)
theorem hasB_in (xs : List Int) (x : Int) : hasB xs x = decide (x ∈ xs) := by
  unfold hasB
  rw [Bool.eq_iff_iff]
  simp only [decide_eq_true_eq]
  constructor
  · rintro ⟨k, hk, e⟩
    rw [← e, List.getD_eq_getElem?_getD, List.getElem?_eq_getElem hk]; exact List.getElem_mem _
  · intro h
    obtain ⟨k, hk, e⟩ := List.mem_iff_getElem.1 h
    exact ⟨k, hk, by rw [List.getD_eq_getElem?_getD, List.getElem?_eq_getElem hk, ← e]; rfl⟩
end

end Go.Proofs.YtedfcljikgmpgaaGreat

/- GroupOrder, OrbitSizes, IsMember and MemberWithPrefix of the model: what they answer. Conditions: at most 1048576 lists of at most 1048576 numbers. -/
namespace Go.Proofs.YtedfcljikgmpgaaGreat
open Go.RowKit

/-- What GroupOrder answers. -/
def IsOrd (a : Int) (gs : List (List Int)) (v : Int) : Prop := (gB a gs = true ∧ ∃ xs, IsOS a.toNat gs xs ∧ v = prodL xs) ∨ (gB a gs = false ∧ v = 0)
theorem IsOrd.uniq {a v v' : Int} {gs : List (List Int)} (h : IsOrd a gs v) (h' : IsOrd a gs v') : v = v' := by
  rcases h with ⟨e, xs, h, rfl⟩ | ⟨e, rfl⟩ <;> rcases h' with ⟨e', ys, h', rfl⟩ | ⟨e', rfl⟩
  · rw [h.uniq h']
  · rw [e] at e'; cases e'
  · rw [e] at e'; cases e'
  · rfl
/-- What OrbitSizes answers. -/
def IsSiz (a : Int) (gs : List (List Int)) (xs : List Int) : Prop := (gB a gs = true ∧ IsOS a.toNat gs xs) ∨ (gB a gs = false ∧ xs = [])
theorem IsSiz.uniq {a : Int} {gs : List (List Int)} {xs ys : List Int} (h : IsSiz a gs xs) (h' : IsSiz a gs ys) : xs = ys := by
  rcases h with ⟨e, h⟩ | ⟨e, rfl⟩ <;> rcases h' with ⟨e', h'⟩ | ⟨e', rfl⟩
  · exact h.uniq h'
  · rw [e] at e'; cases e'
  · rw [e] at e'; cases e'
  · rfl
theorem IsSiz.len {a : Int} {gs : List (List Int)} {xs : List Int} (h : IsSiz a gs xs) : xs.length ≤ 20 := by
  rcases h with ⟨e, h⟩ | ⟨e, rfl⟩
  · obtain ⟨N, rfl, _, hN, _⟩ := gB_pm e
    rw [h.1]; simpa using hN
  · simp
/-- p is a member. -/
def Memb (a : Int) (gs : List (List Int)) (p : List Int) : Prop := gB a gs = true ∧ (p.length : Int) = a ∧ isP p = true ∧ Mb gs a.toNat p
theorem memb_uniq {a : Int} {gs : List (List Int)} {p : List Int} {b b' : Bool} (h : b = true ↔ Memb a gs p) (h' : b' = true ↔ Memb a gs p) : b = b' := by
  rw [Bool.eq_iff_iff, h, h']
/-- What MemberWithPrefix answers. -/
def IsMw (a : Int) (gs : List (List Int)) (pre m : List Int) (ok : Bool) : Prop :=
  (gB a gs = true ∧ (pre.length : Int) ≤ a ∧ IsMwp a.toNat gs pre m ok) ∨ (¬ (gB a gs = true ∧ (pre.length : Int) ≤ a) ∧ m = [] ∧ ok = false)
theorem IsMw.uniq {a : Int} {gs : List (List Int)} {pre m m' : List Int} {ok ok' : Bool} (h : IsMw a gs pre m ok) (h' : IsMw a gs pre m' ok') : m = m' ∧ ok = ok' := by
  rcases h with ⟨e, hl, h⟩ | ⟨e, rfl, rfl⟩ <;> rcases h' with ⟨e', hl', h'⟩ | ⟨e', rfl, rfl⟩
  · obtain ⟨N, rfl, h1, hN, _, _, ok⟩ := gB_pm e
    exact h.uniq (by simpa using h1) (by simpa using hN) (fun g hg => by rw [Int.toNat_natCast]; exact ok g hg) (by simp; omega) h'
  · exact absurd ⟨e, hl⟩ e'
  · exact absurd ⟨e', hl'⟩ e
  · exact ⟨rfl, rfl⟩
theorem IsMwp.len {N : Nat} {gs : List (List Int)} {pre m : List Int} {ok : Bool} (h1 : 1 ≤ N) (h2 : N ≤ 20) (hg : ∀ g ∈ gs, Pn N g) (h : IsMwp N gs pre m ok) : m.length ≤ 20 := by
  rcases h with ⟨_, h⟩ | ⟨_, rfl, _⟩
  · rw [(h.1.pn hg h1 h2).2]; exact h2
  · simp
theorem IsMw.len {a : Int} {gs : List (List Int)} {pre m : List Int} {ok : Bool} (h : IsMw a gs pre m ok) : m.length ≤ 20 := by
  rcases h with ⟨e, hl, h⟩ | ⟨e, rfl, rfl⟩
  · obtain ⟨N, rfl, h1, hN, _, _, ok⟩ := gB_pm e
    rw [Int.toNat_natCast] at h
    exact h.len h1 hN ok
  · simp

section
variable (a : Int) (A : Option Addr) (n c : Nat) (vs : List SV) (xss : List (List Int)) (w : World)
end
end Go.Proofs.YtedfcljikgmpgaaGreat

/- IsMember, LongestMemberPrefix and SameGroup of the model: what they answer. Conditions: at most 1048576 lists of at most 1048576 numbers. -/
namespace Go.Proofs.YtedfcljikgmpgaaGreat
open Go.RowKit

/-- p's first k entries are those of a member, and no more of them are. -/
def LmpOK (N : Nat) (gs : List (List Int)) (p : List Int) (k : Nat) : Prop := k ≤ N ∧ (∃ q, Mb gs N q ∧ ∀ t, t < k → nx q t = nx p t) ∧ (k < N → ¬ ∃ q, Mb gs N q ∧ ∀ t, t ≤ k → nx q t = nx p t)
theorem LmpOK.uniq {N k k' : Nat} {gs : List (List Int)} {p : List Int} (h : LmpOK N gs p k) (h' : LmpOK N gs p k') : k = k' := by
  obtain ⟨a, ⟨q, hq, hq2⟩, b⟩ := h
  obtain ⟨a', ⟨q', hq', hq2'⟩, b'⟩ := h'
  rcases Nat.lt_trichotomy k k' with hl | hl | hl
  · exact absurd ⟨q', hq', fun t ht => hq2' t (by omega)⟩ (b (by omega))
  · exact hl
  · exact absurd ⟨q, hq, fun t ht => hq2 t (by omega)⟩ (b' (by omega))
/-- What LongestMemberPrefix answers. -/
def IsLmp (a : Int) (gs : List (List Int)) (p : List Int) (v : Int) : Prop :=
  (gB a gs = true ∧ (p.length : Int) = a ∧ isP p = true ∧ ∃ k : Nat, v = k ∧ LmpOK a.toNat gs p k) ∨ (¬ (gB a gs = true ∧ (p.length : Int) = a ∧ isP p = true) ∧ v = -1)
theorem IsLmp.uniq {a v v' : Int} {gs : List (List Int)} {p : List Int} (h : IsLmp a gs p v) (h' : IsLmp a gs p v') : v = v' := by
  rcases h with ⟨e1, e2, e3, k, rfl, h⟩ | ⟨e, rfl⟩ <;> rcases h' with ⟨e1', e2', e3', k', rfl, h'⟩ | ⟨e', rfl⟩
  · rw [h.uniq h']
  · exact absurd ⟨e1, e2, e3⟩ e'
  · exact absurd ⟨e1', e2', e3'⟩ e
  · rfl
/-- The two lists generate the same group. -/
def SameG (a : Int) (xs ys : List (List Int)) : Prop := gB a xs = true ∧ gB a ys = true ∧ (∀ g ∈ ys, Mb xs a.toNat g) ∧ ∀ g ∈ xs, Mb ys a.toNat g

theorem bool_of (P : Prop) : ∃ b : Bool, b = true ↔ P := by
  rcases Classical.em P with h | h
  · exact ⟨true, fun _ => h, fun _ => rfl⟩
  · exact ⟨false, fun e => (by cases e), fun e => absurd e h⟩
section
variable (a : Int) (A : Option Addr) (n c : Nat) (vs : List SV) (xss : List (List Int)) (w : World)
theorem specIsPB (N : Nat) (xs : List Int) (ans : Bool) (hx : RI w w.heap.size A xs) (lx : Hid (xs.length = n)) (hn : n ≤ 2097152) (hnc : n ≤ c) (ha : Hid (isP xs = ans)) :
    Calls Tryz.prog 41 #[.slice A n c] w fun e w' => e = .returned (.bool ans) ∧ Below w.heap.size w w' :=
  (quiet_below (specIsP A c n xs w hx lx hn hnc)).mono fun e w' ⟨he, hb⟩ => ⟨he.trans (ret_bool ha.out), hb⟩

end
end Go.Proofs.YtedfcljikgmpgaaGreat

/- LongestMemberPrefix and StrongGeneratingSet of the model: what they answer. Conditions: at most 1048576 lists of at most 1048576 numbers. -/
namespace Go.Proofs.YtedfcljikgmpgaaGreat
open Go.RowKit

section
variable (a : Int) (A : Option Addr) (n c : Nat) (vs : List SV) (xss : List (List Int)) (w : World)

/-! ### StrongGeneratingSet -/
end
/-- The prefix for level i and point y. -/
def preOf (pr : Nat × Nat) : List Int := idL pr.1 ++ [(pr.2 : Int)]
/-- The smallest members for a list of levels and points, where there are any. -/
def Sgs (N : Nat) (gs : List (List Int)) : List (Nat × Nat) → List (List Int) → Prop
  | [], l => l = []
  | pr :: ps, l => ∃ m ok rest, IsMwp N gs (preOf pr) m ok ∧ Sgs N gs ps rest ∧ l = (if ok = true then [m] else []) ++ rest
theorem Sgs.snoc {N : Nat} {gs : List (List Int)} {m : List Int} {ok : Bool} {pr : Nat × Nat} (hm : IsMwp N gs (preOf pr) m ok) : ∀ {ps : List (Nat × Nat)} {l : List (List Int)}, Sgs N gs ps l → Sgs N gs (ps ++ [pr]) (l ++ if ok = true then [m] else [])
  | [], l, h => by
    obtain rfl : l = [] := h
    exact ⟨m, ok, [], hm, rfl, by simp⟩
  | p :: ps, l, h => by
    obtain ⟨m', ok', rest, h1, h2, rfl⟩ := h
    exact ⟨m', ok', _, h1, h2.snoc hm, by rw [List.append_assoc]⟩
theorem Sgs.uniq {N : Nat} {gs : List (List Int)} (h1 : 1 ≤ N) (h2 : N ≤ 20) (hg : ∀ g ∈ gs, Pn N g) : ∀ {ps : List (Nat × Nat)} {l l' : List (List Int)}, (∀ pr ∈ ps, pr.1 < N) → Sgs N gs ps l → Sgs N gs ps l' → l = l'
  | [], l, l', _, h, h' => by rw [show l = [] from h, show l' = [] from h']
  | p :: ps, l, l', hp, h, h' => by
    obtain ⟨m, ok, rest, a1, a2, rfl⟩ := h
    obtain ⟨m', ok', rest', b1, b2, rfl⟩ := h'
    have hl : (preOf p).length ≤ N := by
      have := hp p (by simp)
      unfold preOf; rw [List.length_append, idL_length]; simp; omega
    obtain ⟨e1, e2⟩ := a1.uniq h1 h2 hg hl b1
    rw [e1, e2, Sgs.uniq h1 h2 hg (fun pr hpr => hp pr (by simp [hpr])) a2 b2]
theorem Sgs.ok {N : Nat} {gs : List (List Int)} (h1 : 1 ≤ N) (h2 : N ≤ 20) (hg : ∀ g ∈ gs, Pn N g) : ∀ {ps : List (Nat × Nat)} {l : List (List Int)}, Sgs N gs ps l → l.length ≤ ps.length ∧ ∀ y ∈ l, Mb gs N y ∧ y.length = N
  | [], l, h => by rw [show l = [] from h]; simp
  | p :: ps, l, h => by
    obtain ⟨m, ok, rest, a1, a2, rfl⟩ := h
    obtain ⟨b1, b2⟩ := a2.ok h1 h2 hg
    rcases a1 with ⟨rfl, a1⟩ | ⟨rfl, _, _⟩
    · refine ⟨by simp; omega, fun y hy => ?_⟩
      simp at hy
      rcases hy with rfl | hy
      · exact ⟨a1.1, (a1.1.pn hg h1 h2).2⟩
      · exact b2 y hy
    · refine ⟨by simp; omega, fun y hy => b2 y (by simpa using hy)⟩
/-- The levels below k, and the points behind each. -/
def prsI (N i m : Nat) : List (Nat × Nat) := (List.range m).map fun t => (i, i + 1 + t)
def prs (N : Nat) : Nat → List (Nat × Nat)
  | 0 => []
  | k + 1 => prs N k ++ prsI N k (N - (k + 1))
theorem prsI_succ (N i m : Nat) : prsI N i (m + 1) = prsI N i m ++ [(i, i + 1 + m)] := by simp [prsI, List.range_succ]
theorem prs_lt (N : Nat) : ∀ k, k ≤ N → ∀ pr ∈ prs N k, pr.1 < N
  | 0, _, pr, h => by simp [prs] at h
  | k + 1, hk, pr, h => by
    rcases List.mem_append.1 h with h | h
    · exact prs_lt N k (by omega) pr h
    · simp only [prsI, List.mem_map] at h
      obtain ⟨t, _, rfl⟩ := h
      exact hk
theorem prs_len (N : Nat) : ∀ k, (prs N k).length ≤ k * N
  | 0 => by simp [prs]
  | k + 1 => by
    have := prs_len N k
    simp only [prs, prsI, List.length_append, List.length_map, List.length_range, Nat.add_mul, Nat.one_mul]
    omega
/-- What StrongGeneratingSet answers. -/
def IsSgs (a : Int) (gs l : List (List Int)) : Prop := (gB a gs = true ∧ Sgs a.toNat gs (prs a.toNat a.toNat) l) ∨ (gB a gs = false ∧ l = [])
theorem IsSgs.uniq {a : Int} {gs l l' : List (List Int)} (h : IsSgs a gs l) (h' : IsSgs a gs l') : l = l' := by
  rcases h with ⟨e, h⟩ | ⟨e, rfl⟩ <;> rcases h' with ⟨e', h'⟩ | ⟨e', rfl⟩
  · obtain ⟨N, rfl, h1, hN, _, _, ok⟩ := gB_pm e
    rw [Int.toNat_natCast] at h h'
    exact h.uniq h1 hN ok (prs_lt N N (Nat.le_refl _)) h'
  · rw [e] at e'; cases e'
  · rw [e] at e'; cases e'
  · rfl
end Go.Proofs.YtedfcljikgmpgaaGreat

/- StrongGeneratingSet of the model. Conditions: at most 1048576 lists of at most 1048576 numbers. -/
namespace Go.Proofs.YtedfcljikgmpgaaGreat
open Go.RowKit

theorem ownsRow_mid {w w' : World} {base n size lo : Nat} {e : TypeId} {v : Value} {xs : List Value} (h : w.ownsRow base e size v n xs) (hm : ∀ k, lo ≤ k → k < w.heap.size → w'.heap[k]? = w.heap[k]?) (hl : lo ≤ base) : w'.ownsRow base e size v n xs := by
  refine ⟨h.1, ?_⟩
  rcases h.2 with h0 | ⟨g, cap, cur, e2, hb, hg, rest⟩
  · exact .inl h0
  · exact .inr ⟨g, cap, cur, e2, hb, by rw [hm g (by omega) (Array.getElem?_eq_some_iff.1 hg).1]; exact hg, rest⟩

end Go.Proofs.YtedfcljikgmpgaaGreat

/- How many members a group of permutations and its stabilizers have: the product of the orbit sizes; conjugate groups. No Go in it. No condition. -/
namespace Go.Proofs.YtedfcljikgmpgaaGreat
open Go.RowKit

/-! ### lists without repeats -/
theorem nd_subA {α : Type} [BEq α] [LawfulBEq α] {l' : List α} : ∀ {l : List α}, l'.Nodup → (∀ x ∈ l', x ∈ l) → l'.length ≤ l.length := by
  induction l' with
  | nil => intro l _ _; simp
  | cons a t ih =>
    intro l hd h
    rw [List.nodup_cons] at hd
    have ha : a ∈ l := h a (by simp)
    have := ih (l := l.erase a) hd.2 fun x hx => by
      have hne : x ≠ a := fun e => hd.1 (e ▸ hx)
      exact (List.mem_erase_of_ne hne).2 (h x (by simp [hx]))
    rw [List.length_erase_of_mem ha] at this
    have h0 : 0 < l.length := List.length_pos_of_mem ha
    simp; omega
theorem nd_mapA {α β : Type} {f : α → β} {l : List α} (hd : l.Nodup) (hf : ∀ x ∈ l, ∀ y ∈ l, f x = f y → x = y) : (l.map f).Nodup := by
  induction l with
  | nil => simp
  | cons a t ih =>
    rw [List.nodup_cons] at hd
    rw [List.map_cons, List.nodup_cons]
    refine ⟨fun hm => ?_, ih hd.2 fun x hx y hy => hf x (by simp [hx]) y (by simp [hy])⟩
    obtain ⟨b, hb, e⟩ := List.mem_map.1 hm
    have := hf b (by simp [hb]) a (by simp) e
    subst this
    exact hd.1 hb
theorem flat_nd {β : Type} {f : Nat → List β} {m : Nat} : ∀ {O : List Nat}, O.Nodup → (∀ y ∈ O, (f y).Nodup) → (∀ y ∈ O, ∀ z ∈ O, y ≠ z → ∀ p, p ∈ f y → p ∉ f z) → (∀ y ∈ O, (f y).length = m) →
    (O.flatMap f).Nodup ∧ (O.flatMap f).length = O.length * m
  | [], _, _, _, _ => by simp
  | a :: t, hd, h1, h2, h3 => by
    rw [List.nodup_cons] at hd
    obtain ⟨i1, i2⟩ := flat_nd (O := t) hd.2 (fun y hy => h1 y (by simp [hy])) (fun y hy z hz => h2 y (by simp [hy]) z (by simp [hz])) (fun y hy => h3 y (by simp [hy]))
    rw [List.flatMap_cons]
    refine ⟨List.nodup_append.2 ⟨h1 a (by simp), i1, fun p hp q hq e => ?_⟩, ?_⟩
    · subst e
      obtain ⟨z, hz, hq⟩ := List.mem_flatMap.1 hq
      exact h2 a (by simp) z (by simp [hz]) (fun e => hd.1 (e ▸ hz)) p hp hq
    · rw [List.length_append, i2, h3 a (by simp), List.length_cons, Nat.succ_mul]; omega

/-! ### how many -/
def Crd (P : List Int → Prop) (v : Nat) : Prop := ∃ l : List (List Int), l.Nodup ∧ (∀ p, p ∈ l ↔ P p) ∧ v = l.length
section
variable {P Q : List Int → Prop} {v u : Nat}
theorem Crd.uniq (h : Crd P v) (h' : Crd P u) : v = u := by
  obtain ⟨l, d, m, rfl⟩ := h
  obtain ⟨l', d', m', rfl⟩ := h'
  have a := nd_subA d fun x hx => (m' x).2 ((m x).1 hx)
  have b := nd_subA d' fun x hx => (m x).2 ((m' x).1 hx)
  omega
theorem Crd.congr (h : Crd P v) (e : ∀ p, P p ↔ Q p) : Crd Q v := by
  obtain ⟨l, d, m, rfl⟩ := h
  exact ⟨l, d, fun p => (m p).trans (e p), rfl⟩
theorem Crd.map (h : Crd P v) (f : List Int → List Int) (hf : ∀ p, P p → ∀ q, P q → f p = f q → p = q) (e : ∀ q, Q q ↔ ∃ p, P p ∧ q = f p) : Crd Q v := by
  obtain ⟨l, d, m, rfl⟩ := h
  refine ⟨l.map f, nd_mapA d fun x hx y hy => hf x ((m x).1 hx) y ((m y).1 hy), fun q => ?_, by simp⟩
  rw [e, List.mem_map]
  exact ⟨fun ⟨p, hp, e⟩ => ⟨p, (m p).1 hp, e.symm⟩, fun ⟨p, hp, e⟩ => ⟨p, (m p).2 hp, e.symm⟩⟩
end

/-! ### the product of the orbit sizes from one level on -/
def pr (xs : List Int) (k : Nat) : Nat → Int
  | 0 => 1
  | m + 1 => pr xs k m * xs.getD (k + m) 0
theorem pr_front (xs : List Int) (k : Nat) : ∀ m, pr xs k (m + 1) = xs.getD k 0 * pr xs (k + 1) m
  | 0 => by show (1 : Int) * xs.getD (k + 0) 0 = xs.getD k 0 * 1; rw [Int.one_mul, Int.mul_one]; rfl
  | m + 1 => by
    show pr xs k (m + 1) * xs.getD (k + (m + 1)) 0 = xs.getD k 0 * (pr xs (k + 1) m * xs.getD (k + 1 + m) 0)
    rw [pr_front xs k m, Int.mul_assoc, show k + (m + 1) = k + 1 + m by omega]
theorem prodL_take (xs : List Int) : ∀ m, m ≤ xs.length → prodL (xs.take m) = pr xs 0 m
  | 0, _ => rfl
  | m + 1, h => by
    rw [List.take_succ_eq_append_getElem (by omega), prodL_snoc, prodL_take xs m (by omega)]
    show _ = pr xs 0 m * xs.getD (0 + m) 0
    rw [Nat.zero_add, List.getD_eq_getElem?_getD, List.getElem?_eq_getElem (by omega)]; rfl
theorem prodL_pr (xs : List Int) : prodL xs = pr xs 0 xs.length := by rw [← prodL_take xs _ (Nat.le_refl _), List.take_length]
section
variable {N : Nat} {gs : List (List Int)} {xs : List Int}
theorem IsOS.card (h : IsOS N gs xs) (hg : ∀ g ∈ gs, Pn N g) (h1 : 1 ≤ N) (h2 : N ≤ 20) : ∀ m k, k + m = N → ∃ v, Crd (fun p => Mb gs N p ∧ Fx k p) v ∧ pr xs k m = (v : Int)
  | 0, k, e => by
    obtain rfl : k = N := by omega
    refine ⟨1, ⟨[idL k], by simp, fun p => ?_, rfl⟩, rfl⟩
    rw [List.mem_singleton]
    exact ⟨fun e => e ▸ ⟨.one, fx_id (Nat.le_refl _)⟩, fun ⟨a, b⟩ => b.all (a.pn hg h1 h2)⟩
  | m + 1, k, e => by
    obtain ⟨v, ⟨l, d, hm, rfl⟩, hv⟩ := h.card hg h1 h2 m (k + 1) (by omega)
    obtain ⟨O, dO, hO, ex⟩ := h.2 k (by omega)
    have hk : k < N := by omega
    have hr : ∃ r : Nat → List Int, ∀ y ∈ O, Mb gs N (r y) ∧ Fx k (r y) ∧ nx (r y) k = y := by
      refine ⟨fun y => if hy : y ∈ O then Classical.choose ((hO y).1 hy).2 else [], fun y hy => ?_⟩
      simp only [hy, dif_pos]
      exact Classical.choose_spec ((hO y).1 hy).2
    obtain ⟨r, hr⟩ := hr
    have hpn : ∀ p, Mb gs N p → Pn N p := fun p hp => hp.pn hg h1 h2
    have hat : ∀ y ∈ O, ∀ p, p ∈ l → nx (compL p (r y)) k = y := fun y hy p hp => by
      have h3 := (hm p).1 hp
      rw [(hpn p h3.1).nxc hk, h3.2 k (by omega), (hr y hy).2.2]
    obtain ⟨i1, i2⟩ := flat_nd (O := O) (f := fun y => l.map fun p => compL p (r y)) (m := l.length) dO
      (fun y hy => nd_mapA d fun p hp q hq e => by
        have hp' := hpn p ((hm p).1 hp).1
        have hq' := hpn q ((hm q).1 hq).1
        have hry := hpn _ (hr y hy).1
        have : compL (compL p (r y)) (iv (r y)) = compL (compL q (r y)) (iv (r y)) := congrArg (fun t => compL t (iv (r y))) e
        rw [hp'.assoc hry, hq'.assoc hry, hry.ci, hp'.idr, hq'.idr] at this
        exact this)
      (fun y hy z hz hne p hp hp2 => by
        obtain ⟨q, hq, rfl⟩ := List.mem_map.1 hp
        obtain ⟨q', hq', e'⟩ := List.mem_map.1 hp2
        exact hne (by rw [← hat y hy q hq, ← hat z hz q' hq', e']))
      (fun y hy => by simp)
    refine ⟨O.length * l.length, ⟨_, i1, fun p => ?_, i2.symm⟩, ?_⟩
    · rw [List.mem_flatMap]
      constructor
      · rintro ⟨y, hy, hp⟩
        obtain ⟨q, hq, rfl⟩ := List.mem_map.1 hp
        obtain ⟨a, b⟩ := (hm q).1 hq
        obtain ⟨a', b', _⟩ := hr y hy
        exact ⟨a.comp hg h1 h2 a', (b.mono (by omega)).comp (hpn q a) b' (by omega)⟩
      · rintro ⟨a, b⟩
        have hp := hpn p a
        have hy : nx p k ∈ O := (hO _).2 ⟨hp.lt hk, p, a, b, rfl⟩
        obtain ⟨a', b', e'⟩ := hr _ hy
        have hrp := hpn _ a'
        refine ⟨_, hy, List.mem_map.2 ⟨compL p (iv (r (nx p k))), (hm _).2 ⟨a.comp hg h1 h2 (a'.inv hg h1 h2), ?_⟩, ?_⟩⟩
        · refine Fx.succ (b.comp hp (b'.iv hrp (by omega)) (by omega)) ?_
          rw [hp.nxc hk]
          have := hrp.nxi (x := k) hk
          rw [e'] at this; exact this
        · rw [hp.assoc hrp.iv, hrp.ic, hp.idr]
    · rw [pr_front, ex, hv, Int.natCast_mul]
/-- The order is the number of members. -/
theorem IsOS.order (h : IsOS N gs xs) (hg : ∀ g ∈ gs, Pn N g) (h1 : 1 ≤ N) (h2 : N ≤ 20) : ∃ v, Crd (Mb gs N) v ∧ prodL xs = (v : Int) := by
  obtain ⟨v, hc, e⟩ := h.card hg h1 h2 N 0 (by omega)
  exact ⟨v, hc.congr fun p => ⟨fun h => h.1, fun h => ⟨h, Fx.zero⟩⟩, by rw [prodL_pr, h.1]; exact e⟩
end

section
variable {N : Nat} {gs : List (List Int)} {xs : List Int}
theorem IsOS.bnd (h : IsOS N gs xs) (hg : ∀ g ∈ gs, Pn N g) (h1 : 1 ≤ N) (h2 : N ≤ 20) {i : Nat} (hi : i < N) : 1 ≤ xs.getD i 0 ∧ xs.getD i 0 ≤ ((N - i : Nat) : Int) := by
  obtain ⟨l, d, m, e⟩ := h.2 i hi
  rw [e]
  constructor
  · have : i ∈ l := (m i).2 ⟨hi, idL N, .one, fx_id (by omega), nx_id hi⟩
    have := List.length_pos_of_mem this
    omega
  · have : l.length ≤ (List.range' i (N - i)).length := by
      refine nd_sub d fun y hy => ?_
      obtain ⟨hy, p, hp, hf, rfl⟩ := (m y).1 hy
      have := hf.ge (hp.pn hg h1 h2) hi
      rw [List.mem_range'_1]; omega
    rw [List.length_range'] at this
    omega
theorem IsOS.pr_le (h : IsOS N gs xs) (hg : ∀ g ∈ gs, Pn N g) (h1 : 1 ≤ N) (h2 : N ≤ 20) (k : Nat) : ∀ m, k + m ≤ N → 1 ≤ pr xs k m ∧ pr xs k m ≤ (facts N (k + m) : Int)
  | 0, hm => by
    have := facts_pos (N := N) (m := k) (by omega)
    exact ⟨Int.le_refl _, by show (1 : Int) ≤ (facts N (k + 0) : Int); rw [Nat.add_zero]; omega⟩
  | m + 1, hm => by
    obtain ⟨a, b⟩ := h.pr_le hg h1 h2 k m (by omega)
    obtain ⟨d, e⟩ := h.bnd hg h1 h2 (i := k + m) (by omega)
    show 1 ≤ pr xs k m * xs.getD (k + m) 0 ∧ pr xs k m * xs.getD (k + m) 0 ≤ ((facts N (k + m) * (N - (k + m)) : Nat) : Int)
    refine ⟨?_, ?_⟩
    · have := Int.mul_le_mul a d (by omega) (by omega)
      simpa using this
    · rw [Int.natCast_mul]
      exact Int.mul_le_mul b e (by omega) (by omega)
end

/-! ### conjugate groups -/
def cj (o p : List Int) : List Int := compL (compL (iv o) p) o
section
variable {N : Nat} {o p q m : List Int} {gs : List (List Int)}
theorem Pn.iviv (ho : Pn N o) : Proofs.YtedfcljikgmpgaaGreat.iv (Proofs.YtedfcljikgmpgaaGreat.iv o) = o := ho.iv.iv.ext ho fun x hx => by
  refine ho.iv.inj (ho.iv.iv.lt hx) (ho.lt hx) ?_
  rw [ho.iv.nxi' hx, ho.nxi hx]
theorem cj_pn (ho : Pn N o) (hp : Pn N p) : Pn N (cj o p) := (ho.iv.comp hp).comp ho
theorem cj_nx (ho : Pn N o) (hp : Pn N p) {x : Nat} (hx : x < N) : nx (cj o p) x = nx o (nx p (nx (iv o) x)) := by
  unfold cj; rw [(ho.iv.comp hp).nxc hx, ho.iv.nxc hx]
theorem cj_id (ho : Pn N o) : cj o (idL N) = idL N := by unfold cj; rw [ho.iv.idr, ho.ic]
theorem cj_mul (ho : Pn N o) (hp : Pn N p) (hq : Pn N q) : cj o (compL p q) = compL (cj o p) (cj o q) :=
  (cj_pn ho (hp.comp hq)).ext ((cj_pn ho hp).comp (cj_pn ho hq)) fun x hx => by
    rw [cj_nx ho (hp.comp hq) hx, (cj_pn ho hp).nxc hx, cj_nx ho hp hx, cj_nx ho hq (ho.lt (hp.lt (ho.iv.lt hx))), ho.nxi (hp.lt (ho.iv.lt hx)), hp.nxc (ho.iv.lt hx)]
theorem cj_back (ho : Pn N o) (hp : Pn N p) : cj (iv o) (cj o p) = p :=
  (cj_pn ho.iv (cj_pn ho hp)).ext hp fun x hx => by
    rw [cj_nx ho.iv (cj_pn ho hp) hx, ho.iviv, cj_nx ho hp (ho.lt hx), ho.nxi hx, ho.nxi (hp.lt hx)]
theorem cj_mb (ho : Pn N o) (hg : ∀ g ∈ gs, Pn N g) (q : List Int) : Mb (gs.map (cj o)) N q ↔ ∃ p, Mb gs N p ∧ q = cj o p := by
  have h1 := ho.pos.1
  have h2 := ho.pos.2
  constructor
  · intro h
    induction h with
    | one => exact ⟨_, .one, (cj_id ho).symm⟩
    | mul _ hm ih =>
      obtain ⟨p, hp, rfl⟩ := ih
      obtain ⟨g, hg', rfl⟩ := List.mem_map.1 hm
      exact ⟨_, .mul hp hg', (cj_mul ho (hp.pn hg h1 h2) (hg _ hg')).symm⟩
  · rintro ⟨p, hp, rfl⟩
    induction hp with
    | one => rw [cj_id ho]; exact .one
    | mul hp hm ih =>
      rw [cj_mul ho (hp.pn hg h1 h2) (hg _ hm)]
      exact .mul ih (List.mem_map.2 ⟨_, hm, rfl⟩)
/-- The points of the list are fixed. -/
def Fxs (pts p : List Int) : Prop := ∀ j, j < pts.length → nx p (nx pts j) = nx pts j
theorem cj_fx (hm : Pn N m) (hp : Pn N p) {pts : List Int} (hk : pts.length ≤ N) (hpre : ∀ j, j < pts.length → m.getD j 0 = pts.getD j 0) : Fx pts.length (cj (iv m) p) ↔ Fxs pts p := by
  have e : ∀ j, j < pts.length → nx m j = nx pts j := fun j hj => by unfold nx; rw [hpre j hj]
  constructor
  · intro h j hj
    have h3 := h j hj
    rw [cj_nx hm.iv hp (by omega), hm.iviv] at h3
    rw [← e j hj]
    exact hm.iv.inj (hp.lt (hm.lt (by omega))) (hm.lt (by omega)) (by rw [h3, hm.nxi (by omega)])
  · intro h j hj
    rw [cj_nx hm.iv hp (by omega), hm.iviv, e j hj, h j hj, ← e j hj, hm.nxi (by omega)]
/-- The stabilizer of the first points of m, counted in the conjugate group. -/
theorem cj_card {xs pts : List Int} (hm : Pn N m) (hg : ∀ g ∈ gs, Pn N g) (h : IsOS N (gs.map (cj (iv m))) xs) (hk : pts.length ≤ N) (hpre : ∀ j, j < pts.length → m.getD j 0 = pts.getD j 0) :
    ∃ v, Crd (fun p => Mb gs N p ∧ Fxs pts p) v ∧ pr xs pts.length (N - pts.length) = (v : Int) := by
  have h1 := hm.pos.1
  have h2 := hm.pos.2
  have hpn : ∀ p, Mb gs N p → Pn N p := fun p hp => hp.pn hg h1 h2
  have hg' : ∀ g ∈ gs.map (cj (iv m)), Pn N g := fun g hg1 => by
    obtain ⟨p, hp, rfl⟩ := List.mem_map.1 hg1
    exact cj_pn hm.iv (hg p hp)
  obtain ⟨v, hc, e⟩ := h.card hg' h1 h2 (N - pts.length) pts.length (by omega)
  refine ⟨v, hc.map (cj m) (fun p hp q hq e2 => ?_) (fun q => ?_), e⟩
  · rw [← cj_back hm (hp.1.pn hg' h1 h2), e2, cj_back hm (hq.1.pn hg' h1 h2)]
  · constructor
    · rintro ⟨a, b⟩
      refine ⟨cj (iv m) q, ⟨(cj_mb hm.iv hg _).2 ⟨q, a, rfl⟩, (cj_fx hm (hpn q a) hk hpre).2 b⟩, ?_⟩
      have := cj_back hm.iv (hpn q a)
      rw [hm.iviv] at this; exact this.symm
    · rintro ⟨p, ⟨a, b⟩, rfl⟩
      obtain ⟨q, hq, rfl⟩ := (cj_mb hm.iv hg _).1 a
      have := cj_back hm.iv (hpn q hq)
      rw [hm.iviv] at this
      rw [this]
      exact ⟨hq, (cj_fx hm (hpn q hq) hk hpre).1 b⟩
end
end Go.Proofs.YtedfcljikgmpgaaGreat

/- What StabilizerOrder answers; isPointSet and moveToFront of the model. Conditions: at most 20 points; lists of at most 1048576 numbers. -/
namespace Go.Proofs.YtedfcljikgmpgaaGreat
open Go.RowKit

/-- A strictly increasing list of points. -/
def PtS (N : Nat) (pts : List Int) : Prop := pts.length ≤ N ∧ ∀ i, i < pts.length → 0 ≤ pts.getD i 0 ∧ pts.getD i 0 < N ∧ (0 < i → pts.getD (i - 1) 0 < pts.getD i 0)
/-- What StabilizerOrder answers: how many members fix the points. -/
def IsStb (a : Int) (gs : List (List Int)) (pts : List Int) (v : Int) : Prop :=
  (gB a gs = true ∧ PtS a.toNat pts ∧ ∃ c : Nat, Crd (fun p => Mb gs a.toNat p ∧ Fxs pts p) c ∧ v = (c : Int)) ∨ (¬ (gB a gs = true ∧ PtS a.toNat pts) ∧ v = 0)
theorem IsStb.uniq {a v v' : Int} {gs : List (List Int)} {pts : List Int} (h : IsStb a gs pts v) (h' : IsStb a gs pts v') : v = v' := by
  rcases h with ⟨e, f, c, hc, rfl⟩ | ⟨e, rfl⟩ <;> rcases h' with ⟨e', f', c', hc', rfl⟩ | ⟨e', rfl⟩
  · rw [hc.uniq hc']
  · exact absurd ⟨e, f⟩ e'
  · exact absurd ⟨e', f'⟩ e
  · rfl
section
variable {N : Nat} {pts : List Int}
theorem PtS.lt (h : PtS N pts) {i : Nat} : ∀ j, i < j → j < pts.length → pts.getD i 0 < pts.getD j 0
  | 0, hij, _ => absurd hij (Nat.not_lt_zero _)
  | j + 1, hij, hj => by
    have h1 := (h.2 (j + 1) hj).2.2 (Nat.succ_pos j)
    rw [Nat.add_sub_cancel] at h1
    by_cases e : i = j
    · rw [e]; exact h1
    · have := h.lt (i := i) j (by omega) (by omega)
      omega
theorem gdx {l : List Int} {i : Nat} (h : i < l.length) : l.getD i 0 = l[i] := by
  rw [List.getD_eq_getElem?_getD, List.getElem?_eq_getElem h]; rfl
theorem PtS.nodup (h : PtS N pts) : pts.Nodup := List.pairwise_iff_getElem.2 fun i j hi hj hij => by
  have := h.lt j hij hj
  rw [gdx hi, gdx hj] at this
  exact fun e => by rw [e] at this; omega
theorem PtS.mem (h : PtS N pts) {x : Int} (hx : x ∈ pts) : 0 ≤ x ∧ x < N := by
  obtain ⟨i, hi, rfl⟩ := List.mem_iff_getElem.1 hx
  have := h.2 i hi
  rw [gdx hi] at this
  exact ⟨this.1, this.2.1⟩
theorem hasB_mem {l : List Int} {x : Int} : hasB l x = true ↔ x ∈ l := by
  unfold hasB
  rw [decide_eq_true_eq, List.mem_iff_getElem]
  exact ⟨fun ⟨j, hj, e⟩ => ⟨j, hj, by rw [← gdx hj, e]⟩, fun ⟨j, hj, e⟩ => ⟨j, hj, by rw [gdx hj, e]⟩⟩
/-- The points in a new order: those of the list, then the others. -/
def mtf (pts : List Int) (k : Nat) : List Int := pts ++ ((List.range k).map Int.ofNat).filter fun x => !hasB pts x
theorem mtf_zero : mtf pts 0 = pts := by simp [mtf]
theorem mtf_yes {k : Nat} (h : hasB pts (k : Int) = true) : mtf pts (k + 1) = mtf pts k := by
  unfold mtf
  rw [List.range_succ, List.map_append, List.filter_append]
  simp [h]
theorem mtf_no {k : Nat} (h : hasB pts (k : Int) = false) : mtf pts (k + 1) = mtf pts k ++ [(k : Int)] := by
  unfold mtf
  rw [List.range_succ, List.map_append, List.filter_append]
  simp [h]
theorem mtf_le (k : Nat) : (mtf pts k).length ≤ pts.length + k := by
  unfold mtf
  rw [List.length_append]
  have := List.length_filter_le (fun x => !hasB pts x) ((List.range k).map Int.ofNat)
  simp at this ⊢; omega
theorem mtf_pre (k : Nat) {j : Nat} (hj : j < pts.length) : (mtf pts k).getD j 0 = pts.getD j 0 := getD_app _ _ _ _ hj
theorem PtS.mtf_mem (h : PtS N pts) (x : Int) : x ∈ mtf pts N ↔ 0 ≤ x ∧ x < N := by
  unfold mtf
  rw [List.mem_append, List.mem_filter, List.mem_map]
  constructor
  · rintro (hx | ⟨⟨i, hi, rfl⟩, _⟩)
    · exact h.mem hx
    · have := List.mem_range.1 hi
      exact ⟨Int.natCast_nonneg _, by show (i : Int) < N; omega⟩
  · rintro ⟨h0, h1⟩
    by_cases hx : x ∈ pts
    · exact .inl hx
    · refine .inr ⟨⟨x.toNat, List.mem_range.2 (by omega), by show ((x.toNat : Nat) : Int) = x; omega⟩, ?_⟩
      rw [Bool.not_eq_true', ← Bool.not_eq_true, hasB_mem]; exact hx
theorem PtS.mtf_nd (h : PtS N pts) : (mtf pts N).Nodup := by
  unfold mtf
  refine List.nodup_append.2 ⟨h.nodup, (nd_mapA List.nodup_range fun x _ y _ e => Int.ofNat.inj e).filter _, fun a ha b hb e => ?_⟩
  subst e
  have h2 := (List.mem_filter.1 hb).2
  rw [Bool.not_eq_true', ← Bool.not_eq_true, hasB_mem] at h2
  exact h2 ha
theorem PtS.mtf_pn (h : PtS N pts) (h1 : 1 ≤ N) (h2 : N ≤ 20) : Pn N (mtf pts N) := by
  have hr : ((List.range N).map Int.ofNat).Nodup := nd_mapA List.nodup_range fun x _ y _ e => Int.ofNat.inj e
  have hl : (mtf pts N).length = N := by
    have a := nd_subA (l := (List.range N).map Int.ofNat) h.mtf_nd fun x hx => by
      have := (h.mtf_mem x).1 hx
      exact List.mem_map.2 ⟨x.toNat, List.mem_range.2 (by omega), by show ((x.toNat : Nat) : Int) = x; omega⟩
    have b := nd_subA (l := mtf pts N) hr fun x hx => by
      obtain ⟨i, hi, rfl⟩ := List.mem_map.1 hx
      have := List.mem_range.1 hi
      exact (h.mtf_mem _).2 ⟨Int.natCast_nonneg _, by show (i : Int) < N; omega⟩
    simp at a b; omega
  have hm : ∀ i, i < (mtf pts N).length → 0 ≤ (mtf pts N).getD i 0 ∧ (mtf pts N).getD i 0 < N := fun i hi => by
    rw [gdx hi]; exact (h.mtf_mem _).1 (List.getElem_mem hi)
  refine ⟨⟨by omega, by omega, fun i hi => (hm i hi).1, fun i hi => by have := (hm i hi).2; omega, fun i j hi hj e => ?_⟩, hl⟩
  rw [gdx hi, gdx hj] at e
  have hp := List.pairwise_iff_getElem.1 h.mtf_nd
  rcases Nat.lt_trichotomy i j with hl | hl | hl
  · exact absurd e (hp i j hi hj hl)
  · exact hl
  · exact absurd e.symm (hp j i hj hi hl)
end

/-- append of nothing. -/
theorem wpList_app0 {w : World} {ops : Array Oper} {rest : List Oper} {o : Oper} {a : Act} {Q : Exit → Act → World → Prop} (hgd : o.guard = none) (s x : Operand)
    (ho : o.op = .call { callee := .builtin .append, args := #[s, x], argTypes := #[37, 37] })
    (b : Option Addr) (sl sc : Nat) (hle : sl ≤ sc) (hs : a.eval s = .slice b sl sc) (A : Option Addr) (c : Nat) (hx : a.eval x = .slice A 0 c)
    (h : wpList Tryz.prog ops Q rest (a.put o.dst (.slice b sl sc)) w) : wpList Tryz.prog ops Q (o :: rest) a w := by
  obtain ⟨i0, hi, hz0, hz1, hz2⟩ := info_parts infoI
  refine wpList_plain hgd fun _ hK => ?_
  have hr := run_append_nothing (P := Tryz.prog) w 37 37 o.type 2 i0 Tryz.underlying37 hi b sl sc hle (.slice A 0 c)
    ⟨.inl ⟨_, Tryz.underlying37⟩, fun w' => by cases A <;> rfl, by cases A <;> simp [Builtin.firstCells, loadCells, loadCellsFrom], by cases A <;> simp [Builtin.firstCells, loadCells, loadCellsFrom], by simp, fun u hu => by cases hu⟩
  unfold Oper.wp execOp
  simp only [ho, resolve, invoke, builtin, Sem.run_bind, Sem.run_pure, Result.andThen_ok, List.map_toArray, List.map_cons, List.map_nil, hs, hx, hr]
  exact hK _ _ h

/-- copyInts of whatever can be read. -/
theorem copyAny (A : Option Addr) (n c : Nat) (xs : List Int) (w : World) (h : RI w w.heap.size A xs) (lx : Hid (xs.length = n)) (hn : n ≤ 1000000) :
    Calls Tryz.prog 60 #[.slice A n c] w fun e w' => ∃ A' c', e = .returned (.slice A' n c') ∧ Slc w' w.heap.size A' n c' xs ∧ Below w.heap.size w w' := by
  by_cases h0 : 0 < n
  · obtain ⟨b, off, rfl, hb, hc⟩ := h (by rw [lx.out]; exact h0)
    exact copyRI b off n c xs w h lx.out hn
  · obtain rfl : n = 0 := by omega
    obtain rfl : xs = [] := List.length_eq_zero_iff.1 lx.out
    have H0 := Lib.hid (Slc.lit0 w w.heap.size (Nat.le_refl _))
    have B0 : Hid (Below w.heap.size w (w.alloc (.cells #[] 2))) := Lib.hid ((Below.refl _ w).alloc (Nat.le_refl _) _)
    clear h lx
    go_enter Tryz.func60, Tryz.ntmps60
    go_wp2_with (first | (at_builtin; refine wpList_app0 rfl _ _ rfl _ 0 0 (Nat.le_refl _) rfl A c rfl ?_))
    go_ret
    exact ⟨_, _, rfl, H0.out, B0.out⟩



end Go.Proofs.YtedfcljikgmpgaaGreat

/- StabilizerOrder of the model. Conditions: at most 1048576 lists of at most 1048576 numbers. -/
namespace Go.Proofs.YtedfcljikgmpgaaGreat
open Go.RowKit

theorem Whole.pr_le {N : Nat} {gs : List (List Int)} {c : Ch} (h : Whole N gs c) (h1 : 1 ≤ N) (k : Nat) : ∀ m, k + m ≤ N → 1 ≤ pr (osL N c N) k m ∧ pr (osL N c N) k m ≤ (facts N (k + m) : Int)
  | 0, hm => by
    have := facts_pos (N := N) (m := k) (by omega)
    exact ⟨Int.le_refl _, by show (1 : Int) ≤ (facts N (k + 0) : Int); rw [Nat.add_zero]; omega⟩
  | m + 1, hm => by
    obtain ⟨a, b⟩ := h.pr_le h1 k m (by omega)
    obtain ⟨d, e⟩ := h.nr_pos h1 (i := k + m) (by omega)
    have ex : pr (osL N c N) k (m + 1) = pr (osL N c N) k m * (nr N c (k + m) N : Int) := by
      show _ * (osL N c N).getD (k + m) 0 = _
      rw [osL_at (by omega)]
    rw [ex]
    refine ⟨?_, ?_⟩
    · have := Int.mul_le_mul a (show (1 : Int) ≤ (nr N c (k + m) N : Int) by omega) (by omega) (by omega)
      simpa using this
    · have := Int.mul_le_mul b (show (nr N c (k + m) N : Int) ≤ ((N - (k + m) : Nat) : Int) by omega) (by omega) (by omega)
      show _ ≤ ((facts N (k + m) * (N - (k + m)) : Nat) : Int)
      rw [Int.natCast_mul]; exact this
theorem take_cj {gs : List (List Int)} {o : List Int} {k : Nat} {y : List Int} (hk : k < gs.length) (ey : gs.getD k [] = y) : (gs.take (k + 1)).map (cj o) = (gs.take k).map (cj o) ++ [cj o y] := by
  rw [List.getD_eq_getElem?_getD, List.getElem?_eq_getElem hk] at ey
  have e' : gs[k] = y := ey
  rw [List.take_succ_eq_append_getElem hk, List.map_append, e']; rfl

/-- One slice more on a slice of slices of the call's own. -/
theorem SS.snocV {w w' : World} {base bi n c : Nat} {A : Option Addr} {vs : List SV} {xss : List (List Int)} {A' : Option Addr} {c' : Nat} {d : SV} {ys : List Int} (hss : SS w base bi A n c vs xss) (hys : Slc w bi d.1 d.2.1 d.2.2 ys)
    (hdis : ∀ i, i < n → (sval (vs.getD i sd0)).ownBlock = none ∨ (sval (vs.getD i sd0)).ownBlock ≠ (sval d).ownBlock) (hown : w'.ownsRow base 37 1 (.slice A' (n + 1) c') (n + 1) (vs.map sval ++ [sval d])) (hg : w.grownBy w' (Value.slice A n c).ownBlock) :
    SS w' base bi A' (n + 1) c' (vs ++ [d]) (xss ++ [ys]) := by
  refine ⟨?_, by simp [hss.lv], by simp [hss.lx], fun i hi' => ?_, fun i j hij hj => ?_⟩
  · rw [List.map_append]; exact hown
  · by_cases e : i < n
    · rw [getD_app _ _ _ _ (by rw [hss.lv]; exact e), getD_app _ _ _ _ (by rw [hss.lx]; exact e)]
      exact (hss.row i e).kept hg (apart_types (hss.row i e) hss.own)
    · obtain rfl : i = n := by omega
      rw [getD_snoc _ _ _ _ hss.lv.symm, getD_snoc _ _ _ _ hss.lx.symm]
      exact hys.kept hg (apart_types hys hss.own)
  · rw [getD_app _ _ _ i (by rw [hss.lv]; omega)]
    by_cases e : j < n
    · rw [getD_app _ _ _ j (by rw [hss.lv]; exact e)]; exact hss.dis i j hij e
    · obtain rfl : j = n := by omega
      rw [getD_snoc _ _ _ _ hss.lv.symm]
      exact hdis i hij
end Go.Proofs.YtedfcljikgmpgaaGreat

/- What the functions of chapter 4 answer, and that the model's do. No condition. -/
namespace Go.Proofs.YtedfcljikgmpgaaGreat
open Go.RowKit

def IsMem (a : Int) (gs : List (List Int)) (p : List Int) (b : Bool) : Prop := b = true ↔ Memb a gs p
def IsSam (a : Int) (xs ys : List (List Int)) (b : Bool) : Prop := b = true ↔ SameG a xs ys
theorem IsMem.uniq {a : Int} {gs : List (List Int)} {p : List Int} {b b' : Bool} (h : IsMem a gs p b) (h' : IsMem a gs p b') : b = b' := memb_uniq h h'
theorem IsSam.uniq {a : Int} {xs ys : List (List Int)} {b b' : Bool} (h : IsSam a xs ys b) (h' : IsSam a xs ys b') : b = b' := by
  unfold IsSam at h h'; rw [Bool.eq_iff_iff, h, h']
theorem boundSgs {a : Int} {gs l : List (List Int)} (h : IsSgs a gs l) : l.length ≤ 1048576 ∧ (∀ i, i < l.length → (l.getD i []).length ≤ 1048576) ∧ sumL l ≤ 1048576 := by
  rcases h with ⟨e, h⟩ | ⟨e, rfl⟩
  · obtain ⟨N, rfl, h1, hN, _, _, ok⟩ := gB_pm e
    rw [Int.toNat_natCast] at h
    obtain ⟨a1, a2⟩ := h.ok h1 hN ok
    have a3 := prs_len N N
    have a4 : N * N ≤ 20 * 20 := Nat.mul_le_mul hN hN
    exact bound_all (m := 400) (k := 20) (by omega) (fun y hy => by rw [(a2 y hy).2]; exact hN) (by omega)
  · exact bound_all (m := 0) (k := 0) (Nat.le_refl _) (fun y hy => by cases hy) (by omega)

end Go.Proofs.YtedfcljikgmpgaaGreat

/- The draws of chapter 4's named laws. Condition: at most 4096 bytes. -/
namespace Go.Proofs.YtedfcljikgmpgaaGreat
open Go.RowKit

theorem drawAnyK (g n : Nat) (N : Int) (w : World) (hs : Src w g) (hN : N = (n : Int)) (h1 : 1 ≤ n) (hn : n ≤ 20) :
    Calls Tryz.prog 32 #[.pointer (some ⟨g, 0, none⟩), .int .i64 N] w fun e w' => ∃ A m c xs, e = .returned (.slice A m c) ∧ Pm w' w.heap.size A m c xs ∧ m ≤ 21 ∧ Src w' g ∧ w.grownBy w' (some g) := by
  subst hN; exact drawAny g n w hs h1 hn

end Go.Proofs.YtedfcljikgmpgaaGreat

/- The walk of the law FnMembership: it returns true at every input, and writes nothing that was there. No condition but the program's own contracts. -/
namespace Go.Proofs.YtedfcljikgmpgaaGreat
open Go.RowKit

set_option maxHeartbeats 400000 in
theorem bigF4 (A : Option Addr) (len cap : Nat) (w : World) (hl : len ≤ 4096) : Calls Tryz.prog 4 #[.slice A len cap] w fun e w' => e = .returned (.bool false) ∧ w = w' := by
  have d : decide ((4096 : Int) < (len : Int)) = false := by simp; omega
  go_enter Tryz.func4, Tryz.ntmps4
  go_wp2
  go_ret
  exact ⟨rfl, rfl⟩
set_option maxHeartbeats 400000 in
theorem bigT4 (A : Option Addr) (len cap : Nat) (w : World) (hl : 4096 < len) : Calls Tryz.prog 4 #[.slice A len cap] w fun e w' => e = .returned (.bool true) ∧ w = w' := by
  have d : decide ((4096 : Int) < (len : Int)) = true := by simp; omega
  go_enter Tryz.func4, Tryz.ntmps4
  go_wp2
  go_ret
  exact ⟨rfl, rfl⟩
theorem below_gro4 {w0 w w' : World} {g : Nat} (h : Below w0.heap.size w0 w) (hg : w.grownBy w' (some g)) (hB : w0.heap.size ≤ g) : Below w0.heap.size w0 w' := h.grown hg h.size (fun k e => by injection e with e; omega)
theorem likeI_eq (A B : Option Addr) (c d n m : Nat) (xs : List Int) (w : World) (hx : RI w w.heap.size A xs) (hy : RI w w.heap.size B xs) (lx : Hid (xs.length = n)) (ly : Hid (xs.length = m)) (hn : n ≤ 2097152) :
    Calls Tryz.prog 25 #[.slice A n c, .slice B m d] w fun e w' => e = .returned (.bool true) ∧ Below w.heap.size w w' :=
  (quiet_below (likeI_any A B c d n m _ _ w hx hy lx ly hn (by rw [← ly.out, lx.out]; exact hn))).mono fun e w' ⟨he, hb⟩ => ⟨he.trans (ret_bool (by simp)), hb⟩


/-! ### what the answers tell of each other -/
section
variable {N k np : Nat} {gs : List (List Int)} {p m : List Int}
theorem take_at {t : Nat} (h : t < (p.take k).length) : (p.take k).getD t 0 = p.getD t 0 := by
  rw [List.length_take] at h
  rw [List.getD_eq_getElem?_getD, List.getElem?_take, if_pos (by omega), ← List.getD_eq_getElem?_getD]
theorem lmp_all (hp : Pn N p) (h1 : 1 ≤ N) (h2 : N ≤ 20) (hg : ∀ g ∈ gs, Pn N g) (h : LmpOK N gs p k) : Mb gs N p ↔ k = N := by
  obtain ⟨a, ⟨q, hq, hq2⟩, b⟩ := h
  constructor
  · intro hm
    rcases Nat.lt_or_ge k N with hl | hl
    · exact absurd ⟨p, hm, fun _ _ => rfl⟩ (b hl)
    · omega
  · rintro rfl
    have : q = p := (hq.pn hg h1 h2).ext hp fun x hx => hq2 x hx
    exact this ▸ hq
theorem lmp_pre (hp : Pn N p) (h : LmpOK N gs p k) : ¬ NoMem N gs (p.take k) := by
  obtain ⟨a, ⟨q, hq, hq2⟩, _⟩ := h
  refine fun hn => hn q hq fun t ht => ?_
  rw [take_at ht]
  rw [List.length_take] at ht
  rw [hq2 t (by omega), nx_val hp.1 (by rw [hp.2]; omega)]
theorem lmp_none (hp : Pn N p) (h : LmpOK N gs p k) (hk : k < N) : ∀ q, Mb gs N q → ¬ ∀ t, t < (p.take (k + 1)).length → (nx q t : Int) = (p.take (k + 1)).getD t 0 := fun q hq hq2 => by
  refine h.2.2 hk ⟨q, hq, fun t ht => ?_⟩
  have h3 := hq2 t (by rw [List.length_take, hp.2]; omega)
  rw [take_at (by rw [List.length_take, hp.2]; omega), nx_val hp.1 (by rw [hp.2]; omega)] at h3
  omega
theorem greedy_all (hp : Pn N p) (h1 : 1 ≤ N) (h2 : N ≤ 20) (hg : ∀ g ∈ gs, Pn N g) (h : Greedy N gs p m) : m = p :=
  (h.1.pn hg h1 h2).ext hp fun x hx => by
    have := (h.2 x hx).1 (by rw [hp.2]; exact hx)
    rw [nx_val hp.1 (by rw [hp.2]; exact hx)] at this
    omega
end

end Go.Proofs.YtedfcljikgmpgaaGreat

/- The draw of chapter 7's law of primitivity. Condition: at most 4096 bytes. -/
namespace Go.Proofs.YtedfcljikgmpgaaGreat
open Go.RowKit

set_option maxHeartbeats 1000000 in
theorem drawPri (len cap : Nat) (A : Option Addr) (w : World) (hb : SB w w.heap.size A len) (hl : len ≤ 4096) :
    Calls Tryz.prog 5 #[.slice A len cap] w fun e w' => ∃ (z : Int) (A : Option Addr) (m c : Nat) (vs : List SV) (xss : List (List Int)), e = .returned (.tuple #[.int .i64 z, .slice A m c]) ∧ I64 z ∧ GIn w' A m vs xss ∧ Below w.heap.size w w' := by
  go_enter Tryz.func5, Tryz.ntmps5
  go_wp2_with fail
  refine (newSrc len cap A w hb hl).mono ?_
  rintro e w1 ⟨rfl, s1, b1⟩
  have S1 := Lib.hid s1
  have B1 := Lib.hid b1
  clear s1 b1
  go_wp2_with fail
  refine (drawGroupX w.heap.size w1 S1.out).mono ?_
  rintro e w2 ⟨z, A2, m, c, vs, xss, rfl, hB, rx, hm, hln, s2, g2⟩
  have HB := Lib.hid hB
  have Gi : Hid (GIn w2 A2 m vs xss) := Lib.hid ⟨rx.rr, by omega, fun i hi => by have := hln i hi; omega⟩
  have B2 : Hid (Below w.heap.size w w2) := Lib.hid (below_gro4 B1.out g2 (Nat.le_refl _))
  clear hB rx hln s2 g2
  go_wp2_with fail
  go_ret2
  exact ⟨_, _, _, _, vs, xss, rfl, HB.out, Gi.out, B2.out⟩
end Go.Proofs.YtedfcljikgmpgaaGreat

/- Support, of the program and of the model, and the program's search for points. Condition: at most 2097152 entries. -/
namespace Go.Proofs.YtedfcljikgmpgaaGreat
open Go.RowKit

def ptsL (f : Nat → Bool) (k : Nat) : List Int := ((List.range k).filter f).map Int.ofNat
theorem ptsL_yes {f : Nat → Bool} {k : Nat} (h : f k = true) : ptsL f (k + 1) = ptsL f k ++ [(k : Int)] := by simp [ptsL, List.range_succ, List.filter_append, h]
theorem ptsL_no {f : Nat → Bool} {k : Nat} (h : f k = false) : ptsL f (k + 1) = ptsL f k := by simp [ptsL, List.range_succ, List.filter_append, h]
theorem ptsL_le (f : Nat → Bool) (k : Nat) : (ptsL f k).length ≤ k := by
  unfold ptsL; rw [List.length_map]; exact Nat.le_trans (List.length_filter_le _ _) (by simp)
def movesB (p : List Int) (x : Nat) : Bool := p.getD x 0 != (x : Int)
theorem supp_eq (p : List Int) : supp p = ptsL (movesB p) p.length := rfl
def suppL (p : List Int) : List Int := if isP p = true then supp p else []

end Go.Proofs.YtedfcljikgmpgaaGreat

/- Partitions of the points: labels, blocks, the partition by labels, merging. No Go in it. No condition. -/
namespace Go.Proofs.YtedfcljikgmpgaaGreat

/-- r' makes one of whatever r makes one. -/
def Rf (N : Nat) (r r' : Nat → Nat) : Prop := ∀ u v, u < N → v < N → r u = r v → r' u = r' v
section
variable {N k : Nat} {r r' r2 a b c : Nat → Nat}
theorem Rf.refl (N : Nat) (r : Nat → Nat) : Rf N r r := fun _ _ _ _ h => h
theorem Rf.trans (h : Rf N a b) (h' : Rf N b c) : Rf N a c := fun u v hu hv e => h' u v hu hv (h u v hu hv e)

/-- k is the first with its label. -/
def fstB (r : Nat → Nat) (k : Nat) : Bool := (List.range k).all fun y => decide (r y ≠ r k)
theorem fstB_iff : fstB r k = true ↔ ∀ y, y < k → r y ≠ r k := by simp [fstB]
/-- The first with the label of k. -/
theorem fst_ex (r : Nat → Nat) : ∀ k : Nat, ∃ h, h ≤ k ∧ fstB r h = true ∧ r h = r k := fun k => by
  induction k using Nat.strongRecOn with
  | _ k ih =>
    by_cases hf : fstB r k = true
    · exact ⟨k, Nat.le_refl _, hf, rfl⟩
    · have : ∃ y, y < k ∧ r y = r k := Classical.byContradiction fun hn => hf (fstB_iff.2 fun y hy e => hn ⟨y, hy, e⟩)
      obtain ⟨y, hy, e⟩ := this
      obtain ⟨h, h1, h2, h3⟩ := ih y hy
      exact ⟨h, by omega, h2, h3.trans e⟩
theorem fst_uniq {x y : Nat} (hx : fstB r x = true) (hy : fstB r y = true) (e : r x = r y) : x = y := by
  rcases Nat.lt_trichotomy x y with h | h | h
  · exact absurd e (fstB_iff.1 hy x h)
  · exact h
  · exact absurd e.symm (fstB_iff.1 hx y h)
/-- How many labels there are. -/
def cls (N : Nat) (r : Nat → Nat) : Nat := ((List.range N).filter (fstB r)).length
theorem cls_le (N : Nat) (r : Nat → Nat) : cls N r ≤ N := by
  have := List.length_filter_le (fstB r) (List.range N)
  rw [List.length_range] at this
  exact this

/-- r2 is r with the labels of x and y made one. -/
structure Mg (N : Nat) (r r2 : Nat → Nat) (x y : Nat) : Prop where
  up : Rf N r r2
  eq : r2 x = r2 y
  least : ∀ r', Rf N r r' → r' x = r' y → Rf N r2 r'
theorem Mg.symm {x y : Nat} (h : Mg N r r2 x y) : Mg N r r2 y x := ⟨h.up, h.eq.symm, fun r' a e => h.least r' a e.symm⟩
theorem Mg.same {x y : Nat} (e : r x = r y) : Mg N r r x y := ⟨Rf.refl _ _, e, fun _ h _ => h⟩
theorem mg_of {x y : Nat} (hx : x < N) (hy : y < N) (h : ∀ u, u < N → r2 u = if r u = r y then r x else r u) : Mg N r r2 x y := by
  refine ⟨fun u v hu hv e => by rw [h u hu, h v hv, e], ?_, fun r' hr e u v hu hv e2 => ?_⟩
  · rw [h x hx, h y hy, if_pos rfl]; split <;> rfl
  · rw [h u hu, h v hv] at e2
    by_cases e3 : r u = r y
    · rw [if_pos e3] at e2
      by_cases e4 : r v = r y
      · rw [hr u v hu hv (e3.trans e4.symm)]
      · rw [if_neg e4] at e2
        rw [hr u y hu hy e3, ← hr x v hx hv e2, e]
    · rw [if_neg e3] at e2
      by_cases e4 : r v = r y
      · rw [if_pos e4] at e2
        rw [hr u x hu hx e2, hr v y hv hy e4, e]
      · rw [if_neg e4] at e2
        exact hr u v hu hv e2
theorem Mg.cls {x y : Nat} (h : Mg N r r2 x y) (hx : x < N) (hy : y < N) (hne : r x ≠ r y) : cls N r2 < cls N r := by
  have key : ∀ u v, u < v → v < N → fstB r u = true → fstB r v = true → r2 u = r2 v → Proofs.YtedfcljikgmpgaaGreat.cls N r2 < Proofs.YtedfcljikgmpgaaGreat.cls N r := fun u v huv hv fu fv e => by
    have hsub : ∀ z ∈ v :: (List.range N).filter (fstB r2), z ∈ (List.range N).filter (fstB r) := fun z hz => by
      rcases List.mem_cons.1 hz with rfl | hz
      · exact List.mem_filter.2 ⟨List.mem_range.2 hv, fv⟩
      · obtain ⟨h1, h2⟩ := List.mem_filter.1 hz
        refine List.mem_filter.2 ⟨h1, fstB_iff.2 fun y' hy' e' => ?_⟩
        have hz1 := List.mem_range.1 h1
        exact fstB_iff.1 h2 y' hy' (h.up y' z (by omega) hz1 e')
    have hnd : (v :: (List.range N).filter (fstB r2)).Nodup := List.nodup_cons.2 ⟨fun hm => by
      exact fstB_iff.1 (List.mem_filter.1 hm).2 u huv e, List.nodup_range.filter _⟩
    have := nd_sub hnd hsub
    unfold Proofs.YtedfcljikgmpgaaGreat.cls
    rw [List.length_cons] at this
    omega
  obtain ⟨u, hu, fu, eu⟩ := fst_ex r x
  obtain ⟨v, hv, fv, ev⟩ := fst_ex r y
  have e2 : r2 u = r2 v := by rw [h.up u x (by omega) hx eu, h.up v y (by omega) hy ev, h.eq]
  rcases Nat.lt_trichotomy u v with hlt | rfl | hlt
  · exact key u v hlt (by omega) fu fv e2
  · exact absurd (eu.symm.trans ev) hne
  · exact key v u hlt (by omega) fv fu e2.symm
theorem Mg.cls_le {x y : Nat} (h : Mg N r r2 x y) (hx : x < N) (hy : y < N) (hle : r x = r y → Rf N r2 r) : Proofs.YtedfcljikgmpgaaGreat.cls N r2 ≤ Proofs.YtedfcljikgmpgaaGreat.cls N r := by
  have hsub : ∀ z ∈ (List.range N).filter (fstB r2), z ∈ (List.range N).filter (fstB r) := fun z hz => by
    obtain ⟨h1, h2⟩ := List.mem_filter.1 hz
    refine List.mem_filter.2 ⟨h1, fstB_iff.2 fun y' hy' e' => ?_⟩
    have hz1 := List.mem_range.1 h1
    exact fstB_iff.1 h2 y' hy' (h.up y' z (by omega) hz1 e')
  exact nd_sub (List.nodup_range.filter _) hsub

/-- The points with the label of k. -/
def blkL (r : Nat → Nat) (N k : Nat) : List Int := ptsL (fun y => decide (r y = r k)) N
theorem mem_ptsL {f : Nat → Bool} {x : Int} : x ∈ ptsL f N ↔ ∃ y : Nat, y < N ∧ x = (y : Int) ∧ f y = true := by
  unfold ptsL
  rw [List.mem_map]
  constructor
  · rintro ⟨y, hy, rfl⟩
    obtain ⟨h1, h2⟩ := List.mem_filter.1 hy
    exact ⟨y, List.mem_range.1 h1, rfl, h2⟩
  · rintro ⟨y, h1, rfl, h2⟩
    exact ⟨y, List.mem_filter.2 ⟨List.mem_range.2 h1, h2⟩, rfl⟩
theorem ptsL_sorted (f : Nat → Bool) (N : Nat) : (ptsL f N).Pairwise (· < ·) := by
  unfold ptsL
  rw [List.pairwise_map]
  exact (List.pairwise_lt_range.filter _).imp fun h => Int.ofNat_lt.2 h
theorem mem_blkL {x : Int} : x ∈ blkL r N k ↔ ∃ y : Nat, y < N ∧ x = (y : Int) ∧ r y = r k := by
  unfold blkL
  rw [mem_ptsL]
  simp
/-- The head of a sorted list. -/
theorem hd_sorted {l : List Int} {m : Int} (hs : l.Pairwise (· < ·)) (hm : m ∈ l) (hle : ∀ x ∈ l, m ≤ x) : l.getD 0 0 = m := by
  cases l with
  | nil => cases hm
  | cons a t =>
    show a = m
    rcases List.mem_cons.1 hm with h | h
    · exact h.symm
    · have h1 := (List.pairwise_cons.1 hs).1 m h
      have h2 := hle a (by simp)
      omega
theorem blkL_hd (hk : k < N) (hf : fstB r k = true) : (blkL r N k).getD 0 0 = (k : Int) :=
  hd_sorted (ptsL_sorted _ _) (mem_blkL.2 ⟨k, hk, rfl, rfl⟩) fun x hx => by
    obtain ⟨y, hy, rfl, e⟩ := mem_blkL.1 hx
    rcases Nat.lt_or_ge y k with h | h
    · exact absurd e (fstB_iff.1 hf y h)
    · omega
/-- The blocks whose first points lie below k. -/
def cnB (r : Nat → Nat) (N : Nat) : Nat → List (List Int)
  | 0 => []
  | k + 1 => if fstB r k then cnB r N k ++ [blkL r N k] else cnB r N k
theorem cnB_yes (h : fstB r k = true) : cnB r N (k + 1) = cnB r N k ++ [blkL r N k] := by simp [cnB, h]
theorem cnB_no (h : fstB r k = false) : cnB r N (k + 1) = cnB r N k := by simp [cnB, h]
/-- The partition by labels. -/
def canon (N : Nat) (r : Nat → Nat) : List (List Int) := cnB r N N
theorem mem_cnB {p : List Int} : ∀ k, p ∈ cnB r N k ↔ ∃ h, h < k ∧ fstB r h = true ∧ p = blkL r N h := by
  intro k
  induction k with
  | zero => simp [cnB]
  | succ k ih =>
    rcases hf : fstB r k with _ | _
    · rw [cnB_no hf, ih]
      exact ⟨fun ⟨h, a, b⟩ => ⟨h, by omega, b⟩, fun ⟨h, a, b, c⟩ => ⟨h, by
        have : h ≠ k := fun e => by rw [e, hf] at b; cases b
        omega, b, c⟩⟩
    · rw [cnB_yes hf, List.mem_append, ih, List.mem_singleton]
      constructor
      · rintro (⟨h, a, b⟩ | rfl)
        · exact ⟨h, by omega, b⟩
        · exact ⟨k, by omega, hf, rfl⟩
      · rintro ⟨h, a, b, c⟩
        by_cases e : h = k
        · subst e; exact .inr c
        · exact .inl ⟨h, by omega, b, c⟩
theorem cnB_len : ∀ k, (cnB r N k).length = ((List.range k).filter (fstB r)).length := by
  intro k
  induction k with
  | zero => rfl
  | succ k ih =>
    rw [List.range_succ, List.filter_append, List.length_append]
    rcases hf : fstB r k with _ | _
    · rw [cnB_no hf, ih]; simp [hf]
    · rw [cnB_yes hf, List.length_append, ih]; simp [hf]
theorem canon_len : (canon N r).length = cls N r := cnB_len N
theorem cnB_hd : ∀ k, k ≤ N → (cnB r N k).Pairwise fun p q => p.getD 0 0 < q.getD 0 0 := by
  intro k
  induction k with
  | zero => intro _; exact .nil
  | succ k ih =>
    intro hk
    rcases hf : fstB r k with _ | _
    · rw [cnB_no hf]; exact ih (by omega)
    · rw [cnB_yes hf, List.pairwise_append]
      refine ⟨ih (by omega), by simp, fun p hp q hq => ?_⟩
      rw [List.mem_singleton.1 hq, blkL_hd (by omega) hf]
      obtain ⟨h, h1, h2, rfl⟩ := (mem_cnB k).1 hp
      rw [blkL_hd (by omega) h2]
      omega
theorem blkL_congr (h : ∀ u v, u < N → v < N → (r u = r v ↔ r' u = r' v)) (hk : k < N) : blkL r N k = blkL r' N k := by
  unfold blkL ptsL
  congr 1
  refine List.filter_congr fun y hy => ?_
  rw [decide_eq_decide]
  exact h y k (List.mem_range.1 hy) hk
theorem fstB_congr (h : ∀ u v, u < N → v < N → (r u = r v ↔ r' u = r' v)) (hk : k < N) : fstB r k = fstB r' k := by
  rw [Bool.eq_iff_iff, fstB_iff, fstB_iff]
  exact ⟨fun a y hy e => a y hy ((h y k (by omega) hk).2 e), fun a y hy e => a y hy ((h y k (by omega) hk).1 e)⟩
theorem cnB_congr (h : ∀ u v, u < N → v < N → (r u = r v ↔ r' u = r' v)) : ∀ k, k ≤ N → cnB r N k = cnB r' N k := by
  intro k
  induction k with
  | zero => intro _; rfl
  | succ k ih =>
    intro hk
    have e := fstB_congr h (show k < N by omega)
    rcases hf : fstB r k with _ | _
    · rw [cnB_no hf, cnB_no (by rw [← e]; exact hf), ih (by omega)]
    · rw [cnB_yes hf, cnB_yes (by rw [← e]; exact hf), ih (by omega), blkL_congr h (by omega)]
theorem canon_congr (h : ∀ u v, u < N → v < N → (r u = r v ↔ r' u = r' v)) : canon N r = canon N r' := cnB_congr h N (Nat.le_refl _)
theorem canon_rf (h : Rf N r r') (h' : Rf N r' r) : canon N r = canon N r' := canon_congr fun u v hu hv => ⟨h u v hu hv, h' u v hu hv⟩
theorem mem_canon {p : List Int} : p ∈ canon N r ↔ ∃ h, h < N ∧ fstB r h = true ∧ p = blkL r N h := mem_cnB N
theorem canon_hd : (canon N r).Pairwise fun p q => p.getD 0 0 < q.getD 0 0 := cnB_hd N (Nat.le_refl _)
end
/-- Two lists that ascend by their heads and have the same members are one. -/
theorem hd_uniq : ∀ {l l' : List (List Int)}, l.Pairwise (fun p q => p.getD 0 0 < q.getD 0 0) → l'.Pairwise (fun p q => p.getD 0 0 < q.getD 0 0) → (∀ p, p ∈ l ↔ p ∈ l') → l = l'
  | [], [], _, _, _ => rfl
  | [], b :: t, _, _, h => absurd ((h b).2 (by simp)) (by simp)
  | a :: t, [], _, _, h => absurd ((h a).1 (by simp)) (by simp)
  | a :: t, b :: t', h1, h2, h => by
    have p1 := List.pairwise_cons.1 h1
    have p2 := List.pairwise_cons.1 h2
    have e : a = b := by
      rcases List.mem_cons.1 ((h a).1 (by simp)) with e | e
      · exact e
      · rcases List.mem_cons.1 ((h b).2 (by simp)) with e2 | e2
        · exact e2.symm
        · have := p1.1 b e2
          have := p2.1 a e
          omega
    subst e
    rw [hd_uniq p1.2 p2.2 fun p => ?_]
    constructor
    · intro hp
      rcases List.mem_cons.1 ((h p).1 (by simp [hp])) with e | e
      · subst e; have := p1.1 p hp; omega
      · exact e
    · intro hp
      rcases List.mem_cons.1 ((h p).2 (by simp [hp])) with e | e
      · subst e; have := p2.1 p hp; omega
      · exact e
end Go.Proofs.YtedfcljikgmpgaaGreat

/- Partitions: what isPartition asks; the index of a point's block; the partition by labels is one; block systems. No Go in it. No condition. -/
namespace Go.Proofs.YtedfcljikgmpgaaGreat

/-- Block i is neither empty nor out of order, and begins behind the block before it. -/
def OkB (N : Nat) (bl : List (List Int)) (i : Nat) : Prop := bl.getD i [] ≠ [] ∧ PtS N (bl.getD i []) ∧ (0 < i → (bl.getD (i - 1) []).getD 0 0 < (bl.getD i []).getD 0 0)
def Prt (N : Nat) (bl : List (List Int)) : Prop := (∀ i, i < bl.length → OkB N bl i) ∧ bl.flatten.Nodup ∧ bl.flatten.length = N
/-- The index of the block of x. -/
def bi (bl : List (List Int)) (x : Nat) : Nat := bl.findIdx fun b => decide ((x : Int) ∈ b)
theorem getD_L {l : List (List Int)} {i : Nat} (h : i < l.length) : l.getD i [] = l[i] := by
  rw [List.getD_eq_getElem?_getD, List.getElem?_eq_getElem h]; rfl
theorem rangeI_nd (N : Nat) : ((List.range N).map Int.ofNat).Nodup := by
  rw [List.Nodup, List.pairwise_map]
  exact List.nodup_range.imp fun h e => h (Int.ofNat.inj e)
theorem rangeI_mem {N : Nat} {x : Int} : x ∈ (List.range N).map Int.ofNat ↔ 0 ≤ x ∧ x < N := by
  rw [List.mem_map]
  constructor
  · rintro ⟨y, hy, rfl⟩
    have := List.mem_range.1 hy
    exact ⟨Int.natCast_nonneg _, Int.ofNat_lt.2 this⟩
  · rintro ⟨h1, h2⟩
    exact ⟨x.toNat, List.mem_range.2 (by omega), by show ((x.toNat : Nat) : Int) = x; omega⟩
/-- A list without repeats of points below N has at most N, and N only if it has all. -/
theorem nd_leN {l : List Int} {N : Nat} (hd : l.Nodup) (hm : ∀ x ∈ l, 0 ≤ x ∧ x < N) : l.length ≤ N := by
  have := nd_subA hd fun x hx => rangeI_mem.2 (hm x hx)
  simpa using this
theorem nd_allN {l : List Int} {N x : Nat} (hd : l.Nodup) (hm : ∀ x ∈ l, 0 ≤ x ∧ x < N) (hl : N ≤ l.length) (hx : x < N) : (x : Int) ∈ l := by
  refine Classical.byContradiction fun hn => ?_
  have := nd_leN (l := (x : Int) :: l) (N := N) (List.nodup_cons.2 ⟨hn, hd⟩) fun y hy => by
    rcases List.mem_cons.1 hy with rfl | hy
    · omega
    · exact hm y hy
  simp at this
  omega

section
variable {N x : Nat} {bl : List (List Int)} {r : Nat → Nat} {g : List Int}
theorem Prt.ok (h : Prt N bl) {b : List Int} (hb : b ∈ bl) : b ≠ [] ∧ PtS N b := by
  obtain ⟨i, hi, rfl⟩ := List.mem_iff_getElem.1 hb
  have := h.1 i hi
  unfold OkB at this
  rw [getD_L hi] at this
  exact ⟨this.1, this.2.1⟩
theorem Prt.hd_lt (h : Prt N bl) {i : Nat} : ∀ j, i < j → j < bl.length → (bl.getD i []).getD 0 0 < (bl.getD j []).getD 0 0 := by
  intro j
  induction j with
  | zero => intro h1; omega
  | succ j ih =>
    intro h1 h2
    have h3 := (h.1 (j + 1) h2).2.2 (by omega)
    rw [Nat.add_sub_cancel] at h3
    by_cases e : i = j
    · subst e; exact h3
    · have := ih (by omega) (by omega); omega
theorem Prt.mem (h : Prt N bl) {y : Int} (hy : y ∈ bl.flatten) : 0 ≤ y ∧ y < N := by
  obtain ⟨b, hb, hy⟩ := List.mem_flatten.1 hy
  exact (h.ok hb).2.mem hy
theorem Prt.all (h : Prt N bl) (hx : x < N) : ∃ b ∈ bl, (x : Int) ∈ b :=
  List.mem_flatten.1 (nd_allN h.2.1 (fun y hy => h.mem hy) (by rw [h.2.2]; exact Nat.le_refl _) hx)
theorem Prt.bi_lt (h : Prt N bl) (hx : x < N) : bi bl x < bl.length := by
  obtain ⟨b, hb, hm⟩ := h.all hx
  exact List.findIdx_lt_length_of_exists ⟨b, hb, by simpa using hm⟩
theorem Prt.bi_mem (h : Prt N bl) (hx : x < N) : (x : Int) ∈ bl.getD (bi bl x) [] := by
  have hl := h.bi_lt hx
  rw [getD_L hl]
  exact of_decide_eq_true (p := (x : Int) ∈ bl[bi bl x]) (List.findIdx_getElem (w := hl))
theorem Prt.dis (h : Prt N bl) {i j : Nat} {z : Int} (hi : i < bl.length) (hj : j < bl.length) (h1 : z ∈ bl.getD i []) (h2 : z ∈ bl.getD j []) : i = j := by
  have hp := (List.pairwise_flatten.1 h.2.1).2
  rw [getD_L hi] at h1
  rw [getD_L hj] at h2
  rcases Nat.lt_trichotomy i j with e | e | e
  · exact absurd rfl ((List.pairwise_iff_getElem.1 hp) i j hi hj e z h1 z h2)
  · exact e
  · exact absurd rfl ((List.pairwise_iff_getElem.1 hp) j i hj hi e z h2 z h1)
theorem Prt.bi_of (h : Prt N bl) {i : Nat} (hi : i < bl.length) (hm : (x : Int) ∈ bl.getD i []) : bi bl x = i := by
  have hx : x < N := by
    have := h.mem (List.mem_flatten.2 ⟨_, by rw [getD_L hi]; exact List.getElem_mem _, hm⟩)
    omega
  exact h.dis (h.bi_lt hx) hi (h.bi_mem hx) hm
theorem Prt.bi_eq (h : Prt N bl) {u v : Nat} (hu : u < N) (hv : v < N) : bi bl u = bi bl v ↔ (v : Int) ∈ bl.getD (bi bl u) [] := by
  constructor
  · intro e; rw [e]; exact h.bi_mem hv
  · intro e; exact (h.bi_of (h.bi_lt hu) e).symm
/-- The head of a block. -/
theorem Prt.head (h : Prt N bl) {i : Nat} (hi : i < bl.length) : (bl.getD i []).getD 0 0 ∈ bl.getD i [] ∧ 0 ≤ (bl.getD i []).getD 0 0 ∧ (bl.getD i []).getD 0 0 < N := by
  have ho := h.1 i hi
  have hp : 0 < (bl.getD i []).length := List.length_pos_iff.2 ho.1
  have hm : (bl.getD i []).getD 0 0 ∈ bl.getD i [] := by
    rw [List.getD_eq_getElem?_getD (l := bl.getD i []), List.getElem?_eq_getElem hp]
    exact List.getElem_mem _
  exact ⟨hm, ho.2.1.mem hm⟩
theorem Prt.head_bi (h : Prt N bl) {i : Nat} (hi : i < bl.length) : bi bl ((bl.getD i []).getD 0 0).toNat = i := by
  obtain ⟨h1, h2, h3⟩ := h.head hi
  refine h.bi_of hi ?_
  rw [Int.toNat_of_nonneg h2]; exact h1
theorem Prt.len_le (h : Prt N bl) : bl.length ≤ N := by
  have hn : (((List.range bl.length).map fun i => ((bl.getD i []).getD 0 0).toNat)).Nodup := nd_map List.nodup_range fun i hi j hj e => by
    have := congrArg (bi bl) e
    rw [h.head_bi (List.mem_range.1 hi), h.head_bi (List.mem_range.1 hj)] at this
    exact this
  have := ndlen N _ hn fun y hy => by
    obtain ⟨i, hi, rfl⟩ := List.mem_map.1 hy
    have := h.head (List.mem_range.1 hi)
    omega
  simpa using this

/-! ### the partition by labels -/
theorem ptS_ptsL (f : Nat → Bool) (N : Nat) : PtS N (ptsL f N) := by
  refine ⟨ptsL_le f N, fun i hi => ?_⟩
  have hm : (ptsL f N).getD i 0 ∈ ptsL f N := by
    rw [List.getD_eq_getElem?_getD, List.getElem?_eq_getElem hi]; exact List.getElem_mem _
  obtain ⟨y, hy, e, _⟩ := mem_ptsL.1 hm
  refine ⟨by omega, by omega, fun h0 => ?_⟩
  have := List.pairwise_iff_getElem.1 (ptsL_sorted f N) (i - 1) i (by omega) hi (by omega)
  rw [List.getD_eq_getElem?_getD, List.getD_eq_getElem?_getD, List.getElem?_eq_getElem hi, List.getElem?_eq_getElem (by omega : i - 1 < (ptsL f N).length)]
  exact this
theorem canon_prt (N : Nat) (r : Nat → Nat) : Prt N (canon N r) := by
  have hne : ∀ p ∈ canon N r, p ≠ [] ∧ PtS N p := fun p hp => by
    obtain ⟨h, h1, h2, rfl⟩ := mem_canon.1 hp
    refine ⟨fun e => ?_, ptS_ptsL _ _⟩
    have : (h : Int) ∈ blkL r N h := mem_blkL.2 ⟨h, h1, rfl, rfl⟩
    rw [e] at this; cases this
  have hnd : (canon N r).flatten.Nodup := by
    refine List.pairwise_flatten.2 ⟨fun p hp => ?_, ?_⟩
    · obtain ⟨h, h1, h2, rfl⟩ := mem_canon.1 hp
      exact (ptsL_sorted _ _).imp fun h e => by omega
    · refine List.pairwise_iff_getElem.2 fun i j hi hj hij x hx y hy e => ?_
      subst e
      obtain ⟨h, h1, h2, e1⟩ := mem_canon.1 (List.getElem_mem hi)
      obtain ⟨h', h1', h2', e1'⟩ := mem_canon.1 (List.getElem_mem hj)
      have hlt := List.pairwise_iff_getElem.1 (canon_hd (N := N) (r := r)) i j hi hj hij
      rw [e1, e1', blkL_hd h1 h2, blkL_hd h1' h2'] at hlt
      rw [e1] at hx
      rw [e1'] at hy
      obtain ⟨z, _, ez, hz⟩ := mem_blkL.1 hx
      obtain ⟨z', _, ez', hz'⟩ := mem_blkL.1 hy
      have : z = z' := by omega
      subst this
      have := fst_uniq h2 h2' (hz.symm.trans hz')
      omega
  refine ⟨fun i hi => ?_, hnd, ?_⟩
  · have h1 := hne _ (getD_memL hi)
    refine ⟨h1.1, h1.2, fun h0 => ?_⟩
    have := List.pairwise_iff_getElem.1 (canon_hd (N := N) (r := r)) (i - 1) i (by omega) hi (by omega)
    rw [getD_L hi, getD_L (by omega : i - 1 < (canon N r).length)]
    exact this
  · have h1 := nd_leN (N := N) hnd fun x hx => by
      obtain ⟨b, hb, hx⟩ := List.mem_flatten.1 hx
      exact (hne b hb).2.mem hx
    have h2 := nd_subA (rangeI_nd N) (l := (canon N r).flatten) fun x hx => by
      obtain ⟨y, hy, rfl⟩ := List.mem_map.1 hx
      have hy := List.mem_range.1 hy
      obtain ⟨h, a1, a2, a3⟩ := fst_ex r y
      exact List.mem_flatten.2 ⟨blkL r N h, mem_canon.2 ⟨h, by omega, a2, rfl⟩, mem_blkL.2 ⟨y, hy, rfl, a3.symm⟩⟩
    rw [List.length_map, List.length_range] at h2
    omega
theorem canon_bi {u v : Nat} (hu : u < N) (hv : v < N) : bi (canon N r) u = bi (canon N r) v ↔ r u = r v := by
  have hP := canon_prt N r
  rw [hP.bi_eq hu hv]
  have hm := hP.bi_mem hu
  obtain ⟨h, h1, h2, e⟩ := mem_canon.1 (getD_memL (hP.bi_lt hu))
  rw [e] at hm ⊢
  obtain ⟨z, _, ez, hz⟩ := mem_blkL.1 hm
  obtain rfl : u = z := by omega
  constructor
  · intro hv'
    obtain ⟨z', _, ez', hz'⟩ := mem_blkL.1 hv'
    obtain rfl : v = z' := by omega
    exact hz.trans hz'.symm
  · intro e'
    exact mem_blkL.2 ⟨v, hv, rfl, e'.symm.trans hz⟩
theorem canon_len_le (h : Prt N bl) (hr : Rf N (bi bl) r) : (canon N r).length ≤ bl.length := by
  rw [canon_len]
  have hn : (((List.range N).filter (fstB r)).map (bi bl)).Nodup := nd_map (List.nodup_range.filter _) fun u hu v hv e => by
    obtain ⟨hu, fu⟩ := List.mem_filter.1 hu
    obtain ⟨hv, fv⟩ := List.mem_filter.1 hv
    exact fst_uniq fu fv (hr u v (List.mem_range.1 hu) (List.mem_range.1 hv) e)
  have := ndlen bl.length _ hn fun y hy => by
    obtain ⟨u, hu, rfl⟩ := List.mem_map.1 hy
    exact h.bi_lt (List.mem_range.1 (List.mem_filter.1 hu).1)
  rw [List.length_map] at this
  exact this

/-! ### block systems -/
/-- It maps each block into a block. -/
def Rsp (N : Nat) (bl : List (List Int)) (g : List Int) : Prop := Rf N (bi bl) fun u => bi bl (nx g u)
theorem Rsp.mb {gs : List (List Int)} (hg : ∀ g ∈ gs, Pn N g) (h1 : 1 ≤ N) (h2 : N ≤ 20) (h : ∀ g ∈ gs, Rsp N bl g) {p : List Int} (hp : Mb gs N p) : Rsp N bl p := by
  induction hp with
  | one => intro u v hu hv e; show bi bl (nx (idL N) u) = bi bl (nx (idL N) v); rw [nx_id hu, nx_id hv]; exact e
  | mul hp hgm ih =>
    rename_i p g
    have hpP := hp.pn hg h1 h2
    intro u v hu hv e
    show bi bl (nx (compL p g) u) = bi bl (nx (compL p g) v)
    rw [hpP.nxc hu, hpP.nxc hv]
    exact h g hgm _ _ (hpP.lt hu) (hpP.lt hv) (ih u v hu hv e)
theorem Rsp.inv (hg : Pn N g) (h1 : 1 ≤ N) (h2 : N ≤ 20) (h : Rsp N bl g) : Rsp N bl (Proofs.YtedfcljikgmpgaaGreat.iv g) :=
  Rsp.mb (gs := [g]) (fun x hx => by rw [List.mem_singleton.1 hx]; exact hg) h1 h2 (fun x hx => by rw [List.mem_singleton.1 hx]; exact h)
    (Mb.inv (fun x hx => by rw [List.mem_singleton.1 hx]; exact hg) h1 h2 (Mb.of hg (by simp)))
end
def BS (a : Int) (gs bl : List (List Int)) : Prop := gB a gs = true ∧ Prt a.toNat bl ∧ ∀ g ∈ gs, Rsp a.toNat bl g
def IsBsy (a : Int) (gs bl : List (List Int)) (b : Bool) : Prop := b = true ↔ BS a gs bl
/-- How g rearranges the blocks. -/
def actL (bl : List (List Int)) (g : List Int) : List Int := bl.map fun b => (bi bl (nx g (b.getD 0 0).toNat) : Int)
def IsAct (a : Int) (gs bl out : List (List Int)) (ok : Bool) : Prop := (BS a gs bl ∧ out = gs.map (actL bl) ∧ ok = true) ∨ (¬ BS a gs bl ∧ out = [] ∧ ok = false)
def IsBao (a : Int) (gs bl : List (List Int)) (v : Int) : Prop := (BS a gs bl ∧ IsOrd (bl.length : Int) (gs.map (actL bl)) v) ∨ (¬ BS a gs bl ∧ v = 0)
def IsBko (a : Int) (gs bl : List (List Int)) (v : Int) : Prop := ∃ k, IsBao a gs bl k ∧ ((k = 0 ∧ v = 0) ∨ (k ≠ 0 ∧ ∃ o, IsOrd a gs o ∧ v = o.tdiv k))
/-- The labels make one of x and y, and of the images of whatever they make one. -/
def CM (gs : List (List Int)) (N x y : Nat) (r : Nat → Nat) : Prop := r x = r y ∧ ∀ g ∈ gs, Rf N r fun u => r (nx g u)
def LstM (gs : List (List Int)) (N x y : Nat) (r : Nat → Nat) : Prop := CM gs N x y r ∧ ∀ r', CM gs N x y r' → Rf N r r'
def VldP (a : Int) (gs : List (List Int)) (x y : Int) : Prop := gB a gs = true ∧ (0 ≤ x ∧ x < a) ∧ (0 ≤ y ∧ y < a)
def IsMin (a : Int) (gs : List (List Int)) (x y : Int) (out : List (List Int)) : Prop := (VldP a gs x y ∧ ∃ r, LstM gs a.toNat x.toNat y.toNat r ∧ out = canon a.toNat r) ∨ (¬ VldP a gs x y ∧ out = [])
def LstJ (N : Nat) (A B : List (List Int)) (r : Nat → Nat) : Prop := Rf N (bi A) r ∧ Rf N (bi B) r ∧ ∀ r', Rf N (bi A) r' → Rf N (bi B) r' → Rf N r r'
def VldJ (a : Int) (A B : List (List Int)) : Prop := (1 ≤ a ∧ a ≤ 20) ∧ Prt a.toNat A ∧ Prt a.toNat B
def IsJoin (a : Int) (A B out : List (List Int)) : Prop := (VldJ a A B ∧ ∃ r, LstJ a.toNat A B r ∧ out = canon a.toNat r) ∨ (¬ VldJ a A B ∧ out = [])

section
variable {a x y v v' o : Int} {gs bl A B out out' : List (List Int)} {b b' ok ok' : Bool} {N : Nat} {r r' : Nat → Nat}
theorem IsBsy.uniq (h : IsBsy a gs bl b) (h' : IsBsy a gs bl b') : b = b' := by unfold IsBsy at h h'; rw [Bool.eq_iff_iff, h, h']
theorem IsAct.uniq (h : IsAct a gs bl out ok) (h' : IsAct a gs bl out' ok') : out = out' ∧ ok = ok' := by
  rcases h with ⟨e, h1, h2⟩ | ⟨e, h1, h2⟩ <;> rcases h' with ⟨e', h1', h2'⟩ | ⟨e', h1', h2'⟩
  · exact ⟨h1.trans h1'.symm, h2.trans h2'.symm⟩
  · exact absurd e e'
  · exact absurd e' e
  · exact ⟨h1.trans h1'.symm, h2.trans h2'.symm⟩
theorem IsBao.uniq (h : IsBao a gs bl v) (h' : IsBao a gs bl v') : v = v' := by
  rcases h with ⟨e, h⟩ | ⟨e, rfl⟩ <;> rcases h' with ⟨e', h'⟩ | ⟨e', rfl⟩
  · exact h.uniq h'
  · exact absurd e e'
  · exact absurd e' e
  · rfl
theorem IsBko.uniq (h : IsBko a gs bl v) (h' : IsBko a gs bl v') : v = v' := by
  obtain ⟨k, hk, h⟩ := h
  obtain ⟨k', hk', h'⟩ := h'
  obtain rfl := hk.uniq hk'
  rcases h with ⟨e, rfl⟩ | ⟨e, o, ho, rfl⟩ <;> rcases h' with ⟨e', rfl⟩ | ⟨e', o', ho', rfl⟩
  · rfl
  · exact absurd e e'
  · exact absurd e' e
  · rw [ho.uniq ho']
theorem LstM.canon {x y : Nat} (h : LstM gs N x y r) (h' : LstM gs N x y r') : canon N r = canon N r' := canon_rf (h.2 _ h'.1) (h'.2 _ h.1)
theorem IsMin.uniq (h : IsMin a gs x y out) (h' : IsMin a gs x y out') : out = out' := by
  rcases h with ⟨e, r, h, rfl⟩ | ⟨e, rfl⟩ <;> rcases h' with ⟨e', r', h', rfl⟩ | ⟨e', rfl⟩
  · exact h.canon h'
  · exact absurd e e'
  · exact absurd e' e
  · rfl
theorem LstJ.canon (h : LstJ N A B r) (h' : LstJ N A B r') : canon N r = canon N r' := canon_rf (h.2.2 _ h'.1 h'.2.1) (h'.2.2 _ h.1 h.2.1)
theorem IsJoin.uniq (h : IsJoin a A B out) (h' : IsJoin a A B out') : out = out' := by
  rcases h with ⟨e, r, h, rfl⟩ | ⟨e, rfl⟩ <;> rcases h' with ⟨e', r', h', rfl⟩ | ⟨e', rfl⟩
  · exact h.canon h'
  · exact absurd e e'
  · exact absurd e' e
  · rfl
theorem prt_bound {N : Nat} {out : List (List Int)} (h : Prt N out) (hN : N ≤ 20) : out.length ≤ 20 ∧ ∀ y ∈ out, y.length ≤ 20 :=
  ⟨Nat.le_trans h.len_le hN, fun y hy => Nat.le_trans (h.ok hy).2.1 hN⟩
theorem IsMin.len (h : IsMin a gs x y out) : out.length ≤ 20 ∧ ∀ y ∈ out, y.length ≤ 20 := by
  rcases h with ⟨e, r, h, rfl⟩ | ⟨e, rfl⟩
  · have := (gB_iff.1 e.1).2.1
    exact prt_bound (canon_prt _ _) (by omega)
  · exact ⟨by simp, fun y hy => by cases hy⟩
theorem IsJoin.len (h : IsJoin a A B out) : out.length ≤ 20 ∧ ∀ y ∈ out, y.length ≤ 20 := by
  rcases h with ⟨e, r, h, rfl⟩ | ⟨e, rfl⟩
  · exact prt_bound (canon_prt _ _) (by have := e.1.2; omega)
  · exact ⟨by simp, fun y hy => by cases hy⟩
theorem IsAct.len (h : IsAct a gs bl out ok) : out.length ≤ 20 ∧ ∀ y ∈ out, y.length ≤ 20 := by
  rcases h with ⟨e, rfl, _⟩ | ⟨e, rfl, _⟩
  · have h1 := gB_iff.1 e.1
    refine ⟨by rw [List.length_map]; omega, fun y hy => ?_⟩
    obtain ⟨g, _, rfl⟩ := List.mem_map.1 hy
    unfold actL
    rw [List.length_map]
    exact Nat.le_trans e.2.1.len_le (by omega)
  · exact ⟨by simp, fun y hy => by cases hy⟩
theorem bound20 {l : List (List Int)} (h : l.length ≤ 20 ∧ ∀ y ∈ l, y.length ≤ 20) : l.length ≤ 1048576 ∧ (∀ i, i < l.length → (l.getD i []).length ≤ 1048576) ∧ sumL l ≤ 1048576 := bound_all (m := 20) (k := 20) h.1 h.2 (by omega)
theorem boundMin (h : IsMin a gs x y out) : out.length ≤ 1048576 ∧ (∀ i, i < out.length → (out.getD i []).length ≤ 1048576) ∧ sumL out ≤ 1048576 := bound20 h.len
theorem boundJoin (h : IsJoin a A B out) : out.length ≤ 1048576 ∧ (∀ i, i < out.length → (out.getD i []).length ≤ 1048576) ∧ sumL out ≤ 1048576 := bound20 h.len
theorem boundAct (h : IsAct a gs bl out ok) : out.length ≤ 1048576 ∧ (∀ i, i < out.length → (out.getD i []).length ≤ 1048576) ∧ sumL out ≤ 1048576 := bound20 h.len
/-- Labels that begin as the points themselves. -/
theorem lstM_of {x y : Nat} (h : CM gs N x y r) (hl : ∀ r', CM gs N x y r' → Rf N r r') : LstM gs N x y r := ⟨h, hl⟩
end
end Go.Proofs.YtedfcljikgmpgaaGreat

/- Linked points: the smallest of a set; what a link makes one. No Go in it. No condition. -/
namespace Go.Proofs.YtedfcljikgmpgaaGreat

/-- Each point is linked to a smaller one, or to none. -/
def Lnk (N : Nat) (f : Nat → Option Nat) : Prop := ∀ x y, f x = some y → y < x ∧ x < N
def rtN (f : Nat → Option Nat) : Nat → Nat → Nat
  | 0, x => x
  | k + 1, x => match f x with
    | none => x
    | some y => rtN f k y
/-- Where the links of x end. -/
def rt (f : Nat → Option Nat) (x : Nat) : Nat := rtN f x x
section
variable {N : Nat} {f : Nat → Option Nat} {x y : Nat}
theorem rtN_fuel (h : Lnk N f) : ∀ x k, x ≤ k → rtN f k x = rtN f x x := fun x => by
  induction x using Nat.strongRecOn with
  | _ x ih =>
    intro k hk
    rcases hf : f x with _ | y
    · cases k with
      | zero => obtain rfl : x = 0 := by omega
                rfl
      | succ k => cases x with
        | zero => show rtN f (k + 1) 0 = 0; simp [rtN, hf]
        | succ x => simp [rtN, hf]
    · have hy := (h x y hf).1
      cases k with
      | zero => omega
      | succ k => cases x with
        | zero => omega
        | succ x =>
          simp only [rtN, hf]
          rw [ih y hy k (by omega), ih y hy x (by omega)]
theorem rt_none (hf : f x = none) : rt f x = x := by
  unfold rt
  cases x with
  | zero => rfl
  | succ x => simp [rtN, hf]
theorem rt_some (h : Lnk N f) (hf : f x = some y) : rt f x = rt f y := by
  have hy := (h x y hf).1
  unfold rt
  cases x with
  | zero => omega
  | succ x =>
    simp only [rtN, hf]
    exact rtN_fuel h y x (by omega)
theorem rt_le (h : Lnk N f) : ∀ x, rt f x ≤ x := fun x => by
  induction x using Nat.strongRecOn with
  | _ x ih =>
    rcases hf : f x with _ | y
    · rw [rt_none hf]; exact Nat.le_refl _
    · have hy := (h x y hf).1
      rw [rt_some h hf]
      have := ih y hy
      omega
theorem rt_root (h : Lnk N f) : ∀ x, f (rt f x) = none := fun x => by
  induction x using Nat.strongRecOn with
  | _ x ih =>
    rcases hf : f x with _ | y
    · rw [rt_none hf]; exact hf
    · rw [rt_some h hf]; exact ih y (h x y hf).1
theorem rt_rt (h : Lnk N f) (x : Nat) : rt f (rt f x) = rt f x := rt_none (rt_root h x)
theorem rt_fst (h : Lnk N f) : fstB (rt f) x = true ↔ f x = none := by
  rw [fstB_iff]
  constructor
  · intro hn
    rcases hf : f x with _ | y
    · rfl
    · exact absurd (rt_some h hf).symm (hn y (h x y hf).1)
  · intro hf y hy e
    rw [rt_none hf] at e
    have := rt_le h y
    omega
/-- A link from a to m. -/
def lnk (f : Nat → Option Nat) (a m : Nat) : Nat → Option Nat := fun z => if z = a then some m else f z
theorem Lnk.lnk {a m : Nat} (h : Lnk N f) (hm : m < a) (ha : a < N) : Lnk N (lnk f a m) := fun x y e => by
  unfold Proofs.YtedfcljikgmpgaaGreat.lnk at e
  by_cases h1 : x = a
  · rw [if_pos h1] at e
    injection e with e
    omega
  · rw [if_neg h1] at e
    exact h x y e
theorem rt_lnk {a m : Nat} (h : Lnk N f) (hm : m < a) (ha : a < N) (fa : f a = none) (fm : f m = none) : ∀ u, rt (lnk f a m) u = if rt f u = a then m else rt f u := fun u => by
  have hL := h.lnk hm ha
  have hm2 : rt (lnk f a m) m = m := rt_none (by unfold Proofs.YtedfcljikgmpgaaGreat.lnk; rw [if_neg (by omega)]; exact fm)
  induction u using Nat.strongRecOn with
  | _ u ih =>
    by_cases e : u = a
    · subst e
      rw [rt_some hL (y := m) (by unfold Proofs.YtedfcljikgmpgaaGreat.lnk; rw [if_pos rfl]), hm2, rt_none fa, if_pos rfl]
    · rcases hf : f u with _ | y
      · rw [rt_none hf, if_neg e]
        exact rt_none (by unfold Proofs.YtedfcljikgmpgaaGreat.lnk; rw [if_neg e]; exact hf)
      · rw [rt_some hL (y := y) (by unfold Proofs.YtedfcljikgmpgaaGreat.lnk; rw [if_neg e]; exact hf), rt_some h hf]
        exact ih y (h u y hf).1
/-- What unite does: the greater of the two smallest is linked to the other. -/
theorem mg_lnk {a m : Nat} (h : Lnk N f) (hx : x < N) (hy : y < N) (hm : m < a) (he : (a = rt f x ∧ m = rt f y) ∨ (a = rt f y ∧ m = rt f x)) : Mg N (rt f) (rt (lnk f a m)) x y := by
  have ha : a < N := by
    have h1 := rt_le h x
    have h2 := rt_le h y
    rcases he with ⟨e, _⟩ | ⟨e, _⟩ <;> omega
  have fa : f a = none := by rcases he with ⟨e, _⟩ | ⟨e, _⟩ <;> (rw [e]; exact rt_root h _)
  have fm : f m = none := by rcases he with ⟨_, e⟩ | ⟨_, e⟩ <;> (rw [e]; exact rt_root h _)
  rcases he with ⟨e1, e2⟩ | ⟨e1, e2⟩
  · refine Mg.symm (mg_of hy hx fun u _ => ?_)
    rw [rt_lnk h hm ha fa fm u, ← e1, ← e2]
  · refine mg_of hx hy fun u _ => ?_
    rw [rt_lnk h hm ha fa fm u, ← e1, ← e2]
theorem lk_empty (N : Nat) : Lnk N fun _ => none := fun _ _ e => by cases e
theorem rt_empty : rt (fun _ => none) x = x := rt_none rfl

/-! ### all that a first pair brings -/
/-- From the labels r to r': x and y are made one, and so are the images of whatever is newly made one; nothing else. -/
structure UI (gs : List (List Int)) (N : Nat) (r r' : Nat → Nat) (x y : Nat) : Prop where
  up : Rf N r r'
  eq : r' x = r' y
  least : ∀ q, Rf N r q → q x = q y → (∀ g ∈ gs, Rf N q fun u => q (nx g u)) → Rf N r' q
  img : ∀ q, Rf N r' q → (∀ g ∈ gs, Rf N r fun u => q (nx g u)) → ∀ g ∈ gs, Rf N r' fun u => q (nx g u)
section
variable {gs : List (List Int)} {r r0 r' s : Nat → Nat}
theorem UI.same (e : r x = r y) : UI gs N r r x y := ⟨Rf.refl _ _, e, fun _ h _ _ => h, fun _ _ h => h⟩
/-- Behind the first i of the generators. -/
structure UJ (gs : List (List Int)) (N : Nat) (r r0 s : Nat → Nat) (x y i : Nat) : Prop where
  up : Rf N r0 s
  done : ∀ k, k < i → s (nx (gs.getD k []) x) = s (nx (gs.getD k []) y)
  least : ∀ q, Rf N r q → q x = q y → (∀ g ∈ gs, Rf N q fun u => q (nx g u)) → Rf N s q
  img : ∀ q, Rf N s q → (∀ g ∈ gs, Rf N r0 fun u => q (nx g u)) → ∀ g ∈ gs, Rf N s fun u => q (nx g u)
theorem UJ.zero (h : Mg N r r0 x y) : UJ gs N r r0 r0 x y 0 := ⟨Rf.refl _ _, fun k hk => absurd hk (Nat.not_lt_zero _), fun q a b _ => h.least q a b, fun _ _ h => h⟩
theorem UJ.step {i : Nat} {s' : Nat → Nat} (h : UJ gs N r r0 s x y i) (hm : Mg N r r0 x y) (hi : i < gs.length) (hx : x < N) (hy : y < N) (hg : ∀ g ∈ gs, ∀ u, u < N → nx g u < N)
    (hu : UI gs N s s' (nx (gs.getD i []) x) (nx (gs.getD i []) y)) : UJ gs N r r0 s' x y (i + 1) := by
  have hgm : gs.getD i [] ∈ gs := by rw [getD_L hi]; exact List.getElem_mem hi
  refine ⟨h.up.trans hu.up, fun k hk => ?_, fun q a b c => hu.least q (h.least q a b c) (c _ hgm x y hx hy b) c, fun q a b => hu.img q a (h.img q (hu.up.trans a) b)⟩
  by_cases e : k = i
  · subst e; exact hu.eq
  · have hkm : gs.getD k [] ∈ gs := by rw [getD_L (by omega)]; exact List.getElem_mem _
    exact hu.up _ _ (hg _ hkm x hx) (hg _ hkm y hy) (h.done k (by omega))
theorem UJ.all (h : UJ gs N r r0 s x y gs.length) (hm : Mg N r r0 x y) (hx : x < N) (hy : y < N) (hg : ∀ g ∈ gs, ∀ u, u < N → nx g u < N) : UI gs N r s x y := by
  refine ⟨hm.up.trans h.up, h.up x y hx hy hm.eq, h.least, fun q a b => h.img q a fun g hgm => ?_⟩
  obtain ⟨k, hk, e⟩ := List.mem_iff_getElem.1 hgm
  refine hm.least _ (b g hgm) ?_
  have hd := h.done k hk
  rw [getD_L hk, e] at hd
  exact a _ _ (hg g hgm x hx) (hg g hgm y hy) hd
/-- At the very first call: the least. -/
theorem UI.lst (h : UI gs N id r' x y) : LstM gs N x y r' :=
  ⟨⟨h.eq, h.img r' (Rf.refl _ _) fun g _ u v _ _ e => (by
    have e : u = v := e
    subst e; rfl)⟩, fun q hq => h.least q (fun u v _ _ e => (by
    have e : u = v := e
    subst e; rfl)) hq.1 hq.2⟩
end
end
end Go.Proofs.YtedfcljikgmpgaaGreat

/- The program's chain: what including one product leaves; the loop over an orbit; members with given entries found link by link. No Go in it. No condition. -/
namespace Go.Proofs.YtedfcljikgmpgaaGreat
open Go.RowKit

theorem nd_subP {l' : List Nat} : ∀ {l : List Nat}, l'.Nodup → (∀ x ∈ l', x ∈ l) → l'.length ≤ l.length := by
  induction l' with
  | nil => intro l _ _; simp
  | cons a t ih =>
    intro l hd h
    rw [List.nodup_cons] at hd
    have ha : a ∈ l := h a (by simp)
    have := ih (l := l.erase a) hd.2 fun x hx => by
      have hne : x ≠ a := fun e => hd.1 (e ▸ hx)
      exact (List.mem_erase_of_ne hne).2 (h x (by simp [hx]))
    rw [List.length_erase_of_mem ha] at this
    have h0 : 0 < l.length := List.length_pos_of_mem ha
    simp; omega
section
variable {N k : Nat} {c c' cj : Ch} {p q m : List Int} {O O' : List Nat}

/-- What including one product leaves. -/
structure Ic (N k : Nat) (c c' : Ch) (q : List Int) : Prop where
  low : Low N c' k
  grw : Grw k c c'
  gen : c'.gen k = c.gen k
  sv : Sv N c' k q
  mono : ∀ p, Sv N c k p → Sv N c' k p
theorem Ic.old (h : Low N c k) (hk : k < N) (h1 : 1 ≤ N) (h2 : N ≤ 20) (hq : Mb (c.gen k) N q) (hr : c.rep k (nx q k) ≠ []) (ha : Ap N (k + 1) c c' (compL q (iv (c.rep k (nx q k))))) : Ic N k c c' q :=
  have b := Bp.old h hk h1 h2 hq hr ha
  ⟨b.low, b.grw, b.gen, b.sv, b.mono⟩
theorem Ic.put (h : Low N c k) (hk : k < N) (h1 : 1 ≤ N) (h2 : N ≤ 20) (hq : Mb (c.gen k) N q) (hr : c.rep k (nx q k) = []) : Ic N k c (c.set k (nx q k) q) q := by
  obtain ⟨l1, g1⟩ := h.put hk h1 h2 hq hr
  have hp := hq.pn h.pn h1 h2
  have hne : q ≠ [] := by intro e; have := hp.2; rw [e] at this; simp at this; omega
  refine ⟨l1, g1, rfl, ?_, fun p hs => h.mono_sv l1 g1 hk (fun _ h => h) hs⟩
  have := l1.rep_sv hk (y := nx q k) (by rw [set_at]; exact hne)
  rw [set_at] at this; exact this

/-- The orbit lists the points that have a representative, each once. -/
def Orb (c : Ch) (k : Nat) (O : List Nat) : Prop := O.Nodup ∧ ∀ y, y ∈ O ↔ c.rep k y ≠ []
theorem Orb.congr (h : Orb c k O) (e : ∀ y, c'.rep k y = c.rep k y) : Orb c' k O := ⟨h.1, fun y => by rw [h.2, e]⟩
theorem Orb.put (h : Orb c k O) {y : Nat} (hr : c.rep k y = []) (hq : q ≠ []) : Orb (c.set k y q) k (O ++ [y]) := by
  refine ⟨List.nodup_append.2 ⟨h.1, by simp, fun a ha b hb e => ?_⟩, fun z => ?_⟩
  · rw [List.mem_singleton] at hb
    subst hb; subst e
    exact (h.2 a).1 ha hr
  · rw [List.mem_append, List.mem_singleton, h.2]
    by_cases e : z = y
    · subst e; rw [set_at]; exact ⟨fun _ => hq, fun _ => .inr rfl⟩
    · rw [set_ne (.inr e)]; exact ⟨fun h => h.resolve_right e, fun h => .inl h⟩
theorem Orb.lt (h : Orb c k O) (hr : RepOK N c k) {y : Nat} (hy : y ∈ O) : y < N := (hr.at_ y ((h.2 y).1 hy)).1
theorem Orb.len (h : Orb c k O) (hr : RepOK N c k) : O.length ≤ N := by
  have : O.length ≤ (List.range N).length := nd_subP h.1 fun y hy => List.mem_range.2 (h.lt hr hy)
  simpa using this

/-- Which generators the products of the t-th orbit point are formed with. -/
def gsA (kn : Nat) (gs : List (List Int)) (p : List Int) (t : Nat) : List (List Int) := if t < kn then [p] else gs
/-- The loop over the orbit: i points are done, of the next one j products. -/
structure Bf (N k : Nat) (c1 cj : Ch) (O : List Nat) (p : List Int) (kn i j : Nat) : Prop where
  low : Low N cj k
  grw : Grw k c1 cj
  gen : cj.gen k = c1.gen k
  mono : ∀ q, Sv N c1 k q → Sv N cj k q
  old : ∀ t, t < kn → c1.rep k (O.getD t 0) ≠ []
  len : kn ≤ O.length
  done : ∀ t, t < i → ∀ g ∈ gsA kn (c1.gen k) p t, Sv N cj k (compL (cj.rep k (O.getD t 0)) g)
  part : ∀ s, s < j → Sv N cj k (compL (cj.rep k (O.getD i 0)) ((gsA kn (c1.gen k) p i).getD s []))
theorem Bf.start {c1 : Ch} (h : Low N c1 k) (hO : Orb c1 k O) : Bf N k c1 c1 O p O.length 0 0 :=
  ⟨h, .refl _ _, rfl, fun _ h => h, fun t ht => (hO.2 _).1 (by rw [List.getD_eq_getElem?_getD, List.getElem?_eq_getElem ht]; exact List.getElem_mem _), Nat.le_refl _, fun t ht => absurd ht (by omega), fun t ht => absurd ht (by omega)⟩
theorem getD_pre {O O' : List Nat} (h : O <+: O') {t : Nat} (ht : t < O.length) : O'.getD t 0 = O.getD t 0 := by
  obtain ⟨l, rfl⟩ := h
  rw [List.getD_eq_getElem?_getD, List.getD_eq_getElem?_getD, List.getElem?_append_left ht]
theorem Bf.next {c1 : Ch} {kn i j : Nat} (h : Bf N k c1 cj O p kn i j) (hO : Orb cj k O) (hi : i < O.length) (hpre : O <+: O') (hc : Ic N k cj c' (compL (cj.rep k (O.getD i 0)) ((gsA kn (c1.gen k) p i).getD j []))) : Bf N k c1 c' O' p kn i (j + 1) := by
  have hrep : ∀ t, t < O.length → c'.rep k (O'.getD t 0) = cj.rep k (O.getD t 0) := fun t ht => by
    rw [getD_pre hpre ht]
    exact hc.grw.keep _ _ ((hO.2 _).1 (by rw [List.getD_eq_getElem?_getD, List.getElem?_eq_getElem ht]; exact List.getElem_mem _))
  refine ⟨hc.low, h.grw.trans hc.grw, by rw [hc.gen, h.gen], fun p hs => hc.mono _ (h.mono _ hs), fun t ht => by rw [getD_pre hpre (by have := h.len; omega)]; exact h.old t ht, Nat.le_trans h.len hpre.length_le, fun t ht g hg => ?_, fun s hs => ?_⟩
  · rw [hrep t (by omega)]; exact hc.mono _ (h.done t ht g hg)
  · rw [hrep i hi]
    rcases Nat.lt_or_ge s j with hl | hl
    · exact hc.mono _ (h.part s hl)
    · obtain rfl : s = j := by omega
      exact hc.sv
theorem Bf.round {c1 : Ch} {kn i : Nat} (h : Bf N k c1 cj O p kn i (gsA kn (c1.gen k) p i).length) : Bf N k c1 cj O p kn (i + 1) 0 := by
  refine ⟨h.low, h.grw, h.gen, h.mono, h.old, h.len, fun t ht g hg => ?_, fun s hs => absurd hs (by omega)⟩
  rcases Nat.lt_or_ge t i with hl | hl
  · exact h.done t hl g hg
  · obtain rfl : t = i := by omega
    obtain ⟨s, hs, rfl⟩ := mem_at hg
    exact h.part s hs
/-- The product that is formed next lies in the group of the level. -/
theorem Bf.mb {kn i j : Nat} (h : Bf N k (c.push k p) cj O p kn i j) (hO : Orb cj k O) (hi : i < O.length) (hj : j < (gsA kn ((c.push k p).gen k) p i).length) :
    Mb (cj.gen k) N (compL (cj.rep k (O.getD i 0)) ((gsA kn ((c.push k p).gen k) p i).getD j [])) ∧ Pn N (cj.rep k (O.getD i 0)) ∧ (gsA kn ((c.push k p).gen k) p i).getD j [] ∈ cj.gen k := by
  have hr : cj.rep k (O.getD i 0) ≠ [] := (hO.2 _).1 (by rw [List.getD_eq_getElem?_getD, List.getElem?_eq_getElem hi]; exact List.getElem_mem _)
  have hm : (gsA kn ((c.push k p).gen k) p i).getD j [] ∈ gsA kn ((c.push k p).gen k) p i := by
    rw [List.getD_eq_getElem?_getD, List.getElem?_eq_getElem hj]; exact List.getElem_mem _
  have hg : (gsA kn ((c.push k p).gen k) p i).getD j [] ∈ cj.gen k := by
    rw [h.gen]
    unfold gsA at hm ⊢
    by_cases e : i < kn
    · simp only [if_pos e] at hm ⊢
      rw [List.mem_singleton] at hm
      rw [hm, push_at]; simp
    · simp only [if_neg e] at hm ⊢; exact hm
  exact ⟨.mul (h.low.inn _ hr) hg, (h.low.rep.at_ _ hr).2.1, hg⟩
theorem Bf.all {kn : Nat} (h : UpTo N c k) (hk : k < N) (h1 : 1 ≤ N) (h2 : N ≤ 20) (hp : Pn N p) (hf : Fx k p) (hs : ¬ Sv N c k p) (hb : Bf N k (c.push k p) cj O p kn O.length 0) (hO : Orb cj k O) : Ap N k c cj p := by
  have hl := h.low hk h1 h2
  have hg1 : cj.gen k = c.gen k ++ [p] := by rw [hb.gen, push_at]
  have g0 : Grw k c (c.push k p) := ⟨fun _ _ _ => rfl, fun _ _ _ => rfl, fun i hi => push_ne (by omega)⟩
  have hG := g0.trans hb.grw
  have hat : ∀ y, cj.rep k y ≠ [] → ∃ t, t < O.length ∧ O.getD t 0 = y := fun y hy => by
    obtain ⟨t, ht, e⟩ := List.mem_iff_getElem.1 ((hO.2 y).2 hy)
    exact ⟨t, ht, by rw [List.getD_eq_getElem?_getD, List.getElem?_eq_getElem ht, ← e]; rfl⟩
  have hclose : ∀ y, cj.rep k y ≠ [] → ∀ g ∈ cj.gen k, Sv N cj k (compL (cj.rep k y) g) := fun y hy g hg => by
    obtain ⟨t, ht, et⟩ := hat y hy
    by_cases e : t < kn
    · have hc1 := hb.old t e
      rw [et] at hc1
      rw [hg1] at hg
      rcases List.mem_append.1 hg with hg | hg
      · rw [hG.keep _ _ hc1]
        refine hb.mono _ (Sv.congr (c := c) ?_ fun _ _ _ => rfl)
        exact (h.sv k (Nat.le_refl _) (by omega) _).2 (.mul (hl.inn y hc1) hg)
      · have := hb.done t ht g (by unfold gsA; rw [if_pos e]; exact hg)
        rw [et] at this; exact this
    · have := hb.done t ht g (by unfold gsA; rw [if_neg e, ← hb.gen]; exact hg)
      rw [et] at this; exact this
  have hid : c.rep k k ≠ [] := by rw [hl.rep.one]; intro e; have := idL_length N; rw [e] at this; simp at this; omega
  have hsv : Sv N cj k p := by
    have h3 := hclose k (by rw [hG.keep _ _ hid]; exact hid) p (by rw [hg1]; simp)
    rw [hG.keep _ _ hid, hl.rep.one, hp.idl] at h3
    exact h3
  have hcnt : cnt N c k < cnt N cj k := by
    have hle := cnt_mono (N := N) hG k
    rcases Nat.lt_or_ge (cnt N c k) (cnt N cj k) with hlt | hge
    · exact hlt
    · exfalso
      refine hs (sv_back hsv (Nat.le_refl _) fun j y hj hjN hy => (cnt_same hG hge hj hjN hy).symm)
  refine ⟨hb.low.whole hk h1 h2 hclose ?_, hG, fun q => by rw [hg1]⟩
  rw [hg1, List.length_append]
  have := h.len k (Nat.le_refl _) hk
  simp; omega
/-- At the last link everything that fixes the points before is known. -/
theorem sv_last (h : UpTo N c k) (hk : k + 1 = N) (h1 : 1 ≤ N) (h2 : N ≤ 20) (hp : Pn N p) (hf : Fx k p) : Sv N c k p := by
  have e : nx p k = k := by
    have a := hf.ge hp (by omega)
    have b := hp.lt (x := k) (by omega)
    omega
  have hid := (hf.succ e)
  rw [hk] at hid
  rw [hid.all hp]
  exact (sv_down (h.rep k (Nat.le_refl _) (by omega)) (by omega) (pn_id h1 h2) (fx_id (by omega)) (nx_id (by omega))).2 ((h.sv (k + 1) (by omega) (by omega) _).2 .one)

/-! ### members with given entries -/
theorem UpTo.stab (h : UpTo N c k) (h1 : 1 ≤ N) (h2 : N ≤ 20) {j : Nat} (hj : k ≤ j) (hjN : j ≤ N) (hp : Pn N p) (hf : Fx j p) : Sv N c k p ↔ Sv N c j p := by
  induction j with
  | zero => obtain rfl : k = 0 := by omega
            exact Iff.rfl
  | succ j ih =>
    by_cases e : k = j + 1
    · subst e; exact Iff.rfl
    · rw [ih (by omega) (by omega) (hf.mono (by omega))]
      exact sv_down (h.rep j (by omega) (by omega)) (by omega) hp (hf.mono (by omega)) (hf j (by omega))
theorem UpTo.gpn (h : UpTo N c k) (hk : k ≤ N) : ∀ g ∈ c.gen k, Pn N g := h.pn (Nat.le_refl _) hk
theorem UpTo.mfx (h : UpTo N c k) (h1 : 1 ≤ N) (h2 : N ≤ 20) (hk : k ≤ N) (hm : Mb (c.gen k) N p) : Fx k p := by
  rcases Nat.lt_or_ge k N with hl | hl
  · exact hm.fx (h.gp k (Nat.le_refl _) hl) h1 h2 hk
  · obtain rfl : k = N := by omega
    rw [h.top] at hm
    rw [hm.none_]; exact fx_id (Nat.le_refl _)
/-- A representative of a later link is a member of this one. -/
theorem UpTo.rep_mb (h : UpTo N c k) (h1 : 1 ≤ N) (h2 : N ≤ 20) {j y : Nat} (hj : k ≤ j) (hjN : j < N) (hy : c.rep j y ≠ []) : Mb (c.gen k) N (c.rep j y) := by
  obtain ⟨a1, a2, a3, a4⟩ := (h.rep j hj hjN).at_ y hy
  refine (h.sv k (Nat.le_refl _) (by omega) _).1 ((h.stab h1 h2 hj (by omega) a2 a3).2 ?_)
  exact ((h.mono hj).low hjN h1 h2).rep_sv hjN hy
/-- A member that has the given entries from k on, as far as j. -/
structure Mt (N : Nat) (c : Ch) (k : Nat) (vals : List Int) (m : List Int) (j : Nat) : Prop where
  kj : k ≤ j
  jN : j ≤ N
  pn : Pn N m
  mb : Mb (c.gen k) N m
  ag : ∀ i, k ≤ i → i < j → (nx m i : Int) = vals.getD i 0
  jl : j = k ∨ j ≤ vals.length
/-- No member has one entry more. -/
def NoM (N : Nat) (c : Ch) (k : Nat) (vals : List Int) (j : Nat) : Prop := j < N → j < vals.length → ∀ q, Mb (c.gen k) N q → ¬ ∀ i, k ≤ i → i ≤ j → (nx q i : Int) = vals.getD i 0
theorem Mt.start {vals : List Int} (h1 : 1 ≤ N) (h2 : N ≤ 20) (hk : k ≤ N) : Mt N c k vals (idL N) k :=
  ⟨Nat.le_refl _, hk, pn_id h1 h2, .one, fun i a b => absurd b (by omega), .inl rfl⟩
theorem Mt.step {vals : List Int} {j y : Nat} (h : Mt N c k vals m j) (hu : UpTo N c k) (h1 : 1 ≤ N) (h2 : N ≤ 20) (hj : j < N) (hl : j < vals.length) (hy : c.rep j y ≠ []) (hv : (nx m y : Int) = vals.getD j 0) : Mt N c k vals (compL (c.rep j y) m) (j + 1) := by
  obtain ⟨a1, a2, a3, a4⟩ := (hu.rep j h.kj hj).at_ y hy
  have hkj := h.kj
  refine ⟨by omega, by omega, a2.comp h.pn, (hu.rep_mb h1 h2 h.kj hj hy).comp (hu.gpn (by omega)) h1 h2 h.mb, fun i hi hij => ?_, .inr (by omega)⟩
  rcases Nat.lt_or_ge i j with hlt | hge
  · rw [a2.nxc (by omega), a3 i hlt]; exact h.ag i hi hlt
  · obtain rfl : i = j := by omega
    rw [a2.nxc hj, a4]; exact hv
theorem Mt.stop {vals : List Int} {j : Nat} (h : Mt N c k vals m j) (hu : UpTo N c k) (h1 : 1 ≤ N) (h2 : N ≤ 20) (hn : ∀ y, y < N → (nx m y : Int) = vals.getD j 0 → c.rep j y = []) : NoM N c k vals j := fun hj hl q hq hag => by
  have hkj := h.kj
  have hqp := hq.pn (hu.gpn (by omega)) h1 h2
  have hqf := hu.mfx h1 h2 (by omega) hq
  have hmf := hu.mfx h1 h2 (by omega) h.mb
  have hr := hqp.comp h.pn.iv
  have hfx : Fx j (compL q (iv m)) := fun i hi => by
    rw [hqp.nxc (by omega)]
    have e : nx q i = nx m i := by
      rcases Nat.lt_or_ge i k with hlt | hge
      · rw [hqf i hlt, hmf i hlt]
      · have a := hag i hge (by omega)
        have b := h.ag i hge hi
        omega
    rw [e, h.pn.nxi (by omega)]
  have hmb : Mb (c.gen k) N (compL q (iv m)) := hq.comp (hu.gpn (by omega)) h1 h2 (h.mb.inv (hu.gpn (by omega)) h1 h2)
  have hs := (hu.stab h1 h2 h.kj h.jN hr hfx).1 ((hu.sv k (Nat.le_refl _) (by omega) _).2 hmb)
  have h3 := (hs.inv_low hj).2.2.1
  rw [hqp.nxc hj] at h3
  have hlt := hqp.lt hj
  refine h3 (hn _ (h.pn.iv.lt hlt) ?_)
  rw [h.pn.nxi' hlt]
  exact hag j h.kj (Nat.le_refl _)
/-- Membership: all entries are found. -/
theorem Mt.mem {j : Nat} (h : Mt N c k p m j) (hn : NoM N c k p j) (hu : UpTo N c k) (h1 : 1 ≤ N) (h2 : N ≤ 20) (hk : k ≤ N) (hp : Pn N p) (hf : Fx k p) : j = N ↔ Mb (c.gen k) N p := by
  constructor
  · rintro rfl
    have hmf := hu.mfx h1 h2 hk h.mb
    have : m = p := h.pn.ext hp fun x hx => by
      rcases Nat.lt_or_ge x k with hlt | hge
      · rw [hmf x hlt, hf x hlt]
      · have a := h.ag x hge hx
        rw [nx_val hp.1 (by rw [hp.2]; exact hx)] at a
        omega
    rw [← this]; exact h.mb
  · intro hm
    rcases Nat.lt_or_ge j N with hl | hl
    · exfalso
      refine hn hl (by rw [hp.2]; exact hl) p hm fun i _ hi => ?_
      rw [nx_val hp.1 (by rw [hp.2]; omega)]
    · have := h.jN; omega
end
end Go.Proofs.YtedfcljikgmpgaaGreat

/- The program's chain in memory: linked structs, each with generators, an orbit and movers; how it reads, what one store, one append, one call on a later link leave of it. No condition. -/

/- The program's search in its chain: slices.Index, withValue, match, contains. Conditions: at most 20 points; the chain whole from the link on. -/
namespace Go.Proofs.YtedfcljikgmpgaaGreat
open Go.RowKit

theorem pcDrewBelow (w : World) (k : Nat) : Below w.heap.size w (w.drewN k) := ⟨rfl, rfl, rfl, Nat.le_refl _, fun _ _ => rfl⟩




end Go.Proofs.YtedfcljikgmpgaaGreat

/- The program's include: one product is taken as a mover or divided away. Conditions: at most 20 points; the chain whole above the link; add one link on keeps its contract. -/

/- The program's add: a permutation that fixes every point before the base is added to a link. Conditions: at most 20 points; the chain whole from the link on. -/
namespace Go.Proofs.YtedfcljikgmpgaaGreat
open Go.RowKit

theorem boolOf (P : Prop) : ∃ b : Bool, b = true ↔ P := by
  by_cases h : P
  · exact ⟨true, fun _ => h, fun _ => rfl⟩
  · exact ⟨false, fun e => (Bool.false_ne_true e).elim, fun e => (h e).elim⟩

end Go.Proofs.YtedfcljikgmpgaaGreat

/- The program's chainOf: a chain whole from link 0 on, of what the generators generate. Conditions: at most 20 points, 8 generators. -/

/- The program's order, OrbitSizes, GroupOrder, IsMember, LongestMemberPrefix. Conditions: at most 1048576 lists of at most 1048576 numbers. -/
namespace Go.Proofs.YtedfcljikgmpgaaGreat
open Go.RowKit

section
end


set_option maxHeartbeats 1000000 in
theorem implIsPOf (a : Int) (A : Option Addr) (n c : Nat) (xs : List Int) (ans : Bool) (w : World) (hx : RI w w.heap.size A xs) (lx : Hid (xs.length = n)) (hn : n ≤ 2097152) (ha : Hid ((decide ((n : Int) = a) && isP xs) = ans)) :
    Calls Tryz.prog 64 #[.int .i64 a, .slice A n c] w fun e w' => e = .returned (.bool ans) ∧ Below w.heap.size w w' := by
  have HX := Lib.hid hx
  clear hx
  by_cases e1 : (n : Int) = a
  · subst e1
    have e0 : ((n : Int) == (n : Int)) = true := by simp
    have h1 : Hid (isP xs = ans) := Lib.hid (by rw [← ha.out]; simp)
    go_enter Tryz.func64, Tryz.ntmps64
    go_wp2_with (first | (go_at_call 34; refine (implIsP A c n xs w HX.out lx hn).mono ?_; rintro e w1 ⟨rfl, b1⟩; rw [h1.out]))
    go_ret
    exact ⟨rfl, b1⟩
  · have e0 : ((n : Int) == a) = false := by simpa using e1
    have h1 : Hid (ans = false) := Lib.hid (by rw [← ha.out]; simp [e1])
    go_enter Tryz.func64, Tryz.ntmps64
    go_wp2_with fail
    go_ret
    exact ⟨ret_bool h1.out.symm, Below.refl _ _⟩
theorem implIsPOfT (A : Option Addr) (n c : Nat) (xs : List Int) (w : World) (hx : RI w w.heap.size A xs) (lx : Hid (xs.length = n)) (hn : n ≤ 2097152) (ha : Hid (isP xs = true)) :
    Calls Tryz.prog 64 #[.int .i64 (n : Nat), .slice A n c] w fun e w' => e = .returned (.bool true) ∧ Below w.heap.size w w' :=
  implIsPOf n A n c xs true w hx lx hn (Lib.hid (by simp [ha.out]))




end Go.Proofs.YtedfcljikgmpgaaGreat

/- The program's smallestLike and MemberWithPrefix. Conditions: at most 1048576 lists of at most 1048576 numbers. -/
namespace Go.Proofs.YtedfcljikgmpgaaGreat
open Go.RowKit


end Go.Proofs.YtedfcljikgmpgaaGreat

/- The program's containsAll. Conditions: at most 20 points, 8 generators. -/
namespace Go.Proofs.YtedfcljikgmpgaaGreat
open Go.RowKit

end Go.Proofs.YtedfcljikgmpgaaGreat

/- The program's StrongGeneratingSet and SameGroup. Conditions: at most 1048576 lists of at most 1048576 numbers. -/
namespace Go.Proofs.YtedfcljikgmpgaaGreat
open Go.RowKit

/-- As many, and all of them among the others: the same. -/
theorem Crd.same {P Q : List Int → Prop} {v : Nat} (hP : Crd P v) (hQ : Crd Q v) (h : ∀ p, P p → Q p) : ∀ p, Q p → P p := fun p hp => by
  obtain ⟨l, d, m, e⟩ := hP
  obtain ⟨l', d', m', e'⟩ := hQ
  refine (m p).1 ?_
  by_cases hm : p ∈ l
  · exact hm
  · exfalso
    have hnd : (p :: l).Nodup := List.nodup_cons.2 ⟨hm, d⟩
    have := nd_subA hnd fun x hx => by
      rcases List.mem_cons.1 hx with rfl | hx
      · exact (m' _).2 hp
      · exact (m' x).2 (h x ((m x).1 hx))
    simp at this; omega
theorem preOf_at {N k y : Nat} {g : List Int} (hf : Fx k g) (e : nx g k = y) : ∀ i, i < k + 1 → (nx g i : Int) = (preOf (k, y)).getD i 0 := fun i hi => by
  unfold preOf
  rcases Nat.lt_or_ge i k with hl | hl
  · rw [getD_app _ _ _ i (by rw [idL_length]; exact hl), idL_getD hl, hf i hl]
  · obtain rfl : i = k := by omega
    rw [getD_snoc _ _ _ i (by rw [idL_length]), e]
theorem preOf_len (k y : Nat) : (preOf (k, y)).length = k + 1 := by unfold preOf; rw [List.length_append, idL_length]; rfl


end Go.Proofs.YtedfcljikgmpgaaGreat

/- The program's areAscendingPoints, slices.Index, Contains, Grow, Concat and the points of a renumbering. Conditions: at most 20 points; lists of at most 1048576 numbers. -/
namespace Go.Proofs.YtedfcljikgmpgaaGreat
open Go.RowKit

theorem mtf_pts (pts : List Int) (N : Nat) : mtf pts N = pts ++ ptsL (fun x => !hasB pts (x : Int)) N := by
  unfold mtf ptsL
  rw [List.filter_map]; rfl
theorem cj_iv {N : Nat} {o p : List Int} (ho : Pn N o) : cj (iv o) p = compL (compL o p) (iv o) := by
  unfold cj; rw [ho.iviv]

set_option maxHeartbeats 2000000 in
set_option maxRecDepth 100000 in
/-- areAscendingPoints. -/
theorem implAsc (N np cp : Nat) (P : Option Addr) (pts : List Int) (w : World) (hp : RI w w.heap.size P pts) (lp : Hid (pts.length = np)) (h1 : 1 ≤ N) (h2 : N ≤ 20) (hn : np ≤ 1048576) :
    Calls Tryz.prog 63 #[.int .i64 (N : Nat), .slice P np cp] w fun e w' => ∃ ans, e = .returned (.bool ans) ∧ (ans = true ↔ PtS N pts) ∧ Below w.heap.size w w' := by
  go_enter Tryz.func63, Tryz.ntmps63
  go_wp2_with fail
  go_loopw [5, 7, 10] (fun l _ i wr => ∃ (k : Nat) (la : Int), k ≤ np ∧ i = .int .i64 (k : Nat) ∧ l = .int .i64 la ∧ (k : Int) ≤ la + 1 ∧ la < N ∧ (k = 0 → la = -1) ∧ (0 < k → la = pts.getD (k - 1) 0) ∧ (∀ i, i < k → 0 ≤ pts.getD i 0 ∧ pts.getD i 0 < N ∧ (0 < i → pts.getD (i - 1) 0 < pts.getD i 0)) ∧ Below w.heap.size w wr) (fun _ _ i _ => np - (intOf i).toNat)
  case atStart => exact ⟨0, -1, Nat.zero_le _, rfl, rfl, by omega, by omega, fun _ => rfl, fun h => absurd h (by omega), fun _ h => absurd h (Nat.not_lt_zero _), Below.refl _ _⟩
  case round =>
    obtain ⟨k, la, hk, rfl, rfl, hkl, hlN, hl0, hlp, ok, bel⟩ := hrel
    have Ok := Lib.hid ok
    have Bel := Lib.hid bel
    have L0 := Lib.hid hl0
    have Lp := Lib.hid hlp
    have P1 := Lib.hid (hp.up bel)
    have hla : -1 ≤ la := by omega
    clear ok bel hl0 hlp
    by_cases hlt : k < np
    · obtain ⟨b, off, rfl, hb, hc⟩ := P1.out (by rw [lp.out]; omega)
      have c1 := hc k (by rw [lp.out]; omega)
      obtain ⟨x, ex⟩ : ∃ x, pts.getD k 0 = x := ⟨_, rfl⟩
      rw [ex] at c1
      have Ex := Lib.hid ex
      have p1 : (0 : Int) ≤ k := by omega
      have p2 : (k : Int) < np := by omega
      clear ex hc hb
      by_cases hx1 : x ≤ la
      · have d1 : decide (x ≤ la) = true := decide_eq_true hx1
        have Fin : Hid (¬ PtS N pts) := Lib.hid fun h => by
          have a := h.2 k (by rw [lp.out]; exact hlt)
          rw [Ex.out] at a
          by_cases e : k = 0
          · have := L0.out e; omega
          · have b := a.2.2 (by omega)
            rw [← Lp.out (by omega)] at b; omega
        clear hx1
        go_wp2_with fail
        go_ret
        exact ⟨false, rfl, ⟨fun h => (by cases h), fun h => absurd h Fin.out⟩, Bel.out⟩
      · have d1 : decide (x ≤ la) = false := decide_eq_false hx1
        have hx2 : la < x := by omega
        clear hx1
        by_cases hx3 : (N : Int) ≤ x
        · have d2 : decide ((N : Int) ≤ x) = true := decide_eq_true hx3
          have Fin : Hid (¬ PtS N pts) := Lib.hid fun h => by
            have a := h.2 k (by rw [lp.out]; exact hlt)
            rw [Ex.out] at a; omega
          clear hx3
          go_wp2_with fail
          go_ret
          exact ⟨false, rfl, ⟨fun h => (by cases h), fun h => absurd h Fin.out⟩, Bel.out⟩
        · have d2 : decide ((N : Int) ≤ x) = false := decide_eq_false hx3
          have Lt : Hid (la < x ∧ x < N) := Lib.hid ⟨hx2, by omega⟩
          clear hx3 hx2
          go_wp2_with fail
          go_roundw
          case rel => exact ⟨k + 1, x, by omega, by go_num, rfl, by have := Lt.out; omega, Lt.out.2, fun h => absurd h (by omega), fun _ => by rw [Nat.add_sub_cancel]; exact Ex.out.symm, fun i hi => by
            by_cases e : i = k
            · subst e
              rw [Ex.out]
              refine ⟨by have := Lt.out; omega, Lt.out.2, fun h0 => ?_⟩
              rw [← Lp.out h0]; exact Lt.out.1
            · exact Ok.out i (by omega), Bel.out⟩
          case measure => simp [intOf]; omega
    · obtain rfl : k = np := by omega
      have Fin : Hid (PtS N pts) := Lib.hid ⟨by rw [lp.out]; omega, fun i hi => Ok.out i (by rw [← lp.out]; exact hi)⟩
      go_wp2_with fail
      go_ret
      exact ⟨true, rfl, ⟨fun _ => Fin.out, fun _ => rfl⟩, Bel.out⟩



set_option maxHeartbeats 1000000 in
set_option maxRecDepth 100000 in
/-- slices.Grow of nil. -/
theorem growNil (T : Nat) (w : World) (h1 : 1 ≤ T) (h2 : T ≤ 1048576) :
    Calls Tryz.prog 74 #[.slice none 0 0, .int .i64 (T : Nat)] w fun e w' => ∃ g c', e = .returned (.slice (some ⟨g, 0, none⟩) 0 c') ∧ Slc w' w.heap.size (some ⟨g, 0, none⟩) 0 c' [] ∧ Below w.heap.size w w' := by
  obtain ⟨i0, hi, hz0, hz1, hz2⟩ := info_parts infoI
  have hold : (Builtin.firstCells i0.size 0 (.slice none 0 0)).run Tryz.prog w.drew = .ok ([] : List Value).toArray w.drew := run_firstCells_none w.drew i0.size 0 0 0
  have hrz : ∀ ty, (Builtin.append_ #[37, 3] ty #[.slice none 0 0, .int .i64 (T : Int)]).run Tryz.prog w = _ := fun ty =>
    Lib.run_append_grow_zeros w 37 3 ty 2 i0 (.int .i64 0) .i64 .i64 Tryz.underlying37 Tryz.underlying3 hi hz0 none 0 0 [] hold T (by omega) (by rw [hz1]; decide) (by omega) (by omega)
      (by rw [hz2]; omega) (by rw [hz2, Nat.zero_add]; exact growslice_fits (by omega) (by omega))
  have hGn : 0 + T ≤ grownCap w (0 + T) 0 2 := grownCap_ge w _ _ _
  have hGm : grownCap w (0 + T) 0 2 ≤ maxLen := grownCap_le_maxLen w _ 0 _ (by unfold maxLen; omega)
  obtain ⟨G, hG⟩ : ∃ G, G = grownCap w (0 + T) 0 2 := ⟨_, rfl⟩
  rw [← hG] at hrz hGn hGm
  obtain ⟨Z, hZ⟩ : ∃ Z, Z = (([] : List Value).toArray ++ Builtin.zeroCells (Value.int .i64 0).cells T ++ Builtin.zeroCells (Value.int .i64 0).cells (G - (0 + T))) := ⟨_, rfl⟩
  rw [← hZ] at hrz
  have hSz : Z.size = G * 1 := by
    have hc : (Value.int .i64 0).cells.size = 1 := rfl
    rw [hZ]
    simp [Builtin.zeroCells, hc]; omega
  have B1 : Hid (Below w.heap.size w (w.drew.alloc (.cells Z 2))) := Lib.hid ((show Below w.heap.size w w.drew from ⟨rfl, rfl, rfl, Nat.le_refl _, fun _ _ => rfl⟩).alloc (Nat.le_refl _) _)
  have S1 : Hid (Slc (w.drew.alloc (.cells Z 2)) w.heap.size (some ⟨w.heap.size, 0, none⟩) 0 G []) := Lib.hid
    ⟨rfl, by simp, .inr ⟨w.heap.size, G, _, rfl, Nat.le_refl _, heap_alloc_new w.drew _, Nat.zero_le _, hGm, hSz, by simp⟩⟩
  have e1 : wrap64 ((T : Int) - 0) = (T : Int) := by unfold wrap64; omega
  have d1 : decide ((T : Int) < 0) = false := by simp
  have d2 : decide ((0 : Int) < (T : Int)) = true := by simp; omega
  have Hrz := Lib.hid hrz
  have hG63 : G ≤ 9223372036854775807 := by unfold maxLen at hGm; omega
  clear hrz hold hG hGm hZ hSz
  go_enter Tryz.func74, Tryz.ntmps74
  go_wp2_with (at_builtin; refine Lib.wpList_append_run _ rfl _ _ _ _ rfl _ _ rfl rfl _ _ (Hrz.out _) ?_)
  go_ret
  exact ⟨_, _, rfl, S1.out, B1.out⟩
end Go.Proofs.YtedfcljikgmpgaaGreat

/- The program's slices.Concat, renumbered and StabilizerOrder. Conditions: at most 1048576 lists of at most 1048576 numbers. -/
namespace Go.Proofs.YtedfcljikgmpgaaGreat
open Go.RowKit

/-- append of whatever can be read onto a row of the call's own. -/
theorem wpList_appA {w : World} {ops : Array Oper} {rest : List Oper} {o : Oper} {a : Act} {Q : Exit → Act → World → Prop} (hgd : o.guard = none) (s x : Operand)
    (ho : o.op = .call { callee := .builtin .append, args := #[s, x], argTypes := #[37, 37] })
    (base : Nat) (A : Option Addr) (n c : Nat) (xs : List Int) (hs : a.eval s = .slice A n c) (hown : Slc w base A n c xs) (B : Option Addr) (m c2 : Nat) (ys : List Int) (hx : a.eval x = .slice B m c2)
    (hy : RI w w.heap.size B ys) (ly : ys.length = m) (hn : n + m ≤ 1000000000000) (hbase : base ≤ w.heap.size)
    (h : ∀ A' c' w', Slc w' base A' (n + m) c' (xs ++ ys) → w.grownBy w' (Value.slice A n c).ownBlock → wpList Tryz.prog ops Q rest (a.put o.dst (.slice A' (n + m) c')) w') : wpList Tryz.prog ops Q (o :: rest) a w := by
  by_cases h0 : m = 0
  · subst h0
    obtain rfl : ys = [] := List.length_eq_zero_iff.1 ly
    have h3 := h A c w (by rw [List.append_nil]; exact hown) (grown_refl _ _)
    exact wpList_app0 hgd s x ho A n c hown.le.1 hs B c2 hx h3
  · obtain ⟨b, off, rfl, _, _⟩ := hy (by omega)
    exact wpList_appN hgd s x ho base A n c xs hs hown b off m c2 ys hx hy ly hn hbase h

set_option maxHeartbeats 4000000 in
set_option maxRecDepth 100000 in
/-- slices.Concat of two lists. -/
theorem implConcat (g np cp m cm : Nat) (P A : Option Addr) (pts ys : List Int) (w : World) (hb : Blk w g 37 #[.slice P np cp, .slice A m cm]) (hp : RI w w.heap.size P pts) (lp : Hid (pts.length = np)) (hy : RI w w.heap.size A ys) (ly : Hid (ys.length = m)) (h1 : 1 ≤ np + m) (h2 : np + m ≤ 1000) :
    Calls Tryz.prog 65 #[.slice (some ⟨g, 0, none⟩) 2 2] w fun e w' => ∃ A' c', e = .returned (.slice A' (np + m) c') ∧ Slc w' w.heap.size A' (np + m) c' (pts ++ ys) ∧ Below w.heap.size w w' := by
  have HB := Lib.hid hb
  have HP := Lib.hid hp
  have HY := Lib.hid hy
  clear hb hp hy
  go_enter Tryz.func65, Tryz.ntmps65
  go_wp2_with fail
  go_loopw [3, 5, 11] (fun s _ i wr => ((i = .int .i64 0 ∧ s = .int .i64 0) ∨ (i = .int .i64 1 ∧ s = .int .i64 (np : Nat)) ∨ (i = .int .i64 2 ∧ s = .int .i64 ((np + m : Nat) : Int))) ∧ w = wr) (fun _ _ i _ => 2 - (intOf i).toNat)
  case atStart => exact ⟨.inl ⟨rfl, rfl⟩, rfl⟩
  case round =>
    obtain ⟨(⟨rfl, rfl⟩ | ⟨rfl, rfl⟩ | ⟨rfl, rfl⟩), rfl⟩ := hrel
    · have c0 : w.cell? ⟨g, 0, none⟩ = some (.slice P np cp) := HB.out.cell 0
      have hw : IntKind.i64.wrap (np : Int) = (np : Int) := by rw [IntKind.wrap_i64]; omega
      have hw2 : IntKind.i64.wrap ((0 : Int) + (np : Int)) = (np : Int) := by rw [IntKind.wrap_i64]; omega
      have d0 : decide ((np : Int) < 0) = false := by simp
      go_wp2_with fail
      go_roundw
      case rel => exact ⟨.inr (.inl ⟨by go_num, rfl⟩), trivial⟩
      case measure => simp [intOf]
    · have c0 : w.cell? ⟨g, 1, none⟩ = some (.slice A m cm) := HB.out.cell 1
      have hw : IntKind.i64.wrap ((np : Int) + (m : Int)) = ((np + m : Nat) : Int) := by rw [IntKind.wrap_i64]; omega
      have d0 : decide (((np + m : Nat) : Int) < 0) = false := by simp; omega
      go_wp2_with fail
      go_roundw
      case rel => exact ⟨.inr (.inr ⟨by go_num, rfl⟩), trivial⟩
      case measure => simp [intOf]
    · go_wp2_with fail
      refine (growNil (np + m) w h1 (by omega)).mono ?_
      rintro e w1 ⟨g1, c1, rfl, s1, b1⟩
      have S1 := Lib.hid s1
      have B1 := Lib.hid b1
      clear s1 b1
      go_wp2_with fail
      go_loopw [6, 8, 27] (fun v _ i wr => ∃ (A1 : Option Addr) (l c1 : Nat) (xs : List Int), ((i = .int .i64 0 ∧ l = 0 ∧ xs = []) ∨ (i = .int .i64 1 ∧ l = np ∧ xs = pts) ∨ (i = .int .i64 2 ∧ l = np + m ∧ xs = pts ++ ys)) ∧ v = .slice A1 l c1 ∧ Slc wr w.heap.size A1 l c1 xs ∧ Below w.heap.size w wr) (fun _ _ i _ => 2 - (intOf i).toNat)
      case atStart => exact ⟨_, _, _, _, .inl ⟨rfl, rfl, rfl⟩, rfl, S1.out, B1.out⟩
      case round =>
        clear S1 B1
        obtain ⟨A1, l, c2, xs, hcase, rfl, hs, bel⟩ := hrel
        have Ss := Lib.hid hs
        have Be := Lib.hid bel
        have Bk := Lib.hid (HB.out.below bel HB.out.lt)
        have P2 := Lib.hid (HP.out.up bel)
        have Y2 := Lib.hid (HY.out.up bel)
        have hz := bel.size
        clear hs bel
        rcases hcase with ⟨rfl, rfl, rfl⟩ | ⟨rfl, rfl, rfl⟩ | ⟨rfl, rfl, rfl⟩
        · have c0 : wr.cell? ⟨g, 0, none⟩ = some (.slice P np cp) := Bk.out.cell 0
          go_wp2_with (first | (at_builtin; refine wpList_appA rfl _ _ rfl w.heap.size A1 0 c2 [] rfl Ss.out P np cp pts rfl P2.out lp.out (by omega) hz ?_; intro A3 c3 w3 s3 g3))
          have S3 : Hid (Slc w3 w.heap.size A3 np c3 pts) := Lib.hid (by simpa using s3)
          have B3 : Hid (Below w.heap.size w w3) := Lib.hid (Be.out.grown g3 hz (fun j hj => (Ss.out.lt_ j hj).1))
          clear s3 g3
          go_wp2_with fail
          go_roundw
          case rel => exact ⟨A3, _, c3, pts, .inr (.inl ⟨by go_num, rfl, rfl⟩), by simp, S3.out, B3.out⟩
          case measure => simp [intOf]
        · have c0 : wr.cell? ⟨g, 1, none⟩ = some (.slice A m cm) := Bk.out.cell 1
          go_wp2_with (first | (at_builtin; refine wpList_appA rfl _ _ rfl w.heap.size A1 l c2 xs rfl Ss.out A m cm ys rfl Y2.out ly.out (by omega) hz ?_; intro A3 c3 w3 s3 g3))
          have S3 := Lib.hid s3
          have B3 : Hid (Below w.heap.size w w3) := Lib.hid (Be.out.grown g3 hz (fun j hj => (Ss.out.lt_ j hj).1))
          clear s3 g3
          go_wp2_with fail
          go_roundw
          case rel => exact ⟨A3, _, c3, _, .inr (.inr ⟨by go_num, rfl, rfl⟩), rfl, S3.out, B3.out⟩
          case measure => simp [intOf]
        · go_wp2_with fail
          go_ret
          exact ⟨_, _, rfl, Ss.out, Be.out⟩


end Go.Proofs.YtedfcljikgmpgaaGreat

/- unionFind of the program: the links lie in a map; smallest, unite, uniteEach. Conditions: at most 20 points. -/
namespace Go.Proofs.YtedfcljikgmpgaaGreat
open Go.RowKit

theorem lawI : Maps.Keyed Tryz.prog 2 := Maps.int_keyed Tryz.underlying2
/-- The key of x. -/
def kI (x : Nat) : Lit := .int .i64 (x : Int)
theorem wfI {x : Nat} (h : x ≤ 1000) : (Lit.int .i64 (x : Int)).wf = true := WalkArith.wf_i64 (by omega)
theorem keyOf_I {x : Nat} (h : x ≤ 1000) : keyOf Tryz.prog 2 (.int .i64 (x : Int)) = some (kI x) := Maps.keyOf_int_mk Tryz.underlying2 (wfI h)
theorem kI_key {x : Nat} (h : x ≤ 1000) : WideAt.IsKeyLit (kI x) := lawI.key (keyOf_I h)
theorem kI_inj {x y : Nat} (h : kI x = kI y) : x = y := by
  unfold kI at h
  injection h with _ h
  omega
theorem ownsMap_tightI {R : Value → Option (DataW Value × List MemPlace)} {w : World} {b n : Nat} {D : DataW Value} (h : w.ownsMap Tryz.prog 2 R b n D) : w.ownsMap Tryz.prog 2 R b (Maps.size D) D := by
  obtain ⟨es, clock, hb, F, hs, rfl⟩ := h
  refine ⟨es, clock, hb, F, ?_, rfl⟩
  rw [Maps.size_eq, length_sorted]; simp
theorem hasI_mem {es : List (Lit × DataW Value)} {x : Lit × DataW Value} (hx : x ∈ es) (hk : WideAt.IsKeyLit x.1) : Maps.has (.map es) x.1 = true := by
  rw [Maps.has_eq, List.any_eq_true]
  exact ⟨x, hx, WideAt.sameKey_self hk⟩
theorem sizeI_le {R : Value → Option (DataW Value × List MemPlace)} {w : World} {b n : Nat} {D : DataW Value} (h : w.ownsMap Tryz.prog 2 R b n D) (ks : List Lit) (hk : ∀ kl, Maps.has D kl = true → kl ∈ ks) : Maps.size D ≤ ks.length := by
  obtain ⟨es, rfl, hd, hl⟩ := h.entries lawI
  rw [Maps.size_eq]
  have h1 : (es.map Prod.fst).Nodup := List.pairwise_map.2 hd
  haveI : DecidableEq Lit := fun a b => Classical.propDecidable (a = b)
  have := nd_subA (l' := es.map Prod.fst) (l := ks) h1 fun x hx => by
    obtain ⟨y, hy, rfl⟩ := List.mem_map.1 hx
    exact hk _ (hasI_mem hy (hl y hy))
  simpa using this
theorem grown_ofBelow {w w' : World} {row : Option Nat} (h : Below w.heap.size w w') : w.grownBy w' row := ⟨h.os, h.tape, h.output, h.size, fun k hk _ => h.block k hk⟩

/-- Block b is the map of the links f. -/
structure UF (w : World) (b N : Nat) (f : Nat → Option Nat) (D : DataW Value) : Prop where
  own : w.ownsMap Tryz.prog 2 (plainElem Tryz.prog 2) b (Maps.size D) D
  lk : Lnk N f
  has : ∀ x, x < N → Maps.has D (kI x) = (f x).isSome
  key : ∀ kl, Maps.has D kl = true → ∃ x, x < N ∧ kl = kI x
  at_ : ∀ x y, f x = some y → ∀ zd, D.atKey (kI x) zd = .lit (.int .i64 (y : Int))
section
variable {w w' : World} {b N : Nat} {f : Nat → Option Nat} {D : DataW Value}
theorem UF.lt (h : UF w b N f D) : b < w.heap.size := h.own.lt
theorem UF.size (h : UF w b N f D) : Maps.size D ≤ N := by
  have := sizeI_le h.own ((List.range N).map kI) fun kl hk => by
    obtain ⟨x, hx, rfl⟩ := h.key kl hk
    exact List.mem_map.2 ⟨x, List.mem_range.2 hx, rfl⟩
  simpa using this
theorem UF.kept (h : UF w b N f D) {row : Option Nat} (hg : w.grownBy w' row) (hne : some b ≠ row) : UF w' b N f D := ⟨h.own.kept hg hne, h.lk, h.has, h.key, h.at_⟩
theorem UF.up (h : UF w b N f D) (hb : Below w.heap.size w w') : UF w' b N f D := h.kept (row := none) (grown_ofBelow hb) (by simp)
theorem UF.drewN (h : UF w b N f D) (k : Nat) : UF (w.drewN k) b N f D := h.up (pcDrewBelow w k)
theorem UF.made (w : World) (N : Nat) : UF (w.alloc (.map #[] 0)) w.heap.size N (fun _ => none) (.map []) :=
  ⟨World.ownsMap_made _ _ _ _, lk_empty N, fun _ _ => rfl, fun _ h => (by cases h), fun _ _ h => (by cases h)⟩
theorem UF.noCells (h : UF w b N f D) : ∀ cs t fr, w.heap[b]? ≠ some (.cells cs t fr) := by
  obtain ⟨es, clock, hb, _⟩ := h.own
  intro cs t fr e
  rw [hb] at e
  cases e
theorem UF.put (h : UF w b N f D) {a m n : Nat} (hN : N ≤ 20) (ha : a < N) (hm : m < a) (hg : w'.ownsMap Tryz.prog 2 (plainElem Tryz.prog 2) b n (D.put (kI a) (.lit (.int .i64 (m : Int))))) : UF w' b N (lnk f a m) (D.put (kI a) (.lit (.int .i64 (m : Int)))) := by
  have hM := h.own.isMap
  have hk := kI_key (x := a) (by omega)
  refine ⟨ownsMap_tightI hg, h.lk.lnk hm ha, fun x hx => ?_, fun kl hkl => ?_, fun x y hxy zd => ?_⟩
  · unfold lnk
    by_cases e : x = a
    · subst e; rw [if_pos rfl, Maps.has_put_same hM hk]; rfl
    · rw [if_neg e, Maps.has_put_other (fun he => e (kI_inj he)), h.has x hx]
  · by_cases e : kl = kI a
    · exact ⟨a, ha, e⟩
    · rw [Maps.has_put_other e] at hkl
      exact h.key kl hkl
  · unfold lnk at hxy
    by_cases e : x = a
    · subst e
      rw [if_pos rfl] at hxy
      injection hxy with hxy
      subst hxy
      exact Maps.atKey_put_same hM hk _ zd
    · rw [if_neg e] at hxy
      rw [Maps.atKey_put_other (fun he => e (kI_inj he))]
      exact h.at_ x y hxy zd

/-- The look-up of a link. -/
theorem wpList_ufLook {ops : Array Oper} {rest : List Oper} {o : Oper} {a : Act} {Q : Exit → Act → World → Prop} (hgd : o.guard = none) (m x : Operand) (ho : o.op = .lookup 55 m x true) (h : UF w b N f D)
    (hm : a.eval m = .map (some b)) (X : Nat) (hx : a.eval x = .int .i64 (X : Int)) (hX : X < N) (hN : N ≤ 20) (hK : ∀ (c : Int) (B : Bool), Hid ((B = true ↔ f X ≠ none) ∧ ∀ y, f X = some y → c = (y : Int)) → wpList Tryz.prog ops Q rest (a.put o.dst (.tuple #[.int .i64 c, .bool B])) w) : wpList Tryz.prog ops Q (o :: rest) a w := by
  refine wpList_lookup_own_ok_int w hgd m x 55 ho 2 2 .i64 lawI Tryz.underlying55 Tryz.underlying2 (Tryz.zeroValue2 w) b (Maps.size D) D hm h.own _ (kI X) hx (keyOf_I (by omega)) fun c hat _ => ?_
  rw [h.has X hX]
  refine hK c _ (Lib.hid ⟨?_, fun y hy => ?_⟩)
  · cases f X <;> simp
  · have := (h.at_ X y hy (.lit (.int .i64 0))).symm.trans hat
    injection this with this
    injection this with _ this
    exact this.symm
end

set_option maxHeartbeats 1000000 in
set_option maxRecDepth 100000 in
theorem ufSmallest (b N x : Nat) (f : Nat → Option Nat) (D : DataW Value) (w : World) (h : UF w b N f D) (hx : x < N) (hN : N ≤ 20) :
    Calls Tryz.prog 56 #[.map (some b), .int .i64 (x : Nat)] w fun e w' => e = .returned (.int .i64 (rt f x : Nat)) ∧ w = w' := by
  have H := Lib.hid h
  have L := Lib.hid h.lk
  clear h
  go_enter Tryz.func56, Tryz.ntmps56
  go_wp2_with (first | (at_lookup; refine wpList_ufLook rfl _ _ rfl H.out rfl x rfl hx hN ?_; intro c0 B0 h0) | go_in)
  go_loop [1, 5, 6] (fun xv lv bv => ∃ (X : Nat) (c : Int) (B : Bool), X < N ∧ xv = .int .i64 (X : Nat) ∧ lv = .int .i64 c ∧ bv = .bool B ∧ Hid ((B = true ↔ f X ≠ none) ∧ ∀ y, f X = some y → c = (y : Int)) ∧ Hid (rt f X = rt f x)) (fun xv _ _ => (intOf xv).toNat)
  case atStart => exact ⟨x, c0, B0, hx, rfl, rfl, rfl, h0, Lib.hid rfl⟩
  case round =>
    clear h0
    obtain ⟨X, c, B, hX, rfl, rfl, rfl, hB, hr⟩ := hrel
    rcases B with _ | _
    · have Fin : Hid ((X : Int) = (rt f x : Nat)) := Lib.hid (by
        rw [← hr.out]
        rcases hf : f X with _ | y
        · rw [rt_none hf]
        · exact absurd (hB.out.1.2 (by rw [hf]; simp)) (by simp))
      go_wp2
      go_ret
      exact ⟨ret_int Fin.out, rfl⟩
    · obtain ⟨y, hf⟩ : ∃ y, f X = some y := by
        rcases hf : f X with _ | y
        · exact absurd hf (hB.out.1.1 rfl)
        · exact ⟨y, rfl⟩
      obtain rfl := hB.out.2 y hf
      have hy := (L.out X y hf).1
      have Hr : Hid (rt f y = rt f x) := Lib.hid (by rw [← hr.out, rt_some L.out hf])
      have hyN : y < N := by omega
      clear hB hr hf
      go_wp2_with (first | (at_lookup; refine wpList_ufLook rfl _ _ rfl H.out rfl y rfl hyN hN ?_; intro c1 B1 h1) | go_in)
      go_round
      case rel => exact ⟨y, c1, B1, hyN, rfl, rfl, rfl, h1, Hr⟩
      case measure => simp [intOf]; omega

set_option maxHeartbeats 2000000 in
set_option maxRecDepth 100000 in
theorem ufUnite (b N x y : Nat) (f : Nat → Option Nat) (D : DataW Value) (w : World) (h : UF w b N f D) (hx : x < N) (hy : y < N) (hN : N ≤ 20) :
    Calls Tryz.prog 55 #[.map (some b), .int .i64 (x : Nat), .int .i64 (y : Nat)] w fun e w' => (rt f x = rt f y ∧ e = .returned (.bool false) ∧ w' = w) ∨ (rt f x ≠ rt f y ∧ ∃ f' D', e = .returned (.bool true) ∧ UF w' b N f' D' ∧ Mg N (rt f) (rt f') x y ∧ w.grownBy w' (some b)) := by
  have H := Lib.hid h
  have L := Lib.hid h.lk
  have Hsz : Hid (Maps.size D < maxLen) := Lib.hid (by have := h.size; unfold maxLen; omega)
  clear h
  obtain ⟨X, eX⟩ : ∃ X, rt f x = X := ⟨_, rfl⟩
  obtain ⟨Y, eY⟩ : ∃ Y, rt f y = Y := ⟨_, rfl⟩
  have hXN : X < N := by have := rt_le L.out x; omega
  have hYN : Y < N := by have := rt_le L.out y; omega
  have EX := Lib.hid eX
  have EY := Lib.hid eY
  rw [eX, eY]
  clear eX eY
  go_enter Tryz.func55, Tryz.ntmps55
  go_wp2_with fail
  refine (ufSmallest b N x f D w H.out hx hN).mono ?_
  rintro e w1 ⟨rfl, rfl⟩
  rw [EX.out]
  go_wp2_with fail
  refine (ufSmallest b N y f D w H.out hy hN).mono ?_
  rintro e w1 ⟨rfl, rfl⟩
  rw [EY.out]
  rcases Nat.lt_trichotomy X Y with hlt | rfl | hlt
  · have d0 : ((X : Int) == (Y : Int)) = false := by rw [beq_eq_false_iff_ne]; omega
    have d1 : decide ((X : Int) < (Y : Int)) = true := by simp; omega
    have d2 : decide ((Y : Int) < (X : Int)) = false := by simp; omega
    have q1 : (X : Int) < (Y : Int) := by omega
    go_wp2_with (first | (at_mapUpdate; refine wpList_mapUpdate_own _ rfl _ _ _ 55 rfl 2 2 lawI Tryz.underlying55 (plainElem Tryz.prog 2) b (Maps.size D) D rfl H.out.own Hsz.out _ _ (kI Y) rfl rfl (keyOf_I (by omega)) (.lit (.int .i64 (X : Int))) [] (plainElem_int Tryz.underlying2 (wfI (by omega))) ?_; intro w2 ho2 hg2) | go_in)
    go_ret
    exact .inr ⟨by omega, _, _, rfl, H.out.put hN hYN hlt ho2, mg_lnk L.out hx hy hlt (.inr ⟨EY.out.symm, EX.out.symm⟩), hg2⟩
  · have d0 : ((X : Int) == (X : Int)) = true := by simp
    go_wp2
    go_ret
    exact ⟨rfl, rfl⟩
  · have d0 : ((X : Int) == (Y : Int)) = false := by rw [beq_eq_false_iff_ne]; omega
    have d1 : decide ((X : Int) < (Y : Int)) = false := by simp; omega
    have d2 : decide ((Y : Int) < (X : Int)) = true := by simp; omega
    have q1 : ¬ (X : Int) < (Y : Int) := by omega
    have q2 : (Y : Int) < (X : Int) := by omega
    go_wp2_with (first | (at_mapUpdate; refine wpList_mapUpdate_own _ rfl _ _ _ 55 rfl 2 2 lawI Tryz.underlying55 (plainElem Tryz.prog 2) b (Maps.size D) D rfl H.out.own Hsz.out _ _ (kI X) rfl rfl (keyOf_I (by omega)) (.lit (.int .i64 (Y : Int))) [] (plainElem_int Tryz.underlying2 (wfI (by omega))) ?_; intro w2 ho2 hg2) | go_in)
    go_ret
    exact .inr ⟨by omega, _, _, rfl, H.out.put hN hXN hlt ho2, mg_lnk L.out hx hy hlt (.inl ⟨EX.out.symm, EY.out.symm⟩), hg2⟩
end Go.Proofs.YtedfcljikgmpgaaGreat

/- uniteEach and uniteImages of the program. Conditions: at most 20 points, 8 generators. -/
namespace Go.Proofs.YtedfcljikgmpgaaGreat
open Go.RowKit

theorem cls_mono {N : Nat} {r r' : Nat → Nat} (h : Rf N r r') : cls N r' ≤ cls N r := by
  refine nd_sub (List.nodup_range.filter _) fun z hz => ?_
  obtain ⟨h1, h2⟩ := List.mem_filter.1 hz
  have hz1 := List.mem_range.1 h1
  exact List.mem_filter.2 ⟨h1, fstB_iff.2 fun y' hy' e' => fstB_iff.1 h2 y' hy' (h y' z (by omega) hz1 e')⟩
theorem cls_pos {N x : Nat} {r : Nat → Nat} (hx : x < N) : 1 ≤ cls N r := by
  have : 0 ∈ (List.range N).filter (fstB r) := List.mem_filter.2 ⟨List.mem_range.2 (by omega), fstB_iff.2 fun y hy => absurd hy (Nat.not_lt_zero _)⟩
  exact List.length_pos_of_mem this

/-- What has been made one behind k entries of block i. -/
structure UE (N : Nat) (bl : List (List Int)) (r s : Nat → Nat) (i k : Nat) : Prop where
  up : Rf N r s
  done : ∀ i' k', (i' < i ∨ (i' = i ∧ k' < k)) → i' < bl.length → k' < (bl.getD i' []).length → s ((bl.getD i' []).getD 0 0).toNat = s ((bl.getD i' []).getD k' 0).toNat
  least : ∀ q, Rf N r q → Rf N (bi bl) q → Rf N s q
section
variable {N i k : Nat} {bl : List (List Int)} {r s s' : Nat → Nat}
theorem UE.zero : UE N bl r r 0 0 := ⟨Rf.refl _ _, fun i' k' h => by omega, fun _ h _ => h⟩
theorem UE.row (h : UE N bl r s i k) (hk : (bl.getD i []).length ≤ k) : UE N bl r s (i + 1) 0 := ⟨h.up, fun i' k' h1 h2 h3 => h.done i' k' (by
  rcases h1 with h1 | ⟨_, h1⟩
  · by_cases e : i' = i
    · subst e; exact .inr ⟨rfl, by omega⟩
    · exact .inl (by omega)
  · omega) h2 h3, h.least⟩
/-- An entry of a block. -/
theorem Prt.ent (hP : Prt N bl) (hi : i < bl.length) (hk : k < (bl.getD i []).length) : 0 ≤ (bl.getD i []).getD k 0 ∧ (bl.getD i []).getD k 0 < N ∧ bi bl ((bl.getD i []).getD k 0).toNat = i := by
  have hm : (bl.getD i []).getD k 0 ∈ bl.getD i [] := by
    rw [List.getD_eq_getElem?_getD (l := bl.getD i []), List.getElem?_eq_getElem hk]
    exact List.getElem_mem _
  have h1 := (hP.1 i hi).2.1.mem hm
  exact ⟨h1.1, h1.2, hP.bi_of hi (by rw [Int.toNat_of_nonneg h1.1]; exact hm)⟩
theorem UE.step (h : UE N bl r s i k) (hP : Prt N bl) (hi : i < bl.length) (hk : k < (bl.getD i []).length) (hm : Mg N s s' ((bl.getD i []).getD 0 0).toNat ((bl.getD i []).getD k 0).toNat) : UE N bl r s' i (k + 1) := by
  refine ⟨h.up.trans hm.up, fun i' k' h1 h2 h3 => ?_, fun q a b => hm.least q (h.least q a b) ?_⟩
  · by_cases e : i' = i ∧ k' = k
    · obtain ⟨rfl, rfl⟩ := e
      exact hm.eq
    · have hd := h.done i' k' (by omega) h2 h3
      have e1 := hP.ent h2 (k := 0) (by omega)
      have e2 := hP.ent h2 h3
      exact hm.up _ _ (by omega) (by omega) hd
  · have e1 := hP.ent hi (k := 0) (by omega)
    have e2 := hP.ent hi hk
    exact b _ _ (by omega) (by omega) (e1.2.2.trans e2.2.2.symm)
theorem UE.fin (h : UE N bl r s bl.length 0) (hP : Prt N bl) : Rf N r s ∧ Rf N (bi bl) s ∧ ∀ q, Rf N r q → Rf N (bi bl) q → Rf N s q := by
  refine ⟨h.up, fun u v hu hv e => ?_, h.least⟩
  have key : ∀ z, z < N → s ((bl.getD (bi bl z) []).getD 0 0).toNat = s z := fun z hz => by
    have hl := hP.bi_lt hz
    obtain ⟨k, hk, ek⟩ := List.mem_iff_getElem.1 (hP.bi_mem hz)
    have := h.done (bi bl z) k (.inl hl) hl hk
    rw [this, List.getD_eq_getElem?_getD (l := bl.getD (bi bl z) []), List.getElem?_eq_getElem hk, ek]
    rfl
  rw [← key u hu, ← key v hv, e]
end

set_option maxHeartbeats 2000000 in
set_option maxRecDepth 100000 in
/-- uniteEach, at a partition. -/
theorem ufEach (b N B n c : Nat) (f : Nat → Option Nat) (D : DataW Value) (A : Option Addr) (vs : List SV) (bl : List (List Int)) (w : World) (h : UF w b N f D) (hA : RR w B A n vs bl) (hB : B ≤ b) (hP : Hid (Prt N bl)) (hN : N ≤ 20) :
    Calls Tryz.prog 50 #[.map (some b), .slice A n c] w fun e w' => ∃ f' D', e = .returned (.tuple #[]) ∧ UF w' b N f' D' ∧ (Rf N (rt f) (rt f') ∧ Rf N (bi bl) (rt f') ∧ ∀ q, Rf N (rt f) q → Rf N (bi bl) q → Rf N (rt f') q) ∧ w.grownBy w' (some b) := by
  have H := Lib.hid h
  have HA := Lib.hid hA
  have hln : Hid (bl.length = n) := Lib.hid hA.lx
  have hnN : n ≤ 20 := by have := hP.out.len_le; rw [hln.out] at this; omega
  have hbw : b < w.heap.size := h.lt
  have KA : Hid (∀ W : World, w.grownBy W (some b) → RR W B A n vs bl) := Lib.hid fun W hW => hA.grown hW (by omega) (fun g e => by injection e with e; omega)
  clear h hA
  go_enter Tryz.func50, Tryz.ntmps50
  go_wp2_with fail
  go_loopw [10] (fun iv wr => ∃ (i : Nat) (s : Nat → Option Nat) (D' : DataW Value), i ≤ n ∧ iv = .int .i64 (i : Nat) ∧ UF wr b N s D' ∧ UE N bl (rt f) (rt s) i 0 ∧ w.grownBy wr (some b)) (fun iv _ => n - (intOf iv).toNat)
  case atStart => exact ⟨0, f, D, Nat.zero_le _, rfl, H.out, .zero, grown_refl _ _⟩
  case round =>
    obtain ⟨i, s, D', hi, rfl, huf, hue, hgr⟩ := hrel
    have Hu := Lib.hid huf
    have Ue := Lib.hid hue
    have Gr := Lib.hid hgr
    clear huf hue hgr
    by_cases hlt : i < n
    · obtain ⟨b5, o5, A5, l, c5, y, rfl, hb5, ev, ey, x1, ri, ly, hlc⟩ := (KA.out _ Gr.out).at_ hlt
      have hi2 : i < bl.length := by rw [hln.out]; exact hlt
      have hne := (hP.out.1 i hi2).1
      have hyl := (hP.out.1 i hi2).2.1.1
      rw [ey] at hne hyl
      have hl0 : 0 < l := by rw [← ly]; exact List.length_pos_iff.2 hne
      have hl20 : l ≤ 20 := by omega
      have Ey := Lib.hid ey
      have Ly : Hid (y.length = l) := Lib.hid ly
      have K5 : Hid (∀ W : World, w.grownBy W (some b) → RI W B A5 y) := Lib.hid fun W hW => by
        have := (KA.out W hW).rows i hlt
        rw [ev, ey] at this; exact this
      clear ev ey ri ly hne hyl hb5
      go_wp2_with fail
      go_loopw [16] (fun kv wr2 => ∃ (k : Nat) (s : Nat → Option Nat) (D' : DataW Value), k ≤ l ∧ kv = .int .i64 (k : Nat) ∧ UF wr2 b N s D' ∧ UE N bl (rt f) (rt s) i k ∧ w.grownBy wr2 (some b)) (fun kv _ => l - (intOf kv).toNat)
      case atStart => exact ⟨0, s, D', Nat.zero_le _, rfl, Hu.out, Ue.out, Gr.out⟩
      case round =>
        clear Hu Ue Gr
        obtain ⟨k, s, D', hk, rfl, huf, hue, hgr⟩ := hrel
        have Hu := Lib.hid huf
        have Ue := Lib.hid hue
        have Gr := Lib.hid hgr
        clear huf hue
        by_cases hlt2 : k < l
        · obtain ⟨bz, oz, rfl, hbz, hc⟩ := (K5.out _ hgr) (by rw [Ly.out]; omega)
          have z0 := hc 0 (by rw [Ly.out]; omega)
          have zk := hc k (by rw [Ly.out]; omega)
          have e0 := hP.out.ent hi2 (k := 0) (by rw [Ey.out, Ly.out]; omega)
          have ek := hP.out.ent hi2 (k := k) (by rw [Ey.out, Ly.out]; omega)
          rw [Ey.out] at e0 ek
          obtain ⟨X, eX⟩ : ∃ X : Nat, y.getD 0 0 = (X : Int) := ⟨(y.getD 0 0).toNat, by omega⟩
          obtain ⟨Y, eY⟩ : ∃ Y : Nat, y.getD k 0 = (Y : Int) := ⟨(y.getD k 0).toNat, by omega⟩
          rw [eX] at z0 e0
          rw [eY] at zk ek
          have hX : X < N := by omega
          have hY : Y < N := by omega
          have EX := Lib.hid eX
          have EY := Lib.hid eY
          rw [Nat.add_zero] at z0
          clear hgr hc e0 ek eX eY hbz
          go_wp2_with fail
          refine (ufUnite b N X Y s D' wr Hu.out hX hY hN).mono ?_
          rintro e w3 (⟨hs, rfl, rfl⟩ | ⟨hs, s', D2, rfl, u3, m3, g3⟩)
          · have U3 : Hid (UE N bl (rt f) (rt s) i (k + 1)) := Lib.hid (Ue.out.step hP.out hi2 (by rw [Ey.out, Ly.out]; exact hlt2) (by rw [Ey.out, EX.out, EY.out]; exact Mg.same hs))
            clear hs
            go_wp2_with fail
            go_roundw
            case rel => exact ⟨k + 1, s, D', by omega, by go_num, Hu.out, U3.out, Gr.out⟩
            case measure => simp [intOf]; omega
          · have U3 : Hid (UE N bl (rt f) (rt s') i (k + 1)) := Lib.hid (Ue.out.step hP.out hi2 (by rw [Ey.out, Ly.out]; exact hlt2) (by rw [Ey.out, EX.out, EY.out]; exact m3))
            have Hu3 := Lib.hid u3
            have G3 : Hid (w.grownBy w3 (some b)) := Lib.hid (Gr.out.trans g3)
            clear hs u3 m3 g3
            go_wp2_with fail
            go_roundw
            case rel => exact ⟨k + 1, s', D2, by omega, by go_num, Hu3.out, U3.out, G3.out⟩
            case measure => simp [intOf]; omega
        · obtain rfl : k = l := by omega
          have U3 : Hid (UE N bl (rt f) (rt s) (i + 1) 0) := Lib.hid (Ue.out.row (by rw [Ey.out, Ly.out]; exact Nat.le_refl _))
          clear hgr
          go_wp2_with fail
          go_roundw
          case rel => exact ⟨i + 1, s, D', by omega, by go_num, Hu.out, U3.out, Gr.out⟩
          case measure => simp [intOf]; omega
    · obtain rfl : i = n := by omega
      have Fin := Lib.hid (UE.fin (by rw [hln.out]; exact Ue.out) hP.out)
      go_wp2_with fail
      refine bodyPost_end (results_none rfl _ _ _) rfl ?_
      exact ⟨s, D', rfl, Hu.out, Fin.out, Gr.out⟩

set_option maxHeartbeats 2000000 in
set_option maxRecDepth 100000 in
/-- uniteImages. -/
theorem ufImages (N B n c b : Nat) (A : Option Addr) (vs : List SV) (gs : List (List Int)) (hB : B ≤ b) (hG : Hid (∀ g ∈ gs, Pn N g)) (hn : n ≤ 8) (hN : N ≤ 20) : ∀ (m : Nat) (f : Nat → Option Nat) (D : DataW Value) (x y : Nat) (w : World), cls N (rt f) ≤ m → UF w b N f D → RR w B A n vs gs → x < N → y < N →
    Calls Tryz.prog 36 #[.map (some b), .slice A n c, .int .i64 (x : Nat), .int .i64 (y : Nat)] w fun e w' => ∃ f' D', e = .returned (.tuple #[]) ∧ UF w' b N f' D' ∧ UI gs N (rt f) (rt f') x y ∧ w.grownBy w' (some b) := by
  intro m
  induction m with
  | zero => intro f D x y w hm _ _ hx _; have := cls_pos (r := rt f) hx; omega
  | succ m ih =>
  intro f D x y w hm h hA hx hy
  have IH := Lib.hid ih
  have H := Lib.hid h
  have Hm := Lib.hid hm
  have hln : Hid (gs.length = n) := Lib.hid hA.lx
  have hbw : b < w.heap.size := h.lt
  have KA : Hid (∀ W : World, w.grownBy W (some b) → RR W B A n vs gs) := Lib.hid fun W hW => hA.grown hW (by omega) (fun g e => by injection e with e; omega)
  have Hnx : Hid (∀ g ∈ gs, ∀ u, u < N → nx g u < N) := Lib.hid fun g hg u hu => (hG.out g hg).lt hu
  clear h hA ih hm
  go_enter Tryz.func36, Tryz.ntmps36
  go_wp2_with fail
  refine (ufUnite b N x y f D w H.out hx hy hN).mono ?_
  rintro e w1 (⟨hs, rfl, rfl⟩ | ⟨hs, f0, D0, rfl, u1, m1, g1⟩)
  · have Fin : Hid (UI gs N (rt f) (rt f) x y) := Lib.hid (UI.same hs)
    clear hs
    go_wp2_with fail
    refine bodyPost_ret (results_none rfl _ _ _) rfl ?_
    exact ⟨f, D, rfl, H.out, Fin.out, grown_refl _ _⟩
  · have U1 := Lib.hid u1
    have M1 := Lib.hid m1
    have G1 := Lib.hid g1
    have Hc : Hid (cls N (rt f0) ≤ m) := Lib.hid (by have := m1.cls hx hy hs; have := Hm.out; omega)
    clear hs u1 m1 g1
    go_wp2_with fail
    go_loopw [17] (fun iv wr => ∃ (i : Nat) (s : Nat → Option Nat) (D' : DataW Value), i ≤ n ∧ iv = .int .i64 (i : Nat) ∧ UF wr b N s D' ∧ UJ gs N (rt f) (rt f0) (rt s) x y i ∧ w.grownBy wr (some b)) (fun iv _ => n - (intOf iv).toNat)
    case atStart => exact ⟨0, f0, D0, Nat.zero_le _, rfl, U1.out, .zero M1.out, G1.out⟩
    case round =>
      clear U1
      obtain ⟨i, s, D', hi, rfl, huf, huj, hgr⟩ := hrel
      have Hu := Lib.hid huf
      have Uj := Lib.hid huj
      have Gr := Lib.hid hgr
      clear huf huj hgr
      by_cases hlt : i < n
      · obtain ⟨b5, o5, A5, l, c5, g, rfl, hb5, ev, eg, x1, ri, lg, hlc⟩ := (KA.out _ Gr.out).at_ hlt
        have hgm : g ∈ gs := by rw [← eg]; exact getD_memL (by rw [hln.out]; exact hlt)
        have hgP := hG.out g hgm
        obtain rfl : l = N := by have := hgP.2; omega
        obtain ⟨bz, oz, rfl, hbz, hc⟩ := ri (by rw [lg]; omega)
        have zx := hc x (by rw [lg]; exact hx)
        have zy := hc y (by rw [lg]; exact hy)
        rw [nx_val hgP.1 (by rw [lg]; exact hx)] at zx
        rw [nx_val hgP.1 (by rw [lg]; exact hy)] at zy
        obtain ⟨X, eX⟩ : ∃ X, nx g x = X := ⟨_, rfl⟩
        obtain ⟨Y, eY⟩ : ∃ Y, nx g y = Y := ⟨_, rfl⟩
        have hX : X < l := by rw [← eX]; exact hgP.lt hx
        have hY : Y < l := by rw [← eY]; exact hgP.lt hy
        rw [eX] at zx
        rw [eY] at zy
        have Es : Hid (nx (gs.getD i []) x = X ∧ nx (gs.getD i []) y = Y) := Lib.hid (by rw [eg]; exact ⟨eX, eY⟩)
        have qx : (x : Int) < l := by omega
        have qy : (y : Int) < l := by omega
        have Hcs : Hid (cls l (rt s) ≤ m) := Lib.hid (Nat.le_trans (cls_mono Uj.out.up) Hc.out)
        clear ev eg ri hc hgP hgm eX eY lg hb5 hbz
        go_wp2_with fail
        go_still_tail 10, (by kernel_rfl)
        change wpList _ _ _ _ _ (wr.drewN 1)
        have Hu2 := Lib.hid (Hu.out.drewN 1)
        have Ka2 := Lib.hid (KA.out _ (grown_drewN Gr.out 1))
        have Gr2 := Lib.hid (grown_drewN Gr.out 1)
        generalize wr.drewN 1 = w2 at Hu2 Ka2 Gr2 ⊢
        go_wp2_with fail
        refine (IH.out s D' X Y w2 Hcs.out Hu2.out Ka2.out hX hY).mono ?_
        rintro e w3 ⟨s', D2, rfl, u3, m3, g3⟩
        have Hu3 := Lib.hid u3
        have Uj3 : Hid (UJ gs l (rt f) (rt f0) (rt s') x y (i + 1)) := Lib.hid (Uj.out.step M1.out (by rw [hln.out]; exact hlt) hx hy Hnx.out (by rw [Es.out.1, Es.out.2]; exact m3))
        have G3 : Hid (w.grownBy w3 (some b)) := Lib.hid (Gr2.out.trans g3)
        clear u3 m3 g3
        go_wp2_with fail
        go_roundw
        case rel => exact ⟨i + 1, s', D2, by omega, by go_num, Hu3.out, Uj3.out, G3.out⟩
        case measure => simp [intOf]; omega
      · obtain rfl : i = n := by omega
        have Fin : Hid (UI gs N (rt f) (rt s) x y) := Lib.hid (UJ.all (by rw [hln.out]; exact Uj.out) M1.out hx hy Hnx.out)
        go_wp2_with fail
        refine bodyPost_end (results_none rfl _ _ _) rfl ?_
        exact ⟨s, D', rfl, Hu.out, Fin.out, Gr.out⟩
end Go.Proofs.YtedfcljikgmpgaaGreat
