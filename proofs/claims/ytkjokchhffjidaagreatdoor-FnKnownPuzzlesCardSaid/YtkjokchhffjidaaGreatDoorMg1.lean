/- Part 1 of the texts: Math, Txt, Base, FmtS, Cur, Help, Perm, Nums, Split. No condition of its own: each text tells its own. -/
import Derived.WalkKit
import Derived.Test.YtkjokchhffjidaaGreatDoorProg
import Derived.Maps.AppendAt
import Derived.Deep.Draws
import Derived.Lib.Hide
import Derived.Deep.QuietTactic
import Derived.WalkSpells
import Derived.Laws.BytesArg
import Derived.Deep.LoopGhost
import Derived.Deep.RegionWith
import Derived.Lib.ConvBytes
import Derived.BigQuiet
set_option linter.unusedVariables false
set_option linter.unusedSimpArgs false

/- Plain facts on permutations as lists of numbers: iterates, periods, cycles, orders. No Go in it. No condition. -/
namespace Go.Proofs.YtkjokchhffjidaaGreatDoor

theorem ndlen : ∀ (n : Nat) (l : List Nat), l.Nodup → (∀ x ∈ l, x < n) → l.length ≤ n := by
  intro n
  induction n with
  | zero =>
    intro l _ h
    cases l with
    | nil => simp
    | cons a t => exact absurd (h a (by simp)) (by omega)
  | succ n ih =>
    intro l hd h
    have h1 : (l.filter (fun x => x != n)).length ≤ n := by
      refine ih _ (hd.filter _) ?_
      intro x hx
      rw [List.mem_filter] at hx
      have := h x hx.1
      have h2 : x ≠ n := by simpa using hx.2
      omega
    have h2 : l.length ≤ (l.filter (fun x => x != n)).length + 1 := by
      clear ih h h1
      induction l with
      | nil => simp
      | cons a t iht =>
        rw [List.nodup_cons] at hd
        by_cases ha : a = n
        · subst ha
          have : t.filter (fun x => x != a) = t := by
            rw [List.filter_eq_self]
            intro x hx
            have : x ≠ a := fun e => hd.1 (e ▸ hx)
            simpa using this
          simp [this]
        · have := iht hd.2
          simp [ha]; omega
    omega

/-- The point that follows i. -/
def nx (p : List Int) (i : Nat) : Nat := (p.getD i 0).toNat

structure IsP (p : List Int) : Prop where
  pos : 1 ≤ p.length
  le : p.length ≤ 20
  lo : ∀ i, i < p.length → 0 ≤ p.getD i 0
  hi : ∀ i, i < p.length → p.getD i 0 < p.length
  inj : ∀ i j, i < p.length → j < p.length → p.getD i 0 = p.getD j 0 → i = j

def it (p : List Int) : Nat → Nat → Nat
  | 0, x => x
  | k + 1, x => nx p (it p k x)

section
variable {p : List Int} (h : IsP p)
include h

theorem nx_lt {x : Nat} (hx : x < p.length) : nx p x < p.length := by
  have := h.hi x hx; have := h.lo x hx; unfold nx; omega
theorem nx_val {x : Nat} (hx : x < p.length) : p.getD x 0 = (nx p x : Int) := by
  have := h.lo x hx; unfold nx; omega
theorem nx_inj {x y : Nat} (hx : x < p.length) (hy : y < p.length) (e : nx p x = nx p y) : x = y :=
  h.inj x y hx hy (by rw [nx_val h hx, nx_val h hy, e])
theorem it_lt {x : Nat} (hx : x < p.length) (k : Nat) : it p k x < p.length := by
  induction k with
  | zero => exact hx
  | succ k ih => exact nx_lt h ih
theorem it_inj {x y : Nat} (hx : x < p.length) (hy : y < p.length) (k : Nat) (e : it p k x = it p k y) : x = y := by
  induction k with
  | zero => exact e
  | succ k ih => exact ih (nx_inj h (it_lt h hx k) (it_lt h hy k) e)
end

theorem it_add (p : List Int) (a b x : Nat) : it p (a + b) x = it p a (it p b x) := by
  induction a with
  | zero => simp [it]
  | succ a ih => rw [Nat.succ_add]; simp [it, ih]
theorem it_comm (p : List Int) (a b x : Nat) : it p a (it p b x) = it p b (it p a x) := by
  rw [← it_add, ← it_add, Nat.add_comm]

theorem ret_ex {p : List Int} (h : IsP p) {x : Nat} (hx : x < p.length) : ∃ k, 1 ≤ k ∧ k ≤ p.length ∧ it p k x = x := by
  refine Classical.byContradiction fun hne => ?_
  have hne' : ∀ k, 1 ≤ k → k ≤ p.length → it p k x ≠ x := fun k h1 h2 e => hne ⟨k, h1, h2, e⟩
  have key : ((List.range (p.length + 1)).map fun k => it p k x).Nodup := by
    rw [List.Nodup, List.pairwise_map]
    rw [List.pairwise_iff_getElem]
    intro i j hi hj hij e
    simp only [List.length_range] at hi hj
    simp only [List.getElem_range] at e
    have e2 : it p i (it p (j - i) x) = it p i x := by rw [← it_add]; rw [e]; congr 1; omega
    exact hne' (j - i) (by omega) (by omega) (it_inj h (it_lt h hx _) hx i e2)
  have := ndlen p.length _ key (by intro y hy; simp only [List.mem_map] at hy; obtain ⟨k, _, rfl⟩ := hy; exact it_lt h hx k)
  rw [List.length_map, List.length_range] at this
  omega

def per (p : List Int) (x : Nat) : Nat := ((List.range' 1 p.length).find? (fun k => it p k x == x)).getD 1

theorem per_spec {p : List Int} (h : IsP p) {x : Nat} (hx : x < p.length) :
    1 ≤ per p x ∧ per p x ≤ p.length ∧ it p (per p x) x = x ∧ ∀ k, 1 ≤ k → k < per p x → it p k x ≠ x := by
  obtain ⟨k0, h1, h2, h3⟩ := ret_ex h hx
  have hsome : ((List.range' 1 p.length).find? (fun k => it p k x == x)).isSome := by
    rw [List.find?_isSome]
    exact ⟨k0, by rw [List.mem_range'_1]; omega, by simpa using h3⟩
  obtain ⟨m, hm⟩ := Option.isSome_iff_exists.1 hsome
  have hp : per p x = m := by unfold per; rw [hm]; rfl
  rw [hp]
  have hmem := List.mem_of_find?_eq_some hm
  have hval := List.find?_some hm
  rw [List.mem_range'_1] at hmem
  refine ⟨hmem.1, by omega, by simpa using hval, ?_⟩
  intro k hk1 hk2 e
  rw [List.find?_eq_some_iff_getElem] at hm
  obtain ⟨_, i, hi, hget, hbef⟩ := hm
  rw [List.getElem_range'] at hget
  simp at hget
  have := hbef (k - 1) (by omega)
  rw [List.getElem_range'] at this
  simp at this
  apply this
  rw [show 1 + (k - 1) = k from by omega]; exact e

theorem it_mod {p : List Int} (h : IsP p) {x : Nat} (hx : x < p.length) (k : Nat) : it p k x = it p (k % per p x) x := by
  obtain ⟨h1, _, h3, _⟩ := per_spec h hx
  have hmul : ∀ q, it p (q * per p x) x = x := by
    intro q
    induction q with
    | zero => simp [it]
    | succ q ih => rw [Nat.succ_mul, it_add, h3, ih]
  have := Nat.div_add_mod k (per p x)
  rw [Nat.mul_comm] at this
  calc it p k x = it p (k % per p x + k / per p x * per p x) x := by rw [Nat.add_comm, this]
    _ = _ := by rw [it_add, hmul]

theorem it_eq_iff {p : List Int} (h : IsP p) {x : Nat} (hx : x < p.length) (k : Nat) : it p k x = x ↔ k % per p x = 0 := by
  obtain ⟨h1, _, h3, h4⟩ := per_spec h hx
  rw [it_mod h hx k]
  constructor
  · intro e
    refine Classical.byContradiction fun hne => ?_
    exact h4 (k % per p x) (by omega) (Nat.mod_lt _ (by omega)) e
  · intro e; rw [e]; rfl

/-- Points of one cycle have one period. -/
theorem per_it {p : List Int} (h : IsP p) {x : Nat} (hx : x < p.length) (k : Nat) : per p (it p k x) = per p x := by
  have hy := it_lt h hx k
  have key : ∀ m, it p m (it p k x) = it p k x ↔ it p m x = x := fun m => by
    rw [it_comm]
    exact ⟨fun e => it_inj h (it_lt h hx m) hx k e, fun e => by rw [e]⟩
  obtain ⟨a1, _, a3, a4⟩ := per_spec h hx
  obtain ⟨b1, _, b3, b4⟩ := per_spec h hy
  rcases Nat.lt_trichotomy (per p (it p k x)) (per p x) with hlt | heq | hgt
  · exact absurd ((key _).1 b3) (a4 _ b1 hlt)
  · exact heq
  · exact absurd ((key _).2 a3) (b4 _ a1 hgt)

/-- The points that follow x, x first. -/
def cyc (p : List Int) (x : Nat) : List Int := (List.range (per p x)).map fun k => (it p k x : Int)
/-- x is the smallest point of its cycle. -/
def st (p : List Int) (x : Nat) : Bool := (List.range (per p x)).all fun k => decide (x ≤ it p k x)
def cycs (p : List Int) : List (List Int) := ((List.range p.length).filter (st p)).map (cyc p)

theorem cyc_length (p : List Int) (x : Nat) : (cyc p x).length = per p x := by simp [cyc]


instance (p : List Int) : Decidable (∀ i j, i < p.length → j < p.length → p.getD i 0 = p.getD j 0 → i = j) :=
  decidable_of_iff (∀ i, i < p.length → ∀ j, j < p.length → p.getD i 0 = p.getD j 0 → i = j) ⟨fun h i j a b c => h i a j b c, fun h i a j b c => h i j a b c⟩

def isP (p : List Int) : Bool :=
  decide (1 ≤ p.length) && decide (p.length ≤ 20) && decide (∀ i, i < p.length → 0 ≤ p.getD i 0) && decide (∀ i, i < p.length → p.getD i 0 < p.length) &&
    decide (∀ i, i < p.length → ∀ j, j < p.length → p.getD i 0 = p.getD j 0 → i = j)
theorem isP_iff {p : List Int} : isP p = true ↔ IsP p := by
  unfold isP
  simp only [Bool.and_eq_true, decide_eq_true_eq]
  constructor
  · rintro ⟨⟨⟨⟨a, b⟩, c⟩, d⟩, e⟩
    exact ⟨a, b, c, d, fun i j hi hj => e i hi j hj⟩
  · rintro ⟨a, b, c, d, e⟩
    exact ⟨⟨⟨⟨a, b⟩, c⟩, d⟩, fun i hi j hj => e i j hi hj⟩

/-- The first k entries are in range and differ from one another. -/
def okTo (p : List Int) (k : Nat) : Prop :=
  (∀ i, i < k → 0 ≤ p.getD i 0 ∧ p.getD i 0 < p.length) ∧ ∀ i j, i < j → j < k → p.getD i 0 ≠ p.getD j 0
theorem okTo_zero (p : List Int) : okTo p 0 := ⟨fun i h => absurd h (by omega), fun i j _ h => absurd h (by omega)⟩
theorem okTo_succ {p : List Int} {k : Nat} (h : okTo p k) (h0 : 0 ≤ p.getD k 0) (h1 : p.getD k 0 < p.length) (h2 : ∀ i, i < k → p.getD i 0 ≠ p.getD k 0) : okTo p (k + 1) := by
  refine ⟨fun i hi => ?_, fun i j hij hj => ?_⟩
  · by_cases e : i = k
    · subst e; exact ⟨h0, h1⟩
    · exact h.1 i (by omega)
  · by_cases e : j = k
    · subst e; exact h2 i hij
    · exact h.2 i j hij (by omega)
theorem isP_of_ok {p : List Int} (a : 1 ≤ p.length) (b : p.length ≤ 20) (h : okTo p p.length) : isP p = true := by
  rw [isP_iff]
  refine ⟨a, b, fun i hi => (h.1 i hi).1, fun i hi => (h.1 i hi).2, fun i j hi hj e => ?_⟩
  rcases Nat.lt_trichotomy i j with hl | he | hg
  · exact absurd e (h.2 i j hl hj)
  · exact he
  · exact absurd e.symm (h.2 j i hg hi)
theorem isP_no_range {p : List Int} {k : Nat} (hk : k < p.length) (h : p.getD k 0 < 0 ∨ (p.length : Int) ≤ p.getD k 0) : isP p = false := by
  rw [Bool.eq_false_iff]
  intro e
  rw [isP_iff] at e
  have := e.lo k hk
  have := e.hi k hk
  omega
theorem isP_no_twice {p : List Int} {i k : Nat} (hk : k < p.length) (hi : i < k) (h : p.getD i 0 = p.getD k 0) : isP p = false := by
  rw [Bool.eq_false_iff]
  intro e
  rw [isP_iff] at e
  have := e.inj i k (by omega) hk h
  omega
theorem isP_no_len {p : List Int} (h : p.length < 1 ∨ 20 < p.length) : isP p = false := by
  rw [Bool.eq_false_iff]
  intro e
  rw [isP_iff] at e
  have := e.pos
  have := e.le
  omega

def idL (n : Nat) : List Int := (List.range n).map Int.ofNat
def compL (p q : List Int) : List Int := p.map fun x => q.getD x.toNat 0
def invL (p : List Int) : Nat → List Int
  | 0 => List.replicate p.length 0
  | k + 1 => (invL p k).set (p.getD k 0).toNat k
def powL (p : List Int) (k : Int) : List Int := (List.range p.length).map fun i => (it p (k % (per p i : Int)).toNat i : Int)
def lcmL (l : List Nat) : Nat := l.foldl Nat.lcm 1
def ordL (p : List Int) : Nat := lcmL ((List.range p.length).map (per p))
def cycl (p : List Int) : List (List Int) := (cycs p).filter fun c => decide (1 < c.length)
def sgn (p : List Int) : Int := if (p.length - (cycs p).length) % 2 = 0 then 1 else -1
def supp (p : List Int) : List Int := ((List.range p.length).filter fun i => p.getD i 0 != (i : Int)).map Int.ofNat
/-- p comes first: the first entry that differs is smaller. -/
def lessL : List Int → List Int → Bool
  | a :: p, b :: q => if a = b then lessL p q else decide (a < b)
  | _, _ => false

theorem foldl_lcm (l : List Nat) (a : Nat) : l.foldl Nat.lcm a = Nat.lcm a (lcmL l) := by
  unfold lcmL
  induction l generalizing a with
  | nil => simp
  | cons b t ih => simp only [List.foldl_cons]; rw [ih, ih (Nat.lcm 1 b), Nat.lcm_one_left, Nat.lcm_assoc]
theorem lcmL_snoc (l : List Nat) (a : Nat) : lcmL (l ++ [a]) = Nat.lcm (lcmL l) a := by simp [lcmL]
theorem dvd_lcmL {l : List Nat} {a : Nat} (h : a ∈ l) : a ∣ lcmL l := by
  induction l with
  | nil => cases h
  | cons b t ih =>
    have : lcmL (b :: t) = Nat.lcm b (lcmL t) := by unfold lcmL; simp only [List.foldl_cons]; rw [foldl_lcm, Nat.lcm_one_left]; rfl
    rw [this]
    rcases List.mem_cons.1 h with rfl | h
    · exact Nat.dvd_lcm_left _ _
    · exact Nat.dvd_trans (ih h) (Nat.dvd_lcm_right _ _)
theorem lcmL_dvd {l : List Nat} {m : Nat} (h : ∀ a ∈ l, a ∣ m) : lcmL l ∣ m := by
  induction l with
  | nil => simp [lcmL]
  | cons b t ih =>
    have : lcmL (b :: t) = Nat.lcm b (lcmL t) := by unfold lcmL; simp only [List.foldl_cons]; rw [foldl_lcm, Nat.lcm_one_left]; rfl
    rw [this]
    exact Nat.lcm_dvd (h b (by simp)) (ih fun a ha => h a (by simp [ha]))
theorem lcmL_pos {l : List Nat} (h : ∀ a ∈ l, 1 ≤ a ∧ a ≤ 20) : 1 ≤ lcmL l ∧ lcmL l ≤ 232792560 := by
  have hd : lcmL l ∣ 232792560 := lcmL_dvd fun a ha => by
    obtain ⟨h1, h2⟩ := h a ha
    have : ∀ a : Fin 21, 1 ≤ a.val → a.val ∣ 232792560 := by decide
    exact this ⟨a, by omega⟩ h1
  have hle := Nat.le_of_dvd (by decide) hd
  refine ⟨?_, hle⟩
  rcases Nat.eq_zero_or_pos (lcmL l) with e | e
  · rw [e] at hd; exact absurd (Nat.eq_zero_of_zero_dvd hd) (by decide)
  · exact e

/-- Every point lies in the cycle of a smallest point. -/
theorem min_ex {p : List Int} (h : IsP p) {x : Nat} (hx : x < p.length) : ∃ c j, c < p.length ∧ st p c = true ∧ j < per p c ∧ it p j c = x := by
  obtain ⟨h1, h2, h3, h4⟩ := per_spec h hx
  have hmin : ∀ m, 1 ≤ m → m ≤ per p x → ∃ i, i < m ∧ ∀ j, j < m → it p i x ≤ it p j x := by
    intro m
    induction m with
    | zero => omega
    | succ m ih =>
      intro _ hm
      by_cases h0 : m = 0
      · subst h0; exact ⟨0, by omega, fun j hj => by rw [show j = 0 from by omega]; exact Nat.le_refl _⟩
      · obtain ⟨i, hi, hle⟩ := ih (by omega) (by omega)
        by_cases hc : it p i x ≤ it p m x
        · exact ⟨i, by omega, fun j hj => by
            by_cases e : j = m
            · subst e; exact hc
            · exact hle j (by omega)⟩
        · exact ⟨m, by omega, fun j hj => by
            by_cases e : j = m
            · subst e; exact Nat.le_refl _
            · have := hle j (by omega); omega⟩
  obtain ⟨i, hi, hle⟩ := hmin (per p x) h1 (Nat.le_refl _)
  have hpc := per_it h hx i
  refine ⟨it p i x, per p x - i - (if i = 0 then per p x else 0), it_lt h hx i, ?_, ?_, ?_⟩
  · unfold st
    rw [List.all_eq_true]
    intro k hk
    rw [List.mem_range, hpc] at hk
    rw [decide_eq_true_eq, ← it_add, it_mod h hx (k + i)]
    exact hle _ (Nat.mod_lt _ (by omega))
  · rw [hpc]; split <;> omega
  · by_cases e : i = 0
    · subst e; simp [it]
    · rw [if_neg e, ← it_add, show per p x - i - 0 + i = per p x from by omega, h3]

theorem mem_cycs_per {p : List Int} (h : IsP p) : ordL p = lcmL ((cycs p).map List.length) := by
  have hl : (cycs p).map List.length = ((List.range p.length).filter (st p)).map (per p) := by
    unfold cycs; rw [List.map_map]; congr 1; funext x; simp [cyc_length]
  rw [hl]
  apply Nat.dvd_antisymm
  · refine lcmL_dvd fun a ha => ?_
    rw [List.mem_map] at ha
    obtain ⟨x, hx, rfl⟩ := ha
    rw [List.mem_range] at hx
    obtain ⟨c, j, hc, hst, hj, e⟩ := min_ex h hx
    rw [← e, per_it h hc]
    exact dvd_lcmL (List.mem_map.2 ⟨c, List.mem_filter.2 ⟨List.mem_range.2 hc, hst⟩, rfl⟩)
  · refine lcmL_dvd fun a ha => ?_
    rw [List.mem_map] at ha
    obtain ⟨x, hx, rfl⟩ := ha
    exact dvd_lcmL (List.mem_map.2 ⟨x, (List.mem_filter.1 hx).1, rfl⟩)

end Go.Proofs.YtkjokchhffjidaaGreatDoor

/- Plain facts on texts: numbers in decimal, joined by a sign, and how they are read again. No Go in it. No condition. -/
namespace Go.Proofs.YtkjokchhffjidaaGreatDoor

/-- The decimal digits of a number below 100. -/
def dig (x : Nat) : List UInt8 := if x < 10 then [UInt8.ofNat (48 + x)] else [UInt8.ofNat (48 + x / 10), UInt8.ofNat (48 + x % 10)]
def isD (b : UInt8) : Bool := decide (48 ≤ b.toNat) && decide (b.toNat ≤ 57)
def dval (l : List UInt8) : Nat := l.foldl (fun a b => 10 * a + (b.toNat - 48)) 0
/-- Not empty, at most nine signs, no 0 ahead of others. -/
def okD (l : List UInt8) : Bool := decide (1 ≤ l.length) && decide (l.length ≤ 9) && !(l.head? == some 48 && decide (1 < l.length))
def pD (l : List UInt8) : Option Nat := if okD l = true then some (dval l) else none
def pW (l : List UInt8) : Option Nat := if l.all isD = true then pD l else none

theorem dval_snoc (l : List UInt8) (b : UInt8) : dval (l ++ [b]) = 10 * dval l + (b.toNat - 48) := by simp [dval]
theorem dval_lt (l : List UInt8) (h : l.all isD = true) : dval l < 10 ^ l.length := by
  have : ∀ r : List UInt8, r.all isD = true → dval r.reverse < 10 ^ r.length := by
    intro r
    induction r with
    | nil => intro _; decide
    | cons b t ih =>
      intro hr
      rw [List.all_cons, Bool.and_eq_true] at hr
      have h1 := ih hr.2
      have h2 : b.toNat ≤ 57 := by have := hr.1; unfold isD at this; simp at this; omega
      rw [List.reverse_cons, dval_snoc, List.length_cons, Nat.pow_succ]
      omega
  have h2 := this l.reverse (by rw [List.all_reverse]; exact h)
  rw [List.reverse_reverse, List.length_reverse] at h2
  exact h2
theorem dig_facts : ∀ x, x < 20 → (dig x).all isD = true ∧ okD (dig x) = true ∧ dval (dig x) = x ∧ 1 ≤ (dig x).length ∧ (dig x).length ≤ 2 ∧ dig x ≠ [] := by decide

/-- Joined, with the sign b between. -/
def jn (b : UInt8) : List (List UInt8) → List UInt8
  | [] => []
  | [w] => w
  | w :: v :: r => w ++ b :: jn b (v :: r)
theorem jn_cons (b : UInt8) (w : List UInt8) {r : List (List UInt8)} (h : r ≠ []) : jn b (w :: r) = w ++ b :: jn b r := by
  cases r with
  | nil => exact absurd rfl h
  | cons v r => rfl
theorem jn_snoc (b : UInt8) (ws : List (List UInt8)) (w : List UInt8) (h : ws ≠ []) : jn b (ws ++ [w]) = jn b ws ++ b :: w := by
  induction ws with
  | nil => exact absurd rfl h
  | cons v r ih =>
    by_cases e : r = []
    · subst e; rfl
    · rw [List.cons_append, jn_cons b v (by simp), ih e, jn_cons b v e]; simp

/-- The pieces between the signs b. -/
def splitB (b : UInt8) : List UInt8 → List (List UInt8)
  | [] => [[]]
  | x :: r => if x = b then [] :: splitB b r else (x :: (splitB b r).headD []) :: (splitB b r).tail
theorem splitB_ne (b : UInt8) (l : List UInt8) : splitB b l ≠ [] := by
  cases l with
  | nil => simp [splitB]
  | cons x r => unfold splitB; split <;> simp
theorem splitB_word (b : UInt8) (w : List UInt8) (h : ∀ x ∈ w, x ≠ b) : splitB b w = [w] := by
  induction w with
  | nil => rfl
  | cons x r ih =>
    have := ih fun y hy => h y (by simp [hy])
    rw [splitB, if_neg (h x (by simp)), this]; rfl
theorem splitB_sep (b : UInt8) (w r : List UInt8) (h : ∀ x ∈ w, x ≠ b) : splitB b (w ++ b :: r) = w :: splitB b r := by
  induction w with
  | nil => simp [splitB]
  | cons x t ih =>
    have := ih fun y hy => h y (by simp [hy])
    rw [List.cons_append, splitB, if_neg (h x (by simp)), this]; rfl
theorem splitB_jn (b : UInt8) (ws : List (List UInt8)) (hne : ws ≠ []) (h : ∀ w ∈ ws, ∀ x ∈ w, x ≠ b) : splitB b (jn b ws) = ws := by
  induction ws with
  | nil => exact absurd rfl hne
  | cons w r ih =>
    by_cases e : r = []
    · subst e; exact splitB_word b w (h w (by simp))
    · rw [jn_cons b w e, splitB_sep b w _ (h w (by simp)), ih e fun v hv => h v (by simp [hv])]
theorem splitB_length (b : UInt8) (l : List UInt8) : (splitB b l).length ≤ l.length + 1 := by
  induction l with
  | nil => simp [splitB]
  | cons x r ih =>
    have h1 : 1 ≤ (splitB b r).length := by
      have := splitB_ne b r
      cases e : splitB b r with
      | nil => exact absurd e this
      | cons => simp
    unfold splitB
    split
    · simp; omega
    · simp; omega

/-- Numbers with single blanks between, from the head of a text: the numbers and what is left. -/
def numsP (l : List UInt8) : Option (List Nat × List UInt8) :=
  match pD (l.takeWhile isD) with
  | none => none
  | some x =>
    if h : (l.dropWhile isD).head? = some 32 then (numsP (l.dropWhile isD).tail).map fun y => (x :: y.1, y.2)
    else some ([x], l.dropWhile isD)
termination_by l.length
decreasing_by
  have h1 : (l.dropWhile isD).length ≤ l.length := (List.dropWhile_sublist _).length_le
  cases e : l.dropWhile isD with
  | nil => rw [e] at h; cases h
  | cons a t => rw [e] at h1; simp at h1 ⊢; omega

theorem numsP_none {l : List UInt8} (h : pD (l.takeWhile isD) = none) : numsP l = none := by rw [numsP, h]
theorem numsP_last {l : List UInt8} {x : Nat} (h : pD (l.takeWhile isD) = some x) (h2 : (l.dropWhile isD).head? ≠ some 32) : numsP l = some ([x], l.dropWhile isD) := by
  rw [numsP, h]; simp only [dif_neg h2]
theorem numsP_more {l : List UInt8} {x : Nat} (h : pD (l.takeWhile isD) = some x) (h2 : (l.dropWhile isD).head? = some 32) : numsP l = (numsP (l.dropWhile isD).tail).map fun y => (x :: y.1, y.2) := by
  rw [numsP, h]; simp only [dif_pos h2]

theorem takeWhile_app {w r : List UInt8} (h : w.all isD = true) (hr : ∀ b, r.head? = some b → isD b = false) : (w ++ r).takeWhile isD = w ∧ (w ++ r).dropWhile isD = r := by
  induction w with
  | nil =>
    cases r with
    | nil => exact ⟨rfl, rfl⟩
    | cons a t => have := hr a rfl; simp [this]
  | cons a t ih =>
    rw [List.all_cons, Bool.and_eq_true] at h
    have := ih h.2
    simp [h.1, this]

/-- Points in decimal, blanks between. -/
def fmtI (l : List Int) : List UInt8 := jn 32 (l.map fun x => dig x.toNat)
def Pts (l : List Int) : Prop := ∀ x ∈ l, 0 ≤ x ∧ x < 20
theorem Pts.tail {x : Int} {l : List Int} (h : Pts (x :: l)) : Pts l := fun y hy => h y (by simp [hy])
theorem fmtI_cons (x : Int) {l : List Int} (h : l ≠ []) : fmtI (x :: l) = dig x.toNat ++ 32 :: fmtI l := by
  unfold fmtI; rw [List.map_cons, jn_cons 32 _ (by simpa using h)]
theorem numsP_fmt : ∀ (l : List Int) (r : List UInt8), Pts l → l ≠ [] → (∀ b, r.head? = some b → isD b = false ∧ b ≠ 32) → numsP (fmtI l ++ r) = some (l.map Int.toNat, r) := by
  intro l
  induction l with
  | nil => intro r _ h; exact absurd rfl h
  | cons x t ih =>
    intro r hp _ hr
    have hx := hp x (by simp)
    obtain ⟨d1, d2, d3, d4, d5, d6⟩ := dig_facts x.toNat (by omega)
    by_cases e : t = []
    · subst e
      obtain ⟨t1, t2⟩ := takeWhile_app (w := dig x.toNat) (r := r) d1 fun b hb => (hr b hb).1
      have hpd : pD ((dig x.toNat ++ r).takeWhile isD) = some x.toNat := by rw [t1]; unfold pD; rw [if_pos d2, d3]
      show numsP (dig x.toNat ++ r) = _
      rw [numsP_last hpd (by rw [t2]; intro h; exact (hr _ h).2 rfl), t2]; rfl
    · rw [fmtI_cons x e, List.append_assoc, List.cons_append]
      obtain ⟨t1, t2⟩ := takeWhile_app (w := dig x.toNat) (r := 32 :: (fmtI t ++ r)) d1 fun b hb => by simp at hb; subst hb; decide
      have hpd : pD ((dig x.toNat ++ 32 :: (fmtI t ++ r)).takeWhile isD) = some x.toNat := by rw [t1]; unfold pD; rw [if_pos d2, d3]
      rw [numsP_more hpd (by rw [t2]; rfl), t2]
      show (numsP (fmtI t ++ r)).map _ = _
      rw [ih r hp.tail e hr]; rfl

/-- The model's reading of a list of words. -/
def wordsP (b : UInt8) (l : List UInt8) : Option (List Nat) := (splitB b l).mapM pW
theorem mapM_cons_ {α β : Type} (f : α → Option β) (a : α) (l : List α) : (a :: l).mapM f = (f a).bind fun x => (l.mapM f).map (x :: ·) := by
  rw [List.mapM_cons]
  cases f a with
  | none => rfl
  | some x => cases h : l.mapM f <;> simp [h]
theorem not_isD_32 {x : UInt8} (h : isD x = true) : x ≠ 32 := by intro e; subst e; exact absurd h (by decide)
theorem all_isD_ne {w : List UInt8} (h : w.all isD = true) (b : UInt8) (hb : isD b = false) : ∀ x ∈ w, x ≠ b := fun x hx e => by
  have := List.all_eq_true.1 h x hx
  rw [e, hb] at this; cases this

theorem twdw (l : List UInt8) : l = l.takeWhile isD ++ l.dropWhile isD := (List.takeWhile_append_dropWhile ..).symm
theorem tw_all (l : List UInt8) : (l.takeWhile isD).all isD = true := by
  induction l with
  | nil => rfl
  | cons a t ih =>
    rw [List.takeWhile_cons]
    split
    · rename_i h; rw [List.all_cons, h, ih]; rfl
    · rfl
theorem dw_head (l : List UInt8) : ∀ b, (l.dropWhile isD).head? = some b → isD b = false := by
  induction l with
  | nil => intro b h; cases h
  | cons a t ih =>
    intro b h
    rw [List.dropWhile_cons] at h
    split at h
    · exact ih b h
    · rename_i h2; simp at h; subst h; simpa using h2

/-- A text read as numbers to its end: the two ways agree. -/
theorem nums_words : ∀ (n : Nat) (l : List UInt8), l.length ≤ n → (match numsP l with | some (xs, []) => some xs | _ => none) = wordsP 32 l := by
  intro n
  induction n with
  | zero =>
    intro l hl
    obtain rfl : l = [] := List.eq_nil_of_length_eq_zero (by omega)
    rw [numsP_none (by decide)]; rfl
  | succ n ih =>
    intro l hl
    have e0 := twdw l
    have ha := tw_all l
    have hh := dw_head l
    have hw := all_isD_ne ha 32 (by decide)
    unfold wordsP
    rcases hr : l.dropWhile isD with _ | ⟨c, r⟩
    · have el : l = l.takeWhile isD := by rw [hr, List.append_nil] at e0; exact e0
      have es : splitB 32 l = [l.takeWhile isD] := by
        conv => lhs; rw [el]
        exact splitB_word 32 _ hw
      rw [es, mapM_cons_]
      have hp : pW (l.takeWhile isD) = pD (l.takeWhile isD) := if_pos ha
      rw [hp]
      cases hd : pD (l.takeWhile isD) with
      | none => rw [numsP_none hd]; rfl
      | some x => rw [numsP_last hd (by rw [hr]; simp), hr]; rfl
    · have hc := hh c (by rw [hr]; rfl)
      by_cases h32 : c = 32
      · subst h32
        have es : splitB 32 l = l.takeWhile isD :: splitB 32 r := by
          conv => lhs; rw [e0, hr]
          exact splitB_sep 32 _ r hw
        rw [es, mapM_cons_]
        have hp : pW (l.takeWhile isD) = pD (l.takeWhile isD) := if_pos ha
        rw [hp]
        have hlen : r.length ≤ n := by
          have h1 : (l.dropWhile isD).length ≤ l.length := (List.dropWhile_sublist _).length_le
          rw [hr] at h1; simp at h1; omega
        have hi := ih r hlen
        unfold wordsP at hi
        cases hd : pD (l.takeWhile isD) with
        | none => rw [numsP_none hd]; rfl
        | some x =>
          rw [numsP_more hd (by rw [hr]; rfl), hr]
          show (match (numsP r).map (fun y => (x :: y.1, y.2)) with | some (xs, []) => some xs | _ => none) = ((splitB 32 r).mapM pW).map (x :: ·)
          rw [← hi]
          rcases numsP r with _ | ⟨xs, _ | ⟨a, t⟩⟩ <;> rfl
      · have hn : (match numsP l with | some (xs, []) => some xs | _ => none) = (none : Option (List Nat)) := by
          cases hd : pD (l.takeWhile isD) with
          | none => rw [numsP_none hd]
          | some x => rw [numsP_last hd (by rw [hr]; simpa using h32), hr]
        rw [hn]
        have hs : ∃ t ts, splitB 32 l = (l.takeWhile isD ++ c :: t) :: ts := by
          rw [e0, hr]
          have : ∀ w : List UInt8, (∀ x ∈ w, x ≠ 32) → ∃ t ts, splitB 32 (w ++ c :: r) = (w ++ c :: t) :: ts := by
            intro w
            induction w with
            | nil => intro _; exact ⟨(splitB 32 r).headD [], (splitB 32 r).tail, by rw [List.nil_append, splitB, if_neg h32]; rfl⟩
            | cons a w ihw =>
              intro h
              obtain ⟨t, ts, e⟩ := ihw fun x hx => h x (by simp [hx])
              exact ⟨t, ts, by rw [List.cons_append, splitB, if_neg (h a (by simp)), e]; rfl⟩
          have := this _ hw
          rw [← hr, ← e0] at this ⊢
          exact this
        obtain ⟨t, ts, es⟩ := hs
        rw [es, mapM_cons_]
        have hpw : pW (l.takeWhile isD ++ c :: t) = none := by
          unfold pW
          rw [if_neg]
          rw [List.all_append, List.all_cons, hc]; simp
        rw [hpw]; rfl

theorem wordsP_fmt {l : List Int} (h : Pts l) (hne : l ≠ []) : wordsP 32 (fmtI l) = some (l.map Int.toNat) := by
  rw [← nums_words _ _ (Nat.le_refl _)]
  have := numsP_fmt l [] h hne (by simp)
  rw [List.append_nil] at this
  rw [this]
end Go.Proofs.YtkjokchhffjidaaGreatDoor

/- Words for the walks of this seat: a slice of int64 that reads as a list; a row of the call's own; how both are kept. No condition. -/
namespace Go.Proofs.YtkjokchhffjidaaGreatDoor
open Go.RowKit

/-- The slice at A reads as the numbers xs, in blocks below B. -/
def RI (w : World) (B : Nat) (A : Option Addr) (xs : List Int) : Prop :=
  0 < xs.length → ∃ b off, A = some ⟨b, off, none⟩ ∧ b < B ∧ ∀ j, j < xs.length → w.cell? ⟨b, off + j, none⟩ = some (.int .i64 (xs.getD j 0))

section
variable {w w' : World} {B B' : Nat} {A : Option Addr} {xs : List Int}
theorem RI.nil_ : RI w B A [] := fun h => absurd h (by simp)
theorem RI.keep (h : RI w B A xs) (hk : ∀ p : Addr, p.block < B → w'.cell? p = w.cell? p) : RI w' B A xs := fun hn => by
  obtain ⟨b, off, e, hb, hc⟩ := h hn
  exact ⟨b, off, e, hb, fun j hj => (hk ⟨b, off + j, none⟩ hb).trans (hc j hj)⟩
theorem RI.more (h : RI w B A xs) (hB : B ≤ B') : RI w B' A xs := fun hn => by
  obtain ⟨b, off, e, hb, hc⟩ := h hn
  exact ⟨b, off, e, by omega, hc⟩
theorem RI.below (h : RI w B A xs) {B' : Nat} (hb : Below B' w w') (hB : B ≤ B') : RI w' B A xs := h.keep fun _ hp => hb.cell (by omega)
theorem RI.drew (h : RI w B A xs) : RI w.drew B A xs := h
theorem RI.drewN (h : RI w B A xs) (k : Nat) : RI (w.drewN k) B A xs := h
theorem RI.alloc (h : RI w B A xs) (hB : B ≤ w.heap.size) (o : Obj) : RI (w.alloc o) B A xs := h.keep fun p hp => World.cell?_alloc_lt w o p (by omega)
theorem RI.setCell (h : RI w B A xs) {p : Addr} (hB : B ≤ p.block) (u : Value) : RI (w.setCell p u) B A xs :=
  h.keep fun q hq => World.cell?_setCell_other w p q u (fun e => by subst e; omega)
theorem RI.grown (h : RI w B A xs) {row : Option Nat} (hg : w.grownBy w' row) (hB : B ≤ w.heap.size) (hr : ∀ g, row = some g → B ≤ g) : RI w' B A xs :=
  h.keep fun p hp => World.cell?_of_block (hg.block p.block (by omega) (fun e => by have := hr _ e.symm; omega))
end

/-- v is a row of the call's own, from block base on, that holds the numbers xs. -/
def Own (w : World) (base : Nat) (v : Value) (xs : List Int) : Prop := w.ownsRow base 2 1 v xs.length (xs.map (Value.int .i64))

section
variable {w w' : World} {base B : Nat} {v : Value} {xs : List Int}
/-- The value written out: its address, its capacity; it reads as xs. -/
theorem Own.form (h : Own w base v xs) : ∃ A c, v = .slice A xs.length c ∧ RI w w.heap.size A xs ∧ (∀ b off, A = some ⟨b, off, none⟩ → base ≤ b ∧ b < w.heap.size ∧ off = 0) ∧ (A = none → xs = [] ∧ c = 0) ∧ xs.length ≤ maxLen := by
  rcases h.2 with ⟨rfl, h0⟩ | ⟨g, cap, cur, rfl, hb, hg, hn, hm, hcs, htake⟩
  · obtain rfl : xs = [] := List.eq_nil_of_length_eq_zero h0
    exact ⟨none, 0, rfl, RI.nil_, fun _ _ e => (nomatch e), fun _ => ⟨rfl, rfl⟩, Nat.zero_le _⟩
  · have hlt : g < w.heap.size := (Array.getElem?_eq_some_iff.1 hg).1
    refine ⟨some ⟨g, 0, none⟩, cap, rfl, fun _ => ⟨g, 0, rfl, hlt, fun j hj => ?_⟩, fun b off e => (by injection e with e; injection e with e1 e2; subst e1; subst e2; exact ⟨hb, hlt, rfl⟩), fun e => (nomatch e), Nat.le_trans hn hm⟩
    have := h.cells (g := g) rfl j (.int .i64 (xs.getD j 0)) (by rw [List.getElem?_map, List.getD_eq_getElem?_getD, List.getElem?_eq_getElem hj]; rfl)
    rw [← this]
    unfold Addr.add
    split <;> simp_all
theorem Own.kept (h : Own w base v xs) {row : Option Nat} (hg : w.grownBy w' row) (hne : v.ownBlock = none ∨ v.ownBlock ≠ row) : Own w' base v xs := World.ownsRow.kept h hg hne
theorem Own.alloc (h : Own w base v xs) (o : Obj) : Own (w.alloc o) base v xs := World.ownsRow.alloc h o
theorem Own.below (h : Own w base v xs) (hb : Below B w w') (hv : ∀ k, v.ownBlock = some k → k < B) : Own w' base v xs := by
  refine ⟨h.1, ?_⟩
  rcases h.2 with hn | ⟨g, cap, cur, rfl, hb', hg, rest⟩
  · exact .inl hn
  · exact .inr ⟨g, cap, cur, rfl, hb', by rw [hb.block g (hv g rfl)]; exact hg, rest⟩
theorem Own.drewN (h : Own w base v xs) (n : Nat) : Own (w.drewN n) base v xs := h
theorem Own.mono (h : Own w base v xs) {base' : Nat} (hb : base' ≤ base) : Own w base' v xs := by
  refine ⟨h.1, ?_⟩
  rcases h.2 with hn | ⟨g, cap, cur, rfl, hb', rest⟩
  · exact .inl hn
  · exact .inr ⟨g, cap, cur, rfl, by omega, rest⟩
theorem Own.lt_ (h : Own w base v xs) : ∀ k, v.ownBlock = some k → base ≤ k ∧ k < w.heap.size := World.ownsRow.lt h
end

/-- The slice value '.slice A n c' is a row of the call's own, from block base on; it holds the numbers xs. -/
def Slc (w : World) (base : Nat) (A : Option Addr) (n c : Nat) (xs : List Int) : Prop := xs.length = n ∧ Own w base (.slice A n c) xs
section
variable {w w' : World} {base n c B : Nat} {A : Option Addr} {xs : List Int}
theorem Slc.hid (h : Slc w base A n c xs) : Hid (xs.length = n) := Lib.hid h.1
theorem Slc.of_own {v : Value} (h : Own w base v xs) (hn : xs.length = n) : ∃ A c, v = .slice A n c ∧ Slc w base A n c xs := by
  subst hn
  obtain ⟨A, c, rfl, _⟩ := h.form
  exact ⟨A, c, rfl, rfl, h⟩
theorem Slc.ri (h : Slc w base A n c xs) (hB : w.heap.size ≤ B) : RI w B A xs := by
  obtain ⟨A', c', e, r, _⟩ := h.2.form
  injection e with e1 e2 e3
  subst e1
  exact r.more hB
theorem Slc.le (h : Slc w base A n c xs) : n ≤ c ∧ n ≤ maxLen := by
  rcases h.2.2 with ⟨e, h0⟩ | ⟨g, cap, cur, e, hb, hg, hn, hm, hcs, htake⟩
  · injection e with e1 e2 e3; subst e2; subst e3; exact ⟨Nat.zero_le _, Nat.zero_le _⟩
  · injection e with e1 e2 e3; subst e2; subst e3; exact ⟨hn, Nat.le_trans hn hm⟩
theorem Slc.at_ (h : Slc w base A n c xs) : (A = none ∧ xs = [] ∧ n = 0 ∧ c = 0) ∨ ∃ g, A = some ⟨g, 0, none⟩ ∧ base ≤ g ∧ g < w.heap.size := by
  rcases h.2.2 with ⟨e, h0⟩ | ⟨g, cap, cur, e, hb, hg, hn, hm, hcs, htake⟩
  · injection e with e1 e2 e3; exact .inl ⟨e1, List.eq_nil_of_length_eq_zero h0, e2, e3⟩
  · injection e with e1 e2 e3; exact .inr ⟨g, e1, hb, (Array.getElem?_eq_some_iff.1 hg).1⟩
theorem Slc.lt_ (h : Slc w base A n c xs) : ∀ k, (Value.slice A n c).ownBlock = some k → base ≤ k ∧ k < w.heap.size := h.2.lt_
theorem Slc.kept (h : Slc w base A n c xs) {row : Option Nat} (hg : w.grownBy w' row) (hne : (Value.slice A n c).ownBlock = none ∨ (Value.slice A n c).ownBlock ≠ row) : Slc w' base A n c xs := ⟨h.1, h.2.kept hg hne⟩
theorem Slc.below (h : Slc w base A n c xs) (hb : Below B w w') (hB : w.heap.size ≤ B) : Slc w' base A n c xs := ⟨h.1, h.2.below hb fun k e => by have := (h.lt_ k e).2; omega⟩
theorem Slc.below_lt (h : Slc w base A n c xs) (hb : Below B w w') (hB : ∀ k, (Value.slice A n c).ownBlock = some k → k < B) : Slc w' base A n c xs := ⟨h.1, h.2.below hb hB⟩
theorem Slc.mono (h : Slc w base A n c xs) {base' : Nat} (hb : base' ≤ base) : Slc w base' A n c xs := ⟨h.1, h.2.mono hb⟩
theorem Slc.alloc (h : Slc w base A n c xs) (o : Obj) : Slc (w.alloc o) base A n c xs := ⟨h.1, h.2.alloc o⟩
theorem Slc.drewN (h : Slc w base A n c xs) (k : Nat) : Slc (w.drewN k) base A n c xs := h
theorem Slc.nil_ : Slc w base none 0 0 [] := ⟨rfl, World.ownsRow_nil _ _ _ _⟩
end

/-- What the frame of a proof knows of a slice of int64 that came in, as RI. -/
theorem RI.of_row {w : World} {a : Option Addr} {len cap : Nat} {zs : List Int}
    (h : (a = none ∧ len = 0 ∧ cap = 0 ∧ zs = []) ∨ ∃ x, a = some x ∧ len ≤ cap ∧ cap ≤ maxLen ∧ zs.length = cap ∧ (∀ i, i < zs.length → w.cell? (x.add i) = some (.int .i64 (zs.getD i 0))) ∧ ∀ n ∈ zs, (Lit.int .i64 n).wf = true) :
    ∃ xs : List Int, Hid (xs.length = len) ∧ RI w w.heap.size a xs := by
  rcases h with ⟨rfl, rfl, rfl, rfl⟩ | ⟨⟨b, off, spot⟩, rfl, hl, hm, hz, hc, hw⟩
  · exact ⟨[], Lib.hid rfl, RI.nil_⟩
  · refine ⟨zs.take len, Lib.hid (by rw [List.length_take]; omega), fun hp => ?_⟩
    rw [List.length_take] at hp
    have h0 := hc 0 (by omega)
    have hspot : spot = none := by simpa [Addr.add] using World.cell?_spot h0
    subst hspot
    refine ⟨b, off, rfl, ?_, fun j hj => ?_⟩
    · have := World.block_lt_of_cell? w _ h0
      simpa [Addr.add] using this
    · rw [List.length_take] at hj
      rw [List.getD_eq_getElem?_getD, List.getElem?_take, if_pos (by omega), ← List.getD_eq_getElem?_getD, ← hc j (by omega)]
      unfold Addr.add
      split <;> simp_all

/-- A row at the head of block g, of length n, that holds the numbers xs. -/
def Row (w : World) (base g n c : Nat) (xs : List Int) : Prop := xs.length = n ∧ w.ownsRow base 2 1 (.slice (some ⟨g, 0, none⟩) n c) n (xs.map (Value.int .i64))
section
variable {w w' : World} {base g n c B : Nat} {xs : List Int}
theorem Row.own (h : Row w base g n c xs) : Own w base (.slice (some ⟨g, 0, none⟩) n c) xs := by
  obtain ⟨rfl, h⟩ := h; exact h
theorem Row.slc (h : Row w base g n c xs) : Slc w base (some ⟨g, 0, none⟩) n c xs := ⟨h.1, by obtain ⟨rfl, h⟩ := h; exact h⟩
theorem Row.of_own (h : Own w base (.slice (some ⟨g, 0, none⟩) n c) xs) : Row w base g n c xs := by
  obtain ⟨A, c', e, _⟩ := h.form
  injection e with _ e1
  subst e1
  exact ⟨rfl, h⟩
theorem Row.cell (h : Row w base g n c xs) {j : Nat} (hj : j < n) : w.cell? ⟨g, j, none⟩ = some (.int .i64 (xs.getD j 0)) := by
  have hl := h.1
  rw [h.2.cellAt j (by omega), List.getElem?_map, List.getD_eq_getElem?_getD, List.getElem?_eq_getElem (by omega)]; rfl
theorem Row.free (h : Row w base g n c xs) (j : Nat) : w.frozen? ⟨g, j, none⟩ = false := h.2.frozenAt j
theorem Row.store (h : Row w base g n c xs) (j : Nat) (u : Int) : Row (w.setCell ⟨g, j, none⟩ (.int .i64 u)) base g n c (xs.set j u) := by
  refine ⟨by rw [List.length_set]; exact h.1, ?_⟩
  rw [List.map_set]
  exact (h.2.stored j _).1
theorem Row.lt_ (h : Row w base g n c xs) : base ≤ g ∧ g < w.heap.size := World.ownsRow.lt h.2 g rfl
theorem Row.ri (h : Row w base g n c xs) (hB : g < B) : RI w B (some ⟨g, 0, none⟩) xs := fun _ => ⟨g, 0, rfl, hB, fun j hj => by rw [Nat.zero_add]; exact h.cell (by have := h.1; omega)⟩
theorem Row.kept (h : Row w base g n c xs) {row : Option Nat} (hg : w.grownBy w' row) (hne : some g ≠ row) : Row w' base g n c xs := ⟨h.1, World.ownsRow.kept h.2 hg (.inr hne)⟩
theorem Row.alloc (h : Row w base g n c xs) (o : Obj) : Row (w.alloc o) base g n c xs := ⟨h.1, World.ownsRow.alloc h.2 o⟩
theorem Row.drew (h : Row w base g n c xs) : Row w.drew base g n c xs := h
theorem Row.drewN (h : Row w base g n c xs) (k : Nat) : Row (w.drewN k) base g n c xs := h
theorem Row.below (h : Row w base g n c xs) (hb : Below B w w') (hg : g < B) : Row w' base g n c xs :=
  Row.of_own (h.own.below hb fun k e => by simp [Value.ownBlock] at e; omega)
theorem Row.mono (h : Row w base g n c xs) {base' : Nat} (hb : base' ≤ base) : Row w base' g n c xs := ⟨h.1, (Own.mono h.own hb).1.trans (by rw [h.1]), by have := (Own.mono h.own hb).2; rw [h.1] at this; exact this⟩
theorem Row.made (h : w.ownsRow base 2 1 (.slice (some ⟨g, 0, none⟩) n c) n (madeCells (Value.int .i64 0).cells (n * 1)).toList) : Row w base g n c (List.replicate n 0) := by
  refine ⟨by simp, ?_⟩
  have e : (madeCells (Value.int .i64 0).cells (n * 1)).toList = (List.replicate n (0 : Int)).map (Value.int .i64) := by
    show (madeCells #[Value.int .i64 0] (n * 1)).toList = _
    rw [toList_madeCells_one]; simp
  rw [← e]; exact h
end

/-- Where a slice's block may lie: from lo on, below hi. -/
def Lies (A : Option Addr) (n c lo hi : Nat) : Prop := ∀ k, (Value.slice A n c).ownBlock = some k → lo ≤ k ∧ k < hi
theorem Slc.lies {w : World} {base n c : Nat} {A : Option Addr} {xs : List Int} (h : Slc w base A n c xs) : Lies A n c base w.heap.size := h.lt_
theorem Lies.apart {A A' : Option Addr} {n c n' c' lo hi lo' hi' : Nat} (h : Lies A n c lo hi) (h' : Lies A' n' c' lo' hi') (hb : hi ≤ lo' ∨ hi' ≤ lo) :
    (Value.slice A n c).ownBlock = none ∨ (Value.slice A n c).ownBlock ≠ (Value.slice A' n' c').ownBlock := by
  rcases e : (Value.slice A n c).ownBlock with _ | k
  · exact .inl rfl
  · right
    intro e'
    have := h k e
    have := h' k e'.symm
    omega
theorem Slc.far {w w' : World} {base n c lo hi n' c' lo' hi' : Nat} {A A' : Option Addr} {xs : List Int} (h : Slc w base A n c xs) (hg : w.grownBy w' (Value.slice A' n' c').ownBlock)
    (l : Lies A n c lo hi) (l' : Lies A' n' c' lo' hi') (hb : hi ≤ lo' ∨ hi' ≤ lo) : Slc w' base A n c xs := h.kept hg (l.apart l' hb)
theorem below_mark {B : Nat} {w w' : World} {n c lo hi : Nat} {A : Option Addr} (hg : w.grownBy w' (Value.slice A n c).ownBlock) (l : Lies A n c lo hi) (hB : B ≤ lo) (hw : B ≤ w.heap.size) : Below B w w' :=
  (Below.refl B w).grown hg hw (fun k e => by have := l k e; omega)

/-- Block g is just the cells cs of type t, none frozen. -/
def Blk (w : World) (g : Nat) (t : TypeId) (cs : Array Value) : Prop := w.heap[g]? = some (.cells cs t (0, 0))
section
variable {w w' : World} {g : Nat} {t : TypeId} {cs : Array Value}
theorem Blk.lt (h : Blk w g t cs) : g < w.heap.size := by
  rcases Nat.lt_or_ge g w.heap.size with hlt | hge
  · exact hlt
  · unfold Blk at h; rw [Array.getElem?_eq_none hge] at h; cases h
theorem Blk.cell (h : Blk w g t cs) (i : Nat) : w.cell? ⟨g, i, none⟩ = cs[i]? := cell_of_row w g i cs t (0, 0) h
theorem Blk.frozen (h : Blk w g t cs) (i : Nat) : w.frozen? ⟨g, i, none⟩ = false := by
  unfold Blk at h
  simp [World.frozen?, h]
theorem Blk.new (w : World) (t : TypeId) (cs : Array Value) : Blk (w.alloc (.cells cs t)) w.heap.size t cs := heap_alloc_new w _
theorem Blk.drewN (h : Blk w g t cs) (n : Nat) : Blk (w.drewN n) g t cs := h
theorem Blk.alloc (h : Blk w g t cs) (o : Obj) : Blk (w.alloc o) g t cs := (Below.heap_alloc w o g h.lt).trans h
theorem Blk.set_ (h : Blk w g t cs) (i : Nat) (u : Value) : Blk (w.setCell ⟨g, i, none⟩ u) g t (cs.setIfInBounds i u) := by
  unfold Blk at h ⊢
  simp [World.setCell, Array.getElem?_modify, h]
theorem Blk.far (h : Blk w g t cs) {p : Addr} (hp : g ≠ p.block) (u : Value) : Blk (w.setCell p u) g t cs := (Below.heap_setCell w p u g hp).trans h
theorem Blk.below {B : Nat} (h : Blk w g t cs) (hb : Below B w w') (hg : g < B) : Blk w' g t cs := (hb.block g hg).trans h
theorem Blk.grown {row : Option Nat} (h : Blk w g t cs) (hb : w.grownBy w' row) (hg : some g ≠ row) : Blk w' g t cs := (hb.block g h.lt hg).trans h
end

theorem quiet_add {P : Program} {f : FuncId} {args : Array Value} {w : World} {a n : Nat} {v : Value}
    (h : Calls P f args (w.drewN (a + n)) fun e w' => e = .returned v ∧ ∃ m, w' = (w.drewN (a + n)).drewN m) :
    Calls P f args (w.drewN (a + n)) fun e w'' => e = .returned v ∧ ∃ m, w'' = w.drewN (a + m) :=
  h.mono fun _ _ ⟨he, m, hm⟩ => ⟨he, n + m, by rw [hm, World.drewN_drewN, Nat.add_assoc]⟩
theorem quiet_add_left {P : Program} {f : FuncId} {args : Array Value} {w : World} {a n : Nat} {v : Value}
    (h : Calls P f args (w.drewN (a + n)) fun e w' => e = .returned v ∧ w.drewN (a + n) = w') :
    Calls P f args (w.drewN (a + n)) fun e w'' => e = .returned v ∧ ∃ m, w'' = w.drewN (a + m) :=
  h.mono fun _ _ ⟨he, hm⟩ => ⟨he, n, hm.symm⟩
theorem quiet_left {P : Program} {f : FuncId} {args : Array Value} {w : World} {n : Nat} {v : Value}
    (h : Calls P f args (w.drewN n) fun e w' => e = .returned v ∧ w.drewN n = w') : Calls P f args (w.drewN n) fun e w'' => e = .returned v ∧ ∃ m, w'' = w.drewN m :=
  h.mono fun _ _ ⟨he, hm⟩ => ⟨he, n, hm.symm⟩
theorem btr {a b c : World} (h : Below a.heap.size a b) (k : Below b.heap.size b c) : Below a.heap.size a c := h.trans (k.mono h.size)
theorem quiet_below {P : Program} {f : FuncId} {args : Array Value} {w : World} {e0 : Ending}
    (h : Calls P f args w fun e w' => e = e0 ∧ ∃ m, w' = w.drewN m) : Calls P f args w fun e w' => e = e0 ∧ Below w.heap.size w w' :=
  h.mono fun _ _ ⟨he, m, hm⟩ => ⟨he, by rw [hm]; exact ⟨rfl, rfl, rfl, Nat.le_refl _, fun _ _ => rfl⟩⟩
/-- What came in still reads so behind the call. -/
theorem RI.up {w w' : World} {A : Option Addr} {xs : List Int} (h : RI w w.heap.size A xs) (hb : Below w.heap.size w w') : RI w' w'.heap.size A xs := (h.below hb (Nat.le_refl _)).more hb.size
theorem Slc.up {w w' : World} {base n c : Nat} {A : Option Addr} {xs : List Int} (h : Slc w base A n c xs) (hb : Below w.heap.size w w') : Slc w' base A n c xs := h.below hb (Nat.le_refl _)
theorem Slc.ri_ {w : World} {base n c : Nat} {A : Option Addr} {xs : List Int} (h : Slc w base A n c xs) : RI w w.heap.size A xs := h.ri (Nat.le_refl _)
theorem infoI : (Tryz.prog.info? 2).map (fun i => (i.zero, i.size, i.bytes)) = some (some (.int .i64 0), 1, 8) := by kernel_rfl

/-- append of one number onto a slice of the call's own. -/
theorem wpList_app1 {w : World} {ops : Array Oper} {rest : List Oper} {o : Oper} {a : Act} {Q : Exit → Act → World → Prop} (hgd : o.guard = none) (s x : Operand)
    (ho : o.op = .call { callee := .builtin .append, args := #[s, x], argTypes := #[48, 48] })
    (base : Nat) (A : Option Addr) (n c : Nat) (xs : List Int) (hs : a.eval s = .slice A n c) (hown : Slc w base A n c xs) (g : Nat) (u : Int) (hx : a.eval x = .slice (some ⟨g, 0, none⟩) 1 1)
    (hcell : w.cell? ⟨g, 0, none⟩ = some (.int .i64 u)) (hn : n ≤ 1000000000000) (hbase : base ≤ w.heap.size)
    (h : ∀ A' c' w', Slc w' base A' (n + 1) c' (xs ++ [u]) → w.grownBy w' (Value.slice A n c).ownBlock → wpList Tryz.prog ops Q rest (a.put o.dst (.slice A' (n + 1) c')) w') : wpList Tryz.prog ops Q (o :: rest) a w := by
  obtain ⟨i0, hi, hz0, hz1, hz2⟩ := info_parts infoI
  obtain ⟨hl, ho'⟩ := hown
  subst hl
  refine wpList_append_own w hgd s x 48 ho base 2 i0 (.int .i64 0) 1 8 Tryz.underlying48 hi hz0 hz1 hz2 rfl (by decide) _ xs.length _ hs ho' ⟨g, 0, none⟩ 1 1 [.int .i64 u] hx rfl ?_ ?_ ?_ (by omega) hbase ?_
  · intro j v hj
    match j, hj with
    | 0, hj => simp at hj; subst hj; simpa [Addr.add] using hcell
    | j + 1, hj => simp at hj
  · intro v hv; simp at hv; subst hv; rfl
  · unfold maxLen; omega
  · intro v' w' hown' hg _
    have hO : Own w' base v' (xs ++ [u]) := by
      unfold Own
      rw [List.length_append, List.map_append]
      exact hown'
    obtain ⟨A', c', rfl, hS⟩ := Slc.of_own (n := xs.length + 1) hO (by simp)
    exact h A' c' w' hS hg

def marks (k n : Nat) : List Int := (List.range n).map fun i => ((k + i : Nat) : Int)
theorem marks_length (k n : Nat) : (marks k n).length = n := by simp [marks]
theorem marks_getD {k n j : Nat} (h : j < n) : (marks k n).getD j 0 = ((k + j : Nat) : Int) := by
  rw [List.getD_eq_getElem?_getD, List.getElem?_eq_getElem (by simp [marks, h])]; simp [marks]
theorem ext_getD {xs ys : List Int} {n : Nat} (hx : xs.length = n) (hy : ys.length = n) (h : ∀ j, j < n → xs.getD j 0 = ys.getD j 0) : xs = ys := by
  apply List.ext_getElem (by omega)
  intro i h1 h2
  have := h i (by omega)
  simp only [List.getD_eq_getElem?_getD, List.getElem?_eq_getElem h1, List.getElem?_eq_getElem h2, Option.getD_some] at this
  exact this
theorem set_getD {xs : List Int} {n i j : Nat} (hl : xs.length = n) (hj : j < n) (u : Int) : (xs.set i u).getD j 0 = if i = j then u else xs.getD j 0 := by
  rw [List.getD_eq_getElem?_getD, List.getElem?_set]
  by_cases e : i = j
  · subst e; rw [if_pos rfl, if_pos (by omega), if_pos rfl]; rfl
  · rw [if_neg e, if_neg e, ← List.getD_eq_getElem?_getD]
theorem grown_refl (w : World) (row : Option Nat) : w.grownBy w row := ⟨rfl, rfl, rfl, Nat.le_refl _, fun _ _ _ => rfl⟩
theorem grown_set {a w : World} {g : Nat} (h : a.grownBy w (some g)) (j : Nat) (u : Value) : a.grownBy (w.setCell ⟨g, j, none⟩ u) (some g) :=
  ⟨h.os, h.tape, h.output, by simpa [World.setCell] using h.size, fun i hi hne => (Below.heap_setCell w ⟨g, j, none⟩ u i (fun e => hne (by rw [e]))).trans (h.block i hi hne)⟩
theorem grown_drewN {a w : World} {row : Option Nat} (h : a.grownBy w row) (n : Nat) : a.grownBy (w.drewN n) row := ⟨h.os, h.tape, h.output, h.size, h.block⟩
theorem below_of_grown {B : Nat} {w w' : World} {row : Option Nat} (h : w.grownBy w' row) (hB : B ≤ w.heap.size) (hr : ∀ k, row = some k → B ≤ k) : Below B w w' := (Below.refl B w).grown h hB hr

/-- '[]int64{}': a new empty row. -/
theorem Slc.lit0 (w : World) (base : Nat) (hb : base ≤ w.heap.size) : Slc (w.alloc (.cells #[] 2)) base (some ⟨w.heap.size, 0, none⟩) 0 0 [] :=
  ⟨rfl, World.ownsRow_lit (size := 1) w #[] 0 hb (Nat.zero_le _) rfl⟩
theorem Slc.lit1 (w : World) (base : Nat) (x : Int) (hb : base ≤ w.heap.size) : Slc (w.alloc (.cells #[.int .i64 x] 2)) base (some ⟨w.heap.size, 0, none⟩) 1 1 [x] :=
  ⟨rfl, World.ownsRow_lit (size := 1) w #[.int .i64 x] 1 hb (by unfold maxLen; omega) rfl⟩
theorem getD_eq {xs : List Int} {j : Nat} (hj : j < xs.length) : xs.getD j 0 = xs[j] := by rw [List.getD_eq_getElem?_getD, List.getElem?_eq_getElem hj]; rfl
theorem below_drewN {B : Nat} {a w : World} (h : Below B a w) (n : Nat) : Below B a (w.drewN n) := ⟨h.os, h.tape, h.output, h.size, h.block⟩
theorem below_quiet (w : World) (n : Nat) : Below w.heap.size w (w.drewN n) := ⟨rfl, rfl, rfl, Nat.le_refl _, fun _ _ => rfl⟩
theorem ret_int {k : IntKind} {a b : Int} (h : a = b) : Ending.returned (.int k a) = .returned (.int k b) := by rw [h]
theorem ret_bool {a b : Bool} (h : a = b) : Ending.returned (.bool a) = .returned (.bool b) := by rw [h]
end Go.Proofs.YtkjokchhffjidaaGreatDoor

/- The model's texts of numbers. Condition: points below 20. -/
namespace Go.Proofs.YtkjokchhffjidaaGreatDoor
open Go.RowKit

theorem len_toList0 (s : ByteArray) : s.toList.length = s.size := by rw [ByteArray.toList_eq]; exact Array.length_toList
theorem toList_app (a b : ByteArray) : (a ++ b).toList = a.toList ++ b.toList := by
  simp [ByteArray.toList_eq]

theorem byteT (w : World) (V : Int) : (convert 22 9 (.slice (some ⟨w.heap.size, 0, none⟩) 1 1)).run Tryz.prog (w.alloc (.cells #[.int .u8 V] 5)) = .ok (.string (strOfNums [V])) (w.alloc (.cells #[.int .u8 V] 5)) :=
  run_convert_bytes_arg _ 22 5 Tryz.underlying22 Tryz.underlying5 w.heap.size 0 1 1 [V] rfl (fun i hi => by
    obtain rfl : i = 0 := by omega
    rw [World.cell?_alloc_at _ _ _ _ rfl]; rfl) 9 Tryz.underlying9

theorem specFmtInt (x : Nat) (w : World) (hx : x < 20) :
    Calls Tryz.prog 74 #[.int .i64 (x : Int)] w fun e w' => ∃ t, e = .returned (.string t) ∧ t.toList = dig x ∧ Below w.heap.size w w' := by
  have x0 : decide ((x : Int) < 0) = false := by simp
  go_enter Tryz.func74, Tryz.ntmps74
  go_wp2
  go_loopg [0, 3, 5] 3 (fun gg nv sv _ wr => ((2 ≤ gg ∧ nv = .int .i64 (x : Int) ∧ sv = .string ⟨#[]⟩) ∨ (1 ≤ gg ∧ nv = .int .i64 ((x / 10 : Nat) : Int) ∧ ∃ t, sv = .string t ∧ t.toList = [UInt8.ofNat (48 + x % 10)]) ∨ (10 ≤ x ∧ nv = .int .i64 0 ∧ ∃ t, sv = .string t ∧ t.toList = dig x)) ∧ Below w.heap.size w wr)
  case atStart => exact ⟨.inl ⟨by omega, rfl, rfl⟩, Below.refl _ _⟩
  case round =>
    obtain ⟨⟨hg, rfl, rfl⟩ | ⟨hg, rfl, t, rfl, ht⟩ | ⟨hx10, rfl, t, rfl, ht⟩, bel⟩ := hrel
    · have Bel := Lib.hid bel
      have hcv := byteT wr
      clear bel
      have q0 : (0 : Int) ≤ (x : Int) % 10 := by omega
      have q1 : (x : Int) % 10 ≤ 9 := by omega
      have d0 : decide ((x : Int) % 10 < 0) = false := by simp; omega
      have tl : Hid ((strOfNums [48 + (x : Int) % 10] ++ (⟨#[]⟩ : ByteArray)).toList = [UInt8.ofNat (48 + x % 10)]) := Lib.hid (by
        rw [toList_app, ByteArray.toList_eq, strOfNums_data, ByteArray.toList_eq]
        have : (48 + (x : Int) % 10).toNat = 48 + x % 10 := by omega
        simp [this])
      go_wp2
      go_roundg 1
      case rel => exact ⟨.inr (.inl ⟨Nat.le_refl _, by go_num, _, rfl, tl.out⟩), Bel.out.alloc Bel.out.size _⟩
      case measure => omega
    · have Bel := Lib.hid bel
      have hcv := byteT wr
      clear bel
      have te : t.toList.isEmpty = false := by rw [ht]; rfl
      by_cases h10 : x < 10
      · have e0 : x / 10 = 0 := by omega
        have T := Lib.hid ht
        have F : Hid (dig x = [UInt8.ofNat (48 + x % 10)]) := Lib.hid (by unfold dig; rw [if_pos h10, Nat.mod_eq_of_lt h10])
        rw [e0]
        clear ht e0
        go_wp2
        go_ret
        exact ⟨t, rfl, by rw [T.out, F.out], Bel.out⟩
      · have e0 : ((x / 10 : Nat) : Int) = 1 := by omega
        have tl : Hid ((strOfNums [49] ++ t).toList = dig x) := Lib.hid (by
          rw [toList_app, ht, ByteArray.toList_eq, strOfNums_data]
          unfold dig
          rw [if_neg h10, show x / 10 = 1 from by omega]; rfl)
        have sz : (strOfNums [49] ++ t).size = 2 := by
          have := congrArg List.length tl.out
          rw [← len_toList0]
          rw [this]; unfold dig; rw [if_neg h10]; rfl
        have sz2 : ¬ 9223372036854775807 < (strOfNums [49]).size + t.size := by
          have : (strOfNums [49] ++ t).size = (strOfNums [49]).size + t.size := ByteArray.size_append
          omega
        rw [e0]
        clear ht e0 sz
        go_wp2
        go_roundg 0
        case rel => exact ⟨.inr (.inr ⟨by omega, rfl, _, rfl, tl.out⟩), Bel.out.alloc Bel.out.size _⟩
        case measure => omega
    · have Bel := Lib.hid bel
      clear bel
      have te : t.toList.isEmpty = false := by rw [ht]; unfold dig; rw [if_neg (by omega)]; rfl
      have T := Lib.hid ht
      clear ht
      go_wp2
      go_ret
      exact ⟨t, rfl, T.out, Bel.out⟩
end Go.Proofs.YtkjokchhffjidaaGreatDoor

/- The program's cursor over a text. Condition: the position is no further than the end. -/
namespace Go.Proofs.YtkjokchhffjidaaGreatDoor
open Go.RowKit

/-- Block g is a cursor over s at place k. -/
def Cur (w : World) (g : Nat) (s : ByteArray) (k : Nat) : Prop := k ≤ s.size ∧ Blk w g 77 #[.string s, .int .i64 k]

theorem Cur.drewN {w : World} {g k : Nat} {s : ByteArray} (h : Cur w g s k) (n : Nat) : Cur (w.drewN n) g s k := h
theorem Cur.below {w w' : World} {g k B : Nat} {s : ByteArray} (h : Cur w g s k) (hb : Below B w w') (hg : g < B) : Cur w' g s k := ⟨h.1, h.2.below hb hg⟩
theorem Cur.kept {w w' : World} {g k : Nat} {s : ByteArray} {row : Option Nat} (h : Cur w g s k) (hb : w.grownBy w' row) (hg : some g ≠ row) : Cur w' g s k := ⟨h.1, h.2.grown hb hg⟩
theorem Cur.step {w : World} {g k : Nat} {s : ByteArray} (h : Cur w g s k) (hk : k < s.size) (K : Int) (hK : K = ((k + 1 : Nat) : Int)) : Cur (w.setCell ⟨g, 1, none⟩ (.int .i64 K)) g s (k + 1) :=
  ⟨hk, by subst hK; exact h.2.set_ 1 _⟩
theorem Cur.lt {w : World} {g k : Nat} {s : ByteArray} (h : Cur w g s k) : g < w.heap.size := h.2.lt

theorem curEnd (g k : Nat) (s : ByteArray) (w : World) (h : Cur w g s k) (ans : Bool) (ha : Hid (decide (k = s.size) = ans)) :
    Calls Tryz.prog 55 #[.pointer (some ⟨g, 0, none⟩)] w fun e w' => e = .returned (.bool ans) ∧ ∃ m, w' = w.drewN m := by
  have c0 : w.cell? ⟨g, 0, none⟩ = some (.string s) := h.2.cell 0
  have c1 : w.cell? ⟨g, 1, none⟩ = some (.int .i64 k) := h.2.cell 1
  clear h
  have e2 : Hid (((k : Int) == (s.size : Int)) = ans) := Lib.hid (by
    rw [← ha.out]
    by_cases e : k = s.size
    · rw [decide_eq_true e, beq_iff_eq]; omega
    · rw [decide_eq_false e, beq_eq_false_iff_ne]; omega)
  go_enter Tryz.func55, Tryz.ntmps55
  go_wp2
  go_quiet (fail)
  go_wp2
  go_ret
  exact ⟨ret_bool e2.out, _, rfl⟩
theorem digT (b : UInt8) (w : World) (ans : Bool) (ha : Hid (isD b = ans)) :
    Calls Tryz.prog 85 #[.int .u8 (b.toNat : Int)] w fun e w' => e = .returned (.bool ans) ∧ ∃ m, w' = w.drewN m := by
  by_cases h1 : 48 ≤ b.toNat
  · have d1 : decide ((48 : Int) ≤ (b.toNat : Int)) = true := by simp; omega
    have e2 : Hid (decide ((b.toNat : Int) ≤ 57) = ans) := Lib.hid (by
      rw [← ha.out]; unfold isD
      rw [decide_eq_true h1, Bool.true_and]
      by_cases e : b.toNat ≤ 57
      · rw [decide_eq_true e, decide_eq_true (by omega)]
      · rw [decide_eq_false e, decide_eq_false (by omega)])
    go_enter Tryz.func85, Tryz.ntmps85
    go_wp2
    go_ret
    exact ⟨ret_bool e2.out, 0, rfl⟩
  · have d1 : decide ((48 : Int) ≤ (b.toNat : Int)) = false := by simp; omega
    have e2 : Hid (false = ans) := Lib.hid (by rw [← ha.out]; unfold isD; rw [decide_eq_false h1]; rfl)
    go_enter Tryz.func85, Tryz.ntmps85
    go_wp2
    go_ret
    exact ⟨ret_bool e2.out, 0, rfl⟩
/-- The symbol comes next. -/
theorem curTake (g k : Nat) (s : ByteArray) (b : UInt8) (w : World) (h : Cur w g s k) (hs : s.size ≤ 1000) (hk : k < s.size) (e : s[k] = b) :
    Calls Tryz.prog 67 #[.pointer (some ⟨g, 0, none⟩), .int .u8 (b.toNat : Int)] w fun e w' => e = .returned (.bool true) ∧ Cur w' g s (k + 1) ∧ w.grownBy w' (some g) := by
  have c0 : w.cell? ⟨g, 0, none⟩ = some (.string s) := h.2.cell 0
  have c1 : w.cell? ⟨g, 1, none⟩ = some (.int .i64 k) := h.2.cell 1
  have f1 := h.2.frozen 1
  have H := Lib.hid h
  have HC : Hid (∀ n, Cur (w.drewN n) g s k) := Lib.hid fun _ => h
  have E1 : Hid (decide (k = s.size) = false) := Lib.hid (by simp; omega)
  have k1 : (k : Int) < s.size := by omega
  have k0 : (0 : Int) ≤ k := by omega
  have t1 : (((s[k]).toNat : Int) != (b.toNat : Int)) = false := by rw [e]; simp
  have t2 : (((s[k]).toNat : Int) == (b.toNat : Int)) = true := by rw [e]; simp
  clear h e
  go_enter Tryz.func67, Tryz.ntmps67
  go_wp2
  go_quiet (exact Calls.quiet_of (curEnd g k s _ (HC.out _) false E1))
  go_wp2
  go_ret
  exact ⟨rfl, (H.out.drewN _).step hk _ (by go_num), grown_set (grown_drewN (grown_refl _ _) _) _ _⟩
/-- It does not. -/
theorem curNot (g k : Nat) (s : ByteArray) (b : UInt8) (w : World) (h : Cur w g s k) (e : ∀ hk : k < s.size, s[k] ≠ b) :
    Calls Tryz.prog 67 #[.pointer (some ⟨g, 0, none⟩), .int .u8 (b.toNat : Int)] w fun e w' => e = .returned (.bool false) ∧ ∃ m, w' = w.drewN m := by
  have c0 : w.cell? ⟨g, 0, none⟩ = some (.string s) := h.2.cell 0
  have c1 : w.cell? ⟨g, 1, none⟩ = some (.int .i64 k) := h.2.cell 1
  have H := Lib.hid h
  have HC : Hid (∀ n, Cur (w.drewN n) g s k) := Lib.hid fun _ => h
  by_cases hk : k < s.size
  · have E1 : Hid (decide (k = s.size) = false) := Lib.hid (by simp; omega)
    have k1 : (k : Int) < s.size := by omega
    have k0 : (0 : Int) ≤ k := by omega
    have hne : ((s[k]).toNat : Int) ≠ (b.toNat : Int) := fun e2 => e hk (UInt8.toNat_inj.1 (by omega))
    have t1 : (((s[k]).toNat : Int) != (b.toNat : Int)) = true := by simpa using hne
    have t2 : (((s[k]).toNat : Int) == (b.toNat : Int)) = false := by simpa using hne
    clear h e hne
    go_enter Tryz.func67, Tryz.ntmps67
    go_wp2
    go_quiet (exact Calls.quiet_of (curEnd g k s _ (HC.out _) false E1))
    go_wp2
    go_ret
    exact ⟨rfl, _, rfl⟩
  · have E1 : Hid (decide (k = s.size) = true) := Lib.hid (by have := h.1; simp; omega)
    clear h e
    go_enter Tryz.func67, Tryz.ntmps67
    go_wp2
    go_quiet (exact Calls.quiet_of (curEnd g k s _ (HC.out _) true E1))
    go_wp2
    go_ret
    exact ⟨rfl, _, rfl⟩
theorem len_toList (s : ByteArray) : s.toList.length = s.size := by rw [ByteArray.toList_eq]; exact Array.length_toList
theorem getD_toList (s : ByteArray) {j : Nat} (h : j < s.size) : s.data.toList.getD j 0 = s[j] := by
  rw [List.getD_eq_getElem?_getD, List.getElem?_eq_getElem (by have := len_toList s; rw [ByteArray.toList_eq] at this; omega)]; rfl
theorem get_toList (s : ByteArray) {j : Nat} (h : j < s.size) : s.toList[j]'(by rw [len_toList]; exact h) = s[j] := by
  simp only [ByteArray.toList_eq]; rfl
theorem empty_yes {s : ByteArray} (h : s.size = 0) : s.toList.isEmpty = true := by
  rw [List.isEmpty_iff]; exact List.eq_nil_of_length_eq_zero (by rw [len_toList]; exact h)
theorem empty_no {s : ByteArray} (h : ¬ s.size = 0) : s.toList.isEmpty = false := by
  rw [Bool.eq_false_iff]; intro e; rw [List.isEmpty_iff] at e; apply h; rw [← len_toList, e]; rfl
theorem okD_toList (s : ByteArray) : okD s.toList = (decide (1 ≤ s.size) && decide (s.size ≤ 9) && !(s.toList.head? == some 48 && decide (1 < s.size))) := by unfold okD; rw [len_toList]
theorem head_toList (s : ByteArray) (h : 0 < s.size) : s.toList.head? = some s[0] := by
  rw [List.head?_eq_getElem?, List.getElem?_eq_getElem (by rw [len_toList]; exact h), get_toList s h]
theorem take_toList (s : ByteArray) {j : Nat} (h : j < s.size) : s.toList.take (j + 1) = s.toList.take j ++ [s[j]] := by
  rw [List.take_succ_eq_append_getElem (by rw [len_toList]; exact h), get_toList s h]

set_option maxHeartbeats 1000000 in
/-- The number behind the guards. -/
theorem parseT_go (s : ByteArray) (w : World) (hs : s.size ≤ 9) (h1 : 1 ≤ s.size) (hd : Hid (s.toList.all isD = true)) (z3 : ¬ (s[0] = 48 ∧ 1 < s.size)) :
    Calls Tryz.prog 86 #[.string s] w fun e w' => e = .returned (.tuple #[.int .i64 (dval s.toList : Nat), .bool true]) ∧ Below w.heap.size w w' := by
  have z1 := empty_no (s := s) (by omega)
  have z2 : decide ((9 : Int) < s.size) = false := by simp; omega
  have z4 : 0 < s.size := by omega
  have z5 : (0 : Int) < s.size := by omega
  have hcv := Lib.run_convert_string_bytes (P := Tryz.prog) w 9 22 5 s (u := .string) Tryz.underlying9 Tryz.underlying22 Tryz.underlying5
  obtain ⟨C, eC⟩ : ∃ C, grownCap w s.size 0 5 = C := ⟨_, rfl⟩
  obtain ⟨W1, eW⟩ : ∃ W1, Lib.bytesWorld w 5 s = W1 := ⟨_, rfl⟩
  rw [eC, eW] at hcv
  have hcell : Hid (∀ j (hj : j < s.size), W1.cell? ⟨w.heap.size, j, none⟩ = some (.int .u8 (s[j]).toNat)) := Lib.hid fun j hj => by rw [← eW, Lib.bytesWorld_cell w _ s j hj, getD_toList s hj]
  have B1 : Hid (Below w.heap.size w W1) := Lib.hid (by
    rw [← eW]
    exact ⟨rfl, rfl, rfl, by rw [Lib.bytesWorld_size]; omega, fun i hi => Lib.bytesWorld_at_old w _ s i hi⟩)
  clear eC eW
  have key : (((s[0]).toNat : Int) == 48) = false ∨ ((((s[0]).toNat : Int) == 48) = true ∧ decide ((1 : Int) < s.size) = false) := by
    by_cases e : s[0] = 48
    · exact .inr ⟨by rw [e]; rfl, by simp; have : ¬ 1 < s.size := fun h => z3 ⟨e, h⟩; omega⟩
    · left
      rw [beq_eq_false_iff_ne]
      exact fun e2 => e (UInt8.toNat_inj.1 (by have : (48 : UInt8).toNat = 48 := rfl; omega))
  have Fin : Hid (s.toList.take s.size = s.toList) := Lib.hid (List.take_of_length_le (by rw [len_toList]; exact Nat.le_refl _))
  clear z3
  rcases key with hh | ⟨hh, z6⟩ <;> (
    go_enter Tryz.func86, Tryz.ntmps86
    go_wp2
    go_loopw [4, 6, 27] (fun a _ i wr => ∃ j, j ≤ s.size ∧ i = .int .i64 (j : Nat) ∧ a = .int .i64 (dval (s.toList.take j) : Nat) ∧ wr = W1) (fun _ _ i _ => s.size - (intOf i).toNat)
    case atStart => exact ⟨0, Nat.zero_le _, rfl, rfl, rfl⟩
    case round =>
      obtain ⟨j, hj, rfl, rfl, rfl⟩ := hrel
      by_cases hlt : j < s.size
      · have c1 := hcell.out j hlt
        have hdj : isD s[j] = true := by
          have := List.all_eq_true.1 hd.out (s.toList[j]'(by rw [len_toList]; exact hlt)) (List.getElem_mem _)
          rw [get_toList s hlt] at this; exact this
        have hD : dval (s.toList.take j) < 100000000 := by
          have h2 := dval_lt (s.toList.take j) (List.all_eq_true.2 fun x hx => List.all_eq_true.1 hd.out x (List.mem_of_mem_take hx))
          have h3 : (s.toList.take j).length ≤ 8 := by rw [List.length_take]; omega
          exact Nat.lt_of_lt_of_le h2 (Nat.le_trans (Nat.pow_le_pow_right (by omega) h3) (by decide))
        have Sn : Hid (dval (s.toList.take (j + 1)) = 10 * dval (s.toList.take j) + ((s[j]).toNat - 48)) := Lib.hid (by rw [take_toList s hlt, dval_snoc])
        obtain ⟨D, eD⟩ : ∃ D, dval (s.toList.take j) = D := ⟨_, rfl⟩
        obtain ⟨b, eb⟩ : ∃ b, (s[j]).toNat = b := ⟨_, rfl⟩
        rw [eb] at c1
        have hb : 48 ≤ b ∧ b ≤ 57 := by unfold isD at hdj; simp at hdj; omega
        rw [eD, eb] at Sn
        rw [eD] at hD ⊢
        obtain ⟨hb1, hb2⟩ := hb
        clear hdj eD eb
        go_wp2
        go_roundw
        case rel => exact ⟨j + 1, by omega, by go_num, by rw [Sn.out]; exact congrArg (Value.int .i64) (by omega), trivial⟩
        case measure => simp [intOf]; omega
      · obtain rfl : j = s.size := by omega
        rw [Fin.out]
        go_wp2
        go_ret2
        exact ⟨rfl, B1.out⟩)
/-- parseDigits, of digits. -/
theorem parseT (s : ByteArray) (w : World) (hs : s.size ≤ 1000) (hd : Hid (s.toList.all isD = true)) (o : Option Nat) (hp : Hid (pD s.toList = o)) :
    Calls Tryz.prog 86 #[.string s] w fun e w' => e = .returned (.tuple #[.int .i64 (o.getD 0 : Nat), .bool o.isSome]) ∧ Below w.heap.size w w' := by
  by_cases hz : s.size = 0
  · have z1 := empty_yes hz
    obtain rfl : o = none := by rw [← hp.out]; unfold pD; rw [okD_toList, hz]; rfl
    clear hp hd
    go_enter Tryz.func86, Tryz.ntmps86
    go_wp2
    go_ret2
    exact ⟨rfl, Below.refl _ _⟩
  by_cases h9 : 9 < s.size
  · have z1 := empty_no hz
    have z2 : decide ((9 : Int) < s.size) = true := by simp; omega
    obtain rfl : o = none := by rw [← hp.out]; unfold pD; rw [okD_toList, decide_eq_false (show ¬ s.size ≤ 9 by omega)]; simp
    clear hp hd
    go_enter Tryz.func86, Tryz.ntmps86
    go_wp2
    go_ret2
    exact ⟨rfl, Below.refl _ _⟩
  by_cases z3 : s[0] = 48 ∧ 1 < s.size
  · have z1 := empty_no hz
    have z2 : decide ((9 : Int) < s.size) = false := by simp; omega
    have z4 : 0 < s.size := by omega
    have z5 : (0 : Int) < s.size := by omega
    have z6 : decide ((1 : Int) < s.size) = true := by simp; omega
    have hh : (((s[0]).toNat : Int) == 48) = true := by rw [z3.1]; rfl
    obtain rfl : o = none := by rw [← hp.out]; unfold pD; rw [okD_toList, head_toList s z4, z3.1, decide_eq_true z3.2]; simp
    clear hp hd z3
    go_enter Tryz.func86, Tryz.ntmps86
    go_wp2
    go_ret2
    exact ⟨rfl, Below.refl _ _⟩
  · have z4 : 0 < s.size := by omega
    obtain rfl : o = some (dval s.toList) := by
      rw [← hp.out]; unfold pD
      rw [if_pos]
      rw [okD_toList, head_toList s z4, decide_eq_true (show 1 ≤ s.size by omega), decide_eq_true (show s.size ≤ 9 by omega)]
      by_cases e : s[0] = 48
      · rw [decide_eq_false (fun h => z3 ⟨e, h⟩)]; simp
      · have : (some s[0] == some (48 : UInt8)) = false := by simpa using e
        rw [this]; rfl
    exact parseT_go s w (by omega) z4 hd z3

/-- What is left of the text from place k on. -/
def rest (s : ByteArray) (k : Nat) : List UInt8 := s.toList.drop k
theorem rest_cons (s : ByteArray) {k : Nat} (h : k < s.size) : rest s k = s[k] :: rest s (k + 1) := by
  unfold rest; rw [List.drop_eq_getElem_cons (by rw [len_toList]; exact h), get_toList s h]
theorem rest_end (s : ByteArray) {k : Nat} (h : s.size ≤ k) : rest s k = [] := by
  unfold rest; exact List.drop_of_length_le (by rw [len_toList]; exact h)
theorem rest_head (s : ByteArray) (k : Nat) (b : UInt8) (hk : k ≤ s.size) : (rest s k).head? = some b ↔ ∃ h : k < s.size, s[k] = b := by
  by_cases h : k < s.size
  · rw [rest_cons s h]; simp [h]
  · rw [rest_end s (by omega)]; simp [h]
/-- The piece of the text from a to b. -/
theorem extract_toList (s : ByteArray) (a b : Nat) : (s.extract a b).toList = (s.toList.drop a).take (b - a) := by
  rw [ByteArray.toList_eq, ByteArray.toList_eq]
  simp [ByteArray.data_extract, List.extract_eq_take_drop]
theorem drop_take_while (s : ByteArray) (a : Nat) {k : Nat} (hk : a ≤ k) (h : ∀ j, a ≤ j → j < k → ∃ hj : j < s.size, isD s[j] = true) (he : ∀ hj : k < s.size, isD s[k] = false) :
    (rest s a).takeWhile isD = (rest s a).take (k - a) ∧ (rest s a).dropWhile isD = rest s k := by
  obtain ⟨d, rfl⟩ : ∃ d, k = a + d := ⟨k - a, by omega⟩
  have e1 : a + d - a = d := by omega
  rw [e1]
  clear e1 hk
  induction d generalizing a with
  | zero =>
    by_cases hj : a < s.size
    · have hf := he hj
      have e := rest_cons s hj
      have hf' : isD s[a] = false := hf
      refine ⟨?_, ?_⟩
      · rw [e, List.takeWhile_cons, hf']; rfl
      · rw [e, List.dropWhile_cons, hf']; exact e.symm
    · have e := rest_end s (k := a) (by omega)
      refine ⟨?_, ?_⟩
      · rw [e]; rfl
      · rw [e]; exact e.symm
  | succ d ih =>
    obtain ⟨hj, hd⟩ := h a (Nat.le_refl _) (by omega)
    have ea : a + (d + 1) = a + 1 + d := by omega
    have he' : ∀ hj : a + 1 + d < s.size, isD s[a + 1 + d] = false := by
      intro hj
      have := he (by omega)
      simp only [ea] at this
      exact this
    have := ih (a + 1) (fun j h1 h2 => h j (by omega) (by omega)) he'
    rw [ea, rest_cons s hj, List.takeWhile_cons, List.dropWhile_cons, hd]
    simp only [if_true, List.take_succ_cons]
    rw [this.1, this.2]
    exact ⟨rfl, rfl⟩

set_option maxHeartbeats 4000000 in
set_option maxRecDepth 50000 in
/-- number: the digits that come next. -/
theorem curNumber (g k : Nat) (s : ByteArray) (w : World) (h : Cur w g s k) (hs : s.size ≤ 1000) (o : Option Nat) (ho : Hid (pD ((rest s k).takeWhile isD) = o)) :
    Calls Tryz.prog 77 #[.pointer (some ⟨g, 0, none⟩)] w fun e w' => e = .returned (.tuple #[.int .i64 (o.getD 0 : Nat), .bool o.isSome]) ∧ ∃ k' w1, Cur w1 g s k' ∧ k ≤ k' ∧ rest s k' = (rest s k).dropWhile isD ∧ w.grownBy w1 (some g) ∧ Below w1.heap.size w1 w' := by
  have H := Lib.hid h
  have c1 : w.cell? ⟨g, 1, none⟩ = some (.int .i64 k) := h.2.cell 1
  clear h
  go_enter Tryz.func77, Tryz.ntmps77
  go_wp2
  clear c1
  go_loopg [] s.size (fun gg wr => ∃ j, k ≤ j ∧ s.size - j ≤ gg ∧ Cur wr g s j ∧ (∀ i, k ≤ i → i < j → ∃ hi : i < s.size, isD s[i] = true) ∧ w.grownBy wr (some g))
  case atStart => exact ⟨k, Nat.le_refl _, by omega, H.out, fun i h1 h2 => absurd h2 (by omega), grown_refl _ _⟩
  case round =>
    obtain ⟨j, hj, hg, cur, dg, gro⟩ := hrel
    have Cu := Lib.hid cur
    have Dg := Lib.hid dg
    have Gr := Lib.hid gro
    have c0 : wr.cell? ⟨g, 0, none⟩ = some (.string s) := cur.2.cell 0
    have c1 : wr.cell? ⟨g, 1, none⟩ = some (.int .i64 j) := cur.2.cell 1
    have f1 := cur.2.frozen 1
    have HC : Hid (∀ n, Cur (wr.drewN n) g s j) := Lib.hid fun _ => cur
    clear cur dg gro
    by_cases hlt : j < s.size
    · have E1 : Hid (decide (j = s.size) = false) := Lib.hid (by simp; omega)
      have k1 : (j : Int) < s.size := by omega
      have k0 : (0 : Int) ≤ j := by omega
      rcases hd : isD s[j] with _ | _
      · have Hd := Lib.hid hd
        clear hd
        go_wp2
        go_quiet (first | (go_at_call 55; exact Calls.quiet_of (curEnd g j s _ (HC.out _) false E1)) | (go_at_call 85; exact Calls.quiet_of (digT _ _ false Hd)))
        have Tw : Hid ((rest s k).takeWhile isD = (rest s k).take (j - k) ∧ (rest s k).dropWhile isD = rest s j) := Lib.hid (drop_take_while s k hj Dg.out (fun _ => Hd.out))
        have Sl : Hid ((s.extract k j).toList = (rest s k).takeWhile isD) := Lib.hid (by rw [Tw.out.1, extract_toList]; rfl)
        have al : Hid ((s.extract k j).toList.all isD = true) := Lib.hid (by rw [Sl.out]; exact tw_all _)
        have po : Hid (pD (s.extract k j).toList = o) := Lib.hid (by rw [Sl.out]; exact ho.out)
        have sz : (s.extract k j).size ≤ 1000 := by rw [ByteArray.size_extract]; omega
        have q1 : (0 : Int) ≤ k := by omega
        have q2 : (k : Int) ≤ j := by omega
        have q3 : (j : Int) ≤ s.size := by omega
        go_wp2
        go_region_with (go_at_call 86; refine (parseT (s.extract k j) _ sz al o po).mono ?_; rintro e w2 ⟨rfl, b2⟩; have B2 := Lib.hid b2; clear b2)
        all_goals
          go_wp2
          go_ret2
          exact ⟨rfl, j, _, (HC.out _).drewN 1, hj, Tw.out.2.symm, grown_drewN (grown_drewN Gr.out _) 1, B2.out⟩
      · have Hd := Lib.hid hd
        clear hd
        have Dg2 : Hid (∀ i, k ≤ i → i < j + 1 → ∃ hi : i < s.size, isD s[i] = true) := Lib.hid fun i h1 h2 => by
          by_cases e : i = j
          · subst e; exact ⟨hlt, Hd.out⟩
          · exact Dg.out i h1 (by omega)
        go_wp2
        go_quiet (first | (go_at_call 55; exact Calls.quiet_of (curEnd g j s _ (HC.out _) false E1)) | (go_at_call 85; exact Calls.quiet_of (digT _ _ true Hd)))
        go_wp2
        go_roundg (s.size - (j + 1))
        case rel => exact ⟨j + 1, by omega, Nat.le_refl _, (HC.out _).step hlt _ (by go_num), Dg2.out, grown_set (grown_drewN Gr.out _) _ _⟩
        case measure => omega
    · have E1 : Hid (decide (j = s.size) = true) := Lib.hid (by have := Cu.out.1; simp; omega)
      have hjs : j = s.size := by have := Cu.out.1; omega
      have Tw : Hid ((rest s k).takeWhile isD = (rest s k).take (j - k) ∧ (rest s k).dropWhile isD = rest s j) := Lib.hid (drop_take_while s k hj Dg.out (fun h => absurd h hlt))
      have Sl : Hid ((s.extract k j).toList = (rest s k).takeWhile isD) := Lib.hid (by rw [Tw.out.1, extract_toList]; rfl)
      have al : Hid ((s.extract k j).toList.all isD = true) := Lib.hid (by rw [Sl.out]; exact tw_all _)
      have po : Hid (pD (s.extract k j).toList = o) := Lib.hid (by rw [Sl.out]; exact ho.out)
      have sz : (s.extract k j).size ≤ 1000 := by rw [ByteArray.size_extract]; omega
      have q1 : (0 : Int) ≤ k := by omega
      have q2 : (k : Int) ≤ j := by omega
      have q3 : (j : Int) ≤ s.size := by omega
      clear hjs
      go_wp2
      go_quiet (exact Calls.quiet_of (curEnd g j s _ (HC.out _) true E1))
      go_wp2
      go_region_with (go_at_call 86; refine (parseT (s.extract k j) _ sz al o po).mono ?_; rintro e w2 ⟨rfl, b2⟩; have B2 := Lib.hid b2; clear b2)
      all_goals
        go_wp2
        go_ret2
        exact ⟨rfl, j, _, (HC.out _).drewN 1, hj, Tw.out.2.symm, grown_drewN (grown_drewN Gr.out _) 1, B2.out⟩
end Go.Proofs.YtkjokchhffjidaaGreatDoor

/- The helpers of the laws: copy, comparison, marking. No condition but lengths. -/
namespace Go.Proofs.YtkjokchhffjidaaGreatDoor
open Go.RowKit









end Go.Proofs.YtkjokchhffjidaaGreatDoor

/- IsPermutation, of the program and of the model: both answer whether the list is a permutation. Condition: at most 2097152 entries. -/
namespace Go.Proofs.YtkjokchhffjidaaGreatDoor
open Go.RowKit

def seenB (xs : List Int) (k y : Nat) : Bool := (List.range k).any fun j => xs.getD j 0 == (y : Int)
theorem seenB_zero (xs : List Int) (y : Nat) : seenB xs 0 y = false := rfl
theorem seenB_succ (xs : List Int) (k y x : Nat) (h : xs.getD k 0 = (x : Int)) : seenB xs (k + 1) y = (seenB xs k y || decide (x = y)) := by
  unfold seenB
  rw [List.range_succ, List.any_append]
  simp only [List.any_cons, List.any_nil, Bool.or_false, h]
  congr 1
  rw [Bool.eq_iff_iff]; simp; omega
theorem seenB_true {xs : List Int} {k y : Nat} (h : seenB xs k y = true) : ∃ j, j < k ∧ xs.getD j 0 = (y : Int) := by
  unfold seenB at h
  rw [List.any_eq_true] at h
  obtain ⟨j, hj, e⟩ := h
  exact ⟨j, List.mem_range.1 hj, by simpa using e⟩
theorem seenB_false {xs : List Int} {k y : Nat} (h : seenB xs k y = false) : ∀ j, j < k → xs.getD j 0 ≠ (y : Int) := by
  intro j hj e
  unfold seenB at h
  rw [List.any_eq_false] at h
  exact h j (List.mem_range.2 hj) (by simpa using e)
def Seen (xs : List Int) (k : Nat) (cs : Array Value) : Prop := cs.size = 20 ∧ ∀ y, y < 20 → cs[y]? = some (.bool (seenB xs k y))
theorem Seen.start (xs : List Int) : Seen xs 0 (List.replicate 20 (Value.bool false)).toArray := ⟨by simp, fun y hy => by
  rw [seenB_zero, List.getElem?_toArray, List.getElem?_replicate, if_pos hy]⟩
theorem Seen.next {xs : List Int} {k x : Nat} {cs : Array Value} (h : Seen xs k cs) (hx : xs.getD k 0 = (x : Int)) (hlt : x < 20) : Seen xs (k + 1) (cs.setIfInBounds x (.bool true)) := by
  refine ⟨by simpa using h.1, fun y hy => ?_⟩
  rw [seenB_succ xs k y x hx, Array.getElem?_setIfInBounds]
  by_cases e : x = y
  · subst e; rw [if_pos rfl, if_pos (by rw [h.1]; exact hlt)]; simp
  · rw [if_neg e, h.2 y hy]; simp [e]

set_option maxHeartbeats 400000 in
theorem implIsP_core (A : Option Addr) (c n : Nat) (xs : List Int) (w : World) (hx : RI w w.heap.size A xs) (lx : Hid (xs.length = n)) (hn1 : 1 ≤ n) (hn : n ≤ 20) :
    Calls Tryz.prog 33 #[.slice A n c] w fun e w' => e = .returned (.bool (isP xs)) ∧ Below w.heap.size w w' := by
  have d1 : decide ((n : Int) < 1) = false := by simp; omega
  have d2 : decide ((20 : Int) < n) = false := by simp; omega
  go_enter Tryz.func33, Tryz.ntmps33
  go_wp2
  go_loopw [5, 16] (fun _ i wr => ∃ k cs, k ≤ n ∧ i = .int .i64 (k : Nat) ∧ Blk wr w.heap.size 71 cs ∧ Seen xs k cs ∧ okTo xs k ∧ Below w.heap.size w wr) (fun _ i _ => n - (intOf i).toNat)
  case atStart => exact ⟨0, _, Nat.zero_le _, rfl, Blk.new _ _ _, Seen.start xs, okTo_zero _, (Below.refl _ _).alloc (Nat.le_refl _) _⟩
  case round =>
    clear d1 d2
    obtain ⟨k, cs, hk, rfl, blk, seen, ok, bel⟩ := hrel
    by_cases hlt : k < n
    · obtain ⟨b, off, rfl, hb, hc⟩ := hx (by rw [lx.out]; omega)
      have c1 := (bel.cell (p := ⟨b, off + k, none⟩) hb).trans (hc k (by rw [lx.out]; omega))
      obtain ⟨x, ex⟩ : ∃ x, xs.getD k 0 = x := ⟨_, rfl⟩
      rw [ex] at c1
      have Bel := Lib.hid bel
      have Seen' := Lib.hid seen
      have Ok := Lib.hid ok
      have Ex := Lib.hid ex
      clear ex hc hx bel seen ok
      by_cases h1 : x < 0
      · have e1 : decide (x < 0) = true := by simpa using h1
        have Fin : Hid (isP xs = false) := Lib.hid (isP_no_range (by rw [lx.out]; exact hlt) (.inl (by rw [Ex.out]; exact h1)))
        clear blk
        go_wp2
        go_ret
        exact ⟨ret_bool Fin.out.symm, Bel.out⟩
      · by_cases h2 : (n : Int) ≤ x
        · have e1 : decide (x < 0) = false := by simpa using h1
          have e2 : decide ((n : Int) ≤ x) = true := by simpa using h2
          have Fin : Hid (isP xs = false) := Lib.hid (isP_no_range (by rw [lx.out]; exact hlt) (.inr (by rw [Ex.out, lx.out]; exact h2)))
          clear blk
          go_wp2
          go_ret
          exact ⟨ret_bool Fin.out.symm, Bel.out⟩
        · obtain ⟨y, rfl⟩ := Int.eq_ofNat_of_zero_le (show 0 ≤ x by omega)
          have hy : y < n := by omega
          have hy20 : y < 20 := by omega
          have c2 := (blk.cell y).trans (Seen'.out.2 y hy20)
          have f2 := blk.frozen y
          have e1 : decide ((y : Int) < 0) = false := by simp
          have e2 : decide ((n : Int) ≤ y) = false := by simp; omega
          by_cases hs : seenB xs k y = true
          · rw [hs] at c2
            have Fin : Hid (isP xs = false) := by
              obtain ⟨j, hj, e⟩ := seenB_true hs
              exact Lib.hid (isP_no_twice (by rw [lx.out]; exact hlt) hj (by rw [e, Ex.out]))
            clear blk hs
            go_wp2
            go_ret
            exact ⟨ret_bool Fin.out.symm, Bel.out⟩
          · rw [Bool.not_eq_true] at hs
            rw [hs] at c2
            have Bl2 := Lib.hid (blk.set_ y (.bool true))
            have Hs := Lib.hid hs
            clear blk hs
            go_wp2
            go_roundw
            case rel =>
              exact ⟨k + 1, _, by omega, by go_num, Bl2.out, Seen'.out.next Ex.out hy20,
                okTo_succ Ok.out (by rw [Ex.out]; omega) (by rw [Ex.out, lx.out]; omega) (fun i hi => by rw [Ex.out]; exact seenB_false Hs.out i hi), Bel.out.setCell (Nat.le_refl _) _⟩
            case measure => simp [intOf]; omega
    · have hkn : k = n := by omega
      subst hkn
      have Fin : Hid (isP xs = true) := Lib.hid (isP_of_ok (by rw [lx.out]; exact hn1) (by rw [lx.out]; exact hn) (by rw [lx.out]; exact ok))
      have Be := Lib.hid bel
      clear blk bel
      go_wp2
      go_ret
      exact ⟨ret_bool Fin.out.symm, Be.out⟩

/-- The program's IsPermutation. -/
theorem implIsP (A : Option Addr) (c n : Nat) (xs : List Int) (w : World) (hx : RI w w.heap.size A xs) (lx : Hid (xs.length = n)) (hn : n ≤ 2097152) :
    Calls Tryz.prog 33 #[.slice A n c] w fun e w' => e = .returned (.bool (isP xs)) ∧ Below w.heap.size w w' := by
  by_cases h1 : n < 1
  · have Fin : Hid (isP xs = false) := Lib.hid (isP_no_len (.inl (by rw [lx.out]; exact h1)))
    have d1 : decide ((n : Int) < 1) = true := by simp; omega
    go_enter Tryz.func33, Tryz.ntmps33
    go_wp2
    go_ret
    exact ⟨ret_bool Fin.out.symm, Below.refl _ _⟩
  · by_cases h2 : 20 < n
    · have Fin : Hid (isP xs = false) := Lib.hid (isP_no_len (.inr (by rw [lx.out]; exact h2)))
      have d1 : decide ((n : Int) < 1) = false := by simp; omega
      have d2 : decide ((20 : Int) < n) = true := by simp; omega
      go_enter Tryz.func33, Tryz.ntmps33
      go_wp2
      go_ret
      exact ⟨ret_bool Fin.out.symm, Below.refl _ _⟩
    · exact implIsP_core A c n xs w hx lx (by omega) (by omega)

/-! ### The model's -/
theorem inR_true (x lo hi : Int) (w : World) (h1 : lo ≤ x) (h2 : x ≤ hi) : Calls Tryz.prog 42 #[.int .i64 x, .int .i64 lo, .int .i64 hi] w fun e w' => e = .returned (.bool true) ∧ w = w' := by
  have d1 : decide (lo ≤ x) = true := by simpa using h1
  have d2 : decide (x ≤ hi) = true := by simpa using h2
  go_enter Tryz.func42, Tryz.ntmps42
  go_wp2
  go_ret
  exact ⟨rfl, rfl⟩
theorem inR_false (x lo hi : Int) (w : World) (h : x < lo ∨ hi < x) : Calls Tryz.prog 42 #[.int .i64 x, .int .i64 lo, .int .i64 hi] w fun e w' => e = .returned (.bool false) ∧ w = w' := by
  by_cases h1 : lo ≤ x
  · have d1 : decide (lo ≤ x) = true := by simpa using h1
    have d2 : decide (x ≤ hi) = false := by simp; omega
    clear h
    go_enter Tryz.func42, Tryz.ntmps42
    go_wp2
    go_ret
    exact ⟨rfl, rfl⟩
  · have d1 : decide (lo ≤ x) = false := by simpa using h1
    clear h
    go_enter Tryz.func42, Tryz.ntmps42
    go_wp2
    go_ret
    exact ⟨rfl, rfl⟩

def hasB (xs : List Int) (x : Int) : Bool := decide (∃ j, j < xs.length ∧ xs.getD j 0 = x)
set_option maxHeartbeats 400000 in
theorem containsI_any (A : Option Addr) (c n : Nat) (xs : List Int) (x : Int) (w : World) (B : Nat) (hx : RI w B A xs) (lx : Hid (xs.length = n)) (hn : n ≤ 2097152) (ans : Bool) (hans : Hid (hasB xs x = ans)) :
    Calls Tryz.prog 63 #[.slice A n c, .int .i64 x] w fun e w' => e = .returned (.bool ans) ∧ w = w' := by
  go_enter Tryz.func63, Tryz.ntmps63
  go_wp2
  go_loop [5] (fun i => ∃ k : Nat, k ≤ n ∧ i = .int .i64 k ∧ ∀ j, j < k → xs.getD j 0 ≠ x) (fun i => n - (intOf i).toNat)
  case atStart => exact ⟨0, Nat.zero_le _, rfl, fun j h => absurd h (by omega)⟩
  case round =>
    obtain ⟨k, hk, rfl, heq⟩ := hrel
    have Heq := Lib.hid heq
    clear heq
    by_cases hlt : k < n
    · obtain ⟨b, off, rfl, hb, hc⟩ := hx (by rw [lx.out]; omega)
      have c1 := hc k (by rw [lx.out]; omega)
      obtain ⟨y, ey⟩ : ∃ y, xs.getD k 0 = y := ⟨_, rfl⟩
      rw [ey] at c1
      have Ey := Lib.hid ey
      clear ey hc hx
      by_cases hxy : y = x
      · have hd : (y == x) = true := by simpa using hxy
        have Fin : Hid (hasB xs x = true) := Lib.hid (decide_eq_true ⟨k, by rw [lx.out]; exact hlt, by rw [Ey.out, hxy]⟩)
        subst hxy
        go_wp2
        go_ret
        exact ⟨ret_bool (by rw [← Fin.out, ← hans.out]), rfl⟩
      · have hd : (y == x) = false := by simpa using hxy
        have Hxy := Lib.hid hxy
        clear hxy
        go_wp2
        go_round
        case rel => exact ⟨k + 1, by omega, by go_num, fun j hj => by
          by_cases e : j = k
          · subst e; rw [Ey.out]; exact Hxy.out
          · exact Heq.out j (by omega)⟩
        case measure => simp [intOf]; omega
    · have Fin : Hid (hasB xs x = false) := Lib.hid (decide_eq_false fun ⟨j, hj, e⟩ => Heq.out j (by rw [lx.out] at hj; omega) e)
      go_wp2
      go_ret
      exact ⟨ret_bool (by rw [← Fin.out, ← hans.out]), rfl⟩

theorem take_getD {xs : List Int} {k j : Nat} (h : j < k) : (xs.take k).getD j 0 = xs.getD j 0 := by
  rw [List.getD_eq_getElem?_getD, List.getElem?_take, if_pos h, ← List.getD_eq_getElem?_getD]
theorem RI.take {w : World} {B b off n : Nat} {xs : List Int} (h : RI w B (some ⟨b, off, none⟩) xs) (hn : xs.length = n) (k : Nat) (hk : k ≤ n) : RI w B (some ⟨b, off, none⟩) (xs.take k) := fun hp => by
  rw [List.length_take] at hp
  obtain ⟨b', off', e, hb, hc⟩ := h (by omega)
  refine ⟨b', off', e, hb, fun j hj => ?_⟩
  rw [List.length_take] at hj
  rw [take_getD (by omega)]
  exact hc j (by omega)

set_option maxHeartbeats 400000 in
theorem specIsP_core (A : Option Addr) (c n : Nat) (xs : List Int) (w : World) (hx : RI w w.heap.size A xs) (lx : Hid (xs.length = n)) (hn1 : 1 ≤ n) (hn : n ≤ 20) (hnc : n ≤ c) :
    Calls Tryz.prog 48 #[.slice A n c] w fun e w' => e = .returned (.bool (isP xs)) ∧ ∃ m, w' = w.drewN m := by
  go_enter Tryz.func48, Tryz.ntmps48
  go_wp2_with (go_at_call 42; refine (inR_true _ _ _ _ (by omega) (by omega)).mono ?_; rintro e w' ⟨rfl, rfl⟩)
  go_loopw [4] (fun i wr => ∃ k : Nat, k ≤ n ∧ i = .int .i64 (k : Nat) ∧ okTo xs k ∧ ∃ m, wr = w.drewN m) (fun i _ => n - (intOf i).toNat)
  case atStart => exact ⟨0, Nat.zero_le _, rfl, okTo_zero _, 0, rfl⟩
  case round =>
    obtain ⟨k, hk, rfl, ok, m, rfl⟩ := hrel
    have Ok := Lib.hid ok
    clear ok
    by_cases hlt : k < n
    · have hx1 := hx
      obtain ⟨b, off, rfl, hb, hc⟩ := hx (by rw [lx.out]; omega)
      have hx0 : RI w w.heap.size (some ⟨b, off, none⟩) xs := hx1
      clear hx1 hx
      have c1 := hc k (by rw [lx.out]; omega)
      obtain ⟨x, ex⟩ : ∃ x, xs.getD k 0 = x := ⟨_, rfl⟩
      rw [ex] at c1
      have Ex := Lib.hid ex
      clear ex hc
      have p1 : (0 : Int) ≤ k := by omega
      have p2 : (k : Int) < n := by omega
      by_cases h1 : x < 0 ∨ (n : Int) - 1 < x
      · have Fin : Hid (isP xs = false) := Lib.hid (isP_no_range (by rw [lx.out]; exact hlt) (by rw [Ex.out, lx.out]; omega))
        have H1 := Lib.hid h1
        clear h1
        go_wp2
        go_quiet ((go_at_call 42; exact quiet_add_left (inR_false _ _ _ _ H1.out)))
        go_wp2
        go_ret
        exact ⟨ret_bool Fin.out.symm, _, World.drewN_drewN _ _ _⟩
      · have q0 : 0 ≤ x := by omega
        have q1 : x ≤ (n : Int) - 1 := by omega
        have ht := hx0.take lx.out k (by omega)
        have lt : Hid ((xs.take k).length = k) := Lib.hid (by rw [List.length_take, lx.out]; omega)
        by_cases hs : hasB (xs.take k) x = true
        · have Hs := Lib.hid hs
          have Fin : Hid (isP xs = false) := by
            obtain ⟨j, hj, e⟩ := of_decide_eq_true hs
            rw [lt.out] at hj
            exact Lib.hid (isP_no_twice (by rw [lx.out]; exact hlt) hj (by rw [← take_getD hj, e, Ex.out]))
          have HT := Lib.hid ht
          clear hs h1 ht
          go_wp2
          go_quiet ((first | (go_at_call 42; exact quiet_add_left (inR_true _ _ _ _ (by omega) (by omega))) | (go_at_call 63; exact quiet_add_left (containsI_any _ _ _ _ _ _ _ (HT.out.drewN _) lt (by omega) true Hs))))
          go_wp2
          go_ret
          exact ⟨ret_bool Fin.out.symm, _, World.drewN_drewN _ _ _⟩
        · have Hs := Lib.hid ((Bool.not_eq_true _).mp hs)
          have HT := Lib.hid ht
          have NT : Hid (∀ i, i < k → xs.getD i 0 ≠ xs.getD k 0) := Lib.hid fun i hi e => hs (decide_eq_true ⟨i, by rw [lt.out]; exact hi, by rw [take_getD hi, e, Ex.out]⟩)
          clear hs h1 ht
          go_wp2
          go_quiet ((first | (go_at_call 42; exact quiet_add_left (inR_true _ _ _ _ (by omega) (by omega))) | (go_at_call 63; exact quiet_add_left (containsI_any _ _ _ _ _ _ _ (HT.out.drewN _) lt (by omega) false Hs))))
          go_wp2
          go_roundw
          case rel => exact ⟨k + 1, by omega, by go_num, okTo_succ Ok.out (by rw [Ex.out]; omega) (by rw [Ex.out, lx.out]; omega) NT.out, _, rfl⟩
          case measure => simp [intOf]; omega
    · have hkn : k = n := by omega
      subst hkn
      have Fin : Hid (isP xs = true) := Lib.hid (isP_of_ok (by rw [lx.out]; exact hn1) (by rw [lx.out]; exact hn) (by rw [lx.out]; exact Ok.out))
      go_wp2
      go_ret
      exact ⟨ret_bool Fin.out.symm, _, rfl⟩

/-- The model's IsPermutation. -/
theorem specIsP (A : Option Addr) (c n : Nat) (xs : List Int) (w : World) (hx : RI w w.heap.size A xs) (lx : Hid (xs.length = n)) (hn : n ≤ 2097152) (hnc : n ≤ c) :
    Calls Tryz.prog 48 #[.slice A n c] w fun e w' => e = .returned (.bool (isP xs)) ∧ ∃ m, w' = w.drewN m := by
  by_cases h1 : n < 1 ∨ 20 < n
  · have Fin : Hid (isP xs = false) := Lib.hid (isP_no_len (by rw [lx.out]; exact h1))
    have H1 := Lib.hid h1
    clear h1
    go_enter Tryz.func48, Tryz.ntmps48
    go_wp2_with (go_at_call 42; refine (inR_false _ _ _ _ (by have := H1.out; omega)).mono ?_; rintro e w' ⟨rfl, rfl⟩)
    go_ret
    exact ⟨ret_bool Fin.out.symm, 0, rfl⟩
  · exact specIsP_core A c n xs w hx lx (by omega) (by omega) hnc
end Go.Proofs.YtkjokchhffjidaaGreatDoor

/- The program's reading of numbers, and of image lists. Condition: at most 1000 bytes. -/
namespace Go.Proofs.YtkjokchhffjidaaGreatDoor
open Go.RowKit

theorem grown_below {w w1 w' : World} {row : Option Nat} (h : w.grownBy w1 row) (b : Below w1.heap.size w1 w') : w.grownBy w' row :=
  ⟨b.os.trans h.os, b.tape.trans h.tape, b.output.trans h.output, Nat.le_trans h.size b.size, fun i hi hne => (b.block i (Nat.lt_of_lt_of_le hi h.size)).trans (h.block i hi hne)⟩
theorem grown_past {w w1 w' : World} {row r2 : Option Nat} (h : w.grownBy w1 row) (b : w1.grownBy w' r2) (hr : ∀ k, r2 = some k → w.heap.size ≤ k) : w.grownBy w' row :=
  ⟨b.os.trans h.os, b.tape.trans h.tape, b.output.trans h.output, Nat.le_trans h.size b.size, fun i hi hne => (b.block i (Nat.lt_of_lt_of_le hi h.size) (fun e => by have := hr i e.symm; omega)).trans (h.block i hi hne)⟩
theorem grown_alloc {w w1 : World} {row : Option Nat} (h : w.grownBy w1 row) (o : Obj) : w.grownBy (w1.alloc o) row :=
  ⟨h.os, h.tape, h.output, by simp; have := h.size; omega, fun i hi hne => (Below.heap_alloc w1 o i (Nat.lt_of_lt_of_le hi h.size)).trans (h.block i hi hne)⟩
def ofN (xs : List Nat) : List Int := xs.map Int.ofNat
theorem ofN_snoc (xs : List Nat) (x : Nat) : ofN (xs ++ [x]) = ofN xs ++ [(x : Int)] := by simp [ofN]
theorem ofN_len (xs : List Nat) : (ofN xs).length = xs.length := by simp [ofN]

theorem numsP_step_none {l : List UInt8} {acc : List Nat} {R : Option (List Nat × List UInt8)} (h : R = (numsP l).map fun y => (acc ++ y.1, y.2)) (hp : pD (l.takeWhile isD) = none) : R = none := by rw [h, numsP_none hp]; rfl
theorem numsP_step_last {l : List UInt8} {acc : List Nat} {x : Nat} {R : Option (List Nat × List UInt8)} (h : R = (numsP l).map fun y => (acc ++ y.1, y.2)) (hp : pD (l.takeWhile isD) = some x) (h2 : (l.dropWhile isD).head? ≠ some 32) :
    R = some (acc ++ [x], l.dropWhile isD) := by rw [h, numsP_last hp h2]; rfl
theorem numsP_step_more {l r : List UInt8} {acc : List Nat} {x : Nat} {R : Option (List Nat × List UInt8)} (h : R = (numsP l).map fun y => (acc ++ y.1, y.2)) (hp : pD (l.takeWhile isD) = some x) (h2 : l.dropWhile isD = 32 :: r) :
    R = (numsP r).map fun y => ((acc ++ [x]) ++ y.1, y.2) := by
  rw [h, numsP_more hp (by rw [h2]; rfl), h2, Option.map_map]
  congr 1; funext y; simp

set_option maxHeartbeats 1000000 in
/-- numbers. -/
theorem curNumbers (g k : Nat) (s : ByteArray) (w : World) (h : Cur w g s k) (hs : s.size ≤ 1000) (R : Option (List Nat × List UInt8)) (hR : Hid (R = numsP (rest s k))) :
    Calls Tryz.prog 68 #[.pointer (some ⟨g, 0, none⟩)] w fun e w' => w.grownBy w' (some g) ∧
      ((R = none ∧ e = .returned (.tuple #[.slice none 0 0, .bool false]) ∧ ∃ k', Cur w' g s k') ∨ ∃ xs r A n c k', R = some (xs, r) ∧ e = .returned (.tuple #[.slice A n c, .bool true]) ∧ Slc w' w.heap.size A n c (ofN xs) ∧ Cur w' g s k' ∧ rest s k' = r ∧ k ≤ k' ∧ n ≤ 1001) := by
  have H := Lib.hid h
  have gw := h.lt
  clear h
  go_enter Tryz.func68, Tryz.ntmps68
  go_wp2
  go_loopg [4, 5, 6] s.size (fun gg v _ _ wr => ∃ j acc A n c, k ≤ j ∧ s.size - j ≤ gg ∧ v = .slice A n c ∧ n ≤ j ∧ Cur wr g s j ∧ Slc wr w.heap.size A n c (ofN acc) ∧ R = ((numsP (rest s j)).map fun y => (acc ++ y.1, y.2)) ∧ w.grownBy wr (some g))
  case atStart => exact ⟨k, [], _, _, _, Nat.le_refl _, by omega, rfl, Nat.zero_le _, H.out, Slc.nil_, by rw [hR.out]; cases numsP (rest s k) <;> rfl, grown_refl _ _⟩
  case round =>
    obtain ⟨j, acc, A, n, c, hkj, hg, rfl, hnj, cur, sl, hr, gro⟩ := hrel
    have Cu := Lib.hid cur
    have Sl := Lib.hid sl
    have Hr := Lib.hid hr
    have Gr := Lib.hid gro
    have hjs := cur.1
    clear cur sl hr gro
    rcases hp : pD ((rest s j).takeWhile isD) with _ | x
    · have Hp := Lib.hid hp
      have Rn : Hid (R = none) := Lib.hid (numsP_step_none Hr.out hp)
      clear hp
      go_wp2_with fail
      refine (curNumber g j s wr Cu.out hs none Hp).mono ?_
      rintro e w2 ⟨rfl, j2, w1, cu1, hj2, hrest, g1, b1⟩
      have G2 := Lib.hid (grown_below (grown_past Gr.out (r2 := none) (grown_refl _ _) (fun k e => nomatch e)) (Below.refl _ wr))
      have G3 : Hid (w.grownBy w2 (some g)) := Lib.hid (by
        have h1 := grown_below g1 b1
        exact ⟨h1.os.trans Gr.out.os, h1.tape.trans Gr.out.tape, h1.output.trans Gr.out.output, Nat.le_trans Gr.out.size h1.size, fun i hi hne => (h1.block i (Nat.lt_of_lt_of_le hi Gr.out.size) hne).trans (Gr.out.block i hi hne)⟩)
      have C2 := Lib.hid (cu1.below b1 cu1.lt)
      clear g1 b1 cu1 hrest
      go_wp2_with fail
      go_ret2
      exact ⟨G3.out, .inl ⟨Rn.out, rfl, _, C2.out⟩⟩
    · have Hp := Lib.hid hp
      clear hp
      go_wp2_with fail
      refine (curNumber g j s wr Cu.out hs (some x) Hp).mono ?_
      rintro e w2 ⟨rfl, j2, w1, cu1, hj2, hrest, g1, b1⟩
      have G3 : Hid (w.grownBy w2 (some g)) := Lib.hid (by
        have h1 := grown_below g1 b1
        exact ⟨h1.os.trans Gr.out.os, h1.tape.trans Gr.out.tape, h1.output.trans Gr.out.output, Nat.le_trans Gr.out.size h1.size, fun i hi hne => (h1.block i (Nat.lt_of_lt_of_le hi Gr.out.size) hne).trans (Gr.out.block i hi hne)⟩)
      have C2 := Lib.hid (cu1.below b1 cu1.lt)
      have S2 : Hid (Slc w2 w.heap.size A n c (ofN acc)) := Lib.hid (Sl.out.kept (grown_below g1 b1) (by
        rcases e : (Value.slice A n c).ownBlock with _ | q
        · exact .inl rfl
        · right; intro e2; have h1 := (Sl.out.lt_ q e).1; injection e2 with e2; omega))
      have Hrest := Lib.hid hrest
      have hj2s := cu1.1
      have Z2 := G3.out.size
      have CA : Hid (∀ o, Cur (w2.alloc o) g s j2) := Lib.hid fun o => ⟨cu1.1, (cu1.below b1 cu1.lt).2.alloc o⟩
      clear g1 b1 cu1 hrest
      go_wp2_with (first | (at_builtin; refine wpList_app1 rfl _ _ rfl w.heap.size A n c _ rfl (S2.out.alloc _) w2.heap.size (x : Int) rfl (by rw [World.cell?_alloc_at _ _ _ _ rfl]; rfl) (by omega) (by simp; omega) ?_; intro A3 c3 w3 s3 g3))
      have S3 : Hid (Slc w3 w.heap.size A3 (n + 1) c3 (ofN (acc ++ [x]))) := Lib.hid (by rw [ofN_snoc]; exact s3)
      have own : ∀ q, (Value.slice A n c).ownBlock = some q → w.heap.size ≤ q := fun q e => (S2.out.lt_ q e).1
      have C3 : Hid (Cur w3 g s j2) := Lib.hid ((CA.out _).kept g3 (fun e => by have := own g e.symm; omega))
      have G4 : Hid (w.grownBy w3 (some g)) := Lib.hid (grown_past (grown_alloc G3.out _) g3 own)
      clear s3 g3 own
      go_wp2_with fail
      by_cases hsp : ∃ hj : j2 < s.size, s[j2] = 32
      · obtain ⟨hj3, hb⟩ := hsp
        have Hr2 : Hid (R = (numsP (rest s (j2 + 1))).map fun y => ((acc ++ [x]) ++ y.1, y.2)) := Lib.hid (numsP_step_more Hr.out Hp.out (by rw [← Hrest.out, rest_cons s hj3, hb]))
        refine (curTake g j2 s 32 w3 C3.out hs hj3 hb).mono ?_
        rintro e w4 ⟨rfl, cu4, g4⟩
        have C4 := Lib.hid cu4
        have S4 : Hid (Slc w4 w.heap.size A3 (n + 1) c3 (ofN (acc ++ [x]))) := Lib.hid (S3.out.kept g4 (by
          rcases e : (Value.slice A3 (n + 1) c3).ownBlock with _ | q
          · exact .inl rfl
          · right; intro e2; have h1 := (S3.out.lt_ q e).1; injection e2 with e2; omega))
        have G5 : Hid (w.grownBy w4 (some g)) := Lib.hid ⟨g4.os.trans G4.out.os, g4.tape.trans G4.out.tape, g4.output.trans G4.out.output, Nat.le_trans G4.out.size g4.size, fun i hi hne => (g4.block i (Nat.lt_of_lt_of_le hi G4.out.size) hne).trans (G4.out.block i hi hne)⟩
        clear cu4 g4 hb
        go_wp2_with fail
        go_roundg (s.size - (j2 + 1))
        case rel => exact ⟨j2 + 1, acc ++ [x], A3, n + 1, c3, by omega, Nat.le_refl _, rfl, by omega, C4.out, S4.out, Hr2.out, G5.out⟩
        case measure => omega
      · have Rl : Hid (R = some (acc ++ [x], rest s j2)) := Lib.hid (by
          rw [numsP_step_last Hr.out Hp.out (by rw [← Hrest.out, Ne, rest_head s j2 32 hj2s]; exact hsp), Hrest.out])
        refine (curNot g j2 s 32 w3 C3.out (fun hk e => hsp ⟨hk, e⟩)).mono ?_
        rintro e w4 ⟨rfl, m4, rfl⟩
        clear hsp
        go_wp2_with fail
        go_ret2
        exact ⟨grown_drewN G4.out _, .inr ⟨_, _, A3, n + 1, c3, j2, Rl.out, rfl, S3.out.drewN _, C3.out.drewN _, rfl, by omega, by omega⟩⟩
end Go.Proofs.YtkjokchhffjidaaGreatDoor

/- The model's reading of words and numbers. Condition: at most 1000 bytes. -/
namespace Go.Proofs.YtkjokchhffjidaaGreatDoor
open Go.RowKit

/-- parseInt. -/
theorem specInt (s : ByteArray) (w : World) (hs : s.size ≤ 1000) (o : Option Nat) (ho : Hid (pW s.toList = o)) :
    Calls Tryz.prog 59 #[.string s] w fun e w' => e = .returned (.tuple #[.int .i64 (o.getD 0 : Nat), .bool o.isSome]) ∧ w = w' := by
  by_cases hz : s.size = 0
  · have z1 : decide ((s.size : Int) < 1) = true := by simp; omega
    obtain rfl : o = none := by rw [← ho.out]; unfold pW pD; rw [okD_toList, hz]; simp
    clear ho
    go_enter Tryz.func59, Tryz.ntmps59
    go_wp2
    go_ret2
    exact ⟨rfl, rfl⟩
  have z1 : decide ((s.size : Int) < 1) = false := by simp; omega
  by_cases h9 : 9 < s.size
  · have z2 : decide ((9 : Int) < s.size) = true := by simp; omega
    obtain rfl : o = none := by rw [← ho.out]; unfold pW pD; rw [okD_toList, decide_eq_false (show ¬ s.size ≤ 9 by omega)]; simp
    clear ho
    go_enter Tryz.func59, Tryz.ntmps59
    go_wp2
    go_ret2
    exact ⟨rfl, rfl⟩
  have z2 : decide ((9 : Int) < s.size) = false := by simp; omega
  have z4 : 0 < s.size := by omega
  have z5 : (0 : Int) < s.size := by omega
  by_cases z3 : s[0] = 48 ∧ 1 < s.size
  · have z6 : decide ((1 : Int) < s.size) = true := by simp; omega
    have hh : (((s[0]).toNat : Int) == 48) = true := by rw [z3.1]; rfl
    obtain rfl : o = none := by rw [← ho.out]; unfold pW pD; rw [okD_toList, head_toList s z4, z3.1, decide_eq_true z3.2]; simp
    clear ho z3
    go_enter Tryz.func59, Tryz.ntmps59
    go_wp2
    go_ret2
    exact ⟨rfl, rfl⟩
  have key : (((s[0]).toNat : Int) == 48) = false ∨ ((((s[0]).toNat : Int) == 48) = true ∧ decide ((1 : Int) < s.size) = false) := by
    by_cases e : s[0] = 48
    · exact .inr ⟨by rw [e]; rfl, by simp; have : ¬ 1 < s.size := fun h => z3 ⟨e, h⟩; omega⟩
    · left
      rw [beq_eq_false_iff_ne]
      exact fun e2 => e (UInt8.toNat_inj.1 (by have : (48 : UInt8).toNat = 48 := rfl; omega))
  have ok : Hid (okD s.toList = true) := Lib.hid (by
    rw [okD_toList, head_toList s z4, decide_eq_true (show 1 ≤ s.size by omega), decide_eq_true (show s.size ≤ 9 by omega)]
    by_cases e : s[0] = 48
    · rw [decide_eq_false (fun h => z3 ⟨e, h⟩)]; simp
    · have : (some s[0] == some (48 : UInt8)) = false := by simpa using e
      rw [this]; rfl)
  have Fin : Hid (s.toList.take s.size = s.toList) := Lib.hid (List.take_of_length_le (by rw [len_toList]; exact Nat.le_refl _))
  clear z3
  rcases key with hh | ⟨hh, z6⟩ <;> (
    go_enter Tryz.func59, Tryz.ntmps59
    go_wp2
    go_loopg [4, 5] s.size (fun gg a i wr => ∃ j, j ≤ s.size ∧ s.size - j ≤ gg ∧ i = .int .i64 (j : Nat) ∧ a = .int .i64 (dval (s.toList.take j) : Nat) ∧ (s.toList.take j).all isD = true ∧ wr = w)
    case atStart => exact ⟨0, Nat.zero_le _, by omega, rfl, rfl, rfl, rfl⟩
    case round =>
      obtain ⟨j, hj, hg, rfl, rfl, hall, rfl⟩ := hrel
      have Al := Lib.hid hall
      clear hall
      by_cases hlt : j < s.size
      · have hD : dval (s.toList.take j) < 100000000 := by
          have h2 := dval_lt (s.toList.take j) Al.out
          have h3 : (s.toList.take j).length ≤ 8 := by rw [List.length_take]; omega
          exact Nat.lt_of_lt_of_le h2 (Nat.le_trans (Nat.pow_le_pow_right (by omega) h3) (by decide))
        have k1 : (j : Int) < s.size := by omega
        have k0 : (0 : Int) ≤ j := by omega
        have Sn : Hid (dval (s.toList.take (j + 1)) = 10 * dval (s.toList.take j) + ((s[j]).toNat - 48)) := Lib.hid (by rw [take_toList s hlt, dval_snoc])
        have An : Hid ((s.toList.take (j + 1)).all isD = isD s[j]) := Lib.hid (by rw [take_toList s hlt, List.all_append, Al.out]; simp)
        obtain ⟨D, eD⟩ : ∃ D, dval (s.toList.take j) = D := ⟨_, rfl⟩
        rw [eD] at Sn hD ⊢
        clear eD
        rcases hd : isD s[j] with _ | _
        · have On : Hid (o = none) := Lib.hid (by
            rw [← ho.out]; unfold pW
            rw [if_neg]
            intro h
            have := List.all_eq_true.1 h (s.toList[j]'(by rw [len_toList]; exact hlt)) (List.getElem_mem _)
            rw [get_toList s hlt, hd] at this; cases this)
          by_cases hlo : s[j].toNat < 48
          · have d1 : decide (((s[j]).toNat : Int) < 48) = true := by simp; omega
            clear hd
            go_wp2
            go_ret2
            exact ⟨by rw [On.out]; rfl, rfl⟩
          · have d1 : decide (((s[j]).toNat : Int) < 48) = false := by simp; omega
            have d2 : decide ((57 : Int) < ((s[j]).toNat : Int)) = true := by unfold isD at hd; simp at hd; simp; omega
            clear hd
            go_wp2
            go_ret2
            exact ⟨by rw [On.out]; rfl, rfl⟩
        · have hb : 48 ≤ (s[j]).toNat ∧ (s[j]).toNat ≤ 57 := by unfold isD at hd; simp at hd; omega
          have d1 : decide (((s[j]).toNat : Int) < 48) = false := by simp; omega
          have d2 : decide ((57 : Int) < ((s[j]).toNat : Int)) = false := by simp; omega
          have An2 : Hid ((s.toList.take (j + 1)).all isD = true) := Lib.hid (An.out.trans hd)
          obtain ⟨hb1, hb2⟩ := hb
          clear hd An
          go_wp2
          go_roundg (s.size - (j + 1))
          case rel => exact ⟨j + 1, by omega, Nat.le_refl _, by go_num, by rw [Sn.out]; exact congrArg (Value.int .i64) (by omega), An2.out, rfl⟩
          case measure => omega
      · obtain rfl : j = s.size := by omega
        have On : Hid (o = some (dval s.toList)) := Lib.hid (by
          have := Al.out; rw [Fin.out] at this
          rw [← ho.out]; unfold pW pD; rw [if_pos this, if_pos ok.out])
        rw [Fin.out]
        go_wp2
        go_ret2
        exact ⟨by rw [On.out]; rfl, rfl⟩)

/-- A row of the call's own that holds the texts ws. -/
def Txs (w : World) (base : Nat) (A : Option Addr) (n c : Nat) (ws : List ByteArray) : Prop := ws.length = n ∧ w.ownsRow base 9 1 (.slice A n c) n (ws.map Value.string)
section
variable {w w' : World} {base B n c : Nat} {A : Option Addr} {ws : List ByteArray}
theorem Txs.lit0 (w : World) (base : Nat) (hb : base ≤ w.heap.size) : Txs (w.alloc (.cells #[] 9)) base (some ⟨w.heap.size, 0, none⟩) 0 0 [] :=
  ⟨rfl, World.ownsRow_lit (size := 1) w #[] 0 hb (Nat.zero_le _) rfl⟩
theorem Txs.alloc (h : Txs w base A n c ws) (o : Obj) : Txs (w.alloc o) base A n c ws := ⟨h.1, World.ownsRow.alloc h.2 o⟩
theorem Txs.drewN (h : Txs w base A n c ws) (k : Nat) : Txs (w.drewN k) base A n c ws := h
theorem Txs.lt_ (h : Txs w base A n c ws) : ∀ k, (Value.slice A n c).ownBlock = some k → base ≤ k ∧ k < w.heap.size := World.ownsRow.lt h.2
theorem Txs.kept (h : Txs w base A n c ws) {row : Option Nat} (hg : w.grownBy w' row) (hne : (Value.slice A n c).ownBlock = none ∨ (Value.slice A n c).ownBlock ≠ row) : Txs w' base A n c ws := ⟨h.1, World.ownsRow.kept h.2 hg hne⟩
theorem Txs.mono (h : Txs w base A n c ws) {base' : Nat} (hb : base' ≤ base) : Txs w base' A n c ws := by
  refine ⟨h.1, h.2.1, ?_⟩
  rcases h.2.2 with hn | ⟨g, cap, cur, e, hb', rest⟩
  · exact .inl hn
  · exact .inr ⟨g, cap, cur, e, by omega, rest⟩
theorem Txs.up (h : Txs w base A n c ws) (hb : Below w.heap.size w w') : Txs w' base A n c ws := by
  refine ⟨h.1, h.2.1, ?_⟩
  rcases h.2.2 with hn | ⟨g, cap, cur, e, hb', hg, rest⟩
  · exact .inl hn
  · exact .inr ⟨g, cap, cur, e, hb', by rw [hb.block g (Array.getElem?_eq_some_iff.1 hg).1]; exact hg, rest⟩
theorem Txs.at_ (h : Txs w base A n c ws) (hn : 0 < n) : ∃ g, A = some ⟨g, 0, none⟩ ∧ base ≤ g ∧ g < w.heap.size ∧ ∀ i (hi : i < ws.length), w.cell? ⟨g, i, none⟩ = some (.string ws[i]) := by
  rcases h.2.2 with ⟨e, h0⟩ | ⟨g, cap, cur, e, hb, hg, rest⟩
  · omega
  · injection e with e1 e2 e3
    subst e1
    refine ⟨g, rfl, hb, (Array.getElem?_eq_some_iff.1 hg).1, fun i hi => ?_⟩
    rw [h.2.cellAt i (by have := h.1; omega), List.getElem?_map, List.getElem?_eq_getElem hi]
    rfl
end
theorem infoT : (Tryz.prog.info? 9).map (fun i => (i.zero, i.size, i.bytes)) = some (some (.string ⟨#[]⟩), 1, 16) := by kernel_rfl
/-- append of one text onto a row of texts of the call's own. -/
theorem wpList_appT {w : World} {ops : Array Oper} {rest : List Oper} {o : Oper} {a : Act} {Q : Exit → Act → World → Prop} (hgd : o.guard = none) (s x : Operand)
    (ho : o.op = .call { callee := .builtin .append, args := #[s, x], argTypes := #[55, 55] })
    (base : Nat) (A : Option Addr) (n c : Nat) (ws : List ByteArray) (hs : a.eval s = .slice A n c) (hown : Txs w base A n c ws) (g : Nat) (u : ByteArray) (hx : a.eval x = .slice (some ⟨g, 0, none⟩) 1 1)
    (hcell : w.cell? ⟨g, 0, none⟩ = some (.string u)) (hn : n ≤ 1000000000000) (hbase : base ≤ w.heap.size)
    (h : ∀ A' c' w', Txs w' base A' (n + 1) c' (ws ++ [u]) → w.grownBy w' (Value.slice A n c).ownBlock → wpList Tryz.prog ops Q rest (a.put o.dst (.slice A' (n + 1) c')) w') : wpList Tryz.prog ops Q (o :: rest) a w := by
  obtain ⟨i0, hi, hz0, hz1, hz2⟩ := info_parts infoT
  obtain ⟨hl, ho'⟩ := hown
  refine wpList_append_own w hgd s x 55 ho base 9 i0 (.string ⟨#[]⟩) 1 16 Tryz.underlying55 hi hz0 hz1 hz2 rfl (by decide) _ n _ hs ho' ⟨g, 0, none⟩ 1 1 [.string u] hx rfl ?_ ?_ ?_ (by omega) hbase ?_
  · intro j v hj
    match j, hj with
    | 0, hj => simp at hj; subst hj; simpa [Addr.add] using hcell
    | j + 1, hj => simp at hj
  · intro v hv; simp at hv; subst hv; rfl
  · unfold maxLen; omega
  · intro v' w' hown' hg _
    have hform : ∃ A' c', v' = .slice A' (n + 1) c' := by
      rcases hown'.2 with ⟨rfl, h0⟩ | ⟨g', cap, cur, rfl, _⟩
      · omega
      · exact ⟨_, _, rfl⟩
    obtain ⟨A', c', rfl⟩ := hform
    exact h A' c' w' ⟨by simp [hl], by rw [List.map_append]; exact hown'⟩ hg
theorem splitB_take {b : UInt8} {l : List UInt8} {m : Nat} (hm : m < l.length) (he : l[m] = b) (hn : ∀ j (hj : j < l.length), j < m → l[j] ≠ b) : splitB b l = l.take m :: splitB b (l.drop (m + 1)) := by
  have e : l = l.take m ++ b :: l.drop (m + 1) := by
    rw [← he, ← List.drop_eq_getElem_cons hm, List.take_append_drop]
  conv => lhs; rw [e]
  refine splitB_sep b _ _ fun x hx => ?_
  obtain ⟨j, hj, rfl⟩ := List.getElem_of_mem hx
  rw [List.length_take] at hj
  rw [List.getElem_take]
  exact hn j (by omega) (by omega)

theorem rest_len (s : ByteArray) (f : Nat) : (rest s f).length = s.size - f := by show (s.toList.drop f).length = _; rw [List.length_drop, len_toList]
theorem rest_get (s : ByteArray) (f i : Nat) (h : i < (rest s f).length) (h2 : f + i < s.size) : (rest s f)[i] = s[f + i] := by
  have e : (rest s f)[i]? = some s[f + i] := by
    unfold rest
    rw [List.getElem?_drop, List.getElem?_eq_getElem (by rw [len_toList]; exact h2), get_toList s h2]
  exact Option.some.inj ((List.getElem?_eq_getElem h).symm.trans e)
theorem rest_get' (s : ByteArray) (f j : Nat) (hf : f ≤ j) (h : j - f < (rest s f).length) (h2 : j < s.size) : (rest s f)[j - f] = s[j] := by
  rw [rest_get s f (j - f) h (by omega)]
  congr 1; omega

set_option maxHeartbeats 1000000 in
/-- splitText. -/
theorem specSplit (s : ByteArray) (b : UInt8) (w : World) (hs : s.size ≤ 1000) :
    Calls Tryz.prog 44 #[.string s, .int .u8 (b.toNat : Int)] w fun e w' => ∃ A n c ws, e = .returned (.slice A n c) ∧ Txs w' w.heap.size A n c ws ∧ ws.map ByteArray.toList = splitB b s.toList ∧ 1 ≤ n ∧ n ≤ 1001 ∧ (∀ u ∈ ws, u.size ≤ s.size) ∧ Below w.heap.size w w' := by
  go_enter Tryz.func44, Tryz.ntmps44
  go_wp2
  go_loopg [5, 6, 7] (s.size + 1) (fun gg v fr i wr => ∃ j f A n c ws, j ≤ s.size + 1 ∧ f ≤ j ∧ s.size + 1 - j ≤ gg ∧ i = .int .i64 (j : Nat) ∧ fr = .int .i64 (f : Nat) ∧ v = .slice A n c ∧ n ≤ f ∧ Txs wr w.heap.size A n c ws ∧ Below w.heap.size w wr ∧ (∀ u ∈ ws, u.size ≤ s.size) ∧
    (j ≤ s.size → ws.map ByteArray.toList ++ splitB b (rest s f) = splitB b s.toList) ∧ (j ≤ s.size → f ≤ s.size) ∧ (s.size < j → ws.map ByteArray.toList = splitB b s.toList) ∧ (∀ i (hi : i < s.size), f ≤ i → i < j → s[i] ≠ b))
  case atStart => exact ⟨0, 0, _, _, _, [], Nat.zero_le _, Nat.le_refl _, by omega, rfl, rfl, rfl, Nat.le_refl _, Txs.lit0 w _ (Nat.le_refl _), (Below.refl _ _).alloc (Nat.le_refl _) _, fun u h => (nomatch h), fun _ => rfl, fun _ => Nat.zero_le _, fun h => absurd h (by omega), fun i _ _ h => absurd h (by omega)⟩
  case round =>
    obtain ⟨j, f, A, n, c, ws, hj, hfj, hg, rfl, rfl, rfl, hnf, tx, bel, hsz, hcat, hfs, hend, hno⟩ := hrel
    have Tx := Lib.hid tx
    have Bel := Lib.hid bel
    have Sz := Lib.hid hsz
    have Cat := Lib.hid hcat
    have Fs := Lib.hid hfs
    have En := Lib.hid hend
    have No := Lib.hid hno
    clear tx bel hsz hcat hfs hend hno
    by_cases hle : j ≤ s.size
    · have hf := Fs.out hle
      have q0 : (0 : Int) ≤ f := by omega
      have q1 : (f : Int) ≤ j := by omega
      have q2 : (j : Int) ≤ s.size := by omega
      have p0 : (0 : Int) ≤ j := by omega
      by_cases hjs : j = s.size
      · have e1 : ((j : Int) == (s.size : Int)) = true := by rw [beq_iff_eq]; omega
        have ex : Hid ((s.extract f j).toList = rest s f) := Lib.hid (by
          rw [extract_toList]; unfold rest; rw [hjs]
          exact List.take_of_length_le (by rw [List.length_drop, len_toList]; exact Nat.le_refl _))
        have wd : Hid (splitB b (rest s f) = [rest s f]) := Lib.hid (splitB_word b _ fun x hx => by
          obtain ⟨i, hi, rfl⟩ := List.getElem_of_mem hx
          have hi2 := hi
          rw [rest_len] at hi2
          rw [rest_get s f i hi (by omega)]
          exact No.out (f + i) (by omega) (by omega) (by omega))
        have Hjs := Lib.hid hjs
        clear hjs
        go_wp2_with (first | (at_builtin; refine wpList_appT rfl _ _ rfl w.heap.size A n c _ rfl (Tx.out.alloc _) wr.heap.size (s.extract f j) rfl (by rw [World.cell?_alloc_at _ _ _ _ rfl]; rfl) (by omega) (by have := Bel.out.size; simp; omega) ?_; intro A3 c3 w3 s3 g3))
        have S3 := Lib.hid s3
        have Bel3 : Hid (Below w.heap.size w w3) := Lib.hid ((Bel.out.alloc Bel.out.size _).grown g3 (by have := Bel.out.size; simp; omega) (fun k e => (Tx.out.lt_ k e).1))
        clear s3 g3
        go_wp2
        go_roundg (s.size + 1 - (j + 1))
        case rel =>
          have hjs := Hjs.out
          refine ⟨j + 1, j + 1, A3, n + 1, c3, _, by omega, Nat.le_refl _, Nat.le_refl _, by go_num, by go_num, rfl, by omega, S3.out, Bel3.out, ?_, fun h => absurd h (by omega), fun h => absurd h (by omega), fun _ => ?_, fun i _ h1 h2 => absurd h2 (by omega)⟩
          · intro u hu
            rw [List.mem_append] at hu
            rcases hu with hu | hu
            · exact Sz.out u hu
            · simp at hu; subst hu; rw [ByteArray.size_extract]; omega
          · rw [List.map_append, ← Cat.out hle, wd.out]
            show _ ++ [(s.extract f j).toList] = _
            rw [ex.out]
        case measure => omega
      · have hlt : j < s.size := by omega
        have e1 : ((j : Int) == (s.size : Int)) = false := by rw [beq_eq_false_iff_ne]; omega
        have k1 : (j : Int) < s.size := by omega
        by_cases hb : s[j] = b
        · have t1 : (((s[j]).toNat : Int) == (b.toNat : Int)) = true := by rw [hb]; simp
          have ex : Hid ((s.extract f j).toList = (rest s f).take (j - f)) := Lib.hid (by rw [extract_toList]; rfl)
          have wd : Hid (splitB b (rest s f) = (rest s f).take (j - f) :: splitB b (rest s (j + 1))) := Lib.hid (by
            have h1 : j - f < (rest s f).length := by rw [rest_len]; omega
            have h2 := splitB_take (b := b) (l := rest s f) (m := j - f) h1 (by rw [rest_get' s f j hfj h1 hlt, hb]) (fun i hi h => by
                have hi2 := hi
                rw [rest_len] at hi2
                rw [rest_get s f i hi (by omega)]
                exact No.out (f + i) (by omega) (by omega) (by omega))
            rw [h2]
            congr 2
            unfold rest
            rw [List.drop_drop]
            congr 1; omega)
          clear hb
          go_wp2_with (first | (at_builtin; refine wpList_appT rfl _ _ rfl w.heap.size A n c _ rfl (Tx.out.alloc _) wr.heap.size (s.extract f j) rfl (by rw [World.cell?_alloc_at _ _ _ _ rfl]; rfl) (by omega) (by have := Bel.out.size; simp; omega) ?_; intro A3 c3 w3 s3 g3))
          have S3 := Lib.hid s3
          have Bel3 : Hid (Below w.heap.size w w3) := Lib.hid ((Bel.out.alloc Bel.out.size _).grown g3 (by have := Bel.out.size; simp; omega) (fun k e => (Tx.out.lt_ k e).1))
          clear s3 g3
          go_wp2
          go_roundg (s.size + 1 - (j + 1))
          case rel =>
            refine ⟨j + 1, j + 1, A3, n + 1, c3, _, by omega, Nat.le_refl _, Nat.le_refl _, by go_num, by go_num, rfl, by omega, S3.out, Bel3.out, ?_, fun h => ?_, fun h => by omega, fun h => absurd h (by omega), fun i _ h1 h2 => absurd h2 (by omega)⟩
            · intro u hu
              rw [List.mem_append] at hu
              rcases hu with hu | hu
              · exact Sz.out u hu
              · simp at hu; subst hu; rw [ByteArray.size_extract]; omega
            · rw [List.map_append, ← Cat.out hle, wd.out, List.append_assoc]
              show _ ++ ([(s.extract f j).toList] ++ _) = _
              rw [ex.out]; rfl
          case measure => omega
        · have t1 : (((s[j]).toNat : Int) == (b.toNat : Int)) = false := by
            rw [beq_eq_false_iff_ne]; exact fun e => hb (UInt8.toNat_inj.1 (by omega))
          have No2 : Hid (∀ i (hi : i < s.size), f ≤ i → i < j + 1 → s[i] ≠ b) := Lib.hid fun i hi h1 h2 => by
            by_cases e : i = j
            · subst e; exact hb
            · exact No.out i hi h1 (by omega)
          clear hb
          go_wp2
          go_roundg (s.size + 1 - (j + 1))
          case rel => exact ⟨j + 1, f, A, n, c, ws, by omega, by omega, Nat.le_refl _, by go_num, rfl, rfl, hnf, Tx.out, Bel.out, Sz.out, fun _ => Cat.out hle, fun _ => hf, fun h => absurd h (by omega), No2.out⟩
          case measure => omega
    · have Ee := Lib.hid (En.out (by omega))
      have n1 : 1 ≤ n := by
        have := congrArg List.length Ee.out
        rw [List.length_map, Tx.out.1] at this
        have h2 := splitB_ne b s.toList
        cases e : splitB b s.toList with
        | nil => exact absurd e h2
        | cons x y => rw [e] at this; simp at this; omega
      go_wp2
      go_ret
      exact ⟨_, _, _, ws, rfl, Tx.out, Ee.out, n1, by omega, Sz.out, Bel.out⟩
end Go.Proofs.YtkjokchhffjidaaGreatDoor
