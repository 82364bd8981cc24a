/- Plain facts on permutations as lists of numbers: iterates, periods, cycles, orders. No Go in it. No condition. -/
namespace Go.Proofs.Ytonanelghnjhpab

theorem ndlen : ∀ (n : Nat) (l : List Nat), l.Nodup → (∀ x ∈ l, x < n) → l.length ≤ n := by
  intro n
  induction n with
  | zero =>
    intro l _ h
    cases l with
    | nil => simp
    | cons a t => exact absurd (h a (by simp)) (by omega)
  | succ n ih =>
    intro l hd h
    have h1 : (l.filter (fun x => x != n)).length ≤ n := by
      refine ih _ (hd.filter _) ?_
      intro x hx
      rw [List.mem_filter] at hx
      have := h x hx.1
      have h2 : x ≠ n := by simpa using hx.2
      omega
    have h2 : l.length ≤ (l.filter (fun x => x != n)).length + 1 := by
      clear ih h h1
      induction l with
      | nil => simp
      | cons a t iht =>
        rw [List.nodup_cons] at hd
        by_cases ha : a = n
        · subst ha
          have : t.filter (fun x => x != a) = t := by
            rw [List.filter_eq_self]
            intro x hx
            have : x ≠ a := fun e => hd.1 (e ▸ hx)
            simpa using this
          simp [this]
        · have := iht hd.2
          simp [ha]; omega
    omega

/-- The point that follows i. -/
def nx (p : List Int) (i : Nat) : Nat := (p.getD i 0).toNat

structure IsP (p : List Int) : Prop where
  pos : 1 ≤ p.length
  le : p.length ≤ 20
  lo : ∀ i, i < p.length → 0 ≤ p.getD i 0
  hi : ∀ i, i < p.length → p.getD i 0 < p.length
  inj : ∀ i j, i < p.length → j < p.length → p.getD i 0 = p.getD j 0 → i = j

def it (p : List Int) : Nat → Nat → Nat
  | 0, x => x
  | k + 1, x => nx p (it p k x)

section
variable {p : List Int} (h : IsP p)
include h

theorem nx_lt {x : Nat} (hx : x < p.length) : nx p x < p.length := by
  have := h.hi x hx; have := h.lo x hx; unfold nx; omega
theorem nx_val {x : Nat} (hx : x < p.length) : p.getD x 0 = (nx p x : Int) := by
  have := h.lo x hx; unfold nx; omega
theorem nx_inj {x y : Nat} (hx : x < p.length) (hy : y < p.length) (e : nx p x = nx p y) : x = y :=
  h.inj x y hx hy (by rw [nx_val h hx, nx_val h hy, e])
theorem it_lt {x : Nat} (hx : x < p.length) (k : Nat) : it p k x < p.length := by
  induction k with
  | zero => exact hx
  | succ k ih => exact nx_lt h ih
theorem it_inj {x y : Nat} (hx : x < p.length) (hy : y < p.length) (k : Nat) (e : it p k x = it p k y) : x = y := by
  induction k with
  | zero => exact e
  | succ k ih => exact ih (nx_inj h (it_lt h hx k) (it_lt h hy k) e)
end

theorem it_add (p : List Int) (a b x : Nat) : it p (a + b) x = it p a (it p b x) := by
  induction a with
  | zero => simp [it]
  | succ a ih => rw [Nat.succ_add]; simp [it, ih]
theorem it_comm (p : List Int) (a b x : Nat) : it p a (it p b x) = it p b (it p a x) := by
  rw [← it_add, ← it_add, Nat.add_comm]

theorem ret_ex {p : List Int} (h : IsP p) {x : Nat} (hx : x < p.length) : ∃ k, 1 ≤ k ∧ k ≤ p.length ∧ it p k x = x := by
  refine Classical.byContradiction fun hne => ?_
  have hne' : ∀ k, 1 ≤ k → k ≤ p.length → it p k x ≠ x := fun k h1 h2 e => hne ⟨k, h1, h2, e⟩
  have key : ((List.range (p.length + 1)).map fun k => it p k x).Nodup := by
    rw [List.Nodup, List.pairwise_map]
    rw [List.pairwise_iff_getElem]
    intro i j hi hj hij e
    simp only [List.length_range] at hi hj
    simp only [List.getElem_range] at e
    have e2 : it p i (it p (j - i) x) = it p i x := by rw [← it_add]; rw [e]; congr 1; omega
    exact hne' (j - i) (by omega) (by omega) (it_inj h (it_lt h hx _) hx i e2)
  have := ndlen p.length _ key (by intro y hy; simp only [List.mem_map] at hy; obtain ⟨k, _, rfl⟩ := hy; exact it_lt h hx k)
  rw [List.length_map, List.length_range] at this
  omega

def per (p : List Int) (x : Nat) : Nat := ((List.range' 1 p.length).find? (fun k => it p k x == x)).getD 1

theorem per_spec {p : List Int} (h : IsP p) {x : Nat} (hx : x < p.length) :
    1 ≤ per p x ∧ per p x ≤ p.length ∧ it p (per p x) x = x ∧ ∀ k, 1 ≤ k → k < per p x → it p k x ≠ x := by
  obtain ⟨k0, h1, h2, h3⟩ := ret_ex h hx
  have hsome : ((List.range' 1 p.length).find? (fun k => it p k x == x)).isSome := by
    rw [List.find?_isSome]
    exact ⟨k0, by rw [List.mem_range'_1]; omega, by simpa using h3⟩
  obtain ⟨m, hm⟩ := Option.isSome_iff_exists.1 hsome
  have hp : per p x = m := by unfold per; rw [hm]; rfl
  rw [hp]
  have hmem := List.mem_of_find?_eq_some hm
  have hval := List.find?_some hm
  rw [List.mem_range'_1] at hmem
  refine ⟨hmem.1, by omega, by simpa using hval, ?_⟩
  intro k hk1 hk2 e
  rw [List.find?_eq_some_iff_getElem] at hm
  obtain ⟨_, i, hi, hget, hbef⟩ := hm
  rw [List.getElem_range'] at hget
  simp at hget
  have := hbef (k - 1) (by omega)
  rw [List.getElem_range'] at this
  simp at this
  apply this
  rw [show 1 + (k - 1) = k from by omega]; exact e

theorem it_mod {p : List Int} (h : IsP p) {x : Nat} (hx : x < p.length) (k : Nat) : it p k x = it p (k % per p x) x := by
  obtain ⟨h1, _, h3, _⟩ := per_spec h hx
  have hmul : ∀ q, it p (q * per p x) x = x := by
    intro q
    induction q with
    | zero => simp [it]
    | succ q ih => rw [Nat.succ_mul, it_add, h3, ih]
  have := Nat.div_add_mod k (per p x)
  rw [Nat.mul_comm] at this
  calc it p k x = it p (k % per p x + k / per p x * per p x) x := by rw [Nat.add_comm, this]
    _ = _ := by rw [it_add, hmul]

theorem it_eq_iff {p : List Int} (h : IsP p) {x : Nat} (hx : x < p.length) (k : Nat) : it p k x = x ↔ k % per p x = 0 := by
  obtain ⟨h1, _, h3, h4⟩ := per_spec h hx
  rw [it_mod h hx k]
  constructor
  · intro e
    refine Classical.byContradiction fun hne => ?_
    exact h4 (k % per p x) (by omega) (Nat.mod_lt _ (by omega)) e
  · intro e; rw [e]; rfl

/-- Points of one cycle have one period. -/
theorem per_it {p : List Int} (h : IsP p) {x : Nat} (hx : x < p.length) (k : Nat) : per p (it p k x) = per p x := by
  have hy := it_lt h hx k
  have key : ∀ m, it p m (it p k x) = it p k x ↔ it p m x = x := fun m => by
    rw [it_comm]
    exact ⟨fun e => it_inj h (it_lt h hx m) hx k e, fun e => by rw [e]⟩
  obtain ⟨a1, _, a3, a4⟩ := per_spec h hx
  obtain ⟨b1, _, b3, b4⟩ := per_spec h hy
  rcases Nat.lt_trichotomy (per p (it p k x)) (per p x) with hlt | heq | hgt
  · exact absurd ((key _).1 b3) (a4 _ b1 hlt)
  · exact heq
  · exact absurd ((key _).2 a3) (b4 _ a1 hgt)

/-- The points that follow x, x first. -/
def cyc (p : List Int) (x : Nat) : List Int := (List.range (per p x)).map fun k => (it p k x : Int)
/-- x is the smallest point of its cycle. -/
def st (p : List Int) (x : Nat) : Bool := (List.range (per p x)).all fun k => decide (x ≤ it p k x)
def cycs (p : List Int) : List (List Int) := ((List.range p.length).filter (st p)).map (cyc p)

theorem cyc_length (p : List Int) (x : Nat) : (cyc p x).length = per p x := by simp [cyc]


instance (p : List Int) : Decidable (∀ i j, i < p.length → j < p.length → p.getD i 0 = p.getD j 0 → i = j) :=
  decidable_of_iff (∀ i, i < p.length → ∀ j, j < p.length → p.getD i 0 = p.getD j 0 → i = j) ⟨fun h i j a b c => h i a j b c, fun h i a j b c => h i j a b c⟩

def isP (p : List Int) : Bool :=
  decide (1 ≤ p.length) && decide (p.length ≤ 20) && decide (∀ i, i < p.length → 0 ≤ p.getD i 0) && decide (∀ i, i < p.length → p.getD i 0 < p.length) &&
    decide (∀ i, i < p.length → ∀ j, j < p.length → p.getD i 0 = p.getD j 0 → i = j)
theorem isP_iff {p : List Int} : isP p = true ↔ IsP p := by
  unfold isP
  simp only [Bool.and_eq_true, decide_eq_true_eq]
  constructor
  · rintro ⟨⟨⟨⟨a, b⟩, c⟩, d⟩, e⟩
    exact ⟨a, b, c, d, fun i j hi hj => e i hi j hj⟩
  · rintro ⟨a, b, c, d, e⟩
    exact ⟨⟨⟨⟨a, b⟩, c⟩, d⟩, fun i hi j hj => e i j hi hj⟩

/-- The first k entries are in range and differ from one another. -/
def okTo (p : List Int) (k : Nat) : Prop :=
  (∀ i, i < k → 0 ≤ p.getD i 0 ∧ p.getD i 0 < p.length) ∧ ∀ i j, i < j → j < k → p.getD i 0 ≠ p.getD j 0
theorem okTo_zero (p : List Int) : okTo p 0 := ⟨fun i h => absurd h (by omega), fun i j _ h => absurd h (by omega)⟩
theorem okTo_succ {p : List Int} {k : Nat} (h : okTo p k) (h0 : 0 ≤ p.getD k 0) (h1 : p.getD k 0 < p.length) (h2 : ∀ i, i < k → p.getD i 0 ≠ p.getD k 0) : okTo p (k + 1) := by
  refine ⟨fun i hi => ?_, fun i j hij hj => ?_⟩
  · by_cases e : i = k
    · subst e; exact ⟨h0, h1⟩
    · exact h.1 i (by omega)
  · by_cases e : j = k
    · subst e; exact h2 i hij
    · exact h.2 i j hij (by omega)
theorem isP_of_ok {p : List Int} (a : 1 ≤ p.length) (b : p.length ≤ 20) (h : okTo p p.length) : isP p = true := by
  rw [isP_iff]
  refine ⟨a, b, fun i hi => (h.1 i hi).1, fun i hi => (h.1 i hi).2, fun i j hi hj e => ?_⟩
  rcases Nat.lt_trichotomy i j with hl | he | hg
  · exact absurd e (h.2 i j hl hj)
  · exact he
  · exact absurd e.symm (h.2 j i hg hi)
theorem isP_no_range {p : List Int} {k : Nat} (hk : k < p.length) (h : p.getD k 0 < 0 ∨ (p.length : Int) ≤ p.getD k 0) : isP p = false := by
  rw [Bool.eq_false_iff]
  intro e
  rw [isP_iff] at e
  have := e.lo k hk
  have := e.hi k hk
  omega
theorem isP_no_twice {p : List Int} {i k : Nat} (hk : k < p.length) (hi : i < k) (h : p.getD i 0 = p.getD k 0) : isP p = false := by
  rw [Bool.eq_false_iff]
  intro e
  rw [isP_iff] at e
  have := e.inj i k (by omega) hk h
  omega
theorem isP_no_len {p : List Int} (h : p.length < 1 ∨ 20 < p.length) : isP p = false := by
  rw [Bool.eq_false_iff]
  intro e
  rw [isP_iff] at e
  have := e.pos
  have := e.le
  omega

def idL (n : Nat) : List Int := (List.range n).map Int.ofNat
def compL (p q : List Int) : List Int := p.map fun x => q.getD x.toNat 0
def invL (p : List Int) : Nat → List Int
  | 0 => List.replicate p.length 0
  | k + 1 => (invL p k).set (p.getD k 0).toNat k
def powL (p : List Int) (k : Int) : List Int := (List.range p.length).map fun i => (it p (k % (per p i : Int)).toNat i : Int)
def lcmL (l : List Nat) : Nat := l.foldl Nat.lcm 1
def ordL (p : List Int) : Nat := lcmL ((List.range p.length).map (per p))
def cycl (p : List Int) : List (List Int) := (cycs p).filter fun c => decide (1 < c.length)
def sgn (p : List Int) : Int := if (p.length - (cycs p).length) % 2 = 0 then 1 else -1
def supp (p : List Int) : List Int := ((List.range p.length).filter fun i => p.getD i 0 != (i : Int)).map Int.ofNat
/-- p comes first: the first entry that differs is smaller. -/
def lessL : List Int → List Int → Bool
  | a :: p, b :: q => if a = b then lessL p q else decide (a < b)
  | _, _ => false

theorem foldl_lcm (l : List Nat) (a : Nat) : l.foldl Nat.lcm a = Nat.lcm a (lcmL l) := by
  unfold lcmL
  induction l generalizing a with
  | nil => simp
  | cons b t ih => simp only [List.foldl_cons]; rw [ih, ih (Nat.lcm 1 b), Nat.lcm_one_left, Nat.lcm_assoc]
theorem lcmL_snoc (l : List Nat) (a : Nat) : lcmL (l ++ [a]) = Nat.lcm (lcmL l) a := by simp [lcmL]
theorem dvd_lcmL {l : List Nat} {a : Nat} (h : a ∈ l) : a ∣ lcmL l := by
  induction l with
  | nil => cases h
  | cons b t ih =>
    have : lcmL (b :: t) = Nat.lcm b (lcmL t) := by unfold lcmL; simp only [List.foldl_cons]; rw [foldl_lcm, Nat.lcm_one_left]; rfl
    rw [this]
    rcases List.mem_cons.1 h with rfl | h
    · exact Nat.dvd_lcm_left _ _
    · exact Nat.dvd_trans (ih h) (Nat.dvd_lcm_right _ _)
theorem lcmL_dvd {l : List Nat} {m : Nat} (h : ∀ a ∈ l, a ∣ m) : lcmL l ∣ m := by
  induction l with
  | nil => simp [lcmL]
  | cons b t ih =>
    have : lcmL (b :: t) = Nat.lcm b (lcmL t) := by unfold lcmL; simp only [List.foldl_cons]; rw [foldl_lcm, Nat.lcm_one_left]; rfl
    rw [this]
    exact Nat.lcm_dvd (h b (by simp)) (ih fun a ha => h a (by simp [ha]))
theorem lcmL_pos {l : List Nat} (h : ∀ a ∈ l, 1 ≤ a ∧ a ≤ 20) : 1 ≤ lcmL l ∧ lcmL l ≤ 232792560 := by
  have hd : lcmL l ∣ 232792560 := lcmL_dvd fun a ha => by
    obtain ⟨h1, h2⟩ := h a ha
    have : ∀ a : Fin 21, 1 ≤ a.val → a.val ∣ 232792560 := by decide
    exact this ⟨a, by omega⟩ h1
  have hle := Nat.le_of_dvd (by decide) hd
  refine ⟨?_, hle⟩
  rcases Nat.eq_zero_or_pos (lcmL l) with e | e
  · rw [e] at hd; exact absurd (Nat.eq_zero_of_zero_dvd hd) (by decide)
  · exact e

/-- Every point lies in the cycle of a smallest point. -/
theorem min_ex {p : List Int} (h : IsP p) {x : Nat} (hx : x < p.length) : ∃ c j, c < p.length ∧ st p c = true ∧ j < per p c ∧ it p j c = x := by
  obtain ⟨h1, h2, h3, h4⟩ := per_spec h hx
  have hmin : ∀ m, 1 ≤ m → m ≤ per p x → ∃ i, i < m ∧ ∀ j, j < m → it p i x ≤ it p j x := by
    intro m
    induction m with
    | zero => omega
    | succ m ih =>
      intro _ hm
      by_cases h0 : m = 0
      · subst h0; exact ⟨0, by omega, fun j hj => by rw [show j = 0 from by omega]; exact Nat.le_refl _⟩
      · obtain ⟨i, hi, hle⟩ := ih (by omega) (by omega)
        by_cases hc : it p i x ≤ it p m x
        · exact ⟨i, by omega, fun j hj => by
            by_cases e : j = m
            · subst e; exact hc
            · exact hle j (by omega)⟩
        · exact ⟨m, by omega, fun j hj => by
            by_cases e : j = m
            · subst e; exact Nat.le_refl _
            · have := hle j (by omega); omega⟩
  obtain ⟨i, hi, hle⟩ := hmin (per p x) h1 (Nat.le_refl _)
  have hpc := per_it h hx i
  refine ⟨it p i x, per p x - i - (if i = 0 then per p x else 0), it_lt h hx i, ?_, ?_, ?_⟩
  · unfold st
    rw [List.all_eq_true]
    intro k hk
    rw [List.mem_range, hpc] at hk
    rw [decide_eq_true_eq, ← it_add, it_mod h hx (k + i)]
    exact hle _ (Nat.mod_lt _ (by omega))
  · rw [hpc]; split <;> omega
  · by_cases e : i = 0
    · subst e; simp [it]
    · rw [if_neg e, ← it_add, show per p x - i - 0 + i = per p x from by omega, h3]

theorem mem_cycs_per {p : List Int} (h : IsP p) : ordL p = lcmL ((cycs p).map List.length) := by
  have hl : (cycs p).map List.length = ((List.range p.length).filter (st p)).map (per p) := by
    unfold cycs; rw [List.map_map]; congr 1; funext x; simp [cyc_length]
  rw [hl]
  apply Nat.dvd_antisymm
  · refine lcmL_dvd fun a ha => ?_
    rw [List.mem_map] at ha
    obtain ⟨x, hx, rfl⟩ := ha
    rw [List.mem_range] at hx
    obtain ⟨c, j, hc, hst, hj, e⟩ := min_ex h hx
    rw [← e, per_it h hc]
    exact dvd_lcmL (List.mem_map.2 ⟨c, List.mem_filter.2 ⟨List.mem_range.2 hc, hst⟩, rfl⟩)
  · refine lcmL_dvd fun a ha => ?_
    rw [List.mem_map] at ha
    obtain ⟨x, hx, rfl⟩ := ha
    exact dvd_lcmL (List.mem_map.2 ⟨x, (List.mem_filter.1 hx).1, rfl⟩)

end Go.Proofs.Ytonanelghnjhpab
