/- Part 2 of the texts: ChM, ChS, ChH, ChU, ChW, ChP, ChA, ChG, SSh, SSo, ChE, Src. No condition of its own: each text tells its own. -/
import Derived.Test.YtkjokchhffjidaaMg1
import Derived.BigQuiet
import Derived.RegionTactic
import Derived.BigRegion
import Derived.Deep.RegionLaw
import Derived.Maps.AppendAt
import Derived.Deep.CutRange
import Derived.Deep.LoopGhost
set_option linter.unusedVariables false
set_option linter.unusedSimpArgs false

/- Groups of permutations and stabilizer chains: what a chain holds, when it is whole, how it grows. No Go in it. No condition. -/
namespace Go.Proofs.Ytkjokchhffjidaa
open Go.RowKit

/-- A permutation of degree N. -/
def Pn (N : Nat) (p : List Int) : Prop := IsP p ∧ p.length = N
/-- It moves nothing below k. -/
def Fx (k : Nat) (p : List Int) : Prop := ∀ i, i < k → nx p i = i
def iv (p : List Int) : List Int := invL p p.length

section
variable {N k : Nat} {p q r : List Int}
theorem Pn.ext (hp : Pn N p) (hq : Pn N q) (h : ∀ x, x < N → nx p x = nx q x) : p = q :=
  ext_getD hp.2 hq.2 fun x hx => by rw [nx_val hp.1 (by rw [hp.2]; exact hx), nx_val hq.1 (by rw [hq.2]; exact hx), h x hx]
theorem Pn.lt (hp : Pn N p) {x : Nat} (hx : x < N) : nx p x < N := by have := nx_lt hp.1 (x := x) (by rw [hp.2]; exact hx); rw [hp.2] at this; exact this
theorem Pn.inj (hp : Pn N p) {x y : Nat} (hx : x < N) (hy : y < N) (e : nx p x = nx p y) : x = y := nx_inj hp.1 (by rw [hp.2]; exact hx) (by rw [hp.2]; exact hy) e
theorem Pn.pos (hp : Pn N p) : 1 ≤ N ∧ N ≤ 20 := by have h1 := hp.1.pos; have h2 := hp.1.le; rw [hp.2] at h1 h2; exact ⟨h1, h2⟩
theorem Pn.comp (hp : Pn N p) (hq : Pn N q) : Pn N (compL p q) := ⟨isP_comp hp.1 hq.1 (by rw [hp.2, hq.2]), by rw [compL_length]; exact hp.2⟩
theorem Pn.iv (hp : Pn N p) : Pn N (iv p) := ⟨isP_inv hp.1, by unfold Proofs.Ytkjokchhffjidaa.iv; rw [invL_length]; exact hp.2⟩
theorem nx_id {n x : Nat} (hx : x < n) : nx (idL n) x = x := by unfold nx; rw [idL_getD hx]; rfl
theorem pn_id (h1 : 1 ≤ N) (h2 : N ≤ 20) : Pn N (idL N) := by
  refine ⟨⟨by rw [idL_length]; exact h1, by rw [idL_length]; exact h2, fun i hi => ?_, fun i hi => ?_, fun i j hi hj e => ?_⟩, idL_length N⟩
  · rw [idL_length] at hi; rw [idL_getD hi]; omega
  · rw [idL_length] at hi ⊢; rw [idL_getD hi]; omega
  · rw [idL_length] at hi hj; rw [idL_getD hi, idL_getD hj] at e; omega
theorem Pn.nxc (hp : Pn N p) {x : Nat} (hx : x < N) : nx (compL p q) x = nx q (nx p x) := nx_comp (by rw [hp.2]; exact hx)
theorem Pn.nxi (hp : Pn N p) {x : Nat} (hx : x < N) : nx (Proofs.Ytkjokchhffjidaa.iv p) (nx p x) = x := by
  have h := invL_at hp.1 p.length (Nat.le_refl _) x (by rw [hp.2]; exact hx)
  show ((invL p p.length).getD (nx p x) 0).toNat = x
  rw [h]; omega
theorem Pn.nxi' (hp : Pn N p) {x : Nat} (hx : x < N) : nx p (nx (Proofs.Ytkjokchhffjidaa.iv p) x) = x :=
  hp.iv.inj (hp.lt (hp.iv.lt hx)) hx (hp.nxi (hp.iv.lt hx))
theorem Pn.assoc (hp : Pn N p) (hq : Pn N q) : compL (compL p q) r = compL p (compL q r) := comp_assoc hp.1 (by rw [hp.2, hq.2])
theorem Pn.idl (hp : Pn N p) : compL (idL N) p = p :=
  ((pn_id hp.pos.1 hp.pos.2).comp hp).ext hp fun x hx => by rw [(pn_id hp.pos.1 hp.pos.2).nxc hx, nx_id hx]
theorem Pn.idr (hp : Pn N p) : compL p (idL N) = p :=
  (hp.comp (pn_id hp.pos.1 hp.pos.2)).ext hp fun x hx => by rw [hp.nxc hx, nx_id (hp.lt hx)]
theorem Pn.ci (hp : Pn N p) : compL p (Proofs.Ytkjokchhffjidaa.iv p) = idL N :=
  (hp.comp hp.iv).ext (pn_id hp.pos.1 hp.pos.2) fun x hx => by rw [hp.nxc hx, hp.nxi hx, nx_id hx]
theorem Pn.ic (hp : Pn N p) : compL (Proofs.Ytkjokchhffjidaa.iv p) p = idL N :=
  (hp.iv.comp hp).ext (pn_id hp.pos.1 hp.pos.2) fun x hx => by rw [hp.iv.nxc hx, hp.nxi' hx, nx_id hx]
theorem iv_id (h1 : 1 ≤ N) (h2 : N ≤ 20) : Proofs.Ytkjokchhffjidaa.iv (idL N) = idL N :=
  (pn_id h1 h2).iv.ext (pn_id h1 h2) fun x hx => by
    have := (pn_id h1 h2).nxi hx
    rw [nx_id hx] at this ⊢; exact this
theorem Fx.mono {j : Nat} (h : Fx k p) (hj : j ≤ k) : Fx j p := fun i hi => h i (by omega)
theorem Fx.comp (hp : Pn N p) (h : Fx k p) (h2 : Fx k q) (hk : k ≤ N) : Fx k (compL p q) := fun i hi => by rw [hp.nxc (by omega), h i hi, h2 i hi]
theorem Fx.iv (hp : Pn N p) (h : Fx k p) (hk : k ≤ N) : Fx k (Proofs.Ytkjokchhffjidaa.iv p) := fun i hi => by
  have := hp.nxi (x := i) (by omega)
  rw [h i hi] at this; exact this
theorem Fx.all (hp : Pn N p) (h : Fx N p) : p = idL N := hp.ext (pn_id hp.pos.1 hp.pos.2) fun x hx => by rw [h x hx, nx_id hx]
theorem fx_id (hk : k ≤ N) : Fx k (idL N) := fun i hi => nx_id (by omega)
theorem Fx.zero : Fx 0 p := fun _ hi => absurd hi (by omega)
theorem Fx.ge (hp : Pn N p) (h : Fx k p) (hk : k < N) : k ≤ nx p k := by
  rcases Nat.lt_or_ge (nx p k) k with hl | hl
  · have := hp.inj (x := nx p k) (y := k) (by omega) hk (h _ hl)
    omega
  · exact hl
theorem Fx.succ (h : Fx k p) (e : nx p k = k) : Fx (k + 1) p := fun i hi => by
  rcases Nat.lt_or_ge i k with hl | hl
  · exact h i hl
  · obtain rfl : i = k := by omega
    exact e
end

/-! ### what generators generate -/
inductive Mb (gs : List (List Int)) (N : Nat) : List Int → Prop
  | one : Mb gs N (idL N)
  | mul {p g : List Int} : Mb gs N p → g ∈ gs → Mb gs N (compL p g)

section
variable {gs hs : List (List Int)} {N k : Nat} {p q : List Int}
theorem Mb.pn (hg : ∀ g ∈ gs, Pn N g) (h1 : 1 ≤ N) (h2 : N ≤ 20) (h : Mb gs N p) : Pn N p := by
  induction h with
  | one => exact pn_id h1 h2
  | mul _ hm ih => exact ih.comp (hg _ hm)
theorem Mb.fx (hg : ∀ g ∈ gs, Pn N g ∧ Fx k g) (h1 : 1 ≤ N) (h2 : N ≤ 20) (hk : k ≤ N) (h : Mb gs N p) : Fx k p := by
  induction h with
  | one => exact fx_id hk
  | mul hm hg' ih => exact ih.comp (hm.pn (fun g h => (hg g h).1) h1 h2) (hg _ hg').2 hk
theorem Mb.of (hg : Pn N p) (hm : p ∈ gs) : Mb gs N p := by
  have := Mb.mul (Mb.one (gs := gs) (N := N)) hm
  rw [hg.idl] at this; exact this
theorem Mb.comp (hg : ∀ g ∈ gs, Pn N g) (h1 : 1 ≤ N) (h2 : N ≤ 20) (hp : Mb gs N p) (hq : Mb gs N q) : Mb gs N (compL p q) := by
  induction hq with
  | one => rw [(hp.pn hg h1 h2).idr]; exact hp
  | mul hq' hm ih =>
    rw [← (hp.pn hg h1 h2).assoc (hq'.pn hg h1 h2)]
    exact .mul ih hm
/-- Whatever lies in a set closed under products lies there. -/
theorem Mb.sub (hs1 : 1 ≤ N) (hs2 : N ≤ 20) (hg : ∀ g ∈ hs, Pn N g) (h : ∀ g ∈ gs, Mb hs N g) (hp : Mb gs N p) : Mb hs N p := by
  induction hp with
  | one => exact .one
  | mul _ hm ih => exact ih.comp hg hs1 hs2 (h _ hm)
def pw (N : Nat) (p : List Int) : Nat → List Int
  | 0 => idL N
  | k + 1 => compL (pw N p k) p
theorem pw_pn (hp : Pn N p) : ∀ k, Pn N (pw N p k)
  | 0 => pn_id hp.pos.1 hp.pos.2
  | k + 1 => (pw_pn hp k).comp hp
theorem pw_nx (hp : Pn N p) {x : Nat} (hx : x < N) : ∀ k, nx (pw N p k) x = it p k x
  | 0 => nx_id hx
  | k + 1 => by
    show nx (compL (pw N p k) p) x = nx p (it p k x)
    rw [(pw_pn hp k).nxc hx, pw_nx hp hx k]
theorem ord_pos (hp : Pn N p) : 1 ≤ ordL p := by
  refine (lcmL_pos fun a ha => ?_).1
  obtain ⟨x, hx, rfl⟩ := List.mem_map.1 ha
  have h := per_spec hp.1 (List.mem_range.1 hx)
  have := hp.1.le
  exact ⟨h.1, by have := h.2.1; omega⟩
theorem iv_pw (hp : Pn N p) : iv p = pw N p (ordL p - 1) := by
  refine hp.iv.ext (pw_pn hp _) fun x hx => ?_
  have e : nx p (nx (pw N p (ordL p - 1)) x) = x := by
    rw [pw_nx hp hx]
    show it p (ordL p - 1 + 1) x = x
    rw [Nat.sub_add_cancel (ord_pos hp)]
    refine (it_eq_iff hp.1 (by rw [hp.2]; exact hx) _).2 (Nat.mod_eq_zero_of_dvd ?_)
    exact dvd_lcmL (List.mem_map.2 ⟨x, List.mem_range.2 (by rw [hp.2]; exact hx), rfl⟩)
  have := hp.nxi ((pw_pn hp (ordL p - 1)).lt hx)
  rw [e] at this; exact this
theorem Mb.inv (hg : ∀ g ∈ gs, Pn N g) (h1 : 1 ≤ N) (h2 : N ≤ 20) (hp : Mb gs N p) : Mb gs N (iv p) := by
  rw [iv_pw (hp.pn hg h1 h2)]
  have : ∀ k, Mb gs N (pw N p k) := fun k => by
    induction k with
    | zero => exact .one
    | succ k ih => exact ih.comp hg h1 h2 hp
  exact this _
theorem Mb.none_ (h : Mb [] N p) : p = idL N := by
  cases h with
  | one => rfl
  | mul _ hm => cases hm
theorem Mb.more (h : Mb gs N p) (hsub : ∀ g ∈ gs, g ∈ hs) : Mb hs N p := by
  induction h with
  | one => exact .one
  | mul _ hm ih => exact .mul ih (hsub _ hm)
end
end Go.Proofs.Ytkjokchhffjidaa

/- Stabilizer chains: when a chain is whole from a level on, what one insertion asks of it and leaves. No Go in it. No condition. -/
namespace Go.Proofs.Ytkjokchhffjidaa
open Go.RowKit

/-- Representatives by level and point ([] where there is none), generators by level. -/
structure Ch where
  rep : Nat → Nat → List Int
  gen : Nat → List (List Int)

/-- p is divided away by representatives from level i on. -/
inductive Sv (N : Nat) (c : Ch) : Nat → List Int → Prop
  | top : Sv N c N (idL N)
  | low {i : Nat} {p : List Int} : i < N → Pn N p → Fx i p → c.rep i (nx p i) ≠ [] → Sv N c (i + 1) (compL p (iv (c.rep i (nx p i)))) → Sv N c i p

section
variable {N k i : Nat} {c c' : Ch} {p q : List Int}
theorem Sv.inv_low (h : Sv N c i p) (hi : i < N) : Pn N p ∧ Fx i p ∧ c.rep i (nx p i) ≠ [] ∧ Sv N c (i + 1) (compL p (iv (c.rep i (nx p i)))) := by
  cases h with
  | top => omega
  | low _ a b d e => exact ⟨a, b, d, e⟩
theorem Sv.inv_top (h : Sv N c N p) : p = idL N := by
  cases h with
  | top => rfl
  | low h _ _ _ _ => omega
theorem Sv.le (h : Sv N c i p) : i ≤ N := by cases h <;> omega
/-- It asks only for the representatives at its level and above. -/
theorem Sv.congr (h : Sv N c i p) (e : ∀ j, i ≤ j → ∀ y, c'.rep j y = c.rep j y) : Sv N c' i p := by
  induction h with
  | top => exact .top
  | low hi a b d _ ih =>
    refine .low hi a b (by rw [e _ (Nat.le_refl _)]; exact d) ?_
    rw [e _ (Nat.le_refl _)]
    exact ih fun j hj => e j (by omega)

theorem sv_back {j : Nat} (h : Sv N c i p) (hj : j ≤ i) (e : ∀ t y, j ≤ t → t < N → y < N → c'.rep t y = c.rep t y) : Sv N c' i p := by
  induction h with
  | top => exact .top
  | @low i p hi a b d _ ih =>
    have e2 := e i (nx p i) hj hi (a.lt hi)
    refine .low hi a b (by rw [e2]; exact d) ?_
    rw [e2]
    exact ih (by omega)

/-- The representatives of a level. -/
structure RepOK (N : Nat) (c : Ch) (k : Nat) : Prop where
  at_ : ∀ y, c.rep k y ≠ [] → y < N ∧ Pn N (c.rep k y) ∧ Fx k (c.rep k y) ∧ nx (c.rep k y) k = y
  one : c.rep k k = idL N
def GenOK (N : Nat) (c : Ch) (k : Nat) : Prop := ∀ g ∈ c.gen k, Pn N g ∧ Fx k g
/-- How many representatives there are from a level on. -/
def cnt (N : Nat) (c : Ch) (k : Nat) : Nat := (List.range (N * N)).countP fun t => decide (k ≤ t / N) && !(c.rep (t / N) (t % N)).isEmpty

/-- The chain is whole from level k on. -/
structure UpTo (N : Nat) (c : Ch) (k : Nat) : Prop where
  rep : ∀ i, k ≤ i → i < N → RepOK N c i
  gp : ∀ i, k ≤ i → i < N → GenOK N c i
  sv : ∀ i, k ≤ i → i ≤ N → ∀ p, Sv N c i p ↔ Mb (c.gen i) N p
  len : ∀ i, k ≤ i → i < N → (c.gen i).length ≤ cnt N c i
  top : c.gen N = []
/-- The chain grew from level k on. -/
structure Grw (k : Nat) (c c' : Ch) : Prop where
  keep : ∀ i y, c.rep i y ≠ [] → c'.rep i y = c.rep i y
  rep : ∀ i y, i < k → c'.rep i y = c.rep i y
  gen : ∀ i, i < k → c'.gen i = c.gen i
theorem Grw.refl (k : Nat) (c : Ch) : Grw k c c := ⟨fun _ _ _ => rfl, fun _ _ _ => rfl, fun _ _ => rfl⟩
theorem Grw.trans {d : Ch} (h : Grw k c c') (h2 : Grw k c' d) : Grw k c d :=
  ⟨fun i y e => by rw [h2.keep i y (by rw [h.keep i y e]; exact e), h.keep i y e], fun i y hi => by rw [h2.rep i y hi, h.rep i y hi], fun i hi => by rw [h2.gen i hi, h.gen i hi]⟩
theorem Grw.mono {j : Nat} (h : Grw k c c') (hj : j ≤ k) : Grw j c c' := ⟨h.keep, fun i y hi => h.rep i y (by omega), fun i hi => h.gen i (by omega)⟩

/-- The state in which products are added at level k. -/
structure Low (N : Nat) (c : Ch) (k : Nat) : Prop where
  up : UpTo N c (k + 1)
  rep : RepOK N c k
  gp : GenOK N c k
  sub : ∀ p, Mb (c.gen (k + 1)) N p → Mb (c.gen k) N p
  inn : ∀ y, c.rep k y ≠ [] → Mb (c.gen k) N (c.rep k y)

theorem UpTo.pn (h : UpTo N c k) (hi : k ≤ i) (hN : i ≤ N) : ∀ g ∈ c.gen i, Pn N g := fun g hg => by
  rcases Nat.lt_or_ge i N with hl | hl
  · exact (h.gp i hi hl g hg).1
  · obtain rfl : i = N := by omega
    rw [h.top] at hg; cases hg
theorem UpTo.mono {j : Nat} (h : UpTo N c k) (hj : k ≤ j) : UpTo N c j :=
  ⟨fun i hi => h.rep i (by omega), fun i hi => h.gp i (by omega), fun i hi => h.sv i (by omega), fun i hi => h.len i (by omega), h.top⟩
theorem cnt_congr (e : ∀ j, k ≤ j → ∀ y, c'.rep j y = c.rep j y) : cnt N c' k = cnt N c k := by
  unfold cnt
  refine List.countP_congr fun t _ => ?_
  by_cases h : k ≤ t / N
  · rw [e _ h]
  · simp [h]
theorem UpTo.congr (h : UpTo N c k) (e : ∀ j, k ≤ j → ∀ y, c'.rep j y = c.rep j y) (g : ∀ j, k ≤ j → c'.gen j = c.gen j) (hk : k ≤ N) : UpTo N c' k := by
  refine ⟨fun i hi hN => ⟨fun y hy => ?_, ?_⟩, fun i hi hN => ?_, fun i hi hN p => ?_, fun i hi hN => ?_, ?_⟩
  · rw [e i hi] at hy ⊢; exact (h.rep i hi hN).at_ y hy
  · rw [e i hi]; exact (h.rep i hi hN).one
  · intro x hx; rw [g i hi] at hx; exact h.gp i hi hN x hx
  · rw [g i hi]
    exact ⟨fun hs => (h.sv i hi hN p).1 (hs.congr fun j hj y => (e j (by omega) y).symm), fun hm => ((h.sv i hi hN p).2 hm).congr fun j hj y => e j (by omega) y⟩
  · rw [g i hi, cnt_congr fun j hj => e j (by omega)]; exact h.len i hi hN
  · rw [g N hk]; exact h.top
theorem cnt_le (N : Nat) (c : Ch) (k : Nat) : cnt N c k ≤ N * N := by
  have := List.countP_le_length (p := fun t => decide (k ≤ t / N) && !(c.rep (t / N) (t % N)).isEmpty) (l := List.range (N * N))
  rw [List.length_range] at this; exact this
theorem cnt_mono (h : Grw k c c') (i : Nat) : cnt N c i ≤ cnt N c' i := by
  refine List.countP_mono_left fun t _ ht => ?_
  rw [Bool.and_eq_true, decide_eq_true_eq, Bool.not_eq_true', List.isEmpty_eq_false_iff] at ht ⊢
  exact ⟨ht.1, by rw [h.keep _ _ ht.2]; exact ht.2⟩
theorem countP_lt {l : List Nat} {f g : Nat → Bool} (h : ∀ t, f t = true → g t = true) {x : Nat} (hx : x ∈ l) (h1 : f x = false) (h2 : g x = true) : l.countP f < l.countP g := by
  induction l with
  | nil => cases hx
  | cons a t ih =>
    have hm : t.countP f ≤ t.countP g := List.countP_mono_left fun y _ => h y
    rw [List.countP_cons, List.countP_cons]
    rcases List.mem_cons.1 hx with rfl | hx
    · rw [h1, h2]; simp; omega
    · have := ih hx
      rcases ha : f a with _ | _
      · simp; split <;> omega
      · rw [h a ha]; simp; omega
/-- No more representatives: nothing has changed. -/
theorem cnt_same (h : Grw k c c') (e : cnt N c' i ≤ cnt N c i) {j y : Nat} (hj : i ≤ j) (hj2 : j < N) (hy : y < N) : c'.rep j y = c.rep j y := by
  by_cases hc : c.rep j y = []
  · by_cases hc' : c'.rep j y = []
    · rw [hc, hc']
    · exfalso
      have hlt : cnt N c i < cnt N c' i := by
        have hd : (j * N + y) / N = j := by
          rw [Nat.mul_comm, Nat.mul_add_div (by omega), Nat.div_eq_of_lt hy]; rfl
        have hm : (j * N + y) % N = y := by
          rw [Nat.mul_comm, Nat.mul_add_mod, Nat.mod_eq_of_lt hy]
        refine countP_lt (x := j * N + y) (fun t ht => ?_) ?_ ?_ ?_
        · rw [Bool.and_eq_true, decide_eq_true_eq, Bool.not_eq_true', List.isEmpty_eq_false_iff] at ht ⊢
          exact ⟨ht.1, by rw [h.keep _ _ ht.2]; exact ht.2⟩
        · rw [List.mem_range]
          have : (j + 1) * N ≤ N * N := Nat.mul_le_mul_right N (by omega)
          rw [Nat.add_mul] at this; omega
        · rw [hd, hm, hc]; simp
        · rw [hd, hm]; simp [hj, hc']
      omega
  · exact h.keep j y hc

/-- One level down: what fixes one point more. -/
theorem sv_down (h : RepOK N c k) (hk : k < N) (hp : Pn N p) (hf : Fx k p) (e : nx p k = k) : Sv N c k p ↔ Sv N c (k + 1) p := by
  have h1 := hp.pos
  constructor
  · intro hs
    have := (hs.inv_low hk).2.2.2
    rw [e, h.one, iv_id h1.1 h1.2, hp.idr] at this
    exact this
  · intro hs
    refine .low hk hp hf ?_ ?_
    · rw [e, h.one]; intro e2; have := idL_length N; rw [e2] at this; simp at this; omega
    · rw [e, h.one, iv_id h1.1 h1.2, hp.idr]; exact hs
theorem Low.mono_sv (h : Low N c k) (h' : Low N c' k) (g : Grw k c c') (hk : k < N) (hm : ∀ p, Mb (c.gen (k + 1)) N p → Mb (c'.gen (k + 1)) N p) (hs : Sv N c k p) : Sv N c' k p := by
  obtain ⟨a, b, d, e⟩ := hs.inv_low hk
  refine .low hk a b (by rw [g.keep _ _ d]; exact d) ?_
  rw [g.keep _ _ d]
  exact (h'.up.sv (k + 1) (Nat.le_refl _) hk _).2 (hm _ ((h.up.sv (k + 1) (Nat.le_refl _) hk _).1 e))
theorem Low.rep_sv (h : Low N c k) (hk : k < N) {y : Nat} (hy : c.rep k y ≠ []) : Sv N c k (c.rep k y) := by
  obtain ⟨h1, h2, h3, h4⟩ := h.rep.at_ y hy
  refine .low hk h2 h3 (by rw [h4]; exact hy) ?_
  rw [h4, h2.ci]
  exact (h.up.sv (k + 1) (Nat.le_refl _) hk _).2 .one
theorem Low.pn (h : Low N c k) : ∀ g ∈ c.gen k, Pn N g := fun g hg => (h.gp g hg).1
/-- Where every representative times every generator is divided away, the level is whole. -/
theorem Low.whole (h : Low N c k) (hk : k < N) (h1 : 1 ≤ N) (h2 : N ≤ 20) (hc : ∀ y, c.rep k y ≠ [] → ∀ g ∈ c.gen k, Sv N c k (compL (c.rep k y) g)) (hlen : (c.gen k).length ≤ cnt N c k) : UpTo N c k := by
  have hsv : ∀ p, Sv N c k p ↔ Mb (c.gen k) N p := fun p => by
    constructor
    · intro hs
      obtain ⟨a, b, d, e⟩ := hs.inv_low hk
      have e2 := h.sub _ ((h.up.sv (k + 1) (Nat.le_refl _) hk _).1 e)
      have hr := (h.rep.at_ _ d).2.1
      have := e2.comp h.pn h1 h2 (h.inn _ d)
      rw [a.assoc hr.iv, hr.ic, a.idr] at this
      exact this
    · intro hm
      induction hm with
      | one =>
        have hid : nx (idL N) k = k := nx_id hk
        exact (sv_down h.rep hk (pn_id h1 h2) (fx_id (by omega)) hid).2 ((h.up.sv (k + 1) (Nat.le_refl _) hk _).2 .one)
      | @mul p g hm hg ih =>
        obtain ⟨a, b, d, e⟩ := ih.inv_low hk
        obtain ⟨hyN, hr, hrf, hrk⟩ := h.rep.at_ _ d
        obtain ⟨r, er⟩ : ∃ r, c.rep k (nx p k) = r := ⟨_, rfl⟩
        rw [er] at d e hr hrf hrk
        have hs := hc (nx p k) (by rw [er]; exact d) g hg
        rw [er] at hs
        obtain ⟨a', b', d', e'⟩ := hs.inv_low hk
        have hgP := h.gp g hg
        have hpg : nx (compL p g) k = nx (compL r g) k := by rw [a.nxc hk, hr.nxc hk, hrk]
        have hr' := (h.rep.at_ _ d').2.1
        refine .low hk (a.comp hgP.1) (b.comp a hgP.2 (by omega)) (by rw [hpg]; exact d') ?_
        rw [hpg]
        have m1 := (h.up.sv (k + 1) (Nat.le_refl _) hk _).1 e
        have m2 := (h.up.sv (k + 1) (Nat.le_refl _) hk _).1 e'
        have m3 := m1.comp (h.up.pn (Nat.le_refl _) hk) h1 h2 m2
        refine (h.up.sv (k + 1) (Nat.le_refl _) hk _).2 ?_
        rw [← (a.comp hr.iv).assoc (hr.comp hgP.1), ← (a.comp hr.iv).assoc hr, a.assoc hr.iv, hr.ic, a.idr] at m3
        exact m3
  refine ⟨fun i hi hN => ?_, fun i hi hN => ?_, fun i hi hN => ?_, fun i hi hN => ?_, h.up.top⟩
  · rcases Nat.lt_or_ge k i with hl | hl
    · exact h.up.rep i hl hN
    · obtain rfl : i = k := by omega
      exact h.rep
  · rcases Nat.lt_or_ge k i with hl | hl
    · exact h.up.gp i hl hN
    · obtain rfl : i = k := by omega
      exact h.gp
  · rcases Nat.lt_or_ge k i with hl | hl
    · exact h.up.sv i hl hN
    · obtain rfl : i = k := by omega
      exact hsv
  · rcases Nat.lt_or_ge k i with hl | hl
    · exact h.up.len i hl hN
    · obtain rfl : i = k := by omega
      exact hlen
/-- A whole level is one in which products may be added. -/
theorem UpTo.low (h : UpTo N c k) (hk : k < N) (h1 : 1 ≤ N) (h2 : N ≤ 20) : Low N c k := by
  have hr := h.rep k (Nat.le_refl _) hk
  have hg := h.gp k (Nat.le_refl _) hk
  have hu := h.mono (Nat.le_succ k)
  refine ⟨hu, hr, hg, fun p hm => ?_, fun y hy => ?_⟩
  · have hpn := hm.pn (hu.pn (Nat.le_refl _) hk) h1 h2
    have hfx : Fx (k + 1) p := by
      rcases Nat.lt_or_ge (k + 1) N with hl | hl
      · exact hm.fx (h.gp (k + 1) (by omega) hl) h1 h2 hk
      · obtain rfl : k + 1 = N := by omega
        rw [h.top] at hm
        rw [hm.none_]; exact fx_id (Nat.le_refl _)
    refine (h.sv k (Nat.le_refl _) (by omega) p).1 ((sv_down hr hk hpn (hfx.mono (by omega)) (hfx k (by omega))).2 ((h.sv (k + 1) (by omega) hk p).2 hm))
  · obtain ⟨a1, a2, a3, a4⟩ := hr.at_ y hy
    refine (h.sv k (Nat.le_refl _) (by omega) _).1 (.low hk a2 a3 (by rw [a4]; exact hy) ?_)
    rw [a4, a2.ci]
    exact (h.sv (k + 1) (by omega) hk _).2 .one

def Ch.set (c : Ch) (k y : Nat) (q : List Int) : Ch := ⟨fun i z => if i = k ∧ z = y then q else c.rep i z, c.gen⟩
def Ch.push (c : Ch) (k : Nat) (p : List Int) : Ch := ⟨c.rep, fun i => if i = k then c.gen k ++ [p] else c.gen i⟩
theorem set_at (c : Ch) (k y : Nat) (q : List Int) : (c.set k y q).rep k y = q := if_pos ⟨rfl, rfl⟩
theorem set_ne {j z y : Nat} (h : j ≠ k ∨ z ≠ y) : (c.set k y q).rep j z = c.rep j z := if_neg (by rintro ⟨rfl, rfl⟩; rcases h with h | h <;> exact h rfl)
theorem push_at (c : Ch) (k : Nat) (p : List Int) : (c.push k p).gen k = c.gen k ++ [p] := if_pos rfl
theorem push_ne {j : Nat} (h : j ≠ k) : (c.push k p).gen j = c.gen j := if_neg h

/-- What adding a product leaves. -/
structure Bp (N k : Nat) (c c' : Ch) (q : List Int) : Prop where
  low : Low N c' k
  grw : Grw k c c'
  gen : c'.gen k = c.gen k
  sv : Sv N c' k q
  mono : ∀ p, Sv N c k p → Sv N c' k p
  new_ : ∀ y, c.rep k y = [] → c'.rep k y ≠ [] → ∀ g ∈ c.gen k, Sv N c' k (compL (c'.rep k y) g)
/-- What adding a generator leaves. -/
structure Ap (N k : Nat) (c c' : Ch) (p : List Int) : Prop where
  up : UpTo N c' k
  grw : Grw k c c'
  gen : ∀ q, Mb (c'.gen k) N q ↔ Mb (c.gen k ++ [p]) N q

/-- The rest that goes one level down. -/
theorem Low.rest (h : Low N c k) (hk : k < N) (h1 : 1 ≤ N) (h2 : N ≤ 20) (hq : Mb (c.gen k) N q) (hr : c.rep k (nx q k) ≠ []) : Pn N (compL q (iv (c.rep k (nx q k)))) ∧ Fx (k + 1) (compL q (iv (c.rep k (nx q k)))) := by
  obtain ⟨a1, a2, a3, a4⟩ := h.rep.at_ _ hr
  have hp := hq.pn h.pn h1 h2
  have hf := hq.fx h.gp h1 h2 (by omega)
  refine ⟨hp.comp a2.iv, (hf.comp hp (a3.iv a2 (by omega)) (by omega)).succ ?_⟩
  rw [hp.nxc hk]
  have := a2.nxi hk
  rw [a4] at this
  exact this
theorem Bp.old (h : Low N c k) (hk : k < N) (h1 : 1 ≤ N) (h2 : N ≤ 20) (hq : Mb (c.gen k) N q) (hr : c.rep k (nx q k) ≠ []) (ha : Ap N (k + 1) c c' (compL q (iv (c.rep k (nx q k))))) : Bp N k c c' q := by
  have er : ∀ y, c'.rep k y = c.rep k y := fun y => ha.grw.rep k y (by omega)
  have eg : c'.gen k = c.gen k := ha.grw.gen k (by omega)
  obtain ⟨a1, a2, a3, a4⟩ := h.rep.at_ _ hr
  have hp := hq.pn h.pn h1 h2
  have hf := hq.fx h.gp h1 h2 (by omega)
  have hm : Mb (c.gen k) N (compL q (iv (c.rep k (nx q k)))) := hq.comp h.pn h1 h2 ((h.inn _ hr).inv h.pn h1 h2)
  have hl : Low N c' k := by
    refine ⟨ha.up, ⟨fun y hy => by rw [er] at hy ⊢; exact h.rep.at_ y hy, by rw [er]; exact h.rep.one⟩, fun g hg => h.gp g (by rw [← eg]; exact hg), fun p hp => ?_, fun y hy => by rw [er] at hy ⊢; rw [eg]; exact h.inn y hy⟩
    rw [eg]
    refine ((ha.gen p).1 hp).sub h1 h2 h.pn fun g hg => ?_
    rcases List.mem_append.1 hg with hg | hg
    · exact h.sub _ (.of (h.up.pn (Nat.le_refl _) hk g hg) hg)
    · obtain rfl := List.mem_singleton.1 hg
      exact hm
  have hmono : ∀ p, Mb (c.gen (k + 1)) N p → Mb (c'.gen (k + 1)) N p := fun p hp => (ha.gen p).2 (hp.more fun g hg => List.mem_append_left _ hg)
  refine ⟨hl, ha.grw.mono (by omega), eg, .low hk hp hf (by rw [er]; exact hr) ?_, fun p hs => h.mono_sv hl (ha.grw.mono (by omega)) hk hmono hs, fun y hy hy' => absurd (by rw [er]; exact hy) hy'⟩
  rw [er]
  refine (ha.up.sv (k + 1) (Nat.le_refl _) hk _).2 ((ha.gen _).2 (.of (h.rest hk h1 h2 hq hr).1 (by simp)))
theorem Low.put (h : Low N c k) (hk : k < N) (h1 : 1 ≤ N) (h2 : N ≤ 20) (hq : Mb (c.gen k) N q) (hr : c.rep k (nx q k) = []) : Low N (c.set k (nx q k) q) k ∧ Grw k c (c.set k (nx q k) q) := by
  have hp := hq.pn h.pn h1 h2
  have hf := hq.fx h.gp h1 h2 (by omega)
  refine ⟨⟨h.up.congr (fun j hj y => set_ne (.inl (by omega))) (fun j _ => rfl) hk, ⟨fun y hy => ?_, ?_⟩, h.gp, h.sub, fun y hy => ?_⟩, ⟨fun i y hy => ?_, fun i y hi => set_ne (.inl (by omega)), fun i _ => rfl⟩⟩
  · by_cases e : y = nx q k
    · subst e; rw [set_at]; exact ⟨hp.lt hk, hp, hf, rfl⟩
    · rw [set_ne (.inr e)] at hy ⊢; exact h.rep.at_ y hy
  · rw [set_ne]; · exact h.rep.one
    · right; intro e
      rw [← e, h.rep.one] at hr
      have := idL_length N; rw [hr] at this; simp at this; omega
  · by_cases e : y = nx q k
    · subst e; rw [set_at]; exact hq
    · rw [set_ne (.inr e)] at hy ⊢; exact h.inn y hy
  · by_cases e : i = k ∧ y = nx q k
    · obtain ⟨rfl, rfl⟩ := e; exact absurd hr hy
    · exact if_neg e
/-- The loop over the generators behind a new representative. -/
structure Bl (N k : Nat) (c1 cj : Ch) (q : List Int) (j : Nat) : Prop where
  low : Low N cj k
  grw : Grw k c1 cj
  gen : cj.gen k = c1.gen k
  mono : ∀ p, Sv N c1 k p → Sv N cj k p
  new_ : ∀ y, c1.rep k y = [] → cj.rep k y ≠ [] → ∀ g ∈ c1.gen k, Sv N cj k (compL (cj.rep k y) g)
  done : ∀ t, t < j → Sv N cj k (compL q ((c1.gen k).getD t []))
theorem Bl.start (h : Low N c k) : Bl N k c c q 0 := ⟨h, .refl _ _, rfl, fun _ h => h, fun y a b => absurd a b, fun t ht => absurd ht (by omega)⟩
theorem Bl.next {c1 cj : Ch} {j : Nat} (h : Bl N k c1 cj q j) (hb : Bp N k cj c' (compL q ((c1.gen k).getD j []))) : Bl N k c1 c' q (j + 1) := by
  refine ⟨hb.low, h.grw.trans hb.grw, by rw [hb.gen, h.gen], fun p hs => hb.mono _ (h.mono _ hs), fun y hy hy' g hg => ?_, fun t ht => ?_⟩
  · by_cases e : cj.rep k y = []
    · exact hb.new_ y e hy' g (by rw [h.gen]; exact hg)
    · rw [hb.grw.keep _ _ e]
      exact hb.mono _ (h.new_ y hy e g hg)
  · rcases Nat.lt_or_ge t j with hl | hl
    · exact hb.mono _ (h.done t hl)
    · obtain rfl : t = j := by omega
      exact hb.sv
theorem mem_at {l : List (List Int)} {g : List Int} (h : g ∈ l) : ∃ t, t < l.length ∧ l.getD t [] = g := by
  obtain ⟨t, ht, e⟩ := List.mem_iff_getElem.1 h
  exact ⟨t, ht, by rw [List.getD_eq_getElem?_getD, List.getElem?_eq_getElem ht, ← e]; rfl⟩
theorem Bl.all {cj : Ch} (h : Low N c k) (hk : k < N) (h1 : 1 ≤ N) (h2 : N ≤ 20) (hq : Mb (c.gen k) N q) (hr : c.rep k (nx q k) = []) (hb : Bl N k (c.set k (nx q k) q) cj q (c.gen k).length) : Bp N k c cj q := by
  obtain ⟨l1, g1⟩ := h.put hk h1 h2 hq hr
  have hp := hq.pn h.pn h1 h2
  have hne : q ≠ [] := by intro e; have := hp.2; rw [e] at this; simp at this; omega
  have e0 : cj.rep k (nx q k) = q := by rw [hb.grw.keep _ _ (by rw [set_at]; exact hne), set_at]
  refine ⟨hb.low, g1.trans hb.grw, hb.gen, ?_, fun p hs => hb.mono _ (h.mono_sv l1 g1 hk (fun _ h => h) hs), fun y hy hy' g hg => ?_⟩
  · have := hb.low.rep_sv hk (y := nx q k) (by rw [e0]; exact hne)
    rw [e0] at this; exact this
  · by_cases e : y = nx q k
    · subst e
      rw [e0]
      obtain ⟨t, ht, rfl⟩ := mem_at hg
      exact hb.done t ht
    · exact hb.new_ y (by rw [set_ne (.inr e)]; exact hy) hy' g hg

/-! ### adding a generator -/
theorem Ap.same (h : UpTo N c k) (hkN : k ≤ N) (h1 : 1 ≤ N) (h2 : N ≤ 20) (hs : Sv N c k p) : Ap N k c c p := by
  have hp := (h.sv k (Nat.le_refl _) hkN p).1 hs
  refine ⟨h, .refl _ _, fun q => ⟨fun hq => hq.more fun g hg => List.mem_append_left _ hg, fun hq => hq.sub h1 h2 (h.pn (Nat.le_refl _) hkN) fun g hg => ?_⟩⟩
  rcases List.mem_append.1 hg with hg | hg
  · exact .of (h.pn (Nat.le_refl _) hkN g hg) hg
  · obtain rfl := List.mem_singleton.1 hg
    exact hp
/-- At the top there is nothing to add. -/
theorem Ap.top (h : UpTo N c N) (h1 : 1 ≤ N) (h2 : N ≤ 20) (hp : Pn N p) (hf : Fx N p) : Ap N N c c p := by
  refine .same h (Nat.le_refl _) h1 h2 ?_
  rw [hf.all hp]; exact .top
theorem UpTo.pushed (h : UpTo N c k) (hk : k < N) (h1 : 1 ≤ N) (h2 : N ≤ 20) (hp : Pn N p) (hf : Fx k p) : Low N (c.push k p) k := by
  have hl := h.low hk h1 h2
  refine ⟨hl.up.congr (fun _ _ _ => rfl) (fun j hj => push_ne (by omega)) hk, ⟨hl.rep.at_, hl.rep.one⟩, fun g hg => ?_, fun q hq => ?_, fun y hy => ?_⟩
  · rw [push_at] at hg
    rcases List.mem_append.1 hg with hg | hg
    · exact hl.gp g hg
    · obtain rfl := List.mem_singleton.1 hg
      exact ⟨hp, hf⟩
  · rw [push_ne (by omega)] at hq
    rw [push_at]
    exact (hl.sub _ hq).more fun g hg => List.mem_append_left _ hg
  · rw [push_at]
    exact (hl.inn _ hy).more fun g hg => List.mem_append_left _ hg
/-- The representatives of level k among the first m points, in order. -/
def knL (c : Ch) (k m : Nat) : List (List Int) := ((List.range m).filter fun y => !(c.rep k y).isEmpty).map (c.rep k)
theorem knL_mem {m : Nat} {r : List Int} : r ∈ knL c k m ↔ ∃ y, y < m ∧ c.rep k y ≠ [] ∧ c.rep k y = r := by
  simp only [knL, List.mem_map, List.mem_filter, List.mem_range, Bool.not_eq_true', List.isEmpty_eq_false_iff, and_assoc]
theorem knL_yes {m : Nat} (h : c.rep k m ≠ []) : knL c k (m + 1) = knL c k m ++ [c.rep k m] := by
  unfold knL; rw [List.range_succ, List.filter_append]; simp [List.isEmpty_eq_false_iff.2 h]
theorem knL_no {m : Nat} (h : c.rep k m = []) : knL c k (m + 1) = knL c k m := by
  unfold knL; rw [List.range_succ, List.filter_append]; simp [h]
theorem knL_len (m : Nat) : (knL c k m).length ≤ m := by
  unfold knL; rw [List.length_map]
  have := List.length_filter_le (fun y => !(c.rep k y).isEmpty) (List.range m)
  simpa using this
/-- The loop over the known representatives. -/
structure Al (N k : Nat) (c1 cj : Ch) (p : List Int) (j : Nat) : Prop where
  low : Low N cj k
  grw : Grw k c1 cj
  gen : cj.gen k = c1.gen k
  mono : ∀ p, Sv N c1 k p → Sv N cj k p
  new_ : ∀ y, c1.rep k y = [] → cj.rep k y ≠ [] → ∀ g ∈ c1.gen k, Sv N cj k (compL (cj.rep k y) g)
  done : ∀ t, t < j → Sv N cj k (compL ((knL c1 k N).getD t []) p)
theorem Al.start (h : Low N c k) : Al N k c c p 0 := ⟨h, .refl _ _, rfl, fun _ h => h, fun y a b => absurd a b, fun t ht => absurd ht (by omega)⟩
theorem Al.next {c1 cj : Ch} {j : Nat} (h : Al N k c1 cj p j) (hb : Bp N k cj c' (compL ((knL c1 k N).getD j []) p)) : Al N k c1 c' p (j + 1) := by
  refine ⟨hb.low, h.grw.trans hb.grw, by rw [hb.gen, h.gen], fun p hs => hb.mono _ (h.mono _ hs), fun y hy hy' g hg => ?_, fun t ht => ?_⟩
  · by_cases e : cj.rep k y = []
    · exact hb.new_ y e hy' g (by rw [h.gen]; exact hg)
    · rw [hb.grw.keep _ _ e]
      exact hb.mono _ (h.new_ y hy e g hg)
  · rcases Nat.lt_or_ge t j with hl | hl
    · exact hb.mono _ (h.done t hl)
    · obtain rfl : t = j := by omega
      exact hb.sv
/-- The products that the loop adds are of the level. -/
theorem kn_mb (h : Low N c k) {j : Nat} (hj : j < (knL c k N).length) (hp : p ∈ c.gen k) : Mb (c.gen k) N (compL ((knL c k N).getD j []) p) ∧ Pn N ((knL c k N).getD j []) := by
  have hm : (knL c k N).getD j [] ∈ knL c k N := by
    rw [List.getD_eq_getElem?_getD, List.getElem?_eq_getElem hj]; exact List.getElem_mem _
  obtain ⟨y, _, hy, e⟩ := knL_mem.1 hm
  rw [← e]
  exact ⟨.mul (h.inn y hy) hp, (h.rep.at_ y hy).2.1⟩
theorem Al.all {cj : Ch} (h : UpTo N c k) (hk : k < N) (h1 : 1 ≤ N) (h2 : N ≤ 20) (hp : Pn N p) (hf : Fx k p) (hs : ¬ Sv N c k p) (hb : Al N k (c.push k p) cj p (knL (c.push k p) k N).length) : Ap N k c cj p := by
  have hl := h.low hk h1 h2
  have hg1 : cj.gen k = c.gen k ++ [p] := by rw [hb.gen, push_at]
  have g0 : Grw k c (c.push k p) := ⟨fun _ _ _ => rfl, fun _ _ _ => rfl, fun i hi => push_ne (by omega)⟩
  have hG := g0.trans hb.grw
  have hclose : ∀ y, cj.rep k y ≠ [] → ∀ g ∈ cj.gen k, Sv N cj k (compL (cj.rep k y) g) := fun y hy g hg => by
    by_cases e : c.rep k y = []
    · exact hb.new_ y e hy g (by rw [← hb.gen]; exact hg)
    · rw [hG.keep _ _ e]
      rw [hg1] at hg
      rcases List.mem_append.1 hg with hg | hg
      · refine hb.mono _ (Sv.congr (c := c) ?_ fun _ _ _ => rfl)
        exact (h.sv k (Nat.le_refl _) (by omega) _).2 (.mul (hl.inn y e) hg)
      · obtain rfl := List.mem_singleton.1 hg
        obtain ⟨t, ht, et⟩ := mem_at (knL_mem.2 ⟨y, (hl.rep.at_ y e).1, e, rfl⟩ : c.rep k y ∈ knL (c.push k g) k N)
        rw [← et]
        exact hb.done t ht
  have hsv : Sv N cj k p := by
    obtain ⟨t, ht, et⟩ := mem_at (knL_mem.2 ⟨k, hk, by show c.rep k k ≠ []; rw [hl.rep.one]; intro e; have := idL_length N; rw [e] at this; simp at this; omega, rfl⟩ : c.rep k k ∈ knL (c.push k p) k N)
    have := hb.done t ht
    rw [et, hl.rep.one, hp.idl] at this
    exact this
  have hcnt : cnt N c k < cnt N cj k := by
    have hle := cnt_mono (N := N) hG k
    rcases Nat.lt_or_ge (cnt N c k) (cnt N cj k) with hlt | hge
    · exact hlt
    · exfalso
      refine hs (sv_back hsv (Nat.le_refl _) fun j y hj hjN hy => (cnt_same hG hge hj hjN hy).symm)
  refine ⟨hb.low.whole hk h1 h2 hclose ?_, hG, fun q => by rw [hg1]⟩
  rw [hg1, List.length_append]
  have := h.len k (Nat.le_refl _) hk
  simp; omega
end
end Go.Proofs.Ytkjokchhffjidaa

/- The model's chain in memory: its blocks, how it reads, what one store and one append leave of it. No condition. -/
namespace Go.Proofs.Ytkjokchhffjidaa
open Go.RowKit

/-- From w to w' only blocks of M and new ones have turned. -/
structure Chg (w w' : World) (M : Nat → Prop) : Prop where
  os : w'.os = w.os
  tape : w'.tape = w.tape
  output : w'.output = w.output
  size : w.heap.size ≤ w'.heap.size
  block : ∀ k, k < w.heap.size → ¬ M k → w'.heap[k]? = w.heap[k]?
theorem Chg.refl (w : World) (M : Nat → Prop) : Chg w w M := ⟨rfl, rfl, rfl, Nat.le_refl _, fun _ _ _ => rfl⟩
theorem Chg.trans {w w1 w2 : World} {M M1 : Nat → Prop} (h : Chg w w1 M) (h1 : Chg w1 w2 M1) (hM : ∀ k, M1 k → M k ∨ w.heap.size ≤ k) : Chg w w2 M :=
  ⟨h1.os.trans h.os, h1.tape.trans h.tape, h1.output.trans h.output, Nat.le_trans h.size h1.size, fun k hk hn => (h1.block k (Nat.lt_of_lt_of_le hk h.size) (fun e => by rcases hM k e with e | e; exact hn e; omega)).trans (h.block k hk hn)⟩
theorem Chg.of_below {w w' : World} {M : Nat → Prop} (h : Below w.heap.size w w') : Chg w w' M := ⟨h.os, h.tape, h.output, h.size, fun k hk _ => h.block k hk⟩
theorem Chg.of_grown {w w' : World} {M : Nat → Prop} {row : Option Nat} (h : w.grownBy w' row) (hr : ∀ k, row = some k → M k) : Chg w w' M := ⟨h.os, h.tape, h.output, h.size, fun k hk hn => h.block k hk (fun e => hn (hr k e.symm))⟩
theorem Chg.below {w w' : World} {M : Nat → Prop} {B : Nat} (h : Chg w w' M) (hM : ∀ k, M k → B ≤ k) (hB : B ≤ w.heap.size) : Below B w w' := ⟨h.os, h.tape, h.output, h.size, fun k hk => h.block k (by omega) (fun e => by have := hM k e; omega)⟩
theorem Chg.drew {w w' : World} {M : Nat → Prop} (h : Chg w w' M) : Chg w w'.drew M := ⟨h.os, h.tape, h.output, h.size, h.block⟩

theorem ownsRow_chg {w w' : World} {M : Nat → Prop} {base n size : Nat} {e : TypeId} {v : Value} {xs : List Value} (h : w.ownsRow base e size v n xs) (hc : Chg w w' M) (hn : ∀ k, v.ownBlock = some k → ¬ M k) : w'.ownsRow base e size v n xs := by
  refine ⟨h.1, ?_⟩
  rcases h.2 with h0 | ⟨g, cap, cur, e2, hb, hg, rest⟩
  · exact .inl h0
  · exact .inr ⟨g, cap, cur, e2, hb, by rw [hc.block g (Array.getElem?_eq_some_iff.1 hg).1 (hn g (by rw [e2]; rfl))]; exact hg, rest⟩
theorem ownsRow_typ {w : World} {base n size : Nat} {e : TypeId} {v : Value} {xs : List Value} (h : w.ownsRow base e size v n xs) {k : Nat} (hk : v.ownBlock = some k) : ∃ cur, w.heap[k]? = some (.cells cur e (0, 0)) := by
  rcases h.2 with ⟨e2, _⟩ | ⟨g, cap, cur, e2, hb, hg, rest⟩
  · rw [e2] at hk; cases hk
  · rw [e2] at hk
    have : g = k := by simpa [Value.ownBlock] using hk
    subst this
    exact ⟨cur, hg⟩
/-- Blocks of M hold no numbers. -/
def NoInt (w : World) (M : Nat → Prop) : Prop := ∀ k, M k → ∃ cs t fz, w.heap[k]? = some (.cells cs t fz) ∧ t ≠ 2
theorem Slc.chg {w w' : World} {M : Nat → Prop} {base n c : Nat} {A : Option Addr} {xs : List Int} (h : Slc w base A n c xs) (hc : Chg w w' M) (hM : NoInt w M) : Slc w' base A n c xs := by
  refine ⟨h.1, ownsRow_chg h.2 hc fun k hk hm => ?_⟩
  obtain ⟨cur, e1⟩ := ownsRow_typ h.2 hk
  obtain ⟨cs, t, fz, e2, ht⟩ := hM k hm
  rw [e1] at e2
  injection e2 with e2
  injection e2 with _ e3
  exact ht e3.symm

/-- Where a chain lies: its table of rows (block R), the rows' blocks and entries, its table of generators (block G), the generators' rows and entries. -/
structure LY where
  R : Nat
  cR : Nat
  G : Nat
  cG : Nat
  ro : Nat → Nat
  en : Nat → List SV
  gv : Nat → SV
  ge : Nat → List SV
/-- The blocks that an insertion may turn. -/
def Mut (N : Nat) (L : LY) (b : Nat) : Prop := b = L.G ∨ (∃ i, i < N ∧ b = L.ro i) ∨ ∃ i, i < N ∧ (sval (L.gv i)).ownBlock = some b
structure Cn (w : World) (base g N : Nat) (c : Ch) (L : LY) : Prop where
  blk : Blk w g 121 #[.int .i64 (N : Nat), .slice (some ⟨L.R, 0, none⟩) N L.cR, .slice (some ⟨L.G, 0, none⟩) N L.cG]
  hg : base ≤ g
  own1 : w.ownsRow base 24 1 (.slice (some ⟨L.R, 0, none⟩) N L.cR) N ((List.range N).map fun i => Value.slice (some ⟨L.ro i, 0, none⟩) N N)
  row1 : ∀ i, i < N → w.ownsRow base 27 1 (.slice (some ⟨L.ro i, 0, none⟩) N N) N ((L.en i).map sval)
  len1 : ∀ i, i < N → (L.en i).length = N
  ent1 : ∀ i, i < N → ∀ y, y < N → Slc w base ((L.en i).getD y sd0).1 ((L.en i).getD y sd0).2.1 ((L.en i).getD y sd0).2.2 (c.rep i y)
  own2 : w.ownsRow base 24 1 (.slice (some ⟨L.G, 0, none⟩) N L.cG) N ((List.range N).map fun i => sval (L.gv i))
  row2 : ∀ i, i < N → w.ownsRow base 27 1 (sval (L.gv i)) (c.gen i).length ((L.ge i).map sval)
  len2 : ∀ i, i < N → (L.ge i).length = (c.gen i).length
  ent2 : ∀ i, i < N → ∀ y, y < (c.gen i).length → Slc w base ((L.ge i).getD y sd0).1 ((L.ge i).getD y sd0).2.1 ((L.ge i).getD y sd0).2.2 ((c.gen i).getD y [])
  dRG : L.R ≠ L.G
  dro : ∀ i j, i < N → j < N → i ≠ j → L.ro i ≠ L.ro j
  drg : ∀ i j, i < N → j < N → (sval (L.gv j)).ownBlock ≠ some (L.ro i)
  dgv : ∀ i j, i < N → j < N → i ≠ j → ∀ b, (sval (L.gv i)).ownBlock = some b → (sval (L.gv j)).ownBlock ≠ some b

section
variable {w w' : World} {base g N i y : Nat} {c : Ch} {L : LY}
theorem rng_at {f : Nat → Value} (hi : i < N) : ((List.range N).map f)[i]? = some (f i) := by
  rw [List.getElem?_map, List.getElem?_range hi]; rfl
theorem ents_at {l : List SV} (hy : y < l.length) : (l.map sval)[y]? = some (sval (l.getD y sd0)) := by
  rw [List.getElem?_map, List.getD_eq_getElem?_getD, List.getElem?_eq_getElem hy]; rfl
theorem Cn.ltG (h : Cn w base g N c L) : base ≤ L.G ∧ L.G < w.heap.size := World.ownsRow.lt h.own2 L.G rfl
theorem Cn.ltR (h : Cn w base g N c L) : base ≤ L.R ∧ L.R < w.heap.size := World.ownsRow.lt h.own1 L.R rfl
theorem Cn.ltro (h : Cn w base g N c L) (hi : i < N) : base ≤ L.ro i ∧ L.ro i < w.heap.size := World.ownsRow.lt (h.row1 i hi) (L.ro i) rfl
theorem Cn.ltgv (h : Cn w base g N c L) (hi : i < N) : ∀ k, (sval (L.gv i)).ownBlock = some k → base ≤ k ∧ k < w.heap.size := World.ownsRow.lt (h.row2 i hi)
theorem Cn.mut (h : Cn w base g N c L) {b : Nat} (hb : Mut N L b) : base ≤ b ∧ b < w.heap.size := by
  rcases hb with rfl | ⟨i, hi, rfl⟩ | ⟨i, hi, e⟩
  · exact h.ltG
  · exact h.ltro hi
  · exact h.ltgv hi b e
theorem Cn.noInt (h : Cn w base g N c L) : NoInt w (Mut N L) := by
  intro b hb
  rcases hb with rfl | ⟨i, hi, rfl⟩ | ⟨i, hi, e⟩
  · obtain ⟨cur, e⟩ := ownsRow_typ h.own2 (k := L.G) rfl
    exact ⟨cur, _, _, e, by decide⟩
  · obtain ⟨cur, e⟩ := ownsRow_typ (h.row1 i hi) (k := L.ro i) rfl
    exact ⟨cur, _, _, e, by decide⟩
  · obtain ⟨cur, e⟩ := ownsRow_typ (h.row2 i hi) e
    exact ⟨cur, _, _, e, by decide⟩
/-- The chain's own block and its table of rows never turn. -/
theorem Cn.g_mut (h : Cn w base g N c L) : ¬ Mut N L g := by
  intro hb
  have hk : ∀ cs t, w.heap[g]? = some (.cells cs t (0, 0)) → t = 121 := fun cs t e => by
    have := h.blk
    unfold Blk at this
    rw [this] at e
    injection e with e
    injection e with _ e
    exact e.symm
  rcases hb with e | ⟨i, hi, e⟩ | ⟨i, hi, e⟩
  · obtain ⟨cur, e2⟩ := ownsRow_typ h.own2 (k := L.G) rfl
    rw [← e] at e2
    exact absurd (hk _ _ e2) (by decide)
  · obtain ⟨cur, e2⟩ := ownsRow_typ (h.row1 i hi) (k := L.ro i) rfl
    rw [← e] at e2
    exact absurd (hk _ _ e2) (by decide)
  · obtain ⟨cur, e2⟩ := ownsRow_typ (h.row2 i hi) e
    exact absurd (hk _ _ e2) (by decide)
theorem Cn.typS (h : Cn w base g N c L) {b : Nat} {cs : Array Value} {fz} (hb : w.heap[b]? = some (.cells cs 24 fz)) : (∀ i, i < N → L.ro i ≠ b) ∧ ∀ i, i < N → (sval (L.gv i)).ownBlock ≠ some b := by
  refine ⟨fun i hi e => ?_, fun i hi e => ?_⟩
  · obtain ⟨cur, e2⟩ := ownsRow_typ (h.row1 i hi) (k := L.ro i) rfl
    rw [e, hb] at e2
    injection e2 with e2
    injection e2 with _ e3
    exact absurd e3 (by decide)
  · obtain ⟨cur, e2⟩ := ownsRow_typ (h.row2 i hi) e
    rw [hb] at e2
    injection e2 with e2
    injection e2 with _ e3
    exact absurd e3 (by decide)
theorem Cn.R_mut (h : Cn w base g N c L) : ¬ Mut N L L.R := by
  obtain ⟨cur, e2⟩ := ownsRow_typ h.own1 (k := L.R) rfl
  have ht := h.typS e2
  rintro (e | ⟨i, hi, e⟩ | ⟨i, hi, e⟩)
  · exact h.dRG e
  · exact ht.1 i hi e.symm
  · exact ht.2 i hi e
/-- Calls that turn nothing keep it. -/
theorem Cn.up (h : Cn w base g N c L) (hb : Below w.heap.size w w') : Cn w' base g N c L := by
  have hc : Chg w w' (fun _ => False) := .of_below hb
  exact ⟨(hb.block g h.blk.lt).trans h.blk, h.hg, ownsRow_chg h.own1 hc fun _ _ e => e, fun i hi => ownsRow_chg (h.row1 i hi) hc fun _ _ e => e, h.len1, fun i hi y hy => (h.ent1 i hi y hy).up hb,
    ownsRow_chg h.own2 hc fun _ _ e => e, fun i hi => ownsRow_chg (h.row2 i hi) hc fun _ _ e => e, h.len2, fun i hi y hy => (h.ent2 i hi y hy).up hb, h.dRG, h.dro, h.drg, h.dgv⟩
theorem Cn.drewN (h : Cn w base g N c L) (k : Nat) : Cn (w.drewN k) base g N c L := h.up ⟨rfl, rfl, rfl, Nat.le_refl _, fun _ _ => rfl⟩
/-! reading -/
theorem Cn.c0 (h : Cn w base g N c L) : w.cell? ⟨g, 0, none⟩ = some (.int .i64 (N : Nat)) := h.blk.cell 0
theorem Cn.c1 (h : Cn w base g N c L) : w.cell? ⟨g, 1, none⟩ = some (.slice (some ⟨L.R, 0, none⟩) N L.cR) := h.blk.cell 1
theorem Cn.c2 (h : Cn w base g N c L) : w.cell? ⟨g, 2, none⟩ = some (.slice (some ⟨L.G, 0, none⟩) N L.cG) := h.blk.cell 2
theorem Cn.cR (h : Cn w base g N c L) (hi : i < N) : w.cell? ⟨L.R, i, none⟩ = some (.slice (some ⟨L.ro i, 0, none⟩) N N) := by
  rw [h.own1.cellAt i (by omega), rng_at hi]
theorem Cn.cG (h : Cn w base g N c L) (hi : i < N) : w.cell? ⟨L.G, i, none⟩ = some (sval (L.gv i)) := by
  rw [h.own2.cellAt i (by omega), rng_at hi]
theorem Cn.cro (h : Cn w base g N c L) (hi : i < N) (hy : y < N) : w.cell? ⟨L.ro i, y, none⟩ = some (sval ((L.en i).getD y sd0)) := by
  rw [(h.row1 i hi).cellAt y (by omega), ents_at (by rw [h.len1 i hi]; exact hy)]
theorem Cn.gvn (h : Cn w base g N c L) (hi : i < N) : (L.gv i).2.1 = (c.gen i).length := by
  rcases (h.row2 i hi).2 with ⟨e, h0⟩ | ⟨g', cap, cur, e, _⟩
  · unfold sval at e; injection e with _ e _; rw [e, h0]
  · unfold sval at e; injection e
theorem Cn.cge (h : Cn w base g N c L) (hi : i < N) (hy : y < (c.gen i).length) : ∃ q cq, L.gv i = (some ⟨q, 0, none⟩, (c.gen i).length, cq) ∧ w.cell? ⟨q, y, none⟩ = some (sval ((L.ge i).getD y sd0)) := by
  have ho := h.row2 i hi
  rcases ho.2 with ⟨e, h0⟩ | ⟨g', cap, cur, e, _⟩
  · omega
  · refine ⟨g', cap, ?_, ?_⟩
    · rcases hg : L.gv i with ⟨a, b, d⟩
      rw [hg] at e; unfold sval at e; injection e with e1 e2 e3
      subst e1 e2 e3; rfl
    · rw [e] at ho
      rw [ho.cellAt y (by omega), ents_at (by rw [h.len2 i hi]; exact hy)]
theorem Cn.enn (h : Cn w base g N c L) (hi : i < N) (hy : y < N) : ((L.en i).getD y sd0).2.1 = (c.rep i y).length := (h.ent1 i hi y hy).1.symm
end
end Go.Proofs.Ytkjokchhffjidaa

/- The model's chain in memory: one store of a representative, one generator appended. No condition. -/
namespace Go.Proofs.Ytkjokchhffjidaa
open Go.RowKit

section
variable {w w' : World} {base g N k y : Nat} {c : Ch} {L : LY} {p : List Int}
theorem typ_ne {w : World} {a b : Nat} {cs ds : Array Value} {s t : TypeId} (ha : w.heap[a]? = some (.cells cs s (0, 0))) (hb : w.heap[b]? = some (.cells ds t (0, 0))) (hn : s ≠ t) : a ≠ b := fun e => by
  subst e
  rw [ha] at hb
  injection hb with hb
  injection hb with _ e
  exact hn e
theorem Cn.ro_ne_G (h : Cn w base g N c L) {i : Nat} (hi : i < N) : L.ro i ≠ L.G := by
  obtain ⟨_, e1⟩ := ownsRow_typ (h.row1 i hi) (k := L.ro i) rfl
  obtain ⟨_, e2⟩ := ownsRow_typ h.own2 (k := L.G) rfl
  exact typ_ne e1 e2 (by decide)
theorem Cn.gv_ne_G (h : Cn w base g N c L) {i : Nat} (hi : i < N) : (sval (L.gv i)).ownBlock ≠ some L.G := fun e => by
  obtain ⟨_, e1⟩ := ownsRow_typ (h.row2 i hi) e
  obtain ⟨_, e2⟩ := ownsRow_typ h.own2 (k := L.G) rfl
  exact typ_ne e1 e2 (by decide) rfl
/-- The layout behind a store of a representative. -/
def LY.put (L : LY) (k y : Nat) (d : SV) : LY := { L with en := fun i => if i = k then (L.en k).set y d else L.en i }
theorem Cn.store (h : Cn w base g N c L) (hk : k < N) (hy : y < N) {d : SV} (hp : Slc w base d.1 d.2.1 d.2.2 p) :
    Cn (w.setCell ⟨L.ro k, y, none⟩ (sval d)) base g N (c.set k y p) (L.put k y d) ∧ w.grownBy (w.setCell ⟨L.ro k, y, none⟩ (sval d)) (some (L.ro k)) := by
  obtain ⟨hown, hgr⟩ := (h.row1 k hk).stored y (sval d)
  have hc : Chg w (w.setCell ⟨L.ro k, y, none⟩ (sval d)) (fun b => b = L.ro k) := .of_grown hgr (by intro b e; injection e with e; exact e.symm)
  have hni : NoInt w (fun b => b = L.ro k) := fun b e => h.noInt b (.inr (.inl ⟨k, hk, e⟩))
  refine ⟨⟨?_, h.hg, ?_, fun i hi => ?_, fun i hi => ?_, fun i hi z hz => ?_, ?_, fun i hi => ?_, h.len2, fun i hi z hz => (h.ent2 i hi z hz).chg hc hni, h.dRG, h.dro, h.drg, h.dgv⟩, hgr⟩
  · exact (hc.block g h.blk.lt (fun e => h.g_mut (.inr (.inl ⟨k, hk, e⟩)))).trans h.blk
  · exact ownsRow_chg h.own1 hc fun b e e2 => h.R_mut (.inr (.inl ⟨k, hk, (Option.some.inj e : L.R = b).trans e2⟩))
  · by_cases e : i = k
    · subst e
      show World.ownsRow _ base _ 1 _ N (List.map sval (if i = i then _ else _))
      rw [if_pos rfl, List.map_set]; exact hown
    · show World.ownsRow _ base _ 1 _ N (List.map sval (if i = k then _ else _))
      rw [if_neg e]
      refine ownsRow_chg (h.row1 i hi) hc fun b e1 e2 => h.dro i k hi hk e ?_
      have : L.ro i = b := Option.some.inj e1
      rw [this]; exact e2
  · show (if i = k then (L.en k).set y d else L.en i).length = N
    by_cases e : i = k
    · rw [if_pos e, List.length_set]; exact h.len1 k hk
    · rw [if_neg e]; exact h.len1 i hi
  · show Slc _ base ((if i = k then (L.en k).set y d else L.en i).getD z sd0).1 ((if i = k then (L.en k).set y d else L.en i).getD z sd0).2.1 ((if i = k then (L.en k).set y d else L.en i).getD z sd0).2.2 (if i = k ∧ z = y then p else c.rep i z)
    by_cases e : i = k
    · rw [if_pos e]
      subst e
      by_cases ez : z = y
      · subst ez
        rw [if_pos ⟨rfl, rfl⟩, getD_set_eq (by rw [h.len1 i hi]; exact hz)]
        exact hp.chg hc hni
      · rw [if_neg (fun e => ez e.2), getD_set_ne (fun e => ez e.symm)]
        exact (h.ent1 i hi z hz).chg hc hni
    · rw [if_neg e, if_neg (fun e2 => e e2.1)]
      exact (h.ent1 i hi z hz).chg hc hni
  · refine ownsRow_chg h.own2 hc fun b e1 e2 => h.ro_ne_G hk ?_
    have : L.G = b := Option.some.inj e1
    rw [this]; exact e2.symm
  · exact ownsRow_chg (h.row2 i hi) hc fun b e1 e2 => h.drg k i hk hi (by rw [← e2]; exact e1)
theorem mut_put {d : SV} (b : Nat) : Mut N (L.put k y d) b ↔ Mut N L b := Iff.rfl

def LY.app (L : LY) (k : Nat) (d e : SV) : LY := { L with gv := fun i => if i = k then d else L.gv i, ge := fun i => if i = k then L.ge k ++ [e] else L.ge i }
theorem Cn.pushed (h : Cn w base g N c L) (hk : k < N) {w1 : World} {d e : SV} (hown : w1.ownsRow base 27 1 (sval d) ((c.gen k).length + 1) ((L.ge k).map sval ++ [sval e])) (hgr : w.grownBy w1 (sval (L.gv k)).ownBlock)
    (hat : (sval d).ownBlock = (sval (L.gv k)).ownBlock ∨ ∃ q, (sval d).ownBlock = some q ∧ w.heap.size ≤ q) (he : Slc w base e.1 e.2.1 e.2.2 p) :
    Cn (w1.setCell ⟨L.G, k, none⟩ (sval d)) base g N (c.push k p) (L.app k d e) ∧ Chg w (w1.setCell ⟨L.G, k, none⟩ (sval d)) (Mut N L) ∧ ∀ b, Mut N (L.app k d e) b → Mut N L b ∨ w.heap.size ≤ b := by
  have own2 := ownsRow_chg h.own2 (Chg.of_grown (M := fun b => (sval (L.gv k)).ownBlock = some b) hgr fun b e => e) fun b e1 e2 => h.gv_ne_G hk (by
    have : L.G = b := Option.some.inj e1
    rw [this]; exact e2)
  obtain ⟨hown2, hgr2⟩ := own2.stored k (sval d)
  have hc : Chg w (w1.setCell ⟨L.G, k, none⟩ (sval d)) (fun b => b = L.G ∨ (sval (L.gv k)).ownBlock = some b) :=
    (Chg.of_grown (M := fun b => b = L.G ∨ (sval (L.gv k)).ownBlock = some b) hgr fun b e => .inr e).trans (.of_grown (M := fun b => b = L.G) hgr2 (by intro b e; injection e with e; exact e.symm)) fun b e => .inl (.inl e)
  have hsub : ∀ b, (b = L.G ∨ (sval (L.gv k)).ownBlock = some b) → Mut N L b := fun b e => by
    rcases e with e | e
    · exact .inl e
    · exact .inr (.inr ⟨k, hk, e⟩)
  have hni : NoInt w (fun b => b = L.G ∨ (sval (L.gv k)).ownBlock = some b) := fun b e => h.noInt b (hsub b e)
  have hlen : ∀ i, ((c.push k p).gen i).length = if i = k then (c.gen k).length + 1 else (c.gen i).length := fun i => by
    show (if i = k then c.gen k ++ [p] else c.gen i).length = _
    split <;> simp
  have hdG : ∀ b, (sval d).ownBlock = some b → b ≠ L.G := fun b eb => by
    obtain ⟨_, e1⟩ := ownsRow_typ hown eb
    obtain ⟨_, e2⟩ := ownsRow_typ own2 (k := L.G) rfl
    exact typ_ne e1 e2 (by decide)
  have hmut : ∀ b, Mut N (L.app k d e) b → Mut N L b ∨ w.heap.size ≤ b := fun b hb => by
    rcases hb with hb | ⟨i, hi, hb⟩ | ⟨i, hi, hb⟩
    · exact .inl (.inl hb)
    · exact .inl (.inr (.inl ⟨i, hi, hb⟩))
    · have hb' : (sval (if i = k then d else L.gv i)).ownBlock = some b := hb
      by_cases ei : i = k
      · rw [if_pos ei] at hb'
        rcases hat with ha | ⟨q, ha, hq⟩
        · exact .inl (.inr (.inr ⟨k, hk, by rw [← ha]; exact hb'⟩))
        · rw [ha] at hb'; injection hb' with hb'; subst hb'; exact .inr hq
      · rw [if_neg ei] at hb'; exact .inl (.inr (.inr ⟨i, hi, hb'⟩))
  refine ⟨⟨?_, h.hg, ?_, fun i hi => ?_, h.len1, fun i hi z hz => (h.ent1 i hi z hz).chg hc hni, ?_, fun i hi => ?_, fun i hi => ?_, fun i hi z hz => ?_, h.dRG, h.dro, fun i j hi hj => ?_, fun i j hi hj hij b => ?_⟩, ⟨hc.os, hc.tape, hc.output, hc.size, fun b hb hn => hc.block b hb fun e => hn (hsub b e)⟩, hmut⟩
  · exact (hc.block g h.blk.lt (fun e => h.g_mut (hsub _ e))).trans h.blk
  · exact ownsRow_chg h.own1 hc fun b e1 e2 => h.R_mut (by
      have : L.R = b := Option.some.inj e1
      rw [this]; exact hsub _ e2)
  · refine ownsRow_chg (h.row1 i hi) hc fun b e1 e2 => ?_
    have eb : L.ro i = b := Option.some.inj e1
    rcases e2 with e2 | e2
    · exact h.ro_ne_G hi (by rw [eb]; exact e2)
    · exact h.drg i k hi hk (by rw [eb]; exact e2)
  · have e3 : ((List.range N).map fun i => sval (L.gv i)).set k (sval d) = (List.range N).map fun i => sval (if i = k then d else L.gv i) := by
      refine List.ext_getElem (by simp) fun j h1 h2 => ?_
      rw [List.getElem_set]
      simp only [List.getElem_map, List.getElem_range]
      by_cases ej : k = j
      · subst ej; simp
      · rw [if_neg ej, if_neg (fun e => ej e.symm)]
    show World.ownsRow _ base _ 1 _ N ((List.range N).map fun i => sval (if i = k then d else L.gv i))
    rw [← e3]; exact hown2
  · rw [hlen]
    show World.ownsRow _ base _ 1 (sval (if i = k then d else L.gv i)) _ (List.map sval (if i = k then L.ge k ++ [e] else L.ge i))
    by_cases ei : i = k
    · rw [if_pos ei, if_pos ei, if_pos ei, List.map_append]
      exact ownsRow_chg hown (.of_grown (M := fun b => b = L.G) hgr2 (by intro b e; injection e with e; exact e.symm)) fun b e1 e2 => hdG b e1 e2
    · rw [if_neg ei, if_neg ei, if_neg ei]
      refine ownsRow_chg (h.row2 i hi) hc fun b e1 e2 => ?_
      rcases e2 with e2 | e2
      · rw [e2] at e1; exact h.gv_ne_G hi e1
      · exact h.dgv i k hi hk ei b e1 e2
  · rw [hlen]
    show (if i = k then L.ge k ++ [e] else L.ge i).length = _
    by_cases ei : i = k
    · rw [if_pos ei, if_pos ei, List.length_append, h.len2 k hk]; rfl
    · rw [if_neg ei, if_neg ei]; exact h.len2 i hi
  · rw [hlen] at hz
    show Slc _ base ((if i = k then L.ge k ++ [e] else L.ge i).getD z sd0).1 ((if i = k then L.ge k ++ [e] else L.ge i).getD z sd0).2.1 ((if i = k then L.ge k ++ [e] else L.ge i).getD z sd0).2.2 ((if i = k then c.gen k ++ [p] else c.gen i).getD z [])
    by_cases ei : i = k
    · rw [if_pos ei] at hz
      rw [if_pos ei, if_pos ei]
      by_cases ez : z < (c.gen k).length
      · rw [getD_app _ _ _ z (by rw [h.len2 k hk]; exact ez), getD_app _ _ _ z ez]
        exact (h.ent2 k hk z ez).chg hc hni
      · have ez2 : z = (c.gen k).length := by omega
        rw [getD_snoc _ _ _ z (by rw [h.len2 k hk]; exact ez2), getD_snoc _ _ _ z ez2]
        exact he.chg hc hni
    · rw [if_neg ei] at hz
      rw [if_neg ei, if_neg ei]
      exact (h.ent2 i hi z hz).chg hc hni
  · show (sval (if j = k then d else L.gv j)).ownBlock ≠ some (L.ro i)
    by_cases ej : j = k
    · rw [if_pos ej]
      rcases hat with ha | ⟨q, ha, hq⟩
      · rw [ha]; exact h.drg i k hi hk
      · rw [ha]; intro e; injection e with e; have := (h.ltro hi).2; omega
    · rw [if_neg ej]; exact h.drg i j hi hj
  · show (sval (if i = k then d else L.gv i)).ownBlock = some b → (sval (if j = k then d else L.gv j)).ownBlock ≠ some b
    by_cases ei : i = k
    · rw [if_pos ei, if_neg (fun e => hij (ei.trans e.symm))]
      intro e1 e2
      rcases hat with ha | ⟨q, ha, hq⟩
      · rw [ha] at e1; exact h.dgv k j hk hj (fun e => hij (ei.trans e)) b e1 e2
      · rw [ha] at e1; injection e1 with e1; have := (h.ltgv hj b e2).2; omega
    · rw [if_neg ei]
      by_cases ej : j = k
      · rw [if_pos ej]
        intro e1 e2
        rcases hat with ha | ⟨q, ha, hq⟩
        · rw [ha] at e2; exact h.dgv k i hk hi (fun e => ei e.symm) b e2 e1
        · rw [ha] at e2; injection e2 with e2; have := (h.ltgv hi b e1).2; omega
      · rw [if_neg ej]; exact h.dgv i j hi hj hij b
end
end Go.Proofs.Ytkjokchhffjidaa

/- The model's sift. Conditions: at most 20 points; representatives in order from the level on. -/
namespace Go.Proofs.Ytkjokchhffjidaa
open Go.RowKit

theorem rep_ne_pos {N i y : Nat} {c : Ch} (h : RepOK N c i) (hy : c.rep i y ≠ []) : (c.rep i y).length = N := (h.at_ y hy).2.1.2
theorem bdr {B : Nat} {a w : World} (h : Below B a w) (k : Nat) : Below B a (w.drewN k) := ⟨h.os, h.tape, h.output, h.size, h.block⟩
theorem drewN_below (w : World) (k : Nat) : Below w.heap.size w (w.drewN k) := ⟨rfl, rfl, rfl, Nat.le_refl _, fun _ _ => rfl⟩

set_option maxHeartbeats 4000000 in
set_option maxRecDepth 100000 in
/-- sift: does the chain hold p? -/
theorem specSift (base g N k cp : Nat) (A : Option Addr) (c : Ch) (L : LY) (p : List Int) (w : World) (hc : Cn w base g N c L) (hp : RI w w.heap.size A p) (hP : Hid (Pn N p)) (hF : Hid (Fx k p)) (hk : k ≤ N) (hr : Hid (∀ i, k ≤ i → i < N → RepOK N c i)) :
    Calls Try.prog 118 #[.pointer (some ⟨g, 0, none⟩), .int .i64 (k : Nat), .slice A N cp] w fun e w' => ∃ (A' : Option Addr) (n' c' lvl : Nat), e = .returned (.tuple #[.slice A' n' c', .int .i64 (lvl : Nat)]) ∧ (lvl = N ↔ Sv N c k p) ∧ lvl ≤ N ∧ Below w.heap.size w w' := by
  have HC := Lib.hid hc
  have HP := Lib.hid hp
  have hN := hP.out.pos
  clear hc hp
  go_enter Try.func118, Try.ntmps118
  go_wp2_with fail
  go_loopw [2, 8] (fun v i wr => ∃ (i' c1 : Nat) (A1 : Option Addr) (q : List Int), k ≤ i' ∧ i' ≤ N ∧ i = .int .i64 (i' : Nat) ∧ v = .slice A1 N c1 ∧ RI wr wr.heap.size A1 q ∧ Pn N q ∧ Fx i' q ∧ (Sv N c k p ↔ Sv N c i' q) ∧ Below w.heap.size w wr) (fun _ i _ => N - (intOf i).toNat)
  case atStart => exact ⟨k, _, _, _, Nat.le_refl _, hk, rfl, rfl, HP.out, hP.out, hF.out, Iff.rfl, Below.refl _ _⟩
  case round =>
    obtain ⟨i, c1, A1, q, hki, hiN, rfl, rfl, hq, hqp, hqf, hsv, bel⟩ := hrel
    have Q := Lib.hid hq
    have Qp := Lib.hid hqp
    have Qf := Lib.hid hqf
    have Sv0 := Lib.hid hsv
    have Be := Lib.hid bel
    have Ci := Lib.hid (HC.out.up bel)
    clear hq hqp hqf hsv bel HC HP
    have x0 := Ci.out.c0
    by_cases hlt : i < N
    · have Ri := Lib.hid (hr.out i hki hlt)
      obtain ⟨b, off, rfl, hb, hcell⟩ := Q.out (by rw [Qp.out.2]; omega)
      have c2 := hcell i (by rw [Qp.out.2]; exact hlt)
      obtain ⟨y, ey⟩ : ∃ y, nx q i = y := ⟨_, rfl⟩
      have hy : y < N := by rw [← ey]; exact Qp.out.lt hlt
      rw [nx_val Qp.out.1 (by rw [Qp.out.2]; exact hlt), ey] at c2
      have x1 := Ci.out.c1
      have x2 := Ci.out.cR hlt
      have x3 := Ci.out.cro hlt hy
      have en := Ci.out.enn hlt hy
      have er := Ci.out.ent1 i hlt y hy
      rcases hd : (L.en i).getD y sd0 with ⟨dA, dn, dc⟩
      rw [hd] at x3 en er
      have Er : Hid (RI wr wr.heap.size dA (c.rep i y)) := Lib.hid er.ri_
      have p0 : (0 : Int) ≤ i := by omega
      have p1 : (i : Int) < N := by omega
      have p2 : (0 : Int) ≤ y := by omega
      have p3 : (y : Int) < N := by omega
      simp only [sval] at x3
      clear hb hd er hcell
      by_cases hz : c.rep i y = []
      · have hdn : dn = 0 := by
          have : dn = (c.rep i y).length := en
          rw [this, hz]; rfl
        subst hdn
        clear en
        go_wp2_with fail
        go_quiet (fail)
        go_wp2_with fail
        go_ret2
        exact ⟨_, _, _, i, rfl, ⟨fun e => absurd e (by omega), fun hs => absurd (by rw [ey]; exact hz) ((Sv0.out.1 hs).inv_low hlt).2.2.1⟩, by omega, bdr Be.out _⟩
      · have hRN : (c.rep i y).length = N := rep_ne_pos Ri.out hz
        obtain ⟨h1, hrP, hrF, hrk⟩ := Ri.out.at_ y hz
        obtain rfl : dn = N := by
          have : dn = (c.rep i y).length := en
          omega
        have RP := Lib.hid hrP
        have HRN := Lib.hid hRN
        clear en hRN h1
        have e0 : ((dn : Int) == 0) = false := by simp; omega
        go_wp2_with fail
        go_quiet (fail)
        obtain ⟨wd, hwd⟩ : ∃ wd, wr.drewN nq = wd := ⟨_, rfl⟩
        have Bd : Hid (Below wr.heap.size wr wd) := Lib.hid (by rw [← hwd]; exact drewN_below wr nq)
        have Qd := Lib.hid (Q.out.up Bd.out)
        have Ed := Lib.hid (Er.out.up Bd.out)
        have Bed : Hid (Below w.heap.size w wd) := Lib.hid (btr Be.out Bd.out)
        rw [hwd]
        clear hwd
        go_wp2_with fail
        refine (specInv dA dc dn (c.rep i y) wd Ed.out HRN (Lib.hid RP.out.1) hN.2).mono ?_
        rintro e w1 ⟨A2, c3, rfl, s2, b2⟩
        have S2 := Lib.hid s2
        have Q2 := Lib.hid (Qd.out.up b2)
        have Be2 : Hid (Below w.heap.size w w1) := Lib.hid (btr Bed.out b2)
        clear s2 b2
        go_wp2_with fail
        refine (specComp (some ⟨b, off, none⟩) A2 c1 c3 dn q (invL (c.rep i y) dn) w1 Q2.out S2.out.ri_ (Lib.hid Qp.out.2) S2.out.hid (Lib.hid Qp.out.1) hN.2).mono ?_
        rintro e w2 ⟨A3, c4, rfl, s3, b3⟩
        have S3 := Lib.hid s3
        have Be3 : Hid (Below w.heap.size w w2) := Lib.hid (btr Be2.out b3)
        clear s3 b3
        go_wp2_with fail
        have eiv : invL (c.rep i y) dn = iv (c.rep i y) := by unfold iv; rw [HRN.out]
        rw [eiv] at S3
        go_roundw
        case rel =>
          refine ⟨i + 1, _, _, _, by omega, by omega, by go_num, rfl, S3.out.ri_, Qp.out.comp RP.out.iv, ?_, ?_, Be3.out⟩
          · refine (Qf.out.comp Qp.out (hrF.iv RP.out (by omega)) (by omega)).succ ?_
            rw [Qp.out.nxc hlt, ey]
            have := RP.out.nxi hlt
            rw [hrk] at this; exact this
          · rw [Sv0.out]
            constructor
            · intro hs
              have := (hs.inv_low hlt).2.2.2
              rw [ey] at this; exact this
            · intro hs
              exact .low hlt Qp.out Qf.out (by rw [ey]; exact hz) (by rw [ey]; exact hs)
        case measure => simp [intOf]; omega
    · obtain rfl : i = N := by omega
      go_wp2_with fail
      go_quiet (fail)
      go_wp2_with fail
      go_ret2
      refine ⟨_, _, _, i, rfl, ⟨fun _ => Sv0.out.2 ?_, fun _ => rfl⟩, Nat.le_refl _, bdr Be.out _⟩
      rw [Qf.out.all Qp.out]; exact .top
end Go.Proofs.Ytkjokchhffjidaa

/- The model's addProduct, where addGenerator one level up keeps its contract. Conditions: at most 20 points; the chain whole above the level. -/
namespace Go.Proofs.Ytkjokchhffjidaa
open Go.RowKit

/-- What addGenerator keeps at level k. -/
def AGs (base g N k : Nat) : Prop := ∀ (cp : Nat) (A : Option Addr) (c : Ch) (L : LY) (p : List Int) (w : World), Cn w base g N c L → Slc w base A N cp p → Pn N p → Fx k p → UpTo N c k →
  Calls Try.prog 116 #[.pointer (some ⟨g, 0, none⟩), .int .i64 (k : Nat), .slice A N cp] w fun e w' => ∃ c' L', e = .returned (.tuple #[]) ∧ Cn w' base g N c' L' ∧ Chg w w' (Mut N L) ∧ (∀ b, Mut N L' b → Mut N L b ∨ w.heap.size ≤ b) ∧ Ap N k c c' p
/-- How many points of level k have no representative. -/
def miss (N : Nat) (c : Ch) (k : Nat) : Nat := (List.range N).countP fun y => (c.rep k y).isEmpty
/-- What addProduct keeps at level k. -/
def APs (base g N k fuel : Nat) : Prop := ∀ (cp : Nat) (A : Option Addr) (c : Ch) (L : LY) (q : List Int) (w : World), Cn w base g N c L → Slc w base A N cp q → Low N c k → Mb (c.gen k) N q → (c.gen k).length ≤ 401 → miss N c k ≤ fuel →
  Calls Try.prog 126 #[.pointer (some ⟨g, 0, none⟩), .int .i64 (k : Nat), .slice A N cp] w fun e w' => ∃ c' L', e = .returned (.tuple #[]) ∧ Cn w' base g N c' L' ∧ Chg w w' (Mut N L) ∧ (∀ b, Mut N L' b → Mut N L b ∨ w.heap.size ≤ b) ∧ Bp N k c c' q
theorem miss_mono {N k : Nat} {c c' : Ch} (h : Grw k c c') : miss N c' k ≤ miss N c k := by
  refine List.countP_mono_left fun y _ hy => ?_
  rcases e : (c.rep k y).isEmpty with _ | _
  · rw [List.isEmpty_eq_false_iff] at e
    rw [h.keep k y e] at hy
    rw [List.isEmpty_iff] at hy; exact absurd hy e
  · rfl
theorem miss_lt {N k : Nat} {c c' : Ch} (h : Grw k c c') {y : Nat} (hy : y < N) (h1 : c.rep k y = []) (h2 : c'.rep k y ≠ []) : miss N c' k < miss N c k := by
  refine countP_lt (x := y) (fun t ht => ?_) (List.mem_range.2 hy) (List.isEmpty_eq_false_iff.2 h2) (by rw [h1]; rfl)
  rcases e : (c.rep k t).isEmpty with _ | _
  · rw [List.isEmpty_eq_false_iff] at e
    rw [h.keep k t e] at ht
    rw [List.isEmpty_iff] at ht; exact absurd ht e
  · rfl

set_option maxHeartbeats 4000000 in
set_option maxRecDepth 100000 in
theorem specAddProd1 (base g N k : Nat) (hkN : k < N) (AG : AGs base g N (k + 1)) (fuel : Nat) (IH : ∀ f, f < fuel → APs base g N k f) : APs base g N k fuel := by
  intro cp A c L q w hc hs hl hq hgl hm
  have hP := hq.pn hl.pn (by omega) (by
    have := (hl.rep.at_ k (by rw [hl.rep.one]; intro e; have := idL_length N; rw [e] at this; simp at this; omega)).2.1.pos
    exact this.2)
  have hN := hP.pos
  have hb0 : base ≤ w.heap.size := by have := hc.ltR; omega
  have HC := Lib.hid hc
  have HS := Lib.hid hs
  have HL := Lib.hid hl
  have HQ := Lib.hid hq
  have QP := Lib.hid hP
  have Hm := Lib.hid hm
  obtain ⟨b, off, hA, hb, hcell⟩ := hs.ri_ (by rw [hP.2]; omega)
  subst hA
  have x5 := hcell k (by rw [hP.2]; exact hkN)
  obtain ⟨y, ey⟩ : ∃ y, nx q k = y := ⟨_, rfl⟩
  have hy : y < N := by rw [← ey]; exact hP.lt hkN
  rw [nx_val hP.1 (by rw [hP.2]; exact hkN), ey] at x5
  have Ey := Lib.hid ey
  have x1 := hc.c1
  have x2 := hc.cR hkN
  have x3 := hc.cro hkN hy
  have en := hc.enn hkN hy
  have er := hc.ent1 k hkN y hy
  rcases hd : (L.en k).getD y sd0 with ⟨dA, dn, dc⟩
  rw [hd] at x3 en er
  have Er : Hid (RI w w.heap.size dA (c.rep k y)) := Lib.hid er.ri_
  have p0 : (0 : Int) ≤ k := by omega
  have p1 : (k : Int) < N := by omega
  have p2 : (0 : Int) ≤ y := by omega
  have p3 : (y : Int) < N := by omega
  simp only [sval] at x3
  clear hb hcell hd er hc hs hl hq hP hm ey
  by_cases hz : c.rep k y = []
  · obtain rfl : dn = 0 := by
      have : dn = (c.rep k y).length := en
      rw [this, hz]; rfl
    have d0 : decide ((0 : Int) < 0) = false := by decide
    clear en
    have fz := (HC.out.row1 k hkN).frozenAt y
    go_enter Try.func126, Try.ntmps126
    go_wp2_with fail
    go_quiet (fail)
    have x1' : (w.drewN nq).cell? ⟨g, 1, none⟩ = _ := x1
    have x2' : (w.drewN nq).cell? ⟨L.R, k, none⟩ = _ := x2
    have x5' : (w.drewN nq).cell? ⟨b, off + k, none⟩ = _ := x5
    have x3' : (w.drewN nq).cell? ⟨L.ro k, y, none⟩ = _ := x3
    have fz' : (w.drewN nq).frozen? ⟨L.ro k, y, none⟩ = false := fz
    obtain ⟨wd, hwd⟩ : ∃ wd, w.drewN nq = wd := ⟨_, rfl⟩
    have Bd : Hid (Below w.heap.size w wd) := Lib.hid (by rw [← hwd]; exact drewN_below w nq)
    have Sd := Lib.hid (HS.out.up Bd.out)
    have Cd := Lib.hid (HC.out.up Bd.out)
    rw [hwd] at x1' x2' x5' x3' fz' ⊢
    clear hwd HC HS Er x1 x2 x3 x5 fz
    go_wp2_with fail
    go_region
    have St := Cd.out.store hkN hy (d := (some ⟨b, off, none⟩, N, cp)) Sd.out
    obtain ⟨w1, hw1⟩ : ∃ w1, (wd.setCell ⟨L.ro k, y, none⟩ (.slice (some ⟨b, off, none⟩) N cp)).drew = w1 := ⟨_, rfl⟩
    have hcd : Chg wd w1 (Mut N L) := by
      rw [← hw1]
      exact (Chg.of_grown St.2 (fun b e => .inr (.inl ⟨k, hkN, (Option.some.inj e).symm⟩))).drew
    have C1 : Hid (Cn w1 base g N (c.set k y q) (L.put k y (some ⟨b, off, none⟩, N, cp))) := Lib.hid (by
      rw [← hw1]
      exact St.1.up ⟨rfl, rfl, rfl, Nat.le_refl _, fun _ _ => rfl⟩)
    have Ch1 : Hid (Chg w w1 (Mut N L)) := Lib.hid ((Chg.of_below Bd.out).trans hcd fun b hb => .inl hb)
    have S1 := Lib.hid (Sd.out.chg hcd Cd.out.noInt)
    have Put := Lib.hid (HL.out.put hkN hN.1 hN.2 HQ.out (by rw [Ey.out]; exact hz))
    rw [Ey.out] at Put
    have hms : miss N (c.set k y q) k < fuel := by
      have := miss_lt Put.out.2 hy hz (by rw [set_at]; intro e; have := QP.out.2; rw [e] at this; simp at this; omega)
      have := Hm.out; omega
    obtain ⟨G, hG⟩ : ∃ G, (c.gen k).length = G := ⟨_, rfl⟩
    have HG := Lib.hid hG
    rw [hG] at hgl
    rw [hw1]
    clear hw1 hcd St x1' x2' x5' x3' fz' Bd Sd Cd hG p2 p3
    go_wp2_with fail
    go_loopw [7] (fun i wr => ∃ (j : Nat) (cj : Ch) (Lj : LY), j ≤ G ∧ i = .int .i64 (j : Nat) ∧ Cn wr base g N cj Lj ∧ Chg w wr (Mut N L) ∧ (∀ b, Mut N Lj b → Mut N L b ∨ w.heap.size ≤ b) ∧ Bl N k (c.set k y q) cj q j ∧ Slc wr base (some ⟨b, off, none⟩) N cp q) (fun i _ => G - (intOf i).toNat)
    case atStart => exact ⟨0, _, _, Nat.zero_le _, rfl, C1.out, Ch1.out, fun b hb => .inl hb, .start Put.out.1, S1.out⟩
    case round =>
      clear C1 Ch1 S1
      obtain ⟨j, cj, Lj, hj, rfl, hc, hch, hmt, hbl, hs⟩ := hrel
      have C2 := Lib.hid hc
      have Ch2 := Lib.hid hch
      have Mt2 := Lib.hid hmt
      have Bl2 := Lib.hid hbl
      have S2 := Lib.hid hs
      have eg : (cj.gen k).length = G := by rw [hbl.gen]; exact HG.out
      have x1 := hc.c2
      have x2 := hc.cG hkN
      have gn := hc.gvn hkN
      rw [eg] at gn
      by_cases hlt : j < G
      · obtain ⟨gq, cq, hgv, x3⟩ := hc.cge hkN (y := j) (by rw [eg]; exact hlt)
        have er := hc.ent2 k hkN j (by rw [eg]; exact hlt)
        rw [eg] at hgv
        rw [hgv] at x2
        rcases hd : (Lj.ge k).getD j sd0 with ⟨eA, en, ec⟩
        rw [hd] at x3 er
        obtain ⟨gj, hgj⟩ : ∃ gj, (cj.gen k).getD j [] = gj := ⟨_, rfl⟩
        have hgm : gj ∈ c.gen k := by
          have : cj.gen k = c.gen k := hbl.gen
          rw [← hgj, this, List.getD_eq_getElem?_getD, List.getElem?_eq_getElem (by rw [HG.out]; exact hlt)]; exact List.getElem_mem _
        have hgP := (HL.out.gp gj hgm).1
        rw [hgj] at er
        obtain rfl : en = N := by have h3 : gj.length = en := er.1; have := hgP.2; omega
        have Eg := Lib.hid er
        have GP := Lib.hid hgP
        have Gm := Lib.hid hgm
        have Gj := Lib.hid hgj
        have q0 : (0 : Int) ≤ j := by omega
        have q1 : (j : Int) < G := by omega
        simp only [sval] at x2 x3
        clear hc hch hmt hbl hs gn hgv er hd hgj hgm hgP eg
        go_wp2_with fail
        refine (specComp (some ⟨b, off, none⟩) eA cp ec en q gj wr S2.out.ri_ Eg.out.ri_ (Lib.hid QP.out.2) Eg.out.hid (Lib.hid QP.out.1) hN.2).mono ?_
        rintro e w3 ⟨A3, c4, rfl, s3, b3⟩
        have hbr : base ≤ wr.heap.size := by have := Ch2.out.size; omega
        have S3 : Hid (Slc w3 base A3 en c4 (compL q gj)) := Lib.hid (s3.mono hbr)
        have C3 := Lib.hid (C2.out.up b3)
        have Z3 : Hid (Slc w3 base (some ⟨b, off, none⟩) en cp q) := Lib.hid (S2.out.up b3)
        have Ch3 : Hid (Chg w w3 (Mut en L)) := Lib.hid (Ch2.out.trans (M1 := fun _ => False) (.of_below b3) fun b hb => hb.elim)
        have hz3 := b3.size
        clear s3 b3 C2 S2 x1 x2 x3 q0 q1
        go_wp2_with fail
        have egk : cj.gen k = c.gen k := Bl2.out.gen
        refine (IH (miss en cj k) (by have := miss_mono (N := en) Bl2.out.grw; omega) c4 A3 cj Lj _ w3 C3.out S3.out Bl2.out.low (by rw [egk]; exact HQ.out.mul Gm.out) (by rw [egk, HG.out]; exact hgl) (Nat.le_refl _)).mono ?_
        rintro e w4 ⟨c', L', rfl, hc4, hch4, hmt4, hbp⟩
        have C4 := Lib.hid hc4
        have Ch4 : Hid (Chg w w4 (Mut en L)) := Lib.hid (Ch3.out.trans hch4 Mt2.out)
        have Mt4 : Hid (∀ b, Mut en L' b → Mut en L b ∨ w.heap.size ≤ b) := Lib.hid fun b hb => by
          rcases hmt4 b hb with h | h
          · exact Mt2.out b h
          · exact .inr (by have := Ch3.out.size; omega)
        have Bl4 : Hid (Bl en k (c.set k y q) c' q (j + 1)) := Lib.hid (Bl2.out.next (by
          have e1 : ((c.set k y q).gen k).getD j [] = gj := by rw [← Gj.out, Bl2.out.gen]
          rw [e1]; exact hbp))
        have Z4 : Hid (Slc w4 base (some ⟨b, off, none⟩) en cp q) := Lib.hid (Z3.out.chg hch4 C3.out.noInt)
        clear hc4 hch4 hmt4 hbp egk
        go_wp2_with fail
        go_roundw
        case rel => exact ⟨j + 1, c', L', by omega, by go_num, C4.out, Ch4.out, Mt4.out, Bl4.out, Z4.out⟩
        case measure => simp [intOf]; omega
      · obtain rfl : j = G := by omega
        rcases hgv : Lj.gv k with ⟨eA, en, ec⟩
        rw [hgv] at x2 gn
        have gn2 : en = j := gn
        subst gn2
        have Fin : Hid (Bp N k c cj q) := Lib.hid (Bl.all HL.out hkN hN.1 hN.2 HQ.out (by rw [Ey.out]; exact hz) (by rw [Ey.out, HG.out]; exact Bl2.out))
        simp only [sval] at x2
        clear hc hch hmt hbl hs gn hgv eg
        go_wp2_with fail
        go_end0
        exact ⟨cj, Lj, rfl, C2.out, Ch2.out, Mt2.out, Fin.out⟩
  · have hRN : (c.rep k y).length = N := rep_ne_pos HL.out.rep hz
    obtain rfl : dn = N := by
      have : dn = (c.rep k y).length := en
      omega
    have RP := Lib.hid (HL.out.rep.at_ y hz).2.1
    have HRN := Lib.hid hRN
    have hgt : decide ((0 : Int) < (dn : Int)) = true := by simp; omega
    clear en hRN
    go_enter Try.func126, Try.ntmps126
    go_wp2_with fail
    go_quiet (fail)
    obtain ⟨wd, hwd⟩ : ∃ wd, w.drewN nq = wd := ⟨_, rfl⟩
    have Bd : Hid (Below w.heap.size w wd) := Lib.hid (by rw [← hwd]; exact drewN_below w nq)
    have Sd := Lib.hid (HS.out.up Bd.out)
    have Ed := Lib.hid (Er.out.up Bd.out)
    have Cd := Lib.hid (HC.out.up Bd.out)
    rw [hwd]
    clear hwd HC HS Er x1 x2 x3 x5
    go_wp2_with fail
    refine (specInv dA dc dn (c.rep k y) wd Ed.out HRN (Lib.hid RP.out.1) hN.2).mono ?_
    rintro e w1 ⟨A2, c3, rfl, s2, b2⟩
    have S2 := Lib.hid s2
    have Sd1 := Lib.hid (Sd.out.up b2)
    have C1 := Lib.hid (Cd.out.up b2)
    have B1 : Hid (Below w.heap.size w w1) := Lib.hid (btr Bd.out b2)
    clear s2 b2 Sd Cd Ed
    go_wp2_with fail
    refine (specComp (some ⟨b, off, none⟩) A2 cp c3 dn q (invL (c.rep k y) dn) w1 Sd1.out.ri_ S2.out.ri_ (Lib.hid QP.out.2) S2.out.hid (Lib.hid QP.out.1) hN.2).mono ?_
    rintro e w2 ⟨A3, c4, rfl, s3, b3⟩
    have S3 := Lib.hid s3
    have C2 := Lib.hid (C1.out.up b3)
    have B2 : Hid (Below w.heap.size w w2) := Lib.hid (btr B1.out b3)
    clear s3 b3 C1
    have eiv : invL (c.rep k y) dn = iv (c.rep k y) := by unfold iv; rw [HRN.out]
    rw [eiv] at S3
    have Rst := Lib.hid (HL.out.rest hkN hN.1 hN.2 HQ.out (by rw [Ey.out]; exact hz))
    have S3b : Hid (Slc w2 base A3 dn c4 (compL q (iv (c.rep k y)))) := Lib.hid (S3.out.mono (by have := B1.out.size; omega))
    rw [Ey.out] at Rst
    have wk : IntKind.i64.wrap ((k : Int) + 1) = ((k + 1 : Nat) : Int) := by rw [IntKind.wrap_i64]; omega
    go_wp2_with fail
    have ek : ((k : Int) + 1) = ((k + 1 : Nat) : Int) := by omega
    rw [ek]
    refine (AG c4 A3 c L _ w2 C2.out S3b.out Rst.out.1 Rst.out.2 HL.out.up).mono ?_
    rintro e w3 ⟨c', L', rfl, hc3, hch, hmt, hap⟩
    have C3 := Lib.hid hc3
    have Ch3 : Hid (Chg w w3 (Mut dn L)) := Lib.hid ((Chg.of_below B2.out).trans hch fun b hb => .inl hb)
    have Mt : Hid (∀ b, Mut dn L' b → Mut dn L b ∨ w.heap.size ≤ b) := Lib.hid fun b hb => by
      have := B2.out.size
      rcases hmt b hb with h | h
      · exact .inl h
      · exact .inr (by omega)
    have Bp3 : Hid (Bp dn k c c' q) := Lib.hid (.old HL.out hkN hN.1 hN.2 HQ.out (by rw [Ey.out]; exact hz) (by rw [Ey.out]; exact hap))
    clear hc3 hch hmt hap
    go_wp2_with fail
    (try simp only [Exit.inBlock, Exit.then]); refine bodyPost_ret (results_none rfl _ _ _) rfl ?_
    exact ⟨c', L', rfl, C3.out, Ch3.out, Mt.out, Bp3.out⟩
theorem specAddProd (base g N k : Nat) (hkN : k < N) (AG : AGs base g N (k + 1)) (fuel : Nat) : APs base g N k fuel := by
  induction fuel using Nat.strongRecOn with
  | ind f ih => exact specAddProd1 base g N k hkN AG f ih
end Go.Proofs.Ytkjokchhffjidaa

/- append of one slice onto a row of slices of the call's own, as a step of a drawn region and in a list. No condition. -/
namespace Go.Proofs.Ytkjokchhffjidaa
open Go.RowKit

theorem grown_undrewC {a b : World} {row : Option Nat} (h : a.drew.grownBy b row) : a.grownBy b row := ⟨h.os, h.tape, h.output, h.size, h.block⟩
theorem step_appV {w : World} {ops : Array Oper} {o : Oper} {a : Act} {K : Act → World → Prop} {Q : Exit → Act → World → Prop} {E : Prop} (hgd : o.guard = none) (s x : Operand)
    (ho : o.op = .call { callee := .builtin .append, args := #[s, x], argTypes := #[24, 24] })
    (base : Nat) (v : Value) (n : Nat) (xs : List Value) (hs : a.eval s = v) (hown : w.ownsRow base 27 1 v n xs) (g : Nat) (d : SV) (hx : a.eval x = .slice (some ⟨g, 0, none⟩) 1 1)
    (hcell : w.cell? ⟨g, 0, none⟩ = some (sval d)) (hn : n ≤ 1000000000) (hbase : base ≤ w.heap.size)
    (h : ∀ A' c' w', w'.ownsRow base 27 1 (.slice A' (n + 1) c') (n + 1) (xs ++ [sval d]) → w.grownBy w' v.ownBlock → ((Value.slice A' (n + 1) c').ownBlock = v.ownBlock ∨ (Value.slice A' (n + 1) c').ownBlock = some w.heap.size) → K (a.put o.dst (.slice A' (n + 1) c')) w') : if Region.wanted o (yielded ops a.tmps) = true then Oper.wp Try.prog o a w K Q else E := by
  have hw : Region.wanted o (yielded ops a.tmps) = true := by simp [Region.wanted, hgd]
  rw [if_pos hw]
  obtain ⟨i0, hi, hz0, hz1, hz2⟩ := info_parts infoS
  obtain ⟨v', w', hr, hown', hg, _, hat⟩ := run_append_own_at (P := Try.prog) w base 24 o.type 27 i0 (.slice none 0 0) 1 24 Try.underlying24 hi hz0 hz1 hz2 rfl (by decide) v n xs hown ⟨g, 0, none⟩ 1 1 [sval d] rfl (by
      intro j u hj
      match j, hj with
      | 0, hj => simp at hj; subst hj; simpa [Addr.add] using hcell
      | j + 1, hj => simp at hj) (by intro u hu; simp at hu; subst hu; rfl) (by unfold maxLen; omega) (by omega) hbase
  unfold Oper.wp execOp
  simp only [ho, resolve, invoke, builtin, Sem.run_bind, Sem.run_pure, Result.andThen_ok, List.map_toArray, List.map_cons, List.map_nil, hs, hx, hr]
  have hform : ∃ A' c', v' = .slice A' (n + 1) c' := by
    rcases hown'.2 with ⟨rfl, h0⟩ | ⟨g', cap, cur, rfl, _⟩
    · omega
    · exact ⟨_, _, rfl⟩
  obtain ⟨A', c', rfl⟩ := hform
  exact h A' c' w' hown' hg hat
theorem wpList_appV {w : World} {ops : Array Oper} {rest : List Oper} {o : Oper} {a : Act} {Q : Exit → Act → World → Prop} (hgd : o.guard = none) (s x : Operand)
    (ho : o.op = .call { callee := .builtin .append, args := #[s, x], argTypes := #[24, 24] })
    (base : Nat) (v : Value) (n : Nat) (xs : List Value) (hs : a.eval s = v) (hown : w.ownsRow base 27 1 v n xs) (g : Nat) (d : SV) (hx : a.eval x = .slice (some ⟨g, 0, none⟩) 1 1)
    (hcell : w.cell? ⟨g, 0, none⟩ = some (sval d)) (hn : n ≤ 1000000000) (hbase : base ≤ w.heap.size)
    (h : ∀ A' c' w', w'.ownsRow base 27 1 (.slice A' (n + 1) c') (n + 1) (xs ++ [sval d]) → w.grownBy w' v.ownBlock → ((Value.slice A' (n + 1) c').ownBlock = v.ownBlock ∨ (Value.slice A' (n + 1) c').ownBlock = some w.heap.size) → wpList Try.prog ops Q rest (a.put o.dst (.slice A' (n + 1) c')) w') : wpList Try.prog ops Q (o :: rest) a w := by
  obtain ⟨i0, hi, hz0, hz1, hz2⟩ := info_parts infoS
  refine wpList_append_own_at w hgd s x 24 ho base 27 i0 (.slice none 0 0) 1 24 Try.underlying24 hi hz0 hz1 hz2 rfl (by decide) v n xs hs hown ⟨g, 0, none⟩ 1 1 [sval d] hx rfl ?_ ?_ ?_ (by omega) hbase ?_
  · intro j u hj
    match j, hj with
    | 0, hj => simp at hj; subst hj; simpa [Addr.add] using hcell
    | j + 1, hj => simp at hj
  · intro u hu; simp at hu; subst hu; rfl
  · unfold maxLen; omega
  · intro v' w' hown' hg _ hat
    have hform : ∃ A' c', v' = .slice A' (n + 1) c' := by
      rcases hown'.2 with ⟨rfl, h0⟩ | ⟨g', cap, cur, rfl, _⟩
      · omega
      · exact ⟨_, _, rfl⟩
    obtain ⟨A', c', rfl⟩ := hform
    exact h A' c' w' hown' hg hat
/-- A generator appended to level k, as the store leaves it. -/
theorem Cn.pushA {w1 w2 : World} {o : Obj} {base g N k gn gc gc2 : Nat} {gA gA2 : Option Addr} {c : Ch} {L : LY} {p : List Int} {e : SV} (h : Cn w1 base g N c L) (hk : k < N) (hgv : L.gv k = (gA, gn, gc)) (hG : (c.gen k).length = gn)
    (he : Slc w1 base e.1 e.2.1 e.2.2 p) (ho : w2.ownsRow base 27 1 (.slice gA2 (gn + 1) gc2) (gn + 1) ((L.ge k).map sval ++ [sval e])) (hg : (w1.alloc o).grownBy w2 (Value.slice gA gn gc).ownBlock)
    (hat : (Value.slice gA2 (gn + 1) gc2).ownBlock = (Value.slice gA gn gc).ownBlock ∨ (Value.slice gA2 (gn + 1) gc2).ownBlock = some (w1.alloc o).heap.size) :
    ∃ L', Cn (w2.setCell ⟨L.G, k, none⟩ (.slice gA2 (gn + 1) gc2)) base g N (c.push k p) L' ∧ Chg w1 (w2.setCell ⟨L.G, k, none⟩ (.slice gA2 (gn + 1) gc2)) (Mut N L) ∧ (∀ b, Mut N L' b → Mut N L b ∨ w1.heap.size ≤ b) ∧ Slc (w2.setCell ⟨L.G, k, none⟩ (.slice gA2 (gn + 1) gc2)) base e.1 e.2.1 e.2.2 p := by
  have b1 : Below w1.heap.size w1 (w1.alloc o) := (Below.refl _ _).alloc (Nat.le_refl _) _
  have h1 := h.up b1
  obtain ⟨a1, a2, a3⟩ := h1.pushed hk (d := (gA2, gn + 1, gc2)) (e := e) (by rw [hG]; exact ho) (by rw [hgv]; exact hg) (by
    rw [hgv]
    rcases hat with e1 | e1
    · exact .inl e1
    · exact .inr ⟨_, e1, Nat.le_refl _⟩) (he.up b1)
  refine ⟨_, a1, (Chg.of_below b1).trans a2 fun b hb => .inl hb, fun b hb => ?_, (he.up b1).chg a2 h1.noInt⟩
  rcases a3 b hb with e1 | e1
  · exact .inl e1
  · exact .inr (Nat.le_trans b1.size e1)

/-- A row of the call's own of slices that hold the lists rs (no word on whether they share). -/
structure Kn (w : World) (lo base : Nat) (A : Option Addr) (m cc : Nat) (ds : List SV) (rs : List (List Int)) : Prop where
  own : w.ownsRow lo 27 1 (.slice A m cc) m (ds.map sval)
  ld : ds.length = m
  lr : rs.length = m
  ent : ∀ t, t < m → Slc w base (ds.getD t sd0).1 (ds.getD t sd0).2.1 (ds.getD t sd0).2.2 (rs.getD t [])
theorem Kn.lit0 (w : World) (lo base : Nat) (hb : lo ≤ w.heap.size) : Kn (w.alloc (.cells #[] 27)) lo base (some ⟨w.heap.size, 0, none⟩) 0 0 [] [] :=
  ⟨World.ownsRow_lit (size := 1) w #[] 0 hb (Nat.zero_le _) rfl, rfl, rfl, fun t h => absurd h (by omega)⟩
section
variable {w w' : World} {lo base m cc : Nat} {A : Option Addr} {ds : List SV} {rs : List (List Int)}
theorem Kn.up (h : Kn w lo base A m cc ds rs) (hb : Below w.heap.size w w') : Kn w' lo base A m cc ds rs :=
  ⟨ownsRow_chg h.own (.of_below (M := fun _ => False) hb) fun _ _ e => e, h.ld, h.lr, fun t ht => (h.ent t ht).up hb⟩
theorem Kn.chg {M : Nat → Prop} (h : Kn w lo base A m cc ds rs) (hc : Chg w w' M) (hM : NoInt w M) (hk : ∀ b, (Value.slice A m cc).ownBlock = some b → ¬ M b) : Kn w' lo base A m cc ds rs :=
  ⟨ownsRow_chg h.own hc hk, h.ld, h.lr, fun t ht => (h.ent t ht).chg hc hM⟩
theorem Kn.at_ (h : Kn w lo base A m cc ds rs) {t : Nat} (ht : t < m) : ∃ q, A = some ⟨q, 0, none⟩ ∧ w.cell? ⟨q, t, none⟩ = some (sval (ds.getD t sd0)) := by
  have ho := h.own
  rcases ho.2 with ⟨e, h0⟩ | ⟨g', cap, cur, e, _⟩
  · omega
  · injection e with e1 e2 e3
    subst e1
    exact ⟨g', rfl, by rw [ho.cellAt t (by omega), ents_at (by rw [h.ld]; exact ht)]⟩
theorem Kn.lt_ (h : Kn w lo base A m cc ds rs) : ∀ k, (Value.slice A m cc).ownBlock = some k → lo ≤ k ∧ k < w.heap.size := World.ownsRow.lt h.own
/-- One more. -/
theorem Kn.snoc {A' : Option Addr} {c' : Nat} {d : SV} {r : List Int} (h : Kn w lo base A m cc ds rs) (hd : Slc w base d.1 d.2.1 d.2.2 r) (ho : w'.ownsRow lo 27 1 (.slice A' (m + 1) c') (m + 1) (ds.map sval ++ [sval d])) (hg : w.grownBy w' (Value.slice A m cc).ownBlock) : Kn w' lo base A' (m + 1) c' (ds ++ [d]) (rs ++ [r]) := by
  have hc : Chg w w' (fun b => (Value.slice A m cc).ownBlock = some b) := .of_grown hg fun b e => e
  have hM : NoInt w (fun b => (Value.slice A m cc).ownBlock = some b) := fun b e => by
    obtain ⟨cur, e2⟩ := ownsRow_typ h.own e
    exact ⟨cur, _, _, e2, by decide⟩
  refine ⟨by rw [List.map_append]; exact ho, by simp [h.ld], by simp [h.lr], fun t ht => ?_⟩
  by_cases e : t < m
  · rw [getD_app _ _ _ _ (by rw [h.ld]; exact e), getD_app _ _ _ _ (by rw [h.lr]; exact e)]
    exact (h.ent t e).chg hc hM
  · have e2 : t = m := by omega
    rw [getD_snoc _ _ _ _ (by rw [h.ld]; exact e2), getD_snoc _ _ _ _ (by rw [h.lr]; exact e2)]
    exact hd.chg hc hM
end
end Go.Proofs.Ytkjokchhffjidaa

/- The model's addGenerator. Conditions: at most 20 points; the chain whole from the level on. -/
namespace Go.Proofs.Ytkjokchhffjidaa
open Go.RowKit

set_option maxHeartbeats 1000000 in
theorem specAddGenTop (base g N : Nat) (h1 : 1 ≤ N) (h2 : N ≤ 20) : AGs base g N N := by
  intro cp A c L p w hc hs hP hF hU
  have x0 := hc.c0
  have d0 : decide ((N : Int) ≤ (N : Int)) = true := by simp
  have C := Lib.hid hc
  have Ap0 := Lib.hid (Ap.top hU h1 h2 hP hF)
  clear hc hs hP hF hU
  go_enter Try.func116, Try.ntmps116
  go_wp2_with fail
  (try simp only [Exit.inBlock, Exit.then]); refine bodyPost_ret (results_none rfl _ _ _) rfl ?_
  exact ⟨c, L, rfl, C.out, .refl _ _, fun b hb => .inl hb, Ap0.out⟩

set_option maxHeartbeats 4000000 in
set_option maxRecDepth 100000 in
theorem specAddGen1 (base g N k : Nat) (hkN : k < N) (AP : ∀ fuel, APs base g N k fuel) : AGs base g N k := by
  intro cp A c L p w hc hs hP hF hU
  have hN := hP.pos
  have hb0 : base ≤ w.heap.size := by have := hc.ltR; omega
  have HC := Lib.hid hc
  have HS := Lib.hid hs
  have HP := Lib.hid hP
  have HF := Lib.hid hF
  have HU := Lib.hid hU
  have x0 := hc.c0
  have d0 : decide ((N : Int) ≤ (k : Int)) = false := by simp; omega
  clear hc hs hP hF hU
  go_enter Try.func116, Try.ntmps116
  go_wp2_with fail
  refine (specSift base g N k cp A c L p w HC.out HS.out.ri_ HP HF (by omega) (Lib.hid HU.out.rep)).mono ?_
  rintro e w1 ⟨A1, n1, c1, lvl, rfl, hlv, hle, b1⟩
  have C1 := Lib.hid (HC.out.up b1)
  have S1 := Lib.hid (HS.out.up b1)
  have B1 := Lib.hid b1
  have y0 := C1.out.c0
  clear b1 HC HS x0 d0
  by_cases hl : lvl = N
  · have Ap0 := Lib.hid (Ap.same HU.out (by omega) hN.1 hN.2 (hlv.1 hl))
    subst hl
    have e0 : ((lvl : Int) == (lvl : Int)) = true := by simp
    clear hlv hle
    go_wp2_with fail
    (try simp only [Exit.inBlock, Exit.then]); refine bodyPost_ret (results_none rfl _ _ _) rfl ?_
    exact ⟨c, L, rfl, C1.out, .of_below B1.out, fun b hb => .inl hb, Ap0.out⟩
  · have NS : Hid (¬ Sv N c k p) := Lib.hid fun h => hl (hlv.2 h)
    have e0 : ((lvl : Int) == (N : Int)) = false := by simp; omega
    clear hlv hle hl
    obtain ⟨G, hG⟩ : ∃ G, (c.gen k).length = G := ⟨_, rfl⟩
    have HG := Lib.hid hG
    have hG4 : G ≤ 400 := by
      rw [← hG]
      have h1 := HU.out.len k (Nat.le_refl _) hkN
      have h2 := cnt_le N c k
      have h3 := Nat.mul_le_mul hN.2 hN.2
      omega
    have y2 := C1.out.c2
    have y3 := C1.out.cG hkN
    have ho := C1.out.row2 k hkN
    have fz := C1.out.own2.frozenAt k
    rw [hG] at ho
    rcases hgv : L.gv k with ⟨gA, gn, gc⟩
    have gn2 := C1.out.gvn hkN
    rw [hgv, hG] at gn2
    have gn3 : gn = G := gn2
    subst gn3
    rw [hgv] at y3 ho
    simp only [sval] at y3
    have HO := Lib.hid ho
    have p0 : (0 : Int) ≤ k := by omega
    have p1 : (k : Int) < N := by omega
    obtain ⟨b, hA⟩ : ∃ b, A = some ⟨b, 0, none⟩ := by
      rcases S1.out.at_ with ⟨_, _, h0, _⟩ | ⟨b, rfl, _⟩
      · omega
      · exact ⟨b, rfl⟩
    subst hA
    have neg : some g ≠ (Value.slice gA gn gc).ownBlock := fun e => C1.out.g_mut (.inr (.inr ⟨k, hkN, by rw [hgv]; exact e.symm⟩))
    have neG : some L.G ≠ (Value.slice gA gn gc).ownBlock := fun e => C1.out.gv_ne_G hkN (by rw [hgv]; exact e.symm)
    have hgl := C1.out.blk.lt
    have hGl := C1.out.ltG.2
    have HGv := Lib.hid hgv
    have bw1 : base ≤ w1.heap.size := by have := B1.out.size; omega
    clear hG gn2 ho hgv
    go_wp2_with fail
    have hLit : (w1.alloc (.cells #[.slice (some ⟨b, 0, none⟩) N cp] 27)).cell? ⟨w1.heap.size, 0, none⟩ = some (sval (some ⟨b, 0, none⟩, N, cp)) := by rw [World.cell?_alloc_at _ _ _ _ rfl]; rfl
    have PA : Hid (∀ (gA2 : Option Addr) (gc2 : Nat) (w2 : World), w2.ownsRow base 27 1 (.slice gA2 (gn + 1) gc2) (gn + 1) ((L.ge k).map sval ++ [sval (some ⟨b, 0, none⟩, N, cp)]) → (w1.alloc (.cells #[.slice (some ⟨b, 0, none⟩) N cp] 27)).grownBy w2 (Value.slice gA gn gc).ownBlock →
        ((Value.slice gA2 (gn + 1) gc2).ownBlock = (Value.slice gA gn gc).ownBlock ∨ (Value.slice gA2 (gn + 1) gc2).ownBlock = some (w1.alloc (.cells #[.slice (some ⟨b, 0, none⟩) N cp] 27)).heap.size) →
        ∃ L', Cn (w2.setCell ⟨L.G, k, none⟩ (.slice gA2 (gn + 1) gc2)) base g N (c.push k p) L' ∧ Chg w (w2.setCell ⟨L.G, k, none⟩ (.slice gA2 (gn + 1) gc2)) (Mut N L) ∧ (∀ b, Mut N L' b → Mut N L b ∨ w.heap.size ≤ b) ∧ Slc (w2.setCell ⟨L.G, k, none⟩ (.slice gA2 (gn + 1) gc2)) base (some ⟨b, 0, none⟩) N cp p) := Lib.hid fun gA2 gc2 w2 h1 h2 h3 => by
      obtain ⟨L', a1, a2, a3, a4⟩ := C1.out.pushA hkN HGv.out HG.out (e := (some ⟨b, 0, none⟩, N, cp)) S1.out h1 h2 h3
      refine ⟨L', a1, (Chg.of_below B1.out).trans a2 fun b hb => .inl hb, fun q hq => ?_, a4⟩
      rcases a3 q hq with e | e
      · exact .inl e
      · exact .inr (Nat.le_trans B1.out.size e)
    go_cut [] from 30 to 45 (fun wx => ∃ L', Cn wx base g N (c.push k p) L' ∧ Chg w wx (Mut N L) ∧ (∀ b, Mut N L' b → Mut N L b ∨ w.heap.size ≤ b) ∧ Slc wx base (some ⟨b, 0, none⟩) N cp p)
    case first =>
      go_region_law (refine step_appV rfl (.tmp 41) (.tmp 43) rfl base (.slice gA gn gc) gn ((L.ge k).map sval) ?_ (HO.out.alloc (.cells #[.slice (some ⟨b, 0, none⟩) N cp] 27)) w1.heap.size (some ⟨b, 0, none⟩, N, cp) ?_ hLit ?_ ?_ ?_; (simp [Act.eval, Act.put]); (simp [Act.eval, Act.put]); (omega); (simp; omega); (intro gA2 gc2 w2 ho2 hg2 hat2; have hg3 := grown_undrewC hg2; have z2 := hg3.cell (a := ⟨g, 2, none⟩) ((World.cell?_alloc_lt w1 _ _ hgl).trans y2) neg; have z3 := hg3.cell (a := ⟨L.G, k, none⟩) ((World.cell?_alloc_lt w1 _ _ hGl).trans y3) neG; have fz2 : w2.frozen? ⟨L.G, k, none⟩ = false := (World.frozen?_of_block (a := ⟨L.G, k, none⟩) ((hg3.block L.G (by simp; omega) neG).trans (Below.heap_alloc w1 _ L.G hGl))).trans fz))
      all_goals (go_wp2_with fail; go_meet; exact PA.out gA2 gc2 w2 ho2 hg3 hat2)
    case rest =>
      obtain ⟨L3, hc3, hch3, hmt3, hs3⟩ := hcut
      have C3 := Lib.hid hc3
      have Ch3 := Lib.hid hch3
      have Mt3 := Lib.hid hmt3
      have S3 := Lib.hid hs3
      have hz3 := hch3.size
      have P3 : Hid (Low N (c.push k p) k) := Lib.hid (HU.out.pushed hkN hN.1 hN.2 HP.out HF.out)
      obtain ⟨cp1, hcp1⟩ : ∃ cp1, c.push k p = cp1 := ⟨_, rfl⟩
      have gl1 : (cp1.gen k).length = gn + 1 := by rw [← hcp1, push_at, List.length_append, HG.out]; rfl
      have pg1 : p ∈ cp1.gen k := by rw [← hcp1, push_at]; simp
      have Cp := Lib.hid hcp1
      rw [hcp1] at C3 P3
      have Gl1 := Lib.hid gl1
      have Pg1 := Lib.hid pg1
      have K0 : Hid (Kn (wc.alloc (.cells #[] 27)) wc.heap.size base (some ⟨wc.heap.size, 0, none⟩) 0 0 [] (knL cp1 k 0)) := Lib.hid (Kn.lit0 wc _ base (Nat.le_refl _))
      have B0 : Hid (Below wc.heap.size wc (wc.alloc (.cells #[] 27))) := Lib.hid ((Below.refl _ _).alloc (Nat.le_refl _) _)
      clear hc3 hch3 hmt3 hs3 hcp1 gl1 pg1 C1 S1 y0 y2 y3 fz neg neG hgl hGl bw1 hLit PA
      go_wp2_with fail
      go_loopw [8, 9] (fun kn i wr => ∃ (y m cc : Nat) (A : Option Addr) (ds : List SV), y ≤ N ∧ i = .int .i64 (y : Nat) ∧ kn = .slice A m cc ∧ Kn wr wc.heap.size base A m cc ds (knL cp1 k y) ∧ Below wc.heap.size wc wr) (fun _ i _ => N - (intOf i).toNat)
      case atStart => exact ⟨0, _, _, _, [], Nat.zero_le _, rfl, rfl, K0.out, B0.out⟩
      case round =>
        clear K0 B0
        obtain ⟨y, m, cc, kA, ds, hyN, rfl, rfl, hkn, bel⟩ := hrel
        have Knw := Lib.hid hkn
        have Be := Lib.hid bel
        have C4 := Lib.hid (C3.out.up bel)
        have x0 := C4.out.c0
        have hm20 : m ≤ 20 := by rw [← hkn.lr]; have := knL_len (c := cp1) (k := k) y; omega
        by_cases hlt : y < N
        · have x1 := C4.out.c1
          have x2 := C4.out.cR hkN
          have x3 := C4.out.cro hkN hlt
          have en := C4.out.enn hkN hlt
          have er := C4.out.ent1 k hkN y hlt
          rcases hd : (L3.en k).getD y sd0 with ⟨dA, dn, dc⟩
          rw [hd] at x3 en er
          have Er := Lib.hid er
          simp only [sval] at x3
          have q0 : (0 : Int) ≤ y := by omega
          have q1 : (y : Int) < N := by omega
          by_cases hz : cp1.rep k y = []
          · have hdn : dn = 0 := by
              have : dn = (cp1.rep k y).length := en
              rw [this, hz]; rfl
            subst hdn
            have d0 : decide ((0 : Int) < 0) = false := by decide
            have Kno := Lib.hid (knL_no hz)
            clear hkn bel hd en er
            go_wp2_with fail
            go_roundw
            case rel => exact ⟨y + 1, m, cc, kA, ds, by omega, by go_num, rfl, by rw [Kno.out]; exact Knw.out, Be.out⟩
            case measure => simp [intOf]; omega
          · obtain rfl : dn = N := by
              have h1 : dn = (cp1.rep k y).length := en
              have h2 := rep_ne_pos P3.out.rep hz
              omega
            have d0 : decide ((0 : Int) < (dn : Int)) = true := by simp; omega
            have Kys := Lib.hid (knL_yes hz)
            have hLit : Hid ((wr.alloc (.cells #[.slice dA dn dc] 27)).cell? ⟨wr.heap.size, 0, none⟩ = some (sval (dA, dn, dc))) := Lib.hid (by rw [World.cell?_alloc_at _ _ _ _ rfl]; rfl)
            have hzr := bel.size
            have Ka : Hid (Kn (wr.alloc (.cells #[.slice dA dn dc] 27)) wc.heap.size base kA m cc ds (knL cp1 k y)) := Lib.hid (Knw.out.up ((Below.refl _ _).alloc (Nat.le_refl _) _))
            have Ea : Hid (Slc (wr.alloc (.cells #[.slice dA dn dc] 27)) base dA dn dc (cp1.rep k y)) := Lib.hid (Er.out.up ((Below.refl _ _).alloc (Nat.le_refl _) _))
            have Ba : Hid (Below wc.heap.size wc (wr.alloc (.cells #[.slice dA dn dc] 27))) := Lib.hid (Be.out.alloc hzr _)
            clear hkn bel hd en er
            go_wp2_with (at_builtin; refine wpList_appV rfl _ _ rfl wc.heap.size (.slice kA m cc) m (ds.map sval) rfl Ka.out.own wr.heap.size (dA, dn, dc) rfl hLit.out (by omega) (by simp; omega) ?_; intro A5 c5 w5 ho5 hg5 hat5)
            have K5 : Hid (Kn w5 wc.heap.size base A5 (m + 1) c5 (ds ++ [(dA, dn, dc)]) (knL cp1 k (y + 1))) := Lib.hid (by rw [Kys.out]; exact Ka.out.snoc Ea.out ho5 hg5)
            have B5 : Hid (Below wc.heap.size wc w5) := Lib.hid (Ba.out.grown hg5 (by simp; omega) (fun j hj => (Ka.out.lt_ j hj).1))
            clear ho5 hg5 hat5
            go_wp2_with fail
            go_roundw
            case rel => exact ⟨y + 1, m + 1, c5, A5, _, by omega, by go_num, rfl, K5.out, B5.out⟩
            case measure => simp [intOf]; omega
        · obtain rfl : y = N := by omega
          have lkn := hkn.lr
          obtain ⟨M, hM⟩ : ∃ M, m = M := ⟨_, rfl⟩
          subst hM
          have Kb : Hid (∀ b, (Value.slice kA m cc).ownBlock = some b → ¬ Mut y L3 b) := Lib.hid fun b hb hm => by
            have h1 := (Knw.out.lt_ b hb).1
            have h2 := (C3.out.mut hm).2
            omega
          have S4 : Hid (Slc wr base (some ⟨b, 0, none⟩) y cp p) := Lib.hid (S3.out.up Be.out)
          have Ch4 : Hid (Chg w wr (Mut y L)) := Lib.hid (Ch3.out.trans (M1 := fun _ => False) (.of_below Be.out) fun b hb => hb.elim)
          have Lk := Lib.hid lkn
          clear hkn bel lkn S3 Ch3 C3
          go_wp2_with fail
          obtain ⟨wl, rfl⟩ : ∃ wl, wl = wr := ⟨_, rfl⟩
          go_loopw [10] (fun i w5 => ∃ (j : Nat) (cj : Ch) (Lj : LY), j ≤ m ∧ i = .int .i64 (j : Nat) ∧ Cn w5 base g y cj Lj ∧ Chg w w5 (Mut y L) ∧ (∀ b, Mut y Lj b → Mut y L b ∨ w.heap.size ≤ b) ∧ Al y k cp1 cj p j ∧ Slc w5 base (some ⟨b, 0, none⟩) y cp p ∧ Kn w5 wc.heap.size base kA m cc ds (knL cp1 k y) ∧ ∀ b, (Value.slice kA m cc).ownBlock = some b → ¬ Mut y Lj b) (fun i _ => m - (intOf i).toNat)
          case atStart => exact ⟨0, _, _, Nat.zero_le _, rfl, C4.out, Ch4.out, Mt3.out, .start P3.out, S4.out, Knw.out, Kb.out⟩
          case round =>
            clear C4 Ch4 Mt3 S4 Knw Kb Be x0
            obtain ⟨j, cj, Lj, hj, rfl, hc5, hch5, hmt5, hal5, hs5, hkn5, hkb5⟩ := hrel
            have C5 := Lib.hid hc5
            have Ch5 := Lib.hid hch5
            have Mt5 := Lib.hid hmt5
            have Al5 := Lib.hid hal5
            have S5 := Lib.hid hs5
            have K5 := Lib.hid hkn5
            have Kb5 := Lib.hid hkb5
            by_cases hlt : j < m
            · obtain ⟨q, hq, x1⟩ := hkn5.at_ hlt
              have er := hkn5.ent j hlt
              rcases hd : ds.getD j sd0 with ⟨dA, dn, dc⟩
              rw [hd] at x1 er
              have kn1 := kn_mb P3.out (j := j) (by rw [Lk.out]; exact hlt) Pg1.out
              obtain ⟨rj, hrj⟩ : ∃ rj, (knL cp1 k y).getD j [] = rj := ⟨_, rfl⟩
              rw [hrj] at er kn1
              obtain rfl : dn = y := by have h1 : rj.length = dn := er.1; have := kn1.2.2; omega
              have Er := Lib.hid er
              have Mb1 := Lib.hid kn1.1
              have Rp := Lib.hid kn1.2
              have Rj := Lib.hid hrj
              have Hq := Lib.hid hq
              simp only [sval] at x1
              have q0 : (0 : Int) ≤ j := by omega
              have q1 : (j : Int) < m := by omega
              clear hc5 hch5 hmt5 hal5 hs5 hkn5 hkb5 er hd kn1 hrj
              subst hq
              go_wp2_with fail
              refine (specComp dA (some ⟨b, 0, none⟩) dc cp dn rj p wr Er.out.ri_ S5.out.ri_ (Lib.hid Rp.out.2) (Lib.hid HP.out.2) (Lib.hid Rp.out.1) hN.2).mono ?_
              rintro e w6 ⟨A6, c6, rfl, s6, b6⟩
              have C6 := Lib.hid (C5.out.up b6)
              have S6 : Hid (Slc w6 base A6 dn c6 (compL rj p)) := Lib.hid (s6.mono (by have := Ch5.out.size; omega))
              have P6 := Lib.hid (S5.out.up b6)
              have K6 := Lib.hid (K5.out.up b6)
              have Ch6 : Hid (Chg w w6 (Mut dn L)) := Lib.hid (Ch5.out.trans (M1 := fun _ => False) (.of_below b6) fun b hb => hb.elim)
              have hz6 := b6.size
              clear s6 b6 C5 S5 K5 x1 q0 q1
              go_wp2_with fail
              have egk : cj.gen k = cp1.gen k := Al5.out.gen
              refine (AP (miss dn cj k) c6 A6 cj Lj _ w6 C6.out S6.out Al5.out.low (by rw [egk]; exact Mb1.out) (by rw [egk, Gl1.out]; omega) (Nat.le_refl _)).mono ?_
              rintro e w7 ⟨c', L', rfl, hc7, hch7, hmt7, hbp⟩
              have C7 := Lib.hid hc7
              have Ch7 : Hid (Chg w w7 (Mut dn L)) := Lib.hid (Ch6.out.trans hch7 Mt5.out)
              have Mt7 : Hid (∀ b, Mut dn L' b → Mut dn L b ∨ w.heap.size ≤ b) := Lib.hid fun b hb => by
                rcases hmt7 b hb with h | h
                · exact Mt5.out b h
                · exact .inr (by have := Ch6.out.size; omega)
              have Al7 : Hid (Al dn k cp1 c' p (j + 1)) := Lib.hid (Al5.out.next (by rw [Rj.out]; exact hbp))
              have P7 := Lib.hid (P6.out.chg hch7 C6.out.noInt)
              have K7 := Lib.hid (K6.out.chg hch7 C6.out.noInt Kb5.out)
              have Kb7 : Hid (∀ b, (Value.slice (some ⟨q, 0, none⟩) m cc).ownBlock = some b → ¬ Mut dn L' b) := Lib.hid fun b hb hm => by
                rcases hmt7 b hm with h | h
                · exact Kb5.out b hb h
                · have := (K6.out.lt_ b hb).2; omega
              clear hc7 hch7 hmt7 hbp egk
              go_wp2_with fail
              go_roundw
              case rel => exact ⟨j + 1, c', L', by omega, by go_num, C7.out, Ch7.out, Mt7.out, Al7.out, P7.out, K7.out, Kb7.out⟩
              case measure => simp [intOf]; omega
            · obtain rfl : j = m := by omega
              have Fin : Hid (Ap y k c cj p) := Lib.hid (Al.all HU.out hkN hN.1 hN.2 HP.out HF.out NS.out (by rw [Cp.out, Lk.out]; exact Al5.out))
              clear hc5 hch5 hmt5 hal5 hs5 hkn5 hkb5
              go_wp2_with fail
              go_end0
              exact ⟨cj, Lj, rfl, C5.out, Ch5.out, Mt5.out, Fin.out⟩
end Go.Proofs.Ytkjokchhffjidaa

/- The laws' helpers that compare, mark and read slices of slices. Conditions: at most 1048576 slices, numbers in all. -/
namespace Go.Proofs.Ytkjokchhffjidaa
open Go.RowKit

set_option maxHeartbeats 800000 in
/-- eqInt64SS at two slices of slices that read the same. -/
theorem eqRR_same (A B : Option Addr) (n c m d : Nat) (vs us : List SV) (xss : List (List Int)) (w : World) (hx : RR w w.heap.size A n vs xss) (hy : RR w w.heap.size B m us xss) (hn : n ≤ 1048576) (hlen : Hid (∀ i, i < n → (xss.getD i []).length ≤ 1048576)) :
    Calls Try.prog 68 #[.slice A n c, .slice B m d] w fun e w' => e = .returned (.bool true) ∧ Below w.heap.size w w' := by
  refine quiet_below ?_
  obtain rfl : n = m := by rw [← hx.lx, ← hy.lx]
  have HX := Lib.hid hx
  have HY := Lib.hid hy
  clear hx hy
  go_enter Try.func68, Try.ntmps68
  go_wp2
  go_loopw [5] (fun i wr => ∃ k : Nat, k ≤ n ∧ i = .int .i64 k ∧ ∃ m, wr = w.drewN m) (fun i _ => n - (intOf i).toNat)
  case atStart => exact ⟨0, Nat.zero_le _, rfl, 0, rfl⟩
  case round =>
    obtain ⟨k, hk, rfl, q, rfl⟩ := hrel
    by_cases hlt : k < n
    · obtain ⟨b, off, A5, l, c5, y, rfl, hb, ev, ey, c1, r1, hy1, hlc⟩ := HX.out.at_ hlt
      obtain ⟨b', off', A6, l', c6, y', rfl, hb', ev', ey', c2, r2, hy2, hlc'⟩ := HY.out.at_ hlt
      obtain rfl : y = y' := ey.symm.trans ey'
      have hl1 : l ≤ 1048576 := by rw [← hy1, ← ey]; exact hlen.out k hlt
      have hl2 : l' ≤ 1048576 := by rw [← hy2, ← ey]; exact hlen.out k hlt
      have R1 := Lib.hid r1
      have R2 := Lib.hid r2
      have Y1 : Hid (y.length = l) := Lib.hid hy1
      have Y2 : Hid (y.length = l') := Lib.hid hy2
      clear r1 r2 ev ey ev' ey' hy1 hy2
      have p1 : (0 : Int) ≤ k := by omega
      have p2 : (k : Int) < n := by omega
      have K : ∀ W : World, (∃ q, W = w.drewN q) → Calls Try.prog 32 #[.slice A5 l c5, .slice A6 l' c6] W fun e w' => e = .returned (.bool true) ∧ ∃ m, w' = W.drewN m := by
        rintro W ⟨q, rfl⟩
        exact (eqS_any A5 A6 c5 c6 l l' y y (w.drewN q) (R1.out.drewN q) (R2.out.drewN q) Y1 Y2 (by omega) (by omega)).mono fun e w' ⟨he, hb⟩ => ⟨he.trans (ret_bool (by simp)), hb⟩
      have HK := Lib.hid K
      clear K
      go_wp2
      go_quiet ((go_at_call 32; exact quiet_add (HK.out _ ⟨_, rfl⟩)))
      go_wp2
      go_roundw
      case rel => exact ⟨k + 1, by omega, by go_num, _, rfl⟩
      case measure => simp [intOf]; omega
    · go_wp2
      go_ret
      exact ⟨rfl, _, rfl⟩

/-- The marks of the slices one after the other. -/
def marks2 (vs : List SV) (k0 n : Nat) : List (List Int) := (List.range n).map fun i => marks (k0 + tot vs i) (vs.getD i sd0).2.1
theorem marks2_getD {vs : List SV} {k0 n i : Nat} (h : i < n) : (marks2 vs k0 n).getD i [] = marks (k0 + tot vs i) (vs.getD i sd0).2.1 := by
  rw [List.getD_eq_getElem?_getD, List.getElem?_eq_getElem (by simp [marks2, h])]; simp [marks2]

/-- Only blocks of the inner rows have turned. -/
structure OnlyIn (w w' : World) (vs : List SV) (n : Nat) : Prop where
  os : w'.os = w.os
  tape : w'.tape = w.tape
  output : w'.output = w.output
  size : w.heap.size ≤ w'.heap.size
  block : ∀ k, k < w.heap.size → (∀ i, i < n → (sval (vs.getD i sd0)).ownBlock ≠ some k) → w'.heap[k]? = w.heap[k]?
theorem OnlyIn.refl (w : World) (vs : List SV) (n : Nat) : OnlyIn w w vs n := ⟨rfl, rfl, rfl, Nat.le_refl _, fun _ _ _ => rfl⟩
theorem OnlyIn.step {w w1 w2 : World} {vs : List SV} {n i : Nat} (h : OnlyIn w w1 vs n) (hg : w1.grownBy w2 (sval (vs.getD i sd0)).ownBlock) (hi : i < n) : OnlyIn w w2 vs n :=
  ⟨hg.os.trans h.os, hg.tape.trans h.tape, hg.output.trans h.output, Nat.le_trans h.size hg.size, fun k hk hne => (hg.block k (Nat.lt_of_lt_of_le hk h.size) (fun e => hne i hi e.symm)).trans (h.block k hk hne)⟩
theorem OnlyIn.below {w w' : World} {vs : List SV} {n B : Nat} (h : OnlyIn w w' vs n) (hB : B ≤ w.heap.size) (hv : ∀ i, i < n → ∀ k, (sval (vs.getD i sd0)).ownBlock = some k → B ≤ k) : Below B w w' :=
  ⟨h.os, h.tape, h.output, h.size, fun k hk => h.block k (by omega) (fun i hi e => by have := hv i hi k e; omega)⟩

theorem SS.marked {w w' : World} {bo bi n c j : Nat} {A : Option Addr} {vs : List SV} {zss : List (List Int)} {ys : List Int} (h : SS w bo bi A n c vs zss) (hj : j < n)
    (hs : Slc w' bi (vs.getD j sd0).1 (vs.getD j sd0).2.1 (vs.getD j sd0).2.2 ys) (hg : w.grownBy w' (sval (vs.getD j sd0)).ownBlock) : SS w' bo bi A n c vs (zss.set j ys) := by
  refine ⟨World.ownsRow.kept h.own hg ?_, h.lv, by rw [List.length_set]; exact h.lx, fun i hi => ?_, h.dis⟩
  · rcases apart_types (h.row j hj) h.own with e | e
    · rw [show (sval (vs.getD j sd0)).ownBlock = none from e]
      rcases (Value.slice A n c).ownBlock with _ | b
      · exact .inl rfl
      · exact .inr (by simp)
    · exact .inr fun e2 => e e2.symm
  · by_cases e : j = i
    · subst e
      rw [show (zss.set j ys).getD j [] = ys from by rw [List.getD_eq_getElem?_getD, List.getElem?_set, if_pos rfl, if_pos (by rw [h.lx]; exact hj)]; rfl]
      exact hs
    · rw [show (zss.set j ys).getD i [] = zss.getD i [] from by rw [List.getD_eq_getElem?_getD, List.getElem?_set, if_neg e, ← List.getD_eq_getElem?_getD]]
      refine (h.row i hi).kept hg ?_
      rcases Nat.lt_or_gt_of_ne e with hlt | hgt
      · rcases h.dis j i hlt hi with e1 | e1
        · rw [e1]
          rcases (Value.slice (vs.getD i sd0).1 (vs.getD i sd0).2.1 (vs.getD i sd0).2.2).ownBlock with _ | b
          · exact .inl rfl
          · exact .inr (by simp)
        · exact .inr fun e2 => e1 e2.symm
      · exact h.dis i j hgt hj


set_option maxHeartbeats 800000 in
/-- markInt64SS. -/
theorem markSS (A : Option Addr) (n c bo bi : Nat) (vs : List SV) (xss : List (List Int)) (w : World) (hx : SS w bo bi A n c vs xss) (hn : n ≤ 1048576) (hlen : Hid (tot vs n ≤ 1048576)) :
    Calls Try.prog 71 #[.slice A n c, .int .i64 1] w fun e w' => e = .returned (.int .i64 (1 + (tot vs n : Int))) ∧ SS w' bo bi A n c vs (marks2 vs 1 n) ∧ OnlyIn w w' vs n := by
  have HX := Lib.hid hx
  clear hx
  go_enter Try.func71, Try.ntmps71
  go_wp2
  go_loopw [1, 5] (fun v i wr => ∃ (k T : Nat) (zss : List (List Int)), k ≤ n ∧ Hid (tot vs k = T) ∧ i = .int .i64 (k : Nat) ∧ v = .int .i64 (1 + (T : Int)) ∧ SS wr bo bi A n c vs zss ∧ (∀ t, t < k → zss.getD t [] = marks (1 + tot vs t) (vs.getD t sd0).2.1) ∧ OnlyIn w wr vs n) (fun _ i _ => n - (intOf i).toNat)
  case atStart => exact ⟨0, 0, _, Nat.zero_le _, Lib.hid rfl, rfl, by go_num, HX.out, fun j h => absurd h (by omega), OnlyIn.refl _ _ _⟩
  case round =>
    obtain ⟨k, T, zss, hk, hT, rfl, rfl, ss, hz, oi⟩ := hrel
    have Ss := Lib.hid ss
    have Hz := Lib.hid hz
    have Oi := Lib.hid oi
    have hT1 : T ≤ 1048576 := by have := tot_mono (vs := vs) hk; rw [hT.out] at this; have := hlen.out; omega
    clear ss hz oi
    by_cases hlt : k < n
    · obtain ⟨g, rfl, _, _, hc⟩ := Ss.out.at_ (by omega)
      have c1 := hc k hlt
      have r1 := Ss.out.row k hlt
      have hl : (vs.getD k sd0).2.1 ≤ 1048576 := Nat.le_trans (tot_row hlt) hlen.out
      have hT2 : Hid (tot vs (k + 1) = T + (vs.getD k sd0).2.1) := Lib.hid (by rw [tot_succ, hT.out])
      have ev : sval (vs.getD k sd0) = .slice (vs.getD k sd0).1 (vs.getD k sd0).2.1 (vs.getD k sd0).2.2 := rfl
      have MK : Hid (∀ w2 ys, Slc w2 bi (vs.getD k sd0).1 (vs.getD k sd0).2.1 (vs.getD k sd0).2.2 ys → wr.grownBy w2 (Value.slice (vs.getD k sd0).1 (vs.getD k sd0).2.1 (vs.getD k sd0).2.2).ownBlock → SS w2 bo bi (some ⟨g, 0, none⟩) n c vs (zss.set k ys) ∧ OnlyIn w w2 vs n) :=
        Lib.hid fun w2 ys h1 h2 => ⟨Ss.out.marked hlt h1 h2, Oi.out.step (i := k) h2 hlt⟩
      obtain ⟨l, el⟩ : ∃ l, (vs.getD k sd0).2.1 = l := ⟨_, rfl⟩
      obtain ⟨A5, e5⟩ : ∃ A5, (vs.getD k sd0).1 = A5 := ⟨_, rfl⟩
      obtain ⟨c5, ec5⟩ : ∃ c5, (vs.getD k sd0).2.2 = c5 := ⟨_, rfl⟩
      have El := Lib.hid el
      rw [e5, el, ec5] at c1 r1 MK
      rw [el] at hl hT2
      have R1 := Lib.hid r1
      clear r1 e5 el ec5 hc ev
      go_wp2_with fail
      refine (markK bi (1 + T) _ A5 l c5 _ wr R1.out (by omega) (by omega) (by omega)).mono ?_
      rintro e w2 ⟨rfl, s2, g2⟩
      have M2 := Lib.hid (MK.out w2 _ s2 g2)
      clear s2 g2
      go_wp2_with fail
      go_roundw
      case rel =>
        refine ⟨k + 1, T + l, zss.set k (marks (1 + T) l), by omega, hT2, by go_num, by go_num, M2.out.1, fun t ht => ?_, M2.out.2⟩
        by_cases e : k = t
        · subst e
          rw [List.getD_eq_getElem?_getD, List.getElem?_set, if_pos rfl, if_pos (by rw [Ss.out.lx]; exact hlt), hT.out, El.out]; rfl
        · rw [List.getD_eq_getElem?_getD, List.getElem?_set, if_neg e, ← List.getD_eq_getElem?_getD]; exact Hz.out t (by omega)
      case measure => simp [intOf]; omega
    · have hkn : k = n := by omega
      subst hkn
      have Ez : Hid (zss = marks2 vs 1 k) := Lib.hid (by
        apply List.ext_getElem (by rw [Ss.out.lx]; simp [marks2])
        intro i h1 h2
        have h3 : i < k := by rw [← Ss.out.lx]; exact h1
        have := Hz.out i h3
        rw [← marks2_getD h3, List.getD_eq_getElem?_getD, List.getD_eq_getElem?_getD, List.getElem?_eq_getElem h1, List.getElem?_eq_getElem h2] at this
        exact this)
      go_wp2
      go_ret
      exact ⟨ret_int (by rw [hT.out]), by rw [← Ez.out]; exact Ss.out, Oi.out⟩

end Go.Proofs.Ytkjokchhffjidaa

/- What is kept where a slice of slices was marked; bounds on lists of lists. No condition. -/
namespace Go.Proofs.Ytkjokchhffjidaa
open Go.RowKit

theorem Slc.only {w w' : World} {base n c n' : Nat} {A : Option Addr} {us : List SV} {xs : List Int} (h : Slc w base A n c xs) (ho : OnlyIn w w' us n')
    (hd : ∀ k, (Value.slice A n c).ownBlock = some k → ∀ t, t < n' → (sval (us.getD t sd0)).ownBlock = some k → False) : Slc w' base A n c xs := by
  refine ⟨h.1, h.2.1, ?_⟩
  rcases h.2.2 with hn | ⟨g, cap, cur, e, hb', hg, rest⟩
  · exact .inl hn
  · exact .inr ⟨g, cap, cur, e, hb', by rw [ho.block g (Array.getElem?_eq_some_iff.1 hg).1 (fun t ht e2 => hd g (by rw [e]; rfl) t ht e2)]; exact hg, rest⟩
theorem SS.only2 {w w' : World} {bo bi n c n' : Nat} {A : Option Addr} {vs us : List SV} {xss : List (List Int)} (h : SS w bo bi A n c vs xss) (ho : OnlyIn w w' us n')
    (hd : ∀ k, (Value.slice A n c).ownBlock = some k → ∀ t, t < n' → (sval (us.getD t sd0)).ownBlock = some k → False)
    (hd2 : ∀ s, s < n → ∀ k, (sval (vs.getD s sd0)).ownBlock = some k → ∀ t, t < n' → (sval (us.getD t sd0)).ownBlock = some k → False) : SS w' bo bi A n c vs xss := by
  refine ⟨⟨h.own.1, ?_⟩, h.lv, h.lx, fun i hi => (h.row i hi).only ho (hd2 i hi), h.dis⟩
  rcases h.own.2 with hn | ⟨g, cap, cur, e, hb', hg, rest⟩
  · exact .inl hn
  · exact .inr ⟨g, cap, cur, e, hb', by rw [ho.block g (Array.getElem?_eq_some_iff.1 hg).1 (fun t ht e2 => hd g (by rw [e]; rfl) t ht e2)]; exact hg, rest⟩
def sumL (l : List (List Int)) : Nat := (l.map List.length).sum
theorem sumL_le {l : List (List Int)} {k : Nat} (h : ∀ y ∈ l, y.length ≤ k) : sumL l ≤ l.length * k := by
  induction l with
  | nil => simp [sumL]
  | cons a t ih =>
    have h1 := ih fun y hy => h y (by simp [hy])
    have h2 := h a (by simp)
    unfold sumL at h1 ⊢
    rw [List.map_cons, List.sum_cons, List.length_cons, Nat.succ_mul]; omega
theorem bound_all {l : List (List Int)} {m k : Nat} (h1 : l.length ≤ m) (h2 : ∀ y ∈ l, y.length ≤ k) (h : m * k ≤ 1048576 ∧ m ≤ 1048576 ∧ k ≤ 1048576) :
    l.length ≤ 1048576 ∧ (∀ i, i < l.length → (l.getD i []).length ≤ 1048576) ∧ sumL l ≤ 1048576 := by
  refine ⟨by omega, fun i hi => ?_, ?_⟩
  · have : l.getD i [] ∈ l := by rw [List.getD_eq_getElem?_getD, List.getElem?_eq_getElem hi]; exact List.getElem_mem _
    have := h2 _ this; omega
  · have h3 := sumL_le h2
    have h4 : l.length * k ≤ m * k := Nat.mul_le_mul_right k h1
    omega
theorem SS.tot_sum {w : World} {bo bi n c : Nat} {A : Option Addr} {vs : List SV} {xss : List (List Int)} (h : SS w bo bi A n c vs xss) : tot vs n = sumL xss := by
  have key : ∀ k, k ≤ n → tot vs k = sumL (xss.take k) := by
    intro k
    induction k with
    | zero => intro _; rfl
    | succ k ih =>
      intro hk
      have hk' : k < xss.length := by rw [h.lx]; omega
      rw [tot_succ, ih (by omega), List.take_succ_eq_append_getElem hk', ← (h.row k (by omega)).1, List.getD_eq_getElem?_getD, List.getElem?_eq_getElem hk']
      show sumL (xss.take k) + _ = sumL (xss.take k ++ [xss[k]])
      unfold sumL
      rw [List.map_append, List.sum_append]; simp
  rw [key n (Nat.le_refl _), List.take_of_length_le (by rw [h.lx]; exact Nat.le_refl _)]
/-- A slice of slices none of whose blocks is the one that turned. -/
theorem SS.far2 {w w' : World} {bo bi n c lo hi lo' hi' n' c' : Nat} {A A' : Option Addr} {vs : List SV} {xss : List (List Int)} (h : SS w bo bi A n c vs xss) (hg : w.grownBy w' (Value.slice A' n' c').ownBlock)
    (lo1 : Lies A n c lo hi) (li : ∀ t, t < n → ∀ k, (sval (vs.getD t sd0)).ownBlock = some k → lo ≤ k ∧ k < hi) (l : Lies A' n' c' lo' hi') (hb : hi ≤ lo' ∨ hi' ≤ lo) : SS w' bo bi A n c vs xss :=
  ⟨World.ownsRow.kept h.own hg (lo1.apart l hb), h.lv, h.lx, fun i hi' => (h.row i hi').kept hg (Lies.apart (show Lies _ _ _ lo hi from li i hi') l hb), h.dis⟩
theorem invL_len (p : List Int) : (invL p p.length).length = p.length := by
  have : ∀ k, (invL p k).length = p.length := by
    intro k
    induction k with
    | zero => simp [invL]
    | succ k ih => simp [invL, ih]
  exact this _
end Go.Proofs.Ytkjokchhffjidaa

/- The model's emptyChain and buildChain. Conditions: at most 20 points, 8 generators. -/
namespace Go.Proofs.Ytkjokchhffjidaa
open Go.RowKit

theorem infoSS : (Try.prog.info? 24).map (fun i => (i.zero, i.size, i.bytes)) = some (some (.slice none 0 0), 1, 24) := by kernel_rfl
theorem wpList_appW {w : World} {ops : Array Oper} {rest : List Oper} {o : Oper} {a : Act} {Q : Exit → Act → World → Prop} (hgd : o.guard = none) (s x : Operand)
    (ho : o.op = .call { callee := .builtin .append, args := #[s, x], argTypes := #[119, 119] })
    (base : Nat) (v : Value) (n : Nat) (xs : List Value) (hs : a.eval s = v) (hown : w.ownsRow base 24 1 v n xs) (g : Nat) (d : SV) (hx : a.eval x = .slice (some ⟨g, 0, none⟩) 1 1)
    (hcell : w.cell? ⟨g, 0, none⟩ = some (sval d)) (hn : n ≤ 1000000000) (hbase : base ≤ w.heap.size)
    (h : ∀ A' c' w', w'.ownsRow base 24 1 (.slice A' (n + 1) c') (n + 1) (xs ++ [sval d]) → w.grownBy w' v.ownBlock → ((Value.slice A' (n + 1) c').ownBlock = v.ownBlock ∨ (Value.slice A' (n + 1) c').ownBlock = some w.heap.size) → wpList Try.prog ops Q rest (a.put o.dst (.slice A' (n + 1) c')) w') : wpList Try.prog ops Q (o :: rest) a w := by
  obtain ⟨i0, hi, hz0, hz1, hz2⟩ := info_parts infoSS
  refine wpList_append_own_at w hgd s x 119 ho base 24 i0 (.slice none 0 0) 1 24 Try.underlying119 hi hz0 hz1 hz2 rfl (by decide) v n xs hs hown ⟨g, 0, none⟩ 1 1 [sval d] hx rfl ?_ ?_ ?_ (by omega) hbase ?_
  · intro j u hj
    match j, hj with
    | 0, hj => simp at hj; subst hj; simpa [Addr.add] using hcell
    | j + 1, hj => simp at hj
  · intro u hu; simp at hu; subst hu; rfl
  · unfold maxLen; omega
  · intro v' w' hown' hg _ hat
    have hform : ∃ A' c', v' = .slice A' (n + 1) c' := by
      rcases hown'.2 with ⟨rfl, h0⟩ | ⟨g', cap, cur, rfl, _⟩
      · omega
      · exact ⟨_, _, rfl⟩
    obtain ⟨A', c', rfl⟩ := hform
    exact h A' c' w' hown' hg hat

theorem ownsRow_dn {w : World} {base base' n size : Nat} {e : TypeId} {v : Value} {xs : List Value} (h : w.ownsRow base e size v n xs) (hb : base' ≤ base) : w.ownsRow base' e size v n xs := by
  refine ⟨h.1, ?_⟩
  rcases h.2 with e | ⟨g', cap, cur, e, a1, rest⟩
  · exact .inl e
  · exact .inr ⟨g', cap, cur, e, Nat.le_trans hb a1, rest⟩
theorem ownsRow_sl {w : World} {base n size : Nat} {e : TypeId} {v : Value} {xs : List Value} (h : w.ownsRow base e size v n xs) : ∃ a c, v = .slice a n c := by
  rcases h.2 with ⟨e, h0⟩ | ⟨g', cap, cur, e, _⟩
  · subst h0; exact ⟨_, _, e⟩
  · exact ⟨_, _, e⟩
/-- The chain with nothing in it. -/
def ch0 (N : Nat) : Ch := ⟨fun i y => if y = i then idL N else [], fun _ => []⟩
/-- The chain while its tables are being built: m levels of representatives and n levels of generators are there. -/
structure Pc (w : World) (base g N m n : Nat) (v1 v2 : Value) (ro gv : Nat → Nat) (en : Nat → List SV) : Prop where
  blk : Blk w g 121 #[.int .i64 (N : Nat), v1, v2]
  hg : base ≤ g
  own1 : w.ownsRow base 24 1 v1 m ((List.range m).map fun i => Value.slice (some ⟨ro i, 0, none⟩) N N)
  row1 : ∀ i, i < m → w.ownsRow base 27 1 (.slice (some ⟨ro i, 0, none⟩) N N) N ((en i).map sval)
  len1 : ∀ i, i < m → (en i).length = N
  ent1 : ∀ i, i < m → ∀ y, y < N → Slc w base ((en i).getD y sd0).1 ((en i).getD y sd0).2.1 ((en i).getD y sd0).2.2 ((ch0 N).rep i y)
  own2 : w.ownsRow base 24 1 v2 n ((List.range n).map fun i => Value.slice (some ⟨gv i, 0, none⟩) 0 0)
  row2 : ∀ i, i < n → w.ownsRow base 27 1 (.slice (some ⟨gv i, 0, none⟩) 0 0) 0 []
  dv : ∀ b, v1.ownBlock = some b → v2.ownBlock ≠ some b
  dro : ∀ i j, i < m → j < m → i ≠ j → ro i ≠ ro j
  drg : ∀ i j, i < m → j < n → gv j ≠ ro i
  dgv : ∀ i j, i < n → j < n → i ≠ j → gv i ≠ gv j
theorem Pc.cn {w : World} {base g N : Nat} {v1 v2 : Value} {ro gv : Nat → Nat} {en : Nat → List SV} (h : Pc w base g N N N v1 v2 ro gv en) (hN : 1 ≤ N) : ∃ L, Cn w base g N (ch0 N) L := by
  obtain ⟨R, cR, rfl⟩ : ∃ R cR, v1 = .slice (some ⟨R, 0, none⟩) N cR := by
    rcases h.own1.2 with ⟨_, h0⟩ | ⟨g', cap, cur, e, _⟩
    · omega
    · exact ⟨g', cap, e⟩
  obtain ⟨G, cG, rfl⟩ : ∃ G cG, v2 = .slice (some ⟨G, 0, none⟩) N cG := by
    rcases h.own2.2 with ⟨_, h0⟩ | ⟨g', cap, cur, e, _⟩
    · omega
    · exact ⟨g', cap, e⟩
  refine ⟨⟨R, cR, G, cG, ro, en, fun i => (some ⟨gv i, 0, none⟩, 0, 0), fun _ => []⟩, h.blk, h.hg, h.own1, h.row1, h.len1, h.ent1, h.own2, h.row2, fun _ _ => rfl, fun i _ y hy => absurd hy (Nat.not_lt_zero y), ?_, h.dro, ?_, ?_⟩
  · rintro (e : R = G)
    exact h.dv R rfl (by rw [e]; rfl)
  · intro i j hi hj e
    exact h.drg i j hi hj (Option.some.inj e)
  · intro i j hi hj hij b e1 e2
    exact h.dgv i j hi hj hij ((Option.some.inj e1).trans (Option.some.inj e2).symm)
section
variable {w w' w1 wA w4 : World} {o o1 : Obj} {base g N m n r c4 B : Nat} {v1 v2 : Value} {ro gv : Nat → Nat} {en : Nat → List SV} {enm : List SV} {A4 : Option Addr}
theorem Pc.up (h : Pc w base g N m n v1 v2 ro gv en) (hb : Below w.heap.size w w') : Pc w' base g N m n v1 v2 ro gv en := by
  have hc : Chg w w' (fun _ => False) := .of_below hb
  exact ⟨(hb.block g h.blk.lt).trans h.blk, h.hg, ownsRow_chg h.own1 hc fun _ _ e => e, fun i hi => ownsRow_chg (h.row1 i hi) hc fun _ _ e => e, h.len1, fun i hi y hy => (h.ent1 i hi y hy).up hb,
    ownsRow_chg h.own2 hc fun _ _ e => e, fun i hi => ownsRow_chg (h.row2 i hi) hc fun _ _ e => e, h.dv, h.dro, h.drg, h.dgv⟩
/-- Blocks of M hold neither numbers nor slices of numbers. -/
def NoS (w : World) (M : Nat → Prop) : Prop := ∀ k, M k → ∃ cs t, w.heap[k]? = some (.cells cs t (0, 0)) ∧ t ≠ 2 ∧ t ≠ 27
theorem NoS.int {M : Nat → Prop} (h : NoS w M) : NoInt w M := fun k hk => by
  obtain ⟨cs, t, e, h1, _⟩ := h k hk
  exact ⟨cs, t, _, e, h1⟩
theorem NoS.row {M : Nat → Prop} {n : Nat} {v : Value} {xs : List Value} (h : NoS w M) (hc : Chg w w' M) (hr : w.ownsRow base 27 1 v n xs) : w'.ownsRow base 27 1 v n xs :=
  ownsRow_chg hr hc fun k hk hm => by
    obtain ⟨cs, t, e, _, h2⟩ := h k hm
    obtain ⟨cur, e2⟩ := ownsRow_typ hr hk
    rw [e] at e2
    injection e2 with e2
    injection e2 with _ e3
    exact h2 e3
theorem rng_snoc (f f' : Nat → Value) (m : Nat) (h : ∀ i, i < m → f' i = f i) : (List.range (m + 1)).map f' = (List.range m).map f ++ [f' m] := by
  rw [List.range_succ, List.map_append]
  congr 1
  exact List.map_congr_left fun i hi => h i (List.mem_range.1 hi)
theorem Pc.not_g (h : Pc w base g N m n v1 v2 ro gv en) {v : Value} {k : Nat} {xs : List Value} (hv : w.ownsRow base 24 1 v k xs) : v.ownBlock ≠ some g := fun e => by
  obtain ⟨cur, e2⟩ := ownsRow_typ hv e
  have := h.blk
  unfold Blk at this
  rw [this] at e2
  injection e2 with e2
  injection e2 with _ e3
  exact absurd e3 (by decide)
/-- What an append onto one of the tables and the store into the chain turn. -/
theorem Pc.chg (h : Pc w base g N m n v1 v2 ro gv en) {v : Value} {k : Nat} {xs : List Value} (hv : w.ownsRow base 24 1 v k xs) (b1 : Below w.heap.size w w1) (hg4 : w1.grownBy w4 v.ownBlock) (i : Nat) (u : Value) :
    Blk w4 g 121 #[.int .i64 (N : Nat), v1, v2] ∧ Chg w (w4.setCell ⟨g, i, none⟩ u) (fun b => v.ownBlock = some b ∨ b = g) ∧ NoS w (fun b => v.ownBlock = some b ∨ b = g) ∧ Chg w4 (w4.setCell ⟨g, i, none⟩ u) (fun b => b = g) := by
  have hgl := h.blk.lt
  have hng := h.not_g hv
  have hB : Blk w4 g 121 #[.int .i64 (N : Nat), v1, v2] := (hg4.block g (Nat.lt_of_lt_of_le hgl b1.size) (fun e => hng e.symm)).trans ((b1.block g hgl).trans h.blk)
  have c3 : Chg w4 (w4.setCell ⟨g, i, none⟩ u) (fun b => b = g) := ⟨rfl, rfl, rfl, by simp, fun k _ hk => heap_setCell_other w4 ⟨g, i, none⟩ k u (fun e => hk e)⟩
  refine ⟨hB, ⟨c3.os.trans (hg4.os.trans b1.os), c3.tape.trans (hg4.tape.trans b1.tape), c3.output.trans (hg4.output.trans b1.output), Nat.le_trans b1.size (Nat.le_trans hg4.size c3.size), fun k hk hn => ?_⟩, fun k hk => ?_, c3⟩
  · have h1 := Nat.lt_of_lt_of_le hk b1.size
    exact (c3.block k (Nat.lt_of_lt_of_le h1 hg4.size) (fun e => hn (.inr e))).trans ((hg4.block k h1 (fun e => hn (.inl e.symm))).trans (b1.block k hk))
  · rcases hk with e | rfl
    · obtain ⟨cur, e2⟩ := ownsRow_typ hv e
      exact ⟨cur, _, e2, by decide, by decide⟩
    · exact ⟨_, _, h.blk, by decide, by decide⟩
theorem Pc.step1 (h : Pc w base g N m n v1 v2 ro gv en) (hrow : w.ownsRow base 27 1 (.slice (some ⟨r, 0, none⟩) N N) N (enm.map sval)) (hr : B ≤ r) (hB : ∀ i, i < m → ro i < B) (hB2 : ∀ i, i < n → gv i < B) (hl : enm.length = N)
    (he : ∀ y, y < N → Slc w base (enm.getD y sd0).1 (enm.getD y sd0).2.1 (enm.getD y sd0).2.2 ((ch0 N).rep m y)) (b1 : Below w.heap.size w w1)
    (hg4 : w1.grownBy w4 v1.ownBlock) (ho4 : w4.ownsRow base 24 1 (.slice A4 (m + 1) c4) (m + 1) ((List.range m).map (fun i => Value.slice (some ⟨ro i, 0, none⟩) N N) ++ [.slice (some ⟨r, 0, none⟩) N N]))
    (hat4 : (Value.slice A4 (m + 1) c4).ownBlock = v1.ownBlock ∨ (Value.slice A4 (m + 1) c4).ownBlock = some w1.heap.size) :
    Pc (w4.setCell ⟨g, 1, none⟩ (.slice A4 (m + 1) c4)) base g N (m + 1) n (.slice A4 (m + 1) c4) v2 (fun i => if i = m then r else ro i) gv (fun i => if i = m then enm else en i) := by
  obtain ⟨hB4, hc, hs, hc4⟩ := h.chg h.own1 b1 hg4 1 (.slice A4 (m + 1) c4)
  have hn2 := h.not_g h.own2
  have hcase : ∀ i, i < m + 1 → i < m ∨ i = m := fun i hi => by omega
  refine ⟨?_, h.hg, ?_, fun i hi => ?_, fun i hi => ?_, fun i hi y hy => ?_, ?_, fun i hi => hs.row hc (h.row2 i hi), fun b e1 e2 => ?_, fun i j hi hj hij => ?_, fun i j hi hj => ?_, h.dgv⟩
  · have := hB4.set_ 1 (.slice A4 (m + 1) c4)
    simpa using this
  · rw [rng_snoc (fun i => Value.slice (some ⟨ro i, 0, none⟩) N N) _ m (fun i hi => by rw [if_neg (by omega)]), if_pos rfl]
    refine ownsRow_chg ho4 hc4 fun b e1 e2 => ?_
    subst e2
    obtain ⟨cur, e2⟩ := ownsRow_typ ho4 e1
    unfold Blk at hB4
    rw [hB4] at e2
    injection e2 with e2
    injection e2 with _ e3
    exact absurd e3 (by decide)
  · rcases hcase i hi with hl | rfl
    · simp only [if_neg (show ¬ i = m by omega)]; exact hs.row hc (h.row1 i hl)
    · simp only [if_true]; exact hs.row hc hrow
  · rcases hcase i hi with hl | rfl
    · simp only [if_neg (show ¬ i = m by omega)]; exact h.len1 i hl
    · simp only [if_true]; exact hl
  · rcases hcase i hi with hl | rfl
    · simp only [if_neg (show ¬ i = m by omega)]; exact (h.ent1 i hl y hy).chg hc hs.int
    · simp only [if_true]; exact (he y hy).chg hc hs.int
  · refine ownsRow_chg h.own2 hc fun b e1 e2 => ?_
    rcases e2 with e2 | rfl
    · exact h.dv b e2 e1
    · exact hn2 e1
  · rcases hat4 with e | e
    · rw [e] at e1; exact h.dv b e1 e2
    · rw [e] at e1
      have h1 := (World.ownsRow.lt h.own2 b e2).2
      have h2 := b1.size
      have := Option.some.inj e1
      omega
  · rcases hcase i hi with hl | rfl <;> rcases hcase j hj with hl2 | rfl
    · simp only [if_neg (show ¬ i = m by omega), if_neg (show ¬ j = m by omega)]; exact h.dro i j hl hl2 hij
    · simp only [if_neg (show ¬ i = j by omega), if_true]; have := hB i hl; omega
    · simp only [if_neg (show ¬ j = i by omega), if_true]; have := hB j hl2; omega
    · exact absurd rfl hij
  · rcases hcase i hi with hl | rfl
    · simp only [if_neg (show ¬ i = m by omega)]; exact h.drg i j hl hj
    · simp only [if_true]; have := hB2 j hj; omega
theorem Pc.step2 (h : Pc w base g N m n v1 v2 ro gv en) (hbs : base ≤ w.heap.size) (b1 : Below (w.heap.size + 1) (w.alloc (.cells #[] 27)) w1)
    (hg4 : w1.grownBy w4 v2.ownBlock) (ho4 : w4.ownsRow base 24 1 (.slice A4 (n + 1) c4) (n + 1) ((List.range n).map (fun i => Value.slice (some ⟨gv i, 0, none⟩) 0 0) ++ [.slice (some ⟨w.heap.size, 0, none⟩) 0 0]))
    (hat4 : (Value.slice A4 (n + 1) c4).ownBlock = v2.ownBlock ∨ (Value.slice A4 (n + 1) c4).ownBlock = some w1.heap.size) :
    Pc (w4.setCell ⟨g, 2, none⟩ (.slice A4 (n + 1) c4)) base g N m (n + 1) v1 (.slice A4 (n + 1) c4) ro (fun i => if i = n then w.heap.size else gv i) en := by
  have b0 : Below w.heap.size w w1 := by
    have h1 : Below w.heap.size w (w.alloc (.cells #[] 27)) := (Below.refl _ _).alloc (Nat.le_refl _) _
    exact h1.trans (b1.mono (by omega))
  obtain ⟨hB4, hc, hs, hc4⟩ := h.chg h.own2 b0 hg4 2 (.slice A4 (n + 1) c4)
  have hn1 := h.not_g h.own1
  have hcase : ∀ i, i < n + 1 → i < n ∨ i = n := fun i hi => by omega
  have ltg : ∀ i, i < n → gv i < w.heap.size := fun i hi => (World.ownsRow.lt (h.row2 i hi) (gv i) rfl).2
  have ltr : ∀ i, i < m → ro i < w.heap.size := fun i hi => (World.ownsRow.lt (h.row1 i hi) (ro i) rfl).2
  have hnew : (w4.setCell ⟨g, 2, none⟩ (.slice A4 (n + 1) c4)).ownsRow base 27 1 (.slice (some ⟨w.heap.size, 0, none⟩) 0 0) 0 [] := by
    have h1 : (w.alloc (.cells #[] 27)).ownsRow base 27 1 (.slice (some ⟨w.heap.size, 0, none⟩) 0 0) 0 [] := World.ownsRow_lit (size := 1) w #[] 0 hbs (Nat.zero_le _) rfl
    have hq : w1.heap[w.heap.size]? = (w.alloc (.cells #[] 27)).heap[w.heap.size]? := b1.block w.heap.size (by omega)
    have hq2 : w4.heap[w.heap.size]? = w1.heap[w.heap.size]? := hg4.block w.heap.size (by have := b1.size; simp at this; omega) (fun e => by
      have := (World.ownsRow.lt h.own2 _ e.symm).2; omega)
    have hq3 : (w4.setCell ⟨g, 2, none⟩ (.slice A4 (n + 1) c4)).heap[w.heap.size]? = w4.heap[w.heap.size]? := heap_setCell_other w4 ⟨g, 2, none⟩ _ _ (fun e => by have := h.blk.lt; simp at e; omega)
    refine ⟨h1.1, ?_⟩
    rcases h1.2 with e | ⟨g', cap, cur, e, a1, a2, rest⟩
    · exact .inl e
    · have eg : w.heap.size = g' := by injection e with e _ _; injection e with e; injection e
      subst eg
      exact .inr ⟨_, cap, cur, e, a1, by rw [hq3, hq2, hq]; exact a2, rest⟩
  refine ⟨?_, h.hg, ?_, fun i hi => hs.row hc (h.row1 i hi), h.len1, fun i hi y hy => (h.ent1 i hi y hy).chg hc hs.int, ?_, fun i hi => ?_, fun b e1 e2 => ?_, h.dro, fun i j hi hj => ?_, fun i j hi hj hij => ?_⟩
  · have := hB4.set_ 2 (.slice A4 (n + 1) c4)
    simpa using this
  · refine ownsRow_chg h.own1 hc fun b e1 e2 => ?_
    rcases e2 with e2 | rfl
    · exact h.dv b e1 e2
    · exact hn1 e1
  · rw [rng_snoc (fun i => Value.slice (some ⟨gv i, 0, none⟩) 0 0) _ n (fun i hi => by rw [if_neg (by omega)]), if_pos rfl]
    refine ownsRow_chg ho4 hc4 fun b e1 e2 => ?_
    subst e2
    obtain ⟨cur, e2⟩ := ownsRow_typ ho4 e1
    unfold Blk at hB4
    rw [hB4] at e2
    injection e2 with e2
    injection e2 with _ e3
    exact absurd e3 (by decide)
  · rcases hcase i hi with hl | rfl
    · simp only [if_neg (show ¬ i = n by omega)]; exact hs.row hc (h.row2 i hl)
    · simp only [if_true]; exact hnew
  · rcases hat4 with e | e
    · rw [e] at e2; exact h.dv b e1 e2
    · rw [e] at e2
      have h1 := (World.ownsRow.lt h.own1 b e1).2
      have h2 := b0.size
      have := Option.some.inj e2
      omega
  · rcases hcase j hj with hl | rfl
    · simp only [if_neg (show ¬ j = n by omega)]; exact h.drg i j hi hl
    · simp only [if_true]; have := ltr i hi; omega
  · rcases hcase i hi with hl | rfl <;> rcases hcase j hj with hl2 | rfl
    · simp only [if_neg (show ¬ i = n by omega), if_neg (show ¬ j = n by omega)]; exact h.dgv i j hl hl2 hij
    · simp only [if_neg (show ¬ i = j by omega), if_true]; have := ltg i hl; omega
    · simp only [if_neg (show ¬ j = i by omega), if_true]; have := ltg j hl2; omega
    · exact absurd rfl hij
end

set_option maxHeartbeats 4000000 in
set_option maxRecDepth 100000 in
theorem specEmpty (N : Nat) (w : World) (hN1 : 1 ≤ N) (hN : N ≤ 20) :
    Calls Try.prog 115 #[.int .i64 (N : Nat)] w fun e w' => ∃ g L, e = .returned (.pointer (some ⟨g, 0, none⟩)) ∧ Cn w' w.heap.size g N (ch0 N) L ∧ Below w.heap.size w w' := by
  obtain ⟨i0, hi, hz0, hz1, hz2⟩ := info_parts infoS
  go_enter Try.func115, Try.ntmps115
  go_wp2_with fail
  go_loopw [4] (fun i wr => ∃ (m : Nat) (v1 v2 : Value) (ro gv : Nat → Nat) (en : Nat → List SV), m ≤ N ∧ i = .int .i64 (m : Nat) ∧ Pc wr w.heap.size w.heap.size N m m v1 v2 ro gv en ∧ Below w.heap.size w wr) (fun i _ => N - (intOf i).toNat)
  case atStart =>
    refine ⟨0, .slice none 0 0, .slice none 0 0, fun _ => 0, fun _ => 0, fun _ => [], Nat.zero_le _, rfl, ⟨Blk.new w _ _, Nat.le_refl _, World.ownsRow_nil _ _ _ _, fun i h => absurd h (Nat.not_lt_zero i), fun i h => absurd h (Nat.not_lt_zero i), fun i h => absurd h (Nat.not_lt_zero i), World.ownsRow_nil _ _ _ _, fun i h => absurd h (Nat.not_lt_zero i), fun b e => by simp [Value.ownBlock] at e, fun i j h => absurd h (Nat.not_lt_zero i), fun i j h => absurd h (Nat.not_lt_zero i), fun i j h => absurd h (Nat.not_lt_zero i)⟩, (Below.refl _ _).alloc (Nat.le_refl _) _⟩
  case round =>
    obtain ⟨m, v1, v2, ro, gv, en, hm, rfl, hpc, bel⟩ := hrel
    obtain ⟨a1, k1, rfl⟩ := ownsRow_sl hpc.own1
    obtain ⟨a2, k2, rfl⟩ := ownsRow_sl hpc.own2
    have P0 := Lib.hid hpc
    have Be := Lib.hid bel
    by_cases hlt : m < N
    · have hzr := bel.size
      have lro : Hid (∀ i, i < m → ro i < wr.heap.size) := Lib.hid fun i hi => (World.ownsRow.lt (hpc.row1 i hi) (ro i) rfl).2
      have lgv : Hid (∀ i, i < m → gv i < wr.heap.size) := Lib.hid fun i hi => (World.ownsRow.lt (hpc.row2 i hi) (gv i) rfl).2
      have hgr := hpc.blk.lt
      have q0 : (0 : Int) ≤ m := by omega
      have q1 : (m : Int) < N := by omega
      clear hpc bel
      go_wp2_with (first | (at_make; refine wpList_make_full _ rfl _ _ 24 rfl wr.heap.size 27 i0 (.slice none 0 0) 1 Try.underlying24 hi hz0 hz1 .i64 .i64 _ _ N rfl rfl rfl rfl (by rw [hz2]; omega) (by unfold maxLen; omega) (Nat.le_refl _) ?_; intro w1 hown1 hgrow1))
      have b1 : Below wr.heap.size wr w1 := (Below.refl _ _).grown hgrow1 (Nat.le_refl _) (fun k e => nomatch e)
      refine (specIdent N w1 (by omega)).mono ?_
      rintro e w2 ⟨A2, c2, rfl, s2, b2⟩
      have hM := SS.made (bi := wr.heap.size) hown1
      have hM2 := hM.up b2
      have St := hM2.own.stored m (.slice A2 N c2)
      have y1 := hM2.own.cellAt m (by omega)
      have fz1 := hM2.own.frozenAt m
      have ey : ((List.replicate N sd0).map sval)[m]? = some (Value.slice none 0 0) := by simp [hlt, sval, sd0]
      rw [ey] at y1
      obtain ⟨wA, hwA⟩ : ∃ wA, w2.setCell ⟨wr.heap.size, m, none⟩ (.slice A2 N c2) = wA := ⟨_, rfl⟩
      rw [hwA] at St
      have bA : Hid (Below wr.heap.size wr wA) := Lib.hid ((b1.trans (b2.mono b1.size)).grown St.2 (Nat.le_trans b1.size b2.size) (by intro k e; injection e with e; omega))
      have hNi : NoInt w2 (fun b => b = wr.heap.size) := fun b e => by
        obtain ⟨cur, e2⟩ := ownsRow_typ hM2.own (k := wr.heap.size) rfl
        subst e; exact ⟨cur, _, _, e2, by decide⟩
      have sA : Hid (Slc wA w.heap.size A2 N c2 (idL N)) := Lib.hid ((s2.mono (by have := b1.size; omega)).chg (.of_grown St.2 (M := fun b => b = wr.heap.size) (by intro k e; injection e with e; exact e.symm)) hNi)
      have PA := Lib.hid (P0.out.up bA.out)
      have RA : Hid (wA.ownsRow w.heap.size 27 1 (.slice (some ⟨wr.heap.size, 0, none⟩) N N) N (((List.replicate N sd0).set m (A2, N, c2)).map sval)) := Lib.hid (by
        rw [List.map_set]; exact ownsRow_dn St.1 hzr)
      have hgA := PA.out.blk.lt
      have x1 := PA.out.blk.cell 1
      have hzA := bA.out.size
      have hLit : Hid ((wA.alloc (.cells #[.slice (some ⟨wr.heap.size, 0, none⟩) N N] 24)).cell? ⟨wA.heap.size, 0, none⟩ = some (sval (some ⟨wr.heap.size, 0, none⟩, N, N))) := Lib.hid (by rw [World.cell?_alloc_at _ _ _ _ rfl]; rfl)
      have EA : Hid (∀ y, y < N → Slc wA w.heap.size (((List.replicate N sd0).set m (A2, N, c2)).getD y sd0).1 (((List.replicate N sd0).set m (A2, N, c2)).getD y sd0).2.1 (((List.replicate N sd0).set m (A2, N, c2)).getD y sd0).2.2 ((ch0 N).rep m y)) := Lib.hid fun y hy => by
        by_cases e : m = y
        · subst e
          rw [getD_set_eq (by simp; exact hy)]
          show Slc wA _ _ _ _ (if m = m then idL N else [])
          rw [if_pos rfl]; exact sA.out
        · rw [getD_set_ne e, getD_rep]
          show Slc wA _ _ _ _ (if y = m then idL N else [])
          rw [if_neg (fun e2 => e e2.symm)]; exact Slc.nil_
      have hx1 : (#[Value.int .i64 (N : Nat), .slice a1 m k1, .slice a2 m k2] : Array Value)[1]? = some (.slice a1 m k1) := rfl
      rw [hx1] at x1
      have zA : Hid ((wA.alloc (.cells #[.slice (some ⟨wr.heap.size, 0, none⟩) N N] 24)).heap.size = wA.heap.size + 1) := Lib.hid (by simp)
      have bL : Hid (Below wA.heap.size wA (wA.alloc (.cells #[.slice (some ⟨wr.heap.size, 0, none⟩) N N] 24))) := Lib.hid ((Below.refl _ _).alloc (Nat.le_refl _) _)
      clear hown1 hgrow1 b1 s2 b2 hM hM2 St ey hNi hx1
      go_wp2_with (first
        | (at_builtin; refine wpList_appW rfl _ _ rfl w.heap.size (.slice a1 m k1) m ((List.range m).map fun i => Value.slice (some ⟨ro i, 0, none⟩) N N) rfl (PA.out.up bL.out).own1 wA.heap.size (some ⟨wr.heap.size, 0, none⟩, N, N) rfl hLit.out (by omega) (by simp; omega) ?_; intro A4 c4 w4 ho4 hg4 hat4
           have B4 := (PA.out.chg PA.out.own1 bL.out hg4 1 (.slice A4 (m + 1) c4)).1
           have z4 := B4.cell 1
           have f4 := B4.frozen 1
           have P5 := Lib.hid (PA.out.step1 RA.out (Nat.le_refl _) lro.out lgv.out (by simp) EA.out bL.out hg4 ho4 hat4)
           have C5 := (PA.out.chg PA.out.own1 bL.out hg4 1 (.slice A4 (m + 1) c4)).2.1
           have Z5 := C5.size
           have z5 := P5.out.blk.cell 2
           have hx2 : (#[Value.int .i64 (N : Nat), .slice A4 (m + 1) c4, .slice a2 m k2] : Array Value)[2]? = some (.slice a2 m k2) := rfl
           have hx4 : (#[Value.int .i64 (N : Nat), .slice a1 m k1, .slice a2 m k2] : Array Value)[1]? = some (.slice a1 m k1) := rfl
           rw [hx2] at z5
           rw [hx4] at z4
           have HC5 := Lib.hid C5
           have e5 : (w4.setCell ⟨w.heap.size, 1, none⟩ (.slice A4 (m + 1) c4)).heap.size = w4.heap.size := by simp
           have HE := Lib.hid e5
           obtain ⟨W5, hW5⟩ : ∃ W5, w4.setCell ⟨w.heap.size, 1, none⟩ (.slice A4 (m + 1) c4) = W5 := ⟨_, rfl⟩
           have HW := Lib.hid hW5
           have O5 : Hid (((W5.alloc (.cells #[] 27)).alloc (.cells #[.slice (some ⟨w4.heap.size, 0, none⟩) 0 0] 24)).ownsRow w.heap.size 24 1 (.slice a2 m k2) m ((List.range m).map fun i => Value.slice (some ⟨gv i, 0, none⟩) 0 0)) := Lib.hid (by rw [← hW5]; exact (P5.out.own2.alloc _).alloc _)
           have L5 : Hid (((W5.alloc (.cells #[] 27)).alloc (.cells #[.slice (some ⟨w4.heap.size, 0, none⟩) 0 0] 24)).cell? ⟨w4.heap.size + 1, 0, none⟩ = some (sval (some ⟨w4.heap.size, 0, none⟩, 0, 0))) := Lib.hid (by rw [World.cell?_alloc_at _ _ _ _ (by rw [← hW5]; simp)]; rfl)
           have Z5b : w.heap.size ≤ w4.heap.size := by rw [e5] at Z5; omega
           clear B4 C5 hx2 hx4 e5 hW5 Z5)
        | (at_builtin; refine wpList_appW rfl _ _ rfl w.heap.size (.slice a2 m k2) m ((List.range m).map fun i => Value.slice (some ⟨gv i, 0, none⟩) 0 0) rfl (by rw [HW.out]; exact O5.out) (w4.heap.size + 1) (some ⟨w4.heap.size, 0, none⟩, 0, 0) rfl (by rw [HW.out]; exact L5.out) (by omega) (by simp; omega) ?_; intro A6 c6 w6 ho6 hg6 hat6
           have b6 : Below ((w4.setCell ⟨w.heap.size, 1, none⟩ (.slice A4 (m + 1) c4)).heap.size + 1) ((w4.setCell ⟨w.heap.size, 1, none⟩ (.slice A4 (m + 1) c4)).alloc (.cells #[] 27)) (((w4.setCell ⟨w.heap.size, 1, none⟩ (.slice A4 (m + 1) c4)).alloc (.cells #[] 27)).alloc (.cells #[.slice (some ⟨w4.heap.size, 0, none⟩) 0 0] 24)) := (Below.refl _ _).alloc (by simp) _
           have b7 : Below (w4.setCell ⟨w.heap.size, 1, none⟩ (.slice A4 (m + 1) c4)).heap.size (w4.setCell ⟨w.heap.size, 1, none⟩ (.slice A4 (m + 1) c4)) (((w4.setCell ⟨w.heap.size, 1, none⟩ (.slice A4 (m + 1) c4)).alloc (.cells #[] 27)).alloc (.cells #[.slice (some ⟨w4.heap.size, 0, none⟩) 0 0] 24)) := ((Below.refl _ _).alloc (Nat.le_refl _) _).alloc (by simp) _
           have C6 := P5.out.chg P5.out.own2 b7 hg6 2 (.slice A6 (m + 1) c6)
           have z6 := C6.1.cell 2
           have f6 := C6.1.frozen 2
           have hx2 : (#[Value.int .i64 (N : Nat), .slice A4 (m + 1) c4, .slice a2 m k2] : Array Value)[2]? = some (.slice a2 m k2) := rfl
           rw [hx2] at z6
           have P6 := Lib.hid (P5.out.step2 (by rw [HE.out]; exact Z5b) b6 hg6 (by rw [HE.out]; exact ho6) hat6)
           have B6 : Hid (Below w.heap.size w (w6.setCell ⟨w.heap.size, 2, none⟩ (.slice A6 (m + 1) c6))) := Lib.hid ((Be.out.trans ((bA.out.mono hzr).trans (HC5.out.below (fun k hk => by
             rcases hk with hk | rfl
             · exact (World.ownsRow.lt PA.out.own1 k hk).1
             · exact Nat.le_refl _) (by omega)))).trans (C6.2.1.below (fun k hk => by
             rcases hk with hk | rfl
             · exact (World.ownsRow.lt P5.out.own2 k hk).1
             · exact Nat.le_refl _) (by rw [HE.out]; exact Z5b)))
           clear b6 b7 C6 hx2))
      go_roundw
      case rel => exact ⟨m + 1, _, _, _, _, _, by omega, by go_num, P6.out, B6.out⟩
      case measure => simp [intOf]; omega
    · obtain rfl : m = N := by omega
      obtain ⟨L, hL⟩ := P0.out.cn hN1
      go_wp2_with fail
      go_ret
      exact ⟨_, L, rfl, hL, Be.out⟩
end Go.Proofs.Ytkjokchhffjidaa

/- The model's source of draws. Conditions: at most 4096 bytes; draws below at most 256. -/
namespace Go.Proofs.Ytkjokchhffjidaa
open Go.RowKit

/-- The bytes at A can be read: len of them, in blocks below B. -/
def SB (w : World) (B : Nat) (A : Option Addr) (len : Nat) : Prop :=
  0 < len → ∃ b off, A = some ⟨b, off, none⟩ ∧ b < B ∧ ∀ j, j < len → ∃ z : Nat, z ≤ 255 ∧ w.cell? ⟨b, off + j, none⟩ = some (.int .u8 z)
theorem SB.keep {w w' : World} {B len : Nat} {A : Option Addr} (h : SB w B A len) (hk : ∀ p : Addr, p.block < B → w'.cell? p = w.cell? p) : SB w' B A len := fun hn => by
  obtain ⟨b, off, e, hb, hc⟩ := h hn
  exact ⟨b, off, e, hb, fun j hj => by obtain ⟨z, hz, c⟩ := hc j hj; exact ⟨z, hz, (hk ⟨b, off + j, none⟩ hb).trans c⟩⟩
theorem SB.up {w w' : World} {B B' len : Nat} {A : Option Addr} (h : SB w B A len) (hB : B ≤ B') : SB w B' A len := fun hn => by
  obtain ⟨b, off, e, hb, hc⟩ := h hn
  exact ⟨b, off, e, by omega, hc⟩
theorem SB.below {w w' : World} {B B' len : Nat} {A : Option Addr} (h : SB w B A len) (hb : Below B' w w') (hB : B ≤ B') : SB w' B A len := h.keep fun _ hp => hb.cell (by omega)

/-- Block g is a source. -/
def Src (w : World) (g : Nat) : Prop :=
  ∃ (A : Option Addr) (len cap k : Nat) (h : Int), k ≤ len ∧ len ≤ 4096 ∧ SB w g A len ∧ Blk w g 82 #[.slice A len cap, .int .i64 (k : Nat), .int .i64 h]
theorem Src.lt {w : World} {g : Nat} (h : Src w g) : g < w.heap.size := by
  obtain ⟨A, len, cap, k, x, h1, h2, h3, h4⟩ := h; exact h4.lt
theorem Src.below {B g : Nat} {w w' : World} (h : Src w g) (hb : Below B w w') (hg : g < B) : Src w' g := by
  obtain ⟨A, len, cap, k, x, h1, h2, h3, h4⟩ := h
  exact ⟨A, len, cap, k, x, h1, h2, h3.below hb (by omega), h4.below hb hg⟩
theorem Src.gro {g r : Nat} {w w' : World} (h : Src w g) (hb : w.grownBy w' (some r)) (hg : g < r) : Src w' g := by
  obtain ⟨A, len, cap, k, x, h1, h2, h3, h4⟩ := h
  refine ⟨A, len, cap, k, x, h1, h2, h3.keep fun p hp => World.cell?_of_block (hb.block p.block (by have := h4.lt; omega) (by simp; omega)), h4.grown hb (by simp; omega)⟩
theorem and255 (x : Int) : bits .and .i64 x 255 = x % 256 := by
  have h255 : (BitVec.ofInt 64 255).toNat = 2 ^ 8 - 1 := by decide
  have key : (BitVec.ofInt 64 x &&& BitVec.ofInt 64 255).toNat = (x % ((2 ^ 64 : Nat) : Int)).toNat % 2 ^ 8 := by
    rw [BitVec.toNat_and, BitVec.toNat_ofInt, h255, Nat.and_two_pow_sub_one_eq_mod]
  show IntKind.i64.wrap ((BitVec.ofInt 64 x &&& BitVec.ofInt 64 255).toNat : Nat) = x % 256
  rw [key, IntKind.wrap_i64]
  omega

set_option maxHeartbeats 1600000 in
theorem srcByte (g : Nat) (w : World) (hs : Src w g) :
    Calls Try.prog 103 #[.pointer (some ⟨g, 0, none⟩)] w fun e w' => ∃ r : Nat, r ≤ 255 ∧ e = .returned (.int .i64 r) ∧ Src w' g ∧ w.grownBy w' (some g) := by
  obtain ⟨A, len, cap, k, h, hk, hl, hb, blk⟩ := hs
  have c0 : w.cell? ⟨g, 0, none⟩ = some (.slice A len cap) := blk.cell 0
  have c1 : w.cell? ⟨g, 1, none⟩ = some (.int .i64 k) := blk.cell 1
  have c2 : w.cell? ⟨g, 2, none⟩ = some (.int .i64 h) := blk.cell 2
  have f1 := blk.frozen 1
  have f2 := blk.frozen 2
  obtain ⟨H, eH⟩ : ∃ H, wrap64 (wrap64 (h * 6364136223846793005) + 1442695040888963407) = H := ⟨_, rfl⟩
  obtain ⟨X, hX, eX⟩ : ∃ X : Nat, X ≤ 255 ∧ bits .xor .i64 (H / 8589934592) (H / 35184372088832) % 256 = (X : Int) := ⟨(bits .xor .i64 (H / 8589934592) (H / 35184372088832) % 256).toNat, by omega, by omega⟩
  have a255 := and255
  have Blk' := Lib.hid blk
  have j0 : (0 : Int) ≤ k := by omega
  by_cases hlt : k < len
  · obtain ⟨b, off, rfl, hb', hc⟩ := hb (by omega)
    obtain ⟨z, hz, cz⟩ := hc k hlt
    have cz2 : (w.setCell ⟨g, 2, none⟩ (.int .i64 H)).cell? ⟨b, off + k, none⟩ = some (.int .u8 z) := (World.cell?_setCell_other _ _ _ _ (fun e => by injection e with e1; omega)).trans cz
    have j1 : (k : Int) < len := by omega
    have j2 : decide ((k : Int) < (len : Int)) = true := by simpa using hlt
    have Hb := Lib.hid hb
    have Blk2 := Lib.hid ((Blk'.out.set_ 2 (.int .i64 H)).set_ 1 (.int .i64 ((k : Int) + 1)))
    clear hb hc blk
    go_enter Try.func103, Try.ntmps103
    go_wp2_with fail
    go_quiet (fail)
    go_wp2_with fail
    go_quiet (fail)
    go_wp2_with fail
    go_quiet (fail)
    go_wp2_with fail
    go_ret
    refine ⟨(X + z) % 256, by omega, ret_int (by rw [Int.natCast_emod, Int.natCast_add]; rfl), ⟨_, len, cap, k + 1, H, by omega, hl, ?_, Blk2.out⟩, ?_⟩
    · exact Hb.out.keep fun p hp => by
        refine (World.cell?_setCell_other _ _ _ _ (fun e => by subst e; simp at hp)).trans ?_
        exact (World.cell?_setCell_other _ _ _ _ (fun e => by subst e; simp at hp))
    · exact grown_set (grown_drewN (grown_set (grown_refl w _) 2 _) _) 1 _
  · have j2 : decide ((k : Int) < (len : Int)) = false := by simp; omega
    have Hb := Lib.hid hb
    have Blk2 := Lib.hid (Blk'.out.set_ 2 (.int .i64 H))
    clear hb blk
    go_enter Try.func103, Try.ntmps103
    go_wp2_with fail
    go_quiet (fail)
    go_wp2_with fail
    go_quiet (fail)
    go_wp2_with fail
    go_ret
    refine ⟨X, hX, rfl, ⟨A, len, cap, k, H, by omega, hl, ?_, Blk2.out⟩, ?_⟩
    · exact Hb.out.keep fun p hp => by
        exact (World.cell?_setCell_other _ _ _ _ (fun e => by subst e; simp at hp))
    · exact grown_drewN (grown_drewN (grown_set (grown_refl w _) 2 _) _) _

theorem grown_trans' {a b c : World} {row : Option Nat} (h : a.grownBy b row) (k : b.grownBy c row) : a.grownBy c row :=
  ⟨k.os.trans h.os, k.tape.trans h.tape, k.output.trans h.output, Nat.le_trans h.size k.size, fun i hi hn => (k.block i (Nat.lt_of_lt_of_le hi h.size) hn).trans (h.block i hi hn)⟩

set_option maxHeartbeats 800000 in
theorem srcBelow (g : Nat) (N : Int) (n : Nat) (w : World) (hs : Src w g) (hN : N = (n : Int)) (h1 : 1 ≤ n) (h2 : n ≤ 256) :
    Calls Try.prog 79 #[.pointer (some ⟨g, 0, none⟩), .int .i64 N] w fun e w' => ∃ r : Nat, r < n ∧ e = .returned (.int .i64 r) ∧ Src w' g ∧ w.grownBy w' (some g) := by
  subst hN
  have d1 : decide ((n : Int) ≤ 0) = false := by simp; omega
  have d2 : decide ((n : Int) ≤ 256) = true := by simp; omega
  go_enter Try.func79, Try.ntmps79
  go_wp2_with fail
  refine (srcByte g w hs).mono ?_
  rintro e w1 ⟨r, hr, rfl, s1, g1⟩
  have S1 := Lib.hid s1
  have G1 := Lib.hid g1
  clear s1 g1
  go_wp2_with fail
  go_ret
  exact ⟨r % n, Nat.mod_lt _ (by omega), ret_int (by rw [Int.natCast_emod]), S1.out, G1.out⟩

set_option maxHeartbeats 800000 in
theorem srcOne (g : Nat) (N : Int) (n : Nat) (w : World) (hs : Src w g) (hN : N = (n : Int)) (h1 : 1 ≤ n) (h2 : n ≤ 256) :
    Calls Try.prog 44 #[.pointer (some ⟨g, 0, none⟩), .int .i64 N] w fun e w' => ∃ b : Bool, e = .returned (.bool b) ∧ Src w' g ∧ w.grownBy w' (some g) := by
  subst hN
  go_enter Try.func44, Try.ntmps44
  go_wp2_with fail
  refine (srcBelow g _ n w hs rfl h1 h2).mono ?_
  rintro e w1 ⟨r, hr, rfl, s1, g1⟩
  have S1 := Lib.hid s1
  have G1 := Lib.hid g1
  clear s1 g1
  by_cases hr0 : r = 0
  · have e0 : ((r : Int) == 0) = true := by rw [beq_iff_eq]; omega
    clear hr0
    go_wp2_with fail
    go_ret
    exact ⟨true, rfl, S1.out, G1.out⟩
  · have e0 : ((r : Int) == 0) = false := by rw [beq_eq_false_iff_ne]; omega
    clear hr0
    go_wp2_with fail
    go_ret
    exact ⟨false, rfl, S1.out, G1.out⟩

theorem srcBetween (g lo hi : Nat) (w : World) (hs : Src w g) (h1 : lo ≤ hi) (h2 : hi ≤ 200) :
    Calls Try.prog 81 #[.pointer (some ⟨g, 0, none⟩), .int .i64 (lo : Int), .int .i64 (hi : Int)] w fun e w' => ∃ r : Nat, lo ≤ r ∧ r ≤ hi ∧ e = .returned (.int .i64 r) ∧ Src w' g ∧ w.grownBy w' (some g) := by
  go_enter Try.func81, Try.ntmps81
  go_wp2_with fail
  refine (srcBelow g _ (hi - lo + 1) w hs (by omega) (by omega) (by omega)).mono ?_
  rintro e w1 ⟨r, hr, rfl, s1, g1⟩
  have S1 := Lib.hid s1
  have G1 := Lib.hid g1
  clear s1 g1
  go_wp2_with fail
  go_ret
  exact ⟨lo + r, by omega, by omega, ret_int (by omega), S1.out, G1.out⟩

set_option maxHeartbeats 1600000 in
theorem newSrc (len cap : Nat) (A : Option Addr) (w : World) (hb : SB w w.heap.size A len) (hl : len ≤ 4096) :
    Calls Try.prog 42 #[.slice A len cap] w fun e w' => e = .returned (.pointer (some ⟨w.heap.size, 0, none⟩)) ∧ Src w' w.heap.size ∧ Below w.heap.size w w' := by
  go_enter Try.func42, Try.ntmps42
  go_wp2_with fail
  go_loopg [3, 4] len (fun gg h i wr => ∃ k x, k ≤ len ∧ len - k ≤ gg ∧ i = .int .i64 (k : Nat) ∧ h = .int .i64 x ∧ wr = w)
  case atStart => exact ⟨0, _, Nat.zero_le _, by omega, rfl, rfl, rfl⟩
  case round =>
    obtain ⟨k, x, hk, hg, rfl, rfl, rfl⟩ := hrel
    by_cases hlt : k < len
    · obtain ⟨b, off, rfl, hb', hc⟩ := hb (by omega)
      obtain ⟨z, hz, cz⟩ := hc k hlt
      have j1 : (k : Int) < len := by omega
      have j0 : (0 : Int) ≤ k := by omega
      clear hb hc
      go_wp2_with fail
      go_roundg (len - (k + 1))
      case rel => exact ⟨k + 1, _, by omega, Nat.le_refl _, by go_num, rfl, rfl⟩
      case measure => omega
    · have hkn : k = len := by omega
      subst hkn
      have Hb := Lib.hid hb
      clear hb
      go_wp2_with fail
      go_ret
      exact ⟨rfl, ⟨A, k, cap, 0, x, Nat.zero_le _, hl, (Hb.out.below ((Below.refl wr.heap.size wr).alloc (Nat.le_refl _) _) (Nat.le_refl _)), Blk.new _ _ _⟩, (Below.refl _ _).alloc (Nat.le_refl _) _⟩
end Go.Proofs.Ytkjokchhffjidaa
