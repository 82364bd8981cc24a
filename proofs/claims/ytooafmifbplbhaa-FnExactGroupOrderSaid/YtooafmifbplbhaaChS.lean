/- Stabilizer chains: when a chain is whole from a level on, what one insertion asks of it and leaves. No Go in it. No condition. -/
import Derived.Test.YtooafmifbplbhaaChM
namespace Go.Proofs.Ytooafmifbplbhaa
open Go.RowKit

/-- Representatives by level and point ([] where there is none), generators by level. -/
structure Ch where
  rep : Nat → Nat → List Int
  gen : Nat → List (List Int)

/-- p is divided away by representatives from level i on. -/
inductive Sv (N : Nat) (c : Ch) : Nat → List Int → Prop
  | top : Sv N c N (idL N)
  | low {i : Nat} {p : List Int} : i < N → Pn N p → Fx i p → c.rep i (nx p i) ≠ [] → Sv N c (i + 1) (compL p (iv (c.rep i (nx p i)))) → Sv N c i p

section
variable {N k i : Nat} {c c' : Ch} {p q : List Int}
theorem Sv.inv_low (h : Sv N c i p) (hi : i < N) : Pn N p ∧ Fx i p ∧ c.rep i (nx p i) ≠ [] ∧ Sv N c (i + 1) (compL p (iv (c.rep i (nx p i)))) := by
  cases h with
  | top => omega
  | low _ a b d e => exact ⟨a, b, d, e⟩
theorem Sv.inv_top (h : Sv N c N p) : p = idL N := by
  cases h with
  | top => rfl
  | low h _ _ _ _ => omega
theorem Sv.le (h : Sv N c i p) : i ≤ N := by cases h <;> omega
/-- It asks only for the representatives at its level and above. -/
theorem Sv.congr (h : Sv N c i p) (e : ∀ j, i ≤ j → ∀ y, c'.rep j y = c.rep j y) : Sv N c' i p := by
  induction h with
  | top => exact .top
  | low hi a b d _ ih =>
    refine .low hi a b (by rw [e _ (Nat.le_refl _)]; exact d) ?_
    rw [e _ (Nat.le_refl _)]
    exact ih fun j hj => e j (by omega)

theorem sv_back {j : Nat} (h : Sv N c i p) (hj : j ≤ i) (e : ∀ t y, j ≤ t → t < N → y < N → c'.rep t y = c.rep t y) : Sv N c' i p := by
  induction h with
  | top => exact .top
  | @low i p hi a b d _ ih =>
    have e2 := e i (nx p i) hj hi (a.lt hi)
    refine .low hi a b (by rw [e2]; exact d) ?_
    rw [e2]
    exact ih (by omega)

/-- The representatives of a level. -/
structure RepOK (N : Nat) (c : Ch) (k : Nat) : Prop where
  at_ : ∀ y, c.rep k y ≠ [] → y < N ∧ Pn N (c.rep k y) ∧ Fx k (c.rep k y) ∧ nx (c.rep k y) k = y
  one : c.rep k k = idL N
def GenOK (N : Nat) (c : Ch) (k : Nat) : Prop := ∀ g ∈ c.gen k, Pn N g ∧ Fx k g
/-- How many representatives there are from a level on. -/
def cnt (N : Nat) (c : Ch) (k : Nat) : Nat := (List.range (N * N)).countP fun t => decide (k ≤ t / N) && !(c.rep (t / N) (t % N)).isEmpty

/-- The chain is whole from level k on. -/
structure UpTo (N : Nat) (c : Ch) (k : Nat) : Prop where
  rep : ∀ i, k ≤ i → i < N → RepOK N c i
  gp : ∀ i, k ≤ i → i < N → GenOK N c i
  sv : ∀ i, k ≤ i → i ≤ N → ∀ p, Sv N c i p ↔ Mb (c.gen i) N p
  len : ∀ i, k ≤ i → i < N → (c.gen i).length ≤ cnt N c i
  top : c.gen N = []
/-- The chain grew from level k on. -/
structure Grw (k : Nat) (c c' : Ch) : Prop where
  keep : ∀ i y, c.rep i y ≠ [] → c'.rep i y = c.rep i y
  rep : ∀ i y, i < k → c'.rep i y = c.rep i y
  gen : ∀ i, i < k → c'.gen i = c.gen i
theorem Grw.refl (k : Nat) (c : Ch) : Grw k c c := ⟨fun _ _ _ => rfl, fun _ _ _ => rfl, fun _ _ => rfl⟩
theorem Grw.trans {d : Ch} (h : Grw k c c') (h2 : Grw k c' d) : Grw k c d :=
  ⟨fun i y e => by rw [h2.keep i y (by rw [h.keep i y e]; exact e), h.keep i y e], fun i y hi => by rw [h2.rep i y hi, h.rep i y hi], fun i hi => by rw [h2.gen i hi, h.gen i hi]⟩
theorem Grw.mono {j : Nat} (h : Grw k c c') (hj : j ≤ k) : Grw j c c' := ⟨h.keep, fun i y hi => h.rep i y (by omega), fun i hi => h.gen i (by omega)⟩

/-- The state in which products are added at level k. -/
structure Low (N : Nat) (c : Ch) (k : Nat) : Prop where
  up : UpTo N c (k + 1)
  rep : RepOK N c k
  gp : GenOK N c k
  sub : ∀ p, Mb (c.gen (k + 1)) N p → Mb (c.gen k) N p
  inn : ∀ y, c.rep k y ≠ [] → Mb (c.gen k) N (c.rep k y)

theorem UpTo.pn (h : UpTo N c k) (hi : k ≤ i) (hN : i ≤ N) : ∀ g ∈ c.gen i, Pn N g := fun g hg => by
  rcases Nat.lt_or_ge i N with hl | hl
  · exact (h.gp i hi hl g hg).1
  · obtain rfl : i = N := by omega
    rw [h.top] at hg; cases hg
theorem UpTo.mono {j : Nat} (h : UpTo N c k) (hj : k ≤ j) : UpTo N c j :=
  ⟨fun i hi => h.rep i (by omega), fun i hi => h.gp i (by omega), fun i hi => h.sv i (by omega), fun i hi => h.len i (by omega), h.top⟩
theorem cnt_congr (e : ∀ j, k ≤ j → ∀ y, c'.rep j y = c.rep j y) : cnt N c' k = cnt N c k := by
  unfold cnt
  refine List.countP_congr fun t _ => ?_
  by_cases h : k ≤ t / N
  · rw [e _ h]
  · simp [h]
theorem UpTo.congr (h : UpTo N c k) (e : ∀ j, k ≤ j → ∀ y, c'.rep j y = c.rep j y) (g : ∀ j, k ≤ j → c'.gen j = c.gen j) (hk : k ≤ N) : UpTo N c' k := by
  refine ⟨fun i hi hN => ⟨fun y hy => ?_, ?_⟩, fun i hi hN => ?_, fun i hi hN p => ?_, fun i hi hN => ?_, ?_⟩
  · rw [e i hi] at hy ⊢; exact (h.rep i hi hN).at_ y hy
  · rw [e i hi]; exact (h.rep i hi hN).one
  · intro x hx; rw [g i hi] at hx; exact h.gp i hi hN x hx
  · rw [g i hi]
    exact ⟨fun hs => (h.sv i hi hN p).1 (hs.congr fun j hj y => (e j (by omega) y).symm), fun hm => ((h.sv i hi hN p).2 hm).congr fun j hj y => e j (by omega) y⟩
  · rw [g i hi, cnt_congr fun j hj => e j (by omega)]; exact h.len i hi hN
  · rw [g N hk]; exact h.top
theorem cnt_le (N : Nat) (c : Ch) (k : Nat) : cnt N c k ≤ N * N := by
  have := List.countP_le_length (p := fun t => decide (k ≤ t / N) && !(c.rep (t / N) (t % N)).isEmpty) (l := List.range (N * N))
  rw [List.length_range] at this; exact this
theorem cnt_mono (h : Grw k c c') (i : Nat) : cnt N c i ≤ cnt N c' i := by
  refine List.countP_mono_left fun t _ ht => ?_
  rw [Bool.and_eq_true, decide_eq_true_eq, Bool.not_eq_true', List.isEmpty_eq_false_iff] at ht ⊢
  exact ⟨ht.1, by rw [h.keep _ _ ht.2]; exact ht.2⟩
theorem countP_lt {l : List Nat} {f g : Nat → Bool} (h : ∀ t, f t = true → g t = true) {x : Nat} (hx : x ∈ l) (h1 : f x = false) (h2 : g x = true) : l.countP f < l.countP g := by
  induction l with
  | nil => cases hx
  | cons a t ih =>
    have hm : t.countP f ≤ t.countP g := List.countP_mono_left fun y _ => h y
    rw [List.countP_cons, List.countP_cons]
    rcases List.mem_cons.1 hx with rfl | hx
    · rw [h1, h2]; simp; omega
    · have := ih hx
      rcases ha : f a with _ | _
      · simp; split <;> omega
      · rw [h a ha]; simp; omega
/-- No more representatives: nothing has changed. -/
theorem cnt_same (h : Grw k c c') (e : cnt N c' i ≤ cnt N c i) {j y : Nat} (hj : i ≤ j) (hj2 : j < N) (hy : y < N) : c'.rep j y = c.rep j y := by
  by_cases hc : c.rep j y = []
  · by_cases hc' : c'.rep j y = []
    · rw [hc, hc']
    · exfalso
      have hlt : cnt N c i < cnt N c' i := by
        have hd : (j * N + y) / N = j := by
          rw [Nat.mul_comm, Nat.mul_add_div (by omega), Nat.div_eq_of_lt hy]; rfl
        have hm : (j * N + y) % N = y := by
          rw [Nat.mul_comm, Nat.mul_add_mod, Nat.mod_eq_of_lt hy]
        refine countP_lt (x := j * N + y) (fun t ht => ?_) ?_ ?_ ?_
        · rw [Bool.and_eq_true, decide_eq_true_eq, Bool.not_eq_true', List.isEmpty_eq_false_iff] at ht ⊢
          exact ⟨ht.1, by rw [h.keep _ _ ht.2]; exact ht.2⟩
        · rw [List.mem_range]
          have : (j + 1) * N ≤ N * N := Nat.mul_le_mul_right N (by omega)
          rw [Nat.add_mul] at this; omega
        · rw [hd, hm, hc]; simp
        · rw [hd, hm]; simp [hj, hc']
      omega
  · exact h.keep j y hc

/-- One level down: what fixes one point more. -/
theorem sv_down (h : RepOK N c k) (hk : k < N) (hp : Pn N p) (hf : Fx k p) (e : nx p k = k) : Sv N c k p ↔ Sv N c (k + 1) p := by
  have h1 := hp.pos
  constructor
  · intro hs
    have := (hs.inv_low hk).2.2.2
    rw [e, h.one, iv_id h1.1 h1.2, hp.idr] at this
    exact this
  · intro hs
    refine .low hk hp hf ?_ ?_
    · rw [e, h.one]; intro e2; have := idL_length N; rw [e2] at this; simp at this; omega
    · rw [e, h.one, iv_id h1.1 h1.2, hp.idr]; exact hs
theorem Low.mono_sv (h : Low N c k) (h' : Low N c' k) (g : Grw k c c') (hk : k < N) (hm : ∀ p, Mb (c.gen (k + 1)) N p → Mb (c'.gen (k + 1)) N p) (hs : Sv N c k p) : Sv N c' k p := by
  obtain ⟨a, b, d, e⟩ := hs.inv_low hk
  refine .low hk a b (by rw [g.keep _ _ d]; exact d) ?_
  rw [g.keep _ _ d]
  exact (h'.up.sv (k + 1) (Nat.le_refl _) hk _).2 (hm _ ((h.up.sv (k + 1) (Nat.le_refl _) hk _).1 e))
theorem Low.rep_sv (h : Low N c k) (hk : k < N) {y : Nat} (hy : c.rep k y ≠ []) : Sv N c k (c.rep k y) := by
  obtain ⟨h1, h2, h3, h4⟩ := h.rep.at_ y hy
  refine .low hk h2 h3 (by rw [h4]; exact hy) ?_
  rw [h4, h2.ci]
  exact (h.up.sv (k + 1) (Nat.le_refl _) hk _).2 .one
theorem Low.pn (h : Low N c k) : ∀ g ∈ c.gen k, Pn N g := fun g hg => (h.gp g hg).1
/-- Where every representative times every generator is divided away, the level is whole. -/
theorem Low.whole (h : Low N c k) (hk : k < N) (h1 : 1 ≤ N) (h2 : N ≤ 20) (hc : ∀ y, c.rep k y ≠ [] → ∀ g ∈ c.gen k, Sv N c k (compL (c.rep k y) g)) (hlen : (c.gen k).length ≤ cnt N c k) : UpTo N c k := by
  have hsv : ∀ p, Sv N c k p ↔ Mb (c.gen k) N p := fun p => by
    constructor
    · intro hs
      obtain ⟨a, b, d, e⟩ := hs.inv_low hk
      have e2 := h.sub _ ((h.up.sv (k + 1) (Nat.le_refl _) hk _).1 e)
      have hr := (h.rep.at_ _ d).2.1
      have := e2.comp h.pn h1 h2 (h.inn _ d)
      rw [a.assoc hr.iv, hr.ic, a.idr] at this
      exact this
    · intro hm
      induction hm with
      | one =>
        have hid : nx (idL N) k = k := nx_id hk
        exact (sv_down h.rep hk (pn_id h1 h2) (fx_id (by omega)) hid).2 ((h.up.sv (k + 1) (Nat.le_refl _) hk _).2 .one)
      | @mul p g hm hg ih =>
        obtain ⟨a, b, d, e⟩ := ih.inv_low hk
        obtain ⟨hyN, hr, hrf, hrk⟩ := h.rep.at_ _ d
        obtain ⟨r, er⟩ : ∃ r, c.rep k (nx p k) = r := ⟨_, rfl⟩
        rw [er] at d e hr hrf hrk
        have hs := hc (nx p k) (by rw [er]; exact d) g hg
        rw [er] at hs
        obtain ⟨a', b', d', e'⟩ := hs.inv_low hk
        have hgP := h.gp g hg
        have hpg : nx (compL p g) k = nx (compL r g) k := by rw [a.nxc hk, hr.nxc hk, hrk]
        have hr' := (h.rep.at_ _ d').2.1
        refine .low hk (a.comp hgP.1) (b.comp a hgP.2 (by omega)) (by rw [hpg]; exact d') ?_
        rw [hpg]
        have m1 := (h.up.sv (k + 1) (Nat.le_refl _) hk _).1 e
        have m2 := (h.up.sv (k + 1) (Nat.le_refl _) hk _).1 e'
        have m3 := m1.comp (h.up.pn (Nat.le_refl _) hk) h1 h2 m2
        refine (h.up.sv (k + 1) (Nat.le_refl _) hk _).2 ?_
        rw [← (a.comp hr.iv).assoc (hr.comp hgP.1), ← (a.comp hr.iv).assoc hr, a.assoc hr.iv, hr.ic, a.idr] at m3
        exact m3
  refine ⟨fun i hi hN => ?_, fun i hi hN => ?_, fun i hi hN => ?_, fun i hi hN => ?_, h.up.top⟩
  · rcases Nat.lt_or_ge k i with hl | hl
    · exact h.up.rep i hl hN
    · obtain rfl : i = k := by omega
      exact h.rep
  · rcases Nat.lt_or_ge k i with hl | hl
    · exact h.up.gp i hl hN
    · obtain rfl : i = k := by omega
      exact h.gp
  · rcases Nat.lt_or_ge k i with hl | hl
    · exact h.up.sv i hl hN
    · obtain rfl : i = k := by omega
      exact hsv
  · rcases Nat.lt_or_ge k i with hl | hl
    · exact h.up.len i hl hN
    · obtain rfl : i = k := by omega
      exact hlen
/-- A whole level is one in which products may be added. -/
theorem UpTo.low (h : UpTo N c k) (hk : k < N) (h1 : 1 ≤ N) (h2 : N ≤ 20) : Low N c k := by
  have hr := h.rep k (Nat.le_refl _) hk
  have hg := h.gp k (Nat.le_refl _) hk
  have hu := h.mono (Nat.le_succ k)
  refine ⟨hu, hr, hg, fun p hm => ?_, fun y hy => ?_⟩
  · have hpn := hm.pn (hu.pn (Nat.le_refl _) hk) h1 h2
    have hfx : Fx (k + 1) p := by
      rcases Nat.lt_or_ge (k + 1) N with hl | hl
      · exact hm.fx (h.gp (k + 1) (by omega) hl) h1 h2 hk
      · obtain rfl : k + 1 = N := by omega
        rw [h.top] at hm
        rw [hm.none_]; exact fx_id (Nat.le_refl _)
    refine (h.sv k (Nat.le_refl _) (by omega) p).1 ((sv_down hr hk hpn (hfx.mono (by omega)) (hfx k (by omega))).2 ((h.sv (k + 1) (by omega) hk p).2 hm))
  · obtain ⟨a1, a2, a3, a4⟩ := hr.at_ y hy
    refine (h.sv k (Nat.le_refl _) (by omega) _).1 (.low hk a2 a3 (by rw [a4]; exact hy) ?_)
    rw [a4, a2.ci]
    exact (h.sv (k + 1) (by omega) hk _).2 .one

def Ch.set (c : Ch) (k y : Nat) (q : List Int) : Ch := ⟨fun i z => if i = k ∧ z = y then q else c.rep i z, c.gen⟩
def Ch.push (c : Ch) (k : Nat) (p : List Int) : Ch := ⟨c.rep, fun i => if i = k then c.gen k ++ [p] else c.gen i⟩
theorem set_at (c : Ch) (k y : Nat) (q : List Int) : (c.set k y q).rep k y = q := if_pos ⟨rfl, rfl⟩
theorem set_ne {j z y : Nat} (h : j ≠ k ∨ z ≠ y) : (c.set k y q).rep j z = c.rep j z := if_neg (by rintro ⟨rfl, rfl⟩; rcases h with h | h <;> exact h rfl)
theorem push_at (c : Ch) (k : Nat) (p : List Int) : (c.push k p).gen k = c.gen k ++ [p] := if_pos rfl
theorem push_ne {j : Nat} (h : j ≠ k) : (c.push k p).gen j = c.gen j := if_neg h

/-- What adding a product leaves. -/
structure Bp (N k : Nat) (c c' : Ch) (q : List Int) : Prop where
  low : Low N c' k
  grw : Grw k c c'
  gen : c'.gen k = c.gen k
  sv : Sv N c' k q
  mono : ∀ p, Sv N c k p → Sv N c' k p
  new_ : ∀ y, c.rep k y = [] → c'.rep k y ≠ [] → ∀ g ∈ c.gen k, Sv N c' k (compL (c'.rep k y) g)
/-- What adding a generator leaves. -/
structure Ap (N k : Nat) (c c' : Ch) (p : List Int) : Prop where
  up : UpTo N c' k
  grw : Grw k c c'
  gen : ∀ q, Mb (c'.gen k) N q ↔ Mb (c.gen k ++ [p]) N q

/-- The rest that goes one level down. -/
theorem Low.rest (h : Low N c k) (hk : k < N) (h1 : 1 ≤ N) (h2 : N ≤ 20) (hq : Mb (c.gen k) N q) (hr : c.rep k (nx q k) ≠ []) : Pn N (compL q (iv (c.rep k (nx q k)))) ∧ Fx (k + 1) (compL q (iv (c.rep k (nx q k)))) := by
  obtain ⟨a1, a2, a3, a4⟩ := h.rep.at_ _ hr
  have hp := hq.pn h.pn h1 h2
  have hf := hq.fx h.gp h1 h2 (by omega)
  refine ⟨hp.comp a2.iv, (hf.comp hp (a3.iv a2 (by omega)) (by omega)).succ ?_⟩
  rw [hp.nxc hk]
  have := a2.nxi hk
  rw [a4] at this
  exact this
theorem Bp.old (h : Low N c k) (hk : k < N) (h1 : 1 ≤ N) (h2 : N ≤ 20) (hq : Mb (c.gen k) N q) (hr : c.rep k (nx q k) ≠ []) (ha : Ap N (k + 1) c c' (compL q (iv (c.rep k (nx q k))))) : Bp N k c c' q := by
  have er : ∀ y, c'.rep k y = c.rep k y := fun y => ha.grw.rep k y (by omega)
  have eg : c'.gen k = c.gen k := ha.grw.gen k (by omega)
  obtain ⟨a1, a2, a3, a4⟩ := h.rep.at_ _ hr
  have hp := hq.pn h.pn h1 h2
  have hf := hq.fx h.gp h1 h2 (by omega)
  have hm : Mb (c.gen k) N (compL q (iv (c.rep k (nx q k)))) := hq.comp h.pn h1 h2 ((h.inn _ hr).inv h.pn h1 h2)
  have hl : Low N c' k := by
    refine ⟨ha.up, ⟨fun y hy => by rw [er] at hy ⊢; exact h.rep.at_ y hy, by rw [er]; exact h.rep.one⟩, fun g hg => h.gp g (by rw [← eg]; exact hg), fun p hp => ?_, fun y hy => by rw [er] at hy ⊢; rw [eg]; exact h.inn y hy⟩
    rw [eg]
    refine ((ha.gen p).1 hp).sub h1 h2 h.pn fun g hg => ?_
    rcases List.mem_append.1 hg with hg | hg
    · exact h.sub _ (.of (h.up.pn (Nat.le_refl _) hk g hg) hg)
    · obtain rfl := List.mem_singleton.1 hg
      exact hm
  have hmono : ∀ p, Mb (c.gen (k + 1)) N p → Mb (c'.gen (k + 1)) N p := fun p hp => (ha.gen p).2 (hp.more fun g hg => List.mem_append_left _ hg)
  refine ⟨hl, ha.grw.mono (by omega), eg, .low hk hp hf (by rw [er]; exact hr) ?_, fun p hs => h.mono_sv hl (ha.grw.mono (by omega)) hk hmono hs, fun y hy hy' => absurd (by rw [er]; exact hy) hy'⟩
  rw [er]
  refine (ha.up.sv (k + 1) (Nat.le_refl _) hk _).2 ((ha.gen _).2 (.of (h.rest hk h1 h2 hq hr).1 (by simp)))
theorem Low.put (h : Low N c k) (hk : k < N) (h1 : 1 ≤ N) (h2 : N ≤ 20) (hq : Mb (c.gen k) N q) (hr : c.rep k (nx q k) = []) : Low N (c.set k (nx q k) q) k ∧ Grw k c (c.set k (nx q k) q) := by
  have hp := hq.pn h.pn h1 h2
  have hf := hq.fx h.gp h1 h2 (by omega)
  refine ⟨⟨h.up.congr (fun j hj y => set_ne (.inl (by omega))) (fun j _ => rfl) hk, ⟨fun y hy => ?_, ?_⟩, h.gp, h.sub, fun y hy => ?_⟩, ⟨fun i y hy => ?_, fun i y hi => set_ne (.inl (by omega)), fun i _ => rfl⟩⟩
  · by_cases e : y = nx q k
    · subst e; rw [set_at]; exact ⟨hp.lt hk, hp, hf, rfl⟩
    · rw [set_ne (.inr e)] at hy ⊢; exact h.rep.at_ y hy
  · rw [set_ne]; · exact h.rep.one
    · right; intro e
      rw [← e, h.rep.one] at hr
      have := idL_length N; rw [hr] at this; simp at this; omega
  · by_cases e : y = nx q k
    · subst e; rw [set_at]; exact hq
    · rw [set_ne (.inr e)] at hy ⊢; exact h.inn y hy
  · by_cases e : i = k ∧ y = nx q k
    · obtain ⟨rfl, rfl⟩ := e; exact absurd hr hy
    · exact if_neg e
/-- The loop over the generators behind a new representative. -/
structure Bl (N k : Nat) (c1 cj : Ch) (q : List Int) (j : Nat) : Prop where
  low : Low N cj k
  grw : Grw k c1 cj
  gen : cj.gen k = c1.gen k
  mono : ∀ p, Sv N c1 k p → Sv N cj k p
  new_ : ∀ y, c1.rep k y = [] → cj.rep k y ≠ [] → ∀ g ∈ c1.gen k, Sv N cj k (compL (cj.rep k y) g)
  done : ∀ t, t < j → Sv N cj k (compL q ((c1.gen k).getD t []))
theorem Bl.start (h : Low N c k) : Bl N k c c q 0 := ⟨h, .refl _ _, rfl, fun _ h => h, fun y a b => absurd a b, fun t ht => absurd ht (by omega)⟩
theorem Bl.next {c1 cj : Ch} {j : Nat} (h : Bl N k c1 cj q j) (hb : Bp N k cj c' (compL q ((c1.gen k).getD j []))) : Bl N k c1 c' q (j + 1) := by
  refine ⟨hb.low, h.grw.trans hb.grw, by rw [hb.gen, h.gen], fun p hs => hb.mono _ (h.mono _ hs), fun y hy hy' g hg => ?_, fun t ht => ?_⟩
  · by_cases e : cj.rep k y = []
    · exact hb.new_ y e hy' g (by rw [h.gen]; exact hg)
    · rw [hb.grw.keep _ _ e]
      exact hb.mono _ (h.new_ y hy e g hg)
  · rcases Nat.lt_or_ge t j with hl | hl
    · exact hb.mono _ (h.done t hl)
    · obtain rfl : t = j := by omega
      exact hb.sv
theorem mem_at {l : List (List Int)} {g : List Int} (h : g ∈ l) : ∃ t, t < l.length ∧ l.getD t [] = g := by
  obtain ⟨t, ht, e⟩ := List.mem_iff_getElem.1 h
  exact ⟨t, ht, by rw [List.getD_eq_getElem?_getD, List.getElem?_eq_getElem ht, ← e]; rfl⟩
theorem Bl.all {cj : Ch} (h : Low N c k) (hk : k < N) (h1 : 1 ≤ N) (h2 : N ≤ 20) (hq : Mb (c.gen k) N q) (hr : c.rep k (nx q k) = []) (hb : Bl N k (c.set k (nx q k) q) cj q (c.gen k).length) : Bp N k c cj q := by
  obtain ⟨l1, g1⟩ := h.put hk h1 h2 hq hr
  have hp := hq.pn h.pn h1 h2
  have hne : q ≠ [] := by intro e; have := hp.2; rw [e] at this; simp at this; omega
  have e0 : cj.rep k (nx q k) = q := by rw [hb.grw.keep _ _ (by rw [set_at]; exact hne), set_at]
  refine ⟨hb.low, g1.trans hb.grw, hb.gen, ?_, fun p hs => hb.mono _ (h.mono_sv l1 g1 hk (fun _ h => h) hs), fun y hy hy' g hg => ?_⟩
  · have := hb.low.rep_sv hk (y := nx q k) (by rw [e0]; exact hne)
    rw [e0] at this; exact this
  · by_cases e : y = nx q k
    · subst e
      rw [e0]
      obtain ⟨t, ht, rfl⟩ := mem_at hg
      exact hb.done t ht
    · exact hb.new_ y (by rw [set_ne (.inr e)]; exact hy) hy' g hg

/-! ### adding a generator -/
theorem Ap.same (h : UpTo N c k) (hkN : k ≤ N) (h1 : 1 ≤ N) (h2 : N ≤ 20) (hs : Sv N c k p) : Ap N k c c p := by
  have hp := (h.sv k (Nat.le_refl _) hkN p).1 hs
  refine ⟨h, .refl _ _, fun q => ⟨fun hq => hq.more fun g hg => List.mem_append_left _ hg, fun hq => hq.sub h1 h2 (h.pn (Nat.le_refl _) hkN) fun g hg => ?_⟩⟩
  rcases List.mem_append.1 hg with hg | hg
  · exact .of (h.pn (Nat.le_refl _) hkN g hg) hg
  · obtain rfl := List.mem_singleton.1 hg
    exact hp
/-- At the top there is nothing to add. -/
theorem Ap.top (h : UpTo N c N) (h1 : 1 ≤ N) (h2 : N ≤ 20) (hp : Pn N p) (hf : Fx N p) : Ap N N c c p := by
  refine .same h (Nat.le_refl _) h1 h2 ?_
  rw [hf.all hp]; exact .top
theorem UpTo.pushed (h : UpTo N c k) (hk : k < N) (h1 : 1 ≤ N) (h2 : N ≤ 20) (hp : Pn N p) (hf : Fx k p) : Low N (c.push k p) k := by
  have hl := h.low hk h1 h2
  refine ⟨hl.up.congr (fun _ _ _ => rfl) (fun j hj => push_ne (by omega)) hk, ⟨hl.rep.at_, hl.rep.one⟩, fun g hg => ?_, fun q hq => ?_, fun y hy => ?_⟩
  · rw [push_at] at hg
    rcases List.mem_append.1 hg with hg | hg
    · exact hl.gp g hg
    · obtain rfl := List.mem_singleton.1 hg
      exact ⟨hp, hf⟩
  · rw [push_ne (by omega)] at hq
    rw [push_at]
    exact (hl.sub _ hq).more fun g hg => List.mem_append_left _ hg
  · rw [push_at]
    exact (hl.inn _ hy).more fun g hg => List.mem_append_left _ hg
/-- The representatives of level k among the first m points, in order. -/
def knL (c : Ch) (k m : Nat) : List (List Int) := ((List.range m).filter fun y => !(c.rep k y).isEmpty).map (c.rep k)
theorem knL_mem {m : Nat} {r : List Int} : r ∈ knL c k m ↔ ∃ y, y < m ∧ c.rep k y ≠ [] ∧ c.rep k y = r := by
  simp only [knL, List.mem_map, List.mem_filter, List.mem_range, Bool.not_eq_true', List.isEmpty_eq_false_iff, and_assoc]
theorem knL_yes {m : Nat} (h : c.rep k m ≠ []) : knL c k (m + 1) = knL c k m ++ [c.rep k m] := by
  unfold knL; rw [List.range_succ, List.filter_append]; simp [List.isEmpty_eq_false_iff.2 h]
theorem knL_no {m : Nat} (h : c.rep k m = []) : knL c k (m + 1) = knL c k m := by
  unfold knL; rw [List.range_succ, List.filter_append]; simp [h]
theorem knL_len (m : Nat) : (knL c k m).length ≤ m := by
  unfold knL; rw [List.length_map]
  have := List.length_filter_le (fun y => !(c.rep k y).isEmpty) (List.range m)
  simpa using this
/-- The loop over the known representatives. -/
structure Al (N k : Nat) (c1 cj : Ch) (p : List Int) (j : Nat) : Prop where
  low : Low N cj k
  grw : Grw k c1 cj
  gen : cj.gen k = c1.gen k
  mono : ∀ p, Sv N c1 k p → Sv N cj k p
  new_ : ∀ y, c1.rep k y = [] → cj.rep k y ≠ [] → ∀ g ∈ c1.gen k, Sv N cj k (compL (cj.rep k y) g)
  done : ∀ t, t < j → Sv N cj k (compL ((knL c1 k N).getD t []) p)
theorem Al.start (h : Low N c k) : Al N k c c p 0 := ⟨h, .refl _ _, rfl, fun _ h => h, fun y a b => absurd a b, fun t ht => absurd ht (by omega)⟩
theorem Al.next {c1 cj : Ch} {j : Nat} (h : Al N k c1 cj p j) (hb : Bp N k cj c' (compL ((knL c1 k N).getD j []) p)) : Al N k c1 c' p (j + 1) := by
  refine ⟨hb.low, h.grw.trans hb.grw, by rw [hb.gen, h.gen], fun p hs => hb.mono _ (h.mono _ hs), fun y hy hy' g hg => ?_, fun t ht => ?_⟩
  · by_cases e : cj.rep k y = []
    · exact hb.new_ y e hy' g (by rw [h.gen]; exact hg)
    · rw [hb.grw.keep _ _ e]
      exact hb.mono _ (h.new_ y hy e g hg)
  · rcases Nat.lt_or_ge t j with hl | hl
    · exact hb.mono _ (h.done t hl)
    · obtain rfl : t = j := by omega
      exact hb.sv
/-- The products that the loop adds are of the level. -/
theorem kn_mb (h : Low N c k) {j : Nat} (hj : j < (knL c k N).length) (hp : p ∈ c.gen k) : Mb (c.gen k) N (compL ((knL c k N).getD j []) p) ∧ Pn N ((knL c k N).getD j []) := by
  have hm : (knL c k N).getD j [] ∈ knL c k N := by
    rw [List.getD_eq_getElem?_getD, List.getElem?_eq_getElem hj]; exact List.getElem_mem _
  obtain ⟨y, _, hy, e⟩ := knL_mem.1 hm
  rw [← e]
  exact ⟨.mul (h.inn y hy) hp, (h.rep.at_ y hy).2.1⟩
theorem Al.all {cj : Ch} (h : UpTo N c k) (hk : k < N) (h1 : 1 ≤ N) (h2 : N ≤ 20) (hp : Pn N p) (hf : Fx k p) (hs : ¬ Sv N c k p) (hb : Al N k (c.push k p) cj p (knL (c.push k p) k N).length) : Ap N k c cj p := by
  have hl := h.low hk h1 h2
  have hg1 : cj.gen k = c.gen k ++ [p] := by rw [hb.gen, push_at]
  have g0 : Grw k c (c.push k p) := ⟨fun _ _ _ => rfl, fun _ _ _ => rfl, fun i hi => push_ne (by omega)⟩
  have hG := g0.trans hb.grw
  have hclose : ∀ y, cj.rep k y ≠ [] → ∀ g ∈ cj.gen k, Sv N cj k (compL (cj.rep k y) g) := fun y hy g hg => by
    by_cases e : c.rep k y = []
    · exact hb.new_ y e hy g (by rw [← hb.gen]; exact hg)
    · rw [hG.keep _ _ e]
      rw [hg1] at hg
      rcases List.mem_append.1 hg with hg | hg
      · refine hb.mono _ (Sv.congr (c := c) ?_ fun _ _ _ => rfl)
        exact (h.sv k (Nat.le_refl _) (by omega) _).2 (.mul (hl.inn y e) hg)
      · obtain rfl := List.mem_singleton.1 hg
        obtain ⟨t, ht, et⟩ := mem_at (knL_mem.2 ⟨y, (hl.rep.at_ y e).1, e, rfl⟩ : c.rep k y ∈ knL (c.push k g) k N)
        rw [← et]
        exact hb.done t ht
  have hsv : Sv N cj k p := by
    obtain ⟨t, ht, et⟩ := mem_at (knL_mem.2 ⟨k, hk, by show c.rep k k ≠ []; rw [hl.rep.one]; intro e; have := idL_length N; rw [e] at this; simp at this; omega, rfl⟩ : c.rep k k ∈ knL (c.push k p) k N)
    have := hb.done t ht
    rw [et, hl.rep.one, hp.idl] at this
    exact this
  have hcnt : cnt N c k < cnt N cj k := by
    have hle := cnt_mono (N := N) hG k
    rcases Nat.lt_or_ge (cnt N c k) (cnt N cj k) with hlt | hge
    · exact hlt
    · exfalso
      refine hs (sv_back hsv (Nat.le_refl _) fun j y hj hjN hy => (cnt_same hG hge hj hjN hy).symm)
  refine ⟨hb.low.whole hk h1 h2 hclose ?_, hG, fun q => by rw [hg1]⟩
  rw [hg1, List.length_append]
  have := h.len k (Nat.le_refl _) hk
  simp; omega
end
end Go.Proofs.Ytooafmifbplbhaa
