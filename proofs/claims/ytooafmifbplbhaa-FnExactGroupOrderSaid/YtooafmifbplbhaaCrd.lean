/- How many members a group of permutations and its stabilizers have: the product of the orbit sizes; conjugate groups. No Go in it. No condition. -/
import Derived.Test.YtooafmifbplbhaaChQ
namespace Go.Proofs.Ytooafmifbplbhaa
open Go.RowKit

/-! ### lists without repeats -/
theorem nd_subA {α : Type} [BEq α] [LawfulBEq α] {l' : List α} : ∀ {l : List α}, l'.Nodup → (∀ x ∈ l', x ∈ l) → l'.length ≤ l.length := by
  induction l' with
  | nil => intro l _ _; simp
  | cons a t ih =>
    intro l hd h
    rw [List.nodup_cons] at hd
    have ha : a ∈ l := h a (by simp)
    have := ih (l := l.erase a) hd.2 fun x hx => by
      have hne : x ≠ a := fun e => hd.1 (e ▸ hx)
      exact (List.mem_erase_of_ne hne).2 (h x (by simp [hx]))
    rw [List.length_erase_of_mem ha] at this
    have h0 : 0 < l.length := List.length_pos_of_mem ha
    simp; omega
theorem nd_mapA {α β : Type} {f : α → β} {l : List α} (hd : l.Nodup) (hf : ∀ x ∈ l, ∀ y ∈ l, f x = f y → x = y) : (l.map f).Nodup := by
  induction l with
  | nil => simp
  | cons a t ih =>
    rw [List.nodup_cons] at hd
    rw [List.map_cons, List.nodup_cons]
    refine ⟨fun hm => ?_, ih hd.2 fun x hx y hy => hf x (by simp [hx]) y (by simp [hy])⟩
    obtain ⟨b, hb, e⟩ := List.mem_map.1 hm
    have := hf b (by simp [hb]) a (by simp) e
    subst this
    exact hd.1 hb
theorem flat_nd {β : Type} {f : Nat → List β} {m : Nat} : ∀ {O : List Nat}, O.Nodup → (∀ y ∈ O, (f y).Nodup) → (∀ y ∈ O, ∀ z ∈ O, y ≠ z → ∀ p, p ∈ f y → p ∉ f z) → (∀ y ∈ O, (f y).length = m) →
    (O.flatMap f).Nodup ∧ (O.flatMap f).length = O.length * m
  | [], _, _, _, _ => by simp
  | a :: t, hd, h1, h2, h3 => by
    rw [List.nodup_cons] at hd
    obtain ⟨i1, i2⟩ := flat_nd (O := t) hd.2 (fun y hy => h1 y (by simp [hy])) (fun y hy z hz => h2 y (by simp [hy]) z (by simp [hz])) (fun y hy => h3 y (by simp [hy]))
    rw [List.flatMap_cons]
    refine ⟨List.nodup_append.2 ⟨h1 a (by simp), i1, fun p hp q hq e => ?_⟩, ?_⟩
    · subst e
      obtain ⟨z, hz, hq⟩ := List.mem_flatMap.1 hq
      exact h2 a (by simp) z (by simp [hz]) (fun e => hd.1 (e ▸ hz)) p hp hq
    · rw [List.length_append, i2, h3 a (by simp), List.length_cons, Nat.succ_mul]; omega

/-! ### how many -/
def Crd (P : List Int → Prop) (v : Nat) : Prop := ∃ l : List (List Int), l.Nodup ∧ (∀ p, p ∈ l ↔ P p) ∧ v = l.length
section
variable {P Q : List Int → Prop} {v u : Nat}
theorem Crd.uniq (h : Crd P v) (h' : Crd P u) : v = u := by
  obtain ⟨l, d, m, rfl⟩ := h
  obtain ⟨l', d', m', rfl⟩ := h'
  have a := nd_subA d fun x hx => (m' x).2 ((m x).1 hx)
  have b := nd_subA d' fun x hx => (m x).2 ((m' x).1 hx)
  omega
theorem Crd.congr (h : Crd P v) (e : ∀ p, P p ↔ Q p) : Crd Q v := by
  obtain ⟨l, d, m, rfl⟩ := h
  exact ⟨l, d, fun p => (m p).trans (e p), rfl⟩
theorem Crd.map (h : Crd P v) (f : List Int → List Int) (hf : ∀ p, P p → ∀ q, P q → f p = f q → p = q) (e : ∀ q, Q q ↔ ∃ p, P p ∧ q = f p) : Crd Q v := by
  obtain ⟨l, d, m, rfl⟩ := h
  refine ⟨l.map f, nd_mapA d fun x hx y hy => hf x ((m x).1 hx) y ((m y).1 hy), fun q => ?_, by simp⟩
  rw [e, List.mem_map]
  exact ⟨fun ⟨p, hp, e⟩ => ⟨p, (m p).1 hp, e.symm⟩, fun ⟨p, hp, e⟩ => ⟨p, (m p).2 hp, e.symm⟩⟩
end

/-! ### the product of the orbit sizes from one level on -/
def pr (xs : List Int) (k : Nat) : Nat → Int
  | 0 => 1
  | m + 1 => pr xs k m * xs.getD (k + m) 0
theorem pr_front (xs : List Int) (k : Nat) : ∀ m, pr xs k (m + 1) = xs.getD k 0 * pr xs (k + 1) m
  | 0 => by show (1 : Int) * xs.getD (k + 0) 0 = xs.getD k 0 * 1; rw [Int.one_mul, Int.mul_one]; rfl
  | m + 1 => by
    show pr xs k (m + 1) * xs.getD (k + (m + 1)) 0 = xs.getD k 0 * (pr xs (k + 1) m * xs.getD (k + 1 + m) 0)
    rw [pr_front xs k m, Int.mul_assoc, show k + (m + 1) = k + 1 + m by omega]
theorem prodL_take (xs : List Int) : ∀ m, m ≤ xs.length → prodL (xs.take m) = pr xs 0 m
  | 0, _ => rfl
  | m + 1, h => by
    rw [List.take_succ_eq_append_getElem (by omega), prodL_snoc, prodL_take xs m (by omega)]
    show _ = pr xs 0 m * xs.getD (0 + m) 0
    rw [Nat.zero_add, List.getD_eq_getElem?_getD, List.getElem?_eq_getElem (by omega)]; rfl
theorem prodL_pr (xs : List Int) : prodL xs = pr xs 0 xs.length := by rw [← prodL_take xs _ (Nat.le_refl _), List.take_length]
section
variable {N : Nat} {gs : List (List Int)} {xs : List Int}
theorem IsOS.card (h : IsOS N gs xs) (hg : ∀ g ∈ gs, Pn N g) (h1 : 1 ≤ N) (h2 : N ≤ 20) : ∀ m k, k + m = N → ∃ v, Crd (fun p => Mb gs N p ∧ Fx k p) v ∧ pr xs k m = (v : Int)
  | 0, k, e => by
    obtain rfl : k = N := by omega
    refine ⟨1, ⟨[idL k], by simp, fun p => ?_, rfl⟩, rfl⟩
    rw [List.mem_singleton]
    exact ⟨fun e => e ▸ ⟨.one, fx_id (Nat.le_refl _)⟩, fun ⟨a, b⟩ => b.all (a.pn hg h1 h2)⟩
  | m + 1, k, e => by
    obtain ⟨v, ⟨l, d, hm, rfl⟩, hv⟩ := h.card hg h1 h2 m (k + 1) (by omega)
    obtain ⟨O, dO, hO, ex⟩ := h.2 k (by omega)
    have hk : k < N := by omega
    have hr : ∃ r : Nat → List Int, ∀ y ∈ O, Mb gs N (r y) ∧ Fx k (r y) ∧ nx (r y) k = y := by
      refine ⟨fun y => if hy : y ∈ O then Classical.choose ((hO y).1 hy).2 else [], fun y hy => ?_⟩
      simp only [hy, dif_pos]
      exact Classical.choose_spec ((hO y).1 hy).2
    obtain ⟨r, hr⟩ := hr
    have hpn : ∀ p, Mb gs N p → Pn N p := fun p hp => hp.pn hg h1 h2
    have hat : ∀ y ∈ O, ∀ p, p ∈ l → nx (compL p (r y)) k = y := fun y hy p hp => by
      have h3 := (hm p).1 hp
      rw [(hpn p h3.1).nxc hk, h3.2 k (by omega), (hr y hy).2.2]
    obtain ⟨i1, i2⟩ := flat_nd (O := O) (f := fun y => l.map fun p => compL p (r y)) (m := l.length) dO
      (fun y hy => nd_mapA d fun p hp q hq e => by
        have hp' := hpn p ((hm p).1 hp).1
        have hq' := hpn q ((hm q).1 hq).1
        have hry := hpn _ (hr y hy).1
        have : compL (compL p (r y)) (iv (r y)) = compL (compL q (r y)) (iv (r y)) := congrArg (fun t => compL t (iv (r y))) e
        rw [hp'.assoc hry, hq'.assoc hry, hry.ci, hp'.idr, hq'.idr] at this
        exact this)
      (fun y hy z hz hne p hp hp2 => by
        obtain ⟨q, hq, rfl⟩ := List.mem_map.1 hp
        obtain ⟨q', hq', e'⟩ := List.mem_map.1 hp2
        exact hne (by rw [← hat y hy q hq, ← hat z hz q' hq', e']))
      (fun y hy => by simp)
    refine ⟨O.length * l.length, ⟨_, i1, fun p => ?_, i2.symm⟩, ?_⟩
    · rw [List.mem_flatMap]
      constructor
      · rintro ⟨y, hy, hp⟩
        obtain ⟨q, hq, rfl⟩ := List.mem_map.1 hp
        obtain ⟨a, b⟩ := (hm q).1 hq
        obtain ⟨a', b', _⟩ := hr y hy
        exact ⟨a.comp hg h1 h2 a', (b.mono (by omega)).comp (hpn q a) b' (by omega)⟩
      · rintro ⟨a, b⟩
        have hp := hpn p a
        have hy : nx p k ∈ O := (hO _).2 ⟨hp.lt hk, p, a, b, rfl⟩
        obtain ⟨a', b', e'⟩ := hr _ hy
        have hrp := hpn _ a'
        refine ⟨_, hy, List.mem_map.2 ⟨compL p (iv (r (nx p k))), (hm _).2 ⟨a.comp hg h1 h2 (a'.inv hg h1 h2), ?_⟩, ?_⟩⟩
        · refine Fx.succ (b.comp hp (b'.iv hrp (by omega)) (by omega)) ?_
          rw [hp.nxc hk]
          have := hrp.nxi (x := k) hk
          rw [e'] at this; exact this
        · rw [hp.assoc hrp.iv, hrp.ic, hp.idr]
    · rw [pr_front, ex, hv, Int.natCast_mul]
/-- The order is the number of members. -/
theorem IsOS.order (h : IsOS N gs xs) (hg : ∀ g ∈ gs, Pn N g) (h1 : 1 ≤ N) (h2 : N ≤ 20) : ∃ v, Crd (Mb gs N) v ∧ prodL xs = (v : Int) := by
  obtain ⟨v, hc, e⟩ := h.card hg h1 h2 N 0 (by omega)
  exact ⟨v, hc.congr fun p => ⟨fun h => h.1, fun h => ⟨h, Fx.zero⟩⟩, by rw [prodL_pr, h.1]; exact e⟩
end

section
variable {N : Nat} {gs : List (List Int)} {xs : List Int}
theorem IsOS.bnd (h : IsOS N gs xs) (hg : ∀ g ∈ gs, Pn N g) (h1 : 1 ≤ N) (h2 : N ≤ 20) {i : Nat} (hi : i < N) : 1 ≤ xs.getD i 0 ∧ xs.getD i 0 ≤ ((N - i : Nat) : Int) := by
  obtain ⟨l, d, m, e⟩ := h.2 i hi
  rw [e]
  constructor
  · have : i ∈ l := (m i).2 ⟨hi, idL N, .one, fx_id (by omega), nx_id hi⟩
    have := List.length_pos_of_mem this
    omega
  · have : l.length ≤ (List.range' i (N - i)).length := by
      refine nd_sub d fun y hy => ?_
      obtain ⟨hy, p, hp, hf, rfl⟩ := (m y).1 hy
      have := hf.ge (hp.pn hg h1 h2) hi
      rw [List.mem_range'_1]; omega
    rw [List.length_range'] at this
    omega
theorem IsOS.pr_le (h : IsOS N gs xs) (hg : ∀ g ∈ gs, Pn N g) (h1 : 1 ≤ N) (h2 : N ≤ 20) (k : Nat) : ∀ m, k + m ≤ N → 1 ≤ pr xs k m ∧ pr xs k m ≤ (facts N (k + m) : Int)
  | 0, hm => by
    have := facts_pos (N := N) (m := k) (by omega)
    exact ⟨Int.le_refl _, by show (1 : Int) ≤ (facts N (k + 0) : Int); rw [Nat.add_zero]; omega⟩
  | m + 1, hm => by
    obtain ⟨a, b⟩ := h.pr_le hg h1 h2 k m (by omega)
    obtain ⟨d, e⟩ := h.bnd hg h1 h2 (i := k + m) (by omega)
    show 1 ≤ pr xs k m * xs.getD (k + m) 0 ∧ pr xs k m * xs.getD (k + m) 0 ≤ ((facts N (k + m) * (N - (k + m)) : Nat) : Int)
    refine ⟨?_, ?_⟩
    · have := Int.mul_le_mul a d (by omega) (by omega)
      simpa using this
    · rw [Int.natCast_mul]
      exact Int.mul_le_mul b e (by omega) (by omega)
end

/-! ### conjugate groups -/
def cj (o p : List Int) : List Int := compL (compL (iv o) p) o
section
variable {N : Nat} {o p q m : List Int} {gs : List (List Int)}
theorem Pn.iviv (ho : Pn N o) : Proofs.Ytooafmifbplbhaa.iv (Proofs.Ytooafmifbplbhaa.iv o) = o := ho.iv.iv.ext ho fun x hx => by
  refine ho.iv.inj (ho.iv.iv.lt hx) (ho.lt hx) ?_
  rw [ho.iv.nxi' hx, ho.nxi hx]
theorem cj_pn (ho : Pn N o) (hp : Pn N p) : Pn N (cj o p) := (ho.iv.comp hp).comp ho
theorem cj_nx (ho : Pn N o) (hp : Pn N p) {x : Nat} (hx : x < N) : nx (cj o p) x = nx o (nx p (nx (iv o) x)) := by
  unfold cj; rw [(ho.iv.comp hp).nxc hx, ho.iv.nxc hx]
theorem cj_id (ho : Pn N o) : cj o (idL N) = idL N := by unfold cj; rw [ho.iv.idr, ho.ic]
theorem cj_mul (ho : Pn N o) (hp : Pn N p) (hq : Pn N q) : cj o (compL p q) = compL (cj o p) (cj o q) :=
  (cj_pn ho (hp.comp hq)).ext ((cj_pn ho hp).comp (cj_pn ho hq)) fun x hx => by
    rw [cj_nx ho (hp.comp hq) hx, (cj_pn ho hp).nxc hx, cj_nx ho hp hx, cj_nx ho hq (ho.lt (hp.lt (ho.iv.lt hx))), ho.nxi (hp.lt (ho.iv.lt hx)), hp.nxc (ho.iv.lt hx)]
theorem cj_back (ho : Pn N o) (hp : Pn N p) : cj (iv o) (cj o p) = p :=
  (cj_pn ho.iv (cj_pn ho hp)).ext hp fun x hx => by
    rw [cj_nx ho.iv (cj_pn ho hp) hx, ho.iviv, cj_nx ho hp (ho.lt hx), ho.nxi hx, ho.nxi (hp.lt hx)]
theorem cj_mb (ho : Pn N o) (hg : ∀ g ∈ gs, Pn N g) (q : List Int) : Mb (gs.map (cj o)) N q ↔ ∃ p, Mb gs N p ∧ q = cj o p := by
  have h1 := ho.pos.1
  have h2 := ho.pos.2
  constructor
  · intro h
    induction h with
    | one => exact ⟨_, .one, (cj_id ho).symm⟩
    | mul _ hm ih =>
      obtain ⟨p, hp, rfl⟩ := ih
      obtain ⟨g, hg', rfl⟩ := List.mem_map.1 hm
      exact ⟨_, .mul hp hg', (cj_mul ho (hp.pn hg h1 h2) (hg _ hg')).symm⟩
  · rintro ⟨p, hp, rfl⟩
    induction hp with
    | one => rw [cj_id ho]; exact .one
    | mul hp hm ih =>
      rw [cj_mul ho (hp.pn hg h1 h2) (hg _ hm)]
      exact .mul ih (List.mem_map.2 ⟨_, hm, rfl⟩)
/-- The points of the list are fixed. -/
def Fxs (pts p : List Int) : Prop := ∀ j, j < pts.length → nx p (nx pts j) = nx pts j
theorem cj_fx (hm : Pn N m) (hp : Pn N p) {pts : List Int} (hk : pts.length ≤ N) (hpre : ∀ j, j < pts.length → m.getD j 0 = pts.getD j 0) : Fx pts.length (cj (iv m) p) ↔ Fxs pts p := by
  have e : ∀ j, j < pts.length → nx m j = nx pts j := fun j hj => by unfold nx; rw [hpre j hj]
  constructor
  · intro h j hj
    have h3 := h j hj
    rw [cj_nx hm.iv hp (by omega), hm.iviv] at h3
    rw [← e j hj]
    exact hm.iv.inj (hp.lt (hm.lt (by omega))) (hm.lt (by omega)) (by rw [h3, hm.nxi (by omega)])
  · intro h j hj
    rw [cj_nx hm.iv hp (by omega), hm.iviv, e j hj, h j hj, ← e j hj, hm.nxi (by omega)]
/-- The stabilizer of the first points of m, counted in the conjugate group. -/
theorem cj_card {xs pts : List Int} (hm : Pn N m) (hg : ∀ g ∈ gs, Pn N g) (h : IsOS N (gs.map (cj (iv m))) xs) (hk : pts.length ≤ N) (hpre : ∀ j, j < pts.length → m.getD j 0 = pts.getD j 0) :
    ∃ v, Crd (fun p => Mb gs N p ∧ Fxs pts p) v ∧ pr xs pts.length (N - pts.length) = (v : Int) := by
  have h1 := hm.pos.1
  have h2 := hm.pos.2
  have hpn : ∀ p, Mb gs N p → Pn N p := fun p hp => hp.pn hg h1 h2
  have hg' : ∀ g ∈ gs.map (cj (iv m)), Pn N g := fun g hg1 => by
    obtain ⟨p, hp, rfl⟩ := List.mem_map.1 hg1
    exact cj_pn hm.iv (hg p hp)
  obtain ⟨v, hc, e⟩ := h.card hg' h1 h2 (N - pts.length) pts.length (by omega)
  refine ⟨v, hc.map (cj m) (fun p hp q hq e2 => ?_) (fun q => ?_), e⟩
  · rw [← cj_back hm (hp.1.pn hg' h1 h2), e2, cj_back hm (hq.1.pn hg' h1 h2)]
  · constructor
    · rintro ⟨a, b⟩
      refine ⟨cj (iv m) q, ⟨(cj_mb hm.iv hg _).2 ⟨q, a, rfl⟩, (cj_fx hm (hpn q a) hk hpre).2 b⟩, ?_⟩
      have := cj_back hm.iv (hpn q a)
      rw [hm.iviv] at this; exact this.symm
    · rintro ⟨p, ⟨a, b⟩, rfl⟩
      obtain ⟨q, hq, rfl⟩ := (cj_mb hm.iv hg _).1 a
      have := cj_back hm.iv (hpn q hq)
      rw [hm.iviv] at this
      rw [this]
      exact ⟨hq, (cj_fx hm (hpn q hq) hk hpre).1 b⟩
end
end Go.Proofs.Ytooafmifbplbhaa
