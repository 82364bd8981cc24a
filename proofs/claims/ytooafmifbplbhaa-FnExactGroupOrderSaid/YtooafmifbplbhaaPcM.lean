/- The program's chain: what including one product leaves; the loop over an orbit; members with given entries found link by link. No Go in it. No condition. -/
import Derived.Test.YtooafmifbplbhaaChS
namespace Go.Proofs.Ytooafmifbplbhaa
open Go.RowKit

theorem nd_subP {l' : List Nat} : ∀ {l : List Nat}, l'.Nodup → (∀ x ∈ l', x ∈ l) → l'.length ≤ l.length := by
  induction l' with
  | nil => intro l _ _; simp
  | cons a t ih =>
    intro l hd h
    rw [List.nodup_cons] at hd
    have ha : a ∈ l := h a (by simp)
    have := ih (l := l.erase a) hd.2 fun x hx => by
      have hne : x ≠ a := fun e => hd.1 (e ▸ hx)
      exact (List.mem_erase_of_ne hne).2 (h x (by simp [hx]))
    rw [List.length_erase_of_mem ha] at this
    have h0 : 0 < l.length := List.length_pos_of_mem ha
    simp; omega
section
variable {N k : Nat} {c c' cj : Ch} {p q m : List Int} {O O' : List Nat}

/-- What including one product leaves. -/
structure Ic (N k : Nat) (c c' : Ch) (q : List Int) : Prop where
  low : Low N c' k
  grw : Grw k c c'
  gen : c'.gen k = c.gen k
  sv : Sv N c' k q
  mono : ∀ p, Sv N c k p → Sv N c' k p
theorem Ic.old (h : Low N c k) (hk : k < N) (h1 : 1 ≤ N) (h2 : N ≤ 20) (hq : Mb (c.gen k) N q) (hr : c.rep k (nx q k) ≠ []) (ha : Ap N (k + 1) c c' (compL q (iv (c.rep k (nx q k))))) : Ic N k c c' q :=
  have b := Bp.old h hk h1 h2 hq hr ha
  ⟨b.low, b.grw, b.gen, b.sv, b.mono⟩
theorem Ic.put (h : Low N c k) (hk : k < N) (h1 : 1 ≤ N) (h2 : N ≤ 20) (hq : Mb (c.gen k) N q) (hr : c.rep k (nx q k) = []) : Ic N k c (c.set k (nx q k) q) q := by
  obtain ⟨l1, g1⟩ := h.put hk h1 h2 hq hr
  have hp := hq.pn h.pn h1 h2
  have hne : q ≠ [] := by intro e; have := hp.2; rw [e] at this; simp at this; omega
  refine ⟨l1, g1, rfl, ?_, fun p hs => h.mono_sv l1 g1 hk (fun _ h => h) hs⟩
  have := l1.rep_sv hk (y := nx q k) (by rw [set_at]; exact hne)
  rw [set_at] at this; exact this

/-- The orbit lists the points that have a representative, each once. -/
def Orb (c : Ch) (k : Nat) (O : List Nat) : Prop := O.Nodup ∧ ∀ y, y ∈ O ↔ c.rep k y ≠ []
theorem Orb.congr (h : Orb c k O) (e : ∀ y, c'.rep k y = c.rep k y) : Orb c' k O := ⟨h.1, fun y => by rw [h.2, e]⟩
theorem Orb.put (h : Orb c k O) {y : Nat} (hr : c.rep k y = []) (hq : q ≠ []) : Orb (c.set k y q) k (O ++ [y]) := by
  refine ⟨List.nodup_append.2 ⟨h.1, by simp, fun a ha b hb e => ?_⟩, fun z => ?_⟩
  · rw [List.mem_singleton] at hb
    subst hb; subst e
    exact (h.2 a).1 ha hr
  · rw [List.mem_append, List.mem_singleton, h.2]
    by_cases e : z = y
    · subst e; rw [set_at]; exact ⟨fun _ => hq, fun _ => .inr rfl⟩
    · rw [set_ne (.inr e)]; exact ⟨fun h => h.resolve_right e, fun h => .inl h⟩
theorem Orb.lt (h : Orb c k O) (hr : RepOK N c k) {y : Nat} (hy : y ∈ O) : y < N := (hr.at_ y ((h.2 y).1 hy)).1
theorem Orb.len (h : Orb c k O) (hr : RepOK N c k) : O.length ≤ N := by
  have : O.length ≤ (List.range N).length := nd_subP h.1 fun y hy => List.mem_range.2 (h.lt hr hy)
  simpa using this

/-- Which generators the products of the t-th orbit point are formed with. -/
def gsA (kn : Nat) (gs : List (List Int)) (p : List Int) (t : Nat) : List (List Int) := if t < kn then [p] else gs
/-- The loop over the orbit: i points are done, of the next one j products. -/
structure Bf (N k : Nat) (c1 cj : Ch) (O : List Nat) (p : List Int) (kn i j : Nat) : Prop where
  low : Low N cj k
  grw : Grw k c1 cj
  gen : cj.gen k = c1.gen k
  mono : ∀ q, Sv N c1 k q → Sv N cj k q
  old : ∀ t, t < kn → c1.rep k (O.getD t 0) ≠ []
  len : kn ≤ O.length
  done : ∀ t, t < i → ∀ g ∈ gsA kn (c1.gen k) p t, Sv N cj k (compL (cj.rep k (O.getD t 0)) g)
  part : ∀ s, s < j → Sv N cj k (compL (cj.rep k (O.getD i 0)) ((gsA kn (c1.gen k) p i).getD s []))
theorem Bf.start {c1 : Ch} (h : Low N c1 k) (hO : Orb c1 k O) : Bf N k c1 c1 O p O.length 0 0 :=
  ⟨h, .refl _ _, rfl, fun _ h => h, fun t ht => (hO.2 _).1 (by rw [List.getD_eq_getElem?_getD, List.getElem?_eq_getElem ht]; exact List.getElem_mem _), Nat.le_refl _, fun t ht => absurd ht (by omega), fun t ht => absurd ht (by omega)⟩
theorem getD_pre {O O' : List Nat} (h : O <+: O') {t : Nat} (ht : t < O.length) : O'.getD t 0 = O.getD t 0 := by
  obtain ⟨l, rfl⟩ := h
  rw [List.getD_eq_getElem?_getD, List.getD_eq_getElem?_getD, List.getElem?_append_left ht]
theorem Bf.next {c1 : Ch} {kn i j : Nat} (h : Bf N k c1 cj O p kn i j) (hO : Orb cj k O) (hi : i < O.length) (hpre : O <+: O') (hc : Ic N k cj c' (compL (cj.rep k (O.getD i 0)) ((gsA kn (c1.gen k) p i).getD j []))) : Bf N k c1 c' O' p kn i (j + 1) := by
  have hrep : ∀ t, t < O.length → c'.rep k (O'.getD t 0) = cj.rep k (O.getD t 0) := fun t ht => by
    rw [getD_pre hpre ht]
    exact hc.grw.keep _ _ ((hO.2 _).1 (by rw [List.getD_eq_getElem?_getD, List.getElem?_eq_getElem ht]; exact List.getElem_mem _))
  refine ⟨hc.low, h.grw.trans hc.grw, by rw [hc.gen, h.gen], fun p hs => hc.mono _ (h.mono _ hs), fun t ht => by rw [getD_pre hpre (by have := h.len; omega)]; exact h.old t ht, Nat.le_trans h.len hpre.length_le, fun t ht g hg => ?_, fun s hs => ?_⟩
  · rw [hrep t (by omega)]; exact hc.mono _ (h.done t ht g hg)
  · rw [hrep i hi]
    rcases Nat.lt_or_ge s j with hl | hl
    · exact hc.mono _ (h.part s hl)
    · obtain rfl : s = j := by omega
      exact hc.sv
theorem Bf.round {c1 : Ch} {kn i : Nat} (h : Bf N k c1 cj O p kn i (gsA kn (c1.gen k) p i).length) : Bf N k c1 cj O p kn (i + 1) 0 := by
  refine ⟨h.low, h.grw, h.gen, h.mono, h.old, h.len, fun t ht g hg => ?_, fun s hs => absurd hs (by omega)⟩
  rcases Nat.lt_or_ge t i with hl | hl
  · exact h.done t hl g hg
  · obtain rfl : t = i := by omega
    obtain ⟨s, hs, rfl⟩ := mem_at hg
    exact h.part s hs
/-- The product that is formed next lies in the group of the level. -/
theorem Bf.mb {kn i j : Nat} (h : Bf N k (c.push k p) cj O p kn i j) (hO : Orb cj k O) (hi : i < O.length) (hj : j < (gsA kn ((c.push k p).gen k) p i).length) :
    Mb (cj.gen k) N (compL (cj.rep k (O.getD i 0)) ((gsA kn ((c.push k p).gen k) p i).getD j [])) ∧ Pn N (cj.rep k (O.getD i 0)) ∧ (gsA kn ((c.push k p).gen k) p i).getD j [] ∈ cj.gen k := by
  have hr : cj.rep k (O.getD i 0) ≠ [] := (hO.2 _).1 (by rw [List.getD_eq_getElem?_getD, List.getElem?_eq_getElem hi]; exact List.getElem_mem _)
  have hm : (gsA kn ((c.push k p).gen k) p i).getD j [] ∈ gsA kn ((c.push k p).gen k) p i := by
    rw [List.getD_eq_getElem?_getD, List.getElem?_eq_getElem hj]; exact List.getElem_mem _
  have hg : (gsA kn ((c.push k p).gen k) p i).getD j [] ∈ cj.gen k := by
    rw [h.gen]
    unfold gsA at hm ⊢
    by_cases e : i < kn
    · simp only [if_pos e] at hm ⊢
      rw [List.mem_singleton] at hm
      rw [hm, push_at]; simp
    · simp only [if_neg e] at hm ⊢; exact hm
  exact ⟨.mul (h.low.inn _ hr) hg, (h.low.rep.at_ _ hr).2.1, hg⟩
theorem Bf.all {kn : Nat} (h : UpTo N c k) (hk : k < N) (h1 : 1 ≤ N) (h2 : N ≤ 20) (hp : Pn N p) (hf : Fx k p) (hs : ¬ Sv N c k p) (hb : Bf N k (c.push k p) cj O p kn O.length 0) (hO : Orb cj k O) : Ap N k c cj p := by
  have hl := h.low hk h1 h2
  have hg1 : cj.gen k = c.gen k ++ [p] := by rw [hb.gen, push_at]
  have g0 : Grw k c (c.push k p) := ⟨fun _ _ _ => rfl, fun _ _ _ => rfl, fun i hi => push_ne (by omega)⟩
  have hG := g0.trans hb.grw
  have hat : ∀ y, cj.rep k y ≠ [] → ∃ t, t < O.length ∧ O.getD t 0 = y := fun y hy => by
    obtain ⟨t, ht, e⟩ := List.mem_iff_getElem.1 ((hO.2 y).2 hy)
    exact ⟨t, ht, by rw [List.getD_eq_getElem?_getD, List.getElem?_eq_getElem ht, ← e]; rfl⟩
  have hclose : ∀ y, cj.rep k y ≠ [] → ∀ g ∈ cj.gen k, Sv N cj k (compL (cj.rep k y) g) := fun y hy g hg => by
    obtain ⟨t, ht, et⟩ := hat y hy
    by_cases e : t < kn
    · have hc1 := hb.old t e
      rw [et] at hc1
      rw [hg1] at hg
      rcases List.mem_append.1 hg with hg | hg
      · rw [hG.keep _ _ hc1]
        refine hb.mono _ (Sv.congr (c := c) ?_ fun _ _ _ => rfl)
        exact (h.sv k (Nat.le_refl _) (by omega) _).2 (.mul (hl.inn y hc1) hg)
      · have := hb.done t ht g (by unfold gsA; rw [if_pos e]; exact hg)
        rw [et] at this; exact this
    · have := hb.done t ht g (by unfold gsA; rw [if_neg e, ← hb.gen]; exact hg)
      rw [et] at this; exact this
  have hid : c.rep k k ≠ [] := by rw [hl.rep.one]; intro e; have := idL_length N; rw [e] at this; simp at this; omega
  have hsv : Sv N cj k p := by
    have h3 := hclose k (by rw [hG.keep _ _ hid]; exact hid) p (by rw [hg1]; simp)
    rw [hG.keep _ _ hid, hl.rep.one, hp.idl] at h3
    exact h3
  have hcnt : cnt N c k < cnt N cj k := by
    have hle := cnt_mono (N := N) hG k
    rcases Nat.lt_or_ge (cnt N c k) (cnt N cj k) with hlt | hge
    · exact hlt
    · exfalso
      refine hs (sv_back hsv (Nat.le_refl _) fun j y hj hjN hy => (cnt_same hG hge hj hjN hy).symm)
  refine ⟨hb.low.whole hk h1 h2 hclose ?_, hG, fun q => by rw [hg1]⟩
  rw [hg1, List.length_append]
  have := h.len k (Nat.le_refl _) hk
  simp; omega
/-- At the last link everything that fixes the points before is known. -/
theorem sv_last (h : UpTo N c k) (hk : k + 1 = N) (h1 : 1 ≤ N) (h2 : N ≤ 20) (hp : Pn N p) (hf : Fx k p) : Sv N c k p := by
  have e : nx p k = k := by
    have a := hf.ge hp (by omega)
    have b := hp.lt (x := k) (by omega)
    omega
  have hid := (hf.succ e)
  rw [hk] at hid
  rw [hid.all hp]
  exact (sv_down (h.rep k (Nat.le_refl _) (by omega)) (by omega) (pn_id h1 h2) (fx_id (by omega)) (nx_id (by omega))).2 ((h.sv (k + 1) (by omega) (by omega) _).2 .one)

/-! ### members with given entries -/
theorem UpTo.stab (h : UpTo N c k) (h1 : 1 ≤ N) (h2 : N ≤ 20) {j : Nat} (hj : k ≤ j) (hjN : j ≤ N) (hp : Pn N p) (hf : Fx j p) : Sv N c k p ↔ Sv N c j p := by
  induction j with
  | zero => obtain rfl : k = 0 := by omega
            exact Iff.rfl
  | succ j ih =>
    by_cases e : k = j + 1
    · subst e; exact Iff.rfl
    · rw [ih (by omega) (by omega) (hf.mono (by omega))]
      exact sv_down (h.rep j (by omega) (by omega)) (by omega) hp (hf.mono (by omega)) (hf j (by omega))
theorem UpTo.gpn (h : UpTo N c k) (hk : k ≤ N) : ∀ g ∈ c.gen k, Pn N g := h.pn (Nat.le_refl _) hk
theorem UpTo.mfx (h : UpTo N c k) (h1 : 1 ≤ N) (h2 : N ≤ 20) (hk : k ≤ N) (hm : Mb (c.gen k) N p) : Fx k p := by
  rcases Nat.lt_or_ge k N with hl | hl
  · exact hm.fx (h.gp k (Nat.le_refl _) hl) h1 h2 hk
  · obtain rfl : k = N := by omega
    rw [h.top] at hm
    rw [hm.none_]; exact fx_id (Nat.le_refl _)
/-- A representative of a later link is a member of this one. -/
theorem UpTo.rep_mb (h : UpTo N c k) (h1 : 1 ≤ N) (h2 : N ≤ 20) {j y : Nat} (hj : k ≤ j) (hjN : j < N) (hy : c.rep j y ≠ []) : Mb (c.gen k) N (c.rep j y) := by
  obtain ⟨a1, a2, a3, a4⟩ := (h.rep j hj hjN).at_ y hy
  refine (h.sv k (Nat.le_refl _) (by omega) _).1 ((h.stab h1 h2 hj (by omega) a2 a3).2 ?_)
  exact ((h.mono hj).low hjN h1 h2).rep_sv hjN hy
/-- A member that has the given entries from k on, as far as j. -/
structure Mt (N : Nat) (c : Ch) (k : Nat) (vals : List Int) (m : List Int) (j : Nat) : Prop where
  kj : k ≤ j
  jN : j ≤ N
  pn : Pn N m
  mb : Mb (c.gen k) N m
  ag : ∀ i, k ≤ i → i < j → (nx m i : Int) = vals.getD i 0
  jl : j = k ∨ j ≤ vals.length
/-- No member has one entry more. -/
def NoM (N : Nat) (c : Ch) (k : Nat) (vals : List Int) (j : Nat) : Prop := j < N → j < vals.length → ∀ q, Mb (c.gen k) N q → ¬ ∀ i, k ≤ i → i ≤ j → (nx q i : Int) = vals.getD i 0
theorem Mt.start {vals : List Int} (h1 : 1 ≤ N) (h2 : N ≤ 20) (hk : k ≤ N) : Mt N c k vals (idL N) k :=
  ⟨Nat.le_refl _, hk, pn_id h1 h2, .one, fun i a b => absurd b (by omega), .inl rfl⟩
theorem Mt.step {vals : List Int} {j y : Nat} (h : Mt N c k vals m j) (hu : UpTo N c k) (h1 : 1 ≤ N) (h2 : N ≤ 20) (hj : j < N) (hl : j < vals.length) (hy : c.rep j y ≠ []) (hv : (nx m y : Int) = vals.getD j 0) : Mt N c k vals (compL (c.rep j y) m) (j + 1) := by
  obtain ⟨a1, a2, a3, a4⟩ := (hu.rep j h.kj hj).at_ y hy
  have hkj := h.kj
  refine ⟨by omega, by omega, a2.comp h.pn, (hu.rep_mb h1 h2 h.kj hj hy).comp (hu.gpn (by omega)) h1 h2 h.mb, fun i hi hij => ?_, .inr (by omega)⟩
  rcases Nat.lt_or_ge i j with hlt | hge
  · rw [a2.nxc (by omega), a3 i hlt]; exact h.ag i hi hlt
  · obtain rfl : i = j := by omega
    rw [a2.nxc hj, a4]; exact hv
theorem Mt.stop {vals : List Int} {j : Nat} (h : Mt N c k vals m j) (hu : UpTo N c k) (h1 : 1 ≤ N) (h2 : N ≤ 20) (hn : ∀ y, y < N → (nx m y : Int) = vals.getD j 0 → c.rep j y = []) : NoM N c k vals j := fun hj hl q hq hag => by
  have hkj := h.kj
  have hqp := hq.pn (hu.gpn (by omega)) h1 h2
  have hqf := hu.mfx h1 h2 (by omega) hq
  have hmf := hu.mfx h1 h2 (by omega) h.mb
  have hr := hqp.comp h.pn.iv
  have hfx : Fx j (compL q (iv m)) := fun i hi => by
    rw [hqp.nxc (by omega)]
    have e : nx q i = nx m i := by
      rcases Nat.lt_or_ge i k with hlt | hge
      · rw [hqf i hlt, hmf i hlt]
      · have a := hag i hge (by omega)
        have b := h.ag i hge hi
        omega
    rw [e, h.pn.nxi (by omega)]
  have hmb : Mb (c.gen k) N (compL q (iv m)) := hq.comp (hu.gpn (by omega)) h1 h2 (h.mb.inv (hu.gpn (by omega)) h1 h2)
  have hs := (hu.stab h1 h2 h.kj h.jN hr hfx).1 ((hu.sv k (Nat.le_refl _) (by omega) _).2 hmb)
  have h3 := (hs.inv_low hj).2.2.1
  rw [hqp.nxc hj] at h3
  have hlt := hqp.lt hj
  refine h3 (hn _ (h.pn.iv.lt hlt) ?_)
  rw [h.pn.nxi' hlt]
  exact hag j h.kj (Nat.le_refl _)
/-- Membership: all entries are found. -/
theorem Mt.mem {j : Nat} (h : Mt N c k p m j) (hn : NoM N c k p j) (hu : UpTo N c k) (h1 : 1 ≤ N) (h2 : N ≤ 20) (hk : k ≤ N) (hp : Pn N p) (hf : Fx k p) : j = N ↔ Mb (c.gen k) N p := by
  constructor
  · rintro rfl
    have hmf := hu.mfx h1 h2 hk h.mb
    have : m = p := h.pn.ext hp fun x hx => by
      rcases Nat.lt_or_ge x k with hlt | hge
      · rw [hmf x hlt, hf x hlt]
      · have a := h.ag x hge hx
        rw [nx_val hp.1 (by rw [hp.2]; exact hx)] at a
        omega
    rw [← this]; exact h.mb
  · intro hm
    rcases Nat.lt_or_ge j N with hl | hl
    · exfalso
      refine hn hl (by rw [hp.2]; exact hl) p hm fun i _ hi => ?_
      rw [nx_val hp.1 (by rw [hp.2]; omega)]
    · have := h.jN; omega
end
end Go.Proofs.Ytooafmifbplbhaa
