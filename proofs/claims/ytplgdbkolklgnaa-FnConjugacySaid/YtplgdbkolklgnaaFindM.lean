/- Plain facts: of all that conjugate p to q, the one that takes the cycles of p in their order to the first cycles that are left comes first. No Go in it. Condition: permutations of one cycle type. -/
import Derived.Test.YtplgdbkolklgnaaTypC
namespace Go.Proofs.Ytplgdbkolklgnaa

/-- The cycles (by their heads) that the heads hs are taken to: each time the first one left of the same length. -/
def mt (p q : List Int) : List Nat → List Nat → List Nat
  | [], _ => []
  | h :: hs, fs => fs.getD (fs.findIdx fun g => per q g == per p h) 0 :: mt p q hs (fs.eraseIdx (fs.findIdx fun g => per q g == per p h))
/-- What is left of fs behind k of the heads. -/
def lf (p q : List Int) : List Nat → List Nat → Nat → List Nat
  | _, fs, 0 => fs
  | [], fs, _ + 1 => fs
  | h :: hs, fs, k + 1 => lf p q hs (fs.eraseIdx (fs.findIdx fun g => per q g == per p h)) k
def Fits (p q : List Int) (hs fs : List Nat) : Prop := (fs.map (per q)).Perm (hs.map (per p))
theorem Fits.idx {p q : List Int} {h : Nat} {hs fs : List Nat} (f : Fits p q (h :: hs) fs) : fs.findIdx (fun g => per q g == per p h) < fs.length := by
  rw [List.findIdx_lt_length]
  have : per p h ∈ fs.map (per q) := f.symm.subset (by simp)
  rw [List.mem_map] at this
  obtain ⟨g, hg, e⟩ := this
  exact ⟨g, hg, by simpa using e⟩
theorem Fits.per {p q : List Int} {h : Nat} {hs fs : List Nat} (f : Fits p q (h :: hs) fs) : per q (fs[fs.findIdx (fun g => per q g == per p h)]'f.idx) = per p h := by
  have := List.findIdx_getElem (w := f.idx)
  simpa using this
theorem perm_eraseIdx {α : Type} (l : List α) (k : Nat) (hk : k < l.length) : l.Perm (l[k] :: l.eraseIdx k) := by
  induction l generalizing k with
  | nil => simp at hk
  | cons a t ih =>
    cases k with
    | zero => simp
    | succ k =>
      simp at hk
      have := ih k hk
      simp only [List.getElem_cons_succ, List.eraseIdx_cons_succ]
      exact (List.Perm.cons a this).trans (List.Perm.swap _ _ _)
theorem Fits.next {p q : List Int} {h : Nat} {hs fs : List Nat} (f : Fits p q (h :: hs) fs) : Fits p q hs (fs.eraseIdx (fs.findIdx fun g => Go.Proofs.Ytplgdbkolklgnaa.per q g == Go.Proofs.Ytplgdbkolklgnaa.per p h)) := by
  have h1 := ((perm_eraseIdx fs _ f.idx).map (Go.Proofs.Ytplgdbkolklgnaa.per q)).symm.trans f
  rw [List.map_cons, List.map_cons, f.per] at h1
  exact h1.cons_inv
theorem Fits.len {p q : List Int} {hs fs : List Nat} (f : Fits p q hs fs) : fs.length = hs.length := by
  have := f.length_eq
  simpa using this
theorem mt_len (p q : List Int) (hs fs : List Nat) : (mt p q hs fs).length = hs.length := by
  induction hs generalizing fs with
  | nil => rfl
  | cons h t ih => rw [mt, List.length_cons, List.length_cons, ih]
theorem nodup_eraseIdx {α : Type} {l : List α} {k : Nat} (hk : k < l.length) (h : l.Nodup) : l[k] ∉ l.eraseIdx k ∧ (l.eraseIdx k).Nodup := by
  have := (perm_eraseIdx l k hk).nodup h
  exact List.nodup_cons.1 this
theorem nodup_inj {l : List Nat} (h : l.Nodup) {i j : Nat} {hi : i < l.length} {hj : j < l.length} (e : l[i] = l[j]) : i = j := by
  rcases Nat.lt_trichotomy i j with hlt | he | hgt
  · exact absurd e (List.pairwise_iff_getElem.1 h _ _ hi hj hlt)
  · exact he
  · exact absurd e.symm (List.pairwise_iff_getElem.1 h _ _ hj hi hgt)
/-- What the choice keeps: out of fs, no one twice, of the same length, the least that could be taken. -/
theorem mt_facts {p q : List Int} : ∀ (hs fs : List Nat), Fits p q hs fs → fs.Pairwise (· < ·) →
    (∀ g ∈ mt p q hs fs, g ∈ fs) ∧ (mt p q hs fs).Nodup ∧ (∀ k, k < hs.length → per q ((mt p q hs fs).getD k 0) = per p (hs.getD k 0)) ∧
    ∀ k, k < hs.length → ∀ g ∈ fs, per q g = per p (hs.getD k 0) → (∀ j, j < k → (mt p q hs fs).getD j 0 ≠ g) → (mt p q hs fs).getD k 0 ≤ g := by
  intro hs
  induction hs with
  | nil => intro fs _ _; exact ⟨fun g hg => (nomatch hg), List.nodup_nil, fun k hk => absurd hk (by simp), fun k hk => absurd hk (by simp)⟩
  | cons h t ih =>
    intro fs f hso
    have hi := f.idx
    have hnd : fs.Nodup := hso.imp fun h => Nat.ne_of_lt h
    obtain ⟨n1, n2⟩ := nodup_eraseIdx hi hnd
    obtain ⟨i1, i2, i3, i4⟩ := ih _ f.next (hso.sublist (List.eraseIdx_sublist _ _))
    have e0 : fs.getD (fs.findIdx fun g => per q g == per p h) 0 = fs[fs.findIdx fun g => per q g == per p h]'hi := by rw [List.getD_eq_getElem?_getD, List.getElem?_eq_getElem hi]; rfl
    rw [mt, e0]
    refine ⟨?_, ?_, ?_, ?_⟩
    · intro g hg
      rw [List.mem_cons] at hg
      rcases hg with rfl | hg
      · exact List.getElem_mem hi
      · exact (List.eraseIdx_sublist _ _).subset (i1 g hg)
    · rw [List.nodup_cons]
      exact ⟨fun hm => n1 (i1 _ hm), i2⟩
    · intro k hk
      cases k with
      | zero => exact f.per
      | succ k => simp at hk; exact i3 k hk
    · intro k hk g hg hp hj
      cases k with
      | zero =>
        show fs[fs.findIdx fun g => per q g == per p h]'hi ≤ g
        obtain ⟨a, ha, rfl⟩ := List.getElem_of_mem hg
        have hle : fs.findIdx (fun g => per q g == per p h) ≤ a := by
          refine Nat.le_of_not_lt fun hlt => ?_
          have := List.not_of_lt_findIdx hlt
          have hp' : per q fs[a] = per p h := hp
          rw [hp'] at this; simp at this
        rcases Nat.lt_or_eq_of_le hle with hlt | he
        · exact Nat.le_of_lt ((List.pairwise_iff_getElem.1 hso) _ _ hi ha hlt)
        · simp only [he]; exact Nat.le_refl _
      | succ k =>
        simp at hk
        refine i4 k hk g ?_ hp fun j hj' => hj (j + 1) (by omega)
        have h0 := hj 0 (by omega)
        have := (perm_eraseIdx fs _ hi).subset hg
        rw [List.mem_cons] at this
        rcases this with e | e
        · exact absurd e.symm h0
        · exact e

theorem lf_fits {p q : List Int} : ∀ (hs fs : List Nat) (k : Nat), Fits p q hs fs → k ≤ hs.length → Fits p q (hs.drop k) (lf p q hs fs k)
  | hs, fs, 0, f, _ => by rw [show hs.drop 0 = hs from rfl]; cases hs <;> exact f
  | [], fs, k + 1, f, h => absurd h (by simp)
  | h :: t, fs, k + 1, f, hk => lf_fits t _ k f.next (by simpa using hk)
theorem mt_lf {p q : List Int} : ∀ (hs fs : List Nat) (k : Nat), k < hs.length → (mt p q hs fs).getD k 0 = (lf p q hs fs k).getD ((lf p q hs fs k).findIdx fun g => per q g == per p (hs.getD k 0)) 0
  | [], fs, k, h => absurd h (by simp)
  | h :: t, fs, 0, _ => rfl
  | h :: t, fs, k + 1, hk => mt_lf t _ k (by simpa using hk)
theorem lf_succ {p q : List Int} : ∀ (hs fs : List Nat) (k : Nat), k < hs.length → lf p q hs fs (k + 1) = (lf p q hs fs k).eraseIdx ((lf p q hs fs k).findIdx fun g => per q g == per p (hs.getD k 0))
  | [], fs, k, h => absurd h (by simp)
  | h :: t, fs, 0, _ => by cases t <;> rfl
  | h :: t, fs, k + 1, hk => lf_succ t _ k (by simpa using hk)
/-- What the choice finds at step k. -/
theorem lf_idx {p q : List Int} (hs fs : List Nat) (k : Nat) (f : Fits p q hs fs) (hk : k < hs.length) : (lf p q hs fs k).findIdx (fun g => per q g == per p (hs.getD k 0)) < (lf p q hs fs k).length ∧ (lf p q hs fs k).length = hs.length - k ∧
    per q ((mt p q hs fs).getD k 0) = per p (hs.getD k 0) := by
  have h1 := lf_fits hs fs k f (by omega)
  have e : hs.drop k = hs.getD k 0 :: hs.drop (k + 1) := by
    rw [List.getD_eq_getElem?_getD, List.getElem?_eq_getElem hk]; exact List.drop_eq_getElem_cons hk
  have h2 := h1.len
  rw [e] at h1
  have hi := h1.idx
  refine ⟨hi, by rw [h2, List.length_drop], ?_⟩
  rw [mt_lf hs fs k hk, List.getD_eq_getElem?_getD (l := lf p q hs fs k), List.getElem?_eq_getElem hi]
  exact h1.per

/-- One cycle of p laid onto one of q. -/
def putc (p q : List Int) (h g : Nat) (x : List Int) (k : Nat) : List Int := (List.range k).foldl (fun x j => x.set (it p j h) (it q j g : Int)) x
theorem putc_succ (p q : List Int) (h g : Nat) (x : List Int) (k : Nat) : putc p q h g x (k + 1) = (putc p q h g x k).set (it p k h) (it q k g : Int) := by
  unfold putc; rw [List.range_succ, List.foldl_append]; rfl
theorem putc_len (p q : List Int) (h g : Nat) (x : List Int) (k : Nat) : (putc p q h g x k).length = x.length := by
  induction k with
  | zero => rfl
  | succ k ih => rw [putc_succ, List.length_set, ih]
theorem setD {x : List Int} {i j : Nat} (hj : j < x.length) (u : Int) : (x.set i u).getD j 0 = if i = j then u else x.getD j 0 := by
  rw [List.getD_eq_getElem?_getD, List.getElem?_set]
  by_cases e : i = j
  · subst e; rw [if_pos rfl, if_pos hj, if_pos rfl]; rfl
  · rw [if_neg e, if_neg e, ← List.getD_eq_getElem?_getD]
theorem putc_far {p q : List Int} {h g : Nat} {x : List Int} {i : Nat} (hi : i < x.length) (k : Nat) (hn : ∀ j, j < k → it p j h ≠ i) : (putc p q h g x k).getD i 0 = x.getD i 0 := by
  induction k with
  | zero => rfl
  | succ k ih => rw [putc_succ, setD (by rw [putc_len]; exact hi), if_neg (hn k (by omega)), ih fun j hj => hn j (by omega)]
theorem it_ne {p : List Int} (hp : IsP p) {h a b : Nat} (hh : h < p.length) (hab : a < b) (hb : b < per p h) : it p a h ≠ it p b h := fun e => by
  have e2 : it p a (it p (b - a) h) = it p a h := by rw [← it_add, e]; congr 1; omega
  exact (per_spec hp hh).2.2.2 (b - a) (by omega) (by omega) (it_inj hp (it_lt hp hh _) hh a e2)
theorem putc_hit {p q : List Int} (hp : IsP p) {h g : Nat} {x : List Int} (hx : x.length = p.length) (hh : h < p.length) (k j : Nat) (hj : j < k) (hk : k ≤ per p h) : (putc p q h g x k).getD (it p j h) 0 = (it q j g : Int) := by
  induction k with
  | zero => omega
  | succ k ih =>
    rw [putc_succ, setD (by rw [putc_len, hx]; exact it_lt hp hh _)]
    by_cases e : j = k
    · subst e; rw [if_pos rfl]
    · rw [if_neg (fun e2 => it_ne hp hh (show j < k by omega) (by omega) e2.symm)]
      exact ih (by omega) (by omega)
/-- The first k cycles laid. -/
def xAt (p q : List Int) : Nat → List Int
  | 0 => List.replicate p.length 0
  | k + 1 => putc p q ((heads p p.length).getD k 0) ((mt p q (heads p p.length) (heads q q.length)).getD k 0) (xAt p q k) (per p ((heads p p.length).getD k 0))
theorem xAt_len (p q : List Int) (k : Nat) : (xAt p q k).length = p.length := by
  induction k with
  | zero => simp [xAt]
  | succ k ih => rw [xAt, putc_len, ih]
def grL (p q : List Int) : List Int := xAt p q (heads p p.length).length

theorem fits_type {p q : List Int} (hp : IsP p) (hq : IsP q) (h : ctype p = ctype q) : Fits p q (heads p p.length) (heads q q.length) := by
  unfold Fits
  rw [← lens_heads, ← lens_heads]
  exact (ctype_perm hq).symm.trans (h ▸ ctype_perm hp)
theorem heads_sorted (p : List Int) (k : Nat) : (heads p k).Pairwise (· < ·) := (List.pairwise_lt_range).filter _
theorem head_facts {p : List Int} {k : Nat} (hk : k < (heads p p.length).length) : (heads p p.length).getD k 0 < p.length ∧ st p ((heads p p.length).getD k 0) = true := by
  have : (heads p p.length).getD k 0 ∈ heads p p.length := by rw [List.getD_eq_getElem?_getD, List.getElem?_eq_getElem hk]; exact List.getElem_mem hk
  have h2 := List.mem_filter.1 this
  exact ⟨List.mem_range.1 h2.1, h2.2⟩
theorem head_inj {p : List Int} {a b : Nat} (ha : a < (heads p p.length).length) (hb : b < (heads p p.length).length) (e : (heads p p.length).getD a 0 = (heads p p.length).getD b 0) : a = b := by
  have hnd : (heads p p.length).Nodup := (heads_sorted p _).imp fun h => Nat.ne_of_lt h
  rw [List.getD_eq_getElem?_getD, List.getD_eq_getElem?_getD, List.getElem?_eq_getElem ha, List.getElem?_eq_getElem hb] at e
  exact nodup_inj hnd e
theorem head_at {p : List Int} (hp : IsP p) {i : Nat} (hi : i < p.length) : ∃ a j, a < (heads p p.length).length ∧ j < per p ((heads p p.length).getD a 0) ∧ it p j ((heads p p.length).getD a 0) = i := by
  obtain ⟨c, j, hc, hst, hj, e⟩ := min_ex hp hi
  have : c ∈ heads p p.length := List.mem_filter.2 ⟨List.mem_range.2 hc, hst⟩
  obtain ⟨a, ha, e2⟩ := List.getElem_of_mem this
  have e3 : (heads p p.length).getD a 0 = c := by rw [List.getD_eq_getElem?_getD, List.getElem?_eq_getElem ha]; exact e2
  exact ⟨a, j, ha, by rw [e3]; exact hj, by rw [e3]; exact e⟩

section
variable {p q : List Int} (hp : IsP p)
include hp

theorem xAt_val (k a j : Nat) (hk : k ≤ (heads p p.length).length) (ha : a < k) (hj : j < per p ((heads p p.length).getD a 0)) :
    (xAt p q k).getD (it p j ((heads p p.length).getD a 0)) 0 = (it q j ((mt p q (heads p p.length) (heads q q.length)).getD a 0) : Int) := by
  induction k with
  | zero => omega
  | succ k ih =>
    obtain ⟨l1, s1⟩ := head_facts (p := p) (k := k) (by omega)
    rw [xAt]
    by_cases e : a = k
    · subst e
      exact putc_hit hp (xAt_len _ _ _) l1 _ j hj (Nat.le_refl _)
    · obtain ⟨l2, s2⟩ := head_facts (p := p) (k := a) (by omega)
      rw [putc_far (by rw [xAt_len]; exact it_lt hp l2 _)]
      · exact ih (by omega) (by omega)
      · intro j' hj' e2
        exact e (head_inj (by omega) (by omega) (head_eq hp l2 l1 s2 s1 e2.symm))
end
theorem gr_val {p q : List Int} (hp : IsP p) (a j : Nat) (ha : a < (heads p p.length).length) (hj : j < per p ((heads p p.length).getD a 0)) :
    nx (grL p q) (it p j ((heads p p.length).getD a 0)) = it q j ((mt p q (heads p p.length) (heads q q.length)).getD a 0) := by
  have := xAt_val (q := q) hp _ a j (Nat.le_refl _) ha hj
  unfold nx grL
  rw [this]; rfl
theorem gr_len (p q : List Int) : (grL p q).length = p.length := xAt_len _ _ _
section
variable {p q : List Int} (hp : IsP p) (hq : IsP q) (ht : ctype p = ctype q)
include hp hq ht
theorem mtF : (∀ g ∈ mt p q (heads p p.length) (heads q q.length), g ∈ heads q q.length) ∧ (mt p q (heads p p.length) (heads q q.length)).Nodup ∧ (∀ k, k < (heads p p.length).length → per q ((mt p q (heads p p.length) (heads q q.length)).getD k 0) = per p ((heads p p.length).getD k 0)) ∧
    ∀ k, k < (heads p p.length).length → ∀ g ∈ heads q q.length, per q g = per p ((heads p p.length).getD k 0) → (∀ j, j < k → (mt p q (heads p p.length) (heads q q.length)).getD j 0 ≠ g) → (mt p q (heads p p.length) (heads q q.length)).getD k 0 ≤ g :=
  mt_facts _ _ (fits_type hp hq ht) (heads_sorted q _)
theorem mt_head {k : Nat} (hk : k < (heads p p.length).length) : (mt p q (heads p p.length) (heads q q.length)).getD k 0 < q.length ∧ st q ((mt p q (heads p p.length) (heads q q.length)).getD k 0) = true := by
  have : (mt p q (heads p p.length) (heads q q.length)).getD k 0 ∈ mt p q (heads p p.length) (heads q q.length) := by
    rw [List.getD_eq_getElem?_getD, List.getElem?_eq_getElem (by rw [mt_len]; exact hk)]; exact List.getElem_mem _
  have h2 := List.mem_filter.1 ((mtF hp hq ht).1 _ this)
  exact ⟨List.mem_range.1 h2.1, h2.2⟩
theorem gr_isP : IsP (grL p q) := by
  have hl := gr_len p q
  have hd := ctype_deg hp hq ht
  have hv : ∀ i, i < p.length → ∃ z : Nat, z < q.length ∧ (grL p q).getD i 0 = (z : Int) := by
    intro i hi
    obtain ⟨a, j, ha, hj, e⟩ := head_at hp hi
    have := xAt_val (q := q) hp _ a j (Nat.le_refl _) ha hj
    rw [e] at this
    exact ⟨_, it_lt hq (mt_head hp hq ht ha).1 _, this⟩
  refine ⟨by rw [hl]; exact hp.pos, by rw [hl]; exact hp.le, ?_, ?_, ?_⟩
  · intro i hi
    rw [hl] at hi
    obtain ⟨z, hz, e⟩ := hv i hi
    omega
  · intro i hi
    rw [hl] at hi ⊢
    obtain ⟨z, hz, e⟩ := hv i hi
    omega
  · intro i i' hi hi' e
    rw [hl] at hi hi'
    obtain ⟨a, j, ha, hj, rfl⟩ := head_at hp hi
    obtain ⟨a', j', ha', hj', rfl⟩ := head_at hp hi'
    have v1 := gr_val (q := q) hp a j ha hj
    have v2 := gr_val (q := q) hp a' j' ha' hj'
    have e3 : it q j ((mt p q (heads p p.length) (heads q q.length)).getD a 0) = it q j' ((mt p q (heads p p.length) (heads q q.length)).getD a' 0) := by
      rw [← v1, ← v2]; unfold nx; rw [e]
    obtain ⟨l1, s1⟩ := mt_head hp hq ht ha
    obtain ⟨l2, s2⟩ := mt_head hp hq ht ha'
    have e4 := head_eq hq l1 l2 s1 s2 e3
    have e5 : a = a' := by
      have hnd := (mtF hp hq ht).2.1
      have b1 : a < (mt p q (heads p p.length) (heads q q.length)).length := by rw [mt_len]; exact ha
      have b2 : a' < (mt p q (heads p p.length) (heads q q.length)).length := by rw [mt_len]; exact ha'
      rw [List.getD_eq_getElem?_getD, List.getD_eq_getElem?_getD, List.getElem?_eq_getElem b1, List.getElem?_eq_getElem b2] at e4
      exact nodup_inj hnd e4
    subst e5
    have hper := (mtF hp hq ht).2.2.1 a ha
    rcases Nat.lt_trichotomy j j' with hlt | he | hgt
    · exact absurd e3 (it_ne hq l1 hlt (by rw [hper]; exact hj'))
    · rw [he]
    · exact absurd e3.symm (it_ne hq l1 hgt (by rw [hper]; exact hj))
theorem gr_nx {i : Nat} (hi : i < p.length) : nx (grL p q) (nx p i) = nx q (nx (grL p q) i) := by
  obtain ⟨a, j, ha, hj, rfl⟩ := head_at hp hi
  rw [gr_val (q := q) hp a j ha hj]
  have hper := (mtF hp hq ht).2.2.1 a ha
  obtain ⟨l1, s1⟩ := head_facts (p := p) ha
  obtain ⟨l2, s2⟩ := mt_head hp hq ht ha
  show nx (grL p q) (it p (j + 1) _) = it q (j + 1) _
  by_cases e : j + 1 < per p ((heads p p.length).getD a 0)
  · exact gr_val (q := q) hp a (j + 1) ha e
  · have e1 : j + 1 = per p ((heads p p.length).getD a 0) := by omega
    have h1 := (per_spec hp l1).2.2.1
    have h2 := (per_spec hq l2).2.2.1
    rw [hper] at h2
    rw [e1, h1, h2]
    have := gr_val (q := q) hp a 0 ha (by omega)
    exact this
end
/-- Conjugation by y takes p to q just where y takes p's images to q's. -/
theorem conj_iff {p q y : List Int} (hp : IsP p) (hq : IsP q) (hy : IsP y) (hl : p.length = y.length) (hlq : p.length = q.length) : conjP p y = q ↔ ∀ i, i < p.length → nx y (nx p i) = nx q (nx y i) := by
  constructor
  · intro e i hi
    rw [← conj_nx hp hy hl hi, e]
  · intro h
    have hc := isP_conj hp hy hl
    refine ext_getD (conj_length hl) hlq.symm fun j hj => ?_
    obtain ⟨i, hi, rfl⟩ := surj hy (j := j) (by omega)
    have h1 := conj_nx hp hy hl (i := i) (by omega)
    have h2 := h i (by omega)
    rw [nx_val hc (by rw [conj_length hl]; exact hj), nx_val hq (by omega), h1, h2]
/-- a comes ahead of b, or is b. -/
def Lex (a b : List Int) : Prop := ∀ i, i < a.length → (∀ j, j < i → a.getD j 0 = b.getD j 0) → a.getD i 0 ≤ b.getD i 0
theorem Lex.anti {a b : List Int} {n : Nat} (la : a.length = n) (lb : b.length = n) (h : Lex a b) (k : Lex b a) : a = b := by
  refine ext_getD la lb fun j hj => ?_
  induction j using Nat.strongRecOn with
  | _ j ih =>
    have e : ∀ i, i < j → a.getD i 0 = b.getD i 0 := fun i hi => ih i hi (by omega)
    have := h j (by omega) e
    have := k j (by omega) fun i hi => (e i hi).symm
    omega
theorem y_it {p q y : List Int} (hp : IsP p) (h : ∀ i, i < p.length → nx y (nx p i) = nx q (nx y i)) {i : Nat} (hi : i < p.length) (k : Nat) : nx y (it p k i) = it q k (nx y i) := by
  induction k with
  | zero => rfl
  | succ k ih => show nx y (nx p (it p k i)) = nx q (it q k (nx y i)); rw [h _ (it_lt hp hi k), ih]
theorem gr_conj {p q : List Int} (hp : IsP p) (hq : IsP q) (ht : ctype p = ctype q) : conjP p (grL p q) = q :=
  (conj_iff hp hq (gr_isP hp hq ht) (gr_len p q).symm (ctype_deg hp hq ht)).2 fun _ hi => gr_nx hp hq ht hi
theorem gr_least {p q y : List Int} (hp : IsP p) (hq : IsP q) (ht : ctype p = ctype q) (hy : IsP y) (hl : p.length = y.length) (hc : conjP p y = q) : Lex (grL p q) y := by
  have hd := ctype_deg hp hq ht
  have hY := (conj_iff hp hq hy hl hd).1 hc
  have hX := fun i (hi : i < p.length) => gr_nx hp hq ht hi
  have gi := gr_isP hp hq ht
  intro i hi hag
  rw [gr_len p q] at hi
  obtain ⟨a, j, ha, hj, e⟩ := head_at hp hi
  obtain ⟨l1, s1⟩ := head_facts (p := p) ha
  have hle : (heads p p.length).getD a 0 ≤ i := by rw [← e]; exact (st_iff hp l1).1 s1 j
  rw [nx_val gi (by rw [gr_len p q]; exact hi), nx_val hy (by omega)]
  rcases Nat.lt_or_eq_of_le hle with hlt | heq
  · have e1 : nx (grL p q) ((heads p p.length).getD a 0) = nx y ((heads p p.length).getD a 0) := by unfold nx; rw [hag _ hlt]
    rw [← e, y_it hp hX l1 j, y_it hp hY l1 j, e1]
    exact Int.le_refl _
  · have e0 := gr_val (q := q) hp a 0 ha (by omega)
    have e0' : nx (grL p q) i = (mt p q (heads p p.length) (heads q q.length)).getD a 0 := by rw [← heq]; exact e0
    rw [e0']
    have hz : nx y i < q.length := by rw [← hd, hl]; exact nx_lt hy (by omega)
    obtain ⟨g, b, hg, sg, hb, eg⟩ := min_ex hq hz
    have gz : g ≤ nx y i := by rw [← eg]; exact (st_iff hq hg).1 sg b
    have pz : per q (nx y i) = per p i := by
      have := conj_per hp hy hl hi
      rw [hc] at this
      exact this
    have pg : per q g = per p ((heads p p.length).getD a 0) := by rw [heq, ← pz, ← eg, per_it hq hg]
    have := (mtF hp hq ht).2.2.2 a ha g (List.mem_filter.2 ⟨List.mem_range.2 hg, sg⟩) pg ?_
    · omega
    · intro a' ha' eg'
      obtain ⟨l2, s2⟩ := head_facts (p := p) (k := a') (by omega)
      have hlt : (heads p p.length).getD a' 0 < i := by
        rw [← heq]
        have hs := List.pairwise_iff_getElem.1 (heads_sorted p p.length) a' a (by omega) ha ha'
        rw [List.getD_eq_getElem?_getD, List.getD_eq_getElem?_getD, List.getElem?_eq_getElem ha, List.getElem?_eq_getElem (by omega)]
        exact hs
      have e3 := gr_val (q := q) hp a' 0 (by omega) (by have := (per_spec hp l2).1; omega)
      have e4 : nx y ((heads p p.length).getD a' 0) = g := by
        rw [← eg', ← show nx (grL p q) ((heads p p.length).getD a' 0) = (mt p q (heads p p.length) (heads q q.length)).getD a' 0 from e3]
        unfold nx; rw [hag _ hlt]
      have e5 : nx y (it p b ((heads p p.length).getD a' 0)) = nx y i := by rw [y_it hp hY l2 b, e4, eg]
      have e6 := nx_inj hy (by rw [← hl]; exact it_lt hp l2 b) (by omega) e5
      have e7 : (heads p p.length).getD a' 0 = i := by
        rw [← heq]
        exact head_eq hp l2 l1 s2 s1 (a := b) (b := 0) (by rw [e6, ← heq]; rfl)
      omega
end Go.Proofs.Ytplgdbkolklgnaa
