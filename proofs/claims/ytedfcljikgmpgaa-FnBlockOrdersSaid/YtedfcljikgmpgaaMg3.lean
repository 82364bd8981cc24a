/- Part 3 of the texts: OrM, Gen, ChB, ChQ, Crd, Ins, ChR, ChT, ChX, Stb, Supp, BlA, BlB, UfA. No condition of its own: each text tells its own. -/
import Derived.Test.YtedfcljikgmpgaaMg1
import Derived.Test.YtedfcljikgmpgaaMg2
import Derived.Deep.LoopGhost
import Derived.Deep.Upon
set_option linter.unusedVariables false
set_option linter.unusedSimpArgs false

/- Orbits under lists of maps, as a search in the order of discovery; sorted orbits; the sweep over all points. No Go in it. No condition. -/
namespace Go.Proofs.Ytedfcljikgmpgaa

/-- A rearrangement of the points below N. -/
structure PM (N : Nat) (g : List Int) : Prop where
  len : g.length = N
  lo : ∀ i, i < N → 0 ≤ g.getD i 0
  hi : ∀ i, i < N → g.getD i 0 < N
  inj : ∀ i j, i < N → j < N → g.getD i 0 = g.getD j 0 → i = j
def PMs (N : Nat) (gs : List (List Int)) : Prop := ∀ g ∈ gs, PM N g

theorem PM.nx_lt {N : Nat} {g : List Int} (h : PM N g) {x : Nat} (hx : x < N) : nx g x < N := by
  have := h.lo x hx; have := h.hi x hx; unfold nx; omega
theorem PM.nx_val {N : Nat} {g : List Int} (h : PM N g) {x : Nat} (hx : x < N) : g.getD x 0 = (nx g x : Int) := by
  have := h.lo x hx; unfold nx; omega
theorem PM.nx_inj {N : Nat} {g : List Int} (h : PM N g) {x y : Nat} (hx : x < N) (hy : y < N) (e : nx g x = nx g y) : x = y :=
  h.inj x y hx hy (by rw [h.nx_val hx, h.nx_val hy, e])
theorem IsP.pm {p : List Int} (h : IsP p) : PM p.length p := ⟨rfl, h.lo, h.hi, h.inj⟩

theorem nd_sub {l' : List Nat} : ∀ {l : List Nat}, l'.Nodup → (∀ x ∈ l', x ∈ l) → l'.length ≤ l.length := by
  induction l' with
  | nil => intro l _ _; simp
  | cons a t ih =>
    intro l hd h
    rw [List.nodup_cons] at hd
    have ha : a ∈ l := h a (by simp)
    have := ih (l := l.erase a) hd.2 fun x hx => by
      have hne : x ≠ a := fun e => hd.1 (e ▸ hx)
      exact (List.mem_erase_of_ne hne).2 (h x (by simp [hx]))
    rw [List.length_erase_of_mem ha] at this
    have h0 : 0 < l.length := List.length_pos_of_mem ha
    simp; omega
/-- A nodup list within another of the same length is all of it. -/
theorem nd_all {l' l : List Nat} (hd : l'.Nodup) (h : ∀ x ∈ l', x ∈ l) (hl : l.length ≤ l'.length) : ∀ y ∈ l, y ∈ l' := fun y hy => by
  rcases Decidable.em (y ∈ l') with h1 | h1
  · exact h1
  · have := nd_sub (l' := y :: l') (l := l) (List.nodup_cons.2 ⟨h1, hd⟩) (fun x hx => by
      rcases List.mem_cons.1 hx with rfl | hx
      · exact hy
      · exact h x hx)
    simp at this; omega
theorem nd_map {f : Nat → Nat} {l : List Nat} (hd : l.Nodup) (hf : ∀ x ∈ l, ∀ y ∈ l, f x = f y → x = y) : (l.map f).Nodup := by
  induction l with
  | nil => simp
  | cons a t ih =>
    rw [List.nodup_cons] at hd
    rw [List.map_cons, List.nodup_cons]
    refine ⟨fun hm => ?_, ih hd.2 fun x hx y hy => hf x (by simp [hx]) y (by simp [hy])⟩
    obtain ⟨b, hb, e⟩ := List.mem_map.1 hm
    have := hf b (by simp [hb]) a (by simp) e
    subst this
    exact hd.1 hb

/-! ### reach -/
inductive Rch (gs : List (List Int)) (x : Nat) : Nat → Prop
  | refl : Rch gs x x
  | step {u : Nat} {g : List Int} : Rch gs x u → g ∈ gs → Rch gs x (nx g u)
section
variable {gs : List (List Int)} {N x y z : Nat}
theorem Rch.trans (h : Rch gs x y) (k : Rch gs y z) : Rch gs x z := by
  induction k with
  | refl => exact h
  | step _ hg ih => exact ih.step hg
theorem Rch.lt (hp : PMs N gs) (hx : x < N) (h : Rch gs x y) : y < N := by
  induction h with
  | refl => exact hx
  | step _ hg ih => exact (hp _ hg).nx_lt ih
end

/-! ### the search -/
def addN (f : List Nat) (y : Nat) : List Nat := if y ∈ f then f else f ++ [y]
def expd (gs : List (List Int)) (u : Nat) (f : List Nat) : List Nat := gs.foldl (fun f g => addN f (nx g u)) f
def bfs (gs : List (List Int)) : Nat → Nat → List Nat → List Nat
  | 0, _, f => f
  | fuel + 1, i, f => if i < f.length then bfs gs fuel (i + 1) (expd gs (f.getD i 0) f) else f
/-- The orbit of x in the order of discovery. -/
def orb (gs : List (List Int)) (N x : Nat) : List Nat := bfs gs (N + 1) 0 [x]

theorem bfs_go {gs : List (List Int)} {N i : Nat} {f : List Nat} (hi : i < f.length) (hl : f.length ≤ N) : bfs gs (N + 1 - i) i f = bfs gs (N + 1 - (i + 1)) (i + 1) (expd gs (f.getD i 0) f) := by
  obtain ⟨k, hk⟩ : ∃ k, N + 1 - i = k + 1 := ⟨N - i, by omega⟩
  have hk' : N + 1 - (i + 1) = k := by omega
  rw [hk, hk', bfs, if_pos hi]
theorem bfs_end {gs : List (List Int)} {N i : Nat} {f : List Nat} (hi : f.length ≤ i) : bfs gs (N + 1 - i) i f = f := by
  cases N + 1 - i with
  | zero => rfl
  | succ k => rw [bfs, if_neg (by omega)]

/-- What the search holds of its list. -/
structure Fd (gs : List (List Int)) (N x : Nat) (f : List Nat) : Prop where
  nd : f.Nodup
  lt : ∀ y ∈ f, y < N
  rch : ∀ y ∈ f, Rch gs x y
  pre : ∃ t, f = x :: t
section
variable {gs : List (List Int)} {N x : Nat} {f : List Nat}
theorem Fd.len (h : Fd gs N x f) : f.length ≤ N := ndlen N f h.nd h.lt
theorem Fd.pos (h : Fd gs N x f) : 0 < f.length := by obtain ⟨t, rfl⟩ := h.pre; simp
theorem Fd.one (hx : x < N) : Fd gs N x [x] := ⟨by simp, by simpa using hx, by simpa using Rch.refl, ⟨[], rfl⟩⟩
theorem addN_pre (f : List Nat) (y : Nat) : ∃ t, addN f y = f ++ t := by
  unfold addN; split
  · exact ⟨[], by simp⟩
  · exact ⟨[y], rfl⟩
theorem mem_addN {f : List Nat} {y z : Nat} : z ∈ addN f y ↔ z ∈ f ∨ z = y := by
  unfold addN; split
  · rename_i h
    exact ⟨.inl, fun h' => h'.elim id (fun e => e ▸ h)⟩
  · simp
theorem Fd.add (h : Fd gs N x f) {y : Nat} (hy : y < N) (hr : Rch gs x y) : Fd gs N x (addN f y) := by
  obtain ⟨t, rfl⟩ := h.pre
  refine ⟨?_, fun z hz => ?_, fun z hz => ?_, ?_⟩
  · unfold addN; split
    · exact h.nd
    · rename_i hn
      rw [List.nodup_append]
      refine ⟨h.nd, by simp, fun a ha b hb e => ?_⟩
      obtain rfl : b = y := by simpa using hb
      exact hn (e ▸ ha)
  · rcases mem_addN.1 hz with h1 | rfl
    · exact h.lt z h1
    · exact hy
  · rcases mem_addN.1 hz with h1 | rfl
    · exact h.rch z h1
    · exact hr
  · obtain ⟨t', e⟩ := addN_pre (x :: t) y
    exact ⟨t ++ t', by rw [e]; rfl⟩
theorem expd_pre (gs : List (List Int)) (u : Nat) : ∀ f : List Nat, ∃ t, expd gs u f = f ++ t := by
  unfold expd
  induction gs with
  | nil => intro f; exact ⟨[], by simp⟩
  | cons g gs ih =>
    intro f
    obtain ⟨t, e⟩ := addN_pre f (nx g u)
    obtain ⟨t', e'⟩ := ih (addN f (nx g u))
    exact ⟨t ++ t', by rw [List.foldl_cons, e', e, List.append_assoc]⟩
theorem expd_mem (gs : List (List Int)) (u : Nat) : ∀ f : List Nat, ∀ g ∈ gs, nx g u ∈ expd gs u f := by
  unfold expd
  induction gs with
  | nil => intro f g hg; cases hg
  | cons g gs ih =>
    intro f g' hg'
    rw [List.foldl_cons]
    rcases List.mem_cons.1 hg' with rfl | hg'
    · obtain ⟨t, e⟩ := expd_pre gs u (addN f (nx g' u))
      unfold expd at e
      rw [e, List.mem_append]
      exact .inl (mem_addN.2 (.inr rfl))
    · exact ih _ g' hg'
theorem Fd.fold (hp : PMs N gs) {u : Nat} (hu : u < N) (hr : Rch gs x u) : ∀ (l : List (List Int)), (∀ g ∈ l, g ∈ gs) → ∀ f : List Nat, Fd gs N x f → Fd gs N x (l.foldl (fun f g => addN f (nx g u)) f)
  | [], _, f, h => h
  | g :: l, hl, f, h => by
    rw [List.foldl_cons]
    exact Fd.fold hp hu hr l (fun g' hg' => hl g' (by simp [hg'])) _ (h.add ((hp g (hl g (by simp))).nx_lt hu) (hr.step (hl g (by simp))))
theorem getD_memN {l : List Nat} {i : Nat} (h : i < l.length) : l.getD i 0 ∈ l := by
  rw [List.getD_eq_getElem?_getD, List.getElem?_eq_getElem h]
  exact List.getElem_mem h
theorem getD_preN {l t : List Nat} {i : Nat} (h : i < l.length) : (l ++ t).getD i 0 = l.getD i 0 := by
  rw [List.getD_eq_getElem?_getD, List.getElem?_append_left h, ← List.getD_eq_getElem?_getD]
theorem Fd.exp (hp : PMs N gs) (h : Fd gs N x f) {i : Nat} (hi : i < f.length) : Fd gs N x (expd gs (f.getD i 0) f) :=
  Fd.fold hp (h.lt _ (getD_memN hi)) (h.rch _ (getD_memN hi)) gs (fun _ h => h) f h
/-- The first i are expanded. -/
def Cl (gs : List (List Int)) (i : Nat) (f : List Nat) : Prop := ∀ j, j < i → ∀ g ∈ gs, nx g (f.getD j 0) ∈ f
theorem Cl.exp {i : Nat} (h : Cl gs i f) (hi : i < f.length) : Cl gs (i + 1) (expd gs (f.getD i 0) f) := by
  obtain ⟨t, e⟩ := expd_pre gs (f.getD i 0) f
  intro j hj g hg
  by_cases e2 : j = i
  · subst e2
    have := expd_mem gs (f.getD j 0) f g hg
    rw [e] at this ⊢
    rw [getD_preN hi]
    exact this
  · rw [e, getD_preN (by omega), List.mem_append]
    exact .inl (h j (by omega) g hg)
theorem bfs_spec (hp : PMs N gs) : ∀ (fuel i : Nat) (f : List Nat), Fd gs N x f → Cl gs i f → i ≤ f.length → N + 1 ≤ fuel + i → Fd gs N x (bfs gs fuel i f) ∧ Cl gs (bfs gs fuel i f).length (bfs gs fuel i f)
  | 0, i, f, h, c, hi, hf => by have := h.len; omega
  | fuel + 1, i, f, h, c, hi, hf => by
    rw [bfs]
    split
    · rename_i hlt
      have hpre := expd_pre gs (f.getD i 0) f
      exact bfs_spec hp fuel (i + 1) _ (h.exp hp hlt) (c.exp hlt) (by obtain ⟨t, e⟩ := hpre; rw [e, List.length_append]; omega) (by omega)
    · obtain rfl : i = f.length := by omega
      exact ⟨h, c⟩
end

section
variable {gs : List (List Int)} {N : Nat}
theorem orb_fd (hp : PMs N gs) {x : Nat} (hx : x < N) : Fd gs N x (orb gs N x) :=
  (bfs_spec hp (N + 1) 0 [x] (Fd.one hx) (fun j hj => absurd hj (by omega)) (Nat.zero_le _) (by omega)).1
theorem orb_cl (hp : PMs N gs) {x : Nat} (hx : x < N) : Cl gs (orb gs N x).length (orb gs N x) :=
  (bfs_spec hp (N + 1) 0 [x] (Fd.one hx) (fun j hj => absurd hj (by omega)) (Nat.zero_le _) (by omega)).2
theorem orb_self (hp : PMs N gs) {x : Nat} (hx : x < N) : x ∈ orb gs N x := by
  obtain ⟨t, e⟩ := (orb_fd hp hx).pre
  rw [e]; simp
theorem orb_step (hp : PMs N gs) {x u : Nat} (hx : x < N) (hu : u ∈ orb gs N x) {g : List Int} (hg : g ∈ gs) : nx g u ∈ orb gs N x := by
  obtain ⟨j, hj, e⟩ := List.mem_iff_getElem.1 hu
  have := orb_cl hp hx j hj g hg
  rw [List.getD_eq_getElem?_getD, List.getElem?_eq_getElem hj] at this
  simpa [e] using this
theorem orb_iff (hp : PMs N gs) {x y : Nat} (hx : x < N) : y ∈ orb gs N x ↔ Rch gs x y := by
  refine ⟨(orb_fd hp hx).rch y, fun h => ?_⟩
  induction h with
  | refl => exact orb_self hp hx
  | step _ hg ih => exact orb_step hp hx ih hg
theorem orb_lt (hp : PMs N gs) {x y : Nat} (hx : x < N) (h : y ∈ orb gs N x) : y < N := (orb_fd hp hx).lt y h
theorem orb_sub (hp : PMs N gs) {x y z : Nat} (hx : x < N) (hy : y ∈ orb gs N x) (hz : z ∈ orb gs N y) : z ∈ orb gs N x := by
  have hy' := orb_lt hp hx hy
  rw [orb_iff hp hx] at hy ⊢
  rw [orb_iff hp hy'] at hz
  exact hy.trans hz
/-- Whoever comes into an orbit came out of it. -/
theorem orb_back (hp : PMs N gs) {x u : Nat} (hx : x < N) (hu : u < N) {g : List Int} (hg : g ∈ gs) (h : nx g u ∈ orb gs N x) : u ∈ orb gs N x := by
  have hf := orb_fd hp hx
  have h1 : ((orb gs N x).map (nx g)).Nodup := nd_map hf.nd fun a ha b hb e => (hp g hg).nx_inj (hf.lt a ha) (hf.lt b hb) e
  have h2 := nd_all h1 (l := orb gs N x) (fun a ha => by
    obtain ⟨b, hb, rfl⟩ := List.mem_map.1 ha
    exact orb_step hp hx hb hg) (by simp) _ h
  obtain ⟨b, hb, e⟩ := List.mem_map.1 h2
  rw [← (hp g hg).nx_inj (hf.lt b hb) hu e]
  exact hb
theorem rch_symm (hp : PMs N gs) {x y : Nat} (hx : x < N) (h : Rch gs x y) : Rch gs y x := by
  have hx' : x ∈ orb gs N y := by
    have : ∀ z, Rch gs x z → ∀ y, y < N → z ∈ orb gs N y → x ∈ orb gs N y := by
      intro z hz
      induction hz with
      | refl => intro y _ h; exact h
      | step hu hg ih => intro y hy h; exact ih y hy (orb_back hp hy (hu.lt hp hx) hg h)
    exact this y h y (h.lt hp hx) (orb_self hp (h.lt hp hx))
  exact (orb_iff hp (h.lt hp hx)).1 hx'
theorem orb_symm (hp : PMs N gs) {x y : Nat} (hx : x < N) (h : y ∈ orb gs N x) : x ∈ orb gs N y := by
  have hy := orb_lt hp hx h
  rw [orb_iff hp hx] at h
  rw [orb_iff hp hy]
  exact rch_symm hp hx h
end

/-! ### sorted -/
def oN (gs : List (List Int)) (N x : Nat) : List Nat := (List.range N).filter fun y => decide (y ∈ orb gs N x)
def oS (gs : List (List Int)) (N x : Nat) : List Int := (oN gs N x).map Int.ofNat
theorem mem_oN {gs : List (List Int)} {N x y : Nat} : y ∈ oN gs N x ↔ y < N ∧ y ∈ orb gs N x := by simp [oN]
theorem oN_nd (gs : List (List Int)) (N x : Nat) : (oN gs N x).Nodup := List.nodup_range.filter _
theorem oN_len {gs : List (List Int)} {N : Nat} (hp : PMs N gs) {x : Nat} (hx : x < N) : (oN gs N x).length = (orb gs N x).length :=
  Nat.le_antisymm (nd_sub (oN_nd gs N x) fun y hy => (mem_oN.1 hy).2) (nd_sub (orb_fd hp hx).nd fun y hy => mem_oN.2 ⟨orb_lt hp hx hy, hy⟩)
theorem oN_perm {gs : List (List Int)} {N : Nat} (hp : PMs N gs) {x : Nat} (hx : x < N) : (orb gs N x).Perm (oN gs N x) :=
  (List.perm_ext_iff_of_nodup (orb_fd hp hx).nd (oN_nd gs N x)).2 fun y => ⟨fun hy => mem_oN.2 ⟨orb_lt hp hx hy, hy⟩, fun hy => (mem_oN.1 hy).2⟩
theorem oS_sorted (gs : List (List Int)) (N x : Nat) : (oS gs N x).Pairwise fun a b => a ≤ b := by
  unfold oS oN
  rw [List.pairwise_map]
  refine List.Pairwise.filter _ ?_
  exact (List.pairwise_lt_range (n := N)).imp fun h => by simp; omega
theorem sorted_uniq : ∀ {l l' : List Int}, l.Perm l' → l.Pairwise (· ≤ ·) → l'.Pairwise (· ≤ ·) → l = l' := fun hp h1 h2 =>
  hp.eq_of_pairwise (fun a b _ _ h h' => Int.le_antisymm h h') h1 h2
/-- Whatever sorts the search's list comes to the same list. -/
theorem oS_of {gs : List (List Int)} {N : Nat} (hp : PMs N gs) {x : Nat} (hx : x < N) {l : List Int} (h : l.Perm ((orb gs N x).map Int.ofNat)) (hs : l.Pairwise (· ≤ ·)) : l = oS gs N x :=
  sorted_uniq (h.trans ((oN_perm hp hx).map _)) hs (oS_sorted gs N x)
theorem oS_sort {gs : List (List Int)} {N : Nat} (hp : PMs N gs) {x : Nat} (hx : x < N) : (((orb gs N x).map Int.ofNat).mergeSort fun a b => decide (a ≤ b)) = oS gs N x := by
  refine oS_of hp hx (List.mergeSort_perm _ _) ?_
  have := List.pairwise_mergeSort (le := fun a b : Int => decide (a ≤ b)) (fun a b c h1 h2 => by simp at h1 h2 ⊢; omega) (fun a b => by simp; omega) ((orb gs N x).map Int.ofNat)
  exact this.imp fun h => by simpa using h

/-! ### the sweep -/
/-- y lies in the orbit of one of the first k. -/
def sn (gs : List (List Int)) (N k y : Nat) : Bool := (List.range k).any fun z => decide (y ∈ orb gs N z)
def starts (gs : List (List Int)) (N k : Nat) : List Nat := (List.range k).filter fun z => !sn gs N z z
def orbs (gs : List (List Int)) (N k : Nat) : List (List Int) := (starts gs N k).map (oS gs N)
section
variable {gs : List (List Int)} {N : Nat}
theorem sn_iff {k y : Nat} : sn gs N k y = true ↔ ∃ z, z < k ∧ y ∈ orb gs N z := by simp [sn]
theorem sn_zero (y : Nat) : sn gs N 0 y = false := rfl
theorem sn_succ (k y : Nat) : sn gs N (k + 1) y = (sn gs N k y || decide (y ∈ orb gs N k)) := by
  simp [sn, List.range_succ]
theorem sn_seen (hp : PMs N gs) {k : Nat} (hk : k < N) (h : sn gs N k k = true) (y : Nat) : sn gs N (k + 1) y = sn gs N k y := by
  rw [sn_succ]
  rcases hy : sn gs N k y with _ | _
  · obtain ⟨z, hz, hkz⟩ := sn_iff.1 h
    have : ¬ y ∈ orb gs N k := fun hy' => by
      have : sn gs N k y = true := sn_iff.2 ⟨z, hz, orb_sub hp (by omega) hkz hy'⟩
      rw [hy] at this; cases this
    simp [this]
  · rfl
theorem sn_out (hp : PMs N gs) {k u : Nat} (hk : k ≤ N) (hu : u < N) (h : sn gs N k u = false) {g : List Int} (hg : g ∈ gs) : sn gs N k (nx g u) = false := by
  rcases h' : sn gs N k (nx g u) with _ | _
  · rfl
  · obtain ⟨z, hz, hm⟩ := sn_iff.1 h'
    have : sn gs N k u = true := sn_iff.2 ⟨z, hz, orb_back hp (by omega) hu hg hm⟩
    rw [h] at this; cases this
theorem starts_no {k : Nat} (h : sn gs N k k = true) : starts gs N (k + 1) = starts gs N k := by
  simp [starts, List.range_succ, h]
theorem starts_yes {k : Nat} (h : sn gs N k k = false) : starts gs N (k + 1) = starts gs N k ++ [k] := by
  simp [starts, List.range_succ, h]
theorem orbs_no {k : Nat} (h : sn gs N k k = true) : orbs gs N (k + 1) = orbs gs N k := by rw [orbs, starts_no h, orbs]
theorem orbs_yes {k : Nat} (h : sn gs N k k = false) : orbs gs N (k + 1) = orbs gs N k ++ [oS gs N k] := by rw [orbs, starts_yes h, orbs]; simp
theorem starts_le (k : Nat) : (starts gs N k).length ≤ k := by
  have := List.length_filter_le (fun z => !sn gs N z z) (List.range k)
  simpa [starts] using this
theorem orbs_len (k : Nat) : (orbs gs N k).length = (starts gs N k).length := by simp [orbs]
theorem starts_pre {k m : Nat} (h : k ≤ m) : ∃ t, starts gs N m = starts gs N k ++ t := by
  induction m with
  | zero => exact ⟨[], by obtain rfl : k = 0 := by omega
                          simp⟩
  | succ m ih =>
    by_cases e : k = m + 1
    · exact ⟨[], by rw [e]; simp⟩
    · obtain ⟨t, ht⟩ := ih (by omega)
      rcases hs : sn gs N m m with _ | _
      · exact ⟨t ++ [m], by rw [starts_yes hs, ht, List.append_assoc]⟩
      · exact ⟨t, by rw [starts_no hs, ht]⟩
theorem orbs_pre {k m : Nat} (h : k ≤ m) : ∃ t, orbs gs N m = orbs gs N k ++ t := by
  obtain ⟨t, ht⟩ := starts_pre (gs := gs) (N := N) h
  exact ⟨t.map (oS gs N), by rw [orbs, ht, List.map_append, orbs]⟩
/-- The next orbit that comes. -/
theorem orbs_at {k : Nat} (hk : k < N) (h : sn gs N k k = false) : (orbs gs N N).getD (orbs gs N k).length [] = oS gs N k ∧ (orbs gs N k).length < (orbs gs N N).length := by
  obtain ⟨t, ht⟩ := orbs_pre (gs := gs) (N := N) (show k + 1 ≤ N from hk)
  rw [ht, orbs_yes h]
  refine ⟨?_, by simp⟩
  rw [List.append_assoc, List.getD_eq_getElem?_getD, List.getElem?_append_right (Nat.le_refl _), Nat.sub_self]
  rfl
end
end Go.Proofs.Ytedfcljikgmpgaa

/- IsGeneratorSet, of the program and of the model. Conditions: at most 1048576 lists of at most 1048576 numbers. -/
namespace Go.Proofs.Ytedfcljikgmpgaa
open Go.RowKit

/-- What IsGeneratorSet answers. -/
def gB (n : Int) (gs : List (List Int)) : Bool := decide (1 ≤ n ∧ n ≤ 20 ∧ gs.length ≤ 8 ∧ ∀ g ∈ gs, (g.length : Int) = n ∧ isP g = true)
theorem gB_iff {n : Int} {gs : List (List Int)} : gB n gs = true ↔ 1 ≤ n ∧ n ≤ 20 ∧ gs.length ≤ 8 ∧ ∀ g ∈ gs, (g.length : Int) = n ∧ isP g = true := by simp [gB]
theorem gB_no {n : Int} {gs : List (List Int)} (h : ¬ (1 ≤ n ∧ n ≤ 20 ∧ gs.length ≤ 8)) : gB n gs = false := by
  rw [← Bool.not_eq_true, gB_iff]; exact fun h' => h ⟨h'.1, h'.2.1, h'.2.2.1⟩
theorem getD_memL {l : List (List Int)} {k : Nat} (hk : k < l.length) : l.getD k [] ∈ l := by
  rw [List.getD_eq_getElem?_getD, List.getElem?_eq_getElem hk]; exact List.getElem_mem hk
theorem gB_row {n : Int} {gs : List (List Int)} {k : Nat} {y : List Int} (hk : k < gs.length) (ey : gs.getD k [] = y) (h : ¬ ((y.length : Int) = n ∧ isP y = true)) : gB n gs = false := by
  rw [← Bool.not_eq_true, gB_iff]; exact fun h' => h (by rw [← ey]; exact h'.2.2.2 _ (getD_memL hk))
theorem gB_all {n : Int} {gs : List (List Int)} (h0 : 1 ≤ n ∧ n ≤ 20 ∧ gs.length ≤ 8) (h : ∀ j, j < gs.length → ((gs.getD j []).length : Int) = n ∧ isP (gs.getD j []) = true) : gB n gs = true := by
  refine gB_iff.2 ⟨h0.1, h0.2.1, h0.2.2, fun g hg => ?_⟩
  obtain ⟨j, hj, e⟩ := List.mem_iff_getElem.1 hg
  have := h j hj
  rw [List.getD_eq_getElem?_getD, List.getElem?_eq_getElem hj] at this
  simpa [e] using this
theorem gB_pm {n : Int} {gs : List (List Int)} (h : gB n gs = true) : ∃ N : Nat, n = (N : Int) ∧ 1 ≤ N ∧ N ≤ 20 ∧ gs.length ≤ 8 ∧ PMs N gs ∧ ∀ g ∈ gs, IsP g ∧ g.length = N := by
  obtain ⟨h1, h2, h3, h4⟩ := gB_iff.1 h
  refine ⟨n.toNat, by omega, by omega, by omega, h3, fun g hg => ?_, fun g hg => ⟨isP_iff.1 (h4 g hg).2, by have := (h4 g hg).1; omega⟩⟩
  have hl : g.length = n.toNat := by have := (h4 g hg).1; omega
  rw [← hl]
  exact (isP_iff.1 (h4 g hg).2).pm

set_option maxHeartbeats 1600000 in
/-- The program's IsGeneratorSet. -/
theorem implGS (a : Int) (A : Option Addr) (n c : Nat) (vs : List SV) (xss : List (List Int)) (w : World) (hx : RR w w.heap.size A n vs xss) (hn : n ≤ 1048576) (hl : Hid (∀ i, i < n → (vs.getD i sd0).2.1 ≤ 1048576)) :
    Calls Try.prog 52 #[.int .i64 a, .slice A n c] w fun e w' => e = .returned (.bool (gB a xss)) ∧ Below w.heap.size w w' := by
  have HX := Lib.hid hx
  have hlx := hx.lx
  clear hx
  by_cases h0 : a < 1
  · have d1 : decide (a < 1) = true := by simp; omega
    have Fin := Lib.hid (gB_no (n := a) (gs := xss) (by omega))
    go_enter Try.func52, Try.ntmps52
    go_wp2
    go_ret
    exact ⟨ret_bool Fin.out.symm, Below.refl _ _⟩
  · have d1 : decide (a < 1) = false := by simp; omega
    by_cases h1 : 20 < a
    · have d2 : decide (20 < a) = true := by simp; omega
      have Fin := Lib.hid (gB_no (n := a) (gs := xss) (by omega))
      go_enter Try.func52, Try.ntmps52
      go_wp2
      go_ret
      exact ⟨ret_bool Fin.out.symm, Below.refl _ _⟩
    · have d2 : decide (20 < a) = false := by simp; omega
      by_cases h2 : 8 < n
      · have d3 : decide ((8 : Int) < n) = true := by simp; omega
        have Fin := Lib.hid (gB_no (n := a) (gs := xss) (by omega))
        go_enter Try.func52, Try.ntmps52
        go_wp2
        go_ret
        exact ⟨ret_bool Fin.out.symm, Below.refl _ _⟩
      · have d3 : decide ((8 : Int) < n) = false := by simp; omega
        go_enter Try.func52, Try.ntmps52
        go_wp2
        go_loopw [20] (fun i wr => ∃ k : Nat, k ≤ n ∧ i = .int .i64 (k : Nat) ∧ (∀ j, j < k → ((xss.getD j []).length : Int) = a ∧ isP (xss.getD j []) = true) ∧ Below w.heap.size w wr) (fun i _ => n - (intOf i).toNat)
        case atStart => exact ⟨0, Nat.zero_le _, rfl, fun j h => absurd h (by omega), Below.refl _ _⟩
        case round =>
          obtain ⟨k, hk, rfl, hz, bel⟩ := hrel
          have Hz := Lib.hid hz
          have Be := Lib.hid bel
          clear hz bel
          by_cases hlt : k < n
          · obtain ⟨b, off, A5, l, c5, y, rfl, hb, ev, ey, hc0, hr0, hy, hlc⟩ := HX.out.at_ hlt
            have hl1 := hl.out k hlt
            rw [ev] at hl1
            have c1 := (Be.out.cell (p := ⟨b, off + k, none⟩) hb).trans hc0
            have R1 := Lib.hid ((hr0.below Be.out (Nat.le_refl _)).more Be.out.size)
            have Ey := Lib.hid ey
            have Hy : Hid (y.length = l) := Lib.hid hy
            clear ev ey hc0 hr0 hy
            by_cases hla : (l : Int) = a
            · rcases hp : isP y with _ | _
              · have Fin : Hid (gB a xss = false) := Lib.hid (gB_row (by rw [hlx]; exact hlt) Ey.out (by rw [hp]; simp))
                go_wp2_with fail
                refine (implIsP A5 c5 l y wr R1.out Hy (by omega)).mono ?_
                rintro e w2 ⟨rfl, b2⟩
                have B2 : Hid (Below w.heap.size w w2) := Lib.hid (btr Be.out b2)
                clear b2
                rw [hp]
                go_wp2_with fail
                go_ret
                exact ⟨ret_bool Fin.out.symm, B2.out⟩
              · go_wp2_with fail
                refine (implIsP A5 c5 l y wr R1.out Hy (by omega)).mono ?_
                rintro e w2 ⟨rfl, b2⟩
                have B2 : Hid (Below w.heap.size w w2) := Lib.hid (btr Be.out b2)
                clear b2
                have Hp : Hid (isP y = true) := Lib.hid hp
                rw [hp]
                clear hp
                go_wp2_with fail
                go_roundw
                case rel => exact ⟨k + 1, by omega, by go_num, fun j hj => by
                  by_cases e : j = k
                  · subst e; rw [Ey.out, Hy.out]; exact ⟨hla, Hp.out⟩
                  · exact Hz.out j (by omega), B2.out⟩
                case measure => simp [intOf]; omega
            · have Fin : Hid (gB a xss = false) := Lib.hid (gB_row (by rw [hlx]; exact hlt) Ey.out (by rw [Hy.out]; exact fun h => hla h.1))
              go_wp2_with fail
              go_ret
              exact ⟨ret_bool Fin.out.symm, Be.out⟩
          · have hkn : k = n := by omega
            subst hkn
            have Fin : Hid (gB a xss = true) := Lib.hid (gB_all ⟨by omega, by omega, by omega⟩ (fun j hj => Hz.out j (by rw [← hlx]; exact hj)))
            go_wp2
            go_ret
            exact ⟨ret_bool Fin.out.symm, Be.out⟩

set_option maxHeartbeats 1600000 in
/-- The model's IsGeneratorSet. -/
theorem specGS (a : Int) (A : Option Addr) (n c : Nat) (vs : List SV) (xss : List (List Int)) (w : World) (hx : RR w w.heap.size A n vs xss) (hn : n ≤ 1048576) (hl : Hid (∀ i, i < n → (vs.getD i sd0).2.1 ≤ 1048576)) (ha : -9223372036854775808 ≤ a ∧ a ≤ 9223372036854775807) :
    Calls Try.prog 39 #[.int .i64 a, .slice A n c] w fun e w' => e = .returned (.bool (gB a xss)) ∧ Below w.heap.size w w' := by
  have HX := Lib.hid hx
  have hlx := hx.lx
  clear hx
  by_cases h0 : 1 ≤ a ∧ a ≤ 20
  · by_cases h2 : 8 < n
    · have d3 : decide ((8 : Int) < n) = true := by simp; omega
      have Fin := Lib.hid (gB_no (n := a) (gs := xss) (by omega))
      go_enter Try.func39, Try.ntmps39
      go_wp2_with (go_at_call 64; refine (inR_true _ _ _ _ (by omega) (by omega)).mono ?_; rintro e w' ⟨rfl, rfl⟩)
      go_ret
      exact ⟨ret_bool Fin.out.symm, Below.refl _ _⟩
    · have d3 : decide ((8 : Int) < n) = false := by simp; omega
      go_enter Try.func39, Try.ntmps39
      go_wp2_with (go_at_call 64; refine (inR_true _ _ _ _ (by omega) (by omega)).mono ?_; rintro e w' ⟨rfl, rfl⟩)
      go_loopw [5] (fun i wr => ∃ k : Nat, k ≤ n ∧ i = .int .i64 (k : Nat) ∧ (∀ j, j < k → ((xss.getD j []).length : Int) = a ∧ isP (xss.getD j []) = true) ∧ Below w.heap.size w wr) (fun i _ => n - (intOf i).toNat)
      case atStart => exact ⟨0, Nat.zero_le _, rfl, fun j h => absurd h (by omega), Below.refl _ _⟩
      case round =>
        obtain ⟨k, hk, rfl, hz, bel⟩ := hrel
        have Hz := Lib.hid hz
        have Be := Lib.hid bel
        clear hz bel
        by_cases hlt : k < n
        · obtain ⟨b, off, A5, l, c5, y, rfl, hb, ev, ey, hc0, hr0, hy, hlc⟩ := HX.out.at_ hlt
          have hl1 := hl.out k hlt
          rw [ev] at hl1
          have c1 := (Be.out.cell (p := ⟨b, off + k, none⟩) hb).trans hc0
          have R1 := Lib.hid ((hr0.below Be.out (Nat.le_refl _)).more Be.out.size)
          have Ey := Lib.hid ey
          have Hy : Hid (y.length = l) := Lib.hid hy
          clear ev ey hc0 hr0 hy
          by_cases hla : (l : Int) = a
          · rcases hp : isP y with _ | _
            · have Fin : Hid (gB a xss = false) := Lib.hid (gB_row (by rw [hlx]; exact hlt) Ey.out (by rw [hp]; simp))
              go_wp2_with fail
              refine (quiet_below (specIsP A5 c5 l y wr R1.out Hy (by omega) hlc)).mono ?_
              rintro e w2 ⟨rfl, b2⟩
              have B2 : Hid (Below w.heap.size w w2) := Lib.hid (btr Be.out b2)
              clear b2
              rw [hp]
              go_wp2_with fail
              go_ret
              exact ⟨ret_bool Fin.out.symm, B2.out⟩
            · go_wp2_with fail
              refine (quiet_below (specIsP A5 c5 l y wr R1.out Hy (by omega) hlc)).mono ?_
              rintro e w2 ⟨rfl, b2⟩
              have B2 : Hid (Below w.heap.size w w2) := Lib.hid (btr Be.out b2)
              clear b2
              have Hp : Hid (isP y = true) := Lib.hid hp
              rw [hp]
              clear hp
              go_wp2_with fail
              go_roundw
              case rel => exact ⟨k + 1, by omega, by go_num, fun j hj => by
                by_cases e : j = k
                · subst e; rw [Ey.out, Hy.out]; exact ⟨hla, Hp.out⟩
                · exact Hz.out j (by omega), B2.out⟩
              case measure => simp [intOf]; omega
          · have Fin : Hid (gB a xss = false) := Lib.hid (gB_row (by rw [hlx]; exact hlt) Ey.out (by rw [Hy.out]; exact fun h => hla h.1))
            go_wp2_with fail
            go_ret
            exact ⟨ret_bool Fin.out.symm, Be.out⟩
        · have hkn : k = n := by omega
          subst hkn
          have Fin : Hid (gB a xss = true) := Lib.hid (gB_all ⟨by omega, by omega, by omega⟩ (fun j hj => Hz.out j (by rw [← hlx]; exact hj)))
          go_wp2
          go_ret
          exact ⟨ret_bool Fin.out.symm, Be.out⟩
  · have Fin := Lib.hid (gB_no (n := a) (gs := xss) (by omega))
    go_enter Try.func39, Try.ntmps39
    go_wp2_with (go_at_call 64; refine (inR_false _ _ _ _ (by omega)).mono ?_; rintro e w' ⟨rfl, rfl⟩)
    go_ret
    exact ⟨ret_bool Fin.out.symm, Below.refl _ _⟩
theorem implIsGeneratorSet (a : Int) (A : Option Addr) (n c : Nat) (vs : List SV) (xss : List (List Int)) (w : World) (hx : RR w w.heap.size A n vs xss) (hn : n ≤ 1048576) (hl : Hid (∀ i, i < n → (vs.getD i sd0).2.1 ≤ 1048576)) :
    Calls Try.prog 52 #[.int .i64 a, .slice A n c] w fun e w' => e = .returned (.bool (gB a xss)) ∧ Below w.heap.size w w' := implGS a A n c vs xss w hx hn hl
theorem specIsGeneratorSet (a : Int) (A : Option Addr) (n c : Nat) (vs : List SV) (xss : List (List Int)) (w : World) (hx : RR w w.heap.size A n vs xss) (hn : n ≤ 1048576) (hl : Hid (∀ i, i < n → (vs.getD i sd0).2.1 ≤ 1048576)) (ha : -9223372036854775808 ≤ a ∧ a ≤ 9223372036854775807) :
    Calls Try.prog 39 #[.int .i64 a, .slice A n c] w fun e w' => e = .returned (.bool (gB a xss)) ∧ Below w.heap.size w w' := specGS a A n c vs xss w hx hn hl ha
end Go.Proofs.Ytedfcljikgmpgaa

/- The model's buildChain: a chain whole from level 0 on, of what the generators generate. Conditions: at most 20 points, 8 generators. -/
namespace Go.Proofs.Ytedfcljikgmpgaa
open Go.RowKit

/-- addGenerator keeps its contract at every level. -/
theorem specAddGen (base g N : Nat) (h1 : 1 ≤ N) (h2 : N ≤ 20) : ∀ m k, k + m = N → AGs base g N k
  | 0, k, e => by
    obtain rfl : k = N := by omega
    exact specAddGenTop base g k h1 h2
  | m + 1, k, e => specAddGen1 base g N k (by omega) (specAddProd base g N k (by omega) (specAddGen base g N h1 h2 m (k + 1) (by omega)))
theorem upTo0 (N : Nat) (h1 : 1 ≤ N) (h2 : N ≤ 20) : UpTo N (ch0 N) 0 := by
  have hrep : ∀ i y, (ch0 N).rep i y ≠ [] → y = i := fun i y h => by
    by_cases e : y = i
    · exact e
    · exact absurd (if_neg e) h
  have hone : ∀ i, (ch0 N).rep i i = idL N := fun i => if_pos rfl
  have hk : ∀ i, i < N → RepOK N (ch0 N) i := fun i hi => ⟨fun y hy => by
    obtain rfl := hrep i y hy
    rw [hone]; exact ⟨hi, pn_id h1 h2, fx_id (by omega), nx_id hi⟩, hone i⟩
  refine ⟨fun i _ hi => hk i hi, fun i _ _ g hg => (List.not_mem_nil hg).elim, fun i _ hi p => ⟨fun hs => ?_, fun hm => ?_⟩, fun i _ _ => Nat.zero_le _, rfl⟩
  · have : p = idL N := by
      clear hi
      induction hs with
      | top => rfl
      | @low i p hi hp hf hr _ ih =>
        have e := hrep i _ hr
        rw [e, hone, iv_id h1 h2, hp.idr] at ih
        exact ih (Nat.zero_le _)
    rw [this]; exact .one
  · rw [hm.none_]
    clear hm
    have : ∀ m i, i + m = N → Sv N (ch0 N) i (idL N) := fun m => by
      induction m with
      | zero => intro i e; obtain rfl : i = N := by omega
                exact .top
      | succ m ih =>
        intro i e
        exact (sv_down (hk i (by omega)) (by omega) (pn_id h1 h2) (fx_id (by omega)) (nx_id (by omega))).2 (ih (i + 1) (by omega))
    exact this (N - i) i (by omega)
/-- The chain is whole, and of what gs generate. -/
structure Whole (N : Nat) (gs : List (List Int)) (c : Ch) : Prop where
  up : UpTo N c 0
  mem : ∀ q, Mb (c.gen 0) N q ↔ Mb gs N q
theorem Whole.next {N : Nat} {gs : List (List Int)} {c c' : Ch} {p : List Int} (h1 : 1 ≤ N) (h2 : N ≤ 20) (hgs : ∀ g ∈ gs, Pn N g) (hp : Pn N p) (h : Whole N gs c) (ha : Ap N 0 c c' p) : Whole N (gs ++ [p]) c' := by
  have hgp : ∀ g ∈ c.gen 0, Pn N g := h.up.pn (Nat.le_refl _) (Nat.zero_le _)
  have a1 : ∀ g ∈ gs ++ [p], Pn N g := fun g hg => by
    rcases List.mem_append.1 hg with hg | hg
    · exact hgs g hg
    · obtain rfl := List.mem_singleton.1 hg; exact hp
  have a2 : ∀ g ∈ c.gen 0 ++ [p], Pn N g := fun g hg => by
    rcases List.mem_append.1 hg with hg | hg
    · exact hgp g hg
    · obtain rfl := List.mem_singleton.1 hg; exact hp
  refine ⟨ha.up, fun q => (ha.gen q).trans ⟨fun hq => hq.sub h1 h2 a1 fun g hg => ?_, fun hq => hq.sub h1 h2 a2 fun g hg => ?_⟩⟩
  · rcases List.mem_append.1 hg with hg | hg
    · exact ((h.mem g).1 (.of (hgp g hg) hg)).more fun g hg => List.mem_append_left _ hg
    · obtain rfl := List.mem_singleton.1 hg; exact .of hp (by simp)
  · rcases List.mem_append.1 hg with hg | hg
    · exact ((h.mem g).2 (.of (hgs g hg) hg)).more fun g hg => List.mem_append_left _ hg
    · obtain rfl := List.mem_singleton.1 hg; exact .of hp (by simp)

set_option maxHeartbeats 2000000 in
set_option maxRecDepth 100000 in
theorem specBuild (N n cc : Nat) (A : Option Addr) (vs : List SV) (gs : List (List Int)) (w : World) (hx : RR w w.heap.size A n vs gs) (hN1 : 1 ≤ N) (hN : N ≤ 20) (hn : n ≤ 8) (ok : Hid (∀ g ∈ gs, IsP g ∧ g.length = N)) :
    Calls Try.prog 82 #[.int .i64 (N : Nat), .slice A n cc] w fun e w' => ∃ g L c, e = .returned (.pointer (some ⟨g, 0, none⟩)) ∧ Cn w' w.heap.size g N c L ∧ Whole N gs c ∧ Below w.heap.size w w' := by
  have HX := Lib.hid hx
  have hlx : Hid (gs.length = n) := Lib.hid hx.lx
  clear hx
  go_enter Try.func82, Try.ntmps82
  go_wp2_with fail
  refine (specEmpty N w hN1 hN).mono ?_
  rintro e w1 ⟨g, L, rfl, hc1, b1⟩
  have C1 := Lib.hid hc1
  have B1 := Lib.hid b1
  have U0 := Lib.hid (upTo0 N hN1 hN)
  clear hc1 b1
  go_wp2_with fail
  go_loopw [6] (fun i wr => ∃ (j : Nat) (c : Ch) (L : LY), j ≤ n ∧ i = .int .i64 (j : Nat) ∧ Cn wr w.heap.size g N c L ∧ Whole N (gs.take j) c ∧ Below w.heap.size w wr) (fun i _ => n - (intOf i).toNat)
  case atStart => exact ⟨0, _, L, Nat.zero_le _, rfl, C1.out, ⟨U0.out, fun q => by rw [List.take_zero]; exact Iff.rfl⟩, B1.out⟩
  case round =>
    clear C1 B1 U0
    obtain ⟨j, c, L, hj, rfl, hc, hw, bel⟩ := hrel
    have C2 := Lib.hid hc
    have W2 := Lib.hid hw
    have Be := Lib.hid bel
    clear hc hw bel
    by_cases hlt : j < n
    · obtain ⟨b, off, A5, l, c5, y, rfl, hb, hv, ey, x1, ri, ly, hl5⟩ := (HX.out.up Be.out).at_ hlt
      have hyP := ok.out y (by rw [← ey]; exact getD_memL (by rw [hlx.out]; exact hlt))
      obtain rfl : l = N := by omega
      have Ri := Lib.hid ri
      have YP : Hid (Pn l y) := Lib.hid hyP
      obtain ⟨b5, off5, rfl, hb5, hc5⟩ := ri (by omega)
      have Ey := Lib.hid ey
      have q0 : (0 : Int) ≤ j := by omega
      have q1 : (j : Int) < n := by omega
      clear hv ey hb ri hb5 hc5 hyP
      go_wp2_with fail
      refine (copyRI b5 off5 l c5 y wr Ri.out (Lib.hid ly) (by omega)).mono ?_
      rintro e w2 ⟨A2, c2, rfl, s2, b2⟩
      have S2 : Hid (Slc w2 w.heap.size A2 l c2 y) := Lib.hid (s2.mono Be.out.size)
      have C3 := Lib.hid (C2.out.up b2)
      have Be2 : Hid (Below w.heap.size w w2) := Lib.hid (btr Be.out b2)
      have hz2 := Be2.out.size
      clear s2 b2
      go_wp2_with fail
      have K := specAddGen w.heap.size g l hN1 hN l 0 (by omega) c2 A2 c L y w2 C3.out S2.out YP.out Fx.zero W2.out.up
      refine K.mono ?_
      rintro e w3 ⟨c', L', rfl, hc3, hch, hmt, hap⟩
      have C4 := Lib.hid hc3
      have Be3 : Hid (Below w.heap.size w w3) := Lib.hid (Be2.out.trans (hch.below (fun k hk => (C3.out.mut hk).1) hz2))
      have W4 : Hid (Whole l (gs.take (j + 1)) c') := Lib.hid (by
        rw [List.take_succ_eq_append_getElem (by rw [hlx.out]; exact hlt)]
        have e1 : gs[j]'(by rw [hlx.out]; exact hlt) = y := by rw [← Ey.out, List.getD_eq_getElem?_getD, List.getElem?_eq_getElem (by rw [hlx.out]; exact hlt)]; rfl
        rw [e1]
        exact W2.out.next hN1 hN (fun g hg => ok.out g (List.mem_of_mem_take hg)) YP.out hap)
      clear K hc3 hch hmt hap
      go_wp2_with fail
      go_roundw
      case rel => exact ⟨j + 1, c', L', by omega, by go_num, C4.out, W4.out, Be3.out⟩
      case measure => simp [intOf]; omega
    · obtain rfl : j = n := by omega
      have W3 : Hid (Whole N gs c) := Lib.hid (by have := W2.out; rwa [List.take_of_length_le (by rw [hlx.out]; exact Nat.le_refl _)] at this)
      go_wp2_with fail
      go_ret
      exact ⟨g, L, c, rfl, C2.out, W3.out, Be.out⟩
end Go.Proofs.Ytedfcljikgmpgaa

/- What a whole chain tells: orbit sizes, the order, membership; what these are for the group. Conditions: at most 20 points, 8 generators. -/
namespace Go.Proofs.Ytedfcljikgmpgaa
open Go.RowKit

/-! ### the group's own numbers -/
section
variable {N : Nat} {gs hs : List (List Int)} {c : Ch}
theorem Whole.stab (h : Whole N gs c) (h1 : 1 ≤ N) (h2 : N ≤ 20) : ∀ i, i ≤ N → ∀ p, Mb (c.gen i) N p ↔ Mb gs N p ∧ Fx i p
  | 0, _, p => by rw [h.mem]; exact ⟨fun h => ⟨h, Fx.zero⟩, fun h => h.1⟩
  | i + 1, hi, p => by
    have ih := h.stab h1 h2 i (by omega)
    have hr := h.up.rep i (Nat.zero_le _) hi
    have hpn : ∀ g ∈ c.gen 0, Pn N g := h.up.pn (Nat.le_refl _) (Nat.zero_le _)
    constructor
    · intro hm
      have hp := hm.pn (h.up.pn (Nat.zero_le _) hi) h1 h2
      have hf : Fx (i + 1) p := by
        rcases Nat.lt_or_ge (i + 1) N with hl | hl
        · exact hm.fx (h.up.gp (i + 1) (Nat.zero_le _) hl) h1 h2 hi
        · obtain rfl : i + 1 = N := by omega
          rw [h.up.top] at hm
          rw [hm.none_]; exact fx_id (Nat.le_refl _)
      have hs := (sv_down hr hi hp (hf.mono (by omega)) (hf i (by omega))).2 ((h.up.sv (i + 1) (Nat.zero_le _) hi p).2 hm)
      exact ⟨((ih p).1 ((h.up.sv i (Nat.zero_le _) (by omega) p).1 hs)).1, hf⟩
    · rintro ⟨hm, hf⟩
      have hp := ((h.mem p).2 hm).pn hpn h1 h2
      have hs := (h.up.sv i (Nat.zero_le _) (by omega) p).2 ((ih p).2 ⟨hm, hf.mono (by omega)⟩)
      exact (h.up.sv (i + 1) (Nat.zero_le _) hi p).1 ((sv_down hr hi hp (hf.mono (by omega)) (hf i (by omega))).1 hs)
theorem Whole.rep_mb (h : Whole N gs c) (h1 : 1 ≤ N) (h2 : N ≤ 20) {i y : Nat} (hi : i < N) (hy : c.rep i y ≠ []) : Mb gs N (c.rep i y) ∧ Fx i (c.rep i y) ∧ nx (c.rep i y) i = y ∧ y < N := by
  have hl := (h.up.mono (Nat.zero_le i)).low hi h1 h2
  have h3 := (h.stab h1 h2 i (by omega) _).1 (hl.inn y hy)
  obtain ⟨a1, a2, a3, a4⟩ := hl.rep.at_ y hy
  exact ⟨h3.1, a3, a4, a1⟩
theorem Whole.rep_iff (h : Whole N gs c) (h1 : 1 ≤ N) (h2 : N ≤ 20) {i y : Nat} (hi : i < N) : c.rep i y ≠ [] ↔ ∃ p, Mb gs N p ∧ Fx i p ∧ nx p i = y := by
  constructor
  · intro hy
    obtain ⟨a, b, d, _⟩ := h.rep_mb h1 h2 hi hy
    exact ⟨_, a, b, d⟩
  · rintro ⟨p, hm, hf, rfl⟩
    exact (((h.up.sv i (Nat.zero_le _) (by omega) p).2 ((h.stab h1 h2 i (by omega) p).2 ⟨hm, hf⟩)).inv_low hi).2.2.1
/-- The sizes of the orbits of the points under the members that fix the points before them. -/
def IsOS (N : Nat) (gs : List (List Int)) (xs : List Int) : Prop := xs.length = N ∧ ∀ i, i < N → ∃ l : List Nat, l.Nodup ∧ (∀ y, y ∈ l ↔ y < N ∧ ∃ p, Mb gs N p ∧ Fx i p ∧ nx p i = y) ∧ xs.getD i 0 = (l.length : Int)
theorem IsOS.uniq {xs ys : List Int} (h : IsOS N gs xs) (h' : IsOS N gs ys) : xs = ys := by
  refine ext_getD h.1 h'.1 fun i hi => ?_
  obtain ⟨l, d, m, e⟩ := h.2 i hi
  obtain ⟨l', d', m', e'⟩ := h'.2 i hi
  have a := nd_sub d (fun x hx => (m' x).2 ((m x).1 hx))
  have b := nd_sub d' (fun x hx => (m x).2 ((m' x).1 hx))
  rw [e, e']; omega
/-- How many representatives a level has. -/
def nr (N : Nat) (c : Ch) (i m : Nat) : Nat := ((List.range m).filter fun y => !(c.rep i y).isEmpty).length
def osL (N : Nat) (c : Ch) (m : Nat) : List Int := (List.range m).map fun i => (nr N c i N : Int)
theorem nr_zero (N : Nat) (c : Ch) (i : Nat) : nr N c i 0 = 0 := rfl
theorem nr_yes {i m : Nat} (h : c.rep i m ≠ []) : nr N c i (m + 1) = nr N c i m + 1 := by
  unfold nr; rw [List.range_succ, List.filter_append]; simp [List.isEmpty_eq_false_iff.2 h]
theorem nr_no {i m : Nat} (h : c.rep i m = []) : nr N c i (m + 1) = nr N c i m := by
  unfold nr; rw [List.range_succ, List.filter_append]; simp [h]
theorem nr_le (i m : Nat) : nr N c i m ≤ m := by
  have := List.length_filter_le (fun y => !(c.rep i y).isEmpty) (List.range m)
  simpa [nr] using this
theorem osL_succ (m : Nat) : osL N c (m + 1) = osL N c m ++ [(nr N c m N : Int)] := by simp [osL, List.range_succ]
theorem osL_len (m : Nat) : (osL N c m).length = m := by simp [osL]
theorem osL_at {i m : Nat} (hi : i < m) : (osL N c m).getD i 0 = (nr N c i N : Int) := by
  unfold osL
  rw [List.getD_eq_getElem?_getD, List.getElem?_map, List.getElem?_range hi]; rfl
theorem Whole.os (h : Whole N gs c) (h1 : 1 ≤ N) (h2 : N ≤ 20) : IsOS N gs (osL N c N) := by
  refine ⟨osL_len N, fun i hi => ⟨(List.range N).filter fun y => !(c.rep i y).isEmpty, List.nodup_range.filter _, fun y => ?_, osL_at hi⟩⟩
  rw [List.mem_filter, List.mem_range, Bool.not_eq_true', List.isEmpty_eq_false_iff, h.rep_iff h1 h2 hi]
/-- Level i has a representative of i itself, and none below. -/
theorem Whole.nr_pos (h : Whole N gs c) (h1 : 1 ≤ N) {i : Nat} (hi : i < N) : 1 ≤ nr N c i N ∧ nr N c i N ≤ N - i := by
  have hr := h.up.rep i (Nat.zero_le _) hi
  constructor
  · unfold nr
    refine List.length_pos_of_mem (a := i) ?_
    rw [List.mem_filter, List.mem_range, Bool.not_eq_true', List.isEmpty_eq_false_iff]
    exact ⟨hi, by rw [hr.one]; intro e; have := idL_length N; rw [e] at this; simp at this; omega⟩
  · have : ((List.range N).filter fun y => !(c.rep i y).isEmpty).length ≤ (List.range' i (N - i)).length := by
      refine nd_sub (List.nodup_range.filter _) fun y hy => ?_
      rw [List.mem_filter, List.mem_range, Bool.not_eq_true', List.isEmpty_eq_false_iff] at hy
      obtain ⟨a1, a2, a3, a4⟩ := hr.at_ y hy.2
      have := a3.ge a2 hi
      rw [List.mem_range'_1]; omega
    simpa [nr] using this
/-- The product. -/
def prodL (l : List Int) : Int := l.foldl (fun a x => a * x) 1
theorem prodL_snoc (l : List Int) (x : Int) : prodL (l ++ [x]) = prodL l * x := by simp [prodL]
def facts : Nat → Nat → Nat
  | _, 0 => 1
  | N, m + 1 => facts N m * (N - m)
theorem facts_pos {N : Nat} : ∀ {m : Nat}, m ≤ N → 1 ≤ facts N m
  | 0, _ => Nat.le_refl _
  | m + 1, h => Nat.mul_pos (facts_pos (by omega)) (by omega)
theorem facts_mono {N m : Nat} (h : m < N) : facts N m ≤ facts N (m + 1) := Nat.le_mul_of_pos_right _ (by omega)
theorem facts_le {N : Nat} (hN : N ≤ 20) : ∀ m, m ≤ N → facts N m ≤ 2432902008176640000 := by
  have hall : ∀ N, N ≤ 20 → ∀ m, m ≤ N → facts N m ≤ 2432902008176640000 := by decide +kernel
  exact hall N hN
theorem Whole.prod_le (h : Whole N gs c) (h1 : 1 ≤ N) : ∀ m, m ≤ N → 1 ≤ prodL (osL N c m) ∧ prodL (osL N c m) ≤ (facts N m : Int)
  | 0, _ => by simp [osL, prodL, facts]
  | m + 1, hm => by
    obtain ⟨a, b⟩ := h.prod_le h1 m (by omega)
    obtain ⟨d, e⟩ := h.nr_pos h1 (i := m) hm
    rw [osL_succ, prodL_snoc]
    refine ⟨?_, ?_⟩
    · have := Int.mul_le_mul a (show (1 : Int) ≤ (nr N c m N : Int) by omega) (by omega) (by omega)
      simpa using this
    · have := Int.mul_le_mul b (show (nr N c m N : Int) ≤ ((N - m : Nat) : Int) by omega) (by omega) (by omega)
      show _ ≤ ((facts N m * (N - m) : Nat) : Int)
      rw [Int.natCast_mul]; exact this
end

set_option maxHeartbeats 400000 in
theorem specB2I (b : Bool) (w : World) : Calls Try.prog 124 #[.bool b] w fun e w' => e = .returned (.int .i64 (if b then 1 else 0)) ∧ w = w' := by
  cases b
  · go_enter Try.func124, Try.ntmps124
    go_wp2
    go_ret
    exact ⟨rfl, rfl⟩
  · go_enter Try.func124, Try.ntmps124
    go_wp2
    go_ret
    exact ⟨rfl, rfl⟩

set_option maxHeartbeats 2000000 in
set_option maxRecDepth 100000 in
theorem specSizes (base g N : Nat) (c : Ch) (L : LY) (gs : List (List Int)) (w : World) (hc : Cn w base g N c L) (hw : Whole N gs c) (hN1 : 1 ≤ N) (hN : N ≤ 20) :
    Calls Try.prog 107 #[.pointer (some ⟨g, 0, none⟩)] w fun e w' => ∃ A' c', e = .returned (.slice A' N c') ∧ Slc w' w.heap.size A' N c' (osL N c N) ∧ Below w.heap.size w w' := by
  have HC := Lib.hid hc
  have HW := Lib.hid hw
  have S0 := Lib.hid (Slc.lit0 w w.heap.size (Nat.le_refl _))
  clear hc hw
  go_enter Try.func107, Try.ntmps107
  go_wp2_with fail
  go_loopg [3, 4] N (fun gg v i wr => ∃ (k cc : Nat) (A : Option Addr), k ≤ N ∧ N - k ≤ gg ∧ i = .int .i64 (k : Nat) ∧ v = .slice A k cc ∧ Slc wr w.heap.size A k cc (osL N c k) ∧ Below w.heap.size w wr)
  case atStart => exact ⟨0, _, _, Nat.zero_le _, by omega, rfl, rfl, S0.out, (Below.refl _ _).alloc (Nat.le_refl _) _⟩
  case round =>
    clear S0
    obtain ⟨k, cc, A, hk, hgg, rfl, rfl, hs, bel⟩ := hrel
    have Ss := Lib.hid hs
    have Be := Lib.hid bel
    have C1 := Lib.hid (HC.out.up bel)
    have x0 := C1.out.c0
    clear hs bel
    by_cases hlt : k < N
    · go_wp2_with fail
      go_loopg [5, 6] N (fun gg s y wr2 => ∃ m : Nat, m ≤ N ∧ N - m ≤ gg ∧ y = .int .i64 (m : Nat) ∧ s = .int .i64 (nr N c k m : Nat) ∧ wr = wr2)
      case atStart => exact ⟨0, Nat.zero_le _, by omega, rfl, rfl, rfl⟩
      case round =>
        obtain ⟨m, hm, hg2, rfl, rfl, rfl⟩ := hrel
        by_cases hmt : m < N
        · have x1 := C1.out.c1
          have x2 := C1.out.cR hlt
          have x3 := C1.out.cro hlt hmt
          have en := C1.out.enn hlt hmt
          rcases hd : (L.en k).getD m sd0 with ⟨dA, dn, dc⟩
          rw [hd] at x3 en
          simp only [sval] at x3
          have q0 : (0 : Int) ≤ k := by omega
          have q1 : (k : Int) < N := by omega
          have q2 : (0 : Int) ≤ m := by omega
          have q3 : (m : Int) < N := by omega
          have hnm := nr_le (N := N) (c := c) k m
          have en2 : dn = (c.rep k m).length := en
          by_cases hz : c.rep k m = []
          · obtain rfl : dn = 0 := by rw [en2, hz]; rfl
            have d0 : decide ((0 : Int) < 0) = false := by decide
            have Kn := Lib.hid (nr_no (N := N) hz)
            clear hd en en2
            go_wp2_with (first | (go_at_call 124; refine (specB2I _ _).mono ?_; rintro e w' ⟨rfl, rfl⟩))
            go_roundg (N - (m + 1))
            case rel => exact ⟨m + 1, by omega, by omega, by go_num, by rw [Kn.out], rfl⟩
            case measure => omega
          · obtain rfl : dn = N := by
              have h2 := rep_ne_pos (HW.out.up.rep k (Nat.zero_le _) hlt) hz
              omega
            have d0 : decide ((0 : Int) < (dn : Int)) = true := by simp; omega
            have Kn := Lib.hid (nr_yes (N := dn) hz)
            clear hd en en2
            go_wp2_with (first | (go_at_call 124; refine (specB2I _ _).mono ?_; rintro e w' ⟨rfl, rfl⟩))
            go_roundg (dn - (m + 1))
            case rel => exact ⟨m + 1, by omega, by omega, by go_num, by rw [Kn.out]; go_num, rfl⟩
            case measure => omega
        · obtain rfl : m = N := by omega
          have hzr := Be.out.size
          have Osk := Lib.hid (osL_succ (N := m) (c := c) k)
          go_wp2_with (at_builtin; refine wpList_app1 rfl _ _ rfl w.heap.size A k cc _ rfl (Ss.out.alloc _) wr.heap.size (nr m c k m : Int) rfl (by rw [World.cell?_alloc_at _ _ _ _ rfl]; rfl) (by omega) (by simp; omega) ?_; intro A3 c3 w3 s3 g3)
          have S3 : Hid (Slc w3 w.heap.size A3 (k + 1) c3 (osL m c (k + 1))) := Lib.hid (by rw [Osk.out]; exact s3)
          have B3 : Hid (Below w.heap.size w w3) := Lib.hid ((Be.out.alloc hzr _).grown g3 (by simp; omega) (fun j hj => (Ss.out.lt_ j hj).1))
          clear s3 g3
          go_wp2_with fail
          go_roundg (m - (k + 1))
          case rel => exact ⟨k + 1, _, _, by omega, by omega, by go_num, rfl, S3.out, B3.out⟩
          case measure => omega
    · obtain rfl : k = N := by omega
      go_wp2_with fail
      go_ret
      exact ⟨_, _, rfl, Ss.out, Be.out⟩

theorem specOrder (base g N : Nat) (c : Ch) (L : LY) (gs : List (List Int)) (w : World) (hc : Cn w base g N c L) (hw : Whole N gs c) (hN1 : 1 ≤ N) (hN : N ≤ 20) :
    Calls Try.prog 81 #[.pointer (some ⟨g, 0, none⟩)] w fun e w' => e = .returned (.int .i64 (prodL (osL N c N))) ∧ Below w.heap.size w w' := by
  have HC := Lib.hid hc
  have HW := Lib.hid hw
  clear hc hw
  go_enter Try.func81, Try.ntmps81
  go_wp2_with fail
  refine (specSizes base g N c L gs w HC.out HW.out hN1 hN).mono ?_
  rintro e w1 ⟨A, cc, rfl, s1, b1⟩
  have S1 := Lib.hid s1
  have B1 := Lib.hid b1
  clear s1 b1
  go_wp2_with fail
  go_loop [3, 5] (fun o i => ∃ k : Nat, k ≤ N ∧ i = .int .i64 (k : Nat) ∧ o = .int .i64 (prodL (osL N c k))) (fun _ i => N - (intOf i).toNat)
  case atStart => exact ⟨0, Nat.zero_le _, rfl, rfl⟩
  case round =>
    obtain ⟨k, hk, rfl, rfl⟩ := hrel
    by_cases hlt : k < N
    · obtain ⟨b, off, rfl, hb, hcell⟩ := S1.out.ri_ (by rw [S1.out.1]; omega)
      have x1 := hcell k (by rw [S1.out.1]; exact hlt)
      rw [osL_at hlt] at x1
      have pl := HW.out.prod_le hN1 (k + 1) hlt
      have pf := facts_le hN (k + 1) hlt
      rw [osL_succ, prodL_snoc] at pl
      have wr1 : IntKind.i64.wrap (prodL (osL N c k) * (nr N c k N : Int)) = prodL (osL N c k) * (nr N c k N : Int) := by rw [IntKind.wrap_i64]; omega
      have e1 : prodL (osL N c (k + 1)) = prodL (osL N c k) * (nr N c k N : Int) := by rw [osL_succ, prodL_snoc]
      have E1 := Lib.hid e1
      have q0 : (0 : Int) ≤ k := by omega
      have q1 : (k : Int) < N := by omega
      clear hb hcell pl pf e1
      go_wp2_with fail
      go_round
      case rel => exact ⟨k + 1, by omega, by go_num, by rw [E1.out]⟩
      case measure => simp [intOf]; omega
    · obtain rfl : k = N := by omega
      go_wp2_with fail
      go_ret
      exact ⟨rfl, B1.out⟩
end Go.Proofs.Ytedfcljikgmpgaa

/- How many members a group of permutations and its stabilizers have: the product of the orbit sizes; conjugate groups. No Go in it. No condition. -/
namespace Go.Proofs.Ytedfcljikgmpgaa
open Go.RowKit

/-! ### lists without repeats -/
theorem nd_subA {α : Type} [BEq α] [LawfulBEq α] {l' : List α} : ∀ {l : List α}, l'.Nodup → (∀ x ∈ l', x ∈ l) → l'.length ≤ l.length := by
  induction l' with
  | nil => intro l _ _; simp
  | cons a t ih =>
    intro l hd h
    rw [List.nodup_cons] at hd
    have ha : a ∈ l := h a (by simp)
    have := ih (l := l.erase a) hd.2 fun x hx => by
      have hne : x ≠ a := fun e => hd.1 (e ▸ hx)
      exact (List.mem_erase_of_ne hne).2 (h x (by simp [hx]))
    rw [List.length_erase_of_mem ha] at this
    have h0 : 0 < l.length := List.length_pos_of_mem ha
    simp; omega
theorem nd_mapA {α β : Type} {f : α → β} {l : List α} (hd : l.Nodup) (hf : ∀ x ∈ l, ∀ y ∈ l, f x = f y → x = y) : (l.map f).Nodup := by
  induction l with
  | nil => simp
  | cons a t ih =>
    rw [List.nodup_cons] at hd
    rw [List.map_cons, List.nodup_cons]
    refine ⟨fun hm => ?_, ih hd.2 fun x hx y hy => hf x (by simp [hx]) y (by simp [hy])⟩
    obtain ⟨b, hb, e⟩ := List.mem_map.1 hm
    have := hf b (by simp [hb]) a (by simp) e
    subst this
    exact hd.1 hb
theorem flat_nd {β : Type} {f : Nat → List β} {m : Nat} : ∀ {O : List Nat}, O.Nodup → (∀ y ∈ O, (f y).Nodup) → (∀ y ∈ O, ∀ z ∈ O, y ≠ z → ∀ p, p ∈ f y → p ∉ f z) → (∀ y ∈ O, (f y).length = m) →
    (O.flatMap f).Nodup ∧ (O.flatMap f).length = O.length * m
  | [], _, _, _, _ => by simp
  | a :: t, hd, h1, h2, h3 => by
    rw [List.nodup_cons] at hd
    obtain ⟨i1, i2⟩ := flat_nd (O := t) hd.2 (fun y hy => h1 y (by simp [hy])) (fun y hy z hz => h2 y (by simp [hy]) z (by simp [hz])) (fun y hy => h3 y (by simp [hy]))
    rw [List.flatMap_cons]
    refine ⟨List.nodup_append.2 ⟨h1 a (by simp), i1, fun p hp q hq e => ?_⟩, ?_⟩
    · subst e
      obtain ⟨z, hz, hq⟩ := List.mem_flatMap.1 hq
      exact h2 a (by simp) z (by simp [hz]) (fun e => hd.1 (e ▸ hz)) p hp hq
    · rw [List.length_append, i2, h3 a (by simp), List.length_cons, Nat.succ_mul]; omega

/-! ### how many -/
def Crd (P : List Int → Prop) (v : Nat) : Prop := ∃ l : List (List Int), l.Nodup ∧ (∀ p, p ∈ l ↔ P p) ∧ v = l.length
section
variable {P Q : List Int → Prop} {v u : Nat}
theorem Crd.uniq (h : Crd P v) (h' : Crd P u) : v = u := by
  obtain ⟨l, d, m, rfl⟩ := h
  obtain ⟨l', d', m', rfl⟩ := h'
  have a := nd_subA d fun x hx => (m' x).2 ((m x).1 hx)
  have b := nd_subA d' fun x hx => (m x).2 ((m' x).1 hx)
  omega
theorem Crd.congr (h : Crd P v) (e : ∀ p, P p ↔ Q p) : Crd Q v := by
  obtain ⟨l, d, m, rfl⟩ := h
  exact ⟨l, d, fun p => (m p).trans (e p), rfl⟩
theorem Crd.map (h : Crd P v) (f : List Int → List Int) (hf : ∀ p, P p → ∀ q, P q → f p = f q → p = q) (e : ∀ q, Q q ↔ ∃ p, P p ∧ q = f p) : Crd Q v := by
  obtain ⟨l, d, m, rfl⟩ := h
  refine ⟨l.map f, nd_mapA d fun x hx y hy => hf x ((m x).1 hx) y ((m y).1 hy), fun q => ?_, by simp⟩
  rw [e, List.mem_map]
  exact ⟨fun ⟨p, hp, e⟩ => ⟨p, (m p).1 hp, e.symm⟩, fun ⟨p, hp, e⟩ => ⟨p, (m p).2 hp, e.symm⟩⟩
end

/-! ### the product of the orbit sizes from one level on -/
def pr (xs : List Int) (k : Nat) : Nat → Int
  | 0 => 1
  | m + 1 => pr xs k m * xs.getD (k + m) 0
theorem pr_front (xs : List Int) (k : Nat) : ∀ m, pr xs k (m + 1) = xs.getD k 0 * pr xs (k + 1) m
  | 0 => by show (1 : Int) * xs.getD (k + 0) 0 = xs.getD k 0 * 1; rw [Int.one_mul, Int.mul_one]; rfl
  | m + 1 => by
    show pr xs k (m + 1) * xs.getD (k + (m + 1)) 0 = xs.getD k 0 * (pr xs (k + 1) m * xs.getD (k + 1 + m) 0)
    rw [pr_front xs k m, Int.mul_assoc, show k + (m + 1) = k + 1 + m by omega]
theorem prodL_take (xs : List Int) : ∀ m, m ≤ xs.length → prodL (xs.take m) = pr xs 0 m
  | 0, _ => rfl
  | m + 1, h => by
    rw [List.take_succ_eq_append_getElem (by omega), prodL_snoc, prodL_take xs m (by omega)]
    show _ = pr xs 0 m * xs.getD (0 + m) 0
    rw [Nat.zero_add, List.getD_eq_getElem?_getD, List.getElem?_eq_getElem (by omega)]; rfl
theorem prodL_pr (xs : List Int) : prodL xs = pr xs 0 xs.length := by rw [← prodL_take xs _ (Nat.le_refl _), List.take_length]
section
variable {N : Nat} {gs : List (List Int)} {xs : List Int}
theorem IsOS.card (h : IsOS N gs xs) (hg : ∀ g ∈ gs, Pn N g) (h1 : 1 ≤ N) (h2 : N ≤ 20) : ∀ m k, k + m = N → ∃ v, Crd (fun p => Mb gs N p ∧ Fx k p) v ∧ pr xs k m = (v : Int)
  | 0, k, e => by
    obtain rfl : k = N := by omega
    refine ⟨1, ⟨[idL k], by simp, fun p => ?_, rfl⟩, rfl⟩
    rw [List.mem_singleton]
    exact ⟨fun e => e ▸ ⟨.one, fx_id (Nat.le_refl _)⟩, fun ⟨a, b⟩ => b.all (a.pn hg h1 h2)⟩
  | m + 1, k, e => by
    obtain ⟨v, ⟨l, d, hm, rfl⟩, hv⟩ := h.card hg h1 h2 m (k + 1) (by omega)
    obtain ⟨O, dO, hO, ex⟩ := h.2 k (by omega)
    have hk : k < N := by omega
    have hr : ∃ r : Nat → List Int, ∀ y ∈ O, Mb gs N (r y) ∧ Fx k (r y) ∧ nx (r y) k = y := by
      refine ⟨fun y => if hy : y ∈ O then Classical.choose ((hO y).1 hy).2 else [], fun y hy => ?_⟩
      simp only [hy, dif_pos]
      exact Classical.choose_spec ((hO y).1 hy).2
    obtain ⟨r, hr⟩ := hr
    have hpn : ∀ p, Mb gs N p → Pn N p := fun p hp => hp.pn hg h1 h2
    have hat : ∀ y ∈ O, ∀ p, p ∈ l → nx (compL p (r y)) k = y := fun y hy p hp => by
      have h3 := (hm p).1 hp
      rw [(hpn p h3.1).nxc hk, h3.2 k (by omega), (hr y hy).2.2]
    obtain ⟨i1, i2⟩ := flat_nd (O := O) (f := fun y => l.map fun p => compL p (r y)) (m := l.length) dO
      (fun y hy => nd_mapA d fun p hp q hq e => by
        have hp' := hpn p ((hm p).1 hp).1
        have hq' := hpn q ((hm q).1 hq).1
        have hry := hpn _ (hr y hy).1
        have : compL (compL p (r y)) (iv (r y)) = compL (compL q (r y)) (iv (r y)) := congrArg (fun t => compL t (iv (r y))) e
        rw [hp'.assoc hry, hq'.assoc hry, hry.ci, hp'.idr, hq'.idr] at this
        exact this)
      (fun y hy z hz hne p hp hp2 => by
        obtain ⟨q, hq, rfl⟩ := List.mem_map.1 hp
        obtain ⟨q', hq', e'⟩ := List.mem_map.1 hp2
        exact hne (by rw [← hat y hy q hq, ← hat z hz q' hq', e']))
      (fun y hy => by simp)
    refine ⟨O.length * l.length, ⟨_, i1, fun p => ?_, i2.symm⟩, ?_⟩
    · rw [List.mem_flatMap]
      constructor
      · rintro ⟨y, hy, hp⟩
        obtain ⟨q, hq, rfl⟩ := List.mem_map.1 hp
        obtain ⟨a, b⟩ := (hm q).1 hq
        obtain ⟨a', b', _⟩ := hr y hy
        exact ⟨a.comp hg h1 h2 a', (b.mono (by omega)).comp (hpn q a) b' (by omega)⟩
      · rintro ⟨a, b⟩
        have hp := hpn p a
        have hy : nx p k ∈ O := (hO _).2 ⟨hp.lt hk, p, a, b, rfl⟩
        obtain ⟨a', b', e'⟩ := hr _ hy
        have hrp := hpn _ a'
        refine ⟨_, hy, List.mem_map.2 ⟨compL p (iv (r (nx p k))), (hm _).2 ⟨a.comp hg h1 h2 (a'.inv hg h1 h2), ?_⟩, ?_⟩⟩
        · refine Fx.succ (b.comp hp (b'.iv hrp (by omega)) (by omega)) ?_
          rw [hp.nxc hk]
          have := hrp.nxi (x := k) hk
          rw [e'] at this; exact this
        · rw [hp.assoc hrp.iv, hrp.ic, hp.idr]
    · rw [pr_front, ex, hv, Int.natCast_mul]
/-- The order is the number of members. -/
theorem IsOS.order (h : IsOS N gs xs) (hg : ∀ g ∈ gs, Pn N g) (h1 : 1 ≤ N) (h2 : N ≤ 20) : ∃ v, Crd (Mb gs N) v ∧ prodL xs = (v : Int) := by
  obtain ⟨v, hc, e⟩ := h.card hg h1 h2 N 0 (by omega)
  exact ⟨v, hc.congr fun p => ⟨fun h => h.1, fun h => ⟨h, Fx.zero⟩⟩, by rw [prodL_pr, h.1]; exact e⟩
end

section
variable {N : Nat} {gs : List (List Int)} {xs : List Int}
theorem IsOS.bnd (h : IsOS N gs xs) (hg : ∀ g ∈ gs, Pn N g) (h1 : 1 ≤ N) (h2 : N ≤ 20) {i : Nat} (hi : i < N) : 1 ≤ xs.getD i 0 ∧ xs.getD i 0 ≤ ((N - i : Nat) : Int) := by
  obtain ⟨l, d, m, e⟩ := h.2 i hi
  rw [e]
  constructor
  · have : i ∈ l := (m i).2 ⟨hi, idL N, .one, fx_id (by omega), nx_id hi⟩
    have := List.length_pos_of_mem this
    omega
  · have : l.length ≤ (List.range' i (N - i)).length := by
      refine nd_sub d fun y hy => ?_
      obtain ⟨hy, p, hp, hf, rfl⟩ := (m y).1 hy
      have := hf.ge (hp.pn hg h1 h2) hi
      rw [List.mem_range'_1]; omega
    rw [List.length_range'] at this
    omega
theorem IsOS.pr_le (h : IsOS N gs xs) (hg : ∀ g ∈ gs, Pn N g) (h1 : 1 ≤ N) (h2 : N ≤ 20) (k : Nat) : ∀ m, k + m ≤ N → 1 ≤ pr xs k m ∧ pr xs k m ≤ (facts N (k + m) : Int)
  | 0, hm => by
    have := facts_pos (N := N) (m := k) (by omega)
    exact ⟨Int.le_refl _, by show (1 : Int) ≤ (facts N (k + 0) : Int); rw [Nat.add_zero]; omega⟩
  | m + 1, hm => by
    obtain ⟨a, b⟩ := h.pr_le hg h1 h2 k m (by omega)
    obtain ⟨d, e⟩ := h.bnd hg h1 h2 (i := k + m) (by omega)
    show 1 ≤ pr xs k m * xs.getD (k + m) 0 ∧ pr xs k m * xs.getD (k + m) 0 ≤ ((facts N (k + m) * (N - (k + m)) : Nat) : Int)
    refine ⟨?_, ?_⟩
    · have := Int.mul_le_mul a d (by omega) (by omega)
      simpa using this
    · rw [Int.natCast_mul]
      exact Int.mul_le_mul b e (by omega) (by omega)
end

/-! ### conjugate groups -/
def cj (o p : List Int) : List Int := compL (compL (iv o) p) o
section
variable {N : Nat} {o p q m : List Int} {gs : List (List Int)}
theorem Pn.iviv (ho : Pn N o) : Proofs.Ytedfcljikgmpgaa.iv (Proofs.Ytedfcljikgmpgaa.iv o) = o := ho.iv.iv.ext ho fun x hx => by
  refine ho.iv.inj (ho.iv.iv.lt hx) (ho.lt hx) ?_
  rw [ho.iv.nxi' hx, ho.nxi hx]
theorem cj_pn (ho : Pn N o) (hp : Pn N p) : Pn N (cj o p) := (ho.iv.comp hp).comp ho
theorem cj_nx (ho : Pn N o) (hp : Pn N p) {x : Nat} (hx : x < N) : nx (cj o p) x = nx o (nx p (nx (iv o) x)) := by
  unfold cj; rw [(ho.iv.comp hp).nxc hx, ho.iv.nxc hx]
theorem cj_id (ho : Pn N o) : cj o (idL N) = idL N := by unfold cj; rw [ho.iv.idr, ho.ic]
theorem cj_mul (ho : Pn N o) (hp : Pn N p) (hq : Pn N q) : cj o (compL p q) = compL (cj o p) (cj o q) :=
  (cj_pn ho (hp.comp hq)).ext ((cj_pn ho hp).comp (cj_pn ho hq)) fun x hx => by
    rw [cj_nx ho (hp.comp hq) hx, (cj_pn ho hp).nxc hx, cj_nx ho hp hx, cj_nx ho hq (ho.lt (hp.lt (ho.iv.lt hx))), ho.nxi (hp.lt (ho.iv.lt hx)), hp.nxc (ho.iv.lt hx)]
theorem cj_back (ho : Pn N o) (hp : Pn N p) : cj (iv o) (cj o p) = p :=
  (cj_pn ho.iv (cj_pn ho hp)).ext hp fun x hx => by
    rw [cj_nx ho.iv (cj_pn ho hp) hx, ho.iviv, cj_nx ho hp (ho.lt hx), ho.nxi hx, ho.nxi (hp.lt hx)]
theorem cj_mb (ho : Pn N o) (hg : ∀ g ∈ gs, Pn N g) (q : List Int) : Mb (gs.map (cj o)) N q ↔ ∃ p, Mb gs N p ∧ q = cj o p := by
  have h1 := ho.pos.1
  have h2 := ho.pos.2
  constructor
  · intro h
    induction h with
    | one => exact ⟨_, .one, (cj_id ho).symm⟩
    | mul _ hm ih =>
      obtain ⟨p, hp, rfl⟩ := ih
      obtain ⟨g, hg', rfl⟩ := List.mem_map.1 hm
      exact ⟨_, .mul hp hg', (cj_mul ho (hp.pn hg h1 h2) (hg _ hg')).symm⟩
  · rintro ⟨p, hp, rfl⟩
    induction hp with
    | one => rw [cj_id ho]; exact .one
    | mul hp hm ih =>
      rw [cj_mul ho (hp.pn hg h1 h2) (hg _ hm)]
      exact .mul ih (List.mem_map.2 ⟨_, hm, rfl⟩)
/-- The points of the list are fixed. -/
def Fxs (pts p : List Int) : Prop := ∀ j, j < pts.length → nx p (nx pts j) = nx pts j
theorem cj_fx (hm : Pn N m) (hp : Pn N p) {pts : List Int} (hk : pts.length ≤ N) (hpre : ∀ j, j < pts.length → m.getD j 0 = pts.getD j 0) : Fx pts.length (cj (iv m) p) ↔ Fxs pts p := by
  have e : ∀ j, j < pts.length → nx m j = nx pts j := fun j hj => by unfold nx; rw [hpre j hj]
  constructor
  · intro h j hj
    have h3 := h j hj
    rw [cj_nx hm.iv hp (by omega), hm.iviv] at h3
    rw [← e j hj]
    exact hm.iv.inj (hp.lt (hm.lt (by omega))) (hm.lt (by omega)) (by rw [h3, hm.nxi (by omega)])
  · intro h j hj
    rw [cj_nx hm.iv hp (by omega), hm.iviv, e j hj, h j hj, ← e j hj, hm.nxi (by omega)]
/-- The stabilizer of the first points of m, counted in the conjugate group. -/
theorem cj_card {xs pts : List Int} (hm : Pn N m) (hg : ∀ g ∈ gs, Pn N g) (h : IsOS N (gs.map (cj (iv m))) xs) (hk : pts.length ≤ N) (hpre : ∀ j, j < pts.length → m.getD j 0 = pts.getD j 0) :
    ∃ v, Crd (fun p => Mb gs N p ∧ Fxs pts p) v ∧ pr xs pts.length (N - pts.length) = (v : Int) := by
  have h1 := hm.pos.1
  have h2 := hm.pos.2
  have hpn : ∀ p, Mb gs N p → Pn N p := fun p hp => hp.pn hg h1 h2
  have hg' : ∀ g ∈ gs.map (cj (iv m)), Pn N g := fun g hg1 => by
    obtain ⟨p, hp, rfl⟩ := List.mem_map.1 hg1
    exact cj_pn hm.iv (hg p hp)
  obtain ⟨v, hc, e⟩ := h.card hg' h1 h2 (N - pts.length) pts.length (by omega)
  refine ⟨v, hc.map (cj m) (fun p hp q hq e2 => ?_) (fun q => ?_), e⟩
  · rw [← cj_back hm (hp.1.pn hg' h1 h2), e2, cj_back hm (hq.1.pn hg' h1 h2)]
  · constructor
    · rintro ⟨a, b⟩
      refine ⟨cj (iv m) q, ⟨(cj_mb hm.iv hg _).2 ⟨q, a, rfl⟩, (cj_fx hm (hpn q a) hk hpre).2 b⟩, ?_⟩
      have := cj_back hm.iv (hpn q a)
      rw [hm.iviv] at this; exact this.symm
    · rintro ⟨p, ⟨a, b⟩, rfl⟩
      obtain ⟨q, hq, rfl⟩ := (cj_mb hm.iv hg _).1 a
      have := cj_back hm.iv (hpn q hq)
      rw [hm.iviv] at this
      rw [this]
      exact ⟨hq, (cj_fx hm (hpn q hq) hk hpre).1 b⟩
end
end Go.Proofs.Ytedfcljikgmpgaa

/- insertSorted and sortedInts of the model. No condition but lengths. -/
namespace Go.Proofs.Ytedfcljikgmpgaa
open Go.RowKit

/-- The sorted list with v put in at k. -/
def putIn (ys : List Int) (k : Nat) (v : Int) : List Int := ys.take k ++ [v] ++ ys.drop k
theorem putIn_perm (ys : List Int) (k : Nat) (v : Int) : (putIn ys k v).Perm (v :: ys) := by
  unfold putIn
  have h : (ys.take k ++ [v]).Perm (v :: ys.take k) := List.perm_append_comm
  have := h.append_right (ys.drop k)
  rw [List.cons_append, List.take_append_drop] at this
  exact this
theorem putIn_sorted {ys : List Int} {k : Nat} {v : Int} (hs : ys.Pairwise (· ≤ ·)) (h1 : ∀ j, j < k → ys.getD j 0 < v) (h2 : k < ys.length → v ≤ ys.getD k 0) : (putIn ys k v).Pairwise (· ≤ ·) := by
  unfold putIn
  have hd : ∀ b ∈ ys.drop k, v ≤ b := fun b hb => by
    obtain ⟨j, hj, e⟩ := List.mem_iff_getElem.1 hb
    rw [List.length_drop] at hj
    rw [List.getElem_drop] at e
    have h3 := h2 (by omega)
    rw [List.getD_eq_getElem?_getD, List.getElem?_eq_getElem (by omega : k < ys.length)] at h3
    rw [List.pairwise_iff_getElem] at hs
    rw [← e]
    by_cases e0 : j = 0
    · subst e0; simpa using h3
    · have := hs k (k + j) (by omega) (by omega) (by omega)
      have h3' : v ≤ ys[k] := by simpa using h3
      omega
  have ht : ∀ a ∈ ys.take k, a < v := fun a ha => by
    obtain ⟨j, hj, e⟩ := List.mem_iff_getElem.1 ha
    rw [List.length_take] at hj
    rw [List.getElem_take] at e
    have := h1 j (by omega)
    rw [List.getD_eq_getElem?_getD, List.getElem?_eq_getElem (by omega)] at this
    rw [← e]; simpa using this
  rw [List.append_assoc, List.pairwise_append]
  refine ⟨hs.sublist (List.take_sublist _ _), ?_, fun a ha b hb => ?_⟩
  · rw [List.singleton_append, List.pairwise_cons]
    exact ⟨hd, hs.sublist (List.drop_sublist _ _)⟩
  · have := ht a ha
    rcases List.mem_append.1 hb with hb | hb
    · obtain rfl : b = v := by simpa using hb
      omega
    · have := hd b hb; omega

set_option maxHeartbeats 2000000 in
set_option maxRecDepth 100000 in
/-- insertSorted, of a number that the list lacks. -/
theorem specIns (g n c base : Nat) (ys : List Int) (v : Int) (w : World) (h : Slc w base (some ⟨g, 0, none⟩) n c ys) (hv : Hid (v ∉ ys)) (hn : n ≤ 1000) :
    Calls Try.prog 132 #[.slice (some ⟨g, 0, none⟩) n c, .int .i64 v] w fun e w' => ∃ g' c' zs, e = .returned (.slice (some ⟨g', 0, none⟩) (n + 1) c') ∧ Slc w' w.heap.size (some ⟨g', 0, none⟩) (n + 1) c' zs ∧ zs.Perm (v :: ys) ∧ (ys.Pairwise (· ≤ ·) → zs.Pairwise (· ≤ ·)) ∧ Below w.heap.size w w' := by
  have H := Lib.hid h
  have lx := h.1
  have hnc := h.le.1
  have ri := Lib.hid h.ri_
  clear h
  go_enter Try.func132, Try.ntmps132
  go_wp2
  go_loop [5] (fun i => ∃ k : Nat, k ≤ n ∧ i = .int .i64 (k : Nat) ∧ ∀ j, j < k → ys.getD j 0 < v) (fun i => n - (intOf i).toNat)
  case atStart => exact ⟨0, Nat.zero_le _, rfl, fun j h => absurd h (by omega)⟩
  case round =>
    obtain ⟨k, hk, rfl, hz⟩ := hrel
    have Hz := Lib.hid hz
    clear hz
    have EndIt : Hid (∀ (hge : k < n → v ≤ ys.getD k 0), (putIn ys k v).Perm (v :: ys) ∧ (ys.Pairwise (· ≤ ·) → (putIn ys k v).Pairwise (· ≤ ·))) := Lib.hid fun hge => ⟨putIn_perm _ _ _, fun hs => putIn_sorted hs Hz.out (fun h => hge (by rw [← lx]; exact h))⟩
    have RIt : Hid (RI w w.heap.size (some ⟨g, 0, none⟩) (ys.take k)) := Lib.hid (takeRI ri.out k)
    have ltk : Hid ((ys.take k).length = k) := Lib.hid (by rw [List.length_take]; omega)
    have ldr : Hid ((ys.drop k).length = n - k) := Lib.hid (by rw [List.length_drop]; omega)
    have DrX : Hid (∀ w3 : World, Below w.heap.size w w3 → RI w3 w3.heap.size (some ⟨g, k, none⟩) (ys.drop k)) := Lib.hid fun w3 hb => dropRI H.out hb fun _ => rfl
    have ld0 : Hid (c = k → (ys.drop k).length = 0) := Lib.hid fun e => by have := ldr.out; omega
    have Dr0 : Hid (c = k → ∀ w3 : World, Below w.heap.size w w3 → RI w3 w3.heap.size (some ⟨g, 0, none⟩) (ys.drop k)) := Lib.hid fun e w3 hb => dropRI H.out hb fun h => by omega
    have p1 : (k : Int) ≤ c := by omega
    by_cases hlt : k < n
    · obtain ⟨b, off, e1, hb, hc⟩ := ri.out (by rw [lx]; omega)
      have c1 := hc k (by rw [lx]; exact hlt)
      obtain ⟨rfl, rfl⟩ : g = b ∧ 0 = off := by injection e1 with e1; injection e1 with e1 e2; exact ⟨e1, e2⟩
      rw [Nat.zero_add] at c1
      have hne : ys.getD k 0 ≠ v := fun e => hv.out (by rw [← e]; exact (by rw [List.getD_eq_getElem?_getD, List.getElem?_eq_getElem (by omega)]; exact List.getElem_mem _))
      obtain ⟨u, eu⟩ : ∃ u, ys.getD k 0 = u := ⟨_, rfl⟩
      rw [eu] at c1 hne
      have Eu := Lib.hid eu
      clear eu hc e1
      by_cases hlv : u < v
      · go_wp2
        go_round
        case rel => exact ⟨k + 1, by omega, by go_num, fun j hj => by
          by_cases e : j = k
          · subst e; rw [Eu.out]; exact hlv
          · exact Hz.out j (by omega)⟩
        case measure => simp [intOf]; omega
      · have Z := Lib.hid (EndIt.out (fun _ => by rw [Eu.out]; omega))
        have hck : ¬ c = k := by omega
        clear EndIt
        go_wp2_with fail
        refine (copyRI g 0 k _ (ys.take k) w RIt.out ltk.out (by omega)).mono ?_
        rintro e w2 ⟨A2, c2, rfl, s2, b2⟩
        have S2 := Lib.hid s2
        have B2 := Lib.hid b2
        have Z2 := b2.size
        clear s2 b2
        go_wp2_with (first
            | (at_builtin; refine wpList_app1 rfl _ _ rfl w.heap.size A2 k c2 _ rfl (S2.out.alloc _) w2.heap.size v rfl (by rw [World.cell?_alloc_at _ _ _ _ rfl]; rfl) (by omega) (by simp; omega) ?_; intro A3 c3 w3 s3 g3; have B3 : Hid (Below w.heap.size w w3) := Lib.hid ((B2.out.alloc B2.out.size _).grown g3 (by simp; omega) (fun j hj => (S2.out.lt_ j hj).1)); have S3 := Lib.hid s3; clear s3 g3)
            | (at_builtin; refine wpList_appN rfl _ _ rfl w.heap.size A3 (k + 1) c3 _ rfl S3.out g k (n - k) (c - k) (ys.drop k) rfl (DrX.out _ B3.out) ldr.out (by omega) B3.out.size ?_; intro A4 c4 w4 s4 g4))
        have S4 : Hid (Slc w4 w.heap.size A4 (n + 1) c4 (putIn ys k v)) := Lib.hid (by
          have := s4
          rw [show k + 1 + (n - k) = n + 1 from by omega] at this
          exact this)
        have B4 : Hid (Below w.heap.size w w4) := Lib.hid (B3.out.grown g4 B3.out.size (fun j hj => (S3.out.lt_ j hj).1))
        rw [show k + 1 + (n - k) = n + 1 from by omega]
        clear s4 g4
        obtain ⟨q4, rfl⟩ : ∃ q4, A4 = some ⟨q4, 0, none⟩ := by
          rcases S4.out.at_ with ⟨_, _, e0, _⟩ | ⟨q4, e0, _, _⟩
          · omega
          · exact ⟨q4, e0⟩
        go_wp2
        go_ret
        exact ⟨_, _, _, rfl, S4.out, Z.out.1, Z.out.2, B4.out⟩
    · have hkn : k = n := by omega
      have Z := Lib.hid (EndIt.out (fun h => absurd h hlt))
      subst hkn
      clear EndIt
      by_cases hck : c = k
      · subst hck
        go_wp2_with fail
        refine (copyRI g 0 c _ (ys.take c) w RIt.out ltk.out (by omega)).mono ?_
        rintro e w2 ⟨A2, c2, rfl, s2, b2⟩
        have S2 := Lib.hid s2
        have B2 := Lib.hid b2
        have Z2 := b2.size
        clear s2 b2
        go_wp2_with (first
            | (at_builtin; refine wpList_app1 rfl _ _ rfl w.heap.size A2 c c2 _ rfl (S2.out.alloc _) w2.heap.size v rfl (by rw [World.cell?_alloc_at _ _ _ _ rfl]; rfl) (by omega) (by simp; omega) ?_; intro A3 c3 w3 s3 g3; have B3 : Hid (Below w.heap.size w w3) := Lib.hid ((B2.out.alloc B2.out.size _).grown g3 (by simp; omega) (fun j hj => (S2.out.lt_ j hj).1)); have S3 := Lib.hid s3; clear s3 g3)
            | (at_builtin; refine wpList_appN rfl _ _ rfl w.heap.size A3 (c + 1) c3 _ rfl S3.out g 0 0 0 (ys.drop c) rfl (Dr0.out trivial _ B3.out) (ld0.out trivial) (by omega) B3.out.size ?_; intro A4 c4 w4 s4 g4))
        have S4 : Hid (Slc w4 w.heap.size A4 (c + 1) c4 (putIn ys c v)) := Lib.hid s4
        have B4 : Hid (Below w.heap.size w w4) := Lib.hid (B3.out.grown g4 B3.out.size (fun j hj => (S3.out.lt_ j hj).1))
        clear s4 g4
        obtain ⟨q4, rfl⟩ : ∃ q4, A4 = some ⟨q4, 0, none⟩ := by
          rcases S4.out.at_ with ⟨_, _, e0, _⟩ | ⟨q4, e0, _, _⟩
          · omega
          · exact ⟨q4, e0⟩
        go_wp2
        go_ret
        exact ⟨_, _, _, rfl, S4.out, Z.out.1, Z.out.2, B4.out⟩
      · have ld1 : Hid ((ys.drop k).length = k - k) := ldr
        go_wp2_with fail
        refine (copyRI g 0 k _ (ys.take k) w RIt.out ltk.out (by omega)).mono ?_
        rintro e w2 ⟨A2, c2, rfl, s2, b2⟩
        have S2 := Lib.hid s2
        have B2 := Lib.hid b2
        have Z2 := b2.size
        clear s2 b2
        go_wp2_with (first
            | (at_builtin; refine wpList_app1 rfl _ _ rfl w.heap.size A2 k c2 _ rfl (S2.out.alloc _) w2.heap.size v rfl (by rw [World.cell?_alloc_at _ _ _ _ rfl]; rfl) (by omega) (by simp; omega) ?_; intro A3 c3 w3 s3 g3; have B3 : Hid (Below w.heap.size w w3) := Lib.hid ((B2.out.alloc B2.out.size _).grown g3 (by simp; omega) (fun j hj => (S2.out.lt_ j hj).1)); have S3 := Lib.hid s3; clear s3 g3)
            | (at_builtin; refine wpList_appN rfl _ _ rfl w.heap.size A3 (k + 1) c3 _ rfl S3.out g k 0 (c - k) (ys.drop k) rfl (DrX.out _ B3.out) (by rw [ld1.out]; omega) (by omega) B3.out.size ?_; intro A4 c4 w4 s4 g4))
        have S4 : Hid (Slc w4 w.heap.size A4 (k + 1) c4 (putIn ys k v)) := Lib.hid s4
        have B4 : Hid (Below w.heap.size w w4) := Lib.hid (B3.out.grown g4 B3.out.size (fun j hj => (S3.out.lt_ j hj).1))
        clear s4 g4
        obtain ⟨q4, rfl⟩ : ∃ q4, A4 = some ⟨q4, 0, none⟩ := by
          rcases S4.out.at_ with ⟨_, _, e0, _⟩ | ⟨q4, e0, _, _⟩
          · omega
          · exact ⟨q4, e0⟩
        go_wp2
        go_ret
        exact ⟨_, _, _, rfl, S4.out, Z.out.1, Z.out.2, B4.out⟩

set_option maxHeartbeats 800000 in
/-- sortedInts of different numbers. -/
theorem specSorted (A : Option Addr) (n c : Nat) (xs : List Int) (w : World) (hx : RI w w.heap.size A xs) (lx : Hid (xs.length = n)) (hd : Hid xs.Nodup) (hn : n ≤ 1000) :
    Calls Try.prog 115 #[.slice A n c] w fun e w' => ∃ g' c' zs, e = .returned (.slice (some ⟨g', 0, none⟩) n c') ∧ Slc w' w.heap.size (some ⟨g', 0, none⟩) n c' zs ∧ zs.Perm xs ∧ zs.Pairwise (· ≤ ·) ∧ Below w.heap.size w w' := by
  have HX := Lib.hid hx
  clear hx
  go_enter Try.func115, Try.ntmps115
  go_wp2
  go_loopw [3, 4] (fun v i wr => ∃ k g' c' zs, k ≤ n ∧ i = .int .i64 (k : Nat) ∧ v = .slice (some ⟨g', 0, none⟩) k c' ∧ Slc wr w.heap.size (some ⟨g', 0, none⟩) k c' zs ∧ zs.Perm (xs.take k) ∧ zs.Pairwise (· ≤ ·) ∧ Below w.heap.size w wr) (fun _ i _ => n - (intOf i).toNat)
  case atStart => exact ⟨0, _, _, [], Nat.zero_le _, rfl, rfl, Slc.lit0 w _ (Nat.le_refl _), by simp, List.Pairwise.nil, (Below.refl _ _).alloc (Nat.le_refl _) _⟩
  case round =>
    obtain ⟨k, g', c', zs, hk, rfl, rfl, ss, hpm, hst, bel⟩ := hrel
    have Ss := Lib.hid ss
    have Pm := Lib.hid hpm
    have St := Lib.hid hst
    have Be := Lib.hid bel
    clear ss hpm hst bel
    by_cases hlt : k < n
    · obtain ⟨b, off, rfl, hb, hc⟩ := (HX.out.below Be.out (Nat.le_refl _)) (by rw [lx.out]; omega)
      have c1 := hc k (by rw [lx.out]; exact hlt)
      obtain ⟨u, eu⟩ : ∃ u, xs.getD k 0 = u := ⟨_, rfl⟩
      rw [eu] at c1
      have Tk : Hid (xs.take (k + 1) = xs.take k ++ [u]) := Lib.hid (by
        rw [List.getD_eq_getElem?_getD, List.getElem?_eq_getElem (by rw [lx.out]; exact hlt)] at eu
        have e2 : xs[k]'(by rw [lx.out]; exact hlt) = u := by simpa using eu
        rw [List.take_succ_eq_append_getElem (by rw [lx.out]; exact hlt), e2])
      have Nu : Hid (u ∉ zs) := Lib.hid fun h => by
        have h1 := Pm.out.mem_iff.1 h
        have h2 := hd.out.sublist (List.take_sublist (k + 1) xs)
        rw [Tk.out, List.nodup_append] at h2
        exact h2.2.2 u h1 u (by simp) rfl
      clear eu hc
      go_wp2_with fail
      refine (specIns g' k c' w.heap.size zs u wr Ss.out Nu (by omega)).mono ?_
      rintro e w2 ⟨g2, c2, ys, rfl, s2, p2, st2, b2⟩
      have S2 := Lib.hid (s2.mono Be.out.size)
      have P2 : Hid (ys.Perm (xs.take (k + 1))) := Lib.hid (by
        rw [Tk.out]
        exact p2.trans ((Pm.out.cons u).trans (List.perm_append_comm (l₁ := [u]))))
      have St2 := Lib.hid (st2 St.out)
      have B2 : Hid (Below w.heap.size w w2) := Lib.hid (btr Be.out b2)
      clear s2 p2 st2 b2
      go_wp2
      go_roundw
      case rel => exact ⟨k + 1, _, _, ys, by omega, by go_num, rfl, S2.out, P2.out, St2.out, B2.out⟩
      case measure => simp [intOf]; omega
    · have hkn : k = n := by omega
      subst hkn
      have P2 : Hid (zs.Perm xs) := Lib.hid (by have := Pm.out; rwa [List.take_of_length_le (by rw [lx.out]; exact Nat.le_refl _)] at this)
      go_wp2
      go_ret
      exact ⟨_, _, _, rfl, Ss.out, P2.out, St.out, Be.out⟩
end Go.Proofs.Ytedfcljikgmpgaa

/- Members with given entries, by the model's chain. Conditions: at most 20 points, 8 generators. -/
namespace Go.Proofs.Ytedfcljikgmpgaa
open Go.RowKit

/-- The entries that level i allows behind p, among the first m points. -/
def chL (c : Ch) (i : Nat) (p : List Int) (m : Nat) : List Int := ((List.range m).filter fun y => !(c.rep i y).isEmpty).map fun y => (nx p y : Int)
theorem chL_yes {c : Ch} {i m : Nat} {p : List Int} (h : c.rep i m ≠ []) : chL c i p (m + 1) = chL c i p m ++ [(nx p m : Int)] := by
  unfold chL; rw [List.range_succ, List.filter_append]; simp [List.isEmpty_eq_false_iff.2 h]
theorem chL_no {c : Ch} {i m : Nat} {p : List Int} (h : c.rep i m = []) : chL c i p (m + 1) = chL c i p m := by
  unfold chL; rw [List.range_succ, List.filter_append]; simp [h]
theorem chL_mem {c : Ch} {i m : Nat} {p : List Int} {v : Int} : v ∈ chL c i p m ↔ ∃ y, y < m ∧ c.rep i y ≠ [] ∧ (nx p y : Int) = v := by
  simp only [chL, List.mem_map, List.mem_filter, List.mem_range, Bool.not_eq_true', List.isEmpty_eq_false_iff, and_assoc]
theorem chL_len (c : Ch) (i : Nat) (p : List Int) (m : Nat) : (chL c i p m).length ≤ m := by
  unfold chL; rw [List.length_map]
  have := List.length_filter_le (fun y => !(c.rep i y).isEmpty) (List.range m)
  simpa using this


end Go.Proofs.Ytedfcljikgmpgaa

/- The smallest member with a prefix: what it is, and that the model finds it. Conditions: at most 20 points, 8 generators. -/
namespace Go.Proofs.Ytedfcljikgmpgaa
open Go.RowKit

/-- m is the member with the prefix whose further entries are as small as can be, one after the other. -/
def Greedy (N : Nat) (gs : List (List Int)) (pre m : List Int) : Prop :=
  Mb gs N m ∧ ∀ i, i < N → (i < pre.length → (nx m i : Int) = pre.getD i 0) ∧ (pre.length ≤ i → ∀ q, Mb gs N q → (∀ t, t < i → nx q t = nx m t) → nx m i ≤ nx q i)
def NoMem (N : Nat) (gs : List (List Int)) (pre : List Int) : Prop := ∀ q, Mb gs N q → ¬ ∀ t, t < pre.length → (nx q t : Int) = pre.getD t 0
/-- What MemberWithPrefix answers. -/
def IsMwp (N : Nat) (gs : List (List Int)) (pre m : List Int) (ok : Bool) : Prop := (ok = true ∧ Greedy N gs pre m) ∨ (ok = false ∧ m = [] ∧ NoMem N gs pre)
section
variable {N : Nat} {gs : List (List Int)} {pre m m' : List Int}
theorem Greedy.uniq (h1 : 1 ≤ N) (h2 : N ≤ 20) (hg : ∀ g ∈ gs, Pn N g) (h : Greedy N gs pre m) (h' : Greedy N gs pre m') : m = m' := by
  have hp := h.1.pn hg h1 h2
  have hp' := h'.1.pn hg h1 h2
  refine hp.ext hp' fun x hx => ?_
  induction x using Nat.strongRecOn with
  | ind x ih =>
    by_cases hl : x < pre.length
    · have a := (h.2 x hx).1 hl
      have b := (h'.2 x hx).1 hl
      omega
    · have a := (h.2 x hx).2 (by omega) m' h'.1 fun t ht => (ih t ht (by omega)).symm
      have b := (h'.2 x hx).2 (by omega) m h.1 fun t ht => ih t ht (by omega)
      omega
theorem Greedy.has (h : Greedy N gs pre m) (hl : pre.length ≤ N) : ¬ NoMem N gs pre := fun hn => hn m h.1 fun t ht => (h.2 t (by omega)).1 ht
theorem IsMwp.uniq {ok ok' : Bool} (h1 : 1 ≤ N) (h2 : N ≤ 20) (hg : ∀ g ∈ gs, Pn N g) (hl : pre.length ≤ N) (h : IsMwp N gs pre m ok) (h' : IsMwp N gs pre m' ok') : m = m' ∧ ok = ok' := by
  rcases h with ⟨rfl, a⟩ | ⟨rfl, rfl, a⟩ <;> rcases h' with ⟨rfl, b⟩ | ⟨rfl, rfl, b⟩
  · exact ⟨a.uniq h1 h2 hg b, rfl⟩
  · exact absurd b (a.has hl)
  · exact absurd a (b.has hl)
  · exact ⟨rfl, rfl⟩
/-- m keeps to it in its first k entries. -/
def GrTo (N : Nat) (gs : List (List Int)) (pre m : List Int) (k : Nat) : Prop :=
  Mb gs N m ∧ ∀ i, i < k → (i < pre.length → (nx m i : Int) = pre.getD i 0) ∧ (pre.length ≤ i → ∀ q, Mb gs N q → (∀ t, t < i → nx q t = nx m t) → nx m i ≤ nx q i)
/-- The entries that level i allows are those of the members that agree before. -/
theorem Whole.choice {c : Ch} (h : Whole N gs c) (h1 : 1 ≤ N) (h2 : N ≤ 20) (hg : ∀ g ∈ gs, Pn N g) {i : Nat} (hi : i < N) (hm : Mb gs N m) {v : Int} : v ∈ chL c i m N ↔ ∃ q, Mb gs N q ∧ (∀ t, t < i → nx q t = nx m t) ∧ (nx q i : Int) = v := by
  have hp := hm.pn hg h1 h2
  rw [chL_mem]
  constructor
  · rintro ⟨y, hy, hr, rfl⟩
    obtain ⟨a, b, d, _⟩ := h.rep_mb h1 h2 hi hr
    have hr' := a.pn hg h1 h2
    refine ⟨compL (c.rep i y) m, a.comp hg h1 h2 hm, fun t ht => ?_, ?_⟩
    · rw [hr'.nxc (by omega), b t ht]
    · rw [hr'.nxc hi, d]
  · rintro ⟨q, hq, ha, rfl⟩
    have hq' := hq.pn hg h1 h2
    have hmi := hp.iv
    refine ⟨nx (iv m) (nx q i), hmi.lt (hq'.lt hi), (h.rep_iff h1 h2 hi).2 ⟨compL q (iv m), hq.comp hg h1 h2 (hm.inv hg h1 h2), fun t ht => ?_, ?_⟩, ?_⟩
    · rw [hq'.nxc (by omega), ha t ht, hp.nxi (by omega)]
    · rw [hq'.nxc hi]
    · rw [hp.nxi' (hq'.lt hi)]
theorem GrTo.step {c : Ch} {k : Nat} (h : GrTo N gs pre m k) (hw : Whole N gs c) (h1 : 1 ≤ N) (h2 : N ≤ 20) (hg : ∀ g ∈ gs, Pn N g) (hk : k < N) {y : Nat} (hr : c.rep k y ≠ []) (hv : (k < pre.length → (nx m y : Int) = pre.getD k 0) ∧ (pre.length ≤ k → ∀ v ∈ chL c k m N, (nx m y : Int) ≤ v)) : GrTo N gs pre (compL (c.rep k y) m) (k + 1) := by
  obtain ⟨a, b, d, _⟩ := hw.rep_mb h1 h2 hk hr
  have hr' := a.pn hg h1 h2
  have e : ∀ t, t < k → nx (compL (c.rep k y) m) t = nx m t := fun t ht => by rw [hr'.nxc (by omega), b t ht]
  have e2 : nx (compL (c.rep k y) m) k = nx m y := by rw [hr'.nxc hk, d]
  refine ⟨a.comp hg h1 h2 h.1, fun i hi => ?_⟩
  rcases Nat.lt_or_ge i k with hl | hl
  · rw [e i hl]
    exact ⟨(h.2 i hl).1, fun hp q hq hag => (h.2 i hl).2 hp q hq fun t ht => (hag t ht).trans (e t (by omega))⟩
  · obtain rfl : i = k := by omega
    rw [e2]
    refine ⟨hv.1, fun hp q hq hag => ?_⟩
    have := hv.2 hp (nx q i : Int) ((hw.choice h1 h2 hg hk h.1).2 ⟨q, hq, fun t ht => (hag t ht).trans (e t ht), rfl⟩)
    omega
theorem GrTo.no {c : Ch} {k : Nat} (h : GrTo N gs pre m k) (hw : Whole N gs c) (h1 : 1 ≤ N) (h2 : N ≤ 20) (hg : ∀ g ∈ gs, Pn N g) (hk : k < N) (hl : k < pre.length) (hn : pre.getD k 0 ∉ chL c k m N) : NoMem N gs pre := fun q hq hag =>
  hn ((hw.choice h1 h2 hg hk h.1).2 ⟨q, hq, fun t ht => by
    have a := hag t (by omega)
    have b := (h.2 t ht).1 (by omega)
    omega, hag k hl⟩)
theorem hasB_in (xs : List Int) (x : Int) : hasB xs x = decide (x ∈ xs) := by
  unfold hasB
  rw [Bool.eq_iff_iff]
  simp only [decide_eq_true_eq]
  constructor
  · rintro ⟨k, hk, e⟩
    rw [← e, List.getD_eq_getElem?_getD, List.getElem?_eq_getElem hk]; exact List.getElem_mem _
  · intro h
    obtain ⟨k, hk, e⟩ := List.mem_iff_getElem.1 h
    exact ⟨k, hk, by rw [List.getD_eq_getElem?_getD, List.getElem?_eq_getElem hk, ← e]; rfl⟩
end

end Go.Proofs.Ytedfcljikgmpgaa

/- GroupOrder, OrbitSizes, IsMember and MemberWithPrefix of the model: what they answer. Conditions: at most 1048576 lists of at most 1048576 numbers. -/
namespace Go.Proofs.Ytedfcljikgmpgaa
open Go.RowKit

/-- What GroupOrder answers. -/
def IsOrd (a : Int) (gs : List (List Int)) (v : Int) : Prop := (gB a gs = true ∧ ∃ xs, IsOS a.toNat gs xs ∧ v = prodL xs) ∨ (gB a gs = false ∧ v = 0)
theorem IsOrd.uniq {a v v' : Int} {gs : List (List Int)} (h : IsOrd a gs v) (h' : IsOrd a gs v') : v = v' := by
  rcases h with ⟨e, xs, h, rfl⟩ | ⟨e, rfl⟩ <;> rcases h' with ⟨e', ys, h', rfl⟩ | ⟨e', rfl⟩
  · rw [h.uniq h']
  · rw [e] at e'; cases e'
  · rw [e] at e'; cases e'
  · rfl
/-- What OrbitSizes answers. -/
def IsSiz (a : Int) (gs : List (List Int)) (xs : List Int) : Prop := (gB a gs = true ∧ IsOS a.toNat gs xs) ∨ (gB a gs = false ∧ xs = [])
theorem IsSiz.uniq {a : Int} {gs : List (List Int)} {xs ys : List Int} (h : IsSiz a gs xs) (h' : IsSiz a gs ys) : xs = ys := by
  rcases h with ⟨e, h⟩ | ⟨e, rfl⟩ <;> rcases h' with ⟨e', h'⟩ | ⟨e', rfl⟩
  · exact h.uniq h'
  · rw [e] at e'; cases e'
  · rw [e] at e'; cases e'
  · rfl
theorem IsSiz.len {a : Int} {gs : List (List Int)} {xs : List Int} (h : IsSiz a gs xs) : xs.length ≤ 20 := by
  rcases h with ⟨e, h⟩ | ⟨e, rfl⟩
  · obtain ⟨N, rfl, _, hN, _⟩ := gB_pm e
    rw [h.1]; simpa using hN
  · simp
/-- p is a member. -/
def Memb (a : Int) (gs : List (List Int)) (p : List Int) : Prop := gB a gs = true ∧ (p.length : Int) = a ∧ isP p = true ∧ Mb gs a.toNat p
theorem memb_uniq {a : Int} {gs : List (List Int)} {p : List Int} {b b' : Bool} (h : b = true ↔ Memb a gs p) (h' : b' = true ↔ Memb a gs p) : b = b' := by
  rw [Bool.eq_iff_iff, h, h']
/-- What MemberWithPrefix answers. -/
def IsMw (a : Int) (gs : List (List Int)) (pre m : List Int) (ok : Bool) : Prop :=
  (gB a gs = true ∧ (pre.length : Int) ≤ a ∧ IsMwp a.toNat gs pre m ok) ∨ (¬ (gB a gs = true ∧ (pre.length : Int) ≤ a) ∧ m = [] ∧ ok = false)
theorem IsMw.uniq {a : Int} {gs : List (List Int)} {pre m m' : List Int} {ok ok' : Bool} (h : IsMw a gs pre m ok) (h' : IsMw a gs pre m' ok') : m = m' ∧ ok = ok' := by
  rcases h with ⟨e, hl, h⟩ | ⟨e, rfl, rfl⟩ <;> rcases h' with ⟨e', hl', h'⟩ | ⟨e', rfl, rfl⟩
  · obtain ⟨N, rfl, h1, hN, _, _, ok⟩ := gB_pm e
    exact h.uniq (by simpa using h1) (by simpa using hN) (fun g hg => by rw [Int.toNat_natCast]; exact ok g hg) (by simp; omega) h'
  · exact absurd ⟨e, hl⟩ e'
  · exact absurd ⟨e', hl'⟩ e
  · exact ⟨rfl, rfl⟩
theorem IsMwp.len {N : Nat} {gs : List (List Int)} {pre m : List Int} {ok : Bool} (h1 : 1 ≤ N) (h2 : N ≤ 20) (hg : ∀ g ∈ gs, Pn N g) (h : IsMwp N gs pre m ok) : m.length ≤ 20 := by
  rcases h with ⟨_, h⟩ | ⟨_, rfl, _⟩
  · rw [(h.1.pn hg h1 h2).2]; exact h2
  · simp
theorem IsMw.len {a : Int} {gs : List (List Int)} {pre m : List Int} {ok : Bool} (h : IsMw a gs pre m ok) : m.length ≤ 20 := by
  rcases h with ⟨e, hl, h⟩ | ⟨e, rfl, rfl⟩
  · obtain ⟨N, rfl, h1, hN, _, _, ok⟩ := gB_pm e
    rw [Int.toNat_natCast] at h
    exact h.len h1 hN ok
  · simp

section
variable (a : Int) (A : Option Addr) (n c : Nat) (vs : List SV) (xss : List (List Int)) (w : World)
set_option maxHeartbeats 1000000 in
set_option maxRecDepth 100000 in
theorem specGroupOrder (hx : RR w w.heap.size A n vs xss) (hn : n ≤ 1048576) (hl : Hid (∀ i, i < n → (vs.getD i sd0).2.1 ≤ 1048576)) (ha : -9223372036854775808 ≤ a ∧ a ≤ 9223372036854775807) :
    Calls Try.prog 44 #[.int .i64 a, .slice A n c] w fun e w' => ∃ v, e = .returned (.int .i64 v) ∧ IsOrd a xss v ∧ Below w.heap.size w w' := by
  have HX := Lib.hid hx
  have hlx : Hid (xss.length = n) := Lib.hid hx.lx
  clear hx
  go_enter Try.func44, Try.ntmps44
  go_wp2_with fail
  refine (specGS a A n c vs xss w HX.out hn hl ha).mono ?_
  rintro e w1 ⟨rfl, b1⟩
  have B1 := Lib.hid b1
  have X1 := Lib.hid (HX.out.up b1)
  clear b1
  rcases hs : gB a xss with _ | _
  · have Fin : Hid (IsOrd a xss 0) := Lib.hid (.inr ⟨hs, rfl⟩)
    clear hs
    go_wp2_with fail
    go_ret
    exact ⟨0, rfl, Fin.out, B1.out⟩
  · obtain ⟨N, rfl, hN1, hN2, hg8, hpm, hok⟩ := gB_pm hs
    have Hs := Lib.hid hs
    have Ok := Lib.hid hok
    have hn8 : n ≤ 8 := by rw [← hlx.out]; exact hg8
    clear hs hpm hok hg8
    go_wp2_with fail
    refine (specBuild N n c A vs xss w1 X1.out hN1 hN2 hn8 Ok).mono ?_
    rintro e w2 ⟨g, L, ch, rfl, hc2, hw2, b2⟩
    have C2 := Lib.hid hc2
    have W2 := Lib.hid hw2
    have B2 : Hid (Below w.heap.size w w2) := Lib.hid (btr B1.out b2)
    clear hc2 hw2 b2
    go_wp2_with fail
    refine (specOrder w1.heap.size g N ch L xss w2 C2.out W2.out hN1 hN2).mono ?_
    rintro e w3 ⟨rfl, b3⟩
    have B3 : Hid (Below w.heap.size w w3) := Lib.hid (btr B2.out b3)
    have Fin : Hid (IsOrd (N : Int) xss (prodL (osL N ch N))) := Lib.hid (.inl ⟨Hs.out, _, by rw [Int.toNat_natCast]; exact W2.out.os hN1 hN2, rfl⟩)
    clear b3
    go_wp2_with fail
    go_ret
    exact ⟨_, rfl, Fin.out, B3.out⟩
end
end Go.Proofs.Ytedfcljikgmpgaa

/- What StabilizerOrder answers; isPointSet and moveToFront of the model. Conditions: at most 20 points; lists of at most 1048576 numbers. -/
namespace Go.Proofs.Ytedfcljikgmpgaa
open Go.RowKit

/-- A strictly increasing list of points. -/
def PtS (N : Nat) (pts : List Int) : Prop := pts.length ≤ N ∧ ∀ i, i < pts.length → 0 ≤ pts.getD i 0 ∧ pts.getD i 0 < N ∧ (0 < i → pts.getD (i - 1) 0 < pts.getD i 0)
/-- What StabilizerOrder answers: how many members fix the points. -/
def IsStb (a : Int) (gs : List (List Int)) (pts : List Int) (v : Int) : Prop :=
  (gB a gs = true ∧ PtS a.toNat pts ∧ ∃ c : Nat, Crd (fun p => Mb gs a.toNat p ∧ Fxs pts p) c ∧ v = (c : Int)) ∨ (¬ (gB a gs = true ∧ PtS a.toNat pts) ∧ v = 0)
theorem IsStb.uniq {a v v' : Int} {gs : List (List Int)} {pts : List Int} (h : IsStb a gs pts v) (h' : IsStb a gs pts v') : v = v' := by
  rcases h with ⟨e, f, c, hc, rfl⟩ | ⟨e, rfl⟩ <;> rcases h' with ⟨e', f', c', hc', rfl⟩ | ⟨e', rfl⟩
  · rw [hc.uniq hc']
  · exact absurd ⟨e, f⟩ e'
  · exact absurd ⟨e', f'⟩ e
  · rfl
section
variable {N : Nat} {pts : List Int}
theorem PtS.lt (h : PtS N pts) {i : Nat} : ∀ j, i < j → j < pts.length → pts.getD i 0 < pts.getD j 0
  | 0, hij, _ => absurd hij (Nat.not_lt_zero _)
  | j + 1, hij, hj => by
    have h1 := (h.2 (j + 1) hj).2.2 (Nat.succ_pos j)
    rw [Nat.add_sub_cancel] at h1
    by_cases e : i = j
    · rw [e]; exact h1
    · have := h.lt (i := i) j (by omega) (by omega)
      omega
theorem gdx {l : List Int} {i : Nat} (h : i < l.length) : l.getD i 0 = l[i] := by
  rw [List.getD_eq_getElem?_getD, List.getElem?_eq_getElem h]; rfl
theorem PtS.nodup (h : PtS N pts) : pts.Nodup := List.pairwise_iff_getElem.2 fun i j hi hj hij => by
  have := h.lt j hij hj
  rw [gdx hi, gdx hj] at this
  exact fun e => by rw [e] at this; omega
theorem PtS.mem (h : PtS N pts) {x : Int} (hx : x ∈ pts) : 0 ≤ x ∧ x < N := by
  obtain ⟨i, hi, rfl⟩ := List.mem_iff_getElem.1 hx
  have := h.2 i hi
  rw [gdx hi] at this
  exact ⟨this.1, this.2.1⟩
theorem hasB_mem {l : List Int} {x : Int} : hasB l x = true ↔ x ∈ l := by
  unfold hasB
  rw [decide_eq_true_eq, List.mem_iff_getElem]
  exact ⟨fun ⟨j, hj, e⟩ => ⟨j, hj, by rw [← gdx hj, e]⟩, fun ⟨j, hj, e⟩ => ⟨j, hj, by rw [gdx hj, e]⟩⟩
/-- The points in a new order: those of the list, then the others. -/
def mtf (pts : List Int) (k : Nat) : List Int := pts ++ ((List.range k).map Int.ofNat).filter fun x => !hasB pts x
theorem mtf_zero : mtf pts 0 = pts := by simp [mtf]
theorem mtf_yes {k : Nat} (h : hasB pts (k : Int) = true) : mtf pts (k + 1) = mtf pts k := by
  unfold mtf
  rw [List.range_succ, List.map_append, List.filter_append]
  simp [h]
theorem mtf_no {k : Nat} (h : hasB pts (k : Int) = false) : mtf pts (k + 1) = mtf pts k ++ [(k : Int)] := by
  unfold mtf
  rw [List.range_succ, List.map_append, List.filter_append]
  simp [h]
theorem mtf_le (k : Nat) : (mtf pts k).length ≤ pts.length + k := by
  unfold mtf
  rw [List.length_append]
  have := List.length_filter_le (fun x => !hasB pts x) ((List.range k).map Int.ofNat)
  simp at this ⊢; omega
theorem mtf_pre (k : Nat) {j : Nat} (hj : j < pts.length) : (mtf pts k).getD j 0 = pts.getD j 0 := getD_app _ _ _ _ hj
theorem PtS.mtf_mem (h : PtS N pts) (x : Int) : x ∈ mtf pts N ↔ 0 ≤ x ∧ x < N := by
  unfold mtf
  rw [List.mem_append, List.mem_filter, List.mem_map]
  constructor
  · rintro (hx | ⟨⟨i, hi, rfl⟩, _⟩)
    · exact h.mem hx
    · have := List.mem_range.1 hi
      exact ⟨Int.natCast_nonneg _, by show (i : Int) < N; omega⟩
  · rintro ⟨h0, h1⟩
    by_cases hx : x ∈ pts
    · exact .inl hx
    · refine .inr ⟨⟨x.toNat, List.mem_range.2 (by omega), by show ((x.toNat : Nat) : Int) = x; omega⟩, ?_⟩
      rw [Bool.not_eq_true', ← Bool.not_eq_true, hasB_mem]; exact hx
theorem PtS.mtf_nd (h : PtS N pts) : (mtf pts N).Nodup := by
  unfold mtf
  refine List.nodup_append.2 ⟨h.nodup, (nd_mapA List.nodup_range fun x _ y _ e => Int.ofNat.inj e).filter _, fun a ha b hb e => ?_⟩
  subst e
  have h2 := (List.mem_filter.1 hb).2
  rw [Bool.not_eq_true', ← Bool.not_eq_true, hasB_mem] at h2
  exact h2 ha
theorem PtS.mtf_pn (h : PtS N pts) (h1 : 1 ≤ N) (h2 : N ≤ 20) : Pn N (mtf pts N) := by
  have hr : ((List.range N).map Int.ofNat).Nodup := nd_mapA List.nodup_range fun x _ y _ e => Int.ofNat.inj e
  have hl : (mtf pts N).length = N := by
    have a := nd_subA (l := (List.range N).map Int.ofNat) h.mtf_nd fun x hx => by
      have := (h.mtf_mem x).1 hx
      exact List.mem_map.2 ⟨x.toNat, List.mem_range.2 (by omega), by show ((x.toNat : Nat) : Int) = x; omega⟩
    have b := nd_subA (l := mtf pts N) hr fun x hx => by
      obtain ⟨i, hi, rfl⟩ := List.mem_map.1 hx
      have := List.mem_range.1 hi
      exact (h.mtf_mem _).2 ⟨Int.natCast_nonneg _, by show (i : Int) < N; omega⟩
    simp at a b; omega
  have hm : ∀ i, i < (mtf pts N).length → 0 ≤ (mtf pts N).getD i 0 ∧ (mtf pts N).getD i 0 < N := fun i hi => by
    rw [gdx hi]; exact (h.mtf_mem _).1 (List.getElem_mem hi)
  refine ⟨⟨by omega, by omega, fun i hi => (hm i hi).1, fun i hi => by have := (hm i hi).2; omega, fun i j hi hj e => ?_⟩, hl⟩
  rw [gdx hi, gdx hj] at e
  have hp := List.pairwise_iff_getElem.1 h.mtf_nd
  rcases Nat.lt_trichotomy i j with hl | hl | hl
  · exact absurd e (hp i j hi hj hl)
  · exact hl
  · exact absurd e.symm (hp j i hj hi hl)
end

/-- append of nothing. -/
theorem wpList_app0 {w : World} {ops : Array Oper} {rest : List Oper} {o : Oper} {a : Act} {Q : Exit → Act → World → Prop} (hgd : o.guard = none) (s x : Operand)
    (ho : o.op = .call { callee := .builtin .append, args := #[s, x], argTypes := #[48, 48] })
    (b : Option Addr) (sl sc : Nat) (hle : sl ≤ sc) (hs : a.eval s = .slice b sl sc) (A : Option Addr) (c : Nat) (hx : a.eval x = .slice A 0 c)
    (h : wpList Try.prog ops Q rest (a.put o.dst (.slice b sl sc)) w) : wpList Try.prog ops Q (o :: rest) a w := by
  obtain ⟨i0, hi, hz0, hz1, hz2⟩ := info_parts infoI
  refine wpList_plain hgd fun _ hK => ?_
  have hr := run_append_nothing (P := Try.prog) w 48 48 o.type 2 i0 Try.underlying48 hi b sl sc hle (.slice A 0 c)
    ⟨.inl ⟨_, Try.underlying48⟩, fun w' => by cases A <;> rfl, by cases A <;> simp [Builtin.firstCells, loadCells, loadCellsFrom], by cases A <;> simp [Builtin.firstCells, loadCells, loadCellsFrom], by simp, fun u hu => by cases hu⟩
  unfold Oper.wp execOp
  simp only [ho, resolve, invoke, builtin, Sem.run_bind, Sem.run_pure, Result.andThen_ok, List.map_toArray, List.map_cons, List.map_nil, hs, hx, hr]
  exact hK _ _ h

/-- copyInts of whatever can be read. -/
theorem copyAny (A : Option Addr) (n c : Nat) (xs : List Int) (w : World) (h : RI w w.heap.size A xs) (lx : Hid (xs.length = n)) (hn : n ≤ 1000000) :
    Calls Try.prog 96 #[.slice A n c] w fun e w' => ∃ A' c', e = .returned (.slice A' n c') ∧ Slc w' w.heap.size A' n c' xs ∧ Below w.heap.size w w' := by
  by_cases h0 : 0 < n
  · obtain ⟨b, off, rfl, hb, hc⟩ := h (by rw [lx.out]; exact h0)
    exact copyRI b off n c xs w h lx.out hn
  · obtain rfl : n = 0 := by omega
    obtain rfl : xs = [] := List.length_eq_zero_iff.1 lx.out
    have H0 := Lib.hid (Slc.lit0 w w.heap.size (Nat.le_refl _))
    have B0 : Hid (Below w.heap.size w (w.alloc (.cells #[] 2))) := Lib.hid ((Below.refl _ w).alloc (Nat.le_refl _) _)
    clear h lx
    go_enter Try.func96, Try.ntmps96
    go_wp2_with (first | (at_builtin; refine wpList_app0 rfl _ _ rfl _ 0 0 (Nat.le_refl _) rfl A c rfl ?_))
    go_ret
    exact ⟨_, _, rfl, H0.out, B0.out⟩

/-- isPoint of the model. -/
theorem specPt4 (n x : Int) (w : World) (h1 : 1 ≤ n) (h2 : n ≤ 1000) (ans : Bool) (ha : Hid (decide (0 ≤ x ∧ x < n) = ans)) : Calls Try.prog 58 #[.int .i64 n, .int .i64 x] w fun e w' => e = .returned (.bool ans) ∧ w = w' := by
  rw [← ha.out]
  clear ha
  by_cases h : 0 ≤ x ∧ x < n
  · rw [decide_eq_true h]
    go_enter Try.func58, Try.ntmps58
    go_wp2_with fail
    refine (inR_true _ _ _ _ (by omega) (by omega)).mono ?_
    rintro e w' ⟨rfl, rfl⟩
    go_wp2
    go_ret
    exact ⟨rfl, rfl⟩
  · rw [decide_eq_false h]
    go_enter Try.func58, Try.ntmps58
    go_wp2_with fail
    refine (inR_false _ _ _ _ (by omega)).mono ?_
    rintro e w' ⟨rfl, rfl⟩
    go_wp2
    go_ret
    exact ⟨rfl, rfl⟩

set_option maxHeartbeats 2000000 in
set_option maxRecDepth 100000 in
/-- isPointSet of the model. -/
theorem specIsPS (N np cp : Nat) (P : Option Addr) (pts : List Int) (w : World) (hp : RI w w.heap.size P pts) (lp : Hid (pts.length = np)) (h1 : 1 ≤ N) (h2 : N ≤ 20) (hn : np ≤ 1048576) :
    Calls Try.prog 83 #[.int .i64 (N : Nat), .slice P np cp] w fun e w' => ∃ ans, e = .returned (.bool ans) ∧ (ans = true ↔ PtS N pts) ∧ ∃ m, w' = w.drewN m := by
  by_cases hle : np ≤ N
  · have d0 : decide ((N : Int) < (np : Int)) = false := by simp; omega
    go_enter Try.func83, Try.ntmps83
    go_wp2_with fail
    go_loopw [5] (fun i wr => ∃ k : Nat, k ≤ np ∧ i = .int .i64 (k : Nat) ∧ (∀ i, i < k → 0 ≤ pts.getD i 0 ∧ pts.getD i 0 < N ∧ (0 < i → pts.getD (i - 1) 0 < pts.getD i 0)) ∧ ∃ m, wr = w.drewN m) (fun i _ => np - (intOf i).toNat)
    case atStart => exact ⟨0, Nat.zero_le _, rfl, fun _ h => absurd h (Nat.not_lt_zero _), 0, rfl⟩
    case round =>
      obtain ⟨k, hk, rfl, ok, m, rfl⟩ := hrel
      have Ok := Lib.hid ok
      clear ok
      by_cases hlt : k < np
      · obtain ⟨b, off, rfl, hb, hc⟩ := hp (by rw [lp.out]; omega)
        have c1 := hc k (by rw [lp.out]; omega)
        have hc2 := Lib.hid hc
        obtain ⟨x, ex⟩ : ∃ x, pts.getD k 0 = x := ⟨_, rfl⟩
        rw [ex] at c1
        have Ex := Lib.hid ex
        clear ex hc
        have p1 : (0 : Int) ≤ k := by omega
        have p2 : (k : Int) < np := by omega
        by_cases hpt : 0 ≤ x ∧ x < (N : Int)
        · have Pt : Hid (decide (0 ≤ x ∧ x < (N : Int)) = true) := Lib.hid (decide_eq_true hpt)
          have Hpt := Lib.hid hpt
          clear hpt
          by_cases hk0 : k = 0
          · clear hc2
            have d1 : decide ((0 : Int) < (k : Int)) = false := by simp; omega
            have d2 : decide (0 < k) = false := by simp; omega
            have K0 := Lib.hid hk0
            clear hk0
            go_wp2
            go_quiet ((first | (go_at_call 58; exact quiet_add_left (specPt4 _ _ _ (by omega) (by omega) true Pt))))
            go_wp2
            go_roundw
            case rel => exact ⟨k + 1, by omega, by go_num, fun i hi => by
              have e0 := K0.out
              obtain rfl : i = k := by omega
              rw [Ex.out]; exact ⟨Hpt.out.1, Hpt.out.2, fun h => absurd h (by omega)⟩, _, rfl⟩
            case measure => simp [intOf]; omega
          · have d1 : decide ((0 : Int) < (k : Int)) = true := by simp; omega
            have d2 : decide (0 < k) = true := by simp; omega
            obtain ⟨u, hu⟩ : ∃ u : Nat, u + 1 = k := ⟨k - 1, by omega⟩
            have c2 := hc2.out u (by rw [lp.out]; omega)
            obtain ⟨y, ey⟩ : ∃ y, pts.getD u 0 = y := ⟨_, rfl⟩
            rw [ey] at c2
            have Ey := Lib.hid ey
            clear ey hc2
            have hw1 : IntKind.i64.wrap ((k : Int) - 1) = (u : Int) := by rw [IntKind.wrap_i64]; omega
            have p3 : (0 : Int) ≤ u := by omega
            have p4 : (u : Int) < np := by omega
            by_cases hxy : x ≤ y
            · have d3 : decide (x ≤ y) = true := decide_eq_true hxy
              have Fin : Hid (¬ PtS N pts) := Lib.hid fun h => by
                have := (h.2 k (by rw [lp.out]; exact hlt)).2.2 (by omega)
                rw [show k - 1 = u by omega, Ex.out, Ey.out] at this; omega
              clear hxy
              go_wp2
              go_quiet ((first | (go_at_call 58; exact quiet_add_left (specPt4 _ _ _ (by omega) (by omega) true Pt))))
              go_wp2
              go_ret
              exact ⟨false, rfl, ⟨fun h => (by cases h), fun h => absurd h Fin.out⟩, _, World.drewN_drewN _ _ _⟩
            · have d3 : decide (x ≤ y) = false := decide_eq_false hxy
              have Lt : Hid (y < x) := Lib.hid (by omega)
              clear hxy
              go_wp2
              go_quiet ((first | (go_at_call 58; exact quiet_add_left (specPt4 _ _ _ (by omega) (by omega) true Pt))))
              go_wp2
              go_roundw
              case rel => exact ⟨k + 1, by omega, by go_num, fun i hi => by
                by_cases e : i = k
                · subst e
                  rw [Ex.out, show i - 1 = u by omega, Ey.out]
                  exact ⟨Hpt.out.1, Hpt.out.2, fun _ => Lt.out⟩
                · exact Ok.out i (by omega), _, rfl⟩
              case measure => simp [intOf]; omega
        · have Pt : Hid (decide (0 ≤ x ∧ x < (N : Int)) = false) := Lib.hid (decide_eq_false hpt)
          have Fin : Hid (¬ PtS N pts) := Lib.hid fun h => by
            have := h.2 k (by rw [lp.out]; exact hlt)
            rw [Ex.out] at this
            exact hpt ⟨this.1, this.2.1⟩
          clear hpt hc2
          go_wp2
          go_quiet ((first | (go_at_call 58; exact quiet_add_left (specPt4 _ _ _ (by omega) (by omega) false Pt))))
          go_wp2
          go_ret
          exact ⟨false, rfl, ⟨fun h => (by cases h), fun h => absurd h Fin.out⟩, _, World.drewN_drewN _ _ _⟩
      · obtain rfl : k = np := by omega
        have Fin : Hid (PtS N pts) := Lib.hid ⟨by rw [lp.out]; exact hle, fun i hi => Ok.out i (by rw [← lp.out]; exact hi)⟩
        go_wp2
        go_ret
        exact ⟨true, rfl, ⟨fun _ => Fin.out, fun _ => rfl⟩, _, rfl⟩
  · have d0 : decide ((N : Int) < (np : Int)) = true := by simp; omega
    have Fin : Hid (¬ PtS N pts) := Lib.hid fun h => hle (by rw [← lp.out]; exact h.1)
    clear hp
    go_enter Try.func83, Try.ntmps83
    go_wp2
    go_ret
    exact ⟨false, rfl, ⟨fun h => (by cases h), fun h => absurd h Fin.out⟩, 0, rfl⟩

end Go.Proofs.Ytedfcljikgmpgaa

/- Support, of the program and of the model, and the program's search for points. Condition: at most 2097152 entries. -/
namespace Go.Proofs.Ytedfcljikgmpgaa
open Go.RowKit

def ptsL (f : Nat → Bool) (k : Nat) : List Int := ((List.range k).filter f).map Int.ofNat
theorem ptsL_yes {f : Nat → Bool} {k : Nat} (h : f k = true) : ptsL f (k + 1) = ptsL f k ++ [(k : Int)] := by simp [ptsL, List.range_succ, List.filter_append, h]
theorem ptsL_no {f : Nat → Bool} {k : Nat} (h : f k = false) : ptsL f (k + 1) = ptsL f k := by simp [ptsL, List.range_succ, List.filter_append, h]
theorem ptsL_le (f : Nat → Bool) (k : Nat) : (ptsL f k).length ≤ k := by
  unfold ptsL; rw [List.length_map]; exact Nat.le_trans (List.length_filter_le _ _) (by simp)
def movesB (p : List Int) (x : Nat) : Bool := p.getD x 0 != (x : Int)
theorem supp_eq (p : List Int) : supp p = ptsL (movesB p) p.length := rfl
def suppL (p : List Int) : List Int := if isP p = true then supp p else []

end Go.Proofs.Ytedfcljikgmpgaa

/- Partitions of the points: labels, blocks, the partition by labels, merging. No Go in it. No condition. -/
namespace Go.Proofs.Ytedfcljikgmpgaa

/-- r' makes one of whatever r makes one. -/
def Rf (N : Nat) (r r' : Nat → Nat) : Prop := ∀ u v, u < N → v < N → r u = r v → r' u = r' v
section
variable {N k : Nat} {r r' r2 a b c : Nat → Nat}
theorem Rf.refl (N : Nat) (r : Nat → Nat) : Rf N r r := fun _ _ _ _ h => h
theorem Rf.trans (h : Rf N a b) (h' : Rf N b c) : Rf N a c := fun u v hu hv e => h' u v hu hv (h u v hu hv e)

/-- k is the first with its label. -/
def fstB (r : Nat → Nat) (k : Nat) : Bool := (List.range k).all fun y => decide (r y ≠ r k)
theorem fstB_iff : fstB r k = true ↔ ∀ y, y < k → r y ≠ r k := by simp [fstB]
/-- The first with the label of k. -/
theorem fst_ex (r : Nat → Nat) : ∀ k : Nat, ∃ h, h ≤ k ∧ fstB r h = true ∧ r h = r k := fun k => by
  induction k using Nat.strongRecOn with
  | _ k ih =>
    by_cases hf : fstB r k = true
    · exact ⟨k, Nat.le_refl _, hf, rfl⟩
    · have : ∃ y, y < k ∧ r y = r k := Classical.byContradiction fun hn => hf (fstB_iff.2 fun y hy e => hn ⟨y, hy, e⟩)
      obtain ⟨y, hy, e⟩ := this
      obtain ⟨h, h1, h2, h3⟩ := ih y hy
      exact ⟨h, by omega, h2, h3.trans e⟩
theorem fst_uniq {x y : Nat} (hx : fstB r x = true) (hy : fstB r y = true) (e : r x = r y) : x = y := by
  rcases Nat.lt_trichotomy x y with h | h | h
  · exact absurd e (fstB_iff.1 hy x h)
  · exact h
  · exact absurd e.symm (fstB_iff.1 hx y h)
/-- How many labels there are. -/
def cls (N : Nat) (r : Nat → Nat) : Nat := ((List.range N).filter (fstB r)).length
theorem cls_le (N : Nat) (r : Nat → Nat) : cls N r ≤ N := by
  have := List.length_filter_le (fstB r) (List.range N)
  rw [List.length_range] at this
  exact this

/-- r2 is r with the labels of x and y made one. -/
structure Mg (N : Nat) (r r2 : Nat → Nat) (x y : Nat) : Prop where
  up : Rf N r r2
  eq : r2 x = r2 y
  least : ∀ r', Rf N r r' → r' x = r' y → Rf N r2 r'
theorem Mg.symm {x y : Nat} (h : Mg N r r2 x y) : Mg N r r2 y x := ⟨h.up, h.eq.symm, fun r' a e => h.least r' a e.symm⟩
theorem Mg.same {x y : Nat} (e : r x = r y) : Mg N r r x y := ⟨Rf.refl _ _, e, fun _ h _ => h⟩
theorem mg_of {x y : Nat} (hx : x < N) (hy : y < N) (h : ∀ u, u < N → r2 u = if r u = r y then r x else r u) : Mg N r r2 x y := by
  refine ⟨fun u v hu hv e => by rw [h u hu, h v hv, e], ?_, fun r' hr e u v hu hv e2 => ?_⟩
  · rw [h x hx, h y hy, if_pos rfl]; split <;> rfl
  · rw [h u hu, h v hv] at e2
    by_cases e3 : r u = r y
    · rw [if_pos e3] at e2
      by_cases e4 : r v = r y
      · rw [hr u v hu hv (e3.trans e4.symm)]
      · rw [if_neg e4] at e2
        rw [hr u y hu hy e3, ← hr x v hx hv e2, e]
    · rw [if_neg e3] at e2
      by_cases e4 : r v = r y
      · rw [if_pos e4] at e2
        rw [hr u x hu hx e2, hr v y hv hy e4, e]
      · rw [if_neg e4] at e2
        exact hr u v hu hv e2
theorem Mg.cls {x y : Nat} (h : Mg N r r2 x y) (hx : x < N) (hy : y < N) (hne : r x ≠ r y) : cls N r2 < cls N r := by
  have key : ∀ u v, u < v → v < N → fstB r u = true → fstB r v = true → r2 u = r2 v → Proofs.Ytedfcljikgmpgaa.cls N r2 < Proofs.Ytedfcljikgmpgaa.cls N r := fun u v huv hv fu fv e => by
    have hsub : ∀ z ∈ v :: (List.range N).filter (fstB r2), z ∈ (List.range N).filter (fstB r) := fun z hz => by
      rcases List.mem_cons.1 hz with rfl | hz
      · exact List.mem_filter.2 ⟨List.mem_range.2 hv, fv⟩
      · obtain ⟨h1, h2⟩ := List.mem_filter.1 hz
        refine List.mem_filter.2 ⟨h1, fstB_iff.2 fun y' hy' e' => ?_⟩
        have hz1 := List.mem_range.1 h1
        exact fstB_iff.1 h2 y' hy' (h.up y' z (by omega) hz1 e')
    have hnd : (v :: (List.range N).filter (fstB r2)).Nodup := List.nodup_cons.2 ⟨fun hm => by
      exact fstB_iff.1 (List.mem_filter.1 hm).2 u huv e, List.nodup_range.filter _⟩
    have := nd_sub hnd hsub
    unfold Proofs.Ytedfcljikgmpgaa.cls
    rw [List.length_cons] at this
    omega
  obtain ⟨u, hu, fu, eu⟩ := fst_ex r x
  obtain ⟨v, hv, fv, ev⟩ := fst_ex r y
  have e2 : r2 u = r2 v := by rw [h.up u x (by omega) hx eu, h.up v y (by omega) hy ev, h.eq]
  rcases Nat.lt_trichotomy u v with hlt | rfl | hlt
  · exact key u v hlt (by omega) fu fv e2
  · exact absurd (eu.symm.trans ev) hne
  · exact key v u hlt (by omega) fv fu e2.symm
theorem Mg.cls_le {x y : Nat} (h : Mg N r r2 x y) (hx : x < N) (hy : y < N) (hle : r x = r y → Rf N r2 r) : Proofs.Ytedfcljikgmpgaa.cls N r2 ≤ Proofs.Ytedfcljikgmpgaa.cls N r := by
  have hsub : ∀ z ∈ (List.range N).filter (fstB r2), z ∈ (List.range N).filter (fstB r) := fun z hz => by
    obtain ⟨h1, h2⟩ := List.mem_filter.1 hz
    refine List.mem_filter.2 ⟨h1, fstB_iff.2 fun y' hy' e' => ?_⟩
    have hz1 := List.mem_range.1 h1
    exact fstB_iff.1 h2 y' hy' (h.up y' z (by omega) hz1 e')
  exact nd_sub (List.nodup_range.filter _) hsub

/-- The points with the label of k. -/
def blkL (r : Nat → Nat) (N k : Nat) : List Int := ptsL (fun y => decide (r y = r k)) N
theorem mem_ptsL {f : Nat → Bool} {x : Int} : x ∈ ptsL f N ↔ ∃ y : Nat, y < N ∧ x = (y : Int) ∧ f y = true := by
  unfold ptsL
  rw [List.mem_map]
  constructor
  · rintro ⟨y, hy, rfl⟩
    obtain ⟨h1, h2⟩ := List.mem_filter.1 hy
    exact ⟨y, List.mem_range.1 h1, rfl, h2⟩
  · rintro ⟨y, h1, rfl, h2⟩
    exact ⟨y, List.mem_filter.2 ⟨List.mem_range.2 h1, h2⟩, rfl⟩
theorem ptsL_sorted (f : Nat → Bool) (N : Nat) : (ptsL f N).Pairwise (· < ·) := by
  unfold ptsL
  rw [List.pairwise_map]
  exact (List.pairwise_lt_range.filter _).imp fun h => Int.ofNat_lt.2 h
theorem mem_blkL {x : Int} : x ∈ blkL r N k ↔ ∃ y : Nat, y < N ∧ x = (y : Int) ∧ r y = r k := by
  unfold blkL
  rw [mem_ptsL]
  simp
/-- The head of a sorted list. -/
theorem hd_sorted {l : List Int} {m : Int} (hs : l.Pairwise (· < ·)) (hm : m ∈ l) (hle : ∀ x ∈ l, m ≤ x) : l.getD 0 0 = m := by
  cases l with
  | nil => cases hm
  | cons a t =>
    show a = m
    rcases List.mem_cons.1 hm with h | h
    · exact h.symm
    · have h1 := (List.pairwise_cons.1 hs).1 m h
      have h2 := hle a (by simp)
      omega
theorem blkL_hd (hk : k < N) (hf : fstB r k = true) : (blkL r N k).getD 0 0 = (k : Int) :=
  hd_sorted (ptsL_sorted _ _) (mem_blkL.2 ⟨k, hk, rfl, rfl⟩) fun x hx => by
    obtain ⟨y, hy, rfl, e⟩ := mem_blkL.1 hx
    rcases Nat.lt_or_ge y k with h | h
    · exact absurd e (fstB_iff.1 hf y h)
    · omega
/-- The blocks whose first points lie below k. -/
def cnB (r : Nat → Nat) (N : Nat) : Nat → List (List Int)
  | 0 => []
  | k + 1 => if fstB r k then cnB r N k ++ [blkL r N k] else cnB r N k
theorem cnB_yes (h : fstB r k = true) : cnB r N (k + 1) = cnB r N k ++ [blkL r N k] := by simp [cnB, h]
theorem cnB_no (h : fstB r k = false) : cnB r N (k + 1) = cnB r N k := by simp [cnB, h]
/-- The partition by labels. -/
def canon (N : Nat) (r : Nat → Nat) : List (List Int) := cnB r N N
theorem mem_cnB {p : List Int} : ∀ k, p ∈ cnB r N k ↔ ∃ h, h < k ∧ fstB r h = true ∧ p = blkL r N h := by
  intro k
  induction k with
  | zero => simp [cnB]
  | succ k ih =>
    rcases hf : fstB r k with _ | _
    · rw [cnB_no hf, ih]
      exact ⟨fun ⟨h, a, b⟩ => ⟨h, by omega, b⟩, fun ⟨h, a, b, c⟩ => ⟨h, by
        have : h ≠ k := fun e => by rw [e, hf] at b; cases b
        omega, b, c⟩⟩
    · rw [cnB_yes hf, List.mem_append, ih, List.mem_singleton]
      constructor
      · rintro (⟨h, a, b⟩ | rfl)
        · exact ⟨h, by omega, b⟩
        · exact ⟨k, by omega, hf, rfl⟩
      · rintro ⟨h, a, b, c⟩
        by_cases e : h = k
        · subst e; exact .inr c
        · exact .inl ⟨h, by omega, b, c⟩
theorem cnB_len : ∀ k, (cnB r N k).length = ((List.range k).filter (fstB r)).length := by
  intro k
  induction k with
  | zero => rfl
  | succ k ih =>
    rw [List.range_succ, List.filter_append, List.length_append]
    rcases hf : fstB r k with _ | _
    · rw [cnB_no hf, ih]; simp [hf]
    · rw [cnB_yes hf, List.length_append, ih]; simp [hf]
theorem canon_len : (canon N r).length = cls N r := cnB_len N
theorem cnB_hd : ∀ k, k ≤ N → (cnB r N k).Pairwise fun p q => p.getD 0 0 < q.getD 0 0 := by
  intro k
  induction k with
  | zero => intro _; exact .nil
  | succ k ih =>
    intro hk
    rcases hf : fstB r k with _ | _
    · rw [cnB_no hf]; exact ih (by omega)
    · rw [cnB_yes hf, List.pairwise_append]
      refine ⟨ih (by omega), by simp, fun p hp q hq => ?_⟩
      rw [List.mem_singleton.1 hq, blkL_hd (by omega) hf]
      obtain ⟨h, h1, h2, rfl⟩ := (mem_cnB k).1 hp
      rw [blkL_hd (by omega) h2]
      omega
theorem blkL_congr (h : ∀ u v, u < N → v < N → (r u = r v ↔ r' u = r' v)) (hk : k < N) : blkL r N k = blkL r' N k := by
  unfold blkL ptsL
  congr 1
  refine List.filter_congr fun y hy => ?_
  rw [decide_eq_decide]
  exact h y k (List.mem_range.1 hy) hk
theorem fstB_congr (h : ∀ u v, u < N → v < N → (r u = r v ↔ r' u = r' v)) (hk : k < N) : fstB r k = fstB r' k := by
  rw [Bool.eq_iff_iff, fstB_iff, fstB_iff]
  exact ⟨fun a y hy e => a y hy ((h y k (by omega) hk).2 e), fun a y hy e => a y hy ((h y k (by omega) hk).1 e)⟩
theorem cnB_congr (h : ∀ u v, u < N → v < N → (r u = r v ↔ r' u = r' v)) : ∀ k, k ≤ N → cnB r N k = cnB r' N k := by
  intro k
  induction k with
  | zero => intro _; rfl
  | succ k ih =>
    intro hk
    have e := fstB_congr h (show k < N by omega)
    rcases hf : fstB r k with _ | _
    · rw [cnB_no hf, cnB_no (by rw [← e]; exact hf), ih (by omega)]
    · rw [cnB_yes hf, cnB_yes (by rw [← e]; exact hf), ih (by omega), blkL_congr h (by omega)]
theorem canon_congr (h : ∀ u v, u < N → v < N → (r u = r v ↔ r' u = r' v)) : canon N r = canon N r' := cnB_congr h N (Nat.le_refl _)
theorem canon_rf (h : Rf N r r') (h' : Rf N r' r) : canon N r = canon N r' := canon_congr fun u v hu hv => ⟨h u v hu hv, h' u v hu hv⟩
theorem mem_canon {p : List Int} : p ∈ canon N r ↔ ∃ h, h < N ∧ fstB r h = true ∧ p = blkL r N h := mem_cnB N
theorem canon_hd : (canon N r).Pairwise fun p q => p.getD 0 0 < q.getD 0 0 := cnB_hd N (Nat.le_refl _)
end
/-- Two lists that ascend by their heads and have the same members are one. -/
theorem hd_uniq : ∀ {l l' : List (List Int)}, l.Pairwise (fun p q => p.getD 0 0 < q.getD 0 0) → l'.Pairwise (fun p q => p.getD 0 0 < q.getD 0 0) → (∀ p, p ∈ l ↔ p ∈ l') → l = l'
  | [], [], _, _, _ => rfl
  | [], b :: t, _, _, h => absurd ((h b).2 (by simp)) (by simp)
  | a :: t, [], _, _, h => absurd ((h a).1 (by simp)) (by simp)
  | a :: t, b :: t', h1, h2, h => by
    have p1 := List.pairwise_cons.1 h1
    have p2 := List.pairwise_cons.1 h2
    have e : a = b := by
      rcases List.mem_cons.1 ((h a).1 (by simp)) with e | e
      · exact e
      · rcases List.mem_cons.1 ((h b).2 (by simp)) with e2 | e2
        · exact e2.symm
        · have := p1.1 b e2
          have := p2.1 a e
          omega
    subst e
    rw [hd_uniq p1.2 p2.2 fun p => ?_]
    constructor
    · intro hp
      rcases List.mem_cons.1 ((h p).1 (by simp [hp])) with e | e
      · subst e; have := p1.1 p hp; omega
      · exact e
    · intro hp
      rcases List.mem_cons.1 ((h p).2 (by simp [hp])) with e | e
      · subst e; have := p2.1 p hp; omega
      · exact e
end Go.Proofs.Ytedfcljikgmpgaa

/- Partitions: what isPartition asks; the index of a point's block; the partition by labels is one; block systems. No Go in it. No condition. -/
namespace Go.Proofs.Ytedfcljikgmpgaa

/-- Block i is neither empty nor out of order, and begins behind the block before it. -/
def OkB (N : Nat) (bl : List (List Int)) (i : Nat) : Prop := bl.getD i [] ≠ [] ∧ PtS N (bl.getD i []) ∧ (0 < i → (bl.getD (i - 1) []).getD 0 0 < (bl.getD i []).getD 0 0)
def Prt (N : Nat) (bl : List (List Int)) : Prop := (∀ i, i < bl.length → OkB N bl i) ∧ bl.flatten.Nodup ∧ bl.flatten.length = N
/-- The index of the block of x. -/
def bi (bl : List (List Int)) (x : Nat) : Nat := bl.findIdx fun b => decide ((x : Int) ∈ b)
theorem getD_L {l : List (List Int)} {i : Nat} (h : i < l.length) : l.getD i [] = l[i] := by
  rw [List.getD_eq_getElem?_getD, List.getElem?_eq_getElem h]; rfl
theorem rangeI_nd (N : Nat) : ((List.range N).map Int.ofNat).Nodup := by
  rw [List.Nodup, List.pairwise_map]
  exact List.nodup_range.imp fun h e => h (Int.ofNat.inj e)
theorem rangeI_mem {N : Nat} {x : Int} : x ∈ (List.range N).map Int.ofNat ↔ 0 ≤ x ∧ x < N := by
  rw [List.mem_map]
  constructor
  · rintro ⟨y, hy, rfl⟩
    have := List.mem_range.1 hy
    exact ⟨Int.natCast_nonneg _, Int.ofNat_lt.2 this⟩
  · rintro ⟨h1, h2⟩
    exact ⟨x.toNat, List.mem_range.2 (by omega), by show ((x.toNat : Nat) : Int) = x; omega⟩
/-- A list without repeats of points below N has at most N, and N only if it has all. -/
theorem nd_leN {l : List Int} {N : Nat} (hd : l.Nodup) (hm : ∀ x ∈ l, 0 ≤ x ∧ x < N) : l.length ≤ N := by
  have := nd_subA hd fun x hx => rangeI_mem.2 (hm x hx)
  simpa using this
theorem nd_allN {l : List Int} {N x : Nat} (hd : l.Nodup) (hm : ∀ x ∈ l, 0 ≤ x ∧ x < N) (hl : N ≤ l.length) (hx : x < N) : (x : Int) ∈ l := by
  refine Classical.byContradiction fun hn => ?_
  have := nd_leN (l := (x : Int) :: l) (N := N) (List.nodup_cons.2 ⟨hn, hd⟩) fun y hy => by
    rcases List.mem_cons.1 hy with rfl | hy
    · omega
    · exact hm y hy
  simp at this
  omega

section
variable {N x : Nat} {bl : List (List Int)} {r : Nat → Nat} {g : List Int}
theorem Prt.ok (h : Prt N bl) {b : List Int} (hb : b ∈ bl) : b ≠ [] ∧ PtS N b := by
  obtain ⟨i, hi, rfl⟩ := List.mem_iff_getElem.1 hb
  have := h.1 i hi
  unfold OkB at this
  rw [getD_L hi] at this
  exact ⟨this.1, this.2.1⟩
theorem Prt.hd_lt (h : Prt N bl) {i : Nat} : ∀ j, i < j → j < bl.length → (bl.getD i []).getD 0 0 < (bl.getD j []).getD 0 0 := by
  intro j
  induction j with
  | zero => intro h1; omega
  | succ j ih =>
    intro h1 h2
    have h3 := (h.1 (j + 1) h2).2.2 (by omega)
    rw [Nat.add_sub_cancel] at h3
    by_cases e : i = j
    · subst e; exact h3
    · have := ih (by omega) (by omega); omega
theorem Prt.mem (h : Prt N bl) {y : Int} (hy : y ∈ bl.flatten) : 0 ≤ y ∧ y < N := by
  obtain ⟨b, hb, hy⟩ := List.mem_flatten.1 hy
  exact (h.ok hb).2.mem hy
theorem Prt.all (h : Prt N bl) (hx : x < N) : ∃ b ∈ bl, (x : Int) ∈ b :=
  List.mem_flatten.1 (nd_allN h.2.1 (fun y hy => h.mem hy) (by rw [h.2.2]; exact Nat.le_refl _) hx)
theorem Prt.bi_lt (h : Prt N bl) (hx : x < N) : bi bl x < bl.length := by
  obtain ⟨b, hb, hm⟩ := h.all hx
  exact List.findIdx_lt_length_of_exists ⟨b, hb, by simpa using hm⟩
theorem Prt.bi_mem (h : Prt N bl) (hx : x < N) : (x : Int) ∈ bl.getD (bi bl x) [] := by
  have hl := h.bi_lt hx
  rw [getD_L hl]
  exact of_decide_eq_true (p := (x : Int) ∈ bl[bi bl x]) (List.findIdx_getElem (w := hl))
theorem Prt.dis (h : Prt N bl) {i j : Nat} {z : Int} (hi : i < bl.length) (hj : j < bl.length) (h1 : z ∈ bl.getD i []) (h2 : z ∈ bl.getD j []) : i = j := by
  have hp := (List.pairwise_flatten.1 h.2.1).2
  rw [getD_L hi] at h1
  rw [getD_L hj] at h2
  rcases Nat.lt_trichotomy i j with e | e | e
  · exact absurd rfl ((List.pairwise_iff_getElem.1 hp) i j hi hj e z h1 z h2)
  · exact e
  · exact absurd rfl ((List.pairwise_iff_getElem.1 hp) j i hj hi e z h2 z h1)
theorem Prt.bi_of (h : Prt N bl) {i : Nat} (hi : i < bl.length) (hm : (x : Int) ∈ bl.getD i []) : bi bl x = i := by
  have hx : x < N := by
    have := h.mem (List.mem_flatten.2 ⟨_, by rw [getD_L hi]; exact List.getElem_mem _, hm⟩)
    omega
  exact h.dis (h.bi_lt hx) hi (h.bi_mem hx) hm
theorem Prt.bi_eq (h : Prt N bl) {u v : Nat} (hu : u < N) (hv : v < N) : bi bl u = bi bl v ↔ (v : Int) ∈ bl.getD (bi bl u) [] := by
  constructor
  · intro e; rw [e]; exact h.bi_mem hv
  · intro e; exact (h.bi_of (h.bi_lt hu) e).symm
/-- The head of a block. -/
theorem Prt.head (h : Prt N bl) {i : Nat} (hi : i < bl.length) : (bl.getD i []).getD 0 0 ∈ bl.getD i [] ∧ 0 ≤ (bl.getD i []).getD 0 0 ∧ (bl.getD i []).getD 0 0 < N := by
  have ho := h.1 i hi
  have hp : 0 < (bl.getD i []).length := List.length_pos_iff.2 ho.1
  have hm : (bl.getD i []).getD 0 0 ∈ bl.getD i [] := by
    rw [List.getD_eq_getElem?_getD (l := bl.getD i []), List.getElem?_eq_getElem hp]
    exact List.getElem_mem _
  exact ⟨hm, ho.2.1.mem hm⟩
theorem Prt.head_bi (h : Prt N bl) {i : Nat} (hi : i < bl.length) : bi bl ((bl.getD i []).getD 0 0).toNat = i := by
  obtain ⟨h1, h2, h3⟩ := h.head hi
  refine h.bi_of hi ?_
  rw [Int.toNat_of_nonneg h2]; exact h1
theorem Prt.len_le (h : Prt N bl) : bl.length ≤ N := by
  have hn : (((List.range bl.length).map fun i => ((bl.getD i []).getD 0 0).toNat)).Nodup := nd_map List.nodup_range fun i hi j hj e => by
    have := congrArg (bi bl) e
    rw [h.head_bi (List.mem_range.1 hi), h.head_bi (List.mem_range.1 hj)] at this
    exact this
  have := ndlen N _ hn fun y hy => by
    obtain ⟨i, hi, rfl⟩ := List.mem_map.1 hy
    have := h.head (List.mem_range.1 hi)
    omega
  simpa using this

/-! ### the partition by labels -/
theorem ptS_ptsL (f : Nat → Bool) (N : Nat) : PtS N (ptsL f N) := by
  refine ⟨ptsL_le f N, fun i hi => ?_⟩
  have hm : (ptsL f N).getD i 0 ∈ ptsL f N := by
    rw [List.getD_eq_getElem?_getD, List.getElem?_eq_getElem hi]; exact List.getElem_mem _
  obtain ⟨y, hy, e, _⟩ := mem_ptsL.1 hm
  refine ⟨by omega, by omega, fun h0 => ?_⟩
  have := List.pairwise_iff_getElem.1 (ptsL_sorted f N) (i - 1) i (by omega) hi (by omega)
  rw [List.getD_eq_getElem?_getD, List.getD_eq_getElem?_getD, List.getElem?_eq_getElem hi, List.getElem?_eq_getElem (by omega : i - 1 < (ptsL f N).length)]
  exact this
theorem canon_prt (N : Nat) (r : Nat → Nat) : Prt N (canon N r) := by
  have hne : ∀ p ∈ canon N r, p ≠ [] ∧ PtS N p := fun p hp => by
    obtain ⟨h, h1, h2, rfl⟩ := mem_canon.1 hp
    refine ⟨fun e => ?_, ptS_ptsL _ _⟩
    have : (h : Int) ∈ blkL r N h := mem_blkL.2 ⟨h, h1, rfl, rfl⟩
    rw [e] at this; cases this
  have hnd : (canon N r).flatten.Nodup := by
    refine List.pairwise_flatten.2 ⟨fun p hp => ?_, ?_⟩
    · obtain ⟨h, h1, h2, rfl⟩ := mem_canon.1 hp
      exact (ptsL_sorted _ _).imp fun h e => by omega
    · refine List.pairwise_iff_getElem.2 fun i j hi hj hij x hx y hy e => ?_
      subst e
      obtain ⟨h, h1, h2, e1⟩ := mem_canon.1 (List.getElem_mem hi)
      obtain ⟨h', h1', h2', e1'⟩ := mem_canon.1 (List.getElem_mem hj)
      have hlt := List.pairwise_iff_getElem.1 (canon_hd (N := N) (r := r)) i j hi hj hij
      rw [e1, e1', blkL_hd h1 h2, blkL_hd h1' h2'] at hlt
      rw [e1] at hx
      rw [e1'] at hy
      obtain ⟨z, _, ez, hz⟩ := mem_blkL.1 hx
      obtain ⟨z', _, ez', hz'⟩ := mem_blkL.1 hy
      have : z = z' := by omega
      subst this
      have := fst_uniq h2 h2' (hz.symm.trans hz')
      omega
  refine ⟨fun i hi => ?_, hnd, ?_⟩
  · have h1 := hne _ (getD_memL hi)
    refine ⟨h1.1, h1.2, fun h0 => ?_⟩
    have := List.pairwise_iff_getElem.1 (canon_hd (N := N) (r := r)) (i - 1) i (by omega) hi (by omega)
    rw [getD_L hi, getD_L (by omega : i - 1 < (canon N r).length)]
    exact this
  · have h1 := nd_leN (N := N) hnd fun x hx => by
      obtain ⟨b, hb, hx⟩ := List.mem_flatten.1 hx
      exact (hne b hb).2.mem hx
    have h2 := nd_subA (rangeI_nd N) (l := (canon N r).flatten) fun x hx => by
      obtain ⟨y, hy, rfl⟩ := List.mem_map.1 hx
      have hy := List.mem_range.1 hy
      obtain ⟨h, a1, a2, a3⟩ := fst_ex r y
      exact List.mem_flatten.2 ⟨blkL r N h, mem_canon.2 ⟨h, by omega, a2, rfl⟩, mem_blkL.2 ⟨y, hy, rfl, a3.symm⟩⟩
    rw [List.length_map, List.length_range] at h2
    omega
theorem canon_bi {u v : Nat} (hu : u < N) (hv : v < N) : bi (canon N r) u = bi (canon N r) v ↔ r u = r v := by
  have hP := canon_prt N r
  rw [hP.bi_eq hu hv]
  have hm := hP.bi_mem hu
  obtain ⟨h, h1, h2, e⟩ := mem_canon.1 (getD_memL (hP.bi_lt hu))
  rw [e] at hm ⊢
  obtain ⟨z, _, ez, hz⟩ := mem_blkL.1 hm
  obtain rfl : u = z := by omega
  constructor
  · intro hv'
    obtain ⟨z', _, ez', hz'⟩ := mem_blkL.1 hv'
    obtain rfl : v = z' := by omega
    exact hz.trans hz'.symm
  · intro e'
    exact mem_blkL.2 ⟨v, hv, rfl, e'.symm.trans hz⟩
theorem canon_len_le (h : Prt N bl) (hr : Rf N (bi bl) r) : (canon N r).length ≤ bl.length := by
  rw [canon_len]
  have hn : (((List.range N).filter (fstB r)).map (bi bl)).Nodup := nd_map (List.nodup_range.filter _) fun u hu v hv e => by
    obtain ⟨hu, fu⟩ := List.mem_filter.1 hu
    obtain ⟨hv, fv⟩ := List.mem_filter.1 hv
    exact fst_uniq fu fv (hr u v (List.mem_range.1 hu) (List.mem_range.1 hv) e)
  have := ndlen bl.length _ hn fun y hy => by
    obtain ⟨u, hu, rfl⟩ := List.mem_map.1 hy
    exact h.bi_lt (List.mem_range.1 (List.mem_filter.1 hu).1)
  rw [List.length_map] at this
  exact this

/-! ### block systems -/
/-- It maps each block into a block. -/
def Rsp (N : Nat) (bl : List (List Int)) (g : List Int) : Prop := Rf N (bi bl) fun u => bi bl (nx g u)
theorem Rsp.mb {gs : List (List Int)} (hg : ∀ g ∈ gs, Pn N g) (h1 : 1 ≤ N) (h2 : N ≤ 20) (h : ∀ g ∈ gs, Rsp N bl g) {p : List Int} (hp : Mb gs N p) : Rsp N bl p := by
  induction hp with
  | one => intro u v hu hv e; show bi bl (nx (idL N) u) = bi bl (nx (idL N) v); rw [nx_id hu, nx_id hv]; exact e
  | mul hp hgm ih =>
    rename_i p g
    have hpP := hp.pn hg h1 h2
    intro u v hu hv e
    show bi bl (nx (compL p g) u) = bi bl (nx (compL p g) v)
    rw [hpP.nxc hu, hpP.nxc hv]
    exact h g hgm _ _ (hpP.lt hu) (hpP.lt hv) (ih u v hu hv e)
theorem Rsp.inv (hg : Pn N g) (h1 : 1 ≤ N) (h2 : N ≤ 20) (h : Rsp N bl g) : Rsp N bl (Proofs.Ytedfcljikgmpgaa.iv g) :=
  Rsp.mb (gs := [g]) (fun x hx => by rw [List.mem_singleton.1 hx]; exact hg) h1 h2 (fun x hx => by rw [List.mem_singleton.1 hx]; exact h)
    (Mb.inv (fun x hx => by rw [List.mem_singleton.1 hx]; exact hg) h1 h2 (Mb.of hg (by simp)))
end
def BS (a : Int) (gs bl : List (List Int)) : Prop := gB a gs = true ∧ Prt a.toNat bl ∧ ∀ g ∈ gs, Rsp a.toNat bl g
def IsBsy (a : Int) (gs bl : List (List Int)) (b : Bool) : Prop := b = true ↔ BS a gs bl
/-- How g rearranges the blocks. -/
def actL (bl : List (List Int)) (g : List Int) : List Int := bl.map fun b => (bi bl (nx g (b.getD 0 0).toNat) : Int)
def IsAct (a : Int) (gs bl out : List (List Int)) (ok : Bool) : Prop := (BS a gs bl ∧ out = gs.map (actL bl) ∧ ok = true) ∨ (¬ BS a gs bl ∧ out = [] ∧ ok = false)
def IsBao (a : Int) (gs bl : List (List Int)) (v : Int) : Prop := (BS a gs bl ∧ IsOrd (bl.length : Int) (gs.map (actL bl)) v) ∨ (¬ BS a gs bl ∧ v = 0)
def IsBko (a : Int) (gs bl : List (List Int)) (v : Int) : Prop := ∃ k, IsBao a gs bl k ∧ ((k = 0 ∧ v = 0) ∨ (k ≠ 0 ∧ ∃ o, IsOrd a gs o ∧ v = o.tdiv k))
/-- The labels make one of x and y, and of the images of whatever they make one. -/
def CM (gs : List (List Int)) (N x y : Nat) (r : Nat → Nat) : Prop := r x = r y ∧ ∀ g ∈ gs, Rf N r fun u => r (nx g u)
def LstM (gs : List (List Int)) (N x y : Nat) (r : Nat → Nat) : Prop := CM gs N x y r ∧ ∀ r', CM gs N x y r' → Rf N r r'
def VldP (a : Int) (gs : List (List Int)) (x y : Int) : Prop := gB a gs = true ∧ (0 ≤ x ∧ x < a) ∧ (0 ≤ y ∧ y < a)
def IsMin (a : Int) (gs : List (List Int)) (x y : Int) (out : List (List Int)) : Prop := (VldP a gs x y ∧ ∃ r, LstM gs a.toNat x.toNat y.toNat r ∧ out = canon a.toNat r) ∨ (¬ VldP a gs x y ∧ out = [])
def LstJ (N : Nat) (A B : List (List Int)) (r : Nat → Nat) : Prop := Rf N (bi A) r ∧ Rf N (bi B) r ∧ ∀ r', Rf N (bi A) r' → Rf N (bi B) r' → Rf N r r'
def VldJ (a : Int) (A B : List (List Int)) : Prop := (1 ≤ a ∧ a ≤ 20) ∧ Prt a.toNat A ∧ Prt a.toNat B
def IsJoin (a : Int) (A B out : List (List Int)) : Prop := (VldJ a A B ∧ ∃ r, LstJ a.toNat A B r ∧ out = canon a.toNat r) ∨ (¬ VldJ a A B ∧ out = [])

section
variable {a x y v v' o : Int} {gs bl A B out out' : List (List Int)} {b b' ok ok' : Bool} {N : Nat} {r r' : Nat → Nat}
theorem IsBsy.uniq (h : IsBsy a gs bl b) (h' : IsBsy a gs bl b') : b = b' := by unfold IsBsy at h h'; rw [Bool.eq_iff_iff, h, h']
theorem IsAct.uniq (h : IsAct a gs bl out ok) (h' : IsAct a gs bl out' ok') : out = out' ∧ ok = ok' := by
  rcases h with ⟨e, h1, h2⟩ | ⟨e, h1, h2⟩ <;> rcases h' with ⟨e', h1', h2'⟩ | ⟨e', h1', h2'⟩
  · exact ⟨h1.trans h1'.symm, h2.trans h2'.symm⟩
  · exact absurd e e'
  · exact absurd e' e
  · exact ⟨h1.trans h1'.symm, h2.trans h2'.symm⟩
theorem IsBao.uniq (h : IsBao a gs bl v) (h' : IsBao a gs bl v') : v = v' := by
  rcases h with ⟨e, h⟩ | ⟨e, rfl⟩ <;> rcases h' with ⟨e', h'⟩ | ⟨e', rfl⟩
  · exact h.uniq h'
  · exact absurd e e'
  · exact absurd e' e
  · rfl
theorem IsBko.uniq (h : IsBko a gs bl v) (h' : IsBko a gs bl v') : v = v' := by
  obtain ⟨k, hk, h⟩ := h
  obtain ⟨k', hk', h'⟩ := h'
  obtain rfl := hk.uniq hk'
  rcases h with ⟨e, rfl⟩ | ⟨e, o, ho, rfl⟩ <;> rcases h' with ⟨e', rfl⟩ | ⟨e', o', ho', rfl⟩
  · rfl
  · exact absurd e e'
  · exact absurd e' e
  · rw [ho.uniq ho']
theorem LstM.canon {x y : Nat} (h : LstM gs N x y r) (h' : LstM gs N x y r') : canon N r = canon N r' := canon_rf (h.2 _ h'.1) (h'.2 _ h.1)
theorem IsMin.uniq (h : IsMin a gs x y out) (h' : IsMin a gs x y out') : out = out' := by
  rcases h with ⟨e, r, h, rfl⟩ | ⟨e, rfl⟩ <;> rcases h' with ⟨e', r', h', rfl⟩ | ⟨e', rfl⟩
  · exact h.canon h'
  · exact absurd e e'
  · exact absurd e' e
  · rfl
theorem LstJ.canon (h : LstJ N A B r) (h' : LstJ N A B r') : canon N r = canon N r' := canon_rf (h.2.2 _ h'.1 h'.2.1) (h'.2.2 _ h.1 h.2.1)
theorem IsJoin.uniq (h : IsJoin a A B out) (h' : IsJoin a A B out') : out = out' := by
  rcases h with ⟨e, r, h, rfl⟩ | ⟨e, rfl⟩ <;> rcases h' with ⟨e', r', h', rfl⟩ | ⟨e', rfl⟩
  · exact h.canon h'
  · exact absurd e e'
  · exact absurd e' e
  · rfl
theorem prt_bound {N : Nat} {out : List (List Int)} (h : Prt N out) (hN : N ≤ 20) : out.length ≤ 20 ∧ ∀ y ∈ out, y.length ≤ 20 :=
  ⟨Nat.le_trans h.len_le hN, fun y hy => Nat.le_trans (h.ok hy).2.1 hN⟩
theorem IsMin.len (h : IsMin a gs x y out) : out.length ≤ 20 ∧ ∀ y ∈ out, y.length ≤ 20 := by
  rcases h with ⟨e, r, h, rfl⟩ | ⟨e, rfl⟩
  · have := (gB_iff.1 e.1).2.1
    exact prt_bound (canon_prt _ _) (by omega)
  · exact ⟨by simp, fun y hy => by cases hy⟩
theorem IsJoin.len (h : IsJoin a A B out) : out.length ≤ 20 ∧ ∀ y ∈ out, y.length ≤ 20 := by
  rcases h with ⟨e, r, h, rfl⟩ | ⟨e, rfl⟩
  · exact prt_bound (canon_prt _ _) (by have := e.1.2; omega)
  · exact ⟨by simp, fun y hy => by cases hy⟩
theorem IsAct.len (h : IsAct a gs bl out ok) : out.length ≤ 20 ∧ ∀ y ∈ out, y.length ≤ 20 := by
  rcases h with ⟨e, rfl, _⟩ | ⟨e, rfl, _⟩
  · have h1 := gB_iff.1 e.1
    refine ⟨by rw [List.length_map]; omega, fun y hy => ?_⟩
    obtain ⟨g, _, rfl⟩ := List.mem_map.1 hy
    unfold actL
    rw [List.length_map]
    exact Nat.le_trans e.2.1.len_le (by omega)
  · exact ⟨by simp, fun y hy => by cases hy⟩
theorem bound20 {l : List (List Int)} (h : l.length ≤ 20 ∧ ∀ y ∈ l, y.length ≤ 20) : l.length ≤ 1048576 ∧ (∀ i, i < l.length → (l.getD i []).length ≤ 1048576) ∧ sumL l ≤ 1048576 := bound_all (m := 20) (k := 20) h.1 h.2 (by omega)
theorem boundMin (h : IsMin a gs x y out) : out.length ≤ 1048576 ∧ (∀ i, i < out.length → (out.getD i []).length ≤ 1048576) ∧ sumL out ≤ 1048576 := bound20 h.len
theorem boundJoin (h : IsJoin a A B out) : out.length ≤ 1048576 ∧ (∀ i, i < out.length → (out.getD i []).length ≤ 1048576) ∧ sumL out ≤ 1048576 := bound20 h.len
theorem boundAct (h : IsAct a gs bl out ok) : out.length ≤ 1048576 ∧ (∀ i, i < out.length → (out.getD i []).length ≤ 1048576) ∧ sumL out ≤ 1048576 := bound20 h.len
/-- Labels that begin as the points themselves. -/
theorem lstM_of {x y : Nat} (h : CM gs N x y r) (hl : ∀ r', CM gs N x y r' → Rf N r r') : LstM gs N x y r := ⟨h, hl⟩
end
end Go.Proofs.Ytedfcljikgmpgaa

/- Linked points: the smallest of a set; what a link makes one. No Go in it. No condition. -/
namespace Go.Proofs.Ytedfcljikgmpgaa

/-- Each point is linked to a smaller one, or to none. -/
def Lnk (N : Nat) (f : Nat → Option Nat) : Prop := ∀ x y, f x = some y → y < x ∧ x < N
def rtN (f : Nat → Option Nat) : Nat → Nat → Nat
  | 0, x => x
  | k + 1, x => match f x with
    | none => x
    | some y => rtN f k y
/-- Where the links of x end. -/
def rt (f : Nat → Option Nat) (x : Nat) : Nat := rtN f x x
section
variable {N : Nat} {f : Nat → Option Nat} {x y : Nat}
theorem rtN_fuel (h : Lnk N f) : ∀ x k, x ≤ k → rtN f k x = rtN f x x := fun x => by
  induction x using Nat.strongRecOn with
  | _ x ih =>
    intro k hk
    rcases hf : f x with _ | y
    · cases k with
      | zero => obtain rfl : x = 0 := by omega
                rfl
      | succ k => cases x with
        | zero => show rtN f (k + 1) 0 = 0; simp [rtN, hf]
        | succ x => simp [rtN, hf]
    · have hy := (h x y hf).1
      cases k with
      | zero => omega
      | succ k => cases x with
        | zero => omega
        | succ x =>
          simp only [rtN, hf]
          rw [ih y hy k (by omega), ih y hy x (by omega)]
theorem rt_none (hf : f x = none) : rt f x = x := by
  unfold rt
  cases x with
  | zero => rfl
  | succ x => simp [rtN, hf]
theorem rt_some (h : Lnk N f) (hf : f x = some y) : rt f x = rt f y := by
  have hy := (h x y hf).1
  unfold rt
  cases x with
  | zero => omega
  | succ x =>
    simp only [rtN, hf]
    exact rtN_fuel h y x (by omega)
theorem rt_le (h : Lnk N f) : ∀ x, rt f x ≤ x := fun x => by
  induction x using Nat.strongRecOn with
  | _ x ih =>
    rcases hf : f x with _ | y
    · rw [rt_none hf]; exact Nat.le_refl _
    · have hy := (h x y hf).1
      rw [rt_some h hf]
      have := ih y hy
      omega
theorem rt_root (h : Lnk N f) : ∀ x, f (rt f x) = none := fun x => by
  induction x using Nat.strongRecOn with
  | _ x ih =>
    rcases hf : f x with _ | y
    · rw [rt_none hf]; exact hf
    · rw [rt_some h hf]; exact ih y (h x y hf).1
theorem rt_rt (h : Lnk N f) (x : Nat) : rt f (rt f x) = rt f x := rt_none (rt_root h x)
theorem rt_fst (h : Lnk N f) : fstB (rt f) x = true ↔ f x = none := by
  rw [fstB_iff]
  constructor
  · intro hn
    rcases hf : f x with _ | y
    · rfl
    · exact absurd (rt_some h hf).symm (hn y (h x y hf).1)
  · intro hf y hy e
    rw [rt_none hf] at e
    have := rt_le h y
    omega
/-- A link from a to m. -/
def lnk (f : Nat → Option Nat) (a m : Nat) : Nat → Option Nat := fun z => if z = a then some m else f z
theorem Lnk.lnk {a m : Nat} (h : Lnk N f) (hm : m < a) (ha : a < N) : Lnk N (lnk f a m) := fun x y e => by
  unfold Proofs.Ytedfcljikgmpgaa.lnk at e
  by_cases h1 : x = a
  · rw [if_pos h1] at e
    injection e with e
    omega
  · rw [if_neg h1] at e
    exact h x y e
theorem rt_lnk {a m : Nat} (h : Lnk N f) (hm : m < a) (ha : a < N) (fa : f a = none) (fm : f m = none) : ∀ u, rt (lnk f a m) u = if rt f u = a then m else rt f u := fun u => by
  have hL := h.lnk hm ha
  have hm2 : rt (lnk f a m) m = m := rt_none (by unfold Proofs.Ytedfcljikgmpgaa.lnk; rw [if_neg (by omega)]; exact fm)
  induction u using Nat.strongRecOn with
  | _ u ih =>
    by_cases e : u = a
    · subst e
      rw [rt_some hL (y := m) (by unfold Proofs.Ytedfcljikgmpgaa.lnk; rw [if_pos rfl]), hm2, rt_none fa, if_pos rfl]
    · rcases hf : f u with _ | y
      · rw [rt_none hf, if_neg e]
        exact rt_none (by unfold Proofs.Ytedfcljikgmpgaa.lnk; rw [if_neg e]; exact hf)
      · rw [rt_some hL (y := y) (by unfold Proofs.Ytedfcljikgmpgaa.lnk; rw [if_neg e]; exact hf), rt_some h hf]
        exact ih y (h u y hf).1
/-- What unite does: the greater of the two smallest is linked to the other. -/
theorem mg_lnk {a m : Nat} (h : Lnk N f) (hx : x < N) (hy : y < N) (hm : m < a) (he : (a = rt f x ∧ m = rt f y) ∨ (a = rt f y ∧ m = rt f x)) : Mg N (rt f) (rt (lnk f a m)) x y := by
  have ha : a < N := by
    have h1 := rt_le h x
    have h2 := rt_le h y
    rcases he with ⟨e, _⟩ | ⟨e, _⟩ <;> omega
  have fa : f a = none := by rcases he with ⟨e, _⟩ | ⟨e, _⟩ <;> (rw [e]; exact rt_root h _)
  have fm : f m = none := by rcases he with ⟨_, e⟩ | ⟨_, e⟩ <;> (rw [e]; exact rt_root h _)
  rcases he with ⟨e1, e2⟩ | ⟨e1, e2⟩
  · refine Mg.symm (mg_of hy hx fun u _ => ?_)
    rw [rt_lnk h hm ha fa fm u, ← e1, ← e2]
  · refine mg_of hx hy fun u _ => ?_
    rw [rt_lnk h hm ha fa fm u, ← e1, ← e2]
theorem lk_empty (N : Nat) : Lnk N fun _ => none := fun _ _ e => by cases e
theorem rt_empty : rt (fun _ => none) x = x := rt_none rfl

/-! ### all that a first pair brings -/
/-- From the labels r to r': x and y are made one, and so are the images of whatever is newly made one; nothing else. -/
structure UI (gs : List (List Int)) (N : Nat) (r r' : Nat → Nat) (x y : Nat) : Prop where
  up : Rf N r r'
  eq : r' x = r' y
  least : ∀ q, Rf N r q → q x = q y → (∀ g ∈ gs, Rf N q fun u => q (nx g u)) → Rf N r' q
  img : ∀ q, Rf N r' q → (∀ g ∈ gs, Rf N r fun u => q (nx g u)) → ∀ g ∈ gs, Rf N r' fun u => q (nx g u)
section
variable {gs : List (List Int)} {r r0 r' s : Nat → Nat}
theorem UI.same (e : r x = r y) : UI gs N r r x y := ⟨Rf.refl _ _, e, fun _ h _ _ => h, fun _ _ h => h⟩
/-- Behind the first i of the generators. -/
structure UJ (gs : List (List Int)) (N : Nat) (r r0 s : Nat → Nat) (x y i : Nat) : Prop where
  up : Rf N r0 s
  done : ∀ k, k < i → s (nx (gs.getD k []) x) = s (nx (gs.getD k []) y)
  least : ∀ q, Rf N r q → q x = q y → (∀ g ∈ gs, Rf N q fun u => q (nx g u)) → Rf N s q
  img : ∀ q, Rf N s q → (∀ g ∈ gs, Rf N r0 fun u => q (nx g u)) → ∀ g ∈ gs, Rf N s fun u => q (nx g u)
theorem UJ.zero (h : Mg N r r0 x y) : UJ gs N r r0 r0 x y 0 := ⟨Rf.refl _ _, fun k hk => absurd hk (Nat.not_lt_zero _), fun q a b _ => h.least q a b, fun _ _ h => h⟩
theorem UJ.step {i : Nat} {s' : Nat → Nat} (h : UJ gs N r r0 s x y i) (hm : Mg N r r0 x y) (hi : i < gs.length) (hx : x < N) (hy : y < N) (hg : ∀ g ∈ gs, ∀ u, u < N → nx g u < N)
    (hu : UI gs N s s' (nx (gs.getD i []) x) (nx (gs.getD i []) y)) : UJ gs N r r0 s' x y (i + 1) := by
  have hgm : gs.getD i [] ∈ gs := by rw [getD_L hi]; exact List.getElem_mem hi
  refine ⟨h.up.trans hu.up, fun k hk => ?_, fun q a b c => hu.least q (h.least q a b c) (c _ hgm x y hx hy b) c, fun q a b => hu.img q a (h.img q (hu.up.trans a) b)⟩
  by_cases e : k = i
  · subst e; exact hu.eq
  · have hkm : gs.getD k [] ∈ gs := by rw [getD_L (by omega)]; exact List.getElem_mem _
    exact hu.up _ _ (hg _ hkm x hx) (hg _ hkm y hy) (h.done k (by omega))
theorem UJ.all (h : UJ gs N r r0 s x y gs.length) (hm : Mg N r r0 x y) (hx : x < N) (hy : y < N) (hg : ∀ g ∈ gs, ∀ u, u < N → nx g u < N) : UI gs N r s x y := by
  refine ⟨hm.up.trans h.up, h.up x y hx hy hm.eq, h.least, fun q a b => h.img q a fun g hgm => ?_⟩
  obtain ⟨k, hk, e⟩ := List.mem_iff_getElem.1 hgm
  refine hm.least _ (b g hgm) ?_
  have hd := h.done k hk
  rw [getD_L hk, e] at hd
  exact a _ _ (hg g hgm x hx) (hg g hgm y hy) hd
/-- At the very first call: the least. -/
theorem UI.lst (h : UI gs N id r' x y) : LstM gs N x y r' :=
  ⟨⟨h.eq, h.img r' (Rf.refl _ _) fun g _ u v _ _ e => (by
    have e : u = v := e
    subst e; rfl)⟩, fun q hq => h.least q (fun u v _ _ e => (by
    have e : u = v := e
    subst e; rfl)) hq.1 hq.2⟩
end
end
end Go.Proofs.Ytedfcljikgmpgaa
