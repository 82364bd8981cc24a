/- Orbits under lists of maps, as a search in the order of discovery; sorted orbits; the sweep over all points. No Go in it. No condition. -/
import Derived.Test.YtooafmifbplbhaaMath
namespace Go.Proofs.Ytooafmifbplbhaa

/-- A rearrangement of the points below N. -/
structure PM (N : Nat) (g : List Int) : Prop where
  len : g.length = N
  lo : ∀ i, i < N → 0 ≤ g.getD i 0
  hi : ∀ i, i < N → g.getD i 0 < N
  inj : ∀ i j, i < N → j < N → g.getD i 0 = g.getD j 0 → i = j
def PMs (N : Nat) (gs : List (List Int)) : Prop := ∀ g ∈ gs, PM N g

theorem PM.nx_lt {N : Nat} {g : List Int} (h : PM N g) {x : Nat} (hx : x < N) : nx g x < N := by
  have := h.lo x hx; have := h.hi x hx; unfold nx; omega
theorem PM.nx_val {N : Nat} {g : List Int} (h : PM N g) {x : Nat} (hx : x < N) : g.getD x 0 = (nx g x : Int) := by
  have := h.lo x hx; unfold nx; omega
theorem PM.nx_inj {N : Nat} {g : List Int} (h : PM N g) {x y : Nat} (hx : x < N) (hy : y < N) (e : nx g x = nx g y) : x = y :=
  h.inj x y hx hy (by rw [h.nx_val hx, h.nx_val hy, e])
theorem IsP.pm {p : List Int} (h : IsP p) : PM p.length p := ⟨rfl, h.lo, h.hi, h.inj⟩

theorem nd_sub {l' : List Nat} : ∀ {l : List Nat}, l'.Nodup → (∀ x ∈ l', x ∈ l) → l'.length ≤ l.length := by
  induction l' with
  | nil => intro l _ _; simp
  | cons a t ih =>
    intro l hd h
    rw [List.nodup_cons] at hd
    have ha : a ∈ l := h a (by simp)
    have := ih (l := l.erase a) hd.2 fun x hx => by
      have hne : x ≠ a := fun e => hd.1 (e ▸ hx)
      exact (List.mem_erase_of_ne hne).2 (h x (by simp [hx]))
    rw [List.length_erase_of_mem ha] at this
    have h0 : 0 < l.length := List.length_pos_of_mem ha
    simp; omega
/-- A nodup list within another of the same length is all of it. -/
theorem nd_all {l' l : List Nat} (hd : l'.Nodup) (h : ∀ x ∈ l', x ∈ l) (hl : l.length ≤ l'.length) : ∀ y ∈ l, y ∈ l' := fun y hy => by
  rcases Decidable.em (y ∈ l') with h1 | h1
  · exact h1
  · have := nd_sub (l' := y :: l') (l := l) (List.nodup_cons.2 ⟨h1, hd⟩) (fun x hx => by
      rcases List.mem_cons.1 hx with rfl | hx
      · exact hy
      · exact h x hx)
    simp at this; omega
theorem nd_map {f : Nat → Nat} {l : List Nat} (hd : l.Nodup) (hf : ∀ x ∈ l, ∀ y ∈ l, f x = f y → x = y) : (l.map f).Nodup := by
  induction l with
  | nil => simp
  | cons a t ih =>
    rw [List.nodup_cons] at hd
    rw [List.map_cons, List.nodup_cons]
    refine ⟨fun hm => ?_, ih hd.2 fun x hx y hy => hf x (by simp [hx]) y (by simp [hy])⟩
    obtain ⟨b, hb, e⟩ := List.mem_map.1 hm
    have := hf b (by simp [hb]) a (by simp) e
    subst this
    exact hd.1 hb

/-! ### reach -/
inductive Rch (gs : List (List Int)) (x : Nat) : Nat → Prop
  | refl : Rch gs x x
  | step {u : Nat} {g : List Int} : Rch gs x u → g ∈ gs → Rch gs x (nx g u)
section
variable {gs : List (List Int)} {N x y z : Nat}
theorem Rch.trans (h : Rch gs x y) (k : Rch gs y z) : Rch gs x z := by
  induction k with
  | refl => exact h
  | step _ hg ih => exact ih.step hg
theorem Rch.lt (hp : PMs N gs) (hx : x < N) (h : Rch gs x y) : y < N := by
  induction h with
  | refl => exact hx
  | step _ hg ih => exact (hp _ hg).nx_lt ih
end

/-! ### the search -/
def addN (f : List Nat) (y : Nat) : List Nat := if y ∈ f then f else f ++ [y]
def expd (gs : List (List Int)) (u : Nat) (f : List Nat) : List Nat := gs.foldl (fun f g => addN f (nx g u)) f
def bfs (gs : List (List Int)) : Nat → Nat → List Nat → List Nat
  | 0, _, f => f
  | fuel + 1, i, f => if i < f.length then bfs gs fuel (i + 1) (expd gs (f.getD i 0) f) else f
/-- The orbit of x in the order of discovery. -/
def orb (gs : List (List Int)) (N x : Nat) : List Nat := bfs gs (N + 1) 0 [x]

theorem bfs_go {gs : List (List Int)} {N i : Nat} {f : List Nat} (hi : i < f.length) (hl : f.length ≤ N) : bfs gs (N + 1 - i) i f = bfs gs (N + 1 - (i + 1)) (i + 1) (expd gs (f.getD i 0) f) := by
  obtain ⟨k, hk⟩ : ∃ k, N + 1 - i = k + 1 := ⟨N - i, by omega⟩
  have hk' : N + 1 - (i + 1) = k := by omega
  rw [hk, hk', bfs, if_pos hi]
theorem bfs_end {gs : List (List Int)} {N i : Nat} {f : List Nat} (hi : f.length ≤ i) : bfs gs (N + 1 - i) i f = f := by
  cases N + 1 - i with
  | zero => rfl
  | succ k => rw [bfs, if_neg (by omega)]

/-- What the search holds of its list. -/
structure Fd (gs : List (List Int)) (N x : Nat) (f : List Nat) : Prop where
  nd : f.Nodup
  lt : ∀ y ∈ f, y < N
  rch : ∀ y ∈ f, Rch gs x y
  pre : ∃ t, f = x :: t
section
variable {gs : List (List Int)} {N x : Nat} {f : List Nat}
theorem Fd.len (h : Fd gs N x f) : f.length ≤ N := ndlen N f h.nd h.lt
theorem Fd.pos (h : Fd gs N x f) : 0 < f.length := by obtain ⟨t, rfl⟩ := h.pre; simp
theorem Fd.one (hx : x < N) : Fd gs N x [x] := ⟨by simp, by simpa using hx, by simpa using Rch.refl, ⟨[], rfl⟩⟩
theorem addN_pre (f : List Nat) (y : Nat) : ∃ t, addN f y = f ++ t := by
  unfold addN; split
  · exact ⟨[], by simp⟩
  · exact ⟨[y], rfl⟩
theorem mem_addN {f : List Nat} {y z : Nat} : z ∈ addN f y ↔ z ∈ f ∨ z = y := by
  unfold addN; split
  · rename_i h
    exact ⟨.inl, fun h' => h'.elim id (fun e => e ▸ h)⟩
  · simp
theorem Fd.add (h : Fd gs N x f) {y : Nat} (hy : y < N) (hr : Rch gs x y) : Fd gs N x (addN f y) := by
  obtain ⟨t, rfl⟩ := h.pre
  refine ⟨?_, fun z hz => ?_, fun z hz => ?_, ?_⟩
  · unfold addN; split
    · exact h.nd
    · rename_i hn
      rw [List.nodup_append]
      refine ⟨h.nd, by simp, fun a ha b hb e => ?_⟩
      obtain rfl : b = y := by simpa using hb
      exact hn (e ▸ ha)
  · rcases mem_addN.1 hz with h1 | rfl
    · exact h.lt z h1
    · exact hy
  · rcases mem_addN.1 hz with h1 | rfl
    · exact h.rch z h1
    · exact hr
  · obtain ⟨t', e⟩ := addN_pre (x :: t) y
    exact ⟨t ++ t', by rw [e]; rfl⟩
theorem expd_pre (gs : List (List Int)) (u : Nat) : ∀ f : List Nat, ∃ t, expd gs u f = f ++ t := by
  unfold expd
  induction gs with
  | nil => intro f; exact ⟨[], by simp⟩
  | cons g gs ih =>
    intro f
    obtain ⟨t, e⟩ := addN_pre f (nx g u)
    obtain ⟨t', e'⟩ := ih (addN f (nx g u))
    exact ⟨t ++ t', by rw [List.foldl_cons, e', e, List.append_assoc]⟩
theorem expd_mem (gs : List (List Int)) (u : Nat) : ∀ f : List Nat, ∀ g ∈ gs, nx g u ∈ expd gs u f := by
  unfold expd
  induction gs with
  | nil => intro f g hg; cases hg
  | cons g gs ih =>
    intro f g' hg'
    rw [List.foldl_cons]
    rcases List.mem_cons.1 hg' with rfl | hg'
    · obtain ⟨t, e⟩ := expd_pre gs u (addN f (nx g' u))
      unfold expd at e
      rw [e, List.mem_append]
      exact .inl (mem_addN.2 (.inr rfl))
    · exact ih _ g' hg'
theorem Fd.fold (hp : PMs N gs) {u : Nat} (hu : u < N) (hr : Rch gs x u) : ∀ (l : List (List Int)), (∀ g ∈ l, g ∈ gs) → ∀ f : List Nat, Fd gs N x f → Fd gs N x (l.foldl (fun f g => addN f (nx g u)) f)
  | [], _, f, h => h
  | g :: l, hl, f, h => by
    rw [List.foldl_cons]
    exact Fd.fold hp hu hr l (fun g' hg' => hl g' (by simp [hg'])) _ (h.add ((hp g (hl g (by simp))).nx_lt hu) (hr.step (hl g (by simp))))
theorem getD_memN {l : List Nat} {i : Nat} (h : i < l.length) : l.getD i 0 ∈ l := by
  rw [List.getD_eq_getElem?_getD, List.getElem?_eq_getElem h]
  exact List.getElem_mem h
theorem getD_preN {l t : List Nat} {i : Nat} (h : i < l.length) : (l ++ t).getD i 0 = l.getD i 0 := by
  rw [List.getD_eq_getElem?_getD, List.getElem?_append_left h, ← List.getD_eq_getElem?_getD]
theorem Fd.exp (hp : PMs N gs) (h : Fd gs N x f) {i : Nat} (hi : i < f.length) : Fd gs N x (expd gs (f.getD i 0) f) :=
  Fd.fold hp (h.lt _ (getD_memN hi)) (h.rch _ (getD_memN hi)) gs (fun _ h => h) f h
/-- The first i are expanded. -/
def Cl (gs : List (List Int)) (i : Nat) (f : List Nat) : Prop := ∀ j, j < i → ∀ g ∈ gs, nx g (f.getD j 0) ∈ f
theorem Cl.exp {i : Nat} (h : Cl gs i f) (hi : i < f.length) : Cl gs (i + 1) (expd gs (f.getD i 0) f) := by
  obtain ⟨t, e⟩ := expd_pre gs (f.getD i 0) f
  intro j hj g hg
  by_cases e2 : j = i
  · subst e2
    have := expd_mem gs (f.getD j 0) f g hg
    rw [e] at this ⊢
    rw [getD_preN hi]
    exact this
  · rw [e, getD_preN (by omega), List.mem_append]
    exact .inl (h j (by omega) g hg)
theorem bfs_spec (hp : PMs N gs) : ∀ (fuel i : Nat) (f : List Nat), Fd gs N x f → Cl gs i f → i ≤ f.length → N + 1 ≤ fuel + i → Fd gs N x (bfs gs fuel i f) ∧ Cl gs (bfs gs fuel i f).length (bfs gs fuel i f)
  | 0, i, f, h, c, hi, hf => by have := h.len; omega
  | fuel + 1, i, f, h, c, hi, hf => by
    rw [bfs]
    split
    · rename_i hlt
      have hpre := expd_pre gs (f.getD i 0) f
      exact bfs_spec hp fuel (i + 1) _ (h.exp hp hlt) (c.exp hlt) (by obtain ⟨t, e⟩ := hpre; rw [e, List.length_append]; omega) (by omega)
    · obtain rfl : i = f.length := by omega
      exact ⟨h, c⟩
end

section
variable {gs : List (List Int)} {N : Nat}
theorem orb_fd (hp : PMs N gs) {x : Nat} (hx : x < N) : Fd gs N x (orb gs N x) :=
  (bfs_spec hp (N + 1) 0 [x] (Fd.one hx) (fun j hj => absurd hj (by omega)) (Nat.zero_le _) (by omega)).1
theorem orb_cl (hp : PMs N gs) {x : Nat} (hx : x < N) : Cl gs (orb gs N x).length (orb gs N x) :=
  (bfs_spec hp (N + 1) 0 [x] (Fd.one hx) (fun j hj => absurd hj (by omega)) (Nat.zero_le _) (by omega)).2
theorem orb_self (hp : PMs N gs) {x : Nat} (hx : x < N) : x ∈ orb gs N x := by
  obtain ⟨t, e⟩ := (orb_fd hp hx).pre
  rw [e]; simp
theorem orb_step (hp : PMs N gs) {x u : Nat} (hx : x < N) (hu : u ∈ orb gs N x) {g : List Int} (hg : g ∈ gs) : nx g u ∈ orb gs N x := by
  obtain ⟨j, hj, e⟩ := List.mem_iff_getElem.1 hu
  have := orb_cl hp hx j hj g hg
  rw [List.getD_eq_getElem?_getD, List.getElem?_eq_getElem hj] at this
  simpa [e] using this
theorem orb_iff (hp : PMs N gs) {x y : Nat} (hx : x < N) : y ∈ orb gs N x ↔ Rch gs x y := by
  refine ⟨(orb_fd hp hx).rch y, fun h => ?_⟩
  induction h with
  | refl => exact orb_self hp hx
  | step _ hg ih => exact orb_step hp hx ih hg
theorem orb_lt (hp : PMs N gs) {x y : Nat} (hx : x < N) (h : y ∈ orb gs N x) : y < N := (orb_fd hp hx).lt y h
theorem orb_sub (hp : PMs N gs) {x y z : Nat} (hx : x < N) (hy : y ∈ orb gs N x) (hz : z ∈ orb gs N y) : z ∈ orb gs N x := by
  have hy' := orb_lt hp hx hy
  rw [orb_iff hp hx] at hy ⊢
  rw [orb_iff hp hy'] at hz
  exact hy.trans hz
/-- Whoever comes into an orbit came out of it. -/
theorem orb_back (hp : PMs N gs) {x u : Nat} (hx : x < N) (hu : u < N) {g : List Int} (hg : g ∈ gs) (h : nx g u ∈ orb gs N x) : u ∈ orb gs N x := by
  have hf := orb_fd hp hx
  have h1 : ((orb gs N x).map (nx g)).Nodup := nd_map hf.nd fun a ha b hb e => (hp g hg).nx_inj (hf.lt a ha) (hf.lt b hb) e
  have h2 := nd_all h1 (l := orb gs N x) (fun a ha => by
    obtain ⟨b, hb, rfl⟩ := List.mem_map.1 ha
    exact orb_step hp hx hb hg) (by simp) _ h
  obtain ⟨b, hb, e⟩ := List.mem_map.1 h2
  rw [← (hp g hg).nx_inj (hf.lt b hb) hu e]
  exact hb
theorem rch_symm (hp : PMs N gs) {x y : Nat} (hx : x < N) (h : Rch gs x y) : Rch gs y x := by
  have hx' : x ∈ orb gs N y := by
    have : ∀ z, Rch gs x z → ∀ y, y < N → z ∈ orb gs N y → x ∈ orb gs N y := by
      intro z hz
      induction hz with
      | refl => intro y _ h; exact h
      | step hu hg ih => intro y hy h; exact ih y hy (orb_back hp hy (hu.lt hp hx) hg h)
    exact this y h y (h.lt hp hx) (orb_self hp (h.lt hp hx))
  exact (orb_iff hp (h.lt hp hx)).1 hx'
theorem orb_symm (hp : PMs N gs) {x y : Nat} (hx : x < N) (h : y ∈ orb gs N x) : x ∈ orb gs N y := by
  have hy := orb_lt hp hx h
  rw [orb_iff hp hx] at h
  rw [orb_iff hp hy]
  exact rch_symm hp hx h
end

/-! ### sorted -/
def oN (gs : List (List Int)) (N x : Nat) : List Nat := (List.range N).filter fun y => decide (y ∈ orb gs N x)
def oS (gs : List (List Int)) (N x : Nat) : List Int := (oN gs N x).map Int.ofNat
theorem mem_oN {gs : List (List Int)} {N x y : Nat} : y ∈ oN gs N x ↔ y < N ∧ y ∈ orb gs N x := by simp [oN]
theorem oN_nd (gs : List (List Int)) (N x : Nat) : (oN gs N x).Nodup := List.nodup_range.filter _
theorem oN_len {gs : List (List Int)} {N : Nat} (hp : PMs N gs) {x : Nat} (hx : x < N) : (oN gs N x).length = (orb gs N x).length :=
  Nat.le_antisymm (nd_sub (oN_nd gs N x) fun y hy => (mem_oN.1 hy).2) (nd_sub (orb_fd hp hx).nd fun y hy => mem_oN.2 ⟨orb_lt hp hx hy, hy⟩)
theorem oN_perm {gs : List (List Int)} {N : Nat} (hp : PMs N gs) {x : Nat} (hx : x < N) : (orb gs N x).Perm (oN gs N x) :=
  (List.perm_ext_iff_of_nodup (orb_fd hp hx).nd (oN_nd gs N x)).2 fun y => ⟨fun hy => mem_oN.2 ⟨orb_lt hp hx hy, hy⟩, fun hy => (mem_oN.1 hy).2⟩
theorem oS_sorted (gs : List (List Int)) (N x : Nat) : (oS gs N x).Pairwise fun a b => a ≤ b := by
  unfold oS oN
  rw [List.pairwise_map]
  refine List.Pairwise.filter _ ?_
  exact (List.pairwise_lt_range (n := N)).imp fun h => by simp; omega
theorem sorted_uniq : ∀ {l l' : List Int}, l.Perm l' → l.Pairwise (· ≤ ·) → l'.Pairwise (· ≤ ·) → l = l' := fun hp h1 h2 =>
  hp.eq_of_pairwise (fun a b _ _ h h' => Int.le_antisymm h h') h1 h2
/-- Whatever sorts the search's list comes to the same list. -/
theorem oS_of {gs : List (List Int)} {N : Nat} (hp : PMs N gs) {x : Nat} (hx : x < N) {l : List Int} (h : l.Perm ((orb gs N x).map Int.ofNat)) (hs : l.Pairwise (· ≤ ·)) : l = oS gs N x :=
  sorted_uniq (h.trans ((oN_perm hp hx).map _)) hs (oS_sorted gs N x)
theorem oS_sort {gs : List (List Int)} {N : Nat} (hp : PMs N gs) {x : Nat} (hx : x < N) : (((orb gs N x).map Int.ofNat).mergeSort fun a b => decide (a ≤ b)) = oS gs N x := by
  refine oS_of hp hx (List.mergeSort_perm _ _) ?_
  have := List.pairwise_mergeSort (le := fun a b : Int => decide (a ≤ b)) (fun a b c h1 h2 => by simp at h1 h2 ⊢; omega) (fun a b => by simp; omega) ((orb gs N x).map Int.ofNat)
  exact this.imp fun h => by simpa using h

/-! ### the sweep -/
/-- y lies in the orbit of one of the first k. -/
def sn (gs : List (List Int)) (N k y : Nat) : Bool := (List.range k).any fun z => decide (y ∈ orb gs N z)
def starts (gs : List (List Int)) (N k : Nat) : List Nat := (List.range k).filter fun z => !sn gs N z z
def orbs (gs : List (List Int)) (N k : Nat) : List (List Int) := (starts gs N k).map (oS gs N)
section
variable {gs : List (List Int)} {N : Nat}
theorem sn_iff {k y : Nat} : sn gs N k y = true ↔ ∃ z, z < k ∧ y ∈ orb gs N z := by simp [sn]
theorem sn_zero (y : Nat) : sn gs N 0 y = false := rfl
theorem sn_succ (k y : Nat) : sn gs N (k + 1) y = (sn gs N k y || decide (y ∈ orb gs N k)) := by
  simp [sn, List.range_succ]
theorem sn_seen (hp : PMs N gs) {k : Nat} (hk : k < N) (h : sn gs N k k = true) (y : Nat) : sn gs N (k + 1) y = sn gs N k y := by
  rw [sn_succ]
  rcases hy : sn gs N k y with _ | _
  · obtain ⟨z, hz, hkz⟩ := sn_iff.1 h
    have : ¬ y ∈ orb gs N k := fun hy' => by
      have : sn gs N k y = true := sn_iff.2 ⟨z, hz, orb_sub hp (by omega) hkz hy'⟩
      rw [hy] at this; cases this
    simp [this]
  · rfl
theorem sn_out (hp : PMs N gs) {k u : Nat} (hk : k ≤ N) (hu : u < N) (h : sn gs N k u = false) {g : List Int} (hg : g ∈ gs) : sn gs N k (nx g u) = false := by
  rcases h' : sn gs N k (nx g u) with _ | _
  · rfl
  · obtain ⟨z, hz, hm⟩ := sn_iff.1 h'
    have : sn gs N k u = true := sn_iff.2 ⟨z, hz, orb_back hp (by omega) hu hg hm⟩
    rw [h] at this; cases this
theorem starts_no {k : Nat} (h : sn gs N k k = true) : starts gs N (k + 1) = starts gs N k := by
  simp [starts, List.range_succ, h]
theorem starts_yes {k : Nat} (h : sn gs N k k = false) : starts gs N (k + 1) = starts gs N k ++ [k] := by
  simp [starts, List.range_succ, h]
theorem orbs_no {k : Nat} (h : sn gs N k k = true) : orbs gs N (k + 1) = orbs gs N k := by rw [orbs, starts_no h, orbs]
theorem orbs_yes {k : Nat} (h : sn gs N k k = false) : orbs gs N (k + 1) = orbs gs N k ++ [oS gs N k] := by rw [orbs, starts_yes h, orbs]; simp
theorem starts_le (k : Nat) : (starts gs N k).length ≤ k := by
  have := List.length_filter_le (fun z => !sn gs N z z) (List.range k)
  simpa [starts] using this
theorem orbs_len (k : Nat) : (orbs gs N k).length = (starts gs N k).length := by simp [orbs]
theorem starts_pre {k m : Nat} (h : k ≤ m) : ∃ t, starts gs N m = starts gs N k ++ t := by
  induction m with
  | zero => exact ⟨[], by obtain rfl : k = 0 := by omega
                          simp⟩
  | succ m ih =>
    by_cases e : k = m + 1
    · exact ⟨[], by rw [e]; simp⟩
    · obtain ⟨t, ht⟩ := ih (by omega)
      rcases hs : sn gs N m m with _ | _
      · exact ⟨t ++ [m], by rw [starts_yes hs, ht, List.append_assoc]⟩
      · exact ⟨t, by rw [starts_no hs, ht]⟩
theorem orbs_pre {k m : Nat} (h : k ≤ m) : ∃ t, orbs gs N m = orbs gs N k ++ t := by
  obtain ⟨t, ht⟩ := starts_pre (gs := gs) (N := N) h
  exact ⟨t.map (oS gs N), by rw [orbs, ht, List.map_append, orbs]⟩
/-- The next orbit that comes. -/
theorem orbs_at {k : Nat} (hk : k < N) (h : sn gs N k k = false) : (orbs gs N N).getD (orbs gs N k).length [] = oS gs N k ∧ (orbs gs N k).length < (orbs gs N N).length := by
  obtain ⟨t, ht⟩ := orbs_pre (gs := gs) (N := N) (show k + 1 ≤ N from hk)
  rw [ht, orbs_yes h]
  refine ⟨?_, by simp⟩
  rw [List.append_assoc, List.getD_eq_getElem?_getD, List.getElem?_append_right (Nat.le_refl _), Nat.sub_self]
  rfl
end
end Go.Proofs.Ytooafmifbplbhaa
