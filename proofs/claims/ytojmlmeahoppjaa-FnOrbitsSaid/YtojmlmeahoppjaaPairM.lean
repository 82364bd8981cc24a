/- Orbits on pairs of points, and of the inverse maps. No Go in it. No condition. -/
import Derived.Test.YtojmlmeahoppjaaOrM
namespace Go.Proofs.Ytojmlmeahoppjaa

/-- How a map rearranges the pairs: x * N + y stands for (x, y). -/
def pairL (N : Nat) (g : List Int) : List Int := (List.range (N * N)).map fun p => ((nx g (p / N) * N + nx g (p % N) : Nat) : Int)
def pairGs (N : Nat) (gs : List (List Int)) : List (List Int) := gs.map (pairL N)
def dg (N p : Nat) : Bool := decide (p / N = p % N)

theorem pr_div {N x y : Nat} (hy : y < N) : (x * N + y) / N = x := by
  rw [Nat.mul_comm, Nat.mul_add_div (by omega), Nat.div_eq_of_lt hy]; rfl
theorem pr_mod {N x y : Nat} (hy : y < N) : (x * N + y) % N = y := by
  rw [Nat.mul_comm, Nat.mul_add_mod, Nat.mod_eq_of_lt hy]
theorem pr_lt {N x y : Nat} (hx : x < N) (hy : y < N) : x * N + y < N * N := by
  have h := Nat.mul_le_mul_right N (show x + 1 ≤ N from hx)
  rw [Nat.succ_mul] at h; omega
theorem pr_x {N p : Nat} (hp : p < N * N) : p / N < N := Nat.div_lt_of_lt_mul hp
theorem pr_y {N p : Nat} (hp : p < N * N) : p % N < N := by
  refine Nat.mod_lt _ ?_
  rcases Nat.eq_zero_or_pos N with h | h
  · subst h; simp at hp
  · exact h
theorem pr_eq {N p : Nat} : p / N * N + p % N = p := by rw [Nat.mul_comm]; exact Nat.div_add_mod p N
theorem pairL_len (N : Nat) (g : List Int) : (pairL N g).length = N * N := by simp [pairL]
theorem pairL_at {N p : Nat} (g : List Int) (hp : p < N * N) : (pairL N g).getD p 0 = ((nx g (p / N) * N + nx g (p % N) : Nat) : Int) := by
  rw [pairL, List.getD_eq_getElem?_getD, List.getElem?_map, List.getElem?_range hp]; rfl
theorem nx_pair {N p : Nat} (g : List Int) (hp : p < N * N) : nx (pairL N g) p = nx g (p / N) * N + nx g (p % N) := by
  unfold nx; rw [pairL_at g hp]; rfl
section
variable {N : Nat} {g : List Int} {gs : List (List Int)}
theorem nx_pair_lt (h : PM N g) {p : Nat} (hp : p < N * N) : nx g (p / N) * N + nx g (p % N) < N * N := pr_lt (h.nx_lt (pr_x hp)) (h.nx_lt (pr_y hp))
theorem nx_pair_div (h : PM N g) {p : Nat} (hp : p < N * N) : nx (pairL N g) p / N = nx g (p / N) := by rw [nx_pair g hp, pr_div (h.nx_lt (pr_y hp))]
theorem nx_pair_mod (h : PM N g) {p : Nat} (hp : p < N * N) : nx (pairL N g) p % N = nx g (p % N) := by rw [nx_pair g hp, pr_mod (h.nx_lt (pr_y hp))]
theorem PM.pair (h : PM N g) : PM (N * N) (pairL N g) := by
  refine ⟨pairL_len N g, fun i hi => by rw [pairL_at g hi]; omega, fun i hi => ?_, fun i j hi hj e => ?_⟩
  · rw [pairL_at g hi]; have := nx_pair_lt h hi; omega
  · have e2 : nx (pairL N g) i = nx (pairL N g) j := by unfold nx; rw [e]
    have h1 := nx_pair_div h hi; have h2 := nx_pair_div h hj
    have h3 := nx_pair_mod h hi; have h4 := nx_pair_mod h hj
    have e3 := h.nx_inj (pr_x hi) (pr_x hj) (by rw [← h1, ← h2, e2])
    have e4 := h.nx_inj (pr_y hi) (pr_y hj) (by rw [← h3, ← h4, e2])
    rw [← pr_eq (N := N) (p := i), ← pr_eq (N := N) (p := j), e3, e4]
theorem PMs.pair (h : PMs N gs) : PMs (N * N) (pairGs N gs) := fun g hg => by
  obtain ⟨g', hg', rfl⟩ := List.mem_map.1 hg
  exact (h g' hg').pair
theorem dg_nx (h : PM N g) {p : Nat} (hp : p < N * N) : dg N (nx (pairL N g) p) = dg N p := by
  unfold dg
  rw [nx_pair_div h hp, nx_pair_mod h hp, Bool.eq_iff_iff, decide_eq_true_eq, decide_eq_true_eq]
  exact ⟨fun e => h.nx_inj (pr_x hp) (pr_y hp) e, fun e => by rw [e]⟩
theorem dg_rch (h : PMs N gs) {p q : Nat} (hp : p < N * N) (hr : Rch (pairGs N gs) p q) : dg N q = dg N p := by
  induction hr with
  | refl => rfl
  | step hu hg ih =>
    obtain ⟨g', hg', rfl⟩ := List.mem_map.1 hg
    rw [dg_nx (h g' hg') (hu.lt h.pair hp)]; exact ih
theorem dg_at {x y : Nat} (hy : y < N) : dg N (x * N + y) = decide (x = y) := by unfold dg; rw [pr_div hy, pr_mod hy]
theorem dg_form {p : Nat} (h : dg N p = true) : p = (p % N) * N + p % N := by
  have : p / N = p % N := by simpa [dg] using h
  have e := pr_eq (N := N) (p := p)
  rw [this] at e; exact e.symm
theorem rch_diag (h : PMs N gs) {x q : Nat} (hx : x < N) : Rch (pairGs N gs) (x * N + x) q ↔ ∃ y, q = y * N + y ∧ Rch gs x y := by
  constructor
  · intro hr
    induction hr with
    | refl => exact ⟨x, rfl, .refl⟩
    | step hu hg ih =>
      obtain ⟨y, rfl, hy⟩ := ih
      obtain ⟨g', hg', rfl⟩ := List.mem_map.1 hg
      have hyN := hy.lt h hx
      exact ⟨nx g' y, by rw [nx_pair g' (pr_lt hyN hyN), pr_div hyN, pr_mod hyN], hy.step hg'⟩
  · rintro ⟨y, rfl, hy⟩
    induction hy with
    | refl => exact .refl
    | @step u g hu hg ih =>
      have huN := hu.lt h hx
      have := ih.step (g := pairL N g) (List.mem_map.2 ⟨g, hg, rfl⟩)
      rw [nx_pair g (pr_lt huN huN), pr_div huN, pr_mod huN] at this
      exact this
theorem diag_lt {y x : Nat} (hN : 1 ≤ N) : y * N + y < x * N + x ↔ y < x := by
  have e : ∀ z, z * N + z = z * (N + 1) := fun z => by rw [Nat.mul_succ]
  rw [e, e]
  exact Nat.mul_lt_mul_right (by omega)
theorem sn_diag (h : PMs N gs) {x : Nat} (hx : x < N) : sn (pairGs N gs) (N * N) (x * N + x) (x * N + x) = sn gs N x x := by
  have hxx := pr_lt hx hx
  rw [Bool.eq_iff_iff, sn_iff, sn_iff]
  constructor
  · rintro ⟨z, hz, hm⟩
    have h1 := orb_symm h.pair (by omega) hm
    obtain ⟨y, rfl, hy⟩ := (rch_diag h hx).1 ((orb_iff h.pair hxx).1 h1)
    exact ⟨y, (diag_lt (by omega)).1 hz, orb_symm h hx ((orb_iff h hx).2 hy)⟩
  · rintro ⟨z, hz, hm⟩
    have hzN : z < N := by omega
    exact ⟨z * N + z, (diag_lt (by omega)).2 hz, (orb_iff h.pair (pr_lt hzN hzN)).2 ((rch_diag h hzN).2 ⟨x, rfl, (orb_iff h hzN).1 hm⟩)⟩
end
theorem mem_starts {gs : List (List Int)} {N k s : Nat} : s ∈ starts gs N k ↔ s < k ∧ sn gs N s s = false := by simp [starts]
theorem starts_nd (gs : List (List Int)) (N k : Nat) : (starts gs N k).Nodup := List.nodup_range.filter _
theorem filter_two {α : Type} (f : α → Bool) (l : List α) : l.length = (l.filter f).length + (l.filter fun a => !f a).length := by
  induction l with
  | nil => rfl
  | cons a t ih =>
    cases h : f a <;> simp [h] <;> omega
/-- The orbits on pairs of different points, of those that begin below k. -/
def offs (gs : List (List Int)) (N k : Nat) : Nat := ((starts (pairGs N gs) (N * N) k).filter fun s => !dg N s).length
section
variable {N : Nat} {gs : List (List Int)}
theorem offs_zero : offs gs N 0 = 0 := by simp [offs, starts]
theorem offs_dg {k : Nat} (h : dg N k = true) : offs gs N (k + 1) = offs gs N k := by
  unfold offs
  rcases hs : sn (pairGs N gs) (N * N) k k with _ | _
  · rw [starts_yes hs, List.filter_append]; simp [h]
  · rw [starts_no hs]
theorem offs_no {k : Nat} (h : sn (pairGs N gs) (N * N) k k = true) : offs gs N (k + 1) = offs gs N k := by
  unfold offs; rw [starts_no h]
theorem offs_yes {k : Nat} (h : sn (pairGs N gs) (N * N) k k = false) (hd : dg N k = false) : offs gs N (k + 1) = offs gs N k + 1 := by
  unfold offs; rw [starts_yes h, List.filter_append]; simp [hd]
theorem offs_le (k : Nat) : offs gs N k ≤ k := by
  have h1 := List.length_filter_le (fun s => !dg N s) (starts (pairGs N gs) (N * N) k)
  have h2 := starts_le (gs := pairGs N gs) (N := N * N) k
  unfold offs; omega
/-- The pairs of a point with itself have one orbit for each orbit of points. -/
theorem pair_count (h : PMs N gs) : (orbs (pairGs N gs) (N * N) (N * N)).length = offs gs N (N * N) + (orbs gs N N).length := by
  rw [orbs_len, orbs_len, filter_two (dg N)]
  have : ((starts (pairGs N gs) (N * N) (N * N)).filter (dg N)).length = (starts gs N N).length := by
    have hp : ((starts (pairGs N gs) (N * N) (N * N)).filter (dg N)).Perm ((starts gs N N).map fun x => x * N + x) := by
      refine (List.perm_ext_iff_of_nodup ((starts_nd _ _ _).filter _) ?_).2 fun s => ?_
      · refine nd_map (starts_nd _ _ _) fun x hx y hy e => ?_
        have hxN := (mem_starts.1 hx).1
        rcases Nat.lt_trichotomy x y with hlt | he | hlt
        · have := (diag_lt (N := N) (by omega)).2 hlt; omega
        · exact he
        · have := (diag_lt (N := N) (by omega)).2 hlt; omega
      · rw [List.mem_filter, List.mem_map, mem_starts]
        constructor
        · rintro ⟨⟨h1, h2⟩, h3⟩
          have hf := dg_form h3
          have hm := pr_y h1
          refine ⟨s % N, mem_starts.2 ⟨hm, ?_⟩, hf.symm⟩
          rw [← sn_diag h hm, ← hf]; exact h2
        · rintro ⟨x, hx, rfl⟩
          obtain ⟨hx1, hx2⟩ := mem_starts.1 hx
          exact ⟨⟨pr_lt hx1 hx1, by rw [sn_diag h hx1]; exact hx2⟩, by rw [dg_at hx1]; simp⟩
    rw [hp.length_eq, List.length_map]
  rw [this]; unfold offs; omega
/-- What the sweep over the pairs of different points has seen. -/
def snD (gs : List (List Int)) (N k p : Nat) : Bool := sn (pairGs N gs) (N * N) k p && !dg N p
theorem snD_zero (p : Nat) : snD gs N 0 p = false := by simp [snD, sn_zero]
theorem snD_dg (h : PMs N gs) {k : Nat} (hk : k < N * N) (hd : dg N k = true) (p : Nat) : snD gs N (k + 1) p = snD gs N k p := by
  unfold snD
  rw [sn_succ]
  by_cases hp : p ∈ orb (pairGs N gs) (N * N) k
  · have := dg_rch h hk ((orb_iff h.pair hk).1 hp)
    rw [this, hd]; simp
  · simp [hp]
theorem snD_seen (h : PMs N gs) {k : Nat} (hk : k < N * N) (hs : sn (pairGs N gs) (N * N) k k = true) (p : Nat) : snD gs N (k + 1) p = snD gs N k p := by
  unfold snD; rw [sn_seen h.pair hk hs]
theorem snD_yes (h : PMs N gs) {k : Nat} (hk : k < N * N) (hd : dg N k = false) (p : Nat) : snD gs N (k + 1) p = (snD gs N k p || decide (p ∈ orb (pairGs N gs) (N * N) k)) := by
  unfold snD
  rw [sn_succ]
  by_cases hp : p ∈ orb (pairGs N gs) (N * N) k
  · have := dg_rch h hk ((orb_iff h.pair hk).1 hp)
    rw [this, hd]; simp [hp]
  · simp [hp]
theorem snD_self {k : Nat} (hd : dg N k = false) : snD gs N k k = sn (pairGs N gs) (N * N) k k := by simp [snD, hd]
theorem snD_out (h : PMs N gs) {k u : Nat} (hk : k < N * N) (hs : sn (pairGs N gs) (N * N) k k = false) (hr : Rch (pairGs N gs) k u) : snD gs N k u = false := by
  unfold snD
  have : sn (pairGs N gs) (N * N) k u = false := by
    induction hr with
    | refl => exact hs
    | step hu hg ih => exact sn_out h.pair (by omega) (hu.lt h.pair hk) ih hg
  rw [this]; rfl
/-- Where there are two points, there is a pair of different ones. -/
theorem offs_pos (h : PMs N gs) (hN : 2 ≤ N) : 0 < offs gs N (N * N) := by
  have h1 : 1 < N * N := by have := Nat.mul_le_mul hN hN; omega
  have hd : dg N 1 = false := by
    have := dg_at (N := N) (x := 0) (y := 1) (by omega)
    simpa using this
  have hm : (1 : Nat) ∈ (starts (pairGs N gs) (N * N) (N * N)).filter fun s => !dg N s := by
    rw [List.mem_filter]
    refine ⟨mem_starts.2 ⟨h1, ?_⟩, by simp [hd]⟩
    rcases hs : sn (pairGs N gs) (N * N) 1 1 with _ | _
    · rfl
    · obtain ⟨z, hz, hm⟩ := sn_iff.1 hs
      obtain rfl : z = 0 := by omega
      have := dg_rch h (by omega) ((orb_iff h.pair (by omega)).1 hm)
      rw [hd] at this
      have h0 : dg N 0 = true := by simp [dg]
      rw [h0] at this; cases this
  exact List.length_pos_of_mem hm

/-! ### the inverse maps -/
theorem rch_inv {gs' : List (List Int)} (hp : PMs N gs) (hp' : PMs N gs') (h : ∀ g' ∈ gs', ∃ g ∈ gs, ∀ u, u < N → nx g (nx g' u) = u) {x y : Nat} (hx : x < N) (hr : Rch gs' x y) : Rch gs x y := by
  induction hr with
  | refl => exact .refl
  | @step u g' hu hg ih =>
    have huN := hu.lt hp' hx
    have hv := (hp' _ hg).nx_lt huN
    obtain ⟨g2, hg2, e⟩ := h _ hg
    have h1 := (Rch.refl (gs := gs) (x := nx g' u)).step hg2
    rw [e u huN] at h1
    exact ih.trans (rch_symm hp hv h1)
/-- Two lists of maps that reach the same have the same orbits. -/
theorem orbs_same {gs' : List (List Int)} (hp : PMs N gs) (hp' : PMs N gs') (h : ∀ x y, x < N → (Rch gs' x y ↔ Rch gs x y)) {k : Nat} (hk : k ≤ N) : orbs gs' N k = orbs gs N k ∧ starts gs' N k = starts gs N k := by
  have hm : ∀ x y, x < N → (y ∈ orb gs' N x ↔ y ∈ orb gs N x) := fun x y hx => by rw [orb_iff hp' hx, orb_iff hp hx, h x y hx]
  have hsn : ∀ s, s < N → sn gs' N s s = sn gs N s s := fun s hs => by
    rw [Bool.eq_iff_iff, sn_iff, sn_iff]
    exact ⟨fun ⟨z, hz, h1⟩ => ⟨z, hz, (hm z s (by omega)).1 h1⟩, fun ⟨z, hz, h1⟩ => ⟨z, hz, (hm z s (by omega)).2 h1⟩⟩
  have hst : starts gs' N k = starts gs N k := by
    unfold starts
    refine List.filter_congr fun z hz => ?_
    rw [hsn z (by have := List.mem_range.1 hz; omega)]
  refine ⟨?_, hst⟩
  unfold orbs
  rw [hst]
  refine List.map_congr_left fun z hz => ?_
  have hzN : z < N := by have := (mem_starts.1 hz).1; omega
  unfold oS oN
  congr 1
  refine List.filter_congr fun y _ => ?_
  rw [Bool.eq_iff_iff, decide_eq_true_eq, decide_eq_true_eq]
  exact hm z y hzN
/-- Maps that undo each other. -/
def Und (N : Nat) (gs gs' : List (List Int)) : Prop := ∀ g' ∈ gs', ∃ g ∈ gs, ∀ u, u < N → nx g (nx g' u) = u
theorem Und.pair {gs' : List (List Int)} (hp : PMs N gs) (hp' : PMs N gs') (h : Und N gs gs') : Und (N * N) (pairGs N gs) (pairGs N gs') := fun g' hg' => by
  obtain ⟨k', hk', rfl⟩ := List.mem_map.1 hg'
  obtain ⟨k, hk, e⟩ := h k' hk'
  refine ⟨pairL N k, List.mem_map.2 ⟨k, hk, rfl⟩, fun u hu => ?_⟩
  have hlt : nx (pairL N k') u < N * N := (hp' k' hk').pair.nx_lt hu
  rw [nx_pair k hlt, nx_pair_div (hp' k' hk') hu, nx_pair_mod (hp' k' hk') hu, e _ (pr_x hu), e _ (pr_y hu)]
  exact pr_eq
theorem und_orbs {gs' : List (List Int)} (hp : PMs N gs) (hp' : PMs N gs') (h : Und N gs gs') (h' : Und N gs' gs) : orbs gs' N N = orbs gs N N :=
  (orbs_same hp hp' (fun _ _ hx => ⟨rch_inv hp hp' h hx, rch_inv hp' hp h' hx⟩) (Nat.le_refl _)).1
theorem und_offs {gs' : List (List Int)} (hp : PMs N gs) (hp' : PMs N gs') (h : Und N gs gs') (h' : Und N gs' gs) : offs gs' N (N * N) = offs gs N (N * N) := by
  unfold offs
  rw [(orbs_same hp.pair hp'.pair (fun _ _ hx => ⟨rch_inv hp.pair hp'.pair (h.pair hp hp') hx, rch_inv hp'.pair hp.pair (h'.pair hp' hp) hx⟩) (Nat.le_refl _)).2]
end
end Go.Proofs.Ytojmlmeahoppjaa
