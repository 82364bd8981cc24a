/- Groups of permutations and stabilizer chains: what a chain holds, when it is whole, how it grows. No Go in it. No condition. -/
import Derived.Test.YtooafmifbplbhaaGrpM
namespace Go.Proofs.Ytooafmifbplbhaa
open Go.RowKit

/-- A permutation of degree N. -/
def Pn (N : Nat) (p : List Int) : Prop := IsP p ∧ p.length = N
/-- It moves nothing below k. -/
def Fx (k : Nat) (p : List Int) : Prop := ∀ i, i < k → nx p i = i
def iv (p : List Int) : List Int := invL p p.length

section
variable {N k : Nat} {p q r : List Int}
theorem Pn.ext (hp : Pn N p) (hq : Pn N q) (h : ∀ x, x < N → nx p x = nx q x) : p = q :=
  ext_getD hp.2 hq.2 fun x hx => by rw [nx_val hp.1 (by rw [hp.2]; exact hx), nx_val hq.1 (by rw [hq.2]; exact hx), h x hx]
theorem Pn.lt (hp : Pn N p) {x : Nat} (hx : x < N) : nx p x < N := by have := nx_lt hp.1 (x := x) (by rw [hp.2]; exact hx); rw [hp.2] at this; exact this
theorem Pn.inj (hp : Pn N p) {x y : Nat} (hx : x < N) (hy : y < N) (e : nx p x = nx p y) : x = y := nx_inj hp.1 (by rw [hp.2]; exact hx) (by rw [hp.2]; exact hy) e
theorem Pn.pos (hp : Pn N p) : 1 ≤ N ∧ N ≤ 20 := by have h1 := hp.1.pos; have h2 := hp.1.le; rw [hp.2] at h1 h2; exact ⟨h1, h2⟩
theorem Pn.comp (hp : Pn N p) (hq : Pn N q) : Pn N (compL p q) := ⟨isP_comp hp.1 hq.1 (by rw [hp.2, hq.2]), by rw [compL_length]; exact hp.2⟩
theorem Pn.iv (hp : Pn N p) : Pn N (iv p) := ⟨isP_inv hp.1, by unfold Proofs.Ytooafmifbplbhaa.iv; rw [invL_length]; exact hp.2⟩
theorem nx_id {n x : Nat} (hx : x < n) : nx (idL n) x = x := by unfold nx; rw [idL_getD hx]; rfl
theorem pn_id (h1 : 1 ≤ N) (h2 : N ≤ 20) : Pn N (idL N) := by
  refine ⟨⟨by rw [idL_length]; exact h1, by rw [idL_length]; exact h2, fun i hi => ?_, fun i hi => ?_, fun i j hi hj e => ?_⟩, idL_length N⟩
  · rw [idL_length] at hi; rw [idL_getD hi]; omega
  · rw [idL_length] at hi ⊢; rw [idL_getD hi]; omega
  · rw [idL_length] at hi hj; rw [idL_getD hi, idL_getD hj] at e; omega
theorem Pn.nxc (hp : Pn N p) {x : Nat} (hx : x < N) : nx (compL p q) x = nx q (nx p x) := nx_comp (by rw [hp.2]; exact hx)
theorem Pn.nxi (hp : Pn N p) {x : Nat} (hx : x < N) : nx (Proofs.Ytooafmifbplbhaa.iv p) (nx p x) = x := by
  have h := invL_at hp.1 p.length (Nat.le_refl _) x (by rw [hp.2]; exact hx)
  show ((invL p p.length).getD (nx p x) 0).toNat = x
  rw [h]; omega
theorem Pn.nxi' (hp : Pn N p) {x : Nat} (hx : x < N) : nx p (nx (Proofs.Ytooafmifbplbhaa.iv p) x) = x :=
  hp.iv.inj (hp.lt (hp.iv.lt hx)) hx (hp.nxi (hp.iv.lt hx))
theorem Pn.assoc (hp : Pn N p) (hq : Pn N q) : compL (compL p q) r = compL p (compL q r) := comp_assoc hp.1 (by rw [hp.2, hq.2])
theorem Pn.idl (hp : Pn N p) : compL (idL N) p = p :=
  ((pn_id hp.pos.1 hp.pos.2).comp hp).ext hp fun x hx => by rw [(pn_id hp.pos.1 hp.pos.2).nxc hx, nx_id hx]
theorem Pn.idr (hp : Pn N p) : compL p (idL N) = p :=
  (hp.comp (pn_id hp.pos.1 hp.pos.2)).ext hp fun x hx => by rw [hp.nxc hx, nx_id (hp.lt hx)]
theorem Pn.ci (hp : Pn N p) : compL p (Proofs.Ytooafmifbplbhaa.iv p) = idL N :=
  (hp.comp hp.iv).ext (pn_id hp.pos.1 hp.pos.2) fun x hx => by rw [hp.nxc hx, hp.nxi hx, nx_id hx]
theorem Pn.ic (hp : Pn N p) : compL (Proofs.Ytooafmifbplbhaa.iv p) p = idL N :=
  (hp.iv.comp hp).ext (pn_id hp.pos.1 hp.pos.2) fun x hx => by rw [hp.iv.nxc hx, hp.nxi' hx, nx_id hx]
theorem iv_id (h1 : 1 ≤ N) (h2 : N ≤ 20) : Proofs.Ytooafmifbplbhaa.iv (idL N) = idL N :=
  (pn_id h1 h2).iv.ext (pn_id h1 h2) fun x hx => by
    have := (pn_id h1 h2).nxi hx
    rw [nx_id hx] at this ⊢; exact this
theorem Fx.mono {j : Nat} (h : Fx k p) (hj : j ≤ k) : Fx j p := fun i hi => h i (by omega)
theorem Fx.comp (hp : Pn N p) (h : Fx k p) (h2 : Fx k q) (hk : k ≤ N) : Fx k (compL p q) := fun i hi => by rw [hp.nxc (by omega), h i hi, h2 i hi]
theorem Fx.iv (hp : Pn N p) (h : Fx k p) (hk : k ≤ N) : Fx k (Proofs.Ytooafmifbplbhaa.iv p) := fun i hi => by
  have := hp.nxi (x := i) (by omega)
  rw [h i hi] at this; exact this
theorem Fx.all (hp : Pn N p) (h : Fx N p) : p = idL N := hp.ext (pn_id hp.pos.1 hp.pos.2) fun x hx => by rw [h x hx, nx_id hx]
theorem fx_id (hk : k ≤ N) : Fx k (idL N) := fun i hi => nx_id (by omega)
theorem Fx.zero : Fx 0 p := fun _ hi => absurd hi (by omega)
theorem Fx.ge (hp : Pn N p) (h : Fx k p) (hk : k < N) : k ≤ nx p k := by
  rcases Nat.lt_or_ge (nx p k) k with hl | hl
  · have := hp.inj (x := nx p k) (y := k) (by omega) hk (h _ hl)
    omega
  · exact hl
theorem Fx.succ (h : Fx k p) (e : nx p k = k) : Fx (k + 1) p := fun i hi => by
  rcases Nat.lt_or_ge i k with hl | hl
  · exact h i hl
  · obtain rfl : i = k := by omega
    exact e
end

/-! ### what generators generate -/
inductive Mb (gs : List (List Int)) (N : Nat) : List Int → Prop
  | one : Mb gs N (idL N)
  | mul {p g : List Int} : Mb gs N p → g ∈ gs → Mb gs N (compL p g)

section
variable {gs hs : List (List Int)} {N k : Nat} {p q : List Int}
theorem Mb.pn (hg : ∀ g ∈ gs, Pn N g) (h1 : 1 ≤ N) (h2 : N ≤ 20) (h : Mb gs N p) : Pn N p := by
  induction h with
  | one => exact pn_id h1 h2
  | mul _ hm ih => exact ih.comp (hg _ hm)
theorem Mb.fx (hg : ∀ g ∈ gs, Pn N g ∧ Fx k g) (h1 : 1 ≤ N) (h2 : N ≤ 20) (hk : k ≤ N) (h : Mb gs N p) : Fx k p := by
  induction h with
  | one => exact fx_id hk
  | mul hm hg' ih => exact ih.comp (hm.pn (fun g h => (hg g h).1) h1 h2) (hg _ hg').2 hk
theorem Mb.of (hg : Pn N p) (hm : p ∈ gs) : Mb gs N p := by
  have := Mb.mul (Mb.one (gs := gs) (N := N)) hm
  rw [hg.idl] at this; exact this
theorem Mb.comp (hg : ∀ g ∈ gs, Pn N g) (h1 : 1 ≤ N) (h2 : N ≤ 20) (hp : Mb gs N p) (hq : Mb gs N q) : Mb gs N (compL p q) := by
  induction hq with
  | one => rw [(hp.pn hg h1 h2).idr]; exact hp
  | mul hq' hm ih =>
    rw [← (hp.pn hg h1 h2).assoc (hq'.pn hg h1 h2)]
    exact .mul ih hm
/-- Whatever lies in a set closed under products lies there. -/
theorem Mb.sub (hs1 : 1 ≤ N) (hs2 : N ≤ 20) (hg : ∀ g ∈ hs, Pn N g) (h : ∀ g ∈ gs, Mb hs N g) (hp : Mb gs N p) : Mb hs N p := by
  induction hp with
  | one => exact .one
  | mul _ hm ih => exact ih.comp hg hs1 hs2 (h _ hm)
def pw (N : Nat) (p : List Int) : Nat → List Int
  | 0 => idL N
  | k + 1 => compL (pw N p k) p
theorem pw_pn (hp : Pn N p) : ∀ k, Pn N (pw N p k)
  | 0 => pn_id hp.pos.1 hp.pos.2
  | k + 1 => (pw_pn hp k).comp hp
theorem pw_nx (hp : Pn N p) {x : Nat} (hx : x < N) : ∀ k, nx (pw N p k) x = it p k x
  | 0 => nx_id hx
  | k + 1 => by
    show nx (compL (pw N p k) p) x = nx p (it p k x)
    rw [(pw_pn hp k).nxc hx, pw_nx hp hx k]
theorem ord_pos (hp : Pn N p) : 1 ≤ ordL p := by
  refine (lcmL_pos fun a ha => ?_).1
  obtain ⟨x, hx, rfl⟩ := List.mem_map.1 ha
  have h := per_spec hp.1 (List.mem_range.1 hx)
  have := hp.1.le
  exact ⟨h.1, by have := h.2.1; omega⟩
theorem iv_pw (hp : Pn N p) : iv p = pw N p (ordL p - 1) := by
  refine hp.iv.ext (pw_pn hp _) fun x hx => ?_
  have e : nx p (nx (pw N p (ordL p - 1)) x) = x := by
    rw [pw_nx hp hx]
    show it p (ordL p - 1 + 1) x = x
    rw [Nat.sub_add_cancel (ord_pos hp)]
    refine (it_eq_iff hp.1 (by rw [hp.2]; exact hx) _).2 (Nat.mod_eq_zero_of_dvd ?_)
    exact dvd_lcmL (List.mem_map.2 ⟨x, List.mem_range.2 (by rw [hp.2]; exact hx), rfl⟩)
  have := hp.nxi ((pw_pn hp (ordL p - 1)).lt hx)
  rw [e] at this; exact this
theorem Mb.inv (hg : ∀ g ∈ gs, Pn N g) (h1 : 1 ≤ N) (h2 : N ≤ 20) (hp : Mb gs N p) : Mb gs N (iv p) := by
  rw [iv_pw (hp.pn hg h1 h2)]
  have : ∀ k, Mb gs N (pw N p k) := fun k => by
    induction k with
    | zero => exact .one
    | succ k ih => exact ih.comp hg h1 h2 hp
  exact this _
theorem Mb.none_ (h : Mb [] N p) : p = idL N := by
  cases h with
  | one => rfl
  | mul _ hm => cases hm
theorem Mb.more (h : Mb gs N p) (hsub : ∀ g ∈ gs, g ∈ hs) : Mb hs N p := by
  induction h with
  | one => exact .one
  | mul _ hm ih => exact .mul ih (hsub _ hm)
end
end Go.Proofs.Ytooafmifbplbhaa
