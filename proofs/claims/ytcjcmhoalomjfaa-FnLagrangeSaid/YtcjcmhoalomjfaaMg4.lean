/- Part 4 of the texts: Der, Ct, RkS, ChY, SbS, CoM, ChZ, ChV, Stb, StbS, Ct4, SbB, RkM, RkB, SbA, SbM, RkA, RkL. No condition of its own: each text tells its own. -/
import Derived.Test.YtcjcmhoalomjfaaMg3
import Derived.Test.YtcjcmhoalomjfaaMg2
import Derived.Deep.Upon
import Derived.Deep.RegionHeld3
set_option linter.unusedVariables false
set_option linter.unusedSimpArgs false

/- What a set generates; normal and abelian groups by their generators; the derived subgroup by the commutators of generators and their conjugates. No Go in it. No condition. -/
namespace Go.Proofs.Ytcjcmhoalomjfaa
open Go.RowKit

/-! ### words in permutations -/
def PG (N : Nat) : Type := {p : List Int // Pn N p}
namespace PG
variable {N : Nat}
def m (a b : PG N) : PG N := ⟨compL a.1 b.1, a.2.comp b.2⟩
def i (a : PG N) : PG N := ⟨iv a.1, a.2.iv⟩
theorem asc (a b c : PG N) : m (m a b) c = m a (m b c) := Subtype.ext (a.2.assoc b.2)
theorem c1 (a b : PG N) : m (i a) (m a b) = b := Subtype.ext (by show compL (iv a.1) (compL a.1 b.1) = b.1; rw [← a.2.iv.assoc a.2, a.2.ic, b.2.idl])
theorem c2 (a b : PG N) : m a (m (i a) b) = b := Subtype.ext (by show compL a.1 (compL (iv a.1) b.1) = b.1; rw [← a.2.assoc a.2.iv, a.2.ci, b.2.idl])
theorem ii (a : PG N) : i (i a) = a := Subtype.ext a.2.iviv
theorem im (a b : PG N) : i (m a b) = m (i b) (i a) := Subtype.ext (by
  show iv (compL a.1 b.1) = compL (iv b.1) (iv a.1)
  have hab := a.2.comp b.2
  refine cancel_r hab.iv (b.2.iv.comp a.2.iv) hab ?_
  rw [hab.ic, b.2.iv.assoc a.2.iv, ← a.2.iv.assoc a.2, a.2.ic, b.2.idl, b.2.ic])
end PG
/-- The commutator: the inverses of p and of q, then p, then q. -/
def cmt (p q : List Int) : List Int := compL (compL (iv p) (iv q)) (compL p q)
section
variable {N : Nat} {p q r : List Int}
theorem cmt_pn (hp : Pn N p) (hq : Pn N q) : Pn N (cmt p q) := (hp.iv.comp hq.iv).comp (hp.comp hq)
theorem iv_comp (hp : Pn N p) (hq : Pn N q) : iv (compL p q) = compL (iv q) (iv p) := congrArg Subtype.val (PG.im ⟨p, hp⟩ ⟨q, hq⟩)
theorem cmt_l (hp : Pn N p) (hq : Pn N q) (hr : Pn N r) : cmt (compL p r) q = compL (cj r (cmt p q)) (cmt r q) := by
  have : ∀ p q r : PG N, ((p.m r).i.m q.i).m ((p.m r).m q) = ((r.i.m ((p.i.m q.i).m (p.m q))).m r).m ((r.i.m q.i).m (r.m q)) := fun p q r => by
    simp only [PG.im, PG.asc, PG.c1, PG.c2]
  exact congrArg Subtype.val (this ⟨p, hp⟩ ⟨q, hq⟩ ⟨r, hr⟩)
theorem cmt_r (hp : Pn N p) (hq : Pn N q) (hr : Pn N r) : cmt p (compL q r) = compL (cmt p r) (cj r (cmt p q)) := by
  have : ∀ p q r : PG N, (p.i.m (q.m r).i).m (p.m (q.m r)) = ((p.i.m r.i).m (p.m r)).m ((r.i.m ((p.i.m q.i).m (p.m q))).m r) := fun p q r => by
    simp only [PG.im, PG.asc, PG.c1, PG.c2]
  exact congrArg Subtype.val (this ⟨p, hp⟩ ⟨q, hq⟩ ⟨r, hr⟩)
theorem cj_cj (hp : Pn N p) (hq : Pn N q) (hr : Pn N r) : cj (compL q r) p = cj r (cj q p) := by
  have : ∀ p q r : PG N, ((q.m r).i.m p).m (q.m r) = (r.i.m ((q.i.m p).m q)).m r := fun p q r => by simp only [PG.im, PG.asc]
  exact congrArg Subtype.val (this ⟨p, hp⟩ ⟨q, hq⟩ ⟨r, hr⟩)
theorem cj_cmt (hp : Pn N p) (hq : Pn N q) (hr : Pn N r) : cj r (cmt p q) = cmt (cj r p) (cj r q) := by
  have : ∀ p q r : PG N, (r.i.m ((p.i.m q.i).m (p.m q))).m r = (((r.i.m p).m r).i.m ((r.i.m q).m r).i).m (((r.i.m p).m r).m ((r.i.m q).m r)) := fun p q r => by
    simp only [PG.im, PG.asc, PG.c1, PG.c2, PG.ii]
  exact congrArg Subtype.val (this ⟨p, hp⟩ ⟨q, hq⟩ ⟨r, hr⟩)
theorem cmt_inv (hp : Pn N p) (hq : Pn N q) : iv (cmt p q) = cmt q p := by
  have : ∀ p q : PG N, ((p.i.m q.i).m (p.m q)).i = (q.i.m p.i).m (q.m p) := fun p q => by simp only [PG.im, PG.asc, PG.ii]
  exact congrArg Subtype.val (this ⟨p, hp⟩ ⟨q, hq⟩)
theorem cmt_one (hp : Pn N p) (hq : Pn N q) : cmt p q = idL N ↔ compL p q = compL q p := by
  have hpq := hp.comp hq
  have hqp := hq.comp hp
  have e : cmt p q = compL (iv (compL q p)) (compL p q) := by rw [iv_comp hq hp]; rfl
  rw [e]
  constructor
  · intro h
    have : compL (compL q p) (compL (iv (compL q p)) (compL p q)) = compL (compL q p) (idL N) := by rw [h]
    rwa [← hqp.assoc hqp.iv, hqp.ci, hpq.idl, hqp.idr] at this
  · intro h
    rw [h, hqp.ic]
theorem cmt_id_l (hq : Pn N q) : cmt (idL N) q = idL N := (cmt_one (pn_id hq.pos.1 hq.pos.2) hq).2 (by rw [hq.idl, hq.idr])
theorem cmt_id_r (hp : Pn N p) : cmt p (idL N) = idL N := (cmt_one hp (pn_id hp.pos.1 hp.pos.2)).2 (by rw [hp.idl, hp.idr])
end

/-! ### what a set generates -/
inductive Gn (N : Nat) (S : List Int → Prop) : List Int → Prop
  | one : Gn N S (idL N)
  | mul {p s : List Int} : Gn N S p → S s → Gn N S (compL p s)
section
variable {N : Nat} {S H G : List Int → Prop} {p q s : List Int} {gs hs : List (List Int)}
theorem Gn.pn (hS : ∀ s, S s → Pn N s) (h1 : 1 ≤ N) (h2 : N ≤ 20) (h : Gn N S p) : Pn N p := by
  induction h with
  | one => exact pn_id h1 h2
  | mul _ hm ih => exact ih.comp (hS _ hm)
theorem Gn.comp (hS : ∀ s, S s → Pn N s) (h1 : 1 ≤ N) (h2 : N ≤ 20) (hp : Gn N S p) (hq : Gn N S q) : Gn N S (compL p q) := by
  induction hq with
  | one => rw [(hp.pn hS h1 h2).idr]; exact hp
  | mul hq' hm ih =>
    rw [← (hp.pn hS h1 h2).assoc (hq'.pn hS h1 h2)]
    exact .mul ih hm
theorem Gn.of (hp : Pn N s) (hm : S s) : Gn N S s := by
  have := Gn.mul (Gn.one (N := N) (S := S)) hm
  rwa [hp.idl] at this
theorem sgp_gn (hS : ∀ s, S s → Pn N s) (h1 : 1 ≤ N) (h2 : N ≤ 20) : Sgp N (Gn N S) :=
  ⟨fun _ h => h.pn hS h1 h2, .one, fun _ _ a b => a.comp hS h1 h2 b, fun p hp => by
    rw [iv_pw (hp.pn hS h1 h2)]
    have : ∀ k, Gn N S (pw N p k) := fun k => by
      induction k with
      | zero => exact .one
      | succ k ih => exact ih.comp hS h1 h2 hp
    exact this _⟩
theorem Gn.le (hH : Sgp N H) (hS : ∀ s, S s → H s) (h : Gn N S p) : H p := by
  induction h with
  | one => exact hH.one
  | mul _ hm ih => exact hH.mul _ _ ih (hS _ hm)
theorem mb_le (hH : Sgp N H) (hS : ∀ s ∈ gs, H s) (h : Mb gs N p) : H p := by
  induction h with
  | one => exact hH.one
  | mul _ hm ih => exact hH.mul _ _ ih (hS _ hm)
/-- Conjugates by members of G lie in H. -/
def Nrm (G H : List Int → Prop) : Prop := ∀ p q, H p → G q → H (cj q p)
theorem cj_one (hp : Pn N p) : cj (idL N) p = p := by
  unfold cj
  rw [iv_id hp.pos.1 hp.pos.2, hp.idl, hp.idr]
theorem nrm_gens (hg : ∀ g ∈ gs, Pn N g) (hh : ∀ s ∈ hs, Pn N s) (h1 : 1 ≤ N) (h2 : N ≤ 20) (h : ∀ s ∈ hs, ∀ g ∈ gs, Mb hs N (cj g s)) : Nrm (Mb gs N) (Mb hs N) := by
  have one : ∀ g ∈ gs, ∀ p, Mb hs N p → Mb hs N (cj g p) := fun g hgm p hp => by
    induction hp with
    | one => rw [cj_id (hg g hgm)]; exact .one
    | mul hp' hm ih =>
      rw [cj_mul (hg g hgm) (hp'.pn hh h1 h2) (hh _ hm)]
      exact ih.comp hh h1 h2 (h _ hm g hgm)
  intro p q hp hq
  induction hq with
  | one =>
    have := cj_one (hp.pn hh h1 h2)
    rw [this]; exact hp
  | mul hq' hm ih =>
    rw [cj_cj (hp.pn hh h1 h2) (hq'.pn hg h1 h2) (hg _ hm)]
    exact one _ hm _ ih
/-- Any two commute. -/
def Abl (G : List Int → Prop) : Prop := ∀ p q, G p → G q → compL p q = compL q p
theorem abl_gens (hg : ∀ g ∈ gs, Pn N g) (h1 : 1 ≤ N) (h2 : N ≤ 20) (h : ∀ p ∈ gs, ∀ q ∈ gs, compL p q = compL q p) : Abl (Mb gs N) := by
  have one : ∀ g ∈ gs, ∀ p, Mb gs N p → compL p g = compL g p := fun g hgm p hp => by
    induction hp with
    | one => rw [(hg g hgm).idl, (hg g hgm).idr]
    | mul hp' hm ih =>
      have pp := hp'.pn hg h1 h2
      rw [pp.assoc (hg _ hm), h _ hm g hgm, ← pp.assoc (hg g hgm), ih, (hg g hgm).assoc pp]
  intro p q hp hq
  induction hq with
  | one => rw [(hp.pn hg h1 h2).idl, (hp.pn hg h1 h2).idr]
  | mul hq' hm ih =>
    have pp := hp.pn hg h1 h2
    have pq := hq'.pn hg h1 h2
    rw [← pp.assoc pq, ih, pq.assoc pp, one _ hm p hp, ← pq.assoc (hg _ hm)]
/-- The derived subgroup. -/
def Drv (N : Nat) (G : List Int → Prop) : List Int → Prop := Gn N fun c => ∃ p q, G p ∧ G q ∧ c = cmt p q
theorem drv_pn (hG : Sgp N G) : ∀ s, (∃ p q, G p ∧ G q ∧ s = cmt p q) → Pn N s := fun s ⟨p, q, hp, hq, e⟩ => by rw [e]; exact cmt_pn (hG.pn p hp) (hG.pn q hq)
theorem Sgp.pos (hG : Sgp N G) : 1 ≤ N ∧ N ≤ 20 := (hG.pn _ hG.one).pos
theorem Sgp.drv (hG : Sgp N G) : Sgp N (Drv N G) := sgp_gn (drv_pn hG) hG.pos.1 hG.pos.2
theorem Drv.le (hG : Sgp N G) (h : Drv N G p) : G p := Gn.le hG (fun s ⟨p, q, hp, hq, e⟩ => by
  rw [e]; exact hG.mul _ _ (hG.mul _ _ (hG.inv p hp) (hG.inv q hq)) (hG.mul _ _ hp hq)) h
theorem drv_cmt (hG : Sgp N G) (hp : G p) (hq : G q) : Drv N G (cmt p q) := .of (cmt_pn (hG.pn p hp) (hG.pn q hq)) ⟨p, q, hp, hq, rfl⟩
theorem drv_nrm (hG : Sgp N G) (hp : Drv N G p) (hq : G q) : Drv N G (cj q p) := by
  induction hp with
  | one => rw [cj_id (hG.pn q hq)]; exact .one
  | mul hp' hm ih =>
    obtain ⟨a, b, ha, hb, rfl⟩ := hm
    have pa := hG.pn a ha
    have pb := hG.pn b hb
    have pq := hG.pn q hq
    rw [cj_mul pq (hG.drv.pn _ hp') (cmt_pn pa pb), cj_cmt pa pb pq]
    exact hG.drv.mul _ _ ih (drv_cmt hG (hG.mul _ _ (hG.mul _ _ (hG.inv q hq) ha) hq) (hG.mul _ _ (hG.mul _ _ (hG.inv q hq) hb) hq))
/-- A normal subgroup with the commutators of the generators has all of them. -/
theorem cmt_gens (hg : ∀ g ∈ gs, Pn N g) (h1 : 1 ≤ N) (h2 : N ≤ 20) (hH : Sgp N H) (hn : Nrm (Mb gs N) H) (h : ∀ p ∈ gs, ∀ q ∈ gs, H (cmt p q)) (hp : Mb gs N p) (hq : Mb gs N q) : H (cmt p q) := by
  have one : ∀ g ∈ gs, ∀ q, Mb gs N q → H (cmt g q) := fun g hgm q hq => by
    induction hq with
    | one => rw [cmt_id_r (hg g hgm)]; exact hH.one
    | mul hq' hm ih =>
      rw [cmt_r (hg g hgm) (hq'.pn hg h1 h2) (hg _ hm)]
      exact hH.mul _ _ (h g hgm _ hm) (hn _ _ ih (.of (hg _ hm) hm))
  induction hp with
  | one => rw [cmt_id_l (hq.pn hg h1 h2)]; exact hH.one
  | mul hp' hm ih =>
    rw [cmt_l (hp'.pn hg h1 h2) (hq.pn hg h1 h2) (hg _ hm)]
    exact hH.mul _ _ (hn _ _ ih (.of (hg _ hm) hm)) (one _ hm q hq)
/-- The derived subgroup by generators. -/
theorem drv_gens (hg : ∀ g ∈ gs, Pn N g) (h1 : 1 ≤ N) (h2 : N ≤ 20) (hd : ∀ d ∈ hs, Drv N (Mb gs N) d) (hc : ∀ s ∈ hs, ∀ g ∈ gs, Mb hs N (cj g s)) (h : ∀ p ∈ gs, ∀ q ∈ gs, Mb hs N (cmt p q)) : Mb hs N p ↔ Drv N (Mb gs N) p := by
  have hG := sgp_mb hg h1 h2
  have hh : ∀ s ∈ hs, Pn N s := fun s hs' => hG.drv.pn s (hd s hs')
  have hH := sgp_mb hh h1 h2
  exact ⟨mb_le hG.drv hd, Gn.le hH fun s ⟨a, b, ha, hb, e⟩ => by rw [e]; exact cmt_gens hg h1 h2 hH (nrm_gens hg hh h1 h2 hc) h ha hb⟩
theorem crd_ex {g : Nat} (cG : Crd G g) (hs : ∀ p, H p → G p) : ∃ h, Crd H h := by
  classical
  obtain ⟨l, d, m, _⟩ := cG
  exact ⟨_, l.filter fun p => decide (H p), d.filter _, fun p => by rw [List.mem_filter, m, decide_eq_true_eq]; exact ⟨fun h => h.2, fun h => ⟨hs p h, h⟩⟩, rfl⟩
theorem crd_full {g h : Nat} (cG : Crd G g) (cH : Crd H h) (hs : ∀ p, H p → G p) (e : h = g) : ∀ p, G p → H p := by
  obtain ⟨l, d, m, rfl⟩ := cG
  obtain ⟨l', d', m', e'⟩ := cH
  intro p hp
  rcases Classical.em (H p) with hh | hh
  · exact hh
  · exfalso
    have := nd_subA (l' := p :: l') (l := l) (List.nodup_cons.2 ⟨fun h => hh ((m' p).1 h), d'⟩) fun x hx => by
      rcases List.mem_cons.1 hx with rfl | hx
      · exact (m _).2 hp
      · exact (m _).2 (hs _ ((m' _).1 hx))
    rw [List.length_cons] at this
    omega
/-- A greater group is at least twice as great. -/
theorem dbl {h k : Nat} {K : List Int → Prop} (hK : Sgp N K) (hH : Sgp N H) (hs : ∀ p, H p → K p) (cK : Crd K k) (cH : Crd H h) (hp : K p) (hn : ¬ H p) : 2 * h ≤ k := by
  obtain ⟨j, _, rfl⟩ := lagr hK hH hs cK cH
  rcases Nat.lt_or_ge j 2 with hj | hj
  · exfalso
    have h1 : 1 ≤ h := by
      have := crd_sub (crd_one (idL N)) cH fun x hx => by subst hx; exact hH.one
      exact this
    have h2 : 1 ≤ j * h := by
      have := crd_sub (crd_one (idL N)) cK fun x hx => by subst hx; exact hK.one
      exact this
    obtain rfl : j = 1 := by
      rcases j with _ | _ | j
      · rw [Nat.zero_mul] at h2; omega
      · rfl
      · omega
    exact hn (crd_full cK cH hs (Nat.one_mul h).symm p hp)
  · exact Nat.mul_le_mul_right h hj
/-- Abelian exactly if the center is all. -/
theorem abl_ctr {g c : Nat} (cG : Crd G g) (cC : Crd (Ctr G) c) : Abl G ↔ c = g := by
  constructor
  · intro ha
    exact cC.uniq (cG.congr fun p => ⟨fun h => ⟨h, fun q hq => ha p q h hq⟩, fun h => h.1⟩)
  · intro e p q hp hq
    exact (crd_full cG cC (fun p h => h.1) e p hp).2 q hq
/-- Abelian exactly if the derived subgroup is trivial. -/
theorem abl_drv {d : Nat} (hG : Sgp N G) (cD : Crd (Drv N G) d) : Abl G ↔ d = 1 := by
  constructor
  · intro ha
    refine cD.uniq ((crd_one (idL N)).congr fun p => ⟨fun e => e ▸ hG.drv.one, fun h => ?_⟩)
    have hS : Sgp N fun p => p = idL N := ⟨fun p e => e ▸ hG.pn _ hG.one, rfl, fun p q e e' => by rw [e, e', (hG.pn _ hG.one).idl], fun p e => by rw [e, iv_id hG.pos.1 hG.pos.2]⟩
    exact Gn.le (H := fun p => p = idL N) hS (fun s ⟨a, b, ha', hb', e⟩ => by rw [e]; exact (cmt_one (hG.pn a ha') (hG.pn b hb')).2 (ha a b ha' hb')) h
  · rintro rfl p q hp hq
    obtain ⟨l, _, m, el⟩ := cD
    have h1 := (m _).2 (drv_cmt hG hp hq)
    have h2 := (m _).2 hG.drv.one
    match l, el, h1, h2 with
    | [x], _, h1, h2 =>
      rw [List.mem_singleton] at h1 h2
      exact (cmt_one (hG.pn p hp) (hG.pn q hq)).1 (h1.trans h2.symm)
end
end Go.Proofs.Ytcjcmhoalomjfaa

/- The shape of a contract over generators: what goes in, what comes out, what is kept. No condition. -/
namespace Go.Proofs.Ytcjcmhoalomjfaa
open Go.RowKit

/-- Generators that can be read, not too many. -/
structure GIn (w : World) (A : Option Addr) (n : Nat) (vs : List SV) (xss : List (List Int)) : Prop where
  rr : RR w w.heap.size A n vs xss
  hn : n ≤ 1048576
  hl : ∀ i, i < n → (vs.getD i sd0).2.1 ≤ 1048576
/-- A list of numbers that can be read, not too long. -/
structure SIn (w : World) (P : Option Addr) (np cp : Nat) (p : List Int) : Prop where
  ri : RI w w.heap.size P p
  lp : p.length = np
  hn : np ≤ 1048576
  hc : np ≤ cp
def I64 (a : Int) : Prop := -9223372036854775808 ≤ a ∧ a ≤ 9223372036854775807
section
variable {w w' : World} {A P : Option Addr} {n np cp : Nat} {vs : List SV} {xss : List (List Int)} {p : List Int}
theorem GIn.up (h : GIn w A n vs xss) (hb : Below w.heap.size w w') : GIn w' A n vs xss := ⟨h.rr.up hb, h.hn, h.hl⟩
theorem SIn.up (h : SIn w P np cp p) (hb : Below w.heap.size w w') : SIn w' P np cp p := ⟨h.ri.up hb, h.lp, h.hn, h.hc⟩
end

def CtImI (F : Nat) (R : Int → List (List Int) → Int → Prop) : Prop := ∀ (a : Int) (A : Option Addr) (n c : Nat) (vs : List SV) (xss : List (List Int)) (w : World), GIn w A n vs xss → I64 a →
  Calls Try.prog F #[.int .i64 a, .slice A n c] w fun e w' => ∃ v, e = .returned (.int .i64 v) ∧ R a xss v ∧ Below w.heap.size w w'
def CtImB (F : Nat) (R : Int → List (List Int) → Bool → Prop) : Prop := ∀ (a : Int) (A : Option Addr) (n c : Nat) (vs : List SV) (xss : List (List Int)) (w : World), GIn w A n vs xss → I64 a →
  Calls Try.prog F #[.int .i64 a, .slice A n c] w fun e w' => ∃ v, e = .returned (.bool v) ∧ R a xss v ∧ Below w.heap.size w w'
def CtImS (F : Nat) (R : Int → List (List Int) → List Int → Prop) : Prop := ∀ (a : Int) (A : Option Addr) (n c : Nat) (vs : List SV) (xss : List (List Int)) (w : World), GIn w A n vs xss → I64 a →
  Calls Try.prog F #[.int .i64 a, .slice A n c] w fun e w' => ∃ A' m c' zs, e = .returned (.slice A' m c') ∧ Slc w' w.heap.size A' m c' zs ∧ R a xss zs ∧ Below w.heap.size w w'
def CtImM (F : Nat) (R : Int → List (List Int) → List (List Int) → Prop) : Prop := ∀ (a : Int) (A : Option Addr) (n c : Nat) (vs : List SV) (xss : List (List Int)) (w : World), GIn w A n vs xss → I64 a →
  Calls Try.prog F #[.int .i64 a, .slice A n c] w fun e w' => ∃ A' m c' us l, e = .returned (.slice A' m c') ∧ SS w' w.heap.size w.heap.size A' m c' us l ∧ R a xss l ∧ Below w.heap.size w w'
def CtImsI (F : Nat) (R : Int → List (List Int) → List Int → Int → Prop) : Prop := ∀ (a : Int) (A : Option Addr) (n c : Nat) (vs : List SV) (xss : List (List Int)) (P : Option Addr) (np cp : Nat) (p : List Int) (w : World), GIn w A n vs xss → SIn w P np cp p → I64 a →
  Calls Try.prog F #[.int .i64 a, .slice A n c, .slice P np cp] w fun e w' => ∃ v, e = .returned (.int .i64 v) ∧ R a xss p v ∧ Below w.heap.size w w'
def CtImsB (F : Nat) (R : Int → List (List Int) → List Int → Bool → Prop) : Prop := ∀ (a : Int) (A : Option Addr) (n c : Nat) (vs : List SV) (xss : List (List Int)) (P : Option Addr) (np cp : Nat) (p : List Int) (w : World), GIn w A n vs xss → SIn w P np cp p → I64 a →
  Calls Try.prog F #[.int .i64 a, .slice A n c, .slice P np cp] w fun e w' => ∃ v, e = .returned (.bool v) ∧ R a xss p v ∧ Below w.heap.size w w'
def CtImsP (F : Nat) (R : Int → List (List Int) → List Int → List Int → Bool → Prop) : Prop := ∀ (a : Int) (A : Option Addr) (n c : Nat) (vs : List SV) (xss : List (List Int)) (P : Option Addr) (np cp : Nat) (p : List Int) (w : World), GIn w A n vs xss → SIn w P np cp p → I64 a →
  Calls Try.prog F #[.int .i64 a, .slice A n c, .slice P np cp] w fun e w' => ∃ A' m c' zs ok, e = .returned (.tuple #[.slice A' m c', .bool ok]) ∧ Slc w' w.heap.size A' m c' zs ∧ R a xss p zs ok ∧ Below w.heap.size w w'
def CtImmB (F : Nat) (R : Int → List (List Int) → List (List Int) → Bool → Prop) : Prop := ∀ (a : Int) (A : Option Addr) (n c : Nat) (vs : List SV) (xss : List (List Int)) (M : Option Addr) (m cm : Nat) (us : List SV) (yss : List (List Int)) (w : World), GIn w A n vs xss → GIn w M m us yss → I64 a →
  Calls Try.prog F #[.int .i64 a, .slice A n c, .slice M m cm] w fun e w' => ∃ v, e = .returned (.bool v) ∧ R a xss yss v ∧ Below w.heap.size w w'
def CtImiP (F : Nat) (R : Int → List (List Int) → Int → List Int → Bool → Prop) : Prop := ∀ (a : Int) (A : Option Addr) (n c : Nat) (vs : List SV) (xss : List (List Int)) (k : Int) (w : World), GIn w A n vs xss → I64 a → I64 k →
  Calls Try.prog F #[.int .i64 a, .slice A n c, .int .i64 k] w fun e w' => ∃ A' m c' zs ok, e = .returned (.tuple #[.slice A' m c', .bool ok]) ∧ Slc w' w.heap.size A' m c' zs ∧ R a xss k zs ok ∧ Below w.heap.size w w'
def CtImP (F : Nat) (R : Int → List (List Int) → List Int → Bool → Prop) : Prop := ∀ (a : Int) (A : Option Addr) (n c : Nat) (vs : List SV) (xss : List (List Int)) (w : World), GIn w A n vs xss → I64 a →
  Calls Try.prog F #[.int .i64 a, .slice A n c] w fun e w' => ∃ A' m c' zs ok, e = .returned (.tuple #[.slice A' m c', .bool ok]) ∧ Slc w' w.heap.size A' m c' zs ∧ R a xss zs ok ∧ Below w.heap.size w w'
end Go.Proofs.Ytcjcmhoalomjfaa

/- What the functions of chapter 5 answer. No Go in it. No condition. -/
namespace Go.Proofs.Ytcjcmhoalomjfaa
open Go.RowKit

/-- Generators, and a permutation of their degree. -/
def Vld (a : Int) (gs : List (List Int)) (p : List Int) : Prop := gB a gs = true ∧ (p.length : Int) = a ∧ isP p = true
def IsCmb (a : Int) (gs : List (List Int)) (p : List Int) (v : Int) : Prop := (Vld a gs p ∧ ∃ c : Nat, Rk a.toNat gs p c ∧ v = (c : Int)) ∨ (¬ Vld a gs p ∧ v = -1)
def IsRnk (a : Int) (gs : List (List Int)) (p : List Int) (v : Int) : Prop := (Memb a gs p ∧ ∃ c : Nat, Rk a.toNat gs p c ∧ v = (c : Int)) ∨ (¬ Memb a gs p ∧ v = -1)
def IsMat (a : Int) (gs : List (List Int)) (k : Int) (m : List Int) (ok : Bool) : Prop :=
  (gB a gs = true ∧ ok = true ∧ Mb gs a.toNat m ∧ ∃ c : Nat, Rk a.toNat gs m c ∧ k = (c : Int)) ∨ (ok = false ∧ m = [] ∧ (gB a gs = true → ∀ q, Mb gs a.toNat q → ∀ c : Nat, Rk a.toNat gs q c → k ≠ (c : Int)))
def IsNxt (a : Int) (gs : List (List Int)) (p m : List Int) (ok : Bool) : Prop :=
  (Vld a gs p ∧ ∃ (c : Nat) (b : Bool), Rk a.toNat gs p c ∧ (b = true ↔ Memb a gs p) ∧ IsMat a gs ((c : Int) + (if b = true then 1 else 0)) m ok) ∨ (¬ Vld a gs p ∧ m = [] ∧ ok = false)
def IsFst (a : Int) (gs : List (List Int)) (m : List Int) (ok : Bool) : Prop := IsMat a gs 1 m ok
/-- No more than 3000 members. -/
def Few (a : Int) (gs : List (List Int)) : Prop := gB a gs = true ∧ ∃ V : Nat, Crd (Mb gs a.toNat) V ∧ V ≤ 3000
def IsMbs (a : Int) (gs l : List (List Int)) : Prop := (Few a gs ∧ l.Pairwise (LxI a.toNat) ∧ ∀ p, p ∈ l ↔ Mb gs a.toNat p) ∨ (¬ Few a gs ∧ l = [])
/-- The states of the generator behind a seed. -/
def seed0 (s : Int) : Int := (s.tmod 999999937 + 999999937).tmod 999999937
def stt (s : Int) : Nat → Int
  | 0 => seed0 s
  | i + 1 => (stt s i * 48271 + 11).tmod 999999937
def IsRnd (a : Int) (gs : List (List Int)) (s : Int) (m : List Int) (ok : Bool) : Prop :=
  (gB a gs = true ∧ ok = true ∧ Mb gs a.toNat m ∧ ∀ i, i < a.toNat → ∀ zs, ChL a.toNat gs m i zs → (nx m i : Int) = zs.getD (((stt s (i + 1)).tmod (zs.length : Int)).toNat) 0) ∨ (gB a gs = false ∧ ok = false ∧ m = [])
theorem IsCmb.uniq {a v v' : Int} {gs : List (List Int)} {p : List Int} (h : IsCmb a gs p v) (h' : IsCmb a gs p v') : v = v' := by
  rcases h with ⟨e, c, h, rfl⟩ | ⟨e, rfl⟩ <;> rcases h' with ⟨e', c', h', rfl⟩ | ⟨e', rfl⟩
  · rw [Crd.uniq h h']
  · exact absurd e e'
  · exact absurd e' e
  · rfl
theorem IsRnk.uniq {a v v' : Int} {gs : List (List Int)} {p : List Int} (h : IsRnk a gs p v) (h' : IsRnk a gs p v') : v = v' := by
  rcases h with ⟨e, c, h, rfl⟩ | ⟨e, rfl⟩ <;> rcases h' with ⟨e', c', h', rfl⟩ | ⟨e', rfl⟩
  · rw [Crd.uniq h h']
  · exact absurd e e'
  · exact absurd e' e
  · rfl
theorem IsMat.uniq {a k : Int} {gs : List (List Int)} {m m' : List Int} {ok ok' : Bool} (h : IsMat a gs k m ok) (h' : IsMat a gs k m' ok') : m = m' ∧ ok = ok' := by
  rcases h with ⟨e, rfl, hm, c, hc, ek⟩ | ⟨rfl, rfl, hn⟩ <;> rcases h' with ⟨e', rfl, hm', c', hc', ek'⟩ | ⟨rfl, rfl, hn'⟩
  · obtain ⟨N, rfl, h1, h2, _, _, ok⟩ := gB_pm e
    rw [Int.toNat_natCast] at hm hm' hc hc'
    obtain rfl : c = c' := by omega
    exact ⟨rk_inj ok h1 h2 hc hc' hm hm', rfl⟩
  · exact absurd ek (hn' e m hm c hc)
  · exact absurd ek' (hn e' m' hm' c' hc')
  · exact ⟨rfl, rfl⟩
theorem IsMat.len {a k : Int} {gs : List (List Int)} {m : List Int} {ok : Bool} (h : IsMat a gs k m ok) : m.length ≤ 20 := by
  rcases h with ⟨e, _, hm, _⟩ | ⟨_, rfl, _⟩
  · obtain ⟨N, rfl, h1, h2, _, _, ok⟩ := gB_pm e
    rw [Int.toNat_natCast] at hm
    rw [(hm.pn ok h1 h2).2]; exact h2
  · simp
theorem IsNxt.uniq {a : Int} {gs : List (List Int)} {p m m' : List Int} {ok ok' : Bool} (h : IsNxt a gs p m ok) (h' : IsNxt a gs p m' ok') : m = m' ∧ ok = ok' := by
  rcases h with ⟨e, c, b, hc, hb, h⟩ | ⟨e, rfl, rfl⟩ <;> rcases h' with ⟨e', c', b', hc', hb', h'⟩ | ⟨e', rfl, rfl⟩
  · obtain rfl : c = c' := Crd.uniq hc hc'
    obtain rfl : b = b' := by rw [Bool.eq_iff_iff, hb, hb']
    exact h.uniq h'
  · exact absurd e e'
  · exact absurd e' e
  · exact ⟨rfl, rfl⟩
theorem IsNxt.len {a : Int} {gs : List (List Int)} {p m : List Int} {ok : Bool} (h : IsNxt a gs p m ok) : m.length ≤ 20 := by
  rcases h with ⟨_, c, b, _, _, h⟩ | ⟨_, rfl, _⟩
  · exact h.len
  · simp
theorem IsFst.uniq {a : Int} {gs : List (List Int)} {m m' : List Int} {ok ok' : Bool} (h : IsFst a gs m ok) (h' : IsFst a gs m' ok') : m = m' ∧ ok = ok' := IsMat.uniq h h'
theorem IsFst.len {a : Int} {gs : List (List Int)} {m : List Int} {ok : Bool} (h : IsFst a gs m ok) : m.length ≤ 20 := IsMat.len h
theorem lx_nodup {N : Nat} {l : List (List Int)} (h : l.Pairwise (LxI N)) : l.Nodup := List.Pairwise.imp (S := fun a b => a ≠ b) (fun {a b} hab e => by subst e; exact LxI.irr hab) h
theorem lx_sorted_uniq {N : Nat} {l l' : List (List Int)} (h : l.Pairwise (LxI N)) (h' : l'.Pairwise (LxI N)) (hm : ∀ p, p ∈ l ↔ p ∈ l') : l = l' := by
  have n1 := lx_nodup h
  have n2 := lx_nodup h'
  exact ((List.perm_ext_iff_of_nodup n1 n2).2 hm).eq_of_pairwise (le := LxI N) (fun a b _ _ h1 h2 => absurd (h1.trans h2) LxI.irr) h h'
theorem IsMbs.uniq {a : Int} {gs l l' : List (List Int)} (h : IsMbs a gs l) (h' : IsMbs a gs l') : l = l' := by
  rcases h with ⟨e, h, m⟩ | ⟨e, rfl⟩ <;> rcases h' with ⟨e', h', m'⟩ | ⟨e', rfl⟩
  · exact lx_sorted_uniq h h' fun p => (m p).trans (m' p).symm
  · exact absurd e e'
  · exact absurd e' e
  · rfl
theorem IsMbs.len {a : Int} {gs l : List (List Int)} (h : IsMbs a gs l) : l.length ≤ 3000 ∧ ∀ y ∈ l, y.length ≤ 20 := by
  rcases h with ⟨⟨e, V, hV, hle⟩, h, m⟩ | ⟨e, rfl⟩
  · obtain ⟨N, rfl, h1, h2, _, _, ok⟩ := gB_pm e
    rw [Int.toNat_natCast] at h m hV
    have n1 := lx_nodup h
    have : l.length ≤ V := crd_sub ⟨l, n1, fun _ => Iff.rfl, rfl⟩ hV fun x hx => (m x).1 hx
    exact ⟨by omega, fun y hy => by rw [(((m y).1 hy).pn ok h1 h2).2]; exact h2⟩
  · exact ⟨by simp, fun y hy => by cases hy⟩
theorem boundMbs {a : Int} {gs l : List (List Int)} (h : IsMbs a gs l) : l.length ≤ 1048576 ∧ (∀ i, i < l.length → (l.getD i []).length ≤ 1048576) ∧ sumL l ≤ 1048576 :=
  bound_all (m := 3000) (k := 20) h.len.1 h.len.2 (by omega)
/-- A list of the entries there is. -/
theorem ChL.ex {N i : Nat} {gs : List (List Int)} (hg : ∀ g ∈ gs, Pn N g) (h1 : 1 ≤ N) (h2 : N ≤ 20) (hi : i < N) (m : List Int) : ∃ zs, ChL N gs m i zs := by
  classical
  refine ⟨((List.range N).filter fun v => decide (∃ q, Mb gs N q ∧ Ag i q m ∧ nx q i = v)).map Int.ofNat, ?_, fun v => ?_⟩
  · rw [List.pairwise_map]
    exact (List.pairwise_lt_range.filter _).imp fun hab => by show (_ : Int) < _; exact Int.ofNat_lt.2 hab
  · rw [List.mem_map]
    constructor
    · rintro ⟨y, hy, rfl⟩
      obtain ⟨_, hq⟩ := List.mem_filter.1 hy
      obtain ⟨q, a, b, e⟩ := of_decide_eq_true hq
      exact ⟨q, a, b, by show _ = (y : Int); omega⟩
    · rintro ⟨q, a, b, rfl⟩
      exact ⟨nx q i, List.mem_filter.2 ⟨List.mem_range.2 ((a.pn hg h1 h2).lt hi), decide_eq_true ⟨q, a, b, rfl⟩⟩, rfl⟩
theorem IsRnd.uniq {a s : Int} {gs : List (List Int)} {m m' : List Int} {ok ok' : Bool} (h : IsRnd a gs s m ok) (h' : IsRnd a gs s m' ok') : m = m' ∧ ok = ok' := by
  rcases h with ⟨e, rfl, hm, h⟩ | ⟨e, rfl, rfl⟩ <;> rcases h' with ⟨e', rfl, hm', h'⟩ | ⟨e', rfl, rfl⟩
  · obtain ⟨N, rfl, h1, h2, _, _, ok⟩ := gB_pm e
    rw [Int.toNat_natCast] at hm hm' h h'
    have hp := hm.pn ok h1 h2
    have hp' := hm'.pn ok h1 h2
    have key : ∀ i, i ≤ N → Ag i m m' := fun i => by
      induction i with
      | zero => exact fun _ t ht => absurd ht (Nat.not_lt_zero _)
      | succ i ih =>
        intro hi
        have ha := ih (by omega)
        refine ag_succ.2 ⟨ha, ?_⟩
        obtain ⟨zs, hz⟩ := ChL.ex ok h1 h2 (show i < N by omega) m
        have e1 := h i (by omega) zs hz
        have e2 := h' i (by omega) zs (hz.ag ha)
        omega
    exact ⟨hp.ext hp' (key N (Nat.le_refl _)), rfl⟩
  · rw [e] at e'; cases e'
  · rw [e] at e'; cases e'
  · exact ⟨rfl, rfl⟩
theorem IsRnd.len {a s : Int} {gs : List (List Int)} {m : List Int} {ok : Bool} (h : IsRnd a gs s m ok) : m.length ≤ 20 := by
  rcases h with ⟨e, _, hm, _⟩ | ⟨_, _, rfl⟩
  · obtain ⟨N, rfl, h1, h2, _, _, ok⟩ := gB_pm e
    rw [Int.toNat_natCast] at hm
    rw [(hm.pn ok h1 h2).2]; exact h2
  · simp
end Go.Proofs.Ytcjcmhoalomjfaa

/- IsMember, LongestMemberPrefix and SameGroup of the model: what they answer. Conditions: at most 1048576 lists of at most 1048576 numbers. -/
namespace Go.Proofs.Ytcjcmhoalomjfaa
open Go.RowKit

/-- p's first k entries are those of a member, and no more of them are. -/
def LmpOK (N : Nat) (gs : List (List Int)) (p : List Int) (k : Nat) : Prop := k ≤ N ∧ (∃ q, Mb gs N q ∧ ∀ t, t < k → nx q t = nx p t) ∧ (k < N → ¬ ∃ q, Mb gs N q ∧ ∀ t, t ≤ k → nx q t = nx p t)
theorem LmpOK.uniq {N k k' : Nat} {gs : List (List Int)} {p : List Int} (h : LmpOK N gs p k) (h' : LmpOK N gs p k') : k = k' := by
  obtain ⟨a, ⟨q, hq, hq2⟩, b⟩ := h
  obtain ⟨a', ⟨q', hq', hq2'⟩, b'⟩ := h'
  rcases Nat.lt_trichotomy k k' with hl | hl | hl
  · exact absurd ⟨q', hq', fun t ht => hq2' t (by omega)⟩ (b (by omega))
  · exact hl
  · exact absurd ⟨q, hq, fun t ht => hq2 t (by omega)⟩ (b' (by omega))
/-- What LongestMemberPrefix answers. -/
def IsLmp (a : Int) (gs : List (List Int)) (p : List Int) (v : Int) : Prop :=
  (gB a gs = true ∧ (p.length : Int) = a ∧ isP p = true ∧ ∃ k : Nat, v = k ∧ LmpOK a.toNat gs p k) ∨ (¬ (gB a gs = true ∧ (p.length : Int) = a ∧ isP p = true) ∧ v = -1)
theorem IsLmp.uniq {a v v' : Int} {gs : List (List Int)} {p : List Int} (h : IsLmp a gs p v) (h' : IsLmp a gs p v') : v = v' := by
  rcases h with ⟨e1, e2, e3, k, rfl, h⟩ | ⟨e, rfl⟩ <;> rcases h' with ⟨e1', e2', e3', k', rfl, h'⟩ | ⟨e', rfl⟩
  · rw [h.uniq h']
  · exact absurd ⟨e1, e2, e3⟩ e'
  · exact absurd ⟨e1', e2', e3'⟩ e
  · rfl
/-- The two lists generate the same group. -/
def SameG (a : Int) (xs ys : List (List Int)) : Prop := gB a xs = true ∧ gB a ys = true ∧ (∀ g ∈ ys, Mb xs a.toNat g) ∧ ∀ g ∈ xs, Mb ys a.toNat g

theorem bool_of (P : Prop) : ∃ b : Bool, b = true ↔ P := by
  rcases Classical.em P with h | h
  · exact ⟨true, fun _ => h, fun _ => rfl⟩
  · exact ⟨false, fun e => (by cases e), fun e => absurd e h⟩
section
variable (a : Int) (A : Option Addr) (n c : Nat) (vs : List SV) (xss : List (List Int)) (w : World)
theorem specIsPB (N : Nat) (xs : List Int) (ans : Bool) (hx : RI w w.heap.size A xs) (lx : Hid (xs.length = n)) (hn : n ≤ 2097152) (hnc : n ≤ c) (ha : Hid (isP xs = ans)) :
    Calls Try.prog 83 #[.slice A n c] w fun e w' => e = .returned (.bool ans) ∧ Below w.heap.size w w' :=
  (quiet_below (specIsP A c n xs w hx lx hn hnc)).mono fun e w' ⟨he, hb⟩ => ⟨he.trans (ret_bool ha.out), hb⟩
set_option maxHeartbeats 1000000 in
theorem specIsPOf (N : Nat) (xs : List Int) (ans : Bool) (hx : RI w w.heap.size A xs) (lx : Hid (xs.length = n)) (hn : n ≤ 2097152) (hnc : n ≤ c) (ha : Hid ((decide (n = N) && isP xs) = ans)) :
    Calls Try.prog 75 #[.int .i64 (N : Nat), .slice A n c] w fun e w' => e = .returned (.bool ans) ∧ Below w.heap.size w w' := by
  have HX := Lib.hid hx
  clear hx
  by_cases e1 : n = N
  · subst e1
    have e0 : ((n : Int) == (n : Int)) = true := by simp
    have h1 : Hid (isP xs = ans) := Lib.hid (by rw [← ha.out]; simp)
    go_enter Try.func75, Try.ntmps75
    go_wp2_with (first | (go_at_call 83; refine (specIsPB A n c w n xs ans HX.out lx hn hnc h1).mono ?_; rintro e w1 ⟨rfl, b1⟩))
    go_ret
    exact ⟨rfl, b1⟩
  · have e0 : ((n : Int) == (N : Int)) = false := by simp; omega
    have h1 : Hid (ans = false) := Lib.hid (by rw [← ha.out]; simp [e1])
    go_enter Try.func75, Try.ntmps75
    go_wp2_with fail
    go_ret
    exact ⟨ret_bool h1.out.symm, Below.refl _ _⟩

set_option maxHeartbeats 2000000 in
set_option maxRecDepth 100000 in
theorem specHasAll (base g N m cm : Nat) (M : Option Addr) (us : List SV) (gs hs : List (List Int)) (ch : Ch) (L : LY) (hc : Cn w base g N ch L) (hw : Whole N gs ch) (hm : RR w w.heap.size M m us hs) (ok : Hid (∀ g ∈ hs, IsP g ∧ g.length = N)) (hN1 : 1 ≤ N) (hm8 : m ≤ 8) (fin : Bool) (hf : Hid (fin = true ↔ ∀ x ∈ hs, Mb gs N x)) :
    Calls Try.prog 61 #[.pointer (some ⟨g, 0, none⟩), .slice M m cm] w fun e w' => e = .returned (.bool fin) ∧ Below w.heap.size w w' := by
  have HC := Lib.hid hc
  have HW := Lib.hid hw
  have HM := Lib.hid hm
  have hlx : Hid (hs.length = m) := Lib.hid hm.lx
  clear hc hw hm
  go_enter Try.func61, Try.ntmps61
  go_wp2_with fail
  go_loopw [5] (fun i wr => ∃ k : Nat, k ≤ m ∧ i = .int .i64 (k : Nat) ∧ (∀ x ∈ hs.take k, Mb gs N x) ∧ Below w.heap.size w wr) (fun i _ => m - (intOf i).toNat)
  case atStart => exact ⟨0, Nat.zero_le _, rfl, fun x hx => by simp at hx, Below.refl _ _⟩
  case round =>
    obtain ⟨k, hk, rfl, hall, bel⟩ := hrel
    have Al := Lib.hid hall
    have Be := Lib.hid bel
    have C1 := Lib.hid (HC.out.up bel)
    clear hall bel
    by_cases hlt : k < m
    · obtain ⟨b, off, A5, l, c5, y, rfl, hb, hv, ey, x1, ri, ly, hl5⟩ := (HM.out.up Be.out).at_ hlt
      have hym : y ∈ hs := by rw [← ey]; exact getD_memL (by rw [hlx.out]; exact hlt)
      have hyP := ok.out y hym
      obtain rfl : l = N := by omega
      have Ri := Lib.hid ri
      have YP : Hid (Pn l y) := Lib.hid hyP
      have Ym := Lib.hid hym
      have Ey := Lib.hid ey
      have q0 : (0 : Int) ≤ k := by omega
      have q1 : (k : Int) < m := by omega
      obtain ⟨ans, hans⟩ : ∃ ans : Bool, ans = true ↔ Mb gs l y := by
        rcases Classical.em (Mb gs l y) with h | h
        · exact ⟨true, fun _ => h, fun _ => rfl⟩
        · exact ⟨false, fun e => (by cases e), fun e => absurd e h⟩
      have Ha := Lib.hid hans
      clear hv ey hb ri hyP hym hans
      go_wp2_with fail
      refine (specHas base g l c5 A5 ch L gs y wr C1.out HW.out Ri.out YP ans Ha).mono ?_
      rintro e w2 ⟨rfl, b2⟩
      have Be2 : Hid (Below w.heap.size w w2) := Lib.hid (btr Be.out b2)
      clear b2
      rcases ans with _ | _
      · have Fin : Hid (fin = false) := Lib.hid (by
          rcases hq : fin with _ | _
          · rfl
          · exact absurd (Ha.out.2 (hf.out.1 hq y Ym.out)) (by decide))
        go_wp2_with fail
        go_ret
        exact ⟨ret_bool Fin.out.symm, Be2.out⟩
      · have Al2 : Hid (∀ x ∈ hs.take (k + 1), Mb gs l x) := Lib.hid fun x hx => by
          rw [List.take_succ_eq_append_getElem (by rw [hlx.out]; exact hlt)] at hx
          rcases List.mem_append.1 hx with hx | hx
          · exact Al.out x hx
          · have e1 : hs[k]'(by rw [hlx.out]; exact hlt) = y := by rw [← Ey.out, List.getD_eq_getElem?_getD, List.getElem?_eq_getElem (by rw [hlx.out]; exact hlt)]; rfl
            rw [List.mem_singleton.1 hx, e1]; exact Ha.out.1 rfl
        go_wp2_with fail
        go_roundw
        case rel => exact ⟨k + 1, by omega, by go_num, Al2.out, Be2.out⟩
        case measure => simp [intOf]; omega
    · obtain rfl : k = m := by omega
      have Fin : Hid (fin = true) := Lib.hid (hf.out.2 fun x hx => Al.out x (by rw [List.take_of_length_le (by rw [hlx.out]; exact Nat.le_refl _)]; exact hx))
      go_wp2_with fail
      go_ret
      exact ⟨ret_bool Fin.out.symm, Be.out⟩
end
end Go.Proofs.Ytcjcmhoalomjfaa

/- What the functions of chapter 6 answer, and the shapes of their contracts. No Go in it. No condition. -/
namespace Go.Proofs.Ytcjcmhoalomjfaa
open Go.RowKit

/-- What xa generates lies in what xb generates. -/
def SubG (a : Int) (xa xb : List (List Int)) : Prop := gB a xa = true ∧ gB a xb = true ∧ ∀ g ∈ xa, Mb xb a.toNat g
def IsSub (a : Int) (xa xb : List (List Int)) (b : Bool) : Prop := b = true ↔ SubG a xa xb
def IsIdx (a : Int) (xa xb : List (List Int)) (v : Int) : Prop := (SubG a xa xb ∧ ∃ k : Nat, Crd (fun p => Mb xb a.toNat p ∧ CMin a.toNat (Mb xa a.toNat) p p) k ∧ v = (k : Int)) ∨ (¬ SubG a xa xb ∧ v = 0)
def IsSco (a : Int) (xa : List (List Int)) (p q : List Int) (b : Bool) : Prop := b = true ↔ Vld a xa p ∧ Vld a xa q ∧ Cos (Mb xa a.toNat) p q
def IsCmi (a : Int) (xa : List (List Int)) (p m : List Int) : Prop := (Vld a xa p ∧ CMin a.toNat (Mb xa a.toNat) p m) ∨ (¬ Vld a xa p ∧ m = [])
/-- At most 200 cosets. -/
def FewC (a : Int) (xa xb : List (List Int)) : Prop := SubG a xa xb ∧ ∃ k : Nat, Crd (fun p => Mb xb a.toNat p ∧ CMin a.toNat (Mb xa a.toNat) p p) k ∧ k ≤ 200
def IsRep (a : Int) (xa xb l : List (List Int)) : Prop := (FewC a xa xb ∧ l.Pairwise (LxI a.toNat) ∧ ∀ p, p ∈ l ↔ Mb xb a.toNat p ∧ CMin a.toNat (Mb xa a.toNat) p p) ∨ (¬ FewC a xa xb ∧ l = [])
def IsNor (a : Int) (xa xb : List (List Int)) (b : Bool) : Prop := b = true ↔ SubG a xa xb ∧ Nrm (Mb xb a.toNat) (Mb xa a.toNat)
def IsAbl (a : Int) (xa : List (List Int)) (b : Bool) : Prop := b = true ↔ gB a xa = true ∧ Abl (Mb xa a.toNat)
def IsCtr (a : Int) (xa : List (List Int)) (v : Int) : Prop := (Few a xa ∧ ∃ c : Nat, Crd (Ctr (Mb xa a.toNat)) c ∧ v = (c : Int)) ∨ (¬ Few a xa ∧ v = 0)
def IsDer (a : Int) (xa : List (List Int)) (v : Int) : Prop := (gB a xa = true ∧ ∃ c : Nat, Crd (Drv a.toNat (Mb xa a.toNat)) c ∧ v = (c : Int)) ∨ (gB a xa = false ∧ v = 0)

section
variable {a v v' : Int} {xa xb l l' : List (List Int)} {p q m m' : List Int} {b b' : Bool}
theorem gB_sgp (h : gB a xa = true) : Sgp a.toNat (Mb xa a.toNat) := by
  obtain ⟨N, rfl, h1, h2, _, _, ok⟩ := gB_pm h
  rw [Int.toNat_natCast]
  exact sgp_mb ok h1 h2
theorem gB_crd (h : gB a xa = true) : ∃ V, Crd (Mb xa a.toNat) V ∧ 1 ≤ V ∧ V ≤ 2432902008176640000 := by
  obtain ⟨N, rfl, h1, h2, _, _, ok⟩ := gB_pm h
  classical
  rw [Int.toNat_natCast]
  have hx : IsOS N xa ((List.range N).map fun i => (((List.range N).filter fun y => decide (∃ p, Mb xa N p ∧ Fx i p ∧ nx p i = y)).length : Int)) := ⟨by simp, fun i hi => ⟨(List.range N).filter fun y => decide (∃ p, Mb xa N p ∧ Fx i p ∧ nx p i = y), List.nodup_range.filter _, fun y => by rw [List.mem_filter, List.mem_range, decide_eq_true_eq], by
    rw [List.getD_eq_getElem?_getD, List.getElem?_map, List.getElem?_range hi]; rfl⟩⟩
  obtain ⟨V, hV, e⟩ := hx.order ok h1 h2
  have hp := hx.pr_le ok h1 h2 0 N (by omega)
  have hf := facts_le h2 (0 + N) (by omega)
  rw [prodL_pr, hx.1] at e
  exact ⟨V, hV, by omega, by omega⟩
theorem Vld.pn (h : Vld a xa p) : Pn a.toNat p := ⟨isP_iff.1 h.2.2, by have := h.2.1; omega⟩
theorem IsSub.uniq (h : IsSub a xa xb b) (h' : IsSub a xa xb b') : b = b' := by unfold IsSub at h h'; rw [Bool.eq_iff_iff, h, h']
theorem IsIdx.uniq (h : IsIdx a xa xb v) (h' : IsIdx a xa xb v') : v = v' := by
  rcases h with ⟨e, c, h, rfl⟩ | ⟨e, rfl⟩ <;> rcases h' with ⟨e', c', h', rfl⟩ | ⟨e', rfl⟩
  · rw [Crd.uniq h h']
  · exact absurd e e'
  · exact absurd e' e
  · rfl
theorem IsSco.uniq (h : IsSco a xa p q b) (h' : IsSco a xa p q b') : b = b' := by unfold IsSco at h h'; rw [Bool.eq_iff_iff, h, h']
theorem IsCmi.uniq (h : IsCmi a xa p m) (h' : IsCmi a xa p m') : m = m' := by
  rcases h with ⟨e, h⟩ | ⟨e, rfl⟩ <;> rcases h' with ⟨e', h'⟩ | ⟨e', rfl⟩
  · exact h.uniq (gB_sgp e.1) e.pn h'
  · exact absurd e e'
  · exact absurd e' e
  · rfl
theorem IsCmi.len (h : IsCmi a xa p m) : m.length ≤ 20 := by
  rcases h with ⟨e, h⟩ | ⟨_, rfl⟩
  · have hm := h.1.pn (gB_sgp e.1) e.pn
    have := hm.1.le
    exact this
  · simp
theorem IsRep.uniq (h : IsRep a xa xb l) (h' : IsRep a xa xb l') : l = l' := by
  rcases h with ⟨e, h, m⟩ | ⟨e, rfl⟩ <;> rcases h' with ⟨e', h', m'⟩ | ⟨e', rfl⟩
  · exact lx_sorted_uniq h h' fun p => (m p).trans (m' p).symm
  · exact absurd e e'
  · exact absurd e' e
  · rfl
theorem IsRep.len (h : IsRep a xa xb l) : l.length ≤ 200 ∧ ∀ y ∈ l, y.length ≤ 20 := by
  rcases h with ⟨⟨e, k, hk, hle⟩, h, m⟩ | ⟨_, rfl⟩
  · have n1 := lx_nodup h
    have : l.length ≤ k := crd_sub ⟨l, n1, fun _ => Iff.rfl, rfl⟩ hk fun x hx => (m x).1 hx
    refine ⟨by omega, fun y hy => ?_⟩
    have := ((gB_sgp e.2.1).pn y ((m y).1 hy).1).1.le
    exact this
  · exact ⟨by simp, fun y hy => by cases hy⟩
theorem boundRep (h : IsRep a xa xb l) : l.length ≤ 1048576 ∧ (∀ i, i < l.length → (l.getD i []).length ≤ 1048576) ∧ sumL l ≤ 1048576 :=
  bound_all (m := 200) (k := 20) h.len.1 h.len.2 (by omega)
theorem IsNor.uniq (h : IsNor a xa xb b) (h' : IsNor a xa xb b') : b = b' := by unfold IsNor at h h'; rw [Bool.eq_iff_iff, h, h']
theorem IsAbl.uniq (h : IsAbl a xa b) (h' : IsAbl a xa b') : b = b' := by unfold IsAbl at h h'; rw [Bool.eq_iff_iff, h, h']
theorem IsCtr.uniq (h : IsCtr a xa v) (h' : IsCtr a xa v') : v = v' := by
  rcases h with ⟨e, c, h, rfl⟩ | ⟨e, rfl⟩ <;> rcases h' with ⟨e', c', h', rfl⟩ | ⟨e', rfl⟩
  · rw [Crd.uniq h h']
  · exact absurd e e'
  · exact absurd e' e
  · rfl
theorem IsDer.uniq (h : IsDer a xa v) (h' : IsDer a xa v') : v = v' := by
  rcases h with ⟨e, c, h, rfl⟩ | ⟨e, rfl⟩ <;> rcases h' with ⟨e', c', h', rfl⟩ | ⟨e', rfl⟩
  · rw [Crd.uniq h h']
  · rw [e] at e'; cases e'
  · rw [e] at e'; cases e'
  · rfl
/-- The index by the orders. -/
theorem idx_ord {Va Vb : Nat} (hs : SubG a xa xb) (ha : Crd (Mb xa a.toNat) Va) (hb : Crd (Mb xb a.toNat) Vb) : ∃ k, Crd (fun p => Mb xb a.toNat p ∧ CMin a.toNat (Mb xa a.toNat) p p) k ∧ Vb = k * Va :=
  lagr (gB_sgp hs.2.1) (gB_sgp hs.1) (fun p hp => mb_le (gB_sgp hs.2.1) hs.2.2 hp) hb ha
end

/-! ### shapes -/
def CtImmI (F : Nat) (R : Int → List (List Int) → List (List Int) → Int → Prop) : Prop := ∀ (a : Int) (A : Option Addr) (n c : Nat) (vs : List SV) (xss : List (List Int)) (M : Option Addr) (m cm : Nat) (us : List SV) (yss : List (List Int)) (w : World), GIn w A n vs xss → GIn w M m us yss → I64 a →
  Calls Try.prog F #[.int .i64 a, .slice A n c, .slice M m cm] w fun e w' => ∃ v, e = .returned (.int .i64 v) ∧ R a xss yss v ∧ Below w.heap.size w w'
def CtImmM (F : Nat) (R : Int → List (List Int) → List (List Int) → List (List Int) → Prop) : Prop := ∀ (a : Int) (A : Option Addr) (n c : Nat) (vs : List SV) (xss : List (List Int)) (M : Option Addr) (m cm : Nat) (us : List SV) (yss : List (List Int)) (w : World), GIn w A n vs xss → GIn w M m us yss → I64 a →
  Calls Try.prog F #[.int .i64 a, .slice A n c, .slice M m cm] w fun e w' => ∃ A' m' c' us' l, e = .returned (.slice A' m' c') ∧ SS w' w.heap.size w.heap.size A' m' c' us' l ∧ R a xss yss l ∧ Below w.heap.size w w'
def CtImssB (F : Nat) (R : Int → List (List Int) → List Int → List Int → Bool → Prop) : Prop := ∀ (a : Int) (A : Option Addr) (n c : Nat) (vs : List SV) (xss : List (List Int)) (P : Option Addr) (np cp : Nat) (p : List Int) (Q : Option Addr) (nq cq : Nat) (q : List Int) (w : World), GIn w A n vs xss → SIn w P np cp p → SIn w Q nq cq q → I64 a →
  Calls Try.prog F #[.int .i64 a, .slice A n c, .slice P np cp, .slice Q nq cq] w fun e w' => ∃ v, e = .returned (.bool v) ∧ R a xss p q v ∧ Below w.heap.size w w'
def CtImsS (F : Nat) (R : Int → List (List Int) → List Int → List Int → Prop) : Prop := ∀ (a : Int) (A : Option Addr) (n c : Nat) (vs : List SV) (xss : List (List Int)) (P : Option Addr) (np cp : Nat) (p : List Int) (w : World), GIn w A n vs xss → SIn w P np cp p → I64 a →
  Calls Try.prog F #[.int .i64 a, .slice A n c, .slice P np cp] w fun e w' => ∃ A' m c' zs, e = .returned (.slice A' m c') ∧ Slc w' w.heap.size A' m c' zs ∧ R a xss p zs ∧ Below w.heap.size w w'
end Go.Proofs.Ytcjcmhoalomjfaa

/- The smallest member of a coset, entry by entry; the derived subgroup by a list of what waits. No Go in it. No condition. -/
namespace Go.Proofs.Ytcjcmhoalomjfaa
open Go.RowKit

section
variable {N k y i : Nat} {gs W C hs : List (List Int)} {c : Ch} {p m : List Int}
/-- m lies in the coset of p; its first k entries are as small as those before them allow. -/
def GrC (N : Nat) (gs : List (List Int)) (p m : List Int) (k : Nat) : Prop := Cos (Mb gs N) p m ∧ ∀ i, i < k → ∀ q, Cos (Mb gs N) p q → Ag i q m → nx m i ≤ nx q i
theorem GrC.zero (hg : ∀ g ∈ gs, Pn N g) (hp : Pn N p) : GrC N gs p p 0 := ⟨cos_refl (sgp_mb hg hp.pos.1 hp.pos.2) hp, fun i hi => absurd hi (by omega)⟩
theorem GrC.top (h : GrC N gs p m N) : CMin N (Mb gs N) p m := ⟨h.1, fun q hq ⟨t, ht, ha, hl⟩ => by have := h.2 t ht q hq ha; omega⟩
theorem GrC.pn (h : GrC N gs p m k) (hg : ∀ g ∈ gs, Pn N g) (hp : Pn N p) : Pn N m := h.1.pn (sgp_mb hg hp.pos.1 hp.pos.2) hp
theorem GrC.step (h : GrC N gs p m k) (hw : Whole N gs c) (hg : ∀ g ∈ gs, Pn N g) (hp : Pn N p) (hk : k < N) (hr : c.rep k y ≠ []) (hmin : ∀ y', y' < N → c.rep k y' ≠ [] → nx m y ≤ nx m y') : GrC N gs p (compL (c.rep k y) m) (k + 1) := by
  obtain ⟨h1, h2⟩ := hp.pos
  have hH := sgp_mb hg h1 h2
  have pm := h.pn hg hp
  obtain ⟨a1, a2, a3, a4⟩ := hw.rep_mb h1 h2 hk hr
  have pr := a1.pn hg h1 h2
  have hA : ∀ t, t < k → nx (compL (c.rep k y) m) t = nx m t := fun t ht => by rw [pr.nxc (by omega), a2 t ht]
  refine ⟨h.1.trans hH ⟨_, a1, rfl⟩, fun i hi q hq ha => ?_⟩
  rcases Nat.lt_or_ge i k with hl | hl
  · rw [hA i hl]
    exact h.2 i hl q hq fun t ht => (ha t ht).trans (hA t (by omega))
  · obtain rfl : i = k := by omega
    obtain ⟨g, gm, e⟩ := (h.1.symm hH hp).trans hH hq
    have pg := gm.pn hg h1 h2
    have hf : Fx i g := fun t ht => by
      have h3 := (ha t ht).trans (hA t ht)
      rw [e, pg.nxc (by omega)] at h3
      exact pm.inj (pg.lt (by omega)) (by omega) h3
    have h4 := hmin (nx g i) (pg.lt hk) ((hw.rep_iff h1 h2 hk).2 ⟨g, gm, hf, rfl⟩)
    rw [pr.nxc hk, a3, e, pg.nxc hk]
    exact h4

/-- What waits: the first i are in what hs generates; the conjugates of hs by the generators wait too. -/
structure Dv (N : Nat) (gs C W hs : List (List Int)) (i : Nat) : Prop where
  mem : ∀ s ∈ W, Drv N (Mb gs N) s
  sub : ∀ s ∈ hs, Drv N (Mb gs N) s
  done : ∀ t, t < i → Mb hs N (W.getD t [])
  conj : ∀ s ∈ hs, ∀ g ∈ gs, cj g s ∈ W
  ini : ∀ s ∈ C, s ∈ W
  len : W.length ≤ 64 + 8 * hs.length
  two : ∀ v, Crd (Mb hs N) v → 2 ^ hs.length ≤ v
theorem Dv.start (hC : ∀ s ∈ C, Drv N (Mb gs N) s) (hl : C.length ≤ 64) : Dv N gs C C [] 0 :=
  ⟨hC, fun s hs => (by cases hs), fun t ht => absurd ht (by omega), fun s hs => (by cases hs), fun s hs => hs, (by simpa using hl), fun v hv => by
    have := crd_sub (crd_one (idL N)) hv fun x hx => by subst hx; exact .one
    simpa using this⟩
theorem mb_more (hs' : ∀ s ∈ hs, s ∈ W) (h : Mb hs N p) : Mb W N p := by
  induction h with
  | one => exact .one
  | mul _ hm ih => exact .mul ih (hs' _ hm)
theorem Dv.skip (h : Dv N gs C W hs i) (hm : Mb hs N (W.getD i [])) : Dv N gs C W hs (i + 1) :=
  ⟨h.mem, h.sub, fun t ht => by
    rcases Nat.lt_or_ge t i with hl | hl
    · exact h.done t hl
    · obtain rfl : t = i := by omega
      exact hm, h.conj, h.ini, h.len, h.two⟩
theorem Dv.pn (h : Dv N gs C W hs i) (hg : ∀ g ∈ gs, Pn N g) (h1 : 1 ≤ N) (h2 : N ≤ 20) : ∀ s ∈ W, Pn N s := fun s hs' => (sgp_mb hg h1 h2).drv.pn s (h.mem s hs')
theorem Dv.pnh (h : Dv N gs C W hs i) (hg : ∀ g ∈ gs, Pn N g) (h1 : 1 ≤ N) (h2 : N ≤ 20) : ∀ s ∈ hs, Pn N s := fun s hs' => (sgp_mb hg h1 h2).drv.pn s (h.sub s hs')
theorem crd_mb (hg : ∀ g ∈ gs, Pn N g) (h1 : 1 ≤ N) (h2 : N ≤ 20) : ∃ V, Crd (Mb gs N) V ∧ 1 ≤ V ∧ V ≤ 2432902008176640000 := by
  classical
  have hx : IsOS N gs ((List.range N).map fun i => (((List.range N).filter fun y => decide (∃ p, Mb gs N p ∧ Fx i p ∧ nx p i = y)).length : Int)) := ⟨by simp, fun i hi => ⟨(List.range N).filter fun y => decide (∃ p, Mb gs N p ∧ Fx i p ∧ nx p i = y), List.nodup_range.filter _, fun y => by rw [List.mem_filter, List.mem_range, decide_eq_true_eq], by
    rw [List.getD_eq_getElem?_getD, List.getElem?_map, List.getElem?_range hi]; rfl⟩⟩
  obtain ⟨V, hV, e⟩ := hx.order hg h1 h2
  have hp := hx.pr_le hg h1 h2 0 N (by omega)
  have hf := facts_le h2 (0 + N) (by omega)
  rw [prodL_pr, hx.1] at e
  exact ⟨V, hV, by omega, by omega⟩
theorem Dv.add (h : Dv N gs C W hs i) (hg : ∀ g ∈ gs, Pn N g) (h1 : 1 ≤ N) (h2 : N ≤ 20) (hn : gs.length ≤ 8) (hi : i < W.length) (hp : W.getD i [] = p) (hm : ¬ Mb hs N p) : Dv N gs C (W ++ gs.map fun g => cj g p) (hs ++ [p]) (i + 1) := by
  have hG := sgp_mb hg h1 h2
  have hpW : p ∈ W := by rw [← hp, List.getD_eq_getElem?_getD, List.getElem?_eq_getElem hi]; exact List.getElem_mem _
  have hd := h.mem p hpW
  have pp := hG.drv.pn p hd
  have hh := h.pnh hg h1 h2
  have hh' : ∀ s ∈ hs ++ [p], Pn N s := fun s hs' => by
    rcases List.mem_append.1 hs' with hs' | hs'
    · exact hh s hs'
    · rw [List.mem_singleton.1 hs']; exact pp
  have hle : ∀ q, Mb hs N q → Mb (hs ++ [p]) N q := fun q hq => mb_more (fun s hs' => List.mem_append_left _ hs') hq
  have hpm : Mb (hs ++ [p]) N p := .of pp (by simp)
  refine ⟨fun s hs' => ?_, fun s hs' => ?_, fun t ht => ?_, fun s hs' g hgm => ?_, fun s hs' => List.mem_append_left _ (h.ini s hs'), ?_, fun v hv => ?_⟩
  · rcases List.mem_append.1 hs' with hs' | hs'
    · exact h.mem s hs'
    · obtain ⟨g, hgm, rfl⟩ := List.mem_map.1 hs'
      exact drv_nrm hG hd (.of (hg g hgm) hgm)
  · rcases List.mem_append.1 hs' with hs' | hs'
    · exact h.sub s hs'
    · rw [List.mem_singleton.1 hs']; exact hd
  · have e : (W ++ gs.map fun g => cj g p).getD t [] = W.getD t [] := by
      rw [List.getD_eq_getElem?_getD, List.getElem?_append_left (by omega), ← List.getD_eq_getElem?_getD]
    rw [e]
    rcases Nat.lt_or_ge t i with hl | hl
    · exact hle _ (h.done t hl)
    · obtain rfl : t = i := by omega
      rw [hp]; exact hpm
  · rcases List.mem_append.1 hs' with hs' | hs'
    · exact List.mem_append_left _ (h.conj s hs' g hgm)
    · rw [List.mem_singleton.1 hs']
      exact List.mem_append_right _ (List.mem_map.2 ⟨g, hgm, rfl⟩)
  · have := h.len
    rw [List.length_append, List.length_append, List.length_map]; simp; omega
  · obtain ⟨u, hu, _⟩ := crd_mb hh h1 h2
    have h3 := dbl (sgp_mb hh' h1 h2) (sgp_mb hh h1 h2) hle hv hu hpm hm
    have h4 := h.two u hu
    rw [List.length_append, List.length_singleton, Nat.pow_succ]
    omega
theorem Dv.few (h : Dv N gs C W hs i) (hg : ∀ g ∈ gs, Pn N g) (h1 : 1 ≤ N) (h2 : N ≤ 20) : hs.length ≤ 61 ∧ W.length ≤ 600 := by
  obtain ⟨u, hu, _, hu2⟩ := crd_mb (h.pnh hg h1 h2) h1 h2
  have h3 := h.two u hu
  have h4 : hs.length < 62 := (Nat.pow_lt_pow_iff_right (a := 2) (by omega)).1 (by
    have : (2 : Nat) ^ 62 = 4611686018427387904 := by decide
    omega)
  have := h.len
  exact ⟨by omega, by omega⟩
/-- At the end: the derived subgroup. -/
theorem Dv.fin (h : Dv N gs C W hs W.length) (hg : ∀ g ∈ gs, Pn N g) (h1 : 1 ≤ N) (h2 : N ≤ 20) (hC : ∀ p ∈ gs, ∀ q ∈ gs, cmt p q ∈ C ∨ cmt q p ∈ C ∨ p = q) : ∀ p, Mb hs N p ↔ Drv N (Mb gs N) p := fun p => by
  have hh := h.pnh hg h1 h2
  have all : ∀ s ∈ W, Mb hs N s := fun s hs' => by
    obtain ⟨t, ht, rfl⟩ := List.mem_iff_getElem.1 hs'
    have := h.done t ht
    rwa [List.getD_eq_getElem?_getD, List.getElem?_eq_getElem ht] at this
  refine drv_gens hg h1 h2 h.sub (fun s hs' g hgm => all _ (h.conj s hs' g hgm)) fun a ha b hb => ?_
  rcases hC a ha b hb with e | e | e
  · exact all _ (h.ini _ e)
  · have := (all _ (h.ini _ e)).inv hh h1 h2
    rwa [cmt_inv (hg b hb) (hg a ha)] at this
  · subst e
    rw [(cmt_one (hg a ha) (hg a ha)).2 rfl]
    exact .one
theorem cmt_cj {q : List Int} (hp : Pn N p) (hq : Pn N q) : compL (iv p) (cj q p) = cmt p q := by
  show compL (iv p) (compL (compL (iv q) p) q) = compL (compL (iv p) (iv q)) (compL p q)
  rw [hq.iv.assoc hp, hp.iv.assoc hq.iv]
theorem ctr_gens (hg : ∀ g ∈ gs, Pn N g) (h1 : 1 ≤ N) (h2 : N ≤ 20) : Ctr (Mb gs N) p ↔ Mb gs N p ∧ ∀ g ∈ gs, compL p g = compL g p := by
  constructor
  · exact fun h => ⟨h.1, fun g hgm => h.2 g (.of (hg g hgm) hgm)⟩
  · rintro ⟨hp, h⟩
    have pp := hp.pn hg h1 h2
    refine ⟨hp, fun q hq => ?_⟩
    induction hq with
    | one => rw [pp.idl, pp.idr]
    | mul hq' hm ih =>
      have pq := hq'.pn hg h1 h2
      have pg := hg _ hm
      rw [← pp.assoc pq, ih, pq.assoc pp, h _ hm, ← pq.assoc pg]
theorem abl_iff (hg : ∀ g ∈ gs, Pn N g) (h1 : 1 ≤ N) (h2 : N ≤ 20) : Abl (Mb gs N) ↔ ∀ p ∈ gs, ∀ q ∈ gs, compL p q = compL q p :=
  ⟨fun h p hp q hq => h p q (.of (hg p hp) hp) (.of (hg q hq) hq), abl_gens hg h1 h2⟩
theorem nrm_iff (hg : ∀ g ∈ gs, Pn N g) (hh : ∀ s ∈ hs, Pn N s) (h1 : 1 ≤ N) (h2 : N ≤ 20) : Nrm (Mb gs N) (Mb hs N) ↔ ∀ s ∈ hs, ∀ g ∈ gs, Mb hs N (cj g s) :=
  ⟨fun h s hs' g hgm => h s g (.of (hh s hs') hs') (.of (hg g hgm) hgm), nrm_gens hg hh h1 h2⟩
/-- How many of the first k are so. -/
def cnP (f : List Int → Bool) (l : List (List Int)) (k : Nat) : Nat := (l.take k).countP f
theorem cnP_succ {f : List Int → Bool} {l : List (List Int)} {k : Nat} {y : List Int} (hk : k < l.length) (ey : l.getD k [] = y) : cnP f l (k + 1) = cnP f l k + if f y = true then 1 else 0 := by
  rw [List.getD_eq_getElem?_getD, List.getElem?_eq_getElem hk] at ey
  have e' : l[k] = y := ey
  unfold cnP
  rw [List.take_succ_eq_append_getElem hk, List.countP_append, e']
  simp [List.countP_cons]
theorem cnP_le (f : List Int → Bool) (l : List (List Int)) (k : Nat) : cnP f l k ≤ l.length := Nat.le_trans List.countP_le_length (by rw [List.length_take]; omega)
theorem IsMbs.ctr {a : Int} {gs l : List (List Int)} {f : List Int → Bool} (h : IsMbs a gs l) (hf : Few a gs) (hc : ∀ p, Mb gs a.toNat p → (f p = true ↔ Ctr (Mb gs a.toNat) p)) : IsCtr a gs (cnP f l l.length : Nat) := by
  rcases h with ⟨_, hs, hm⟩ | ⟨hn, _⟩
  · refine .inl ⟨hf, _, ⟨l.filter f, (lx_nodup hs).filter _, fun p => ?_, ?_⟩, rfl⟩
    · rw [List.mem_filter, hm]
      exact ⟨fun ⟨a, b⟩ => (hc p a).1 b, fun h => ⟨h.1, (hc p h.1).2 h⟩⟩
    · unfold cnP; rw [List.take_length, List.countP_eq_length_filter]
  · exact absurd hf hn
end
end Go.Proofs.Ytcjcmhoalomjfaa

/- LongestMemberPrefix and StrongGeneratingSet of the model: what they answer. Conditions: at most 1048576 lists of at most 1048576 numbers. -/
namespace Go.Proofs.Ytcjcmhoalomjfaa
open Go.RowKit

section
variable (a : Int) (A : Option Addr) (n c : Nat) (vs : List SV) (xss : List (List Int)) (w : World)

/-! ### StrongGeneratingSet -/
end
/-- The prefix for level i and point y. -/
def preOf (pr : Nat × Nat) : List Int := idL pr.1 ++ [(pr.2 : Int)]
/-- The smallest members for a list of levels and points, where there are any. -/
def Sgs (N : Nat) (gs : List (List Int)) : List (Nat × Nat) → List (List Int) → Prop
  | [], l => l = []
  | pr :: ps, l => ∃ m ok rest, IsMwp N gs (preOf pr) m ok ∧ Sgs N gs ps rest ∧ l = (if ok = true then [m] else []) ++ rest
theorem Sgs.snoc {N : Nat} {gs : List (List Int)} {m : List Int} {ok : Bool} {pr : Nat × Nat} (hm : IsMwp N gs (preOf pr) m ok) : ∀ {ps : List (Nat × Nat)} {l : List (List Int)}, Sgs N gs ps l → Sgs N gs (ps ++ [pr]) (l ++ if ok = true then [m] else [])
  | [], l, h => by
    obtain rfl : l = [] := h
    exact ⟨m, ok, [], hm, rfl, by simp⟩
  | p :: ps, l, h => by
    obtain ⟨m', ok', rest, h1, h2, rfl⟩ := h
    exact ⟨m', ok', _, h1, h2.snoc hm, by rw [List.append_assoc]⟩
theorem Sgs.uniq {N : Nat} {gs : List (List Int)} (h1 : 1 ≤ N) (h2 : N ≤ 20) (hg : ∀ g ∈ gs, Pn N g) : ∀ {ps : List (Nat × Nat)} {l l' : List (List Int)}, (∀ pr ∈ ps, pr.1 < N) → Sgs N gs ps l → Sgs N gs ps l' → l = l'
  | [], l, l', _, h, h' => by rw [show l = [] from h, show l' = [] from h']
  | p :: ps, l, l', hp, h, h' => by
    obtain ⟨m, ok, rest, a1, a2, rfl⟩ := h
    obtain ⟨m', ok', rest', b1, b2, rfl⟩ := h'
    have hl : (preOf p).length ≤ N := by
      have := hp p (by simp)
      unfold preOf; rw [List.length_append, idL_length]; simp; omega
    obtain ⟨e1, e2⟩ := a1.uniq h1 h2 hg hl b1
    rw [e1, e2, Sgs.uniq h1 h2 hg (fun pr hpr => hp pr (by simp [hpr])) a2 b2]
theorem Sgs.ok {N : Nat} {gs : List (List Int)} (h1 : 1 ≤ N) (h2 : N ≤ 20) (hg : ∀ g ∈ gs, Pn N g) : ∀ {ps : List (Nat × Nat)} {l : List (List Int)}, Sgs N gs ps l → l.length ≤ ps.length ∧ ∀ y ∈ l, Mb gs N y ∧ y.length = N
  | [], l, h => by rw [show l = [] from h]; simp
  | p :: ps, l, h => by
    obtain ⟨m, ok, rest, a1, a2, rfl⟩ := h
    obtain ⟨b1, b2⟩ := a2.ok h1 h2 hg
    rcases a1 with ⟨rfl, a1⟩ | ⟨rfl, _, _⟩
    · refine ⟨by simp; omega, fun y hy => ?_⟩
      simp at hy
      rcases hy with rfl | hy
      · exact ⟨a1.1, (a1.1.pn hg h1 h2).2⟩
      · exact b2 y hy
    · refine ⟨by simp; omega, fun y hy => b2 y (by simpa using hy)⟩
/-- The levels below k, and the points behind each. -/
def prsI (N i m : Nat) : List (Nat × Nat) := (List.range m).map fun t => (i, i + 1 + t)
def prs (N : Nat) : Nat → List (Nat × Nat)
  | 0 => []
  | k + 1 => prs N k ++ prsI N k (N - (k + 1))
theorem prsI_succ (N i m : Nat) : prsI N i (m + 1) = prsI N i m ++ [(i, i + 1 + m)] := by simp [prsI, List.range_succ]
theorem prs_lt (N : Nat) : ∀ k, k ≤ N → ∀ pr ∈ prs N k, pr.1 < N
  | 0, _, pr, h => by simp [prs] at h
  | k + 1, hk, pr, h => by
    rcases List.mem_append.1 h with h | h
    · exact prs_lt N k (by omega) pr h
    · simp only [prsI, List.mem_map] at h
      obtain ⟨t, _, rfl⟩ := h
      exact hk
theorem prs_len (N : Nat) : ∀ k, (prs N k).length ≤ k * N
  | 0 => by simp [prs]
  | k + 1 => by
    have := prs_len N k
    simp only [prs, prsI, List.length_append, List.length_map, List.length_range, Nat.add_mul, Nat.one_mul]
    omega
/-- What StrongGeneratingSet answers. -/
def IsSgs (a : Int) (gs l : List (List Int)) : Prop := (gB a gs = true ∧ Sgs a.toNat gs (prs a.toNat a.toNat) l) ∨ (gB a gs = false ∧ l = [])
theorem IsSgs.uniq {a : Int} {gs l l' : List (List Int)} (h : IsSgs a gs l) (h' : IsSgs a gs l') : l = l' := by
  rcases h with ⟨e, h⟩ | ⟨e, rfl⟩ <;> rcases h' with ⟨e', h'⟩ | ⟨e', rfl⟩
  · obtain ⟨N, rfl, h1, hN, _, _, ok⟩ := gB_pm e
    rw [Int.toNat_natCast] at h h'
    exact h.uniq h1 hN ok (prs_lt N N (Nat.le_refl _)) h'
  · rw [e] at e'; cases e'
  · rw [e] at e'; cases e'
  · rfl
end Go.Proofs.Ytcjcmhoalomjfaa

/- StrongGeneratingSet of the model. Conditions: at most 1048576 lists of at most 1048576 numbers. -/
namespace Go.Proofs.Ytcjcmhoalomjfaa
open Go.RowKit

theorem ownsRow_mid {w w' : World} {base n size lo : Nat} {e : TypeId} {v : Value} {xs : List Value} (h : w.ownsRow base e size v n xs) (hm : ∀ k, lo ≤ k → k < w.heap.size → w'.heap[k]? = w.heap[k]?) (hl : lo ≤ base) : w'.ownsRow base e size v n xs := by
  refine ⟨h.1, ?_⟩
  rcases h.2 with h0 | ⟨g, cap, cur, e2, hb, hg, rest⟩
  · exact .inl h0
  · exact .inr ⟨g, cap, cur, e2, hb, by rw [hm g (by omega) (Array.getElem?_eq_some_iff.1 hg).1]; exact hg, rest⟩
/-- The chain lies where its blocks lie. -/
theorem Cn.mid {w w' : World} {base g N lo : Nat} {c : Ch} {L : LY} (h : Cn w base g N c L) (hm : ∀ k, lo ≤ k → k < w.heap.size → w'.heap[k]? = w.heap[k]?) (hl : lo ≤ base) : Cn w' base g N c L :=
  ⟨(hm g (Nat.le_trans hl h.hg) h.blk.lt).trans h.blk, h.hg, ownsRow_mid h.own1 hm hl, fun i hi => ownsRow_mid (h.row1 i hi) hm hl, h.len1, fun i hi y hy => (h.ent1 i hi y hy).mid hm hl,
    ownsRow_mid h.own2 hm hl, fun i hi => ownsRow_mid (h.row2 i hi) hm hl, h.len2, fun i hi y hy => (h.ent2 i hi y hy).mid hm hl, h.dRG, h.dro, h.drg, h.dgv⟩

end Go.Proofs.Ytcjcmhoalomjfaa

/- What StabilizerOrder answers; isPointSet and moveToFront of the model. Conditions: at most 20 points; lists of at most 1048576 numbers. -/
namespace Go.Proofs.Ytcjcmhoalomjfaa
open Go.RowKit

/-- A strictly increasing list of points. -/
def PtS (N : Nat) (pts : List Int) : Prop := pts.length ≤ N ∧ ∀ i, i < pts.length → 0 ≤ pts.getD i 0 ∧ pts.getD i 0 < N ∧ (0 < i → pts.getD (i - 1) 0 < pts.getD i 0)
/-- What StabilizerOrder answers: how many members fix the points. -/
def IsStb (a : Int) (gs : List (List Int)) (pts : List Int) (v : Int) : Prop :=
  (gB a gs = true ∧ PtS a.toNat pts ∧ ∃ c : Nat, Crd (fun p => Mb gs a.toNat p ∧ Fxs pts p) c ∧ v = (c : Int)) ∨ (¬ (gB a gs = true ∧ PtS a.toNat pts) ∧ v = 0)
theorem IsStb.uniq {a v v' : Int} {gs : List (List Int)} {pts : List Int} (h : IsStb a gs pts v) (h' : IsStb a gs pts v') : v = v' := by
  rcases h with ⟨e, f, c, hc, rfl⟩ | ⟨e, rfl⟩ <;> rcases h' with ⟨e', f', c', hc', rfl⟩ | ⟨e', rfl⟩
  · rw [hc.uniq hc']
  · exact absurd ⟨e, f⟩ e'
  · exact absurd ⟨e', f'⟩ e
  · rfl
section
variable {N : Nat} {pts : List Int}
theorem PtS.lt (h : PtS N pts) {i : Nat} : ∀ j, i < j → j < pts.length → pts.getD i 0 < pts.getD j 0
  | 0, hij, _ => absurd hij (Nat.not_lt_zero _)
  | j + 1, hij, hj => by
    have h1 := (h.2 (j + 1) hj).2.2 (Nat.succ_pos j)
    rw [Nat.add_sub_cancel] at h1
    by_cases e : i = j
    · rw [e]; exact h1
    · have := h.lt (i := i) j (by omega) (by omega)
      omega
theorem gdx {l : List Int} {i : Nat} (h : i < l.length) : l.getD i 0 = l[i] := by
  rw [List.getD_eq_getElem?_getD, List.getElem?_eq_getElem h]; rfl
theorem PtS.nodup (h : PtS N pts) : pts.Nodup := List.pairwise_iff_getElem.2 fun i j hi hj hij => by
  have := h.lt j hij hj
  rw [gdx hi, gdx hj] at this
  exact fun e => by rw [e] at this; omega
theorem PtS.mem (h : PtS N pts) {x : Int} (hx : x ∈ pts) : 0 ≤ x ∧ x < N := by
  obtain ⟨i, hi, rfl⟩ := List.mem_iff_getElem.1 hx
  have := h.2 i hi
  rw [gdx hi] at this
  exact ⟨this.1, this.2.1⟩
theorem hasB_mem {l : List Int} {x : Int} : hasB l x = true ↔ x ∈ l := by
  unfold hasB
  rw [decide_eq_true_eq, List.mem_iff_getElem]
  exact ⟨fun ⟨j, hj, e⟩ => ⟨j, hj, by rw [← gdx hj, e]⟩, fun ⟨j, hj, e⟩ => ⟨j, hj, by rw [gdx hj, e]⟩⟩
/-- The points in a new order: those of the list, then the others. -/
def mtf (pts : List Int) (k : Nat) : List Int := pts ++ ((List.range k).map Int.ofNat).filter fun x => !hasB pts x
theorem mtf_zero : mtf pts 0 = pts := by simp [mtf]
theorem mtf_yes {k : Nat} (h : hasB pts (k : Int) = true) : mtf pts (k + 1) = mtf pts k := by
  unfold mtf
  rw [List.range_succ, List.map_append, List.filter_append]
  simp [h]
theorem mtf_no {k : Nat} (h : hasB pts (k : Int) = false) : mtf pts (k + 1) = mtf pts k ++ [(k : Int)] := by
  unfold mtf
  rw [List.range_succ, List.map_append, List.filter_append]
  simp [h]
theorem mtf_le (k : Nat) : (mtf pts k).length ≤ pts.length + k := by
  unfold mtf
  rw [List.length_append]
  have := List.length_filter_le (fun x => !hasB pts x) ((List.range k).map Int.ofNat)
  simp at this ⊢; omega
theorem mtf_pre (k : Nat) {j : Nat} (hj : j < pts.length) : (mtf pts k).getD j 0 = pts.getD j 0 := getD_app _ _ _ _ hj
theorem PtS.mtf_mem (h : PtS N pts) (x : Int) : x ∈ mtf pts N ↔ 0 ≤ x ∧ x < N := by
  unfold mtf
  rw [List.mem_append, List.mem_filter, List.mem_map]
  constructor
  · rintro (hx | ⟨⟨i, hi, rfl⟩, _⟩)
    · exact h.mem hx
    · have := List.mem_range.1 hi
      exact ⟨Int.natCast_nonneg _, by show (i : Int) < N; omega⟩
  · rintro ⟨h0, h1⟩
    by_cases hx : x ∈ pts
    · exact .inl hx
    · refine .inr ⟨⟨x.toNat, List.mem_range.2 (by omega), by show ((x.toNat : Nat) : Int) = x; omega⟩, ?_⟩
      rw [Bool.not_eq_true', ← Bool.not_eq_true, hasB_mem]; exact hx
theorem PtS.mtf_nd (h : PtS N pts) : (mtf pts N).Nodup := by
  unfold mtf
  refine List.nodup_append.2 ⟨h.nodup, (nd_mapA List.nodup_range fun x _ y _ e => Int.ofNat.inj e).filter _, fun a ha b hb e => ?_⟩
  subst e
  have h2 := (List.mem_filter.1 hb).2
  rw [Bool.not_eq_true', ← Bool.not_eq_true, hasB_mem] at h2
  exact h2 ha
theorem PtS.mtf_pn (h : PtS N pts) (h1 : 1 ≤ N) (h2 : N ≤ 20) : Pn N (mtf pts N) := by
  have hr : ((List.range N).map Int.ofNat).Nodup := nd_mapA List.nodup_range fun x _ y _ e => Int.ofNat.inj e
  have hl : (mtf pts N).length = N := by
    have a := nd_subA (l := (List.range N).map Int.ofNat) h.mtf_nd fun x hx => by
      have := (h.mtf_mem x).1 hx
      exact List.mem_map.2 ⟨x.toNat, List.mem_range.2 (by omega), by show ((x.toNat : Nat) : Int) = x; omega⟩
    have b := nd_subA (l := mtf pts N) hr fun x hx => by
      obtain ⟨i, hi, rfl⟩ := List.mem_map.1 hx
      have := List.mem_range.1 hi
      exact (h.mtf_mem _).2 ⟨Int.natCast_nonneg _, by show (i : Int) < N; omega⟩
    simp at a b; omega
  have hm : ∀ i, i < (mtf pts N).length → 0 ≤ (mtf pts N).getD i 0 ∧ (mtf pts N).getD i 0 < N := fun i hi => by
    rw [gdx hi]; exact (h.mtf_mem _).1 (List.getElem_mem hi)
  refine ⟨⟨by omega, by omega, fun i hi => (hm i hi).1, fun i hi => by have := (hm i hi).2; omega, fun i j hi hj e => ?_⟩, hl⟩
  rw [gdx hi, gdx hj] at e
  have hp := List.pairwise_iff_getElem.1 h.mtf_nd
  rcases Nat.lt_trichotomy i j with hl | hl | hl
  · exact absurd e (hp i j hi hj hl)
  · exact hl
  · exact absurd e.symm (hp j i hj hi hl)
end

/-- append of nothing. -/
theorem wpList_app0 {w : World} {ops : Array Oper} {rest : List Oper} {o : Oper} {a : Act} {Q : Exit → Act → World → Prop} (hgd : o.guard = none) (s x : Operand)
    (ho : o.op = .call { callee := .builtin .append, args := #[s, x], argTypes := #[33, 33] })
    (b : Option Addr) (sl sc : Nat) (hle : sl ≤ sc) (hs : a.eval s = .slice b sl sc) (A : Option Addr) (c : Nat) (hx : a.eval x = .slice A 0 c)
    (h : wpList Try.prog ops Q rest (a.put o.dst (.slice b sl sc)) w) : wpList Try.prog ops Q (o :: rest) a w := by
  obtain ⟨i0, hi, hz0, hz1, hz2⟩ := info_parts infoI
  refine wpList_plain hgd fun _ hK => ?_
  have hr := run_append_nothing (P := Try.prog) w 33 33 o.type 2 i0 Try.underlying33 hi b sl sc hle (.slice A 0 c)
    ⟨.inl ⟨_, Try.underlying33⟩, fun w' => by cases A <;> rfl, by cases A <;> simp [Builtin.firstCells, loadCells, loadCellsFrom], by cases A <;> simp [Builtin.firstCells, loadCells, loadCellsFrom], by simp, fun u hu => by cases hu⟩
  unfold Oper.wp execOp
  simp only [ho, resolve, invoke, builtin, Sem.run_bind, Sem.run_pure, Result.andThen_ok, List.map_toArray, List.map_cons, List.map_nil, hs, hx, hr]
  exact hK _ _ h

/-- copyInts of whatever can be read. -/
theorem copyAny (A : Option Addr) (n c : Nat) (xs : List Int) (w : World) (h : RI w w.heap.size A xs) (lx : Hid (xs.length = n)) (hn : n ≤ 1000000) :
    Calls Try.prog 107 #[.slice A n c] w fun e w' => ∃ A' c', e = .returned (.slice A' n c') ∧ Slc w' w.heap.size A' n c' xs ∧ Below w.heap.size w w' := by
  by_cases h0 : 0 < n
  · obtain ⟨b, off, rfl, hb, hc⟩ := h (by rw [lx.out]; exact h0)
    exact copyRI b off n c xs w h lx.out hn
  · obtain rfl : n = 0 := by omega
    obtain rfl : xs = [] := List.length_eq_zero_iff.1 lx.out
    have H0 := Lib.hid (Slc.lit0 w w.heap.size (Nat.le_refl _))
    have B0 : Hid (Below w.heap.size w (w.alloc (.cells #[] 2))) := Lib.hid ((Below.refl _ w).alloc (Nat.le_refl _) _)
    clear h lx
    go_enter Try.func107, Try.ntmps107
    go_wp2_with (first | (at_builtin; refine wpList_app0 rfl _ _ rfl _ 0 0 (Nat.le_refl _) rfl A c rfl ?_))
    go_ret
    exact ⟨_, _, rfl, H0.out, B0.out⟩



end Go.Proofs.Ytcjcmhoalomjfaa

/- StabilizerOrder of the model. Conditions: at most 1048576 lists of at most 1048576 numbers. -/
namespace Go.Proofs.Ytcjcmhoalomjfaa
open Go.RowKit

theorem Whole.pr_le {N : Nat} {gs : List (List Int)} {c : Ch} (h : Whole N gs c) (h1 : 1 ≤ N) (k : Nat) : ∀ m, k + m ≤ N → 1 ≤ pr (osL N c N) k m ∧ pr (osL N c N) k m ≤ (facts N (k + m) : Int)
  | 0, hm => by
    have := facts_pos (N := N) (m := k) (by omega)
    exact ⟨Int.le_refl _, by show (1 : Int) ≤ (facts N (k + 0) : Int); rw [Nat.add_zero]; omega⟩
  | m + 1, hm => by
    obtain ⟨a, b⟩ := h.pr_le h1 k m (by omega)
    obtain ⟨d, e⟩ := h.nr_pos h1 (i := k + m) (by omega)
    have ex : pr (osL N c N) k (m + 1) = pr (osL N c N) k m * (nr N c (k + m) N : Int) := by
      show _ * (osL N c N).getD (k + m) 0 = _
      rw [osL_at (by omega)]
    rw [ex]
    refine ⟨?_, ?_⟩
    · have := Int.mul_le_mul a (show (1 : Int) ≤ (nr N c (k + m) N : Int) by omega) (by omega) (by omega)
      simpa using this
    · have := Int.mul_le_mul b (show (nr N c (k + m) N : Int) ≤ ((N - (k + m) : Nat) : Int) by omega) (by omega) (by omega)
      show _ ≤ ((facts N (k + m) * (N - (k + m)) : Nat) : Int)
      rw [Int.natCast_mul]; exact this
theorem take_cj {gs : List (List Int)} {o : List Int} {k : Nat} {y : List Int} (hk : k < gs.length) (ey : gs.getD k [] = y) : (gs.take (k + 1)).map (cj o) = (gs.take k).map (cj o) ++ [cj o y] := by
  rw [List.getD_eq_getElem?_getD, List.getElem?_eq_getElem hk] at ey
  have e' : gs[k] = y := ey
  rw [List.take_succ_eq_append_getElem hk, List.map_append, e']; rfl

/-- One slice more on a slice of slices of the call's own. -/
theorem SS.snocV {w w' : World} {base bi n c : Nat} {A : Option Addr} {vs : List SV} {xss : List (List Int)} {A' : Option Addr} {c' : Nat} {d : SV} {ys : List Int} (hss : SS w base bi A n c vs xss) (hys : Slc w bi d.1 d.2.1 d.2.2 ys)
    (hdis : ∀ i, i < n → (sval (vs.getD i sd0)).ownBlock = none ∨ (sval (vs.getD i sd0)).ownBlock ≠ (sval d).ownBlock) (hown : w'.ownsRow base 33 1 (.slice A' (n + 1) c') (n + 1) (vs.map sval ++ [sval d])) (hg : w.grownBy w' (Value.slice A n c).ownBlock) :
    SS w' base bi A' (n + 1) c' (vs ++ [d]) (xss ++ [ys]) := by
  refine ⟨?_, by simp [hss.lv], by simp [hss.lx], fun i hi' => ?_, fun i j hij hj => ?_⟩
  · rw [List.map_append]; exact hown
  · by_cases e : i < n
    · rw [getD_app _ _ _ _ (by rw [hss.lv]; exact e), getD_app _ _ _ _ (by rw [hss.lx]; exact e)]
      exact (hss.row i e).kept hg (apart_types (hss.row i e) hss.own)
    · obtain rfl : i = n := by omega
      rw [getD_snoc _ _ _ _ hss.lv.symm, getD_snoc _ _ _ _ hss.lx.symm]
      exact hys.kept hg (apart_types hys hss.own)
  · rw [getD_app _ _ _ i (by rw [hss.lv]; omega)]
    by_cases e : j < n
    · rw [getD_app _ _ _ j (by rw [hss.lv]; exact e)]; exact hss.dis i j hij e
    · obtain rfl : j = n := by omega
      rw [getD_snoc _ _ _ _ hss.lv.symm]
      exact hdis i hij
end Go.Proofs.Ytcjcmhoalomjfaa

/- What the functions of chapter 4 answer, and that the model's do. No condition. -/
namespace Go.Proofs.Ytcjcmhoalomjfaa
open Go.RowKit

def IsMem (a : Int) (gs : List (List Int)) (p : List Int) (b : Bool) : Prop := b = true ↔ Memb a gs p
def IsSam (a : Int) (xs ys : List (List Int)) (b : Bool) : Prop := b = true ↔ SameG a xs ys
theorem IsMem.uniq {a : Int} {gs : List (List Int)} {p : List Int} {b b' : Bool} (h : IsMem a gs p b) (h' : IsMem a gs p b') : b = b' := memb_uniq h h'
theorem IsSam.uniq {a : Int} {xs ys : List (List Int)} {b b' : Bool} (h : IsSam a xs ys b) (h' : IsSam a xs ys b') : b = b' := by
  unfold IsSam at h h'; rw [Bool.eq_iff_iff, h, h']
theorem boundSgs {a : Int} {gs l : List (List Int)} (h : IsSgs a gs l) : l.length ≤ 1048576 ∧ (∀ i, i < l.length → (l.getD i []).length ≤ 1048576) ∧ sumL l ≤ 1048576 := by
  rcases h with ⟨e, h⟩ | ⟨e, rfl⟩
  · obtain ⟨N, rfl, h1, hN, _, _, ok⟩ := gB_pm e
    rw [Int.toNat_natCast] at h
    obtain ⟨a1, a2⟩ := h.ok h1 hN ok
    have a3 := prs_len N N
    have a4 : N * N ≤ 20 * 20 := Nat.mul_le_mul hN hN
    exact bound_all (m := 400) (k := 20) (by omega) (fun y hy => by rw [(a2 y hy).2]; exact hN) (by omega)
  · exact bound_all (m := 0) (k := 0) (Nat.le_refl _) (fun y hy => by cases hy) (by omega)

theorem ctOrd : CtImI 38 IsOrd := fun a A n c vs xss w g ha => specGroupOrder a A n c vs xss w g.rr g.hn (Lib.hid g.hl) ha
end Go.Proofs.Ytcjcmhoalomjfaa

/- cosetMinimum and CosetMinimum of the model. Conditions: at most 1048576 lists of at most 1048576 numbers. -/
namespace Go.Proofs.Ytcjcmhoalomjfaa
open Go.RowKit

set_option maxHeartbeats 4000000 in
set_option maxRecDepth 100000 in
theorem specCosMin (base g N cp : Nat) (A : Option Addr) (c : Ch) (L : LY) (gs : List (List Int)) (p : List Int) (w : World) (hc : Cn w base g N c L) (hw : Whole N gs c) (hp : RI w w.heap.size A p) (hP : Hid (Pn N p)) (hN1 : 1 ≤ N) (hN : N ≤ 20) (hg : Hid (∀ g ∈ gs, Pn N g)) :
    Calls Try.prog 64 #[.pointer (some ⟨g, 0, none⟩), .slice A N cp] w fun e w' => ∃ A' c' m, e = .returned (.slice A' N c') ∧ Slc w' w.heap.size A' N c' m ∧ CMin N (Mb gs N) p m ∧ Below w.heap.size w w' := by
  have HC := Lib.hid hc
  have HW := Lib.hid hw
  have HP := Lib.hid hp
  clear hc hw hp
  go_enter Try.func64, Try.ntmps64
  go_wp2_with fail
  refine (copyAny A N cp p w HP.out (Lib.hid hP.out.2) (by omega)).mono ?_
  rintro e w1 ⟨A1, c1, rfl, s1, b1⟩
  have S1 := Lib.hid s1
  have B1 := Lib.hid b1
  clear s1 b1
  go_wp2_with fail
  go_loopw [5, 6] (fun v i wr => ∃ (k cc : Nat) (M : Option Addr) (m : List Int), k ≤ N ∧ i = .int .i64 (k : Nat) ∧ v = .slice M N cc ∧ Slc wr w.heap.size M N cc m ∧ GrC N gs p m k ∧ Below w.heap.size w wr) (fun _ i _ => N - (intOf i).toNat)
  case atStart => exact ⟨0, _, _, _, Nat.zero_le _, rfl, rfl, S1.out, .zero hg.out hP.out, B1.out⟩
  case round =>
    clear S1 B1
    obtain ⟨k, cc, M, m, hk, rfl, rfl, hs, hgr, bel⟩ := hrel
    have Ss := Lib.hid hs
    have Gr := Lib.hid hgr
    have Be := Lib.hid bel
    have C1 := Lib.hid (HC.out.up bel)
    have x0 := C1.out.c0
    have MP : Hid (Pn N m) := Lib.hid (hgr.pn hg.out hP.out)
    clear hs hgr bel
    by_cases hlt : k < N
    · go_wp2_with fail
      refine (specChoices base g N k cc M c L gs m wr C1.out HW.out Ss.out.ri_ MP hlt).mono ?_
      rintro e w2 ⟨g2, m2, c2, zs, rfl, s2, p2, o2, b2⟩
      have S2 := Lib.hid s2
      have P2 := Lib.hid p2
      have O2 := Lib.hid o2
      have Ss2 := Lib.hid (Ss.out.up b2)
      have C2 := Lib.hid (C1.out.up b2)
      have Be2 : Hid (Below w.heap.size w w2) := Lib.hid (btr Be.out b2)
      have hid0 : c.rep k k ≠ [] := by rw [(HW.out.up.rep k (Nat.zero_le _) hlt).one]; intro e; have := idL_length N; rw [e] at this; simp at this; omega
      have hid : (nx m k : Int) ∈ zs := P2.out.mem_iff.2 (chL_mem.2 ⟨k, hlt, hid0, rfl⟩)
      have hm2 : 0 < m2 := by
        rw [← s2.1]; exact List.length_pos_of_mem hid
      have hm3 : m2 ≤ 20 := by rw [← s2.1, p2.length_eq]; have := chL_len c k m N; omega
      obtain ⟨bz, oz, hzA, hzb, hzc⟩ := s2.ri_ (by rw [s2.1]; omega)
      have x5 := hzc 0 (by rw [s2.1]; omega)
      have ez : (some ⟨g2, 0, none⟩ : Option Addr) = some ⟨bz, oz, none⟩ := hzA
      injection ez with ez
      injection ez with e1 e2 _
      subst e1 e2
      obtain ⟨v0, ev0⟩ : ∃ v0, zs.getD 0 0 = v0 := ⟨_, rfl⟩
      rw [ev0] at x5
      have q0 : (0 : Int) < m2 := by omega
      have hin : v0 ∈ zs := by
        rw [← ev0, List.getD_eq_getElem?_getD, List.getElem?_eq_getElem (by rw [S2.out.1]; exact hm2)]
        exact List.getElem_mem _
      have hmin : ∀ u ∈ zs, v0 ≤ u := fun u hu => by
        obtain ⟨t, ht, e⟩ := List.mem_iff_getElem.1 hu
        have h0 := hm2
        rw [← S2.out.1] at h0
        rw [← ev0, List.getD_eq_getElem?_getD, List.getElem?_eq_getElem h0, ← e]
        show zs[0] ≤ zs[t]
        rcases Nat.eq_zero_or_pos t with rfl | hp
        · exact Int.le_refl _
        · exact (List.pairwise_iff_getElem.1 O2.out) 0 t h0 ht hp
      obtain ⟨y, hy, hr, hvy⟩ := chL_mem.1 (P2.out.mem_iff.1 hin)
      subst hvy
      have Gr2 : Hid (GrC N gs p (compL (c.rep k y) m) (k + 1)) := Lib.hid (Gr.out.step HW.out hg.out hP.out hlt hr fun y' hy' hr' => by
        have := hmin (nx m y' : Int) (P2.out.mem_iff.2 (chL_mem.2 ⟨y', hy', hr', rfl⟩))
        omega)
      have RP : Hid (Pn N (c.rep k y)) := Lib.hid ((HW.out.up.rep k (Nat.zero_le _) hlt).at_ y hr).2.1
      clear s2 p2 o2 b2 hzA hzb hzc ev0 hid hid0 x0 hin hmin hr
      go_wp2_with fail
      refine (specWithEntry base g N k (nx m y) y cc M c L m w2 C2.out Ss2.out.ri_ MP hlt hy (Lib.hid rfl) RP).mono ?_
      rintro e w3 ⟨A3, c3, rfl, s3, b3⟩
      have S3 : Hid (Slc w3 w.heap.size A3 N c3 (compL (c.rep k y) m)) := Lib.hid (s3.mono Be2.out.size)
      have Be3 : Hid (Below w.heap.size w w3) := Lib.hid (btr Be2.out b3)
      clear s3 b3
      go_wp2_with fail
      go_roundw
      case rel => exact ⟨k + 1, _, _, _, by omega, by go_num, rfl, S3.out, Gr2.out, Be3.out⟩
      case measure => simp [intOf]; omega
    · obtain rfl : k = N := by omega
      go_wp2_with fail
      go_ret
      exact ⟨_, _, m, rfl, Ss.out, Gr.out.top, Be.out⟩

set_option maxHeartbeats 4000000 in
set_option maxRecDepth 100000 in
theorem ctCmi : CtImsS 30 IsCmi := by
  intro a A n c vs xss P np cp p w g s ha
  have HX := Lib.hid g.rr
  have hlx : Hid (xss.length = n) := Lib.hid g.rr.lx
  have hn := g.hn
  have hl := Lib.hid g.hl
  have HP := Lib.hid s.ri
  have lp := Lib.hid s.lp
  have hnp := s.hn
  have hpc := s.hc
  clear g s
  go_enter Try.func30, Try.ntmps30
  go_wp2_with fail
  refine (specGS a A n c vs xss w HX.out hn hl ha).mono ?_
  rintro e w1 ⟨rfl, b1⟩
  have B1 := Lib.hid b1
  have hz1 := b1.size
  have S0 := Lib.hid (Slc.lit0 w1 w.heap.size hz1)
  clear b1
  rcases hs : gB a xss with _ | _
  · have Fin : Hid (IsCmi a xss p []) := Lib.hid (.inr ⟨fun h => (by have := h.1; rw [hs] at this; cases this), rfl⟩)
    clear hs
    go_wp2_with fail
    go_ret
    exact ⟨_, _, _, _, rfl, S0.out, Fin.out, B1.out.alloc hz1 _⟩
  · obtain ⟨N, rfl, hN1, hN2, hg8, hpm, hok⟩ := gB_pm hs
    have Hs := Lib.hid hs
    have Ok := Lib.hid hok
    have hn8 : n ≤ 8 := by rw [← hlx.out]; exact hg8
    clear hs hpm hok hg8 S0
    obtain ⟨ip, hip⟩ : ∃ ip, (decide (np = N) && isP p) = ip := ⟨_, rfl⟩
    have Hip := Lib.hid hip
    clear hip
    go_wp2_with fail
    refine (specIsPOf P np cp w1 N p ip (HP.out.up B1.out) lp (by omega) hpc Hip).mono ?_
    rintro e w2 ⟨rfl, b2⟩
    have B2 : Hid (Below w.heap.size w w2) := Lib.hid (btr B1.out b2)
    have hz2 := B2.out.size
    have S0 := Lib.hid (Slc.lit0 w2 w.heap.size hz2)
    clear b2
    rcases ip with _ | _
    · have Fin : Hid (IsCmi N xss p []) := Lib.hid (.inr ⟨fun h => (by
        have h1 := h.2.1
        have h3 := Hip.out
        rw [lp.out] at h1
        have h2 : np = N := by omega
        rw [h2, h.2.2] at h3; simp at h3), rfl⟩)
      go_wp2_with fail
      go_ret
      exact ⟨_, _, _, _, rfl, S0.out, Fin.out, B2.out.alloc hz2 _⟩
    · have h3 := Hip.out
      rw [Bool.and_eq_true, decide_eq_true_eq] at h3
      obtain ⟨rfl, hp1⟩ := h3
      have PP : Hid (Pn np p) := Lib.hid ⟨isP_iff.1 hp1, lp.out⟩
      have VP : Hid (Vld np xss p) := Lib.hid ⟨Hs.out, by rw [lp.out], hp1⟩
      clear hp1 S0
      go_wp2_with fail
      refine (specBuild np n c A vs xss w2 (HX.out.up B2.out) hN1 hN2 hn8 Ok).mono ?_
      rintro e w3 ⟨g, L, ch, rfl, hc, hw, b3⟩
      have W3 := Lib.hid hw
      have C3 := Lib.hid hc
      have B3 : Hid (Below w.heap.size w w3) := Lib.hid (btr B2.out b3)
      clear hc hw b3
      go_wp2_with fail
      refine (specCosMin w2.heap.size g np cp P ch L xss p w3 C3.out W3.out (HP.out.up B3.out) PP hN1 hN2 (Lib.hid Ok.out)).mono ?_
      rintro e w4 ⟨A4, c4, m4, rfl, s4, hm4, b4⟩
      have S4 := Lib.hid (s4.mono B3.out.size)
      have B4 : Hid (Below w.heap.size w w4) := Lib.hid (btr B3.out b4)
      have Fin : Hid (IsCmi np xss p m4) := Lib.hid (.inl ⟨VP.out, by rw [Int.toNat_natCast]; exact hm4⟩)
      clear s4 b4 hm4
      go_wp2_with fail
      go_ret
      exact ⟨_, _, _, _, rfl, S4.out, Fin.out, B4.out⟩
end Go.Proofs.Ytcjcmhoalomjfaa

/- How many members each choice of the model's chain has; the entries there are, of the model. Conditions: at most 20 points, 8 generators. -/
namespace Go.Proofs.Ytcjcmhoalomjfaa
open Go.RowKit

/-- What choicesAt answers, in the words of ranks. -/
theorem chL_ok {N i : Nat} {gs : List (List Int)} {c : Ch} {m : List Int} {zs : List Int} (hw : Whole N gs c) (h1 : 1 ≤ N) (h2 : N ≤ 20) (hg : ∀ g ∈ gs, Pn N g) (hi : i < N) (hm : Mb gs N m) (hp : zs.Perm (chL c i m N)) (ho : zs.Pairwise (· ≤ ·)) : ChL N gs m i zs := by
  have hmp := hm.pn hg h1 h2
  have hn : (chL c i m N).Nodup := nd_mapA (List.nodup_range.filter _) fun x hx y hy e => hmp.inj (List.mem_range.1 (List.mem_filter.1 hx).1) (List.mem_range.1 (List.mem_filter.1 hy).1) (by omega)
  have hz : zs.Nodup := hp.nodup_iff.2 hn
  refine ⟨List.Pairwise.imp (S := fun a b => a < b) (fun {a b} hab => by have := hab.1; have := hab.2; omega) (ho.and hz), fun v => ?_⟩
  rw [hp.mem_iff, hw.choice h1 h2 hg hi hm]
  exact Iff.rfl

end Go.Proofs.Ytcjcmhoalomjfaa

/- countBelow of the model: how many members precede a permutation. Conditions: at most 20 points, 8 generators. -/
namespace Go.Proofs.Ytcjcmhoalomjfaa
open Go.RowKit

theorem first_ge (zs : List Int) (v : Int) : ∃ K, K ≤ zs.length ∧ (∀ j, j < K → zs.getD j 0 < v) ∧ (K < zs.length → v ≤ zs.getD K 0) := by
  have h : ∀ n, n ≤ zs.length → (∀ j, j < n → zs.getD j 0 < v) ∨ ∃ K, K < n ∧ (∀ j, j < K → zs.getD j 0 < v) ∧ v ≤ zs.getD K 0 := fun n => by
    induction n with
    | zero => exact fun _ => .inl fun j h => absurd h (Nat.not_lt_zero _)
    | succ n ih =>
      intro hn
      rcases ih (by omega) with h | ⟨K, a, b, d⟩
      · by_cases e : zs.getD n 0 < v
        · exact .inl fun j hj => by
            by_cases e2 : j = n
            · subst e2; exact e
            · exact h j (by omega)
        · exact .inr ⟨n, by omega, h, by omega⟩
      · exact .inr ⟨K, by omega, b, d⟩
  rcases h zs.length (Nat.le_refl _) with h | ⟨K, a, b, d⟩
  · exact ⟨zs.length, Nat.le_refl _, h, fun h => absurd h (Nat.lt_irrefl _)⟩
  · exact ⟨K, by omega, b, fun _ => d⟩
/-- The order of a group of at most 20 points. -/
theorem IsOS.ordB {N : Nat} {gs : List (List Int)} {xs : List Int} (h : IsOS N gs xs) (hg : ∀ g ∈ gs, Pn N g) (h1 : 1 ≤ N) (h2 : N ≤ 20) : ∃ V, Crd (Mb gs N) V ∧ prodL xs = (V : Int) ∧ V ≤ 2432902008176640000 := by
  obtain ⟨V, hV, e⟩ := h.order hg h1 h2
  have := h.pr_le hg h1 h2 0 N (by omega)
  have hf := facts_le h2 (0 + N) (by omega)
  rw [prodL_pr, h.1] at e
  exact ⟨V, hV, by rw [prodL_pr, h.1]; exact e, by omega⟩

end Go.Proofs.Ytcjcmhoalomjfaa

/- IsSubgroup, SubgroupIndex and SameCoset of the model: what they answer. Conditions: at most 1048576 lists of at most 1048576 numbers. -/
namespace Go.Proofs.Ytcjcmhoalomjfaa
open Go.RowKit

set_option maxHeartbeats 2000000 in
set_option maxRecDepth 100000 in
theorem ctSub : CtImmB 21 IsSub := by
  intro a A n c vs xss M m cm us yss w g s ha
  have HX := Lib.hid g.rr
  have HY := Lib.hid s.rr
  have hlx : Hid (xss.length = n) := Lib.hid g.rr.lx
  have hly : Hid (yss.length = m) := Lib.hid s.rr.lx
  have hn := g.hn
  have hm := s.hn
  have hl := Lib.hid g.hl
  have hl2 := Lib.hid s.hl
  clear g s
  go_enter Try.func21, Try.ntmps21
  rcases hs : gB a xss with _ | _
  · have Fin : Hid (IsSub a xss yss false) := Lib.hid ⟨fun h => (by cases h), fun h => (by have := h.1; rw [hs] at this; cases this)⟩
    have Hs := Lib.hid hs
    clear hs
    go_wp2_with (first
      | (go_at_call 35; refine (specGS a A n c vs xss w HX.out hn hl ha).mono ?_; rintro e w1 ⟨rfl, b1⟩; rw [Hs.out]; have B1 := Lib.hid b1; clear b1))
    go_ret
    exact ⟨_, rfl, Fin.out, B1.out⟩
  · have Hs := Lib.hid hs
    rcases hs2 : gB a yss with _ | _
    · have Fin : Hid (IsSub a xss yss false) := Lib.hid ⟨fun h => (by cases h), fun h => (by have := h.2.1; rw [hs2] at this; cases this)⟩
      have Hs2 := Lib.hid hs2
      clear hs hs2
      go_wp2_with (first
        | (go_at_call_of 35 (Value.slice A n c); refine (specGS a A n c vs xss w HX.out hn hl ha).mono ?_; rintro e w1 ⟨rfl, b1⟩; rw [Hs.out]; have B1 := Lib.hid b1; clear b1)
        | (go_at_call_of 35 (Value.slice M m cm); refine (specGS a M m cm us yss w1 (HY.out.up B1.out) hm hl2 ha).mono ?_; rintro e w2 ⟨rfl, b2⟩; rw [Hs2.out]; have B2 := Lib.hid b2; clear b2))
      go_ret
      exact ⟨_, rfl, Fin.out, btr B1.out B2.out⟩
    · obtain ⟨N, rfl, hN1, hN2, hg8, hpm, hok⟩ := gB_pm hs
      obtain ⟨N', eN, _, _, hg8b, _, hok2⟩ := gB_pm hs2
      obtain rfl : N = N' := by omega
      have Hs2 := Lib.hid hs2
      have Ok := Lib.hid hok
      have Ok2 := Lib.hid hok2
      have hn8 : n ≤ 8 := by rw [← hlx.out]; exact hg8
      have hm8 : m ≤ 8 := by rw [← hly.out]; exact hg8b
      obtain ⟨ans, hans⟩ := bool_of (∀ x ∈ xss, Mb yss N x)
      have Ha := Lib.hid hans
      have Fin : Hid (IsSub N xss yss ans) := Lib.hid ⟨fun h => ⟨Hs.out, Hs2.out, by rw [Int.toNat_natCast]; exact Ha.out.1 h⟩, fun h => Ha.out.2 (by have := h.2.2; rwa [Int.toNat_natCast] at this)⟩
      clear hs hs2 hpm hok hok2 hg8 hg8b eN hans
      go_wp2_with (first
        | (go_at_call_of 35 (Value.slice A n c); refine (specGS N A n c vs xss w HX.out hn hl ha).mono ?_; rintro e w1 ⟨rfl, b1⟩; rw [Hs.out]; have B1 := Lib.hid b1; clear b1)
        | (go_at_call_of 35 (Value.slice M m cm); refine (specGS N M m cm us yss w1 (HY.out.up B1.out) hm hl2 ha).mono ?_; rintro e w2 ⟨rfl, b2⟩; rw [Hs2.out]; have B2 : Hid (Below w.heap.size w w2) := Lib.hid (btr B1.out b2); clear b2)
        | (go_at_call 62; refine (specBuild N m cm M us yss w2 (HY.out.up B2.out) hN1 hN2 hm8 Ok2).mono ?_; rintro e w3 ⟨g, L, ch, rfl, hc, hw, b3⟩; have W3 := Lib.hid hw; have C3 := Lib.hid hc; have B3 : Hid (Below w.heap.size w w3) := Lib.hid (btr B2.out b3); clear hc hw b3)
        | (go_at_call 61; refine (specHasAll w3 w2.heap.size g N n c A vs yss xss ch L C3.out W3.out (HX.out.up B3.out) Ok hN1 hn8 ans Ha).mono ?_; rintro e w4 ⟨rfl, b4⟩; have B4 : Hid (Below w.heap.size w w4) := Lib.hid (btr B3.out b4); clear b4))
      go_ret
      exact ⟨_, rfl, Fin.out, B4.out⟩

/-! ### what the orders tell of the index -/
section
variable {a va vb : Int} {xa xb : List (List Int)}
theorem ord_nat (h : IsOrd a xa va) (hs : gB a xa = true) : ∃ V : Nat, va = (V : Int) ∧ Crd (Mb xa a.toNat) V ∧ 1 ≤ V ∧ V ≤ 2432902008176640000 := by
  rcases h with ⟨_, xs, h, rfl⟩ | ⟨e, _⟩
  · obtain ⟨N, rfl, h1, h2, _, _, ok⟩ := gB_pm hs
    rw [Int.toNat_natCast] at h ⊢
    obtain ⟨V, hV, e, hb⟩ := h.ordB ok h1 h2
    have : 1 ≤ V := crd_sub (crd_one (idL N)) hV fun x hx => by subst hx; exact .one
    exact ⟨V, e, hV, this, hb⟩
  · rw [hs] at e; cases e
theorem ord_idx (hs : SubG a xa xb) (ha : IsOrd a xa va) (hb : IsOrd a xb vb) : ∃ Va Vb : Nat, va = (Va : Int) ∧ vb = (Vb : Int) ∧ 1 ≤ Va ∧ Vb ≤ 2432902008176640000 ∧ IsIdx a xa xb ((Vb / Va : Nat) : Int) := by
  obtain ⟨Va, e1, c1, l1, _⟩ := ord_nat ha hs.1
  obtain ⟨Vb, e2, c2, _, l2⟩ := ord_nat hb hs.2.1
  obtain ⟨k, hk, e⟩ := idx_ord hs c1 c2
  refine ⟨Va, Vb, e1, e2, l1, l2, .inl ⟨hs, k, hk, ?_⟩⟩
  rw [e, Nat.mul_div_cancel _ (by omega)]
end

set_option maxHeartbeats 2000000 in
set_option maxRecDepth 100000 in
theorem ctIdx : CtImmI 19 IsIdx := by
  intro a A n c vs xss M m cm us yss w g s ha
  have G := Lib.hid g
  have S := Lib.hid s
  clear g s
  go_enter Try.func19, Try.ntmps19
  go_wp2_with fail
  refine (ctSub a A n c vs xss M m cm us yss w G.out S.out ha).mono ?_
  rintro e w1 ⟨v, rfl, hv, b1⟩
  have B1 := Lib.hid b1
  clear b1
  rcases v with _ | _
  · have Fin : Hid (IsIdx a xss yss 0) := Lib.hid (.inr ⟨fun h => absurd (hv.2 h) (by decide), rfl⟩)
    clear hv
    go_wp2_with fail
    go_ret
    exact ⟨_, rfl, Fin.out, B1.out⟩
  · have Hs : Hid (SubG a xss yss) := Lib.hid (hv.1 rfl)
    clear hv
    go_wp2_with fail
    refine (ctOrd a M m cm us yss w1 (S.out.up B1.out) ha).mono ?_
    rintro e w2 ⟨vb, rfl, hb, b2⟩
    have Hb := Lib.hid hb
    have B2 : Hid (Below w.heap.size w w2) := Lib.hid (btr B1.out b2)
    clear hb b2
    go_wp2_with fail
    refine (ctOrd a A n c vs xss w2 (G.out.up B2.out) ha).mono ?_
    rintro e w3 ⟨va, rfl, ha', b3⟩
    have B3 : Hid (Below w.heap.size w w3) := Lib.hid (btr B2.out b3)
    obtain ⟨Va, Vb, rfl, rfl, l1, l2, hi⟩ := ord_idx Hs.out ha' Hb.out
    obtain ⟨k, ek⟩ : ∃ k, Vb / Va = k := ⟨_, rfl⟩
    have hk : k ≤ Vb := by rw [← ek]; exact Nat.div_le_self _ _
    have e1 : (Vb : Int).tdiv (Va : Int) = (k : Int) := by rw [← ek]; exact (Int.ofNat_tdiv Vb Va).symm
    have e2 : ((Va : Int) == 0) = false := by rw [beq_eq_false_iff_ne]; omega
    rw [ek] at hi
    have Fin := Lib.hid hi
    clear ha' b3 hi ek
    go_wp2_with fail
    go_ret
    exact ⟨_, rfl, Fin.out, B3.out⟩

set_option maxHeartbeats 4000000 in
set_option maxRecDepth 100000 in
theorem ctSco : CtImssB 29 IsSco := by
  intro a A n c vs xss P np cp p Q nq cq q w g s t ha
  have HX := Lib.hid g.rr
  have hlx : Hid (xss.length = n) := Lib.hid g.rr.lx
  have hn := g.hn
  have hl := Lib.hid g.hl
  have HP := Lib.hid s.ri
  have lp := Lib.hid s.lp
  have hnp := s.hn
  have hpc := s.hc
  have HQ := Lib.hid t.ri
  have lq := Lib.hid t.lp
  have hnq := t.hn
  have hqc := t.hc
  clear g s t
  go_enter Try.func29, Try.ntmps29
  go_wp2_with fail
  refine (specGS a A n c vs xss w HX.out hn hl ha).mono ?_
  rintro e w1 ⟨rfl, b1⟩
  have B1 := Lib.hid b1
  clear b1
  rcases hs : gB a xss with _ | _
  · have Fin : Hid (IsSco a xss p q false) := Lib.hid ⟨fun h => (by cases h), fun h => (by have := h.1.1; rw [hs] at this; cases this)⟩
    clear hs
    go_wp2_with fail
    go_ret
    exact ⟨_, rfl, Fin.out, B1.out⟩
  · obtain ⟨N, rfl, hN1, hN2, hg8, hpm, hok⟩ := gB_pm hs
    have Hs := Lib.hid hs
    have Ok := Lib.hid hok
    have hn8 : n ≤ 8 := by rw [← hlx.out]; exact hg8
    clear hs hpm hok hg8
    obtain ⟨ip, hip⟩ : ∃ ip, (decide (np = N) && isP p) = ip := ⟨_, rfl⟩
    have Hip := Lib.hid hip
    clear hip
    go_wp2_with fail
    refine (specIsPOf P np cp w1 N p ip (HP.out.up B1.out) lp (by omega) hpc Hip).mono ?_
    rintro e w2 ⟨rfl, b2⟩
    have B2 : Hid (Below w.heap.size w w2) := Lib.hid (btr B1.out b2)
    clear b2
    rcases ip with _ | _
    · have Fin : Hid (IsSco N xss p q false) := Lib.hid ⟨fun h => (by cases h), fun h => (by
        have h1 := h.1.2.1
        have h3 := Hip.out
        rw [lp.out] at h1
        have h2 : np = N := by omega
        rw [h2, h.1.2.2] at h3; simp at h3)⟩
      go_wp2_with fail
      go_ret
      exact ⟨_, rfl, Fin.out, B2.out⟩
    · have h3 := Hip.out
      rw [Bool.and_eq_true, decide_eq_true_eq] at h3
      obtain ⟨rfl, hp1⟩ := h3
      have PP : Hid (Pn np p) := Lib.hid ⟨isP_iff.1 hp1, lp.out⟩
      have VP : Hid (Vld np xss p) := Lib.hid ⟨Hs.out, by rw [lp.out], hp1⟩
      clear hp1
      obtain ⟨iq, hiq⟩ : ∃ iq, (decide (nq = np) && isP q) = iq := ⟨_, rfl⟩
      have Hiq := Lib.hid hiq
      clear hiq
      go_wp2_with fail
      refine (specIsPOf Q nq cq w2 np q iq (HQ.out.up B2.out) lq (by omega) hqc Hiq).mono ?_
      rintro e w3 ⟨rfl, b3⟩
      have B3 : Hid (Below w.heap.size w w3) := Lib.hid (btr B2.out b3)
      clear b3
      rcases iq with _ | _
      · have Fin : Hid (IsSco np xss p q false) := Lib.hid ⟨fun h => (by cases h), fun h => (by
          have h1 := h.2.1.2.1
          have h3 := Hiq.out
          rw [lq.out] at h1
          have h2 : nq = np := by omega
          rw [h2, h.2.1.2.2] at h3; simp at h3)⟩
        go_wp2_with fail
        go_ret
        exact ⟨_, rfl, Fin.out, B3.out⟩
      · have h3 := Hiq.out
        rw [Bool.and_eq_true, decide_eq_true_eq] at h3
        obtain ⟨rfl, hq1⟩ := h3
        have QQ : Hid (Pn nq q) := Lib.hid ⟨isP_iff.1 hq1, lq.out⟩
        have VQ : Hid (Vld nq xss q) := Lib.hid ⟨Hs.out, by rw [lq.out], hq1⟩
        clear hq1
        obtain ⟨ans, hans⟩ := bool_of (Mb xss nq (compL q (iv p)))
        have Ha := Lib.hid hans
        have Fin : Hid (IsSco nq xss p q ans) := Lib.hid ⟨fun h => ⟨VP.out, VQ.out, by
          rw [Int.toNat_natCast]; exact (cos_iff (sgp_mb Ok.out hN1 hN2) PP.out QQ.out).2 (Ha.out.1 h)⟩, fun h => Ha.out.2 (by
          have h4 := h.2.2
          rw [Int.toNat_natCast] at h4
          exact (cos_iff (sgp_mb Ok.out hN1 hN2) PP.out QQ.out).1 h4)⟩
        have e0 : Hid (invL p nq = iv p) := Lib.hid (by unfold iv; rw [lp.out])
        clear hans
        go_wp2_with fail
        refine (specBuild nq n c A vs xss w3 (HX.out.up B3.out) hN1 hN2 hn8 Ok).mono ?_
        rintro e w4 ⟨g, L, ch, rfl, hc, hw, b4⟩
        have W4 := Lib.hid hw
        have C4 := Lib.hid hc
        have B4 : Hid (Below w.heap.size w w4) := Lib.hid (btr B3.out b4)
        clear hc hw b4
        go_wp2_with fail
        refine (specInv P cp nq p w4 (HP.out.up B4.out) lp (Lib.hid PP.out.1) hN2).mono ?_
        rintro e w5 ⟨A5, c5, rfl, s5, b5⟩
        rw [e0.out] at s5
        have S5 := Lib.hid s5
        have C5 := Lib.hid (C4.out.up b5)
        have B5 : Hid (Below w.heap.size w w5) := Lib.hid (btr B4.out b5)
        clear s5 b5
        go_wp2_with fail
        refine (specComp Q A5 cq c5 nq q (iv p) w5 (HQ.out.up B5.out) S5.out.ri_ lq (Lib.hid PP.out.iv.2) (Lib.hid QQ.out.1) hN2).mono ?_
        rintro e w6 ⟨A6, c6, rfl, s6, b6⟩
        have S6 := Lib.hid s6
        have C6 := Lib.hid (C5.out.up b6)
        have B6 : Hid (Below w.heap.size w w6) := Lib.hid (btr B5.out b6)
        clear s6 b6
        go_wp2_with fail
        refine (specHas w3.heap.size g nq c6 A6 ch L xss (compL q (iv p)) w6 C6.out W4.out S6.out.ri_ (Lib.hid (QQ.out.comp PP.out.iv)) ans Ha).mono ?_
        rintro e w7 ⟨rfl, b7⟩
        have B7 : Hid (Below w.heap.size w w7) := Lib.hid (btr B6.out b7)
        clear b7
        go_wp2_with fail
        go_ret
        exact ⟨_, rfl, Fin.out, B7.out⟩
end Go.Proofs.Ytcjcmhoalomjfaa

/- IsNormalSubgroup of the model. Conditions: at most 1048576 lists of at most 1048576 numbers. -/
namespace Go.Proofs.Ytcjcmhoalomjfaa
open Go.RowKit

theorem inv_iv {N : Nat} {q : List Int} (h : Pn N q) : invL q N = iv q := by unfold iv; rw [h.2]

set_option maxHeartbeats 8000000 in
set_option maxRecDepth 100000 in
/-- IsNormalSubgroup. -/
theorem ctNor : CtImmB 34 IsNor := by
  intro a A n c vs xss M m cm us yss w g s ha
  have G := Lib.hid g
  have S := Lib.hid s
  have HX := Lib.hid g.rr
  have HY := Lib.hid s.rr
  have hlx : Hid (xss.length = n) := Lib.hid g.rr.lx
  have hly : Hid (yss.length = m) := Lib.hid s.rr.lx
  clear g s
  go_enter Try.func34, Try.ntmps34
  go_wp2_with fail
  refine (ctSub a A n c vs xss M m cm us yss w G.out S.out ha).mono ?_
  rintro e w1 ⟨v, rfl, hv, b1⟩
  have B1 := Lib.hid b1
  clear b1
  rcases v with _ | _
  · have Fin : Hid (IsNor a xss yss false) := Lib.hid ⟨fun h => (by cases h), fun h => absurd (hv.2 h.1) (by decide)⟩
    clear hv
    go_wp2_with fail
    go_ret
    exact ⟨_, rfl, Fin.out, B1.out⟩
  · have Hs : Hid (SubG a xss yss) := Lib.hid (hv.1 rfl)
    clear hv
    obtain ⟨N, rfl, hN1, hN2, hg8, hpm, hok⟩ := gB_pm Hs.out.1
    obtain ⟨N', eN, _, _, hg8b, _, hok2⟩ := gB_pm Hs.out.2.1
    obtain rfl : N = N' := by omega
    have Ok : Hid (∀ g ∈ xss, Pn N g) := Lib.hid hok
    have Ok2 : Hid (∀ g ∈ yss, Pn N g) := Lib.hid hok2
    have hn8 : n ≤ 8 := by rw [← hlx.out]; exact hg8
    have hm8 : m ≤ 8 := by rw [← hly.out]; exact hg8b
    have Nri := Lib.hid (nrm_iff Ok2.out Ok.out hN1 hN2)
    clear hpm hok hok2 hg8 hg8b eN G S
    go_wp2_with fail
    refine (specBuild N n c A vs xss w1 (HX.out.up B1.out) hN1 hN2 hn8 Ok).mono ?_
    rintro e w3 ⟨g, L, ch, rfl, hc, hw, b3⟩
    have W3 := Lib.hid hw
    have C3 := Lib.hid hc
    have B3 : Hid (Below w.heap.size w w3) := Lib.hid (btr B1.out b3)
    have X3 := Lib.hid (HX.out.up B3.out)
    have Y3 := Lib.hid (HY.out.up B3.out)
    clear hc hw b3
    clear HX HY B1
    go_wp2_with fail
    go_loopg [8] n (fun gg iv wr => ∃ i : Nat, i ≤ n ∧ n - i ≤ gg ∧ iv = .int .i64 (i : Nat) ∧ (∀ s ∈ xss.take i, ∀ q ∈ yss, Mb xss N (cj q s)) ∧ Below w3.heap.size w3 wr)
    case atStart => exact ⟨0, Nat.zero_le _, by omega, rfl, fun x hx => by simp at hx, Below.refl _ _⟩
    case round =>
      obtain ⟨i, hi, hgg, rfl, hall, bel⟩ := hrel
      have Al := Lib.hid hall
      have Be := Lib.hid bel
      clear hall bel
      by_cases hlt : i < n
      · obtain ⟨bx, ox, A5, l, c5, p, rfl, hbx, hv, ep, x1, rp, lp, hl5⟩ := X3.out.at_ hlt
        have hpm : p ∈ xss := by rw [← ep]; exact getD_memL (by rw [hlx.out]; exact hlt)
        have hpP := Ok.out p hpm
        obtain rfl : l = N := by have := hpP.2; omega
        have Rp := Lib.hid rp
        have PP := Lib.hid hpP
        have Pm_ := Lib.hid hpm
        have Ep := Lib.hid ep
        have Hbx := Lib.hid hbx
        have X1 := Lib.hid x1
        have q0 : (0 : Int) ≤ i := by omega
        have q1 : (i : Int) < n := by omega
        have x1 := (Be.out.cell (p := ⟨bx, ox + i, none⟩) Hbx.out).trans X1.out
        clear hv ep hbx rp hpP hpm
        go_wp2_with fail
        go_loopg [9] m (fun gg kv wr => ∃ k : Nat, k ≤ m ∧ m - k ≤ gg ∧ kv = .int .i64 (k : Nat) ∧ (∀ q ∈ yss.take k, Mb xss l (cj q p)) ∧ Below w3.heap.size w3 wr)
        case atStart => exact ⟨0, Nat.zero_le _, by omega, rfl, fun x hx => by simp at hx, Be.out⟩
        case round =>
          clear x1 Be
          obtain ⟨k, hk, hg2, rfl, hal2, bel⟩ := hrel
          have Al2 := Lib.hid hal2
          have Be := Lib.hid bel
          have Cj := Lib.hid (C3.out.up bel)
          clear hal2 bel
          by_cases hkt : k < m
          · obtain ⟨by_, oy, A6, l2, c6, q, rfl, hby, hv, eq_, y1, rq, lq, hl6⟩ := Y3.out.at_ hkt
            have hqm : q ∈ yss := by rw [← eq_]; exact getD_memL (by rw [hly.out]; exact hkt)
            have hqP := Ok2.out q hqm
            obtain rfl : l2 = l := by have := hqP.2; omega
            have QQ := Lib.hid hqP
            have Qm := Lib.hid hqm
            have Eq := Lib.hid eq_
            have Rq2 := Lib.hid (rq.up Be.out)
            have Rp2 := Lib.hid (Rp.out.up Be.out)
            have y2 := (Be.out.cell (p := ⟨by_, oy + k, none⟩) hby).trans y1
            have x2 := (Be.out.cell (p := ⟨bx, ox + i, none⟩) Hbx.out).trans X1.out
            have hbxw : bx < wr.heap.size := Nat.lt_of_lt_of_le Hbx.out Be.out.size
            have hbyw : by_ < wr.heap.size := Nat.lt_of_lt_of_le hby Be.out.size
            have r0 : (0 : Int) ≤ k := by omega
            have r1 : (k : Int) < m := by omega
            have CP : Hid (Pn l2 (cj q p)) := Lib.hid ((QQ.out.iv.comp PP.out).comp QQ.out)
            obtain ⟨ans, hans⟩ := bool_of (Mb xss l2 (cj q p))
            have Ha := Lib.hid hans
            clear hv eq_ hby rq hqP hqm hans y1
            go_wp2_with fail
            go_region_held3 (fun w' => w'.cell? ⟨bx, ox + i, none⟩ = some (.slice A5 l2 c5) ∧ w'.cell? ⟨by_, oy + k, none⟩ = some (.slice A6 l2 c6))
              (first | exact ⟨x2, y2⟩ | exact hS1 | exact hS2 | exact hS3 | exact hS4 | go_keep)
              (first
                | (go_at_call 77; refine (specHas w1.heap.size g l2 c9 A9 ch L xss (cj q p) w7 ?_ ?_ ?_ ?_ ans Ha).mono ?_; (exact Cj.out.up b7); (exact W3.out); (exact s9.ri_); (exact CP); rintro e w8 ⟨rfl, b8'⟩
                   have b8 : Below wr.heap.size wr w8 := btr b7 b8'
                   have hS4 := And.intro ((b8.cell (p := ⟨bx, ox + i, none⟩) hbxw).trans x2) ((b8.cell (p := ⟨by_, oy + k, none⟩) hbyw).trans y2))
                | (go_at_call 65; refine (specComp A8 (A6) c8 c6 l2 (compL (iv q) p) q w6 ?_ ?_ ?_ ?_ ?_ hN2).mono ?_; (exact s8.ri_); (exact Rq2.out.up b6); (exact s8.hid); (exact Lib.hid QQ.out.2); (exact Lib.hid (QQ.out.iv.comp PP.out).1); rintro e w7 ⟨A9, c9, rfl, s9, b7'⟩
                   have b7 : Below wr.heap.size wr w7 := btr b6 b7'
                   have hS3 := And.intro ((b7.cell (p := ⟨bx, ox + i, none⟩) hbxw).trans x2) ((b7.cell (p := ⟨by_, oy + k, none⟩) hbyw).trans y2))
                | (go_at_call 65; refine (specComp A7 (A5) c7 c5 l2 (iv q) p w5 ?_ ?_ ?_ ?_ ?_ hN2).mono ?_; (exact s7.ri_); (exact Rp2.out.up b5); (exact s7.hid); (exact Lib.hid PP.out.2); (exact Lib.hid QQ.out.iv.1); rintro e w6 ⟨A8, c8, rfl, s8, b6'⟩
                   have b6 : Below wr.heap.size wr w6 := btr b5 b6'
                   have hS2 := And.intro ((b6.cell (p := ⟨bx, ox + i, none⟩) hbxw).trans x2) ((b6.cell (p := ⟨by_, oy + k, none⟩) hbyw).trans y2))
                | (go_at_call 78; refine (specInv A6 c6 l2 q _ ?_ ?_ ?_ hN2).mono ?_; (exact Rq2.out); (exact Lib.hid QQ.out.2); (exact Lib.hid QQ.out.1); rintro e w5 ⟨A7, c7, rfl, s7, b5'⟩
                   rw [inv_iv QQ.out] at s7
                   have b5 : Below wr.heap.size wr w5 := ⟨b5'.os, b5'.tape, b5'.output, b5'.size, b5'.block⟩
                   have hS1 := And.intro ((b5.cell (p := ⟨bx, ox + i, none⟩) hbxw).trans x2) ((b5.cell (p := ⟨by_, oy + k, none⟩) hbyw).trans y2)))
            have B8 : Hid (Below w3.heap.size w3 w8) := Lib.hid (btr Be.out b8)
            clear b5 b6 b7 b8 hS1 hS2 hS3 hS4 s7 s8 s9 x2 y2
            rcases ans with _ | _
            · have Fin : Hid (IsNor l2 xss yss false) := Lib.hid ⟨fun h => (by cases h), fun h => (by
                have h3 := h.2
                rw [Int.toNat_natCast] at h3
                exact absurd (Ha.out.2 (Nri.out.1 h3 p Pm_.out q Qm.out)) (by decide))⟩
              have B9 : Hid (Below w.heap.size w w8) := Lib.hid (btr B3.out B8.out)
              go_wp2_with fail
              go_ret
              exact ⟨_, rfl, Fin.out, B9.out⟩
            · have Al3 : Hid (∀ x ∈ yss.take (k + 1), Mb xss l2 (cj x p)) := Lib.hid fun x hx => by
                rw [List.take_succ_eq_append_getElem (by rw [hly.out]; exact hkt)] at hx
                rcases List.mem_append.1 hx with hx | hx
                · exact Al2.out x hx
                · have e1 : yss[k]'(by rw [hly.out]; exact hkt) = q := by rw [← Eq.out, List.getD_eq_getElem?_getD, List.getElem?_eq_getElem (by rw [hly.out]; exact hkt)]; rfl
                  rw [List.mem_singleton.1 hx, e1]; exact Ha.out.1 rfl
              go_wp2_with fail
              go_roundg (m - (k + 1))
              case rel => exact ⟨k + 1, by omega, by omega, by go_num, Al3.out, B8.out⟩
              case measure => omega
          · obtain rfl : k = m := by omega
            have Al3 : Hid (∀ s ∈ xss.take (i + 1), ∀ q ∈ yss, Mb xss l (cj q s)) := Lib.hid fun x hx q hq => by
              rw [List.take_succ_eq_append_getElem (by rw [hlx.out]; exact hlt)] at hx
              rcases List.mem_append.1 hx with hx | hx
              · exact Al.out x hx q hq
              · have e1 : xss[i]'(by rw [hlx.out]; exact hlt) = p := by rw [← Ep.out, List.getD_eq_getElem?_getD, List.getElem?_eq_getElem (by rw [hlx.out]; exact hlt)]; rfl
                rw [List.mem_singleton.1 hx, e1]
                exact Al2.out q (by rw [List.take_of_length_le (by rw [hly.out]; exact Nat.le_refl _)]; exact hq)
            go_wp2_with fail
            go_roundg (n - (i + 1))
            case rel => exact ⟨i + 1, by omega, by omega, by go_num, Al3.out, Be.out⟩
            case measure => omega
      · obtain rfl : i = n := by omega
        have Fin : Hid (IsNor N xss yss true) := Lib.hid ⟨fun _ => ⟨Hs.out, by
          rw [Int.toNat_natCast]
          exact Nri.out.2 fun s hs => Al.out s (by rw [List.take_of_length_le (by rw [hlx.out]; exact Nat.le_refl _)]; exact hs)⟩, fun _ => rfl⟩
        have B9 : Hid (Below w.heap.size w wr) := Lib.hid (btr B3.out Be.out)
        go_wp2_with fail
        go_ret
        exact ⟨_, rfl, Fin.out, B9.out⟩
end Go.Proofs.Ytcjcmhoalomjfaa

/- MemberAt, Rank, NextMember, CountMembersBelow and FirstNonIdentity of the model. Conditions: at most 1048576 lists of at most 1048576 numbers. -/
namespace Go.Proofs.Ytcjcmhoalomjfaa
open Go.RowKit

theorem sorted_lo {zs : List Int} (h : zs.Pairwise (· < ·)) {i j : Nat} (hij : i < j) (hj : j < zs.length) : zs.getD i 0 < zs.getD j 0 := by
  have := List.pairwise_iff_getElem.1 h i j (by omega) hj hij
  rw [gdx' (by omega), gdx' hj]; exact this

end Go.Proofs.Ytcjcmhoalomjfaa

/- All members, level by level, and Members of the model. Conditions: at most 1048576 lists of at most 1048576 numbers. -/
namespace Go.Proofs.Ytcjcmhoalomjfaa
open Go.RowKit

/-! ### levels -/
/-- One member for each way to begin with i entries, in order. -/
structure Lv (N : Nat) (gs : List (List Int)) (i : Nat) (l : List (List Int)) : Prop where
  srt : l.Pairwise (LxI i)
  mem : ∀ m ∈ l, Mb gs N m
  all : ∀ q, Mb gs N q → ∃ m ∈ l, Ag i q m
/-- What is there of the next level behind the first k of this one and the first j entries zs that the next one of it allows. -/
structure Pj (N : Nat) (gs : List (List Int)) (i : Nat) (l : List (List Int)) (k : Nat) (zs : List Int) (j : Nat) (L : List (List Int)) : Prop where
  srt : L.Pairwise (LxI (i + 1))
  mem : ∀ x ∈ L, Mb gs N x ∧ ((∃ t, t < k ∧ Ag i x (l.getD t [])) ∨ (Ag i x (l.getD k []) ∧ ∃ u, u < j ∧ (nx x i : Int) = zs.getD u 0))
  all : ∀ t, t < k → ∀ q, Mb gs N q → Ag i q (l.getD t []) → ∃ x ∈ L, Ag (i + 1) q x
  now : ∀ u, u < j → ∀ q, Mb gs N q → Ag i q (l.getD k []) → (nx q i : Int) = zs.getD u 0 → ∃ x ∈ L, Ag (i + 1) q x
section
variable {N i k j : Nat} {gs l L : List (List Int)} {zs : List Int} {x : List Int}
theorem Lv.zero : Lv N gs 0 [idL N] := ⟨List.pairwise_singleton _ _, fun m hm => by rw [List.mem_singleton.1 hm]; exact .one, fun q _ => ⟨idL N, by simp, fun t ht => absurd ht (Nat.not_lt_zero _)⟩⟩
theorem Lv.lt (h : Lv N gs i l) {a b : Nat} (hab : a < b) (hb : b < l.length) : LxI i (l.getD a []) (l.getD b []) := by
  have := List.pairwise_iff_getElem.1 h.srt a b (by omega) hb hab
  rw [List.getD_eq_getElem?_getD, List.getD_eq_getElem?_getD, List.getElem?_eq_getElem hb, List.getElem?_eq_getElem (by omega)]; exact this
theorem Pj.zero : Pj N gs i l 0 zs 0 [] := ⟨.nil, fun x hx => (by cases hx), fun t ht => absurd ht (Nat.not_lt_zero _), fun u hu => absurd hu (Nat.not_lt_zero _)⟩
/-- The next entry's member. -/
theorem Pj.snoc (h : Pj N gs i l k zs j L) (hl : Lv N gs i l) (hk : k < l.length) (hz : zs.Pairwise (· < ·)) (hj : j < zs.length) (hx : Mb gs N x) (ha : Ag i x (l.getD k [])) (hv : (nx x i : Int) = zs.getD j 0) : Pj N gs i l k zs (j + 1) (L ++ [x]) := by
  refine ⟨List.pairwise_append.2 ⟨h.srt, List.pairwise_singleton _ _, fun y hy z hz' => ?_⟩, fun y hy => ?_, fun t ht q hq hqa => ?_, fun u hu q hq hqa hqv => ?_⟩
  · obtain rfl := List.mem_singleton.1 hz'
    rcases (h.mem y hy).2 with ⟨t, ht, ya⟩ | ⟨ya, u, hu, yv⟩
    · have h1 := hl.lt ht hk
      exact lxi_succ.2 (.inl ((lxi_ag ha).2 (by
        obtain ⟨s, hs, a, b⟩ := h1
        exact ⟨s, hs, (ya.mono (by omega)).trans a, by rw [ya s hs]; exact b⟩)))
    · refine lxi_succ.2 (.inr ⟨ya.trans ha.symm, ?_⟩)
      have := sorted_lo hz hu hj
      omega
  · rcases List.mem_append.1 hy with hy | hy
    · obtain ⟨a, b⟩ := h.mem y hy
      refine ⟨a, b.imp id fun ⟨c, u, hu, e⟩ => ⟨c, u, by omega, e⟩⟩
    · obtain rfl := List.mem_singleton.1 hy
      exact ⟨hx, .inr ⟨ha, j, by omega, hv⟩⟩
  · obtain ⟨y, hy, e⟩ := h.all t ht q hq hqa
    exact ⟨y, List.mem_append_left _ hy, e⟩
  · by_cases e : u = j
    · subst e
      exact ⟨x, by simp, ag_succ.2 ⟨hqa.trans ha.symm, by omega⟩⟩
    · obtain ⟨y, hy, e⟩ := h.now u (by omega) q hq hqa hqv
      exact ⟨y, List.mem_append_left _ hy, e⟩
/-- All entries of one more. -/
theorem Pj.next {ys : List Int} (h : Pj N gs i l k zs zs.length L) (hc : ChL N gs (l.getD k []) i zs) : Pj N gs i l (k + 1) ys 0 L := by
  refine ⟨h.srt, fun x hx => ?_, fun t ht q hq hqa => ?_, fun u hu => absurd hu (Nat.not_lt_zero _)⟩
  · obtain ⟨a, b⟩ := h.mem x hx
    refine ⟨a, .inl ?_⟩
    rcases b with ⟨t, ht, e⟩ | ⟨e, _⟩
    · exact ⟨t, by omega, e⟩
    · exact ⟨k, by omega, e⟩
  · by_cases e : t = k
    · subst e
      have hm := (hc.2 (nx q i : Int)).2 ⟨q, hq, hqa, rfl⟩
      obtain ⟨u, hu, eu⟩ := List.mem_iff_getElem.1 hm
      exact h.now u hu q hq hqa (by rw [gdx' hu]; exact eu.symm)
    · exact h.all t (by omega) q hq hqa
theorem Pj.lv (h : Pj N gs i l l.length zs 0 L) (hl : Lv N gs i l) : Lv N gs (i + 1) L := by
  refine ⟨h.srt, fun m hm => (h.mem m hm).1, fun q hq => ?_⟩
  obtain ⟨m, hm, ha⟩ := hl.all q hq
  obtain ⟨t, ht, e⟩ := List.mem_iff_getElem.1 hm
  exact h.all t ht q hq (by rw [List.getD_eq_getElem?_getD, List.getElem?_eq_getElem ht]; show Ag i q l[t]; rw [e]; exact ha)
/-- No more than there are members. -/
theorem Pj.len {V : Nat} (h : Pj N gs i l k zs j L) (hV : Crd (Mb gs N) V) : L.length ≤ V :=
  crd_sub ⟨L, lx_nodup h.srt, fun _ => Iff.rfl, rfl⟩ hV fun x hx => (h.mem x hx).1
theorem Lv.len {V : Nat} (h : Lv N gs i l) (hV : Crd (Mb gs N) V) : l.length ≤ V :=
  crd_sub ⟨l, lx_nodup h.srt, fun _ => Iff.rfl, rfl⟩ hV fun x hx => h.mem x hx
theorem Lv.top (h : Lv N gs N l) (hg : ∀ g ∈ gs, Pn N g) (h1 : 1 ≤ N) (h2 : N ≤ 20) (p : List Int) : p ∈ l ↔ Mb gs N p := by
  refine ⟨h.mem p, fun hp => ?_⟩
  obtain ⟨m, hm, ha⟩ := h.all p hp
  have : p = m := (hp.pn hg h1 h2).ext ((h.mem m hm).pn hg h1 h2) fun x hx => ha x hx
  exact this ▸ hm
end
/-- A slice literal of one slice. -/
theorem SS.litOne {w : World} {base bi : Nat} {A : Option Addr} {n c : Nat} {ys : List Int} (h : Slc w bi A n c ys) (hb : base ≤ w.heap.size) : SS (w.alloc (.cells #[.slice A n c] 33)) base bi (some ⟨w.heap.size, 0, none⟩) 1 1 [(A, n, c)] [ys] :=
  ⟨World.ownsRow_lit (size := 1) w #[.slice A n c] 1 hb (by unfold maxLen; omega) rfl, rfl, rfl, fun i hi => by
    obtain rfl : i = 0 := by omega
    exact h.alloc _, fun i j h1 h2 => by omega⟩
theorem getD_of {l : List (List Int)} {k : Nat} {y : List Int} (hk : k < l.length) (e : l.getD k [] = y) : y ∈ l := by
  rw [← e, List.getD_eq_getElem?_getD, List.getElem?_eq_getElem hk]; exact List.getElem_mem _

set_option maxHeartbeats 8000000 in
set_option maxRecDepth 100000 in
theorem specAllM (N n cc : Nat) (A : Option Addr) (vs : List SV) (gs : List (List Int)) (w : World) (hx : RR w w.heap.size A n vs gs) (hN1 : 1 ≤ N) (hN2 : N ≤ 20) (hn : n ≤ 8) (ok : Hid (∀ g ∈ gs, Pn N g)) (hgB : Hid (gB (N : Int) gs = true)) :
    Calls Try.prog 90 #[.int .i64 (N : Nat), .slice A n cc] w fun e w' => ∃ A' m c' us l, e = .returned (.slice A' m c') ∧ SS w' w.heap.size w.heap.size A' m c' us l ∧ IsMbs (N : Int) gs l ∧ Below w.heap.size w w' := by
  have HX := Lib.hid hx
  clear hx
  go_enter Try.func90, Try.ntmps90
  go_wp2_with fail
  refine (specBuild N n cc A vs gs w HX.out hN1 hN2 hn ok).mono ?_
  rintro e w2 ⟨g, L, ch, rfl, hc2, hw2, b2⟩
  have C2 := Lib.hid hc2
  have W2 := Lib.hid hw2
  have B2 := Lib.hid b2
  obtain ⟨V, hV, eV, hVb⟩ := (hw2.os hN1 hN2).ordB ok.out hN1 hN2
  have HV := Lib.hid hV
  clear hc2 hw2 b2 hV
  go_wp2_with fail
  refine (specOrder w.heap.size g N ch L gs w2 C2.out W2.out hN1 hN2).mono ?_
  rintro e w3 ⟨rfl, b3⟩
  have C3 := Lib.hid (C2.out.up b3)
  have B3 : Hid (Below w.heap.size w w3) := Lib.hid (btr B2.out b3)
  have hz3 := B3.out.size
  rw [eV]
  clear b3 eV C2 B2
  by_cases hV3 : V ≤ 3000
  · have d0 : decide ((3000 : Int) < (V : Int)) = false := by simp; omega
    have Few0 : Hid (Few (N : Int) gs) := Lib.hid ⟨hgB.out, V, by rw [Int.toNat_natCast]; exact HV.out, hV3⟩
    go_wp2_with fail
    refine (specIdent N w3 (by omega)).mono ?_
    rintro e w4 ⟨A4, c4, rfl, s4, b4⟩
    have C4 := Lib.hid (C3.out.up b4)
    have B4 : Hid (Below w.heap.size w w4) := Lib.hid (btr B3.out b4)
    have hz4 := B4.out.size
    have S4 : Hid (SS (w4.alloc (.cells #[.slice A4 N c4] 33)) w.heap.size w.heap.size (some ⟨w4.heap.size, 0, none⟩) 1 1 [(A4, N, c4)] [idL N]) := Lib.hid (SS.litOne (s4.mono hz3) hz4)
    clear s4 b4
    go_wp2_with fail
    go_loopw [6, 7] (fun v i wr => ∃ (i' m cc : Nat) (M : Option Addr) (us : List SV) (l : List (List Int)), i' ≤ N ∧ i = .int .i64 (i' : Nat) ∧ v = .slice M m cc ∧ SS wr w.heap.size w.heap.size M m cc us l ∧ Lv N gs i' l ∧ Below w4.heap.size w4 wr) (fun _ i _ => N - (intOf i).toNat)
    case atStart => exact ⟨0, _, _, _, _, _, Nat.zero_le _, rfl, rfl, S4.out, Lv.zero, (Below.refl _ _).alloc (Nat.le_refl _) _⟩
    case round =>
      clear S4
      obtain ⟨i, m, cc, M, us, l, hi, rfl, rfl, hs, hlv, bel⟩ := hrel
      have So := Lib.hid hs
      have Lv0 := Lib.hid hlv
      have Be := Lib.hid bel
      have C5 := Lib.hid (C4.out.up bel)
      have Lm : Hid (l.length = m) := Lib.hid hs.lx
      have hm3 : m ≤ 3000 := by rw [← hs.lx]; exact Nat.le_trans (hlv.len HV.out) hV3
      have Bw : Hid (Below w.heap.size w wr) := Lib.hid (btr B4.out bel)
      have hzw := Bw.out.size
      clear hs hlv bel
      by_cases hlt : i < N
      · have q1 : (0 : Int) ≤ i := by omega
        have q2 : (i : Int) < N := by omega
        obtain ⟨wL, rfl⟩ : ∃ wL, wL = wr := ⟨_, rfl⟩
        have P0 := Lib.hid (SS.lit0 wL wL.heap.size wL.heap.size (Nat.le_refl _))
        go_wp2_with fail
        go_loopg [8, 9] m (fun gg v j wr => ∃ (k m' c' : Nat) (A' : Option Addr) (us' : List SV) (L' : List (List Int)), k ≤ m ∧ m - k ≤ gg ∧ j = .int .i64 (k : Nat) ∧ v = .slice A' m' c' ∧ SS wr wL.heap.size wL.heap.size A' m' c' us' L' ∧ Pj N gs i l k [] 0 L' ∧ Below wL.heap.size wL wr)
        case atStart => exact ⟨0, _, _, _, _, _, Nat.zero_le _, by omega, rfl, rfl, P0.out, Pj.zero, (Below.refl _ _).alloc (Nat.le_refl _) _⟩
        case round =>
          clear P0
          obtain ⟨k, m', c', A', us', L', hk, hgk, rfl, rfl, hs', hpj, bel'⟩ := hrel
          have Ss := Lib.hid hs'
          have Pj0 := Lib.hid hpj
          have Be' := Lib.hid bel'
          have C6 := Lib.hid (C5.out.up bel')
          have hzL := bel'.size
          clear hs' hpj bel'
          by_cases hkm : k < m
          · obtain ⟨b, off, A5, lz, c5, y, rfl, hb, ev, ey, hc0, hr0, hy, hlc⟩ := So.out.rr.at_ hkm
            have hyl : y ∈ l := getD_of (by rw [Lm.out]; exact hkm) ey
            have hyM := Lv0.out.mem y hyl
            have hyP := hyM.pn ok.out hN1 hN2
            obtain rfl : lz = N := by have := hyP.2; omega
            have Yp := Lib.hid hyP
            have Ym := Lib.hid hyM
            have Ey := Lib.hid ey
            have Ry := Lib.hid hr0
            have R5 := Lib.hid (hr0.up Be'.out)
            have Hb := Lib.hid hb
            have Hc := Lib.hid hc0
            have x1 := (Be'.out.cell (p := ⟨b, off + k, none⟩) hb).trans hc0
            have z0 : (0 : Int) ≤ k := by omega
            have z1 : (k : Int) < m := by omega
            clear ev ey hr0 hy hyP hyM hyl hb hlc hc0
            go_wp2_with fail
            refine (specChoices w.heap.size g lz i c5 A5 ch L gs y wr C6.out W2.out R5.out Yp hlt).mono ?_
            rintro e w7 ⟨g2, m2, c2, zs, rfl, s7, p7, o7, b7⟩
            have Chl : Hid (ChL lz gs y i zs) := Lib.hid (chL_ok W2.out hN1 hN2 ok.out hlt Ym.out p7 o7)
            have Lz : Hid (zs.length = m2) := Lib.hid s7.1
            have hm2 : m2 ≤ 20 := by rw [← s7.1, p7.length_eq]; have := chL_len ch i y lz; omega
            have Z7 : Hid (Slc w7 wr.heap.size (some ⟨g2, 0, none⟩) m2 c2 zs) := Lib.hid s7
            have hg2 : wr.heap.size ≤ g2 ∧ g2 < w7.heap.size := s7.lt_ g2 rfl
            have Ss7 := Lib.hid (Ss.out.up b7)
            have Be7 : Hid (Below wL.heap.size wL w7) := Lib.hid (btr Be'.out b7)
            have Ne7 : Hid (∀ q, (Value.slice A' m' c').ownBlock = some q → q ≠ g2) := Lib.hid fun q hq => by have := (Ss.out.lt_ q hq).2; omega
            have Pj1 : Hid (Pj lz gs i l k zs 0 L') := Lib.hid ⟨Pj0.out.srt, fun x hx => by
              obtain ⟨a, b⟩ := Pj0.out.mem x hx
              rcases b with b | ⟨_, u, hu, _⟩
              · exact ⟨a, .inl b⟩
              · exact absurd hu (Nat.not_lt_zero _), Pj0.out.all, fun u hu => absurd hu (Nat.not_lt_zero _)⟩
            clear s7 p7 o7 b7 Pj0
            go_wp2_with fail
            obtain ⟨wM, rfl⟩ : ∃ wM, wM = wr := ⟨_, rfl⟩
            go_loopg [8, 11] m2 (fun gg v j wr => ∃ (jj m' c' : Nat) (A' : Option Addr) (us' : List SV) (L' : List (List Int)), jj ≤ m2 ∧ m2 - jj ≤ gg ∧ j = .int .i64 (jj : Nat) ∧ v = .slice A' m' c' ∧ SS wr wL.heap.size wL.heap.size A' m' c' us' L' ∧ Pj lz gs i l k zs jj L' ∧ Slc wr wM.heap.size (some ⟨g2, 0, none⟩) m2 c2 zs ∧ (∀ q, (Value.slice A' m' c').ownBlock = some q → q ≠ g2) ∧ Below wL.heap.size wL wr)
            case atStart => exact ⟨0, _, _, _, _, _, Nat.zero_le _, by omega, rfl, rfl, Ss7.out, Pj1.out, Z7.out, Ne7.out, Be7.out⟩
            case round =>
              clear Ss7 Pj1 Z7 Ne7 Be7
              obtain ⟨jj, m', c', A', us', L', hj, hgj, rfl, rfl, hs', hpj, hz', hne, bel'⟩ := hrel
              have Ss := Lib.hid hs'
              have Pj0 := Lib.hid hpj
              have Zs := Lib.hid hz'
              have Ne := Lib.hid hne
              have Be' := Lib.hid bel'
              have C8 := Lib.hid (C5.out.up bel')
              have hm' : m' ≤ 3000 := by rw [← hs'.lx]; exact Nat.le_trans (hpj.len HV.out) hV3
              have hzL := bel'.size
              clear hs' hpj hz' hne bel'
              by_cases hjm : jj < m2
              · obtain ⟨zb, zo, ez, hzb, hzc⟩ := Zs.out.ri_ (by rw [Zs.out.1]; omega)
                have x9 := hzc jj (by rw [Zs.out.1]; exact hjm)
                have ez2 : (some ⟨g2, 0, none⟩ : Option Addr) = some ⟨zb, zo, none⟩ := ez
                injection ez2 with ez2
                injection ez2 with f1 f2 _
                subst f1 f2
                rw [Nat.zero_add] at x9
                have hzm : zs.getD jj 0 ∈ zs := by rw [gdx' (by rw [Lz.out]; exact hjm)]; exact List.getElem_mem _
                obtain ⟨q, hq, hqa, hqv⟩ := (Chl.out.2 _).1 hzm
                obtain ⟨v, hv⟩ : ∃ v, nx q i = v := ⟨_, rfl⟩
                rw [hv] at hqv
                obtain ⟨yy, hyy, hry, hmy⟩ := chL_mem.1 ((W2.out.choice hN1 hN2 ok.out hlt Ym.out).2 ⟨q, hq, hqa, rfl⟩)
                have hmy2 : nx y yy = v := by omega
                obtain ⟨a1, a2, a3, _⟩ := W2.out.rep_mb hN1 hN2 hlt hry
                have Rp : Hid (Pn lz (ch.rep i yy)) := Lib.hid (a1.pn ok.out hN1 hN2)
                have Hmy := Lib.hid hmy2
                obtain ⟨nw, hnw⟩ : ∃ nw, compL (ch.rep i yy) y = nw := ⟨_, rfl⟩
                have Mb2 : Hid (Mb gs lz nw) := Lib.hid (by rw [← hnw]; exact a1.comp ok.out hN1 hN2 Ym.out)
                have hAg : Ag i nw y := fun t ht => by rw [← hnw, Rp.out.nxc (by omega), a2 t ht]
                have hnv : (nx nw i : Int) = zs.getD jj 0 := by rw [← hnw, Rp.out.nxc hlt, a3, Hmy.out, hqv]
                have Pj2 : Hid (Pj lz gs i l k zs (jj + 1) (L' ++ [nw])) := Lib.hid (Pj0.out.snoc Lv0.out (by rw [Lm.out]; exact hkm) Chl.out.1 (by rw [Lz.out]; exact hjm) Mb2.out (by rw [Ey.out]; exact hAg) hnv)
                have Nw := Lib.hid hnw
                rw [← hqv] at x9
                have x8 := (Be'.out.cell (p := ⟨b, off + k, none⟩) Hb.out).trans Hc.out
                have z2 : (0 : Int) ≤ jj := by omega
                have z3 : (jj : Int) < m2 := by omega
                have C8d : Hid (Cn wr.drew w.heap.size g lz ch L) := Lib.hid (C8.out.up ⟨rfl, rfl, rfl, Nat.le_refl _, fun _ _ => rfl⟩)
                have Ry8 : Hid (RI wr wr.heap.size A5 y) := Lib.hid (Ry.out.up Be'.out)
                clear ez hzb hzc hzm hq hqa hqv hv hry hmy hmy2 a1 a2 a3 hAg hnv hnw Pj0
                go_wp2_with fail
                go_region_law (first
                  | (refine step_appV rfl (.tmp 47) (.tmp 59) rfl wL.heap.size (.slice A' m' c') m' (us'.map sval) ?_ ((Ss9.out.alloc (.cells #[.slice A9 lz c9] 33)).own) w9.heap.size (A9, lz, c9) ?_ ((Blk.new w9 _ _).cell 0) ?_ ?_ ?_; (simp [Act.eval, Act.put]); (simp [Act.eval, Act.put]); (omega); (have hz := B9.out.size; simp; omega); (intro A10 c10 w10 o10 g10 h10))
                  | (go_simp; go_wp2_with (first
                    | (go_at_call 108; (first
                        | (refine (specWithEntry w.heap.size g lz i v yy c5 A5 ch L y wr C8.out Ry8.out Yp hlt hyy Hmy Rp).mono ?_; rintro e w9 ⟨A9, c9, rfl, s9, b9⟩)
                        | (refine (specWithEntry w.heap.size g lz i v yy c5 A5 ch L y wr.drew C8d.out Ry8.out Yp hlt hyy Hmy Rp).mono ?_; rintro e w9 ⟨A9, c9, rfl, s9, b90⟩; have b9 : Below wr.heap.size wr w9 := below_undrew b90; clear b90))
                       have B9 : Hid (Below wr.heap.size wr w9) := Lib.hid b9
                       have S9 : Hid (Slc w9 wr.heap.size A9 lz c9 nw) := Lib.hid (by rw [← Nw.out]; exact s9)
                       have Ss9 := Lib.hid (Ss.out.up b9)
                       have Zs9 := Lib.hid (Zs.out.up b9)
                       clear s9 b9))))
                all_goals
                  have D9 : ∀ t, t < m' → (sval (us'.getD t sd0)).ownBlock = none ∨ (sval (us'.getD t sd0)).ownBlock ≠ (sval (A9, lz, c9)).ownBlock := lies_dis (w := wr) Ss.out S9.out.lies (Nat.le_refl _)
                  have Ss10 : Hid (SS w10 wL.heap.size wL.heap.size A10 (m' + 1) c10 (us' ++ [(A9, lz, c9)]) (L' ++ [nw])) := Lib.hid ((Ss9.out.alloc _).snocV (d := (A9, lz, c9)) ((S9.out.mono hzL).alloc _) D9 o10 g10)
                  have B10 : Hid (Below wL.heap.size wL w10) := Lib.hid (((btr Be'.out B9.out).alloc (btr Be'.out B9.out).size _).grown g10 (by have := (btr Be'.out B9.out).size; simp; omega) (fun j hj => (Ss.out.lt_ j hj).1))
                  have Zs10 : Hid (Slc w10 wM.heap.size (some ⟨g2, 0, none⟩) m2 c2 zs) := Lib.hid ((Zs9.out.alloc _).kept g10 (.inr fun e => Ne.out g2 e.symm rfl))
                  have Ne10 : Hid (∀ q, (Value.slice A10 (m' + 1) c10).ownBlock = some q → q ≠ g2) := Lib.hid fun q hq => by
                    rcases h10 with e | e
                    · exact Ne.out q (e ▸ hq)
                    · have h1 := (Zs9.out.lt_ g2 rfl).2
                      rw [e] at hq
                      injection hq with hq
                      simp at hq; omega
                  clear o10 g10 h10 D9
                  go_wp2_with fail
                  go_roundg (m2 - (jj + 1))
                  case rel => exact ⟨jj + 1, _, _, A10, _, _, by omega, by omega, by go_num, rfl, Ss10.out, Pj2.out, Zs10.out, Ne10.out, B10.out⟩
                  case measure => omega
              · obtain rfl : jj = m2 := by omega
                have Pj2 : Hid (Pj lz gs i l (k + 1) [] 0 L') := Lib.hid (by
                  have := Pj0.out
                  rw [← Lz.out] at this
                  exact this.next (by rw [Ey.out]; exact Chl.out))
                go_wp2_with fail
                go_roundg (m - (k + 1))
                case rel => exact ⟨k + 1, _, _, _, _, _, by omega, by omega, by go_num, rfl, Ss.out, Pj2.out, Be'.out⟩
                case measure => omega
          · obtain rfl : k = m := by omega
            have Lv2 : Hid (Lv N gs (i + 1) L') := Lib.hid (by
              have := Pj0.out
              rw [← Lm.out] at this
              exact this.lv Lv0.out)
            have Ss2 : Hid (SS wr w.heap.size w.heap.size A' m' c' us' L') := Lib.hid (Ss.out.mono hzw hzw)
            have Be2 : Hid (Below w4.heap.size w4 wr) := Lib.hid (btr Be.out Be'.out)
            go_wp2_with fail
            go_roundw
            case rel => exact ⟨i + 1, _, _, _, _, _, by omega, by go_num, rfl, Ss2.out, Lv2.out, Be2.out⟩
            case measure => simp [intOf]; omega
      · obtain rfl : i = N := by omega
        have Fin : Hid (IsMbs (i : Int) gs l) := Lib.hid (.inl ⟨Few0.out, by rw [Int.toNat_natCast]; exact Lv0.out.srt, fun p => by rw [Int.toNat_natCast]; exact Lv0.out.top ok.out hN1 hN2 p⟩)
        go_wp2_with fail
        go_ret
        exact ⟨_, _, _, _, _, rfl, So.out, Fin.out, Bw.out⟩
  · have d0 : decide ((3000 : Int) < (V : Int)) = true := by simp; omega
    have Fin : Hid (IsMbs (N : Int) gs []) := Lib.hid (.inr ⟨fun ⟨_, V', h, h'⟩ => (by rw [Int.toNat_natCast] at h; have := h.uniq HV.out; omega), rfl⟩)
    have S0 := Lib.hid (SS.lit0 w3 w.heap.size w.heap.size hz3)
    go_wp2_with fail
    go_ret
    exact ⟨_, _, _, _, _, rfl, S0.out, Fin.out, B3.out.alloc hz3 _⟩
end Go.Proofs.Ytcjcmhoalomjfaa
