/- Part 4 of the texts: Der, Ct, RkS, ChY, SbS, ChZ, ChV, Stb, StbS, Ct4, RkM, RkB, SbA, Sz2, SSk, Hel4, WalkA6, PcM, PcH. No condition of its own: each text tells its own. -/
import Derived.Test.YtcjcmhoalomjfaaMg3
import Derived.Test.YtcjcmhoalomjfaaMg2
import Derived.Test.YtcjcmhoalomjfaaMg1
import Derived.Deep.Upon
set_option linter.unusedVariables false
set_option linter.unusedSimpArgs false

/- What a set generates; normal and abelian groups by their generators; the derived subgroup by the commutators of generators and their conjugates. No Go in it. No condition. -/
namespace Go.Proofs.Ytcjcmhoalomjfaa
open Go.RowKit

/-! ### words in permutations -/
def PG (N : Nat) : Type := {p : List Int // Pn N p}
namespace PG
variable {N : Nat}
def m (a b : PG N) : PG N := ⟨compL a.1 b.1, a.2.comp b.2⟩
def i (a : PG N) : PG N := ⟨iv a.1, a.2.iv⟩
theorem asc (a b c : PG N) : m (m a b) c = m a (m b c) := Subtype.ext (a.2.assoc b.2)
theorem c1 (a b : PG N) : m (i a) (m a b) = b := Subtype.ext (by show compL (iv a.1) (compL a.1 b.1) = b.1; rw [← a.2.iv.assoc a.2, a.2.ic, b.2.idl])
theorem c2 (a b : PG N) : m a (m (i a) b) = b := Subtype.ext (by show compL a.1 (compL (iv a.1) b.1) = b.1; rw [← a.2.assoc a.2.iv, a.2.ci, b.2.idl])
theorem ii (a : PG N) : i (i a) = a := Subtype.ext a.2.iviv
theorem im (a b : PG N) : i (m a b) = m (i b) (i a) := Subtype.ext (by
  show iv (compL a.1 b.1) = compL (iv b.1) (iv a.1)
  have hab := a.2.comp b.2
  refine cancel_r hab.iv (b.2.iv.comp a.2.iv) hab ?_
  rw [hab.ic, b.2.iv.assoc a.2.iv, ← a.2.iv.assoc a.2, a.2.ic, b.2.idl, b.2.ic])
end PG
/-- The commutator: the inverses of p and of q, then p, then q. -/
def cmt (p q : List Int) : List Int := compL (compL (iv p) (iv q)) (compL p q)
section
variable {N : Nat} {p q r : List Int}
theorem cmt_pn (hp : Pn N p) (hq : Pn N q) : Pn N (cmt p q) := (hp.iv.comp hq.iv).comp (hp.comp hq)
theorem iv_comp (hp : Pn N p) (hq : Pn N q) : iv (compL p q) = compL (iv q) (iv p) := congrArg Subtype.val (PG.im ⟨p, hp⟩ ⟨q, hq⟩)
theorem cmt_l (hp : Pn N p) (hq : Pn N q) (hr : Pn N r) : cmt (compL p r) q = compL (cj r (cmt p q)) (cmt r q) := by
  have : ∀ p q r : PG N, ((p.m r).i.m q.i).m ((p.m r).m q) = ((r.i.m ((p.i.m q.i).m (p.m q))).m r).m ((r.i.m q.i).m (r.m q)) := fun p q r => by
    simp only [PG.im, PG.asc, PG.c1, PG.c2]
  exact congrArg Subtype.val (this ⟨p, hp⟩ ⟨q, hq⟩ ⟨r, hr⟩)
theorem cmt_r (hp : Pn N p) (hq : Pn N q) (hr : Pn N r) : cmt p (compL q r) = compL (cmt p r) (cj r (cmt p q)) := by
  have : ∀ p q r : PG N, (p.i.m (q.m r).i).m (p.m (q.m r)) = ((p.i.m r.i).m (p.m r)).m ((r.i.m ((p.i.m q.i).m (p.m q))).m r) := fun p q r => by
    simp only [PG.im, PG.asc, PG.c1, PG.c2]
  exact congrArg Subtype.val (this ⟨p, hp⟩ ⟨q, hq⟩ ⟨r, hr⟩)
theorem cj_cj (hp : Pn N p) (hq : Pn N q) (hr : Pn N r) : cj (compL q r) p = cj r (cj q p) := by
  have : ∀ p q r : PG N, ((q.m r).i.m p).m (q.m r) = (r.i.m ((q.i.m p).m q)).m r := fun p q r => by simp only [PG.im, PG.asc]
  exact congrArg Subtype.val (this ⟨p, hp⟩ ⟨q, hq⟩ ⟨r, hr⟩)
theorem cj_cmt (hp : Pn N p) (hq : Pn N q) (hr : Pn N r) : cj r (cmt p q) = cmt (cj r p) (cj r q) := by
  have : ∀ p q r : PG N, (r.i.m ((p.i.m q.i).m (p.m q))).m r = (((r.i.m p).m r).i.m ((r.i.m q).m r).i).m (((r.i.m p).m r).m ((r.i.m q).m r)) := fun p q r => by
    simp only [PG.im, PG.asc, PG.c1, PG.c2, PG.ii]
  exact congrArg Subtype.val (this ⟨p, hp⟩ ⟨q, hq⟩ ⟨r, hr⟩)
theorem cmt_inv (hp : Pn N p) (hq : Pn N q) : iv (cmt p q) = cmt q p := by
  have : ∀ p q : PG N, ((p.i.m q.i).m (p.m q)).i = (q.i.m p.i).m (q.m p) := fun p q => by simp only [PG.im, PG.asc, PG.ii]
  exact congrArg Subtype.val (this ⟨p, hp⟩ ⟨q, hq⟩)
theorem cmt_one (hp : Pn N p) (hq : Pn N q) : cmt p q = idL N ↔ compL p q = compL q p := by
  have hpq := hp.comp hq
  have hqp := hq.comp hp
  have e : cmt p q = compL (iv (compL q p)) (compL p q) := by rw [iv_comp hq hp]; rfl
  rw [e]
  constructor
  · intro h
    have : compL (compL q p) (compL (iv (compL q p)) (compL p q)) = compL (compL q p) (idL N) := by rw [h]
    rwa [← hqp.assoc hqp.iv, hqp.ci, hpq.idl, hqp.idr] at this
  · intro h
    rw [h, hqp.ic]
theorem cmt_id_l (hq : Pn N q) : cmt (idL N) q = idL N := (cmt_one (pn_id hq.pos.1 hq.pos.2) hq).2 (by rw [hq.idl, hq.idr])
theorem cmt_id_r (hp : Pn N p) : cmt p (idL N) = idL N := (cmt_one hp (pn_id hp.pos.1 hp.pos.2)).2 (by rw [hp.idl, hp.idr])
end

/-! ### what a set generates -/
inductive Gn (N : Nat) (S : List Int → Prop) : List Int → Prop
  | one : Gn N S (idL N)
  | mul {p s : List Int} : Gn N S p → S s → Gn N S (compL p s)
section
variable {N : Nat} {S H G : List Int → Prop} {p q s : List Int} {gs hs : List (List Int)}
theorem Gn.pn (hS : ∀ s, S s → Pn N s) (h1 : 1 ≤ N) (h2 : N ≤ 20) (h : Gn N S p) : Pn N p := by
  induction h with
  | one => exact pn_id h1 h2
  | mul _ hm ih => exact ih.comp (hS _ hm)
theorem Gn.comp (hS : ∀ s, S s → Pn N s) (h1 : 1 ≤ N) (h2 : N ≤ 20) (hp : Gn N S p) (hq : Gn N S q) : Gn N S (compL p q) := by
  induction hq with
  | one => rw [(hp.pn hS h1 h2).idr]; exact hp
  | mul hq' hm ih =>
    rw [← (hp.pn hS h1 h2).assoc (hq'.pn hS h1 h2)]
    exact .mul ih hm
theorem Gn.of (hp : Pn N s) (hm : S s) : Gn N S s := by
  have := Gn.mul (Gn.one (N := N) (S := S)) hm
  rwa [hp.idl] at this
theorem sgp_gn (hS : ∀ s, S s → Pn N s) (h1 : 1 ≤ N) (h2 : N ≤ 20) : Sgp N (Gn N S) :=
  ⟨fun _ h => h.pn hS h1 h2, .one, fun _ _ a b => a.comp hS h1 h2 b, fun p hp => by
    rw [iv_pw (hp.pn hS h1 h2)]
    have : ∀ k, Gn N S (pw N p k) := fun k => by
      induction k with
      | zero => exact .one
      | succ k ih => exact ih.comp hS h1 h2 hp
    exact this _⟩
theorem Gn.le (hH : Sgp N H) (hS : ∀ s, S s → H s) (h : Gn N S p) : H p := by
  induction h with
  | one => exact hH.one
  | mul _ hm ih => exact hH.mul _ _ ih (hS _ hm)
theorem mb_le (hH : Sgp N H) (hS : ∀ s ∈ gs, H s) (h : Mb gs N p) : H p := by
  induction h with
  | one => exact hH.one
  | mul _ hm ih => exact hH.mul _ _ ih (hS _ hm)
/-- Conjugates by members of G lie in H. -/
def Nrm (G H : List Int → Prop) : Prop := ∀ p q, H p → G q → H (cj q p)
theorem cj_one (hp : Pn N p) : cj (idL N) p = p := by
  unfold cj
  rw [iv_id hp.pos.1 hp.pos.2, hp.idl, hp.idr]
theorem nrm_gens (hg : ∀ g ∈ gs, Pn N g) (hh : ∀ s ∈ hs, Pn N s) (h1 : 1 ≤ N) (h2 : N ≤ 20) (h : ∀ s ∈ hs, ∀ g ∈ gs, Mb hs N (cj g s)) : Nrm (Mb gs N) (Mb hs N) := by
  have one : ∀ g ∈ gs, ∀ p, Mb hs N p → Mb hs N (cj g p) := fun g hgm p hp => by
    induction hp with
    | one => rw [cj_id (hg g hgm)]; exact .one
    | mul hp' hm ih =>
      rw [cj_mul (hg g hgm) (hp'.pn hh h1 h2) (hh _ hm)]
      exact ih.comp hh h1 h2 (h _ hm g hgm)
  intro p q hp hq
  induction hq with
  | one =>
    have := cj_one (hp.pn hh h1 h2)
    rw [this]; exact hp
  | mul hq' hm ih =>
    rw [cj_cj (hp.pn hh h1 h2) (hq'.pn hg h1 h2) (hg _ hm)]
    exact one _ hm _ ih
/-- Any two commute. -/
def Abl (G : List Int → Prop) : Prop := ∀ p q, G p → G q → compL p q = compL q p
theorem abl_gens (hg : ∀ g ∈ gs, Pn N g) (h1 : 1 ≤ N) (h2 : N ≤ 20) (h : ∀ p ∈ gs, ∀ q ∈ gs, compL p q = compL q p) : Abl (Mb gs N) := by
  have one : ∀ g ∈ gs, ∀ p, Mb gs N p → compL p g = compL g p := fun g hgm p hp => by
    induction hp with
    | one => rw [(hg g hgm).idl, (hg g hgm).idr]
    | mul hp' hm ih =>
      have pp := hp'.pn hg h1 h2
      rw [pp.assoc (hg _ hm), h _ hm g hgm, ← pp.assoc (hg g hgm), ih, (hg g hgm).assoc pp]
  intro p q hp hq
  induction hq with
  | one => rw [(hp.pn hg h1 h2).idl, (hp.pn hg h1 h2).idr]
  | mul hq' hm ih =>
    have pp := hp.pn hg h1 h2
    have pq := hq'.pn hg h1 h2
    rw [← pp.assoc pq, ih, pq.assoc pp, one _ hm p hp, ← pq.assoc (hg _ hm)]
/-- The derived subgroup. -/
def Drv (N : Nat) (G : List Int → Prop) : List Int → Prop := Gn N fun c => ∃ p q, G p ∧ G q ∧ c = cmt p q
theorem drv_pn (hG : Sgp N G) : ∀ s, (∃ p q, G p ∧ G q ∧ s = cmt p q) → Pn N s := fun s ⟨p, q, hp, hq, e⟩ => by rw [e]; exact cmt_pn (hG.pn p hp) (hG.pn q hq)
theorem Sgp.pos (hG : Sgp N G) : 1 ≤ N ∧ N ≤ 20 := (hG.pn _ hG.one).pos
theorem Sgp.drv (hG : Sgp N G) : Sgp N (Drv N G) := sgp_gn (drv_pn hG) hG.pos.1 hG.pos.2
theorem Drv.le (hG : Sgp N G) (h : Drv N G p) : G p := Gn.le hG (fun s ⟨p, q, hp, hq, e⟩ => by
  rw [e]; exact hG.mul _ _ (hG.mul _ _ (hG.inv p hp) (hG.inv q hq)) (hG.mul _ _ hp hq)) h
theorem drv_cmt (hG : Sgp N G) (hp : G p) (hq : G q) : Drv N G (cmt p q) := .of (cmt_pn (hG.pn p hp) (hG.pn q hq)) ⟨p, q, hp, hq, rfl⟩
theorem drv_nrm (hG : Sgp N G) (hp : Drv N G p) (hq : G q) : Drv N G (cj q p) := by
  induction hp with
  | one => rw [cj_id (hG.pn q hq)]; exact .one
  | mul hp' hm ih =>
    obtain ⟨a, b, ha, hb, rfl⟩ := hm
    have pa := hG.pn a ha
    have pb := hG.pn b hb
    have pq := hG.pn q hq
    rw [cj_mul pq (hG.drv.pn _ hp') (cmt_pn pa pb), cj_cmt pa pb pq]
    exact hG.drv.mul _ _ ih (drv_cmt hG (hG.mul _ _ (hG.mul _ _ (hG.inv q hq) ha) hq) (hG.mul _ _ (hG.mul _ _ (hG.inv q hq) hb) hq))
/-- A normal subgroup with the commutators of the generators has all of them. -/
theorem cmt_gens (hg : ∀ g ∈ gs, Pn N g) (h1 : 1 ≤ N) (h2 : N ≤ 20) (hH : Sgp N H) (hn : Nrm (Mb gs N) H) (h : ∀ p ∈ gs, ∀ q ∈ gs, H (cmt p q)) (hp : Mb gs N p) (hq : Mb gs N q) : H (cmt p q) := by
  have one : ∀ g ∈ gs, ∀ q, Mb gs N q → H (cmt g q) := fun g hgm q hq => by
    induction hq with
    | one => rw [cmt_id_r (hg g hgm)]; exact hH.one
    | mul hq' hm ih =>
      rw [cmt_r (hg g hgm) (hq'.pn hg h1 h2) (hg _ hm)]
      exact hH.mul _ _ (h g hgm _ hm) (hn _ _ ih (.of (hg _ hm) hm))
  induction hp with
  | one => rw [cmt_id_l (hq.pn hg h1 h2)]; exact hH.one
  | mul hp' hm ih =>
    rw [cmt_l (hp'.pn hg h1 h2) (hq.pn hg h1 h2) (hg _ hm)]
    exact hH.mul _ _ (hn _ _ ih (.of (hg _ hm) hm)) (one _ hm q hq)
/-- The derived subgroup by generators. -/
theorem drv_gens (hg : ∀ g ∈ gs, Pn N g) (h1 : 1 ≤ N) (h2 : N ≤ 20) (hd : ∀ d ∈ hs, Drv N (Mb gs N) d) (hc : ∀ s ∈ hs, ∀ g ∈ gs, Mb hs N (cj g s)) (h : ∀ p ∈ gs, ∀ q ∈ gs, Mb hs N (cmt p q)) : Mb hs N p ↔ Drv N (Mb gs N) p := by
  have hG := sgp_mb hg h1 h2
  have hh : ∀ s ∈ hs, Pn N s := fun s hs' => hG.drv.pn s (hd s hs')
  have hH := sgp_mb hh h1 h2
  exact ⟨mb_le hG.drv hd, Gn.le hH fun s ⟨a, b, ha, hb, e⟩ => by rw [e]; exact cmt_gens hg h1 h2 hH (nrm_gens hg hh h1 h2 hc) h ha hb⟩
theorem crd_ex {g : Nat} (cG : Crd G g) (hs : ∀ p, H p → G p) : ∃ h, Crd H h := by
  classical
  obtain ⟨l, d, m, _⟩ := cG
  exact ⟨_, l.filter fun p => decide (H p), d.filter _, fun p => by rw [List.mem_filter, m, decide_eq_true_eq]; exact ⟨fun h => h.2, fun h => ⟨hs p h, h⟩⟩, rfl⟩
theorem crd_full {g h : Nat} (cG : Crd G g) (cH : Crd H h) (hs : ∀ p, H p → G p) (e : h = g) : ∀ p, G p → H p := by
  obtain ⟨l, d, m, rfl⟩ := cG
  obtain ⟨l', d', m', e'⟩ := cH
  intro p hp
  rcases Classical.em (H p) with hh | hh
  · exact hh
  · exfalso
    have := nd_subA (l' := p :: l') (l := l) (List.nodup_cons.2 ⟨fun h => hh ((m' p).1 h), d'⟩) fun x hx => by
      rcases List.mem_cons.1 hx with rfl | hx
      · exact (m _).2 hp
      · exact (m _).2 (hs _ ((m' _).1 hx))
    rw [List.length_cons] at this
    omega
/-- A greater group is at least twice as great. -/
theorem dbl {h k : Nat} {K : List Int → Prop} (hK : Sgp N K) (hH : Sgp N H) (hs : ∀ p, H p → K p) (cK : Crd K k) (cH : Crd H h) (hp : K p) (hn : ¬ H p) : 2 * h ≤ k := by
  obtain ⟨j, _, rfl⟩ := lagr hK hH hs cK cH
  rcases Nat.lt_or_ge j 2 with hj | hj
  · exfalso
    have h1 : 1 ≤ h := by
      have := crd_sub (crd_one (idL N)) cH fun x hx => by subst hx; exact hH.one
      exact this
    have h2 : 1 ≤ j * h := by
      have := crd_sub (crd_one (idL N)) cK fun x hx => by subst hx; exact hK.one
      exact this
    obtain rfl : j = 1 := by
      rcases j with _ | _ | j
      · rw [Nat.zero_mul] at h2; omega
      · rfl
      · omega
    exact hn (crd_full cK cH hs (Nat.one_mul h).symm p hp)
  · exact Nat.mul_le_mul_right h hj
/-- Abelian exactly if the center is all. -/
theorem abl_ctr {g c : Nat} (cG : Crd G g) (cC : Crd (Ctr G) c) : Abl G ↔ c = g := by
  constructor
  · intro ha
    exact cC.uniq (cG.congr fun p => ⟨fun h => ⟨h, fun q hq => ha p q h hq⟩, fun h => h.1⟩)
  · intro e p q hp hq
    exact (crd_full cG cC (fun p h => h.1) e p hp).2 q hq
/-- Abelian exactly if the derived subgroup is trivial. -/
theorem abl_drv {d : Nat} (hG : Sgp N G) (cD : Crd (Drv N G) d) : Abl G ↔ d = 1 := by
  constructor
  · intro ha
    refine cD.uniq ((crd_one (idL N)).congr fun p => ⟨fun e => e ▸ hG.drv.one, fun h => ?_⟩)
    have hS : Sgp N fun p => p = idL N := ⟨fun p e => e ▸ hG.pn _ hG.one, rfl, fun p q e e' => by rw [e, e', (hG.pn _ hG.one).idl], fun p e => by rw [e, iv_id hG.pos.1 hG.pos.2]⟩
    exact Gn.le (H := fun p => p = idL N) hS (fun s ⟨a, b, ha', hb', e⟩ => by rw [e]; exact (cmt_one (hG.pn a ha') (hG.pn b hb')).2 (ha a b ha' hb')) h
  · rintro rfl p q hp hq
    obtain ⟨l, _, m, el⟩ := cD
    have h1 := (m _).2 (drv_cmt hG hp hq)
    have h2 := (m _).2 hG.drv.one
    match l, el, h1, h2 with
    | [x], _, h1, h2 =>
      rw [List.mem_singleton] at h1 h2
      exact (cmt_one (hG.pn p hp) (hG.pn q hq)).1 (h1.trans h2.symm)
end
end Go.Proofs.Ytcjcmhoalomjfaa

/- The shape of a contract over generators: what goes in, what comes out, what is kept. No condition. -/
namespace Go.Proofs.Ytcjcmhoalomjfaa
open Go.RowKit

/-- Generators that can be read, not too many. -/
structure GIn (w : World) (A : Option Addr) (n : Nat) (vs : List SV) (xss : List (List Int)) : Prop where
  rr : RR w w.heap.size A n vs xss
  hn : n ≤ 1048576
  hl : ∀ i, i < n → (vs.getD i sd0).2.1 ≤ 1048576
/-- A list of numbers that can be read, not too long. -/
structure SIn (w : World) (P : Option Addr) (np cp : Nat) (p : List Int) : Prop where
  ri : RI w w.heap.size P p
  lp : p.length = np
  hn : np ≤ 1048576
  hc : np ≤ cp
def I64 (a : Int) : Prop := -9223372036854775808 ≤ a ∧ a ≤ 9223372036854775807
section
variable {w w' : World} {A P : Option Addr} {n np cp : Nat} {vs : List SV} {xss : List (List Int)} {p : List Int}
theorem GIn.up (h : GIn w A n vs xss) (hb : Below w.heap.size w w') : GIn w' A n vs xss := ⟨h.rr.up hb, h.hn, h.hl⟩
theorem SIn.up (h : SIn w P np cp p) (hb : Below w.heap.size w w') : SIn w' P np cp p := ⟨h.ri.up hb, h.lp, h.hn, h.hc⟩
end

def CtImI (F : Nat) (R : Int → List (List Int) → Int → Prop) : Prop := ∀ (a : Int) (A : Option Addr) (n c : Nat) (vs : List SV) (xss : List (List Int)) (w : World), GIn w A n vs xss → I64 a →
  Calls Try.prog F #[.int .i64 a, .slice A n c] w fun e w' => ∃ v, e = .returned (.int .i64 v) ∧ R a xss v ∧ Below w.heap.size w w'
def CtImB (F : Nat) (R : Int → List (List Int) → Bool → Prop) : Prop := ∀ (a : Int) (A : Option Addr) (n c : Nat) (vs : List SV) (xss : List (List Int)) (w : World), GIn w A n vs xss → I64 a →
  Calls Try.prog F #[.int .i64 a, .slice A n c] w fun e w' => ∃ v, e = .returned (.bool v) ∧ R a xss v ∧ Below w.heap.size w w'
def CtImS (F : Nat) (R : Int → List (List Int) → List Int → Prop) : Prop := ∀ (a : Int) (A : Option Addr) (n c : Nat) (vs : List SV) (xss : List (List Int)) (w : World), GIn w A n vs xss → I64 a →
  Calls Try.prog F #[.int .i64 a, .slice A n c] w fun e w' => ∃ A' m c' zs, e = .returned (.slice A' m c') ∧ Slc w' w.heap.size A' m c' zs ∧ R a xss zs ∧ Below w.heap.size w w'
def CtImM (F : Nat) (R : Int → List (List Int) → List (List Int) → Prop) : Prop := ∀ (a : Int) (A : Option Addr) (n c : Nat) (vs : List SV) (xss : List (List Int)) (w : World), GIn w A n vs xss → I64 a →
  Calls Try.prog F #[.int .i64 a, .slice A n c] w fun e w' => ∃ A' m c' us l, e = .returned (.slice A' m c') ∧ SS w' w.heap.size w.heap.size A' m c' us l ∧ R a xss l ∧ Below w.heap.size w w'
def CtImsI (F : Nat) (R : Int → List (List Int) → List Int → Int → Prop) : Prop := ∀ (a : Int) (A : Option Addr) (n c : Nat) (vs : List SV) (xss : List (List Int)) (P : Option Addr) (np cp : Nat) (p : List Int) (w : World), GIn w A n vs xss → SIn w P np cp p → I64 a →
  Calls Try.prog F #[.int .i64 a, .slice A n c, .slice P np cp] w fun e w' => ∃ v, e = .returned (.int .i64 v) ∧ R a xss p v ∧ Below w.heap.size w w'
def CtImsB (F : Nat) (R : Int → List (List Int) → List Int → Bool → Prop) : Prop := ∀ (a : Int) (A : Option Addr) (n c : Nat) (vs : List SV) (xss : List (List Int)) (P : Option Addr) (np cp : Nat) (p : List Int) (w : World), GIn w A n vs xss → SIn w P np cp p → I64 a →
  Calls Try.prog F #[.int .i64 a, .slice A n c, .slice P np cp] w fun e w' => ∃ v, e = .returned (.bool v) ∧ R a xss p v ∧ Below w.heap.size w w'
def CtImsP (F : Nat) (R : Int → List (List Int) → List Int → List Int → Bool → Prop) : Prop := ∀ (a : Int) (A : Option Addr) (n c : Nat) (vs : List SV) (xss : List (List Int)) (P : Option Addr) (np cp : Nat) (p : List Int) (w : World), GIn w A n vs xss → SIn w P np cp p → I64 a →
  Calls Try.prog F #[.int .i64 a, .slice A n c, .slice P np cp] w fun e w' => ∃ A' m c' zs ok, e = .returned (.tuple #[.slice A' m c', .bool ok]) ∧ Slc w' w.heap.size A' m c' zs ∧ R a xss p zs ok ∧ Below w.heap.size w w'
def CtImmB (F : Nat) (R : Int → List (List Int) → List (List Int) → Bool → Prop) : Prop := ∀ (a : Int) (A : Option Addr) (n c : Nat) (vs : List SV) (xss : List (List Int)) (M : Option Addr) (m cm : Nat) (us : List SV) (yss : List (List Int)) (w : World), GIn w A n vs xss → GIn w M m us yss → I64 a →
  Calls Try.prog F #[.int .i64 a, .slice A n c, .slice M m cm] w fun e w' => ∃ v, e = .returned (.bool v) ∧ R a xss yss v ∧ Below w.heap.size w w'
def CtImiP (F : Nat) (R : Int → List (List Int) → Int → List Int → Bool → Prop) : Prop := ∀ (a : Int) (A : Option Addr) (n c : Nat) (vs : List SV) (xss : List (List Int)) (k : Int) (w : World), GIn w A n vs xss → I64 a → I64 k →
  Calls Try.prog F #[.int .i64 a, .slice A n c, .int .i64 k] w fun e w' => ∃ A' m c' zs ok, e = .returned (.tuple #[.slice A' m c', .bool ok]) ∧ Slc w' w.heap.size A' m c' zs ∧ R a xss k zs ok ∧ Below w.heap.size w w'
def CtImP (F : Nat) (R : Int → List (List Int) → List Int → Bool → Prop) : Prop := ∀ (a : Int) (A : Option Addr) (n c : Nat) (vs : List SV) (xss : List (List Int)) (w : World), GIn w A n vs xss → I64 a →
  Calls Try.prog F #[.int .i64 a, .slice A n c] w fun e w' => ∃ A' m c' zs ok, e = .returned (.tuple #[.slice A' m c', .bool ok]) ∧ Slc w' w.heap.size A' m c' zs ∧ R a xss zs ok ∧ Below w.heap.size w w'
end Go.Proofs.Ytcjcmhoalomjfaa

/- What the functions of chapter 5 answer. No Go in it. No condition. -/
namespace Go.Proofs.Ytcjcmhoalomjfaa
open Go.RowKit

/-- Generators, and a permutation of their degree. -/
def Vld (a : Int) (gs : List (List Int)) (p : List Int) : Prop := gB a gs = true ∧ (p.length : Int) = a ∧ isP p = true
def IsCmb (a : Int) (gs : List (List Int)) (p : List Int) (v : Int) : Prop := (Vld a gs p ∧ ∃ c : Nat, Rk a.toNat gs p c ∧ v = (c : Int)) ∨ (¬ Vld a gs p ∧ v = -1)
def IsRnk (a : Int) (gs : List (List Int)) (p : List Int) (v : Int) : Prop := (Memb a gs p ∧ ∃ c : Nat, Rk a.toNat gs p c ∧ v = (c : Int)) ∨ (¬ Memb a gs p ∧ v = -1)
def IsMat (a : Int) (gs : List (List Int)) (k : Int) (m : List Int) (ok : Bool) : Prop :=
  (gB a gs = true ∧ ok = true ∧ Mb gs a.toNat m ∧ ∃ c : Nat, Rk a.toNat gs m c ∧ k = (c : Int)) ∨ (ok = false ∧ m = [] ∧ (gB a gs = true → ∀ q, Mb gs a.toNat q → ∀ c : Nat, Rk a.toNat gs q c → k ≠ (c : Int)))
def IsNxt (a : Int) (gs : List (List Int)) (p m : List Int) (ok : Bool) : Prop :=
  (Vld a gs p ∧ ∃ (c : Nat) (b : Bool), Rk a.toNat gs p c ∧ (b = true ↔ Memb a gs p) ∧ IsMat a gs ((c : Int) + (if b = true then 1 else 0)) m ok) ∨ (¬ Vld a gs p ∧ m = [] ∧ ok = false)
def IsFst (a : Int) (gs : List (List Int)) (m : List Int) (ok : Bool) : Prop := IsMat a gs 1 m ok
/-- No more than 3000 members. -/
def Few (a : Int) (gs : List (List Int)) : Prop := gB a gs = true ∧ ∃ V : Nat, Crd (Mb gs a.toNat) V ∧ V ≤ 3000
def IsMbs (a : Int) (gs l : List (List Int)) : Prop := (Few a gs ∧ l.Pairwise (LxI a.toNat) ∧ ∀ p, p ∈ l ↔ Mb gs a.toNat p) ∨ (¬ Few a gs ∧ l = [])
/-- The states of the generator behind a seed. -/
def seed0 (s : Int) : Int := (s.tmod 999999937 + 999999937).tmod 999999937
def stt (s : Int) : Nat → Int
  | 0 => seed0 s
  | i + 1 => (stt s i * 48271 + 11).tmod 999999937
def IsRnd (a : Int) (gs : List (List Int)) (s : Int) (m : List Int) (ok : Bool) : Prop :=
  (gB a gs = true ∧ ok = true ∧ Mb gs a.toNat m ∧ ∀ i, i < a.toNat → ∀ zs, ChL a.toNat gs m i zs → (nx m i : Int) = zs.getD (((stt s (i + 1)).tmod (zs.length : Int)).toNat) 0) ∨ (gB a gs = false ∧ ok = false ∧ m = [])
theorem IsCmb.uniq {a v v' : Int} {gs : List (List Int)} {p : List Int} (h : IsCmb a gs p v) (h' : IsCmb a gs p v') : v = v' := by
  rcases h with ⟨e, c, h, rfl⟩ | ⟨e, rfl⟩ <;> rcases h' with ⟨e', c', h', rfl⟩ | ⟨e', rfl⟩
  · rw [Crd.uniq h h']
  · exact absurd e e'
  · exact absurd e' e
  · rfl
theorem IsRnk.uniq {a v v' : Int} {gs : List (List Int)} {p : List Int} (h : IsRnk a gs p v) (h' : IsRnk a gs p v') : v = v' := by
  rcases h with ⟨e, c, h, rfl⟩ | ⟨e, rfl⟩ <;> rcases h' with ⟨e', c', h', rfl⟩ | ⟨e', rfl⟩
  · rw [Crd.uniq h h']
  · exact absurd e e'
  · exact absurd e' e
  · rfl
theorem IsMat.uniq {a k : Int} {gs : List (List Int)} {m m' : List Int} {ok ok' : Bool} (h : IsMat a gs k m ok) (h' : IsMat a gs k m' ok') : m = m' ∧ ok = ok' := by
  rcases h with ⟨e, rfl, hm, c, hc, ek⟩ | ⟨rfl, rfl, hn⟩ <;> rcases h' with ⟨e', rfl, hm', c', hc', ek'⟩ | ⟨rfl, rfl, hn'⟩
  · obtain ⟨N, rfl, h1, h2, _, _, ok⟩ := gB_pm e
    rw [Int.toNat_natCast] at hm hm' hc hc'
    obtain rfl : c = c' := by omega
    exact ⟨rk_inj ok h1 h2 hc hc' hm hm', rfl⟩
  · exact absurd ek (hn' e m hm c hc)
  · exact absurd ek' (hn e' m' hm' c' hc')
  · exact ⟨rfl, rfl⟩
theorem IsMat.len {a k : Int} {gs : List (List Int)} {m : List Int} {ok : Bool} (h : IsMat a gs k m ok) : m.length ≤ 20 := by
  rcases h with ⟨e, _, hm, _⟩ | ⟨_, rfl, _⟩
  · obtain ⟨N, rfl, h1, h2, _, _, ok⟩ := gB_pm e
    rw [Int.toNat_natCast] at hm
    rw [(hm.pn ok h1 h2).2]; exact h2
  · simp
theorem IsNxt.uniq {a : Int} {gs : List (List Int)} {p m m' : List Int} {ok ok' : Bool} (h : IsNxt a gs p m ok) (h' : IsNxt a gs p m' ok') : m = m' ∧ ok = ok' := by
  rcases h with ⟨e, c, b, hc, hb, h⟩ | ⟨e, rfl, rfl⟩ <;> rcases h' with ⟨e', c', b', hc', hb', h'⟩ | ⟨e', rfl, rfl⟩
  · obtain rfl : c = c' := Crd.uniq hc hc'
    obtain rfl : b = b' := by rw [Bool.eq_iff_iff, hb, hb']
    exact h.uniq h'
  · exact absurd e e'
  · exact absurd e' e
  · exact ⟨rfl, rfl⟩
theorem IsNxt.len {a : Int} {gs : List (List Int)} {p m : List Int} {ok : Bool} (h : IsNxt a gs p m ok) : m.length ≤ 20 := by
  rcases h with ⟨_, c, b, _, _, h⟩ | ⟨_, rfl, _⟩
  · exact h.len
  · simp
theorem IsFst.uniq {a : Int} {gs : List (List Int)} {m m' : List Int} {ok ok' : Bool} (h : IsFst a gs m ok) (h' : IsFst a gs m' ok') : m = m' ∧ ok = ok' := IsMat.uniq h h'
theorem IsFst.len {a : Int} {gs : List (List Int)} {m : List Int} {ok : Bool} (h : IsFst a gs m ok) : m.length ≤ 20 := IsMat.len h
theorem lx_nodup {N : Nat} {l : List (List Int)} (h : l.Pairwise (LxI N)) : l.Nodup := List.Pairwise.imp (S := fun a b => a ≠ b) (fun {a b} hab e => by subst e; exact LxI.irr hab) h
theorem lx_sorted_uniq {N : Nat} {l l' : List (List Int)} (h : l.Pairwise (LxI N)) (h' : l'.Pairwise (LxI N)) (hm : ∀ p, p ∈ l ↔ p ∈ l') : l = l' := by
  have n1 := lx_nodup h
  have n2 := lx_nodup h'
  exact ((List.perm_ext_iff_of_nodup n1 n2).2 hm).eq_of_pairwise (le := LxI N) (fun a b _ _ h1 h2 => absurd (h1.trans h2) LxI.irr) h h'
theorem IsMbs.uniq {a : Int} {gs l l' : List (List Int)} (h : IsMbs a gs l) (h' : IsMbs a gs l') : l = l' := by
  rcases h with ⟨e, h, m⟩ | ⟨e, rfl⟩ <;> rcases h' with ⟨e', h', m'⟩ | ⟨e', rfl⟩
  · exact lx_sorted_uniq h h' fun p => (m p).trans (m' p).symm
  · exact absurd e e'
  · exact absurd e' e
  · rfl
theorem IsMbs.len {a : Int} {gs l : List (List Int)} (h : IsMbs a gs l) : l.length ≤ 3000 ∧ ∀ y ∈ l, y.length ≤ 20 := by
  rcases h with ⟨⟨e, V, hV, hle⟩, h, m⟩ | ⟨e, rfl⟩
  · obtain ⟨N, rfl, h1, h2, _, _, ok⟩ := gB_pm e
    rw [Int.toNat_natCast] at h m hV
    have n1 := lx_nodup h
    have : l.length ≤ V := crd_sub ⟨l, n1, fun _ => Iff.rfl, rfl⟩ hV fun x hx => (m x).1 hx
    exact ⟨by omega, fun y hy => by rw [(((m y).1 hy).pn ok h1 h2).2]; exact h2⟩
  · exact ⟨by simp, fun y hy => by cases hy⟩
theorem boundMbs {a : Int} {gs l : List (List Int)} (h : IsMbs a gs l) : l.length ≤ 1048576 ∧ (∀ i, i < l.length → (l.getD i []).length ≤ 1048576) ∧ sumL l ≤ 1048576 :=
  bound_all (m := 3000) (k := 20) h.len.1 h.len.2 (by omega)
/-- A list of the entries there is. -/
theorem ChL.ex {N i : Nat} {gs : List (List Int)} (hg : ∀ g ∈ gs, Pn N g) (h1 : 1 ≤ N) (h2 : N ≤ 20) (hi : i < N) (m : List Int) : ∃ zs, ChL N gs m i zs := by
  classical
  refine ⟨((List.range N).filter fun v => decide (∃ q, Mb gs N q ∧ Ag i q m ∧ nx q i = v)).map Int.ofNat, ?_, fun v => ?_⟩
  · rw [List.pairwise_map]
    exact (List.pairwise_lt_range.filter _).imp fun hab => by show (_ : Int) < _; exact Int.ofNat_lt.2 hab
  · rw [List.mem_map]
    constructor
    · rintro ⟨y, hy, rfl⟩
      obtain ⟨_, hq⟩ := List.mem_filter.1 hy
      obtain ⟨q, a, b, e⟩ := of_decide_eq_true hq
      exact ⟨q, a, b, by show _ = (y : Int); omega⟩
    · rintro ⟨q, a, b, rfl⟩
      exact ⟨nx q i, List.mem_filter.2 ⟨List.mem_range.2 ((a.pn hg h1 h2).lt hi), decide_eq_true ⟨q, a, b, rfl⟩⟩, rfl⟩
theorem IsRnd.uniq {a s : Int} {gs : List (List Int)} {m m' : List Int} {ok ok' : Bool} (h : IsRnd a gs s m ok) (h' : IsRnd a gs s m' ok') : m = m' ∧ ok = ok' := by
  rcases h with ⟨e, rfl, hm, h⟩ | ⟨e, rfl, rfl⟩ <;> rcases h' with ⟨e', rfl, hm', h'⟩ | ⟨e', rfl, rfl⟩
  · obtain ⟨N, rfl, h1, h2, _, _, ok⟩ := gB_pm e
    rw [Int.toNat_natCast] at hm hm' h h'
    have hp := hm.pn ok h1 h2
    have hp' := hm'.pn ok h1 h2
    have key : ∀ i, i ≤ N → Ag i m m' := fun i => by
      induction i with
      | zero => exact fun _ t ht => absurd ht (Nat.not_lt_zero _)
      | succ i ih =>
        intro hi
        have ha := ih (by omega)
        refine ag_succ.2 ⟨ha, ?_⟩
        obtain ⟨zs, hz⟩ := ChL.ex ok h1 h2 (show i < N by omega) m
        have e1 := h i (by omega) zs hz
        have e2 := h' i (by omega) zs (hz.ag ha)
        omega
    exact ⟨hp.ext hp' (key N (Nat.le_refl _)), rfl⟩
  · rw [e] at e'; cases e'
  · rw [e] at e'; cases e'
  · exact ⟨rfl, rfl⟩
theorem IsRnd.len {a s : Int} {gs : List (List Int)} {m : List Int} {ok : Bool} (h : IsRnd a gs s m ok) : m.length ≤ 20 := by
  rcases h with ⟨e, _, hm, _⟩ | ⟨_, _, rfl⟩
  · obtain ⟨N, rfl, h1, h2, _, _, ok⟩ := gB_pm e
    rw [Int.toNat_natCast] at hm
    rw [(hm.pn ok h1 h2).2]; exact h2
  · simp
end Go.Proofs.Ytcjcmhoalomjfaa

/- IsMember, LongestMemberPrefix and SameGroup of the model: what they answer. Conditions: at most 1048576 lists of at most 1048576 numbers. -/
namespace Go.Proofs.Ytcjcmhoalomjfaa
open Go.RowKit

/-- p's first k entries are those of a member, and no more of them are. -/
def LmpOK (N : Nat) (gs : List (List Int)) (p : List Int) (k : Nat) : Prop := k ≤ N ∧ (∃ q, Mb gs N q ∧ ∀ t, t < k → nx q t = nx p t) ∧ (k < N → ¬ ∃ q, Mb gs N q ∧ ∀ t, t ≤ k → nx q t = nx p t)
theorem LmpOK.uniq {N k k' : Nat} {gs : List (List Int)} {p : List Int} (h : LmpOK N gs p k) (h' : LmpOK N gs p k') : k = k' := by
  obtain ⟨a, ⟨q, hq, hq2⟩, b⟩ := h
  obtain ⟨a', ⟨q', hq', hq2'⟩, b'⟩ := h'
  rcases Nat.lt_trichotomy k k' with hl | hl | hl
  · exact absurd ⟨q', hq', fun t ht => hq2' t (by omega)⟩ (b (by omega))
  · exact hl
  · exact absurd ⟨q, hq, fun t ht => hq2 t (by omega)⟩ (b' (by omega))
/-- What LongestMemberPrefix answers. -/
def IsLmp (a : Int) (gs : List (List Int)) (p : List Int) (v : Int) : Prop :=
  (gB a gs = true ∧ (p.length : Int) = a ∧ isP p = true ∧ ∃ k : Nat, v = k ∧ LmpOK a.toNat gs p k) ∨ (¬ (gB a gs = true ∧ (p.length : Int) = a ∧ isP p = true) ∧ v = -1)
theorem IsLmp.uniq {a v v' : Int} {gs : List (List Int)} {p : List Int} (h : IsLmp a gs p v) (h' : IsLmp a gs p v') : v = v' := by
  rcases h with ⟨e1, e2, e3, k, rfl, h⟩ | ⟨e, rfl⟩ <;> rcases h' with ⟨e1', e2', e3', k', rfl, h'⟩ | ⟨e', rfl⟩
  · rw [h.uniq h']
  · exact absurd ⟨e1, e2, e3⟩ e'
  · exact absurd ⟨e1', e2', e3'⟩ e
  · rfl
/-- The two lists generate the same group. -/
def SameG (a : Int) (xs ys : List (List Int)) : Prop := gB a xs = true ∧ gB a ys = true ∧ (∀ g ∈ ys, Mb xs a.toNat g) ∧ ∀ g ∈ xs, Mb ys a.toNat g

theorem bool_of (P : Prop) : ∃ b : Bool, b = true ↔ P := by
  rcases Classical.em P with h | h
  · exact ⟨true, fun _ => h, fun _ => rfl⟩
  · exact ⟨false, fun e => (by cases e), fun e => absurd e h⟩
section
variable (a : Int) (A : Option Addr) (n c : Nat) (vs : List SV) (xss : List (List Int)) (w : World)
theorem specIsPB (N : Nat) (xs : List Int) (ans : Bool) (hx : RI w w.heap.size A xs) (lx : Hid (xs.length = n)) (hn : n ≤ 2097152) (hnc : n ≤ c) (ha : Hid (isP xs = ans)) :
    Calls Try.prog 83 #[.slice A n c] w fun e w' => e = .returned (.bool ans) ∧ Below w.heap.size w w' :=
  (quiet_below (specIsP A c n xs w hx lx hn hnc)).mono fun e w' ⟨he, hb⟩ => ⟨he.trans (ret_bool ha.out), hb⟩
set_option maxHeartbeats 1000000 in
theorem specIsPOf (N : Nat) (xs : List Int) (ans : Bool) (hx : RI w w.heap.size A xs) (lx : Hid (xs.length = n)) (hn : n ≤ 2097152) (hnc : n ≤ c) (ha : Hid ((decide (n = N) && isP xs) = ans)) :
    Calls Try.prog 75 #[.int .i64 (N : Nat), .slice A n c] w fun e w' => e = .returned (.bool ans) ∧ Below w.heap.size w w' := by
  have HX := Lib.hid hx
  clear hx
  by_cases e1 : n = N
  · subst e1
    have e0 : ((n : Int) == (n : Int)) = true := by simp
    have h1 : Hid (isP xs = ans) := Lib.hid (by rw [← ha.out]; simp)
    go_enter Try.func75, Try.ntmps75
    go_wp2_with (first | (go_at_call 83; refine (specIsPB A n c w n xs ans HX.out lx hn hnc h1).mono ?_; rintro e w1 ⟨rfl, b1⟩))
    go_ret
    exact ⟨rfl, b1⟩
  · have e0 : ((n : Int) == (N : Int)) = false := by simp; omega
    have h1 : Hid (ans = false) := Lib.hid (by rw [← ha.out]; simp [e1])
    go_enter Try.func75, Try.ntmps75
    go_wp2_with fail
    go_ret
    exact ⟨ret_bool h1.out.symm, Below.refl _ _⟩

set_option maxHeartbeats 2000000 in
set_option maxRecDepth 100000 in
theorem specHasAll (base g N m cm : Nat) (M : Option Addr) (us : List SV) (gs hs : List (List Int)) (ch : Ch) (L : LY) (hc : Cn w base g N ch L) (hw : Whole N gs ch) (hm : RR w w.heap.size M m us hs) (ok : Hid (∀ g ∈ hs, IsP g ∧ g.length = N)) (hN1 : 1 ≤ N) (hm8 : m ≤ 8) (fin : Bool) (hf : Hid (fin = true ↔ ∀ x ∈ hs, Mb gs N x)) :
    Calls Try.prog 61 #[.pointer (some ⟨g, 0, none⟩), .slice M m cm] w fun e w' => e = .returned (.bool fin) ∧ Below w.heap.size w w' := by
  have HC := Lib.hid hc
  have HW := Lib.hid hw
  have HM := Lib.hid hm
  have hlx : Hid (hs.length = m) := Lib.hid hm.lx
  clear hc hw hm
  go_enter Try.func61, Try.ntmps61
  go_wp2_with fail
  go_loopw [5] (fun i wr => ∃ k : Nat, k ≤ m ∧ i = .int .i64 (k : Nat) ∧ (∀ x ∈ hs.take k, Mb gs N x) ∧ Below w.heap.size w wr) (fun i _ => m - (intOf i).toNat)
  case atStart => exact ⟨0, Nat.zero_le _, rfl, fun x hx => by simp at hx, Below.refl _ _⟩
  case round =>
    obtain ⟨k, hk, rfl, hall, bel⟩ := hrel
    have Al := Lib.hid hall
    have Be := Lib.hid bel
    have C1 := Lib.hid (HC.out.up bel)
    clear hall bel
    by_cases hlt : k < m
    · obtain ⟨b, off, A5, l, c5, y, rfl, hb, hv, ey, x1, ri, ly, hl5⟩ := (HM.out.up Be.out).at_ hlt
      have hym : y ∈ hs := by rw [← ey]; exact getD_memL (by rw [hlx.out]; exact hlt)
      have hyP := ok.out y hym
      obtain rfl : l = N := by omega
      have Ri := Lib.hid ri
      have YP : Hid (Pn l y) := Lib.hid hyP
      have Ym := Lib.hid hym
      have Ey := Lib.hid ey
      have q0 : (0 : Int) ≤ k := by omega
      have q1 : (k : Int) < m := by omega
      obtain ⟨ans, hans⟩ : ∃ ans : Bool, ans = true ↔ Mb gs l y := by
        rcases Classical.em (Mb gs l y) with h | h
        · exact ⟨true, fun _ => h, fun _ => rfl⟩
        · exact ⟨false, fun e => (by cases e), fun e => absurd e h⟩
      have Ha := Lib.hid hans
      clear hv ey hb ri hyP hym hans
      go_wp2_with fail
      refine (specHas base g l c5 A5 ch L gs y wr C1.out HW.out Ri.out YP ans Ha).mono ?_
      rintro e w2 ⟨rfl, b2⟩
      have Be2 : Hid (Below w.heap.size w w2) := Lib.hid (btr Be.out b2)
      clear b2
      rcases ans with _ | _
      · have Fin : Hid (fin = false) := Lib.hid (by
          rcases hq : fin with _ | _
          · rfl
          · exact absurd (Ha.out.2 (hf.out.1 hq y Ym.out)) (by decide))
        go_wp2_with fail
        go_ret
        exact ⟨ret_bool Fin.out.symm, Be2.out⟩
      · have Al2 : Hid (∀ x ∈ hs.take (k + 1), Mb gs l x) := Lib.hid fun x hx => by
          rw [List.take_succ_eq_append_getElem (by rw [hlx.out]; exact hlt)] at hx
          rcases List.mem_append.1 hx with hx | hx
          · exact Al.out x hx
          · have e1 : hs[k]'(by rw [hlx.out]; exact hlt) = y := by rw [← Ey.out, List.getD_eq_getElem?_getD, List.getElem?_eq_getElem (by rw [hlx.out]; exact hlt)]; rfl
            rw [List.mem_singleton.1 hx, e1]; exact Ha.out.1 rfl
        go_wp2_with fail
        go_roundw
        case rel => exact ⟨k + 1, by omega, by go_num, Al2.out, Be2.out⟩
        case measure => simp [intOf]; omega
    · obtain rfl : k = m := by omega
      have Fin : Hid (fin = true) := Lib.hid (hf.out.2 fun x hx => Al.out x (by rw [List.take_of_length_le (by rw [hlx.out]; exact Nat.le_refl _)]; exact hx))
      go_wp2_with fail
      go_ret
      exact ⟨ret_bool Fin.out.symm, Be.out⟩
end
end Go.Proofs.Ytcjcmhoalomjfaa

/- What the functions of chapter 6 answer, and the shapes of their contracts. No Go in it. No condition. -/
namespace Go.Proofs.Ytcjcmhoalomjfaa
open Go.RowKit

/-- What xa generates lies in what xb generates. -/
def SubG (a : Int) (xa xb : List (List Int)) : Prop := gB a xa = true ∧ gB a xb = true ∧ ∀ g ∈ xa, Mb xb a.toNat g
def IsSub (a : Int) (xa xb : List (List Int)) (b : Bool) : Prop := b = true ↔ SubG a xa xb
def IsIdx (a : Int) (xa xb : List (List Int)) (v : Int) : Prop := (SubG a xa xb ∧ ∃ k : Nat, Crd (fun p => Mb xb a.toNat p ∧ CMin a.toNat (Mb xa a.toNat) p p) k ∧ v = (k : Int)) ∨ (¬ SubG a xa xb ∧ v = 0)
def IsSco (a : Int) (xa : List (List Int)) (p q : List Int) (b : Bool) : Prop := b = true ↔ Vld a xa p ∧ Vld a xa q ∧ Cos (Mb xa a.toNat) p q
def IsCmi (a : Int) (xa : List (List Int)) (p m : List Int) : Prop := (Vld a xa p ∧ CMin a.toNat (Mb xa a.toNat) p m) ∨ (¬ Vld a xa p ∧ m = [])
/-- At most 200 cosets. -/
def FewC (a : Int) (xa xb : List (List Int)) : Prop := SubG a xa xb ∧ ∃ k : Nat, Crd (fun p => Mb xb a.toNat p ∧ CMin a.toNat (Mb xa a.toNat) p p) k ∧ k ≤ 200
def IsRep (a : Int) (xa xb l : List (List Int)) : Prop := (FewC a xa xb ∧ l.Pairwise (LxI a.toNat) ∧ ∀ p, p ∈ l ↔ Mb xb a.toNat p ∧ CMin a.toNat (Mb xa a.toNat) p p) ∨ (¬ FewC a xa xb ∧ l = [])
def IsNor (a : Int) (xa xb : List (List Int)) (b : Bool) : Prop := b = true ↔ SubG a xa xb ∧ Nrm (Mb xb a.toNat) (Mb xa a.toNat)
def IsAbl (a : Int) (xa : List (List Int)) (b : Bool) : Prop := b = true ↔ gB a xa = true ∧ Abl (Mb xa a.toNat)
def IsCtr (a : Int) (xa : List (List Int)) (v : Int) : Prop := (Few a xa ∧ ∃ c : Nat, Crd (Ctr (Mb xa a.toNat)) c ∧ v = (c : Int)) ∨ (¬ Few a xa ∧ v = 0)
def IsDer (a : Int) (xa : List (List Int)) (v : Int) : Prop := (gB a xa = true ∧ ∃ c : Nat, Crd (Drv a.toNat (Mb xa a.toNat)) c ∧ v = (c : Int)) ∨ (gB a xa = false ∧ v = 0)

section
variable {a v v' : Int} {xa xb l l' : List (List Int)} {p q m m' : List Int} {b b' : Bool}
theorem gB_sgp (h : gB a xa = true) : Sgp a.toNat (Mb xa a.toNat) := by
  obtain ⟨N, rfl, h1, h2, _, _, ok⟩ := gB_pm h
  rw [Int.toNat_natCast]
  exact sgp_mb ok h1 h2
theorem gB_crd (h : gB a xa = true) : ∃ V, Crd (Mb xa a.toNat) V ∧ 1 ≤ V ∧ V ≤ 2432902008176640000 := by
  obtain ⟨N, rfl, h1, h2, _, _, ok⟩ := gB_pm h
  classical
  rw [Int.toNat_natCast]
  have hx : IsOS N xa ((List.range N).map fun i => (((List.range N).filter fun y => decide (∃ p, Mb xa N p ∧ Fx i p ∧ nx p i = y)).length : Int)) := ⟨by simp, fun i hi => ⟨(List.range N).filter fun y => decide (∃ p, Mb xa N p ∧ Fx i p ∧ nx p i = y), List.nodup_range.filter _, fun y => by rw [List.mem_filter, List.mem_range, decide_eq_true_eq], by
    rw [List.getD_eq_getElem?_getD, List.getElem?_map, List.getElem?_range hi]; rfl⟩⟩
  obtain ⟨V, hV, e⟩ := hx.order ok h1 h2
  have hp := hx.pr_le ok h1 h2 0 N (by omega)
  have hf := facts_le h2 (0 + N) (by omega)
  rw [prodL_pr, hx.1] at e
  exact ⟨V, hV, by omega, by omega⟩
theorem Vld.pn (h : Vld a xa p) : Pn a.toNat p := ⟨isP_iff.1 h.2.2, by have := h.2.1; omega⟩
theorem IsSub.uniq (h : IsSub a xa xb b) (h' : IsSub a xa xb b') : b = b' := by unfold IsSub at h h'; rw [Bool.eq_iff_iff, h, h']
theorem IsIdx.uniq (h : IsIdx a xa xb v) (h' : IsIdx a xa xb v') : v = v' := by
  rcases h with ⟨e, c, h, rfl⟩ | ⟨e, rfl⟩ <;> rcases h' with ⟨e', c', h', rfl⟩ | ⟨e', rfl⟩
  · rw [Crd.uniq h h']
  · exact absurd e e'
  · exact absurd e' e
  · rfl
theorem IsSco.uniq (h : IsSco a xa p q b) (h' : IsSco a xa p q b') : b = b' := by unfold IsSco at h h'; rw [Bool.eq_iff_iff, h, h']
theorem IsCmi.uniq (h : IsCmi a xa p m) (h' : IsCmi a xa p m') : m = m' := by
  rcases h with ⟨e, h⟩ | ⟨e, rfl⟩ <;> rcases h' with ⟨e', h'⟩ | ⟨e', rfl⟩
  · exact h.uniq (gB_sgp e.1) e.pn h'
  · exact absurd e e'
  · exact absurd e' e
  · rfl
theorem IsCmi.len (h : IsCmi a xa p m) : m.length ≤ 20 := by
  rcases h with ⟨e, h⟩ | ⟨_, rfl⟩
  · have hm := h.1.pn (gB_sgp e.1) e.pn
    have := hm.1.le
    exact this
  · simp
theorem IsRep.uniq (h : IsRep a xa xb l) (h' : IsRep a xa xb l') : l = l' := by
  rcases h with ⟨e, h, m⟩ | ⟨e, rfl⟩ <;> rcases h' with ⟨e', h', m'⟩ | ⟨e', rfl⟩
  · exact lx_sorted_uniq h h' fun p => (m p).trans (m' p).symm
  · exact absurd e e'
  · exact absurd e' e
  · rfl
theorem IsRep.len (h : IsRep a xa xb l) : l.length ≤ 200 ∧ ∀ y ∈ l, y.length ≤ 20 := by
  rcases h with ⟨⟨e, k, hk, hle⟩, h, m⟩ | ⟨_, rfl⟩
  · have n1 := lx_nodup h
    have : l.length ≤ k := crd_sub ⟨l, n1, fun _ => Iff.rfl, rfl⟩ hk fun x hx => (m x).1 hx
    refine ⟨by omega, fun y hy => ?_⟩
    have := ((gB_sgp e.2.1).pn y ((m y).1 hy).1).1.le
    exact this
  · exact ⟨by simp, fun y hy => by cases hy⟩
theorem boundRep (h : IsRep a xa xb l) : l.length ≤ 1048576 ∧ (∀ i, i < l.length → (l.getD i []).length ≤ 1048576) ∧ sumL l ≤ 1048576 :=
  bound_all (m := 200) (k := 20) h.len.1 h.len.2 (by omega)
theorem IsNor.uniq (h : IsNor a xa xb b) (h' : IsNor a xa xb b') : b = b' := by unfold IsNor at h h'; rw [Bool.eq_iff_iff, h, h']
theorem IsAbl.uniq (h : IsAbl a xa b) (h' : IsAbl a xa b') : b = b' := by unfold IsAbl at h h'; rw [Bool.eq_iff_iff, h, h']
theorem IsCtr.uniq (h : IsCtr a xa v) (h' : IsCtr a xa v') : v = v' := by
  rcases h with ⟨e, c, h, rfl⟩ | ⟨e, rfl⟩ <;> rcases h' with ⟨e', c', h', rfl⟩ | ⟨e', rfl⟩
  · rw [Crd.uniq h h']
  · exact absurd e e'
  · exact absurd e' e
  · rfl
theorem IsDer.uniq (h : IsDer a xa v) (h' : IsDer a xa v') : v = v' := by
  rcases h with ⟨e, c, h, rfl⟩ | ⟨e, rfl⟩ <;> rcases h' with ⟨e', c', h', rfl⟩ | ⟨e', rfl⟩
  · rw [Crd.uniq h h']
  · rw [e] at e'; cases e'
  · rw [e] at e'; cases e'
  · rfl
/-- The index by the orders. -/
theorem idx_ord {Va Vb : Nat} (hs : SubG a xa xb) (ha : Crd (Mb xa a.toNat) Va) (hb : Crd (Mb xb a.toNat) Vb) : ∃ k, Crd (fun p => Mb xb a.toNat p ∧ CMin a.toNat (Mb xa a.toNat) p p) k ∧ Vb = k * Va :=
  lagr (gB_sgp hs.2.1) (gB_sgp hs.1) (fun p hp => mb_le (gB_sgp hs.2.1) hs.2.2 hp) hb ha
end

/-! ### shapes -/
def CtImmI (F : Nat) (R : Int → List (List Int) → List (List Int) → Int → Prop) : Prop := ∀ (a : Int) (A : Option Addr) (n c : Nat) (vs : List SV) (xss : List (List Int)) (M : Option Addr) (m cm : Nat) (us : List SV) (yss : List (List Int)) (w : World), GIn w A n vs xss → GIn w M m us yss → I64 a →
  Calls Try.prog F #[.int .i64 a, .slice A n c, .slice M m cm] w fun e w' => ∃ v, e = .returned (.int .i64 v) ∧ R a xss yss v ∧ Below w.heap.size w w'
def CtImmM (F : Nat) (R : Int → List (List Int) → List (List Int) → List (List Int) → Prop) : Prop := ∀ (a : Int) (A : Option Addr) (n c : Nat) (vs : List SV) (xss : List (List Int)) (M : Option Addr) (m cm : Nat) (us : List SV) (yss : List (List Int)) (w : World), GIn w A n vs xss → GIn w M m us yss → I64 a →
  Calls Try.prog F #[.int .i64 a, .slice A n c, .slice M m cm] w fun e w' => ∃ A' m' c' us' l, e = .returned (.slice A' m' c') ∧ SS w' w.heap.size w.heap.size A' m' c' us' l ∧ R a xss yss l ∧ Below w.heap.size w w'
def CtImssB (F : Nat) (R : Int → List (List Int) → List Int → List Int → Bool → Prop) : Prop := ∀ (a : Int) (A : Option Addr) (n c : Nat) (vs : List SV) (xss : List (List Int)) (P : Option Addr) (np cp : Nat) (p : List Int) (Q : Option Addr) (nq cq : Nat) (q : List Int) (w : World), GIn w A n vs xss → SIn w P np cp p → SIn w Q nq cq q → I64 a →
  Calls Try.prog F #[.int .i64 a, .slice A n c, .slice P np cp, .slice Q nq cq] w fun e w' => ∃ v, e = .returned (.bool v) ∧ R a xss p q v ∧ Below w.heap.size w w'
def CtImsS (F : Nat) (R : Int → List (List Int) → List Int → List Int → Prop) : Prop := ∀ (a : Int) (A : Option Addr) (n c : Nat) (vs : List SV) (xss : List (List Int)) (P : Option Addr) (np cp : Nat) (p : List Int) (w : World), GIn w A n vs xss → SIn w P np cp p → I64 a →
  Calls Try.prog F #[.int .i64 a, .slice A n c, .slice P np cp] w fun e w' => ∃ A' m c' zs, e = .returned (.slice A' m c') ∧ Slc w' w.heap.size A' m c' zs ∧ R a xss p zs ∧ Below w.heap.size w w'
end Go.Proofs.Ytcjcmhoalomjfaa

/- LongestMemberPrefix and StrongGeneratingSet of the model: what they answer. Conditions: at most 1048576 lists of at most 1048576 numbers. -/
namespace Go.Proofs.Ytcjcmhoalomjfaa
open Go.RowKit

section
variable (a : Int) (A : Option Addr) (n c : Nat) (vs : List SV) (xss : List (List Int)) (w : World)

/-! ### StrongGeneratingSet -/
end
/-- The prefix for level i and point y. -/
def preOf (pr : Nat × Nat) : List Int := idL pr.1 ++ [(pr.2 : Int)]
/-- The smallest members for a list of levels and points, where there are any. -/
def Sgs (N : Nat) (gs : List (List Int)) : List (Nat × Nat) → List (List Int) → Prop
  | [], l => l = []
  | pr :: ps, l => ∃ m ok rest, IsMwp N gs (preOf pr) m ok ∧ Sgs N gs ps rest ∧ l = (if ok = true then [m] else []) ++ rest
theorem Sgs.snoc {N : Nat} {gs : List (List Int)} {m : List Int} {ok : Bool} {pr : Nat × Nat} (hm : IsMwp N gs (preOf pr) m ok) : ∀ {ps : List (Nat × Nat)} {l : List (List Int)}, Sgs N gs ps l → Sgs N gs (ps ++ [pr]) (l ++ if ok = true then [m] else [])
  | [], l, h => by
    obtain rfl : l = [] := h
    exact ⟨m, ok, [], hm, rfl, by simp⟩
  | p :: ps, l, h => by
    obtain ⟨m', ok', rest, h1, h2, rfl⟩ := h
    exact ⟨m', ok', _, h1, h2.snoc hm, by rw [List.append_assoc]⟩
theorem Sgs.uniq {N : Nat} {gs : List (List Int)} (h1 : 1 ≤ N) (h2 : N ≤ 20) (hg : ∀ g ∈ gs, Pn N g) : ∀ {ps : List (Nat × Nat)} {l l' : List (List Int)}, (∀ pr ∈ ps, pr.1 < N) → Sgs N gs ps l → Sgs N gs ps l' → l = l'
  | [], l, l', _, h, h' => by rw [show l = [] from h, show l' = [] from h']
  | p :: ps, l, l', hp, h, h' => by
    obtain ⟨m, ok, rest, a1, a2, rfl⟩ := h
    obtain ⟨m', ok', rest', b1, b2, rfl⟩ := h'
    have hl : (preOf p).length ≤ N := by
      have := hp p (by simp)
      unfold preOf; rw [List.length_append, idL_length]; simp; omega
    obtain ⟨e1, e2⟩ := a1.uniq h1 h2 hg hl b1
    rw [e1, e2, Sgs.uniq h1 h2 hg (fun pr hpr => hp pr (by simp [hpr])) a2 b2]
theorem Sgs.ok {N : Nat} {gs : List (List Int)} (h1 : 1 ≤ N) (h2 : N ≤ 20) (hg : ∀ g ∈ gs, Pn N g) : ∀ {ps : List (Nat × Nat)} {l : List (List Int)}, Sgs N gs ps l → l.length ≤ ps.length ∧ ∀ y ∈ l, Mb gs N y ∧ y.length = N
  | [], l, h => by rw [show l = [] from h]; simp
  | p :: ps, l, h => by
    obtain ⟨m, ok, rest, a1, a2, rfl⟩ := h
    obtain ⟨b1, b2⟩ := a2.ok h1 h2 hg
    rcases a1 with ⟨rfl, a1⟩ | ⟨rfl, _, _⟩
    · refine ⟨by simp; omega, fun y hy => ?_⟩
      simp at hy
      rcases hy with rfl | hy
      · exact ⟨a1.1, (a1.1.pn hg h1 h2).2⟩
      · exact b2 y hy
    · refine ⟨by simp; omega, fun y hy => b2 y (by simpa using hy)⟩
/-- The levels below k, and the points behind each. -/
def prsI (N i m : Nat) : List (Nat × Nat) := (List.range m).map fun t => (i, i + 1 + t)
def prs (N : Nat) : Nat → List (Nat × Nat)
  | 0 => []
  | k + 1 => prs N k ++ prsI N k (N - (k + 1))
theorem prsI_succ (N i m : Nat) : prsI N i (m + 1) = prsI N i m ++ [(i, i + 1 + m)] := by simp [prsI, List.range_succ]
theorem prs_lt (N : Nat) : ∀ k, k ≤ N → ∀ pr ∈ prs N k, pr.1 < N
  | 0, _, pr, h => by simp [prs] at h
  | k + 1, hk, pr, h => by
    rcases List.mem_append.1 h with h | h
    · exact prs_lt N k (by omega) pr h
    · simp only [prsI, List.mem_map] at h
      obtain ⟨t, _, rfl⟩ := h
      exact hk
theorem prs_len (N : Nat) : ∀ k, (prs N k).length ≤ k * N
  | 0 => by simp [prs]
  | k + 1 => by
    have := prs_len N k
    simp only [prs, prsI, List.length_append, List.length_map, List.length_range, Nat.add_mul, Nat.one_mul]
    omega
/-- What StrongGeneratingSet answers. -/
def IsSgs (a : Int) (gs l : List (List Int)) : Prop := (gB a gs = true ∧ Sgs a.toNat gs (prs a.toNat a.toNat) l) ∨ (gB a gs = false ∧ l = [])
theorem IsSgs.uniq {a : Int} {gs l l' : List (List Int)} (h : IsSgs a gs l) (h' : IsSgs a gs l') : l = l' := by
  rcases h with ⟨e, h⟩ | ⟨e, rfl⟩ <;> rcases h' with ⟨e', h'⟩ | ⟨e', rfl⟩
  · obtain ⟨N, rfl, h1, hN, _, _, ok⟩ := gB_pm e
    rw [Int.toNat_natCast] at h h'
    exact h.uniq h1 hN ok (prs_lt N N (Nat.le_refl _)) h'
  · rw [e] at e'; cases e'
  · rw [e] at e'; cases e'
  · rfl
end Go.Proofs.Ytcjcmhoalomjfaa

/- StrongGeneratingSet of the model. Conditions: at most 1048576 lists of at most 1048576 numbers. -/
namespace Go.Proofs.Ytcjcmhoalomjfaa
open Go.RowKit

theorem ownsRow_mid {w w' : World} {base n size lo : Nat} {e : TypeId} {v : Value} {xs : List Value} (h : w.ownsRow base e size v n xs) (hm : ∀ k, lo ≤ k → k < w.heap.size → w'.heap[k]? = w.heap[k]?) (hl : lo ≤ base) : w'.ownsRow base e size v n xs := by
  refine ⟨h.1, ?_⟩
  rcases h.2 with h0 | ⟨g, cap, cur, e2, hb, hg, rest⟩
  · exact .inl h0
  · exact .inr ⟨g, cap, cur, e2, hb, by rw [hm g (by omega) (Array.getElem?_eq_some_iff.1 hg).1]; exact hg, rest⟩
/-- The chain lies where its blocks lie. -/
theorem Cn.mid {w w' : World} {base g N lo : Nat} {c : Ch} {L : LY} (h : Cn w base g N c L) (hm : ∀ k, lo ≤ k → k < w.heap.size → w'.heap[k]? = w.heap[k]?) (hl : lo ≤ base) : Cn w' base g N c L :=
  ⟨(hm g (Nat.le_trans hl h.hg) h.blk.lt).trans h.blk, h.hg, ownsRow_mid h.own1 hm hl, fun i hi => ownsRow_mid (h.row1 i hi) hm hl, h.len1, fun i hi y hy => (h.ent1 i hi y hy).mid hm hl,
    ownsRow_mid h.own2 hm hl, fun i hi => ownsRow_mid (h.row2 i hi) hm hl, h.len2, fun i hi y hy => (h.ent2 i hi y hy).mid hm hl, h.dRG, h.dro, h.drg, h.dgv⟩

end Go.Proofs.Ytcjcmhoalomjfaa

/- What StabilizerOrder answers; isPointSet and moveToFront of the model. Conditions: at most 20 points; lists of at most 1048576 numbers. -/
namespace Go.Proofs.Ytcjcmhoalomjfaa
open Go.RowKit

/-- A strictly increasing list of points. -/
def PtS (N : Nat) (pts : List Int) : Prop := pts.length ≤ N ∧ ∀ i, i < pts.length → 0 ≤ pts.getD i 0 ∧ pts.getD i 0 < N ∧ (0 < i → pts.getD (i - 1) 0 < pts.getD i 0)
/-- What StabilizerOrder answers: how many members fix the points. -/
def IsStb (a : Int) (gs : List (List Int)) (pts : List Int) (v : Int) : Prop :=
  (gB a gs = true ∧ PtS a.toNat pts ∧ ∃ c : Nat, Crd (fun p => Mb gs a.toNat p ∧ Fxs pts p) c ∧ v = (c : Int)) ∨ (¬ (gB a gs = true ∧ PtS a.toNat pts) ∧ v = 0)
theorem IsStb.uniq {a v v' : Int} {gs : List (List Int)} {pts : List Int} (h : IsStb a gs pts v) (h' : IsStb a gs pts v') : v = v' := by
  rcases h with ⟨e, f, c, hc, rfl⟩ | ⟨e, rfl⟩ <;> rcases h' with ⟨e', f', c', hc', rfl⟩ | ⟨e', rfl⟩
  · rw [hc.uniq hc']
  · exact absurd ⟨e, f⟩ e'
  · exact absurd ⟨e', f'⟩ e
  · rfl
section
variable {N : Nat} {pts : List Int}
theorem PtS.lt (h : PtS N pts) {i : Nat} : ∀ j, i < j → j < pts.length → pts.getD i 0 < pts.getD j 0
  | 0, hij, _ => absurd hij (Nat.not_lt_zero _)
  | j + 1, hij, hj => by
    have h1 := (h.2 (j + 1) hj).2.2 (Nat.succ_pos j)
    rw [Nat.add_sub_cancel] at h1
    by_cases e : i = j
    · rw [e]; exact h1
    · have := h.lt (i := i) j (by omega) (by omega)
      omega
theorem gdx {l : List Int} {i : Nat} (h : i < l.length) : l.getD i 0 = l[i] := by
  rw [List.getD_eq_getElem?_getD, List.getElem?_eq_getElem h]; rfl
theorem PtS.nodup (h : PtS N pts) : pts.Nodup := List.pairwise_iff_getElem.2 fun i j hi hj hij => by
  have := h.lt j hij hj
  rw [gdx hi, gdx hj] at this
  exact fun e => by rw [e] at this; omega
theorem PtS.mem (h : PtS N pts) {x : Int} (hx : x ∈ pts) : 0 ≤ x ∧ x < N := by
  obtain ⟨i, hi, rfl⟩ := List.mem_iff_getElem.1 hx
  have := h.2 i hi
  rw [gdx hi] at this
  exact ⟨this.1, this.2.1⟩
theorem hasB_mem {l : List Int} {x : Int} : hasB l x = true ↔ x ∈ l := by
  unfold hasB
  rw [decide_eq_true_eq, List.mem_iff_getElem]
  exact ⟨fun ⟨j, hj, e⟩ => ⟨j, hj, by rw [← gdx hj, e]⟩, fun ⟨j, hj, e⟩ => ⟨j, hj, by rw [gdx hj, e]⟩⟩
/-- The points in a new order: those of the list, then the others. -/
def mtf (pts : List Int) (k : Nat) : List Int := pts ++ ((List.range k).map Int.ofNat).filter fun x => !hasB pts x
theorem mtf_zero : mtf pts 0 = pts := by simp [mtf]
theorem mtf_yes {k : Nat} (h : hasB pts (k : Int) = true) : mtf pts (k + 1) = mtf pts k := by
  unfold mtf
  rw [List.range_succ, List.map_append, List.filter_append]
  simp [h]
theorem mtf_no {k : Nat} (h : hasB pts (k : Int) = false) : mtf pts (k + 1) = mtf pts k ++ [(k : Int)] := by
  unfold mtf
  rw [List.range_succ, List.map_append, List.filter_append]
  simp [h]
theorem mtf_le (k : Nat) : (mtf pts k).length ≤ pts.length + k := by
  unfold mtf
  rw [List.length_append]
  have := List.length_filter_le (fun x => !hasB pts x) ((List.range k).map Int.ofNat)
  simp at this ⊢; omega
theorem mtf_pre (k : Nat) {j : Nat} (hj : j < pts.length) : (mtf pts k).getD j 0 = pts.getD j 0 := getD_app _ _ _ _ hj
theorem PtS.mtf_mem (h : PtS N pts) (x : Int) : x ∈ mtf pts N ↔ 0 ≤ x ∧ x < N := by
  unfold mtf
  rw [List.mem_append, List.mem_filter, List.mem_map]
  constructor
  · rintro (hx | ⟨⟨i, hi, rfl⟩, _⟩)
    · exact h.mem hx
    · have := List.mem_range.1 hi
      exact ⟨Int.natCast_nonneg _, by show (i : Int) < N; omega⟩
  · rintro ⟨h0, h1⟩
    by_cases hx : x ∈ pts
    · exact .inl hx
    · refine .inr ⟨⟨x.toNat, List.mem_range.2 (by omega), by show ((x.toNat : Nat) : Int) = x; omega⟩, ?_⟩
      rw [Bool.not_eq_true', ← Bool.not_eq_true, hasB_mem]; exact hx
theorem PtS.mtf_nd (h : PtS N pts) : (mtf pts N).Nodup := by
  unfold mtf
  refine List.nodup_append.2 ⟨h.nodup, (nd_mapA List.nodup_range fun x _ y _ e => Int.ofNat.inj e).filter _, fun a ha b hb e => ?_⟩
  subst e
  have h2 := (List.mem_filter.1 hb).2
  rw [Bool.not_eq_true', ← Bool.not_eq_true, hasB_mem] at h2
  exact h2 ha
theorem PtS.mtf_pn (h : PtS N pts) (h1 : 1 ≤ N) (h2 : N ≤ 20) : Pn N (mtf pts N) := by
  have hr : ((List.range N).map Int.ofNat).Nodup := nd_mapA List.nodup_range fun x _ y _ e => Int.ofNat.inj e
  have hl : (mtf pts N).length = N := by
    have a := nd_subA (l := (List.range N).map Int.ofNat) h.mtf_nd fun x hx => by
      have := (h.mtf_mem x).1 hx
      exact List.mem_map.2 ⟨x.toNat, List.mem_range.2 (by omega), by show ((x.toNat : Nat) : Int) = x; omega⟩
    have b := nd_subA (l := mtf pts N) hr fun x hx => by
      obtain ⟨i, hi, rfl⟩ := List.mem_map.1 hx
      have := List.mem_range.1 hi
      exact (h.mtf_mem _).2 ⟨Int.natCast_nonneg _, by show (i : Int) < N; omega⟩
    simp at a b; omega
  have hm : ∀ i, i < (mtf pts N).length → 0 ≤ (mtf pts N).getD i 0 ∧ (mtf pts N).getD i 0 < N := fun i hi => by
    rw [gdx hi]; exact (h.mtf_mem _).1 (List.getElem_mem hi)
  refine ⟨⟨by omega, by omega, fun i hi => (hm i hi).1, fun i hi => by have := (hm i hi).2; omega, fun i j hi hj e => ?_⟩, hl⟩
  rw [gdx hi, gdx hj] at e
  have hp := List.pairwise_iff_getElem.1 h.mtf_nd
  rcases Nat.lt_trichotomy i j with hl | hl | hl
  · exact absurd e (hp i j hi hj hl)
  · exact hl
  · exact absurd e.symm (hp j i hj hi hl)
end

/-- append of nothing. -/
theorem wpList_app0 {w : World} {ops : Array Oper} {rest : List Oper} {o : Oper} {a : Act} {Q : Exit → Act → World → Prop} (hgd : o.guard = none) (s x : Operand)
    (ho : o.op = .call { callee := .builtin .append, args := #[s, x], argTypes := #[33, 33] })
    (b : Option Addr) (sl sc : Nat) (hle : sl ≤ sc) (hs : a.eval s = .slice b sl sc) (A : Option Addr) (c : Nat) (hx : a.eval x = .slice A 0 c)
    (h : wpList Try.prog ops Q rest (a.put o.dst (.slice b sl sc)) w) : wpList Try.prog ops Q (o :: rest) a w := by
  obtain ⟨i0, hi, hz0, hz1, hz2⟩ := info_parts infoI
  refine wpList_plain hgd fun _ hK => ?_
  have hr := run_append_nothing (P := Try.prog) w 33 33 o.type 2 i0 Try.underlying33 hi b sl sc hle (.slice A 0 c)
    ⟨.inl ⟨_, Try.underlying33⟩, fun w' => by cases A <;> rfl, by cases A <;> simp [Builtin.firstCells, loadCells, loadCellsFrom], by cases A <;> simp [Builtin.firstCells, loadCells, loadCellsFrom], by simp, fun u hu => by cases hu⟩
  unfold Oper.wp execOp
  simp only [ho, resolve, invoke, builtin, Sem.run_bind, Sem.run_pure, Result.andThen_ok, List.map_toArray, List.map_cons, List.map_nil, hs, hx, hr]
  exact hK _ _ h

/-- copyInts of whatever can be read. -/
theorem copyAny (A : Option Addr) (n c : Nat) (xs : List Int) (w : World) (h : RI w w.heap.size A xs) (lx : Hid (xs.length = n)) (hn : n ≤ 1000000) :
    Calls Try.prog 107 #[.slice A n c] w fun e w' => ∃ A' c', e = .returned (.slice A' n c') ∧ Slc w' w.heap.size A' n c' xs ∧ Below w.heap.size w w' := by
  by_cases h0 : 0 < n
  · obtain ⟨b, off, rfl, hb, hc⟩ := h (by rw [lx.out]; exact h0)
    exact copyRI b off n c xs w h lx.out hn
  · obtain rfl : n = 0 := by omega
    obtain rfl : xs = [] := List.length_eq_zero_iff.1 lx.out
    have H0 := Lib.hid (Slc.lit0 w w.heap.size (Nat.le_refl _))
    have B0 : Hid (Below w.heap.size w (w.alloc (.cells #[] 2))) := Lib.hid ((Below.refl _ w).alloc (Nat.le_refl _) _)
    clear h lx
    go_enter Try.func107, Try.ntmps107
    go_wp2_with (first | (at_builtin; refine wpList_app0 rfl _ _ rfl _ 0 0 (Nat.le_refl _) rfl A c rfl ?_))
    go_ret
    exact ⟨_, _, rfl, H0.out, B0.out⟩



end Go.Proofs.Ytcjcmhoalomjfaa

/- StabilizerOrder of the model. Conditions: at most 1048576 lists of at most 1048576 numbers. -/
namespace Go.Proofs.Ytcjcmhoalomjfaa
open Go.RowKit

theorem Whole.pr_le {N : Nat} {gs : List (List Int)} {c : Ch} (h : Whole N gs c) (h1 : 1 ≤ N) (k : Nat) : ∀ m, k + m ≤ N → 1 ≤ pr (osL N c N) k m ∧ pr (osL N c N) k m ≤ (facts N (k + m) : Int)
  | 0, hm => by
    have := facts_pos (N := N) (m := k) (by omega)
    exact ⟨Int.le_refl _, by show (1 : Int) ≤ (facts N (k + 0) : Int); rw [Nat.add_zero]; omega⟩
  | m + 1, hm => by
    obtain ⟨a, b⟩ := h.pr_le h1 k m (by omega)
    obtain ⟨d, e⟩ := h.nr_pos h1 (i := k + m) (by omega)
    have ex : pr (osL N c N) k (m + 1) = pr (osL N c N) k m * (nr N c (k + m) N : Int) := by
      show _ * (osL N c N).getD (k + m) 0 = _
      rw [osL_at (by omega)]
    rw [ex]
    refine ⟨?_, ?_⟩
    · have := Int.mul_le_mul a (show (1 : Int) ≤ (nr N c (k + m) N : Int) by omega) (by omega) (by omega)
      simpa using this
    · have := Int.mul_le_mul b (show (nr N c (k + m) N : Int) ≤ ((N - (k + m) : Nat) : Int) by omega) (by omega) (by omega)
      show _ ≤ ((facts N (k + m) * (N - (k + m)) : Nat) : Int)
      rw [Int.natCast_mul]; exact this
theorem take_cj {gs : List (List Int)} {o : List Int} {k : Nat} {y : List Int} (hk : k < gs.length) (ey : gs.getD k [] = y) : (gs.take (k + 1)).map (cj o) = (gs.take k).map (cj o) ++ [cj o y] := by
  rw [List.getD_eq_getElem?_getD, List.getElem?_eq_getElem hk] at ey
  have e' : gs[k] = y := ey
  rw [List.take_succ_eq_append_getElem hk, List.map_append, e']; rfl

/-- One slice more on a slice of slices of the call's own. -/
theorem SS.snocV {w w' : World} {base bi n c : Nat} {A : Option Addr} {vs : List SV} {xss : List (List Int)} {A' : Option Addr} {c' : Nat} {d : SV} {ys : List Int} (hss : SS w base bi A n c vs xss) (hys : Slc w bi d.1 d.2.1 d.2.2 ys)
    (hdis : ∀ i, i < n → (sval (vs.getD i sd0)).ownBlock = none ∨ (sval (vs.getD i sd0)).ownBlock ≠ (sval d).ownBlock) (hown : w'.ownsRow base 33 1 (.slice A' (n + 1) c') (n + 1) (vs.map sval ++ [sval d])) (hg : w.grownBy w' (Value.slice A n c).ownBlock) :
    SS w' base bi A' (n + 1) c' (vs ++ [d]) (xss ++ [ys]) := by
  refine ⟨?_, by simp [hss.lv], by simp [hss.lx], fun i hi' => ?_, fun i j hij hj => ?_⟩
  · rw [List.map_append]; exact hown
  · by_cases e : i < n
    · rw [getD_app _ _ _ _ (by rw [hss.lv]; exact e), getD_app _ _ _ _ (by rw [hss.lx]; exact e)]
      exact (hss.row i e).kept hg (apart_types (hss.row i e) hss.own)
    · obtain rfl : i = n := by omega
      rw [getD_snoc _ _ _ _ hss.lv.symm, getD_snoc _ _ _ _ hss.lx.symm]
      exact hys.kept hg (apart_types hys hss.own)
  · rw [getD_app _ _ _ i (by rw [hss.lv]; omega)]
    by_cases e : j < n
    · rw [getD_app _ _ _ j (by rw [hss.lv]; exact e)]; exact hss.dis i j hij e
    · obtain rfl : j = n := by omega
      rw [getD_snoc _ _ _ _ hss.lv.symm]
      exact hdis i hij
end Go.Proofs.Ytcjcmhoalomjfaa

/- What the functions of chapter 4 answer, and that the model's do. No condition. -/
namespace Go.Proofs.Ytcjcmhoalomjfaa
open Go.RowKit

def IsMem (a : Int) (gs : List (List Int)) (p : List Int) (b : Bool) : Prop := b = true ↔ Memb a gs p
def IsSam (a : Int) (xs ys : List (List Int)) (b : Bool) : Prop := b = true ↔ SameG a xs ys
theorem IsMem.uniq {a : Int} {gs : List (List Int)} {p : List Int} {b b' : Bool} (h : IsMem a gs p b) (h' : IsMem a gs p b') : b = b' := memb_uniq h h'
theorem IsSam.uniq {a : Int} {xs ys : List (List Int)} {b b' : Bool} (h : IsSam a xs ys b) (h' : IsSam a xs ys b') : b = b' := by
  unfold IsSam at h h'; rw [Bool.eq_iff_iff, h, h']
theorem boundSgs {a : Int} {gs l : List (List Int)} (h : IsSgs a gs l) : l.length ≤ 1048576 ∧ (∀ i, i < l.length → (l.getD i []).length ≤ 1048576) ∧ sumL l ≤ 1048576 := by
  rcases h with ⟨e, h⟩ | ⟨e, rfl⟩
  · obtain ⟨N, rfl, h1, hN, _, _, ok⟩ := gB_pm e
    rw [Int.toNat_natCast] at h
    obtain ⟨a1, a2⟩ := h.ok h1 hN ok
    have a3 := prs_len N N
    have a4 : N * N ≤ 20 * 20 := Nat.mul_le_mul hN hN
    exact bound_all (m := 400) (k := 20) (by omega) (fun y hy => by rw [(a2 y hy).2]; exact hN) (by omega)
  · exact bound_all (m := 0) (k := 0) (Nat.le_refl _) (fun y hy => by cases hy) (by omega)

theorem ctOrd : CtImI 38 IsOrd := fun a A n c vs xss w g ha => specGroupOrder a A n c vs xss w g.rr g.hn (Lib.hid g.hl) ha
end Go.Proofs.Ytcjcmhoalomjfaa

/- How many members each choice of the model's chain has; the entries there are, of the model. Conditions: at most 20 points, 8 generators. -/
namespace Go.Proofs.Ytcjcmhoalomjfaa
open Go.RowKit

/-- What choicesAt answers, in the words of ranks. -/
theorem chL_ok {N i : Nat} {gs : List (List Int)} {c : Ch} {m : List Int} {zs : List Int} (hw : Whole N gs c) (h1 : 1 ≤ N) (h2 : N ≤ 20) (hg : ∀ g ∈ gs, Pn N g) (hi : i < N) (hm : Mb gs N m) (hp : zs.Perm (chL c i m N)) (ho : zs.Pairwise (· ≤ ·)) : ChL N gs m i zs := by
  have hmp := hm.pn hg h1 h2
  have hn : (chL c i m N).Nodup := nd_mapA (List.nodup_range.filter _) fun x hx y hy e => hmp.inj (List.mem_range.1 (List.mem_filter.1 hx).1) (List.mem_range.1 (List.mem_filter.1 hy).1) (by omega)
  have hz : zs.Nodup := hp.nodup_iff.2 hn
  refine ⟨List.Pairwise.imp (S := fun a b => a < b) (fun {a b} hab => by have := hab.1; have := hab.2; omega) (ho.and hz), fun v => ?_⟩
  rw [hp.mem_iff, hw.choice h1 h2 hg hi hm]
  exact Iff.rfl

end Go.Proofs.Ytcjcmhoalomjfaa

/- countBelow of the model: how many members precede a permutation. Conditions: at most 20 points, 8 generators. -/
namespace Go.Proofs.Ytcjcmhoalomjfaa
open Go.RowKit

theorem first_ge (zs : List Int) (v : Int) : ∃ K, K ≤ zs.length ∧ (∀ j, j < K → zs.getD j 0 < v) ∧ (K < zs.length → v ≤ zs.getD K 0) := by
  have h : ∀ n, n ≤ zs.length → (∀ j, j < n → zs.getD j 0 < v) ∨ ∃ K, K < n ∧ (∀ j, j < K → zs.getD j 0 < v) ∧ v ≤ zs.getD K 0 := fun n => by
    induction n with
    | zero => exact fun _ => .inl fun j h => absurd h (Nat.not_lt_zero _)
    | succ n ih =>
      intro hn
      rcases ih (by omega) with h | ⟨K, a, b, d⟩
      · by_cases e : zs.getD n 0 < v
        · exact .inl fun j hj => by
            by_cases e2 : j = n
            · subst e2; exact e
            · exact h j (by omega)
        · exact .inr ⟨n, by omega, h, by omega⟩
      · exact .inr ⟨K, by omega, b, d⟩
  rcases h zs.length (Nat.le_refl _) with h | ⟨K, a, b, d⟩
  · exact ⟨zs.length, Nat.le_refl _, h, fun h => absurd h (Nat.lt_irrefl _)⟩
  · exact ⟨K, by omega, b, fun _ => d⟩
/-- The order of a group of at most 20 points. -/
theorem IsOS.ordB {N : Nat} {gs : List (List Int)} {xs : List Int} (h : IsOS N gs xs) (hg : ∀ g ∈ gs, Pn N g) (h1 : 1 ≤ N) (h2 : N ≤ 20) : ∃ V, Crd (Mb gs N) V ∧ prodL xs = (V : Int) ∧ V ≤ 2432902008176640000 := by
  obtain ⟨V, hV, e⟩ := h.order hg h1 h2
  have := h.pr_le hg h1 h2 0 N (by omega)
  have hf := facts_le h2 (0 + N) (by omega)
  rw [prodL_pr, h.1] at e
  exact ⟨V, hV, by rw [prodL_pr, h.1]; exact e, by omega⟩

end Go.Proofs.Ytcjcmhoalomjfaa

/- IsSubgroup, SubgroupIndex and SameCoset of the model: what they answer. Conditions: at most 1048576 lists of at most 1048576 numbers. -/
namespace Go.Proofs.Ytcjcmhoalomjfaa
open Go.RowKit

set_option maxHeartbeats 2000000 in
set_option maxRecDepth 100000 in
theorem ctSub : CtImmB 21 IsSub := by
  intro a A n c vs xss M m cm us yss w g s ha
  have HX := Lib.hid g.rr
  have HY := Lib.hid s.rr
  have hlx : Hid (xss.length = n) := Lib.hid g.rr.lx
  have hly : Hid (yss.length = m) := Lib.hid s.rr.lx
  have hn := g.hn
  have hm := s.hn
  have hl := Lib.hid g.hl
  have hl2 := Lib.hid s.hl
  clear g s
  go_enter Try.func21, Try.ntmps21
  rcases hs : gB a xss with _ | _
  · have Fin : Hid (IsSub a xss yss false) := Lib.hid ⟨fun h => (by cases h), fun h => (by have := h.1; rw [hs] at this; cases this)⟩
    have Hs := Lib.hid hs
    clear hs
    go_wp2_with (first
      | (go_at_call 35; refine (specGS a A n c vs xss w HX.out hn hl ha).mono ?_; rintro e w1 ⟨rfl, b1⟩; rw [Hs.out]; have B1 := Lib.hid b1; clear b1))
    go_ret
    exact ⟨_, rfl, Fin.out, B1.out⟩
  · have Hs := Lib.hid hs
    rcases hs2 : gB a yss with _ | _
    · have Fin : Hid (IsSub a xss yss false) := Lib.hid ⟨fun h => (by cases h), fun h => (by have := h.2.1; rw [hs2] at this; cases this)⟩
      have Hs2 := Lib.hid hs2
      clear hs hs2
      go_wp2_with (first
        | (go_at_call_of 35 (Value.slice A n c); refine (specGS a A n c vs xss w HX.out hn hl ha).mono ?_; rintro e w1 ⟨rfl, b1⟩; rw [Hs.out]; have B1 := Lib.hid b1; clear b1)
        | (go_at_call_of 35 (Value.slice M m cm); refine (specGS a M m cm us yss w1 (HY.out.up B1.out) hm hl2 ha).mono ?_; rintro e w2 ⟨rfl, b2⟩; rw [Hs2.out]; have B2 := Lib.hid b2; clear b2))
      go_ret
      exact ⟨_, rfl, Fin.out, btr B1.out B2.out⟩
    · obtain ⟨N, rfl, hN1, hN2, hg8, hpm, hok⟩ := gB_pm hs
      obtain ⟨N', eN, _, _, hg8b, _, hok2⟩ := gB_pm hs2
      obtain rfl : N = N' := by omega
      have Hs2 := Lib.hid hs2
      have Ok := Lib.hid hok
      have Ok2 := Lib.hid hok2
      have hn8 : n ≤ 8 := by rw [← hlx.out]; exact hg8
      have hm8 : m ≤ 8 := by rw [← hly.out]; exact hg8b
      obtain ⟨ans, hans⟩ := bool_of (∀ x ∈ xss, Mb yss N x)
      have Ha := Lib.hid hans
      have Fin : Hid (IsSub N xss yss ans) := Lib.hid ⟨fun h => ⟨Hs.out, Hs2.out, by rw [Int.toNat_natCast]; exact Ha.out.1 h⟩, fun h => Ha.out.2 (by have := h.2.2; rwa [Int.toNat_natCast] at this)⟩
      clear hs hs2 hpm hok hok2 hg8 hg8b eN hans
      go_wp2_with (first
        | (go_at_call_of 35 (Value.slice A n c); refine (specGS N A n c vs xss w HX.out hn hl ha).mono ?_; rintro e w1 ⟨rfl, b1⟩; rw [Hs.out]; have B1 := Lib.hid b1; clear b1)
        | (go_at_call_of 35 (Value.slice M m cm); refine (specGS N M m cm us yss w1 (HY.out.up B1.out) hm hl2 ha).mono ?_; rintro e w2 ⟨rfl, b2⟩; rw [Hs2.out]; have B2 : Hid (Below w.heap.size w w2) := Lib.hid (btr B1.out b2); clear b2)
        | (go_at_call 62; refine (specBuild N m cm M us yss w2 (HY.out.up B2.out) hN1 hN2 hm8 Ok2).mono ?_; rintro e w3 ⟨g, L, ch, rfl, hc, hw, b3⟩; have W3 := Lib.hid hw; have C3 := Lib.hid hc; have B3 : Hid (Below w.heap.size w w3) := Lib.hid (btr B2.out b3); clear hc hw b3)
        | (go_at_call 61; refine (specHasAll w3 w2.heap.size g N n c A vs yss xss ch L C3.out W3.out (HX.out.up B3.out) Ok hN1 hn8 ans Ha).mono ?_; rintro e w4 ⟨rfl, b4⟩; have B4 : Hid (Below w.heap.size w w4) := Lib.hid (btr B3.out b4); clear b4))
      go_ret
      exact ⟨_, rfl, Fin.out, B4.out⟩

/-! ### what the orders tell of the index -/
section
variable {a va vb : Int} {xa xb : List (List Int)}
theorem ord_nat (h : IsOrd a xa va) (hs : gB a xa = true) : ∃ V : Nat, va = (V : Int) ∧ Crd (Mb xa a.toNat) V ∧ 1 ≤ V ∧ V ≤ 2432902008176640000 := by
  rcases h with ⟨_, xs, h, rfl⟩ | ⟨e, _⟩
  · obtain ⟨N, rfl, h1, h2, _, _, ok⟩ := gB_pm hs
    rw [Int.toNat_natCast] at h ⊢
    obtain ⟨V, hV, e, hb⟩ := h.ordB ok h1 h2
    have : 1 ≤ V := crd_sub (crd_one (idL N)) hV fun x hx => by subst hx; exact .one
    exact ⟨V, e, hV, this, hb⟩
  · rw [hs] at e; cases e
theorem ord_idx (hs : SubG a xa xb) (ha : IsOrd a xa va) (hb : IsOrd a xb vb) : ∃ Va Vb : Nat, va = (Va : Int) ∧ vb = (Vb : Int) ∧ 1 ≤ Va ∧ Vb ≤ 2432902008176640000 ∧ IsIdx a xa xb ((Vb / Va : Nat) : Int) := by
  obtain ⟨Va, e1, c1, l1, _⟩ := ord_nat ha hs.1
  obtain ⟨Vb, e2, c2, _, l2⟩ := ord_nat hb hs.2.1
  obtain ⟨k, hk, e⟩ := idx_ord hs c1 c2
  refine ⟨Va, Vb, e1, e2, l1, l2, .inl ⟨hs, k, hk, ?_⟩⟩
  rw [e, Nat.mul_div_cancel _ (by omega)]
end

set_option maxHeartbeats 2000000 in
set_option maxRecDepth 100000 in
theorem ctIdx : CtImmI 19 IsIdx := by
  intro a A n c vs xss M m cm us yss w g s ha
  have G := Lib.hid g
  have S := Lib.hid s
  clear g s
  go_enter Try.func19, Try.ntmps19
  go_wp2_with fail
  refine (ctSub a A n c vs xss M m cm us yss w G.out S.out ha).mono ?_
  rintro e w1 ⟨v, rfl, hv, b1⟩
  have B1 := Lib.hid b1
  clear b1
  rcases v with _ | _
  · have Fin : Hid (IsIdx a xss yss 0) := Lib.hid (.inr ⟨fun h => absurd (hv.2 h) (by decide), rfl⟩)
    clear hv
    go_wp2_with fail
    go_ret
    exact ⟨_, rfl, Fin.out, B1.out⟩
  · have Hs : Hid (SubG a xss yss) := Lib.hid (hv.1 rfl)
    clear hv
    go_wp2_with fail
    refine (ctOrd a M m cm us yss w1 (S.out.up B1.out) ha).mono ?_
    rintro e w2 ⟨vb, rfl, hb, b2⟩
    have Hb := Lib.hid hb
    have B2 : Hid (Below w.heap.size w w2) := Lib.hid (btr B1.out b2)
    clear hb b2
    go_wp2_with fail
    refine (ctOrd a A n c vs xss w2 (G.out.up B2.out) ha).mono ?_
    rintro e w3 ⟨va, rfl, ha', b3⟩
    have B3 : Hid (Below w.heap.size w w3) := Lib.hid (btr B2.out b3)
    obtain ⟨Va, Vb, rfl, rfl, l1, l2, hi⟩ := ord_idx Hs.out ha' Hb.out
    obtain ⟨k, ek⟩ : ∃ k, Vb / Va = k := ⟨_, rfl⟩
    have hk : k ≤ Vb := by rw [← ek]; exact Nat.div_le_self _ _
    have e1 : (Vb : Int).tdiv (Va : Int) = (k : Int) := by rw [← ek]; exact (Int.ofNat_tdiv Vb Va).symm
    have e2 : ((Va : Int) == 0) = false := by rw [beq_eq_false_iff_ne]; omega
    rw [ek] at hi
    have Fin := Lib.hid hi
    clear ha' b3 hi ek
    go_wp2_with fail
    go_ret
    exact ⟨_, rfl, Fin.out, B3.out⟩

set_option maxHeartbeats 4000000 in
set_option maxRecDepth 100000 in
theorem ctSco : CtImssB 29 IsSco := by
  intro a A n c vs xss P np cp p Q nq cq q w g s t ha
  have HX := Lib.hid g.rr
  have hlx : Hid (xss.length = n) := Lib.hid g.rr.lx
  have hn := g.hn
  have hl := Lib.hid g.hl
  have HP := Lib.hid s.ri
  have lp := Lib.hid s.lp
  have hnp := s.hn
  have hpc := s.hc
  have HQ := Lib.hid t.ri
  have lq := Lib.hid t.lp
  have hnq := t.hn
  have hqc := t.hc
  clear g s t
  go_enter Try.func29, Try.ntmps29
  go_wp2_with fail
  refine (specGS a A n c vs xss w HX.out hn hl ha).mono ?_
  rintro e w1 ⟨rfl, b1⟩
  have B1 := Lib.hid b1
  clear b1
  rcases hs : gB a xss with _ | _
  · have Fin : Hid (IsSco a xss p q false) := Lib.hid ⟨fun h => (by cases h), fun h => (by have := h.1.1; rw [hs] at this; cases this)⟩
    clear hs
    go_wp2_with fail
    go_ret
    exact ⟨_, rfl, Fin.out, B1.out⟩
  · obtain ⟨N, rfl, hN1, hN2, hg8, hpm, hok⟩ := gB_pm hs
    have Hs := Lib.hid hs
    have Ok := Lib.hid hok
    have hn8 : n ≤ 8 := by rw [← hlx.out]; exact hg8
    clear hs hpm hok hg8
    obtain ⟨ip, hip⟩ : ∃ ip, (decide (np = N) && isP p) = ip := ⟨_, rfl⟩
    have Hip := Lib.hid hip
    clear hip
    go_wp2_with fail
    refine (specIsPOf P np cp w1 N p ip (HP.out.up B1.out) lp (by omega) hpc Hip).mono ?_
    rintro e w2 ⟨rfl, b2⟩
    have B2 : Hid (Below w.heap.size w w2) := Lib.hid (btr B1.out b2)
    clear b2
    rcases ip with _ | _
    · have Fin : Hid (IsSco N xss p q false) := Lib.hid ⟨fun h => (by cases h), fun h => (by
        have h1 := h.1.2.1
        have h3 := Hip.out
        rw [lp.out] at h1
        have h2 : np = N := by omega
        rw [h2, h.1.2.2] at h3; simp at h3)⟩
      go_wp2_with fail
      go_ret
      exact ⟨_, rfl, Fin.out, B2.out⟩
    · have h3 := Hip.out
      rw [Bool.and_eq_true, decide_eq_true_eq] at h3
      obtain ⟨rfl, hp1⟩ := h3
      have PP : Hid (Pn np p) := Lib.hid ⟨isP_iff.1 hp1, lp.out⟩
      have VP : Hid (Vld np xss p) := Lib.hid ⟨Hs.out, by rw [lp.out], hp1⟩
      clear hp1
      obtain ⟨iq, hiq⟩ : ∃ iq, (decide (nq = np) && isP q) = iq := ⟨_, rfl⟩
      have Hiq := Lib.hid hiq
      clear hiq
      go_wp2_with fail
      refine (specIsPOf Q nq cq w2 np q iq (HQ.out.up B2.out) lq (by omega) hqc Hiq).mono ?_
      rintro e w3 ⟨rfl, b3⟩
      have B3 : Hid (Below w.heap.size w w3) := Lib.hid (btr B2.out b3)
      clear b3
      rcases iq with _ | _
      · have Fin : Hid (IsSco np xss p q false) := Lib.hid ⟨fun h => (by cases h), fun h => (by
          have h1 := h.2.1.2.1
          have h3 := Hiq.out
          rw [lq.out] at h1
          have h2 : nq = np := by omega
          rw [h2, h.2.1.2.2] at h3; simp at h3)⟩
        go_wp2_with fail
        go_ret
        exact ⟨_, rfl, Fin.out, B3.out⟩
      · have h3 := Hiq.out
        rw [Bool.and_eq_true, decide_eq_true_eq] at h3
        obtain ⟨rfl, hq1⟩ := h3
        have QQ : Hid (Pn nq q) := Lib.hid ⟨isP_iff.1 hq1, lq.out⟩
        have VQ : Hid (Vld nq xss q) := Lib.hid ⟨Hs.out, by rw [lq.out], hq1⟩
        clear hq1
        obtain ⟨ans, hans⟩ := bool_of (Mb xss nq (compL q (iv p)))
        have Ha := Lib.hid hans
        have Fin : Hid (IsSco nq xss p q ans) := Lib.hid ⟨fun h => ⟨VP.out, VQ.out, by
          rw [Int.toNat_natCast]; exact (cos_iff (sgp_mb Ok.out hN1 hN2) PP.out QQ.out).2 (Ha.out.1 h)⟩, fun h => Ha.out.2 (by
          have h4 := h.2.2
          rw [Int.toNat_natCast] at h4
          exact (cos_iff (sgp_mb Ok.out hN1 hN2) PP.out QQ.out).1 h4)⟩
        have e0 : Hid (invL p nq = iv p) := Lib.hid (by unfold iv; rw [lp.out])
        clear hans
        go_wp2_with fail
        refine (specBuild nq n c A vs xss w3 (HX.out.up B3.out) hN1 hN2 hn8 Ok).mono ?_
        rintro e w4 ⟨g, L, ch, rfl, hc, hw, b4⟩
        have W4 := Lib.hid hw
        have C4 := Lib.hid hc
        have B4 : Hid (Below w.heap.size w w4) := Lib.hid (btr B3.out b4)
        clear hc hw b4
        go_wp2_with fail
        refine (specInv P cp nq p w4 (HP.out.up B4.out) lp (Lib.hid PP.out.1) hN2).mono ?_
        rintro e w5 ⟨A5, c5, rfl, s5, b5⟩
        rw [e0.out] at s5
        have S5 := Lib.hid s5
        have C5 := Lib.hid (C4.out.up b5)
        have B5 : Hid (Below w.heap.size w w5) := Lib.hid (btr B4.out b5)
        clear s5 b5
        go_wp2_with fail
        refine (specComp Q A5 cq c5 nq q (iv p) w5 (HQ.out.up B5.out) S5.out.ri_ lq (Lib.hid PP.out.iv.2) (Lib.hid QQ.out.1) hN2).mono ?_
        rintro e w6 ⟨A6, c6, rfl, s6, b6⟩
        have S6 := Lib.hid s6
        have C6 := Lib.hid (C5.out.up b6)
        have B6 : Hid (Below w.heap.size w w6) := Lib.hid (btr B5.out b6)
        clear s6 b6
        go_wp2_with fail
        refine (specHas w3.heap.size g nq c6 A6 ch L xss (compL q (iv p)) w6 C6.out W4.out S6.out.ri_ (Lib.hid (QQ.out.comp PP.out.iv)) ans Ha).mono ?_
        rintro e w7 ⟨rfl, b7⟩
        have B7 : Hid (Below w.heap.size w w7) := Lib.hid (btr B6.out b7)
        clear b7
        go_wp2_with fail
        go_ret
        exact ⟨_, rfl, Fin.out, B7.out⟩
end Go.Proofs.Ytcjcmhoalomjfaa

/- The size of a slice of slices against whatever is left. No condition. -/
namespace Go.Proofs.Ytcjcmhoalomjfaa
open Go.RowKit

set_option maxHeartbeats 1000000 in
theorem szSS2 (A : Option Addr) (n c : Nat) (left : Int) (vs : List SV) (xss : List (List Int)) (w : World) (hx : RR w w.heap.size A n vs xss) (hn : n ≤ maxLen) (hl : Hid (∀ i, i < n → (vs.getD i sd0).2.1 ≤ maxLen)) (h0 : 0 ≤ left) (h1 : left ≤ 1048576) :
    Calls Try.prog 40 #[.slice A n c, .int .i64 left] w fun e w' => e = .returned (.int .i64 (if ((n + tot vs n : Nat) : Int) ≤ left then left - ((n + tot vs n : Nat) : Int) else -1)) ∧ w = w' := by
  have HX := Lib.hid hx
  clear hx
  have hn' := hn
  unfold maxLen at hn'
  obtain ⟨r, er⟩ : ∃ r : Int, (if ((n + tot vs n : Nat) : Int) ≤ left then left - ((n + tot vs n : Nat) : Int) else -1) = r := ⟨_, rfl⟩
  rw [er]
  have Er := Lib.hid er
  clear er
  by_cases h : (n : Int) ≤ left
  · have d : decide (left - (n : Int) < 0) = false := by simp; omega
    have hwl : IntKind.i64.wrap (left - (n : Int)) = left - (n : Int) := by rw [IntKind.wrap_i64]; omega
    go_enter Try.func40, Try.ntmps40
    go_wp2
    go_loop [1, 5] (fun v i => ∃ (k T : Nat), k ≤ n ∧ Hid (tot vs k = T) ∧ ((n + T : Nat) : Int) ≤ left ∧ i = .int .i64 (k : Nat) ∧ v = .int .i64 (left - ((n + T : Nat) : Int))) (fun _ i => n - (intOf i).toNat)
    case atStart => exact ⟨0, 0, Nat.zero_le _, Lib.hid rfl, by omega, rfl, by go_num⟩
    case round =>
      obtain ⟨k, T, hk, hT, hT1, rfl, rfl⟩ := hrel
      clear hwl
      by_cases hlt : k < n
      · obtain ⟨b, off, A5, l, c5, y, rfl, hb, ev, ey, hc, hr, hy, hlc⟩ := HX.out.at_ hlt
        have hl1 := hl.out k hlt
        have hT2 : Hid (tot vs (k + 1) = T + l) := Lib.hid (by rw [tot_succ, hT.out, ev])
        have hm : Hid (tot vs (k + 1) ≤ tot vs n) := Lib.hid (tot_mono hlt)
        rw [ev] at hl1
        clear ev ey hr
        by_cases hfit : ((n + T + l : Nat) : Int) ≤ left
        · have d2 : decide (left - ((n + T : Nat) : Int) - (l : Int) < 0) = false := by simp; omega
          go_wp2_with fail
          refine (szS A5 l c5 _ w (by omega) (by omega) hl1).mono ?_
          rintro e w1 ⟨rfl, rfl⟩
          rw [if_pos (by omega)]
          go_wp2
          go_round
          case rel => exact ⟨k + 1, T + l, by omega, hT2, by omega, by go_num, by go_num⟩
          case measure => simp [intOf]; omega
        · go_wp2_with fail
          refine (szS A5 l c5 _ w (by omega) (by omega) hl1).mono ?_
          rintro e w1 ⟨rfl, rfl⟩
          rw [if_neg (by omega)]
          go_wp2
          go_ret
          exact ⟨by rw [← Er.out, if_neg (by have := hm.out; rw [hT2.out] at this; omega)]; rfl, rfl⟩
      · have hkn : k = n := by omega
        subst hkn
        go_wp2
        go_ret
        exact ⟨by rw [← Er.out, hT.out, if_pos hT1]; go_num, rfl⟩
  · have d : decide (left - (n : Int) < 0) = true := by simp; omega
    have er2 : r = -1 := by rw [← Er.out, if_neg (by omega)]
    have hwl : IntKind.i64.wrap (left - (n : Int)) = left - (n : Int) := by rw [IntKind.wrap_i64]; omega
    subst er2
    go_enter Try.func40, Try.ntmps40
    go_wp2
    go_ret
    exact ⟨rfl, rfl⟩
end Go.Proofs.Ytcjcmhoalomjfaa

/- markInt64SS from a later mark on: for laws over two slices of slices. Condition: at most 1048576 entries. -/
namespace Go.Proofs.Ytcjcmhoalomjfaa
open Go.RowKit

set_option maxHeartbeats 800000 in
/-- markInt64SS, from a later mark on. -/
theorem markSSk (S : Nat) (A : Option Addr) (n c bo bi : Nat) (vs : List SV) (xss : List (List Int)) (w : World) (hx : SS w bo bi A n c vs xss) (hn : n ≤ 1048576) (hlen : Hid (tot vs n ≤ 1048576)) (hS : S ≤ 1048576) :
    Calls Try.prog 45 #[.slice A n c, .int .i64 (1 + (S : Int))] w fun e w' => ∃ X, X ≤ 2097152 ∧ Hid (S + tot vs n = X) ∧ e = .returned (.int .i64 (1 + (X : Int))) ∧ SS w' bo bi A n c vs (marks2 vs (1 + S) n) ∧ OnlyIn w w' vs n := by
  have HX := Lib.hid hx
  clear hx
  go_enter Try.func45, Try.ntmps45
  go_wp2
  go_loopw [1, 5] (fun v i wr => ∃ (k T : Nat) (zss : List (List Int)), k ≤ n ∧ Hid (S + tot vs k = T) ∧ i = .int .i64 (k : Nat) ∧ v = .int .i64 (1 + (T : Int)) ∧ SS wr bo bi A n c vs zss ∧ (∀ t, t < k → zss.getD t [] = marks (1 + S + tot vs t) (vs.getD t sd0).2.1) ∧ OnlyIn w wr vs n) (fun _ i _ => n - (intOf i).toNat)
  case atStart => exact ⟨0, S, _, Nat.zero_le _, Lib.hid rfl, rfl, rfl, HX.out, fun j h => absurd h (by omega), OnlyIn.refl _ _ _⟩
  case round =>
    obtain ⟨k, T, zss, hk, hT, rfl, rfl, ss, hz, oi⟩ := hrel
    have Ss := Lib.hid ss
    have Hz := Lib.hid hz
    have Oi := Lib.hid oi
    have hT1 : T ≤ 2097152 := by have := tot_mono (vs := vs) hk; have := hT.out; have := hlen.out; omega
    clear ss hz oi
    by_cases hlt : k < n
    · obtain ⟨g, rfl, _, _, hc⟩ := Ss.out.at_ (by omega)
      have c1 := hc k hlt
      have r1 := Ss.out.row k hlt
      have hl : (vs.getD k sd0).2.1 ≤ 1048576 := Nat.le_trans (tot_row hlt) hlen.out
      have hT2 : Hid (S + tot vs (k + 1) = T + (vs.getD k sd0).2.1) := Lib.hid (by rw [tot_succ, ← hT.out]; omega)
      have ev : sval (vs.getD k sd0) = .slice (vs.getD k sd0).1 (vs.getD k sd0).2.1 (vs.getD k sd0).2.2 := rfl
      have MK : Hid (∀ w2 ys, Slc w2 bi (vs.getD k sd0).1 (vs.getD k sd0).2.1 (vs.getD k sd0).2.2 ys → wr.grownBy w2 (Value.slice (vs.getD k sd0).1 (vs.getD k sd0).2.1 (vs.getD k sd0).2.2).ownBlock → SS w2 bo bi (some ⟨g, 0, none⟩) n c vs (zss.set k ys) ∧ OnlyIn w w2 vs n) :=
        Lib.hid fun w2 ys h1 h2 => ⟨Ss.out.marked hlt h1 h2, Oi.out.step (i := k) h2 hlt⟩
      obtain ⟨l, el⟩ : ∃ l, (vs.getD k sd0).2.1 = l := ⟨_, rfl⟩
      obtain ⟨A5, e5⟩ : ∃ A5, (vs.getD k sd0).1 = A5 := ⟨_, rfl⟩
      obtain ⟨c5, ec5⟩ : ∃ c5, (vs.getD k sd0).2.2 = c5 := ⟨_, rfl⟩
      have El := Lib.hid el
      rw [e5, el, ec5] at c1 r1 MK
      rw [el] at hl hT2
      have R1 := Lib.hid r1
      clear r1 e5 el ec5 hc ev
      go_wp2_with fail
      refine (markK bi (1 + T) _ A5 l c5 _ wr R1.out (by omega) (by omega) (by omega)).mono ?_
      rintro e w2 ⟨rfl, s2, g2⟩
      have M2 := Lib.hid (MK.out w2 _ s2 g2)
      clear s2 g2
      go_wp2_with fail
      go_roundw
      case rel =>
        refine ⟨k + 1, T + l, zss.set k (marks (1 + T) l), by omega, hT2, by go_num, by go_num, M2.out.1, fun t ht => ?_, M2.out.2⟩
        by_cases e : k = t
        · subst e
          rw [List.getD_eq_getElem?_getD, List.getElem?_set, if_pos rfl, if_pos (by rw [Ss.out.lx]; exact hlt), El.out, show 1 + S + tot vs k = 1 + T by rw [← hT.out]; omega]; rfl
        · rw [List.getD_eq_getElem?_getD, List.getElem?_set, if_neg e, ← List.getD_eq_getElem?_getD]; exact Hz.out t (by omega)
      case measure => simp [intOf]; omega
    · have hkn : k = n := by omega
      subst hkn
      have Ez : Hid (zss = marks2 vs (1 + S) k) := Lib.hid (by
        apply List.ext_getElem (by rw [Ss.out.lx]; simp [marks2])
        intro i h1 h2
        have h3 : i < k := by rw [← Ss.out.lx]; exact h1
        have := Hz.out i h3
        rw [← marks2_getD h3, List.getD_eq_getElem?_getD, List.getD_eq_getElem?_getD, List.getElem?_eq_getElem h1, List.getElem?_eq_getElem h2] at this
        exact this)
      go_wp2
      go_ret
      exact ⟨T, hT1, hT, rfl, by rw [← Ez.out]; exact Ss.out, Oi.out⟩
end Go.Proofs.Ytcjcmhoalomjfaa

/- Slices of slices where a row elsewhere has turned. No condition. -/
namespace Go.Proofs.Ytcjcmhoalomjfaa
open Go.RowKit

theorem SS.farM {w w' : World} {bo bi n c n' c' : Nat} {A A' : Option Addr} {vs : List SV} {xss : List (List Int)} (h : SS w bo bi A n c vs xss) (hg : w.grownBy w' (Value.slice A' n' c').ownBlock)
    (hd : ∀ k, (Value.slice A n c).ownBlock = some k → (Value.slice A' n' c').ownBlock = some k → False)
    (hd2 : ∀ s, s < n → ∀ k, (sval (vs.getD s sd0)).ownBlock = some k → (Value.slice A' n' c').ownBlock = some k → False) : SS w' bo bi A n c vs xss := by
  have ap : ∀ v : Value, (∀ k, v.ownBlock = some k → (Value.slice A' n' c').ownBlock = some k → False) → v.ownBlock = none ∨ v.ownBlock ≠ (Value.slice A' n' c').ownBlock := fun v hv => by
    rcases e : v.ownBlock with _ | k
    · exact .inl rfl
    · exact .inr fun e2 => hv k e e2.symm
  refine ⟨h.own.kept hg (ap _ hd), h.lv, h.lx, fun i hi => (h.row i hi).kept hg (ap _ (hd2 i hi)), h.dis⟩
end Go.Proofs.Ytcjcmhoalomjfaa

/- The walk of the law FnExactIsSubgroup: it returns true at every input, and writes nothing that was there. No condition but the program's own contract. -/
namespace Go.Proofs.Ytcjcmhoalomjfaa
open Go.RowKit

set_option maxHeartbeats 4000000 in
set_option maxRecDepth 100000 in
/-- The law FnExactIsSubgroup. -/
theorem lawIsSubgroup (IM : CtImmB 20 IsSub) (i0 : Int) (g1A : Option Addr) (g1n g1c : Nat) (g1v : List SV) (g1x : List (List Int)) (g2A : Option Addr) (g2n g2c : Nat) (g2v : List SV) (g2x : List (List Int)) (w : World) (wfi0 : I64 i0) (hg1 : RR w w.heap.size g1A g1n g1v g1x) (hmg1 : g1n ≤ maxLen) (hkg1 : Hid (∀ i, i < g1n → (g1v.getD i sd0).2.1 ≤ maxLen)) (hg2 : RR w w.heap.size g2A g2n g2v g2x) (hmg2 : g2n ≤ maxLen) (hkg2 : Hid (∀ i, i < g2n → (g2v.getD i sd0).2.1 ≤ maxLen)) :
    Calls Try.prog 6 #[.int .i64 i0, .slice g1A g1n g1c, .slice g2A g2n g2c] w fun e w' => e = .returned (.bool true) ∧ Below w.heap.size w w' := by
  have Hg1 := Lib.hid hg1
  have hlxg1 := Lib.hid hg1.lx
  have hllg1 := Lib.hid hg1.lens
  have Hg2 := Lib.hid hg2
  have hlxg2 := Lib.hid hg2.lx
  have hllg2 := Lib.hid hg2.lens
  clear hg1 hg2
  by_cases hT0 : ((g1n + tot g1v g1n : Nat) : Int) ≤ (1048576 : Int)
  · skip
    have HT0 := Lib.hid hT0
    obtain ⟨L1, eL1⟩ : ∃ L : Int, (1048576 : Int) - ((g1n + tot g1v g1n : Nat) : Int) = L := ⟨_, rfl⟩
    have hl1 : 0 ≤ L1 ∧ L1 ≤ 1048576 := by omega
    have EL1 := Lib.hid eL1
    clear eL1
    have hLn1 : ¬ L1 < 0 := by omega
    have dLn1 : decide (L1 < 0) = false := by simp; omega
    by_cases hT1 : ((g2n + tot g2v g2n : Nat) : Int) ≤ L1
    · skip
      have HT1 := Lib.hid hT1
      obtain ⟨LE, eLE⟩ : ∃ L : Int, L1 - ((g2n + tot g2v g2n : Nat) : Int) = L := ⟨_, rfl⟩
      have hLE : ¬ LE < 0 := by omega
      have dLE : decide (LE < 0) = false := by simp; omega
      have ELE := Lib.hid eLE
      clear eLE
      have hEq1 := EL1.out
      have hng1 : g1n ≤ 1048576 := by omega
      have KTg1 : Hid (tot g1v g1n ≤ 1048576) := Lib.hid (by omega)
      have hlg1 : Hid (∀ i, i < g1n → (g1v.getD i sd0).2.1 ≤ 1048576) := Lib.hid fun i hi => by have := tot_row (vs := g1v) hi; have := KTg1.out; omega
      have hylg1 : Hid (∀ i, i < g1n → (g1x.getD i []).length ≤ 1048576) := Lib.hid fun i hi => by rw [hllg1.out i hi]; exact hlg1.out i hi
      have hng2 : g2n ≤ 1048576 := by omega
      have KTg2 : Hid (tot g2v g2n ≤ 1048576) := Lib.hid (by omega)
      have hlg2 : Hid (∀ i, i < g2n → (g2v.getD i sd0).2.1 ≤ 1048576) := Lib.hid fun i hi => by have := tot_row (vs := g2v) hi; have := KTg2.out; omega
      have hylg2 : Hid (∀ i, i < g2n → (g2x.getD i []).length ≤ 1048576) := Lib.hid fun i hi => by rw [hllg2.out i hi]; exact hlg2.out i hi
      clear hT0 hT1 hEq1
      go_enter Try.func6, Try.ntmps6
      go_wp2_with fail
      have K0 := szSS2 g1A g1n g1c 1048576 g1v g1x w Hg1.out hmg1 hkg1 (by decide) (by decide)
      refine K0.mono ?_
      rintro e w0 ⟨rfl, rfl⟩
      clear K0
      rw [if_pos HT0.out]
      rw [EL1.out]
      go_wp2_with fail
      have K0 := szSS2 g2A g2n g2c L1 g2v g2x w Hg2.out hmg2 hkg2 hl1.1 hl1.2
      refine K0.mono ?_
      rintro e w0 ⟨rfl, rfl⟩
      clear K0
      rw [if_pos HT1.out]
      rw [ELE.out]
      go_wp2_with fail
      refine (toSS g1A g1n g1c g1v g1x w Hg1.out hng1 hlg1).mono ?_
      rintro e w1 ⟨A1, c1, us1, rfl, s1, q1, b1⟩
      have Z1 : Hid (w.heap.size ≤ w1.heap.size) := Lib.hid b1.size
      have B1 : Hid (Below w.heap.size w w1) := Lib.hid b1
      have Ftg1_1 := Lib.hid s1
      have Ltg1 : Hid (Lies A1 g1n c1 w.heap.size w1.heap.size) := Lib.hid s1.lt_
      have Itg1 : Hid (∀ t, t < g1n → ∀ k, (sval (us1.getD t sd0)).ownBlock = some k → w.heap.size ≤ k ∧ k < w1.heap.size) := Lib.hid fun t ht => (s1.row t ht).lt_
      have Qtg1 := Lib.hid q1
      have hltg1 : Hid (∀ i, i < g1n → (us1.getD i sd0).2.1 ≤ 1048576) := Lib.hid fun i hi => by rw [q1 i hi]; exact hlg1.out i hi
      clear s1 b1 q1
      go_wp2_with fail
      refine (toSS g2A g2n g2c g2v g2x w1 (Hg2.out.up B1.out) hng2 hlg2).mono ?_
      rintro e w2 ⟨A2, c2, us2, rfl, s2, q2, b2⟩
      have Z2 : Hid (w1.heap.size ≤ w2.heap.size) := Lib.hid b2.size
      have B2 : Hid (Below w.heap.size w w2) := Lib.hid (btr B1.out b2)
      have Ftg1_2 := Lib.hid (Ftg1_1.out.up b2)
      clear Ftg1_1
      have Ftg2_2 := Lib.hid s2
      have Ltg2 : Hid (Lies A2 g2n c2 w1.heap.size w2.heap.size) := Lib.hid s2.lt_
      have Itg2 : Hid (∀ t, t < g2n → ∀ k, (sval (us2.getD t sd0)).ownBlock = some k → w1.heap.size ≤ k ∧ k < w2.heap.size) := Lib.hid fun t ht => (s2.row t ht).lt_
      have Qtg2 := Lib.hid q2
      have hltg2 : Hid (∀ i, i < g2n → (us2.getD i sd0).2.1 ≤ 1048576) := Lib.hid fun i hi => by rw [q2 i hi]; exact hlg2.out i hi
      clear s2 b2 q2
      go_wp2_with fail
      have K3 := ctSub i0 A1 g1n c1 us1 g1x A2 g2n c2 us2 g2x w2 ⟨Ftg1_2.out.rr, hng1, hltg1.out⟩ ⟨Ftg2_2.out.rr, hng2, hltg2.out⟩ wfi0
      refine K3.mono ?_
      clear K3
      rintro e w3 ⟨v3, rfl, r3, b3⟩
      have Z3 : Hid (w2.heap.size ≤ w3.heap.size) := Lib.hid b3.size
      have B3 : Hid (Below w.heap.size w w3) := Lib.hid (btr B2.out b3)
      have Ftg1_3 := Lib.hid (Ftg1_2.out.up b3)
      clear Ftg1_2
      have Ftg2_3 := Lib.hid (Ftg2_2.out.up b3)
      clear Ftg2_2
      have HR := Lib.hid r3
      clear r3
      clear b3
      clear Ftg1_3
      clear Ftg2_3
      go_wp2_with fail
      refine (toSS g1A g1n g1c g1v g1x w3 (Hg1.out.up B3.out) hng1 hlg1).mono ?_
      rintro e w4 ⟨A4, c4, us4, rfl, s4, q4, b4⟩
      have Z4 : Hid (w3.heap.size ≤ w4.heap.size) := Lib.hid b4.size
      have B4 : Hid (Below w.heap.size w w4) := Lib.hid (btr B3.out b4)
      have Fxg1_4 := Lib.hid s4
      have Lxg1 : Hid (Lies A4 g1n c4 w3.heap.size w4.heap.size) := Lib.hid s4.lt_
      have Ixg1 : Hid (∀ t, t < g1n → ∀ k, (sval (us4.getD t sd0)).ownBlock = some k → w3.heap.size ≤ k ∧ k < w4.heap.size) := Lib.hid fun t ht => (s4.row t ht).lt_
      have Qxg1 := Lib.hid q4
      have hlxg1 : Hid (∀ i, i < g1n → (us4.getD i sd0).2.1 ≤ 1048576) := Lib.hid fun i hi => by rw [q4 i hi]; exact hlg1.out i hi
      clear s4 b4 q4
      go_wp2_with fail
      refine (toSS g2A g2n g2c g2v g2x w4 (Hg2.out.up B4.out) hng2 hlg2).mono ?_
      rintro e w5 ⟨A5, c5, us5, rfl, s5, q5, b5⟩
      have Z5 : Hid (w4.heap.size ≤ w5.heap.size) := Lib.hid b5.size
      have B5 : Hid (Below w.heap.size w w5) := Lib.hid (btr B4.out b5)
      have Fxg1_5 := Lib.hid (Fxg1_4.out.up b5)
      clear Fxg1_4
      have Fxg2_5 := Lib.hid s5
      have Lxg2 : Hid (Lies A5 g2n c5 w4.heap.size w5.heap.size) := Lib.hid s5.lt_
      have Ixg2 : Hid (∀ t, t < g2n → ∀ k, (sval (us5.getD t sd0)).ownBlock = some k → w4.heap.size ≤ k ∧ k < w5.heap.size) := Lib.hid fun t ht => (s5.row t ht).lt_
      have Qxg2 := Lib.hid q5
      have hlxg2 : Hid (∀ i, i < g2n → (us5.getD i sd0).2.1 ≤ 1048576) := Lib.hid fun i hi => by rw [q5 i hi]; exact hlg2.out i hi
      clear s5 b5 q5
      go_wp2_with fail
      have K6 := IM i0 A4 g1n c4 us4 g1x A5 g2n c5 us5 g2x w5 ⟨Fxg1_5.out.rr, hng1, hlxg1.out⟩ ⟨Fxg2_5.out.rr, hng2, hlxg2.out⟩ wfi0
      refine K6.mono ?_
      clear K6
      rintro e w6 ⟨v6, rfl, r6, b6⟩
      have Z6 : Hid (w5.heap.size ≤ w6.heap.size) := Lib.hid b6.size
      have B6 : Hid (Below w.heap.size w w6) := Lib.hid (btr B5.out b6)
      have Fxg1_6 := Lib.hid (Fxg1_5.out.up b6)
      clear Fxg1_5
      have Fxg2_6 := Lib.hid (Fxg2_5.out.up b6)
      clear Fxg2_5
      have e6 := HR.out.uniq r6
      subst e6
      clear r6
      clear b6
      go_wp2_with fail
      refine (toSS g1A g1n g1c g1v g1x w6 (Hg1.out.up B6.out) hng1 hlg1).mono ?_
      rintro e w7 ⟨A7, c7, us7, rfl, s7, q7, b7⟩
      have Z7 : Hid (w6.heap.size ≤ w7.heap.size) := Lib.hid b7.size
      have B7 : Hid (Below w.heap.size w w7) := Lib.hid (btr B6.out b7)
      have Fxg1_7 := Lib.hid (Fxg1_6.out.up b7)
      clear Fxg1_6
      have Fxg2_7 := Lib.hid (Fxg2_6.out.up b7)
      clear Fxg2_6
      have Fyg1_7 := Lib.hid s7
      have Lyg1 : Hid (Lies A7 g1n c7 w6.heap.size w7.heap.size) := Lib.hid s7.lt_
      have Iyg1 : Hid (∀ t, t < g1n → ∀ k, (sval (us7.getD t sd0)).ownBlock = some k → w6.heap.size ≤ k ∧ k < w7.heap.size) := Lib.hid fun t ht => (s7.row t ht).lt_
      have Qyg1 := Lib.hid q7
      have hlyg1 : Hid (∀ i, i < g1n → (us7.getD i sd0).2.1 ≤ 1048576) := Lib.hid fun i hi => by rw [q7 i hi]; exact hlg1.out i hi
      clear s7 b7 q7
      go_wp2_with fail
      refine (eqRR_same A4 A7 g1n c4 g1n c7 us4 us7 _ w7 Fxg1_7.out.rr Fyg1_7.out.rr (by omega) hylg1).mono ?_
      rintro e w8 ⟨rfl, b8⟩
      have Z8 : Hid (w7.heap.size ≤ w8.heap.size) := Lib.hid b8.size
      have B8 : Hid (Below w.heap.size w w8) := Lib.hid (btr B7.out b8)
      have Fxg1_8 := Lib.hid (Fxg1_7.out.up b8)
      clear Fxg1_7
      have Fxg2_8 := Lib.hid (Fxg2_7.out.up b8)
      clear Fxg2_7
      have Fyg1_8 := Lib.hid (Fyg1_7.out.up b8)
      clear Fyg1_7
      clear b8
      clear Fyg1_8
      go_wp2_with fail
      refine (toSS g2A g2n g2c g2v g2x w8 (Hg2.out.up B8.out) hng2 hlg2).mono ?_
      rintro e w9 ⟨A9, c9, us9, rfl, s9, q9, b9⟩
      have Z9 : Hid (w8.heap.size ≤ w9.heap.size) := Lib.hid b9.size
      have B9 : Hid (Below w.heap.size w w9) := Lib.hid (btr B8.out b9)
      have Fxg1_9 := Lib.hid (Fxg1_8.out.up b9)
      clear Fxg1_8
      have Fxg2_9 := Lib.hid (Fxg2_8.out.up b9)
      clear Fxg2_8
      have Fyg2_9 := Lib.hid s9
      have Lyg2 : Hid (Lies A9 g2n c9 w8.heap.size w9.heap.size) := Lib.hid s9.lt_
      have Iyg2 : Hid (∀ t, t < g2n → ∀ k, (sval (us9.getD t sd0)).ownBlock = some k → w8.heap.size ≤ k ∧ k < w9.heap.size) := Lib.hid fun t ht => (s9.row t ht).lt_
      have Qyg2 := Lib.hid q9
      have hlyg2 : Hid (∀ i, i < g2n → (us9.getD i sd0).2.1 ≤ 1048576) := Lib.hid fun i hi => by rw [q9 i hi]; exact hlg2.out i hi
      clear s9 b9 q9
      go_wp2_with fail
      refine (eqRR_same A5 A9 g2n c5 g2n c9 us5 us9 _ w9 Fxg2_9.out.rr Fyg2_9.out.rr (by omega) hylg2).mono ?_
      rintro e w10 ⟨rfl, b10⟩
      have Z10 : Hid (w9.heap.size ≤ w10.heap.size) := Lib.hid b10.size
      have B10 : Hid (Below w.heap.size w w10) := Lib.hid (btr B9.out b10)
      have Fxg1_10 := Lib.hid (Fxg1_9.out.up b10)
      clear Fxg1_9
      have Fxg2_10 := Lib.hid (Fxg2_9.out.up b10)
      clear Fxg2_9
      have Fyg2_10 := Lib.hid (Fyg2_9.out.up b10)
      clear Fyg2_9
      clear b10
      clear Fyg2_10
      go_wp2_with fail
      go_ret
      exact ⟨rfl, B10.out⟩
    · skip
      have HT1 := Lib.hid hT1
      clear hT0 hT1
      go_enter Try.func6, Try.ntmps6
      go_wp2_with fail
      have K0 := szSS2 g1A g1n g1c 1048576 g1v g1x w Hg1.out hmg1 hkg1 (by decide) (by decide)
      refine K0.mono ?_
      rintro e w0 ⟨rfl, rfl⟩
      clear K0
      rw [if_pos HT0.out]
      rw [EL1.out]
      go_wp2_with fail
      have K0 := szSS2 g2A g2n g2c L1 g2v g2x w Hg2.out hmg2 hkg2 hl1.1 hl1.2
      refine K0.mono ?_
      rintro e w0 ⟨rfl, rfl⟩
      clear K0
      rw [if_neg (Int.not_le.2 HT1.out)]
      go_wp2
      go_ret
      exact ⟨rfl, Below.refl _ _⟩
  · skip
    have HT0 := Lib.hid hT0
    clear hT0
    go_enter Try.func6, Try.ntmps6
    go_wp2_with fail
    have K0 := szSS2 g1A g1n g1c 1048576 g1v g1x w Hg1.out hmg1 hkg1 (by decide) (by decide)
    refine K0.mono ?_
    rintro e w0 ⟨rfl, rfl⟩
    clear K0
    rw [if_neg (Int.not_le.2 HT0.out)]
    go_wp2
    go_ret
    exact ⟨rfl, Below.refl _ _⟩
end Go.Proofs.Ytcjcmhoalomjfaa

/- The program's chain: what including one product leaves; the loop over an orbit; members with given entries found link by link. No Go in it. No condition. -/
namespace Go.Proofs.Ytcjcmhoalomjfaa
open Go.RowKit

theorem nd_subP {l' : List Nat} : ∀ {l : List Nat}, l'.Nodup → (∀ x ∈ l', x ∈ l) → l'.length ≤ l.length := by
  induction l' with
  | nil => intro l _ _; simp
  | cons a t ih =>
    intro l hd h
    rw [List.nodup_cons] at hd
    have ha : a ∈ l := h a (by simp)
    have := ih (l := l.erase a) hd.2 fun x hx => by
      have hne : x ≠ a := fun e => hd.1 (e ▸ hx)
      exact (List.mem_erase_of_ne hne).2 (h x (by simp [hx]))
    rw [List.length_erase_of_mem ha] at this
    have h0 : 0 < l.length := List.length_pos_of_mem ha
    simp; omega
section
variable {N k : Nat} {c c' cj : Ch} {p q m : List Int} {O O' : List Nat}

/-- What including one product leaves. -/
structure Ic (N k : Nat) (c c' : Ch) (q : List Int) : Prop where
  low : Low N c' k
  grw : Grw k c c'
  gen : c'.gen k = c.gen k
  sv : Sv N c' k q
  mono : ∀ p, Sv N c k p → Sv N c' k p
theorem Ic.old (h : Low N c k) (hk : k < N) (h1 : 1 ≤ N) (h2 : N ≤ 20) (hq : Mb (c.gen k) N q) (hr : c.rep k (nx q k) ≠ []) (ha : Ap N (k + 1) c c' (compL q (iv (c.rep k (nx q k))))) : Ic N k c c' q :=
  have b := Bp.old h hk h1 h2 hq hr ha
  ⟨b.low, b.grw, b.gen, b.sv, b.mono⟩
theorem Ic.put (h : Low N c k) (hk : k < N) (h1 : 1 ≤ N) (h2 : N ≤ 20) (hq : Mb (c.gen k) N q) (hr : c.rep k (nx q k) = []) : Ic N k c (c.set k (nx q k) q) q := by
  obtain ⟨l1, g1⟩ := h.put hk h1 h2 hq hr
  have hp := hq.pn h.pn h1 h2
  have hne : q ≠ [] := by intro e; have := hp.2; rw [e] at this; simp at this; omega
  refine ⟨l1, g1, rfl, ?_, fun p hs => h.mono_sv l1 g1 hk (fun _ h => h) hs⟩
  have := l1.rep_sv hk (y := nx q k) (by rw [set_at]; exact hne)
  rw [set_at] at this; exact this

/-- The orbit lists the points that have a representative, each once. -/
def Orb (c : Ch) (k : Nat) (O : List Nat) : Prop := O.Nodup ∧ ∀ y, y ∈ O ↔ c.rep k y ≠ []
theorem Orb.congr (h : Orb c k O) (e : ∀ y, c'.rep k y = c.rep k y) : Orb c' k O := ⟨h.1, fun y => by rw [h.2, e]⟩
theorem Orb.put (h : Orb c k O) {y : Nat} (hr : c.rep k y = []) (hq : q ≠ []) : Orb (c.set k y q) k (O ++ [y]) := by
  refine ⟨List.nodup_append.2 ⟨h.1, by simp, fun a ha b hb e => ?_⟩, fun z => ?_⟩
  · rw [List.mem_singleton] at hb
    subst hb; subst e
    exact (h.2 a).1 ha hr
  · rw [List.mem_append, List.mem_singleton, h.2]
    by_cases e : z = y
    · subst e; rw [set_at]; exact ⟨fun _ => hq, fun _ => .inr rfl⟩
    · rw [set_ne (.inr e)]; exact ⟨fun h => h.resolve_right e, fun h => .inl h⟩
theorem Orb.lt (h : Orb c k O) (hr : RepOK N c k) {y : Nat} (hy : y ∈ O) : y < N := (hr.at_ y ((h.2 y).1 hy)).1
theorem Orb.len (h : Orb c k O) (hr : RepOK N c k) : O.length ≤ N := by
  have : O.length ≤ (List.range N).length := nd_subP h.1 fun y hy => List.mem_range.2 (h.lt hr hy)
  simpa using this

/-- Which generators the products of the t-th orbit point are formed with. -/
def gsA (kn : Nat) (gs : List (List Int)) (p : List Int) (t : Nat) : List (List Int) := if t < kn then [p] else gs
/-- The loop over the orbit: i points are done, of the next one j products. -/
structure Bf (N k : Nat) (c1 cj : Ch) (O : List Nat) (p : List Int) (kn i j : Nat) : Prop where
  low : Low N cj k
  grw : Grw k c1 cj
  gen : cj.gen k = c1.gen k
  mono : ∀ q, Sv N c1 k q → Sv N cj k q
  old : ∀ t, t < kn → c1.rep k (O.getD t 0) ≠ []
  len : kn ≤ O.length
  done : ∀ t, t < i → ∀ g ∈ gsA kn (c1.gen k) p t, Sv N cj k (compL (cj.rep k (O.getD t 0)) g)
  part : ∀ s, s < j → Sv N cj k (compL (cj.rep k (O.getD i 0)) ((gsA kn (c1.gen k) p i).getD s []))
theorem Bf.start {c1 : Ch} (h : Low N c1 k) (hO : Orb c1 k O) : Bf N k c1 c1 O p O.length 0 0 :=
  ⟨h, .refl _ _, rfl, fun _ h => h, fun t ht => (hO.2 _).1 (by rw [List.getD_eq_getElem?_getD, List.getElem?_eq_getElem ht]; exact List.getElem_mem _), Nat.le_refl _, fun t ht => absurd ht (by omega), fun t ht => absurd ht (by omega)⟩
theorem getD_pre {O O' : List Nat} (h : O <+: O') {t : Nat} (ht : t < O.length) : O'.getD t 0 = O.getD t 0 := by
  obtain ⟨l, rfl⟩ := h
  rw [List.getD_eq_getElem?_getD, List.getD_eq_getElem?_getD, List.getElem?_append_left ht]
theorem Bf.next {c1 : Ch} {kn i j : Nat} (h : Bf N k c1 cj O p kn i j) (hO : Orb cj k O) (hi : i < O.length) (hpre : O <+: O') (hc : Ic N k cj c' (compL (cj.rep k (O.getD i 0)) ((gsA kn (c1.gen k) p i).getD j []))) : Bf N k c1 c' O' p kn i (j + 1) := by
  have hrep : ∀ t, t < O.length → c'.rep k (O'.getD t 0) = cj.rep k (O.getD t 0) := fun t ht => by
    rw [getD_pre hpre ht]
    exact hc.grw.keep _ _ ((hO.2 _).1 (by rw [List.getD_eq_getElem?_getD, List.getElem?_eq_getElem ht]; exact List.getElem_mem _))
  refine ⟨hc.low, h.grw.trans hc.grw, by rw [hc.gen, h.gen], fun p hs => hc.mono _ (h.mono _ hs), fun t ht => by rw [getD_pre hpre (by have := h.len; omega)]; exact h.old t ht, Nat.le_trans h.len hpre.length_le, fun t ht g hg => ?_, fun s hs => ?_⟩
  · rw [hrep t (by omega)]; exact hc.mono _ (h.done t ht g hg)
  · rw [hrep i hi]
    rcases Nat.lt_or_ge s j with hl | hl
    · exact hc.mono _ (h.part s hl)
    · obtain rfl : s = j := by omega
      exact hc.sv
theorem Bf.round {c1 : Ch} {kn i : Nat} (h : Bf N k c1 cj O p kn i (gsA kn (c1.gen k) p i).length) : Bf N k c1 cj O p kn (i + 1) 0 := by
  refine ⟨h.low, h.grw, h.gen, h.mono, h.old, h.len, fun t ht g hg => ?_, fun s hs => absurd hs (by omega)⟩
  rcases Nat.lt_or_ge t i with hl | hl
  · exact h.done t hl g hg
  · obtain rfl : t = i := by omega
    obtain ⟨s, hs, rfl⟩ := mem_at hg
    exact h.part s hs
/-- The product that is formed next lies in the group of the level. -/
theorem Bf.mb {kn i j : Nat} (h : Bf N k (c.push k p) cj O p kn i j) (hO : Orb cj k O) (hi : i < O.length) (hj : j < (gsA kn ((c.push k p).gen k) p i).length) :
    Mb (cj.gen k) N (compL (cj.rep k (O.getD i 0)) ((gsA kn ((c.push k p).gen k) p i).getD j [])) ∧ Pn N (cj.rep k (O.getD i 0)) ∧ (gsA kn ((c.push k p).gen k) p i).getD j [] ∈ cj.gen k := by
  have hr : cj.rep k (O.getD i 0) ≠ [] := (hO.2 _).1 (by rw [List.getD_eq_getElem?_getD, List.getElem?_eq_getElem hi]; exact List.getElem_mem _)
  have hm : (gsA kn ((c.push k p).gen k) p i).getD j [] ∈ gsA kn ((c.push k p).gen k) p i := by
    rw [List.getD_eq_getElem?_getD, List.getElem?_eq_getElem hj]; exact List.getElem_mem _
  have hg : (gsA kn ((c.push k p).gen k) p i).getD j [] ∈ cj.gen k := by
    rw [h.gen]
    unfold gsA at hm ⊢
    by_cases e : i < kn
    · simp only [if_pos e] at hm ⊢
      rw [List.mem_singleton] at hm
      rw [hm, push_at]; simp
    · simp only [if_neg e] at hm ⊢; exact hm
  exact ⟨.mul (h.low.inn _ hr) hg, (h.low.rep.at_ _ hr).2.1, hg⟩
theorem Bf.all {kn : Nat} (h : UpTo N c k) (hk : k < N) (h1 : 1 ≤ N) (h2 : N ≤ 20) (hp : Pn N p) (hf : Fx k p) (hs : ¬ Sv N c k p) (hb : Bf N k (c.push k p) cj O p kn O.length 0) (hO : Orb cj k O) : Ap N k c cj p := by
  have hl := h.low hk h1 h2
  have hg1 : cj.gen k = c.gen k ++ [p] := by rw [hb.gen, push_at]
  have g0 : Grw k c (c.push k p) := ⟨fun _ _ _ => rfl, fun _ _ _ => rfl, fun i hi => push_ne (by omega)⟩
  have hG := g0.trans hb.grw
  have hat : ∀ y, cj.rep k y ≠ [] → ∃ t, t < O.length ∧ O.getD t 0 = y := fun y hy => by
    obtain ⟨t, ht, e⟩ := List.mem_iff_getElem.1 ((hO.2 y).2 hy)
    exact ⟨t, ht, by rw [List.getD_eq_getElem?_getD, List.getElem?_eq_getElem ht, ← e]; rfl⟩
  have hclose : ∀ y, cj.rep k y ≠ [] → ∀ g ∈ cj.gen k, Sv N cj k (compL (cj.rep k y) g) := fun y hy g hg => by
    obtain ⟨t, ht, et⟩ := hat y hy
    by_cases e : t < kn
    · have hc1 := hb.old t e
      rw [et] at hc1
      rw [hg1] at hg
      rcases List.mem_append.1 hg with hg | hg
      · rw [hG.keep _ _ hc1]
        refine hb.mono _ (Sv.congr (c := c) ?_ fun _ _ _ => rfl)
        exact (h.sv k (Nat.le_refl _) (by omega) _).2 (.mul (hl.inn y hc1) hg)
      · have := hb.done t ht g (by unfold gsA; rw [if_pos e]; exact hg)
        rw [et] at this; exact this
    · have := hb.done t ht g (by unfold gsA; rw [if_neg e, ← hb.gen]; exact hg)
      rw [et] at this; exact this
  have hid : c.rep k k ≠ [] := by rw [hl.rep.one]; intro e; have := idL_length N; rw [e] at this; simp at this; omega
  have hsv : Sv N cj k p := by
    have h3 := hclose k (by rw [hG.keep _ _ hid]; exact hid) p (by rw [hg1]; simp)
    rw [hG.keep _ _ hid, hl.rep.one, hp.idl] at h3
    exact h3
  have hcnt : cnt N c k < cnt N cj k := by
    have hle := cnt_mono (N := N) hG k
    rcases Nat.lt_or_ge (cnt N c k) (cnt N cj k) with hlt | hge
    · exact hlt
    · exfalso
      refine hs (sv_back hsv (Nat.le_refl _) fun j y hj hjN hy => (cnt_same hG hge hj hjN hy).symm)
  refine ⟨hb.low.whole hk h1 h2 hclose ?_, hG, fun q => by rw [hg1]⟩
  rw [hg1, List.length_append]
  have := h.len k (Nat.le_refl _) hk
  simp; omega
/-- At the last link everything that fixes the points before is known. -/
theorem sv_last (h : UpTo N c k) (hk : k + 1 = N) (h1 : 1 ≤ N) (h2 : N ≤ 20) (hp : Pn N p) (hf : Fx k p) : Sv N c k p := by
  have e : nx p k = k := by
    have a := hf.ge hp (by omega)
    have b := hp.lt (x := k) (by omega)
    omega
  have hid := (hf.succ e)
  rw [hk] at hid
  rw [hid.all hp]
  exact (sv_down (h.rep k (Nat.le_refl _) (by omega)) (by omega) (pn_id h1 h2) (fx_id (by omega)) (nx_id (by omega))).2 ((h.sv (k + 1) (by omega) (by omega) _).2 .one)

/-! ### members with given entries -/
theorem UpTo.stab (h : UpTo N c k) (h1 : 1 ≤ N) (h2 : N ≤ 20) {j : Nat} (hj : k ≤ j) (hjN : j ≤ N) (hp : Pn N p) (hf : Fx j p) : Sv N c k p ↔ Sv N c j p := by
  induction j with
  | zero => obtain rfl : k = 0 := by omega
            exact Iff.rfl
  | succ j ih =>
    by_cases e : k = j + 1
    · subst e; exact Iff.rfl
    · rw [ih (by omega) (by omega) (hf.mono (by omega))]
      exact sv_down (h.rep j (by omega) (by omega)) (by omega) hp (hf.mono (by omega)) (hf j (by omega))
theorem UpTo.gpn (h : UpTo N c k) (hk : k ≤ N) : ∀ g ∈ c.gen k, Pn N g := h.pn (Nat.le_refl _) hk
theorem UpTo.mfx (h : UpTo N c k) (h1 : 1 ≤ N) (h2 : N ≤ 20) (hk : k ≤ N) (hm : Mb (c.gen k) N p) : Fx k p := by
  rcases Nat.lt_or_ge k N with hl | hl
  · exact hm.fx (h.gp k (Nat.le_refl _) hl) h1 h2 hk
  · obtain rfl : k = N := by omega
    rw [h.top] at hm
    rw [hm.none_]; exact fx_id (Nat.le_refl _)
/-- A representative of a later link is a member of this one. -/
theorem UpTo.rep_mb (h : UpTo N c k) (h1 : 1 ≤ N) (h2 : N ≤ 20) {j y : Nat} (hj : k ≤ j) (hjN : j < N) (hy : c.rep j y ≠ []) : Mb (c.gen k) N (c.rep j y) := by
  obtain ⟨a1, a2, a3, a4⟩ := (h.rep j hj hjN).at_ y hy
  refine (h.sv k (Nat.le_refl _) (by omega) _).1 ((h.stab h1 h2 hj (by omega) a2 a3).2 ?_)
  exact ((h.mono hj).low hjN h1 h2).rep_sv hjN hy
/-- A member that has the given entries from k on, as far as j. -/
structure Mt (N : Nat) (c : Ch) (k : Nat) (vals : List Int) (m : List Int) (j : Nat) : Prop where
  kj : k ≤ j
  jN : j ≤ N
  pn : Pn N m
  mb : Mb (c.gen k) N m
  ag : ∀ i, k ≤ i → i < j → (nx m i : Int) = vals.getD i 0
  jl : j = k ∨ j ≤ vals.length
/-- No member has one entry more. -/
def NoM (N : Nat) (c : Ch) (k : Nat) (vals : List Int) (j : Nat) : Prop := j < N → j < vals.length → ∀ q, Mb (c.gen k) N q → ¬ ∀ i, k ≤ i → i ≤ j → (nx q i : Int) = vals.getD i 0
theorem Mt.start {vals : List Int} (h1 : 1 ≤ N) (h2 : N ≤ 20) (hk : k ≤ N) : Mt N c k vals (idL N) k :=
  ⟨Nat.le_refl _, hk, pn_id h1 h2, .one, fun i a b => absurd b (by omega), .inl rfl⟩
theorem Mt.step {vals : List Int} {j y : Nat} (h : Mt N c k vals m j) (hu : UpTo N c k) (h1 : 1 ≤ N) (h2 : N ≤ 20) (hj : j < N) (hl : j < vals.length) (hy : c.rep j y ≠ []) (hv : (nx m y : Int) = vals.getD j 0) : Mt N c k vals (compL (c.rep j y) m) (j + 1) := by
  obtain ⟨a1, a2, a3, a4⟩ := (hu.rep j h.kj hj).at_ y hy
  have hkj := h.kj
  refine ⟨by omega, by omega, a2.comp h.pn, (hu.rep_mb h1 h2 h.kj hj hy).comp (hu.gpn (by omega)) h1 h2 h.mb, fun i hi hij => ?_, .inr (by omega)⟩
  rcases Nat.lt_or_ge i j with hlt | hge
  · rw [a2.nxc (by omega), a3 i hlt]; exact h.ag i hi hlt
  · obtain rfl : i = j := by omega
    rw [a2.nxc hj, a4]; exact hv
theorem Mt.stop {vals : List Int} {j : Nat} (h : Mt N c k vals m j) (hu : UpTo N c k) (h1 : 1 ≤ N) (h2 : N ≤ 20) (hn : ∀ y, y < N → (nx m y : Int) = vals.getD j 0 → c.rep j y = []) : NoM N c k vals j := fun hj hl q hq hag => by
  have hkj := h.kj
  have hqp := hq.pn (hu.gpn (by omega)) h1 h2
  have hqf := hu.mfx h1 h2 (by omega) hq
  have hmf := hu.mfx h1 h2 (by omega) h.mb
  have hr := hqp.comp h.pn.iv
  have hfx : Fx j (compL q (iv m)) := fun i hi => by
    rw [hqp.nxc (by omega)]
    have e : nx q i = nx m i := by
      rcases Nat.lt_or_ge i k with hlt | hge
      · rw [hqf i hlt, hmf i hlt]
      · have a := hag i hge (by omega)
        have b := h.ag i hge hi
        omega
    rw [e, h.pn.nxi (by omega)]
  have hmb : Mb (c.gen k) N (compL q (iv m)) := hq.comp (hu.gpn (by omega)) h1 h2 (h.mb.inv (hu.gpn (by omega)) h1 h2)
  have hs := (hu.stab h1 h2 h.kj h.jN hr hfx).1 ((hu.sv k (Nat.le_refl _) (by omega) _).2 hmb)
  have h3 := (hs.inv_low hj).2.2.1
  rw [hqp.nxc hj] at h3
  have hlt := hqp.lt hj
  refine h3 (hn _ (h.pn.iv.lt hlt) ?_)
  rw [h.pn.nxi' hlt]
  exact hag j h.kj (Nat.le_refl _)
/-- Membership: all entries are found. -/
theorem Mt.mem {j : Nat} (h : Mt N c k p m j) (hn : NoM N c k p j) (hu : UpTo N c k) (h1 : 1 ≤ N) (h2 : N ≤ 20) (hk : k ≤ N) (hp : Pn N p) (hf : Fx k p) : j = N ↔ Mb (c.gen k) N p := by
  constructor
  · rintro rfl
    have hmf := hu.mfx h1 h2 hk h.mb
    have : m = p := h.pn.ext hp fun x hx => by
      rcases Nat.lt_or_ge x k with hlt | hge
      · rw [hmf x hlt, hf x hlt]
      · have a := h.ag x hge hx
        rw [nx_val hp.1 (by rw [hp.2]; exact hx)] at a
        omega
    rw [← this]; exact h.mb
  · intro hm
    rcases Nat.lt_or_ge j N with hl | hl
    · exfalso
      refine hn hl (by rw [hp.2]; exact hl) p hm fun i _ hi => ?_
      rw [nx_val hp.1 (by rw [hp.2]; omega)]
    · have := h.jN; omega
end
end Go.Proofs.Ytcjcmhoalomjfaa

/- The program's chain in memory: linked structs, each with generators, an orbit and movers; how it reads, what one store, one append, one call on a later link leave of it. No condition. -/
namespace Go.Proofs.Ytcjcmhoalomjfaa
open Go.RowKit

def ofP (xs : List Nat) : List Int := xs.map Int.ofNat
theorem ofP_snoc (xs : List Nat) (x : Nat) : ofP (xs ++ [x]) = ofP xs ++ [(x : Int)] := by simp [ofP]
theorem ofP_len (xs : List Nat) : (ofP xs).length = xs.length := by simp [ofP]
/-- Where a link lies: its block, its slice of generators and their entries, its orbit's slice, its movers' block and their entries; the orbit. -/
structure LK where
  B : Nat
  g : SV
  ge : List SV
  o : SV
  mb : Nat
  en : List SV
  orb : List Nat
/-- The four blocks of a link that may turn. -/
def mu (l : LK) : Nat → Option Nat
  | 0 => some l.B
  | 1 => (sval l.g).ownBlock
  | 2 => (sval l.o).ownBlock
  | _ => some l.mb
/-- The blocks of the links from k on. -/
def Mu (N k : Nat) (L : Nat → LK) (b : Nat) : Prop := ∃ i t, k ≤ i ∧ i < N ∧ t < 4 ∧ mu (L i) t = some b
/-- The pointer to link i, nil behind the last. -/
def ptr (N : Nat) (L : Nat → LK) (i : Nat) : Value := if i < N then .pointer (some ⟨(L i).B, 0, none⟩) else .pointer none
/-- d reads as p, in blocks outside of M. -/
structure Rd (w : World) (M : Nat → Prop) (d : SV) (p : List Int) : Prop where
  len : p.length = d.2.1
  cap : d.2.1 ≤ d.2.2
  at_ : 0 < p.length → ∃ b off, d.1 = some ⟨b, off, none⟩ ∧ b < w.heap.size ∧ ¬ M b ∧ ∀ j, j < p.length → w.cell? ⟨b, off + j, none⟩ = some (.int .i64 (p.getD j 0))
/-- One link in memory. -/
structure Lk (w : World) (base N k : Nat) (M : Nat → Prop) (rep : Nat → List Int) (gen : List (List Int)) (nxt : Value) (l : LK) : Prop where
  blk : Blk w l.B 92 #[.int .i64 (k : Nat), sval l.g, sval l.o, .slice (some ⟨l.mb, 0, none⟩) N N, nxt]
  hB : base ≤ l.B
  gown : w.ownsRow base 69 1 (sval l.g) gen.length (l.ge.map sval)
  glen : l.ge.length = gen.length
  gent : ∀ y, y < gen.length → Rd w M (l.ge.getD y sd0) (gen.getD y [])
  oown : Slc w base l.o.1 l.o.2.1 l.o.2.2 (ofP l.orb)
  mown : w.ownsRow base 69 1 (.slice (some ⟨l.mb, 0, none⟩) N N) N (l.en.map sval)
  mlen : l.en.length = N
  ment : ∀ y, y < N → (rep y = [] → l.en.getD y sd0 = sd0) ∧ (rep y ≠ [] → Rd w M (l.en.getD y sd0) (rep y))
/-- The links from k on in memory. -/
structure Ck (w : World) (base N k : Nat) (M : Nat → Prop) (c : Ch) (L : Nat → LK) : Prop where
  lk : ∀ i, k ≤ i → i < N → Lk w base N i M (c.rep i) (c.gen i) (ptr N L (i + 1)) (L i)
  mm : ∀ i t b, k ≤ i → i < N → t < 4 → mu (L i) t = some b → M b
  mlt : ∀ b, M b → base ≤ b ∧ b < w.heap.size
  dis : ∀ i t i' t' b, k ≤ i → i < N → t < 4 → k ≤ i' → i' < N → t' < 4 → mu (L i) t = some b → mu (L i') t' = some b → i = i' ∧ t = t'
def Orbs (N k : Nat) (c : Ch) (L : Nat → LK) : Prop := ∀ i, k ≤ i → i < N → Orb c i (L i).orb
/-- What a call on link k leaves of the rest. -/
structure Gw (w w' : World) (N k : Nat) (L L' : Nat → LK) (M M' : Nat → Prop) : Prop where
  chg : Chg w w' (Mu N k L)
  keep : ∀ i, i < k → L' i = L i
  ptr : ∀ i, (L' i).B = (L i).B
  mm : ∀ b, M b → M' b
  new_ : ∀ b, M' b → M b ∨ w.heap.size ≤ b
  mu : ∀ b, Mu N k L' b → Mu N k L b ∨ w.heap.size ≤ b

section
variable {w w' w1 : World} {base N k i y : Nat} {M M' M1 S : Nat → Prop} {c c' : Ch} {L L' L1 : Nat → LK} {l l' : LK} {d : SV} {p q : List Int} {rep : Nat → List Int} {gen : List (List Int)} {nxt : Value}

/-! ### reading -/
theorem Rd.ri (h : Rd w M d p) : RI w w.heap.size d.1 p := fun hp => by
  obtain ⟨b, off, e, hb, _, hc⟩ := h.at_ hp
  exact ⟨b, off, e, hb, hc⟩
theorem Rd.keep (h : Rd w M d p) (hc : Chg w w' S) (hS : ∀ b, S b → M b) (hM : ∀ b, M' b → M b ∨ w.heap.size ≤ b) : Rd w' M' d p :=
  ⟨h.len, h.cap, fun hp => by
    obtain ⟨b, off, e, hb, hn, hcell⟩ := h.at_ hp
    refine ⟨b, off, e, by have := hc.size; omega, fun hm => ?_, fun j hj => ?_⟩
    · rcases hM b hm with h | h
      · exact hn h
      · omega
    · rw [← hcell j hj]
      exact World.cell?_of_block (hc.block b hb fun hs => hn (hS b hs))⟩
theorem Rd.up (h : Rd w M d p) (hb : Below w.heap.size w w') : Rd w' M d p := h.keep (S := fun _ => False) (.of_below hb) (fun _ e => e.elim) fun _ e => .inl e
theorem Rd.of_slc {B : Nat} (h : Slc w B d.1 d.2.1 d.2.2 p) (hM : ∀ b, M b → b < B) : Rd w M d p :=
  ⟨h.1, h.le.1, fun hp => by
    rcases h.at_ with ⟨_, e, _⟩ | ⟨g, e, h1, h2⟩
    · rw [e] at hp; simp at hp
    · refine ⟨g, 0, e, h2, fun hm => by have := hM g hm; omega, fun j hj => ?_⟩
      obtain ⟨b, off, e2, _, hc⟩ := h.ri_ hp
      rw [e] at e2
      injection e2 with e2
      injection e2 with e3 e4
      subst e3
      rw [e4]
      exact hc j hj⟩
theorem Rd.more (h : Rd w M d p) (hM : ∀ b, M' b → M b ∨ w.heap.size ≤ b) : Rd w M' d p := h.keep (S := fun _ => False) (.refl _ _) (fun _ e => e.elim) hM
theorem Rd.of_ri {A : Option Addr} {n cc B : Nat} (h : RI w B A p) (lp : p.length = n) (hc : n ≤ cc) (hB : B ≤ w.heap.size) (hM : ∀ b, M b → B ≤ b) : Rd w M (A, n, cc) p :=
  ⟨lp, hc, fun hp => by
    obtain ⟨b, off, e, hb, hcell⟩ := h hp
    exact ⟨b, off, e, by omega, fun hm => by have := hM b hm; omega, hcell⟩⟩

theorem Blk.chg {g : Nat} {t : TypeId} {cs : Array Value} (h : Blk w g t cs) (hc : Chg w w' S) (hn : ¬ S g) : Blk w' g t cs := (hc.block g h.lt hn).trans h
theorem Slc.chgS {A : Option Addr} {n cc : Nat} {xs : List Int} (h : Slc w base A n cc xs) (hc : Chg w w' S) (hn : ∀ b, (Value.slice A n cc).ownBlock = some b → ¬ S b) : Slc w' base A n cc xs := ⟨h.1, ownsRow_chg h.2 hc hn⟩
/-- A link whose blocks do not turn is kept. -/
theorem Lk.keep (h : Lk w base N k M rep gen nxt l) (hc : Chg w w' S) (hn : ∀ t b, t < 4 → mu l t = some b → ¬ S b) (hS : ∀ b, S b → M b) (hM : ∀ b, M' b → M b ∨ w.heap.size ≤ b) : Lk w' base N k M' rep gen nxt l :=
  ⟨h.blk.chg hc (hn 0 _ (by decide) rfl), h.hB, ownsRow_chg h.gown hc fun b e => hn 1 b (by decide) e, h.glen, fun y hy => (h.gent y hy).keep hc hS hM, h.oown.chgS hc fun b e => hn 2 b (by decide) e,
    ownsRow_chg h.mown hc fun b e => hn 3 b (by decide) e, h.mlen, fun y hy => ⟨(h.ment y hy).1, fun e => ((h.ment y hy).2 e).keep hc hS hM⟩⟩
theorem Ck.up (h : Ck w base N k M c L) (hb : Below w.heap.size w w') : Ck w' base N k M c L :=
  ⟨fun i a b => (h.lk i a b).keep (S := fun _ => False) (.of_below hb) (fun _ _ _ _ e => e.elim) (fun _ e => e.elim) fun _ e => .inl e, h.mm, fun b e => by have := h.mlt b e; have := hb.size; omega, h.dis⟩
theorem Ck.muM (h : Ck w base N k M c L) : ∀ b, Mu N k L b → M b := fun b ⟨i, t, a1, a2, a3, e⟩ => h.mm i t b a1 a2 a3 e
theorem Mu.mono {j : Nat} (h : Mu N k L y) (hj : j ≤ k) : Mu N j L y := by
  obtain ⟨i, t, a1, a2⟩ := h
  exact ⟨i, t, by omega, a2⟩
theorem Ck.above (h : Ck w base N k M c L) {j : Nat} (hj : k ≤ j) : Ck w base N j M c L :=
  ⟨fun i a b => h.lk i (by omega) b, fun i t b a1 a2 => h.mm i t b (by omega) a2, h.mlt, fun i t i' t' b a1 a2 a3 a4 => h.dis i t i' t' b (by omega) a2 a3 (by omega)⟩
theorem Gw.refl (w : World) (N k : Nat) (L : Nat → LK) (M : Nat → Prop) : Gw w w N k L L M M := ⟨.refl _ _, fun _ _ => rfl, fun _ => rfl, fun _ e => e, fun _ e => .inl e, fun _ e => .inl e⟩
theorem Gw.trans (h : Gw w w1 N k L L1 M M1) (h2 : Gw w1 w' N k L1 L' M1 M') : Gw w w' N k L L' M M' :=
  ⟨h.chg.trans h2.chg h.mu, fun i hi => (h2.keep i hi).trans (h.keep i hi), fun i => (h2.ptr i).trans (h.ptr i), fun b e => h2.mm b (h.mm b e), fun b e => by
    rcases h2.new_ b e with h3 | h3
    · exact h.new_ b h3
    · exact .inr (by have := h.chg.size; omega), fun b e => by
    rcases h2.mu b e with h3 | h3
    · exact h.mu b h3
    · exact .inr (by have := h.chg.size; omega)⟩
theorem Gw.of_below (h : Below w.heap.size w w') : Gw w w' N k L L M M := ⟨.of_below h, fun _ _ => rfl, fun _ => rfl, fun _ e => e, fun _ e => .inl e, fun _ e => .inl e⟩
theorem Rd.gw (h : Rd w M d p) (g : Gw w w' N k L L' M M') (hm : ∀ b, Mu N k L b → M b) : Rd w' M' d p := h.keep g.chg hm g.new_
/-- What a call on a later link leaves of this one. -/
theorem Gw.down (g : Gw w w' N (k + 1) L L' M M') (h : Ck w base N k M c L) : Gw w w' N k L L' M M' :=
  ⟨⟨g.chg.os, g.chg.tape, g.chg.output, g.chg.size, fun b hb hn => g.chg.block b hb fun e => hn (e.mono (by omega))⟩, fun i hi => g.keep i (by omega), g.ptr, g.mm, g.new_, fun b ⟨i, t, a1, a2, a3, e⟩ => by
    by_cases ei : i = k
    · subst ei
      rw [g.keep i (by omega)] at e
      exact .inl ⟨i, t, a1, a2, a3, e⟩
    · rcases g.mu b ⟨i, t, by omega, a2, a3, e⟩ with h3 | h3
      · exact .inl (h3.mono (by omega))
      · exact .inr h3⟩
theorem ptr_eq (e : ∀ i, (L' i).B = (L i).B) (i : Nat) : ptr N L' i = ptr N L i := by unfold ptr; rw [e]
theorem Ck.down (h : Ck w base N k M c L) (hk : k < N) (h' : Ck w' base N (k + 1) M' c' L') (g : Gw w w' N (k + 1) L L' M M') (er : c'.rep k = c.rep k) (eg : c'.gen k = c.gen k) : Ck w' base N k M' c' L' := by
  have hL : L' k = L k := g.keep k (by omega)
  have hnS : ∀ t b, t < 4 → mu (L k) t = some b → ¬ Mu N (k + 1) L b := fun t b ht e ⟨i, t', a1, a2, a3, e'⟩ => by
    have := (h.dis k t i t' b (Nat.le_refl _) hk ht (by omega) a2 a3 e e').1
    omega
  refine ⟨fun i a b => ?_, fun i t b a1 a2 a3 e => ?_, h'.mlt, fun i t i' t' b a1 a2 a3 a4 a5 a6 e e' => ?_⟩
  · by_cases ei : i = k
    · subst ei
      rw [er, eg, hL, ptr_eq g.ptr]
      exact (h.lk i (Nat.le_refl _) hk).keep g.chg hnS (fun b e => h.muM b (e.mono (by omega))) g.new_
    · exact h'.lk i (by omega) b
  · by_cases ei : i = k
    · subst ei
      rw [hL] at e
      exact g.mm b (h.mm i t b a1 a2 a3 e)
    · exact h'.mm i t b (by omega) a2 a3 e
  · have hx : ∀ i t t', k + 1 ≤ i → i < N → t < 4 → t' < 4 → mu (L' i) t = some b → mu (L k) t' = some b → False := fun i t t' b1 b2 b3 b4 e1 e2 => by
      rcases g.mu b ⟨i, t, b1, b2, b3, e1⟩ with h3 | h3
      · exact hnS t' b b4 e2 h3
      · have := (h.mlt b (h.mm k t' b (Nat.le_refl _) hk b4 e2)).2
        omega
    by_cases ei : i = k <;> by_cases ei' : i' = k
    · subst ei; subst ei'
      rw [hL] at e e'
      exact h.dis _ t _ t' b a1 a2 a3 a4 a5 a6 e e'
    · subst ei
      rw [hL] at e
      exact (hx i' t' t (by omega) a5 a6 a3 e' e).elim
    · subst ei'
      rw [hL] at e'
      exact (hx i t t' (by omega) a2 a3 a6 e e').elim
    · exact h'.dis i t i' t' b (by omega) a2 a3 (by omega) a5 a6 e e'

/-! ### one link turns -/
def upd (L : Nat → LK) (k : Nat) (l : LK) : Nat → LK := fun i => if i = k then l else L i
theorem upd_at : upd L k l k = l := if_pos rfl
theorem upd_ne (h : i ≠ k) : upd L k l i = L i := if_neg h
theorem upd_B (hB : l.B = (L k).B) : ∀ i, (upd L k l i).B = (L i).B := fun i => by
  unfold upd
  by_cases e : i = k
  · rw [if_pos e, hB, e]
  · rw [if_neg e]
theorem Ck.upd (h : Ck w base N k M c L) (hk : k < N) (hc : Chg w w' S) (hS : ∀ b, S b → ∃ t, t < 4 ∧ mu (L k) t = some b) (hM2 : ∀ b, M' b → M b ∨ (w.heap.size ≤ b ∧ b < w'.heap.size)) (hMM : ∀ b, M b → M' b)
    (hl : Lk w' base N k M' (c'.rep k) (c'.gen k) (ptr N L (k + 1)) l') (hB : l'.B = (L k).B) (ht : ∀ t b, t < 4 → mu l' t = some b → (mu (L k) t = some b ∨ w.heap.size ≤ b) ∧ M' b)
    (hd : ∀ t t' b, t < 4 → t' < 4 → mu l' t = some b → mu l' t' = some b → t = t') (he : ∀ i, k < i → c'.rep i = c.rep i ∧ c'.gen i = c.gen i) : Ck w' base N k M' c' (Proofs.Ytcjcmhoalomjfaa.upd L k l') ∧ Gw w w' N k L (Proofs.Ytcjcmhoalomjfaa.upd L k l') M M' := by
  have hSM : ∀ b, S b → M b := fun b e => by
    obtain ⟨t, a, e⟩ := hS b e
    exact h.mm k t b (Nat.le_refl _) hk a e
  have hM3 : ∀ b, M' b → M b ∨ w.heap.size ≤ b := fun b e => by
    rcases hM2 b e with h | h
    · exact .inl h
    · exact .inr h.1
  have hbs : base ≤ w.heap.size := by
    have := h.mlt _ (h.mm k 0 _ (Nat.le_refl _) hk (by decide) rfl); omega
  have hx : ∀ i t t' b, k < i → i < N → t < 4 → t' < 4 → mu (L i) t = some b → mu l' t' = some b → False := fun i t t' b b1 b2 b3 b4 e1 e2 => by
    rcases (ht t' b b4 e2).1 with h3 | h3
    · have := (h.dis i t k t' b (by omega) b2 b3 (Nat.le_refl _) hk b4 e1 h3).1
      omega
    · have := (h.mlt b (h.mm i t b (by omega) b2 b3 e1)).2
      omega
  refine ⟨⟨fun i a b => ?_, fun i t b a1 a2 a3 e => ?_, fun b e => ?_, fun i t i' t' b a1 a2 a3 a4 a5 a6 e e' => ?_⟩, ⟨⟨hc.os, hc.tape, hc.output, hc.size, fun b hb hn => hc.block b hb fun e => hn ?_⟩, fun i hi => upd_ne (by omega), upd_B hB, hMM, hM3, fun b ⟨i, t, a1, a2, a3, e⟩ => ?_⟩⟩
  · rw [ptr_eq (upd_B hB)]
    by_cases ei : i = k
    · subst ei; rw [upd_at]; exact hl
    · rw [upd_ne ei, (he i (by omega)).1, (he i (by omega)).2]
      refine (h.lk i a b).keep hc (fun t b' t4 e hs => ?_) hSM hM3
      obtain ⟨t', a', e'⟩ := hS b' hs
      exact ei (h.dis i t k t' b' a b t4 (Nat.le_refl _) hk a' e e').1
  · by_cases ei : i = k
    · subst ei; rw [upd_at] at e; exact (ht t b a3 e).2
    · rw [upd_ne ei] at e; exact hMM b (h.mm i t b a1 a2 a3 e)
  · have := hc.size
    rcases hM2 b e with h3 | h3
    · have := h.mlt b h3; omega
    · omega
  · by_cases ei : i = k <;> by_cases ei' : i' = k
    · subst ei; subst ei'
      rw [upd_at] at e e'
      exact ⟨rfl, hd t t' b a3 a6 e e'⟩
    · subst ei
      rw [upd_at] at e
      rw [upd_ne ei'] at e'
      exact (hx i' t' t b (by omega) a5 a6 a3 e' e).elim
    · subst ei'
      rw [upd_at] at e'
      rw [upd_ne ei] at e
      exact (hx i t t' b (by omega) a2 a3 a6 e e').elim
    · rw [upd_ne ei] at e
      rw [upd_ne ei'] at e'
      exact h.dis i t i' t' b a1 a2 a3 a4 a5 a6 e e'
  · obtain ⟨t, a, e⟩ := hS b e
    exact ⟨k, t, Nat.le_refl _, hk, a, e⟩
  · by_cases ei : i = k
    · subst ei
      rw [upd_at] at e
      rcases (ht t b a3 e).1 with h3 | h3
      · exact .inl ⟨i, t, a1, a2, a3, h3⟩
      · exact .inr h3
    · rw [upd_ne ei] at e
      exact .inl ⟨i, t, a1, a2, a3, e⟩
/-- A mover is stored. -/
theorem Ck.store (h : Ck w base N k M c L) (hk : k < N) (hy : y < N) (hd : Rd w M d q) (hq : q ≠ []) :
    Ck (w.setCell ⟨(L k).mb, y, none⟩ (sval d)) base N k M (c.set k y q) (Proofs.Ytcjcmhoalomjfaa.upd L k { L k with en := (L k).en.set y d }) ∧ Gw w (w.setCell ⟨(L k).mb, y, none⟩ (sval d)) N k L (Proofs.Ytcjcmhoalomjfaa.upd L k { L k with en := (L k).en.set y d }) M M := by
  have hl := h.lk k (Nat.le_refl _) hk
  obtain ⟨hown, hgr⟩ := hl.mown.stored y (sval d)
  have hc : Chg w (w.setCell ⟨(L k).mb, y, none⟩ (sval d)) (fun b => b = (L k).mb) := .of_grown hgr (by intro b e; injection e with e; exact e.symm)
  have hSM : ∀ b, b = (L k).mb → M b := fun b e => h.mm k 3 b (Nat.le_refl _) hk (by decide) (by rw [e]; rfl)
  have hne : ∀ t b, t < 3 → mu (L k) t = some b → ¬ b = (L k).mb := fun t b ht e e2 => by
    have := (h.dis k t k 3 b (Nat.le_refl _) hk (by omega) (Nat.le_refl _) hk (by decide) e (by rw [e2]; rfl)).2
    omega
  refine h.upd hk hc (fun b e => ⟨3, by decide, by rw [e]; rfl⟩) (fun b e => .inl e) (fun b e => e) ?_ rfl (fun t b ht e => ⟨.inl (by rcases t with _ | _ | _ | t <;> exact e), h.mm k t b (Nat.le_refl _) hk ht (by rcases t with _ | _ | _ | t <;> exact e)⟩)
    (fun t t' b a1 a2 e e' => (h.dis k t k t' b (Nat.le_refl _) hk a1 (Nat.le_refl _) hk a2 (by rcases t with _ | _ | _ | t <;> exact e) (by rcases t' with _ | _ | _ | t' <;> exact e')).2) (fun i hi => ⟨funext fun z => set_ne (.inl (by omega)), rfl⟩)
  refine ⟨hl.blk.chg hc (hne 0 _ (by decide) rfl), hl.hB, ownsRow_chg hl.gown hc fun b e => hne 1 b (by decide) e, hl.glen, fun z hz => (hl.gent z hz).keep hc hSM fun _ e => .inl e, hl.oown.chgS hc fun b e => hne 2 b (by decide) e, ?_, ?_, fun z hz => ?_⟩
  · rw [List.map_set]; exact hown
  · rw [List.length_set]; exact hl.mlen
  · show ((c.set k y q).rep k z = [] → ((L k).en.set y d).getD z sd0 = sd0) ∧ ((c.set k y q).rep k z ≠ [] → Rd _ M (((L k).en.set y d).getD z sd0) ((c.set k y q).rep k z))
    by_cases e : z = y
    · subst e
      rw [set_at, getD_set_eq (by rw [hl.mlen]; exact hz)]
      exact ⟨fun e => absurd e hq, fun _ => hd.keep hc hSM fun _ e => .inl e⟩
    · rw [set_ne (.inr e), getD_set_ne (fun e2 => e e2.symm)]
      exact ⟨(hl.ment z hz).1, fun e => ((hl.ment z hz).2 e).keep hc hSM fun _ e => .inl e⟩
/-- A point is appended to the orbit; the slice is stored. -/
theorem Ck.orbit (h : Ck w base N k M c L) (hk : k < N) (bA : Below w.heap.size w w1) {w2 : World} {A : Option Addr} {n cc : Nat} (hg : w1.grownBy w2 (sval (L k).o).ownBlock) (hown : Slc w2 base A n cc (ofP (L k).orb ++ [(y : Int)]))
    (hat : (Value.slice A n cc).ownBlock = (sval (L k).o).ownBlock ∨ (Value.slice A n cc).ownBlock = some w1.heap.size) :
    ∃ M', Ck (w2.setCell ⟨(L k).B, 2, none⟩ (.slice A n cc)) base N k M' c (Proofs.Ytcjcmhoalomjfaa.upd L k { L k with o := (A, n, cc), orb := (L k).orb ++ [y] }) ∧ Gw w (w2.setCell ⟨(L k).B, 2, none⟩ (.slice A n cc)) N k L (Proofs.Ytcjcmhoalomjfaa.upd L k { L k with o := (A, n, cc), orb := (L k).orb ++ [y] }) M M' := by
  have hl := h.lk k (Nat.le_refl _) hk
  have hz1 := bA.size
  have hz2 := hg.size
  have hBlt := hl.blk.lt
  have c1 : Chg w w2 (fun b => (sval (L k).o).ownBlock = some b) := (Chg.of_below (M := fun b => (sval (L k).o).ownBlock = some b) bA).trans (.of_grown (M := fun b => (sval (L k).o).ownBlock = some b) hg fun b e => e) fun b e => .inl e
  have hoB : ∀ b, (Value.slice A n cc).ownBlock = some b → b ≠ (L k).B := fun b e e2 => by
    rcases hat with ha | ha
    · rw [ha] at e
      have := (h.dis k 2 k 0 b (Nat.le_refl _) hk (by decide) (Nat.le_refl _) hk (by decide) e (by rw [e2]; rfl)).2
      omega
    · rw [ha] at e; injection e with e; omega
  have c2 : Chg w2 (w2.setCell ⟨(L k).B, 2, none⟩ (.slice A n cc)) (fun b => b = (L k).B) := ⟨rfl, rfl, rfl, by simp, fun b hb hn => heap_setCell_other w2 ⟨(L k).B, 2, none⟩ _ _ fun e => hn e⟩
  have hc : Chg w (w2.setCell ⟨(L k).B, 2, none⟩ (.slice A n cc)) (fun b => (sval (L k).o).ownBlock = some b ∨ b = (L k).B) :=
    (⟨c1.os, c1.tape, c1.output, c1.size, fun b hb hn => c1.block b hb fun e => hn (.inl e)⟩ : Chg w w2 (fun b => (sval (L k).o).ownBlock = some b ∨ b = (L k).B)).trans c2 fun b e => .inl (.inr e)
  have hSM : ∀ b, ((sval (L k).o).ownBlock = some b ∨ b = (L k).B) → M b := fun b e => by
    rcases e with e | e
    · exact h.mm k 2 b (Nat.le_refl _) hk (by decide) e
    · exact h.mm k 0 b (Nat.le_refl _) hk (by decide) (by rw [e]; rfl)
  have hnS : ∀ t b, t = 1 ∨ t = 3 → mu (L k) t = some b → ¬ ((sval (L k).o).ownBlock = some b ∨ b = (L k).B) := fun t b ht e hs => by
    rcases hs with hs | hs
    · have := (h.dis k t k 2 b (Nat.le_refl _) hk (by omega) (Nat.le_refl _) hk (by decide) e hs).2
      omega
    · have := (h.dis k t k 0 b (Nat.le_refl _) hk (by omega) (Nat.le_refl _) hk (by decide) e (by rw [hs]; rfl)).2
      omega
  have hw2 : w2.heap.size = (w2.setCell ⟨(L k).B, 2, none⟩ (.slice A n cc)).heap.size := by simp
  have hM' : ∀ b, (M b ∨ (Value.slice A n cc).ownBlock = some b) → M b ∨ (w.heap.size ≤ b ∧ b < (w2.setCell ⟨(L k).B, 2, none⟩ (.slice A n cc)).heap.size) := fun b e => by
    rcases e with e | e
    · exact .inl e
    · rcases hat with ha | ha
      · rw [ha] at e; exact .inl (h.mm k 2 b (Nat.le_refl _) hk (by decide) e)
      · have hlt := (hown.lt_ b e).2
        rw [ha] at e; injection e with e
        exact .inr ⟨by omega, by rw [← hw2]; exact hlt⟩
  have hM3 : ∀ b, (M b ∨ (Value.slice A n cc).ownBlock = some b) → M b ∨ w.heap.size ≤ b := fun b e => by
    rcases hM' b e with h | h
    · exact .inl h
    · exact .inr h.1
  refine ⟨fun b => M b ∨ (Value.slice A n cc).ownBlock = some b, h.upd hk hc (fun b e => ?_) hM' (fun b e => .inl e) ?_ rfl (fun t b ht e => ?_) (fun t t' b a1 a2 e e' => ?_) (fun i _ => ⟨rfl, rfl⟩)⟩
  · rcases e with e | e
    · exact ⟨2, by decide, e⟩
    · exact ⟨0, by decide, by rw [e]; rfl⟩
  · refine ⟨?_, hl.hB, ownsRow_chg hl.gown hc fun b e => hnS 1 b (.inl rfl) e, hl.glen, fun z hz => (hl.gent z hz).keep hc hSM hM3, ?_, ownsRow_chg hl.mown hc fun b e => hnS 3 b (.inr rfl) e, hl.mlen, fun z hz => ⟨(hl.ment z hz).1, fun e => ((hl.ment z hz).2 e).keep hc hSM hM3⟩⟩
    · have b2 : Blk w2 (L k).B 92 #[.int .i64 (k : Nat), sval (L k).g, sval (L k).o, .slice (some ⟨(L k).mb, 0, none⟩) N N, ptr N L (k + 1)] := hl.blk.chg c1 fun e => by
        have := (h.dis k 2 k 0 _ (Nat.le_refl _) hk (by decide) (Nat.le_refl _) hk (by decide) e rfl).2
        omega
      have := b2.set_ 2 (.slice A n cc)
      simpa [sval] using this
    · have e1 : ofP ((L k).orb ++ [y]) = ofP (L k).orb ++ [(y : Int)] := ofP_snoc _ _
      show Slc _ base A n cc (ofP ((L k).orb ++ [y]))
      rw [e1]
      exact hown.chgS c2 hoB
  · have hold : t ≠ 2 → mu (L k) t = some b := fun ne => by
      rcases t with _ | _ | _ | t
      · exact e
      · exact e
      · exact absurd rfl ne
      · exact e
    by_cases e2 : t = 2
    · subst e2
      have e : (Value.slice A n cc).ownBlock = some b := e
      refine ⟨?_, .inr e⟩
      rcases hat with ha | ha
      · rw [ha] at e; exact .inl e
      · rw [ha] at e; injection e with e; exact .inr (by omega)
    · exact ⟨.inl (hold e2), .inl (h.mm k t b (Nat.le_refl _) hk ht (hold e2))⟩
  · have hold : ∀ t, t < 4 → mu { L k with o := (A, n, cc), orb := (L k).orb ++ [y] } t = some b → mu (L k) t = some b ∨ (t = 2 ∧ w.heap.size ≤ b) := fun t ht e => by
      rcases t with _ | _ | _ | t
      · exact .inl e
      · exact .inl e
      · have e : (Value.slice A n cc).ownBlock = some b := e
        rcases hat with ha | ha
        · rw [ha] at e; exact .inl e
        · rw [ha] at e; injection e with e; exact .inr ⟨rfl, by omega⟩
      · exact .inl e
    have hmx : ∀ t, t < 4 → mu (L k) t = some b → b < w.heap.size := fun t ht e => (h.mlt b (h.mm k t b (Nat.le_refl _) hk ht e)).2
    rcases hold t a1 e with h1 | ⟨h1, h2⟩ <;> rcases hold t' a2 e' with h3 | ⟨h3, h4⟩
    · exact (h.dis k t k t' b (Nat.le_refl _) hk a1 (Nat.le_refl _) hk a2 h1 h3).2
    · have := hmx t a1 h1; omega
    · have := hmx t' a2 h3; omega
    · omega
/-- A generator is appended; the slice is stored. -/
theorem Ck.pushg (h : Ck w base N k M c L) (hk : k < N) (bA : Below w.heap.size w w1) {w2 : World} {A : Option Addr} {n cc : Nat} (hg : w1.grownBy w2 (sval (L k).g).ownBlock) (hown : w2.ownsRow base 69 1 (.slice A n cc) ((c.gen k).length + 1) ((L k).ge.map sval ++ [sval d]))
    (hat : (Value.slice A n cc).ownBlock = (sval (L k).g).ownBlock ∨ (Value.slice A n cc).ownBlock = some w1.heap.size) (hd : Rd w M d q) :
    ∃ M', Ck (w2.setCell ⟨(L k).B, 1, none⟩ (.slice A n cc)) base N k M' (c.push k q) (Proofs.Ytcjcmhoalomjfaa.upd L k { L k with g := (A, n, cc), ge := (L k).ge ++ [d] }) ∧ Gw w (w2.setCell ⟨(L k).B, 1, none⟩ (.slice A n cc)) N k L (Proofs.Ytcjcmhoalomjfaa.upd L k { L k with g := (A, n, cc), ge := (L k).ge ++ [d] }) M M' := by
  have hl := h.lk k (Nat.le_refl _) hk
  have hz1 := bA.size
  have hz2 := hg.size
  have hBlt := hl.blk.lt
  have c1 : Chg w w2 (fun b => (sval (L k).g).ownBlock = some b) := (Chg.of_below (M := fun b => (sval (L k).g).ownBlock = some b) bA).trans (.of_grown (M := fun b => (sval (L k).g).ownBlock = some b) hg fun b e => e) fun b e => .inl e
  have hoB : ∀ b, (Value.slice A n cc).ownBlock = some b → b ≠ (L k).B := fun b e e2 => by
    rcases hat with ha | ha
    · rw [ha] at e
      have := (h.dis k 1 k 0 b (Nat.le_refl _) hk (by decide) (Nat.le_refl _) hk (by decide) e (by rw [e2]; rfl)).2
      omega
    · rw [ha] at e; injection e with e; omega
  have c2 : Chg w2 (w2.setCell ⟨(L k).B, 1, none⟩ (.slice A n cc)) (fun b => b = (L k).B) := ⟨rfl, rfl, rfl, by simp, fun b hb hn => heap_setCell_other w2 ⟨(L k).B, 1, none⟩ _ _ fun e => hn e⟩
  have hc : Chg w (w2.setCell ⟨(L k).B, 1, none⟩ (.slice A n cc)) (fun b => (sval (L k).g).ownBlock = some b ∨ b = (L k).B) :=
    (⟨c1.os, c1.tape, c1.output, c1.size, fun b hb hn => c1.block b hb fun e => hn (.inl e)⟩ : Chg w w2 (fun b => (sval (L k).g).ownBlock = some b ∨ b = (L k).B)).trans c2 fun b e => .inl (.inr e)
  have hSM : ∀ b, ((sval (L k).g).ownBlock = some b ∨ b = (L k).B) → M b := fun b e => by
    rcases e with e | e
    · exact h.mm k 1 b (Nat.le_refl _) hk (by decide) e
    · exact h.mm k 0 b (Nat.le_refl _) hk (by decide) (by rw [e]; rfl)
  have hnS : ∀ t b, t = 2 ∨ t = 3 → mu (L k) t = some b → ¬ ((sval (L k).g).ownBlock = some b ∨ b = (L k).B) := fun t b ht e hs => by
    rcases hs with hs | hs
    · have := (h.dis k t k 1 b (Nat.le_refl _) hk (by omega) (Nat.le_refl _) hk (by decide) e hs).2
      omega
    · have := (h.dis k t k 0 b (Nat.le_refl _) hk (by omega) (Nat.le_refl _) hk (by decide) e (by rw [hs]; rfl)).2
      omega
  have hw2 : w2.heap.size = (w2.setCell ⟨(L k).B, 1, none⟩ (.slice A n cc)).heap.size := by simp
  have hM' : ∀ b, (M b ∨ (Value.slice A n cc).ownBlock = some b) → M b ∨ (w.heap.size ≤ b ∧ b < (w2.setCell ⟨(L k).B, 1, none⟩ (.slice A n cc)).heap.size) := fun b e => by
    rcases e with e | e
    · exact .inl e
    · rcases hat with ha | ha
      · rw [ha] at e; exact .inl (h.mm k 1 b (Nat.le_refl _) hk (by decide) e)
      · have hlt := (World.ownsRow.lt hown b e).2
        rw [ha] at e; injection e with e
        exact .inr ⟨by omega, by rw [← hw2]; exact hlt⟩
  have hM3 : ∀ b, (M b ∨ (Value.slice A n cc).ownBlock = some b) → M b ∨ w.heap.size ≤ b := fun b e => by
    rcases hM' b e with h | h
    · exact .inl h
    · exact .inr h.1
  refine ⟨fun b => M b ∨ (Value.slice A n cc).ownBlock = some b, h.upd hk hc (fun b e => ?_) hM' (fun b e => .inl e) ?_ rfl (fun t b ht e => ?_) (fun t t' b a1 a2 e e' => ?_) (fun i hi => ⟨rfl, push_ne (by omega)⟩)⟩
  · rcases e with e | e
    · exact ⟨1, by decide, e⟩
    · exact ⟨0, by decide, by rw [e]; rfl⟩
  · rw [push_at]
    refine ⟨?_, hl.hB, ?_, by simp [hl.glen], fun z hz => ?_, hl.oown.chgS hc fun b e => hnS 2 b (.inl rfl) e, ownsRow_chg hl.mown hc fun b e => hnS 3 b (.inr rfl) e, hl.mlen, fun z hz => ⟨(hl.ment z hz).1, fun e => ((hl.ment z hz).2 e).keep hc hSM hM3⟩⟩
    · have b2 : Blk w2 (L k).B 92 #[.int .i64 (k : Nat), sval (L k).g, sval (L k).o, .slice (some ⟨(L k).mb, 0, none⟩) N N, ptr N L (k + 1)] := hl.blk.chg c1 fun e => by
        have := (h.dis k 1 k 0 _ (Nat.le_refl _) hk (by decide) (Nat.le_refl _) hk (by decide) e rfl).2
        omega
      have := b2.set_ 1 (.slice A n cc)
      simpa [sval] using this
    · rw [List.length_append, List.map_append]
      exact ownsRow_chg hown c2 hoB
    · show Rd _ _ (((L k).ge ++ [d]).getD z sd0) ((c.gen k ++ [q]).getD z [])
      have hz : z < (c.gen k).length + 1 := by simpa using hz
      by_cases ez : z < (c.gen k).length
      · rw [getD_app _ _ _ z (by rw [hl.glen]; exact ez), getD_app _ _ _ z ez]
        exact (hl.gent z ez).keep hc hSM hM3
      · have ez2 : z = (c.gen k).length := by omega
        rw [getD_snoc _ _ _ z (by rw [hl.glen]; exact ez2), getD_snoc _ _ _ z ez2]
        exact hd.keep hc hSM hM3
  · have hold : t ≠ 1 → mu (L k) t = some b := fun ne => by
      rcases t with _ | _ | _ | t
      · exact e
      · exact absurd rfl ne
      · exact e
      · exact e
    by_cases e2 : t = 1
    · subst e2
      have e : (Value.slice A n cc).ownBlock = some b := e
      refine ⟨?_, .inr e⟩
      rcases hat with ha | ha
      · rw [ha] at e; exact .inl e
      · rw [ha] at e; injection e with e; exact .inr (by omega)
    · exact ⟨.inl (hold e2), .inl (h.mm k t b (Nat.le_refl _) hk ht (hold e2))⟩
  · have hold : ∀ t, t < 4 → mu { L k with g := (A, n, cc), ge := (L k).ge ++ [d] } t = some b → mu (L k) t = some b ∨ (t = 1 ∧ w.heap.size ≤ b) := fun t ht e => by
      rcases t with _ | _ | _ | t
      · exact .inl e
      · have e : (Value.slice A n cc).ownBlock = some b := e
        rcases hat with ha | ha
        · rw [ha] at e; exact .inl e
        · rw [ha] at e; injection e with e; exact .inr ⟨rfl, by omega⟩
      · exact .inl e
      · exact .inl e
    have hmx : ∀ t, t < 4 → mu (L k) t = some b → b < w.heap.size := fun t ht e => (h.mlt b (h.mm k t b (Nat.le_refl _) hk ht e)).2
    rcases hold t a1 e with h1 | ⟨h1, h2⟩ <;> rcases hold t' a2 e' with h3 | ⟨h3, h4⟩
    · exact (h.dis k t k t' b (Nat.le_refl _) hk a1 (Nat.le_refl _) hk a2 h1 h3).2
    · have := hmx t a1 h1; omega
    · have := hmx t' a2 h3; omega
    · omega
/-! ### reading a link -/
theorem Ck.cB (h : Ck w base N k M c L) (hi : k ≤ i) (hN : i < N) : w.cell? ⟨(L i).B, 0, none⟩ = some (.int .i64 (i : Nat)) ∧ w.cell? ⟨(L i).B, 1, none⟩ = some (sval (L i).g) ∧ w.cell? ⟨(L i).B, 2, none⟩ = some (sval (L i).o) ∧ w.cell? ⟨(L i).B, 3, none⟩ = some (.slice (some ⟨(L i).mb, 0, none⟩) N N) ∧ w.cell? ⟨(L i).B, 4, none⟩ = some (ptr N L (i + 1)) :=
  have b := (h.lk i hi hN).blk
  ⟨b.cell 0, b.cell 1, b.cell 2, b.cell 3, b.cell 4⟩
theorem Ck.cM (h : Ck w base N k M c L) (hi : k ≤ i) (hN : i < N) (hy : y < N) : w.cell? ⟨(L i).mb, y, none⟩ = some (sval ((L i).en.getD y sd0)) := by
  have hl := h.lk i hi hN
  rw [hl.mown.cellAt y (by omega), ents_at (by rw [hl.mlen]; exact hy)]
theorem Ck.eM (h : Ck w base N k M c L) (hi : k ≤ i) (hN : i < N) (hy : y < N) : (c.rep i y = [] → (L i).en.getD y sd0 = sd0) ∧ (c.rep i y ≠ [] → Rd w M ((L i).en.getD y sd0) (c.rep i y)) := (h.lk i hi hN).ment y hy
theorem Ck.olen (h : Ck w base N k M c L) (hi : k ≤ i) (hN : i < N) : (L i).o.2.1 = (L i).orb.length := by
  rw [← (h.lk i hi hN).oown.1, ofP_len]
theorem ofP_at {xs : List Nat} {j : Nat} (hj : j < xs.length) : (ofP xs).getD j 0 = ((xs.getD j 0 : Nat) : Int) := by
  rw [List.getD_eq_getElem?_getD, List.getD_eq_getElem?_getD, ofP, List.getElem?_map, List.getElem?_eq_getElem hj]; rfl
/-- The j-th point of an orbit. -/
theorem Ck.cO (h : Ck w base N k M c L) (hi : k ≤ i) (hN : i < N) {j : Nat} (hj : j < (L i).orb.length) : ∃ ob oc, (L i).o = (some ⟨ob, 0, none⟩, (L i).orb.length, oc) ∧ w.cell? ⟨ob, j, none⟩ = some (.int .i64 (((L i).orb.getD j 0 : Nat) : Int)) := by
  have ho := (h.lk i hi hN).oown
  rcases he : (L i).o with ⟨A, n, cc⟩
  rw [he] at ho
  have e1 : n = (L i).orb.length := by have h3 := ho.1; rw [ofP_len] at h3; exact h3.symm
  subst e1
  rcases ho.at_ with ⟨_, e, _⟩ | ⟨g, e, _, _⟩
  · have := ofP_len (L i).orb; rw [e] at this; simp at this; omega
  · have e : A = some ⟨g, 0, none⟩ := e
    subst e
    refine ⟨g, cc, rfl, ?_⟩
    obtain ⟨b, off, e2, _, hc⟩ := ho.ri_ (by rw [ofP_len]; omega)
    injection e2 with e2
    injection e2 with e3 e4
    subst e3; subst e4
    have := hc j (by rw [ofP_len]; exact hj)
    rw [ofP_at hj, Nat.zero_add] at this
    exact this
/-- The j-th generator of a link. -/
theorem Ck.cG (h : Ck w base N k M c L) (hi : k ≤ i) (hN : i < N) {j : Nat} (hj : j < (c.gen i).length) : ∃ q cq, (L i).g = (some ⟨q, 0, none⟩, (c.gen i).length, cq) ∧ (c.gen i).length ≤ cq ∧ w.cell? ⟨q, j, none⟩ = some (sval ((L i).ge.getD j sd0)) ∧ Rd w M ((L i).ge.getD j sd0) ((c.gen i).getD j []) := by
  have hl := h.lk i hi hN
  have ho := hl.gown
  rcases he : (L i).g with ⟨a, b, d⟩
  rw [he] at ho
  rcases ho.2 with ⟨e, h0⟩ | ⟨g', cap, cur, e, _, _, hcap, _⟩
  · omega
  · unfold sval at e; injection e with e1 e2 e3
    subst e1 e2 e3
    refine ⟨g', _, rfl, hcap, ?_, hl.gent j hj⟩
    have ho : w.ownsRow base 69 1 (.slice (some ⟨g', 0, none⟩) (c.gen i).length d) (c.gen i).length ((L i).ge.map sval) := ho
    rw [ho.cellAt j (by omega), ents_at (by rw [hl.glen]; exact hj)]
theorem rd_not0 (h : Rd w M d p) (hp : p ≠ []) : ∃ b off, d.1 = some ⟨b, off, none⟩ := by
  obtain ⟨b, off, e, _⟩ := h.at_ (by
    rcases p with _ | ⟨x, t⟩
    · exact absurd rfl hp
    · simp)
  exact ⟨b, off, e⟩
end
end Go.Proofs.Ytcjcmhoalomjfaa
