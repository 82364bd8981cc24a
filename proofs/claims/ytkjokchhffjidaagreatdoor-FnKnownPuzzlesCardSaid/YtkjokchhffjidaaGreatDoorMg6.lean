/- Part 6 of the texts: PcH, PcW, PcI, PcA, PcC, Ins, ChR, ChT, ChX, ChY, ChZ, ChV, Stb, StbS, Ct4, PcF, PcG, PcN, PcS, PcT, PcU. No condition of its own: each text tells its own. -/
import Derived.Test.YtkjokchhffjidaaGreatDoorMg5
import Derived.Test.YtkjokchhffjidaaGreatDoorMg2
import Derived.Test.YtkjokchhffjidaaGreatDoorMg3
import Derived.BigQuiet
import Derived.WalkSpells
import Derived.Deep.LoopGhost
import Derived.Maps.AppendAt
import Derived.Deep.RegionHeld3
import Derived.Deep.CutRange
import Derived.Deep.Upon
import Derived.Lib.AppendZerosOnto
import Derived.Lib.AppendZeros
set_option linter.unusedVariables false
set_option linter.unusedSimpArgs false

/- The program's chain in memory: linked structs, each with generators, an orbit and movers; how it reads, what one store, one append, one call on a later link leave of it. No condition. -/
namespace Go.Proofs.YtkjokchhffjidaaGreatDoor
open Go.RowKit

def ofP (xs : List Nat) : List Int := xs.map Int.ofNat
theorem ofP_snoc (xs : List Nat) (x : Nat) : ofP (xs ++ [x]) = ofP xs ++ [(x : Int)] := by simp [ofP]
theorem ofP_len (xs : List Nat) : (ofP xs).length = xs.length := by simp [ofP]
/-- Where a link lies: its block, its slice of generators and their entries, its orbit's slice, its movers' block and their entries; the orbit. -/
structure LK where
  B : Nat
  g : SV
  ge : List SV
  o : SV
  mb : Nat
  en : List SV
  orb : List Nat
/-- The four blocks of a link that may turn. -/
def mu (l : LK) : Nat → Option Nat
  | 0 => some l.B
  | 1 => (sval l.g).ownBlock
  | 2 => (sval l.o).ownBlock
  | _ => some l.mb
/-- The blocks of the links from k on. -/
def Mu (N k : Nat) (L : Nat → LK) (b : Nat) : Prop := ∃ i t, k ≤ i ∧ i < N ∧ t < 4 ∧ mu (L i) t = some b
/-- The pointer to link i, nil behind the last. -/
def ptr (N : Nat) (L : Nat → LK) (i : Nat) : Value := if i < N then .pointer (some ⟨(L i).B, 0, none⟩) else .pointer none
/-- d reads as p, in blocks outside of M. -/
structure Rd (w : World) (M : Nat → Prop) (d : SV) (p : List Int) : Prop where
  len : p.length = d.2.1
  cap : d.2.1 ≤ d.2.2
  at_ : 0 < p.length → ∃ b off, d.1 = some ⟨b, off, none⟩ ∧ b < w.heap.size ∧ ¬ M b ∧ ∀ j, j < p.length → w.cell? ⟨b, off + j, none⟩ = some (.int .i64 (p.getD j 0))
/-- One link in memory. -/
structure Lk (w : World) (base N k : Nat) (M : Nat → Prop) (rep : Nat → List Int) (gen : List (List Int)) (nxt : Value) (l : LK) : Prop where
  blk : Blk w l.B 65 #[.int .i64 (k : Nat), sval l.g, sval l.o, .slice (some ⟨l.mb, 0, none⟩) N N, nxt]
  hB : base ≤ l.B
  gown : w.ownsRow base 63 1 (sval l.g) gen.length (l.ge.map sval)
  glen : l.ge.length = gen.length
  gent : ∀ y, y < gen.length → Rd w M (l.ge.getD y sd0) (gen.getD y [])
  oown : Slc w base l.o.1 l.o.2.1 l.o.2.2 (ofP l.orb)
  mown : w.ownsRow base 63 1 (.slice (some ⟨l.mb, 0, none⟩) N N) N (l.en.map sval)
  mlen : l.en.length = N
  ment : ∀ y, y < N → (rep y = [] → l.en.getD y sd0 = sd0) ∧ (rep y ≠ [] → Rd w M (l.en.getD y sd0) (rep y))
/-- The links from k on in memory. -/
structure Ck (w : World) (base N k : Nat) (M : Nat → Prop) (c : Ch) (L : Nat → LK) : Prop where
  lk : ∀ i, k ≤ i → i < N → Lk w base N i M (c.rep i) (c.gen i) (ptr N L (i + 1)) (L i)
  mm : ∀ i t b, k ≤ i → i < N → t < 4 → mu (L i) t = some b → M b
  mlt : ∀ b, M b → base ≤ b ∧ b < w.heap.size
  dis : ∀ i t i' t' b, k ≤ i → i < N → t < 4 → k ≤ i' → i' < N → t' < 4 → mu (L i) t = some b → mu (L i') t' = some b → i = i' ∧ t = t'
def Orbs (N k : Nat) (c : Ch) (L : Nat → LK) : Prop := ∀ i, k ≤ i → i < N → Orb c i (L i).orb
/-- What a call on link k leaves of the rest. -/
structure Gw (w w' : World) (N k : Nat) (L L' : Nat → LK) (M M' : Nat → Prop) : Prop where
  chg : Chg w w' (Mu N k L)
  keep : ∀ i, i < k → L' i = L i
  ptr : ∀ i, (L' i).B = (L i).B
  mm : ∀ b, M b → M' b
  new_ : ∀ b, M' b → M b ∨ w.heap.size ≤ b
  mu : ∀ b, Mu N k L' b → Mu N k L b ∨ w.heap.size ≤ b
  en : ∀ i y, (L i).en.getD y sd0 ≠ sd0 → (L' i).en.getD y sd0 = (L i).en.getD y sd0

section
variable {w w' w1 : World} {base N k i y : Nat} {M M' M1 S : Nat → Prop} {c c' : Ch} {L L' L1 : Nat → LK} {l l' : LK} {d : SV} {p q : List Int} {rep : Nat → List Int} {gen : List (List Int)} {nxt : Value}

/-! ### reading -/
theorem Rd.ri (h : Rd w M d p) : RI w w.heap.size d.1 p := fun hp => by
  obtain ⟨b, off, e, hb, _, hc⟩ := h.at_ hp
  exact ⟨b, off, e, hb, hc⟩
theorem Rd.keep (h : Rd w M d p) (hc : Chg w w' S) (hS : ∀ b, S b → M b) (hM : ∀ b, M' b → M b ∨ w.heap.size ≤ b) : Rd w' M' d p :=
  ⟨h.len, h.cap, fun hp => by
    obtain ⟨b, off, e, hb, hn, hcell⟩ := h.at_ hp
    refine ⟨b, off, e, by have := hc.size; omega, fun hm => ?_, fun j hj => ?_⟩
    · rcases hM b hm with h | h
      · exact hn h
      · omega
    · rw [← hcell j hj]
      exact World.cell?_of_block (hc.block b hb fun hs => hn (hS b hs))⟩
theorem Rd.up (h : Rd w M d p) (hb : Below w.heap.size w w') : Rd w' M d p := h.keep (S := fun _ => False) (.of_below hb) (fun _ e => e.elim) fun _ e => .inl e
theorem Rd.of_slc {B : Nat} (h : Slc w B d.1 d.2.1 d.2.2 p) (hM : ∀ b, M b → b < B) : Rd w M d p :=
  ⟨h.1, h.le.1, fun hp => by
    rcases h.at_ with ⟨_, e, _⟩ | ⟨g, e, h1, h2⟩
    · rw [e] at hp; simp at hp
    · refine ⟨g, 0, e, h2, fun hm => by have := hM g hm; omega, fun j hj => ?_⟩
      obtain ⟨b, off, e2, _, hc⟩ := h.ri_ hp
      rw [e] at e2
      injection e2 with e2
      injection e2 with e3 e4
      subst e3
      rw [e4]
      exact hc j hj⟩
theorem Rd.more (h : Rd w M d p) (hM : ∀ b, M' b → M b ∨ w.heap.size ≤ b) : Rd w M' d p := h.keep (S := fun _ => False) (.refl _ _) (fun _ e => e.elim) hM
theorem Rd.of_ri {A : Option Addr} {n cc B : Nat} (h : RI w B A p) (lp : p.length = n) (hc : n ≤ cc) (hB : B ≤ w.heap.size) (hM : ∀ b, M b → B ≤ b) : Rd w M (A, n, cc) p :=
  ⟨lp, hc, fun hp => by
    obtain ⟨b, off, e, hb, hcell⟩ := h hp
    exact ⟨b, off, e, by omega, fun hm => by have := hM b hm; omega, hcell⟩⟩

theorem Blk.chg {g : Nat} {t : TypeId} {cs : Array Value} (h : Blk w g t cs) (hc : Chg w w' S) (hn : ¬ S g) : Blk w' g t cs := (hc.block g h.lt hn).trans h
theorem Slc.chgS {A : Option Addr} {n cc : Nat} {xs : List Int} (h : Slc w base A n cc xs) (hc : Chg w w' S) (hn : ∀ b, (Value.slice A n cc).ownBlock = some b → ¬ S b) : Slc w' base A n cc xs := ⟨h.1, ownsRow_chg h.2 hc hn⟩
/-- A link whose blocks do not turn is kept. -/
theorem Lk.keep (h : Lk w base N k M rep gen nxt l) (hc : Chg w w' S) (hn : ∀ t b, t < 4 → mu l t = some b → ¬ S b) (hS : ∀ b, S b → M b) (hM : ∀ b, M' b → M b ∨ w.heap.size ≤ b) : Lk w' base N k M' rep gen nxt l :=
  ⟨h.blk.chg hc (hn 0 _ (by decide) rfl), h.hB, ownsRow_chg h.gown hc fun b e => hn 1 b (by decide) e, h.glen, fun y hy => (h.gent y hy).keep hc hS hM, h.oown.chgS hc fun b e => hn 2 b (by decide) e,
    ownsRow_chg h.mown hc fun b e => hn 3 b (by decide) e, h.mlen, fun y hy => ⟨(h.ment y hy).1, fun e => ((h.ment y hy).2 e).keep hc hS hM⟩⟩
theorem Ck.up (h : Ck w base N k M c L) (hb : Below w.heap.size w w') : Ck w' base N k M c L :=
  ⟨fun i a b => (h.lk i a b).keep (S := fun _ => False) (.of_below hb) (fun _ _ _ _ e => e.elim) (fun _ e => e.elim) fun _ e => .inl e, h.mm, fun b e => by have := h.mlt b e; have := hb.size; omega, h.dis⟩
theorem Ck.muM (h : Ck w base N k M c L) : ∀ b, Mu N k L b → M b := fun b ⟨i, t, a1, a2, a3, e⟩ => h.mm i t b a1 a2 a3 e
theorem Mu.mono {j : Nat} (h : Mu N k L y) (hj : j ≤ k) : Mu N j L y := by
  obtain ⟨i, t, a1, a2⟩ := h
  exact ⟨i, t, by omega, a2⟩
theorem Ck.above (h : Ck w base N k M c L) {j : Nat} (hj : k ≤ j) : Ck w base N j M c L :=
  ⟨fun i a b => h.lk i (by omega) b, fun i t b a1 a2 => h.mm i t b (by omega) a2, h.mlt, fun i t i' t' b a1 a2 a3 a4 => h.dis i t i' t' b (by omega) a2 a3 (by omega)⟩
theorem Gw.refl (w : World) (N k : Nat) (L : Nat → LK) (M : Nat → Prop) : Gw w w N k L L M M := ⟨.refl _ _, fun _ _ => rfl, fun _ => rfl, fun _ e => e, fun _ e => .inl e, fun _ e => .inl e, fun _ _ _ => rfl⟩
theorem Gw.trans (h : Gw w w1 N k L L1 M M1) (h2 : Gw w1 w' N k L1 L' M1 M') : Gw w w' N k L L' M M' :=
  ⟨h.chg.trans h2.chg h.mu, fun i hi => (h2.keep i hi).trans (h.keep i hi), fun i => (h2.ptr i).trans (h.ptr i), fun b e => h2.mm b (h.mm b e), fun b e => by
    rcases h2.new_ b e with h3 | h3
    · exact h.new_ b h3
    · exact .inr (by have := h.chg.size; omega), fun b e => by
    rcases h2.mu b e with h3 | h3
    · exact h.mu b h3
    · exact .inr (by have := h.chg.size; omega), fun i y e => (h2.en i y (by rw [h.en i y e]; exact e)).trans (h.en i y e)⟩
theorem Gw.of_below (h : Below w.heap.size w w') : Gw w w' N k L L M M := ⟨.of_below h, fun _ _ => rfl, fun _ => rfl, fun _ e => e, fun _ e => .inl e, fun _ e => .inl e, fun _ _ _ => rfl⟩
theorem Rd.gw (h : Rd w M d p) (g : Gw w w' N k L L' M M') (hm : ∀ b, Mu N k L b → M b) : Rd w' M' d p := h.keep g.chg hm g.new_
/-- What a call on a later link leaves of this one. -/
theorem Gw.down (g : Gw w w' N (k + 1) L L' M M') (h : Ck w base N k M c L) : Gw w w' N k L L' M M' :=
  ⟨⟨g.chg.os, g.chg.tape, g.chg.output, g.chg.size, fun b hb hn => g.chg.block b hb fun e => hn (e.mono (by omega))⟩, fun i hi => g.keep i (by omega), g.ptr, g.mm, g.new_, fun b ⟨i, t, a1, a2, a3, e⟩ => by
    by_cases ei : i = k
    · subst ei
      rw [g.keep i (by omega)] at e
      exact .inl ⟨i, t, a1, a2, a3, e⟩
    · rcases g.mu b ⟨i, t, by omega, a2, a3, e⟩ with h3 | h3
      · exact .inl (h3.mono (by omega))
      · exact .inr h3, g.en⟩
theorem ptr_eq (e : ∀ i, (L' i).B = (L i).B) (i : Nat) : ptr N L' i = ptr N L i := by unfold ptr; rw [e]
theorem Ck.down (h : Ck w base N k M c L) (hk : k < N) (h' : Ck w' base N (k + 1) M' c' L') (g : Gw w w' N (k + 1) L L' M M') (er : c'.rep k = c.rep k) (eg : c'.gen k = c.gen k) : Ck w' base N k M' c' L' := by
  have hL : L' k = L k := g.keep k (by omega)
  have hnS : ∀ t b, t < 4 → mu (L k) t = some b → ¬ Mu N (k + 1) L b := fun t b ht e ⟨i, t', a1, a2, a3, e'⟩ => by
    have := (h.dis k t i t' b (Nat.le_refl _) hk ht (by omega) a2 a3 e e').1
    omega
  refine ⟨fun i a b => ?_, fun i t b a1 a2 a3 e => ?_, h'.mlt, fun i t i' t' b a1 a2 a3 a4 a5 a6 e e' => ?_⟩
  · by_cases ei : i = k
    · subst ei
      rw [er, eg, hL, ptr_eq g.ptr]
      exact (h.lk i (Nat.le_refl _) hk).keep g.chg hnS (fun b e => h.muM b (e.mono (by omega))) g.new_
    · exact h'.lk i (by omega) b
  · by_cases ei : i = k
    · subst ei
      rw [hL] at e
      exact g.mm b (h.mm i t b a1 a2 a3 e)
    · exact h'.mm i t b (by omega) a2 a3 e
  · have hx : ∀ i t t', k + 1 ≤ i → i < N → t < 4 → t' < 4 → mu (L' i) t = some b → mu (L k) t' = some b → False := fun i t t' b1 b2 b3 b4 e1 e2 => by
      rcases g.mu b ⟨i, t, b1, b2, b3, e1⟩ with h3 | h3
      · exact hnS t' b b4 e2 h3
      · have := (h.mlt b (h.mm k t' b (Nat.le_refl _) hk b4 e2)).2
        omega
    by_cases ei : i = k <;> by_cases ei' : i' = k
    · subst ei; subst ei'
      rw [hL] at e e'
      exact h.dis _ t _ t' b a1 a2 a3 a4 a5 a6 e e'
    · subst ei
      rw [hL] at e
      exact (hx i' t' t (by omega) a5 a6 a3 e' e).elim
    · subst ei'
      rw [hL] at e'
      exact (hx i t t' (by omega) a2 a3 a6 e e').elim
    · exact h'.dis i t i' t' b (by omega) a2 a3 (by omega) a5 a6 e e'

/-! ### one link turns -/
def upd (L : Nat → LK) (k : Nat) (l : LK) : Nat → LK := fun i => if i = k then l else L i
theorem upd_at : upd L k l k = l := if_pos rfl
theorem upd_ne (h : i ≠ k) : upd L k l i = L i := if_neg h
theorem upd_B (hB : l.B = (L k).B) : ∀ i, (upd L k l i).B = (L i).B := fun i => by
  unfold upd
  by_cases e : i = k
  · rw [if_pos e, hB, e]
  · rw [if_neg e]
theorem Ck.upd (h : Ck w base N k M c L) (hk : k < N) (hc : Chg w w' S) (hS : ∀ b, S b → ∃ t, t < 4 ∧ mu (L k) t = some b) (hM2 : ∀ b, M' b → M b ∨ (w.heap.size ≤ b ∧ b < w'.heap.size)) (hMM : ∀ b, M b → M' b)
    (hl : Lk w' base N k M' (c'.rep k) (c'.gen k) (ptr N L (k + 1)) l') (hB : l'.B = (L k).B) (ht : ∀ t b, t < 4 → mu l' t = some b → (mu (L k) t = some b ∨ w.heap.size ≤ b) ∧ M' b)
    (hd : ∀ t t' b, t < 4 → t' < 4 → mu l' t = some b → mu l' t' = some b → t = t') (he : ∀ i, k < i → c'.rep i = c.rep i ∧ c'.gen i = c.gen i) (hen : ∀ y, (L k).en.getD y sd0 ≠ sd0 → l'.en.getD y sd0 = (L k).en.getD y sd0) : Ck w' base N k M' c' (Proofs.YtkjokchhffjidaaGreatDoor.upd L k l') ∧ Gw w w' N k L (Proofs.YtkjokchhffjidaaGreatDoor.upd L k l') M M' := by
  have hSM : ∀ b, S b → M b := fun b e => by
    obtain ⟨t, a, e⟩ := hS b e
    exact h.mm k t b (Nat.le_refl _) hk a e
  have hM3 : ∀ b, M' b → M b ∨ w.heap.size ≤ b := fun b e => by
    rcases hM2 b e with h | h
    · exact .inl h
    · exact .inr h.1
  have hbs : base ≤ w.heap.size := by
    have := h.mlt _ (h.mm k 0 _ (Nat.le_refl _) hk (by decide) rfl); omega
  have hx : ∀ i t t' b, k < i → i < N → t < 4 → t' < 4 → mu (L i) t = some b → mu l' t' = some b → False := fun i t t' b b1 b2 b3 b4 e1 e2 => by
    rcases (ht t' b b4 e2).1 with h3 | h3
    · have := (h.dis i t k t' b (by omega) b2 b3 (Nat.le_refl _) hk b4 e1 h3).1
      omega
    · have := (h.mlt b (h.mm i t b (by omega) b2 b3 e1)).2
      omega
  refine ⟨⟨fun i a b => ?_, fun i t b a1 a2 a3 e => ?_, fun b e => ?_, fun i t i' t' b a1 a2 a3 a4 a5 a6 e e' => ?_⟩, ⟨⟨hc.os, hc.tape, hc.output, hc.size, fun b hb hn => hc.block b hb fun e => hn ?_⟩, fun i hi => upd_ne (by omega), upd_B hB, hMM, hM3, fun b ⟨i, t, a1, a2, a3, e⟩ => ?_, fun i y h0 => by
    by_cases ei : i = k
    · subst ei; rw [upd_at]; exact hen y h0
    · rw [upd_ne ei]⟩⟩
  · rw [ptr_eq (upd_B hB)]
    by_cases ei : i = k
    · subst ei; rw [upd_at]; exact hl
    · rw [upd_ne ei, (he i (by omega)).1, (he i (by omega)).2]
      refine (h.lk i a b).keep hc (fun t b' t4 e hs => ?_) hSM hM3
      obtain ⟨t', a', e'⟩ := hS b' hs
      exact ei (h.dis i t k t' b' a b t4 (Nat.le_refl _) hk a' e e').1
  · by_cases ei : i = k
    · subst ei; rw [upd_at] at e; exact (ht t b a3 e).2
    · rw [upd_ne ei] at e; exact hMM b (h.mm i t b a1 a2 a3 e)
  · have := hc.size
    rcases hM2 b e with h3 | h3
    · have := h.mlt b h3; omega
    · omega
  · by_cases ei : i = k <;> by_cases ei' : i' = k
    · subst ei; subst ei'
      rw [upd_at] at e e'
      exact ⟨rfl, hd t t' b a3 a6 e e'⟩
    · subst ei
      rw [upd_at] at e
      rw [upd_ne ei'] at e'
      exact (hx i' t' t b (by omega) a5 a6 a3 e' e).elim
    · subst ei'
      rw [upd_at] at e'
      rw [upd_ne ei] at e
      exact (hx i t t' b (by omega) a2 a3 a6 e e').elim
    · rw [upd_ne ei] at e
      rw [upd_ne ei'] at e'
      exact h.dis i t i' t' b a1 a2 a3 a4 a5 a6 e e'
  · obtain ⟨t, a, e⟩ := hS b e
    exact ⟨k, t, Nat.le_refl _, hk, a, e⟩
  · by_cases ei : i = k
    · subst ei
      rw [upd_at] at e
      rcases (ht t b a3 e).1 with h3 | h3
      · exact .inl ⟨i, t, a1, a2, a3, h3⟩
      · exact .inr h3
    · rw [upd_ne ei] at e
      exact .inl ⟨i, t, a1, a2, a3, e⟩
/-- A mover is stored. -/
theorem Ck.store (h : Ck w base N k M c L) (hk : k < N) (hy : y < N) (hd : Rd w M d q) (hq : q ≠ []) (h0 : (L k).en.getD y sd0 = sd0) :
    Ck (w.setCell ⟨(L k).mb, y, none⟩ (sval d)) base N k M (c.set k y q) (Proofs.YtkjokchhffjidaaGreatDoor.upd L k { L k with en := (L k).en.set y d }) ∧ Gw w (w.setCell ⟨(L k).mb, y, none⟩ (sval d)) N k L (Proofs.YtkjokchhffjidaaGreatDoor.upd L k { L k with en := (L k).en.set y d }) M M := by
  have hl := h.lk k (Nat.le_refl _) hk
  obtain ⟨hown, hgr⟩ := hl.mown.stored y (sval d)
  have hc : Chg w (w.setCell ⟨(L k).mb, y, none⟩ (sval d)) (fun b => b = (L k).mb) := .of_grown hgr (by intro b e; injection e with e; exact e.symm)
  have hSM : ∀ b, b = (L k).mb → M b := fun b e => h.mm k 3 b (Nat.le_refl _) hk (by decide) (by rw [e]; rfl)
  have hne : ∀ t b, t < 3 → mu (L k) t = some b → ¬ b = (L k).mb := fun t b ht e e2 => by
    have := (h.dis k t k 3 b (Nat.le_refl _) hk (by omega) (Nat.le_refl _) hk (by decide) e (by rw [e2]; rfl)).2
    omega
  refine h.upd hk hc (fun b e => ⟨3, by decide, by rw [e]; rfl⟩) (fun b e => .inl e) (fun b e => e) ?_ rfl (fun t b ht e => ⟨.inl (by rcases t with _ | _ | _ | t <;> exact e), h.mm k t b (Nat.le_refl _) hk ht (by rcases t with _ | _ | _ | t <;> exact e)⟩)
    (fun t t' b a1 a2 e e' => (h.dis k t k t' b (Nat.le_refl _) hk a1 (Nat.le_refl _) hk a2 (by rcases t with _ | _ | _ | t <;> exact e) (by rcases t' with _ | _ | _ | t' <;> exact e')).2) (fun i hi => ⟨funext fun z => set_ne (.inl (by omega)), rfl⟩)
    (fun z hz => by
      have hne : z ≠ y := fun e => hz (by rw [e]; exact h0)
      show ((L k).en.set y d).getD z sd0 = _
      rw [getD_set_ne fun e => hne e.symm])
  refine ⟨hl.blk.chg hc (hne 0 _ (by decide) rfl), hl.hB, ownsRow_chg hl.gown hc fun b e => hne 1 b (by decide) e, hl.glen, fun z hz => (hl.gent z hz).keep hc hSM fun _ e => .inl e, hl.oown.chgS hc fun b e => hne 2 b (by decide) e, ?_, ?_, fun z hz => ?_⟩
  · rw [List.map_set]; exact hown
  · rw [List.length_set]; exact hl.mlen
  · show ((c.set k y q).rep k z = [] → ((L k).en.set y d).getD z sd0 = sd0) ∧ ((c.set k y q).rep k z ≠ [] → Rd _ M (((L k).en.set y d).getD z sd0) ((c.set k y q).rep k z))
    by_cases e : z = y
    · subst e
      rw [set_at, getD_set_eq (by rw [hl.mlen]; exact hz)]
      exact ⟨fun e => absurd e hq, fun _ => hd.keep hc hSM fun _ e => .inl e⟩
    · rw [set_ne (.inr e), getD_set_ne (fun e2 => e e2.symm)]
      exact ⟨(hl.ment z hz).1, fun e => ((hl.ment z hz).2 e).keep hc hSM fun _ e => .inl e⟩
/-- A point is appended to the orbit; the slice is stored. -/
theorem Ck.orbit (h : Ck w base N k M c L) (hk : k < N) (bA : Below w.heap.size w w1) {w2 : World} {A : Option Addr} {n cc : Nat} (hg : w1.grownBy w2 (sval (L k).o).ownBlock) (hown : Slc w2 base A n cc (ofP (L k).orb ++ [(y : Int)]))
    (hat : (Value.slice A n cc).ownBlock = (sval (L k).o).ownBlock ∨ (Value.slice A n cc).ownBlock = some w1.heap.size) :
    ∃ M', Ck (w2.setCell ⟨(L k).B, 2, none⟩ (.slice A n cc)) base N k M' c (Proofs.YtkjokchhffjidaaGreatDoor.upd L k { L k with o := (A, n, cc), orb := (L k).orb ++ [y] }) ∧ Gw w (w2.setCell ⟨(L k).B, 2, none⟩ (.slice A n cc)) N k L (Proofs.YtkjokchhffjidaaGreatDoor.upd L k { L k with o := (A, n, cc), orb := (L k).orb ++ [y] }) M M' := by
  have hl := h.lk k (Nat.le_refl _) hk
  have hz1 := bA.size
  have hz2 := hg.size
  have hBlt := hl.blk.lt
  have c1 : Chg w w2 (fun b => (sval (L k).o).ownBlock = some b) := (Chg.of_below (M := fun b => (sval (L k).o).ownBlock = some b) bA).trans (.of_grown (M := fun b => (sval (L k).o).ownBlock = some b) hg fun b e => e) fun b e => .inl e
  have hoB : ∀ b, (Value.slice A n cc).ownBlock = some b → b ≠ (L k).B := fun b e e2 => by
    rcases hat with ha | ha
    · rw [ha] at e
      have := (h.dis k 2 k 0 b (Nat.le_refl _) hk (by decide) (Nat.le_refl _) hk (by decide) e (by rw [e2]; rfl)).2
      omega
    · rw [ha] at e; injection e with e; omega
  have c2 : Chg w2 (w2.setCell ⟨(L k).B, 2, none⟩ (.slice A n cc)) (fun b => b = (L k).B) := ⟨rfl, rfl, rfl, by simp, fun b hb hn => heap_setCell_other w2 ⟨(L k).B, 2, none⟩ _ _ fun e => hn e⟩
  have hc : Chg w (w2.setCell ⟨(L k).B, 2, none⟩ (.slice A n cc)) (fun b => (sval (L k).o).ownBlock = some b ∨ b = (L k).B) :=
    (⟨c1.os, c1.tape, c1.output, c1.size, fun b hb hn => c1.block b hb fun e => hn (.inl e)⟩ : Chg w w2 (fun b => (sval (L k).o).ownBlock = some b ∨ b = (L k).B)).trans c2 fun b e => .inl (.inr e)
  have hSM : ∀ b, ((sval (L k).o).ownBlock = some b ∨ b = (L k).B) → M b := fun b e => by
    rcases e with e | e
    · exact h.mm k 2 b (Nat.le_refl _) hk (by decide) e
    · exact h.mm k 0 b (Nat.le_refl _) hk (by decide) (by rw [e]; rfl)
  have hnS : ∀ t b, t = 1 ∨ t = 3 → mu (L k) t = some b → ¬ ((sval (L k).o).ownBlock = some b ∨ b = (L k).B) := fun t b ht e hs => by
    rcases hs with hs | hs
    · have := (h.dis k t k 2 b (Nat.le_refl _) hk (by omega) (Nat.le_refl _) hk (by decide) e hs).2
      omega
    · have := (h.dis k t k 0 b (Nat.le_refl _) hk (by omega) (Nat.le_refl _) hk (by decide) e (by rw [hs]; rfl)).2
      omega
  have hw2 : w2.heap.size = (w2.setCell ⟨(L k).B, 2, none⟩ (.slice A n cc)).heap.size := by simp
  have hM' : ∀ b, (M b ∨ (Value.slice A n cc).ownBlock = some b) → M b ∨ (w.heap.size ≤ b ∧ b < (w2.setCell ⟨(L k).B, 2, none⟩ (.slice A n cc)).heap.size) := fun b e => by
    rcases e with e | e
    · exact .inl e
    · rcases hat with ha | ha
      · rw [ha] at e; exact .inl (h.mm k 2 b (Nat.le_refl _) hk (by decide) e)
      · have hlt := (hown.lt_ b e).2
        rw [ha] at e; injection e with e
        exact .inr ⟨by omega, by rw [← hw2]; exact hlt⟩
  have hM3 : ∀ b, (M b ∨ (Value.slice A n cc).ownBlock = some b) → M b ∨ w.heap.size ≤ b := fun b e => by
    rcases hM' b e with h | h
    · exact .inl h
    · exact .inr h.1
  refine ⟨fun b => M b ∨ (Value.slice A n cc).ownBlock = some b, h.upd hk hc (fun b e => ?_) hM' (fun b e => .inl e) ?_ rfl (fun t b ht e => ?_) (fun t t' b a1 a2 e e' => ?_) (fun i _ => ⟨rfl, rfl⟩) (fun _ _ => rfl)⟩
  · rcases e with e | e
    · exact ⟨2, by decide, e⟩
    · exact ⟨0, by decide, by rw [e]; rfl⟩
  · refine ⟨?_, hl.hB, ownsRow_chg hl.gown hc fun b e => hnS 1 b (.inl rfl) e, hl.glen, fun z hz => (hl.gent z hz).keep hc hSM hM3, ?_, ownsRow_chg hl.mown hc fun b e => hnS 3 b (.inr rfl) e, hl.mlen, fun z hz => ⟨(hl.ment z hz).1, fun e => ((hl.ment z hz).2 e).keep hc hSM hM3⟩⟩
    · have b2 : Blk w2 (L k).B 65 #[.int .i64 (k : Nat), sval (L k).g, sval (L k).o, .slice (some ⟨(L k).mb, 0, none⟩) N N, ptr N L (k + 1)] := hl.blk.chg c1 fun e => by
        have := (h.dis k 2 k 0 _ (Nat.le_refl _) hk (by decide) (Nat.le_refl _) hk (by decide) e rfl).2
        omega
      have := b2.set_ 2 (.slice A n cc)
      simpa [sval] using this
    · have e1 : ofP ((L k).orb ++ [y]) = ofP (L k).orb ++ [(y : Int)] := ofP_snoc _ _
      show Slc _ base A n cc (ofP ((L k).orb ++ [y]))
      rw [e1]
      exact hown.chgS c2 hoB
  · have hold : t ≠ 2 → mu (L k) t = some b := fun ne => by
      rcases t with _ | _ | _ | t
      · exact e
      · exact e
      · exact absurd rfl ne
      · exact e
    by_cases e2 : t = 2
    · subst e2
      have e : (Value.slice A n cc).ownBlock = some b := e
      refine ⟨?_, .inr e⟩
      rcases hat with ha | ha
      · rw [ha] at e; exact .inl e
      · rw [ha] at e; injection e with e; exact .inr (by omega)
    · exact ⟨.inl (hold e2), .inl (h.mm k t b (Nat.le_refl _) hk ht (hold e2))⟩
  · have hold : ∀ t, t < 4 → mu { L k with o := (A, n, cc), orb := (L k).orb ++ [y] } t = some b → mu (L k) t = some b ∨ (t = 2 ∧ w.heap.size ≤ b) := fun t ht e => by
      rcases t with _ | _ | _ | t
      · exact .inl e
      · exact .inl e
      · have e : (Value.slice A n cc).ownBlock = some b := e
        rcases hat with ha | ha
        · rw [ha] at e; exact .inl e
        · rw [ha] at e; injection e with e; exact .inr ⟨rfl, by omega⟩
      · exact .inl e
    have hmx : ∀ t, t < 4 → mu (L k) t = some b → b < w.heap.size := fun t ht e => (h.mlt b (h.mm k t b (Nat.le_refl _) hk ht e)).2
    rcases hold t a1 e with h1 | ⟨h1, h2⟩ <;> rcases hold t' a2 e' with h3 | ⟨h3, h4⟩
    · exact (h.dis k t k t' b (Nat.le_refl _) hk a1 (Nat.le_refl _) hk a2 h1 h3).2
    · have := hmx t a1 h1; omega
    · have := hmx t' a2 h3; omega
    · omega
/-- A generator is appended; the slice is stored. -/
theorem Ck.pushg (h : Ck w base N k M c L) (hk : k < N) (bA : Below w.heap.size w w1) {w2 : World} {A : Option Addr} {n cc : Nat} (hg : w1.grownBy w2 (sval (L k).g).ownBlock) (hown : w2.ownsRow base 63 1 (.slice A n cc) ((c.gen k).length + 1) ((L k).ge.map sval ++ [sval d]))
    (hat : (Value.slice A n cc).ownBlock = (sval (L k).g).ownBlock ∨ (Value.slice A n cc).ownBlock = some w1.heap.size) (hd : Rd w M d q) :
    ∃ M', Ck (w2.setCell ⟨(L k).B, 1, none⟩ (.slice A n cc)) base N k M' (c.push k q) (Proofs.YtkjokchhffjidaaGreatDoor.upd L k { L k with g := (A, n, cc), ge := (L k).ge ++ [d] }) ∧ Gw w (w2.setCell ⟨(L k).B, 1, none⟩ (.slice A n cc)) N k L (Proofs.YtkjokchhffjidaaGreatDoor.upd L k { L k with g := (A, n, cc), ge := (L k).ge ++ [d] }) M M' := by
  have hl := h.lk k (Nat.le_refl _) hk
  have hz1 := bA.size
  have hz2 := hg.size
  have hBlt := hl.blk.lt
  have c1 : Chg w w2 (fun b => (sval (L k).g).ownBlock = some b) := (Chg.of_below (M := fun b => (sval (L k).g).ownBlock = some b) bA).trans (.of_grown (M := fun b => (sval (L k).g).ownBlock = some b) hg fun b e => e) fun b e => .inl e
  have hoB : ∀ b, (Value.slice A n cc).ownBlock = some b → b ≠ (L k).B := fun b e e2 => by
    rcases hat with ha | ha
    · rw [ha] at e
      have := (h.dis k 1 k 0 b (Nat.le_refl _) hk (by decide) (Nat.le_refl _) hk (by decide) e (by rw [e2]; rfl)).2
      omega
    · rw [ha] at e; injection e with e; omega
  have c2 : Chg w2 (w2.setCell ⟨(L k).B, 1, none⟩ (.slice A n cc)) (fun b => b = (L k).B) := ⟨rfl, rfl, rfl, by simp, fun b hb hn => heap_setCell_other w2 ⟨(L k).B, 1, none⟩ _ _ fun e => hn e⟩
  have hc : Chg w (w2.setCell ⟨(L k).B, 1, none⟩ (.slice A n cc)) (fun b => (sval (L k).g).ownBlock = some b ∨ b = (L k).B) :=
    (⟨c1.os, c1.tape, c1.output, c1.size, fun b hb hn => c1.block b hb fun e => hn (.inl e)⟩ : Chg w w2 (fun b => (sval (L k).g).ownBlock = some b ∨ b = (L k).B)).trans c2 fun b e => .inl (.inr e)
  have hSM : ∀ b, ((sval (L k).g).ownBlock = some b ∨ b = (L k).B) → M b := fun b e => by
    rcases e with e | e
    · exact h.mm k 1 b (Nat.le_refl _) hk (by decide) e
    · exact h.mm k 0 b (Nat.le_refl _) hk (by decide) (by rw [e]; rfl)
  have hnS : ∀ t b, t = 2 ∨ t = 3 → mu (L k) t = some b → ¬ ((sval (L k).g).ownBlock = some b ∨ b = (L k).B) := fun t b ht e hs => by
    rcases hs with hs | hs
    · have := (h.dis k t k 1 b (Nat.le_refl _) hk (by omega) (Nat.le_refl _) hk (by decide) e hs).2
      omega
    · have := (h.dis k t k 0 b (Nat.le_refl _) hk (by omega) (Nat.le_refl _) hk (by decide) e (by rw [hs]; rfl)).2
      omega
  have hw2 : w2.heap.size = (w2.setCell ⟨(L k).B, 1, none⟩ (.slice A n cc)).heap.size := by simp
  have hM' : ∀ b, (M b ∨ (Value.slice A n cc).ownBlock = some b) → M b ∨ (w.heap.size ≤ b ∧ b < (w2.setCell ⟨(L k).B, 1, none⟩ (.slice A n cc)).heap.size) := fun b e => by
    rcases e with e | e
    · exact .inl e
    · rcases hat with ha | ha
      · rw [ha] at e; exact .inl (h.mm k 1 b (Nat.le_refl _) hk (by decide) e)
      · have hlt := (World.ownsRow.lt hown b e).2
        rw [ha] at e; injection e with e
        exact .inr ⟨by omega, by rw [← hw2]; exact hlt⟩
  have hM3 : ∀ b, (M b ∨ (Value.slice A n cc).ownBlock = some b) → M b ∨ w.heap.size ≤ b := fun b e => by
    rcases hM' b e with h | h
    · exact .inl h
    · exact .inr h.1
  refine ⟨fun b => M b ∨ (Value.slice A n cc).ownBlock = some b, h.upd hk hc (fun b e => ?_) hM' (fun b e => .inl e) ?_ rfl (fun t b ht e => ?_) (fun t t' b a1 a2 e e' => ?_) (fun i hi => ⟨rfl, push_ne (by omega)⟩) (fun _ _ => rfl)⟩
  · rcases e with e | e
    · exact ⟨1, by decide, e⟩
    · exact ⟨0, by decide, by rw [e]; rfl⟩
  · rw [push_at]
    refine ⟨?_, hl.hB, ?_, by simp [hl.glen], fun z hz => ?_, hl.oown.chgS hc fun b e => hnS 2 b (.inl rfl) e, ownsRow_chg hl.mown hc fun b e => hnS 3 b (.inr rfl) e, hl.mlen, fun z hz => ⟨(hl.ment z hz).1, fun e => ((hl.ment z hz).2 e).keep hc hSM hM3⟩⟩
    · have b2 : Blk w2 (L k).B 65 #[.int .i64 (k : Nat), sval (L k).g, sval (L k).o, .slice (some ⟨(L k).mb, 0, none⟩) N N, ptr N L (k + 1)] := hl.blk.chg c1 fun e => by
        have := (h.dis k 1 k 0 _ (Nat.le_refl _) hk (by decide) (Nat.le_refl _) hk (by decide) e rfl).2
        omega
      have := b2.set_ 1 (.slice A n cc)
      simpa [sval] using this
    · rw [List.length_append, List.map_append]
      exact ownsRow_chg hown c2 hoB
    · show Rd _ _ (((L k).ge ++ [d]).getD z sd0) ((c.gen k ++ [q]).getD z [])
      have hz : z < (c.gen k).length + 1 := by simpa using hz
      by_cases ez : z < (c.gen k).length
      · rw [getD_app _ _ _ z (by rw [hl.glen]; exact ez), getD_app _ _ _ z ez]
        exact (hl.gent z ez).keep hc hSM hM3
      · have ez2 : z = (c.gen k).length := by omega
        rw [getD_snoc _ _ _ z (by rw [hl.glen]; exact ez2), getD_snoc _ _ _ z ez2]
        exact hd.keep hc hSM hM3
  · have hold : t ≠ 1 → mu (L k) t = some b := fun ne => by
      rcases t with _ | _ | _ | t
      · exact e
      · exact absurd rfl ne
      · exact e
      · exact e
    by_cases e2 : t = 1
    · subst e2
      have e : (Value.slice A n cc).ownBlock = some b := e
      refine ⟨?_, .inr e⟩
      rcases hat with ha | ha
      · rw [ha] at e; exact .inl e
      · rw [ha] at e; injection e with e; exact .inr (by omega)
    · exact ⟨.inl (hold e2), .inl (h.mm k t b (Nat.le_refl _) hk ht (hold e2))⟩
  · have hold : ∀ t, t < 4 → mu { L k with g := (A, n, cc), ge := (L k).ge ++ [d] } t = some b → mu (L k) t = some b ∨ (t = 1 ∧ w.heap.size ≤ b) := fun t ht e => by
      rcases t with _ | _ | _ | t
      · exact .inl e
      · have e : (Value.slice A n cc).ownBlock = some b := e
        rcases hat with ha | ha
        · rw [ha] at e; exact .inl e
        · rw [ha] at e; injection e with e; exact .inr ⟨rfl, by omega⟩
      · exact .inl e
      · exact .inl e
    have hmx : ∀ t, t < 4 → mu (L k) t = some b → b < w.heap.size := fun t ht e => (h.mlt b (h.mm k t b (Nat.le_refl _) hk ht e)).2
    rcases hold t a1 e with h1 | ⟨h1, h2⟩ <;> rcases hold t' a2 e' with h3 | ⟨h3, h4⟩
    · exact (h.dis k t k t' b (Nat.le_refl _) hk a1 (Nat.le_refl _) hk a2 h1 h3).2
    · have := hmx t a1 h1; omega
    · have := hmx t' a2 h3; omega
    · omega
/-! ### reading a link -/
theorem Ck.cB (h : Ck w base N k M c L) (hi : k ≤ i) (hN : i < N) : w.cell? ⟨(L i).B, 0, none⟩ = some (.int .i64 (i : Nat)) ∧ w.cell? ⟨(L i).B, 1, none⟩ = some (sval (L i).g) ∧ w.cell? ⟨(L i).B, 2, none⟩ = some (sval (L i).o) ∧ w.cell? ⟨(L i).B, 3, none⟩ = some (.slice (some ⟨(L i).mb, 0, none⟩) N N) ∧ w.cell? ⟨(L i).B, 4, none⟩ = some (ptr N L (i + 1)) :=
  have b := (h.lk i hi hN).blk
  ⟨b.cell 0, b.cell 1, b.cell 2, b.cell 3, b.cell 4⟩
theorem Ck.cM (h : Ck w base N k M c L) (hi : k ≤ i) (hN : i < N) (hy : y < N) : w.cell? ⟨(L i).mb, y, none⟩ = some (sval ((L i).en.getD y sd0)) := by
  have hl := h.lk i hi hN
  rw [hl.mown.cellAt y (by omega), ents_at (by rw [hl.mlen]; exact hy)]
theorem Ck.eM (h : Ck w base N k M c L) (hi : k ≤ i) (hN : i < N) (hy : y < N) : (c.rep i y = [] → (L i).en.getD y sd0 = sd0) ∧ (c.rep i y ≠ [] → Rd w M ((L i).en.getD y sd0) (c.rep i y)) := (h.lk i hi hN).ment y hy
theorem Ck.olen (h : Ck w base N k M c L) (hi : k ≤ i) (hN : i < N) : (L i).o.2.1 = (L i).orb.length := by
  rw [← (h.lk i hi hN).oown.1, ofP_len]
theorem ofP_at {xs : List Nat} {j : Nat} (hj : j < xs.length) : (ofP xs).getD j 0 = ((xs.getD j 0 : Nat) : Int) := by
  rw [List.getD_eq_getElem?_getD, List.getD_eq_getElem?_getD, ofP, List.getElem?_map, List.getElem?_eq_getElem hj]; rfl
/-- The j-th point of an orbit. -/
theorem Ck.cO (h : Ck w base N k M c L) (hi : k ≤ i) (hN : i < N) {j : Nat} (hj : j < (L i).orb.length) : ∃ ob oc, (L i).o = (some ⟨ob, 0, none⟩, (L i).orb.length, oc) ∧ w.cell? ⟨ob, j, none⟩ = some (.int .i64 (((L i).orb.getD j 0 : Nat) : Int)) := by
  have ho := (h.lk i hi hN).oown
  rcases he : (L i).o with ⟨A, n, cc⟩
  rw [he] at ho
  have e1 : n = (L i).orb.length := by have h3 := ho.1; rw [ofP_len] at h3; exact h3.symm
  subst e1
  rcases ho.at_ with ⟨_, e, _⟩ | ⟨g, e, _, _⟩
  · have := ofP_len (L i).orb; rw [e] at this; simp at this; omega
  · have e : A = some ⟨g, 0, none⟩ := e
    subst e
    refine ⟨g, cc, rfl, ?_⟩
    obtain ⟨b, off, e2, _, hc⟩ := ho.ri_ (by rw [ofP_len]; omega)
    injection e2 with e2
    injection e2 with e3 e4
    subst e3; subst e4
    have := hc j (by rw [ofP_len]; exact hj)
    rw [ofP_at hj, Nat.zero_add] at this
    exact this
/-- The j-th generator of a link. -/
theorem Ck.cG (h : Ck w base N k M c L) (hi : k ≤ i) (hN : i < N) {j : Nat} (hj : j < (c.gen i).length) : ∃ q cq, (L i).g = (some ⟨q, 0, none⟩, (c.gen i).length, cq) ∧ (c.gen i).length ≤ cq ∧ w.cell? ⟨q, j, none⟩ = some (sval ((L i).ge.getD j sd0)) ∧ Rd w M ((L i).ge.getD j sd0) ((c.gen i).getD j []) := by
  have hl := h.lk i hi hN
  have ho := hl.gown
  rcases he : (L i).g with ⟨a, b, d⟩
  rw [he] at ho
  rcases ho.2 with ⟨e, h0⟩ | ⟨g', cap, cur, e, _, _, hcap, _⟩
  · omega
  · unfold sval at e; injection e with e1 e2 e3
    subst e1 e2 e3
    refine ⟨g', _, rfl, hcap, ?_, hl.gent j hj⟩
    have ho : w.ownsRow base 63 1 (.slice (some ⟨g', 0, none⟩) (c.gen i).length d) (c.gen i).length ((L i).ge.map sval) := ho
    rw [ho.cellAt j (by omega), ents_at (by rw [hl.glen]; exact hj)]
theorem rd_not0 (h : Rd w M d p) (hp : p ≠ []) : ∃ b off, d.1 = some ⟨b, off, none⟩ := by
  obtain ⟨b, off, e, _⟩ := h.at_ (by
    rcases p with _ | ⟨x, t⟩
    · exact absurd rfl hp
    · simp)
  exact ⟨b, off, e⟩
end
end Go.Proofs.YtkjokchhffjidaaGreatDoor

/- The program's search in its chain: slices.Index, withValue, match, contains. Conditions: at most 20 points; the chain whole from the link on. -/
namespace Go.Proofs.YtkjokchhffjidaaGreatDoor
open Go.RowKit

theorem pcDrewBelow (w : World) (k : Nat) : Below w.heap.size w (w.drewN k) := ⟨rfl, rfl, rfl, Nat.le_refl _, fun _ _ => rfl⟩

/-- slices.Index. -/
theorem implIdx (A : Option Addr) (n c : Nat) (p : List Int) (v : Int) (w : World) (hp : RI w w.heap.size A p) (lp : Hid (p.length = n)) (hn : n ≤ 20) :
    Calls Tryz.prog 84 #[.slice A n c, .int .i64 v] w fun e w' => ∃ r : Int, e = .returned (.int .i64 r) ∧ ((∃ y : Nat, r = (y : Int) ∧ y < n ∧ p.getD y 0 = v) ∨ (r = -1 ∧ ∀ y, y < n → p.getD y 0 ≠ v)) ∧ w = w' := by
  go_enter Tryz.func84, Tryz.ntmps84
  go_wp2_with fail
  go_loopw [8] (fun i wr => ∃ k : Nat, k ≤ n ∧ i = .int .i64 (k : Nat) ∧ (∀ y, y < k → p.getD y 0 ≠ v) ∧ w = wr) (fun i _ => n - (intOf i).toNat)
  case atStart => exact ⟨0, Nat.zero_le _, rfl, fun y h => absurd h (by omega), rfl⟩
  case round =>
    obtain ⟨k, hk, rfl, hno, rfl⟩ := hrel
    have Hno := Lib.hid hno
    clear hno
    by_cases hlt : k < n
    · obtain ⟨b, off, rfl, hb, hc⟩ := hp (by rw [lp.out]; omega)
      have c1 := hc k (by rw [lp.out]; omega)
      obtain ⟨y, ey⟩ : ∃ y, p.getD k 0 = y := ⟨_, rfl⟩
      rw [ey] at c1
      have Ey := Lib.hid ey
      have p1 : (0 : Int) ≤ k := by omega
      have p2 : (k : Int) < n := by omega
      clear ey hc hp
      by_cases hv : v = y
      · subst hv
        go_wp2_with fail
        go_ret
        exact ⟨_, rfl, .inl ⟨k, rfl, hlt, Ey.out⟩, rfl⟩
      · have d1 : (v == y) = false := by simpa using hv
        have Hv := Lib.hid hv
        clear hv
        go_wp2_with fail
        go_roundw
        case rel => exact ⟨k + 1, by omega, by go_num, fun z hz => by
          rcases Nat.lt_or_ge z k with h | h
          · exact Hno.out z h
          · obtain rfl : z = k := by omega
            rw [Ey.out]; exact fun e => Hv.out e.symm, trivial⟩
        case measure => simp [intOf]; omega
    · obtain rfl : k = n := by omega
      go_wp2_with fail
      go_ret
      exact ⟨_, rfl, .inr ⟨rfl, Hno.out⟩, rfl⟩

set_option maxHeartbeats 2000000 in
set_option maxRecDepth 100000 in
/-- withValue at link j. -/
theorem implWith (base N k j cp : Nat) (M : Nat → Prop) (c : Ch) (L : Nat → LK) (A : Option Addr) (m : List Int) (v : Int) (w : World) (hc : Ck w base N k M c L) (hkj : k ≤ j) (hjN : j < N) (hr : Hid (RepOK N c j)) (hm : RI w w.heap.size A m) (hP : Hid (Pn N m)) :
    Calls Tryz.prog 76 #[.pointer (some ⟨(L j).B, 0, none⟩), .slice A N cp, .int .i64 v] w fun e w' => ∃ (A' : Option Addr) (n' c' : Nat), e = .returned (.slice A' n' c') ∧
      ((A' = none ∧ n' = 0 ∧ c' = 0 ∧ ∀ y, y < N → (nx m y : Int) = v → c.rep j y = []) ∨ (∃ g y, A' = some ⟨g, 0, none⟩ ∧ n' = N ∧ y < N ∧ (nx m y : Int) = v ∧ c.rep j y ≠ [] ∧ Slc w' w.heap.size A' N c' (compL (c.rep j y) m))) ∧ Below w.heap.size w w' := by
  have q24 : ∀ (w : World) (a : Option Addr) (n c n' c' : Nat), (binOp .eql 63 (.slice a n c) (.slice none n' c')).run Tryz.prog w = .ok (.bool a.isNone) w := fun w a n c n' c' => Lib.run_eql_slice_nil w _ _ a n c n' c' Tryz.underlying63
  have HC := Lib.hid hc
  have HM := Lib.hid hm
  have hN := hP.out.pos
  have cb := hc.cB hkj hjN
  obtain ⟨x0, x1, x2, x3, x4⟩ := cb
  clear hc hm x0 x1 x2 x4
  have hv : ∀ y, y < N → m.getD y 0 = (nx m y : Int) := fun y hy => nx_val hP.out.1 (by rw [hP.out.2]; exact hy)
  have Hv := Lib.hid hv
  clear hv
  go_enter Tryz.func76, Tryz.ntmps76
  go_wp2_with fail
  refine (implIdx A N cp m v w HM.out (Lib.hid hP.out.2) hN.2).mono ?_
  rintro e w1 ⟨r, rfl, hyr, rfl⟩
  rcases hyr with ⟨y, rfl, hy, hyv⟩ | ⟨rfl, hno⟩
  · rw [Hv.out y hy] at hyv
    have Yv := Lib.hid hyv
    have x5 := HC.out.cM hkj hjN hy
    have em := HC.out.eM hkj hjN hy
    have d0 : decide ((y : Int) < 0) = false := by simp
    have p0 : (0 : Int) ≤ y := by omega
    have p1 : (y : Int) < N := by omega
    clear hyv
    by_cases hz : c.rep j y = []
    · rw [em.1 hz] at x5
      have Hz := Lib.hid hz
      simp only [sval, sd0] at x5
      clear em hz
      go_wp2_with fail
      go_ret
      exact ⟨_, _, _, rfl, .inl ⟨rfl, rfl, rfl, fun z hzN e => by
        have : z = y := hP.out.inj hzN hy (by have := Yv.out; omega)
        rw [this]; exact Hz.out⟩, Below.refl _ _⟩
    · have hrd := em.2 hz
      have RP := Lib.hid (hr.out.at_ y hz).2.1
      rcases hd : (L j).en.getD y sd0 with ⟨dA, dn, dc⟩
      rw [hd] at x5 hrd
      obtain ⟨b, off, e⟩ := rd_not0 hrd hz
      have e : dA = some ⟨b, off, none⟩ := e
      subst e
      obtain rfl : dn = N := by have h3 : (c.rep j y).length = dn := hrd.len; have := RP.out.2; omega
      have Rr := Lib.hid hrd.ri
      have Hz := Lib.hid hz
      simp only [sval] at x5
      clear em hz hrd hd
      go_wp2_with fail
      refine (implThen (some ⟨b, off, none⟩) A dc cp dn (c.rep j y) m w Rr.out HM.out (Lib.hid RP.out.2) (Lib.hid hP.out.2) (Lib.hid RP.out.1) hN.2).mono ?_
      rintro e w2 ⟨A2, c2, rfl, s2, b2⟩
      have S2 := Lib.hid s2
      have B2 := Lib.hid b2
      clear s2 b2
      go_wp2_with fail
      go_ret
      refine ⟨_, _, _, rfl, .inr ?_, B2.out⟩
      rcases S2.out.at_ with ⟨_, _, h0, _⟩ | ⟨g, rfl, _, _⟩
      · omega
      · exact ⟨g, y, rfl, rfl, hy, Yv.out, Hz.out, S2.out⟩
  · have Hno := Lib.hid hno
    have d0 : decide ((-1 : Int) < 0) = true := by decide
    clear hno
    go_wp2_with fail
    go_ret
    exact ⟨_, _, _, rfl, .inl ⟨rfl, rfl, rfl, fun z hzN e => absurd (by rw [Hv.out z hzN]; exact e) (Hno.out z hzN)⟩, Below.refl _ _⟩

set_option maxHeartbeats 4000000 in
set_option maxRecDepth 100000 in
/-- match at link k. -/
theorem implMatch (base N k nv cv : Nat) (M : Nat → Prop) (c : Ch) (L : Nat → LK) (V : Option Addr) (vals : List Int) (w : World) (hc : Ck w base N k M c L) (hk : k < N) (hU : Hid (UpTo N c k)) (hN : N ≤ 20) (hv : RI w w.heap.size V vals) (lv : Hid (vals.length = nv)) (hnv : nv ≤ 1048576) :
    Calls Tryz.prog 65 #[.pointer (some ⟨(L k).B, 0, none⟩), .slice V nv cv] w fun e w' => ∃ (g off c' j : Nat) (m : List Int), e = .returned (.tuple #[.slice (some ⟨g, off, none⟩) N c', ptr N L j]) ∧ RI w' w'.heap.size (some ⟨g, off, none⟩) m ∧ Mt N c k vals m j ∧ NoM N c k vals j ∧
      (j = k ∨ Slc w' w.heap.size (some ⟨g, off, none⟩) N c' m) ∧ Below w.heap.size w w' := by
  have q24 : ∀ (w : World) (a : Option Addr) (n c n' c' : Nat), (binOp .eql 63 (.slice a n c) (.slice none n' c')).run Tryz.prog w = .ok (.bool a.isNone) w := fun w a n c n' c' => Lib.run_eql_slice_nil w _ _ a n c n' c' Tryz.underlying63
  have HC := Lib.hid hc
  have HV := Lib.hid hv
  obtain ⟨x0, x1, x2, x3, x4⟩ := hc.cB (Nat.le_refl _) hk
  have hid : c.rep k k = idL N := (hU.out.rep k (Nat.le_refl _) hk).one
  have hne : c.rep k k ≠ [] := by rw [hid]; intro e; have := idL_length N; rw [e] at this; simp at this; omega
  have x5 := hc.cM (Nat.le_refl _) hk hk
  have hrd := (hc.eM (Nat.le_refl _) hk hk).2 hne
  rcases hd : (L k).en.getD k sd0 with ⟨dA, dn, dc⟩
  rw [hd] at x5 hrd
  obtain ⟨b, off, e⟩ := rd_not0 hrd hne
  have e : dA = some ⟨b, off, none⟩ := e
  subst e
  rw [hid] at hrd
  obtain rfl : dn = N := by have h3 : (idL N).length = dn := hrd.len; rw [idL_length] at h3; omega
  have Rr := Lib.hid hrd.ri
  have p0 : (0 : Int) ≤ k := by omega
  have p1 : (k : Int) < dn := by omega
  have ep : ptr dn L k = .pointer (some ⟨(L k).B, 0, none⟩) := if_pos hk
  have Ep := Lib.hid ep
  simp only [sval] at x5
  clear hc hv hid hne hrd hd x1 x2 x4 ep
  go_enter Tryz.func65, Tryz.ntmps65
  go_wp2_with fail
  go_quiet (fail)
  have B0 : Hid (Below w.heap.size w (w.drewN nq)) := Lib.hid (pcDrewBelow w nq)
  have R0 := Lib.hid (Rr.out.up B0.out)
  generalize w.drewN nq = w0 at B0 R0 ⊢
  clear x0 x3 x5
  go_wp2_with fail
  go_loopg [6, 7, 8] dn (fun gg v l _ wr => ∃ (g off c' j : Nat) (m : List Int), dn - j ≤ gg ∧ v = .slice (some ⟨g, off, none⟩) dn c' ∧ l = ptr dn L j ∧ RI wr wr.heap.size (some ⟨g, off, none⟩) m ∧ Mt dn c k vals m j ∧ (j = k ∨ Slc wr w.heap.size (some ⟨g, off, none⟩) dn c' m) ∧ Below w.heap.size w wr)
  case atStart => exact ⟨b, off, dc, k, idL dn, by omega, rfl, Ep.out.symm, R0.out, .start (by omega) hN (by omega), .inl rfl, B0.out⟩
  case round =>
    clear R0 B0
    obtain ⟨g, off, c', j, m, hgg, rfl, rfl, hm, hmt, hfr, bel⟩ := hrel
    have Hm := Lib.hid hm
    have Mt0 := Lib.hid hmt
    have Fr := Lib.hid hfr
    have Be := Lib.hid bel
    have C1 := Lib.hid (HC.out.up bel)
    have V1 := Lib.hid (HV.out.up bel)
    have hkj := hmt.kj
    have hjN := hmt.jN
    clear hm hmt hfr bel
    by_cases hlt : j < dn
    · have ep : ptr dn L j = .pointer (some ⟨(L j).B, 0, none⟩) := if_pos hlt
      obtain ⟨y0, y1, y2, y3, y4⟩ := C1.out.cB hkj hlt
      rw [ep]
      clear ep y1 y2 y3
      by_cases hjv : j < nv
      · obtain ⟨vb, vo, rfl, hvb, hvc⟩ := V1.out (by rw [lv.out]; omega)
        have z1 := hvc j (by rw [lv.out]; omega)
        obtain ⟨u, eu⟩ : ∃ u, vals.getD j 0 = u := ⟨_, rfl⟩
        rw [eu] at z1
        have Eu := Lib.hid eu
        have d0 : decide ((j : Int) < (nv : Int)) = true := by simp; omega
        have q0 : (0 : Int) ≤ j := by omega
        have q1 : (j : Int) < nv := by omega
        clear hvb hvc eu
        go_wp2_with fail
        refine (implWith base dn k j c' M c L (some ⟨g, off, none⟩) m u wr C1.out hkj hlt (Lib.hid (hU.out.rep j hkj hlt)) Hm.out (Lib.hid Mt0.out.pn)).mono ?_
        rintro e w2 ⟨A2, n2, c2, rfl, (⟨rfl, rfl, rfl, hno⟩ | ⟨g2, y, rfl, rfl, hy, hyv, hyr, hs⟩), b2⟩
        · have B2 : Hid (Below w.heap.size w w2) := Lib.hid (btr Be.out b2)
          have R2 := Lib.hid (Hm.out.up b2)
          have Fr2 : Hid (j = k ∨ Slc w2 w.heap.size (some ⟨g, off, none⟩) dn c' m) := Lib.hid (Fr.out.imp id fun h => h.up b2)
          have Nm : Hid (NoM dn c k vals j) := Lib.hid (Mt0.out.stop hU.out (by omega) hN fun y hy e => hno y hy (by rw [← Eu.out]; exact e))
          clear hno b2
          go_wp2_with fail
          go_ret2
          refine ⟨_, _, _, j, _, ?_, R2.out, Mt0.out, Nm.out, Fr2.out, B2.out⟩
          show Ending.returned (.tuple #[.slice (some ⟨g, off, none⟩) dn c', .pointer (some ⟨(L j).B, 0, none⟩)]) = _
          rw [show ptr dn L j = .pointer (some ⟨(L j).B, 0, none⟩) from if_pos hlt]
        · have B2 : Hid (Below w.heap.size w w2) := Lib.hid (btr Be.out b2)
          have C2 := Lib.hid (C1.out.up b2)
          have S2 : Hid (Slc w2 w.heap.size (some ⟨g2, 0, none⟩) n2 c2 (compL (c.rep j y) m)) := Lib.hid (hs.mono Be.out.size)
          have Mt2 : Hid (Mt n2 c k vals (compL (c.rep j y) m) (j + 1)) := Lib.hid (Mt0.out.step hU.out (by omega) hN hlt (by rw [lv.out]; exact hjv) hyr (by rw [Eu.out]; exact hyv))
          have z4 := (C2.out.cB hkj hlt).2.2.2.2
          have z0 := (C2.out.cB hkj hlt).1
          clear hs b2 y0 y4 hy hyv hyr C1 V1
          go_wp2_with fail
          go_quiet (fail)
          have B3 : Hid (Below w2.heap.size w2 (w2.drewN nq)) := Lib.hid (pcDrewBelow w2 nq)
          have S3 := Lib.hid (S2.out.up B3.out)
          have C3 := Lib.hid (C2.out.up B3.out)
          have B4 : Hid (Below w.heap.size w (w2.drewN nq)) := Lib.hid (btr B2.out B3.out)
          generalize w2.drewN nq = w3 at B3 S3 C3 B4 ⊢
          go_wp2_with fail
          go_roundg (n2 - (j + 1))
          case rel => exact ⟨g2, 0, c2, j + 1, _, by omega, rfl, rfl, S3.out.ri_, Mt2.out, .inr S3.out, B4.out⟩
          case measure => omega
      · have d0 : decide ((j : Int) < (nv : Int)) = false := by simp; omega
        have Nm : Hid (NoM dn c k vals j) := Lib.hid fun _ h => absurd h (by rw [lv.out]; exact hjv)
        go_wp2_with fail
        go_ret2
        refine ⟨_, _, _, j, _, ?_, Hm.out, Mt0.out, Nm.out, Fr.out, Be.out⟩
        show Ending.returned (.tuple #[.slice (some ⟨g, off, none⟩) dn c', .pointer (some ⟨(L j).B, 0, none⟩)]) = _
        rw [show ptr dn L j = .pointer (some ⟨(L j).B, 0, none⟩) from if_pos hlt]
    · obtain rfl : j = dn := by omega
      have ep : ptr j L j = .pointer none := if_neg (by omega)
      have Nm : Hid (NoM j c k vals j) := Lib.hid fun h _ => absurd h (by omega)
      rw [ep]
      clear ep
      go_wp2_with fail
      go_ret2
      refine ⟨_, _, _, j, _, ?_, Hm.out, Mt0.out, Nm.out, Fr.out, Be.out⟩
      show Ending.returned (.tuple #[.slice (some ⟨g, off, none⟩) j c', .pointer none]) = _
      rw [show ptr j L j = .pointer none from if_neg (by omega)]

set_option maxHeartbeats 1000000 in
/-- contains at link k. -/
theorem implContains (base N k cp : Nat) (M : Nat → Prop) (c : Ch) (L : Nat → LK) (A : Option Addr) (p : List Int) (w : World) (hc : Ck w base N k M c L) (hk : k < N) (hU : Hid (UpTo N c k)) (hN : N ≤ 20) (hp : RI w w.heap.size A p) (hP : Hid (Pn N p)) (hF : Hid (Fx k p)) (ans : Bool) (ha : Hid (ans = true ↔ Mb (c.gen k) N p)) :
    Calls Tryz.prog 52 #[.pointer (some ⟨(L k).B, 0, none⟩), .slice A N cp] w fun e w' => e = .returned (.bool ans) ∧ Below w.heap.size w w' := by
  have HC := Lib.hid hc
  have HP := Lib.hid hp
  clear hc hp
  go_enter Tryz.func52, Tryz.ntmps52
  go_wp2_with fail
  refine (implMatch base N k N cp M c L A p w HC.out hk hU hN HP.out (Lib.hid hP.out.2) (by omega)).mono ?_
  rintro e w1 ⟨g, off, c', j, m, rfl, hm, hmt, hnm, hfr, b1⟩
  have B1 := Lib.hid b1
  have hiff := hmt.mem hnm hU.out (by omega) hN (by omega) hP.out hF.out
  have hjN := hmt.jN
  clear hm hmt hnm hfr b1
  by_cases hj : j = N
  · obtain rfl : ans = true := ha.out.2 (hiff.1 hj)
    have ep : ptr N L j = .pointer none := if_neg (by omega)
    rw [ep]
    clear hiff ep
    go_wp2_with fail
    go_ret
    exact ⟨rfl, B1.out⟩
  · obtain rfl : ans = false := by
      rcases ans with _ | _
      · rfl
      · exact absurd (hiff.2 (ha.out.1 rfl)) hj
    have ep : ptr N L j = .pointer (some ⟨(L j).B, 0, none⟩) := if_pos (by omega)
    rw [ep]
    clear hiff ep
    go_wp2_with fail
    go_ret
    exact ⟨rfl, B1.out⟩
end Go.Proofs.YtkjokchhffjidaaGreatDoor

/- The program's include: one product is taken as a mover or divided away. Conditions: at most 20 points; the chain whole above the link; add one link on keeps its contract. -/
namespace Go.Proofs.YtkjokchhffjidaaGreatDoor
open Go.RowKit

/-- append of one number onto a row of the call's own, and where the new row lies. -/
theorem wpList_appI {w : World} {ops : Array Oper} {rest : List Oper} {o : Oper} {a : Act} {Q : Exit → Act → World → Prop} (hgd : o.guard = none) (s x : Operand)
    (ho : o.op = .call { callee := .builtin .append, args := #[s, x], argTypes := #[48, 48] })
    (base : Nat) (A : Option Addr) (n c : Nat) (xs : List Int) (hs : a.eval s = .slice A n c) (hown : Slc w base A n c xs) (g : Nat) (u : Int) (hx : a.eval x = .slice (some ⟨g, 0, none⟩) 1 1)
    (hcell : w.cell? ⟨g, 0, none⟩ = some (.int .i64 u)) (hn : n ≤ 1000000000) (hbase : base ≤ w.heap.size)
    (h : ∀ A' c' w', Slc w' base A' (n + 1) c' (xs ++ [u]) → w.grownBy w' (Value.slice A n c).ownBlock → ((Value.slice A' (n + 1) c').ownBlock = (Value.slice A n c).ownBlock ∨ (Value.slice A' (n + 1) c').ownBlock = some w.heap.size) → wpList Tryz.prog ops Q rest (a.put o.dst (.slice A' (n + 1) c')) w') : wpList Tryz.prog ops Q (o :: rest) a w := by
  obtain ⟨i0, hi, hz0, hz1, hz2⟩ := info_parts infoI
  obtain ⟨hl, ho'⟩ := hown
  subst hl
  refine wpList_append_own_at w hgd s x 48 ho base 2 i0 (.int .i64 0) 1 8 Tryz.underlying48 hi hz0 hz1 hz2 rfl (by decide) _ xs.length _ hs ho' ⟨g, 0, none⟩ 1 1 [.int .i64 u] hx rfl ?_ ?_ ?_ (by omega) hbase ?_
  · intro j v hj
    match j, hj with
    | 0, hj => simp at hj; subst hj; simpa [Addr.add] using hcell
    | j + 1, hj => simp at hj
  · intro v hv; simp at hv; subst hv; rfl
  · unfold maxLen; omega
  · intro v' w' hown' hg _ hat
    have hO : Own w' base v' (xs ++ [u]) := by
      unfold Own
      rw [List.length_append, List.map_append]
      exact hown'
    obtain ⟨A', c', rfl, hS⟩ := Slc.of_own (n := xs.length + 1) hO (by simp)
    exact h A' c' w' hS hg hat
theorem infoP : (Tryz.prog.info? 63).map (fun i => (i.zero, i.size, i.bytes)) = some (some (.slice none 0 0), 1, 24) := by kernel_rfl
/-- append of one permutation. -/
theorem wpList_appP {w : World} {ops : Array Oper} {rest : List Oper} {o : Oper} {a : Act} {Q : Exit → Act → World → Prop} (hgd : o.guard = none) (s x : Operand)
    (ho : o.op = .call { callee := .builtin .append, args := #[s, x], argTypes := #[61, 61] })
    (base : Nat) (v : Value) (n : Nat) (xs : List Value) (hs : a.eval s = v) (hown : w.ownsRow base 63 1 v n xs) (g : Nat) (d : SV) (hx : a.eval x = .slice (some ⟨g, 0, none⟩) 1 1)
    (hcell : w.cell? ⟨g, 0, none⟩ = some (sval d)) (hn : n ≤ 1000000000) (hbase : base ≤ w.heap.size)
    (h : ∀ A' c' w', w'.ownsRow base 63 1 (.slice A' (n + 1) c') (n + 1) (xs ++ [sval d]) → w.grownBy w' v.ownBlock → ((Value.slice A' (n + 1) c').ownBlock = v.ownBlock ∨ (Value.slice A' (n + 1) c').ownBlock = some w.heap.size) → wpList Tryz.prog ops Q rest (a.put o.dst (.slice A' (n + 1) c')) w') : wpList Tryz.prog ops Q (o :: rest) a w := by
  obtain ⟨i0, hi, hz0, hz1, hz2⟩ := info_parts infoP
  refine wpList_append_own_at w hgd s x 61 ho base 63 i0 (.slice none 0 0) 1 24 Tryz.underlying61 hi hz0 hz1 hz2 rfl (by decide) v n xs hs hown ⟨g, 0, none⟩ 1 1 [sval d] hx rfl ?_ ?_ ?_ (by omega) hbase ?_
  · intro j u hj
    match j, hj with
    | 0, hj => simp at hj; subst hj; simpa [Addr.add] using hcell
    | j + 1, hj => simp at hj
  · intro u hu; simp at hu; subst hu; rfl
  · unfold maxLen; omega
  · intro v' w' hown' hg _ hat
    have hform : ∃ A' c', v' = .slice A' (n + 1) c' := by
      rcases hown'.2 with ⟨rfl, h0⟩ | ⟨g', cap, cur, rfl, _⟩
      · omega
      · exact ⟨_, _, rfl⟩
    obtain ⟨A', c', rfl⟩ := hform
    exact h A' c' w' hown' hg hat

theorem cells_gw {w w' : World} {base N k : Nat} {M M' : Nat → Prop} {c : Ch} {L L' : Nat → LK} (g : Gw w w' N (k + 1) L L' M M') (h : Ck w base N k M c L) (hk : k < N) (b j : Nat) (hb : b = (L k).B ∨ b = (L k).mb) : w'.cell? ⟨b, j, none⟩ = w.cell? ⟨b, j, none⟩ := by
  have ht : ∃ t, t < 4 ∧ mu (L k) t = some b := by
    rcases hb with rfl | rfl
    · exact ⟨0, by decide, rfl⟩
    · exact ⟨3, by decide, rfl⟩
  obtain ⟨t, ht4, ht⟩ := ht
  refine World.cell?_of_block (g.chg.block b (h.mlt b (h.mm k t b (Nat.le_refl _) hk ht4 ht)).2 fun ⟨i, t', a1, a2, a3, e'⟩ => ?_)
  have := (h.dis k t i t' b (Nat.le_refl _) hk ht4 (by omega) a2 a3 ht e').1
  omega
/-- What add keeps at link k. -/
def ADs (base N k : Nat) : Prop := ∀ (M : Nat → Prop) (c : Ch) (L : Nat → LK) (A : Option Addr) (cp : Nat) (p : List Int) (w : World), Ck w base N k M c L → Orbs N k c L → Rd w M (A, N, cp) p → Pn N p → Fx k p → UpTo N c k →
  Calls Tryz.prog 40 #[.pointer (some ⟨(L k).B, 0, none⟩), .slice A N cp] w fun e w' => ∃ (c' : Ch) (L' : Nat → LK) (M' : Nat → Prop), e = .returned (.tuple #[]) ∧ Ck w' base N k M' c' L' ∧ Orbs N k c' L' ∧ Gw w w' N k L L' M M' ∧ Ap N k c c' p
/-- What include keeps at link k. -/
def INs (base N k : Nat) : Prop := ∀ (M : Nat → Prop) (c : Ch) (L : Nat → LK) (A : Option Addr) (cp : Nat) (q : List Int) (w : World), Ck w base N k M c L → Orbs N k c L → Rd w M (A, N, cp) q → Low N c k → Mb (c.gen k) N q →
  Calls Tryz.prog 53 #[.pointer (some ⟨(L k).B, 0, none⟩), .slice A N cp] w fun e w' => ∃ (c' : Ch) (L' : Nat → LK) (M' : Nat → Prop), e = .returned (.tuple #[]) ∧ Ck w' base N k M' c' L' ∧ Orbs N k c' L' ∧ Gw w w' N k L L' M M' ∧ Ic N k c c' q ∧ (L k).orb <+: (L' k).orb ∧ (L' k).g = (L k).g

set_option maxHeartbeats 4000000 in
set_option maxRecDepth 100000 in
theorem implInclude (base N k : Nat) (hkN : k + 1 < N) (h2N : N ≤ 20) (AD : ADs base N (k + 1)) : INs base N k := by
  intro M c L A cp q w hc ho hd hl hq
  have q24 : ∀ (w : World) (a : Option Addr) (n c n' c' : Nat), (binOp .eql 63 (.slice a n c) (.slice none n' c')).run Tryz.prog w = .ok (.bool a.isNone) w := fun w a n c n' c' => Lib.run_eql_slice_nil w _ _ a n c n' c' Tryz.underlying63
  have hk : k < N := by omega
  have hP := hq.pn hl.pn (by omega) h2N
  have hbs : base ≤ w.heap.size := by have := hc.mlt _ (hc.mm k 0 _ (Nat.le_refl _) hk (by decide) rfl); omega
  have HC := Lib.hid hc
  have HO := Lib.hid ho
  have HD := Lib.hid hd
  have HL := Lib.hid hl
  have HQ := Lib.hid hq
  have QP := Lib.hid hP
  obtain ⟨b, off, hA, hb, hnM, hcell⟩ := hd.at_ (by rw [hP.2]; omega)
  have hA : A = some ⟨b, off, none⟩ := hA
  subst hA
  have z1 := hcell k (by rw [hP.2]; exact hk)
  obtain ⟨y, ey⟩ : ∃ y, nx q k = y := ⟨_, rfl⟩
  have hy : y < N := by rw [← ey]; exact hP.lt hk
  rw [nx_val hP.1 (by rw [hP.2]; exact hk), ey] at z1
  have Ey := Lib.hid ey
  obtain ⟨x0, x1, x2, x3, x4⟩ := hc.cB (Nat.le_refl _) hk
  have x5 := hc.cM (Nat.le_refl _) hk hy
  have em := hc.eM (Nat.le_refl _) hk hy
  have p0 : (0 : Int) ≤ k := by omega
  have p1 : (k : Int) < N := by omega
  have p2 : (0 : Int) ≤ y := by omega
  have p3 : (y : Int) < N := by omega
  clear hc ho hd hl hq hP hb hnM hcell ey
  by_cases hz : c.rep k y = []
  · have Hz := Lib.hid hz
    rw [em.1 hz] at x5
    simp only [sval, sd0] at x5
    have hqne : q ≠ [] := by intro e; have := QP.out.2; rw [e] at this; simp at this; omega
    have Hqn := Lib.hid hqne
    have fz := (HC.out.lk k (Nat.le_refl _) hk).mown.frozenAt y
    obtain ⟨S1, G1⟩ := HC.out.store hk hy HD.out hqne (em.1 hz)
    have hx2 : w.setCell ⟨(L k).mb, y, none⟩ (.slice (some ⟨b, off, none⟩) N cp) = w.setCell ⟨(L k).mb, y, none⟩ (sval (some ⟨b, off, none⟩, N, cp)) := rfl
    rw [← hx2] at S1 G1
    obtain ⟨L1, hL1⟩ : ∃ L1, upd L k { L k with en := (L k).en.set y (some ⟨b, off, none⟩, N, cp) } = L1 := ⟨_, rfl⟩
    have e1 : L1 k = { L k with en := (L k).en.set y (some ⟨b, off, none⟩, N, cp) } := by rw [← hL1, upd_at]
    have e1n : ∀ i, i ≠ k → L1 i = L i := fun i hi => by rw [← hL1, upd_ne hi]
    rw [hL1] at S1 G1
    have E1 := Lib.hid e1
    have E1n := Lib.hid e1n
    have C1 := Lib.hid S1
    have Gw1 := Lib.hid G1
    obtain ⟨y0, y1, y2, y3, y4⟩ := S1.cB (Nat.le_refl _) hk
    have hs := (S1.lk k (Nat.le_refl _) hk).oown
    have hol := S1.olen (Nat.le_refl _) hk
    have hO20 := (HO.out k (Nat.le_refl _) hk).len HL.out.rep
    rw [e1] at y0 y1 y2 y3 hs hol
    rcases hoe : (L k).o with ⟨oA, on, oc⟩
    have hs : Slc (w.setCell ⟨(L k).mb, y, none⟩ (.slice (some ⟨b, off, none⟩) N cp)) base (L k).o.1 (L k).o.2.1 (L k).o.2.2 (ofP (L k).orb) := hs
    have hol : (L k).o.2.1 = (L k).orb.length := hol
    have y2 : (w.setCell ⟨(L k).mb, y, none⟩ (.slice (some ⟨b, off, none⟩) N cp)).cell? ⟨(L k).B, 2, none⟩ = some (sval (L k).o) := y2
    rw [hoe] at hs hol y2
    have hs : Slc (w.setCell ⟨(L k).mb, y, none⟩ (.slice (some ⟨b, off, none⟩) N cp)) base oA on oc (ofP (L k).orb) := hs
    have hol : on = (L k).orb.length := hol
    simp only [sval] at y2
    have Hoe := Lib.hid hoe
    have Orb0 := Lib.hid (HO.out k (Nat.le_refl _) hk)
    have hon : on ≤ 20 := by omega
    obtain ⟨wx, hwx⟩ : ∃ wx, w.setCell ⟨(L k).mb, y, none⟩ (.slice (some ⟨b, off, none⟩) N cp) = wx := ⟨_, rfl⟩
    rw [hwx] at y2 hs C1 Gw1
    have Hs := Lib.hid hs
    have Hzx : Hid (wx.heap.size = w.heap.size) := Lib.hid (by rw [← hwx]; simp)
    have Lit : Hid ((wx.alloc (.cells #[.int .i64 (y : Nat)] 2)).cell? ⟨wx.heap.size, 0, none⟩ = some (.int .i64 (y : Nat))) := Lib.hid (by rw [World.cell?_alloc_at _ _ _ _ rfl]; rfl)
    have BL : Hid (Below wx.heap.size wx (wx.alloc (.cells #[.int .i64 (y : Nat)] 2))) := Lib.hid ((Below.refl _ _).alloc (Nat.le_refl _) _)
    have PA : Hid (∀ (A4 : Option Addr) (c4 : Nat) (w4 : World), Slc w4 base A4 (on + 1) c4 (ofP (L k).orb ++ [(y : Int)]) → (wx.alloc (.cells #[.int .i64 (y : Nat)] 2)).grownBy w4 (Value.slice oA on oc).ownBlock →
        ((Value.slice A4 (on + 1) c4).ownBlock = (Value.slice oA on oc).ownBlock ∨ (Value.slice A4 (on + 1) c4).ownBlock = some (wx.alloc (.cells #[.int .i64 (y : Nat)] 2)).heap.size) →
        w4.cell? ⟨(L k).B, 2, none⟩ = some (.slice oA on oc) ∧ w4.frozen? ⟨(L k).B, 2, none⟩ = false ∧ ∃ (L' : Nat → LK) (M' : Nat → Prop), Ck (w4.setCell ⟨(L k).B, 2, none⟩ (.slice A4 (on + 1) c4)) base N k M' (c.set k y q) L' ∧ Orbs N k (c.set k y q) L' ∧ Gw w (w4.setCell ⟨(L k).B, 2, none⟩ (.slice A4 (on + 1) c4)) N k L L' M M' ∧ (L k).orb <+: (L' k).orb ∧ (L' k).g = (L k).g) := Lib.hid (by
      intro A4 c4 w4 s4 g4 hat
      have ho1 : (L1 k).o = (oA, on, oc) := by rw [E1.out]; exact Hoe.out
      have hb1 : (L1 k).orb = (L k).orb := by rw [E1.out]
      have hB1 : (L1 k).B = (L k).B := by rw [E1.out]
      have hg1 : (L1 k).g = (L k).g := by rw [E1.out]
      obtain ⟨M', K1, K2⟩ := C1.out.orbit hk BL.out (y := y) (A := A4) (n := on + 1) (cc := c4) (by rw [ho1]; exact g4) (by rw [hb1]; exact s4) (by rw [ho1]; exact hat)
      rw [hB1] at K1 K2
      have blk1 : Blk w4 (L k).B 65 #[.int .i64 (k : Nat), sval (L1 k).g, sval (L1 k).o, .slice (some ⟨(L1 k).mb, 0, none⟩) N N, ptr N L1 (k + 1)] := by
        have h0 := (C1.out.lk k (Nat.le_refl _) hk).blk
        rw [hB1] at h0
        have h1 := h0.chg (S := fun _ => False) (.of_below BL.out) (fun e => e)
        refine h1.grown g4 fun e => ?_
        have := (C1.out.dis k 0 k 2 (L k).B (Nat.le_refl _) hk (by decide) (Nat.le_refl _) hk (by decide) (by show some (L1 k).B = _; rw [hB1]) (by show (sval (L1 k).o).ownBlock = _; rw [ho1]; exact e.symm)).2
        omega
      refine ⟨by rw [blk1.cell 2, ho1]; rfl, blk1.frozen 2, _, M', K1, fun i a b => ?_, Gw1.out.trans K2, ?_, ?_⟩
      · by_cases ei : i = k
        · subst ei
          rw [upd_at]
          show Orb _ i ((L1 i).orb ++ [y])
          rw [hb1]
          exact Orb0.out.put Hz.out Hqn.out
        · rw [upd_ne ei, E1n.out i ei]
          exact (HO.out i a b).congr fun z => set_ne (.inl ei)
      · rw [upd_at]
        show (L k).orb <+: (L1 k).orb ++ [y]
        rw [hb1]; exact List.prefix_append _ _
      · rw [upd_at]; exact hg1)
    have Inc : Hid (Ic N k c (c.set k y q) q) := Lib.hid (by
      have h3 := Ic.put HL.out hk (by omega) h2N HQ.out (by rw [Ey.out]; exact hz)
      rw [Ey.out] at h3; exact h3)
    clear S1 G1 hx2 hL1 e1 e1n y0 y1 y3 y4 hs hol hO20 hoe em hz hqne
    try clear hol
    try clear hol
    go_enter Tryz.func53, Tryz.ntmps53
    go_wp2_with (first
      | (at_builtin; go_must (refine wpList_appI rfl _ _ rfl base oA on oc (ofP (L k).orb) rfl (Hs.out.alloc _) wx.heap.size (y : Int) rfl Lit.out (by omega) (by have := Hzx.out; simp; omega) ?_); intro A4 c4 w4 s4 g4 hat4; obtain ⟨v1, v2, v3⟩ := PA.out A4 c4 w4 s4 g4 hat4; have V3 := Lib.hid v3; clear s4 g4 hat4 v3))
    obtain ⟨L', M', K1, K2, K3, K4, K5⟩ := V3.out
    (try simp only [Exit.inBlock, Exit.then]); refine bodyPost_ret (results_none rfl _ _ _) rfl ?_
    exact ⟨rfl, c.set k y q, L', M', K1, K2, K3, Inc.out, K4, K5⟩
  · have hrd := em.2 hz
    rcases hde : (L k).en.getD y sd0 with ⟨dA, dn, dc⟩
    rw [hde] at x5 hrd
    obtain ⟨b2, off2, e⟩ := rd_not0 hrd hz
    have e : dA = some ⟨b2, off2, none⟩ := e
    subst e
    have RP := Lib.hid (HL.out.rep.at_ y hz).2.1
    obtain rfl : dn = N := by have h3 : (c.rep k y).length = dn := hrd.len; have := RP.out.2; omega
    have Rr : Hid (RI w w.heap.size (some ⟨b2, off2, none⟩) (c.rep k y)) := Lib.hid hrd.ri
    have Rq : Hid (RI w w.heap.size (some ⟨b, off, none⟩) q) := Lib.hid HD.out.ri
    have Rst := Lib.hid (HL.out.rest hk (by omega) h2N HQ.out (by rw [Ey.out]; exact hz))
    rw [Ey.out] at Rst
    have Hz := Lib.hid hz
    have eiv : Hid (invL (c.rep k y) dn = iv (c.rep k y)) := Lib.hid (by unfold iv; rw [RP.out.2])
    have ep : ptr dn L (k + 1) = .pointer (some ⟨(L (k + 1)).B, 0, none⟩) := if_pos hkN
    rw [ep] at x4
    have hB : (L k).B < w.heap.size := (HC.out.lk k (Nat.le_refl _) hk).blk.lt
    have hmb : (L k).mb < w.heap.size := (HC.out.mlt _ (HC.out.mm k 3 _ (Nat.le_refl _) hk (by decide) rfl)).2
    simp only [sval] at x5
    clear em hz hrd hde ep x1 x2
    go_enter Tryz.func53, Tryz.ntmps53
    go_wp2_with fail
    go_region_held3 (fun w' => w'.cell? ⟨(L k).B, 4, none⟩ = some (.pointer (some ⟨(L (k + 1)).B, 0, none⟩)) ∧ w'.cell? ⟨(L k).B, 3, none⟩ = some (.slice (some ⟨(L k).mb, 0, none⟩) dn dn) ∧ w'.cell? ⟨(L k).mb, y, none⟩ = some (.slice (some ⟨b2, off2, none⟩) dn dc))
      (first | exact ⟨x4, x3, x5⟩ | exact hS1 | exact hS2 | exact hS3 | go_keep)
      (first
        | (go_at_call 66; refine (implInv (some ⟨b2, off2, none⟩) dc dn (c.rep k y) _ ?_ ?_ ?_ h2N).mono ?_; (exact Rr.out); (exact Lib.hid RP.out.2); (exact Lib.hid RP.out.1); rintro e w1 ⟨A2, c2, rfl, s2, b1'⟩; have b1 : Below w.heap.size w w1 := ⟨b1'.os, b1'.tape, b1'.output, b1'.size, b1'.block⟩; have hS1 := And.intro ((b1.cell (p := ⟨(L k).B, 4, none⟩) hB).trans x4) (And.intro ((b1.cell (p := ⟨(L k).B, 3, none⟩) hB).trans x3) ((b1.cell (p := ⟨(L k).mb, y, none⟩) hmb).trans x5)))
        | (go_at_call 54; refine (implThen (some ⟨b, off, none⟩) A2 cp c2 dn q (invL (c.rep k y) dn) w1 ?_ ?_ ?_ ?_ ?_ h2N).mono ?_; (exact Rq.out.up b1); (exact s2.ri_); (exact Lib.hid QP.out.2); (exact s2.hid); (exact Lib.hid QP.out.1); rintro e w2 ⟨A3, c3, rfl, s3, b2'⟩; have hS2 := And.intro ((b2'.cell (p := ⟨(L k).B, 4, none⟩) (Nat.lt_of_lt_of_le hB b1.size)).trans hS1.1) (And.intro ((b2'.cell (p := ⟨(L k).B, 3, none⟩) (Nat.lt_of_lt_of_le hB b1.size)).trans hS1.2.1) ((b2'.cell (p := ⟨(L k).mb, y, none⟩) (Nat.lt_of_lt_of_le hmb b1.size)).trans hS1.2.2)))
        | (go_at_call 40; refine (AD M c L A3 c3 (compL q (invL (c.rep k y) dn)) w2 ?_ ?_ ?_ ?_ ?_ ?_).mono ?_; (exact ((HC.out.up b1).up b2').above (Nat.le_succ k)); (exact fun i a b => HO.out i (by omega) b); (exact Rd.of_slc (d := (A3, dn, c3)) s3 fun b e => Nat.lt_of_lt_of_le (HC.out.mlt b e).2 b1.size); (rw [eiv.out]; exact Rst.out.1); (rw [eiv.out]; exact Rst.out.2); (exact HL.out.up); rintro e w3 ⟨c', L', M', rfl, hc3, ho3, hg3, hap⟩; have hS3 := And.intro ((cells_gw hg3 ((HC.out.up b1).up b2') hk (L k).B 4 (.inl rfl)).trans hS2.1) (And.intro ((cells_gw hg3 ((HC.out.up b1).up b2') hk (L k).B 3 (.inl rfl)).trans hS2.2.1) ((cells_gw hg3 ((HC.out.up b1).up b2') hk (L k).mb y (.inr rfl)).trans hS2.2.2))))
    have er : c'.rep k = c.rep k := funext fun z => hap.grw.rep k z (by omega)
    have eg : c'.gen k = c.gen k := hap.grw.gen k (by omega)
    have C2 := (HC.out.up b1).up b2'
    have K1 := C2.down hk hc3 hg3 er eg
    have K3 : Gw w w3 dn k L L' M M' := (Gw.of_below (b1.trans (b2'.mono b1.size))).trans (hg3.down C2)
    have hLk := hg3.keep k (by omega)
    have K2 : Orbs dn k c' L' := fun i a b => by
      by_cases ei : i = k
      · subst ei
        rw [hLk]
        exact (HO.out i a b).congr fun z => by rw [er]
      · exact ho3 i (by omega) b
    have K4 : Ic dn k c c' q := Ic.old HL.out hk (by omega) h2N HQ.out (by rw [Ey.out]; exact Hz.out) (by rw [Ey.out, ← eiv.out]; exact hap)
    go_end0
    exact ⟨c', L', M', rfl, K1, K2, K3, K4, by rw [hLk]; exact List.prefix_rfl, by rw [hLk]⟩
end Go.Proofs.YtkjokchhffjidaaGreatDoor

/- The program's add: a permutation that fixes every point before the base is added to a link. Conditions: at most 20 points; the chain whole from the link on. -/
namespace Go.Proofs.YtkjokchhffjidaaGreatDoor
open Go.RowKit

theorem boolOf (P : Prop) : ∃ b : Bool, b = true ↔ P := by
  by_cases h : P
  · exact ⟨true, fun _ => h, fun _ => rfl⟩
  · exact ⟨false, fun e => (Bool.false_ne_true e).elim, fun e => (h e).elim⟩

set_option maxHeartbeats 8000000 in
set_option maxRecDepth 100000 in
theorem implAdd1 (base N k : Nat) (hk : k < N) (h2N : N ≤ 20) (IN : k + 1 < N → INs base N k) : ADs base N k := by
  intro M c L A cp p w hc ho hd hP hF hU
  obtain ⟨ans, hans⟩ := boolOf (Mb (c.gen k) N p)
  have Ha := Lib.hid hans
  have HC := Lib.hid hc
  have HO := Lib.hid ho
  have HD := Lib.hid hd
  have HP := Lib.hid hP
  have HF := Lib.hid hF
  have HU := Lib.hid hU
  have hbs : base ≤ w.heap.size := by have := hc.mlt _ (hc.mm k 0 _ (Nat.le_refl _) hk (by decide) rfl); omega
  clear hc ho hd hP hF hU hans
  go_enter Tryz.func40, Tryz.ntmps40
  go_wp2_with fail
  refine (implContains base N k cp M c L A p w HC.out hk HU h2N HD.out.ri HP HF ans Ha).mono ?_
  rintro e w1 ⟨rfl, b1⟩
  have C1 := Lib.hid (HC.out.up b1)
  have D1 := Lib.hid (HD.out.up b1)
  have B1 := Lib.hid b1
  rcases ans with _ | _
  · have NM : Hid (¬ Mb (c.gen k) N p) := Lib.hid fun h => Bool.false_ne_true (Ha.out.2 h)
    have NS : Hid (¬ Sv N c k p) := Lib.hid fun h => NM.out ((HU.out.sv k (Nat.le_refl _) (by omega) p).1 h)
    have hk1 : k + 1 < N := by
      rcases Nat.lt_or_ge (k + 1) N with h | h
      · exact h
      · exact absurd (sv_last HU.out (by omega) (by omega) h2N HP.out HF.out) NS.out
    obtain ⟨b, hA⟩ : ∃ b : Nat × Nat, A = some ⟨b.1, b.2, none⟩ := by
      obtain ⟨b, off, e, _⟩ := D1.out.at_ (by rw [HP.out.2]; omega)
      exact ⟨(b, off), e⟩
    obtain ⟨b, off⟩ := b
    have hA : A = some ⟨b, off, none⟩ := hA
    subst hA
    obtain ⟨x0, x1, x2, x3, x4⟩ := C1.out.cB (Nat.le_refl _) hk
    have hl := C1.out.lk k (Nat.le_refl _) hk
    have ho := hl.gown
    obtain ⟨G, hG⟩ : ∃ G, (c.gen k).length = G := ⟨_, rfl⟩
    have HG := Lib.hid hG
    have hG4 : G ≤ 400 := by
      rw [← hG]
      have h1 := HU.out.len k (Nat.le_refl _) hk
      have h2 := cnt_le N c k
      have h3 := Nat.mul_le_mul h2N h2N
      omega
    rcases hgv : (L k).g with ⟨gA, gn, gc⟩
    rw [hgv, hG] at ho
    rw [hgv] at x1
    obtain rfl : gn = G := by
      rcases ho.2 with ⟨e, h0⟩ | ⟨g', cap, cur, e, _⟩
      · unfold sval at e; injection e with _ e2 _; have e2 : gn = 0 := e2; omega
      · unfold sval at e; injection e with _ e2 _
    have ho : w1.ownsRow base 63 1 (.slice gA gn gc) gn ((L k).ge.map sval) := ho
    simp only [sval] at x1
    have Ho := Lib.hid ho
    have Hgv := Lib.hid hgv
    rcases hov : (L k).o with ⟨oA, on, oc⟩
    have hol := C1.out.olen (Nat.le_refl _) hk
    rw [hov] at hol
    have hol : on = (L k).orb.length := hol
    have Hol := Lib.hid hol
    have Hov := Lib.hid hov
    have hO20 := (HO.out k (Nat.le_refl _) hk).len (HU.out.rep k (Nat.le_refl _) hk)
    have hon : on ≤ N := by omega
    clear hol hO20
    try clear hol
    clear hov
    have fzB := hl.blk.frozen 1
    have bw1 : base ≤ w1.heap.size := by have := B1.out.size; omega
    obtain ⟨Lt, hLt⟩ : ∃ Lt, Obj.cells #[Value.slice (some ⟨b, off, none⟩) N cp] 63 = Lt := ⟨_, rfl⟩
    have Lit : Hid ((w1.alloc (.cells #[.slice (some ⟨b, off, none⟩) N cp] 63)).cell? ⟨w1.heap.size, 0, none⟩ = some (sval (some ⟨b, off, none⟩, N, cp))) := Lib.hid (by rw [World.cell?_alloc_at _ _ _ _ rfl]; rfl)
    have BL : Hid (Below w1.heap.size w1 (w1.alloc (.cells #[.slice (some ⟨b, off, none⟩) N cp] 63))) := Lib.hid ((Below.refl _ _).alloc (Nat.le_refl _) _)
    have PA : Hid (∀ (A4 : Option Addr) (c4 : Nat) (w4 : World), w4.ownsRow base 63 1 (.slice A4 (gn + 1) c4) (gn + 1) ((L k).ge.map sval ++ [sval (some ⟨b, off, none⟩, N, cp)]) → (w1.alloc (.cells #[.slice (some ⟨b, off, none⟩) N cp] 63)).grownBy w4 (Value.slice gA gn gc).ownBlock →
        ((Value.slice A4 (gn + 1) c4).ownBlock = (Value.slice gA gn gc).ownBlock ∨ (Value.slice A4 (gn + 1) c4).ownBlock = some (w1.alloc (.cells #[.slice (some ⟨b, off, none⟩) N cp] 63)).heap.size) →
        (w4.setCell ⟨(L k).B, 1, none⟩ (.slice A4 (gn + 1) c4)).cell? ⟨(L k).B, 2, none⟩ = some (.slice oA on oc) ∧ w4.cell? ⟨(L k).B, 1, none⟩ = some (.slice gA gn gc) ∧ w4.frozen? ⟨(L k).B, 1, none⟩ = false ∧ ∃ (L' : Nat → LK) (M' : Nat → Prop), Ck (w4.setCell ⟨(L k).B, 1, none⟩ (.slice A4 (gn + 1) c4)) base N k M' (c.push k p) L' ∧ Orbs N k (c.push k p) L' ∧ Gw w (w4.setCell ⟨(L k).B, 1, none⟩ (.slice A4 (gn + 1) c4)) N k L L' M M' ∧ (L' k).orb = (L k).orb ∧ (L' k).g = (A4, gn + 1, c4)) := Lib.hid (by
      intro A4 c4 w4 s4 g4 hat
      obtain ⟨M', K1, K2⟩ := C1.out.pushg hk BL.out (q := p) (d := (some ⟨b, off, none⟩, N, cp)) (A := A4) (n := gn + 1) (cc := c4) (by rw [Hgv.out]; exact g4) (by rw [HG.out]; exact s4) (by rw [Hgv.out]; exact hat) D1.out
      have blk1 : Blk w4 (L k).B 65 #[.int .i64 (k : Nat), sval (L k).g, sval (L k).o, .slice (some ⟨(L k).mb, 0, none⟩) N N, ptr N L (k + 1)] := by
        have h0 := (C1.out.lk k (Nat.le_refl _) hk).blk
        have h1 := h0.chg (S := fun _ => False) (.of_below BL.out) (fun e => e)
        refine h1.grown g4 fun e => ?_
        have := (C1.out.dis k 0 k 1 (L k).B (Nat.le_refl _) hk (by decide) (Nat.le_refl _) hk (by decide) rfl (by show (sval (L k).g).ownBlock = _; rw [Hgv.out]; exact e.symm)).2
        omega
      refine ⟨?_, by rw [blk1.cell 1, Hgv.out]; rfl, blk1.frozen 1, _, M', K1, fun i a b => ?_, (Gw.of_below B1.out).trans K2, ?_, ?_⟩
      · have h3 := (K1.cB (Nat.le_refl _) hk).2.2.1
        rw [upd_at] at h3
        have h3 : (w4.setCell ⟨(L k).B, 1, none⟩ (.slice A4 (gn + 1) c4)).cell? ⟨(L k).B, 2, none⟩ = some (sval (L k).o) := h3
        rw [Hov.out] at h3; exact h3
      · by_cases ei : i = k
        · subst ei
          rw [upd_at]
          exact (HO.out i a b).congr fun z => rfl
        · rw [upd_ne ei]
          exact (HO.out i a b).congr fun z => rfl
      · rw [upd_at]
      · rw [upd_at])
    have P0 : Hid (Low N (c.push k p) k) := Lib.hid (HU.out.pushed hk (by omega) h2N HP.out HF.out)
    clear hl ho hG hgv b1 HC HD hLt
    go_wp2_with (first
      | (at_builtin; go_must (refine wpList_appP rfl _ _ rfl base (.slice gA gn gc) gn ((L k).ge.map sval) rfl (World.ownsRow.alloc Ho.out _) w1.heap.size (some ⟨b, off, none⟩, N, cp) rfl Lit.out (by omega) (by simp; omega) ?_); intro A4 c4 w4 s4 g4 hat4; obtain ⟨v0, v1, v2, v3⟩ := PA.out A4 c4 w4 s4 g4 hat4; have V3 := Lib.hid v3; clear s4 g4 hat4 v3))
    obtain ⟨L3, M3, hc3, ho3, hg3, horb3, hgk3⟩ := V3.out
    generalize w4.setCell ⟨(L k).B, 1, none⟩ (.slice A4 (gn + 1) c4) = w5 at v0 hc3 hg3 ⊢
    have St : Hid (Bf N k (c.push k p) (c.push k p) (L3 k).orb p on 0 0) := Lib.hid (by
      have h3 := Bf.start (p := p) P0.out (ho3 k (Nat.le_refl _) hk)
      have e3 : (L3 k).orb.length = on := by rw [horb3, Hol.out]
      rw [e3] at h3; exact h3)
    have C3 := Lib.hid hc3
    have O3 := Lib.hid ho3
    have G3 := Lib.hid hg3
    have glen : ((c.push k p).gen k).length = gn + 1 := by rw [push_at, List.length_append, HG.out]; rfl
    have Gl := Lib.hid glen
    clear hc3 ho3 hg3 horb3 hgk3 v1 v2 V3 PA glen BL Lit fzB x1 x0 x2 x3 x4
    go_loopg [5, 6, 7, 9] N (fun gg iv _ _ _ wr => ∃ (i : Nat) (cj : Ch) (Lj : Nat → LK) (Mj : Nat → Prop), i ≤ (Lj k).orb.length ∧ N - i ≤ gg ∧ iv = .int .i64 (i : Nat) ∧ Ck wr base N k Mj cj Lj ∧ Orbs N k cj Lj ∧ Gw w wr N k L Lj M Mj ∧ Bf N k (c.push k p) cj (Lj k).orb p on i 0)
    case atStart => exact ⟨0, c.push k p, L3, M3, Nat.zero_le _, by omega, rfl, C3.out, O3.out, G3.out, St.out⟩
    case round =>
      clear C3 O3 G3 St
      obtain ⟨i, cj, Lj, Mj, hi, hgg, rfl, hc, ho, hg, hbf⟩ := hrel
      have Cj := Lib.hid hc
      have Oj := Lib.hid ho
      have Gj := Lib.hid hg
      have Bj := Lib.hid hbf
      have hBk : (Lj k).B = (L k).B := hg.ptr k
      obtain ⟨x0, x1, x2, x3, x4⟩ := hc.cB (Nat.le_refl _) hk
      rw [hBk] at x0 x1 x2 x3 x4
      have hlenj := hc.olen (Nat.le_refl _) hk
      have hOr := ho k (Nat.le_refl _) hk
      have h20 := hOr.len hbf.low.rep
      have hbl := hbf.len
      have eg : (cj.gen k).length = gn + 1 := by rw [hbf.gen]; exact Gl.out
      obtain ⟨m, hm⟩ : ∃ m, (Lj k).orb.length = m := ⟨_, rfl⟩
      have Hm := Lib.hid hm
      rw [hm] at hi h20 hbl hlenj
      by_cases hlt : i < m
      · obtain ⟨ob, oc2, hoe, x6⟩ := hc.cO (Nat.le_refl _) hk (j := i) (by rw [hm]; exact hlt)
        rw [hoe] at x2
        rw [hm] at x2
        obtain ⟨y, ey⟩ : ∃ y, (Lj k).orb.getD i 0 = y := ⟨_, rfl⟩
        rw [ey] at x6
        have hyO : y ∈ (Lj k).orb := by rw [← ey, List.getD_eq_getElem?_getD, List.getElem?_eq_getElem (by rw [hm]; exact hlt)]; exact List.getElem_mem _
        have hry : cj.rep k y ≠ [] := (hOr.2 y).1 hyO
        obtain ⟨hy, hrP, hrF, hrk⟩ := hbf.low.rep.at_ y hry
        have x7 := hc.cM (Nat.le_refl _) hk hy
        have hrd := (hc.eM (Nat.le_refl _) hk hy).2 hry
        rcases hde : (Lj k).en.getD y sd0 with ⟨dA, dn, dc⟩
        rw [hde] at x7 hrd
        obtain ⟨gq, gcq, hge, hcap, x8, hrg⟩ := hc.cG (Nat.le_refl _) hk (j := 0) (by omega)
        rw [hge] at x1
        rw [eg] at x1 hcap
        simp only [sval] at x1 x2 x7
        have q0 : (0 : Int) ≤ i := by omega
        have q1 : (i : Int) < m := by omega
        have q2 : (0 : Int) ≤ y := by omega
        have q3 : (y : Int) < N := by omega
        have Ey := Lib.hid ey
        have Hry := Lib.hid hry
        have Rd0 := Lib.hid hrd
        have Hge := Lib.hid hge
        have RP := Lib.hid hrP
        clear hc ho hg hbf hlenj hOr hm hoe hyO hry hrP hrF hrk hde hrd hge x8 hrg ey eg
        go_wp2_with fail
        go_quiet (fail)
        have B3 : Hid (Below wr.heap.size wr (wr.drewN nq)) := Lib.hid (pcDrewBelow wr nq)
        obtain ⟨wz, hwz⟩ : ∃ wz, wr.drewN nq = wz := ⟨_, rfl⟩
        rw [hwz] at B3 ⊢
        have Cz := Lib.hid (Cj.out.up B3.out)
        have Rz := Lib.hid (Rd0.out.up B3.out)
        have Gz : Hid (Gw w wz N k L Lj M Mj) := Lib.hid (Gj.out.trans (.of_below B3.out))
        clear hwz B3 Cj Rd0 Gj
        go_upto_if 56 with fail
        go_cut [7] from 28 to 73 (fun gv wx => wx = wz ∧ ∃ (of gl cc : Nat), gv = .slice (some ⟨gq, of, none⟩) gl cc ∧ ((i < on ∧ of = gn ∧ gl = 1) ∨ (on ≤ i ∧ of = 0 ∧ gl = gn + 1)))
        case first =>
          by_cases hin : i < on
          · have d0 : decide ((i : Int) < (on : Int)) = true := by simp; omega
            go_wp2_with fail
            go_meet
            exact ⟨rfl, gn, 1, _, rfl, .inl ⟨hin, rfl, rfl⟩⟩
          · have d0 : decide ((i : Int) < (on : Int)) = false := by simp; omega
            go_wp2_with fail
            go_meet
            exact ⟨rfl, 0, gn + 1, _, rfl, .inr ⟨by omega, rfl, rfl⟩⟩
        case rest =>
          obtain ⟨rfl, of, gl, cc, rfl, hgs⟩ := hcut
          have Gs := Lib.hid hgs
          have Gal : Hid ((gsA on ((c.push k p).gen k) p i).length = gl) := Lib.hid (by
            unfold gsA
            rcases hgs with ⟨h1, _, h3⟩ | ⟨h1, _, h3⟩
            · rw [if_pos h1, h3]; rfl
            · rw [if_neg (by omega), Gl.out, h3])
          have hgl4 : gl ≤ 401 := by omega
          have hofl : of + gl = gn + 1 := by omega
          obtain rfl : dn = N := by have h3 : (cj.rep k y).length = dn := Rz.out.len; have := RP.out.2; omega
          clear hgs
          go_wp2_with fail
          go_loopg [9, 64] gl (fun gg _ jv wr => ∃ (j : Nat) (ci : Ch) (Li : Nat → LK) (Mi : Nat → Prop), j ≤ gl ∧ gl - j ≤ gg ∧ jv = .int .i64 (j : Nat) ∧ Ck wr base dn k Mi ci Li ∧ Orbs dn k ci Li ∧ Gw w wr dn k L Li M Mi ∧ Bf dn k (c.push k p) ci (Li k).orb p on i j ∧ (Li k).g = (Lj k).g ∧ (Lj k).orb <+: (Li k).orb ∧ ci.rep k y = cj.rep k y ∧ Rd wr Mi (dA, dn, dc) (cj.rep k y))
          case atStart => exact ⟨0, cj, Lj, Mj, Nat.zero_le _, by omega, rfl, Cz.out, Oj.out, Gz.out, Bj.out, rfl, List.prefix_rfl, rfl, Rz.out⟩
          case round =>
            clear Cz Gz Rz
            obtain ⟨j, ci, Li, Mi, hj, hgg2, rfl, hc, ho, hg, hbf, hgk, hpre, hrep, hrd⟩ := hrel
            have Ci := Lib.hid hc
            have Oi := Lib.hid ho
            have Gi := Lib.hid hg
            have Bi := Lib.hid hbf
            have Gk := Lib.hid hgk
            have Pre := Lib.hid hpre
            have Rep := Lib.hid hrep
            have Rdi := Lib.hid hrd
            have gen1 : ci.gen k = c.gen k ++ [p] := by rw [hbf.gen, push_at]
            by_cases hjl : j < gl
            · obtain ⟨gq', gc', hge', _, x8, hrg⟩ := hc.cG (Nat.le_refl _) hk (j := of + j) (by rw [gen1, List.length_append, HG.out]; simp; omega)
              rw [hgk, Hge.out] at hge'
              obtain ⟨rfl, rfl⟩ : gq = gq' ∧ gcq = gc' := by
                injection hge' with h1 h2
                injection h1 with h1
                injection h1 with h1
                injection h2 with _ h2
                exact ⟨h1, h2⟩
              rcases hde : (Li k).ge.getD (of + j) sd0 with ⟨eA, en, ec⟩
              rw [hde] at x8 hrg
              obtain ⟨h, eh⟩ : ∃ h, (ci.gen k).getD (of + j) [] = h := ⟨_, rfl⟩
              rw [eh] at hrg
              have egs : (gsA on ((c.push k p).gen k) p i).getD j [] = h := by
                rw [← eh, gen1]
                unfold gsA
                rcases Gs.out with ⟨h1, h2, h3⟩ | ⟨h1, h2, h3⟩
                · obtain rfl : j = 0 := by omega
                  rw [if_pos h1, h2, getD_snoc _ _ _ (gn + 0) (by rw [HG.out]; rfl)]; rfl
                · rw [if_neg (by omega), h2, push_at, Nat.zero_add]
              have hilt : i < (Li k).orb.length := Nat.lt_of_lt_of_le (by rw [Hm.out]; exact hlt) hpre.length_le
              have eyi : (Li k).orb.getD i 0 = y := by rw [getD_pre hpre (by rw [Hm.out]; exact hlt)]; exact Ey.out
              obtain ⟨k1, k2, k3⟩ := hbf.mb (ho k (Nat.le_refl _) hk) hilt (by rw [Gal.out]; exact hjl)
              rw [egs, eyi, hrep] at k1
              rw [egs] at k3
              have hP2 := (hbf.low.gp h k3).1
              obtain rfl : en = dn := by have h3 : h.length = en := hrg.len; have := hP2.2; omega
              have K1 := Lib.hid k1
              have Egs := Lib.hid egs
              have Eyi := Lib.hid eyi
              have Hp2 := Lib.hid hP2
              have Rgi := Lib.hid hrg
              have Hil := Lib.hid hilt
              simp only [sval] at x8
              have q4 : (0 : Int) ≤ j := by omega
              have q5 : (j : Int) < gl := by omega
              clear hc ho hg hbf hgk hpre hrep hrd gen1 hge' hde eh egs hilt eyi k1 k2 k3 hP2 hrg
              go_wp2_with fail
              refine (implThen dA eA dc ec en (cj.rep k y) h wr Rdi.out.ri Rgi.out.ri (Lib.hid RP.out.2) (Lib.hid Hp2.out.2) (Lib.hid RP.out.1) h2N).mono ?_
              rintro e w3 ⟨A3, c3, rfl, s3, b3⟩
              have C4 := Lib.hid (Ci.out.up b3)
              have R4 : Hid (Rd w3 Mi (A3, en, c3) (compL (cj.rep k y) h)) := Lib.hid (Rd.of_slc (d := (A3, en, c3)) s3 fun b e => (Ci.out.mlt b e).2)
              have G4 : Hid (Gw w w3 en k L Li M Mi) := Lib.hid (Gi.out.trans (.of_below b3))
              have D4 := Lib.hid (Rdi.out.up b3)
              have eBi : (Li k).B = (L k).B := Gi.out.ptr k
              have EBi := Lib.hid eBi
              clear s3 b3 eBi
              go_wp2_with fail
              have KI := IN hk1 Mi ci Li A3 c3 (compL (cj.rep k y) h) w3 C4.out Oi.out R4.out Bi.out.low K1.out
              rw [EBi.out] at KI
              refine KI.mono ?_
              rintro e w4 ⟨c', L', M', rfl, hc4, ho4, hg4, hic, hpre4, hgk4⟩
              have C5 := Lib.hid hc4
              have O5 := Lib.hid ho4
              have G5 : Hid (Gw w w4 en k L L' M M') := Lib.hid (G4.out.trans hg4)
              have Bf5 : Hid (Bf en k (c.push k p) c' (L' k).orb p on i (j + 1)) := Lib.hid (Bi.out.next (Oi.out k (Nat.le_refl _) hk) Hil.out hpre4 (by rw [Egs.out, Eyi.out, Rep.out]; exact hic))
              have Gk5 : Hid ((L' k).g = (Lj k).g) := Lib.hid (hgk4.trans Gk.out)
              have Pre5 : Hid ((Lj k).orb <+: (L' k).orb) := Lib.hid (Pre.out.trans hpre4)
              have Rep5 : Hid (c'.rep k y = cj.rep k y) := Lib.hid (by
                rw [← Rep.out]; exact hic.grw.keep _ _ (by rw [Rep.out]; exact Hry.out))
              have D5 : Hid (Rd w4 M' (dA, en, dc) (cj.rep k y)) := Lib.hid (D4.out.gw hg4 C4.out.muM)
              clear KI hc4 ho4 hg4 hic hpre4 hgk4
              go_wp2_with fail
              go_roundg (gl - (j + 1))
              case rel => exact ⟨j + 1, c', L', M', by omega, by omega, by go_num, C5.out, O5.out, G5.out, Bf5.out, Gk5.out, Pre5.out, Rep5.out, D5.out⟩
              case measure => omega
            · obtain rfl : j = gl := by omega
              have Bf6 : Hid (Bf dn k (c.push k p) ci (Li k).orb p on (i + 1) 0) := Lib.hid (Bf.round (by rw [Gal.out]; exact Bi.out))
              have hil : i + 1 ≤ (Li k).orb.length := Nat.lt_of_lt_of_le (by rw [Hm.out]; exact hlt) hpre.length_le
              clear hc ho hg hbf hgk hpre hrep hrd gen1
              go_wp2_with fail
              go_roundg (dn - (i + 1))
              case rel => exact ⟨i + 1, ci, Li, Mi, hil, by omega, by go_num, Ci.out, Oi.out, Gi.out, Bf6.out⟩
              case measure => omega
      · obtain rfl : i = m := by omega
        have Fin : Hid (Ap N k c cj p) := Lib.hid (Bf.all HU.out hk (by omega) h2N HP.out HF.out NS.out (by rw [Hm.out]; exact Bj.out) hOr)
        simp only [sval] at x2
        clear hc ho hg hbf
        rcases hoe : (Lj k).o with ⟨oA2, on2, oc2⟩
        rw [hoe] at x2 hlenj
        have hlenj : on2 = i := hlenj
        subst hlenj
        simp only at x2
        clear hoe
        go_wp2_with fail
        go_end0
        exact ⟨rfl, cj, Lj, Mj, Cj.out, Oj.out, Gj.out, Fin.out⟩
  · have Fin : Hid (Ap N k c c p) := Lib.hid (.same HU.out (by omega) (by omega) h2N ((HU.out.sv k (Nat.le_refl _) (by omega) p).2 (Ha.out.1 rfl)))
    go_wp2_with fail
    (try simp only [Exit.inBlock, Exit.then]); refine bodyPost_ret (results_none rfl _ _ _) rfl ?_
    first
      | exact ⟨c, L, M, rfl, C1.out, HO.out, .of_below B1.out, Fin.out⟩
      | exact ⟨rfl, c, L, M, C1.out, HO.out, .of_below B1.out, Fin.out⟩
theorem implAdd (base N : Nat) (h2N : N ≤ 20) : ∀ m k, k + m + 1 = N → ADs base N k
  | 0, k, e => implAdd1 base N k (by omega) h2N fun h => absurd h (by omega)
  | m + 1, k, e => implAdd1 base N k (by omega) h2N fun h => implInclude base N k h h2N (implAdd base N h2N m (k + 1) (by omega))
end Go.Proofs.YtkjokchhffjidaaGreatDoor

/- The program's chainOf: a chain whole from link 0 on, of what the generators generate. Conditions: at most 20 points, 8 generators. -/
namespace Go.Proofs.YtkjokchhffjidaaGreatDoor
open Go.RowKit

/-- One link more, ahead of the others, in blocks of its own. -/
theorem ck_cons {w w' : World} {base N k : Nat} {M : Nat → Prop} {c : Ch} {L : Nat → LK} {l : LK} (h : Ck w base N (k + 1) M c L) (hb : Below w.heap.size w w') (hbs : base ≤ w.heap.size)
    (hl : Lk w' base N k (fun b => M b ∨ ∃ t, t < 4 ∧ mu l t = some b) (c.rep k) (c.gen k) (ptr N L (k + 1)) l)
    (hf : ∀ t b, t < 4 → mu l t = some b → w.heap.size ≤ b ∧ b < w'.heap.size) (hd : ∀ t t' b, t < 4 → t' < 4 → mu l t = some b → mu l t' = some b → t = t') :
    Ck w' base N k (fun b => M b ∨ ∃ t, t < 4 ∧ mu l t = some b) c (upd L k l) := by
  have hp : ∀ i, k ≤ i → ptr N (upd L k l) (i + 1) = ptr N L (i + 1) := fun i hi => by unfold ptr; rw [upd_ne (by omega)]
  have hx : ∀ i t t' b, k < i → i < N → t < 4 → t' < 4 → mu (L i) t = some b → mu l t' = some b → False := fun i t t' b a1 a2 a3 a4 e e' => by
    have := (h.mlt b (h.mm i t b a1 a2 a3 e)).2
    have := (hf t' b a4 e').1
    omega
  refine ⟨fun i a b => ?_, fun i t b a1 a2 a3 e => ?_, fun b e => ?_, fun i t i' t' b a1 a2 a3 a4 a5 a6 e e' => ?_⟩
  · rw [hp i a]
    by_cases ei : i = k
    · subst ei; rw [upd_at]; exact hl
    · rw [upd_ne ei]
      exact (h.lk i (by omega) b).keep (S := fun _ => False) (.of_below hb) (fun _ _ _ _ e => e) (fun _ e => e.elim) fun b e => by
        rcases e with e | ⟨t, a, e⟩
        · exact .inl e
        · exact .inr (hf t b a e).1
  · by_cases ei : i = k
    · subst ei; rw [upd_at] at e; exact .inr ⟨t, a3, e⟩
    · rw [upd_ne ei] at e; exact .inl (h.mm i t b (by omega) a2 a3 e)
  · have := hb.size
    rcases e with e | ⟨t, a, e⟩
    · have := h.mlt b e; omega
    · have := hf t b a e; omega
  · by_cases ei : i = k <;> by_cases ei' : i' = k
    · subst ei; subst ei'
      rw [upd_at] at e e'
      exact ⟨rfl, hd t t' b a3 a6 e e'⟩
    · subst ei
      rw [upd_at] at e
      rw [upd_ne ei'] at e'
      exact (hx i' t' t b (by omega) a5 a6 a3 e' e).elim
    · subst ei'
      rw [upd_at] at e'
      rw [upd_ne ei] at e
      exact (hx i t t' b (by omega) a2 a3 a6 e e').elim
    · rw [upd_ne ei] at e
      rw [upd_ne ei'] at e'
      exact h.dis i t i' t' b (by omega) a2 a3 (by omega) a5 a6 e e'
theorem orb0 {N k : Nat} (h1 : 1 ≤ N) : Orb (ch0 N) k [k] := by
  refine ⟨by simp, fun y => ?_⟩
  rw [List.mem_singleton]
  show y = k ↔ (if y = k then idL N else []) ≠ []
  by_cases e : y = k
  · rw [if_pos e]; exact ⟨fun _ e2 => by have := idL_length N; rw [e2] at this; simp at this; omega, fun _ => e⟩
  · rw [if_neg e]; exact ⟨fun h => absurd h e, fun h => absurd rfl h⟩
def lk0 : LK := ⟨0, sd0, [], sd0, 0, [], []⟩
/-- The rows of a new link. -/
theorem madeP {w : World} {base g n : Nat} (h : w.ownsRow base 63 1 (.slice (some ⟨g, 0, none⟩) n n) n (madeCells (Value.slice none 0 0).cells (n * 1)).toList) : w.ownsRow base 63 1 (.slice (some ⟨g, 0, none⟩) n n) n ((List.replicate n sd0).map sval) := by
  have e : (madeCells (Value.slice none 0 0).cells (n * 1)).toList = (List.replicate n sd0).map sval := by
    show (madeCells #[Value.slice none 0 0] (n * 1)).toList = _
    rw [toList_madeCells_one]; simp [sval, sd0]
  rw [← e]; exact h

theorem ck_new {wr wA : World} {base N k B1 c2 : Nat} {M : Nat → Prop} {L : Nat → LK} {po : Option Addr} {A2 : Option Addr} (h : Ck wr base N (k + 1) M (ch0 N) L) (hk : k < N) (hpo : ptr N L (k + 1) = .pointer po) (BA : Below wr.heap.size wr wA)
    (RA : wA.ownsRow base 63 1 (.slice (some ⟨wr.heap.size, 0, none⟩) N N) N (((List.replicate N sd0).set k (A2, N, c2)).map sval)) (hB1 : wr.heap.size < B1) (SA : Slc wA B1 A2 N c2 (idL N)) (hbs : base ≤ wr.heap.size) :
    ∃ (L' : Nat → LK) (M' : Nat → Prop), Ck ((wA.alloc (.cells #[.int .i64 (k : Nat)] 2)).alloc (.cells #[.int .i64 (k : Nat), .slice none 0 0, .slice (some ⟨wA.heap.size, 0, none⟩) 1 1, .slice (some ⟨wr.heap.size, 0, none⟩) N N, .pointer po] 65)) base N k M' (ch0 N) L' ∧
      (L' k).B = wA.heap.size + 1 ∧ (∀ i, k < i → L' i = L i) ∧ (L' k).orb = [k] ∧ (∀ b, M b → M' b) ∧ (∀ b, Mu N k L' b → Mu N (k + 1) L b ∨ wr.heap.size ≤ b) ∧ ((L' k).en.getD k sd0 = (A2, N, c2) ∧ Slc ((wA.alloc (.cells #[.int .i64 (k : Nat)] 2)).alloc (.cells #[.int .i64 (k : Nat), .slice none 0 0, .slice (some ⟨wA.heap.size, 0, none⟩) 1 1, .slice (some ⟨wr.heap.size, 0, none⟩) N N, .pointer po] 65)) base A2 N c2 (idL N) ∧ ∀ b, (Value.slice A2 N c2).ownBlock = some b → ¬ M' b) := by
  obtain ⟨l, hl⟩ : ∃ l : LK, l = ⟨wA.heap.size + 1, sd0, [], (some ⟨wA.heap.size, 0, none⟩, 1, 1), wr.heap.size, (List.replicate N sd0).set k (A2, N, c2), [k]⟩ := ⟨_, rfl⟩
  obtain ⟨W, hW⟩ : ∃ W, (wA.alloc (.cells #[.int .i64 (k : Nat)] 2)).alloc (.cells #[.int .i64 (k : Nat), .slice none 0 0, .slice (some ⟨wA.heap.size, 0, none⟩) 1 1, .slice (some ⟨wr.heap.size, 0, none⟩) N N, .pointer po] 65) = W := ⟨_, rfl⟩
  have hz : W.heap.size = wA.heap.size + 2 := by rw [← hW]; simp
  have bAW : Below wA.heap.size wA W := by rw [← hW]; exact ((Below.refl _ _).alloc (Nat.le_refl _) _).alloc (by simp) _
  have hzA := BA.size
  have hA0 : wr.heap.size < wA.heap.size := (World.ownsRow.lt RA wr.heap.size rfl).2
  have hmu : ∀ t b, t < 4 → mu l t = some b → b = wA.heap.size + 1 ∨ b = wA.heap.size ∨ b = wr.heap.size := fun t b ht e => by
    subst hl
    rcases t with _ | _ | _ | t
    · injection e with e; exact .inl e.symm
    · cases e
    · injection e with e; exact .inr (.inl e.symm)
    · injection e with e; exact .inr (.inr e.symm)
  rw [hW]
  refine ⟨upd L k l, fun b => M b ∨ ∃ t, t < 4 ∧ mu l t = some b, ck_cons h (BA.trans (bAW.mono hzA)) hbs ?_ (fun t b ht e => ?_) (fun t t' b a1 a2 e e' => ?_), by rw [upd_at, hl], fun i hi => upd_ne (by omega), by rw [upd_at, hl], fun b e => .inl e, fun b ⟨i, t, a1, a2, a3, e⟩ => by
    by_cases ei : i = k
    · subst ei
      rw [upd_at] at e
      have := hmu t b a3 e
      exact .inr (by omega)
    · rw [upd_ne ei] at e
      exact .inl ⟨i, t, by omega, a2, a3, e⟩, by rw [upd_at, hl]; exact getD_set_eq (by simp; exact hk), hW ▸ ((SA.alloc _).alloc _).mono (by omega), fun b hb hm => by
    have h1 := SA.lt_ b hb
    rcases hm with e | ⟨t, a, e⟩
    · have := (h.mlt b e).2
      omega
    · have := hmu t b a e
      omega⟩
  · have hM : ∀ b, (M b ∨ ∃ t, t < 4 ∧ mu l t = some b) → b < wr.heap.size ∨ b = wA.heap.size + 1 ∨ b = wA.heap.size ∨ b = wr.heap.size := fun b e => by
      rcases e with e | ⟨t, a, e⟩
      · exact .inl (h.mlt b e).2
      · exact .inr (hmu t b a e)
    refine ⟨?_, by subst hl; show base ≤ wA.heap.size + 1; omega, ?_, by subst hl; rfl, fun y hy => absurd hy (by show ¬ y < 0; omega), ?_, ?_, by subst hl; simp, fun y hy => ?_⟩
    · rw [hpo, ← hW]
      have := Blk.new (wA.alloc (.cells #[.int .i64 (k : Nat)] 2)) 65 #[.int .i64 (k : Nat), .slice none 0 0, .slice (some ⟨wA.heap.size, 0, none⟩) 1 1, .slice (some ⟨wr.heap.size, 0, none⟩) N N, .pointer po]
      rw [World.size_alloc] at this
      subst hl; exact this
    · subst hl; exact World.ownsRow_nil _ _ _ _
    · subst hl
      show Slc W base (some ⟨wA.heap.size, 0, none⟩) 1 1 (ofP [k])
      have h1 : (wA.alloc (.cells #[.int .i64 (k : Nat)] 2)).ownsRow base 2 1 (.slice (some ⟨wA.heap.size, 0, none⟩) 1 1) 1 [.int .i64 (k : Nat)] := World.ownsRow_lit (size := 1) wA #[.int .i64 (k : Nat)] 1 (by omega) (by decide) rfl
      rw [← hW]
      exact ⟨rfl, World.ownsRow.alloc h1 _⟩
    · subst hl
      rw [← hW]
      exact World.ownsRow.alloc (World.ownsRow.alloc RA _) _
    · subst hl
      show ((if y = k then idL N else []) = [] → ((List.replicate N sd0).set k (A2, N, c2)).getD y sd0 = sd0) ∧ ((if y = k then idL N else []) ≠ [] → Rd W _ (((List.replicate N sd0).set k (A2, N, c2)).getD y sd0) (if y = k then idL N else []))
      by_cases e : y = k
      · subst e
        rw [if_pos rfl, getD_set_eq (by simp; exact hy)]
        refine ⟨fun e => ?_, fun _ => ?_⟩
        · have := idL_length N; rw [e] at this; simp at this; omega
        · refine ⟨SA.1, SA.le.1, fun hp => ?_⟩
          obtain ⟨b, off, e, hb, hc⟩ := SA.ri_ hp
          have e : A2 = some ⟨b, off, none⟩ := e
          have hlo : B1 ≤ b := by
            rcases SA.at_ with ⟨e0, _⟩ | ⟨g, e0, h1, _⟩
            · rw [e0] at e; cases e
            · rw [e0] at e; injection e with e; injection e with e _; omega
          refine ⟨b, off, e, by omega, fun hm => ?_, fun j hj => (bAW.cell (p := ⟨b, off + j, none⟩) hb).trans (hc j hj)⟩
          have := hM b hm
          omega
      · rw [if_neg e, getD_set_ne (fun e2 => e e2.symm), getD_rep]
        exact ⟨fun _ => rfl, fun h => absurd rfl h⟩
  · have := hmu t b ht e
    omega
  · subst hl
    have hx : ∀ t, t < 4 → mu (⟨wA.heap.size + 1, sd0, [], (some ⟨wA.heap.size, 0, none⟩, 1, 1), wr.heap.size, (List.replicate N sd0).set k (A2, N, c2), [k]⟩ : LK) t = some b → (t = 0 ∧ b = wA.heap.size + 1) ∨ (t = 2 ∧ b = wA.heap.size) ∨ (t = 3 ∧ b = wr.heap.size) := fun t ht e => by
      rcases t with _ | _ | _ | t
      · injection e with e; exact .inl ⟨rfl, e.symm⟩
      · cases e
      · injection e with e; exact .inr (.inl ⟨rfl, e.symm⟩)
      · injection e with e; exact .inr (.inr ⟨by omega, e.symm⟩)
    have h3 := hx t a1 e
    have h4 := hx t' a2 e'
    omega

/-- The identity, a row of its own, stands at the first entry of the first link's movers. -/
def IdM (w : World) (base N : Nat) (L : Nat → LK) (M : Nat → Prop) : Prop := ∃ A c, (L 0).en.getD 0 sd0 = (A, N, c) ∧ Slc w base A N c (idL N) ∧ ∀ b, (Value.slice A N c).ownBlock = some b → ¬ M b
theorem IdM.gw {w w' : World} {base N : Nat} {c : Ch} {L L' : Nat → LK} {M M' : Nat → Prop} (h : IdM w base N L M) (h1 : 1 ≤ N) (hc : Ck w base N 0 M c L) (g : Gw w w' N 0 L L' M M') : IdM w' base N L' M' := by
  obtain ⟨A, cc, e, hs, hm⟩ := h
  refine ⟨A, cc, ?_, hs.chgS g.chg fun b hb h => hm b hb (hc.muM b h), fun b hb h => ?_⟩
  · rw [g.en 0 0 (by rw [e]; intro e2; injection e2 with _ e2; injection e2 with e2 _; omega)]; exact e
  · rcases g.new_ b h with h | h
    · exact hm b hb h
    · have := (hs.lt_ b hb).2
      omega

set_option maxHeartbeats 8000000 in
set_option maxRecDepth 100000 in
/-- With blocks X, from base on, that stay apart from the chain. -/
theorem implChainOfI (base N n cc : Nat) (X : Nat → Prop) (A : Option Addr) (vs : List SV) (gs : List (List Int)) (w : World) (hx : RR w base A n vs gs) (hbs : base ≤ w.heap.size) (hX : Hid (∀ b, X b → base ≤ b ∧ b < w.heap.size)) (hN1 : 1 ≤ N) (hN : N ≤ 20) (hn : n ≤ 8) (ok : Hid (∀ g ∈ gs, IsP g ∧ g.length = N)) :
    Calls Tryz.prog 29 #[.int .i64 (N : Nat), .slice A n cc] w fun e w' => ∃ (c : Ch) (L : Nat → LK) (M : Nat → Prop), e = .returned (.pointer (some ⟨(L 0).B, 0, none⟩)) ∧ Ck w' base N 0 M c L ∧ Orbs N 0 c L ∧ Whole N gs c ∧ (∀ b, X b → M b) ∧ (∀ b, Mu N 0 L b → w.heap.size ≤ b) ∧ IdM w' base N L M ∧ Below w.heap.size w w' := by
  obtain ⟨i0, hi, hz0, hz1, hz2⟩ := info_parts infoP
  have HXb := Lib.hid hx
  have HX : Hid (RR w w.heap.size A n vs gs) := Lib.hid (hx.more hbs)
  have hlx : Hid (gs.length = n) := Lib.hid hx.lx
  clear hx
  go_enter Tryz.func29, Tryz.ntmps29
  go_wp2_with fail
  go_loopg [5, 6, 7] N (fun gg ch bv _ wr => ∃ (m : Nat) (L : Nat → LK) (M : Nat → Prop), m ≤ N ∧ m ≤ gg ∧ bv = .int .i64 ((m : Int) - 1) ∧ ch = ptr N L m ∧ Ck wr base N m M (ch0 N) L ∧ Orbs N m (ch0 N) L ∧ (∀ b, X b → M b) ∧ (∀ b, Mu N m L b → w.heap.size ≤ b) ∧ (m = 0 → IdM wr base N L M) ∧ Below w.heap.size w wr)
  case atStart => exact ⟨N, fun _ => lk0, X, Nat.le_refl _, Nat.le_refl _, by go_num, (if_neg (by omega)).symm, ⟨fun i a b => absurd b (by omega), fun i _ _ a b => absurd b (by omega), fun b e => hX.out b e, fun i _ _ _ _ a b => absurd b (by omega)⟩, fun i a b => absurd b (by omega), fun _ e => e, fun b ⟨i, t, a1, a2, _⟩ => absurd a2 (by omega), fun e => absurd e (by omega), Below.refl _ _⟩
  case round =>
    obtain ⟨m, L, M, hm, hgg, rfl, rfl, hc, ho, hxm, hmu0, him, bel⟩ := hrel
    have IM := Lib.hid him
    have XM := Lib.hid hxm
    have MU := Lib.hid hmu0
    have C1 := Lib.hid hc
    have O1 := Lib.hid ho
    have Be := Lib.hid bel
    have hzr := bel.size
    clear hc ho hxm hmu0 him bel
    rcases m with _ | k
    · have ep : ptr N L 0 = .pointer (some ⟨(L 0).B, 0, none⟩) := if_pos (by omega)
      rw [ep]
      have d0 : decide ((((0 : Nat) : Int) - 1) ≥ 0) = false := by decide
      have U0 := Lib.hid (upTo0 N hN1 hN)
      clear ep
      go_wp2_with fail
      go_loopg [9, 32] n (fun gg _ jv wr => ∃ (j : Nat) (c : Ch) (L' : Nat → LK) (M : Nat → Prop), j ≤ n ∧ n - j ≤ gg ∧ jv = .int .i64 (j : Nat) ∧ (L' 0).B = (L 0).B ∧ Ck wr base N 0 M c L' ∧ Orbs N 0 c L' ∧ Whole N (gs.take j) c ∧ (∀ b, X b → M b) ∧ (∀ b, Mu N 0 L' b → w.heap.size ≤ b) ∧ IdM wr base N L' M ∧ Below w.heap.size w wr)
      case atStart => exact ⟨0, ch0 N, L, M, Nat.zero_le _, by omega, rfl, rfl, C1.out, O1.out, ⟨U0.out, fun q => by rw [List.take_zero]; exact Iff.rfl⟩, XM.out, MU.out, IM.out (by trivial), Be.out⟩
      case round =>
        clear C1 O1 U0 Be XM MU IM
        obtain ⟨j, c, L', M, hj, hg2, rfl, hB, hc, ho, hw, hxm, hmu0, him, bel⟩ := hrel
        have IM := Lib.hid him
        have XM := Lib.hid hxm
        have MU := Lib.hid hmu0
        have C2 := Lib.hid hc
        have O2 := Lib.hid ho
        have W2 := Lib.hid hw
        have HB := Lib.hid hB
        have Be := Lib.hid bel
        clear hc ho hw hB hxm hmu0 him
        by_cases hlt : j < n
        · obtain ⟨b, off, A5, l, c5, y, rfl, hb, hv, ey, x1, ri, ly, hl5⟩ := (HX.out.up Be.out).at_ hlt
          have ri0 : RI w base A5 y := by
            have := HXb.out.rows j hlt
            rw [hv, ey] at this; exact this
          have hyP := ok.out y (by rw [← ey]; exact getD_memL (by rw [hlx.out]; exact hlt))
          obtain rfl : l = N := by omega
          have Rdy : Hid (Rd wr M (A5, l, c5) y) := Lib.hid (.of_ri (ri0.below Be.out hbs) ly hl5 (Nat.le_trans hbs Be.out.size) fun b e => (C2.out.mlt b e).1)
          have YP : Hid (Pn l y) := Lib.hid hyP
          have Ey := Lib.hid ey
          have q0 : (0 : Int) ≤ j := by omega
          have q1 : (j : Int) < n := by omega
          clear hv ey hb ri ri0 hyP bel
          go_wp2_with fail
          have K := implAdd base l hN (l - 1) 0 (by omega) M c L' A5 c5 y wr C2.out O2.out Rdy.out YP.out Fx.zero W2.out.up
          rw [HB.out] at K
          refine K.mono ?_
          rintro e w3 ⟨c', L3, M', rfl, hc3, ho3, hg3, hap⟩
          have C4 := Lib.hid hc3
          have O4 := Lib.hid ho3
          have B4 : Hid ((L3 0).B = (L 0).B) := Lib.hid ((hg3.ptr 0).trans HB.out)
          have Be3 : Hid (Below w.heap.size w w3) := Lib.hid (Be.out.trans (hg3.chg.below (fun k hk => MU.out k hk) Be.out.size))
          have IM3 : Hid (IdM w3 base l L3 M') := Lib.hid (IM.out.gw hN1 C2.out hg3)
          have XM3 : Hid (∀ b, X b → M' b) := Lib.hid fun b e => hg3.mm b (XM.out b e)
          have MU3 : Hid (∀ b, Mu l 0 L3 b → w.heap.size ≤ b) := Lib.hid fun b e => by
            rcases hg3.mu b e with h | h
            · exact MU.out b h
            · exact Nat.le_trans Be.out.size h
          have W4 : Hid (Whole l (gs.take (j + 1)) c') := Lib.hid (by
            rw [List.take_succ_eq_append_getElem (by rw [hlx.out]; exact hlt)]
            have e1 : gs[j]'(by rw [hlx.out]; exact hlt) = y := by rw [← Ey.out, List.getD_eq_getElem?_getD, List.getElem?_eq_getElem (by rw [hlx.out]; exact hlt)]; rfl
            rw [e1]
            exact W2.out.next hN1 hN (fun g hg => ok.out g (List.mem_of_mem_take hg)) YP.out hap)
          clear K hc3 ho3 hg3 hap
          go_wp2_with fail
          go_roundg (n - (j + 1))
          case rel => exact ⟨j + 1, c', L3, M', by omega, by omega, by go_num, B4.out, C4.out, O4.out, W4.out, XM3.out, MU3.out, IM3.out, Be3.out⟩
          case measure => omega
        · obtain rfl : j = n := by omega
          have W3 : Hid (Whole N gs c) := Lib.hid (by have := W2.out; rwa [List.take_of_length_le (by rw [hlx.out]; exact Nat.le_refl _)] at this)
          go_wp2_with fail
          go_ret
          exact ⟨c, L', M, by rw [HB.out]; rfl, C2.out, O2.out, W3.out, XM.out, MU.out, IM.out, Be.out⟩
    · obtain ⟨po, hpo⟩ : ∃ po, ptr N L (k + 1) = .pointer po := by
        unfold ptr
        by_cases h : k + 1 < N
        · exact ⟨_, if_pos h⟩
        · exact ⟨_, if_neg h⟩
      have Hpo := Lib.hid hpo
      rw [hpo]
      clear hpo
      have ek : (((k + 1 : Nat) : Int) - 1) = (k : Int) := by omega
      rw [ek]
      have p0 : (0 : Int) ≤ k := by omega
      have p1 : (k : Int) < N := by omega
      have d0 : decide ((k : Int) ≥ 0) = true := by simp
      clear ek
      go_wp2_with (first | (at_make; go_must (refine wpList_make_full _ rfl _ _ 61 rfl base 63 i0 (.slice none 0 0) 1 Tryz.underlying61 hi hz0 hz1 .i64 .i64 _ _ N rfl rfl rfl rfl (by rw [hz2]; omega) (by unfold maxLen; omega) (by omega) ?_); intro w1 hown1 hgrow1))
      have b1 : Below wr.heap.size wr w1 := (Below.refl _ _).grown hgrow1 (Nat.le_refl _) (fun k e => nomatch e)
      have r1 := madeP hown1
      have R1 := Lib.hid r1
      have B1 := Lib.hid b1
      clear hown1 hgrow1 r1 b1
      go_wp2_with fail
      refine (implId_core N w1 hN1 hN).mono ?_
      rintro e w2 ⟨A2, c2, rfl, s2, b2⟩
      have S2 := Lib.hid s2
      have B2 := Lib.hid b2
      have hr2 := ownsRow_chg R1.out (.of_below (M := fun _ => False) b2) fun _ _ e => e
      have R2 := Lib.hid hr2
      have y1 := hr2.cellAt k (by omega)
      have ey : ((List.replicate N sd0).map sval)[k]? = some (Value.slice none 0 0) := by
        rw [List.getElem?_map, List.getElem?_replicate, if_pos (by omega)]; rfl
      rw [ey] at y1
      have fz := hr2.frozenAt k
      clear s2 b2 hr2 ey
      obtain ⟨wA, hwA⟩ : ∃ wA, w2.setCell ⟨wr.heap.size, k, none⟩ (.slice A2 N c2) = wA := ⟨_, rfl⟩
      have zA : Hid (wA.heap.size = w2.heap.size) := Lib.hid (by rw [← hwA]; simp)
      have St := R2.out.stored k (.slice A2 N c2)
      rw [hwA] at St
      have SA : Hid (Slc wA w1.heap.size A2 N c2 (idL N)) := Lib.hid (S2.out.chgS (.of_grown St.2 (M := fun b => b = wr.heap.size) (by intro b e; injection e with e; exact e.symm)) fun b e e2 => by
        have h1 := (S2.out.lt_ b e).1
        have h2 := (World.ownsRow.lt R1.out wr.heap.size rfl).2
        omega)
      have RA : Hid (wA.ownsRow base 63 1 (.slice (some ⟨wr.heap.size, 0, none⟩) N N) N (((List.replicate N sd0).set k (A2, N, c2)).map sval)) := Lib.hid (by rw [List.map_set]; exact St.1)
      have Bw1 : Hid (wr.heap.size < w1.heap.size) := Lib.hid (World.ownsRow.lt R1.out wr.heap.size rfl).2
      have BA : Hid (Below wr.heap.size wr wA) := Lib.hid ((B1.out.trans (B2.out.mono B1.out.size)).grown St.2 (Nat.le_trans B1.out.size B2.out.size) (by intro b e; injection e with e; omega))
      have NW := Lib.hid (ck_new C1.out (by omega) Hpo.out BA.out RA.out Bw1.out SA.out (Nat.le_trans hbs hzr))
      clear St R1 R2 S2
      go_wp2_with fail
      obtain ⟨L', M', K1, K2, K3, K4, K5, K6, K7⟩ := NW.out
      go_roundg k
      case rel =>
        refine ⟨k, L', M', by omega, by omega, rfl, ?_, K1, fun i a b => ?_, fun b e => K5 b (XM.out b e), fun b e => ?_, fun e => (by subst e; exact ⟨_, _, K7.1, K7.2.1, K7.2.2⟩), ?_⟩
        · have e1 : ptr N L' k = .pointer (some ⟨(L' k).B, 0, none⟩) := if_pos (by omega)
          rw [e1, K2]
        · by_cases ei : i = k
          · subst ei; rw [K4]; exact orb0 hN1
          · rw [K3 i (by omega)]; exact O1.out i (by omega) b
        · rcases K6 b e with h | h
          · exact MU.out b h
          · exact Nat.le_trans hzr h
        · exact (Be.out.trans (BA.out.mono hzr)).trans ((((Below.refl wA.heap.size wA).alloc (Nat.le_refl _) _).alloc (by simp) _).mono (by have := BA.out.size; omega))
      case measure => omega
theorem implChainOfX (base N n cc : Nat) (X : Nat → Prop) (A : Option Addr) (vs : List SV) (gs : List (List Int)) (w : World) (hx : RR w base A n vs gs) (hbs : base ≤ w.heap.size) (hX : Hid (∀ b, X b → base ≤ b ∧ b < w.heap.size)) (hN1 : 1 ≤ N) (hN : N ≤ 20) (hn : n ≤ 8) (ok : Hid (∀ g ∈ gs, IsP g ∧ g.length = N)) :
    Calls Tryz.prog 29 #[.int .i64 (N : Nat), .slice A n cc] w fun e w' => ∃ (c : Ch) (L : Nat → LK) (M : Nat → Prop), e = .returned (.pointer (some ⟨(L 0).B, 0, none⟩)) ∧ Ck w' base N 0 M c L ∧ Orbs N 0 c L ∧ Whole N gs c ∧ (∀ b, X b → M b) ∧ (∀ b, Mu N 0 L b → w.heap.size ≤ b) ∧ Below w.heap.size w w' :=
  (implChainOfI base N n cc X A vs gs w hx hbs hX hN1 hN hn ok).mono fun _ _ ⟨c, L, M, e, a, b, d, x, y, _, bel⟩ => ⟨c, L, M, e, a, b, d, x, y, bel⟩
theorem implChainOf (N n cc : Nat) (A : Option Addr) (vs : List SV) (gs : List (List Int)) (w : World) (hx : RR w w.heap.size A n vs gs) (hN1 : 1 ≤ N) (hN : N ≤ 20) (hn : n ≤ 8) (ok : Hid (∀ g ∈ gs, IsP g ∧ g.length = N)) :
    Calls Tryz.prog 29 #[.int .i64 (N : Nat), .slice A n cc] w fun e w' => ∃ (c : Ch) (L : Nat → LK) (M : Nat → Prop), e = .returned (.pointer (some ⟨(L 0).B, 0, none⟩)) ∧ Ck w' w.heap.size N 0 M c L ∧ Orbs N 0 c L ∧ Whole N gs c ∧ Below w.heap.size w w' :=
  (implChainOfX w.heap.size N n cc (fun _ => False) A vs gs w hx (Nat.le_refl _) (Lib.hid fun _ e => e.elim) hN1 hN hn ok).mono fun _ _ ⟨c, L, M, e, a, b, d, _, _, bel⟩ => ⟨c, L, M, e, a, b, d, bel⟩
end Go.Proofs.YtkjokchhffjidaaGreatDoor

/- insertSorted and sortedInts of the model. No condition but lengths. -/
namespace Go.Proofs.YtkjokchhffjidaaGreatDoor
open Go.RowKit

/-- The sorted list with v put in at k. -/
def putIn (ys : List Int) (k : Nat) (v : Int) : List Int := ys.take k ++ [v] ++ ys.drop k
theorem putIn_perm (ys : List Int) (k : Nat) (v : Int) : (putIn ys k v).Perm (v :: ys) := by
  unfold putIn
  have h : (ys.take k ++ [v]).Perm (v :: ys.take k) := List.perm_append_comm
  have := h.append_right (ys.drop k)
  rw [List.cons_append, List.take_append_drop] at this
  exact this
theorem putIn_sorted {ys : List Int} {k : Nat} {v : Int} (hs : ys.Pairwise (· ≤ ·)) (h1 : ∀ j, j < k → ys.getD j 0 < v) (h2 : k < ys.length → v ≤ ys.getD k 0) : (putIn ys k v).Pairwise (· ≤ ·) := by
  unfold putIn
  have hd : ∀ b ∈ ys.drop k, v ≤ b := fun b hb => by
    obtain ⟨j, hj, e⟩ := List.mem_iff_getElem.1 hb
    rw [List.length_drop] at hj
    rw [List.getElem_drop] at e
    have h3 := h2 (by omega)
    rw [List.getD_eq_getElem?_getD, List.getElem?_eq_getElem (by omega : k < ys.length)] at h3
    rw [List.pairwise_iff_getElem] at hs
    rw [← e]
    by_cases e0 : j = 0
    · subst e0; simpa using h3
    · have := hs k (k + j) (by omega) (by omega) (by omega)
      have h3' : v ≤ ys[k] := by simpa using h3
      omega
  have ht : ∀ a ∈ ys.take k, a < v := fun a ha => by
    obtain ⟨j, hj, e⟩ := List.mem_iff_getElem.1 ha
    rw [List.length_take] at hj
    rw [List.getElem_take] at e
    have := h1 j (by omega)
    rw [List.getD_eq_getElem?_getD, List.getElem?_eq_getElem (by omega)] at this
    rw [← e]; simpa using this
  rw [List.append_assoc, List.pairwise_append]
  refine ⟨hs.sublist (List.take_sublist _ _), ?_, fun a ha b hb => ?_⟩
  · rw [List.singleton_append, List.pairwise_cons]
    exact ⟨hd, hs.sublist (List.drop_sublist _ _)⟩
  · have := ht a ha
    rcases List.mem_append.1 hb with hb | hb
    · obtain rfl : b = v := by simpa using hb
      omega
    · have := hd b hb; omega


end Go.Proofs.YtkjokchhffjidaaGreatDoor

/- Members with given entries, by the model's chain. Conditions: at most 20 points, 8 generators. -/
namespace Go.Proofs.YtkjokchhffjidaaGreatDoor
open Go.RowKit

/-- The entries that level i allows behind p, among the first m points. -/
def chL (c : Ch) (i : Nat) (p : List Int) (m : Nat) : List Int := ((List.range m).filter fun y => !(c.rep i y).isEmpty).map fun y => (nx p y : Int)
theorem chL_yes {c : Ch} {i m : Nat} {p : List Int} (h : c.rep i m ≠ []) : chL c i p (m + 1) = chL c i p m ++ [(nx p m : Int)] := by
  unfold chL; rw [List.range_succ, List.filter_append]; simp [List.isEmpty_eq_false_iff.2 h]
theorem chL_no {c : Ch} {i m : Nat} {p : List Int} (h : c.rep i m = []) : chL c i p (m + 1) = chL c i p m := by
  unfold chL; rw [List.range_succ, List.filter_append]; simp [h]
theorem chL_mem {c : Ch} {i m : Nat} {p : List Int} {v : Int} : v ∈ chL c i p m ↔ ∃ y, y < m ∧ c.rep i y ≠ [] ∧ (nx p y : Int) = v := by
  simp only [chL, List.mem_map, List.mem_filter, List.mem_range, Bool.not_eq_true', List.isEmpty_eq_false_iff, and_assoc]
theorem chL_len (c : Ch) (i : Nat) (p : List Int) (m : Nat) : (chL c i p m).length ≤ m := by
  unfold chL; rw [List.length_map]
  have := List.length_filter_le (fun y => !(c.rep i y).isEmpty) (List.range m)
  simpa using this


end Go.Proofs.YtkjokchhffjidaaGreatDoor

/- The smallest member with a prefix: what it is, and that the model finds it. Conditions: at most 20 points, 8 generators. -/
namespace Go.Proofs.YtkjokchhffjidaaGreatDoor
open Go.RowKit

/-- m is the member with the prefix whose further entries are as small as can be, one after the other. -/
def Greedy (N : Nat) (gs : List (List Int)) (pre m : List Int) : Prop :=
  Mb gs N m ∧ ∀ i, i < N → (i < pre.length → (nx m i : Int) = pre.getD i 0) ∧ (pre.length ≤ i → ∀ q, Mb gs N q → (∀ t, t < i → nx q t = nx m t) → nx m i ≤ nx q i)
def NoMem (N : Nat) (gs : List (List Int)) (pre : List Int) : Prop := ∀ q, Mb gs N q → ¬ ∀ t, t < pre.length → (nx q t : Int) = pre.getD t 0
/-- What MemberWithPrefix answers. -/
def IsMwp (N : Nat) (gs : List (List Int)) (pre m : List Int) (ok : Bool) : Prop := (ok = true ∧ Greedy N gs pre m) ∨ (ok = false ∧ m = [] ∧ NoMem N gs pre)
section
variable {N : Nat} {gs : List (List Int)} {pre m m' : List Int}
theorem Greedy.uniq (h1 : 1 ≤ N) (h2 : N ≤ 20) (hg : ∀ g ∈ gs, Pn N g) (h : Greedy N gs pre m) (h' : Greedy N gs pre m') : m = m' := by
  have hp := h.1.pn hg h1 h2
  have hp' := h'.1.pn hg h1 h2
  refine hp.ext hp' fun x hx => ?_
  induction x using Nat.strongRecOn with
  | ind x ih =>
    by_cases hl : x < pre.length
    · have a := (h.2 x hx).1 hl
      have b := (h'.2 x hx).1 hl
      omega
    · have a := (h.2 x hx).2 (by omega) m' h'.1 fun t ht => (ih t ht (by omega)).symm
      have b := (h'.2 x hx).2 (by omega) m h.1 fun t ht => ih t ht (by omega)
      omega
theorem Greedy.has (h : Greedy N gs pre m) (hl : pre.length ≤ N) : ¬ NoMem N gs pre := fun hn => hn m h.1 fun t ht => (h.2 t (by omega)).1 ht
theorem IsMwp.uniq {ok ok' : Bool} (h1 : 1 ≤ N) (h2 : N ≤ 20) (hg : ∀ g ∈ gs, Pn N g) (hl : pre.length ≤ N) (h : IsMwp N gs pre m ok) (h' : IsMwp N gs pre m' ok') : m = m' ∧ ok = ok' := by
  rcases h with ⟨rfl, a⟩ | ⟨rfl, rfl, a⟩ <;> rcases h' with ⟨rfl, b⟩ | ⟨rfl, rfl, b⟩
  · exact ⟨a.uniq h1 h2 hg b, rfl⟩
  · exact absurd b (a.has hl)
  · exact absurd a (b.has hl)
  · exact ⟨rfl, rfl⟩
/-- m keeps to it in its first k entries. -/
def GrTo (N : Nat) (gs : List (List Int)) (pre m : List Int) (k : Nat) : Prop :=
  Mb gs N m ∧ ∀ i, i < k → (i < pre.length → (nx m i : Int) = pre.getD i 0) ∧ (pre.length ≤ i → ∀ q, Mb gs N q → (∀ t, t < i → nx q t = nx m t) → nx m i ≤ nx q i)
/-- The entries that level i allows are those of the members that agree before. -/
theorem Whole.choice {c : Ch} (h : Whole N gs c) (h1 : 1 ≤ N) (h2 : N ≤ 20) (hg : ∀ g ∈ gs, Pn N g) {i : Nat} (hi : i < N) (hm : Mb gs N m) {v : Int} : v ∈ chL c i m N ↔ ∃ q, Mb gs N q ∧ (∀ t, t < i → nx q t = nx m t) ∧ (nx q i : Int) = v := by
  have hp := hm.pn hg h1 h2
  rw [chL_mem]
  constructor
  · rintro ⟨y, hy, hr, rfl⟩
    obtain ⟨a, b, d, _⟩ := h.rep_mb h1 h2 hi hr
    have hr' := a.pn hg h1 h2
    refine ⟨compL (c.rep i y) m, a.comp hg h1 h2 hm, fun t ht => ?_, ?_⟩
    · rw [hr'.nxc (by omega), b t ht]
    · rw [hr'.nxc hi, d]
  · rintro ⟨q, hq, ha, rfl⟩
    have hq' := hq.pn hg h1 h2
    have hmi := hp.iv
    refine ⟨nx (iv m) (nx q i), hmi.lt (hq'.lt hi), (h.rep_iff h1 h2 hi).2 ⟨compL q (iv m), hq.comp hg h1 h2 (hm.inv hg h1 h2), fun t ht => ?_, ?_⟩, ?_⟩
    · rw [hq'.nxc (by omega), ha t ht, hp.nxi (by omega)]
    · rw [hq'.nxc hi]
    · rw [hp.nxi' (hq'.lt hi)]
theorem GrTo.step {c : Ch} {k : Nat} (h : GrTo N gs pre m k) (hw : Whole N gs c) (h1 : 1 ≤ N) (h2 : N ≤ 20) (hg : ∀ g ∈ gs, Pn N g) (hk : k < N) {y : Nat} (hr : c.rep k y ≠ []) (hv : (k < pre.length → (nx m y : Int) = pre.getD k 0) ∧ (pre.length ≤ k → ∀ v ∈ chL c k m N, (nx m y : Int) ≤ v)) : GrTo N gs pre (compL (c.rep k y) m) (k + 1) := by
  obtain ⟨a, b, d, _⟩ := hw.rep_mb h1 h2 hk hr
  have hr' := a.pn hg h1 h2
  have e : ∀ t, t < k → nx (compL (c.rep k y) m) t = nx m t := fun t ht => by rw [hr'.nxc (by omega), b t ht]
  have e2 : nx (compL (c.rep k y) m) k = nx m y := by rw [hr'.nxc hk, d]
  refine ⟨a.comp hg h1 h2 h.1, fun i hi => ?_⟩
  rcases Nat.lt_or_ge i k with hl | hl
  · rw [e i hl]
    exact ⟨(h.2 i hl).1, fun hp q hq hag => (h.2 i hl).2 hp q hq fun t ht => (hag t ht).trans (e t (by omega))⟩
  · obtain rfl : i = k := by omega
    rw [e2]
    refine ⟨hv.1, fun hp q hq hag => ?_⟩
    have := hv.2 hp (nx q i : Int) ((hw.choice h1 h2 hg hk h.1).2 ⟨q, hq, fun t ht => (hag t ht).trans (e t ht), rfl⟩)
    omega
theorem GrTo.no {c : Ch} {k : Nat} (h : GrTo N gs pre m k) (hw : Whole N gs c) (h1 : 1 ≤ N) (h2 : N ≤ 20) (hg : ∀ g ∈ gs, Pn N g) (hk : k < N) (hl : k < pre.length) (hn : pre.getD k 0 ∉ chL c k m N) : NoMem N gs pre := fun q hq hag =>
  hn ((hw.choice h1 h2 hg hk h.1).2 ⟨q, hq, fun t ht => by
    have a := hag t (by omega)
    have b := (h.2 t ht).1 (by omega)
    omega, hag k hl⟩)
theorem hasB_in (xs : List Int) (x : Int) : hasB xs x = decide (x ∈ xs) := by
  unfold hasB
  rw [Bool.eq_iff_iff]
  simp only [decide_eq_true_eq]
  constructor
  · rintro ⟨k, hk, e⟩
    rw [← e, List.getD_eq_getElem?_getD, List.getElem?_eq_getElem hk]; exact List.getElem_mem _
  · intro h
    obtain ⟨k, hk, e⟩ := List.mem_iff_getElem.1 h
    exact ⟨k, hk, by rw [List.getD_eq_getElem?_getD, List.getElem?_eq_getElem hk, ← e]; rfl⟩
end

end Go.Proofs.YtkjokchhffjidaaGreatDoor

/- GroupOrder, OrbitSizes, IsMember and MemberWithPrefix of the model: what they answer. Conditions: at most 1048576 lists of at most 1048576 numbers. -/
namespace Go.Proofs.YtkjokchhffjidaaGreatDoor
open Go.RowKit

/-- What GroupOrder answers. -/
def IsOrd (a : Int) (gs : List (List Int)) (v : Int) : Prop := (gB a gs = true ∧ ∃ xs, IsOS a.toNat gs xs ∧ v = prodL xs) ∨ (gB a gs = false ∧ v = 0)
theorem IsOrd.uniq {a v v' : Int} {gs : List (List Int)} (h : IsOrd a gs v) (h' : IsOrd a gs v') : v = v' := by
  rcases h with ⟨e, xs, h, rfl⟩ | ⟨e, rfl⟩ <;> rcases h' with ⟨e', ys, h', rfl⟩ | ⟨e', rfl⟩
  · rw [h.uniq h']
  · rw [e] at e'; cases e'
  · rw [e] at e'; cases e'
  · rfl
/-- What OrbitSizes answers. -/
def IsSiz (a : Int) (gs : List (List Int)) (xs : List Int) : Prop := (gB a gs = true ∧ IsOS a.toNat gs xs) ∨ (gB a gs = false ∧ xs = [])
theorem IsSiz.uniq {a : Int} {gs : List (List Int)} {xs ys : List Int} (h : IsSiz a gs xs) (h' : IsSiz a gs ys) : xs = ys := by
  rcases h with ⟨e, h⟩ | ⟨e, rfl⟩ <;> rcases h' with ⟨e', h'⟩ | ⟨e', rfl⟩
  · exact h.uniq h'
  · rw [e] at e'; cases e'
  · rw [e] at e'; cases e'
  · rfl
theorem IsSiz.len {a : Int} {gs : List (List Int)} {xs : List Int} (h : IsSiz a gs xs) : xs.length ≤ 20 := by
  rcases h with ⟨e, h⟩ | ⟨e, rfl⟩
  · obtain ⟨N, rfl, _, hN, _⟩ := gB_pm e
    rw [h.1]; simpa using hN
  · simp
/-- p is a member. -/
def Memb (a : Int) (gs : List (List Int)) (p : List Int) : Prop := gB a gs = true ∧ (p.length : Int) = a ∧ isP p = true ∧ Mb gs a.toNat p
theorem memb_uniq {a : Int} {gs : List (List Int)} {p : List Int} {b b' : Bool} (h : b = true ↔ Memb a gs p) (h' : b' = true ↔ Memb a gs p) : b = b' := by
  rw [Bool.eq_iff_iff, h, h']
/-- What MemberWithPrefix answers. -/
def IsMw (a : Int) (gs : List (List Int)) (pre m : List Int) (ok : Bool) : Prop :=
  (gB a gs = true ∧ (pre.length : Int) ≤ a ∧ IsMwp a.toNat gs pre m ok) ∨ (¬ (gB a gs = true ∧ (pre.length : Int) ≤ a) ∧ m = [] ∧ ok = false)
theorem IsMw.uniq {a : Int} {gs : List (List Int)} {pre m m' : List Int} {ok ok' : Bool} (h : IsMw a gs pre m ok) (h' : IsMw a gs pre m' ok') : m = m' ∧ ok = ok' := by
  rcases h with ⟨e, hl, h⟩ | ⟨e, rfl, rfl⟩ <;> rcases h' with ⟨e', hl', h'⟩ | ⟨e', rfl, rfl⟩
  · obtain ⟨N, rfl, h1, hN, _, _, ok⟩ := gB_pm e
    exact h.uniq (by simpa using h1) (by simpa using hN) (fun g hg => by rw [Int.toNat_natCast]; exact ok g hg) (by simp; omega) h'
  · exact absurd ⟨e, hl⟩ e'
  · exact absurd ⟨e', hl'⟩ e
  · exact ⟨rfl, rfl⟩
theorem IsMwp.len {N : Nat} {gs : List (List Int)} {pre m : List Int} {ok : Bool} (h1 : 1 ≤ N) (h2 : N ≤ 20) (hg : ∀ g ∈ gs, Pn N g) (h : IsMwp N gs pre m ok) : m.length ≤ 20 := by
  rcases h with ⟨_, h⟩ | ⟨_, rfl, _⟩
  · rw [(h.1.pn hg h1 h2).2]; exact h2
  · simp
theorem IsMw.len {a : Int} {gs : List (List Int)} {pre m : List Int} {ok : Bool} (h : IsMw a gs pre m ok) : m.length ≤ 20 := by
  rcases h with ⟨e, hl, h⟩ | ⟨e, rfl, rfl⟩
  · obtain ⟨N, rfl, h1, hN, _, _, ok⟩ := gB_pm e
    rw [Int.toNat_natCast] at h
    exact h.len h1 hN ok
  · simp

section
variable (a : Int) (A : Option Addr) (n c : Nat) (vs : List SV) (xss : List (List Int)) (w : World)
end
end Go.Proofs.YtkjokchhffjidaaGreatDoor

/- IsMember, LongestMemberPrefix and SameGroup of the model: what they answer. Conditions: at most 1048576 lists of at most 1048576 numbers. -/
namespace Go.Proofs.YtkjokchhffjidaaGreatDoor
open Go.RowKit

/-- p's first k entries are those of a member, and no more of them are. -/
def LmpOK (N : Nat) (gs : List (List Int)) (p : List Int) (k : Nat) : Prop := k ≤ N ∧ (∃ q, Mb gs N q ∧ ∀ t, t < k → nx q t = nx p t) ∧ (k < N → ¬ ∃ q, Mb gs N q ∧ ∀ t, t ≤ k → nx q t = nx p t)
theorem LmpOK.uniq {N k k' : Nat} {gs : List (List Int)} {p : List Int} (h : LmpOK N gs p k) (h' : LmpOK N gs p k') : k = k' := by
  obtain ⟨a, ⟨q, hq, hq2⟩, b⟩ := h
  obtain ⟨a', ⟨q', hq', hq2'⟩, b'⟩ := h'
  rcases Nat.lt_trichotomy k k' with hl | hl | hl
  · exact absurd ⟨q', hq', fun t ht => hq2' t (by omega)⟩ (b (by omega))
  · exact hl
  · exact absurd ⟨q, hq, fun t ht => hq2 t (by omega)⟩ (b' (by omega))
/-- What LongestMemberPrefix answers. -/
def IsLmp (a : Int) (gs : List (List Int)) (p : List Int) (v : Int) : Prop :=
  (gB a gs = true ∧ (p.length : Int) = a ∧ isP p = true ∧ ∃ k : Nat, v = k ∧ LmpOK a.toNat gs p k) ∨ (¬ (gB a gs = true ∧ (p.length : Int) = a ∧ isP p = true) ∧ v = -1)
theorem IsLmp.uniq {a v v' : Int} {gs : List (List Int)} {p : List Int} (h : IsLmp a gs p v) (h' : IsLmp a gs p v') : v = v' := by
  rcases h with ⟨e1, e2, e3, k, rfl, h⟩ | ⟨e, rfl⟩ <;> rcases h' with ⟨e1', e2', e3', k', rfl, h'⟩ | ⟨e', rfl⟩
  · rw [h.uniq h']
  · exact absurd ⟨e1, e2, e3⟩ e'
  · exact absurd ⟨e1', e2', e3'⟩ e
  · rfl
/-- The two lists generate the same group. -/
def SameG (a : Int) (xs ys : List (List Int)) : Prop := gB a xs = true ∧ gB a ys = true ∧ (∀ g ∈ ys, Mb xs a.toNat g) ∧ ∀ g ∈ xs, Mb ys a.toNat g

theorem bool_of (P : Prop) : ∃ b : Bool, b = true ↔ P := by
  rcases Classical.em P with h | h
  · exact ⟨true, fun _ => h, fun _ => rfl⟩
  · exact ⟨false, fun e => (by cases e), fun e => absurd e h⟩
section
variable (a : Int) (A : Option Addr) (n c : Nat) (vs : List SV) (xss : List (List Int)) (w : World)
theorem specIsPB (N : Nat) (xs : List Int) (ans : Bool) (hx : RI w w.heap.size A xs) (lx : Hid (xs.length = n)) (hn : n ≤ 2097152) (hnc : n ≤ c) (ha : Hid (isP xs = ans)) :
    Calls Tryz.prog 48 #[.slice A n c] w fun e w' => e = .returned (.bool ans) ∧ Below w.heap.size w w' :=
  (quiet_below (specIsP A c n xs w hx lx hn hnc)).mono fun e w' ⟨he, hb⟩ => ⟨he.trans (ret_bool ha.out), hb⟩

end
end Go.Proofs.YtkjokchhffjidaaGreatDoor

/- LongestMemberPrefix and StrongGeneratingSet of the model: what they answer. Conditions: at most 1048576 lists of at most 1048576 numbers. -/
namespace Go.Proofs.YtkjokchhffjidaaGreatDoor
open Go.RowKit

section
variable (a : Int) (A : Option Addr) (n c : Nat) (vs : List SV) (xss : List (List Int)) (w : World)

/-! ### StrongGeneratingSet -/
end
/-- The prefix for level i and point y. -/
def preOf (pr : Nat × Nat) : List Int := idL pr.1 ++ [(pr.2 : Int)]
/-- The smallest members for a list of levels and points, where there are any. -/
def Sgs (N : Nat) (gs : List (List Int)) : List (Nat × Nat) → List (List Int) → Prop
  | [], l => l = []
  | pr :: ps, l => ∃ m ok rest, IsMwp N gs (preOf pr) m ok ∧ Sgs N gs ps rest ∧ l = (if ok = true then [m] else []) ++ rest
theorem Sgs.snoc {N : Nat} {gs : List (List Int)} {m : List Int} {ok : Bool} {pr : Nat × Nat} (hm : IsMwp N gs (preOf pr) m ok) : ∀ {ps : List (Nat × Nat)} {l : List (List Int)}, Sgs N gs ps l → Sgs N gs (ps ++ [pr]) (l ++ if ok = true then [m] else [])
  | [], l, h => by
    obtain rfl : l = [] := h
    exact ⟨m, ok, [], hm, rfl, by simp⟩
  | p :: ps, l, h => by
    obtain ⟨m', ok', rest, h1, h2, rfl⟩ := h
    exact ⟨m', ok', _, h1, h2.snoc hm, by rw [List.append_assoc]⟩
theorem Sgs.uniq {N : Nat} {gs : List (List Int)} (h1 : 1 ≤ N) (h2 : N ≤ 20) (hg : ∀ g ∈ gs, Pn N g) : ∀ {ps : List (Nat × Nat)} {l l' : List (List Int)}, (∀ pr ∈ ps, pr.1 < N) → Sgs N gs ps l → Sgs N gs ps l' → l = l'
  | [], l, l', _, h, h' => by rw [show l = [] from h, show l' = [] from h']
  | p :: ps, l, l', hp, h, h' => by
    obtain ⟨m, ok, rest, a1, a2, rfl⟩ := h
    obtain ⟨m', ok', rest', b1, b2, rfl⟩ := h'
    have hl : (preOf p).length ≤ N := by
      have := hp p (by simp)
      unfold preOf; rw [List.length_append, idL_length]; simp; omega
    obtain ⟨e1, e2⟩ := a1.uniq h1 h2 hg hl b1
    rw [e1, e2, Sgs.uniq h1 h2 hg (fun pr hpr => hp pr (by simp [hpr])) a2 b2]
theorem Sgs.ok {N : Nat} {gs : List (List Int)} (h1 : 1 ≤ N) (h2 : N ≤ 20) (hg : ∀ g ∈ gs, Pn N g) : ∀ {ps : List (Nat × Nat)} {l : List (List Int)}, Sgs N gs ps l → l.length ≤ ps.length ∧ ∀ y ∈ l, Mb gs N y ∧ y.length = N
  | [], l, h => by rw [show l = [] from h]; simp
  | p :: ps, l, h => by
    obtain ⟨m, ok, rest, a1, a2, rfl⟩ := h
    obtain ⟨b1, b2⟩ := a2.ok h1 h2 hg
    rcases a1 with ⟨rfl, a1⟩ | ⟨rfl, _, _⟩
    · refine ⟨by simp; omega, fun y hy => ?_⟩
      simp at hy
      rcases hy with rfl | hy
      · exact ⟨a1.1, (a1.1.pn hg h1 h2).2⟩
      · exact b2 y hy
    · refine ⟨by simp; omega, fun y hy => b2 y (by simpa using hy)⟩
/-- The levels below k, and the points behind each. -/
def prsI (N i m : Nat) : List (Nat × Nat) := (List.range m).map fun t => (i, i + 1 + t)
def prs (N : Nat) : Nat → List (Nat × Nat)
  | 0 => []
  | k + 1 => prs N k ++ prsI N k (N - (k + 1))
theorem prsI_succ (N i m : Nat) : prsI N i (m + 1) = prsI N i m ++ [(i, i + 1 + m)] := by simp [prsI, List.range_succ]
theorem prs_lt (N : Nat) : ∀ k, k ≤ N → ∀ pr ∈ prs N k, pr.1 < N
  | 0, _, pr, h => by simp [prs] at h
  | k + 1, hk, pr, h => by
    rcases List.mem_append.1 h with h | h
    · exact prs_lt N k (by omega) pr h
    · simp only [prsI, List.mem_map] at h
      obtain ⟨t, _, rfl⟩ := h
      exact hk
theorem prs_len (N : Nat) : ∀ k, (prs N k).length ≤ k * N
  | 0 => by simp [prs]
  | k + 1 => by
    have := prs_len N k
    simp only [prs, prsI, List.length_append, List.length_map, List.length_range, Nat.add_mul, Nat.one_mul]
    omega
/-- What StrongGeneratingSet answers. -/
def IsSgs (a : Int) (gs l : List (List Int)) : Prop := (gB a gs = true ∧ Sgs a.toNat gs (prs a.toNat a.toNat) l) ∨ (gB a gs = false ∧ l = [])
theorem IsSgs.uniq {a : Int} {gs l l' : List (List Int)} (h : IsSgs a gs l) (h' : IsSgs a gs l') : l = l' := by
  rcases h with ⟨e, h⟩ | ⟨e, rfl⟩ <;> rcases h' with ⟨e', h'⟩ | ⟨e', rfl⟩
  · obtain ⟨N, rfl, h1, hN, _, _, ok⟩ := gB_pm e
    rw [Int.toNat_natCast] at h h'
    exact h.uniq h1 hN ok (prs_lt N N (Nat.le_refl _)) h'
  · rw [e] at e'; cases e'
  · rw [e] at e'; cases e'
  · rfl
end Go.Proofs.YtkjokchhffjidaaGreatDoor

/- StrongGeneratingSet of the model. Conditions: at most 1048576 lists of at most 1048576 numbers. -/
namespace Go.Proofs.YtkjokchhffjidaaGreatDoor
open Go.RowKit

theorem ownsRow_mid {w w' : World} {base n size lo : Nat} {e : TypeId} {v : Value} {xs : List Value} (h : w.ownsRow base e size v n xs) (hm : ∀ k, lo ≤ k → k < w.heap.size → w'.heap[k]? = w.heap[k]?) (hl : lo ≤ base) : w'.ownsRow base e size v n xs := by
  refine ⟨h.1, ?_⟩
  rcases h.2 with h0 | ⟨g, cap, cur, e2, hb, hg, rest⟩
  · exact .inl h0
  · exact .inr ⟨g, cap, cur, e2, hb, by rw [hm g (by omega) (Array.getElem?_eq_some_iff.1 hg).1]; exact hg, rest⟩

end Go.Proofs.YtkjokchhffjidaaGreatDoor

/- What StabilizerOrder answers; isPointSet and moveToFront of the model. Conditions: at most 20 points; lists of at most 1048576 numbers. -/
namespace Go.Proofs.YtkjokchhffjidaaGreatDoor
open Go.RowKit

/-- A strictly increasing list of points. -/
def PtS (N : Nat) (pts : List Int) : Prop := pts.length ≤ N ∧ ∀ i, i < pts.length → 0 ≤ pts.getD i 0 ∧ pts.getD i 0 < N ∧ (0 < i → pts.getD (i - 1) 0 < pts.getD i 0)
/-- What StabilizerOrder answers: how many members fix the points. -/
def IsStb (a : Int) (gs : List (List Int)) (pts : List Int) (v : Int) : Prop :=
  (gB a gs = true ∧ PtS a.toNat pts ∧ ∃ c : Nat, Crd (fun p => Mb gs a.toNat p ∧ Fxs pts p) c ∧ v = (c : Int)) ∨ (¬ (gB a gs = true ∧ PtS a.toNat pts) ∧ v = 0)
theorem IsStb.uniq {a v v' : Int} {gs : List (List Int)} {pts : List Int} (h : IsStb a gs pts v) (h' : IsStb a gs pts v') : v = v' := by
  rcases h with ⟨e, f, c, hc, rfl⟩ | ⟨e, rfl⟩ <;> rcases h' with ⟨e', f', c', hc', rfl⟩ | ⟨e', rfl⟩
  · rw [hc.uniq hc']
  · exact absurd ⟨e, f⟩ e'
  · exact absurd ⟨e', f'⟩ e
  · rfl
section
variable {N : Nat} {pts : List Int}
theorem PtS.lt (h : PtS N pts) {i : Nat} : ∀ j, i < j → j < pts.length → pts.getD i 0 < pts.getD j 0
  | 0, hij, _ => absurd hij (Nat.not_lt_zero _)
  | j + 1, hij, hj => by
    have h1 := (h.2 (j + 1) hj).2.2 (Nat.succ_pos j)
    rw [Nat.add_sub_cancel] at h1
    by_cases e : i = j
    · rw [e]; exact h1
    · have := h.lt (i := i) j (by omega) (by omega)
      omega
theorem gdx {l : List Int} {i : Nat} (h : i < l.length) : l.getD i 0 = l[i] := by
  rw [List.getD_eq_getElem?_getD, List.getElem?_eq_getElem h]; rfl
theorem PtS.nodup (h : PtS N pts) : pts.Nodup := List.pairwise_iff_getElem.2 fun i j hi hj hij => by
  have := h.lt j hij hj
  rw [gdx hi, gdx hj] at this
  exact fun e => by rw [e] at this; omega
theorem PtS.mem (h : PtS N pts) {x : Int} (hx : x ∈ pts) : 0 ≤ x ∧ x < N := by
  obtain ⟨i, hi, rfl⟩ := List.mem_iff_getElem.1 hx
  have := h.2 i hi
  rw [gdx hi] at this
  exact ⟨this.1, this.2.1⟩
theorem hasB_mem {l : List Int} {x : Int} : hasB l x = true ↔ x ∈ l := by
  unfold hasB
  rw [decide_eq_true_eq, List.mem_iff_getElem]
  exact ⟨fun ⟨j, hj, e⟩ => ⟨j, hj, by rw [← gdx hj, e]⟩, fun ⟨j, hj, e⟩ => ⟨j, hj, by rw [gdx hj, e]⟩⟩
/-- The points in a new order: those of the list, then the others. -/
def mtf (pts : List Int) (k : Nat) : List Int := pts ++ ((List.range k).map Int.ofNat).filter fun x => !hasB pts x
theorem mtf_zero : mtf pts 0 = pts := by simp [mtf]
theorem mtf_yes {k : Nat} (h : hasB pts (k : Int) = true) : mtf pts (k + 1) = mtf pts k := by
  unfold mtf
  rw [List.range_succ, List.map_append, List.filter_append]
  simp [h]
theorem mtf_no {k : Nat} (h : hasB pts (k : Int) = false) : mtf pts (k + 1) = mtf pts k ++ [(k : Int)] := by
  unfold mtf
  rw [List.range_succ, List.map_append, List.filter_append]
  simp [h]
theorem mtf_le (k : Nat) : (mtf pts k).length ≤ pts.length + k := by
  unfold mtf
  rw [List.length_append]
  have := List.length_filter_le (fun x => !hasB pts x) ((List.range k).map Int.ofNat)
  simp at this ⊢; omega
theorem mtf_pre (k : Nat) {j : Nat} (hj : j < pts.length) : (mtf pts k).getD j 0 = pts.getD j 0 := getD_app _ _ _ _ hj
theorem PtS.mtf_mem (h : PtS N pts) (x : Int) : x ∈ mtf pts N ↔ 0 ≤ x ∧ x < N := by
  unfold mtf
  rw [List.mem_append, List.mem_filter, List.mem_map]
  constructor
  · rintro (hx | ⟨⟨i, hi, rfl⟩, _⟩)
    · exact h.mem hx
    · have := List.mem_range.1 hi
      exact ⟨Int.natCast_nonneg _, by show (i : Int) < N; omega⟩
  · rintro ⟨h0, h1⟩
    by_cases hx : x ∈ pts
    · exact .inl hx
    · refine .inr ⟨⟨x.toNat, List.mem_range.2 (by omega), by show ((x.toNat : Nat) : Int) = x; omega⟩, ?_⟩
      rw [Bool.not_eq_true', ← Bool.not_eq_true, hasB_mem]; exact hx
theorem PtS.mtf_nd (h : PtS N pts) : (mtf pts N).Nodup := by
  unfold mtf
  refine List.nodup_append.2 ⟨h.nodup, (nd_mapA List.nodup_range fun x _ y _ e => Int.ofNat.inj e).filter _, fun a ha b hb e => ?_⟩
  subst e
  have h2 := (List.mem_filter.1 hb).2
  rw [Bool.not_eq_true', ← Bool.not_eq_true, hasB_mem] at h2
  exact h2 ha
theorem PtS.mtf_pn (h : PtS N pts) (h1 : 1 ≤ N) (h2 : N ≤ 20) : Pn N (mtf pts N) := by
  have hr : ((List.range N).map Int.ofNat).Nodup := nd_mapA List.nodup_range fun x _ y _ e => Int.ofNat.inj e
  have hl : (mtf pts N).length = N := by
    have a := nd_subA (l := (List.range N).map Int.ofNat) h.mtf_nd fun x hx => by
      have := (h.mtf_mem x).1 hx
      exact List.mem_map.2 ⟨x.toNat, List.mem_range.2 (by omega), by show ((x.toNat : Nat) : Int) = x; omega⟩
    have b := nd_subA (l := mtf pts N) hr fun x hx => by
      obtain ⟨i, hi, rfl⟩ := List.mem_map.1 hx
      have := List.mem_range.1 hi
      exact (h.mtf_mem _).2 ⟨Int.natCast_nonneg _, by show (i : Int) < N; omega⟩
    simp at a b; omega
  have hm : ∀ i, i < (mtf pts N).length → 0 ≤ (mtf pts N).getD i 0 ∧ (mtf pts N).getD i 0 < N := fun i hi => by
    rw [gdx hi]; exact (h.mtf_mem _).1 (List.getElem_mem hi)
  refine ⟨⟨by omega, by omega, fun i hi => (hm i hi).1, fun i hi => by have := (hm i hi).2; omega, fun i j hi hj e => ?_⟩, hl⟩
  rw [gdx hi, gdx hj] at e
  have hp := List.pairwise_iff_getElem.1 h.mtf_nd
  rcases Nat.lt_trichotomy i j with hl | hl | hl
  · exact absurd e (hp i j hi hj hl)
  · exact hl
  · exact absurd e.symm (hp j i hj hi hl)
end

/-- append of nothing. -/
theorem wpList_app0 {w : World} {ops : Array Oper} {rest : List Oper} {o : Oper} {a : Act} {Q : Exit → Act → World → Prop} (hgd : o.guard = none) (s x : Operand)
    (ho : o.op = .call { callee := .builtin .append, args := #[s, x], argTypes := #[48, 48] })
    (b : Option Addr) (sl sc : Nat) (hle : sl ≤ sc) (hs : a.eval s = .slice b sl sc) (A : Option Addr) (c : Nat) (hx : a.eval x = .slice A 0 c)
    (h : wpList Tryz.prog ops Q rest (a.put o.dst (.slice b sl sc)) w) : wpList Tryz.prog ops Q (o :: rest) a w := by
  obtain ⟨i0, hi, hz0, hz1, hz2⟩ := info_parts infoI
  refine wpList_plain hgd fun _ hK => ?_
  have hr := run_append_nothing (P := Tryz.prog) w 48 48 o.type 2 i0 Tryz.underlying48 hi b sl sc hle (.slice A 0 c)
    ⟨.inl ⟨_, Tryz.underlying48⟩, fun w' => by cases A <;> rfl, by cases A <;> simp [Builtin.firstCells, loadCells, loadCellsFrom], by cases A <;> simp [Builtin.firstCells, loadCells, loadCellsFrom], by simp, fun u hu => by cases hu⟩
  unfold Oper.wp execOp
  simp only [ho, resolve, invoke, builtin, Sem.run_bind, Sem.run_pure, Result.andThen_ok, List.map_toArray, List.map_cons, List.map_nil, hs, hx, hr]
  exact hK _ _ h




end Go.Proofs.YtkjokchhffjidaaGreatDoor

/- StabilizerOrder of the model. Conditions: at most 1048576 lists of at most 1048576 numbers. -/
namespace Go.Proofs.YtkjokchhffjidaaGreatDoor
open Go.RowKit

theorem Whole.pr_le {N : Nat} {gs : List (List Int)} {c : Ch} (h : Whole N gs c) (h1 : 1 ≤ N) (k : Nat) : ∀ m, k + m ≤ N → 1 ≤ pr (osL N c N) k m ∧ pr (osL N c N) k m ≤ (facts N (k + m) : Int)
  | 0, hm => by
    have := facts_pos (N := N) (m := k) (by omega)
    exact ⟨Int.le_refl _, by show (1 : Int) ≤ (facts N (k + 0) : Int); rw [Nat.add_zero]; omega⟩
  | m + 1, hm => by
    obtain ⟨a, b⟩ := h.pr_le h1 k m (by omega)
    obtain ⟨d, e⟩ := h.nr_pos h1 (i := k + m) (by omega)
    have ex : pr (osL N c N) k (m + 1) = pr (osL N c N) k m * (nr N c (k + m) N : Int) := by
      show _ * (osL N c N).getD (k + m) 0 = _
      rw [osL_at (by omega)]
    rw [ex]
    refine ⟨?_, ?_⟩
    · have := Int.mul_le_mul a (show (1 : Int) ≤ (nr N c (k + m) N : Int) by omega) (by omega) (by omega)
      simpa using this
    · have := Int.mul_le_mul b (show (nr N c (k + m) N : Int) ≤ ((N - (k + m) : Nat) : Int) by omega) (by omega) (by omega)
      show _ ≤ ((facts N (k + m) * (N - (k + m)) : Nat) : Int)
      rw [Int.natCast_mul]; exact this
theorem take_cj {gs : List (List Int)} {o : List Int} {k : Nat} {y : List Int} (hk : k < gs.length) (ey : gs.getD k [] = y) : (gs.take (k + 1)).map (cj o) = (gs.take k).map (cj o) ++ [cj o y] := by
  rw [List.getD_eq_getElem?_getD, List.getElem?_eq_getElem hk] at ey
  have e' : gs[k] = y := ey
  rw [List.take_succ_eq_append_getElem hk, List.map_append, e']; rfl

/-- One slice more on a slice of slices of the call's own. -/
theorem SS.snocV {w w' : World} {base bi n c : Nat} {A : Option Addr} {vs : List SV} {xss : List (List Int)} {A' : Option Addr} {c' : Nat} {d : SV} {ys : List Int} (hss : SS w base bi A n c vs xss) (hys : Slc w bi d.1 d.2.1 d.2.2 ys)
    (hdis : ∀ i, i < n → (sval (vs.getD i sd0)).ownBlock = none ∨ (sval (vs.getD i sd0)).ownBlock ≠ (sval d).ownBlock) (hown : w'.ownsRow base 48 1 (.slice A' (n + 1) c') (n + 1) (vs.map sval ++ [sval d])) (hg : w.grownBy w' (Value.slice A n c).ownBlock) :
    SS w' base bi A' (n + 1) c' (vs ++ [d]) (xss ++ [ys]) := by
  refine ⟨?_, by simp [hss.lv], by simp [hss.lx], fun i hi' => ?_, fun i j hij hj => ?_⟩
  · rw [List.map_append]; exact hown
  · by_cases e : i < n
    · rw [getD_app _ _ _ _ (by rw [hss.lv]; exact e), getD_app _ _ _ _ (by rw [hss.lx]; exact e)]
      exact (hss.row i e).kept hg (apart_types (hss.row i e) hss.own)
    · obtain rfl : i = n := by omega
      rw [getD_snoc _ _ _ _ hss.lv.symm, getD_snoc _ _ _ _ hss.lx.symm]
      exact hys.kept hg (apart_types hys hss.own)
  · rw [getD_app _ _ _ i (by rw [hss.lv]; omega)]
    by_cases e : j < n
    · rw [getD_app _ _ _ j (by rw [hss.lv]; exact e)]; exact hss.dis i j hij e
    · obtain rfl : j = n := by omega
      rw [getD_snoc _ _ _ _ hss.lv.symm]
      exact hdis i hij
end Go.Proofs.YtkjokchhffjidaaGreatDoor

/- What the functions of chapter 4 answer, and that the model's do. No condition. -/
namespace Go.Proofs.YtkjokchhffjidaaGreatDoor
open Go.RowKit

def IsMem (a : Int) (gs : List (List Int)) (p : List Int) (b : Bool) : Prop := b = true ↔ Memb a gs p
def IsSam (a : Int) (xs ys : List (List Int)) (b : Bool) : Prop := b = true ↔ SameG a xs ys
theorem IsMem.uniq {a : Int} {gs : List (List Int)} {p : List Int} {b b' : Bool} (h : IsMem a gs p b) (h' : IsMem a gs p b') : b = b' := memb_uniq h h'
theorem IsSam.uniq {a : Int} {xs ys : List (List Int)} {b b' : Bool} (h : IsSam a xs ys b) (h' : IsSam a xs ys b') : b = b' := by
  unfold IsSam at h h'; rw [Bool.eq_iff_iff, h, h']
theorem boundSgs {a : Int} {gs l : List (List Int)} (h : IsSgs a gs l) : l.length ≤ 1048576 ∧ (∀ i, i < l.length → (l.getD i []).length ≤ 1048576) ∧ sumL l ≤ 1048576 := by
  rcases h with ⟨e, h⟩ | ⟨e, rfl⟩
  · obtain ⟨N, rfl, h1, hN, _, _, ok⟩ := gB_pm e
    rw [Int.toNat_natCast] at h
    obtain ⟨a1, a2⟩ := h.ok h1 hN ok
    have a3 := prs_len N N
    have a4 : N * N ≤ 20 * 20 := Nat.mul_le_mul hN hN
    exact bound_all (m := 400) (k := 20) (by omega) (fun y hy => by rw [(a2 y hy).2]; exact hN) (by omega)
  · exact bound_all (m := 0) (k := 0) (Nat.le_refl _) (fun y hy => by cases hy) (by omega)

end Go.Proofs.YtkjokchhffjidaaGreatDoor

/- The program's order, OrbitSizes, GroupOrder, IsMember, LongestMemberPrefix. Conditions: at most 1048576 lists of at most 1048576 numbers. -/
namespace Go.Proofs.YtkjokchhffjidaaGreatDoor
open Go.RowKit

section
variable {N k i : Nat} {c : Ch} {L : Nat → LK} {O : List Nat} {gs : List (List Int)}
theorem orb_nr (h : Orb c i O) (hr : RepOK N c i) : nr N c i N = O.length := by
  have a : ((List.range N).filter fun y => !(c.rep i y).isEmpty).length ≤ O.length := nd_subP (List.nodup_range.filter _) fun y hy => by
    rw [List.mem_filter, Bool.not_eq_true', List.isEmpty_eq_false_iff] at hy
    exact (h.2 y).2 hy.2
  have b : O.length ≤ ((List.range N).filter fun y => !(c.rep i y).isEmpty).length := nd_subP h.1 fun y hy => by
    rw [List.mem_filter, Bool.not_eq_true', List.isEmpty_eq_false_iff, List.mem_range]
    exact ⟨h.lt hr hy, (h.2 y).1 hy⟩
  unfold nr; omega
theorem ptr_at (hi : i < N) : ptr N L i = .pointer (some ⟨(L i).B, 0, none⟩) := if_pos hi
theorem ptr_end (hi : N ≤ i) : ptr N L i = .pointer none := if_neg (by omega)
end

set_option maxHeartbeats 2000000 in
/-- order, from link k on. -/
theorem implOrder (base N k0 k : Nat) (M : Nat → Prop) (c : Ch) (L : Nat → LK) (gs : List (List Int)) (w : World) (hc : Ck w base N k0 M c L) (ho : Orbs N k0 c L) (hw : Hid (Whole N gs c)) (hk : k0 ≤ k) (hkN : k ≤ N) (h1 : 1 ≤ N) (h2 : N ≤ 20) (hg : Hid (∀ g ∈ gs, Pn N g)) :
    Calls Tryz.prog 30 #[ptr N L k] w fun e w' => e = .returned (.int .i64 (pr (osL N c N) k (N - k))) ∧ w = w' := by
  have HC := Lib.hid hc
  have HO := Lib.hid ho
  have Hos := Lib.hid (hw.out.os h1 h2)
  clear hc ho
  go_enter Tryz.func30, Tryz.ntmps30
  go_wp2_with fail
  go_loopg [3, 4] N (fun gg o l wr => ∃ j : Nat, k ≤ j ∧ j ≤ N ∧ N - j ≤ gg ∧ l = ptr N L j ∧ o = .int .i64 (pr (osL N c N) k (j - k)) ∧ w = wr)
  case atStart => exact ⟨k, Nat.le_refl _, hkN, by omega, rfl, by rw [Nat.sub_self]; rfl, rfl⟩
  case round =>
    obtain ⟨j, hkj, hjN, hgg, rfl, rfl, rfl⟩ := hrel
    by_cases hlt : j < N
    · rw [ptr_at hlt]
      obtain ⟨x0, x1, x2, x3, x4⟩ := HC.out.cB (by omega) hlt
      have hol := HC.out.olen (by omega) hlt
      rcases hoe : (L j).o with ⟨oA, on, oc⟩
      rw [hoe] at x2 hol
      have hol : on = (L j).orb.length := hol
      have en : (osL N c N).getD j 0 = (on : Int) := by
        rw [osL_at hlt, orb_nr (HO.out j (by omega) hlt) (hw.out.up.rep j (Nat.zero_le _) hlt), hol]
      have e1 : pr (osL N c N) k (j - k) * (on : Int) = pr (osL N c N) k (j + 1 - k) := by
        rw [show j + 1 - k = (j - k) + 1 by omega]
        show _ = pr (osL N c N) k (j - k) * (osL N c N).getD (k + (j - k)) 0
        rw [show k + (j - k) = j by omega, en]
      have b1 := Hos.out.pr_le hg.out h1 h2 k (j + 1 - k) (by omega)
      have b2 := facts_le h2 (k + (j + 1 - k)) (by omega)
      have wr1 : IntKind.i64.wrap (pr (osL N c N) k (j - k) * (on : Int)) = pr (osL N c N) k (j + 1 - k) := by rw [e1, IntKind.wrap_i64]; omega
      simp only [sval] at x2
      clear hol hoe en e1 b1 b2 x0 x1 x3
      go_wp2_with fail
      go_roundg (N - (j + 1))
      case rel => exact ⟨j + 1, by omega, by omega, by omega, rfl, rfl, rfl⟩
      case measure => omega
    · obtain rfl : j = N := by omega
      rw [ptr_end (Nat.le_refl _)]
      go_wp2_with fail
      go_ret
      exact ⟨rfl, rfl⟩


set_option maxHeartbeats 2000000 in
/-- GroupOrder. -/
theorem implGroupOrder : CtImI 14 IsOrd := by
  intro a A n c vs xss w g _
  have HX := Lib.hid g.rr
  have hlx : Hid (xss.length = n) := Lib.hid g.rr.lx
  have hn := g.hn
  have hl := Lib.hid g.hl
  clear g
  go_enter Tryz.func14, Tryz.ntmps14
  go_wp2_with fail
  refine (implGS a A n c vs xss w HX.out hn hl).mono ?_
  rintro e w1 ⟨rfl, b1⟩
  have B1 := Lib.hid b1
  have X1 := Lib.hid (HX.out.up b1)
  clear b1
  rcases hs : gB a xss with _ | _
  · have Fin : Hid (IsOrd a xss 0) := Lib.hid (.inr ⟨hs, rfl⟩)
    clear hs
    go_wp2_with fail
    go_ret
    exact ⟨_, rfl, Fin.out, B1.out⟩
  · obtain ⟨N, rfl, hN1, hN2, hg8, hpm, hok⟩ := gB_pm hs
    have Hs := Lib.hid hs
    have Ok := Lib.hid hok
    have hn8 : n ≤ 8 := by rw [← hlx.out]; exact hg8
    clear hs hpm hok hg8
    go_wp2_with fail
    refine (implChainOf N n c A vs xss w1 X1.out hN1 hN2 hn8 Ok).mono ?_
    rintro e w2 ⟨ch, L, M, rfl, hc, ho, hw, b2⟩
    have W2 := Lib.hid hw
    have B2 : Hid (Below w.heap.size w w2) := Lib.hid (btr B1.out b2)
    have K := implOrder w1.heap.size N 0 0 M ch L xss w2 hc ho W2 (Nat.le_refl _) (Nat.zero_le _) hN1 hN2 (Lib.hid Ok.out)
    rw [ptr_at (by omega)] at K
    have Fin : Hid (IsOrd N xss (pr (osL N ch N) 0 (N - 0))) := Lib.hid (.inl ⟨Hs.out, osL N ch N, by rw [Int.toNat_natCast]; exact hw.os hN1 hN2, by rw [prodL_pr, osL_len]; rfl⟩)
    clear hc ho hw b2
    go_wp2_with fail
    refine K.mono ?_
    rintro e w3 ⟨rfl, rfl⟩
    clear K
    go_wp2_with fail
    go_ret
    exact ⟨_, rfl, Fin.out, B2.out⟩



end Go.Proofs.YtkjokchhffjidaaGreatDoor

/- The program's smallestLike and MemberWithPrefix. Conditions: at most 1048576 lists of at most 1048576 numbers. -/
namespace Go.Proofs.YtkjokchhffjidaaGreatDoor
open Go.RowKit


end Go.Proofs.YtkjokchhffjidaaGreatDoor

/- The program's containsAll. Conditions: at most 20 points, 8 generators. -/
namespace Go.Proofs.YtkjokchhffjidaaGreatDoor
open Go.RowKit

end Go.Proofs.YtkjokchhffjidaaGreatDoor

/- The program's StrongGeneratingSet and SameGroup. Conditions: at most 1048576 lists of at most 1048576 numbers. -/
namespace Go.Proofs.YtkjokchhffjidaaGreatDoor
open Go.RowKit

/-- As many, and all of them among the others: the same. -/
theorem Crd.same {P Q : List Int → Prop} {v : Nat} (hP : Crd P v) (hQ : Crd Q v) (h : ∀ p, P p → Q p) : ∀ p, Q p → P p := fun p hp => by
  obtain ⟨l, d, m, e⟩ := hP
  obtain ⟨l', d', m', e'⟩ := hQ
  refine (m p).1 ?_
  by_cases hm : p ∈ l
  · exact hm
  · exfalso
    have hnd : (p :: l).Nodup := List.nodup_cons.2 ⟨hm, d⟩
    have := nd_subA hnd fun x hx => by
      rcases List.mem_cons.1 hx with rfl | hx
      · exact (m' _).2 hp
      · exact (m' x).2 (h x ((m x).1 hx))
    simp at this; omega
theorem preOf_at {N k y : Nat} {g : List Int} (hf : Fx k g) (e : nx g k = y) : ∀ i, i < k + 1 → (nx g i : Int) = (preOf (k, y)).getD i 0 := fun i hi => by
  unfold preOf
  rcases Nat.lt_or_ge i k with hl | hl
  · rw [getD_app _ _ _ i (by rw [idL_length]; exact hl), idL_getD hl, hf i hl]
  · obtain rfl : i = k := by omega
    rw [getD_snoc _ _ _ i (by rw [idL_length]), e]
theorem preOf_len (k y : Nat) : (preOf (k, y)).length = k + 1 := by unfold preOf; rw [List.length_append, idL_length]; rfl


end Go.Proofs.YtkjokchhffjidaaGreatDoor

/- The program's areAscendingPoints, slices.Index, Contains, Grow, Concat and the points of a renumbering. Conditions: at most 20 points; lists of at most 1048576 numbers. -/
namespace Go.Proofs.YtkjokchhffjidaaGreatDoor
open Go.RowKit

theorem mtf_pts (pts : List Int) (N : Nat) : mtf pts N = pts ++ ptsL (fun x => !hasB pts (x : Int)) N := by
  unfold mtf ptsL
  rw [List.filter_map]; rfl
theorem cj_iv {N : Nat} {o p : List Int} (ho : Pn N o) : cj (iv o) p = compL (compL o p) (iv o) := by
  unfold cj; rw [ho.iviv]




end Go.Proofs.YtkjokchhffjidaaGreatDoor

/- The program's slices.Concat, renumbered and StabilizerOrder. Conditions: at most 1048576 lists of at most 1048576 numbers. -/
namespace Go.Proofs.YtkjokchhffjidaaGreatDoor
open Go.RowKit

/-- append of whatever can be read onto a row of the call's own. -/
theorem wpList_appA {w : World} {ops : Array Oper} {rest : List Oper} {o : Oper} {a : Act} {Q : Exit → Act → World → Prop} (hgd : o.guard = none) (s x : Operand)
    (ho : o.op = .call { callee := .builtin .append, args := #[s, x], argTypes := #[48, 48] })
    (base : Nat) (A : Option Addr) (n c : Nat) (xs : List Int) (hs : a.eval s = .slice A n c) (hown : Slc w base A n c xs) (B : Option Addr) (m c2 : Nat) (ys : List Int) (hx : a.eval x = .slice B m c2)
    (hy : RI w w.heap.size B ys) (ly : ys.length = m) (hn : n + m ≤ 1000000000000) (hbase : base ≤ w.heap.size)
    (h : ∀ A' c' w', Slc w' base A' (n + m) c' (xs ++ ys) → w.grownBy w' (Value.slice A n c).ownBlock → wpList Tryz.prog ops Q rest (a.put o.dst (.slice A' (n + m) c')) w') : wpList Tryz.prog ops Q (o :: rest) a w := by
  by_cases h0 : m = 0
  · subst h0
    obtain rfl : ys = [] := List.length_eq_zero_iff.1 ly
    have h3 := h A c w (by rw [List.append_nil]; exact hown) (grown_refl _ _)
    exact wpList_app0 hgd s x ho A n c hown.le.1 hs B c2 hx h3
  · obtain ⟨b, off, rfl, _, _⟩ := hy (by omega)
    exact wpList_appN hgd s x ho base A n c xs hs hown b off m c2 ys hx hy ly hn hbase h



end Go.Proofs.YtkjokchhffjidaaGreatDoor
