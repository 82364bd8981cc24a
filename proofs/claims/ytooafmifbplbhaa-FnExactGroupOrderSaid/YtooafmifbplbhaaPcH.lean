/- The program's chain in memory: linked structs, each with generators, an orbit and movers; how it reads, what one store, one append, one call on a later link leave of it. No condition. -/
import Derived.Test.YtooafmifbplbhaaPcM
import Derived.Test.YtooafmifbplbhaaChH
namespace Go.Proofs.Ytooafmifbplbhaa
open Go.RowKit

def ofP (xs : List Nat) : List Int := xs.map Int.ofNat
theorem ofP_snoc (xs : List Nat) (x : Nat) : ofP (xs ++ [x]) = ofP xs ++ [(x : Int)] := by simp [ofP]
theorem ofP_len (xs : List Nat) : (ofP xs).length = xs.length := by simp [ofP]
/-- Where a link lies: its block, its slice of generators and their entries, its orbit's slice, its movers' block and their entries; the orbit. -/
structure LK where
  B : Nat
  g : SV
  ge : List SV
  o : SV
  mb : Nat
  en : List SV
  orb : List Nat
/-- The four blocks of a link that may turn. -/
def mu (l : LK) : Nat → Option Nat
  | 0 => some l.B
  | 1 => (sval l.g).ownBlock
  | 2 => (sval l.o).ownBlock
  | _ => some l.mb
/-- The blocks of the links from k on. -/
def Mu (N k : Nat) (L : Nat → LK) (b : Nat) : Prop := ∃ i t, k ≤ i ∧ i < N ∧ t < 4 ∧ mu (L i) t = some b
/-- The pointer to link i, nil behind the last. -/
def ptr (N : Nat) (L : Nat → LK) (i : Nat) : Value := if i < N then .pointer (some ⟨(L i).B, 0, none⟩) else .pointer none
/-- d reads as p, in blocks outside of M. -/
structure Rd (w : World) (M : Nat → Prop) (d : SV) (p : List Int) : Prop where
  len : p.length = d.2.1
  cap : d.2.1 ≤ d.2.2
  at_ : 0 < p.length → ∃ b off, d.1 = some ⟨b, off, none⟩ ∧ b < w.heap.size ∧ ¬ M b ∧ ∀ j, j < p.length → w.cell? ⟨b, off + j, none⟩ = some (.int .i64 (p.getD j 0))
/-- One link in memory. -/
structure Lk (w : World) (base N k : Nat) (M : Nat → Prop) (rep : Nat → List Int) (gen : List (List Int)) (nxt : Value) (l : LK) : Prop where
  blk : Blk w l.B 58 #[.int .i64 (k : Nat), sval l.g, sval l.o, .slice (some ⟨l.mb, 0, none⟩) N N, nxt]
  hB : base ≤ l.B
  gown : w.ownsRow base 53 1 (sval l.g) gen.length (l.ge.map sval)
  glen : l.ge.length = gen.length
  gent : ∀ y, y < gen.length → Rd w M (l.ge.getD y sd0) (gen.getD y [])
  oown : Slc w base l.o.1 l.o.2.1 l.o.2.2 (ofP l.orb)
  mown : w.ownsRow base 53 1 (.slice (some ⟨l.mb, 0, none⟩) N N) N (l.en.map sval)
  mlen : l.en.length = N
  ment : ∀ y, y < N → (rep y = [] → l.en.getD y sd0 = sd0) ∧ (rep y ≠ [] → Rd w M (l.en.getD y sd0) (rep y))
/-- The links from k on in memory. -/
structure Ck (w : World) (base N k : Nat) (M : Nat → Prop) (c : Ch) (L : Nat → LK) : Prop where
  lk : ∀ i, k ≤ i → i < N → Lk w base N i M (c.rep i) (c.gen i) (ptr N L (i + 1)) (L i)
  mm : ∀ i t b, k ≤ i → i < N → t < 4 → mu (L i) t = some b → M b
  mlt : ∀ b, M b → base ≤ b ∧ b < w.heap.size
  dis : ∀ i t i' t' b, k ≤ i → i < N → t < 4 → k ≤ i' → i' < N → t' < 4 → mu (L i) t = some b → mu (L i') t' = some b → i = i' ∧ t = t'
def Orbs (N k : Nat) (c : Ch) (L : Nat → LK) : Prop := ∀ i, k ≤ i → i < N → Orb c i (L i).orb
/-- What a call on link k leaves of the rest. -/
structure Gw (w w' : World) (N k : Nat) (L L' : Nat → LK) (M M' : Nat → Prop) : Prop where
  chg : Chg w w' (Mu N k L)
  keep : ∀ i, i < k → L' i = L i
  ptr : ∀ i, (L' i).B = (L i).B
  mm : ∀ b, M b → M' b
  new_ : ∀ b, M' b → M b ∨ w.heap.size ≤ b
  mu : ∀ b, Mu N k L' b → Mu N k L b ∨ w.heap.size ≤ b

section
variable {w w' w1 : World} {base N k i y : Nat} {M M' M1 S : Nat → Prop} {c c' : Ch} {L L' L1 : Nat → LK} {l l' : LK} {d : SV} {p q : List Int} {rep : Nat → List Int} {gen : List (List Int)} {nxt : Value}

/-! ### reading -/
theorem Rd.ri (h : Rd w M d p) : RI w w.heap.size d.1 p := fun hp => by
  obtain ⟨b, off, e, hb, _, hc⟩ := h.at_ hp
  exact ⟨b, off, e, hb, hc⟩
theorem Rd.keep (h : Rd w M d p) (hc : Chg w w' S) (hS : ∀ b, S b → M b) (hM : ∀ b, M' b → M b ∨ w.heap.size ≤ b) : Rd w' M' d p :=
  ⟨h.len, h.cap, fun hp => by
    obtain ⟨b, off, e, hb, hn, hcell⟩ := h.at_ hp
    refine ⟨b, off, e, by have := hc.size; omega, fun hm => ?_, fun j hj => ?_⟩
    · rcases hM b hm with h | h
      · exact hn h
      · omega
    · rw [← hcell j hj]
      exact World.cell?_of_block (hc.block b hb fun hs => hn (hS b hs))⟩
theorem Rd.up (h : Rd w M d p) (hb : Below w.heap.size w w') : Rd w' M d p := h.keep (S := fun _ => False) (.of_below hb) (fun _ e => e.elim) fun _ e => .inl e
theorem Rd.of_slc {B : Nat} (h : Slc w B d.1 d.2.1 d.2.2 p) (hM : ∀ b, M b → b < B) : Rd w M d p :=
  ⟨h.1, h.le.1, fun hp => by
    rcases h.at_ with ⟨_, e, _⟩ | ⟨g, e, h1, h2⟩
    · rw [e] at hp; simp at hp
    · refine ⟨g, 0, e, h2, fun hm => by have := hM g hm; omega, fun j hj => ?_⟩
      obtain ⟨b, off, e2, _, hc⟩ := h.ri_ hp
      rw [e] at e2
      injection e2 with e2
      injection e2 with e3 e4
      subst e3
      rw [e4]
      exact hc j hj⟩
theorem Rd.more (h : Rd w M d p) (hM : ∀ b, M' b → M b ∨ w.heap.size ≤ b) : Rd w M' d p := h.keep (S := fun _ => False) (.refl _ _) (fun _ e => e.elim) hM
theorem Rd.of_ri {A : Option Addr} {n cc B : Nat} (h : RI w B A p) (lp : p.length = n) (hc : n ≤ cc) (hB : B ≤ w.heap.size) (hM : ∀ b, M b → B ≤ b) : Rd w M (A, n, cc) p :=
  ⟨lp, hc, fun hp => by
    obtain ⟨b, off, e, hb, hcell⟩ := h hp
    exact ⟨b, off, e, by omega, fun hm => by have := hM b hm; omega, hcell⟩⟩

theorem Blk.chg {g : Nat} {t : TypeId} {cs : Array Value} (h : Blk w g t cs) (hc : Chg w w' S) (hn : ¬ S g) : Blk w' g t cs := (hc.block g h.lt hn).trans h
theorem Slc.chgS {A : Option Addr} {n cc : Nat} {xs : List Int} (h : Slc w base A n cc xs) (hc : Chg w w' S) (hn : ∀ b, (Value.slice A n cc).ownBlock = some b → ¬ S b) : Slc w' base A n cc xs := ⟨h.1, ownsRow_chg h.2 hc hn⟩
/-- A link whose blocks do not turn is kept. -/
theorem Lk.keep (h : Lk w base N k M rep gen nxt l) (hc : Chg w w' S) (hn : ∀ t b, t < 4 → mu l t = some b → ¬ S b) (hS : ∀ b, S b → M b) (hM : ∀ b, M' b → M b ∨ w.heap.size ≤ b) : Lk w' base N k M' rep gen nxt l :=
  ⟨h.blk.chg hc (hn 0 _ (by decide) rfl), h.hB, ownsRow_chg h.gown hc fun b e => hn 1 b (by decide) e, h.glen, fun y hy => (h.gent y hy).keep hc hS hM, h.oown.chgS hc fun b e => hn 2 b (by decide) e,
    ownsRow_chg h.mown hc fun b e => hn 3 b (by decide) e, h.mlen, fun y hy => ⟨(h.ment y hy).1, fun e => ((h.ment y hy).2 e).keep hc hS hM⟩⟩
theorem Ck.up (h : Ck w base N k M c L) (hb : Below w.heap.size w w') : Ck w' base N k M c L :=
  ⟨fun i a b => (h.lk i a b).keep (S := fun _ => False) (.of_below hb) (fun _ _ _ _ e => e.elim) (fun _ e => e.elim) fun _ e => .inl e, h.mm, fun b e => by have := h.mlt b e; have := hb.size; omega, h.dis⟩
theorem Ck.muM (h : Ck w base N k M c L) : ∀ b, Mu N k L b → M b := fun b ⟨i, t, a1, a2, a3, e⟩ => h.mm i t b a1 a2 a3 e
theorem Mu.mono {j : Nat} (h : Mu N k L y) (hj : j ≤ k) : Mu N j L y := by
  obtain ⟨i, t, a1, a2⟩ := h
  exact ⟨i, t, by omega, a2⟩
theorem Ck.above (h : Ck w base N k M c L) {j : Nat} (hj : k ≤ j) : Ck w base N j M c L :=
  ⟨fun i a b => h.lk i (by omega) b, fun i t b a1 a2 => h.mm i t b (by omega) a2, h.mlt, fun i t i' t' b a1 a2 a3 a4 => h.dis i t i' t' b (by omega) a2 a3 (by omega)⟩
theorem Gw.refl (w : World) (N k : Nat) (L : Nat → LK) (M : Nat → Prop) : Gw w w N k L L M M := ⟨.refl _ _, fun _ _ => rfl, fun _ => rfl, fun _ e => e, fun _ e => .inl e, fun _ e => .inl e⟩
theorem Gw.trans (h : Gw w w1 N k L L1 M M1) (h2 : Gw w1 w' N k L1 L' M1 M') : Gw w w' N k L L' M M' :=
  ⟨h.chg.trans h2.chg h.mu, fun i hi => (h2.keep i hi).trans (h.keep i hi), fun i => (h2.ptr i).trans (h.ptr i), fun b e => h2.mm b (h.mm b e), fun b e => by
    rcases h2.new_ b e with h3 | h3
    · exact h.new_ b h3
    · exact .inr (by have := h.chg.size; omega), fun b e => by
    rcases h2.mu b e with h3 | h3
    · exact h.mu b h3
    · exact .inr (by have := h.chg.size; omega)⟩
theorem Gw.of_below (h : Below w.heap.size w w') : Gw w w' N k L L M M := ⟨.of_below h, fun _ _ => rfl, fun _ => rfl, fun _ e => e, fun _ e => .inl e, fun _ e => .inl e⟩
theorem Rd.gw (h : Rd w M d p) (g : Gw w w' N k L L' M M') (hm : ∀ b, Mu N k L b → M b) : Rd w' M' d p := h.keep g.chg hm g.new_
/-- What a call on a later link leaves of this one. -/
theorem Gw.down (g : Gw w w' N (k + 1) L L' M M') (h : Ck w base N k M c L) : Gw w w' N k L L' M M' :=
  ⟨⟨g.chg.os, g.chg.tape, g.chg.output, g.chg.size, fun b hb hn => g.chg.block b hb fun e => hn (e.mono (by omega))⟩, fun i hi => g.keep i (by omega), g.ptr, g.mm, g.new_, fun b ⟨i, t, a1, a2, a3, e⟩ => by
    by_cases ei : i = k
    · subst ei
      rw [g.keep i (by omega)] at e
      exact .inl ⟨i, t, a1, a2, a3, e⟩
    · rcases g.mu b ⟨i, t, by omega, a2, a3, e⟩ with h3 | h3
      · exact .inl (h3.mono (by omega))
      · exact .inr h3⟩
theorem ptr_eq (e : ∀ i, (L' i).B = (L i).B) (i : Nat) : ptr N L' i = ptr N L i := by unfold ptr; rw [e]
theorem Ck.down (h : Ck w base N k M c L) (hk : k < N) (h' : Ck w' base N (k + 1) M' c' L') (g : Gw w w' N (k + 1) L L' M M') (er : c'.rep k = c.rep k) (eg : c'.gen k = c.gen k) : Ck w' base N k M' c' L' := by
  have hL : L' k = L k := g.keep k (by omega)
  have hnS : ∀ t b, t < 4 → mu (L k) t = some b → ¬ Mu N (k + 1) L b := fun t b ht e ⟨i, t', a1, a2, a3, e'⟩ => by
    have := (h.dis k t i t' b (Nat.le_refl _) hk ht (by omega) a2 a3 e e').1
    omega
  refine ⟨fun i a b => ?_, fun i t b a1 a2 a3 e => ?_, h'.mlt, fun i t i' t' b a1 a2 a3 a4 a5 a6 e e' => ?_⟩
  · by_cases ei : i = k
    · subst ei
      rw [er, eg, hL, ptr_eq g.ptr]
      exact (h.lk i (Nat.le_refl _) hk).keep g.chg hnS (fun b e => h.muM b (e.mono (by omega))) g.new_
    · exact h'.lk i (by omega) b
  · by_cases ei : i = k
    · subst ei
      rw [hL] at e
      exact g.mm b (h.mm i t b a1 a2 a3 e)
    · exact h'.mm i t b (by omega) a2 a3 e
  · have hx : ∀ i t t', k + 1 ≤ i → i < N → t < 4 → t' < 4 → mu (L' i) t = some b → mu (L k) t' = some b → False := fun i t t' b1 b2 b3 b4 e1 e2 => by
      rcases g.mu b ⟨i, t, b1, b2, b3, e1⟩ with h3 | h3
      · exact hnS t' b b4 e2 h3
      · have := (h.mlt b (h.mm k t' b (Nat.le_refl _) hk b4 e2)).2
        omega
    by_cases ei : i = k <;> by_cases ei' : i' = k
    · subst ei; subst ei'
      rw [hL] at e e'
      exact h.dis _ t _ t' b a1 a2 a3 a4 a5 a6 e e'
    · subst ei
      rw [hL] at e
      exact (hx i' t' t (by omega) a5 a6 a3 e' e).elim
    · subst ei'
      rw [hL] at e'
      exact (hx i t t' (by omega) a2 a3 a6 e e').elim
    · exact h'.dis i t i' t' b (by omega) a2 a3 (by omega) a5 a6 e e'

/-! ### one link turns -/
def upd (L : Nat → LK) (k : Nat) (l : LK) : Nat → LK := fun i => if i = k then l else L i
theorem upd_at : upd L k l k = l := if_pos rfl
theorem upd_ne (h : i ≠ k) : upd L k l i = L i := if_neg h
theorem upd_B (hB : l.B = (L k).B) : ∀ i, (upd L k l i).B = (L i).B := fun i => by
  unfold upd
  by_cases e : i = k
  · rw [if_pos e, hB, e]
  · rw [if_neg e]
theorem Ck.upd (h : Ck w base N k M c L) (hk : k < N) (hc : Chg w w' S) (hS : ∀ b, S b → ∃ t, t < 4 ∧ mu (L k) t = some b) (hM2 : ∀ b, M' b → M b ∨ (w.heap.size ≤ b ∧ b < w'.heap.size)) (hMM : ∀ b, M b → M' b)
    (hl : Lk w' base N k M' (c'.rep k) (c'.gen k) (ptr N L (k + 1)) l') (hB : l'.B = (L k).B) (ht : ∀ t b, t < 4 → mu l' t = some b → (mu (L k) t = some b ∨ w.heap.size ≤ b) ∧ M' b)
    (hd : ∀ t t' b, t < 4 → t' < 4 → mu l' t = some b → mu l' t' = some b → t = t') (he : ∀ i, k < i → c'.rep i = c.rep i ∧ c'.gen i = c.gen i) : Ck w' base N k M' c' (Proofs.Ytooafmifbplbhaa.upd L k l') ∧ Gw w w' N k L (Proofs.Ytooafmifbplbhaa.upd L k l') M M' := by
  have hSM : ∀ b, S b → M b := fun b e => by
    obtain ⟨t, a, e⟩ := hS b e
    exact h.mm k t b (Nat.le_refl _) hk a e
  have hM3 : ∀ b, M' b → M b ∨ w.heap.size ≤ b := fun b e => by
    rcases hM2 b e with h | h
    · exact .inl h
    · exact .inr h.1
  have hbs : base ≤ w.heap.size := by
    have := h.mlt _ (h.mm k 0 _ (Nat.le_refl _) hk (by decide) rfl); omega
  have hx : ∀ i t t' b, k < i → i < N → t < 4 → t' < 4 → mu (L i) t = some b → mu l' t' = some b → False := fun i t t' b b1 b2 b3 b4 e1 e2 => by
    rcases (ht t' b b4 e2).1 with h3 | h3
    · have := (h.dis i t k t' b (by omega) b2 b3 (Nat.le_refl _) hk b4 e1 h3).1
      omega
    · have := (h.mlt b (h.mm i t b (by omega) b2 b3 e1)).2
      omega
  refine ⟨⟨fun i a b => ?_, fun i t b a1 a2 a3 e => ?_, fun b e => ?_, fun i t i' t' b a1 a2 a3 a4 a5 a6 e e' => ?_⟩, ⟨⟨hc.os, hc.tape, hc.output, hc.size, fun b hb hn => hc.block b hb fun e => hn ?_⟩, fun i hi => upd_ne (by omega), upd_B hB, hMM, hM3, fun b ⟨i, t, a1, a2, a3, e⟩ => ?_⟩⟩
  · rw [ptr_eq (upd_B hB)]
    by_cases ei : i = k
    · subst ei; rw [upd_at]; exact hl
    · rw [upd_ne ei, (he i (by omega)).1, (he i (by omega)).2]
      refine (h.lk i a b).keep hc (fun t b' t4 e hs => ?_) hSM hM3
      obtain ⟨t', a', e'⟩ := hS b' hs
      exact ei (h.dis i t k t' b' a b t4 (Nat.le_refl _) hk a' e e').1
  · by_cases ei : i = k
    · subst ei; rw [upd_at] at e; exact (ht t b a3 e).2
    · rw [upd_ne ei] at e; exact hMM b (h.mm i t b a1 a2 a3 e)
  · have := hc.size
    rcases hM2 b e with h3 | h3
    · have := h.mlt b h3; omega
    · omega
  · by_cases ei : i = k <;> by_cases ei' : i' = k
    · subst ei; subst ei'
      rw [upd_at] at e e'
      exact ⟨rfl, hd t t' b a3 a6 e e'⟩
    · subst ei
      rw [upd_at] at e
      rw [upd_ne ei'] at e'
      exact (hx i' t' t b (by omega) a5 a6 a3 e' e).elim
    · subst ei'
      rw [upd_at] at e'
      rw [upd_ne ei] at e
      exact (hx i t t' b (by omega) a2 a3 a6 e e').elim
    · rw [upd_ne ei] at e
      rw [upd_ne ei'] at e'
      exact h.dis i t i' t' b a1 a2 a3 a4 a5 a6 e e'
  · obtain ⟨t, a, e⟩ := hS b e
    exact ⟨k, t, Nat.le_refl _, hk, a, e⟩
  · by_cases ei : i = k
    · subst ei
      rw [upd_at] at e
      rcases (ht t b a3 e).1 with h3 | h3
      · exact .inl ⟨i, t, a1, a2, a3, h3⟩
      · exact .inr h3
    · rw [upd_ne ei] at e
      exact .inl ⟨i, t, a1, a2, a3, e⟩
/-- A mover is stored. -/
theorem Ck.store (h : Ck w base N k M c L) (hk : k < N) (hy : y < N) (hd : Rd w M d q) (hq : q ≠ []) :
    Ck (w.setCell ⟨(L k).mb, y, none⟩ (sval d)) base N k M (c.set k y q) (Proofs.Ytooafmifbplbhaa.upd L k { L k with en := (L k).en.set y d }) ∧ Gw w (w.setCell ⟨(L k).mb, y, none⟩ (sval d)) N k L (Proofs.Ytooafmifbplbhaa.upd L k { L k with en := (L k).en.set y d }) M M := by
  have hl := h.lk k (Nat.le_refl _) hk
  obtain ⟨hown, hgr⟩ := hl.mown.stored y (sval d)
  have hc : Chg w (w.setCell ⟨(L k).mb, y, none⟩ (sval d)) (fun b => b = (L k).mb) := .of_grown hgr (by intro b e; injection e with e; exact e.symm)
  have hSM : ∀ b, b = (L k).mb → M b := fun b e => h.mm k 3 b (Nat.le_refl _) hk (by decide) (by rw [e]; rfl)
  have hne : ∀ t b, t < 3 → mu (L k) t = some b → ¬ b = (L k).mb := fun t b ht e e2 => by
    have := (h.dis k t k 3 b (Nat.le_refl _) hk (by omega) (Nat.le_refl _) hk (by decide) e (by rw [e2]; rfl)).2
    omega
  refine h.upd hk hc (fun b e => ⟨3, by decide, by rw [e]; rfl⟩) (fun b e => .inl e) (fun b e => e) ?_ rfl (fun t b ht e => ⟨.inl (by rcases t with _ | _ | _ | t <;> exact e), h.mm k t b (Nat.le_refl _) hk ht (by rcases t with _ | _ | _ | t <;> exact e)⟩)
    (fun t t' b a1 a2 e e' => (h.dis k t k t' b (Nat.le_refl _) hk a1 (Nat.le_refl _) hk a2 (by rcases t with _ | _ | _ | t <;> exact e) (by rcases t' with _ | _ | _ | t' <;> exact e')).2) (fun i hi => ⟨funext fun z => set_ne (.inl (by omega)), rfl⟩)
  refine ⟨hl.blk.chg hc (hne 0 _ (by decide) rfl), hl.hB, ownsRow_chg hl.gown hc fun b e => hne 1 b (by decide) e, hl.glen, fun z hz => (hl.gent z hz).keep hc hSM fun _ e => .inl e, hl.oown.chgS hc fun b e => hne 2 b (by decide) e, ?_, ?_, fun z hz => ?_⟩
  · rw [List.map_set]; exact hown
  · rw [List.length_set]; exact hl.mlen
  · show ((c.set k y q).rep k z = [] → ((L k).en.set y d).getD z sd0 = sd0) ∧ ((c.set k y q).rep k z ≠ [] → Rd _ M (((L k).en.set y d).getD z sd0) ((c.set k y q).rep k z))
    by_cases e : z = y
    · subst e
      rw [set_at, getD_set_eq (by rw [hl.mlen]; exact hz)]
      exact ⟨fun e => absurd e hq, fun _ => hd.keep hc hSM fun _ e => .inl e⟩
    · rw [set_ne (.inr e), getD_set_ne (fun e2 => e e2.symm)]
      exact ⟨(hl.ment z hz).1, fun e => ((hl.ment z hz).2 e).keep hc hSM fun _ e => .inl e⟩
/-- A point is appended to the orbit; the slice is stored. -/
theorem Ck.orbit (h : Ck w base N k M c L) (hk : k < N) (bA : Below w.heap.size w w1) {w2 : World} {A : Option Addr} {n cc : Nat} (hg : w1.grownBy w2 (sval (L k).o).ownBlock) (hown : Slc w2 base A n cc (ofP (L k).orb ++ [(y : Int)]))
    (hat : (Value.slice A n cc).ownBlock = (sval (L k).o).ownBlock ∨ (Value.slice A n cc).ownBlock = some w1.heap.size) :
    ∃ M', Ck (w2.setCell ⟨(L k).B, 2, none⟩ (.slice A n cc)) base N k M' c (Proofs.Ytooafmifbplbhaa.upd L k { L k with o := (A, n, cc), orb := (L k).orb ++ [y] }) ∧ Gw w (w2.setCell ⟨(L k).B, 2, none⟩ (.slice A n cc)) N k L (Proofs.Ytooafmifbplbhaa.upd L k { L k with o := (A, n, cc), orb := (L k).orb ++ [y] }) M M' := by
  have hl := h.lk k (Nat.le_refl _) hk
  have hz1 := bA.size
  have hz2 := hg.size
  have hBlt := hl.blk.lt
  have c1 : Chg w w2 (fun b => (sval (L k).o).ownBlock = some b) := (Chg.of_below (M := fun b => (sval (L k).o).ownBlock = some b) bA).trans (.of_grown (M := fun b => (sval (L k).o).ownBlock = some b) hg fun b e => e) fun b e => .inl e
  have hoB : ∀ b, (Value.slice A n cc).ownBlock = some b → b ≠ (L k).B := fun b e e2 => by
    rcases hat with ha | ha
    · rw [ha] at e
      have := (h.dis k 2 k 0 b (Nat.le_refl _) hk (by decide) (Nat.le_refl _) hk (by decide) e (by rw [e2]; rfl)).2
      omega
    · rw [ha] at e; injection e with e; omega
  have c2 : Chg w2 (w2.setCell ⟨(L k).B, 2, none⟩ (.slice A n cc)) (fun b => b = (L k).B) := ⟨rfl, rfl, rfl, by simp, fun b hb hn => heap_setCell_other w2 ⟨(L k).B, 2, none⟩ _ _ fun e => hn e⟩
  have hc : Chg w (w2.setCell ⟨(L k).B, 2, none⟩ (.slice A n cc)) (fun b => (sval (L k).o).ownBlock = some b ∨ b = (L k).B) :=
    (⟨c1.os, c1.tape, c1.output, c1.size, fun b hb hn => c1.block b hb fun e => hn (.inl e)⟩ : Chg w w2 (fun b => (sval (L k).o).ownBlock = some b ∨ b = (L k).B)).trans c2 fun b e => .inl (.inr e)
  have hSM : ∀ b, ((sval (L k).o).ownBlock = some b ∨ b = (L k).B) → M b := fun b e => by
    rcases e with e | e
    · exact h.mm k 2 b (Nat.le_refl _) hk (by decide) e
    · exact h.mm k 0 b (Nat.le_refl _) hk (by decide) (by rw [e]; rfl)
  have hnS : ∀ t b, t = 1 ∨ t = 3 → mu (L k) t = some b → ¬ ((sval (L k).o).ownBlock = some b ∨ b = (L k).B) := fun t b ht e hs => by
    rcases hs with hs | hs
    · have := (h.dis k t k 2 b (Nat.le_refl _) hk (by omega) (Nat.le_refl _) hk (by decide) e hs).2
      omega
    · have := (h.dis k t k 0 b (Nat.le_refl _) hk (by omega) (Nat.le_refl _) hk (by decide) e (by rw [hs]; rfl)).2
      omega
  have hw2 : w2.heap.size = (w2.setCell ⟨(L k).B, 2, none⟩ (.slice A n cc)).heap.size := by simp
  have hM' : ∀ b, (M b ∨ (Value.slice A n cc).ownBlock = some b) → M b ∨ (w.heap.size ≤ b ∧ b < (w2.setCell ⟨(L k).B, 2, none⟩ (.slice A n cc)).heap.size) := fun b e => by
    rcases e with e | e
    · exact .inl e
    · rcases hat with ha | ha
      · rw [ha] at e; exact .inl (h.mm k 2 b (Nat.le_refl _) hk (by decide) e)
      · have hlt := (hown.lt_ b e).2
        rw [ha] at e; injection e with e
        exact .inr ⟨by omega, by rw [← hw2]; exact hlt⟩
  have hM3 : ∀ b, (M b ∨ (Value.slice A n cc).ownBlock = some b) → M b ∨ w.heap.size ≤ b := fun b e => by
    rcases hM' b e with h | h
    · exact .inl h
    · exact .inr h.1
  refine ⟨fun b => M b ∨ (Value.slice A n cc).ownBlock = some b, h.upd hk hc (fun b e => ?_) hM' (fun b e => .inl e) ?_ rfl (fun t b ht e => ?_) (fun t t' b a1 a2 e e' => ?_) (fun i _ => ⟨rfl, rfl⟩)⟩
  · rcases e with e | e
    · exact ⟨2, by decide, e⟩
    · exact ⟨0, by decide, by rw [e]; rfl⟩
  · refine ⟨?_, hl.hB, ownsRow_chg hl.gown hc fun b e => hnS 1 b (.inl rfl) e, hl.glen, fun z hz => (hl.gent z hz).keep hc hSM hM3, ?_, ownsRow_chg hl.mown hc fun b e => hnS 3 b (.inr rfl) e, hl.mlen, fun z hz => ⟨(hl.ment z hz).1, fun e => ((hl.ment z hz).2 e).keep hc hSM hM3⟩⟩
    · have b2 : Blk w2 (L k).B 58 #[.int .i64 (k : Nat), sval (L k).g, sval (L k).o, .slice (some ⟨(L k).mb, 0, none⟩) N N, ptr N L (k + 1)] := hl.blk.chg c1 fun e => by
        have := (h.dis k 2 k 0 _ (Nat.le_refl _) hk (by decide) (Nat.le_refl _) hk (by decide) e rfl).2
        omega
      have := b2.set_ 2 (.slice A n cc)
      simpa [sval] using this
    · have e1 : ofP ((L k).orb ++ [y]) = ofP (L k).orb ++ [(y : Int)] := ofP_snoc _ _
      show Slc _ base A n cc (ofP ((L k).orb ++ [y]))
      rw [e1]
      exact hown.chgS c2 hoB
  · have hold : t ≠ 2 → mu (L k) t = some b := fun ne => by
      rcases t with _ | _ | _ | t
      · exact e
      · exact e
      · exact absurd rfl ne
      · exact e
    by_cases e2 : t = 2
    · subst e2
      have e : (Value.slice A n cc).ownBlock = some b := e
      refine ⟨?_, .inr e⟩
      rcases hat with ha | ha
      · rw [ha] at e; exact .inl e
      · rw [ha] at e; injection e with e; exact .inr (by omega)
    · exact ⟨.inl (hold e2), .inl (h.mm k t b (Nat.le_refl _) hk ht (hold e2))⟩
  · have hold : ∀ t, t < 4 → mu { L k with o := (A, n, cc), orb := (L k).orb ++ [y] } t = some b → mu (L k) t = some b ∨ (t = 2 ∧ w.heap.size ≤ b) := fun t ht e => by
      rcases t with _ | _ | _ | t
      · exact .inl e
      · exact .inl e
      · have e : (Value.slice A n cc).ownBlock = some b := e
        rcases hat with ha | ha
        · rw [ha] at e; exact .inl e
        · rw [ha] at e; injection e with e; exact .inr ⟨rfl, by omega⟩
      · exact .inl e
    have hmx : ∀ t, t < 4 → mu (L k) t = some b → b < w.heap.size := fun t ht e => (h.mlt b (h.mm k t b (Nat.le_refl _) hk ht e)).2
    rcases hold t a1 e with h1 | ⟨h1, h2⟩ <;> rcases hold t' a2 e' with h3 | ⟨h3, h4⟩
    · exact (h.dis k t k t' b (Nat.le_refl _) hk a1 (Nat.le_refl _) hk a2 h1 h3).2
    · have := hmx t a1 h1; omega
    · have := hmx t' a2 h3; omega
    · omega
/-- A generator is appended; the slice is stored. -/
theorem Ck.pushg (h : Ck w base N k M c L) (hk : k < N) (bA : Below w.heap.size w w1) {w2 : World} {A : Option Addr} {n cc : Nat} (hg : w1.grownBy w2 (sval (L k).g).ownBlock) (hown : w2.ownsRow base 53 1 (.slice A n cc) ((c.gen k).length + 1) ((L k).ge.map sval ++ [sval d]))
    (hat : (Value.slice A n cc).ownBlock = (sval (L k).g).ownBlock ∨ (Value.slice A n cc).ownBlock = some w1.heap.size) (hd : Rd w M d q) :
    ∃ M', Ck (w2.setCell ⟨(L k).B, 1, none⟩ (.slice A n cc)) base N k M' (c.push k q) (Proofs.Ytooafmifbplbhaa.upd L k { L k with g := (A, n, cc), ge := (L k).ge ++ [d] }) ∧ Gw w (w2.setCell ⟨(L k).B, 1, none⟩ (.slice A n cc)) N k L (Proofs.Ytooafmifbplbhaa.upd L k { L k with g := (A, n, cc), ge := (L k).ge ++ [d] }) M M' := by
  have hl := h.lk k (Nat.le_refl _) hk
  have hz1 := bA.size
  have hz2 := hg.size
  have hBlt := hl.blk.lt
  have c1 : Chg w w2 (fun b => (sval (L k).g).ownBlock = some b) := (Chg.of_below (M := fun b => (sval (L k).g).ownBlock = some b) bA).trans (.of_grown (M := fun b => (sval (L k).g).ownBlock = some b) hg fun b e => e) fun b e => .inl e
  have hoB : ∀ b, (Value.slice A n cc).ownBlock = some b → b ≠ (L k).B := fun b e e2 => by
    rcases hat with ha | ha
    · rw [ha] at e
      have := (h.dis k 1 k 0 b (Nat.le_refl _) hk (by decide) (Nat.le_refl _) hk (by decide) e (by rw [e2]; rfl)).2
      omega
    · rw [ha] at e; injection e with e; omega
  have c2 : Chg w2 (w2.setCell ⟨(L k).B, 1, none⟩ (.slice A n cc)) (fun b => b = (L k).B) := ⟨rfl, rfl, rfl, by simp, fun b hb hn => heap_setCell_other w2 ⟨(L k).B, 1, none⟩ _ _ fun e => hn e⟩
  have hc : Chg w (w2.setCell ⟨(L k).B, 1, none⟩ (.slice A n cc)) (fun b => (sval (L k).g).ownBlock = some b ∨ b = (L k).B) :=
    (⟨c1.os, c1.tape, c1.output, c1.size, fun b hb hn => c1.block b hb fun e => hn (.inl e)⟩ : Chg w w2 (fun b => (sval (L k).g).ownBlock = some b ∨ b = (L k).B)).trans c2 fun b e => .inl (.inr e)
  have hSM : ∀ b, ((sval (L k).g).ownBlock = some b ∨ b = (L k).B) → M b := fun b e => by
    rcases e with e | e
    · exact h.mm k 1 b (Nat.le_refl _) hk (by decide) e
    · exact h.mm k 0 b (Nat.le_refl _) hk (by decide) (by rw [e]; rfl)
  have hnS : ∀ t b, t = 2 ∨ t = 3 → mu (L k) t = some b → ¬ ((sval (L k).g).ownBlock = some b ∨ b = (L k).B) := fun t b ht e hs => by
    rcases hs with hs | hs
    · have := (h.dis k t k 1 b (Nat.le_refl _) hk (by omega) (Nat.le_refl _) hk (by decide) e hs).2
      omega
    · have := (h.dis k t k 0 b (Nat.le_refl _) hk (by omega) (Nat.le_refl _) hk (by decide) e (by rw [hs]; rfl)).2
      omega
  have hw2 : w2.heap.size = (w2.setCell ⟨(L k).B, 1, none⟩ (.slice A n cc)).heap.size := by simp
  have hM' : ∀ b, (M b ∨ (Value.slice A n cc).ownBlock = some b) → M b ∨ (w.heap.size ≤ b ∧ b < (w2.setCell ⟨(L k).B, 1, none⟩ (.slice A n cc)).heap.size) := fun b e => by
    rcases e with e | e
    · exact .inl e
    · rcases hat with ha | ha
      · rw [ha] at e; exact .inl (h.mm k 1 b (Nat.le_refl _) hk (by decide) e)
      · have hlt := (World.ownsRow.lt hown b e).2
        rw [ha] at e; injection e with e
        exact .inr ⟨by omega, by rw [← hw2]; exact hlt⟩
  have hM3 : ∀ b, (M b ∨ (Value.slice A n cc).ownBlock = some b) → M b ∨ w.heap.size ≤ b := fun b e => by
    rcases hM' b e with h | h
    · exact .inl h
    · exact .inr h.1
  refine ⟨fun b => M b ∨ (Value.slice A n cc).ownBlock = some b, h.upd hk hc (fun b e => ?_) hM' (fun b e => .inl e) ?_ rfl (fun t b ht e => ?_) (fun t t' b a1 a2 e e' => ?_) (fun i hi => ⟨rfl, push_ne (by omega)⟩)⟩
  · rcases e with e | e
    · exact ⟨1, by decide, e⟩
    · exact ⟨0, by decide, by rw [e]; rfl⟩
  · rw [push_at]
    refine ⟨?_, hl.hB, ?_, by simp [hl.glen], fun z hz => ?_, hl.oown.chgS hc fun b e => hnS 2 b (.inl rfl) e, ownsRow_chg hl.mown hc fun b e => hnS 3 b (.inr rfl) e, hl.mlen, fun z hz => ⟨(hl.ment z hz).1, fun e => ((hl.ment z hz).2 e).keep hc hSM hM3⟩⟩
    · have b2 : Blk w2 (L k).B 58 #[.int .i64 (k : Nat), sval (L k).g, sval (L k).o, .slice (some ⟨(L k).mb, 0, none⟩) N N, ptr N L (k + 1)] := hl.blk.chg c1 fun e => by
        have := (h.dis k 1 k 0 _ (Nat.le_refl _) hk (by decide) (Nat.le_refl _) hk (by decide) e rfl).2
        omega
      have := b2.set_ 1 (.slice A n cc)
      simpa [sval] using this
    · rw [List.length_append, List.map_append]
      exact ownsRow_chg hown c2 hoB
    · show Rd _ _ (((L k).ge ++ [d]).getD z sd0) ((c.gen k ++ [q]).getD z [])
      have hz : z < (c.gen k).length + 1 := by simpa using hz
      by_cases ez : z < (c.gen k).length
      · rw [getD_app _ _ _ z (by rw [hl.glen]; exact ez), getD_app _ _ _ z ez]
        exact (hl.gent z ez).keep hc hSM hM3
      · have ez2 : z = (c.gen k).length := by omega
        rw [getD_snoc _ _ _ z (by rw [hl.glen]; exact ez2), getD_snoc _ _ _ z ez2]
        exact hd.keep hc hSM hM3
  · have hold : t ≠ 1 → mu (L k) t = some b := fun ne => by
      rcases t with _ | _ | _ | t
      · exact e
      · exact absurd rfl ne
      · exact e
      · exact e
    by_cases e2 : t = 1
    · subst e2
      have e : (Value.slice A n cc).ownBlock = some b := e
      refine ⟨?_, .inr e⟩
      rcases hat with ha | ha
      · rw [ha] at e; exact .inl e
      · rw [ha] at e; injection e with e; exact .inr (by omega)
    · exact ⟨.inl (hold e2), .inl (h.mm k t b (Nat.le_refl _) hk ht (hold e2))⟩
  · have hold : ∀ t, t < 4 → mu { L k with g := (A, n, cc), ge := (L k).ge ++ [d] } t = some b → mu (L k) t = some b ∨ (t = 1 ∧ w.heap.size ≤ b) := fun t ht e => by
      rcases t with _ | _ | _ | t
      · exact .inl e
      · have e : (Value.slice A n cc).ownBlock = some b := e
        rcases hat with ha | ha
        · rw [ha] at e; exact .inl e
        · rw [ha] at e; injection e with e; exact .inr ⟨rfl, by omega⟩
      · exact .inl e
      · exact .inl e
    have hmx : ∀ t, t < 4 → mu (L k) t = some b → b < w.heap.size := fun t ht e => (h.mlt b (h.mm k t b (Nat.le_refl _) hk ht e)).2
    rcases hold t a1 e with h1 | ⟨h1, h2⟩ <;> rcases hold t' a2 e' with h3 | ⟨h3, h4⟩
    · exact (h.dis k t k t' b (Nat.le_refl _) hk a1 (Nat.le_refl _) hk a2 h1 h3).2
    · have := hmx t a1 h1; omega
    · have := hmx t' a2 h3; omega
    · omega
/-! ### reading a link -/
theorem Ck.cB (h : Ck w base N k M c L) (hi : k ≤ i) (hN : i < N) : w.cell? ⟨(L i).B, 0, none⟩ = some (.int .i64 (i : Nat)) ∧ w.cell? ⟨(L i).B, 1, none⟩ = some (sval (L i).g) ∧ w.cell? ⟨(L i).B, 2, none⟩ = some (sval (L i).o) ∧ w.cell? ⟨(L i).B, 3, none⟩ = some (.slice (some ⟨(L i).mb, 0, none⟩) N N) ∧ w.cell? ⟨(L i).B, 4, none⟩ = some (ptr N L (i + 1)) :=
  have b := (h.lk i hi hN).blk
  ⟨b.cell 0, b.cell 1, b.cell 2, b.cell 3, b.cell 4⟩
theorem Ck.cM (h : Ck w base N k M c L) (hi : k ≤ i) (hN : i < N) (hy : y < N) : w.cell? ⟨(L i).mb, y, none⟩ = some (sval ((L i).en.getD y sd0)) := by
  have hl := h.lk i hi hN
  rw [hl.mown.cellAt y (by omega), ents_at (by rw [hl.mlen]; exact hy)]
theorem Ck.eM (h : Ck w base N k M c L) (hi : k ≤ i) (hN : i < N) (hy : y < N) : (c.rep i y = [] → (L i).en.getD y sd0 = sd0) ∧ (c.rep i y ≠ [] → Rd w M ((L i).en.getD y sd0) (c.rep i y)) := (h.lk i hi hN).ment y hy
theorem Ck.olen (h : Ck w base N k M c L) (hi : k ≤ i) (hN : i < N) : (L i).o.2.1 = (L i).orb.length := by
  rw [← (h.lk i hi hN).oown.1, ofP_len]
theorem ofP_at {xs : List Nat} {j : Nat} (hj : j < xs.length) : (ofP xs).getD j 0 = ((xs.getD j 0 : Nat) : Int) := by
  rw [List.getD_eq_getElem?_getD, List.getD_eq_getElem?_getD, ofP, List.getElem?_map, List.getElem?_eq_getElem hj]; rfl
/-- The j-th point of an orbit. -/
theorem Ck.cO (h : Ck w base N k M c L) (hi : k ≤ i) (hN : i < N) {j : Nat} (hj : j < (L i).orb.length) : ∃ ob oc, (L i).o = (some ⟨ob, 0, none⟩, (L i).orb.length, oc) ∧ w.cell? ⟨ob, j, none⟩ = some (.int .i64 (((L i).orb.getD j 0 : Nat) : Int)) := by
  have ho := (h.lk i hi hN).oown
  rcases he : (L i).o with ⟨A, n, cc⟩
  rw [he] at ho
  have e1 : n = (L i).orb.length := by have h3 := ho.1; rw [ofP_len] at h3; exact h3.symm
  subst e1
  rcases ho.at_ with ⟨_, e, _⟩ | ⟨g, e, _, _⟩
  · have := ofP_len (L i).orb; rw [e] at this; simp at this; omega
  · have e : A = some ⟨g, 0, none⟩ := e
    subst e
    refine ⟨g, cc, rfl, ?_⟩
    obtain ⟨b, off, e2, _, hc⟩ := ho.ri_ (by rw [ofP_len]; omega)
    injection e2 with e2
    injection e2 with e3 e4
    subst e3; subst e4
    have := hc j (by rw [ofP_len]; exact hj)
    rw [ofP_at hj, Nat.zero_add] at this
    exact this
/-- The j-th generator of a link. -/
theorem Ck.cG (h : Ck w base N k M c L) (hi : k ≤ i) (hN : i < N) {j : Nat} (hj : j < (c.gen i).length) : ∃ q cq, (L i).g = (some ⟨q, 0, none⟩, (c.gen i).length, cq) ∧ (c.gen i).length ≤ cq ∧ w.cell? ⟨q, j, none⟩ = some (sval ((L i).ge.getD j sd0)) ∧ Rd w M ((L i).ge.getD j sd0) ((c.gen i).getD j []) := by
  have hl := h.lk i hi hN
  have ho := hl.gown
  rcases he : (L i).g with ⟨a, b, d⟩
  rw [he] at ho
  rcases ho.2 with ⟨e, h0⟩ | ⟨g', cap, cur, e, _, _, hcap, _⟩
  · omega
  · unfold sval at e; injection e with e1 e2 e3
    subst e1 e2 e3
    refine ⟨g', _, rfl, hcap, ?_, hl.gent j hj⟩
    have ho : w.ownsRow base 53 1 (.slice (some ⟨g', 0, none⟩) (c.gen i).length d) (c.gen i).length ((L i).ge.map sval) := ho
    rw [ho.cellAt j (by omega), ents_at (by rw [hl.glen]; exact hj)]
theorem rd_not0 (h : Rd w M d p) (hp : p ≠ []) : ∃ b off, d.1 = some ⟨b, off, none⟩ := by
  obtain ⟨b, off, e, _⟩ := h.at_ (by
    rcases p with _ | ⟨x, t⟩
    · exact absurd rfl hp
    · simp)
  exact ⟨b, off, e⟩
end
end Go.Proofs.Ytooafmifbplbhaa
