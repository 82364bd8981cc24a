/- The model's emptyChain and buildChain. Conditions: at most 20 points, 8 generators. -/
import Derived.Test.YtooafmifbplbhaaChG
import Derived.Test.YtooafmifbplbhaaIdent
import Derived.Test.YtooafmifbplbhaaSSo
namespace Go.Proofs.Ytooafmifbplbhaa
open Go.RowKit

theorem infoSS : (Try.prog.info? 24).map (fun i => (i.zero, i.size, i.bytes)) = some (some (.slice none 0 0), 1, 24) := by kernel_rfl
theorem wpList_appW {w : World} {ops : Array Oper} {rest : List Oper} {o : Oper} {a : Act} {Q : Exit → Act → World → Prop} (hgd : o.guard = none) (s x : Operand)
    (ho : o.op = .call { callee := .builtin .append, args := #[s, x], argTypes := #[85, 85] })
    (base : Nat) (v : Value) (n : Nat) (xs : List Value) (hs : a.eval s = v) (hown : w.ownsRow base 24 1 v n xs) (g : Nat) (d : SV) (hx : a.eval x = .slice (some ⟨g, 0, none⟩) 1 1)
    (hcell : w.cell? ⟨g, 0, none⟩ = some (sval d)) (hn : n ≤ 1000000000) (hbase : base ≤ w.heap.size)
    (h : ∀ A' c' w', w'.ownsRow base 24 1 (.slice A' (n + 1) c') (n + 1) (xs ++ [sval d]) → w.grownBy w' v.ownBlock → ((Value.slice A' (n + 1) c').ownBlock = v.ownBlock ∨ (Value.slice A' (n + 1) c').ownBlock = some w.heap.size) → wpList Try.prog ops Q rest (a.put o.dst (.slice A' (n + 1) c')) w') : wpList Try.prog ops Q (o :: rest) a w := by
  obtain ⟨i0, hi, hz0, hz1, hz2⟩ := info_parts infoSS
  refine wpList_append_own_at w hgd s x 85 ho base 24 i0 (.slice none 0 0) 1 24 Try.underlying85 hi hz0 hz1 hz2 rfl (by decide) v n xs hs hown ⟨g, 0, none⟩ 1 1 [sval d] hx rfl ?_ ?_ ?_ (by omega) hbase ?_
  · intro j u hj
    match j, hj with
    | 0, hj => simp at hj; subst hj; simpa [Addr.add] using hcell
    | j + 1, hj => simp at hj
  · intro u hu; simp at hu; subst hu; rfl
  · unfold maxLen; omega
  · intro v' w' hown' hg _ hat
    have hform : ∃ A' c', v' = .slice A' (n + 1) c' := by
      rcases hown'.2 with ⟨rfl, h0⟩ | ⟨g', cap, cur, rfl, _⟩
      · omega
      · exact ⟨_, _, rfl⟩
    obtain ⟨A', c', rfl⟩ := hform
    exact h A' c' w' hown' hg hat

theorem ownsRow_dn {w : World} {base base' n size : Nat} {e : TypeId} {v : Value} {xs : List Value} (h : w.ownsRow base e size v n xs) (hb : base' ≤ base) : w.ownsRow base' e size v n xs := by
  refine ⟨h.1, ?_⟩
  rcases h.2 with e | ⟨g', cap, cur, e, a1, rest⟩
  · exact .inl e
  · exact .inr ⟨g', cap, cur, e, Nat.le_trans hb a1, rest⟩
theorem ownsRow_sl {w : World} {base n size : Nat} {e : TypeId} {v : Value} {xs : List Value} (h : w.ownsRow base e size v n xs) : ∃ a c, v = .slice a n c := by
  rcases h.2 with ⟨e, h0⟩ | ⟨g', cap, cur, e, _⟩
  · subst h0; exact ⟨_, _, e⟩
  · exact ⟨_, _, e⟩
/-- The chain with nothing in it. -/
def ch0 (N : Nat) : Ch := ⟨fun i y => if y = i then idL N else [], fun _ => []⟩
/-- The chain while its tables are being built: m levels of representatives and n levels of generators are there. -/
structure Pc (w : World) (base g N m n : Nat) (v1 v2 : Value) (ro gv : Nat → Nat) (en : Nat → List SV) : Prop where
  blk : Blk w g 87 #[.int .i64 (N : Nat), v1, v2]
  hg : base ≤ g
  own1 : w.ownsRow base 24 1 v1 m ((List.range m).map fun i => Value.slice (some ⟨ro i, 0, none⟩) N N)
  row1 : ∀ i, i < m → w.ownsRow base 25 1 (.slice (some ⟨ro i, 0, none⟩) N N) N ((en i).map sval)
  len1 : ∀ i, i < m → (en i).length = N
  ent1 : ∀ i, i < m → ∀ y, y < N → Slc w base ((en i).getD y sd0).1 ((en i).getD y sd0).2.1 ((en i).getD y sd0).2.2 ((ch0 N).rep i y)
  own2 : w.ownsRow base 24 1 v2 n ((List.range n).map fun i => Value.slice (some ⟨gv i, 0, none⟩) 0 0)
  row2 : ∀ i, i < n → w.ownsRow base 25 1 (.slice (some ⟨gv i, 0, none⟩) 0 0) 0 []
  dv : ∀ b, v1.ownBlock = some b → v2.ownBlock ≠ some b
  dro : ∀ i j, i < m → j < m → i ≠ j → ro i ≠ ro j
  drg : ∀ i j, i < m → j < n → gv j ≠ ro i
  dgv : ∀ i j, i < n → j < n → i ≠ j → gv i ≠ gv j
theorem Pc.cn {w : World} {base g N : Nat} {v1 v2 : Value} {ro gv : Nat → Nat} {en : Nat → List SV} (h : Pc w base g N N N v1 v2 ro gv en) (hN : 1 ≤ N) : ∃ L, Cn w base g N (ch0 N) L := by
  obtain ⟨R, cR, rfl⟩ : ∃ R cR, v1 = .slice (some ⟨R, 0, none⟩) N cR := by
    rcases h.own1.2 with ⟨_, h0⟩ | ⟨g', cap, cur, e, _⟩
    · omega
    · exact ⟨g', cap, e⟩
  obtain ⟨G, cG, rfl⟩ : ∃ G cG, v2 = .slice (some ⟨G, 0, none⟩) N cG := by
    rcases h.own2.2 with ⟨_, h0⟩ | ⟨g', cap, cur, e, _⟩
    · omega
    · exact ⟨g', cap, e⟩
  refine ⟨⟨R, cR, G, cG, ro, en, fun i => (some ⟨gv i, 0, none⟩, 0, 0), fun _ => []⟩, h.blk, h.hg, h.own1, h.row1, h.len1, h.ent1, h.own2, h.row2, fun _ _ => rfl, fun i _ y hy => absurd hy (Nat.not_lt_zero y), ?_, h.dro, ?_, ?_⟩
  · rintro (e : R = G)
    exact h.dv R rfl (by rw [e]; rfl)
  · intro i j hi hj e
    exact h.drg i j hi hj (Option.some.inj e)
  · intro i j hi hj hij b e1 e2
    exact h.dgv i j hi hj hij ((Option.some.inj e1).trans (Option.some.inj e2).symm)
section
variable {w w' w1 wA w4 : World} {o o1 : Obj} {base g N m n r c4 B : Nat} {v1 v2 : Value} {ro gv : Nat → Nat} {en : Nat → List SV} {enm : List SV} {A4 : Option Addr}
theorem Pc.up (h : Pc w base g N m n v1 v2 ro gv en) (hb : Below w.heap.size w w') : Pc w' base g N m n v1 v2 ro gv en := by
  have hc : Chg w w' (fun _ => False) := .of_below hb
  exact ⟨(hb.block g h.blk.lt).trans h.blk, h.hg, ownsRow_chg h.own1 hc fun _ _ e => e, fun i hi => ownsRow_chg (h.row1 i hi) hc fun _ _ e => e, h.len1, fun i hi y hy => (h.ent1 i hi y hy).up hb,
    ownsRow_chg h.own2 hc fun _ _ e => e, fun i hi => ownsRow_chg (h.row2 i hi) hc fun _ _ e => e, h.dv, h.dro, h.drg, h.dgv⟩
/-- Blocks of M hold neither numbers nor slices of numbers. -/
def NoS (w : World) (M : Nat → Prop) : Prop := ∀ k, M k → ∃ cs t, w.heap[k]? = some (.cells cs t (0, 0)) ∧ t ≠ 2 ∧ t ≠ 25
theorem NoS.int {M : Nat → Prop} (h : NoS w M) : NoInt w M := fun k hk => by
  obtain ⟨cs, t, e, h1, _⟩ := h k hk
  exact ⟨cs, t, _, e, h1⟩
theorem NoS.row {M : Nat → Prop} {n : Nat} {v : Value} {xs : List Value} (h : NoS w M) (hc : Chg w w' M) (hr : w.ownsRow base 25 1 v n xs) : w'.ownsRow base 25 1 v n xs :=
  ownsRow_chg hr hc fun k hk hm => by
    obtain ⟨cs, t, e, _, h2⟩ := h k hm
    obtain ⟨cur, e2⟩ := ownsRow_typ hr hk
    rw [e] at e2
    injection e2 with e2
    injection e2 with _ e3
    exact h2 e3
theorem rng_snoc (f f' : Nat → Value) (m : Nat) (h : ∀ i, i < m → f' i = f i) : (List.range (m + 1)).map f' = (List.range m).map f ++ [f' m] := by
  rw [List.range_succ, List.map_append]
  congr 1
  exact List.map_congr_left fun i hi => h i (List.mem_range.1 hi)
theorem Pc.not_g (h : Pc w base g N m n v1 v2 ro gv en) {v : Value} {k : Nat} {xs : List Value} (hv : w.ownsRow base 24 1 v k xs) : v.ownBlock ≠ some g := fun e => by
  obtain ⟨cur, e2⟩ := ownsRow_typ hv e
  have := h.blk
  unfold Blk at this
  rw [this] at e2
  injection e2 with e2
  injection e2 with _ e3
  exact absurd e3 (by decide)
/-- What an append onto one of the tables and the store into the chain turn. -/
theorem Pc.chg (h : Pc w base g N m n v1 v2 ro gv en) {v : Value} {k : Nat} {xs : List Value} (hv : w.ownsRow base 24 1 v k xs) (b1 : Below w.heap.size w w1) (hg4 : w1.grownBy w4 v.ownBlock) (i : Nat) (u : Value) :
    Blk w4 g 87 #[.int .i64 (N : Nat), v1, v2] ∧ Chg w (w4.setCell ⟨g, i, none⟩ u) (fun b => v.ownBlock = some b ∨ b = g) ∧ NoS w (fun b => v.ownBlock = some b ∨ b = g) ∧ Chg w4 (w4.setCell ⟨g, i, none⟩ u) (fun b => b = g) := by
  have hgl := h.blk.lt
  have hng := h.not_g hv
  have hB : Blk w4 g 87 #[.int .i64 (N : Nat), v1, v2] := (hg4.block g (Nat.lt_of_lt_of_le hgl b1.size) (fun e => hng e.symm)).trans ((b1.block g hgl).trans h.blk)
  have c3 : Chg w4 (w4.setCell ⟨g, i, none⟩ u) (fun b => b = g) := ⟨rfl, rfl, rfl, by simp, fun k _ hk => heap_setCell_other w4 ⟨g, i, none⟩ k u (fun e => hk e)⟩
  refine ⟨hB, ⟨c3.os.trans (hg4.os.trans b1.os), c3.tape.trans (hg4.tape.trans b1.tape), c3.output.trans (hg4.output.trans b1.output), Nat.le_trans b1.size (Nat.le_trans hg4.size c3.size), fun k hk hn => ?_⟩, fun k hk => ?_, c3⟩
  · have h1 := Nat.lt_of_lt_of_le hk b1.size
    exact (c3.block k (Nat.lt_of_lt_of_le h1 hg4.size) (fun e => hn (.inr e))).trans ((hg4.block k h1 (fun e => hn (.inl e.symm))).trans (b1.block k hk))
  · rcases hk with e | rfl
    · obtain ⟨cur, e2⟩ := ownsRow_typ hv e
      exact ⟨cur, _, e2, by decide, by decide⟩
    · exact ⟨_, _, h.blk, by decide, by decide⟩
theorem Pc.step1 (h : Pc w base g N m n v1 v2 ro gv en) (hrow : w.ownsRow base 25 1 (.slice (some ⟨r, 0, none⟩) N N) N (enm.map sval)) (hr : B ≤ r) (hB : ∀ i, i < m → ro i < B) (hB2 : ∀ i, i < n → gv i < B) (hl : enm.length = N)
    (he : ∀ y, y < N → Slc w base (enm.getD y sd0).1 (enm.getD y sd0).2.1 (enm.getD y sd0).2.2 ((ch0 N).rep m y)) (b1 : Below w.heap.size w w1)
    (hg4 : w1.grownBy w4 v1.ownBlock) (ho4 : w4.ownsRow base 24 1 (.slice A4 (m + 1) c4) (m + 1) ((List.range m).map (fun i => Value.slice (some ⟨ro i, 0, none⟩) N N) ++ [.slice (some ⟨r, 0, none⟩) N N]))
    (hat4 : (Value.slice A4 (m + 1) c4).ownBlock = v1.ownBlock ∨ (Value.slice A4 (m + 1) c4).ownBlock = some w1.heap.size) :
    Pc (w4.setCell ⟨g, 1, none⟩ (.slice A4 (m + 1) c4)) base g N (m + 1) n (.slice A4 (m + 1) c4) v2 (fun i => if i = m then r else ro i) gv (fun i => if i = m then enm else en i) := by
  obtain ⟨hB4, hc, hs, hc4⟩ := h.chg h.own1 b1 hg4 1 (.slice A4 (m + 1) c4)
  have hn2 := h.not_g h.own2
  have hcase : ∀ i, i < m + 1 → i < m ∨ i = m := fun i hi => by omega
  refine ⟨?_, h.hg, ?_, fun i hi => ?_, fun i hi => ?_, fun i hi y hy => ?_, ?_, fun i hi => hs.row hc (h.row2 i hi), fun b e1 e2 => ?_, fun i j hi hj hij => ?_, fun i j hi hj => ?_, h.dgv⟩
  · have := hB4.set_ 1 (.slice A4 (m + 1) c4)
    simpa using this
  · rw [rng_snoc (fun i => Value.slice (some ⟨ro i, 0, none⟩) N N) _ m (fun i hi => by rw [if_neg (by omega)]), if_pos rfl]
    refine ownsRow_chg ho4 hc4 fun b e1 e2 => ?_
    subst e2
    obtain ⟨cur, e2⟩ := ownsRow_typ ho4 e1
    unfold Blk at hB4
    rw [hB4] at e2
    injection e2 with e2
    injection e2 with _ e3
    exact absurd e3 (by decide)
  · rcases hcase i hi with hl | rfl
    · simp only [if_neg (show ¬ i = m by omega)]; exact hs.row hc (h.row1 i hl)
    · simp only [if_true]; exact hs.row hc hrow
  · rcases hcase i hi with hl | rfl
    · simp only [if_neg (show ¬ i = m by omega)]; exact h.len1 i hl
    · simp only [if_true]; exact hl
  · rcases hcase i hi with hl | rfl
    · simp only [if_neg (show ¬ i = m by omega)]; exact (h.ent1 i hl y hy).chg hc hs.int
    · simp only [if_true]; exact (he y hy).chg hc hs.int
  · refine ownsRow_chg h.own2 hc fun b e1 e2 => ?_
    rcases e2 with e2 | rfl
    · exact h.dv b e2 e1
    · exact hn2 e1
  · rcases hat4 with e | e
    · rw [e] at e1; exact h.dv b e1 e2
    · rw [e] at e1
      have h1 := (World.ownsRow.lt h.own2 b e2).2
      have h2 := b1.size
      have := Option.some.inj e1
      omega
  · rcases hcase i hi with hl | rfl <;> rcases hcase j hj with hl2 | rfl
    · simp only [if_neg (show ¬ i = m by omega), if_neg (show ¬ j = m by omega)]; exact h.dro i j hl hl2 hij
    · simp only [if_neg (show ¬ i = j by omega), if_true]; have := hB i hl; omega
    · simp only [if_neg (show ¬ j = i by omega), if_true]; have := hB j hl2; omega
    · exact absurd rfl hij
  · rcases hcase i hi with hl | rfl
    · simp only [if_neg (show ¬ i = m by omega)]; exact h.drg i j hl hj
    · simp only [if_true]; have := hB2 j hj; omega
theorem Pc.step2 (h : Pc w base g N m n v1 v2 ro gv en) (hbs : base ≤ w.heap.size) (b1 : Below (w.heap.size + 1) (w.alloc (.cells #[] 25)) w1)
    (hg4 : w1.grownBy w4 v2.ownBlock) (ho4 : w4.ownsRow base 24 1 (.slice A4 (n + 1) c4) (n + 1) ((List.range n).map (fun i => Value.slice (some ⟨gv i, 0, none⟩) 0 0) ++ [.slice (some ⟨w.heap.size, 0, none⟩) 0 0]))
    (hat4 : (Value.slice A4 (n + 1) c4).ownBlock = v2.ownBlock ∨ (Value.slice A4 (n + 1) c4).ownBlock = some w1.heap.size) :
    Pc (w4.setCell ⟨g, 2, none⟩ (.slice A4 (n + 1) c4)) base g N m (n + 1) v1 (.slice A4 (n + 1) c4) ro (fun i => if i = n then w.heap.size else gv i) en := by
  have b0 : Below w.heap.size w w1 := by
    have h1 : Below w.heap.size w (w.alloc (.cells #[] 25)) := (Below.refl _ _).alloc (Nat.le_refl _) _
    exact h1.trans (b1.mono (by omega))
  obtain ⟨hB4, hc, hs, hc4⟩ := h.chg h.own2 b0 hg4 2 (.slice A4 (n + 1) c4)
  have hn1 := h.not_g h.own1
  have hcase : ∀ i, i < n + 1 → i < n ∨ i = n := fun i hi => by omega
  have ltg : ∀ i, i < n → gv i < w.heap.size := fun i hi => (World.ownsRow.lt (h.row2 i hi) (gv i) rfl).2
  have ltr : ∀ i, i < m → ro i < w.heap.size := fun i hi => (World.ownsRow.lt (h.row1 i hi) (ro i) rfl).2
  have hnew : (w4.setCell ⟨g, 2, none⟩ (.slice A4 (n + 1) c4)).ownsRow base 25 1 (.slice (some ⟨w.heap.size, 0, none⟩) 0 0) 0 [] := by
    have h1 : (w.alloc (.cells #[] 25)).ownsRow base 25 1 (.slice (some ⟨w.heap.size, 0, none⟩) 0 0) 0 [] := World.ownsRow_lit (size := 1) w #[] 0 hbs (Nat.zero_le _) rfl
    have hq : w1.heap[w.heap.size]? = (w.alloc (.cells #[] 25)).heap[w.heap.size]? := b1.block w.heap.size (by omega)
    have hq2 : w4.heap[w.heap.size]? = w1.heap[w.heap.size]? := hg4.block w.heap.size (by have := b1.size; simp at this; omega) (fun e => by
      have := (World.ownsRow.lt h.own2 _ e.symm).2; omega)
    have hq3 : (w4.setCell ⟨g, 2, none⟩ (.slice A4 (n + 1) c4)).heap[w.heap.size]? = w4.heap[w.heap.size]? := heap_setCell_other w4 ⟨g, 2, none⟩ _ _ (fun e => by have := h.blk.lt; simp at e; omega)
    refine ⟨h1.1, ?_⟩
    rcases h1.2 with e | ⟨g', cap, cur, e, a1, a2, rest⟩
    · exact .inl e
    · have eg : w.heap.size = g' := by injection e with e _ _; injection e with e; injection e
      subst eg
      exact .inr ⟨_, cap, cur, e, a1, by rw [hq3, hq2, hq]; exact a2, rest⟩
  refine ⟨?_, h.hg, ?_, fun i hi => hs.row hc (h.row1 i hi), h.len1, fun i hi y hy => (h.ent1 i hi y hy).chg hc hs.int, ?_, fun i hi => ?_, fun b e1 e2 => ?_, h.dro, fun i j hi hj => ?_, fun i j hi hj hij => ?_⟩
  · have := hB4.set_ 2 (.slice A4 (n + 1) c4)
    simpa using this
  · refine ownsRow_chg h.own1 hc fun b e1 e2 => ?_
    rcases e2 with e2 | rfl
    · exact h.dv b e1 e2
    · exact hn1 e1
  · rw [rng_snoc (fun i => Value.slice (some ⟨gv i, 0, none⟩) 0 0) _ n (fun i hi => by rw [if_neg (by omega)]), if_pos rfl]
    refine ownsRow_chg ho4 hc4 fun b e1 e2 => ?_
    subst e2
    obtain ⟨cur, e2⟩ := ownsRow_typ ho4 e1
    unfold Blk at hB4
    rw [hB4] at e2
    injection e2 with e2
    injection e2 with _ e3
    exact absurd e3 (by decide)
  · rcases hcase i hi with hl | rfl
    · simp only [if_neg (show ¬ i = n by omega)]; exact hs.row hc (h.row2 i hl)
    · simp only [if_true]; exact hnew
  · rcases hat4 with e | e
    · rw [e] at e2; exact h.dv b e1 e2
    · rw [e] at e2
      have h1 := (World.ownsRow.lt h.own1 b e1).2
      have h2 := b0.size
      have := Option.some.inj e2
      omega
  · rcases hcase j hj with hl | rfl
    · simp only [if_neg (show ¬ j = n by omega)]; exact h.drg i j hi hl
    · simp only [if_true]; have := ltr i hi; omega
  · rcases hcase i hi with hl | rfl <;> rcases hcase j hj with hl2 | rfl
    · simp only [if_neg (show ¬ i = n by omega), if_neg (show ¬ j = n by omega)]; exact h.dgv i j hl hl2 hij
    · simp only [if_neg (show ¬ i = j by omega), if_true]; have := ltg i hl; omega
    · simp only [if_neg (show ¬ j = i by omega), if_true]; have := ltg j hl2; omega
    · exact absurd rfl hij
end

set_option maxHeartbeats 4000000 in
set_option maxRecDepth 100000 in
theorem specEmpty (N : Nat) (w : World) (hN1 : 1 ≤ N) (hN : N ≤ 20) :
    Calls Try.prog 82 #[.int .i64 (N : Nat)] w fun e w' => ∃ g L, e = .returned (.pointer (some ⟨g, 0, none⟩)) ∧ Cn w' w.heap.size g N (ch0 N) L ∧ Below w.heap.size w w' := by
  obtain ⟨i0, hi, hz0, hz1, hz2⟩ := info_parts infoS
  go_enter Try.func82, Try.ntmps82
  go_wp2_with fail
  go_loopw [4] (fun i wr => ∃ (m : Nat) (v1 v2 : Value) (ro gv : Nat → Nat) (en : Nat → List SV), m ≤ N ∧ i = .int .i64 (m : Nat) ∧ Pc wr w.heap.size w.heap.size N m m v1 v2 ro gv en ∧ Below w.heap.size w wr) (fun i _ => N - (intOf i).toNat)
  case atStart =>
    refine ⟨0, .slice none 0 0, .slice none 0 0, fun _ => 0, fun _ => 0, fun _ => [], Nat.zero_le _, rfl, ⟨Blk.new w _ _, Nat.le_refl _, World.ownsRow_nil _ _ _ _, fun i h => absurd h (Nat.not_lt_zero i), fun i h => absurd h (Nat.not_lt_zero i), fun i h => absurd h (Nat.not_lt_zero i), World.ownsRow_nil _ _ _ _, fun i h => absurd h (Nat.not_lt_zero i), fun b e => by simp [Value.ownBlock] at e, fun i j h => absurd h (Nat.not_lt_zero i), fun i j h => absurd h (Nat.not_lt_zero i), fun i j h => absurd h (Nat.not_lt_zero i)⟩, (Below.refl _ _).alloc (Nat.le_refl _) _⟩
  case round =>
    obtain ⟨m, v1, v2, ro, gv, en, hm, rfl, hpc, bel⟩ := hrel
    obtain ⟨a1, k1, rfl⟩ := ownsRow_sl hpc.own1
    obtain ⟨a2, k2, rfl⟩ := ownsRow_sl hpc.own2
    have P0 := Lib.hid hpc
    have Be := Lib.hid bel
    by_cases hlt : m < N
    · have hzr := bel.size
      have lro : Hid (∀ i, i < m → ro i < wr.heap.size) := Lib.hid fun i hi => (World.ownsRow.lt (hpc.row1 i hi) (ro i) rfl).2
      have lgv : Hid (∀ i, i < m → gv i < wr.heap.size) := Lib.hid fun i hi => (World.ownsRow.lt (hpc.row2 i hi) (gv i) rfl).2
      have hgr := hpc.blk.lt
      have q0 : (0 : Int) ≤ m := by omega
      have q1 : (m : Int) < N := by omega
      clear hpc bel
      go_wp2_with (first | (at_make; refine wpList_make_full _ rfl _ _ 24 rfl wr.heap.size 25 i0 (.slice none 0 0) 1 Try.underlying24 hi hz0 hz1 .i64 .i64 _ _ N rfl rfl rfl rfl (by rw [hz2]; omega) (by unfold maxLen; omega) (Nat.le_refl _) ?_; intro w1 hown1 hgrow1))
      have b1 : Below wr.heap.size wr w1 := (Below.refl _ _).grown hgrow1 (Nat.le_refl _) (fun k e => nomatch e)
      refine (specIdent N w1 (by omega)).mono ?_
      rintro e w2 ⟨A2, c2, rfl, s2, b2⟩
      have hM := SS.made (bi := wr.heap.size) hown1
      have hM2 := hM.up b2
      have St := hM2.own.stored m (.slice A2 N c2)
      have y1 := hM2.own.cellAt m (by omega)
      have fz1 := hM2.own.frozenAt m
      have ey : ((List.replicate N sd0).map sval)[m]? = some (Value.slice none 0 0) := by simp [hlt, sval, sd0]
      rw [ey] at y1
      obtain ⟨wA, hwA⟩ : ∃ wA, w2.setCell ⟨wr.heap.size, m, none⟩ (.slice A2 N c2) = wA := ⟨_, rfl⟩
      rw [hwA] at St
      have bA : Hid (Below wr.heap.size wr wA) := Lib.hid ((b1.trans (b2.mono b1.size)).grown St.2 (Nat.le_trans b1.size b2.size) (by intro k e; injection e with e; omega))
      have hNi : NoInt w2 (fun b => b = wr.heap.size) := fun b e => by
        obtain ⟨cur, e2⟩ := ownsRow_typ hM2.own (k := wr.heap.size) rfl
        subst e; exact ⟨cur, _, _, e2, by decide⟩
      have sA : Hid (Slc wA w.heap.size A2 N c2 (idL N)) := Lib.hid ((s2.mono (by have := b1.size; omega)).chg (.of_grown St.2 (M := fun b => b = wr.heap.size) (by intro k e; injection e with e; exact e.symm)) hNi)
      have PA := Lib.hid (P0.out.up bA.out)
      have RA : Hid (wA.ownsRow w.heap.size 25 1 (.slice (some ⟨wr.heap.size, 0, none⟩) N N) N (((List.replicate N sd0).set m (A2, N, c2)).map sval)) := Lib.hid (by
        rw [List.map_set]; exact ownsRow_dn St.1 hzr)
      have hgA := PA.out.blk.lt
      have x1 := PA.out.blk.cell 1
      have hzA := bA.out.size
      have hLit : Hid ((wA.alloc (.cells #[.slice (some ⟨wr.heap.size, 0, none⟩) N N] 24)).cell? ⟨wA.heap.size, 0, none⟩ = some (sval (some ⟨wr.heap.size, 0, none⟩, N, N))) := Lib.hid (by rw [World.cell?_alloc_at _ _ _ _ rfl]; rfl)
      have EA : Hid (∀ y, y < N → Slc wA w.heap.size (((List.replicate N sd0).set m (A2, N, c2)).getD y sd0).1 (((List.replicate N sd0).set m (A2, N, c2)).getD y sd0).2.1 (((List.replicate N sd0).set m (A2, N, c2)).getD y sd0).2.2 ((ch0 N).rep m y)) := Lib.hid fun y hy => by
        by_cases e : m = y
        · subst e
          rw [getD_set_eq (by simp; exact hy)]
          show Slc wA _ _ _ _ (if m = m then idL N else [])
          rw [if_pos rfl]; exact sA.out
        · rw [getD_set_ne e, getD_rep]
          show Slc wA _ _ _ _ (if y = m then idL N else [])
          rw [if_neg (fun e2 => e e2.symm)]; exact Slc.nil_
      have hx1 : (#[Value.int .i64 (N : Nat), .slice a1 m k1, .slice a2 m k2] : Array Value)[1]? = some (.slice a1 m k1) := rfl
      rw [hx1] at x1
      have zA : Hid ((wA.alloc (.cells #[.slice (some ⟨wr.heap.size, 0, none⟩) N N] 24)).heap.size = wA.heap.size + 1) := Lib.hid (by simp)
      have bL : Hid (Below wA.heap.size wA (wA.alloc (.cells #[.slice (some ⟨wr.heap.size, 0, none⟩) N N] 24))) := Lib.hid ((Below.refl _ _).alloc (Nat.le_refl _) _)
      clear hown1 hgrow1 b1 s2 b2 hM hM2 St ey hNi hx1
      go_wp2_with (first
        | (at_builtin; refine wpList_appW rfl _ _ rfl w.heap.size (.slice a1 m k1) m ((List.range m).map fun i => Value.slice (some ⟨ro i, 0, none⟩) N N) rfl (PA.out.up bL.out).own1 wA.heap.size (some ⟨wr.heap.size, 0, none⟩, N, N) rfl hLit.out (by omega) (by simp; omega) ?_; intro A4 c4 w4 ho4 hg4 hat4
           have B4 := (PA.out.chg PA.out.own1 bL.out hg4 1 (.slice A4 (m + 1) c4)).1
           have z4 := B4.cell 1
           have f4 := B4.frozen 1
           have P5 := Lib.hid (PA.out.step1 RA.out (Nat.le_refl _) lro.out lgv.out (by simp) EA.out bL.out hg4 ho4 hat4)
           have C5 := (PA.out.chg PA.out.own1 bL.out hg4 1 (.slice A4 (m + 1) c4)).2.1
           have Z5 := C5.size
           have z5 := P5.out.blk.cell 2
           have hx2 : (#[Value.int .i64 (N : Nat), .slice A4 (m + 1) c4, .slice a2 m k2] : Array Value)[2]? = some (.slice a2 m k2) := rfl
           have hx4 : (#[Value.int .i64 (N : Nat), .slice a1 m k1, .slice a2 m k2] : Array Value)[1]? = some (.slice a1 m k1) := rfl
           rw [hx2] at z5
           rw [hx4] at z4
           have HC5 := Lib.hid C5
           have e5 : (w4.setCell ⟨w.heap.size, 1, none⟩ (.slice A4 (m + 1) c4)).heap.size = w4.heap.size := by simp
           have HE := Lib.hid e5
           obtain ⟨W5, hW5⟩ : ∃ W5, w4.setCell ⟨w.heap.size, 1, none⟩ (.slice A4 (m + 1) c4) = W5 := ⟨_, rfl⟩
           have HW := Lib.hid hW5
           have O5 : Hid (((W5.alloc (.cells #[] 25)).alloc (.cells #[.slice (some ⟨w4.heap.size, 0, none⟩) 0 0] 24)).ownsRow w.heap.size 24 1 (.slice a2 m k2) m ((List.range m).map fun i => Value.slice (some ⟨gv i, 0, none⟩) 0 0)) := Lib.hid (by rw [← hW5]; exact (P5.out.own2.alloc _).alloc _)
           have L5 : Hid (((W5.alloc (.cells #[] 25)).alloc (.cells #[.slice (some ⟨w4.heap.size, 0, none⟩) 0 0] 24)).cell? ⟨w4.heap.size + 1, 0, none⟩ = some (sval (some ⟨w4.heap.size, 0, none⟩, 0, 0))) := Lib.hid (by rw [World.cell?_alloc_at _ _ _ _ (by rw [← hW5]; simp)]; rfl)
           have Z5b : w.heap.size ≤ w4.heap.size := by rw [e5] at Z5; omega
           clear B4 C5 hx2 hx4 e5 hW5 Z5)
        | (at_builtin; refine wpList_appW rfl _ _ rfl w.heap.size (.slice a2 m k2) m ((List.range m).map fun i => Value.slice (some ⟨gv i, 0, none⟩) 0 0) rfl (by rw [HW.out]; exact O5.out) (w4.heap.size + 1) (some ⟨w4.heap.size, 0, none⟩, 0, 0) rfl (by rw [HW.out]; exact L5.out) (by omega) (by simp; omega) ?_; intro A6 c6 w6 ho6 hg6 hat6
           have b6 : Below ((w4.setCell ⟨w.heap.size, 1, none⟩ (.slice A4 (m + 1) c4)).heap.size + 1) ((w4.setCell ⟨w.heap.size, 1, none⟩ (.slice A4 (m + 1) c4)).alloc (.cells #[] 25)) (((w4.setCell ⟨w.heap.size, 1, none⟩ (.slice A4 (m + 1) c4)).alloc (.cells #[] 25)).alloc (.cells #[.slice (some ⟨w4.heap.size, 0, none⟩) 0 0] 24)) := (Below.refl _ _).alloc (by simp) _
           have b7 : Below (w4.setCell ⟨w.heap.size, 1, none⟩ (.slice A4 (m + 1) c4)).heap.size (w4.setCell ⟨w.heap.size, 1, none⟩ (.slice A4 (m + 1) c4)) (((w4.setCell ⟨w.heap.size, 1, none⟩ (.slice A4 (m + 1) c4)).alloc (.cells #[] 25)).alloc (.cells #[.slice (some ⟨w4.heap.size, 0, none⟩) 0 0] 24)) := ((Below.refl _ _).alloc (Nat.le_refl _) _).alloc (by simp) _
           have C6 := P5.out.chg P5.out.own2 b7 hg6 2 (.slice A6 (m + 1) c6)
           have z6 := C6.1.cell 2
           have f6 := C6.1.frozen 2
           have hx2 : (#[Value.int .i64 (N : Nat), .slice A4 (m + 1) c4, .slice a2 m k2] : Array Value)[2]? = some (.slice a2 m k2) := rfl
           rw [hx2] at z6
           have P6 := Lib.hid (P5.out.step2 (by rw [HE.out]; exact Z5b) b6 hg6 (by rw [HE.out]; exact ho6) hat6)
           have B6 : Hid (Below w.heap.size w (w6.setCell ⟨w.heap.size, 2, none⟩ (.slice A6 (m + 1) c6))) := Lib.hid ((Be.out.trans ((bA.out.mono hzr).trans (HC5.out.below (fun k hk => by
             rcases hk with hk | rfl
             · exact (World.ownsRow.lt PA.out.own1 k hk).1
             · exact Nat.le_refl _) (by omega)))).trans (C6.2.1.below (fun k hk => by
             rcases hk with hk | rfl
             · exact (World.ownsRow.lt P5.out.own2 k hk).1
             · exact Nat.le_refl _) (by rw [HE.out]; exact Z5b)))
           clear b6 b7 C6 hx2))
      go_roundw
      case rel => exact ⟨m + 1, _, _, _, _, _, by omega, by go_num, P6.out, B6.out⟩
      case measure => simp [intOf]; omega
    · obtain rfl : m = N := by omega
      obtain ⟨L, hL⟩ := P0.out.cn hN1
      go_wp2_with fail
      go_ret
      exact ⟨_, L, rfl, hL, Be.out⟩
end Go.Proofs.Ytooafmifbplbhaa
