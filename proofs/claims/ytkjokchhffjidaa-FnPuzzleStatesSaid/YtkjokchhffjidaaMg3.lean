/- Part 3 of the texts: SrcP, ChB, ChQ, Crd, Wrd, Ct, WsA, PcM, PcH, PcW. No condition of its own: each text tells its own. -/
import Derived.Test.YtkjokchhffjidaaMg2
import Derived.Test.YtkjokchhffjidaaMg1
import Derived.Deep.RegionLaw
import Derived.Deep.LoopGhost
import Derived.BigQuiet
import Derived.WalkSpells
set_option linter.unusedVariables false
set_option linter.unusedSimpArgs false

/- The model's drawn permutations. Condition: degrees of at most 100. -/
namespace Go.Proofs.Ytkjokchhffjidaa
open Go.RowKit

theorem RI.cellAt {w : World} {B b o : Nat} {ys : List Int} (h : RI w B (some ⟨b, o, none⟩) ys) {j : Nat} (hj : j < ys.length) : b < B ∧ w.cell? ⟨b, o + j, none⟩ = some (.int .i64 (ys.getD j 0)) := by
  obtain ⟨b', o', e, hb, hc⟩ := h (by omega)
  injection e with e
  injection e with e1 e2
  subst e1; subst e2
  exact ⟨hb, hc j hj⟩

/-- append of readable numbers. -/
theorem wpList_appN {w : World} {ops : Array Oper} {rest : List Oper} {o : Oper} {a : Act} {Q : Exit → Act → World → Prop} (hgd : o.guard = none) (s x : Operand)
    (ho : o.op = .call { callee := .builtin .append, args := #[s, x], argTypes := #[27, 27] })
    (base : Nat) (A : Option Addr) (n c : Nat) (xs : List Int) (hs : a.eval s = .slice A n c) (hown : Slc w base A n c xs) (g off m c2 : Nat) (ys : List Int) (hx : a.eval x = .slice (some ⟨g, off, none⟩) m c2)
    (hy : RI w w.heap.size (some ⟨g, off, none⟩) ys) (ly : ys.length = m) (hn : n + m ≤ 1000000000000) (hbase : base ≤ w.heap.size)
    (h : ∀ A' c' w', Slc w' base A' (n + m) c' (xs ++ ys) → w.grownBy w' (Value.slice A n c).ownBlock → wpList Try.prog ops Q rest (a.put o.dst (.slice A' (n + m) c')) w') : wpList Try.prog ops Q (o :: rest) a w := by
  obtain ⟨i0, hi, hz0, hz1, hz2⟩ := info_parts infoI
  obtain ⟨hl, ho'⟩ := hown
  subst hl
  refine wpList_append_own w hgd s x 27 ho base 2 i0 (.int .i64 0) 1 8 Try.underlying27 hi hz0 hz1 hz2 rfl (by decide) _ xs.length _ hs ho' ⟨g, off, none⟩ m c2 (ys.map (Value.int .i64)) hx (by simp [ly]) ?_ ?_ ?_ (by omega) hbase ?_
  · intro j v hj
    have hjl : j < ys.length := by
      have := (List.getElem?_eq_some_iff.1 hj).1
      simpa using this
    have e : (⟨g, off, none⟩ : Addr).add j = ⟨g, off + j, none⟩ := by unfold Addr.add; split <;> simp_all
    rw [e, (hy.cellAt hjl).2]
    rw [List.getElem?_map, List.getElem?_eq_getElem hjl] at hj
    rw [← Option.some.inj hj, List.getD_eq_getElem?_getD, List.getElem?_eq_getElem hjl]; rfl
  · intro v hv; rw [List.mem_map] at hv; obtain ⟨u, _, rfl⟩ := hv; rfl
  · unfold maxLen; omega
  · intro v' w' hown' hg _
    have hO : Own w' base v' (xs ++ ys) := by
      unfold Own
      rw [List.length_append, List.map_append, ly]
      exact hown'
    obtain ⟨A', c', rfl, hS⟩ := Slc.of_own (n := xs.length + m) hO (by simp [ly])
    exact h A' c' w' hS hg

/-- append of readable numbers, as one step of a region that draws. -/
theorem step_appN {w : World} {ops : Array Oper} {o : Oper} {a : Act} {K : Act → World → Prop} {Q : Exit → Act → World → Prop} {E : Prop} (hgd : o.guard = none) (s x : Operand)
    (ho : o.op = .call { callee := .builtin .append, args := #[s, x], argTypes := #[27, 27] })
    (base : Nat) (A : Option Addr) (n c : Nat) (xs : List Int) (hs : a.eval s = .slice A n c) (hown : Slc w base A n c xs) (g off m c2 : Nat) (ys : List Int) (hx : a.eval x = .slice (some ⟨g, off, none⟩) m c2)
    (hy : RI w w.heap.size (some ⟨g, off, none⟩) ys) (ly : ys.length = m) (hn : n + m ≤ 1000000000000) (hbase : base ≤ w.heap.size) (N : Nat) (hN : n + m = N)
    (h : ∀ A' c' w', Slc w' base A' N c' (xs ++ ys) → w.grownBy w' (Value.slice A n c).ownBlock → K (a.put o.dst (.slice A' N c')) w') : if Region.wanted o (yielded ops a.tmps) = true then Oper.wp Try.prog o a w K Q else E := by
  have hw : Region.wanted o (yielded ops a.tmps) = true := by simp [Region.wanted, hgd]
  rw [if_pos hw]
  subst hN
  obtain ⟨i0, hi, hz0, hz1, hz2⟩ := info_parts infoI
  obtain ⟨hl, ho'⟩ := hown
  subst hl
  refine wp_append_own w s x 27 ho base 2 i0 (.int .i64 0) 1 8 Try.underlying27 hi hz0 hz1 hz2 rfl (by decide) _ xs.length _ hs ho' ⟨g, off, none⟩ m c2 (ys.map (Value.int .i64)) hx (by simp [ly]) ?_ ?_ ?_ (by omega) hbase ?_
  · intro j v hj
    have hjl : j < ys.length := by
      have := (List.getElem?_eq_some_iff.1 hj).1
      simpa using this
    have e : (⟨g, off, none⟩ : Addr).add j = ⟨g, off + j, none⟩ := by unfold Addr.add; split <;> simp_all
    rw [e, (hy.cellAt hjl).2]
    rw [List.getElem?_map, List.getElem?_eq_getElem hjl] at hj
    rw [← Option.some.inj hj, List.getD_eq_getElem?_getD, List.getElem?_eq_getElem hjl]; rfl
  · intro v hv; rw [List.mem_map] at hv; obtain ⟨u, _, rfl⟩ := hv; rfl
  · unfold maxLen; omega
  · intro v' w' hown' hg _
    have hO : Own w' base v' (xs ++ ys) := by
      unfold Own
      rw [List.length_append, List.map_append, ly]
      exact hown'
    obtain ⟨A', c', rfl, hS⟩ := Slc.of_own (n := xs.length + m) hO (by simp [ly])
    exact h A' c' w' hS hg
theorem litRI (w : World) (u : Int) : RI (w.alloc (.cells #[.int .i64 u] 2)) (w.alloc (.cells #[.int .i64 u] 2)).heap.size (some ⟨w.heap.size, 0, none⟩) [u] := (Slc.lit1 w w.heap.size u (Nat.le_refl _)).ri_
theorem RI.belowAll {w w' : World} {A : Option Addr} {xs : List Int} (h : RI w w.heap.size A xs) (hb : Below w.heap.size w w') : RI w' w'.heap.size A xs := fun hp => by
  obtain ⟨b, o, e, hbb, hc⟩ := h hp
  exact ⟨b, o, e, by have := hb.size; omega, fun j hj => (hb.cell (p := ⟨b, o + j, none⟩) hbb).trans (hc j hj)⟩

theorem grown_below2 {w w1 w' : World} {row : Option Nat} (h : w.grownBy w1 row) (b : Below w1.heap.size w1 w') : w.grownBy w' row :=
  ⟨b.os.trans h.os, b.tape.trans h.tape, b.output.trans h.output, Nat.le_trans h.size b.size, fun k hk hn => (b.block k (Nat.lt_of_lt_of_le hk h.size)).trans (h.block k hk hn)⟩
theorem below_undrew {w w' : World} (h : Below w.drew.heap.size w.drew w') : Below w.heap.size w w' := ⟨h.os, h.tape, h.output, h.size, h.block⟩
theorem below_undrewA {w w' : World} {o : Obj} (h : Below (w.drew.alloc o).heap.size (w.drew.alloc o) w') : Below (w.alloc o).heap.size (w.alloc o) w' := ⟨h.os, h.tape, h.output, h.size, h.block⟩

/-- copyInts of what can be read. -/
theorem copyRI (g off n c : Nat) (xs : List Int) (w : World) (h : RI w w.heap.size (some ⟨g, off, none⟩) xs) (lx : xs.length = n) (hn : n ≤ 1000000) :
    Calls Try.prog 117 #[.slice (some ⟨g, off, none⟩) n c] w fun e w' => ∃ A' c', e = .returned (.slice A' n c') ∧ Slc w' w.heap.size A' n c' xs ∧ Below w.heap.size w w' := by
  have H0 := Lib.hid (Slc.lit0 w w.heap.size (Nat.le_refl _))
  have H : Hid (RI (w.alloc (.cells #[] 2)) (w.alloc (.cells #[] 2)).heap.size (some ⟨g, off, none⟩) xs) := Lib.hid fun hp => by
    obtain ⟨b, o, e, hb, hc⟩ := h hp
    exact ⟨b, o, e, by simp; omega, fun j hj => by rw [World.cell?_alloc_lt w _ ⟨b, o + j, none⟩ hb]; exact hc j hj⟩
  clear h
  go_enter Try.func117, Try.ntmps117
  go_wp2_with (first | (at_builtin; refine wpList_appN rfl _ _ rfl w.heap.size (some ⟨w.heap.size, 0, none⟩) 0 0 [] rfl H0.out g off n c xs rfl H.out lx (by omega) (by simp) ?_; intro A' c' w' s1 g1))
  have S1 : Hid (Slc w' w.heap.size A' n c' xs) := Lib.hid (by simpa using s1)
  have B1 : Hid (Below w.heap.size w w') := Lib.hid (((Below.refl _ w).alloc (Nat.le_refl _) _).grown g1 (by simp) (fun k e => by simp [Value.ownBlock] at e; omega))
  clear s1 g1
  go_wp2
  go_ret
  exact ⟨_, _, by simp, S1.out, B1.out⟩

theorem grown_alloc2 {w w1 : World} {row : Option Nat} (h : w.grownBy w1 row) (o : Obj) : w.grownBy (w1.alloc o) row :=
  ⟨h.os, h.tape, h.output, Nat.le_trans h.size (by simp), fun k hk hn => (Below.heap_alloc w1 o k (Nat.lt_of_lt_of_le hk h.size)).trans (h.block k hk hn)⟩
theorem takeRI {w : World} {B q off : Nat} {xs : List Int} (h : RI w B (some ⟨q, off, none⟩) xs) (r : Nat) : RI w B (some ⟨q, off, none⟩) (xs.take r) := fun hp => by
  have hl : (xs.take r).length ≤ xs.length := by rw [List.length_take]; omega
  obtain ⟨b, o, e, hb, hc⟩ := h (by omega)
  refine ⟨b, o, e, hb, fun j hj => ?_⟩
  rw [hc j (by omega)]
  have : (xs.take r).getD j 0 = xs.getD j 0 := by
    rw [List.length_take] at hj
    rw [List.getD_eq_getElem?_getD, List.getElem?_take, if_pos (by omega), ← List.getD_eq_getElem?_getD]
  rw [this]
theorem dropRI {w w' : World} {base q k c r off : Nat} {xs : List Int} (h : Slc w base (some ⟨q, 0, none⟩) k c xs) (hb : Below w.heap.size w w') (ho : r < k → off = r) : RI w' w'.heap.size (some ⟨q, off, none⟩) (xs.drop r) := fun hp => by
  have lx := h.1
  rw [List.length_drop] at hp
  obtain rfl := ho (by omega)
  have hri : RI w w.heap.size (some ⟨q, 0, none⟩) xs := h.ri_
  have hq := (h.lt_ q rfl).2
  refine ⟨q, _, rfl, by have := hb.size; omega, fun j hj => ?_⟩
  rw [List.length_drop] at hj
  rw [hb.cell (p := ⟨q, _, none⟩) hq]
  have := (hri.cellAt (j := off + j) (by omega)).2
  rw [Nat.zero_add] at this
  rw [this, List.getD_eq_getElem?_getD, List.getD_eq_getElem?_getD, List.getElem?_drop]

set_option maxRecDepth 100000 in
set_option maxHeartbeats 2000000 in
theorem drawPerm (g n : Nat) (w : World) (hs : Src w g) (hn : n ≤ 100) :
    Calls Try.prog 121 #[.pointer (some ⟨g, 0, none⟩), .int .i64 (n : Int)] w fun e w' => ∃ q c xs, e = .returned (.slice (some ⟨q, 0, none⟩) n c) ∧ Slc w' w.heap.size (some ⟨q, 0, none⟩) n c xs ∧ Src w' g ∧ w.grownBy w' (some g) := by
  have Hs := Lib.hid hs
  have hg := hs.lt
  clear hs
  go_enter Try.func121, Try.ntmps121
  go_wp2_with fail
  go_loopg [5, 6, 7] n (fun gg v i _ wr => ∃ k q c xs, k ≤ n ∧ n - k ≤ gg ∧ i = .int .i64 (k : Nat) ∧ v = .slice (some ⟨q, 0, none⟩) k c ∧ Slc wr w.heap.size (some ⟨q, 0, none⟩) k c xs ∧ Src wr g ∧ w.grownBy wr (some g))
  case atStart => exact ⟨0, _, _, [], Nat.zero_le _, by omega, rfl, rfl, Slc.lit0 w _ (Nat.le_refl _), Hs.out.below ((Below.refl w.heap.size w).alloc (Nat.le_refl _) _) hg, grown_alloc2 (grown_refl _ _) _⟩
  case round =>
    obtain ⟨k, q, c, xs, hk, hgg, rfl, rfl, sl, src, gro⟩ := hrel
    have Sl := Lib.hid sl
    have Sr := Lib.hid src
    have Gr := Lib.hid gro
    have hkc := sl.le.1
    clear sl src gro
    by_cases hlt : k < n
    · go_wp2_with fail
      refine (srcBelow g _ (k + 1) wr Sr.out (by push_cast; rfl) (by omega) (by omega)).mono ?_
      rintro e w1 ⟨r, hr, rfl, s1, g1⟩
      have Sr1 := Lib.hid s1
      have Gr1 : Hid (w.grownBy w1 (some g)) := Lib.hid (grown_trans' Gr.out g1)
      have Sl1 : Hid (Slc w1 w.heap.size (some ⟨q, 0, none⟩) k c xs) := Lib.hid (Sl.out.kept g1 (.inr (by have := (Sl.out.lt_ q rfl).1; intro e; simp [Value.ownBlock] at e; omega)))
      have p0 : (0 : Int) ≤ r := by omega
      have p1 : (r : Int) ≤ k := by omega
      have p2 : (r : Int) ≤ c := by omega
      have p3 : r ≤ k := by omega
      have p4 : r ≤ c := by omega
      have lxs : xs.length = k := Sl1.out.1
      have RIt : Hid (RI w1 w1.heap.size (some ⟨q, 0, none⟩) (xs.take r)) := Lib.hid (takeRI Sl1.out.ri_ r)
      have ltk : Hid ((xs.take r).length = r) := Lib.hid (by rw [List.length_take]; omega)
      have ldr : Hid ((xs.drop r).length = k - r) := Lib.hid (by rw [List.length_drop]; omega)
      have hwb := Gr1.out.size
      clear s1 g1 lxs
      have RItA : Hid (RI (w1.alloc (.cells #[.int .i64 (k : Int)] 2)) (w1.alloc (.cells #[.int .i64 (k : Int)] 2)).heap.size (some ⟨q, 0, none⟩) (xs.take r)) := Lib.hid (RIt.out.belowAll ((Below.refl _ _).alloc (Nat.le_refl _) _))
      have Lit : Hid (RI (w1.alloc (.cells #[.int .i64 (k : Int)] 2)) (w1.alloc (.cells #[.int .i64 (k : Int)] 2)).heap.size (some ⟨w1.heap.size, 0, none⟩) [(k : Int)]) := Lib.hid (litRI w1 k)
      have DrX : Hid (∀ w3 : World, Below w1.heap.size w1 w3 → RI w3 w3.heap.size (some ⟨q, r, none⟩) (xs.drop r)) := Lib.hid fun w3 hb => dropRI Sl1.out hb fun _ => rfl
      have ld0 : Hid (c = r → (xs.drop r).length = 0) := Lib.hid fun e => by have := ldr.out; omega
      have Dr0 : Hid (c = r → ∀ w3 : World, Below w1.heap.size w1 w3 → RI w3 w3.heap.size (some ⟨q, 0, none⟩) (xs.drop r)) := Lib.hid fun e w3 hb => dropRI Sl1.out hb fun h => by omega
      by_cases hcr : c = r
      · obtain rfl : k = r := by omega
        subst hcr
        go_wp2_with fail
        go_region_law (first
          | (refine step_appN rfl (.tmp 21) (.tmp 23) rfl w1.heap.size A2 c c2 (xs.take c) ?_ (s2.alloc _) w2.heap.size 0 1 1 [(c : Int)] ?_ (litRI w2 c) rfl ?_ ?_ (c + 1) rfl ?_; (simp [Act.eval, Act.put]); (simp [Act.eval, Act.put]); (omega); (have hz := b2.size; simp at hz ⊢; omega); (intro A3 c3 w3 s3 g3; have bb : Below w1.heap.size w1 w3 := (Below.alloc b2 b2.size _).grown g3 (by have hz := b2.size; simp at hz ⊢; omega) (fun j hj => (s2.lt_ j hj).1)))
          | (refine step_appN rfl (.tmp 21) (.tmp 23) rfl w1.heap.size A2 c c2 (xs.take c) ?_ (s2.mono (by simp)) w1.heap.size 0 1 1 [(c : Int)] ?_ (Lit.out.belowAll b2) rfl ?_ ?_ (c + 1) rfl ?_; (simp [Act.eval, Act.put]); (simp [Act.eval, Act.put]); (omega); (have hz := b2.size; simp at hz ⊢; omega); (intro A3 c3 w3 s3 g3; have bb : Below w1.heap.size w1 w3 := (btr ((Below.refl w1.heap.size w1).alloc (Nat.le_refl _) _) b2).grown g3 (by have hz := b2.size; simp at hz ⊢; omega) (fun j hj => Nat.le_trans (by simp) (s2.lt_ j hj).1)))
          | (refine step_appN rfl (.tmp 24) (.tmp 27) rfl w1.heap.size A3 (c + 1) c3 _ ?_ s3 q 0 0 0 (xs.drop c) ?_ (Dr0.out trivial _ bb) (ld0.out trivial) ?_ ?_ (c + 1) ?_ ?_; (simp [Act.eval, Act.put]); (simp [Act.eval, Act.put]); (omega); (have hz := bb.size; omega); (omega); (intro A4 c4 w4 s4 g4))
          | (go_simp; go_wp2_with (go_at_call 117; (first | refine (copyRI q 0 c _ (xs.take c) w1.drew RIt.out ltk.out (by omega)).mono ?_ | refine (copyRI q 0 c _ (xs.take c) (w1.alloc (.cells #[.int .i64 (c : Int)] 2)).drew RItA.out ltk.out (by omega)).mono ?_); rintro e w2 ⟨A2, c2, rfl, s2, b20⟩; have b2 := below_undrew b20; clear b20)))
        all_goals
          have B4 : Hid (Below w1.heap.size w1 w4) := Lib.hid (bb.grown g4 bb.size (fun j hj => (s3.lt_ j hj).1))
          have Sr4 := Lib.hid (Sr1.out.below B4.out (Nat.lt_of_lt_of_le hg hwb))
          have Gr4 := Lib.hid (grown_below2 Gr1.out B4.out)
          obtain ⟨q4, e4⟩ : ∃ q4, A4 = some ⟨q4, 0, none⟩ := by
            rcases s4.at_ with ⟨_, _, e0, _⟩ | ⟨q4, e0, _, _⟩
            · omega
            · exact ⟨q4, e0⟩
          subst e4
          have S4 := Lib.hid (s4.mono hwb)
          clear s4 g4 s3 g3 s2 b2 bb
          go_wp2_with fail
          go_roundg (n - (c + 1))
          case rel => exact ⟨c + 1, _, _, _, by omega, Nat.le_refl _, by go_num, rfl, S4.out, Sr4.out, Gr4.out⟩
          case measure => omega
      · go_wp2_with fail
        go_region_law (first
          | (refine step_appN rfl (.tmp 21) (.tmp 23) rfl w1.heap.size A2 r c2 (xs.take r) ?_ (s2.alloc _) w2.heap.size 0 1 1 [(k : Int)] ?_ (litRI w2 k) rfl ?_ ?_ (r + 1) rfl ?_; (simp [Act.eval, Act.put]); (simp [Act.eval, Act.put]); (omega); (have hz := b2.size; simp at hz ⊢; omega); (intro A3 c3 w3 s3 g3; have bb : Below w1.heap.size w1 w3 := (Below.alloc b2 b2.size _).grown g3 (by have hz := b2.size; simp at hz ⊢; omega) (fun j hj => (s2.lt_ j hj).1)))
          | (refine step_appN rfl (.tmp 21) (.tmp 23) rfl w1.heap.size A2 r c2 (xs.take r) ?_ (s2.mono (by simp)) w1.heap.size 0 1 1 [(k : Int)] ?_ (Lit.out.belowAll b2) rfl ?_ ?_ (r + 1) rfl ?_; (simp [Act.eval, Act.put]); (simp [Act.eval, Act.put]); (omega); (have hz := b2.size; simp at hz ⊢; omega); (intro A3 c3 w3 s3 g3; have bb : Below w1.heap.size w1 w3 := (btr ((Below.refl w1.heap.size w1).alloc (Nat.le_refl _) _) b2).grown g3 (by have hz := b2.size; simp at hz ⊢; omega) (fun j hj => Nat.le_trans (by simp) (s2.lt_ j hj).1)))
          | (refine step_appN rfl (.tmp 24) (.tmp 27) rfl w1.heap.size A3 (r + 1) c3 _ ?_ s3 q r (k - r) (c - r) (xs.drop r) ?_ (DrX.out _ bb) ldr.out ?_ ?_ (k + 1) ?_ ?_; (simp [Act.eval, Act.put]); (simp [Act.eval, Act.put]); (omega); (have hz := bb.size; omega); (omega); (intro A4 c4 w4 s4 g4))
          | (go_simp; go_wp2_with (go_at_call 117; (first | refine (copyRI q 0 r _ (xs.take r) w1.drew RIt.out ltk.out (by omega)).mono ?_ | refine (copyRI q 0 r _ (xs.take r) (w1.alloc (.cells #[.int .i64 (k : Int)] 2)).drew RItA.out ltk.out (by omega)).mono ?_); rintro e w2 ⟨A2, c2, rfl, s2, b20⟩; have b2 := below_undrew b20; clear b20)))
        all_goals
          have B4 : Hid (Below w1.heap.size w1 w4) := Lib.hid (bb.grown g4 bb.size (fun j hj => (s3.lt_ j hj).1))
          have Sr4 := Lib.hid (Sr1.out.below B4.out (Nat.lt_of_lt_of_le hg hwb))
          have Gr4 := Lib.hid (grown_below2 Gr1.out B4.out)
          obtain ⟨q4, e4⟩ : ∃ q4, A4 = some ⟨q4, 0, none⟩ := by
            rcases s4.at_ with ⟨_, _, e0, _⟩ | ⟨q4, e0, _, _⟩
            · omega
            · exact ⟨q4, e0⟩
          subst e4
          have S4 := Lib.hid (s4.mono hwb)
          clear s4 g4 s3 g3 s2 b2 bb
          go_wp2_with fail
          go_roundg (n - (k + 1))
          case rel => exact ⟨k + 1, _, _, _, by omega, Nat.le_refl _, by go_num, rfl, S4.out, Sr4.out, Gr4.out⟩
          case measure => omega
    · have hkn : k = n := by omega
      subst hkn
      go_wp2_with fail
      go_ret
      exact ⟨_, _, _, rfl, Sl.out, Sr.out, Gr.out⟩
end Go.Proofs.Ytkjokchhffjidaa

/- The model's buildChain: a chain whole from level 0 on, of what the generators generate. Conditions: at most 20 points, 8 generators. -/
namespace Go.Proofs.Ytkjokchhffjidaa
open Go.RowKit

/-- addGenerator keeps its contract at every level. -/
theorem specAddGen (base g N : Nat) (h1 : 1 ≤ N) (h2 : N ≤ 20) : ∀ m k, k + m = N → AGs base g N k
  | 0, k, e => by
    obtain rfl : k = N := by omega
    exact specAddGenTop base g k h1 h2
  | m + 1, k, e => specAddGen1 base g N k (by omega) (specAddProd base g N k (by omega) (specAddGen base g N h1 h2 m (k + 1) (by omega)))
theorem upTo0 (N : Nat) (h1 : 1 ≤ N) (h2 : N ≤ 20) : UpTo N (ch0 N) 0 := by
  have hrep : ∀ i y, (ch0 N).rep i y ≠ [] → y = i := fun i y h => by
    by_cases e : y = i
    · exact e
    · exact absurd (if_neg e) h
  have hone : ∀ i, (ch0 N).rep i i = idL N := fun i => if_pos rfl
  have hk : ∀ i, i < N → RepOK N (ch0 N) i := fun i hi => ⟨fun y hy => by
    obtain rfl := hrep i y hy
    rw [hone]; exact ⟨hi, pn_id h1 h2, fx_id (by omega), nx_id hi⟩, hone i⟩
  refine ⟨fun i _ hi => hk i hi, fun i _ _ g hg => (List.not_mem_nil hg).elim, fun i _ hi p => ⟨fun hs => ?_, fun hm => ?_⟩, fun i _ _ => Nat.zero_le _, rfl⟩
  · have : p = idL N := by
      clear hi
      induction hs with
      | top => rfl
      | @low i p hi hp hf hr _ ih =>
        have e := hrep i _ hr
        rw [e, hone, iv_id h1 h2, hp.idr] at ih
        exact ih (Nat.zero_le _)
    rw [this]; exact .one
  · rw [hm.none_]
    clear hm
    have : ∀ m i, i + m = N → Sv N (ch0 N) i (idL N) := fun m => by
      induction m with
      | zero => intro i e; obtain rfl : i = N := by omega
                exact .top
      | succ m ih =>
        intro i e
        exact (sv_down (hk i (by omega)) (by omega) (pn_id h1 h2) (fx_id (by omega)) (nx_id (by omega))).2 (ih (i + 1) (by omega))
    exact this (N - i) i (by omega)
/-- The chain is whole, and of what gs generate. -/
structure Whole (N : Nat) (gs : List (List Int)) (c : Ch) : Prop where
  up : UpTo N c 0
  mem : ∀ q, Mb (c.gen 0) N q ↔ Mb gs N q
theorem Whole.next {N : Nat} {gs : List (List Int)} {c c' : Ch} {p : List Int} (h1 : 1 ≤ N) (h2 : N ≤ 20) (hgs : ∀ g ∈ gs, Pn N g) (hp : Pn N p) (h : Whole N gs c) (ha : Ap N 0 c c' p) : Whole N (gs ++ [p]) c' := by
  have hgp : ∀ g ∈ c.gen 0, Pn N g := h.up.pn (Nat.le_refl _) (Nat.zero_le _)
  have a1 : ∀ g ∈ gs ++ [p], Pn N g := fun g hg => by
    rcases List.mem_append.1 hg with hg | hg
    · exact hgs g hg
    · obtain rfl := List.mem_singleton.1 hg; exact hp
  have a2 : ∀ g ∈ c.gen 0 ++ [p], Pn N g := fun g hg => by
    rcases List.mem_append.1 hg with hg | hg
    · exact hgp g hg
    · obtain rfl := List.mem_singleton.1 hg; exact hp
  refine ⟨ha.up, fun q => (ha.gen q).trans ⟨fun hq => hq.sub h1 h2 a1 fun g hg => ?_, fun hq => hq.sub h1 h2 a2 fun g hg => ?_⟩⟩
  · rcases List.mem_append.1 hg with hg | hg
    · exact ((h.mem g).1 (.of (hgp g hg) hg)).more fun g hg => List.mem_append_left _ hg
    · obtain rfl := List.mem_singleton.1 hg; exact .of hp (by simp)
  · rcases List.mem_append.1 hg with hg | hg
    · exact ((h.mem g).2 (.of (hgs g hg) hg)).more fun g hg => List.mem_append_left _ hg
    · obtain rfl := List.mem_singleton.1 hg; exact .of hp (by simp)

set_option maxHeartbeats 2000000 in
set_option maxRecDepth 100000 in
theorem specBuild (N n cc : Nat) (A : Option Addr) (vs : List SV) (gs : List (List Int)) (w : World) (hx : RR w w.heap.size A n vs gs) (hN1 : 1 ≤ N) (hN : N ≤ 20) (hn : n ≤ 8) (ok : Hid (∀ g ∈ gs, IsP g ∧ g.length = N)) :
    Calls Try.prog 94 #[.int .i64 (N : Nat), .slice A n cc] w fun e w' => ∃ g L c, e = .returned (.pointer (some ⟨g, 0, none⟩)) ∧ Cn w' w.heap.size g N c L ∧ Whole N gs c ∧ Below w.heap.size w w' := by
  have HX := Lib.hid hx
  have hlx : Hid (gs.length = n) := Lib.hid hx.lx
  clear hx
  go_enter Try.func94, Try.ntmps94
  go_wp2_with fail
  refine (specEmpty N w hN1 hN).mono ?_
  rintro e w1 ⟨g, L, rfl, hc1, b1⟩
  have C1 := Lib.hid hc1
  have B1 := Lib.hid b1
  have U0 := Lib.hid (upTo0 N hN1 hN)
  clear hc1 b1
  go_wp2_with fail
  go_loopw [6] (fun i wr => ∃ (j : Nat) (c : Ch) (L : LY), j ≤ n ∧ i = .int .i64 (j : Nat) ∧ Cn wr w.heap.size g N c L ∧ Whole N (gs.take j) c ∧ Below w.heap.size w wr) (fun i _ => n - (intOf i).toNat)
  case atStart => exact ⟨0, _, L, Nat.zero_le _, rfl, C1.out, ⟨U0.out, fun q => by rw [List.take_zero]; exact Iff.rfl⟩, B1.out⟩
  case round =>
    clear C1 B1 U0
    obtain ⟨j, c, L, hj, rfl, hc, hw, bel⟩ := hrel
    have C2 := Lib.hid hc
    have W2 := Lib.hid hw
    have Be := Lib.hid bel
    clear hc hw bel
    by_cases hlt : j < n
    · obtain ⟨b, off, A5, l, c5, y, rfl, hb, hv, ey, x1, ri, ly, hl5⟩ := (HX.out.up Be.out).at_ hlt
      have hyP := ok.out y (by rw [← ey]; exact getD_memL (by rw [hlx.out]; exact hlt))
      obtain rfl : l = N := by omega
      have Ri := Lib.hid ri
      have YP : Hid (Pn l y) := Lib.hid hyP
      obtain ⟨b5, off5, rfl, hb5, hc5⟩ := ri (by omega)
      have Ey := Lib.hid ey
      have q0 : (0 : Int) ≤ j := by omega
      have q1 : (j : Int) < n := by omega
      clear hv ey hb ri hb5 hc5 hyP
      go_wp2_with fail
      refine (copyRI b5 off5 l c5 y wr Ri.out (Lib.hid ly) (by omega)).mono ?_
      rintro e w2 ⟨A2, c2, rfl, s2, b2⟩
      have S2 : Hid (Slc w2 w.heap.size A2 l c2 y) := Lib.hid (s2.mono Be.out.size)
      have C3 := Lib.hid (C2.out.up b2)
      have Be2 : Hid (Below w.heap.size w w2) := Lib.hid (btr Be.out b2)
      have hz2 := Be2.out.size
      clear s2 b2
      go_wp2_with fail
      have K := specAddGen w.heap.size g l hN1 hN l 0 (by omega) c2 A2 c L y w2 C3.out S2.out YP.out Fx.zero W2.out.up
      refine K.mono ?_
      rintro e w3 ⟨c', L', rfl, hc3, hch, hmt, hap⟩
      have C4 := Lib.hid hc3
      have Be3 : Hid (Below w.heap.size w w3) := Lib.hid (Be2.out.trans (hch.below (fun k hk => (C3.out.mut hk).1) hz2))
      have W4 : Hid (Whole l (gs.take (j + 1)) c') := Lib.hid (by
        rw [List.take_succ_eq_append_getElem (by rw [hlx.out]; exact hlt)]
        have e1 : gs[j]'(by rw [hlx.out]; exact hlt) = y := by rw [← Ey.out, List.getD_eq_getElem?_getD, List.getElem?_eq_getElem (by rw [hlx.out]; exact hlt)]; rfl
        rw [e1]
        exact W2.out.next hN1 hN (fun g hg => ok.out g (List.mem_of_mem_take hg)) YP.out hap)
      clear K hc3 hch hmt hap
      go_wp2_with fail
      go_roundw
      case rel => exact ⟨j + 1, c', L', by omega, by go_num, C4.out, W4.out, Be3.out⟩
      case measure => simp [intOf]; omega
    · obtain rfl : j = n := by omega
      have W3 : Hid (Whole N gs c) := Lib.hid (by have := W2.out; rwa [List.take_of_length_le (by rw [hlx.out]; exact Nat.le_refl _)] at this)
      go_wp2_with fail
      go_ret
      exact ⟨g, L, c, rfl, C2.out, W3.out, Be.out⟩
end Go.Proofs.Ytkjokchhffjidaa

/- What a whole chain tells: orbit sizes, the order, membership; what these are for the group. Conditions: at most 20 points, 8 generators. -/
namespace Go.Proofs.Ytkjokchhffjidaa
open Go.RowKit

/-! ### the group's own numbers -/
section
variable {N : Nat} {gs hs : List (List Int)} {c : Ch}
theorem Whole.stab (h : Whole N gs c) (h1 : 1 ≤ N) (h2 : N ≤ 20) : ∀ i, i ≤ N → ∀ p, Mb (c.gen i) N p ↔ Mb gs N p ∧ Fx i p
  | 0, _, p => by rw [h.mem]; exact ⟨fun h => ⟨h, Fx.zero⟩, fun h => h.1⟩
  | i + 1, hi, p => by
    have ih := h.stab h1 h2 i (by omega)
    have hr := h.up.rep i (Nat.zero_le _) hi
    have hpn : ∀ g ∈ c.gen 0, Pn N g := h.up.pn (Nat.le_refl _) (Nat.zero_le _)
    constructor
    · intro hm
      have hp := hm.pn (h.up.pn (Nat.zero_le _) hi) h1 h2
      have hf : Fx (i + 1) p := by
        rcases Nat.lt_or_ge (i + 1) N with hl | hl
        · exact hm.fx (h.up.gp (i + 1) (Nat.zero_le _) hl) h1 h2 hi
        · obtain rfl : i + 1 = N := by omega
          rw [h.up.top] at hm
          rw [hm.none_]; exact fx_id (Nat.le_refl _)
      have hs := (sv_down hr hi hp (hf.mono (by omega)) (hf i (by omega))).2 ((h.up.sv (i + 1) (Nat.zero_le _) hi p).2 hm)
      exact ⟨((ih p).1 ((h.up.sv i (Nat.zero_le _) (by omega) p).1 hs)).1, hf⟩
    · rintro ⟨hm, hf⟩
      have hp := ((h.mem p).2 hm).pn hpn h1 h2
      have hs := (h.up.sv i (Nat.zero_le _) (by omega) p).2 ((ih p).2 ⟨hm, hf.mono (by omega)⟩)
      exact (h.up.sv (i + 1) (Nat.zero_le _) hi p).1 ((sv_down hr hi hp (hf.mono (by omega)) (hf i (by omega))).1 hs)
theorem Whole.rep_mb (h : Whole N gs c) (h1 : 1 ≤ N) (h2 : N ≤ 20) {i y : Nat} (hi : i < N) (hy : c.rep i y ≠ []) : Mb gs N (c.rep i y) ∧ Fx i (c.rep i y) ∧ nx (c.rep i y) i = y ∧ y < N := by
  have hl := (h.up.mono (Nat.zero_le i)).low hi h1 h2
  have h3 := (h.stab h1 h2 i (by omega) _).1 (hl.inn y hy)
  obtain ⟨a1, a2, a3, a4⟩ := hl.rep.at_ y hy
  exact ⟨h3.1, a3, a4, a1⟩
theorem Whole.rep_iff (h : Whole N gs c) (h1 : 1 ≤ N) (h2 : N ≤ 20) {i y : Nat} (hi : i < N) : c.rep i y ≠ [] ↔ ∃ p, Mb gs N p ∧ Fx i p ∧ nx p i = y := by
  constructor
  · intro hy
    obtain ⟨a, b, d, _⟩ := h.rep_mb h1 h2 hi hy
    exact ⟨_, a, b, d⟩
  · rintro ⟨p, hm, hf, rfl⟩
    exact (((h.up.sv i (Nat.zero_le _) (by omega) p).2 ((h.stab h1 h2 i (by omega) p).2 ⟨hm, hf⟩)).inv_low hi).2.2.1
/-- The sizes of the orbits of the points under the members that fix the points before them. -/
def IsOS (N : Nat) (gs : List (List Int)) (xs : List Int) : Prop := xs.length = N ∧ ∀ i, i < N → ∃ l : List Nat, l.Nodup ∧ (∀ y, y ∈ l ↔ y < N ∧ ∃ p, Mb gs N p ∧ Fx i p ∧ nx p i = y) ∧ xs.getD i 0 = (l.length : Int)
theorem IsOS.uniq {xs ys : List Int} (h : IsOS N gs xs) (h' : IsOS N gs ys) : xs = ys := by
  refine ext_getD h.1 h'.1 fun i hi => ?_
  obtain ⟨l, d, m, e⟩ := h.2 i hi
  obtain ⟨l', d', m', e'⟩ := h'.2 i hi
  have a := nd_sub d (fun x hx => (m' x).2 ((m x).1 hx))
  have b := nd_sub d' (fun x hx => (m x).2 ((m' x).1 hx))
  rw [e, e']; omega
/-- How many representatives a level has. -/
def nr (N : Nat) (c : Ch) (i m : Nat) : Nat := ((List.range m).filter fun y => !(c.rep i y).isEmpty).length
def osL (N : Nat) (c : Ch) (m : Nat) : List Int := (List.range m).map fun i => (nr N c i N : Int)
theorem nr_zero (N : Nat) (c : Ch) (i : Nat) : nr N c i 0 = 0 := rfl
theorem nr_yes {i m : Nat} (h : c.rep i m ≠ []) : nr N c i (m + 1) = nr N c i m + 1 := by
  unfold nr; rw [List.range_succ, List.filter_append]; simp [List.isEmpty_eq_false_iff.2 h]
theorem nr_no {i m : Nat} (h : c.rep i m = []) : nr N c i (m + 1) = nr N c i m := by
  unfold nr; rw [List.range_succ, List.filter_append]; simp [h]
theorem nr_le (i m : Nat) : nr N c i m ≤ m := by
  have := List.length_filter_le (fun y => !(c.rep i y).isEmpty) (List.range m)
  simpa [nr] using this
theorem osL_succ (m : Nat) : osL N c (m + 1) = osL N c m ++ [(nr N c m N : Int)] := by simp [osL, List.range_succ]
theorem osL_len (m : Nat) : (osL N c m).length = m := by simp [osL]
theorem osL_at {i m : Nat} (hi : i < m) : (osL N c m).getD i 0 = (nr N c i N : Int) := by
  unfold osL
  rw [List.getD_eq_getElem?_getD, List.getElem?_map, List.getElem?_range hi]; rfl
theorem Whole.os (h : Whole N gs c) (h1 : 1 ≤ N) (h2 : N ≤ 20) : IsOS N gs (osL N c N) := by
  refine ⟨osL_len N, fun i hi => ⟨(List.range N).filter fun y => !(c.rep i y).isEmpty, List.nodup_range.filter _, fun y => ?_, osL_at hi⟩⟩
  rw [List.mem_filter, List.mem_range, Bool.not_eq_true', List.isEmpty_eq_false_iff, h.rep_iff h1 h2 hi]
/-- Level i has a representative of i itself, and none below. -/
theorem Whole.nr_pos (h : Whole N gs c) (h1 : 1 ≤ N) {i : Nat} (hi : i < N) : 1 ≤ nr N c i N ∧ nr N c i N ≤ N - i := by
  have hr := h.up.rep i (Nat.zero_le _) hi
  constructor
  · unfold nr
    refine List.length_pos_of_mem (a := i) ?_
    rw [List.mem_filter, List.mem_range, Bool.not_eq_true', List.isEmpty_eq_false_iff]
    exact ⟨hi, by rw [hr.one]; intro e; have := idL_length N; rw [e] at this; simp at this; omega⟩
  · have : ((List.range N).filter fun y => !(c.rep i y).isEmpty).length ≤ (List.range' i (N - i)).length := by
      refine nd_sub (List.nodup_range.filter _) fun y hy => ?_
      rw [List.mem_filter, List.mem_range, Bool.not_eq_true', List.isEmpty_eq_false_iff] at hy
      obtain ⟨a1, a2, a3, a4⟩ := hr.at_ y hy.2
      have := a3.ge a2 hi
      rw [List.mem_range'_1]; omega
    simpa [nr] using this
/-- The product. -/
def prodL (l : List Int) : Int := l.foldl (fun a x => a * x) 1
theorem prodL_snoc (l : List Int) (x : Int) : prodL (l ++ [x]) = prodL l * x := by simp [prodL]
def facts : Nat → Nat → Nat
  | _, 0 => 1
  | N, m + 1 => facts N m * (N - m)
theorem facts_pos {N : Nat} : ∀ {m : Nat}, m ≤ N → 1 ≤ facts N m
  | 0, _ => Nat.le_refl _
  | m + 1, h => Nat.mul_pos (facts_pos (by omega)) (by omega)
theorem facts_mono {N m : Nat} (h : m < N) : facts N m ≤ facts N (m + 1) := Nat.le_mul_of_pos_right _ (by omega)
theorem facts_le {N : Nat} (hN : N ≤ 20) : ∀ m, m ≤ N → facts N m ≤ 2432902008176640000 := by
  have hall : ∀ N, N ≤ 20 → ∀ m, m ≤ N → facts N m ≤ 2432902008176640000 := by decide +kernel
  exact hall N hN
theorem Whole.prod_le (h : Whole N gs c) (h1 : 1 ≤ N) : ∀ m, m ≤ N → 1 ≤ prodL (osL N c m) ∧ prodL (osL N c m) ≤ (facts N m : Int)
  | 0, _ => by simp [osL, prodL, facts]
  | m + 1, hm => by
    obtain ⟨a, b⟩ := h.prod_le h1 m (by omega)
    obtain ⟨d, e⟩ := h.nr_pos h1 (i := m) hm
    rw [osL_succ, prodL_snoc]
    refine ⟨?_, ?_⟩
    · have := Int.mul_le_mul a (show (1 : Int) ≤ (nr N c m N : Int) by omega) (by omega) (by omega)
      simpa using this
    · have := Int.mul_le_mul b (show (nr N c m N : Int) ≤ ((N - m : Nat) : Int) by omega) (by omega) (by omega)
      show _ ≤ ((facts N m * (N - m) : Nat) : Int)
      rw [Int.natCast_mul]; exact this
end

set_option maxHeartbeats 400000 in
theorem specB2I (b : Bool) (w : World) : Calls Try.prog 125 #[.bool b] w fun e w' => e = .returned (.int .i64 (if b then 1 else 0)) ∧ w = w' := by
  cases b
  · go_enter Try.func125, Try.ntmps125
    go_wp2
    go_ret
    exact ⟨rfl, rfl⟩
  · go_enter Try.func125, Try.ntmps125
    go_wp2
    go_ret
    exact ⟨rfl, rfl⟩

set_option maxHeartbeats 2000000 in
set_option maxRecDepth 100000 in
theorem specSizes (base g N : Nat) (c : Ch) (L : LY) (gs : List (List Int)) (w : World) (hc : Cn w base g N c L) (hw : Whole N gs c) (hN1 : 1 ≤ N) (hN : N ≤ 20) :
    Calls Try.prog 114 #[.pointer (some ⟨g, 0, none⟩)] w fun e w' => ∃ A' c', e = .returned (.slice A' N c') ∧ Slc w' w.heap.size A' N c' (osL N c N) ∧ Below w.heap.size w w' := by
  have HC := Lib.hid hc
  have HW := Lib.hid hw
  have S0 := Lib.hid (Slc.lit0 w w.heap.size (Nat.le_refl _))
  clear hc hw
  go_enter Try.func114, Try.ntmps114
  go_wp2_with fail
  go_loopg [3, 4] N (fun gg v i wr => ∃ (k cc : Nat) (A : Option Addr), k ≤ N ∧ N - k ≤ gg ∧ i = .int .i64 (k : Nat) ∧ v = .slice A k cc ∧ Slc wr w.heap.size A k cc (osL N c k) ∧ Below w.heap.size w wr)
  case atStart => exact ⟨0, _, _, Nat.zero_le _, by omega, rfl, rfl, S0.out, (Below.refl _ _).alloc (Nat.le_refl _) _⟩
  case round =>
    clear S0
    obtain ⟨k, cc, A, hk, hgg, rfl, rfl, hs, bel⟩ := hrel
    have Ss := Lib.hid hs
    have Be := Lib.hid bel
    have C1 := Lib.hid (HC.out.up bel)
    have x0 := C1.out.c0
    clear hs bel
    by_cases hlt : k < N
    · go_wp2_with fail
      go_loopg [5, 6] N (fun gg s y wr2 => ∃ m : Nat, m ≤ N ∧ N - m ≤ gg ∧ y = .int .i64 (m : Nat) ∧ s = .int .i64 (nr N c k m : Nat) ∧ wr = wr2)
      case atStart => exact ⟨0, Nat.zero_le _, by omega, rfl, rfl, rfl⟩
      case round =>
        obtain ⟨m, hm, hg2, rfl, rfl, rfl⟩ := hrel
        by_cases hmt : m < N
        · have x1 := C1.out.c1
          have x2 := C1.out.cR hlt
          have x3 := C1.out.cro hlt hmt
          have en := C1.out.enn hlt hmt
          rcases hd : (L.en k).getD m sd0 with ⟨dA, dn, dc⟩
          rw [hd] at x3 en
          simp only [sval] at x3
          have q0 : (0 : Int) ≤ k := by omega
          have q1 : (k : Int) < N := by omega
          have q2 : (0 : Int) ≤ m := by omega
          have q3 : (m : Int) < N := by omega
          have hnm := nr_le (N := N) (c := c) k m
          have en2 : dn = (c.rep k m).length := en
          by_cases hz : c.rep k m = []
          · obtain rfl : dn = 0 := by rw [en2, hz]; rfl
            have d0 : decide ((0 : Int) < 0) = false := by decide
            have Kn := Lib.hid (nr_no (N := N) hz)
            clear hd en en2
            go_wp2_with (first | (go_at_call 125; refine (specB2I _ _).mono ?_; rintro e w' ⟨rfl, rfl⟩))
            go_roundg (N - (m + 1))
            case rel => exact ⟨m + 1, by omega, by omega, by go_num, by rw [Kn.out], rfl⟩
            case measure => omega
          · obtain rfl : dn = N := by
              have h2 := rep_ne_pos (HW.out.up.rep k (Nat.zero_le _) hlt) hz
              omega
            have d0 : decide ((0 : Int) < (dn : Int)) = true := by simp; omega
            have Kn := Lib.hid (nr_yes (N := dn) hz)
            clear hd en en2
            go_wp2_with (first | (go_at_call 125; refine (specB2I _ _).mono ?_; rintro e w' ⟨rfl, rfl⟩))
            go_roundg (dn - (m + 1))
            case rel => exact ⟨m + 1, by omega, by omega, by go_num, by rw [Kn.out]; go_num, rfl⟩
            case measure => omega
        · obtain rfl : m = N := by omega
          have hzr := Be.out.size
          have Osk := Lib.hid (osL_succ (N := m) (c := c) k)
          go_wp2_with (at_builtin; refine wpList_app1 rfl _ _ rfl w.heap.size A k cc _ rfl (Ss.out.alloc _) wr.heap.size (nr m c k m : Int) rfl (by rw [World.cell?_alloc_at _ _ _ _ rfl]; rfl) (by omega) (by simp; omega) ?_; intro A3 c3 w3 s3 g3)
          have S3 : Hid (Slc w3 w.heap.size A3 (k + 1) c3 (osL m c (k + 1))) := Lib.hid (by rw [Osk.out]; exact s3)
          have B3 : Hid (Below w.heap.size w w3) := Lib.hid ((Be.out.alloc hzr _).grown g3 (by simp; omega) (fun j hj => (Ss.out.lt_ j hj).1))
          clear s3 g3
          go_wp2_with fail
          go_roundg (m - (k + 1))
          case rel => exact ⟨k + 1, _, _, by omega, by omega, by go_num, rfl, S3.out, B3.out⟩
          case measure => omega
    · obtain rfl : k = N := by omega
      go_wp2_with fail
      go_ret
      exact ⟨_, _, rfl, Ss.out, Be.out⟩

theorem specOrder (base g N : Nat) (c : Ch) (L : LY) (gs : List (List Int)) (w : World) (hc : Cn w base g N c L) (hw : Whole N gs c) (hN1 : 1 ≤ N) (hN : N ≤ 20) :
    Calls Try.prog 93 #[.pointer (some ⟨g, 0, none⟩)] w fun e w' => e = .returned (.int .i64 (prodL (osL N c N))) ∧ Below w.heap.size w w' := by
  have HC := Lib.hid hc
  have HW := Lib.hid hw
  clear hc hw
  go_enter Try.func93, Try.ntmps93
  go_wp2_with fail
  refine (specSizes base g N c L gs w HC.out HW.out hN1 hN).mono ?_
  rintro e w1 ⟨A, cc, rfl, s1, b1⟩
  have S1 := Lib.hid s1
  have B1 := Lib.hid b1
  clear s1 b1
  go_wp2_with fail
  go_loop [3, 5] (fun o i => ∃ k : Nat, k ≤ N ∧ i = .int .i64 (k : Nat) ∧ o = .int .i64 (prodL (osL N c k))) (fun _ i => N - (intOf i).toNat)
  case atStart => exact ⟨0, Nat.zero_le _, rfl, rfl⟩
  case round =>
    obtain ⟨k, hk, rfl, rfl⟩ := hrel
    by_cases hlt : k < N
    · obtain ⟨b, off, rfl, hb, hcell⟩ := S1.out.ri_ (by rw [S1.out.1]; omega)
      have x1 := hcell k (by rw [S1.out.1]; exact hlt)
      rw [osL_at hlt] at x1
      have pl := HW.out.prod_le hN1 (k + 1) hlt
      have pf := facts_le hN (k + 1) hlt
      rw [osL_succ, prodL_snoc] at pl
      have wr1 : IntKind.i64.wrap (prodL (osL N c k) * (nr N c k N : Int)) = prodL (osL N c k) * (nr N c k N : Int) := by rw [IntKind.wrap_i64]; omega
      have e1 : prodL (osL N c (k + 1)) = prodL (osL N c k) * (nr N c k N : Int) := by rw [osL_succ, prodL_snoc]
      have E1 := Lib.hid e1
      have q0 : (0 : Int) ≤ k := by omega
      have q1 : (k : Int) < N := by omega
      clear hb hcell pl pf e1
      go_wp2_with fail
      go_round
      case rel => exact ⟨k + 1, by omega, by go_num, by rw [E1.out]⟩
      case measure => simp [intOf]; omega
    · obtain rfl : k = N := by omega
      go_wp2_with fail
      go_ret
      exact ⟨rfl, B1.out⟩
theorem specHas (base g N cp : Nat) (A : Option Addr) (c : Ch) (L : LY) (gs : List (List Int)) (p : List Int) (w : World) (hc : Cn w base g N c L) (hw : Whole N gs c) (hp : RI w w.heap.size A p) (hP : Hid (Pn N p)) (ans : Bool) (ha : Hid (ans = true ↔ Mb gs N p)) :
    Calls Try.prog 96 #[.pointer (some ⟨g, 0, none⟩), .slice A N cp] w fun e w' => e = .returned (.bool ans) ∧ Below w.heap.size w w' := by
  have HC := Lib.hid hc
  have HW := Lib.hid hw
  have HP := Lib.hid hp
  clear hc hw hp
  go_enter Try.func96, Try.ntmps96
  go_wp2_with fail
  have K := specSift base g N 0 cp A c L p w HC.out HP.out hP (Lib.hid Fx.zero) (Nat.zero_le _) (Lib.hid HW.out.up.rep)
  refine K.mono ?_
  rintro e w1 ⟨A1, n1, c1, lvl, rfl, hlv, hle, b1⟩
  have C1 := Lib.hid (HC.out.up b1)
  have B1 := Lib.hid b1
  have x0 := C1.out.c0
  have e1 : ((lvl : Int) == (N : Int)) = ans := by
    have h1 : Sv N c 0 p ↔ Mb gs N p := (HW.out.up.sv 0 (Nat.le_refl _) (Nat.zero_le _) p).trans (HW.out.mem p)
    have h2 : ans = true ↔ lvl = N := ha.out.trans (h1.symm.trans hlv.symm)
    rw [Bool.eq_iff_iff, h2, beq_iff_eq]; omega
  clear K hlv hle b1
  go_wp2_with fail
  go_ret
  exact ⟨rfl, B1.out⟩
end Go.Proofs.Ytkjokchhffjidaa

/- How many members a group of permutations and its stabilizers have: the product of the orbit sizes; conjugate groups. No Go in it. No condition. -/
namespace Go.Proofs.Ytkjokchhffjidaa
open Go.RowKit

/-! ### lists without repeats -/
theorem nd_subA {α : Type} [BEq α] [LawfulBEq α] {l' : List α} : ∀ {l : List α}, l'.Nodup → (∀ x ∈ l', x ∈ l) → l'.length ≤ l.length := by
  induction l' with
  | nil => intro l _ _; simp
  | cons a t ih =>
    intro l hd h
    rw [List.nodup_cons] at hd
    have ha : a ∈ l := h a (by simp)
    have := ih (l := l.erase a) hd.2 fun x hx => by
      have hne : x ≠ a := fun e => hd.1 (e ▸ hx)
      exact (List.mem_erase_of_ne hne).2 (h x (by simp [hx]))
    rw [List.length_erase_of_mem ha] at this
    have h0 : 0 < l.length := List.length_pos_of_mem ha
    simp; omega
theorem nd_mapA {α β : Type} {f : α → β} {l : List α} (hd : l.Nodup) (hf : ∀ x ∈ l, ∀ y ∈ l, f x = f y → x = y) : (l.map f).Nodup := by
  induction l with
  | nil => simp
  | cons a t ih =>
    rw [List.nodup_cons] at hd
    rw [List.map_cons, List.nodup_cons]
    refine ⟨fun hm => ?_, ih hd.2 fun x hx y hy => hf x (by simp [hx]) y (by simp [hy])⟩
    obtain ⟨b, hb, e⟩ := List.mem_map.1 hm
    have := hf b (by simp [hb]) a (by simp) e
    subst this
    exact hd.1 hb
theorem flat_nd {β : Type} {f : Nat → List β} {m : Nat} : ∀ {O : List Nat}, O.Nodup → (∀ y ∈ O, (f y).Nodup) → (∀ y ∈ O, ∀ z ∈ O, y ≠ z → ∀ p, p ∈ f y → p ∉ f z) → (∀ y ∈ O, (f y).length = m) →
    (O.flatMap f).Nodup ∧ (O.flatMap f).length = O.length * m
  | [], _, _, _, _ => by simp
  | a :: t, hd, h1, h2, h3 => by
    rw [List.nodup_cons] at hd
    obtain ⟨i1, i2⟩ := flat_nd (O := t) hd.2 (fun y hy => h1 y (by simp [hy])) (fun y hy z hz => h2 y (by simp [hy]) z (by simp [hz])) (fun y hy => h3 y (by simp [hy]))
    rw [List.flatMap_cons]
    refine ⟨List.nodup_append.2 ⟨h1 a (by simp), i1, fun p hp q hq e => ?_⟩, ?_⟩
    · subst e
      obtain ⟨z, hz, hq⟩ := List.mem_flatMap.1 hq
      exact h2 a (by simp) z (by simp [hz]) (fun e => hd.1 (e ▸ hz)) p hp hq
    · rw [List.length_append, i2, h3 a (by simp), List.length_cons, Nat.succ_mul]; omega

/-! ### how many -/
def Crd (P : List Int → Prop) (v : Nat) : Prop := ∃ l : List (List Int), l.Nodup ∧ (∀ p, p ∈ l ↔ P p) ∧ v = l.length
section
variable {P Q : List Int → Prop} {v u : Nat}
theorem Crd.uniq (h : Crd P v) (h' : Crd P u) : v = u := by
  obtain ⟨l, d, m, rfl⟩ := h
  obtain ⟨l', d', m', rfl⟩ := h'
  have a := nd_subA d fun x hx => (m' x).2 ((m x).1 hx)
  have b := nd_subA d' fun x hx => (m x).2 ((m' x).1 hx)
  omega
theorem Crd.congr (h : Crd P v) (e : ∀ p, P p ↔ Q p) : Crd Q v := by
  obtain ⟨l, d, m, rfl⟩ := h
  exact ⟨l, d, fun p => (m p).trans (e p), rfl⟩
theorem Crd.map (h : Crd P v) (f : List Int → List Int) (hf : ∀ p, P p → ∀ q, P q → f p = f q → p = q) (e : ∀ q, Q q ↔ ∃ p, P p ∧ q = f p) : Crd Q v := by
  obtain ⟨l, d, m, rfl⟩ := h
  refine ⟨l.map f, nd_mapA d fun x hx y hy => hf x ((m x).1 hx) y ((m y).1 hy), fun q => ?_, by simp⟩
  rw [e, List.mem_map]
  exact ⟨fun ⟨p, hp, e⟩ => ⟨p, (m p).1 hp, e.symm⟩, fun ⟨p, hp, e⟩ => ⟨p, (m p).2 hp, e.symm⟩⟩
end

/-! ### the product of the orbit sizes from one level on -/
def pr (xs : List Int) (k : Nat) : Nat → Int
  | 0 => 1
  | m + 1 => pr xs k m * xs.getD (k + m) 0
theorem pr_front (xs : List Int) (k : Nat) : ∀ m, pr xs k (m + 1) = xs.getD k 0 * pr xs (k + 1) m
  | 0 => by show (1 : Int) * xs.getD (k + 0) 0 = xs.getD k 0 * 1; rw [Int.one_mul, Int.mul_one]; rfl
  | m + 1 => by
    show pr xs k (m + 1) * xs.getD (k + (m + 1)) 0 = xs.getD k 0 * (pr xs (k + 1) m * xs.getD (k + 1 + m) 0)
    rw [pr_front xs k m, Int.mul_assoc, show k + (m + 1) = k + 1 + m by omega]
theorem prodL_take (xs : List Int) : ∀ m, m ≤ xs.length → prodL (xs.take m) = pr xs 0 m
  | 0, _ => rfl
  | m + 1, h => by
    rw [List.take_succ_eq_append_getElem (by omega), prodL_snoc, prodL_take xs m (by omega)]
    show _ = pr xs 0 m * xs.getD (0 + m) 0
    rw [Nat.zero_add, List.getD_eq_getElem?_getD, List.getElem?_eq_getElem (by omega)]; rfl
theorem prodL_pr (xs : List Int) : prodL xs = pr xs 0 xs.length := by rw [← prodL_take xs _ (Nat.le_refl _), List.take_length]
section
variable {N : Nat} {gs : List (List Int)} {xs : List Int}
theorem IsOS.card (h : IsOS N gs xs) (hg : ∀ g ∈ gs, Pn N g) (h1 : 1 ≤ N) (h2 : N ≤ 20) : ∀ m k, k + m = N → ∃ v, Crd (fun p => Mb gs N p ∧ Fx k p) v ∧ pr xs k m = (v : Int)
  | 0, k, e => by
    obtain rfl : k = N := by omega
    refine ⟨1, ⟨[idL k], by simp, fun p => ?_, rfl⟩, rfl⟩
    rw [List.mem_singleton]
    exact ⟨fun e => e ▸ ⟨.one, fx_id (Nat.le_refl _)⟩, fun ⟨a, b⟩ => b.all (a.pn hg h1 h2)⟩
  | m + 1, k, e => by
    obtain ⟨v, ⟨l, d, hm, rfl⟩, hv⟩ := h.card hg h1 h2 m (k + 1) (by omega)
    obtain ⟨O, dO, hO, ex⟩ := h.2 k (by omega)
    have hk : k < N := by omega
    have hr : ∃ r : Nat → List Int, ∀ y ∈ O, Mb gs N (r y) ∧ Fx k (r y) ∧ nx (r y) k = y := by
      refine ⟨fun y => if hy : y ∈ O then Classical.choose ((hO y).1 hy).2 else [], fun y hy => ?_⟩
      simp only [hy, dif_pos]
      exact Classical.choose_spec ((hO y).1 hy).2
    obtain ⟨r, hr⟩ := hr
    have hpn : ∀ p, Mb gs N p → Pn N p := fun p hp => hp.pn hg h1 h2
    have hat : ∀ y ∈ O, ∀ p, p ∈ l → nx (compL p (r y)) k = y := fun y hy p hp => by
      have h3 := (hm p).1 hp
      rw [(hpn p h3.1).nxc hk, h3.2 k (by omega), (hr y hy).2.2]
    obtain ⟨i1, i2⟩ := flat_nd (O := O) (f := fun y => l.map fun p => compL p (r y)) (m := l.length) dO
      (fun y hy => nd_mapA d fun p hp q hq e => by
        have hp' := hpn p ((hm p).1 hp).1
        have hq' := hpn q ((hm q).1 hq).1
        have hry := hpn _ (hr y hy).1
        have : compL (compL p (r y)) (iv (r y)) = compL (compL q (r y)) (iv (r y)) := congrArg (fun t => compL t (iv (r y))) e
        rw [hp'.assoc hry, hq'.assoc hry, hry.ci, hp'.idr, hq'.idr] at this
        exact this)
      (fun y hy z hz hne p hp hp2 => by
        obtain ⟨q, hq, rfl⟩ := List.mem_map.1 hp
        obtain ⟨q', hq', e'⟩ := List.mem_map.1 hp2
        exact hne (by rw [← hat y hy q hq, ← hat z hz q' hq', e']))
      (fun y hy => by simp)
    refine ⟨O.length * l.length, ⟨_, i1, fun p => ?_, i2.symm⟩, ?_⟩
    · rw [List.mem_flatMap]
      constructor
      · rintro ⟨y, hy, hp⟩
        obtain ⟨q, hq, rfl⟩ := List.mem_map.1 hp
        obtain ⟨a, b⟩ := (hm q).1 hq
        obtain ⟨a', b', _⟩ := hr y hy
        exact ⟨a.comp hg h1 h2 a', (b.mono (by omega)).comp (hpn q a) b' (by omega)⟩
      · rintro ⟨a, b⟩
        have hp := hpn p a
        have hy : nx p k ∈ O := (hO _).2 ⟨hp.lt hk, p, a, b, rfl⟩
        obtain ⟨a', b', e'⟩ := hr _ hy
        have hrp := hpn _ a'
        refine ⟨_, hy, List.mem_map.2 ⟨compL p (iv (r (nx p k))), (hm _).2 ⟨a.comp hg h1 h2 (a'.inv hg h1 h2), ?_⟩, ?_⟩⟩
        · refine Fx.succ (b.comp hp (b'.iv hrp (by omega)) (by omega)) ?_
          rw [hp.nxc hk]
          have := hrp.nxi (x := k) hk
          rw [e'] at this; exact this
        · rw [hp.assoc hrp.iv, hrp.ic, hp.idr]
    · rw [pr_front, ex, hv, Int.natCast_mul]
/-- The order is the number of members. -/
theorem IsOS.order (h : IsOS N gs xs) (hg : ∀ g ∈ gs, Pn N g) (h1 : 1 ≤ N) (h2 : N ≤ 20) : ∃ v, Crd (Mb gs N) v ∧ prodL xs = (v : Int) := by
  obtain ⟨v, hc, e⟩ := h.card hg h1 h2 N 0 (by omega)
  exact ⟨v, hc.congr fun p => ⟨fun h => h.1, fun h => ⟨h, Fx.zero⟩⟩, by rw [prodL_pr, h.1]; exact e⟩
end

section
variable {N : Nat} {gs : List (List Int)} {xs : List Int}
theorem IsOS.bnd (h : IsOS N gs xs) (hg : ∀ g ∈ gs, Pn N g) (h1 : 1 ≤ N) (h2 : N ≤ 20) {i : Nat} (hi : i < N) : 1 ≤ xs.getD i 0 ∧ xs.getD i 0 ≤ ((N - i : Nat) : Int) := by
  obtain ⟨l, d, m, e⟩ := h.2 i hi
  rw [e]
  constructor
  · have : i ∈ l := (m i).2 ⟨hi, idL N, .one, fx_id (by omega), nx_id hi⟩
    have := List.length_pos_of_mem this
    omega
  · have : l.length ≤ (List.range' i (N - i)).length := by
      refine nd_sub d fun y hy => ?_
      obtain ⟨hy, p, hp, hf, rfl⟩ := (m y).1 hy
      have := hf.ge (hp.pn hg h1 h2) hi
      rw [List.mem_range'_1]; omega
    rw [List.length_range'] at this
    omega
theorem IsOS.pr_le (h : IsOS N gs xs) (hg : ∀ g ∈ gs, Pn N g) (h1 : 1 ≤ N) (h2 : N ≤ 20) (k : Nat) : ∀ m, k + m ≤ N → 1 ≤ pr xs k m ∧ pr xs k m ≤ (facts N (k + m) : Int)
  | 0, hm => by
    have := facts_pos (N := N) (m := k) (by omega)
    exact ⟨Int.le_refl _, by show (1 : Int) ≤ (facts N (k + 0) : Int); rw [Nat.add_zero]; omega⟩
  | m + 1, hm => by
    obtain ⟨a, b⟩ := h.pr_le hg h1 h2 k m (by omega)
    obtain ⟨d, e⟩ := h.bnd hg h1 h2 (i := k + m) (by omega)
    show 1 ≤ pr xs k m * xs.getD (k + m) 0 ∧ pr xs k m * xs.getD (k + m) 0 ≤ ((facts N (k + m) * (N - (k + m)) : Nat) : Int)
    refine ⟨?_, ?_⟩
    · have := Int.mul_le_mul a d (by omega) (by omega)
      simpa using this
    · rw [Int.natCast_mul]
      exact Int.mul_le_mul b e (by omega) (by omega)
end

/-! ### conjugate groups -/
def cj (o p : List Int) : List Int := compL (compL (iv o) p) o
section
variable {N : Nat} {o p q m : List Int} {gs : List (List Int)}
theorem Pn.iviv (ho : Pn N o) : Proofs.Ytkjokchhffjidaa.iv (Proofs.Ytkjokchhffjidaa.iv o) = o := ho.iv.iv.ext ho fun x hx => by
  refine ho.iv.inj (ho.iv.iv.lt hx) (ho.lt hx) ?_
  rw [ho.iv.nxi' hx, ho.nxi hx]
theorem cj_pn (ho : Pn N o) (hp : Pn N p) : Pn N (cj o p) := (ho.iv.comp hp).comp ho
theorem cj_nx (ho : Pn N o) (hp : Pn N p) {x : Nat} (hx : x < N) : nx (cj o p) x = nx o (nx p (nx (iv o) x)) := by
  unfold cj; rw [(ho.iv.comp hp).nxc hx, ho.iv.nxc hx]
theorem cj_id (ho : Pn N o) : cj o (idL N) = idL N := by unfold cj; rw [ho.iv.idr, ho.ic]
theorem cj_mul (ho : Pn N o) (hp : Pn N p) (hq : Pn N q) : cj o (compL p q) = compL (cj o p) (cj o q) :=
  (cj_pn ho (hp.comp hq)).ext ((cj_pn ho hp).comp (cj_pn ho hq)) fun x hx => by
    rw [cj_nx ho (hp.comp hq) hx, (cj_pn ho hp).nxc hx, cj_nx ho hp hx, cj_nx ho hq (ho.lt (hp.lt (ho.iv.lt hx))), ho.nxi (hp.lt (ho.iv.lt hx)), hp.nxc (ho.iv.lt hx)]
theorem cj_back (ho : Pn N o) (hp : Pn N p) : cj (iv o) (cj o p) = p :=
  (cj_pn ho.iv (cj_pn ho hp)).ext hp fun x hx => by
    rw [cj_nx ho.iv (cj_pn ho hp) hx, ho.iviv, cj_nx ho hp (ho.lt hx), ho.nxi hx, ho.nxi (hp.lt hx)]
theorem cj_mb (ho : Pn N o) (hg : ∀ g ∈ gs, Pn N g) (q : List Int) : Mb (gs.map (cj o)) N q ↔ ∃ p, Mb gs N p ∧ q = cj o p := by
  have h1 := ho.pos.1
  have h2 := ho.pos.2
  constructor
  · intro h
    induction h with
    | one => exact ⟨_, .one, (cj_id ho).symm⟩
    | mul _ hm ih =>
      obtain ⟨p, hp, rfl⟩ := ih
      obtain ⟨g, hg', rfl⟩ := List.mem_map.1 hm
      exact ⟨_, .mul hp hg', (cj_mul ho (hp.pn hg h1 h2) (hg _ hg')).symm⟩
  · rintro ⟨p, hp, rfl⟩
    induction hp with
    | one => rw [cj_id ho]; exact .one
    | mul hp hm ih =>
      rw [cj_mul ho (hp.pn hg h1 h2) (hg _ hm)]
      exact .mul ih (List.mem_map.2 ⟨_, hm, rfl⟩)
/-- The points of the list are fixed. -/
def Fxs (pts p : List Int) : Prop := ∀ j, j < pts.length → nx p (nx pts j) = nx pts j
theorem cj_fx (hm : Pn N m) (hp : Pn N p) {pts : List Int} (hk : pts.length ≤ N) (hpre : ∀ j, j < pts.length → m.getD j 0 = pts.getD j 0) : Fx pts.length (cj (iv m) p) ↔ Fxs pts p := by
  have e : ∀ j, j < pts.length → nx m j = nx pts j := fun j hj => by unfold nx; rw [hpre j hj]
  constructor
  · intro h j hj
    have h3 := h j hj
    rw [cj_nx hm.iv hp (by omega), hm.iviv] at h3
    rw [← e j hj]
    exact hm.iv.inj (hp.lt (hm.lt (by omega))) (hm.lt (by omega)) (by rw [h3, hm.nxi (by omega)])
  · intro h j hj
    rw [cj_nx hm.iv hp (by omega), hm.iviv, e j hj, h j hj, ← e j hj, hm.nxi (by omega)]
/-- The stabilizer of the first points of m, counted in the conjugate group. -/
theorem cj_card {xs pts : List Int} (hm : Pn N m) (hg : ∀ g ∈ gs, Pn N g) (h : IsOS N (gs.map (cj (iv m))) xs) (hk : pts.length ≤ N) (hpre : ∀ j, j < pts.length → m.getD j 0 = pts.getD j 0) :
    ∃ v, Crd (fun p => Mb gs N p ∧ Fxs pts p) v ∧ pr xs pts.length (N - pts.length) = (v : Int) := by
  have h1 := hm.pos.1
  have h2 := hm.pos.2
  have hpn : ∀ p, Mb gs N p → Pn N p := fun p hp => hp.pn hg h1 h2
  have hg' : ∀ g ∈ gs.map (cj (iv m)), Pn N g := fun g hg1 => by
    obtain ⟨p, hp, rfl⟩ := List.mem_map.1 hg1
    exact cj_pn hm.iv (hg p hp)
  obtain ⟨v, hc, e⟩ := h.card hg' h1 h2 (N - pts.length) pts.length (by omega)
  refine ⟨v, hc.map (cj m) (fun p hp q hq e2 => ?_) (fun q => ?_), e⟩
  · rw [← cj_back hm (hp.1.pn hg' h1 h2), e2, cj_back hm (hq.1.pn hg' h1 h2)]
  · constructor
    · rintro ⟨a, b⟩
      refine ⟨cj (iv m) q, ⟨(cj_mb hm.iv hg _).2 ⟨q, a, rfl⟩, (cj_fx hm (hpn q a) hk hpre).2 b⟩, ?_⟩
      have := cj_back hm.iv (hpn q a)
      rw [hm.iviv] at this; exact this.symm
    · rintro ⟨p, ⟨a, b⟩, rfl⟩
      obtain ⟨q, hq, rfl⟩ := (cj_mb hm.iv hg _).1 a
      have := cj_back hm.iv (hpn q hq)
      rw [hm.iviv] at this
      rw [this]
      exact ⟨hq, (cj_fx hm (hpn q hq) hk hpre).1 b⟩
end
end Go.Proofs.Ytkjokchhffjidaa

/- Words: what is valid, the inverse, the free reduction, the evaluation, the runs, the order. No condition but lengths. -/
namespace Go.Proofs.Ytkjokchhffjidaa

/-- A word with letters for g generators (8 at most), of 200 letters at most. -/
def vW (g : Int) (w : List Int) : Bool := decide (w.length ≤ 200) && w.all fun l => decide (l ≠ 0 ∧ -8 ≤ l ∧ l ≤ 8 ∧ l ≤ g ∧ -l ≤ g)
def ivW (w : List Int) : List Int := w.reverse.map fun x => -x
/-- One letter more, reduced. -/
def pshW (s : List Int) (x : Int) : List Int := if s.getLast? = some (-x) then s.dropLast else s ++ [x]
def redW (w : List Int) : List Int := w.foldl pshW []
/-- No two neighbours are inverse to each other. -/
def Rdc (w : List Int) : Prop := ∀ i, i + 1 < w.length → w.getD i 0 ≠ -w.getD (i + 1) 0

section
variable {g : Int} {w a b s : List Int} {x : Int}
theorem vW_iff : vW g w = true ↔ w.length ≤ 200 ∧ ∀ l ∈ w, l ≠ 0 ∧ -8 ≤ l ∧ l ≤ 8 ∧ l ≤ g ∧ -l ≤ g := by simp [vW]
theorem vW_nil : vW g [] = true := by simp [vW]
theorem ivW_len : (ivW w).length = w.length := by simp [ivW]
theorem ivW_nil : ivW [] = [] := rfl
theorem ivW_app : ivW (a ++ b) = ivW b ++ ivW a := by simp [ivW]
theorem ivW_cons : ivW (x :: w) = ivW w ++ [-x] := by simp [ivW]
theorem ivW_snoc : ivW (w ++ [x]) = -x :: ivW w := by simp [ivW]
theorem ivW_ivW : ivW (ivW w) = w := by
  induction w with
  | nil => rfl
  | cons x w ih => rw [ivW_cons, ivW_snoc, ih]; simp
theorem mem_ivW : x ∈ ivW w ↔ -x ∈ w := by
  unfold ivW
  rw [List.mem_map]
  constructor
  · rintro ⟨y, hy, rfl⟩; rw [Int.neg_neg]; exact List.mem_reverse.1 hy
  · intro h; exact ⟨-x, List.mem_reverse.2 h, Int.neg_neg x⟩
theorem vW_iv (h : vW g w = true) : vW g (ivW w) = true := by
  rw [vW_iff] at h ⊢
  refine ⟨by rw [ivW_len]; exact h.1, fun l hl => ?_⟩
  have := h.2 _ (mem_ivW.1 hl)
  omega
theorem vW_mono {g' : Int} (h : vW g w = true) (hg : g ≤ g') : vW g' w = true := by
  rw [vW_iff] at h ⊢
  refine ⟨h.1, fun l hl => ?_⟩
  have := h.2 l hl
  omega
theorem ivW_getD {i : Nat} (hi : i < w.length) : (ivW w).getD i 0 = -w.getD (w.length - 1 - i) 0 := by
  rw [List.getD_eq_getElem?_getD, List.getElem?_eq_getElem (by rw [ivW_len]; exact hi), List.getD_eq_getElem?_getD, List.getElem?_eq_getElem (by omega)]
  simp [ivW]

/-! ### the free reduction -/
theorem last_at (h : s ≠ []) : s.getLast? = some (s.getD (s.length - 1) 0) := by
  have hp := List.length_pos_iff.2 h
  rw [List.getLast?_eq_getElem?, List.getElem?_eq_getElem (by omega), List.getD_eq_getElem?_getD, List.getElem?_eq_getElem (by omega)]; rfl
theorem pshW_len : (pshW s x).length ≤ s.length + 1 := by
  unfold pshW
  split
  · rw [List.length_dropLast]; omega
  · simp
theorem pshW_mem {y : Int} (h : y ∈ pshW s x) : y ∈ s ∨ y = x := by
  unfold pshW at h
  split at h
  · exact .inl ((List.dropLast_sublist _).subset h)
  · rcases List.mem_append.1 h with h | h
    · exact .inl h
    · exact .inr (List.mem_singleton.1 h)
theorem getD_dl {i : Nat} (h : i + 1 < s.length) : s.dropLast.getD i 0 = s.getD i 0 := by
  rw [List.getD_eq_getElem?_getD, List.getElem?_eq_getElem (by rw [List.length_dropLast]; omega), List.getD_eq_getElem?_getD, List.getElem?_eq_getElem (by omega)]
  simp
theorem Rdc.dl (h : Rdc s) : Rdc s.dropLast := fun i hi => by
  rw [List.length_dropLast] at hi
  rw [getD_dl (by omega), getD_dl (by omega)]
  exact h i (by omega)
theorem Rdc.snoc (h : Rdc s) (hx : s.getLast? ≠ some (-x)) : Rdc (s ++ [x]) := fun i hi => by
  rw [List.length_append] at hi
  simp only [List.length_cons, List.length_nil] at hi
  by_cases e : i + 1 < s.length
  · rw [getD_app s _ _ _ (by omega), getD_app s _ _ _ e]; exact h i e
  · rw [getD_app s _ _ _ (by omega), getD_snoc s _ _ _ (by omega)]
    intro e2
    apply hx
    rw [last_at (List.length_pos_iff.1 (by omega)), show s.length - 1 = i by omega, e2]
theorem pshW_rdc (h : Rdc s) : Rdc (pshW s x) := by
  unfold pshW
  split
  · exact h.dl
  · rename_i hn; exact h.snoc hn
theorem fold_rdc : ∀ (w s : List Int), Rdc s → Rdc (w.foldl pshW s)
  | [], _, h => h
  | x :: w, s, h => fold_rdc w (pshW s x) (pshW_rdc h)
theorem rdc_nil : Rdc [] := fun i h => absurd h (Nat.not_lt_zero _)
theorem redW_rdc : Rdc (redW w) := fold_rdc w [] rdc_nil
theorem redW_snoc : redW (w ++ [x]) = pshW (redW w) x := by unfold redW; rw [List.foldl_append]; rfl
theorem redW_take {k : Nat} (hk : k < w.length) : redW (w.take (k + 1)) = pshW (redW (w.take k)) (w.getD k 0) := by
  rw [List.take_succ_eq_append_getElem hk, redW_snoc, List.getD_eq_getElem?_getD, List.getElem?_eq_getElem hk]; rfl
theorem fold_len : ∀ (w s : List Int), (w.foldl pshW s).length ≤ s.length + w.length
  | [], s => by simp
  | x :: w, s => by
    have h1 := fold_len w (pshW s x)
    have h2 := pshW_len (s := s) (x := x)
    rw [List.foldl_cons, List.length_cons]; omega
theorem redW_len : (redW w).length ≤ w.length := by have := fold_len w []; unfold redW; simpa using this
theorem fold_mem {y : Int} : ∀ (w s : List Int), y ∈ w.foldl pshW s → y ∈ s ∨ y ∈ w
  | [], s, h => .inl h
  | x :: w, s, h => by
    rcases fold_mem w _ h with h | h
    · rcases pshW_mem h with h | h
      · exact .inl h
      · exact .inr (by rw [h]; exact List.mem_cons_self ..)
    · exact .inr (List.mem_cons_of_mem _ h)
theorem redW_mem {y : Int} (h : y ∈ redW w) : y ∈ w := (fold_mem w [] h).resolve_left (by simp)
theorem vW_red (h : vW g w = true) : vW g (redW w) = true := by
  rw [vW_iff] at h ⊢
  exact ⟨Nat.le_trans redW_len h.1, fun l hl => h.2 l (redW_mem hl)⟩
theorem fold_id : ∀ (w s : List Int), Rdc (s ++ w) → w.foldl pshW s = s ++ w
  | [], s, _ => by simp
  | x :: w, s, h => by
    have e : pshW s x = s ++ [x] := by
      unfold pshW
      rw [if_neg]
      intro hl
      by_cases hs : s = []
      · subst hs; cases hl
      · have hp := List.length_pos_iff.2 hs
        rw [last_at hs] at hl
        injection hl with hl
        have := h (s.length - 1) (by rw [List.length_append, List.length_cons]; omega)
        rw [getD_app s _ _ _ (by omega), show s.length - 1 + 1 = s.length by omega, List.getD_eq_getElem?_getD (l := s ++ x :: w), List.getElem?_append_right (Nat.le_refl _)] at this
        simp at this
        rw [List.getD_eq_getElem?_getD] at hl
        exact this hl
    rw [List.foldl_cons, e, fold_id w (s ++ [x]) (by simpa using h)]
    simp
theorem redW_id (h : Rdc w) : redW w = w := fold_id w [] h
theorem redW_red : redW (redW w) = redW w := redW_id redW_rdc
theorem psh_back (h : Rdc s) : pshW (pshW s x) (-x) = s := by
  by_cases hl : s.getLast? = some (-x)
  · have hs : s ≠ [] := fun e => by rw [e] at hl; cases hl
    have hp := List.length_pos_iff.2 hs
    rw [show pshW s x = s.dropLast by unfold pshW; rw [if_pos hl]]
    have e : s.dropLast ++ [-x] = s := by
      have := List.dropLast_concat_getLast hs
      rw [List.getLast?_eq_some_getLast hs] at hl
      injection hl with hl
      rwa [hl] at this
    unfold pshW
    rw [if_neg, e]
    rw [Int.neg_neg]
    intro h2
    have hs2 : s.dropLast ≠ [] := fun e => by rw [e] at h2; cases h2
    have hp2 := List.length_pos_iff.2 hs2
    rw [last_at hs2, List.length_dropLast] at h2
    rw [List.length_dropLast] at hp2
    rw [last_at hs] at hl
    injection hl with hl
    injection h2 with h2
    rw [getD_dl (by omega)] at h2
    refine h (s.length - 1 - 1) (by omega) ?_
    rw [h2, show s.length - 1 - 1 + 1 = s.length - 1 by omega, hl, Int.neg_neg]
  · rw [show pshW s x = s ++ [x] by unfold pshW; rw [if_neg hl]]
    unfold pshW
    rw [if_pos (by simp)]
    simp
theorem red_back : ∀ (w s : List Int), Rdc s → (ivW w).foldl pshW (w.foldl pshW s) = s
  | [], s, _ => rfl
  | x :: w, s, h => by
    rw [ivW_cons, List.foldl_append]
    show [-x].foldl pshW ((ivW w).foldl pshW (w.foldl pshW (pshW s x))) = s
    rw [red_back w _ (pshW_rdc h)]
    exact psh_back h
/-- A word and its inverse reduce to nothing. -/
theorem red_inv : redW (w ++ ivW w) = [] := by
  unfold redW
  rw [List.foldl_append]
  exact red_back w [] rdc_nil
end

/-! ### the evaluation -/
def ltM (gs : List (List Int)) (l : Int) : List Int := if l < 0 then iv (gs.getD (-l - 1).toNat []) else gs.getD (l - 1).toNat []
def evW (N : Nat) (gs : List (List Int)) (w : List Int) : List Int := w.foldl (fun p l => compL p (ltM gs l)) (idL N)
/-- Letters for the generators gs. -/
def LtG (gs : List (List Int)) (l : Int) : Prop := l ≠ 0 ∧ l ≤ gs.length ∧ -l ≤ gs.length
section
variable {N : Nat} {gs : List (List Int)} {w a b s : List Int} {x l : Int} {p : List Int}
theorem vW_ltg (h : vW (gs.length : Int) w = true) : ∀ l ∈ w, LtG gs l := fun l hl => by
  have := (vW_iff.1 h).2 l hl
  exact ⟨this.1, this.2.2.2.1, this.2.2.2.2⟩
theorem LtG.neg (h : LtG gs l) : LtG gs (-l) := by unfold LtG at h ⊢; omega
theorem getD_memG {k : Nat} (hk : k < gs.length) : gs.getD k [] ∈ gs := by
  rw [List.getD_eq_getElem?_getD, List.getElem?_eq_getElem hk]; exact List.getElem_mem _
theorem ltM_pn (ok : ∀ g ∈ gs, Pn N g) (h : LtG gs l) : Pn N (ltM gs l) := by
  unfold LtG at h
  unfold ltM
  split
  · exact (ok _ (getD_memG (by omega))).iv
  · exact ok _ (getD_memG (by omega))
theorem ltM_neg (ok : ∀ g ∈ gs, Pn N g) (h : LtG gs l) : ltM gs (-l) = iv (ltM gs l) := by
  unfold LtG at h
  unfold ltM
  by_cases hl : l < 0
  · rw [if_neg (by omega), if_pos hl, (ok _ (getD_memG (by omega))).iviv]
  · rw [if_pos (by omega), if_neg hl, Int.neg_neg]
theorem evW_nil : evW N gs [] = idL N := rfl
theorem evW_snoc : evW N gs (w ++ [x]) = compL (evW N gs w) (ltM gs x) := by unfold evW; rw [List.foldl_append]; rfl
theorem evW_take {k : Nat} (hk : k < w.length) : evW N gs (w.take (k + 1)) = compL (evW N gs (w.take k)) (ltM gs (w.getD k 0)) := by
  rw [List.take_succ_eq_append_getElem hk, evW_snoc, List.getD_eq_getElem?_getD, List.getElem?_eq_getElem hk]; rfl
theorem fold_pn (ok : ∀ g ∈ gs, Pn N g) : ∀ (w p : List Int), (∀ l ∈ w, LtG gs l) → Pn N p → Pn N (w.foldl (fun p l => compL p (ltM gs l)) p)
  | [], _, _, hp => hp
  | x :: w, _, hw, hp => fold_pn ok w _ (fun l hl => hw l (List.mem_cons_of_mem _ hl)) (hp.comp (ltM_pn ok (hw x (List.mem_cons_self ..))))
theorem evW_pn (ok : ∀ g ∈ gs, Pn N g) (h1 : 1 ≤ N) (h2 : N ≤ 20) (hw : ∀ l ∈ w, LtG gs l) : Pn N (evW N gs w) := fold_pn ok w _ hw (pn_id h1 h2)
theorem fold_ev (ok : ∀ g ∈ gs, Pn N g) (h1 : 1 ≤ N) (h2 : N ≤ 20) : ∀ (w p q : List Int), (∀ l ∈ w, LtG gs l) → Pn N p → Pn N q → w.foldl (fun p l => compL p (ltM gs l)) (compL p q) = compL p (w.foldl (fun p l => compL p (ltM gs l)) q)
  | [], _, _, _, _, _ => rfl
  | x :: w, p, q, hw, hp, hq => by
    have hx := ltM_pn ok (hw x (List.mem_cons_self ..))
    rw [List.foldl_cons, hp.assoc hq, fold_ev ok h1 h2 w p _ (fun l hl => hw l (List.mem_cons_of_mem _ hl)) hp (hq.comp hx)]
    rfl
theorem evW_app (ok : ∀ g ∈ gs, Pn N g) (h1 : 1 ≤ N) (h2 : N ≤ 20) (ha : ∀ l ∈ a, LtG gs l) (hb : ∀ l ∈ b, LtG gs l) : evW N gs (a ++ b) = compL (evW N gs a) (evW N gs b) := by
  have pa := evW_pn ok h1 h2 ha
  unfold evW
  rw [List.foldl_append]
  have := fold_ev ok h1 h2 b (evW N gs a) (idL N) hb pa (pn_id h1 h2)
  rw [pa.idr] at this
  exact this
theorem evW_psh (ok : ∀ g ∈ gs, Pn N g) (h1 : 1 ≤ N) (h2 : N ≤ 20) (hs : ∀ l ∈ s, LtG gs l) (hx : LtG gs x) : evW N gs (pshW s x) = compL (evW N gs s) (ltM gs x) := by
  unfold pshW
  split
  · rename_i hl
    have hne : s ≠ [] := fun e => by rw [e] at hl; cases hl
    have e : s.dropLast ++ [-x] = s := by
      have := List.dropLast_concat_getLast hne
      rw [List.getLast?_eq_some_getLast hne] at hl
      injection hl with hl
      rwa [hl] at this
    have hd : ∀ l ∈ s.dropLast, LtG gs l := fun l hl => hs l ((List.dropLast_sublist _).subset hl)
    have pd := evW_pn ok h1 h2 hd
    have px := ltM_pn ok hx
    have e2 : evW N gs s = compL (evW N gs s.dropLast) (iv (ltM gs x)) := by rw [← ltM_neg ok hx, ← evW_snoc, e]
    rw [e2, pd.assoc px.iv, px.ic, pd.idr]
  · exact evW_snoc
theorem fold_red (ok : ∀ g ∈ gs, Pn N g) (h1 : 1 ≤ N) (h2 : N ≤ 20) : ∀ (w s : List Int), (∀ l ∈ s, LtG gs l) → (∀ l ∈ w, LtG gs l) → evW N gs (w.foldl pshW s) = w.foldl (fun p l => compL p (ltM gs l)) (evW N gs s)
  | [], _, _, _ => rfl
  | x :: w, s, hs, hw => by
    have hx := hw x (List.mem_cons_self ..)
    rw [List.foldl_cons, List.foldl_cons, fold_red ok h1 h2 w _ (fun l hl => by rcases pshW_mem hl with hl | rfl; exact hs l hl; exact hx) (fun l hl => hw l (List.mem_cons_of_mem _ hl)), evW_psh ok h1 h2 hs hx]
/-- A word and its free reduction evaluate to the same. -/
theorem evW_red (ok : ∀ g ∈ gs, Pn N g) (h1 : 1 ≤ N) (h2 : N ≤ 20) (hw : ∀ l ∈ w, LtG gs l) : evW N gs (redW w) = evW N gs w := fold_red ok h1 h2 w [] (fun l hl => by cases hl) hw
/-- The inverse of a word evaluates to the inverse. -/
theorem evW_inv (ok : ∀ g ∈ gs, Pn N g) (h1 : 1 ≤ N) (h2 : N ≤ 20) (hw : ∀ l ∈ w, LtG gs l) : evW N gs (ivW w) = iv (evW N gs w) := by
  have hi : ∀ l ∈ ivW w, LtG gs l := fun l hl => by have := (hw _ (mem_ivW.1 hl)).neg; rwa [Int.neg_neg] at this
  have pw := evW_pn ok h1 h2 hw
  have pi := evW_pn ok h1 h2 hi
  have e : compL (evW N gs w) (evW N gs (ivW w)) = idL N := by
    rw [← evW_app ok h1 h2 hw hi, ← evW_red ok h1 h2 (w := w ++ ivW w) (fun l hl => by rcases List.mem_append.1 hl with hl | hl; exact hw l hl; exact hi l hl), red_inv, evW_nil]
  have e2 : compL (iv (evW N gs w)) (compL (evW N gs w) (evW N gs (ivW w))) = compL (iv (evW N gs w)) (idL N) := by rw [e]
  rw [← pw.iv.assoc pw, pw.ic, pi.idl, pw.iv.idr] at e2
  exact e2
end

/-! ### the runs, the order -/
def newR (r : List Int) (i : Nat) : Bool := decide (i = 0 ∨ (r.getD i 0 ≠ r.getD (i - 1) 0 ∧ r.getD i 0 ≠ -r.getD (i - 1) 0))
/-- The runs among the first k letters. -/
def runW (r : List Int) : Nat → Nat
  | 0 => 0
  | k + 1 => runW r k + if newR r k = true then 1 else 0
theorem runW_le (r : List Int) : ∀ k, runW r k ≤ k
  | 0 => Nat.le_refl _
  | k + 1 => by have := runW_le r k; simp only [runW]; split <;> omega
def rnkW (l : Int) : Int := if l < 0 then -2 * l - 1 else 2 * l - 2
def lexW : List Int → List Int → Bool
  | x :: a, y :: b => if x = y then lexW a b else decide (rnkW x < rnkW y)
  | _, _ => false
def lsW (a b : List Int) : Bool := if a.length = b.length then lexW a b else decide (a.length < b.length)
theorem lexW_asymm : ∀ (a b : List Int), lexW a b = true → lexW b a = false
  | [], _, h => by simp [lexW] at h
  | _ :: _, [], h => by simp [lexW] at h
  | x :: a, y :: b, h => by
    unfold lexW at h ⊢
    by_cases e : x = y
    · rw [if_pos e] at h; rw [if_pos e.symm]; exact lexW_asymm a b h
    · rw [if_neg e] at h; rw [if_neg (fun e2 => e e2.symm)]
      rw [decide_eq_true_eq] at h
      rw [decide_eq_false_iff_not]; omega
theorem lsW_asymm {a b : List Int} (h : lsW a b = true) : lsW b a = false := by
  unfold lsW at h ⊢
  by_cases e : a.length = b.length
  · rw [if_pos e] at h; rw [if_pos e.symm]; exact lexW_asymm a b h
  · rw [if_neg e, decide_eq_true_eq] at h; rw [if_neg (fun e2 => e e2.symm), decide_eq_false_iff_not]; omega
/-- The first letter that differs decides. -/
theorem lexW_at : ∀ (a b : List Int) (k : Nat), a.length = b.length → k < a.length → (∀ j, j < k → a.getD j 0 = b.getD j 0) → a.getD k 0 ≠ b.getD k 0 → lexW a b = decide (rnkW (a.getD k 0) < rnkW (b.getD k 0))
  | [], _, _, _, hk, _, _ => absurd hk (Nat.not_lt_zero _)
  | _ :: _, [], _, hl, _, _, _ => by simp at hl
  | x :: a, y :: b, 0, _, _, _, hn => by
    have hn : x ≠ y := hn
    unfold lexW
    rw [if_neg hn]; rfl
  | x :: a, y :: b, k + 1, hl, hk, he, hn => by
    have e0 : x = y := he 0 (Nat.zero_lt_succ _)
    unfold lexW
    rw [if_pos e0]
    exact lexW_at a b k (by simpa using hl) (by simpa using hk) (fun j hj => he (j + 1) (by omega)) hn
theorem lexW_eq : ∀ (a b : List Int), a.length = b.length → (∀ j, j < a.length → a.getD j 0 = b.getD j 0) → lexW a b = false
  | [], _, _, _ => by simp [lexW]
  | _ :: _, [], _, _ => by simp [lexW]
  | x :: a, y :: b, hl, he => by
    have e0 : x = y := he 0 (Nat.zero_lt_succ _)
    unfold lexW
    rw [if_pos e0]
    exact lexW_eq a b (by simpa using hl) fun j hj => he (j + 1) (by rw [List.length_cons]; omega)
end Go.Proofs.Ytkjokchhffjidaa

/- The shape of a contract over generators: what goes in, what comes out, what is kept. No condition. -/
namespace Go.Proofs.Ytkjokchhffjidaa
open Go.RowKit

/-- Generators that can be read, not too many. -/
structure GIn (w : World) (A : Option Addr) (n : Nat) (vs : List SV) (xss : List (List Int)) : Prop where
  rr : RR w w.heap.size A n vs xss
  hn : n ≤ 1048576
  hl : ∀ i, i < n → (vs.getD i sd0).2.1 ≤ 1048576
/-- A list of numbers that can be read, not too long. -/
structure SIn (w : World) (P : Option Addr) (np cp : Nat) (p : List Int) : Prop where
  ri : RI w w.heap.size P p
  lp : p.length = np
  hn : np ≤ 1048576
  hc : np ≤ cp
def I64 (a : Int) : Prop := -9223372036854775808 ≤ a ∧ a ≤ 9223372036854775807
section
variable {w w' : World} {A P : Option Addr} {n np cp : Nat} {vs : List SV} {xss : List (List Int)} {p : List Int}
theorem GIn.up (h : GIn w A n vs xss) (hb : Below w.heap.size w w') : GIn w' A n vs xss := ⟨h.rr.up hb, h.hn, h.hl⟩
theorem SIn.up (h : SIn w P np cp p) (hb : Below w.heap.size w w') : SIn w' P np cp p := ⟨h.ri.up hb, h.lp, h.hn, h.hc⟩
end

def CtImI (F : Nat) (R : Int → List (List Int) → Int → Prop) : Prop := ∀ (a : Int) (A : Option Addr) (n c : Nat) (vs : List SV) (xss : List (List Int)) (w : World), GIn w A n vs xss → I64 a →
  Calls Try.prog F #[.int .i64 a, .slice A n c] w fun e w' => ∃ v, e = .returned (.int .i64 v) ∧ R a xss v ∧ Below w.heap.size w w'
def CtImB (F : Nat) (R : Int → List (List Int) → Bool → Prop) : Prop := ∀ (a : Int) (A : Option Addr) (n c : Nat) (vs : List SV) (xss : List (List Int)) (w : World), GIn w A n vs xss → I64 a →
  Calls Try.prog F #[.int .i64 a, .slice A n c] w fun e w' => ∃ v, e = .returned (.bool v) ∧ R a xss v ∧ Below w.heap.size w w'
def CtImS (F : Nat) (R : Int → List (List Int) → List Int → Prop) : Prop := ∀ (a : Int) (A : Option Addr) (n c : Nat) (vs : List SV) (xss : List (List Int)) (w : World), GIn w A n vs xss → I64 a →
  Calls Try.prog F #[.int .i64 a, .slice A n c] w fun e w' => ∃ A' m c' zs, e = .returned (.slice A' m c') ∧ Slc w' w.heap.size A' m c' zs ∧ R a xss zs ∧ Below w.heap.size w w'
def CtImM (F : Nat) (R : Int → List (List Int) → List (List Int) → Prop) : Prop := ∀ (a : Int) (A : Option Addr) (n c : Nat) (vs : List SV) (xss : List (List Int)) (w : World), GIn w A n vs xss → I64 a →
  Calls Try.prog F #[.int .i64 a, .slice A n c] w fun e w' => ∃ A' m c' us l, e = .returned (.slice A' m c') ∧ SS w' w.heap.size w.heap.size A' m c' us l ∧ R a xss l ∧ Below w.heap.size w w'
def CtImsI (F : Nat) (R : Int → List (List Int) → List Int → Int → Prop) : Prop := ∀ (a : Int) (A : Option Addr) (n c : Nat) (vs : List SV) (xss : List (List Int)) (P : Option Addr) (np cp : Nat) (p : List Int) (w : World), GIn w A n vs xss → SIn w P np cp p → I64 a →
  Calls Try.prog F #[.int .i64 a, .slice A n c, .slice P np cp] w fun e w' => ∃ v, e = .returned (.int .i64 v) ∧ R a xss p v ∧ Below w.heap.size w w'
def CtImsB (F : Nat) (R : Int → List (List Int) → List Int → Bool → Prop) : Prop := ∀ (a : Int) (A : Option Addr) (n c : Nat) (vs : List SV) (xss : List (List Int)) (P : Option Addr) (np cp : Nat) (p : List Int) (w : World), GIn w A n vs xss → SIn w P np cp p → I64 a →
  Calls Try.prog F #[.int .i64 a, .slice A n c, .slice P np cp] w fun e w' => ∃ v, e = .returned (.bool v) ∧ R a xss p v ∧ Below w.heap.size w w'
def CtImsP (F : Nat) (R : Int → List (List Int) → List Int → List Int → Bool → Prop) : Prop := ∀ (a : Int) (A : Option Addr) (n c : Nat) (vs : List SV) (xss : List (List Int)) (P : Option Addr) (np cp : Nat) (p : List Int) (w : World), GIn w A n vs xss → SIn w P np cp p → I64 a →
  Calls Try.prog F #[.int .i64 a, .slice A n c, .slice P np cp] w fun e w' => ∃ A' m c' zs ok, e = .returned (.tuple #[.slice A' m c', .bool ok]) ∧ Slc w' w.heap.size A' m c' zs ∧ R a xss p zs ok ∧ Below w.heap.size w w'
def CtImmB (F : Nat) (R : Int → List (List Int) → List (List Int) → Bool → Prop) : Prop := ∀ (a : Int) (A : Option Addr) (n c : Nat) (vs : List SV) (xss : List (List Int)) (M : Option Addr) (m cm : Nat) (us : List SV) (yss : List (List Int)) (w : World), GIn w A n vs xss → GIn w M m us yss → I64 a →
  Calls Try.prog F #[.int .i64 a, .slice A n c, .slice M m cm] w fun e w' => ∃ v, e = .returned (.bool v) ∧ R a xss yss v ∧ Below w.heap.size w w'
def CtImiP (F : Nat) (R : Int → List (List Int) → Int → List Int → Bool → Prop) : Prop := ∀ (a : Int) (A : Option Addr) (n c : Nat) (vs : List SV) (xss : List (List Int)) (k : Int) (w : World), GIn w A n vs xss → I64 a → I64 k →
  Calls Try.prog F #[.int .i64 a, .slice A n c, .int .i64 k] w fun e w' => ∃ A' m c' zs ok, e = .returned (.tuple #[.slice A' m c', .bool ok]) ∧ Slc w' w.heap.size A' m c' zs ∧ R a xss k zs ok ∧ Below w.heap.size w w'
def CtImP (F : Nat) (R : Int → List (List Int) → List Int → Bool → Prop) : Prop := ∀ (a : Int) (A : Option Addr) (n c : Nat) (vs : List SV) (xss : List (List Int)) (w : World), GIn w A n vs xss → I64 a →
  Calls Try.prog F #[.int .i64 a, .slice A n c] w fun e w' => ∃ A' m c' zs ok, e = .returned (.tuple #[.slice A' m c', .bool ok]) ∧ Slc w' w.heap.size A' m c' zs ∧ R a xss zs ok ∧ Below w.heap.size w w'
end Go.Proofs.Ytkjokchhffjidaa

/- The model's valid words, their inverses. Condition: at most 2097152 letters. -/
namespace Go.Proofs.Ytkjokchhffjidaa
open Go.RowKit

/-- A row's first numbers are a row. -/
theorem Slc.shrink {w : World} {base g n c k : Nat} {xs : List Int} (h : Slc w base (some ⟨g, 0, none⟩) n c xs) (hk : k ≤ n) : Slc w base (some ⟨g, 0, none⟩) k c (xs.take k) := by
  obtain ⟨hl, h1, h2⟩ := h
  have hlk : (xs.take k).length = k := by rw [List.length_take]; omega
  refine ⟨hlk, by rw [List.length_map, hlk, Nat.mul_one], ?_⟩
  rcases h2 with ⟨e, _⟩ | ⟨g', cap, cur, e, hb, hg, hle, hm, hs, ht⟩
  · cases e
  · injection e with e1 e2 e3
    subst e3
    refine .inr ⟨g', c, cur, by rw [hlk, ← e1], hb, hg, by rw [hlk]; omega, hm, hs, ?_⟩
    rw [hlk, List.map_take, ← ht, List.take_take]
    congr 1
    omega

def okL (g l : Int) : Bool := decide (l ≠ 0 ∧ -8 ≤ l ∧ l ≤ 8 ∧ l ≤ g ∧ -l ≤ g)
theorem vW_all {g : Int} {w : List Int} (h : w.length ≤ 200) : vW g w = true ↔ ∀ i, i < w.length → okL g (w.getD i 0) = true := by
  rw [vW_iff]
  constructor
  · intro hv i hi
    exact decide_eq_true (hv.2 _ (by rw [List.getD_eq_getElem?_getD, List.getElem?_eq_getElem hi]; exact List.getElem_mem _))
  · intro ha
    refine ⟨h, fun l hl => ?_⟩
    obtain ⟨i, hi, rfl⟩ := List.mem_iff_getElem.1 hl
    have := ha i hi
    rw [List.getD_eq_getElem?_getD, List.getElem?_eq_getElem hi] at this
    exact of_decide_eq_true this
theorem vW_bad {g : Int} {w : List Int} {i : Nat} (hi : i < w.length) (h : okL g (w.getD i 0) = false) : vW g w = false := by
  rcases e : vW g w with _ | _
  · rfl
  · have h1 := (vW_all (vW_iff.1 e).1).1 e i hi
    rw [h] at h1; cases h1
theorem vW_long {g : Int} {w : List Int} (h : ¬ w.length ≤ 200) : vW g w = false := by
  rcases e : vW g w with _ | _
  · rfl
  · exact absurd (vW_iff.1 e).1 h

set_option maxHeartbeats 1600000 in
set_option maxRecDepth 100000 in
/-- isWordOf. -/
theorem specIsWordOf (g : Int) (A : Option Addr) (n c : Nat) (wd : List Int) (w : World) (hx : RI w w.heap.size A wd) (lx : Hid (wd.length = n)) (hn : n ≤ 2097152) :
    Calls Try.prog 49 #[.int .i64 g, .slice A n c] w fun e w' => e = .returned (.bool (vW g wd)) ∧ w = w' := by
  have HX := Lib.hid hx
  clear hx
  by_cases h200 : n ≤ 200
  · have d0 : decide ((200 : Int) < n) = false := by simp; omega
    go_enter Try.func49, Try.ntmps49
    go_wp2_with fail
    go_loop [5] (fun i => ∃ k : Nat, k ≤ n ∧ i = .int .i64 (k : Nat) ∧ ∀ j, j < k → okL g (wd.getD j 0) = true) (fun i => n - (intOf i).toNat)
    case atStart => exact ⟨0, Nat.zero_le _, rfl, fun j h => absurd h (Nat.not_lt_zero _)⟩
    case round =>
      clear d0
      obtain ⟨k, hk, rfl, hok⟩ := hrel
      have Hok := Lib.hid hok
      clear hok
      by_cases hlt : k < n
      · obtain ⟨b, off, rfl, hb, hc⟩ := HX.out (by rw [lx.out]; omega)
        have c1 := hc k (by rw [lx.out]; exact hlt)
        obtain ⟨l, el⟩ : ∃ l, wd.getD k 0 = l := ⟨_, rfl⟩
        rw [el] at c1
        have El := Lib.hid el
        have p0 : (0 : Int) ≤ k := by omega
        have p1 : (k : Int) < n := by omega
        have hkl : Hid (k < wd.length) := Lib.hid (by rw [lx.out]; exact hlt)
        clear el hc
        by_cases f1 : l = 0
        · have e1 : (l == 0) = true := by simpa using f1
          have Bad : Hid (vW g wd = false) := Lib.hid (vW_bad hkl.out (by rw [El.out]; unfold okL; rw [decide_eq_false_iff_not]; intro h; exact h.1 f1))
          go_wp2_with fail
          go_ret
          exact ⟨by rw [Bad.out]; try rfl, rfl⟩
        · have e1 : (l == 0) = false := by simpa using f1
          by_cases f2 : -8 ≤ l ∧ l ≤ 8
          · have wl : IntKind.i64.wrap (-l) = -l := by rw [IntKind.wrap_i64]; omega
            by_cases f3 : l ≤ g
            · have d4 : decide (g < l) = false := by simp; omega
              by_cases f4 : -l ≤ g
              · have d5 : decide (g < -l) = false := by simp; omega
                have Nx : Hid (okL g l = true) := Lib.hid (decide_eq_true ⟨f1, f2.1, f2.2, f3, f4⟩)
                go_wp2_with (go_at_call 61; refine (inR_true _ _ _ _ (by omega) (by omega)).mono ?_; rintro e w' ⟨rfl, rfl⟩)
                go_round
                case rel => exact ⟨k + 1, by omega, by go_num, fun j hj => by
                  by_cases e : j = k
                  · subst e; rw [El.out]; exact Nx.out
                  · exact Hok.out j (by omega)⟩
                case measure => simp [intOf]; omega
              · have d5 : decide (g < -l) = true := by simp; omega
                have Bad : Hid (vW g wd = false) := Lib.hid (vW_bad hkl.out (by rw [El.out]; unfold okL; rw [decide_eq_false_iff_not]; intro h; exact f4 h.2.2.2.2))
                go_wp2_with (go_at_call 61; refine (inR_true _ _ _ _ (by omega) (by omega)).mono ?_; rintro e w' ⟨rfl, rfl⟩)
                go_ret
                exact ⟨by rw [Bad.out]; try rfl, rfl⟩
            · have d4 : decide (g < l) = true := by simp; omega
              have Bad : Hid (vW g wd = false) := Lib.hid (vW_bad hkl.out (by rw [El.out]; unfold okL; rw [decide_eq_false_iff_not]; intro h; exact f3 h.2.2.2.1))
              go_wp2_with (go_at_call 61; refine (inR_true _ _ _ _ (by omega) (by omega)).mono ?_; rintro e w' ⟨rfl, rfl⟩)
              go_ret
              exact ⟨by rw [Bad.out]; try rfl, rfl⟩
          · have Bad : Hid (vW g wd = false) := Lib.hid (vW_bad hkl.out (by rw [El.out]; unfold okL; rw [decide_eq_false_iff_not]; intro h; exact f2 ⟨h.2.1, h.2.2.1⟩))
            go_wp2_with (go_at_call 61; refine (inR_false _ _ _ _ (by omega)).mono ?_; rintro e w' ⟨rfl, rfl⟩)
            go_ret
            exact ⟨by rw [Bad.out]; try rfl, rfl⟩
      · obtain rfl : k = n := by omega
        have Ok : Hid (vW g wd = true) := Lib.hid ((vW_all (by rw [lx.out]; omega)).2 fun i hi => Hok.out i (by rw [← lx.out]; exact hi))
        go_wp2_with fail
        go_ret
        exact ⟨by rw [Ok.out]; try rfl, rfl⟩
  · have d0 : decide ((200 : Int) < n) = true := by simp; omega
    have Bad : Hid (vW g wd = false) := Lib.hid (vW_long (by rw [lx.out]; omega))
    go_enter Try.func49, Try.ntmps49
    go_wp2_with fail
    go_ret
    exact ⟨by rw [Bad.out]; try rfl, rfl⟩



end Go.Proofs.Ytkjokchhffjidaa

/- The program's chain: what including one product leaves; the loop over an orbit; members with given entries found link by link. No Go in it. No condition. -/
namespace Go.Proofs.Ytkjokchhffjidaa
open Go.RowKit

theorem nd_subP {l' : List Nat} : ∀ {l : List Nat}, l'.Nodup → (∀ x ∈ l', x ∈ l) → l'.length ≤ l.length := by
  induction l' with
  | nil => intro l _ _; simp
  | cons a t ih =>
    intro l hd h
    rw [List.nodup_cons] at hd
    have ha : a ∈ l := h a (by simp)
    have := ih (l := l.erase a) hd.2 fun x hx => by
      have hne : x ≠ a := fun e => hd.1 (e ▸ hx)
      exact (List.mem_erase_of_ne hne).2 (h x (by simp [hx]))
    rw [List.length_erase_of_mem ha] at this
    have h0 : 0 < l.length := List.length_pos_of_mem ha
    simp; omega
section
variable {N k : Nat} {c c' cj : Ch} {p q m : List Int} {O O' : List Nat}

/-- What including one product leaves. -/
structure Ic (N k : Nat) (c c' : Ch) (q : List Int) : Prop where
  low : Low N c' k
  grw : Grw k c c'
  gen : c'.gen k = c.gen k
  sv : Sv N c' k q
  mono : ∀ p, Sv N c k p → Sv N c' k p
theorem Ic.old (h : Low N c k) (hk : k < N) (h1 : 1 ≤ N) (h2 : N ≤ 20) (hq : Mb (c.gen k) N q) (hr : c.rep k (nx q k) ≠ []) (ha : Ap N (k + 1) c c' (compL q (iv (c.rep k (nx q k))))) : Ic N k c c' q :=
  have b := Bp.old h hk h1 h2 hq hr ha
  ⟨b.low, b.grw, b.gen, b.sv, b.mono⟩
theorem Ic.put (h : Low N c k) (hk : k < N) (h1 : 1 ≤ N) (h2 : N ≤ 20) (hq : Mb (c.gen k) N q) (hr : c.rep k (nx q k) = []) : Ic N k c (c.set k (nx q k) q) q := by
  obtain ⟨l1, g1⟩ := h.put hk h1 h2 hq hr
  have hp := hq.pn h.pn h1 h2
  have hne : q ≠ [] := by intro e; have := hp.2; rw [e] at this; simp at this; omega
  refine ⟨l1, g1, rfl, ?_, fun p hs => h.mono_sv l1 g1 hk (fun _ h => h) hs⟩
  have := l1.rep_sv hk (y := nx q k) (by rw [set_at]; exact hne)
  rw [set_at] at this; exact this

/-- The orbit lists the points that have a representative, each once. -/
def Orb (c : Ch) (k : Nat) (O : List Nat) : Prop := O.Nodup ∧ ∀ y, y ∈ O ↔ c.rep k y ≠ []
theorem Orb.congr (h : Orb c k O) (e : ∀ y, c'.rep k y = c.rep k y) : Orb c' k O := ⟨h.1, fun y => by rw [h.2, e]⟩
theorem Orb.put (h : Orb c k O) {y : Nat} (hr : c.rep k y = []) (hq : q ≠ []) : Orb (c.set k y q) k (O ++ [y]) := by
  refine ⟨List.nodup_append.2 ⟨h.1, by simp, fun a ha b hb e => ?_⟩, fun z => ?_⟩
  · rw [List.mem_singleton] at hb
    subst hb; subst e
    exact (h.2 a).1 ha hr
  · rw [List.mem_append, List.mem_singleton, h.2]
    by_cases e : z = y
    · subst e; rw [set_at]; exact ⟨fun _ => hq, fun _ => .inr rfl⟩
    · rw [set_ne (.inr e)]; exact ⟨fun h => h.resolve_right e, fun h => .inl h⟩
theorem Orb.lt (h : Orb c k O) (hr : RepOK N c k) {y : Nat} (hy : y ∈ O) : y < N := (hr.at_ y ((h.2 y).1 hy)).1
theorem Orb.len (h : Orb c k O) (hr : RepOK N c k) : O.length ≤ N := by
  have : O.length ≤ (List.range N).length := nd_subP h.1 fun y hy => List.mem_range.2 (h.lt hr hy)
  simpa using this

/-- Which generators the products of the t-th orbit point are formed with. -/
def gsA (kn : Nat) (gs : List (List Int)) (p : List Int) (t : Nat) : List (List Int) := if t < kn then [p] else gs
/-- The loop over the orbit: i points are done, of the next one j products. -/
structure Bf (N k : Nat) (c1 cj : Ch) (O : List Nat) (p : List Int) (kn i j : Nat) : Prop where
  low : Low N cj k
  grw : Grw k c1 cj
  gen : cj.gen k = c1.gen k
  mono : ∀ q, Sv N c1 k q → Sv N cj k q
  old : ∀ t, t < kn → c1.rep k (O.getD t 0) ≠ []
  len : kn ≤ O.length
  done : ∀ t, t < i → ∀ g ∈ gsA kn (c1.gen k) p t, Sv N cj k (compL (cj.rep k (O.getD t 0)) g)
  part : ∀ s, s < j → Sv N cj k (compL (cj.rep k (O.getD i 0)) ((gsA kn (c1.gen k) p i).getD s []))
theorem Bf.start {c1 : Ch} (h : Low N c1 k) (hO : Orb c1 k O) : Bf N k c1 c1 O p O.length 0 0 :=
  ⟨h, .refl _ _, rfl, fun _ h => h, fun t ht => (hO.2 _).1 (by rw [List.getD_eq_getElem?_getD, List.getElem?_eq_getElem ht]; exact List.getElem_mem _), Nat.le_refl _, fun t ht => absurd ht (by omega), fun t ht => absurd ht (by omega)⟩
theorem getD_pre {O O' : List Nat} (h : O <+: O') {t : Nat} (ht : t < O.length) : O'.getD t 0 = O.getD t 0 := by
  obtain ⟨l, rfl⟩ := h
  rw [List.getD_eq_getElem?_getD, List.getD_eq_getElem?_getD, List.getElem?_append_left ht]
theorem Bf.next {c1 : Ch} {kn i j : Nat} (h : Bf N k c1 cj O p kn i j) (hO : Orb cj k O) (hi : i < O.length) (hpre : O <+: O') (hc : Ic N k cj c' (compL (cj.rep k (O.getD i 0)) ((gsA kn (c1.gen k) p i).getD j []))) : Bf N k c1 c' O' p kn i (j + 1) := by
  have hrep : ∀ t, t < O.length → c'.rep k (O'.getD t 0) = cj.rep k (O.getD t 0) := fun t ht => by
    rw [getD_pre hpre ht]
    exact hc.grw.keep _ _ ((hO.2 _).1 (by rw [List.getD_eq_getElem?_getD, List.getElem?_eq_getElem ht]; exact List.getElem_mem _))
  refine ⟨hc.low, h.grw.trans hc.grw, by rw [hc.gen, h.gen], fun p hs => hc.mono _ (h.mono _ hs), fun t ht => by rw [getD_pre hpre (by have := h.len; omega)]; exact h.old t ht, Nat.le_trans h.len hpre.length_le, fun t ht g hg => ?_, fun s hs => ?_⟩
  · rw [hrep t (by omega)]; exact hc.mono _ (h.done t ht g hg)
  · rw [hrep i hi]
    rcases Nat.lt_or_ge s j with hl | hl
    · exact hc.mono _ (h.part s hl)
    · obtain rfl : s = j := by omega
      exact hc.sv
theorem Bf.round {c1 : Ch} {kn i : Nat} (h : Bf N k c1 cj O p kn i (gsA kn (c1.gen k) p i).length) : Bf N k c1 cj O p kn (i + 1) 0 := by
  refine ⟨h.low, h.grw, h.gen, h.mono, h.old, h.len, fun t ht g hg => ?_, fun s hs => absurd hs (by omega)⟩
  rcases Nat.lt_or_ge t i with hl | hl
  · exact h.done t hl g hg
  · obtain rfl : t = i := by omega
    obtain ⟨s, hs, rfl⟩ := mem_at hg
    exact h.part s hs
/-- The product that is formed next lies in the group of the level. -/
theorem Bf.mb {kn i j : Nat} (h : Bf N k (c.push k p) cj O p kn i j) (hO : Orb cj k O) (hi : i < O.length) (hj : j < (gsA kn ((c.push k p).gen k) p i).length) :
    Mb (cj.gen k) N (compL (cj.rep k (O.getD i 0)) ((gsA kn ((c.push k p).gen k) p i).getD j [])) ∧ Pn N (cj.rep k (O.getD i 0)) ∧ (gsA kn ((c.push k p).gen k) p i).getD j [] ∈ cj.gen k := by
  have hr : cj.rep k (O.getD i 0) ≠ [] := (hO.2 _).1 (by rw [List.getD_eq_getElem?_getD, List.getElem?_eq_getElem hi]; exact List.getElem_mem _)
  have hm : (gsA kn ((c.push k p).gen k) p i).getD j [] ∈ gsA kn ((c.push k p).gen k) p i := by
    rw [List.getD_eq_getElem?_getD, List.getElem?_eq_getElem hj]; exact List.getElem_mem _
  have hg : (gsA kn ((c.push k p).gen k) p i).getD j [] ∈ cj.gen k := by
    rw [h.gen]
    unfold gsA at hm ⊢
    by_cases e : i < kn
    · simp only [if_pos e] at hm ⊢
      rw [List.mem_singleton] at hm
      rw [hm, push_at]; simp
    · simp only [if_neg e] at hm ⊢; exact hm
  exact ⟨.mul (h.low.inn _ hr) hg, (h.low.rep.at_ _ hr).2.1, hg⟩
theorem Bf.all {kn : Nat} (h : UpTo N c k) (hk : k < N) (h1 : 1 ≤ N) (h2 : N ≤ 20) (hp : Pn N p) (hf : Fx k p) (hs : ¬ Sv N c k p) (hb : Bf N k (c.push k p) cj O p kn O.length 0) (hO : Orb cj k O) : Ap N k c cj p := by
  have hl := h.low hk h1 h2
  have hg1 : cj.gen k = c.gen k ++ [p] := by rw [hb.gen, push_at]
  have g0 : Grw k c (c.push k p) := ⟨fun _ _ _ => rfl, fun _ _ _ => rfl, fun i hi => push_ne (by omega)⟩
  have hG := g0.trans hb.grw
  have hat : ∀ y, cj.rep k y ≠ [] → ∃ t, t < O.length ∧ O.getD t 0 = y := fun y hy => by
    obtain ⟨t, ht, e⟩ := List.mem_iff_getElem.1 ((hO.2 y).2 hy)
    exact ⟨t, ht, by rw [List.getD_eq_getElem?_getD, List.getElem?_eq_getElem ht, ← e]; rfl⟩
  have hclose : ∀ y, cj.rep k y ≠ [] → ∀ g ∈ cj.gen k, Sv N cj k (compL (cj.rep k y) g) := fun y hy g hg => by
    obtain ⟨t, ht, et⟩ := hat y hy
    by_cases e : t < kn
    · have hc1 := hb.old t e
      rw [et] at hc1
      rw [hg1] at hg
      rcases List.mem_append.1 hg with hg | hg
      · rw [hG.keep _ _ hc1]
        refine hb.mono _ (Sv.congr (c := c) ?_ fun _ _ _ => rfl)
        exact (h.sv k (Nat.le_refl _) (by omega) _).2 (.mul (hl.inn y hc1) hg)
      · have := hb.done t ht g (by unfold gsA; rw [if_pos e]; exact hg)
        rw [et] at this; exact this
    · have := hb.done t ht g (by unfold gsA; rw [if_neg e, ← hb.gen]; exact hg)
      rw [et] at this; exact this
  have hid : c.rep k k ≠ [] := by rw [hl.rep.one]; intro e; have := idL_length N; rw [e] at this; simp at this; omega
  have hsv : Sv N cj k p := by
    have h3 := hclose k (by rw [hG.keep _ _ hid]; exact hid) p (by rw [hg1]; simp)
    rw [hG.keep _ _ hid, hl.rep.one, hp.idl] at h3
    exact h3
  have hcnt : cnt N c k < cnt N cj k := by
    have hle := cnt_mono (N := N) hG k
    rcases Nat.lt_or_ge (cnt N c k) (cnt N cj k) with hlt | hge
    · exact hlt
    · exfalso
      refine hs (sv_back hsv (Nat.le_refl _) fun j y hj hjN hy => (cnt_same hG hge hj hjN hy).symm)
  refine ⟨hb.low.whole hk h1 h2 hclose ?_, hG, fun q => by rw [hg1]⟩
  rw [hg1, List.length_append]
  have := h.len k (Nat.le_refl _) hk
  simp; omega
/-- At the last link everything that fixes the points before is known. -/
theorem sv_last (h : UpTo N c k) (hk : k + 1 = N) (h1 : 1 ≤ N) (h2 : N ≤ 20) (hp : Pn N p) (hf : Fx k p) : Sv N c k p := by
  have e : nx p k = k := by
    have a := hf.ge hp (by omega)
    have b := hp.lt (x := k) (by omega)
    omega
  have hid := (hf.succ e)
  rw [hk] at hid
  rw [hid.all hp]
  exact (sv_down (h.rep k (Nat.le_refl _) (by omega)) (by omega) (pn_id h1 h2) (fx_id (by omega)) (nx_id (by omega))).2 ((h.sv (k + 1) (by omega) (by omega) _).2 .one)

/-! ### members with given entries -/
theorem UpTo.stab (h : UpTo N c k) (h1 : 1 ≤ N) (h2 : N ≤ 20) {j : Nat} (hj : k ≤ j) (hjN : j ≤ N) (hp : Pn N p) (hf : Fx j p) : Sv N c k p ↔ Sv N c j p := by
  induction j with
  | zero => obtain rfl : k = 0 := by omega
            exact Iff.rfl
  | succ j ih =>
    by_cases e : k = j + 1
    · subst e; exact Iff.rfl
    · rw [ih (by omega) (by omega) (hf.mono (by omega))]
      exact sv_down (h.rep j (by omega) (by omega)) (by omega) hp (hf.mono (by omega)) (hf j (by omega))
theorem UpTo.gpn (h : UpTo N c k) (hk : k ≤ N) : ∀ g ∈ c.gen k, Pn N g := h.pn (Nat.le_refl _) hk
theorem UpTo.mfx (h : UpTo N c k) (h1 : 1 ≤ N) (h2 : N ≤ 20) (hk : k ≤ N) (hm : Mb (c.gen k) N p) : Fx k p := by
  rcases Nat.lt_or_ge k N with hl | hl
  · exact hm.fx (h.gp k (Nat.le_refl _) hl) h1 h2 hk
  · obtain rfl : k = N := by omega
    rw [h.top] at hm
    rw [hm.none_]; exact fx_id (Nat.le_refl _)
/-- A representative of a later link is a member of this one. -/
theorem UpTo.rep_mb (h : UpTo N c k) (h1 : 1 ≤ N) (h2 : N ≤ 20) {j y : Nat} (hj : k ≤ j) (hjN : j < N) (hy : c.rep j y ≠ []) : Mb (c.gen k) N (c.rep j y) := by
  obtain ⟨a1, a2, a3, a4⟩ := (h.rep j hj hjN).at_ y hy
  refine (h.sv k (Nat.le_refl _) (by omega) _).1 ((h.stab h1 h2 hj (by omega) a2 a3).2 ?_)
  exact ((h.mono hj).low hjN h1 h2).rep_sv hjN hy
/-- A member that has the given entries from k on, as far as j. -/
structure Mt (N : Nat) (c : Ch) (k : Nat) (vals : List Int) (m : List Int) (j : Nat) : Prop where
  kj : k ≤ j
  jN : j ≤ N
  pn : Pn N m
  mb : Mb (c.gen k) N m
  ag : ∀ i, k ≤ i → i < j → (nx m i : Int) = vals.getD i 0
  jl : j = k ∨ j ≤ vals.length
/-- No member has one entry more. -/
def NoM (N : Nat) (c : Ch) (k : Nat) (vals : List Int) (j : Nat) : Prop := j < N → j < vals.length → ∀ q, Mb (c.gen k) N q → ¬ ∀ i, k ≤ i → i ≤ j → (nx q i : Int) = vals.getD i 0
theorem Mt.start {vals : List Int} (h1 : 1 ≤ N) (h2 : N ≤ 20) (hk : k ≤ N) : Mt N c k vals (idL N) k :=
  ⟨Nat.le_refl _, hk, pn_id h1 h2, .one, fun i a b => absurd b (by omega), .inl rfl⟩
theorem Mt.step {vals : List Int} {j y : Nat} (h : Mt N c k vals m j) (hu : UpTo N c k) (h1 : 1 ≤ N) (h2 : N ≤ 20) (hj : j < N) (hl : j < vals.length) (hy : c.rep j y ≠ []) (hv : (nx m y : Int) = vals.getD j 0) : Mt N c k vals (compL (c.rep j y) m) (j + 1) := by
  obtain ⟨a1, a2, a3, a4⟩ := (hu.rep j h.kj hj).at_ y hy
  have hkj := h.kj
  refine ⟨by omega, by omega, a2.comp h.pn, (hu.rep_mb h1 h2 h.kj hj hy).comp (hu.gpn (by omega)) h1 h2 h.mb, fun i hi hij => ?_, .inr (by omega)⟩
  rcases Nat.lt_or_ge i j with hlt | hge
  · rw [a2.nxc (by omega), a3 i hlt]; exact h.ag i hi hlt
  · obtain rfl : i = j := by omega
    rw [a2.nxc hj, a4]; exact hv
theorem Mt.stop {vals : List Int} {j : Nat} (h : Mt N c k vals m j) (hu : UpTo N c k) (h1 : 1 ≤ N) (h2 : N ≤ 20) (hn : ∀ y, y < N → (nx m y : Int) = vals.getD j 0 → c.rep j y = []) : NoM N c k vals j := fun hj hl q hq hag => by
  have hkj := h.kj
  have hqp := hq.pn (hu.gpn (by omega)) h1 h2
  have hqf := hu.mfx h1 h2 (by omega) hq
  have hmf := hu.mfx h1 h2 (by omega) h.mb
  have hr := hqp.comp h.pn.iv
  have hfx : Fx j (compL q (iv m)) := fun i hi => by
    rw [hqp.nxc (by omega)]
    have e : nx q i = nx m i := by
      rcases Nat.lt_or_ge i k with hlt | hge
      · rw [hqf i hlt, hmf i hlt]
      · have a := hag i hge (by omega)
        have b := h.ag i hge hi
        omega
    rw [e, h.pn.nxi (by omega)]
  have hmb : Mb (c.gen k) N (compL q (iv m)) := hq.comp (hu.gpn (by omega)) h1 h2 (h.mb.inv (hu.gpn (by omega)) h1 h2)
  have hs := (hu.stab h1 h2 h.kj h.jN hr hfx).1 ((hu.sv k (Nat.le_refl _) (by omega) _).2 hmb)
  have h3 := (hs.inv_low hj).2.2.1
  rw [hqp.nxc hj] at h3
  have hlt := hqp.lt hj
  refine h3 (hn _ (h.pn.iv.lt hlt) ?_)
  rw [h.pn.nxi' hlt]
  exact hag j h.kj (Nat.le_refl _)
/-- Membership: all entries are found. -/
theorem Mt.mem {j : Nat} (h : Mt N c k p m j) (hn : NoM N c k p j) (hu : UpTo N c k) (h1 : 1 ≤ N) (h2 : N ≤ 20) (hk : k ≤ N) (hp : Pn N p) (hf : Fx k p) : j = N ↔ Mb (c.gen k) N p := by
  constructor
  · rintro rfl
    have hmf := hu.mfx h1 h2 hk h.mb
    have : m = p := h.pn.ext hp fun x hx => by
      rcases Nat.lt_or_ge x k with hlt | hge
      · rw [hmf x hlt, hf x hlt]
      · have a := h.ag x hge hx
        rw [nx_val hp.1 (by rw [hp.2]; exact hx)] at a
        omega
    rw [← this]; exact h.mb
  · intro hm
    rcases Nat.lt_or_ge j N with hl | hl
    · exfalso
      refine hn hl (by rw [hp.2]; exact hl) p hm fun i _ hi => ?_
      rw [nx_val hp.1 (by rw [hp.2]; omega)]
    · have := h.jN; omega
end
end Go.Proofs.Ytkjokchhffjidaa

/- The program's chain in memory: linked structs, each with generators, an orbit and movers; how it reads, what one store, one append, one call on a later link leave of it. No condition. -/
namespace Go.Proofs.Ytkjokchhffjidaa
open Go.RowKit

def ofP (xs : List Nat) : List Int := xs.map Int.ofNat
theorem ofP_snoc (xs : List Nat) (x : Nat) : ofP (xs ++ [x]) = ofP xs ++ [(x : Int)] := by simp [ofP]
theorem ofP_len (xs : List Nat) : (ofP xs).length = xs.length := by simp [ofP]
/-- Where a link lies: its block, its slice of generators and their entries, its orbit's slice, its movers' block and their entries; the orbit. -/
structure LK where
  B : Nat
  g : SV
  ge : List SV
  o : SV
  mb : Nat
  en : List SV
  orb : List Nat
/-- The four blocks of a link that may turn. -/
def mu (l : LK) : Nat → Option Nat
  | 0 => some l.B
  | 1 => (sval l.g).ownBlock
  | 2 => (sval l.o).ownBlock
  | _ => some l.mb
/-- The blocks of the links from k on. -/
def Mu (N k : Nat) (L : Nat → LK) (b : Nat) : Prop := ∃ i t, k ≤ i ∧ i < N ∧ t < 4 ∧ mu (L i) t = some b
/-- The pointer to link i, nil behind the last. -/
def ptr (N : Nat) (L : Nat → LK) (i : Nat) : Value := if i < N then .pointer (some ⟨(L i).B, 0, none⟩) else .pointer none
/-- d reads as p, in blocks outside of M. -/
structure Rd (w : World) (M : Nat → Prop) (d : SV) (p : List Int) : Prop where
  len : p.length = d.2.1
  cap : d.2.1 ≤ d.2.2
  at_ : 0 < p.length → ∃ b off, d.1 = some ⟨b, off, none⟩ ∧ b < w.heap.size ∧ ¬ M b ∧ ∀ j, j < p.length → w.cell? ⟨b, off + j, none⟩ = some (.int .i64 (p.getD j 0))
/-- One link in memory. -/
structure Lk (w : World) (base N k : Nat) (M : Nat → Prop) (rep : Nat → List Int) (gen : List (List Int)) (nxt : Value) (l : LK) : Prop where
  blk : Blk w l.B 93 #[.int .i64 (k : Nat), sval l.g, sval l.o, .slice (some ⟨l.mb, 0, none⟩) N N, nxt]
  hB : base ≤ l.B
  gown : w.ownsRow base 59 1 (sval l.g) gen.length (l.ge.map sval)
  glen : l.ge.length = gen.length
  gent : ∀ y, y < gen.length → Rd w M (l.ge.getD y sd0) (gen.getD y [])
  oown : Slc w base l.o.1 l.o.2.1 l.o.2.2 (ofP l.orb)
  mown : w.ownsRow base 59 1 (.slice (some ⟨l.mb, 0, none⟩) N N) N (l.en.map sval)
  mlen : l.en.length = N
  ment : ∀ y, y < N → (rep y = [] → l.en.getD y sd0 = sd0) ∧ (rep y ≠ [] → Rd w M (l.en.getD y sd0) (rep y))
/-- The links from k on in memory. -/
structure Ck (w : World) (base N k : Nat) (M : Nat → Prop) (c : Ch) (L : Nat → LK) : Prop where
  lk : ∀ i, k ≤ i → i < N → Lk w base N i M (c.rep i) (c.gen i) (ptr N L (i + 1)) (L i)
  mm : ∀ i t b, k ≤ i → i < N → t < 4 → mu (L i) t = some b → M b
  mlt : ∀ b, M b → base ≤ b ∧ b < w.heap.size
  dis : ∀ i t i' t' b, k ≤ i → i < N → t < 4 → k ≤ i' → i' < N → t' < 4 → mu (L i) t = some b → mu (L i') t' = some b → i = i' ∧ t = t'
def Orbs (N k : Nat) (c : Ch) (L : Nat → LK) : Prop := ∀ i, k ≤ i → i < N → Orb c i (L i).orb
/-- What a call on link k leaves of the rest. -/
structure Gw (w w' : World) (N k : Nat) (L L' : Nat → LK) (M M' : Nat → Prop) : Prop where
  chg : Chg w w' (Mu N k L)
  keep : ∀ i, i < k → L' i = L i
  ptr : ∀ i, (L' i).B = (L i).B
  mm : ∀ b, M b → M' b
  new_ : ∀ b, M' b → M b ∨ w.heap.size ≤ b
  mu : ∀ b, Mu N k L' b → Mu N k L b ∨ w.heap.size ≤ b
  en : ∀ i y, (L i).en.getD y sd0 ≠ sd0 → (L' i).en.getD y sd0 = (L i).en.getD y sd0

section
variable {w w' w1 : World} {base N k i y : Nat} {M M' M1 S : Nat → Prop} {c c' : Ch} {L L' L1 : Nat → LK} {l l' : LK} {d : SV} {p q : List Int} {rep : Nat → List Int} {gen : List (List Int)} {nxt : Value}

/-! ### reading -/
theorem Rd.ri (h : Rd w M d p) : RI w w.heap.size d.1 p := fun hp => by
  obtain ⟨b, off, e, hb, _, hc⟩ := h.at_ hp
  exact ⟨b, off, e, hb, hc⟩
theorem Rd.keep (h : Rd w M d p) (hc : Chg w w' S) (hS : ∀ b, S b → M b) (hM : ∀ b, M' b → M b ∨ w.heap.size ≤ b) : Rd w' M' d p :=
  ⟨h.len, h.cap, fun hp => by
    obtain ⟨b, off, e, hb, hn, hcell⟩ := h.at_ hp
    refine ⟨b, off, e, by have := hc.size; omega, fun hm => ?_, fun j hj => ?_⟩
    · rcases hM b hm with h | h
      · exact hn h
      · omega
    · rw [← hcell j hj]
      exact World.cell?_of_block (hc.block b hb fun hs => hn (hS b hs))⟩
theorem Rd.up (h : Rd w M d p) (hb : Below w.heap.size w w') : Rd w' M d p := h.keep (S := fun _ => False) (.of_below hb) (fun _ e => e.elim) fun _ e => .inl e
theorem Rd.of_slc {B : Nat} (h : Slc w B d.1 d.2.1 d.2.2 p) (hM : ∀ b, M b → b < B) : Rd w M d p :=
  ⟨h.1, h.le.1, fun hp => by
    rcases h.at_ with ⟨_, e, _⟩ | ⟨g, e, h1, h2⟩
    · rw [e] at hp; simp at hp
    · refine ⟨g, 0, e, h2, fun hm => by have := hM g hm; omega, fun j hj => ?_⟩
      obtain ⟨b, off, e2, _, hc⟩ := h.ri_ hp
      rw [e] at e2
      injection e2 with e2
      injection e2 with e3 e4
      subst e3
      rw [e4]
      exact hc j hj⟩
theorem Rd.more (h : Rd w M d p) (hM : ∀ b, M' b → M b ∨ w.heap.size ≤ b) : Rd w M' d p := h.keep (S := fun _ => False) (.refl _ _) (fun _ e => e.elim) hM
theorem Rd.of_ri {A : Option Addr} {n cc B : Nat} (h : RI w B A p) (lp : p.length = n) (hc : n ≤ cc) (hB : B ≤ w.heap.size) (hM : ∀ b, M b → B ≤ b) : Rd w M (A, n, cc) p :=
  ⟨lp, hc, fun hp => by
    obtain ⟨b, off, e, hb, hcell⟩ := h hp
    exact ⟨b, off, e, by omega, fun hm => by have := hM b hm; omega, hcell⟩⟩

theorem Blk.chg {g : Nat} {t : TypeId} {cs : Array Value} (h : Blk w g t cs) (hc : Chg w w' S) (hn : ¬ S g) : Blk w' g t cs := (hc.block g h.lt hn).trans h
theorem Slc.chgS {A : Option Addr} {n cc : Nat} {xs : List Int} (h : Slc w base A n cc xs) (hc : Chg w w' S) (hn : ∀ b, (Value.slice A n cc).ownBlock = some b → ¬ S b) : Slc w' base A n cc xs := ⟨h.1, ownsRow_chg h.2 hc hn⟩
/-- A link whose blocks do not turn is kept. -/
theorem Lk.keep (h : Lk w base N k M rep gen nxt l) (hc : Chg w w' S) (hn : ∀ t b, t < 4 → mu l t = some b → ¬ S b) (hS : ∀ b, S b → M b) (hM : ∀ b, M' b → M b ∨ w.heap.size ≤ b) : Lk w' base N k M' rep gen nxt l :=
  ⟨h.blk.chg hc (hn 0 _ (by decide) rfl), h.hB, ownsRow_chg h.gown hc fun b e => hn 1 b (by decide) e, h.glen, fun y hy => (h.gent y hy).keep hc hS hM, h.oown.chgS hc fun b e => hn 2 b (by decide) e,
    ownsRow_chg h.mown hc fun b e => hn 3 b (by decide) e, h.mlen, fun y hy => ⟨(h.ment y hy).1, fun e => ((h.ment y hy).2 e).keep hc hS hM⟩⟩
theorem Ck.up (h : Ck w base N k M c L) (hb : Below w.heap.size w w') : Ck w' base N k M c L :=
  ⟨fun i a b => (h.lk i a b).keep (S := fun _ => False) (.of_below hb) (fun _ _ _ _ e => e.elim) (fun _ e => e.elim) fun _ e => .inl e, h.mm, fun b e => by have := h.mlt b e; have := hb.size; omega, h.dis⟩
theorem Ck.muM (h : Ck w base N k M c L) : ∀ b, Mu N k L b → M b := fun b ⟨i, t, a1, a2, a3, e⟩ => h.mm i t b a1 a2 a3 e
theorem Mu.mono {j : Nat} (h : Mu N k L y) (hj : j ≤ k) : Mu N j L y := by
  obtain ⟨i, t, a1, a2⟩ := h
  exact ⟨i, t, by omega, a2⟩
theorem Ck.above (h : Ck w base N k M c L) {j : Nat} (hj : k ≤ j) : Ck w base N j M c L :=
  ⟨fun i a b => h.lk i (by omega) b, fun i t b a1 a2 => h.mm i t b (by omega) a2, h.mlt, fun i t i' t' b a1 a2 a3 a4 => h.dis i t i' t' b (by omega) a2 a3 (by omega)⟩
theorem Gw.refl (w : World) (N k : Nat) (L : Nat → LK) (M : Nat → Prop) : Gw w w N k L L M M := ⟨.refl _ _, fun _ _ => rfl, fun _ => rfl, fun _ e => e, fun _ e => .inl e, fun _ e => .inl e, fun _ _ _ => rfl⟩
theorem Gw.trans (h : Gw w w1 N k L L1 M M1) (h2 : Gw w1 w' N k L1 L' M1 M') : Gw w w' N k L L' M M' :=
  ⟨h.chg.trans h2.chg h.mu, fun i hi => (h2.keep i hi).trans (h.keep i hi), fun i => (h2.ptr i).trans (h.ptr i), fun b e => h2.mm b (h.mm b e), fun b e => by
    rcases h2.new_ b e with h3 | h3
    · exact h.new_ b h3
    · exact .inr (by have := h.chg.size; omega), fun b e => by
    rcases h2.mu b e with h3 | h3
    · exact h.mu b h3
    · exact .inr (by have := h.chg.size; omega), fun i y e => (h2.en i y (by rw [h.en i y e]; exact e)).trans (h.en i y e)⟩
theorem Gw.of_below (h : Below w.heap.size w w') : Gw w w' N k L L M M := ⟨.of_below h, fun _ _ => rfl, fun _ => rfl, fun _ e => e, fun _ e => .inl e, fun _ e => .inl e, fun _ _ _ => rfl⟩
theorem Rd.gw (h : Rd w M d p) (g : Gw w w' N k L L' M M') (hm : ∀ b, Mu N k L b → M b) : Rd w' M' d p := h.keep g.chg hm g.new_
/-- What a call on a later link leaves of this one. -/
theorem Gw.down (g : Gw w w' N (k + 1) L L' M M') (h : Ck w base N k M c L) : Gw w w' N k L L' M M' :=
  ⟨⟨g.chg.os, g.chg.tape, g.chg.output, g.chg.size, fun b hb hn => g.chg.block b hb fun e => hn (e.mono (by omega))⟩, fun i hi => g.keep i (by omega), g.ptr, g.mm, g.new_, fun b ⟨i, t, a1, a2, a3, e⟩ => by
    by_cases ei : i = k
    · subst ei
      rw [g.keep i (by omega)] at e
      exact .inl ⟨i, t, a1, a2, a3, e⟩
    · rcases g.mu b ⟨i, t, by omega, a2, a3, e⟩ with h3 | h3
      · exact .inl (h3.mono (by omega))
      · exact .inr h3, g.en⟩
theorem ptr_eq (e : ∀ i, (L' i).B = (L i).B) (i : Nat) : ptr N L' i = ptr N L i := by unfold ptr; rw [e]
theorem Ck.down (h : Ck w base N k M c L) (hk : k < N) (h' : Ck w' base N (k + 1) M' c' L') (g : Gw w w' N (k + 1) L L' M M') (er : c'.rep k = c.rep k) (eg : c'.gen k = c.gen k) : Ck w' base N k M' c' L' := by
  have hL : L' k = L k := g.keep k (by omega)
  have hnS : ∀ t b, t < 4 → mu (L k) t = some b → ¬ Mu N (k + 1) L b := fun t b ht e ⟨i, t', a1, a2, a3, e'⟩ => by
    have := (h.dis k t i t' b (Nat.le_refl _) hk ht (by omega) a2 a3 e e').1
    omega
  refine ⟨fun i a b => ?_, fun i t b a1 a2 a3 e => ?_, h'.mlt, fun i t i' t' b a1 a2 a3 a4 a5 a6 e e' => ?_⟩
  · by_cases ei : i = k
    · subst ei
      rw [er, eg, hL, ptr_eq g.ptr]
      exact (h.lk i (Nat.le_refl _) hk).keep g.chg hnS (fun b e => h.muM b (e.mono (by omega))) g.new_
    · exact h'.lk i (by omega) b
  · by_cases ei : i = k
    · subst ei
      rw [hL] at e
      exact g.mm b (h.mm i t b a1 a2 a3 e)
    · exact h'.mm i t b (by omega) a2 a3 e
  · have hx : ∀ i t t', k + 1 ≤ i → i < N → t < 4 → t' < 4 → mu (L' i) t = some b → mu (L k) t' = some b → False := fun i t t' b1 b2 b3 b4 e1 e2 => by
      rcases g.mu b ⟨i, t, b1, b2, b3, e1⟩ with h3 | h3
      · exact hnS t' b b4 e2 h3
      · have := (h.mlt b (h.mm k t' b (Nat.le_refl _) hk b4 e2)).2
        omega
    by_cases ei : i = k <;> by_cases ei' : i' = k
    · subst ei; subst ei'
      rw [hL] at e e'
      exact h.dis _ t _ t' b a1 a2 a3 a4 a5 a6 e e'
    · subst ei
      rw [hL] at e
      exact (hx i' t' t (by omega) a5 a6 a3 e' e).elim
    · subst ei'
      rw [hL] at e'
      exact (hx i t t' (by omega) a2 a3 a6 e e').elim
    · exact h'.dis i t i' t' b (by omega) a2 a3 (by omega) a5 a6 e e'

/-! ### one link turns -/
def upd (L : Nat → LK) (k : Nat) (l : LK) : Nat → LK := fun i => if i = k then l else L i
theorem upd_at : upd L k l k = l := if_pos rfl
theorem upd_ne (h : i ≠ k) : upd L k l i = L i := if_neg h
theorem upd_B (hB : l.B = (L k).B) : ∀ i, (upd L k l i).B = (L i).B := fun i => by
  unfold upd
  by_cases e : i = k
  · rw [if_pos e, hB, e]
  · rw [if_neg e]
theorem Ck.upd (h : Ck w base N k M c L) (hk : k < N) (hc : Chg w w' S) (hS : ∀ b, S b → ∃ t, t < 4 ∧ mu (L k) t = some b) (hM2 : ∀ b, M' b → M b ∨ (w.heap.size ≤ b ∧ b < w'.heap.size)) (hMM : ∀ b, M b → M' b)
    (hl : Lk w' base N k M' (c'.rep k) (c'.gen k) (ptr N L (k + 1)) l') (hB : l'.B = (L k).B) (ht : ∀ t b, t < 4 → mu l' t = some b → (mu (L k) t = some b ∨ w.heap.size ≤ b) ∧ M' b)
    (hd : ∀ t t' b, t < 4 → t' < 4 → mu l' t = some b → mu l' t' = some b → t = t') (he : ∀ i, k < i → c'.rep i = c.rep i ∧ c'.gen i = c.gen i) (hen : ∀ y, (L k).en.getD y sd0 ≠ sd0 → l'.en.getD y sd0 = (L k).en.getD y sd0) : Ck w' base N k M' c' (Proofs.Ytkjokchhffjidaa.upd L k l') ∧ Gw w w' N k L (Proofs.Ytkjokchhffjidaa.upd L k l') M M' := by
  have hSM : ∀ b, S b → M b := fun b e => by
    obtain ⟨t, a, e⟩ := hS b e
    exact h.mm k t b (Nat.le_refl _) hk a e
  have hM3 : ∀ b, M' b → M b ∨ w.heap.size ≤ b := fun b e => by
    rcases hM2 b e with h | h
    · exact .inl h
    · exact .inr h.1
  have hbs : base ≤ w.heap.size := by
    have := h.mlt _ (h.mm k 0 _ (Nat.le_refl _) hk (by decide) rfl); omega
  have hx : ∀ i t t' b, k < i → i < N → t < 4 → t' < 4 → mu (L i) t = some b → mu l' t' = some b → False := fun i t t' b b1 b2 b3 b4 e1 e2 => by
    rcases (ht t' b b4 e2).1 with h3 | h3
    · have := (h.dis i t k t' b (by omega) b2 b3 (Nat.le_refl _) hk b4 e1 h3).1
      omega
    · have := (h.mlt b (h.mm i t b (by omega) b2 b3 e1)).2
      omega
  refine ⟨⟨fun i a b => ?_, fun i t b a1 a2 a3 e => ?_, fun b e => ?_, fun i t i' t' b a1 a2 a3 a4 a5 a6 e e' => ?_⟩, ⟨⟨hc.os, hc.tape, hc.output, hc.size, fun b hb hn => hc.block b hb fun e => hn ?_⟩, fun i hi => upd_ne (by omega), upd_B hB, hMM, hM3, fun b ⟨i, t, a1, a2, a3, e⟩ => ?_, fun i y h0 => by
    by_cases ei : i = k
    · subst ei; rw [upd_at]; exact hen y h0
    · rw [upd_ne ei]⟩⟩
  · rw [ptr_eq (upd_B hB)]
    by_cases ei : i = k
    · subst ei; rw [upd_at]; exact hl
    · rw [upd_ne ei, (he i (by omega)).1, (he i (by omega)).2]
      refine (h.lk i a b).keep hc (fun t b' t4 e hs => ?_) hSM hM3
      obtain ⟨t', a', e'⟩ := hS b' hs
      exact ei (h.dis i t k t' b' a b t4 (Nat.le_refl _) hk a' e e').1
  · by_cases ei : i = k
    · subst ei; rw [upd_at] at e; exact (ht t b a3 e).2
    · rw [upd_ne ei] at e; exact hMM b (h.mm i t b a1 a2 a3 e)
  · have := hc.size
    rcases hM2 b e with h3 | h3
    · have := h.mlt b h3; omega
    · omega
  · by_cases ei : i = k <;> by_cases ei' : i' = k
    · subst ei; subst ei'
      rw [upd_at] at e e'
      exact ⟨rfl, hd t t' b a3 a6 e e'⟩
    · subst ei
      rw [upd_at] at e
      rw [upd_ne ei'] at e'
      exact (hx i' t' t b (by omega) a5 a6 a3 e' e).elim
    · subst ei'
      rw [upd_at] at e'
      rw [upd_ne ei] at e
      exact (hx i t t' b (by omega) a2 a3 a6 e e').elim
    · rw [upd_ne ei] at e
      rw [upd_ne ei'] at e'
      exact h.dis i t i' t' b a1 a2 a3 a4 a5 a6 e e'
  · obtain ⟨t, a, e⟩ := hS b e
    exact ⟨k, t, Nat.le_refl _, hk, a, e⟩
  · by_cases ei : i = k
    · subst ei
      rw [upd_at] at e
      rcases (ht t b a3 e).1 with h3 | h3
      · exact .inl ⟨i, t, a1, a2, a3, h3⟩
      · exact .inr h3
    · rw [upd_ne ei] at e
      exact .inl ⟨i, t, a1, a2, a3, e⟩
/-- A mover is stored. -/
theorem Ck.store (h : Ck w base N k M c L) (hk : k < N) (hy : y < N) (hd : Rd w M d q) (hq : q ≠ []) (h0 : (L k).en.getD y sd0 = sd0) :
    Ck (w.setCell ⟨(L k).mb, y, none⟩ (sval d)) base N k M (c.set k y q) (Proofs.Ytkjokchhffjidaa.upd L k { L k with en := (L k).en.set y d }) ∧ Gw w (w.setCell ⟨(L k).mb, y, none⟩ (sval d)) N k L (Proofs.Ytkjokchhffjidaa.upd L k { L k with en := (L k).en.set y d }) M M := by
  have hl := h.lk k (Nat.le_refl _) hk
  obtain ⟨hown, hgr⟩ := hl.mown.stored y (sval d)
  have hc : Chg w (w.setCell ⟨(L k).mb, y, none⟩ (sval d)) (fun b => b = (L k).mb) := .of_grown hgr (by intro b e; injection e with e; exact e.symm)
  have hSM : ∀ b, b = (L k).mb → M b := fun b e => h.mm k 3 b (Nat.le_refl _) hk (by decide) (by rw [e]; rfl)
  have hne : ∀ t b, t < 3 → mu (L k) t = some b → ¬ b = (L k).mb := fun t b ht e e2 => by
    have := (h.dis k t k 3 b (Nat.le_refl _) hk (by omega) (Nat.le_refl _) hk (by decide) e (by rw [e2]; rfl)).2
    omega
  refine h.upd hk hc (fun b e => ⟨3, by decide, by rw [e]; rfl⟩) (fun b e => .inl e) (fun b e => e) ?_ rfl (fun t b ht e => ⟨.inl (by rcases t with _ | _ | _ | t <;> exact e), h.mm k t b (Nat.le_refl _) hk ht (by rcases t with _ | _ | _ | t <;> exact e)⟩)
    (fun t t' b a1 a2 e e' => (h.dis k t k t' b (Nat.le_refl _) hk a1 (Nat.le_refl _) hk a2 (by rcases t with _ | _ | _ | t <;> exact e) (by rcases t' with _ | _ | _ | t' <;> exact e')).2) (fun i hi => ⟨funext fun z => set_ne (.inl (by omega)), rfl⟩)
    (fun z hz => by
      have hne : z ≠ y := fun e => hz (by rw [e]; exact h0)
      show ((L k).en.set y d).getD z sd0 = _
      rw [getD_set_ne fun e => hne e.symm])
  refine ⟨hl.blk.chg hc (hne 0 _ (by decide) rfl), hl.hB, ownsRow_chg hl.gown hc fun b e => hne 1 b (by decide) e, hl.glen, fun z hz => (hl.gent z hz).keep hc hSM fun _ e => .inl e, hl.oown.chgS hc fun b e => hne 2 b (by decide) e, ?_, ?_, fun z hz => ?_⟩
  · rw [List.map_set]; exact hown
  · rw [List.length_set]; exact hl.mlen
  · show ((c.set k y q).rep k z = [] → ((L k).en.set y d).getD z sd0 = sd0) ∧ ((c.set k y q).rep k z ≠ [] → Rd _ M (((L k).en.set y d).getD z sd0) ((c.set k y q).rep k z))
    by_cases e : z = y
    · subst e
      rw [set_at, getD_set_eq (by rw [hl.mlen]; exact hz)]
      exact ⟨fun e => absurd e hq, fun _ => hd.keep hc hSM fun _ e => .inl e⟩
    · rw [set_ne (.inr e), getD_set_ne (fun e2 => e e2.symm)]
      exact ⟨(hl.ment z hz).1, fun e => ((hl.ment z hz).2 e).keep hc hSM fun _ e => .inl e⟩
/-- A point is appended to the orbit; the slice is stored. -/
theorem Ck.orbit (h : Ck w base N k M c L) (hk : k < N) (bA : Below w.heap.size w w1) {w2 : World} {A : Option Addr} {n cc : Nat} (hg : w1.grownBy w2 (sval (L k).o).ownBlock) (hown : Slc w2 base A n cc (ofP (L k).orb ++ [(y : Int)]))
    (hat : (Value.slice A n cc).ownBlock = (sval (L k).o).ownBlock ∨ (Value.slice A n cc).ownBlock = some w1.heap.size) :
    ∃ M', Ck (w2.setCell ⟨(L k).B, 2, none⟩ (.slice A n cc)) base N k M' c (Proofs.Ytkjokchhffjidaa.upd L k { L k with o := (A, n, cc), orb := (L k).orb ++ [y] }) ∧ Gw w (w2.setCell ⟨(L k).B, 2, none⟩ (.slice A n cc)) N k L (Proofs.Ytkjokchhffjidaa.upd L k { L k with o := (A, n, cc), orb := (L k).orb ++ [y] }) M M' := by
  have hl := h.lk k (Nat.le_refl _) hk
  have hz1 := bA.size
  have hz2 := hg.size
  have hBlt := hl.blk.lt
  have c1 : Chg w w2 (fun b => (sval (L k).o).ownBlock = some b) := (Chg.of_below (M := fun b => (sval (L k).o).ownBlock = some b) bA).trans (.of_grown (M := fun b => (sval (L k).o).ownBlock = some b) hg fun b e => e) fun b e => .inl e
  have hoB : ∀ b, (Value.slice A n cc).ownBlock = some b → b ≠ (L k).B := fun b e e2 => by
    rcases hat with ha | ha
    · rw [ha] at e
      have := (h.dis k 2 k 0 b (Nat.le_refl _) hk (by decide) (Nat.le_refl _) hk (by decide) e (by rw [e2]; rfl)).2
      omega
    · rw [ha] at e; injection e with e; omega
  have c2 : Chg w2 (w2.setCell ⟨(L k).B, 2, none⟩ (.slice A n cc)) (fun b => b = (L k).B) := ⟨rfl, rfl, rfl, by simp, fun b hb hn => heap_setCell_other w2 ⟨(L k).B, 2, none⟩ _ _ fun e => hn e⟩
  have hc : Chg w (w2.setCell ⟨(L k).B, 2, none⟩ (.slice A n cc)) (fun b => (sval (L k).o).ownBlock = some b ∨ b = (L k).B) :=
    (⟨c1.os, c1.tape, c1.output, c1.size, fun b hb hn => c1.block b hb fun e => hn (.inl e)⟩ : Chg w w2 (fun b => (sval (L k).o).ownBlock = some b ∨ b = (L k).B)).trans c2 fun b e => .inl (.inr e)
  have hSM : ∀ b, ((sval (L k).o).ownBlock = some b ∨ b = (L k).B) → M b := fun b e => by
    rcases e with e | e
    · exact h.mm k 2 b (Nat.le_refl _) hk (by decide) e
    · exact h.mm k 0 b (Nat.le_refl _) hk (by decide) (by rw [e]; rfl)
  have hnS : ∀ t b, t = 1 ∨ t = 3 → mu (L k) t = some b → ¬ ((sval (L k).o).ownBlock = some b ∨ b = (L k).B) := fun t b ht e hs => by
    rcases hs with hs | hs
    · have := (h.dis k t k 2 b (Nat.le_refl _) hk (by omega) (Nat.le_refl _) hk (by decide) e hs).2
      omega
    · have := (h.dis k t k 0 b (Nat.le_refl _) hk (by omega) (Nat.le_refl _) hk (by decide) e (by rw [hs]; rfl)).2
      omega
  have hw2 : w2.heap.size = (w2.setCell ⟨(L k).B, 2, none⟩ (.slice A n cc)).heap.size := by simp
  have hM' : ∀ b, (M b ∨ (Value.slice A n cc).ownBlock = some b) → M b ∨ (w.heap.size ≤ b ∧ b < (w2.setCell ⟨(L k).B, 2, none⟩ (.slice A n cc)).heap.size) := fun b e => by
    rcases e with e | e
    · exact .inl e
    · rcases hat with ha | ha
      · rw [ha] at e; exact .inl (h.mm k 2 b (Nat.le_refl _) hk (by decide) e)
      · have hlt := (hown.lt_ b e).2
        rw [ha] at e; injection e with e
        exact .inr ⟨by omega, by rw [← hw2]; exact hlt⟩
  have hM3 : ∀ b, (M b ∨ (Value.slice A n cc).ownBlock = some b) → M b ∨ w.heap.size ≤ b := fun b e => by
    rcases hM' b e with h | h
    · exact .inl h
    · exact .inr h.1
  refine ⟨fun b => M b ∨ (Value.slice A n cc).ownBlock = some b, h.upd hk hc (fun b e => ?_) hM' (fun b e => .inl e) ?_ rfl (fun t b ht e => ?_) (fun t t' b a1 a2 e e' => ?_) (fun i _ => ⟨rfl, rfl⟩) (fun _ _ => rfl)⟩
  · rcases e with e | e
    · exact ⟨2, by decide, e⟩
    · exact ⟨0, by decide, by rw [e]; rfl⟩
  · refine ⟨?_, hl.hB, ownsRow_chg hl.gown hc fun b e => hnS 1 b (.inl rfl) e, hl.glen, fun z hz => (hl.gent z hz).keep hc hSM hM3, ?_, ownsRow_chg hl.mown hc fun b e => hnS 3 b (.inr rfl) e, hl.mlen, fun z hz => ⟨(hl.ment z hz).1, fun e => ((hl.ment z hz).2 e).keep hc hSM hM3⟩⟩
    · have b2 : Blk w2 (L k).B 93 #[.int .i64 (k : Nat), sval (L k).g, sval (L k).o, .slice (some ⟨(L k).mb, 0, none⟩) N N, ptr N L (k + 1)] := hl.blk.chg c1 fun e => by
        have := (h.dis k 2 k 0 _ (Nat.le_refl _) hk (by decide) (Nat.le_refl _) hk (by decide) e rfl).2
        omega
      have := b2.set_ 2 (.slice A n cc)
      simpa [sval] using this
    · have e1 : ofP ((L k).orb ++ [y]) = ofP (L k).orb ++ [(y : Int)] := ofP_snoc _ _
      show Slc _ base A n cc (ofP ((L k).orb ++ [y]))
      rw [e1]
      exact hown.chgS c2 hoB
  · have hold : t ≠ 2 → mu (L k) t = some b := fun ne => by
      rcases t with _ | _ | _ | t
      · exact e
      · exact e
      · exact absurd rfl ne
      · exact e
    by_cases e2 : t = 2
    · subst e2
      have e : (Value.slice A n cc).ownBlock = some b := e
      refine ⟨?_, .inr e⟩
      rcases hat with ha | ha
      · rw [ha] at e; exact .inl e
      · rw [ha] at e; injection e with e; exact .inr (by omega)
    · exact ⟨.inl (hold e2), .inl (h.mm k t b (Nat.le_refl _) hk ht (hold e2))⟩
  · have hold : ∀ t, t < 4 → mu { L k with o := (A, n, cc), orb := (L k).orb ++ [y] } t = some b → mu (L k) t = some b ∨ (t = 2 ∧ w.heap.size ≤ b) := fun t ht e => by
      rcases t with _ | _ | _ | t
      · exact .inl e
      · exact .inl e
      · have e : (Value.slice A n cc).ownBlock = some b := e
        rcases hat with ha | ha
        · rw [ha] at e; exact .inl e
        · rw [ha] at e; injection e with e; exact .inr ⟨rfl, by omega⟩
      · exact .inl e
    have hmx : ∀ t, t < 4 → mu (L k) t = some b → b < w.heap.size := fun t ht e => (h.mlt b (h.mm k t b (Nat.le_refl _) hk ht e)).2
    rcases hold t a1 e with h1 | ⟨h1, h2⟩ <;> rcases hold t' a2 e' with h3 | ⟨h3, h4⟩
    · exact (h.dis k t k t' b (Nat.le_refl _) hk a1 (Nat.le_refl _) hk a2 h1 h3).2
    · have := hmx t a1 h1; omega
    · have := hmx t' a2 h3; omega
    · omega
/-- A generator is appended; the slice is stored. -/
theorem Ck.pushg (h : Ck w base N k M c L) (hk : k < N) (bA : Below w.heap.size w w1) {w2 : World} {A : Option Addr} {n cc : Nat} (hg : w1.grownBy w2 (sval (L k).g).ownBlock) (hown : w2.ownsRow base 59 1 (.slice A n cc) ((c.gen k).length + 1) ((L k).ge.map sval ++ [sval d]))
    (hat : (Value.slice A n cc).ownBlock = (sval (L k).g).ownBlock ∨ (Value.slice A n cc).ownBlock = some w1.heap.size) (hd : Rd w M d q) :
    ∃ M', Ck (w2.setCell ⟨(L k).B, 1, none⟩ (.slice A n cc)) base N k M' (c.push k q) (Proofs.Ytkjokchhffjidaa.upd L k { L k with g := (A, n, cc), ge := (L k).ge ++ [d] }) ∧ Gw w (w2.setCell ⟨(L k).B, 1, none⟩ (.slice A n cc)) N k L (Proofs.Ytkjokchhffjidaa.upd L k { L k with g := (A, n, cc), ge := (L k).ge ++ [d] }) M M' := by
  have hl := h.lk k (Nat.le_refl _) hk
  have hz1 := bA.size
  have hz2 := hg.size
  have hBlt := hl.blk.lt
  have c1 : Chg w w2 (fun b => (sval (L k).g).ownBlock = some b) := (Chg.of_below (M := fun b => (sval (L k).g).ownBlock = some b) bA).trans (.of_grown (M := fun b => (sval (L k).g).ownBlock = some b) hg fun b e => e) fun b e => .inl e
  have hoB : ∀ b, (Value.slice A n cc).ownBlock = some b → b ≠ (L k).B := fun b e e2 => by
    rcases hat with ha | ha
    · rw [ha] at e
      have := (h.dis k 1 k 0 b (Nat.le_refl _) hk (by decide) (Nat.le_refl _) hk (by decide) e (by rw [e2]; rfl)).2
      omega
    · rw [ha] at e; injection e with e; omega
  have c2 : Chg w2 (w2.setCell ⟨(L k).B, 1, none⟩ (.slice A n cc)) (fun b => b = (L k).B) := ⟨rfl, rfl, rfl, by simp, fun b hb hn => heap_setCell_other w2 ⟨(L k).B, 1, none⟩ _ _ fun e => hn e⟩
  have hc : Chg w (w2.setCell ⟨(L k).B, 1, none⟩ (.slice A n cc)) (fun b => (sval (L k).g).ownBlock = some b ∨ b = (L k).B) :=
    (⟨c1.os, c1.tape, c1.output, c1.size, fun b hb hn => c1.block b hb fun e => hn (.inl e)⟩ : Chg w w2 (fun b => (sval (L k).g).ownBlock = some b ∨ b = (L k).B)).trans c2 fun b e => .inl (.inr e)
  have hSM : ∀ b, ((sval (L k).g).ownBlock = some b ∨ b = (L k).B) → M b := fun b e => by
    rcases e with e | e
    · exact h.mm k 1 b (Nat.le_refl _) hk (by decide) e
    · exact h.mm k 0 b (Nat.le_refl _) hk (by decide) (by rw [e]; rfl)
  have hnS : ∀ t b, t = 2 ∨ t = 3 → mu (L k) t = some b → ¬ ((sval (L k).g).ownBlock = some b ∨ b = (L k).B) := fun t b ht e hs => by
    rcases hs with hs | hs
    · have := (h.dis k t k 1 b (Nat.le_refl _) hk (by omega) (Nat.le_refl _) hk (by decide) e hs).2
      omega
    · have := (h.dis k t k 0 b (Nat.le_refl _) hk (by omega) (Nat.le_refl _) hk (by decide) e (by rw [hs]; rfl)).2
      omega
  have hw2 : w2.heap.size = (w2.setCell ⟨(L k).B, 1, none⟩ (.slice A n cc)).heap.size := by simp
  have hM' : ∀ b, (M b ∨ (Value.slice A n cc).ownBlock = some b) → M b ∨ (w.heap.size ≤ b ∧ b < (w2.setCell ⟨(L k).B, 1, none⟩ (.slice A n cc)).heap.size) := fun b e => by
    rcases e with e | e
    · exact .inl e
    · rcases hat with ha | ha
      · rw [ha] at e; exact .inl (h.mm k 1 b (Nat.le_refl _) hk (by decide) e)
      · have hlt := (World.ownsRow.lt hown b e).2
        rw [ha] at e; injection e with e
        exact .inr ⟨by omega, by rw [← hw2]; exact hlt⟩
  have hM3 : ∀ b, (M b ∨ (Value.slice A n cc).ownBlock = some b) → M b ∨ w.heap.size ≤ b := fun b e => by
    rcases hM' b e with h | h
    · exact .inl h
    · exact .inr h.1
  refine ⟨fun b => M b ∨ (Value.slice A n cc).ownBlock = some b, h.upd hk hc (fun b e => ?_) hM' (fun b e => .inl e) ?_ rfl (fun t b ht e => ?_) (fun t t' b a1 a2 e e' => ?_) (fun i hi => ⟨rfl, push_ne (by omega)⟩) (fun _ _ => rfl)⟩
  · rcases e with e | e
    · exact ⟨1, by decide, e⟩
    · exact ⟨0, by decide, by rw [e]; rfl⟩
  · rw [push_at]
    refine ⟨?_, hl.hB, ?_, by simp [hl.glen], fun z hz => ?_, hl.oown.chgS hc fun b e => hnS 2 b (.inl rfl) e, ownsRow_chg hl.mown hc fun b e => hnS 3 b (.inr rfl) e, hl.mlen, fun z hz => ⟨(hl.ment z hz).1, fun e => ((hl.ment z hz).2 e).keep hc hSM hM3⟩⟩
    · have b2 : Blk w2 (L k).B 93 #[.int .i64 (k : Nat), sval (L k).g, sval (L k).o, .slice (some ⟨(L k).mb, 0, none⟩) N N, ptr N L (k + 1)] := hl.blk.chg c1 fun e => by
        have := (h.dis k 1 k 0 _ (Nat.le_refl _) hk (by decide) (Nat.le_refl _) hk (by decide) e rfl).2
        omega
      have := b2.set_ 1 (.slice A n cc)
      simpa [sval] using this
    · rw [List.length_append, List.map_append]
      exact ownsRow_chg hown c2 hoB
    · show Rd _ _ (((L k).ge ++ [d]).getD z sd0) ((c.gen k ++ [q]).getD z [])
      have hz : z < (c.gen k).length + 1 := by simpa using hz
      by_cases ez : z < (c.gen k).length
      · rw [getD_app _ _ _ z (by rw [hl.glen]; exact ez), getD_app _ _ _ z ez]
        exact (hl.gent z ez).keep hc hSM hM3
      · have ez2 : z = (c.gen k).length := by omega
        rw [getD_snoc _ _ _ z (by rw [hl.glen]; exact ez2), getD_snoc _ _ _ z ez2]
        exact hd.keep hc hSM hM3
  · have hold : t ≠ 1 → mu (L k) t = some b := fun ne => by
      rcases t with _ | _ | _ | t
      · exact e
      · exact absurd rfl ne
      · exact e
      · exact e
    by_cases e2 : t = 1
    · subst e2
      have e : (Value.slice A n cc).ownBlock = some b := e
      refine ⟨?_, .inr e⟩
      rcases hat with ha | ha
      · rw [ha] at e; exact .inl e
      · rw [ha] at e; injection e with e; exact .inr (by omega)
    · exact ⟨.inl (hold e2), .inl (h.mm k t b (Nat.le_refl _) hk ht (hold e2))⟩
  · have hold : ∀ t, t < 4 → mu { L k with g := (A, n, cc), ge := (L k).ge ++ [d] } t = some b → mu (L k) t = some b ∨ (t = 1 ∧ w.heap.size ≤ b) := fun t ht e => by
      rcases t with _ | _ | _ | t
      · exact .inl e
      · have e : (Value.slice A n cc).ownBlock = some b := e
        rcases hat with ha | ha
        · rw [ha] at e; exact .inl e
        · rw [ha] at e; injection e with e; exact .inr ⟨rfl, by omega⟩
      · exact .inl e
      · exact .inl e
    have hmx : ∀ t, t < 4 → mu (L k) t = some b → b < w.heap.size := fun t ht e => (h.mlt b (h.mm k t b (Nat.le_refl _) hk ht e)).2
    rcases hold t a1 e with h1 | ⟨h1, h2⟩ <;> rcases hold t' a2 e' with h3 | ⟨h3, h4⟩
    · exact (h.dis k t k t' b (Nat.le_refl _) hk a1 (Nat.le_refl _) hk a2 h1 h3).2
    · have := hmx t a1 h1; omega
    · have := hmx t' a2 h3; omega
    · omega
/-! ### reading a link -/
theorem Ck.cB (h : Ck w base N k M c L) (hi : k ≤ i) (hN : i < N) : w.cell? ⟨(L i).B, 0, none⟩ = some (.int .i64 (i : Nat)) ∧ w.cell? ⟨(L i).B, 1, none⟩ = some (sval (L i).g) ∧ w.cell? ⟨(L i).B, 2, none⟩ = some (sval (L i).o) ∧ w.cell? ⟨(L i).B, 3, none⟩ = some (.slice (some ⟨(L i).mb, 0, none⟩) N N) ∧ w.cell? ⟨(L i).B, 4, none⟩ = some (ptr N L (i + 1)) :=
  have b := (h.lk i hi hN).blk
  ⟨b.cell 0, b.cell 1, b.cell 2, b.cell 3, b.cell 4⟩
theorem Ck.cM (h : Ck w base N k M c L) (hi : k ≤ i) (hN : i < N) (hy : y < N) : w.cell? ⟨(L i).mb, y, none⟩ = some (sval ((L i).en.getD y sd0)) := by
  have hl := h.lk i hi hN
  rw [hl.mown.cellAt y (by omega), ents_at (by rw [hl.mlen]; exact hy)]
theorem Ck.eM (h : Ck w base N k M c L) (hi : k ≤ i) (hN : i < N) (hy : y < N) : (c.rep i y = [] → (L i).en.getD y sd0 = sd0) ∧ (c.rep i y ≠ [] → Rd w M ((L i).en.getD y sd0) (c.rep i y)) := (h.lk i hi hN).ment y hy
theorem Ck.olen (h : Ck w base N k M c L) (hi : k ≤ i) (hN : i < N) : (L i).o.2.1 = (L i).orb.length := by
  rw [← (h.lk i hi hN).oown.1, ofP_len]
theorem ofP_at {xs : List Nat} {j : Nat} (hj : j < xs.length) : (ofP xs).getD j 0 = ((xs.getD j 0 : Nat) : Int) := by
  rw [List.getD_eq_getElem?_getD, List.getD_eq_getElem?_getD, ofP, List.getElem?_map, List.getElem?_eq_getElem hj]; rfl
/-- The j-th point of an orbit. -/
theorem Ck.cO (h : Ck w base N k M c L) (hi : k ≤ i) (hN : i < N) {j : Nat} (hj : j < (L i).orb.length) : ∃ ob oc, (L i).o = (some ⟨ob, 0, none⟩, (L i).orb.length, oc) ∧ w.cell? ⟨ob, j, none⟩ = some (.int .i64 (((L i).orb.getD j 0 : Nat) : Int)) := by
  have ho := (h.lk i hi hN).oown
  rcases he : (L i).o with ⟨A, n, cc⟩
  rw [he] at ho
  have e1 : n = (L i).orb.length := by have h3 := ho.1; rw [ofP_len] at h3; exact h3.symm
  subst e1
  rcases ho.at_ with ⟨_, e, _⟩ | ⟨g, e, _, _⟩
  · have := ofP_len (L i).orb; rw [e] at this; simp at this; omega
  · have e : A = some ⟨g, 0, none⟩ := e
    subst e
    refine ⟨g, cc, rfl, ?_⟩
    obtain ⟨b, off, e2, _, hc⟩ := ho.ri_ (by rw [ofP_len]; omega)
    injection e2 with e2
    injection e2 with e3 e4
    subst e3; subst e4
    have := hc j (by rw [ofP_len]; exact hj)
    rw [ofP_at hj, Nat.zero_add] at this
    exact this
/-- The j-th generator of a link. -/
theorem Ck.cG (h : Ck w base N k M c L) (hi : k ≤ i) (hN : i < N) {j : Nat} (hj : j < (c.gen i).length) : ∃ q cq, (L i).g = (some ⟨q, 0, none⟩, (c.gen i).length, cq) ∧ (c.gen i).length ≤ cq ∧ w.cell? ⟨q, j, none⟩ = some (sval ((L i).ge.getD j sd0)) ∧ Rd w M ((L i).ge.getD j sd0) ((c.gen i).getD j []) := by
  have hl := h.lk i hi hN
  have ho := hl.gown
  rcases he : (L i).g with ⟨a, b, d⟩
  rw [he] at ho
  rcases ho.2 with ⟨e, h0⟩ | ⟨g', cap, cur, e, _, _, hcap, _⟩
  · omega
  · unfold sval at e; injection e with e1 e2 e3
    subst e1 e2 e3
    refine ⟨g', _, rfl, hcap, ?_, hl.gent j hj⟩
    have ho : w.ownsRow base 59 1 (.slice (some ⟨g', 0, none⟩) (c.gen i).length d) (c.gen i).length ((L i).ge.map sval) := ho
    rw [ho.cellAt j (by omega), ents_at (by rw [hl.glen]; exact hj)]
theorem rd_not0 (h : Rd w M d p) (hp : p ≠ []) : ∃ b off, d.1 = some ⟨b, off, none⟩ := by
  obtain ⟨b, off, e, _⟩ := h.at_ (by
    rcases p with _ | ⟨x, t⟩
    · exact absurd rfl hp
    · simp)
  exact ⟨b, off, e⟩
end
end Go.Proofs.Ytkjokchhffjidaa

/- The program's search in its chain: slices.Index, withValue, match, contains. Conditions: at most 20 points; the chain whole from the link on. -/
namespace Go.Proofs.Ytkjokchhffjidaa
open Go.RowKit

theorem pcDrewBelow (w : World) (k : Nat) : Below w.heap.size w (w.drewN k) := ⟨rfl, rfl, rfl, Nat.le_refl _, fun _ _ => rfl⟩

/-- slices.Index. -/
theorem implIdx (A : Option Addr) (n c : Nat) (p : List Int) (v : Int) (w : World) (hp : RI w w.heap.size A p) (lp : Hid (p.length = n)) (hn : n ≤ 20) :
    Calls Try.prog 122 #[.slice A n c, .int .i64 v] w fun e w' => ∃ r : Int, e = .returned (.int .i64 r) ∧ ((∃ y : Nat, r = (y : Int) ∧ y < n ∧ p.getD y 0 = v) ∨ (r = -1 ∧ ∀ y, y < n → p.getD y 0 ≠ v)) ∧ w = w' := by
  go_enter Try.func122, Try.ntmps122
  go_wp2_with fail
  go_loopw [8] (fun i wr => ∃ k : Nat, k ≤ n ∧ i = .int .i64 (k : Nat) ∧ (∀ y, y < k → p.getD y 0 ≠ v) ∧ w = wr) (fun i _ => n - (intOf i).toNat)
  case atStart => exact ⟨0, Nat.zero_le _, rfl, fun y h => absurd h (by omega), rfl⟩
  case round =>
    obtain ⟨k, hk, rfl, hno, rfl⟩ := hrel
    have Hno := Lib.hid hno
    clear hno
    by_cases hlt : k < n
    · obtain ⟨b, off, rfl, hb, hc⟩ := hp (by rw [lp.out]; omega)
      have c1 := hc k (by rw [lp.out]; omega)
      obtain ⟨y, ey⟩ : ∃ y, p.getD k 0 = y := ⟨_, rfl⟩
      rw [ey] at c1
      have Ey := Lib.hid ey
      have p1 : (0 : Int) ≤ k := by omega
      have p2 : (k : Int) < n := by omega
      clear ey hc hp
      by_cases hv : v = y
      · subst hv
        go_wp2_with fail
        go_ret
        exact ⟨_, rfl, .inl ⟨k, rfl, hlt, Ey.out⟩, rfl⟩
      · have d1 : (v == y) = false := by simpa using hv
        have Hv := Lib.hid hv
        clear hv
        go_wp2_with fail
        go_roundw
        case rel => exact ⟨k + 1, by omega, by go_num, fun z hz => by
          rcases Nat.lt_or_ge z k with h | h
          · exact Hno.out z h
          · obtain rfl : z = k := by omega
            rw [Ey.out]; exact fun e => Hv.out e.symm, trivial⟩
        case measure => simp [intOf]; omega
    · obtain rfl : k = n := by omega
      go_wp2_with fail
      go_ret
      exact ⟨_, rfl, .inr ⟨rfl, Hno.out⟩, rfl⟩

set_option maxHeartbeats 2000000 in
set_option maxRecDepth 100000 in
/-- withValue at link j. -/
theorem implWith (base N k j cp : Nat) (M : Nat → Prop) (c : Ch) (L : Nat → LK) (A : Option Addr) (m : List Int) (v : Int) (w : World) (hc : Ck w base N k M c L) (hkj : k ≤ j) (hjN : j < N) (hr : Hid (RepOK N c j)) (hm : RI w w.heap.size A m) (hP : Hid (Pn N m)) :
    Calls Try.prog 109 #[.pointer (some ⟨(L j).B, 0, none⟩), .slice A N cp, .int .i64 v] w fun e w' => ∃ (A' : Option Addr) (n' c' : Nat), e = .returned (.slice A' n' c') ∧
      ((A' = none ∧ n' = 0 ∧ c' = 0 ∧ ∀ y, y < N → (nx m y : Int) = v → c.rep j y = []) ∨ (∃ g y, A' = some ⟨g, 0, none⟩ ∧ n' = N ∧ y < N ∧ (nx m y : Int) = v ∧ c.rep j y ≠ [] ∧ Slc w' w.heap.size A' N c' (compL (c.rep j y) m))) ∧ Below w.heap.size w w' := by
  have q24 : ∀ (w : World) (a : Option Addr) (n c n' c' : Nat), (binOp .eql 59 (.slice a n c) (.slice none n' c')).run Try.prog w = .ok (.bool a.isNone) w := fun w a n c n' c' => Lib.run_eql_slice_nil w _ _ a n c n' c' Try.underlying59
  have HC := Lib.hid hc
  have HM := Lib.hid hm
  have hN := hP.out.pos
  have cb := hc.cB hkj hjN
  obtain ⟨x0, x1, x2, x3, x4⟩ := cb
  clear hc hm x0 x1 x2 x4
  have hv : ∀ y, y < N → m.getD y 0 = (nx m y : Int) := fun y hy => nx_val hP.out.1 (by rw [hP.out.2]; exact hy)
  have Hv := Lib.hid hv
  clear hv
  go_enter Try.func109, Try.ntmps109
  go_wp2_with fail
  refine (implIdx A N cp m v w HM.out (Lib.hid hP.out.2) hN.2).mono ?_
  rintro e w1 ⟨r, rfl, hyr, rfl⟩
  rcases hyr with ⟨y, rfl, hy, hyv⟩ | ⟨rfl, hno⟩
  · rw [Hv.out y hy] at hyv
    have Yv := Lib.hid hyv
    have x5 := HC.out.cM hkj hjN hy
    have em := HC.out.eM hkj hjN hy
    have d0 : decide ((y : Int) < 0) = false := by simp
    have p0 : (0 : Int) ≤ y := by omega
    have p1 : (y : Int) < N := by omega
    clear hyv
    by_cases hz : c.rep j y = []
    · rw [em.1 hz] at x5
      have Hz := Lib.hid hz
      simp only [sval, sd0] at x5
      clear em hz
      go_wp2_with fail
      go_ret
      exact ⟨_, _, _, rfl, .inl ⟨rfl, rfl, rfl, fun z hzN e => by
        have : z = y := hP.out.inj hzN hy (by have := Yv.out; omega)
        rw [this]; exact Hz.out⟩, Below.refl _ _⟩
    · have hrd := em.2 hz
      have RP := Lib.hid (hr.out.at_ y hz).2.1
      rcases hd : (L j).en.getD y sd0 with ⟨dA, dn, dc⟩
      rw [hd] at x5 hrd
      obtain ⟨b, off, e⟩ := rd_not0 hrd hz
      have e : dA = some ⟨b, off, none⟩ := e
      subst e
      obtain rfl : dn = N := by have h3 : (c.rep j y).length = dn := hrd.len; have := RP.out.2; omega
      have Rr := Lib.hid hrd.ri
      have Hz := Lib.hid hz
      simp only [sval] at x5
      clear em hz hrd hd
      go_wp2_with fail
      refine (implThen (some ⟨b, off, none⟩) A dc cp dn (c.rep j y) m w Rr.out HM.out (Lib.hid RP.out.2) (Lib.hid hP.out.2) (Lib.hid RP.out.1) hN.2).mono ?_
      rintro e w2 ⟨A2, c2, rfl, s2, b2⟩
      have S2 := Lib.hid s2
      have B2 := Lib.hid b2
      clear s2 b2
      go_wp2_with fail
      go_ret
      refine ⟨_, _, _, rfl, .inr ?_, B2.out⟩
      rcases S2.out.at_ with ⟨_, _, h0, _⟩ | ⟨g, rfl, _, _⟩
      · omega
      · exact ⟨g, y, rfl, rfl, hy, Yv.out, Hz.out, S2.out⟩
  · have Hno := Lib.hid hno
    have d0 : decide ((-1 : Int) < 0) = true := by decide
    clear hno
    go_wp2_with fail
    go_ret
    exact ⟨_, _, _, rfl, .inl ⟨rfl, rfl, rfl, fun z hzN e => absurd (by rw [Hv.out z hzN]; exact e) (Hno.out z hzN)⟩, Below.refl _ _⟩

set_option maxHeartbeats 4000000 in
set_option maxRecDepth 100000 in
/-- match at link k. -/
theorem implMatch (base N k nv cv : Nat) (M : Nat → Prop) (c : Ch) (L : Nat → LK) (V : Option Addr) (vals : List Int) (w : World) (hc : Ck w base N k M c L) (hk : k < N) (hU : Hid (UpTo N c k)) (hN : N ≤ 20) (hv : RI w w.heap.size V vals) (lv : Hid (vals.length = nv)) (hnv : nv ≤ 1048576) :
    Calls Try.prog 89 #[.pointer (some ⟨(L k).B, 0, none⟩), .slice V nv cv] w fun e w' => ∃ (g off c' j : Nat) (m : List Int), e = .returned (.tuple #[.slice (some ⟨g, off, none⟩) N c', ptr N L j]) ∧ RI w' w'.heap.size (some ⟨g, off, none⟩) m ∧ Mt N c k vals m j ∧ NoM N c k vals j ∧
      (j = k ∨ Slc w' w.heap.size (some ⟨g, off, none⟩) N c' m) ∧ Below w.heap.size w w' := by
  have q24 : ∀ (w : World) (a : Option Addr) (n c n' c' : Nat), (binOp .eql 59 (.slice a n c) (.slice none n' c')).run Try.prog w = .ok (.bool a.isNone) w := fun w a n c n' c' => Lib.run_eql_slice_nil w _ _ a n c n' c' Try.underlying59
  have HC := Lib.hid hc
  have HV := Lib.hid hv
  obtain ⟨x0, x1, x2, x3, x4⟩ := hc.cB (Nat.le_refl _) hk
  have hid : c.rep k k = idL N := (hU.out.rep k (Nat.le_refl _) hk).one
  have hne : c.rep k k ≠ [] := by rw [hid]; intro e; have := idL_length N; rw [e] at this; simp at this; omega
  have x5 := hc.cM (Nat.le_refl _) hk hk
  have hrd := (hc.eM (Nat.le_refl _) hk hk).2 hne
  rcases hd : (L k).en.getD k sd0 with ⟨dA, dn, dc⟩
  rw [hd] at x5 hrd
  obtain ⟨b, off, e⟩ := rd_not0 hrd hne
  have e : dA = some ⟨b, off, none⟩ := e
  subst e
  rw [hid] at hrd
  obtain rfl : dn = N := by have h3 : (idL N).length = dn := hrd.len; rw [idL_length] at h3; omega
  have Rr := Lib.hid hrd.ri
  have p0 : (0 : Int) ≤ k := by omega
  have p1 : (k : Int) < dn := by omega
  have ep : ptr dn L k = .pointer (some ⟨(L k).B, 0, none⟩) := if_pos hk
  have Ep := Lib.hid ep
  simp only [sval] at x5
  clear hc hv hid hne hrd hd x1 x2 x4 ep
  go_enter Try.func89, Try.ntmps89
  go_wp2_with fail
  go_quiet (fail)
  have B0 : Hid (Below w.heap.size w (w.drewN nq)) := Lib.hid (pcDrewBelow w nq)
  have R0 := Lib.hid (Rr.out.up B0.out)
  generalize w.drewN nq = w0 at B0 R0 ⊢
  clear x0 x3 x5
  go_wp2_with fail
  go_loopg [6, 7, 8] dn (fun gg v l _ wr => ∃ (g off c' j : Nat) (m : List Int), dn - j ≤ gg ∧ v = .slice (some ⟨g, off, none⟩) dn c' ∧ l = ptr dn L j ∧ RI wr wr.heap.size (some ⟨g, off, none⟩) m ∧ Mt dn c k vals m j ∧ (j = k ∨ Slc wr w.heap.size (some ⟨g, off, none⟩) dn c' m) ∧ Below w.heap.size w wr)
  case atStart => exact ⟨b, off, dc, k, idL dn, by omega, rfl, Ep.out.symm, R0.out, .start (by omega) hN (by omega), .inl rfl, B0.out⟩
  case round =>
    clear R0 B0
    obtain ⟨g, off, c', j, m, hgg, rfl, rfl, hm, hmt, hfr, bel⟩ := hrel
    have Hm := Lib.hid hm
    have Mt0 := Lib.hid hmt
    have Fr := Lib.hid hfr
    have Be := Lib.hid bel
    have C1 := Lib.hid (HC.out.up bel)
    have V1 := Lib.hid (HV.out.up bel)
    have hkj := hmt.kj
    have hjN := hmt.jN
    clear hm hmt hfr bel
    by_cases hlt : j < dn
    · have ep : ptr dn L j = .pointer (some ⟨(L j).B, 0, none⟩) := if_pos hlt
      obtain ⟨y0, y1, y2, y3, y4⟩ := C1.out.cB hkj hlt
      rw [ep]
      clear ep y1 y2 y3
      by_cases hjv : j < nv
      · obtain ⟨vb, vo, rfl, hvb, hvc⟩ := V1.out (by rw [lv.out]; omega)
        have z1 := hvc j (by rw [lv.out]; omega)
        obtain ⟨u, eu⟩ : ∃ u, vals.getD j 0 = u := ⟨_, rfl⟩
        rw [eu] at z1
        have Eu := Lib.hid eu
        have d0 : decide ((j : Int) < (nv : Int)) = true := by simp; omega
        have q0 : (0 : Int) ≤ j := by omega
        have q1 : (j : Int) < nv := by omega
        clear hvb hvc eu
        go_wp2_with fail
        refine (implWith base dn k j c' M c L (some ⟨g, off, none⟩) m u wr C1.out hkj hlt (Lib.hid (hU.out.rep j hkj hlt)) Hm.out (Lib.hid Mt0.out.pn)).mono ?_
        rintro e w2 ⟨A2, n2, c2, rfl, (⟨rfl, rfl, rfl, hno⟩ | ⟨g2, y, rfl, rfl, hy, hyv, hyr, hs⟩), b2⟩
        · have B2 : Hid (Below w.heap.size w w2) := Lib.hid (btr Be.out b2)
          have R2 := Lib.hid (Hm.out.up b2)
          have Fr2 : Hid (j = k ∨ Slc w2 w.heap.size (some ⟨g, off, none⟩) dn c' m) := Lib.hid (Fr.out.imp id fun h => h.up b2)
          have Nm : Hid (NoM dn c k vals j) := Lib.hid (Mt0.out.stop hU.out (by omega) hN fun y hy e => hno y hy (by rw [← Eu.out]; exact e))
          clear hno b2
          go_wp2_with fail
          go_ret2
          refine ⟨_, _, _, j, _, ?_, R2.out, Mt0.out, Nm.out, Fr2.out, B2.out⟩
          show Ending.returned (.tuple #[.slice (some ⟨g, off, none⟩) dn c', .pointer (some ⟨(L j).B, 0, none⟩)]) = _
          rw [show ptr dn L j = .pointer (some ⟨(L j).B, 0, none⟩) from if_pos hlt]
        · have B2 : Hid (Below w.heap.size w w2) := Lib.hid (btr Be.out b2)
          have C2 := Lib.hid (C1.out.up b2)
          have S2 : Hid (Slc w2 w.heap.size (some ⟨g2, 0, none⟩) n2 c2 (compL (c.rep j y) m)) := Lib.hid (hs.mono Be.out.size)
          have Mt2 : Hid (Mt n2 c k vals (compL (c.rep j y) m) (j + 1)) := Lib.hid (Mt0.out.step hU.out (by omega) hN hlt (by rw [lv.out]; exact hjv) hyr (by rw [Eu.out]; exact hyv))
          have z4 := (C2.out.cB hkj hlt).2.2.2.2
          have z0 := (C2.out.cB hkj hlt).1
          clear hs b2 y0 y4 hy hyv hyr C1 V1
          go_wp2_with fail
          go_quiet (fail)
          have B3 : Hid (Below w2.heap.size w2 (w2.drewN nq)) := Lib.hid (pcDrewBelow w2 nq)
          have S3 := Lib.hid (S2.out.up B3.out)
          have C3 := Lib.hid (C2.out.up B3.out)
          have B4 : Hid (Below w.heap.size w (w2.drewN nq)) := Lib.hid (btr B2.out B3.out)
          generalize w2.drewN nq = w3 at B3 S3 C3 B4 ⊢
          go_wp2_with fail
          go_roundg (n2 - (j + 1))
          case rel => exact ⟨g2, 0, c2, j + 1, _, by omega, rfl, rfl, S3.out.ri_, Mt2.out, .inr S3.out, B4.out⟩
          case measure => omega
      · have d0 : decide ((j : Int) < (nv : Int)) = false := by simp; omega
        have Nm : Hid (NoM dn c k vals j) := Lib.hid fun _ h => absurd h (by rw [lv.out]; exact hjv)
        go_wp2_with fail
        go_ret2
        refine ⟨_, _, _, j, _, ?_, Hm.out, Mt0.out, Nm.out, Fr.out, Be.out⟩
        show Ending.returned (.tuple #[.slice (some ⟨g, off, none⟩) dn c', .pointer (some ⟨(L j).B, 0, none⟩)]) = _
        rw [show ptr dn L j = .pointer (some ⟨(L j).B, 0, none⟩) from if_pos hlt]
    · obtain rfl : j = dn := by omega
      have ep : ptr j L j = .pointer none := if_neg (by omega)
      have Nm : Hid (NoM j c k vals j) := Lib.hid fun h _ => absurd h (by omega)
      rw [ep]
      clear ep
      go_wp2_with fail
      go_ret2
      refine ⟨_, _, _, j, _, ?_, Hm.out, Mt0.out, Nm.out, Fr.out, Be.out⟩
      show Ending.returned (.tuple #[.slice (some ⟨g, off, none⟩) j c', .pointer none]) = _
      rw [show ptr j L j = .pointer none from if_neg (by omega)]

set_option maxHeartbeats 1000000 in
/-- contains at link k. -/
theorem implContains (base N k cp : Nat) (M : Nat → Prop) (c : Ch) (L : Nat → LK) (A : Option Addr) (p : List Int) (w : World) (hc : Ck w base N k M c L) (hk : k < N) (hU : Hid (UpTo N c k)) (hN : N ≤ 20) (hp : RI w w.heap.size A p) (hP : Hid (Pn N p)) (hF : Hid (Fx k p)) (ans : Bool) (ha : Hid (ans = true ↔ Mb (c.gen k) N p)) :
    Calls Try.prog 58 #[.pointer (some ⟨(L k).B, 0, none⟩), .slice A N cp] w fun e w' => e = .returned (.bool ans) ∧ Below w.heap.size w w' := by
  have HC := Lib.hid hc
  have HP := Lib.hid hp
  clear hc hp
  go_enter Try.func58, Try.ntmps58
  go_wp2_with fail
  refine (implMatch base N k N cp M c L A p w HC.out hk hU hN HP.out (Lib.hid hP.out.2) (by omega)).mono ?_
  rintro e w1 ⟨g, off, c', j, m, rfl, hm, hmt, hnm, hfr, b1⟩
  have B1 := Lib.hid b1
  have hiff := hmt.mem hnm hU.out (by omega) hN (by omega) hP.out hF.out
  have hjN := hmt.jN
  clear hm hmt hnm hfr b1
  by_cases hj : j = N
  · obtain rfl : ans = true := ha.out.2 (hiff.1 hj)
    have ep : ptr N L j = .pointer none := if_neg (by omega)
    rw [ep]
    clear hiff ep
    go_wp2_with fail
    go_ret
    exact ⟨rfl, B1.out⟩
  · obtain rfl : ans = false := by
      rcases ans with _ | _
      · rfl
      · exact absurd (hiff.2 (ha.out.1 rfl)) hj
    have ep : ptr N L j = .pointer (some ⟨(L j).B, 0, none⟩) := if_pos (by omega)
    rw [ep]
    clear hiff ep
    go_wp2_with fail
    go_ret
    exact ⟨rfl, B1.out⟩
end Go.Proofs.Ytkjokchhffjidaa
