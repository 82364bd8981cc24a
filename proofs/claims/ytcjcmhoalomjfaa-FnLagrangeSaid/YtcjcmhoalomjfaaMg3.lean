/- Part 3 of the texts: SrcP, OrM, Gen, ChB, ChQ, Crd, Ins, ChR, ChT, ChX, Rnk, Cos. No condition of its own: each text tells its own. -/
import Derived.Test.YtcjcmhoalomjfaaMg2
import Derived.Test.YtcjcmhoalomjfaaMg1
import Derived.Deep.RegionLaw
import Derived.Deep.LoopGhost
set_option linter.unusedVariables false
set_option linter.unusedSimpArgs false

/- The model's drawn permutations. Condition: degrees of at most 100. -/
namespace Go.Proofs.Ytcjcmhoalomjfaa
open Go.RowKit

theorem RI.cellAt {w : World} {B b o : Nat} {ys : List Int} (h : RI w B (some ⟨b, o, none⟩) ys) {j : Nat} (hj : j < ys.length) : b < B ∧ w.cell? ⟨b, o + j, none⟩ = some (.int .i64 (ys.getD j 0)) := by
  obtain ⟨b', o', e, hb, hc⟩ := h (by omega)
  injection e with e
  injection e with e1 e2
  subst e1; subst e2
  exact ⟨hb, hc j hj⟩

/-- append of readable numbers. -/
theorem wpList_appN {w : World} {ops : Array Oper} {rest : List Oper} {o : Oper} {a : Act} {Q : Exit → Act → World → Prop} (hgd : o.guard = none) (s x : Operand)
    (ho : o.op = .call { callee := .builtin .append, args := #[s, x], argTypes := #[33, 33] })
    (base : Nat) (A : Option Addr) (n c : Nat) (xs : List Int) (hs : a.eval s = .slice A n c) (hown : Slc w base A n c xs) (g off m c2 : Nat) (ys : List Int) (hx : a.eval x = .slice (some ⟨g, off, none⟩) m c2)
    (hy : RI w w.heap.size (some ⟨g, off, none⟩) ys) (ly : ys.length = m) (hn : n + m ≤ 1000000000000) (hbase : base ≤ w.heap.size)
    (h : ∀ A' c' w', Slc w' base A' (n + m) c' (xs ++ ys) → w.grownBy w' (Value.slice A n c).ownBlock → wpList Try.prog ops Q rest (a.put o.dst (.slice A' (n + m) c')) w') : wpList Try.prog ops Q (o :: rest) a w := by
  obtain ⟨i0, hi, hz0, hz1, hz2⟩ := info_parts infoI
  obtain ⟨hl, ho'⟩ := hown
  subst hl
  refine wpList_append_own w hgd s x 33 ho base 2 i0 (.int .i64 0) 1 8 Try.underlying33 hi hz0 hz1 hz2 rfl (by decide) _ xs.length _ hs ho' ⟨g, off, none⟩ m c2 (ys.map (Value.int .i64)) hx (by simp [ly]) ?_ ?_ ?_ (by omega) hbase ?_
  · intro j v hj
    have hjl : j < ys.length := by
      have := (List.getElem?_eq_some_iff.1 hj).1
      simpa using this
    have e : (⟨g, off, none⟩ : Addr).add j = ⟨g, off + j, none⟩ := by unfold Addr.add; split <;> simp_all
    rw [e, (hy.cellAt hjl).2]
    rw [List.getElem?_map, List.getElem?_eq_getElem hjl] at hj
    rw [← Option.some.inj hj, List.getD_eq_getElem?_getD, List.getElem?_eq_getElem hjl]; rfl
  · intro v hv; rw [List.mem_map] at hv; obtain ⟨u, _, rfl⟩ := hv; rfl
  · unfold maxLen; omega
  · intro v' w' hown' hg _
    have hO : Own w' base v' (xs ++ ys) := by
      unfold Own
      rw [List.length_append, List.map_append, ly]
      exact hown'
    obtain ⟨A', c', rfl, hS⟩ := Slc.of_own (n := xs.length + m) hO (by simp [ly])
    exact h A' c' w' hS hg

/-- append of readable numbers, as one step of a region that draws. -/
theorem step_appN {w : World} {ops : Array Oper} {o : Oper} {a : Act} {K : Act → World → Prop} {Q : Exit → Act → World → Prop} {E : Prop} (hgd : o.guard = none) (s x : Operand)
    (ho : o.op = .call { callee := .builtin .append, args := #[s, x], argTypes := #[33, 33] })
    (base : Nat) (A : Option Addr) (n c : Nat) (xs : List Int) (hs : a.eval s = .slice A n c) (hown : Slc w base A n c xs) (g off m c2 : Nat) (ys : List Int) (hx : a.eval x = .slice (some ⟨g, off, none⟩) m c2)
    (hy : RI w w.heap.size (some ⟨g, off, none⟩) ys) (ly : ys.length = m) (hn : n + m ≤ 1000000000000) (hbase : base ≤ w.heap.size) (N : Nat) (hN : n + m = N)
    (h : ∀ A' c' w', Slc w' base A' N c' (xs ++ ys) → w.grownBy w' (Value.slice A n c).ownBlock → K (a.put o.dst (.slice A' N c')) w') : if Region.wanted o (yielded ops a.tmps) = true then Oper.wp Try.prog o a w K Q else E := by
  have hw : Region.wanted o (yielded ops a.tmps) = true := by simp [Region.wanted, hgd]
  rw [if_pos hw]
  subst hN
  obtain ⟨i0, hi, hz0, hz1, hz2⟩ := info_parts infoI
  obtain ⟨hl, ho'⟩ := hown
  subst hl
  refine wp_append_own w s x 33 ho base 2 i0 (.int .i64 0) 1 8 Try.underlying33 hi hz0 hz1 hz2 rfl (by decide) _ xs.length _ hs ho' ⟨g, off, none⟩ m c2 (ys.map (Value.int .i64)) hx (by simp [ly]) ?_ ?_ ?_ (by omega) hbase ?_
  · intro j v hj
    have hjl : j < ys.length := by
      have := (List.getElem?_eq_some_iff.1 hj).1
      simpa using this
    have e : (⟨g, off, none⟩ : Addr).add j = ⟨g, off + j, none⟩ := by unfold Addr.add; split <;> simp_all
    rw [e, (hy.cellAt hjl).2]
    rw [List.getElem?_map, List.getElem?_eq_getElem hjl] at hj
    rw [← Option.some.inj hj, List.getD_eq_getElem?_getD, List.getElem?_eq_getElem hjl]; rfl
  · intro v hv; rw [List.mem_map] at hv; obtain ⟨u, _, rfl⟩ := hv; rfl
  · unfold maxLen; omega
  · intro v' w' hown' hg _
    have hO : Own w' base v' (xs ++ ys) := by
      unfold Own
      rw [List.length_append, List.map_append, ly]
      exact hown'
    obtain ⟨A', c', rfl, hS⟩ := Slc.of_own (n := xs.length + m) hO (by simp [ly])
    exact h A' c' w' hS hg
theorem litRI (w : World) (u : Int) : RI (w.alloc (.cells #[.int .i64 u] 2)) (w.alloc (.cells #[.int .i64 u] 2)).heap.size (some ⟨w.heap.size, 0, none⟩) [u] := (Slc.lit1 w w.heap.size u (Nat.le_refl _)).ri_
theorem RI.belowAll {w w' : World} {A : Option Addr} {xs : List Int} (h : RI w w.heap.size A xs) (hb : Below w.heap.size w w') : RI w' w'.heap.size A xs := fun hp => by
  obtain ⟨b, o, e, hbb, hc⟩ := h hp
  exact ⟨b, o, e, by have := hb.size; omega, fun j hj => (hb.cell (p := ⟨b, o + j, none⟩) hbb).trans (hc j hj)⟩

theorem grown_below2 {w w1 w' : World} {row : Option Nat} (h : w.grownBy w1 row) (b : Below w1.heap.size w1 w') : w.grownBy w' row :=
  ⟨b.os.trans h.os, b.tape.trans h.tape, b.output.trans h.output, Nat.le_trans h.size b.size, fun k hk hn => (b.block k (Nat.lt_of_lt_of_le hk h.size)).trans (h.block k hk hn)⟩
theorem below_undrew {w w' : World} (h : Below w.drew.heap.size w.drew w') : Below w.heap.size w w' := ⟨h.os, h.tape, h.output, h.size, h.block⟩
theorem below_undrewA {w w' : World} {o : Obj} (h : Below (w.drew.alloc o).heap.size (w.drew.alloc o) w') : Below (w.alloc o).heap.size (w.alloc o) w' := ⟨h.os, h.tape, h.output, h.size, h.block⟩

/-- copyInts of what can be read. -/
theorem copyRI (g off n c : Nat) (xs : List Int) (w : World) (h : RI w w.heap.size (some ⟨g, off, none⟩) xs) (lx : xs.length = n) (hn : n ≤ 1000000) :
    Calls Try.prog 107 #[.slice (some ⟨g, off, none⟩) n c] w fun e w' => ∃ A' c', e = .returned (.slice A' n c') ∧ Slc w' w.heap.size A' n c' xs ∧ Below w.heap.size w w' := by
  have H0 := Lib.hid (Slc.lit0 w w.heap.size (Nat.le_refl _))
  have H : Hid (RI (w.alloc (.cells #[] 2)) (w.alloc (.cells #[] 2)).heap.size (some ⟨g, off, none⟩) xs) := Lib.hid fun hp => by
    obtain ⟨b, o, e, hb, hc⟩ := h hp
    exact ⟨b, o, e, by simp; omega, fun j hj => by rw [World.cell?_alloc_lt w _ ⟨b, o + j, none⟩ hb]; exact hc j hj⟩
  clear h
  go_enter Try.func107, Try.ntmps107
  go_wp2_with (first | (at_builtin; refine wpList_appN rfl _ _ rfl w.heap.size (some ⟨w.heap.size, 0, none⟩) 0 0 [] rfl H0.out g off n c xs rfl H.out lx (by omega) (by simp) ?_; intro A' c' w' s1 g1))
  have S1 : Hid (Slc w' w.heap.size A' n c' xs) := Lib.hid (by simpa using s1)
  have B1 : Hid (Below w.heap.size w w') := Lib.hid (((Below.refl _ w).alloc (Nat.le_refl _) _).grown g1 (by simp) (fun k e => by simp [Value.ownBlock] at e; omega))
  clear s1 g1
  go_wp2
  go_ret
  exact ⟨_, _, by simp, S1.out, B1.out⟩

theorem grown_alloc2 {w w1 : World} {row : Option Nat} (h : w.grownBy w1 row) (o : Obj) : w.grownBy (w1.alloc o) row :=
  ⟨h.os, h.tape, h.output, Nat.le_trans h.size (by simp), fun k hk hn => (Below.heap_alloc w1 o k (Nat.lt_of_lt_of_le hk h.size)).trans (h.block k hk hn)⟩
theorem takeRI {w : World} {B q off : Nat} {xs : List Int} (h : RI w B (some ⟨q, off, none⟩) xs) (r : Nat) : RI w B (some ⟨q, off, none⟩) (xs.take r) := fun hp => by
  have hl : (xs.take r).length ≤ xs.length := by rw [List.length_take]; omega
  obtain ⟨b, o, e, hb, hc⟩ := h (by omega)
  refine ⟨b, o, e, hb, fun j hj => ?_⟩
  rw [hc j (by omega)]
  have : (xs.take r).getD j 0 = xs.getD j 0 := by
    rw [List.length_take] at hj
    rw [List.getD_eq_getElem?_getD, List.getElem?_take, if_pos (by omega), ← List.getD_eq_getElem?_getD]
  rw [this]
theorem dropRI {w w' : World} {base q k c r off : Nat} {xs : List Int} (h : Slc w base (some ⟨q, 0, none⟩) k c xs) (hb : Below w.heap.size w w') (ho : r < k → off = r) : RI w' w'.heap.size (some ⟨q, off, none⟩) (xs.drop r) := fun hp => by
  have lx := h.1
  rw [List.length_drop] at hp
  obtain rfl := ho (by omega)
  have hri : RI w w.heap.size (some ⟨q, 0, none⟩) xs := h.ri_
  have hq := (h.lt_ q rfl).2
  refine ⟨q, _, rfl, by have := hb.size; omega, fun j hj => ?_⟩
  rw [List.length_drop] at hj
  rw [hb.cell (p := ⟨q, _, none⟩) hq]
  have := (hri.cellAt (j := off + j) (by omega)).2
  rw [Nat.zero_add] at this
  rw [this, List.getD_eq_getElem?_getD, List.getD_eq_getElem?_getD, List.getElem?_drop]

set_option maxRecDepth 100000 in
set_option maxHeartbeats 2000000 in
theorem drawPerm (g n : Nat) (w : World) (hs : Src w g) (hn : n ≤ 100) :
    Calls Try.prog 125 #[.pointer (some ⟨g, 0, none⟩), .int .i64 (n : Int)] w fun e w' => ∃ q c xs, e = .returned (.slice (some ⟨q, 0, none⟩) n c) ∧ Slc w' w.heap.size (some ⟨q, 0, none⟩) n c xs ∧ Src w' g ∧ w.grownBy w' (some g) := by
  have Hs := Lib.hid hs
  have hg := hs.lt
  clear hs
  go_enter Try.func125, Try.ntmps125
  go_wp2_with fail
  go_loopg [5, 6, 7] n (fun gg v i _ wr => ∃ k q c xs, k ≤ n ∧ n - k ≤ gg ∧ i = .int .i64 (k : Nat) ∧ v = .slice (some ⟨q, 0, none⟩) k c ∧ Slc wr w.heap.size (some ⟨q, 0, none⟩) k c xs ∧ Src wr g ∧ w.grownBy wr (some g))
  case atStart => exact ⟨0, _, _, [], Nat.zero_le _, by omega, rfl, rfl, Slc.lit0 w _ (Nat.le_refl _), Hs.out.below ((Below.refl w.heap.size w).alloc (Nat.le_refl _) _) hg, grown_alloc2 (grown_refl _ _) _⟩
  case round =>
    obtain ⟨k, q, c, xs, hk, hgg, rfl, rfl, sl, src, gro⟩ := hrel
    have Sl := Lib.hid sl
    have Sr := Lib.hid src
    have Gr := Lib.hid gro
    have hkc := sl.le.1
    clear sl src gro
    by_cases hlt : k < n
    · go_wp2_with fail
      refine (srcBelow g _ (k + 1) wr Sr.out (by push_cast; rfl) (by omega) (by omega)).mono ?_
      rintro e w1 ⟨r, hr, rfl, s1, g1⟩
      have Sr1 := Lib.hid s1
      have Gr1 : Hid (w.grownBy w1 (some g)) := Lib.hid (grown_trans' Gr.out g1)
      have Sl1 : Hid (Slc w1 w.heap.size (some ⟨q, 0, none⟩) k c xs) := Lib.hid (Sl.out.kept g1 (.inr (by have := (Sl.out.lt_ q rfl).1; intro e; simp [Value.ownBlock] at e; omega)))
      have p0 : (0 : Int) ≤ r := by omega
      have p1 : (r : Int) ≤ k := by omega
      have p2 : (r : Int) ≤ c := by omega
      have p3 : r ≤ k := by omega
      have p4 : r ≤ c := by omega
      have lxs : xs.length = k := Sl1.out.1
      have RIt : Hid (RI w1 w1.heap.size (some ⟨q, 0, none⟩) (xs.take r)) := Lib.hid (takeRI Sl1.out.ri_ r)
      have ltk : Hid ((xs.take r).length = r) := Lib.hid (by rw [List.length_take]; omega)
      have ldr : Hid ((xs.drop r).length = k - r) := Lib.hid (by rw [List.length_drop]; omega)
      have hwb := Gr1.out.size
      clear s1 g1 lxs
      have RItA : Hid (RI (w1.alloc (.cells #[.int .i64 (k : Int)] 2)) (w1.alloc (.cells #[.int .i64 (k : Int)] 2)).heap.size (some ⟨q, 0, none⟩) (xs.take r)) := Lib.hid (RIt.out.belowAll ((Below.refl _ _).alloc (Nat.le_refl _) _))
      have Lit : Hid (RI (w1.alloc (.cells #[.int .i64 (k : Int)] 2)) (w1.alloc (.cells #[.int .i64 (k : Int)] 2)).heap.size (some ⟨w1.heap.size, 0, none⟩) [(k : Int)]) := Lib.hid (litRI w1 k)
      have DrX : Hid (∀ w3 : World, Below w1.heap.size w1 w3 → RI w3 w3.heap.size (some ⟨q, r, none⟩) (xs.drop r)) := Lib.hid fun w3 hb => dropRI Sl1.out hb fun _ => rfl
      have ld0 : Hid (c = r → (xs.drop r).length = 0) := Lib.hid fun e => by have := ldr.out; omega
      have Dr0 : Hid (c = r → ∀ w3 : World, Below w1.heap.size w1 w3 → RI w3 w3.heap.size (some ⟨q, 0, none⟩) (xs.drop r)) := Lib.hid fun e w3 hb => dropRI Sl1.out hb fun h => by omega
      by_cases hcr : c = r
      · obtain rfl : k = r := by omega
        subst hcr
        go_wp2_with fail
        go_region_law (first
          | (refine step_appN rfl (.tmp 21) (.tmp 23) rfl w1.heap.size A2 c c2 (xs.take c) ?_ (s2.alloc _) w2.heap.size 0 1 1 [(c : Int)] ?_ (litRI w2 c) rfl ?_ ?_ (c + 1) rfl ?_; (simp [Act.eval, Act.put]); (simp [Act.eval, Act.put]); (omega); (have hz := b2.size; simp at hz ⊢; omega); (intro A3 c3 w3 s3 g3; have bb : Below w1.heap.size w1 w3 := (Below.alloc b2 b2.size _).grown g3 (by have hz := b2.size; simp at hz ⊢; omega) (fun j hj => (s2.lt_ j hj).1)))
          | (refine step_appN rfl (.tmp 21) (.tmp 23) rfl w1.heap.size A2 c c2 (xs.take c) ?_ (s2.mono (by simp)) w1.heap.size 0 1 1 [(c : Int)] ?_ (Lit.out.belowAll b2) rfl ?_ ?_ (c + 1) rfl ?_; (simp [Act.eval, Act.put]); (simp [Act.eval, Act.put]); (omega); (have hz := b2.size; simp at hz ⊢; omega); (intro A3 c3 w3 s3 g3; have bb : Below w1.heap.size w1 w3 := (btr ((Below.refl w1.heap.size w1).alloc (Nat.le_refl _) _) b2).grown g3 (by have hz := b2.size; simp at hz ⊢; omega) (fun j hj => Nat.le_trans (by simp) (s2.lt_ j hj).1)))
          | (refine step_appN rfl (.tmp 24) (.tmp 27) rfl w1.heap.size A3 (c + 1) c3 _ ?_ s3 q 0 0 0 (xs.drop c) ?_ (Dr0.out trivial _ bb) (ld0.out trivial) ?_ ?_ (c + 1) ?_ ?_; (simp [Act.eval, Act.put]); (simp [Act.eval, Act.put]); (omega); (have hz := bb.size; omega); (omega); (intro A4 c4 w4 s4 g4))
          | (go_simp; go_wp2_with (go_at_call 107; (first | refine (copyRI q 0 c _ (xs.take c) w1.drew RIt.out ltk.out (by omega)).mono ?_ | refine (copyRI q 0 c _ (xs.take c) (w1.alloc (.cells #[.int .i64 (c : Int)] 2)).drew RItA.out ltk.out (by omega)).mono ?_); rintro e w2 ⟨A2, c2, rfl, s2, b20⟩; have b2 := below_undrew b20; clear b20)))
        all_goals
          have B4 : Hid (Below w1.heap.size w1 w4) := Lib.hid (bb.grown g4 bb.size (fun j hj => (s3.lt_ j hj).1))
          have Sr4 := Lib.hid (Sr1.out.below B4.out (Nat.lt_of_lt_of_le hg hwb))
          have Gr4 := Lib.hid (grown_below2 Gr1.out B4.out)
          obtain ⟨q4, e4⟩ : ∃ q4, A4 = some ⟨q4, 0, none⟩ := by
            rcases s4.at_ with ⟨_, _, e0, _⟩ | ⟨q4, e0, _, _⟩
            · omega
            · exact ⟨q4, e0⟩
          subst e4
          have S4 := Lib.hid (s4.mono hwb)
          clear s4 g4 s3 g3 s2 b2 bb
          go_wp2_with fail
          go_roundg (n - (c + 1))
          case rel => exact ⟨c + 1, _, _, _, by omega, Nat.le_refl _, by go_num, rfl, S4.out, Sr4.out, Gr4.out⟩
          case measure => omega
      · go_wp2_with fail
        go_region_law (first
          | (refine step_appN rfl (.tmp 21) (.tmp 23) rfl w1.heap.size A2 r c2 (xs.take r) ?_ (s2.alloc _) w2.heap.size 0 1 1 [(k : Int)] ?_ (litRI w2 k) rfl ?_ ?_ (r + 1) rfl ?_; (simp [Act.eval, Act.put]); (simp [Act.eval, Act.put]); (omega); (have hz := b2.size; simp at hz ⊢; omega); (intro A3 c3 w3 s3 g3; have bb : Below w1.heap.size w1 w3 := (Below.alloc b2 b2.size _).grown g3 (by have hz := b2.size; simp at hz ⊢; omega) (fun j hj => (s2.lt_ j hj).1)))
          | (refine step_appN rfl (.tmp 21) (.tmp 23) rfl w1.heap.size A2 r c2 (xs.take r) ?_ (s2.mono (by simp)) w1.heap.size 0 1 1 [(k : Int)] ?_ (Lit.out.belowAll b2) rfl ?_ ?_ (r + 1) rfl ?_; (simp [Act.eval, Act.put]); (simp [Act.eval, Act.put]); (omega); (have hz := b2.size; simp at hz ⊢; omega); (intro A3 c3 w3 s3 g3; have bb : Below w1.heap.size w1 w3 := (btr ((Below.refl w1.heap.size w1).alloc (Nat.le_refl _) _) b2).grown g3 (by have hz := b2.size; simp at hz ⊢; omega) (fun j hj => Nat.le_trans (by simp) (s2.lt_ j hj).1)))
          | (refine step_appN rfl (.tmp 24) (.tmp 27) rfl w1.heap.size A3 (r + 1) c3 _ ?_ s3 q r (k - r) (c - r) (xs.drop r) ?_ (DrX.out _ bb) ldr.out ?_ ?_ (k + 1) ?_ ?_; (simp [Act.eval, Act.put]); (simp [Act.eval, Act.put]); (omega); (have hz := bb.size; omega); (omega); (intro A4 c4 w4 s4 g4))
          | (go_simp; go_wp2_with (go_at_call 107; (first | refine (copyRI q 0 r _ (xs.take r) w1.drew RIt.out ltk.out (by omega)).mono ?_ | refine (copyRI q 0 r _ (xs.take r) (w1.alloc (.cells #[.int .i64 (k : Int)] 2)).drew RItA.out ltk.out (by omega)).mono ?_); rintro e w2 ⟨A2, c2, rfl, s2, b20⟩; have b2 := below_undrew b20; clear b20)))
        all_goals
          have B4 : Hid (Below w1.heap.size w1 w4) := Lib.hid (bb.grown g4 bb.size (fun j hj => (s3.lt_ j hj).1))
          have Sr4 := Lib.hid (Sr1.out.below B4.out (Nat.lt_of_lt_of_le hg hwb))
          have Gr4 := Lib.hid (grown_below2 Gr1.out B4.out)
          obtain ⟨q4, e4⟩ : ∃ q4, A4 = some ⟨q4, 0, none⟩ := by
            rcases s4.at_ with ⟨_, _, e0, _⟩ | ⟨q4, e0, _, _⟩
            · omega
            · exact ⟨q4, e0⟩
          subst e4
          have S4 := Lib.hid (s4.mono hwb)
          clear s4 g4 s3 g3 s2 b2 bb
          go_wp2_with fail
          go_roundg (n - (k + 1))
          case rel => exact ⟨k + 1, _, _, _, by omega, Nat.le_refl _, by go_num, rfl, S4.out, Sr4.out, Gr4.out⟩
          case measure => omega
    · have hkn : k = n := by omega
      subst hkn
      go_wp2_with fail
      go_ret
      exact ⟨_, _, _, rfl, Sl.out, Sr.out, Gr.out⟩
end Go.Proofs.Ytcjcmhoalomjfaa

/- Orbits under lists of maps, as a search in the order of discovery; sorted orbits; the sweep over all points. No Go in it. No condition. -/
namespace Go.Proofs.Ytcjcmhoalomjfaa

/-- A rearrangement of the points below N. -/
structure PM (N : Nat) (g : List Int) : Prop where
  len : g.length = N
  lo : ∀ i, i < N → 0 ≤ g.getD i 0
  hi : ∀ i, i < N → g.getD i 0 < N
  inj : ∀ i j, i < N → j < N → g.getD i 0 = g.getD j 0 → i = j
def PMs (N : Nat) (gs : List (List Int)) : Prop := ∀ g ∈ gs, PM N g

theorem PM.nx_lt {N : Nat} {g : List Int} (h : PM N g) {x : Nat} (hx : x < N) : nx g x < N := by
  have := h.lo x hx; have := h.hi x hx; unfold nx; omega
theorem PM.nx_val {N : Nat} {g : List Int} (h : PM N g) {x : Nat} (hx : x < N) : g.getD x 0 = (nx g x : Int) := by
  have := h.lo x hx; unfold nx; omega
theorem PM.nx_inj {N : Nat} {g : List Int} (h : PM N g) {x y : Nat} (hx : x < N) (hy : y < N) (e : nx g x = nx g y) : x = y :=
  h.inj x y hx hy (by rw [h.nx_val hx, h.nx_val hy, e])
theorem IsP.pm {p : List Int} (h : IsP p) : PM p.length p := ⟨rfl, h.lo, h.hi, h.inj⟩

theorem nd_sub {l' : List Nat} : ∀ {l : List Nat}, l'.Nodup → (∀ x ∈ l', x ∈ l) → l'.length ≤ l.length := by
  induction l' with
  | nil => intro l _ _; simp
  | cons a t ih =>
    intro l hd h
    rw [List.nodup_cons] at hd
    have ha : a ∈ l := h a (by simp)
    have := ih (l := l.erase a) hd.2 fun x hx => by
      have hne : x ≠ a := fun e => hd.1 (e ▸ hx)
      exact (List.mem_erase_of_ne hne).2 (h x (by simp [hx]))
    rw [List.length_erase_of_mem ha] at this
    have h0 : 0 < l.length := List.length_pos_of_mem ha
    simp; omega
/-- A nodup list within another of the same length is all of it. -/
theorem nd_all {l' l : List Nat} (hd : l'.Nodup) (h : ∀ x ∈ l', x ∈ l) (hl : l.length ≤ l'.length) : ∀ y ∈ l, y ∈ l' := fun y hy => by
  rcases Decidable.em (y ∈ l') with h1 | h1
  · exact h1
  · have := nd_sub (l' := y :: l') (l := l) (List.nodup_cons.2 ⟨h1, hd⟩) (fun x hx => by
      rcases List.mem_cons.1 hx with rfl | hx
      · exact hy
      · exact h x hx)
    simp at this; omega
theorem nd_map {f : Nat → Nat} {l : List Nat} (hd : l.Nodup) (hf : ∀ x ∈ l, ∀ y ∈ l, f x = f y → x = y) : (l.map f).Nodup := by
  induction l with
  | nil => simp
  | cons a t ih =>
    rw [List.nodup_cons] at hd
    rw [List.map_cons, List.nodup_cons]
    refine ⟨fun hm => ?_, ih hd.2 fun x hx y hy => hf x (by simp [hx]) y (by simp [hy])⟩
    obtain ⟨b, hb, e⟩ := List.mem_map.1 hm
    have := hf b (by simp [hb]) a (by simp) e
    subst this
    exact hd.1 hb

/-! ### reach -/
inductive Rch (gs : List (List Int)) (x : Nat) : Nat → Prop
  | refl : Rch gs x x
  | step {u : Nat} {g : List Int} : Rch gs x u → g ∈ gs → Rch gs x (nx g u)
section
variable {gs : List (List Int)} {N x y z : Nat}
theorem Rch.trans (h : Rch gs x y) (k : Rch gs y z) : Rch gs x z := by
  induction k with
  | refl => exact h
  | step _ hg ih => exact ih.step hg
theorem Rch.lt (hp : PMs N gs) (hx : x < N) (h : Rch gs x y) : y < N := by
  induction h with
  | refl => exact hx
  | step _ hg ih => exact (hp _ hg).nx_lt ih
end

/-! ### the search -/
def addN (f : List Nat) (y : Nat) : List Nat := if y ∈ f then f else f ++ [y]
def expd (gs : List (List Int)) (u : Nat) (f : List Nat) : List Nat := gs.foldl (fun f g => addN f (nx g u)) f
def bfs (gs : List (List Int)) : Nat → Nat → List Nat → List Nat
  | 0, _, f => f
  | fuel + 1, i, f => if i < f.length then bfs gs fuel (i + 1) (expd gs (f.getD i 0) f) else f
/-- The orbit of x in the order of discovery. -/
def orb (gs : List (List Int)) (N x : Nat) : List Nat := bfs gs (N + 1) 0 [x]

theorem bfs_go {gs : List (List Int)} {N i : Nat} {f : List Nat} (hi : i < f.length) (hl : f.length ≤ N) : bfs gs (N + 1 - i) i f = bfs gs (N + 1 - (i + 1)) (i + 1) (expd gs (f.getD i 0) f) := by
  obtain ⟨k, hk⟩ : ∃ k, N + 1 - i = k + 1 := ⟨N - i, by omega⟩
  have hk' : N + 1 - (i + 1) = k := by omega
  rw [hk, hk', bfs, if_pos hi]
theorem bfs_end {gs : List (List Int)} {N i : Nat} {f : List Nat} (hi : f.length ≤ i) : bfs gs (N + 1 - i) i f = f := by
  cases N + 1 - i with
  | zero => rfl
  | succ k => rw [bfs, if_neg (by omega)]

/-- What the search holds of its list. -/
structure Fd (gs : List (List Int)) (N x : Nat) (f : List Nat) : Prop where
  nd : f.Nodup
  lt : ∀ y ∈ f, y < N
  rch : ∀ y ∈ f, Rch gs x y
  pre : ∃ t, f = x :: t
section
variable {gs : List (List Int)} {N x : Nat} {f : List Nat}
theorem Fd.len (h : Fd gs N x f) : f.length ≤ N := ndlen N f h.nd h.lt
theorem Fd.pos (h : Fd gs N x f) : 0 < f.length := by obtain ⟨t, rfl⟩ := h.pre; simp
theorem Fd.one (hx : x < N) : Fd gs N x [x] := ⟨by simp, by simpa using hx, by simpa using Rch.refl, ⟨[], rfl⟩⟩
theorem addN_pre (f : List Nat) (y : Nat) : ∃ t, addN f y = f ++ t := by
  unfold addN; split
  · exact ⟨[], by simp⟩
  · exact ⟨[y], rfl⟩
theorem mem_addN {f : List Nat} {y z : Nat} : z ∈ addN f y ↔ z ∈ f ∨ z = y := by
  unfold addN; split
  · rename_i h
    exact ⟨.inl, fun h' => h'.elim id (fun e => e ▸ h)⟩
  · simp
theorem Fd.add (h : Fd gs N x f) {y : Nat} (hy : y < N) (hr : Rch gs x y) : Fd gs N x (addN f y) := by
  obtain ⟨t, rfl⟩ := h.pre
  refine ⟨?_, fun z hz => ?_, fun z hz => ?_, ?_⟩
  · unfold addN; split
    · exact h.nd
    · rename_i hn
      rw [List.nodup_append]
      refine ⟨h.nd, by simp, fun a ha b hb e => ?_⟩
      obtain rfl : b = y := by simpa using hb
      exact hn (e ▸ ha)
  · rcases mem_addN.1 hz with h1 | rfl
    · exact h.lt z h1
    · exact hy
  · rcases mem_addN.1 hz with h1 | rfl
    · exact h.rch z h1
    · exact hr
  · obtain ⟨t', e⟩ := addN_pre (x :: t) y
    exact ⟨t ++ t', by rw [e]; rfl⟩
theorem expd_pre (gs : List (List Int)) (u : Nat) : ∀ f : List Nat, ∃ t, expd gs u f = f ++ t := by
  unfold expd
  induction gs with
  | nil => intro f; exact ⟨[], by simp⟩
  | cons g gs ih =>
    intro f
    obtain ⟨t, e⟩ := addN_pre f (nx g u)
    obtain ⟨t', e'⟩ := ih (addN f (nx g u))
    exact ⟨t ++ t', by rw [List.foldl_cons, e', e, List.append_assoc]⟩
theorem expd_mem (gs : List (List Int)) (u : Nat) : ∀ f : List Nat, ∀ g ∈ gs, nx g u ∈ expd gs u f := by
  unfold expd
  induction gs with
  | nil => intro f g hg; cases hg
  | cons g gs ih =>
    intro f g' hg'
    rw [List.foldl_cons]
    rcases List.mem_cons.1 hg' with rfl | hg'
    · obtain ⟨t, e⟩ := expd_pre gs u (addN f (nx g' u))
      unfold expd at e
      rw [e, List.mem_append]
      exact .inl (mem_addN.2 (.inr rfl))
    · exact ih _ g' hg'
theorem Fd.fold (hp : PMs N gs) {u : Nat} (hu : u < N) (hr : Rch gs x u) : ∀ (l : List (List Int)), (∀ g ∈ l, g ∈ gs) → ∀ f : List Nat, Fd gs N x f → Fd gs N x (l.foldl (fun f g => addN f (nx g u)) f)
  | [], _, f, h => h
  | g :: l, hl, f, h => by
    rw [List.foldl_cons]
    exact Fd.fold hp hu hr l (fun g' hg' => hl g' (by simp [hg'])) _ (h.add ((hp g (hl g (by simp))).nx_lt hu) (hr.step (hl g (by simp))))
theorem getD_memN {l : List Nat} {i : Nat} (h : i < l.length) : l.getD i 0 ∈ l := by
  rw [List.getD_eq_getElem?_getD, List.getElem?_eq_getElem h]
  exact List.getElem_mem h
theorem getD_preN {l t : List Nat} {i : Nat} (h : i < l.length) : (l ++ t).getD i 0 = l.getD i 0 := by
  rw [List.getD_eq_getElem?_getD, List.getElem?_append_left h, ← List.getD_eq_getElem?_getD]
theorem Fd.exp (hp : PMs N gs) (h : Fd gs N x f) {i : Nat} (hi : i < f.length) : Fd gs N x (expd gs (f.getD i 0) f) :=
  Fd.fold hp (h.lt _ (getD_memN hi)) (h.rch _ (getD_memN hi)) gs (fun _ h => h) f h
/-- The first i are expanded. -/
def Cl (gs : List (List Int)) (i : Nat) (f : List Nat) : Prop := ∀ j, j < i → ∀ g ∈ gs, nx g (f.getD j 0) ∈ f
theorem Cl.exp {i : Nat} (h : Cl gs i f) (hi : i < f.length) : Cl gs (i + 1) (expd gs (f.getD i 0) f) := by
  obtain ⟨t, e⟩ := expd_pre gs (f.getD i 0) f
  intro j hj g hg
  by_cases e2 : j = i
  · subst e2
    have := expd_mem gs (f.getD j 0) f g hg
    rw [e] at this ⊢
    rw [getD_preN hi]
    exact this
  · rw [e, getD_preN (by omega), List.mem_append]
    exact .inl (h j (by omega) g hg)
theorem bfs_spec (hp : PMs N gs) : ∀ (fuel i : Nat) (f : List Nat), Fd gs N x f → Cl gs i f → i ≤ f.length → N + 1 ≤ fuel + i → Fd gs N x (bfs gs fuel i f) ∧ Cl gs (bfs gs fuel i f).length (bfs gs fuel i f)
  | 0, i, f, h, c, hi, hf => by have := h.len; omega
  | fuel + 1, i, f, h, c, hi, hf => by
    rw [bfs]
    split
    · rename_i hlt
      have hpre := expd_pre gs (f.getD i 0) f
      exact bfs_spec hp fuel (i + 1) _ (h.exp hp hlt) (c.exp hlt) (by obtain ⟨t, e⟩ := hpre; rw [e, List.length_append]; omega) (by omega)
    · obtain rfl : i = f.length := by omega
      exact ⟨h, c⟩
end

section
variable {gs : List (List Int)} {N : Nat}
theorem orb_fd (hp : PMs N gs) {x : Nat} (hx : x < N) : Fd gs N x (orb gs N x) :=
  (bfs_spec hp (N + 1) 0 [x] (Fd.one hx) (fun j hj => absurd hj (by omega)) (Nat.zero_le _) (by omega)).1
theorem orb_cl (hp : PMs N gs) {x : Nat} (hx : x < N) : Cl gs (orb gs N x).length (orb gs N x) :=
  (bfs_spec hp (N + 1) 0 [x] (Fd.one hx) (fun j hj => absurd hj (by omega)) (Nat.zero_le _) (by omega)).2
theorem orb_self (hp : PMs N gs) {x : Nat} (hx : x < N) : x ∈ orb gs N x := by
  obtain ⟨t, e⟩ := (orb_fd hp hx).pre
  rw [e]; simp
theorem orb_step (hp : PMs N gs) {x u : Nat} (hx : x < N) (hu : u ∈ orb gs N x) {g : List Int} (hg : g ∈ gs) : nx g u ∈ orb gs N x := by
  obtain ⟨j, hj, e⟩ := List.mem_iff_getElem.1 hu
  have := orb_cl hp hx j hj g hg
  rw [List.getD_eq_getElem?_getD, List.getElem?_eq_getElem hj] at this
  simpa [e] using this
theorem orb_iff (hp : PMs N gs) {x y : Nat} (hx : x < N) : y ∈ orb gs N x ↔ Rch gs x y := by
  refine ⟨(orb_fd hp hx).rch y, fun h => ?_⟩
  induction h with
  | refl => exact orb_self hp hx
  | step _ hg ih => exact orb_step hp hx ih hg
theorem orb_lt (hp : PMs N gs) {x y : Nat} (hx : x < N) (h : y ∈ orb gs N x) : y < N := (orb_fd hp hx).lt y h
theorem orb_sub (hp : PMs N gs) {x y z : Nat} (hx : x < N) (hy : y ∈ orb gs N x) (hz : z ∈ orb gs N y) : z ∈ orb gs N x := by
  have hy' := orb_lt hp hx hy
  rw [orb_iff hp hx] at hy ⊢
  rw [orb_iff hp hy'] at hz
  exact hy.trans hz
/-- Whoever comes into an orbit came out of it. -/
theorem orb_back (hp : PMs N gs) {x u : Nat} (hx : x < N) (hu : u < N) {g : List Int} (hg : g ∈ gs) (h : nx g u ∈ orb gs N x) : u ∈ orb gs N x := by
  have hf := orb_fd hp hx
  have h1 : ((orb gs N x).map (nx g)).Nodup := nd_map hf.nd fun a ha b hb e => (hp g hg).nx_inj (hf.lt a ha) (hf.lt b hb) e
  have h2 := nd_all h1 (l := orb gs N x) (fun a ha => by
    obtain ⟨b, hb, rfl⟩ := List.mem_map.1 ha
    exact orb_step hp hx hb hg) (by simp) _ h
  obtain ⟨b, hb, e⟩ := List.mem_map.1 h2
  rw [← (hp g hg).nx_inj (hf.lt b hb) hu e]
  exact hb
theorem rch_symm (hp : PMs N gs) {x y : Nat} (hx : x < N) (h : Rch gs x y) : Rch gs y x := by
  have hx' : x ∈ orb gs N y := by
    have : ∀ z, Rch gs x z → ∀ y, y < N → z ∈ orb gs N y → x ∈ orb gs N y := by
      intro z hz
      induction hz with
      | refl => intro y _ h; exact h
      | step hu hg ih => intro y hy h; exact ih y hy (orb_back hp hy (hu.lt hp hx) hg h)
    exact this y h y (h.lt hp hx) (orb_self hp (h.lt hp hx))
  exact (orb_iff hp (h.lt hp hx)).1 hx'
theorem orb_symm (hp : PMs N gs) {x y : Nat} (hx : x < N) (h : y ∈ orb gs N x) : x ∈ orb gs N y := by
  have hy := orb_lt hp hx h
  rw [orb_iff hp hx] at h
  rw [orb_iff hp hy]
  exact rch_symm hp hx h
end

/-! ### sorted -/
def oN (gs : List (List Int)) (N x : Nat) : List Nat := (List.range N).filter fun y => decide (y ∈ orb gs N x)
def oS (gs : List (List Int)) (N x : Nat) : List Int := (oN gs N x).map Int.ofNat
theorem mem_oN {gs : List (List Int)} {N x y : Nat} : y ∈ oN gs N x ↔ y < N ∧ y ∈ orb gs N x := by simp [oN]
theorem oN_nd (gs : List (List Int)) (N x : Nat) : (oN gs N x).Nodup := List.nodup_range.filter _
theorem oN_len {gs : List (List Int)} {N : Nat} (hp : PMs N gs) {x : Nat} (hx : x < N) : (oN gs N x).length = (orb gs N x).length :=
  Nat.le_antisymm (nd_sub (oN_nd gs N x) fun y hy => (mem_oN.1 hy).2) (nd_sub (orb_fd hp hx).nd fun y hy => mem_oN.2 ⟨orb_lt hp hx hy, hy⟩)
theorem oN_perm {gs : List (List Int)} {N : Nat} (hp : PMs N gs) {x : Nat} (hx : x < N) : (orb gs N x).Perm (oN gs N x) :=
  (List.perm_ext_iff_of_nodup (orb_fd hp hx).nd (oN_nd gs N x)).2 fun y => ⟨fun hy => mem_oN.2 ⟨orb_lt hp hx hy, hy⟩, fun hy => (mem_oN.1 hy).2⟩
theorem oS_sorted (gs : List (List Int)) (N x : Nat) : (oS gs N x).Pairwise fun a b => a ≤ b := by
  unfold oS oN
  rw [List.pairwise_map]
  refine List.Pairwise.filter _ ?_
  exact (List.pairwise_lt_range (n := N)).imp fun h => by simp; omega
theorem sorted_uniq : ∀ {l l' : List Int}, l.Perm l' → l.Pairwise (· ≤ ·) → l'.Pairwise (· ≤ ·) → l = l' := fun hp h1 h2 =>
  hp.eq_of_pairwise (fun a b _ _ h h' => Int.le_antisymm h h') h1 h2
/-- Whatever sorts the search's list comes to the same list. -/
theorem oS_of {gs : List (List Int)} {N : Nat} (hp : PMs N gs) {x : Nat} (hx : x < N) {l : List Int} (h : l.Perm ((orb gs N x).map Int.ofNat)) (hs : l.Pairwise (· ≤ ·)) : l = oS gs N x :=
  sorted_uniq (h.trans ((oN_perm hp hx).map _)) hs (oS_sorted gs N x)
theorem oS_sort {gs : List (List Int)} {N : Nat} (hp : PMs N gs) {x : Nat} (hx : x < N) : (((orb gs N x).map Int.ofNat).mergeSort fun a b => decide (a ≤ b)) = oS gs N x := by
  refine oS_of hp hx (List.mergeSort_perm _ _) ?_
  have := List.pairwise_mergeSort (le := fun a b : Int => decide (a ≤ b)) (fun a b c h1 h2 => by simp at h1 h2 ⊢; omega) (fun a b => by simp; omega) ((orb gs N x).map Int.ofNat)
  exact this.imp fun h => by simpa using h

/-! ### the sweep -/
/-- y lies in the orbit of one of the first k. -/
def sn (gs : List (List Int)) (N k y : Nat) : Bool := (List.range k).any fun z => decide (y ∈ orb gs N z)
def starts (gs : List (List Int)) (N k : Nat) : List Nat := (List.range k).filter fun z => !sn gs N z z
def orbs (gs : List (List Int)) (N k : Nat) : List (List Int) := (starts gs N k).map (oS gs N)
section
variable {gs : List (List Int)} {N : Nat}
theorem sn_iff {k y : Nat} : sn gs N k y = true ↔ ∃ z, z < k ∧ y ∈ orb gs N z := by simp [sn]
theorem sn_zero (y : Nat) : sn gs N 0 y = false := rfl
theorem sn_succ (k y : Nat) : sn gs N (k + 1) y = (sn gs N k y || decide (y ∈ orb gs N k)) := by
  simp [sn, List.range_succ]
theorem sn_seen (hp : PMs N gs) {k : Nat} (hk : k < N) (h : sn gs N k k = true) (y : Nat) : sn gs N (k + 1) y = sn gs N k y := by
  rw [sn_succ]
  rcases hy : sn gs N k y with _ | _
  · obtain ⟨z, hz, hkz⟩ := sn_iff.1 h
    have : ¬ y ∈ orb gs N k := fun hy' => by
      have : sn gs N k y = true := sn_iff.2 ⟨z, hz, orb_sub hp (by omega) hkz hy'⟩
      rw [hy] at this; cases this
    simp [this]
  · rfl
theorem sn_out (hp : PMs N gs) {k u : Nat} (hk : k ≤ N) (hu : u < N) (h : sn gs N k u = false) {g : List Int} (hg : g ∈ gs) : sn gs N k (nx g u) = false := by
  rcases h' : sn gs N k (nx g u) with _ | _
  · rfl
  · obtain ⟨z, hz, hm⟩ := sn_iff.1 h'
    have : sn gs N k u = true := sn_iff.2 ⟨z, hz, orb_back hp (by omega) hu hg hm⟩
    rw [h] at this; cases this
theorem starts_no {k : Nat} (h : sn gs N k k = true) : starts gs N (k + 1) = starts gs N k := by
  simp [starts, List.range_succ, h]
theorem starts_yes {k : Nat} (h : sn gs N k k = false) : starts gs N (k + 1) = starts gs N k ++ [k] := by
  simp [starts, List.range_succ, h]
theorem orbs_no {k : Nat} (h : sn gs N k k = true) : orbs gs N (k + 1) = orbs gs N k := by rw [orbs, starts_no h, orbs]
theorem orbs_yes {k : Nat} (h : sn gs N k k = false) : orbs gs N (k + 1) = orbs gs N k ++ [oS gs N k] := by rw [orbs, starts_yes h, orbs]; simp
theorem starts_le (k : Nat) : (starts gs N k).length ≤ k := by
  have := List.length_filter_le (fun z => !sn gs N z z) (List.range k)
  simpa [starts] using this
theorem orbs_len (k : Nat) : (orbs gs N k).length = (starts gs N k).length := by simp [orbs]
theorem starts_pre {k m : Nat} (h : k ≤ m) : ∃ t, starts gs N m = starts gs N k ++ t := by
  induction m with
  | zero => exact ⟨[], by obtain rfl : k = 0 := by omega
                          simp⟩
  | succ m ih =>
    by_cases e : k = m + 1
    · exact ⟨[], by rw [e]; simp⟩
    · obtain ⟨t, ht⟩ := ih (by omega)
      rcases hs : sn gs N m m with _ | _
      · exact ⟨t ++ [m], by rw [starts_yes hs, ht, List.append_assoc]⟩
      · exact ⟨t, by rw [starts_no hs, ht]⟩
theorem orbs_pre {k m : Nat} (h : k ≤ m) : ∃ t, orbs gs N m = orbs gs N k ++ t := by
  obtain ⟨t, ht⟩ := starts_pre (gs := gs) (N := N) h
  exact ⟨t.map (oS gs N), by rw [orbs, ht, List.map_append, orbs]⟩
/-- The next orbit that comes. -/
theorem orbs_at {k : Nat} (hk : k < N) (h : sn gs N k k = false) : (orbs gs N N).getD (orbs gs N k).length [] = oS gs N k ∧ (orbs gs N k).length < (orbs gs N N).length := by
  obtain ⟨t, ht⟩ := orbs_pre (gs := gs) (N := N) (show k + 1 ≤ N from hk)
  rw [ht, orbs_yes h]
  refine ⟨?_, by simp⟩
  rw [List.append_assoc, List.getD_eq_getElem?_getD, List.getElem?_append_right (Nat.le_refl _), Nat.sub_self]
  rfl
end
end Go.Proofs.Ytcjcmhoalomjfaa

/- IsGeneratorSet, of the program and of the model. Conditions: at most 1048576 lists of at most 1048576 numbers. -/
namespace Go.Proofs.Ytcjcmhoalomjfaa
open Go.RowKit

/-- What IsGeneratorSet answers. -/
def gB (n : Int) (gs : List (List Int)) : Bool := decide (1 ≤ n ∧ n ≤ 20 ∧ gs.length ≤ 8 ∧ ∀ g ∈ gs, (g.length : Int) = n ∧ isP g = true)
theorem gB_iff {n : Int} {gs : List (List Int)} : gB n gs = true ↔ 1 ≤ n ∧ n ≤ 20 ∧ gs.length ≤ 8 ∧ ∀ g ∈ gs, (g.length : Int) = n ∧ isP g = true := by simp [gB]
theorem gB_no {n : Int} {gs : List (List Int)} (h : ¬ (1 ≤ n ∧ n ≤ 20 ∧ gs.length ≤ 8)) : gB n gs = false := by
  rw [← Bool.not_eq_true, gB_iff]; exact fun h' => h ⟨h'.1, h'.2.1, h'.2.2.1⟩
theorem getD_memL {l : List (List Int)} {k : Nat} (hk : k < l.length) : l.getD k [] ∈ l := by
  rw [List.getD_eq_getElem?_getD, List.getElem?_eq_getElem hk]; exact List.getElem_mem hk
theorem gB_row {n : Int} {gs : List (List Int)} {k : Nat} {y : List Int} (hk : k < gs.length) (ey : gs.getD k [] = y) (h : ¬ ((y.length : Int) = n ∧ isP y = true)) : gB n gs = false := by
  rw [← Bool.not_eq_true, gB_iff]; exact fun h' => h (by rw [← ey]; exact h'.2.2.2 _ (getD_memL hk))
theorem gB_all {n : Int} {gs : List (List Int)} (h0 : 1 ≤ n ∧ n ≤ 20 ∧ gs.length ≤ 8) (h : ∀ j, j < gs.length → ((gs.getD j []).length : Int) = n ∧ isP (gs.getD j []) = true) : gB n gs = true := by
  refine gB_iff.2 ⟨h0.1, h0.2.1, h0.2.2, fun g hg => ?_⟩
  obtain ⟨j, hj, e⟩ := List.mem_iff_getElem.1 hg
  have := h j hj
  rw [List.getD_eq_getElem?_getD, List.getElem?_eq_getElem hj] at this
  simpa [e] using this
theorem gB_pm {n : Int} {gs : List (List Int)} (h : gB n gs = true) : ∃ N : Nat, n = (N : Int) ∧ 1 ≤ N ∧ N ≤ 20 ∧ gs.length ≤ 8 ∧ PMs N gs ∧ ∀ g ∈ gs, IsP g ∧ g.length = N := by
  obtain ⟨h1, h2, h3, h4⟩ := gB_iff.1 h
  refine ⟨n.toNat, by omega, by omega, by omega, h3, fun g hg => ?_, fun g hg => ⟨isP_iff.1 (h4 g hg).2, by have := (h4 g hg).1; omega⟩⟩
  have hl : g.length = n.toNat := by have := (h4 g hg).1; omega
  rw [← hl]
  exact (isP_iff.1 (h4 g hg).2).pm

set_option maxHeartbeats 1600000 in
/-- The program's IsGeneratorSet. -/
theorem implGS (a : Int) (A : Option Addr) (n c : Nat) (vs : List SV) (xss : List (List Int)) (w : World) (hx : RR w w.heap.size A n vs xss) (hn : n ≤ 1048576) (hl : Hid (∀ i, i < n → (vs.getD i sd0).2.1 ≤ 1048576)) :
    Calls Try.prog 59 #[.int .i64 a, .slice A n c] w fun e w' => e = .returned (.bool (gB a xss)) ∧ Below w.heap.size w w' := by
  have HX := Lib.hid hx
  have hlx := hx.lx
  clear hx
  by_cases h0 : a < 1
  · have d1 : decide (a < 1) = true := by simp; omega
    have Fin := Lib.hid (gB_no (n := a) (gs := xss) (by omega))
    go_enter Try.func59, Try.ntmps59
    go_wp2
    go_ret
    exact ⟨ret_bool Fin.out.symm, Below.refl _ _⟩
  · have d1 : decide (a < 1) = false := by simp; omega
    by_cases h1 : 20 < a
    · have d2 : decide (20 < a) = true := by simp; omega
      have Fin := Lib.hid (gB_no (n := a) (gs := xss) (by omega))
      go_enter Try.func59, Try.ntmps59
      go_wp2
      go_ret
      exact ⟨ret_bool Fin.out.symm, Below.refl _ _⟩
    · have d2 : decide (20 < a) = false := by simp; omega
      by_cases h2 : 8 < n
      · have d3 : decide ((8 : Int) < n) = true := by simp; omega
        have Fin := Lib.hid (gB_no (n := a) (gs := xss) (by omega))
        go_enter Try.func59, Try.ntmps59
        go_wp2
        go_ret
        exact ⟨ret_bool Fin.out.symm, Below.refl _ _⟩
      · have d3 : decide ((8 : Int) < n) = false := by simp; omega
        go_enter Try.func59, Try.ntmps59
        go_wp2
        go_loopw [20] (fun i wr => ∃ k : Nat, k ≤ n ∧ i = .int .i64 (k : Nat) ∧ (∀ j, j < k → ((xss.getD j []).length : Int) = a ∧ isP (xss.getD j []) = true) ∧ Below w.heap.size w wr) (fun i _ => n - (intOf i).toNat)
        case atStart => exact ⟨0, Nat.zero_le _, rfl, fun j h => absurd h (by omega), Below.refl _ _⟩
        case round =>
          obtain ⟨k, hk, rfl, hz, bel⟩ := hrel
          have Hz := Lib.hid hz
          have Be := Lib.hid bel
          clear hz bel
          by_cases hlt : k < n
          · obtain ⟨b, off, A5, l, c5, y, rfl, hb, ev, ey, hc0, hr0, hy, hlc⟩ := HX.out.at_ hlt
            have hl1 := hl.out k hlt
            rw [ev] at hl1
            have c1 := (Be.out.cell (p := ⟨b, off + k, none⟩) hb).trans hc0
            have R1 := Lib.hid ((hr0.below Be.out (Nat.le_refl _)).more Be.out.size)
            have Ey := Lib.hid ey
            have Hy : Hid (y.length = l) := Lib.hid hy
            clear ev ey hc0 hr0 hy
            by_cases hla : (l : Int) = a
            · rcases hp : isP y with _ | _
              · have Fin : Hid (gB a xss = false) := Lib.hid (gB_row (by rw [hlx]; exact hlt) Ey.out (by rw [hp]; simp))
                go_wp2_with fail
                refine (implIsP A5 c5 l y wr R1.out Hy (by omega)).mono ?_
                rintro e w2 ⟨rfl, b2⟩
                have B2 : Hid (Below w.heap.size w w2) := Lib.hid (btr Be.out b2)
                clear b2
                rw [hp]
                go_wp2_with fail
                go_ret
                exact ⟨ret_bool Fin.out.symm, B2.out⟩
              · go_wp2_with fail
                refine (implIsP A5 c5 l y wr R1.out Hy (by omega)).mono ?_
                rintro e w2 ⟨rfl, b2⟩
                have B2 : Hid (Below w.heap.size w w2) := Lib.hid (btr Be.out b2)
                clear b2
                have Hp : Hid (isP y = true) := Lib.hid hp
                rw [hp]
                clear hp
                go_wp2_with fail
                go_roundw
                case rel => exact ⟨k + 1, by omega, by go_num, fun j hj => by
                  by_cases e : j = k
                  · subst e; rw [Ey.out, Hy.out]; exact ⟨hla, Hp.out⟩
                  · exact Hz.out j (by omega), B2.out⟩
                case measure => simp [intOf]; omega
            · have Fin : Hid (gB a xss = false) := Lib.hid (gB_row (by rw [hlx]; exact hlt) Ey.out (by rw [Hy.out]; exact fun h => hla h.1))
              go_wp2_with fail
              go_ret
              exact ⟨ret_bool Fin.out.symm, Be.out⟩
          · have hkn : k = n := by omega
            subst hkn
            have Fin : Hid (gB a xss = true) := Lib.hid (gB_all ⟨by omega, by omega, by omega⟩ (fun j hj => Hz.out j (by rw [← hlx]; exact hj)))
            go_wp2
            go_ret
            exact ⟨ret_bool Fin.out.symm, Be.out⟩

set_option maxHeartbeats 1600000 in
/-- The model's IsGeneratorSet. -/
theorem specGS (a : Int) (A : Option Addr) (n c : Nat) (vs : List SV) (xss : List (List Int)) (w : World) (hx : RR w w.heap.size A n vs xss) (hn : n ≤ 1048576) (hl : Hid (∀ i, i < n → (vs.getD i sd0).2.1 ≤ 1048576)) (ha : -9223372036854775808 ≤ a ∧ a ≤ 9223372036854775807) :
    Calls Try.prog 35 #[.int .i64 a, .slice A n c] w fun e w' => e = .returned (.bool (gB a xss)) ∧ Below w.heap.size w w' := by
  have HX := Lib.hid hx
  have hlx := hx.lx
  clear hx
  by_cases h0 : 1 ≤ a ∧ a ≤ 20
  · by_cases h2 : 8 < n
    · have d3 : decide ((8 : Int) < n) = true := by simp; omega
      have Fin := Lib.hid (gB_no (n := a) (gs := xss) (by omega))
      go_enter Try.func35, Try.ntmps35
      go_wp2_with (go_at_call 82; refine (inR_true _ _ _ _ (by omega) (by omega)).mono ?_; rintro e w' ⟨rfl, rfl⟩)
      go_ret
      exact ⟨ret_bool Fin.out.symm, Below.refl _ _⟩
    · have d3 : decide ((8 : Int) < n) = false := by simp; omega
      go_enter Try.func35, Try.ntmps35
      go_wp2_with (go_at_call 82; refine (inR_true _ _ _ _ (by omega) (by omega)).mono ?_; rintro e w' ⟨rfl, rfl⟩)
      go_loopw [5] (fun i wr => ∃ k : Nat, k ≤ n ∧ i = .int .i64 (k : Nat) ∧ (∀ j, j < k → ((xss.getD j []).length : Int) = a ∧ isP (xss.getD j []) = true) ∧ Below w.heap.size w wr) (fun i _ => n - (intOf i).toNat)
      case atStart => exact ⟨0, Nat.zero_le _, rfl, fun j h => absurd h (by omega), Below.refl _ _⟩
      case round =>
        obtain ⟨k, hk, rfl, hz, bel⟩ := hrel
        have Hz := Lib.hid hz
        have Be := Lib.hid bel
        clear hz bel
        by_cases hlt : k < n
        · obtain ⟨b, off, A5, l, c5, y, rfl, hb, ev, ey, hc0, hr0, hy, hlc⟩ := HX.out.at_ hlt
          have hl1 := hl.out k hlt
          rw [ev] at hl1
          have c1 := (Be.out.cell (p := ⟨b, off + k, none⟩) hb).trans hc0
          have R1 := Lib.hid ((hr0.below Be.out (Nat.le_refl _)).more Be.out.size)
          have Ey := Lib.hid ey
          have Hy : Hid (y.length = l) := Lib.hid hy
          clear ev ey hc0 hr0 hy
          by_cases hla : (l : Int) = a
          · rcases hp : isP y with _ | _
            · have Fin : Hid (gB a xss = false) := Lib.hid (gB_row (by rw [hlx]; exact hlt) Ey.out (by rw [hp]; simp))
              go_wp2_with fail
              refine (quiet_below (specIsP A5 c5 l y wr R1.out Hy (by omega) hlc)).mono ?_
              rintro e w2 ⟨rfl, b2⟩
              have B2 : Hid (Below w.heap.size w w2) := Lib.hid (btr Be.out b2)
              clear b2
              rw [hp]
              go_wp2_with fail
              go_ret
              exact ⟨ret_bool Fin.out.symm, B2.out⟩
            · go_wp2_with fail
              refine (quiet_below (specIsP A5 c5 l y wr R1.out Hy (by omega) hlc)).mono ?_
              rintro e w2 ⟨rfl, b2⟩
              have B2 : Hid (Below w.heap.size w w2) := Lib.hid (btr Be.out b2)
              clear b2
              have Hp : Hid (isP y = true) := Lib.hid hp
              rw [hp]
              clear hp
              go_wp2_with fail
              go_roundw
              case rel => exact ⟨k + 1, by omega, by go_num, fun j hj => by
                by_cases e : j = k
                · subst e; rw [Ey.out, Hy.out]; exact ⟨hla, Hp.out⟩
                · exact Hz.out j (by omega), B2.out⟩
              case measure => simp [intOf]; omega
          · have Fin : Hid (gB a xss = false) := Lib.hid (gB_row (by rw [hlx]; exact hlt) Ey.out (by rw [Hy.out]; exact fun h => hla h.1))
            go_wp2_with fail
            go_ret
            exact ⟨ret_bool Fin.out.symm, Be.out⟩
        · have hkn : k = n := by omega
          subst hkn
          have Fin : Hid (gB a xss = true) := Lib.hid (gB_all ⟨by omega, by omega, by omega⟩ (fun j hj => Hz.out j (by rw [← hlx]; exact hj)))
          go_wp2
          go_ret
          exact ⟨ret_bool Fin.out.symm, Be.out⟩
  · have Fin := Lib.hid (gB_no (n := a) (gs := xss) (by omega))
    go_enter Try.func35, Try.ntmps35
    go_wp2_with (go_at_call 82; refine (inR_false _ _ _ _ (by omega)).mono ?_; rintro e w' ⟨rfl, rfl⟩)
    go_ret
    exact ⟨ret_bool Fin.out.symm, Below.refl _ _⟩
theorem implIsGeneratorSet (a : Int) (A : Option Addr) (n c : Nat) (vs : List SV) (xss : List (List Int)) (w : World) (hx : RR w w.heap.size A n vs xss) (hn : n ≤ 1048576) (hl : Hid (∀ i, i < n → (vs.getD i sd0).2.1 ≤ 1048576)) :
    Calls Try.prog 59 #[.int .i64 a, .slice A n c] w fun e w' => e = .returned (.bool (gB a xss)) ∧ Below w.heap.size w w' := implGS a A n c vs xss w hx hn hl
theorem specIsGeneratorSet (a : Int) (A : Option Addr) (n c : Nat) (vs : List SV) (xss : List (List Int)) (w : World) (hx : RR w w.heap.size A n vs xss) (hn : n ≤ 1048576) (hl : Hid (∀ i, i < n → (vs.getD i sd0).2.1 ≤ 1048576)) (ha : -9223372036854775808 ≤ a ∧ a ≤ 9223372036854775807) :
    Calls Try.prog 35 #[.int .i64 a, .slice A n c] w fun e w' => e = .returned (.bool (gB a xss)) ∧ Below w.heap.size w w' := specGS a A n c vs xss w hx hn hl ha
end Go.Proofs.Ytcjcmhoalomjfaa

/- The model's buildChain: a chain whole from level 0 on, of what the generators generate. Conditions: at most 20 points, 8 generators. -/
namespace Go.Proofs.Ytcjcmhoalomjfaa
open Go.RowKit

/-- addGenerator keeps its contract at every level. -/
theorem specAddGen (base g N : Nat) (h1 : 1 ≤ N) (h2 : N ≤ 20) : ∀ m k, k + m = N → AGs base g N k
  | 0, k, e => by
    obtain rfl : k = N := by omega
    exact specAddGenTop base g k h1 h2
  | m + 1, k, e => specAddGen1 base g N k (by omega) (specAddProd base g N k (by omega) (specAddGen base g N h1 h2 m (k + 1) (by omega)))
theorem upTo0 (N : Nat) (h1 : 1 ≤ N) (h2 : N ≤ 20) : UpTo N (ch0 N) 0 := by
  have hrep : ∀ i y, (ch0 N).rep i y ≠ [] → y = i := fun i y h => by
    by_cases e : y = i
    · exact e
    · exact absurd (if_neg e) h
  have hone : ∀ i, (ch0 N).rep i i = idL N := fun i => if_pos rfl
  have hk : ∀ i, i < N → RepOK N (ch0 N) i := fun i hi => ⟨fun y hy => by
    obtain rfl := hrep i y hy
    rw [hone]; exact ⟨hi, pn_id h1 h2, fx_id (by omega), nx_id hi⟩, hone i⟩
  refine ⟨fun i _ hi => hk i hi, fun i _ _ g hg => (List.not_mem_nil hg).elim, fun i _ hi p => ⟨fun hs => ?_, fun hm => ?_⟩, fun i _ _ => Nat.zero_le _, rfl⟩
  · have : p = idL N := by
      clear hi
      induction hs with
      | top => rfl
      | @low i p hi hp hf hr _ ih =>
        have e := hrep i _ hr
        rw [e, hone, iv_id h1 h2, hp.idr] at ih
        exact ih (Nat.zero_le _)
    rw [this]; exact .one
  · rw [hm.none_]
    clear hm
    have : ∀ m i, i + m = N → Sv N (ch0 N) i (idL N) := fun m => by
      induction m with
      | zero => intro i e; obtain rfl : i = N := by omega
                exact .top
      | succ m ih =>
        intro i e
        exact (sv_down (hk i (by omega)) (by omega) (pn_id h1 h2) (fx_id (by omega)) (nx_id (by omega))).2 (ih (i + 1) (by omega))
    exact this (N - i) i (by omega)
/-- The chain is whole, and of what gs generate. -/
structure Whole (N : Nat) (gs : List (List Int)) (c : Ch) : Prop where
  up : UpTo N c 0
  mem : ∀ q, Mb (c.gen 0) N q ↔ Mb gs N q
theorem Whole.next {N : Nat} {gs : List (List Int)} {c c' : Ch} {p : List Int} (h1 : 1 ≤ N) (h2 : N ≤ 20) (hgs : ∀ g ∈ gs, Pn N g) (hp : Pn N p) (h : Whole N gs c) (ha : Ap N 0 c c' p) : Whole N (gs ++ [p]) c' := by
  have hgp : ∀ g ∈ c.gen 0, Pn N g := h.up.pn (Nat.le_refl _) (Nat.zero_le _)
  have a1 : ∀ g ∈ gs ++ [p], Pn N g := fun g hg => by
    rcases List.mem_append.1 hg with hg | hg
    · exact hgs g hg
    · obtain rfl := List.mem_singleton.1 hg; exact hp
  have a2 : ∀ g ∈ c.gen 0 ++ [p], Pn N g := fun g hg => by
    rcases List.mem_append.1 hg with hg | hg
    · exact hgp g hg
    · obtain rfl := List.mem_singleton.1 hg; exact hp
  refine ⟨ha.up, fun q => (ha.gen q).trans ⟨fun hq => hq.sub h1 h2 a1 fun g hg => ?_, fun hq => hq.sub h1 h2 a2 fun g hg => ?_⟩⟩
  · rcases List.mem_append.1 hg with hg | hg
    · exact ((h.mem g).1 (.of (hgp g hg) hg)).more fun g hg => List.mem_append_left _ hg
    · obtain rfl := List.mem_singleton.1 hg; exact .of hp (by simp)
  · rcases List.mem_append.1 hg with hg | hg
    · exact ((h.mem g).2 (.of (hgs g hg) hg)).more fun g hg => List.mem_append_left _ hg
    · obtain rfl := List.mem_singleton.1 hg; exact .of hp (by simp)

set_option maxHeartbeats 2000000 in
set_option maxRecDepth 100000 in
theorem specBuild (N n cc : Nat) (A : Option Addr) (vs : List SV) (gs : List (List Int)) (w : World) (hx : RR w w.heap.size A n vs gs) (hN1 : 1 ≤ N) (hN : N ≤ 20) (hn : n ≤ 8) (ok : Hid (∀ g ∈ gs, IsP g ∧ g.length = N)) :
    Calls Try.prog 62 #[.int .i64 (N : Nat), .slice A n cc] w fun e w' => ∃ g L c, e = .returned (.pointer (some ⟨g, 0, none⟩)) ∧ Cn w' w.heap.size g N c L ∧ Whole N gs c ∧ Below w.heap.size w w' := by
  have HX := Lib.hid hx
  have hlx : Hid (gs.length = n) := Lib.hid hx.lx
  clear hx
  go_enter Try.func62, Try.ntmps62
  go_wp2_with fail
  refine (specEmpty N w hN1 hN).mono ?_
  rintro e w1 ⟨g, L, rfl, hc1, b1⟩
  have C1 := Lib.hid hc1
  have B1 := Lib.hid b1
  have U0 := Lib.hid (upTo0 N hN1 hN)
  clear hc1 b1
  go_wp2_with fail
  go_loopw [6] (fun i wr => ∃ (j : Nat) (c : Ch) (L : LY), j ≤ n ∧ i = .int .i64 (j : Nat) ∧ Cn wr w.heap.size g N c L ∧ Whole N (gs.take j) c ∧ Below w.heap.size w wr) (fun i _ => n - (intOf i).toNat)
  case atStart => exact ⟨0, _, L, Nat.zero_le _, rfl, C1.out, ⟨U0.out, fun q => by rw [List.take_zero]; exact Iff.rfl⟩, B1.out⟩
  case round =>
    clear C1 B1 U0
    obtain ⟨j, c, L, hj, rfl, hc, hw, bel⟩ := hrel
    have C2 := Lib.hid hc
    have W2 := Lib.hid hw
    have Be := Lib.hid bel
    clear hc hw bel
    by_cases hlt : j < n
    · obtain ⟨b, off, A5, l, c5, y, rfl, hb, hv, ey, x1, ri, ly, hl5⟩ := (HX.out.up Be.out).at_ hlt
      have hyP := ok.out y (by rw [← ey]; exact getD_memL (by rw [hlx.out]; exact hlt))
      obtain rfl : l = N := by omega
      have Ri := Lib.hid ri
      have YP : Hid (Pn l y) := Lib.hid hyP
      obtain ⟨b5, off5, rfl, hb5, hc5⟩ := ri (by omega)
      have Ey := Lib.hid ey
      have q0 : (0 : Int) ≤ j := by omega
      have q1 : (j : Int) < n := by omega
      clear hv ey hb ri hb5 hc5 hyP
      go_wp2_with fail
      refine (copyRI b5 off5 l c5 y wr Ri.out (Lib.hid ly) (by omega)).mono ?_
      rintro e w2 ⟨A2, c2, rfl, s2, b2⟩
      have S2 : Hid (Slc w2 w.heap.size A2 l c2 y) := Lib.hid (s2.mono Be.out.size)
      have C3 := Lib.hid (C2.out.up b2)
      have Be2 : Hid (Below w.heap.size w w2) := Lib.hid (btr Be.out b2)
      have hz2 := Be2.out.size
      clear s2 b2
      go_wp2_with fail
      have K := specAddGen w.heap.size g l hN1 hN l 0 (by omega) c2 A2 c L y w2 C3.out S2.out YP.out Fx.zero W2.out.up
      refine K.mono ?_
      rintro e w3 ⟨c', L', rfl, hc3, hch, hmt, hap⟩
      have C4 := Lib.hid hc3
      have Be3 : Hid (Below w.heap.size w w3) := Lib.hid (Be2.out.trans (hch.below (fun k hk => (C3.out.mut hk).1) hz2))
      have W4 : Hid (Whole l (gs.take (j + 1)) c') := Lib.hid (by
        rw [List.take_succ_eq_append_getElem (by rw [hlx.out]; exact hlt)]
        have e1 : gs[j]'(by rw [hlx.out]; exact hlt) = y := by rw [← Ey.out, List.getD_eq_getElem?_getD, List.getElem?_eq_getElem (by rw [hlx.out]; exact hlt)]; rfl
        rw [e1]
        exact W2.out.next hN1 hN (fun g hg => ok.out g (List.mem_of_mem_take hg)) YP.out hap)
      clear K hc3 hch hmt hap
      go_wp2_with fail
      go_roundw
      case rel => exact ⟨j + 1, c', L', by omega, by go_num, C4.out, W4.out, Be3.out⟩
      case measure => simp [intOf]; omega
    · obtain rfl : j = n := by omega
      have W3 : Hid (Whole N gs c) := Lib.hid (by have := W2.out; rwa [List.take_of_length_le (by rw [hlx.out]; exact Nat.le_refl _)] at this)
      go_wp2_with fail
      go_ret
      exact ⟨g, L, c, rfl, C2.out, W3.out, Be.out⟩
end Go.Proofs.Ytcjcmhoalomjfaa

/- What a whole chain tells: orbit sizes, the order, membership; what these are for the group. Conditions: at most 20 points, 8 generators. -/
namespace Go.Proofs.Ytcjcmhoalomjfaa
open Go.RowKit

/-! ### the group's own numbers -/
section
variable {N : Nat} {gs hs : List (List Int)} {c : Ch}
theorem Whole.stab (h : Whole N gs c) (h1 : 1 ≤ N) (h2 : N ≤ 20) : ∀ i, i ≤ N → ∀ p, Mb (c.gen i) N p ↔ Mb gs N p ∧ Fx i p
  | 0, _, p => by rw [h.mem]; exact ⟨fun h => ⟨h, Fx.zero⟩, fun h => h.1⟩
  | i + 1, hi, p => by
    have ih := h.stab h1 h2 i (by omega)
    have hr := h.up.rep i (Nat.zero_le _) hi
    have hpn : ∀ g ∈ c.gen 0, Pn N g := h.up.pn (Nat.le_refl _) (Nat.zero_le _)
    constructor
    · intro hm
      have hp := hm.pn (h.up.pn (Nat.zero_le _) hi) h1 h2
      have hf : Fx (i + 1) p := by
        rcases Nat.lt_or_ge (i + 1) N with hl | hl
        · exact hm.fx (h.up.gp (i + 1) (Nat.zero_le _) hl) h1 h2 hi
        · obtain rfl : i + 1 = N := by omega
          rw [h.up.top] at hm
          rw [hm.none_]; exact fx_id (Nat.le_refl _)
      have hs := (sv_down hr hi hp (hf.mono (by omega)) (hf i (by omega))).2 ((h.up.sv (i + 1) (Nat.zero_le _) hi p).2 hm)
      exact ⟨((ih p).1 ((h.up.sv i (Nat.zero_le _) (by omega) p).1 hs)).1, hf⟩
    · rintro ⟨hm, hf⟩
      have hp := ((h.mem p).2 hm).pn hpn h1 h2
      have hs := (h.up.sv i (Nat.zero_le _) (by omega) p).2 ((ih p).2 ⟨hm, hf.mono (by omega)⟩)
      exact (h.up.sv (i + 1) (Nat.zero_le _) hi p).1 ((sv_down hr hi hp (hf.mono (by omega)) (hf i (by omega))).1 hs)
theorem Whole.rep_mb (h : Whole N gs c) (h1 : 1 ≤ N) (h2 : N ≤ 20) {i y : Nat} (hi : i < N) (hy : c.rep i y ≠ []) : Mb gs N (c.rep i y) ∧ Fx i (c.rep i y) ∧ nx (c.rep i y) i = y ∧ y < N := by
  have hl := (h.up.mono (Nat.zero_le i)).low hi h1 h2
  have h3 := (h.stab h1 h2 i (by omega) _).1 (hl.inn y hy)
  obtain ⟨a1, a2, a3, a4⟩ := hl.rep.at_ y hy
  exact ⟨h3.1, a3, a4, a1⟩
theorem Whole.rep_iff (h : Whole N gs c) (h1 : 1 ≤ N) (h2 : N ≤ 20) {i y : Nat} (hi : i < N) : c.rep i y ≠ [] ↔ ∃ p, Mb gs N p ∧ Fx i p ∧ nx p i = y := by
  constructor
  · intro hy
    obtain ⟨a, b, d, _⟩ := h.rep_mb h1 h2 hi hy
    exact ⟨_, a, b, d⟩
  · rintro ⟨p, hm, hf, rfl⟩
    exact (((h.up.sv i (Nat.zero_le _) (by omega) p).2 ((h.stab h1 h2 i (by omega) p).2 ⟨hm, hf⟩)).inv_low hi).2.2.1
/-- The sizes of the orbits of the points under the members that fix the points before them. -/
def IsOS (N : Nat) (gs : List (List Int)) (xs : List Int) : Prop := xs.length = N ∧ ∀ i, i < N → ∃ l : List Nat, l.Nodup ∧ (∀ y, y ∈ l ↔ y < N ∧ ∃ p, Mb gs N p ∧ Fx i p ∧ nx p i = y) ∧ xs.getD i 0 = (l.length : Int)
theorem IsOS.uniq {xs ys : List Int} (h : IsOS N gs xs) (h' : IsOS N gs ys) : xs = ys := by
  refine ext_getD h.1 h'.1 fun i hi => ?_
  obtain ⟨l, d, m, e⟩ := h.2 i hi
  obtain ⟨l', d', m', e'⟩ := h'.2 i hi
  have a := nd_sub d (fun x hx => (m' x).2 ((m x).1 hx))
  have b := nd_sub d' (fun x hx => (m x).2 ((m' x).1 hx))
  rw [e, e']; omega
/-- How many representatives a level has. -/
def nr (N : Nat) (c : Ch) (i m : Nat) : Nat := ((List.range m).filter fun y => !(c.rep i y).isEmpty).length
def osL (N : Nat) (c : Ch) (m : Nat) : List Int := (List.range m).map fun i => (nr N c i N : Int)
theorem nr_zero (N : Nat) (c : Ch) (i : Nat) : nr N c i 0 = 0 := rfl
theorem nr_yes {i m : Nat} (h : c.rep i m ≠ []) : nr N c i (m + 1) = nr N c i m + 1 := by
  unfold nr; rw [List.range_succ, List.filter_append]; simp [List.isEmpty_eq_false_iff.2 h]
theorem nr_no {i m : Nat} (h : c.rep i m = []) : nr N c i (m + 1) = nr N c i m := by
  unfold nr; rw [List.range_succ, List.filter_append]; simp [h]
theorem nr_le (i m : Nat) : nr N c i m ≤ m := by
  have := List.length_filter_le (fun y => !(c.rep i y).isEmpty) (List.range m)
  simpa [nr] using this
theorem osL_succ (m : Nat) : osL N c (m + 1) = osL N c m ++ [(nr N c m N : Int)] := by simp [osL, List.range_succ]
theorem osL_len (m : Nat) : (osL N c m).length = m := by simp [osL]
theorem osL_at {i m : Nat} (hi : i < m) : (osL N c m).getD i 0 = (nr N c i N : Int) := by
  unfold osL
  rw [List.getD_eq_getElem?_getD, List.getElem?_map, List.getElem?_range hi]; rfl
theorem Whole.os (h : Whole N gs c) (h1 : 1 ≤ N) (h2 : N ≤ 20) : IsOS N gs (osL N c N) := by
  refine ⟨osL_len N, fun i hi => ⟨(List.range N).filter fun y => !(c.rep i y).isEmpty, List.nodup_range.filter _, fun y => ?_, osL_at hi⟩⟩
  rw [List.mem_filter, List.mem_range, Bool.not_eq_true', List.isEmpty_eq_false_iff, h.rep_iff h1 h2 hi]
/-- Level i has a representative of i itself, and none below. -/
theorem Whole.nr_pos (h : Whole N gs c) (h1 : 1 ≤ N) {i : Nat} (hi : i < N) : 1 ≤ nr N c i N ∧ nr N c i N ≤ N - i := by
  have hr := h.up.rep i (Nat.zero_le _) hi
  constructor
  · unfold nr
    refine List.length_pos_of_mem (a := i) ?_
    rw [List.mem_filter, List.mem_range, Bool.not_eq_true', List.isEmpty_eq_false_iff]
    exact ⟨hi, by rw [hr.one]; intro e; have := idL_length N; rw [e] at this; simp at this; omega⟩
  · have : ((List.range N).filter fun y => !(c.rep i y).isEmpty).length ≤ (List.range' i (N - i)).length := by
      refine nd_sub (List.nodup_range.filter _) fun y hy => ?_
      rw [List.mem_filter, List.mem_range, Bool.not_eq_true', List.isEmpty_eq_false_iff] at hy
      obtain ⟨a1, a2, a3, a4⟩ := hr.at_ y hy.2
      have := a3.ge a2 hi
      rw [List.mem_range'_1]; omega
    simpa [nr] using this
/-- The product. -/
def prodL (l : List Int) : Int := l.foldl (fun a x => a * x) 1
theorem prodL_snoc (l : List Int) (x : Int) : prodL (l ++ [x]) = prodL l * x := by simp [prodL]
def facts : Nat → Nat → Nat
  | _, 0 => 1
  | N, m + 1 => facts N m * (N - m)
theorem facts_pos {N : Nat} : ∀ {m : Nat}, m ≤ N → 1 ≤ facts N m
  | 0, _ => Nat.le_refl _
  | m + 1, h => Nat.mul_pos (facts_pos (by omega)) (by omega)
theorem facts_mono {N m : Nat} (h : m < N) : facts N m ≤ facts N (m + 1) := Nat.le_mul_of_pos_right _ (by omega)
theorem facts_le {N : Nat} (hN : N ≤ 20) : ∀ m, m ≤ N → facts N m ≤ 2432902008176640000 := by
  have hall : ∀ N, N ≤ 20 → ∀ m, m ≤ N → facts N m ≤ 2432902008176640000 := by decide +kernel
  exact hall N hN
theorem Whole.prod_le (h : Whole N gs c) (h1 : 1 ≤ N) : ∀ m, m ≤ N → 1 ≤ prodL (osL N c m) ∧ prodL (osL N c m) ≤ (facts N m : Int)
  | 0, _ => by simp [osL, prodL, facts]
  | m + 1, hm => by
    obtain ⟨a, b⟩ := h.prod_le h1 m (by omega)
    obtain ⟨d, e⟩ := h.nr_pos h1 (i := m) hm
    rw [osL_succ, prodL_snoc]
    refine ⟨?_, ?_⟩
    · have := Int.mul_le_mul a (show (1 : Int) ≤ (nr N c m N : Int) by omega) (by omega) (by omega)
      simpa using this
    · have := Int.mul_le_mul b (show (nr N c m N : Int) ≤ ((N - m : Nat) : Int) by omega) (by omega) (by omega)
      show _ ≤ ((facts N m * (N - m) : Nat) : Int)
      rw [Int.natCast_mul]; exact this
end

set_option maxHeartbeats 400000 in
theorem specB2I (b : Bool) (w : World) : Calls Try.prog 91 #[.bool b] w fun e w' => e = .returned (.int .i64 (if b then 1 else 0)) ∧ w = w' := by
  cases b
  · go_enter Try.func91, Try.ntmps91
    go_wp2
    go_ret
    exact ⟨rfl, rfl⟩
  · go_enter Try.func91, Try.ntmps91
    go_wp2
    go_ret
    exact ⟨rfl, rfl⟩

set_option maxHeartbeats 2000000 in
set_option maxRecDepth 100000 in
theorem specSizes (base g N : Nat) (c : Ch) (L : LY) (gs : List (List Int)) (w : World) (hc : Cn w base g N c L) (hw : Whole N gs c) (hN1 : 1 ≤ N) (hN : N ≤ 20) :
    Calls Try.prog 118 #[.pointer (some ⟨g, 0, none⟩)] w fun e w' => ∃ A' c', e = .returned (.slice A' N c') ∧ Slc w' w.heap.size A' N c' (osL N c N) ∧ Below w.heap.size w w' := by
  have HC := Lib.hid hc
  have HW := Lib.hid hw
  have S0 := Lib.hid (Slc.lit0 w w.heap.size (Nat.le_refl _))
  clear hc hw
  go_enter Try.func118, Try.ntmps118
  go_wp2_with fail
  go_loopg [3, 4] N (fun gg v i wr => ∃ (k cc : Nat) (A : Option Addr), k ≤ N ∧ N - k ≤ gg ∧ i = .int .i64 (k : Nat) ∧ v = .slice A k cc ∧ Slc wr w.heap.size A k cc (osL N c k) ∧ Below w.heap.size w wr)
  case atStart => exact ⟨0, _, _, Nat.zero_le _, by omega, rfl, rfl, S0.out, (Below.refl _ _).alloc (Nat.le_refl _) _⟩
  case round =>
    clear S0
    obtain ⟨k, cc, A, hk, hgg, rfl, rfl, hs, bel⟩ := hrel
    have Ss := Lib.hid hs
    have Be := Lib.hid bel
    have C1 := Lib.hid (HC.out.up bel)
    have x0 := C1.out.c0
    clear hs bel
    by_cases hlt : k < N
    · go_wp2_with fail
      go_loopg [5, 6] N (fun gg s y wr2 => ∃ m : Nat, m ≤ N ∧ N - m ≤ gg ∧ y = .int .i64 (m : Nat) ∧ s = .int .i64 (nr N c k m : Nat) ∧ wr = wr2)
      case atStart => exact ⟨0, Nat.zero_le _, by omega, rfl, rfl, rfl⟩
      case round =>
        obtain ⟨m, hm, hg2, rfl, rfl, rfl⟩ := hrel
        by_cases hmt : m < N
        · have x1 := C1.out.c1
          have x2 := C1.out.cR hlt
          have x3 := C1.out.cro hlt hmt
          have en := C1.out.enn hlt hmt
          rcases hd : (L.en k).getD m sd0 with ⟨dA, dn, dc⟩
          rw [hd] at x3 en
          simp only [sval] at x3
          have q0 : (0 : Int) ≤ k := by omega
          have q1 : (k : Int) < N := by omega
          have q2 : (0 : Int) ≤ m := by omega
          have q3 : (m : Int) < N := by omega
          have hnm := nr_le (N := N) (c := c) k m
          have en2 : dn = (c.rep k m).length := en
          by_cases hz : c.rep k m = []
          · obtain rfl : dn = 0 := by rw [en2, hz]; rfl
            have d0 : decide ((0 : Int) < 0) = false := by decide
            have Kn := Lib.hid (nr_no (N := N) hz)
            clear hd en en2
            go_wp2_with (first | (go_at_call 91; refine (specB2I _ _).mono ?_; rintro e w' ⟨rfl, rfl⟩))
            go_roundg (N - (m + 1))
            case rel => exact ⟨m + 1, by omega, by omega, by go_num, by rw [Kn.out], rfl⟩
            case measure => omega
          · obtain rfl : dn = N := by
              have h2 := rep_ne_pos (HW.out.up.rep k (Nat.zero_le _) hlt) hz
              omega
            have d0 : decide ((0 : Int) < (dn : Int)) = true := by simp; omega
            have Kn := Lib.hid (nr_yes (N := dn) hz)
            clear hd en en2
            go_wp2_with (first | (go_at_call 91; refine (specB2I _ _).mono ?_; rintro e w' ⟨rfl, rfl⟩))
            go_roundg (dn - (m + 1))
            case rel => exact ⟨m + 1, by omega, by omega, by go_num, by rw [Kn.out]; go_num, rfl⟩
            case measure => omega
        · obtain rfl : m = N := by omega
          have hzr := Be.out.size
          have Osk := Lib.hid (osL_succ (N := m) (c := c) k)
          go_wp2_with (at_builtin; refine wpList_app1 rfl _ _ rfl w.heap.size A k cc _ rfl (Ss.out.alloc _) wr.heap.size (nr m c k m : Int) rfl (by rw [World.cell?_alloc_at _ _ _ _ rfl]; rfl) (by omega) (by simp; omega) ?_; intro A3 c3 w3 s3 g3)
          have S3 : Hid (Slc w3 w.heap.size A3 (k + 1) c3 (osL m c (k + 1))) := Lib.hid (by rw [Osk.out]; exact s3)
          have B3 : Hid (Below w.heap.size w w3) := Lib.hid ((Be.out.alloc hzr _).grown g3 (by simp; omega) (fun j hj => (Ss.out.lt_ j hj).1))
          clear s3 g3
          go_wp2_with fail
          go_roundg (m - (k + 1))
          case rel => exact ⟨k + 1, _, _, by omega, by omega, by go_num, rfl, S3.out, B3.out⟩
          case measure => omega
    · obtain rfl : k = N := by omega
      go_wp2_with fail
      go_ret
      exact ⟨_, _, rfl, Ss.out, Be.out⟩

theorem specOrder (base g N : Nat) (c : Ch) (L : LY) (gs : List (List Int)) (w : World) (hc : Cn w base g N c L) (hw : Whole N gs c) (hN1 : 1 ≤ N) (hN : N ≤ 20) :
    Calls Try.prog 87 #[.pointer (some ⟨g, 0, none⟩)] w fun e w' => e = .returned (.int .i64 (prodL (osL N c N))) ∧ Below w.heap.size w w' := by
  have HC := Lib.hid hc
  have HW := Lib.hid hw
  clear hc hw
  go_enter Try.func87, Try.ntmps87
  go_wp2_with fail
  refine (specSizes base g N c L gs w HC.out HW.out hN1 hN).mono ?_
  rintro e w1 ⟨A, cc, rfl, s1, b1⟩
  have S1 := Lib.hid s1
  have B1 := Lib.hid b1
  clear s1 b1
  go_wp2_with fail
  go_loop [3, 5] (fun o i => ∃ k : Nat, k ≤ N ∧ i = .int .i64 (k : Nat) ∧ o = .int .i64 (prodL (osL N c k))) (fun _ i => N - (intOf i).toNat)
  case atStart => exact ⟨0, Nat.zero_le _, rfl, rfl⟩
  case round =>
    obtain ⟨k, hk, rfl, rfl⟩ := hrel
    by_cases hlt : k < N
    · obtain ⟨b, off, rfl, hb, hcell⟩ := S1.out.ri_ (by rw [S1.out.1]; omega)
      have x1 := hcell k (by rw [S1.out.1]; exact hlt)
      rw [osL_at hlt] at x1
      have pl := HW.out.prod_le hN1 (k + 1) hlt
      have pf := facts_le hN (k + 1) hlt
      rw [osL_succ, prodL_snoc] at pl
      have wr1 : IntKind.i64.wrap (prodL (osL N c k) * (nr N c k N : Int)) = prodL (osL N c k) * (nr N c k N : Int) := by rw [IntKind.wrap_i64]; omega
      have e1 : prodL (osL N c (k + 1)) = prodL (osL N c k) * (nr N c k N : Int) := by rw [osL_succ, prodL_snoc]
      have E1 := Lib.hid e1
      have q0 : (0 : Int) ≤ k := by omega
      have q1 : (k : Int) < N := by omega
      clear hb hcell pl pf e1
      go_wp2_with fail
      go_round
      case rel => exact ⟨k + 1, by omega, by go_num, by rw [E1.out]⟩
      case measure => simp [intOf]; omega
    · obtain rfl : k = N := by omega
      go_wp2_with fail
      go_ret
      exact ⟨rfl, B1.out⟩
theorem specHas (base g N cp : Nat) (A : Option Addr) (c : Ch) (L : LY) (gs : List (List Int)) (p : List Int) (w : World) (hc : Cn w base g N c L) (hw : Whole N gs c) (hp : RI w w.heap.size A p) (hP : Hid (Pn N p)) (ans : Bool) (ha : Hid (ans = true ↔ Mb gs N p)) :
    Calls Try.prog 77 #[.pointer (some ⟨g, 0, none⟩), .slice A N cp] w fun e w' => e = .returned (.bool ans) ∧ Below w.heap.size w w' := by
  have HC := Lib.hid hc
  have HW := Lib.hid hw
  have HP := Lib.hid hp
  clear hc hw hp
  go_enter Try.func77, Try.ntmps77
  go_wp2_with fail
  have K := specSift base g N 0 cp A c L p w HC.out HP.out hP (Lib.hid Fx.zero) (Nat.zero_le _) (Lib.hid HW.out.up.rep)
  refine K.mono ?_
  rintro e w1 ⟨A1, n1, c1, lvl, rfl, hlv, hle, b1⟩
  have C1 := Lib.hid (HC.out.up b1)
  have B1 := Lib.hid b1
  have x0 := C1.out.c0
  have e1 : ((lvl : Int) == (N : Int)) = ans := by
    have h1 : Sv N c 0 p ↔ Mb gs N p := (HW.out.up.sv 0 (Nat.le_refl _) (Nat.zero_le _) p).trans (HW.out.mem p)
    have h2 : ans = true ↔ lvl = N := ha.out.trans (h1.symm.trans hlv.symm)
    rw [Bool.eq_iff_iff, h2, beq_iff_eq]; omega
  clear K hlv hle b1
  go_wp2_with fail
  go_ret
  exact ⟨rfl, B1.out⟩
end Go.Proofs.Ytcjcmhoalomjfaa

/- How many members a group of permutations and its stabilizers have: the product of the orbit sizes; conjugate groups. No Go in it. No condition. -/
namespace Go.Proofs.Ytcjcmhoalomjfaa
open Go.RowKit

/-! ### lists without repeats -/
theorem nd_subA {α : Type} [BEq α] [LawfulBEq α] {l' : List α} : ∀ {l : List α}, l'.Nodup → (∀ x ∈ l', x ∈ l) → l'.length ≤ l.length := by
  induction l' with
  | nil => intro l _ _; simp
  | cons a t ih =>
    intro l hd h
    rw [List.nodup_cons] at hd
    have ha : a ∈ l := h a (by simp)
    have := ih (l := l.erase a) hd.2 fun x hx => by
      have hne : x ≠ a := fun e => hd.1 (e ▸ hx)
      exact (List.mem_erase_of_ne hne).2 (h x (by simp [hx]))
    rw [List.length_erase_of_mem ha] at this
    have h0 : 0 < l.length := List.length_pos_of_mem ha
    simp; omega
theorem nd_mapA {α β : Type} {f : α → β} {l : List α} (hd : l.Nodup) (hf : ∀ x ∈ l, ∀ y ∈ l, f x = f y → x = y) : (l.map f).Nodup := by
  induction l with
  | nil => simp
  | cons a t ih =>
    rw [List.nodup_cons] at hd
    rw [List.map_cons, List.nodup_cons]
    refine ⟨fun hm => ?_, ih hd.2 fun x hx y hy => hf x (by simp [hx]) y (by simp [hy])⟩
    obtain ⟨b, hb, e⟩ := List.mem_map.1 hm
    have := hf b (by simp [hb]) a (by simp) e
    subst this
    exact hd.1 hb
theorem flat_nd {β : Type} {f : Nat → List β} {m : Nat} : ∀ {O : List Nat}, O.Nodup → (∀ y ∈ O, (f y).Nodup) → (∀ y ∈ O, ∀ z ∈ O, y ≠ z → ∀ p, p ∈ f y → p ∉ f z) → (∀ y ∈ O, (f y).length = m) →
    (O.flatMap f).Nodup ∧ (O.flatMap f).length = O.length * m
  | [], _, _, _, _ => by simp
  | a :: t, hd, h1, h2, h3 => by
    rw [List.nodup_cons] at hd
    obtain ⟨i1, i2⟩ := flat_nd (O := t) hd.2 (fun y hy => h1 y (by simp [hy])) (fun y hy z hz => h2 y (by simp [hy]) z (by simp [hz])) (fun y hy => h3 y (by simp [hy]))
    rw [List.flatMap_cons]
    refine ⟨List.nodup_append.2 ⟨h1 a (by simp), i1, fun p hp q hq e => ?_⟩, ?_⟩
    · subst e
      obtain ⟨z, hz, hq⟩ := List.mem_flatMap.1 hq
      exact h2 a (by simp) z (by simp [hz]) (fun e => hd.1 (e ▸ hz)) p hp hq
    · rw [List.length_append, i2, h3 a (by simp), List.length_cons, Nat.succ_mul]; omega

/-! ### how many -/
def Crd (P : List Int → Prop) (v : Nat) : Prop := ∃ l : List (List Int), l.Nodup ∧ (∀ p, p ∈ l ↔ P p) ∧ v = l.length
section
variable {P Q : List Int → Prop} {v u : Nat}
theorem Crd.uniq (h : Crd P v) (h' : Crd P u) : v = u := by
  obtain ⟨l, d, m, rfl⟩ := h
  obtain ⟨l', d', m', rfl⟩ := h'
  have a := nd_subA d fun x hx => (m' x).2 ((m x).1 hx)
  have b := nd_subA d' fun x hx => (m x).2 ((m' x).1 hx)
  omega
theorem Crd.congr (h : Crd P v) (e : ∀ p, P p ↔ Q p) : Crd Q v := by
  obtain ⟨l, d, m, rfl⟩ := h
  exact ⟨l, d, fun p => (m p).trans (e p), rfl⟩
theorem Crd.map (h : Crd P v) (f : List Int → List Int) (hf : ∀ p, P p → ∀ q, P q → f p = f q → p = q) (e : ∀ q, Q q ↔ ∃ p, P p ∧ q = f p) : Crd Q v := by
  obtain ⟨l, d, m, rfl⟩ := h
  refine ⟨l.map f, nd_mapA d fun x hx y hy => hf x ((m x).1 hx) y ((m y).1 hy), fun q => ?_, by simp⟩
  rw [e, List.mem_map]
  exact ⟨fun ⟨p, hp, e⟩ => ⟨p, (m p).1 hp, e.symm⟩, fun ⟨p, hp, e⟩ => ⟨p, (m p).2 hp, e.symm⟩⟩
end

/-! ### the product of the orbit sizes from one level on -/
def pr (xs : List Int) (k : Nat) : Nat → Int
  | 0 => 1
  | m + 1 => pr xs k m * xs.getD (k + m) 0
theorem pr_front (xs : List Int) (k : Nat) : ∀ m, pr xs k (m + 1) = xs.getD k 0 * pr xs (k + 1) m
  | 0 => by show (1 : Int) * xs.getD (k + 0) 0 = xs.getD k 0 * 1; rw [Int.one_mul, Int.mul_one]; rfl
  | m + 1 => by
    show pr xs k (m + 1) * xs.getD (k + (m + 1)) 0 = xs.getD k 0 * (pr xs (k + 1) m * xs.getD (k + 1 + m) 0)
    rw [pr_front xs k m, Int.mul_assoc, show k + (m + 1) = k + 1 + m by omega]
theorem prodL_take (xs : List Int) : ∀ m, m ≤ xs.length → prodL (xs.take m) = pr xs 0 m
  | 0, _ => rfl
  | m + 1, h => by
    rw [List.take_succ_eq_append_getElem (by omega), prodL_snoc, prodL_take xs m (by omega)]
    show _ = pr xs 0 m * xs.getD (0 + m) 0
    rw [Nat.zero_add, List.getD_eq_getElem?_getD, List.getElem?_eq_getElem (by omega)]; rfl
theorem prodL_pr (xs : List Int) : prodL xs = pr xs 0 xs.length := by rw [← prodL_take xs _ (Nat.le_refl _), List.take_length]
section
variable {N : Nat} {gs : List (List Int)} {xs : List Int}
theorem IsOS.card (h : IsOS N gs xs) (hg : ∀ g ∈ gs, Pn N g) (h1 : 1 ≤ N) (h2 : N ≤ 20) : ∀ m k, k + m = N → ∃ v, Crd (fun p => Mb gs N p ∧ Fx k p) v ∧ pr xs k m = (v : Int)
  | 0, k, e => by
    obtain rfl : k = N := by omega
    refine ⟨1, ⟨[idL k], by simp, fun p => ?_, rfl⟩, rfl⟩
    rw [List.mem_singleton]
    exact ⟨fun e => e ▸ ⟨.one, fx_id (Nat.le_refl _)⟩, fun ⟨a, b⟩ => b.all (a.pn hg h1 h2)⟩
  | m + 1, k, e => by
    obtain ⟨v, ⟨l, d, hm, rfl⟩, hv⟩ := h.card hg h1 h2 m (k + 1) (by omega)
    obtain ⟨O, dO, hO, ex⟩ := h.2 k (by omega)
    have hk : k < N := by omega
    have hr : ∃ r : Nat → List Int, ∀ y ∈ O, Mb gs N (r y) ∧ Fx k (r y) ∧ nx (r y) k = y := by
      refine ⟨fun y => if hy : y ∈ O then Classical.choose ((hO y).1 hy).2 else [], fun y hy => ?_⟩
      simp only [hy, dif_pos]
      exact Classical.choose_spec ((hO y).1 hy).2
    obtain ⟨r, hr⟩ := hr
    have hpn : ∀ p, Mb gs N p → Pn N p := fun p hp => hp.pn hg h1 h2
    have hat : ∀ y ∈ O, ∀ p, p ∈ l → nx (compL p (r y)) k = y := fun y hy p hp => by
      have h3 := (hm p).1 hp
      rw [(hpn p h3.1).nxc hk, h3.2 k (by omega), (hr y hy).2.2]
    obtain ⟨i1, i2⟩ := flat_nd (O := O) (f := fun y => l.map fun p => compL p (r y)) (m := l.length) dO
      (fun y hy => nd_mapA d fun p hp q hq e => by
        have hp' := hpn p ((hm p).1 hp).1
        have hq' := hpn q ((hm q).1 hq).1
        have hry := hpn _ (hr y hy).1
        have : compL (compL p (r y)) (iv (r y)) = compL (compL q (r y)) (iv (r y)) := congrArg (fun t => compL t (iv (r y))) e
        rw [hp'.assoc hry, hq'.assoc hry, hry.ci, hp'.idr, hq'.idr] at this
        exact this)
      (fun y hy z hz hne p hp hp2 => by
        obtain ⟨q, hq, rfl⟩ := List.mem_map.1 hp
        obtain ⟨q', hq', e'⟩ := List.mem_map.1 hp2
        exact hne (by rw [← hat y hy q hq, ← hat z hz q' hq', e']))
      (fun y hy => by simp)
    refine ⟨O.length * l.length, ⟨_, i1, fun p => ?_, i2.symm⟩, ?_⟩
    · rw [List.mem_flatMap]
      constructor
      · rintro ⟨y, hy, hp⟩
        obtain ⟨q, hq, rfl⟩ := List.mem_map.1 hp
        obtain ⟨a, b⟩ := (hm q).1 hq
        obtain ⟨a', b', _⟩ := hr y hy
        exact ⟨a.comp hg h1 h2 a', (b.mono (by omega)).comp (hpn q a) b' (by omega)⟩
      · rintro ⟨a, b⟩
        have hp := hpn p a
        have hy : nx p k ∈ O := (hO _).2 ⟨hp.lt hk, p, a, b, rfl⟩
        obtain ⟨a', b', e'⟩ := hr _ hy
        have hrp := hpn _ a'
        refine ⟨_, hy, List.mem_map.2 ⟨compL p (iv (r (nx p k))), (hm _).2 ⟨a.comp hg h1 h2 (a'.inv hg h1 h2), ?_⟩, ?_⟩⟩
        · refine Fx.succ (b.comp hp (b'.iv hrp (by omega)) (by omega)) ?_
          rw [hp.nxc hk]
          have := hrp.nxi (x := k) hk
          rw [e'] at this; exact this
        · rw [hp.assoc hrp.iv, hrp.ic, hp.idr]
    · rw [pr_front, ex, hv, Int.natCast_mul]
/-- The order is the number of members. -/
theorem IsOS.order (h : IsOS N gs xs) (hg : ∀ g ∈ gs, Pn N g) (h1 : 1 ≤ N) (h2 : N ≤ 20) : ∃ v, Crd (Mb gs N) v ∧ prodL xs = (v : Int) := by
  obtain ⟨v, hc, e⟩ := h.card hg h1 h2 N 0 (by omega)
  exact ⟨v, hc.congr fun p => ⟨fun h => h.1, fun h => ⟨h, Fx.zero⟩⟩, by rw [prodL_pr, h.1]; exact e⟩
end

section
variable {N : Nat} {gs : List (List Int)} {xs : List Int}
theorem IsOS.bnd (h : IsOS N gs xs) (hg : ∀ g ∈ gs, Pn N g) (h1 : 1 ≤ N) (h2 : N ≤ 20) {i : Nat} (hi : i < N) : 1 ≤ xs.getD i 0 ∧ xs.getD i 0 ≤ ((N - i : Nat) : Int) := by
  obtain ⟨l, d, m, e⟩ := h.2 i hi
  rw [e]
  constructor
  · have : i ∈ l := (m i).2 ⟨hi, idL N, .one, fx_id (by omega), nx_id hi⟩
    have := List.length_pos_of_mem this
    omega
  · have : l.length ≤ (List.range' i (N - i)).length := by
      refine nd_sub d fun y hy => ?_
      obtain ⟨hy, p, hp, hf, rfl⟩ := (m y).1 hy
      have := hf.ge (hp.pn hg h1 h2) hi
      rw [List.mem_range'_1]; omega
    rw [List.length_range'] at this
    omega
theorem IsOS.pr_le (h : IsOS N gs xs) (hg : ∀ g ∈ gs, Pn N g) (h1 : 1 ≤ N) (h2 : N ≤ 20) (k : Nat) : ∀ m, k + m ≤ N → 1 ≤ pr xs k m ∧ pr xs k m ≤ (facts N (k + m) : Int)
  | 0, hm => by
    have := facts_pos (N := N) (m := k) (by omega)
    exact ⟨Int.le_refl _, by show (1 : Int) ≤ (facts N (k + 0) : Int); rw [Nat.add_zero]; omega⟩
  | m + 1, hm => by
    obtain ⟨a, b⟩ := h.pr_le hg h1 h2 k m (by omega)
    obtain ⟨d, e⟩ := h.bnd hg h1 h2 (i := k + m) (by omega)
    show 1 ≤ pr xs k m * xs.getD (k + m) 0 ∧ pr xs k m * xs.getD (k + m) 0 ≤ ((facts N (k + m) * (N - (k + m)) : Nat) : Int)
    refine ⟨?_, ?_⟩
    · have := Int.mul_le_mul a d (by omega) (by omega)
      simpa using this
    · rw [Int.natCast_mul]
      exact Int.mul_le_mul b e (by omega) (by omega)
end

/-! ### conjugate groups -/
def cj (o p : List Int) : List Int := compL (compL (iv o) p) o
section
variable {N : Nat} {o p q m : List Int} {gs : List (List Int)}
theorem Pn.iviv (ho : Pn N o) : Proofs.Ytcjcmhoalomjfaa.iv (Proofs.Ytcjcmhoalomjfaa.iv o) = o := ho.iv.iv.ext ho fun x hx => by
  refine ho.iv.inj (ho.iv.iv.lt hx) (ho.lt hx) ?_
  rw [ho.iv.nxi' hx, ho.nxi hx]
theorem cj_pn (ho : Pn N o) (hp : Pn N p) : Pn N (cj o p) := (ho.iv.comp hp).comp ho
theorem cj_nx (ho : Pn N o) (hp : Pn N p) {x : Nat} (hx : x < N) : nx (cj o p) x = nx o (nx p (nx (iv o) x)) := by
  unfold cj; rw [(ho.iv.comp hp).nxc hx, ho.iv.nxc hx]
theorem cj_id (ho : Pn N o) : cj o (idL N) = idL N := by unfold cj; rw [ho.iv.idr, ho.ic]
theorem cj_mul (ho : Pn N o) (hp : Pn N p) (hq : Pn N q) : cj o (compL p q) = compL (cj o p) (cj o q) :=
  (cj_pn ho (hp.comp hq)).ext ((cj_pn ho hp).comp (cj_pn ho hq)) fun x hx => by
    rw [cj_nx ho (hp.comp hq) hx, (cj_pn ho hp).nxc hx, cj_nx ho hp hx, cj_nx ho hq (ho.lt (hp.lt (ho.iv.lt hx))), ho.nxi (hp.lt (ho.iv.lt hx)), hp.nxc (ho.iv.lt hx)]
theorem cj_back (ho : Pn N o) (hp : Pn N p) : cj (iv o) (cj o p) = p :=
  (cj_pn ho.iv (cj_pn ho hp)).ext hp fun x hx => by
    rw [cj_nx ho.iv (cj_pn ho hp) hx, ho.iviv, cj_nx ho hp (ho.lt hx), ho.nxi hx, ho.nxi (hp.lt hx)]
theorem cj_mb (ho : Pn N o) (hg : ∀ g ∈ gs, Pn N g) (q : List Int) : Mb (gs.map (cj o)) N q ↔ ∃ p, Mb gs N p ∧ q = cj o p := by
  have h1 := ho.pos.1
  have h2 := ho.pos.2
  constructor
  · intro h
    induction h with
    | one => exact ⟨_, .one, (cj_id ho).symm⟩
    | mul _ hm ih =>
      obtain ⟨p, hp, rfl⟩ := ih
      obtain ⟨g, hg', rfl⟩ := List.mem_map.1 hm
      exact ⟨_, .mul hp hg', (cj_mul ho (hp.pn hg h1 h2) (hg _ hg')).symm⟩
  · rintro ⟨p, hp, rfl⟩
    induction hp with
    | one => rw [cj_id ho]; exact .one
    | mul hp hm ih =>
      rw [cj_mul ho (hp.pn hg h1 h2) (hg _ hm)]
      exact .mul ih (List.mem_map.2 ⟨_, hm, rfl⟩)
/-- The points of the list are fixed. -/
def Fxs (pts p : List Int) : Prop := ∀ j, j < pts.length → nx p (nx pts j) = nx pts j
theorem cj_fx (hm : Pn N m) (hp : Pn N p) {pts : List Int} (hk : pts.length ≤ N) (hpre : ∀ j, j < pts.length → m.getD j 0 = pts.getD j 0) : Fx pts.length (cj (iv m) p) ↔ Fxs pts p := by
  have e : ∀ j, j < pts.length → nx m j = nx pts j := fun j hj => by unfold nx; rw [hpre j hj]
  constructor
  · intro h j hj
    have h3 := h j hj
    rw [cj_nx hm.iv hp (by omega), hm.iviv] at h3
    rw [← e j hj]
    exact hm.iv.inj (hp.lt (hm.lt (by omega))) (hm.lt (by omega)) (by rw [h3, hm.nxi (by omega)])
  · intro h j hj
    rw [cj_nx hm.iv hp (by omega), hm.iviv, e j hj, h j hj, ← e j hj, hm.nxi (by omega)]
/-- The stabilizer of the first points of m, counted in the conjugate group. -/
theorem cj_card {xs pts : List Int} (hm : Pn N m) (hg : ∀ g ∈ gs, Pn N g) (h : IsOS N (gs.map (cj (iv m))) xs) (hk : pts.length ≤ N) (hpre : ∀ j, j < pts.length → m.getD j 0 = pts.getD j 0) :
    ∃ v, Crd (fun p => Mb gs N p ∧ Fxs pts p) v ∧ pr xs pts.length (N - pts.length) = (v : Int) := by
  have h1 := hm.pos.1
  have h2 := hm.pos.2
  have hpn : ∀ p, Mb gs N p → Pn N p := fun p hp => hp.pn hg h1 h2
  have hg' : ∀ g ∈ gs.map (cj (iv m)), Pn N g := fun g hg1 => by
    obtain ⟨p, hp, rfl⟩ := List.mem_map.1 hg1
    exact cj_pn hm.iv (hg p hp)
  obtain ⟨v, hc, e⟩ := h.card hg' h1 h2 (N - pts.length) pts.length (by omega)
  refine ⟨v, hc.map (cj m) (fun p hp q hq e2 => ?_) (fun q => ?_), e⟩
  · rw [← cj_back hm (hp.1.pn hg' h1 h2), e2, cj_back hm (hq.1.pn hg' h1 h2)]
  · constructor
    · rintro ⟨a, b⟩
      refine ⟨cj (iv m) q, ⟨(cj_mb hm.iv hg _).2 ⟨q, a, rfl⟩, (cj_fx hm (hpn q a) hk hpre).2 b⟩, ?_⟩
      have := cj_back hm.iv (hpn q a)
      rw [hm.iviv] at this; exact this.symm
    · rintro ⟨p, ⟨a, b⟩, rfl⟩
      obtain ⟨q, hq, rfl⟩ := (cj_mb hm.iv hg _).1 a
      have := cj_back hm.iv (hpn q hq)
      rw [hm.iviv] at this
      rw [this]
      exact ⟨hq, (cj_fx hm (hpn q hq) hk hpre).1 b⟩
end
end Go.Proofs.Ytcjcmhoalomjfaa

/- insertSorted and sortedInts of the model. No condition but lengths. -/
namespace Go.Proofs.Ytcjcmhoalomjfaa
open Go.RowKit

/-- The sorted list with v put in at k. -/
def putIn (ys : List Int) (k : Nat) (v : Int) : List Int := ys.take k ++ [v] ++ ys.drop k
theorem putIn_perm (ys : List Int) (k : Nat) (v : Int) : (putIn ys k v).Perm (v :: ys) := by
  unfold putIn
  have h : (ys.take k ++ [v]).Perm (v :: ys.take k) := List.perm_append_comm
  have := h.append_right (ys.drop k)
  rw [List.cons_append, List.take_append_drop] at this
  exact this
theorem putIn_sorted {ys : List Int} {k : Nat} {v : Int} (hs : ys.Pairwise (· ≤ ·)) (h1 : ∀ j, j < k → ys.getD j 0 < v) (h2 : k < ys.length → v ≤ ys.getD k 0) : (putIn ys k v).Pairwise (· ≤ ·) := by
  unfold putIn
  have hd : ∀ b ∈ ys.drop k, v ≤ b := fun b hb => by
    obtain ⟨j, hj, e⟩ := List.mem_iff_getElem.1 hb
    rw [List.length_drop] at hj
    rw [List.getElem_drop] at e
    have h3 := h2 (by omega)
    rw [List.getD_eq_getElem?_getD, List.getElem?_eq_getElem (by omega : k < ys.length)] at h3
    rw [List.pairwise_iff_getElem] at hs
    rw [← e]
    by_cases e0 : j = 0
    · subst e0; simpa using h3
    · have := hs k (k + j) (by omega) (by omega) (by omega)
      have h3' : v ≤ ys[k] := by simpa using h3
      omega
  have ht : ∀ a ∈ ys.take k, a < v := fun a ha => by
    obtain ⟨j, hj, e⟩ := List.mem_iff_getElem.1 ha
    rw [List.length_take] at hj
    rw [List.getElem_take] at e
    have := h1 j (by omega)
    rw [List.getD_eq_getElem?_getD, List.getElem?_eq_getElem (by omega)] at this
    rw [← e]; simpa using this
  rw [List.append_assoc, List.pairwise_append]
  refine ⟨hs.sublist (List.take_sublist _ _), ?_, fun a ha b hb => ?_⟩
  · rw [List.singleton_append, List.pairwise_cons]
    exact ⟨hd, hs.sublist (List.drop_sublist _ _)⟩
  · have := ht a ha
    rcases List.mem_append.1 hb with hb | hb
    · obtain rfl : b = v := by simpa using hb
      omega
    · have := hd b hb; omega

set_option maxHeartbeats 2000000 in
set_option maxRecDepth 100000 in
/-- insertSorted, of a number that the list lacks. -/
theorem specIns (g n c base : Nat) (ys : List Int) (v : Int) (w : World) (h : Slc w base (some ⟨g, 0, none⟩) n c ys) (hv : Hid (v ∉ ys)) (hn : n ≤ 1000) :
    Calls Try.prog 131 #[.slice (some ⟨g, 0, none⟩) n c, .int .i64 v] w fun e w' => ∃ g' c' zs, e = .returned (.slice (some ⟨g', 0, none⟩) (n + 1) c') ∧ Slc w' w.heap.size (some ⟨g', 0, none⟩) (n + 1) c' zs ∧ zs.Perm (v :: ys) ∧ (ys.Pairwise (· ≤ ·) → zs.Pairwise (· ≤ ·)) ∧ Below w.heap.size w w' := by
  have H := Lib.hid h
  have lx := h.1
  have hnc := h.le.1
  have ri := Lib.hid h.ri_
  clear h
  go_enter Try.func131, Try.ntmps131
  go_wp2
  go_loop [5] (fun i => ∃ k : Nat, k ≤ n ∧ i = .int .i64 (k : Nat) ∧ ∀ j, j < k → ys.getD j 0 < v) (fun i => n - (intOf i).toNat)
  case atStart => exact ⟨0, Nat.zero_le _, rfl, fun j h => absurd h (by omega)⟩
  case round =>
    obtain ⟨k, hk, rfl, hz⟩ := hrel
    have Hz := Lib.hid hz
    clear hz
    have EndIt : Hid (∀ (hge : k < n → v ≤ ys.getD k 0), (putIn ys k v).Perm (v :: ys) ∧ (ys.Pairwise (· ≤ ·) → (putIn ys k v).Pairwise (· ≤ ·))) := Lib.hid fun hge => ⟨putIn_perm _ _ _, fun hs => putIn_sorted hs Hz.out (fun h => hge (by rw [← lx]; exact h))⟩
    have RIt : Hid (RI w w.heap.size (some ⟨g, 0, none⟩) (ys.take k)) := Lib.hid (takeRI ri.out k)
    have ltk : Hid ((ys.take k).length = k) := Lib.hid (by rw [List.length_take]; omega)
    have ldr : Hid ((ys.drop k).length = n - k) := Lib.hid (by rw [List.length_drop]; omega)
    have DrX : Hid (∀ w3 : World, Below w.heap.size w w3 → RI w3 w3.heap.size (some ⟨g, k, none⟩) (ys.drop k)) := Lib.hid fun w3 hb => dropRI H.out hb fun _ => rfl
    have ld0 : Hid (c = k → (ys.drop k).length = 0) := Lib.hid fun e => by have := ldr.out; omega
    have Dr0 : Hid (c = k → ∀ w3 : World, Below w.heap.size w w3 → RI w3 w3.heap.size (some ⟨g, 0, none⟩) (ys.drop k)) := Lib.hid fun e w3 hb => dropRI H.out hb fun h => by omega
    have p1 : (k : Int) ≤ c := by omega
    by_cases hlt : k < n
    · obtain ⟨b, off, e1, hb, hc⟩ := ri.out (by rw [lx]; omega)
      have c1 := hc k (by rw [lx]; exact hlt)
      obtain ⟨rfl, rfl⟩ : g = b ∧ 0 = off := by injection e1 with e1; injection e1 with e1 e2; exact ⟨e1, e2⟩
      rw [Nat.zero_add] at c1
      have hne : ys.getD k 0 ≠ v := fun e => hv.out (by rw [← e]; exact (by rw [List.getD_eq_getElem?_getD, List.getElem?_eq_getElem (by omega)]; exact List.getElem_mem _))
      obtain ⟨u, eu⟩ : ∃ u, ys.getD k 0 = u := ⟨_, rfl⟩
      rw [eu] at c1 hne
      have Eu := Lib.hid eu
      clear eu hc e1
      by_cases hlv : u < v
      · go_wp2
        go_round
        case rel => exact ⟨k + 1, by omega, by go_num, fun j hj => by
          by_cases e : j = k
          · subst e; rw [Eu.out]; exact hlv
          · exact Hz.out j (by omega)⟩
        case measure => simp [intOf]; omega
      · have Z := Lib.hid (EndIt.out (fun _ => by rw [Eu.out]; omega))
        have hck : ¬ c = k := by omega
        clear EndIt
        go_wp2_with fail
        refine (copyRI g 0 k _ (ys.take k) w RIt.out ltk.out (by omega)).mono ?_
        rintro e w2 ⟨A2, c2, rfl, s2, b2⟩
        have S2 := Lib.hid s2
        have B2 := Lib.hid b2
        have Z2 := b2.size
        clear s2 b2
        go_wp2_with (first
            | (at_builtin; refine wpList_app1 rfl _ _ rfl w.heap.size A2 k c2 _ rfl (S2.out.alloc _) w2.heap.size v rfl (by rw [World.cell?_alloc_at _ _ _ _ rfl]; rfl) (by omega) (by simp; omega) ?_; intro A3 c3 w3 s3 g3; have B3 : Hid (Below w.heap.size w w3) := Lib.hid ((B2.out.alloc B2.out.size _).grown g3 (by simp; omega) (fun j hj => (S2.out.lt_ j hj).1)); have S3 := Lib.hid s3; clear s3 g3)
            | (at_builtin; refine wpList_appN rfl _ _ rfl w.heap.size A3 (k + 1) c3 _ rfl S3.out g k (n - k) (c - k) (ys.drop k) rfl (DrX.out _ B3.out) ldr.out (by omega) B3.out.size ?_; intro A4 c4 w4 s4 g4))
        have S4 : Hid (Slc w4 w.heap.size A4 (n + 1) c4 (putIn ys k v)) := Lib.hid (by
          have := s4
          rw [show k + 1 + (n - k) = n + 1 from by omega] at this
          exact this)
        have B4 : Hid (Below w.heap.size w w4) := Lib.hid (B3.out.grown g4 B3.out.size (fun j hj => (S3.out.lt_ j hj).1))
        rw [show k + 1 + (n - k) = n + 1 from by omega]
        clear s4 g4
        obtain ⟨q4, rfl⟩ : ∃ q4, A4 = some ⟨q4, 0, none⟩ := by
          rcases S4.out.at_ with ⟨_, _, e0, _⟩ | ⟨q4, e0, _, _⟩
          · omega
          · exact ⟨q4, e0⟩
        go_wp2
        go_ret
        exact ⟨_, _, _, rfl, S4.out, Z.out.1, Z.out.2, B4.out⟩
    · have hkn : k = n := by omega
      have Z := Lib.hid (EndIt.out (fun h => absurd h hlt))
      subst hkn
      clear EndIt
      by_cases hck : c = k
      · subst hck
        go_wp2_with fail
        refine (copyRI g 0 c _ (ys.take c) w RIt.out ltk.out (by omega)).mono ?_
        rintro e w2 ⟨A2, c2, rfl, s2, b2⟩
        have S2 := Lib.hid s2
        have B2 := Lib.hid b2
        have Z2 := b2.size
        clear s2 b2
        go_wp2_with (first
            | (at_builtin; refine wpList_app1 rfl _ _ rfl w.heap.size A2 c c2 _ rfl (S2.out.alloc _) w2.heap.size v rfl (by rw [World.cell?_alloc_at _ _ _ _ rfl]; rfl) (by omega) (by simp; omega) ?_; intro A3 c3 w3 s3 g3; have B3 : Hid (Below w.heap.size w w3) := Lib.hid ((B2.out.alloc B2.out.size _).grown g3 (by simp; omega) (fun j hj => (S2.out.lt_ j hj).1)); have S3 := Lib.hid s3; clear s3 g3)
            | (at_builtin; refine wpList_appN rfl _ _ rfl w.heap.size A3 (c + 1) c3 _ rfl S3.out g 0 0 0 (ys.drop c) rfl (Dr0.out trivial _ B3.out) (ld0.out trivial) (by omega) B3.out.size ?_; intro A4 c4 w4 s4 g4))
        have S4 : Hid (Slc w4 w.heap.size A4 (c + 1) c4 (putIn ys c v)) := Lib.hid s4
        have B4 : Hid (Below w.heap.size w w4) := Lib.hid (B3.out.grown g4 B3.out.size (fun j hj => (S3.out.lt_ j hj).1))
        clear s4 g4
        obtain ⟨q4, rfl⟩ : ∃ q4, A4 = some ⟨q4, 0, none⟩ := by
          rcases S4.out.at_ with ⟨_, _, e0, _⟩ | ⟨q4, e0, _, _⟩
          · omega
          · exact ⟨q4, e0⟩
        go_wp2
        go_ret
        exact ⟨_, _, _, rfl, S4.out, Z.out.1, Z.out.2, B4.out⟩
      · have ld1 : Hid ((ys.drop k).length = k - k) := ldr
        go_wp2_with fail
        refine (copyRI g 0 k _ (ys.take k) w RIt.out ltk.out (by omega)).mono ?_
        rintro e w2 ⟨A2, c2, rfl, s2, b2⟩
        have S2 := Lib.hid s2
        have B2 := Lib.hid b2
        have Z2 := b2.size
        clear s2 b2
        go_wp2_with (first
            | (at_builtin; refine wpList_app1 rfl _ _ rfl w.heap.size A2 k c2 _ rfl (S2.out.alloc _) w2.heap.size v rfl (by rw [World.cell?_alloc_at _ _ _ _ rfl]; rfl) (by omega) (by simp; omega) ?_; intro A3 c3 w3 s3 g3; have B3 : Hid (Below w.heap.size w w3) := Lib.hid ((B2.out.alloc B2.out.size _).grown g3 (by simp; omega) (fun j hj => (S2.out.lt_ j hj).1)); have S3 := Lib.hid s3; clear s3 g3)
            | (at_builtin; refine wpList_appN rfl _ _ rfl w.heap.size A3 (k + 1) c3 _ rfl S3.out g k 0 (c - k) (ys.drop k) rfl (DrX.out _ B3.out) (by rw [ld1.out]; omega) (by omega) B3.out.size ?_; intro A4 c4 w4 s4 g4))
        have S4 : Hid (Slc w4 w.heap.size A4 (k + 1) c4 (putIn ys k v)) := Lib.hid s4
        have B4 : Hid (Below w.heap.size w w4) := Lib.hid (B3.out.grown g4 B3.out.size (fun j hj => (S3.out.lt_ j hj).1))
        clear s4 g4
        obtain ⟨q4, rfl⟩ : ∃ q4, A4 = some ⟨q4, 0, none⟩ := by
          rcases S4.out.at_ with ⟨_, _, e0, _⟩ | ⟨q4, e0, _, _⟩
          · omega
          · exact ⟨q4, e0⟩
        go_wp2
        go_ret
        exact ⟨_, _, _, rfl, S4.out, Z.out.1, Z.out.2, B4.out⟩

end Go.Proofs.Ytcjcmhoalomjfaa

/- Members with given entries, by the model's chain. Conditions: at most 20 points, 8 generators. -/
namespace Go.Proofs.Ytcjcmhoalomjfaa
open Go.RowKit

/-- The entries that level i allows behind p, among the first m points. -/
def chL (c : Ch) (i : Nat) (p : List Int) (m : Nat) : List Int := ((List.range m).filter fun y => !(c.rep i y).isEmpty).map fun y => (nx p y : Int)
theorem chL_yes {c : Ch} {i m : Nat} {p : List Int} (h : c.rep i m ≠ []) : chL c i p (m + 1) = chL c i p m ++ [(nx p m : Int)] := by
  unfold chL; rw [List.range_succ, List.filter_append]; simp [List.isEmpty_eq_false_iff.2 h]
theorem chL_no {c : Ch} {i m : Nat} {p : List Int} (h : c.rep i m = []) : chL c i p (m + 1) = chL c i p m := by
  unfold chL; rw [List.range_succ, List.filter_append]; simp [h]
theorem chL_mem {c : Ch} {i m : Nat} {p : List Int} {v : Int} : v ∈ chL c i p m ↔ ∃ y, y < m ∧ c.rep i y ≠ [] ∧ (nx p y : Int) = v := by
  simp only [chL, List.mem_map, List.mem_filter, List.mem_range, Bool.not_eq_true', List.isEmpty_eq_false_iff, and_assoc]
theorem chL_len (c : Ch) (i : Nat) (p : List Int) (m : Nat) : (chL c i p m).length ≤ m := by
  unfold chL; rw [List.length_map]
  have := List.length_filter_le (fun y => !(c.rep i y).isEmpty) (List.range m)
  simpa using this

set_option maxHeartbeats 2000000 in
set_option maxRecDepth 100000 in
theorem specChoices (base g N i cp : Nat) (A : Option Addr) (c : Ch) (L : LY) (gs : List (List Int)) (p : List Int) (w : World) (hc : Cn w base g N c L) (hw : Whole N gs c) (hp : RI w w.heap.size A p) (hP : Hid (Pn N p)) (hi : i < N) :
    Calls Try.prog 109 #[.pointer (some ⟨g, 0, none⟩), .int .i64 (i : Nat), .slice A N cp] w fun e w' => ∃ g' m cc zs, e = .returned (.slice (some ⟨g', 0, none⟩) m cc) ∧ Slc w' w.heap.size (some ⟨g', 0, none⟩) m cc zs ∧ zs.Perm (chL c i p N) ∧ zs.Pairwise (· ≤ ·) ∧ Below w.heap.size w w' := by
  have HC := Lib.hid hc
  have HW := Lib.hid hw
  have HP := Lib.hid hp
  have hN := hP.out.pos
  have S0 := Lib.hid (Slc.lit0 w w.heap.size (Nat.le_refl _))
  clear hc hw hp
  go_enter Try.func109, Try.ntmps109
  go_wp2_with fail
  go_loopw [7, 8] (fun v j wr => ∃ (k m cc q : Nat) (zs : List Int), k ≤ N ∧ m ≤ k ∧ j = .int .i64 (k : Nat) ∧ v = .slice (some ⟨q, 0, none⟩) m cc ∧ Slc wr w.heap.size (some ⟨q, 0, none⟩) m cc zs ∧ zs.Perm (chL c i p k) ∧ zs.Pairwise (· ≤ ·) ∧ Below w.heap.size w wr) (fun _ j _ => N - (intOf j).toNat)
  case atStart => exact ⟨0, 0, _, _, [], Nat.zero_le _, Nat.le_refl _, rfl, rfl, S0.out, .refl _, .nil, (Below.refl _ _).alloc (Nat.le_refl _) _⟩
  case round =>
    clear S0
    obtain ⟨k, m, cc, q, zs, hk, hmk, rfl, rfl, hs, hpm, hso, bel⟩ := hrel
    have Ss := Lib.hid hs
    have Be := Lib.hid bel
    have Pm1 := Lib.hid hpm
    have So := Lib.hid hso
    have C1 := Lib.hid (HC.out.up bel)
    have x0 := C1.out.c0
    clear hs hpm hso
    by_cases hlt : k < N
    · have x1 := C1.out.c1
      have x2 := C1.out.cR hi
      have x3 := C1.out.cro hi hlt
      have en := C1.out.enn hi hlt
      rcases hd : (L.en i).getD k sd0 with ⟨dA, dn, dc⟩
      rw [hd] at x3 en
      simp only [sval] at x3
      have q0 : (0 : Int) ≤ k := by omega
      have q1 : (k : Int) < N := by omega
      have q2 : (0 : Int) ≤ i := by omega
      have q3 : (i : Int) < N := by omega
      have en2 : dn = (c.rep i k).length := en
      by_cases hz : c.rep i k = []
      · obtain rfl : dn = 0 := by rw [en2, hz]; rfl
        have d0 : decide ((0 : Int) < 0) = false := by decide
        have Kn := Lib.hid (chL_no (p := p) hz)
        clear hd en en2 bel
        go_wp2_with fail
        go_roundw
        case rel => exact ⟨k + 1, m, cc, q, zs, by omega, by omega, by go_num, rfl, Ss.out, by rw [Kn.out]; exact Pm1.out, So.out, Be.out⟩
        case measure => simp [intOf]; omega
      · obtain rfl : dn = N := by
          have h2 := rep_ne_pos (HW.out.up.rep i (Nat.zero_le _) hi) hz
          omega
        have d0 : decide ((0 : Int) < (dn : Int)) = true := by simp; omega
        have Kn := Lib.hid (chL_yes (p := p) hz)
        obtain ⟨b, off, rfl, hb, hcell⟩ := (HP.out.up bel) (by rw [hP.out.2]; omega)
        have x4 := hcell k (by rw [hP.out.2]; exact hlt)
        rw [nx_val hP.out.1 (by rw [hP.out.2]; exact hlt)] at x4
        have hv : Hid (((nx p k : Nat) : Int) ∉ zs) := Lib.hid fun hm => by
          obtain ⟨y, hy, _, e⟩ := chL_mem.1 (Pm1.out.mem_iff.1 hm)
          have := hP.out.inj (x := y) (y := k) (by omega) hlt (by omega)
          omega
        obtain ⟨v, ev⟩ : ∃ v, nx p k = v := ⟨_, rfl⟩
        rw [ev] at x4 hv Kn
        clear hd en en2 bel hb hcell ev
        go_wp2_with fail
        refine (specIns q m cc w.heap.size zs (v : Int) wr Ss.out hv (by omega)).mono ?_
        rintro e w2 ⟨g2, c2, zs2, rfl, s2, p2, o2, b2⟩
        have S2 : Hid (Slc w2 w.heap.size (some ⟨g2, 0, none⟩) (m + 1) c2 zs2) := Lib.hid (s2.mono Be.out.size)
        have P2 : Hid (zs2.Perm (chL c i p (k + 1))) := Lib.hid (by
          rw [Kn.out]
          exact (p2.trans (Pm1.out.cons _)).trans (by simpa using (List.perm_append_comm (l₁ := [(v : Int)]) (l₂ := chL c i p k))))
        have O2 := Lib.hid (o2 So.out)
        have Be2 : Hid (Below w.heap.size w w2) := Lib.hid (btr Be.out b2)
        clear s2 p2 o2 b2
        go_wp2_with fail
        go_roundw
        case rel => exact ⟨k + 1, m + 1, c2, g2, zs2, by omega, by omega, by go_num, rfl, S2.out, P2.out, O2.out, Be2.out⟩
        case measure => simp [intOf]; omega
    · obtain rfl : k = N := by omega
      clear bel
      go_wp2_with fail
      go_ret
      exact ⟨q, m, cc, zs, rfl, Ss.out, Pm1.out, So.out, Be.out⟩

set_option maxHeartbeats 2000000 in
set_option maxRecDepth 100000 in
theorem specWithEntry (base g N i v y cp : Nat) (A : Option Addr) (c : Ch) (L : LY) (p : List Int) (w : World) (hc : Cn w base g N c L) (hp : RI w w.heap.size A p) (hP : Hid (Pn N p)) (hi : i < N) (hy : y < N) (hv : Hid (nx p y = v)) (hz : Hid (Pn N (c.rep i y))) :
    Calls Try.prog 108 #[.pointer (some ⟨g, 0, none⟩), .int .i64 (i : Nat), .slice A N cp, .int .i64 (v : Nat)] w fun e w' => ∃ A' c', e = .returned (.slice A' N c') ∧ Slc w' w.heap.size A' N c' (compL (c.rep i y) p) ∧ Below w.heap.size w w' := by
  have HC := Lib.hid hc
  have HP := Lib.hid hp
  have hN := hP.out.pos
  have x1 := hc.c1
  have x2 := hc.cR hi
  have q0 : (0 : Int) ≤ v := by omega
  have hvN : v < N := by rw [← hv.out]; exact hP.out.lt hy
  have q1 : (v : Int) < N := by omega
  have q2 : (0 : Int) ≤ i := by omega
  have q3 : (i : Int) < N := by omega
  have q4 : (0 : Int) ≤ y := by omega
  have q5 : (y : Int) < N := by omega
  have x3 := hc.cro hi hy
  have en := hc.enn hi hy
  rcases hd : (L.en i).getD y sd0 with ⟨dA, dn, dc⟩
  rw [hd] at x3 en
  simp only [sval] at x3
  obtain rfl : dn = N := by
    have h1 : dn = (c.rep i y).length := en
    rw [h1, hz.out.2]
  have Hd := Lib.hid hd
  clear hc hp hd en
  go_enter Try.func108, Try.ntmps108
  go_wp2_with fail
  have Iv : Hid ((invL p dn).getD v 0 = (y : Int)) := Lib.hid (by
    have e1 : invL p dn = iv p := by unfold iv; rw [hP.out.2]
    have e2 := hP.out.nxi hy
    rw [hv.out] at e2
    have h3 := hP.out.iv
    rw [e1, nx_val h3.1 (by rw [h3.2]; exact hvN), e2])
  go_region_law ((go_simp; go_wp2_with (first
    | (go_at_call 78; refine (specInv A cp dn p w.drew HP.out (Lib.hid hP.out.2) (Lib.hid hP.out.1) hN.2).mono ?_; rintro e w1 ⟨A1, c1, rfl, s1, b1⟩
       have b1' : Below w.heap.size w w1 := ⟨b1.os, b1.tape, b1.output, b1.size, b1.block⟩
       have C1 := HC.out.up b1'
       have z1 := C1.c1
       have z2 := C1.cR hi
       have z3 := C1.cro hi hy
       rw [Hd.out] at z3
       simp only [sval] at z3
       obtain ⟨bb, off, hA1, hb1, hc1⟩ := s1.ri_ (by rw [s1.1]; omega)
       subst hA1
       have z4 := hc1 v (by rw [s1.1]; exact hvN)
       rw [Iv.out] at z4
       have E0 := C1.ent1 i hi y hy
       rw [Hd.out] at E0
       have E1 := Lib.hid E0
       have M1 := Lib.hid (HP.out.up b1')
       have B1 := Lib.hid b1'
       clear hb1 hc1 s1 b1 b1' C1 E0)
    | (go_at_call 65; (first | refine (specComp dA A dc cp dn (c.rep i y) p w1 E1.out.ri_ M1.out (Lib.hid hz.out.2) (Lib.hid hP.out.2) (Lib.hid hz.out.1) hN.2).mono ?_ | refine (specComp dA A dc cp dn (c.rep i y) p w1.drew E1.out.ri_ M1.out (Lib.hid hz.out.2) (Lib.hid hP.out.2) (Lib.hid hz.out.1) hN.2).mono ?_); rintro e w2 ⟨A2, c2, rfl, s2, b2⟩))))
  all_goals (go_wp2_with fail; go_ret; exact ⟨A2, c2, rfl, s2.mono B1.out.size, btr B1.out b2⟩)
end Go.Proofs.Ytcjcmhoalomjfaa

/- The smallest member with a prefix: what it is, and that the model finds it. Conditions: at most 20 points, 8 generators. -/
namespace Go.Proofs.Ytcjcmhoalomjfaa
open Go.RowKit

/-- m is the member with the prefix whose further entries are as small as can be, one after the other. -/
def Greedy (N : Nat) (gs : List (List Int)) (pre m : List Int) : Prop :=
  Mb gs N m ∧ ∀ i, i < N → (i < pre.length → (nx m i : Int) = pre.getD i 0) ∧ (pre.length ≤ i → ∀ q, Mb gs N q → (∀ t, t < i → nx q t = nx m t) → nx m i ≤ nx q i)
def NoMem (N : Nat) (gs : List (List Int)) (pre : List Int) : Prop := ∀ q, Mb gs N q → ¬ ∀ t, t < pre.length → (nx q t : Int) = pre.getD t 0
/-- What MemberWithPrefix answers. -/
def IsMwp (N : Nat) (gs : List (List Int)) (pre m : List Int) (ok : Bool) : Prop := (ok = true ∧ Greedy N gs pre m) ∨ (ok = false ∧ m = [] ∧ NoMem N gs pre)
section
variable {N : Nat} {gs : List (List Int)} {pre m m' : List Int}
theorem Greedy.uniq (h1 : 1 ≤ N) (h2 : N ≤ 20) (hg : ∀ g ∈ gs, Pn N g) (h : Greedy N gs pre m) (h' : Greedy N gs pre m') : m = m' := by
  have hp := h.1.pn hg h1 h2
  have hp' := h'.1.pn hg h1 h2
  refine hp.ext hp' fun x hx => ?_
  induction x using Nat.strongRecOn with
  | ind x ih =>
    by_cases hl : x < pre.length
    · have a := (h.2 x hx).1 hl
      have b := (h'.2 x hx).1 hl
      omega
    · have a := (h.2 x hx).2 (by omega) m' h'.1 fun t ht => (ih t ht (by omega)).symm
      have b := (h'.2 x hx).2 (by omega) m h.1 fun t ht => ih t ht (by omega)
      omega
theorem Greedy.has (h : Greedy N gs pre m) (hl : pre.length ≤ N) : ¬ NoMem N gs pre := fun hn => hn m h.1 fun t ht => (h.2 t (by omega)).1 ht
theorem IsMwp.uniq {ok ok' : Bool} (h1 : 1 ≤ N) (h2 : N ≤ 20) (hg : ∀ g ∈ gs, Pn N g) (hl : pre.length ≤ N) (h : IsMwp N gs pre m ok) (h' : IsMwp N gs pre m' ok') : m = m' ∧ ok = ok' := by
  rcases h with ⟨rfl, a⟩ | ⟨rfl, rfl, a⟩ <;> rcases h' with ⟨rfl, b⟩ | ⟨rfl, rfl, b⟩
  · exact ⟨a.uniq h1 h2 hg b, rfl⟩
  · exact absurd b (a.has hl)
  · exact absurd a (b.has hl)
  · exact ⟨rfl, rfl⟩
/-- m keeps to it in its first k entries. -/
def GrTo (N : Nat) (gs : List (List Int)) (pre m : List Int) (k : Nat) : Prop :=
  Mb gs N m ∧ ∀ i, i < k → (i < pre.length → (nx m i : Int) = pre.getD i 0) ∧ (pre.length ≤ i → ∀ q, Mb gs N q → (∀ t, t < i → nx q t = nx m t) → nx m i ≤ nx q i)
/-- The entries that level i allows are those of the members that agree before. -/
theorem Whole.choice {c : Ch} (h : Whole N gs c) (h1 : 1 ≤ N) (h2 : N ≤ 20) (hg : ∀ g ∈ gs, Pn N g) {i : Nat} (hi : i < N) (hm : Mb gs N m) {v : Int} : v ∈ chL c i m N ↔ ∃ q, Mb gs N q ∧ (∀ t, t < i → nx q t = nx m t) ∧ (nx q i : Int) = v := by
  have hp := hm.pn hg h1 h2
  rw [chL_mem]
  constructor
  · rintro ⟨y, hy, hr, rfl⟩
    obtain ⟨a, b, d, _⟩ := h.rep_mb h1 h2 hi hr
    have hr' := a.pn hg h1 h2
    refine ⟨compL (c.rep i y) m, a.comp hg h1 h2 hm, fun t ht => ?_, ?_⟩
    · rw [hr'.nxc (by omega), b t ht]
    · rw [hr'.nxc hi, d]
  · rintro ⟨q, hq, ha, rfl⟩
    have hq' := hq.pn hg h1 h2
    have hmi := hp.iv
    refine ⟨nx (iv m) (nx q i), hmi.lt (hq'.lt hi), (h.rep_iff h1 h2 hi).2 ⟨compL q (iv m), hq.comp hg h1 h2 (hm.inv hg h1 h2), fun t ht => ?_, ?_⟩, ?_⟩
    · rw [hq'.nxc (by omega), ha t ht, hp.nxi (by omega)]
    · rw [hq'.nxc hi]
    · rw [hp.nxi' (hq'.lt hi)]
theorem GrTo.step {c : Ch} {k : Nat} (h : GrTo N gs pre m k) (hw : Whole N gs c) (h1 : 1 ≤ N) (h2 : N ≤ 20) (hg : ∀ g ∈ gs, Pn N g) (hk : k < N) {y : Nat} (hr : c.rep k y ≠ []) (hv : (k < pre.length → (nx m y : Int) = pre.getD k 0) ∧ (pre.length ≤ k → ∀ v ∈ chL c k m N, (nx m y : Int) ≤ v)) : GrTo N gs pre (compL (c.rep k y) m) (k + 1) := by
  obtain ⟨a, b, d, _⟩ := hw.rep_mb h1 h2 hk hr
  have hr' := a.pn hg h1 h2
  have e : ∀ t, t < k → nx (compL (c.rep k y) m) t = nx m t := fun t ht => by rw [hr'.nxc (by omega), b t ht]
  have e2 : nx (compL (c.rep k y) m) k = nx m y := by rw [hr'.nxc hk, d]
  refine ⟨a.comp hg h1 h2 h.1, fun i hi => ?_⟩
  rcases Nat.lt_or_ge i k with hl | hl
  · rw [e i hl]
    exact ⟨(h.2 i hl).1, fun hp q hq hag => (h.2 i hl).2 hp q hq fun t ht => (hag t ht).trans (e t (by omega))⟩
  · obtain rfl : i = k := by omega
    rw [e2]
    refine ⟨hv.1, fun hp q hq hag => ?_⟩
    have := hv.2 hp (nx q i : Int) ((hw.choice h1 h2 hg hk h.1).2 ⟨q, hq, fun t ht => (hag t ht).trans (e t ht), rfl⟩)
    omega
theorem GrTo.no {c : Ch} {k : Nat} (h : GrTo N gs pre m k) (hw : Whole N gs c) (h1 : 1 ≤ N) (h2 : N ≤ 20) (hg : ∀ g ∈ gs, Pn N g) (hk : k < N) (hl : k < pre.length) (hn : pre.getD k 0 ∉ chL c k m N) : NoMem N gs pre := fun q hq hag =>
  hn ((hw.choice h1 h2 hg hk h.1).2 ⟨q, hq, fun t ht => by
    have a := hag t (by omega)
    have b := (h.2 t ht).1 (by omega)
    omega, hag k hl⟩)
theorem hasB_in (xs : List Int) (x : Int) : hasB xs x = decide (x ∈ xs) := by
  unfold hasB
  rw [Bool.eq_iff_iff]
  simp only [decide_eq_true_eq]
  constructor
  · rintro ⟨k, hk, e⟩
    rw [← e, List.getD_eq_getElem?_getD, List.getElem?_eq_getElem hk]; exact List.getElem_mem _
  · intro h
    obtain ⟨k, hk, e⟩ := List.mem_iff_getElem.1 h
    exact ⟨k, hk, by rw [List.getD_eq_getElem?_getD, List.getElem?_eq_getElem hk, ← e]; rfl⟩
end

end Go.Proofs.Ytcjcmhoalomjfaa

/- GroupOrder, OrbitSizes, IsMember and MemberWithPrefix of the model: what they answer. Conditions: at most 1048576 lists of at most 1048576 numbers. -/
namespace Go.Proofs.Ytcjcmhoalomjfaa
open Go.RowKit

/-- What GroupOrder answers. -/
def IsOrd (a : Int) (gs : List (List Int)) (v : Int) : Prop := (gB a gs = true ∧ ∃ xs, IsOS a.toNat gs xs ∧ v = prodL xs) ∨ (gB a gs = false ∧ v = 0)
theorem IsOrd.uniq {a v v' : Int} {gs : List (List Int)} (h : IsOrd a gs v) (h' : IsOrd a gs v') : v = v' := by
  rcases h with ⟨e, xs, h, rfl⟩ | ⟨e, rfl⟩ <;> rcases h' with ⟨e', ys, h', rfl⟩ | ⟨e', rfl⟩
  · rw [h.uniq h']
  · rw [e] at e'; cases e'
  · rw [e] at e'; cases e'
  · rfl
/-- What OrbitSizes answers. -/
def IsSiz (a : Int) (gs : List (List Int)) (xs : List Int) : Prop := (gB a gs = true ∧ IsOS a.toNat gs xs) ∨ (gB a gs = false ∧ xs = [])
theorem IsSiz.uniq {a : Int} {gs : List (List Int)} {xs ys : List Int} (h : IsSiz a gs xs) (h' : IsSiz a gs ys) : xs = ys := by
  rcases h with ⟨e, h⟩ | ⟨e, rfl⟩ <;> rcases h' with ⟨e', h'⟩ | ⟨e', rfl⟩
  · exact h.uniq h'
  · rw [e] at e'; cases e'
  · rw [e] at e'; cases e'
  · rfl
theorem IsSiz.len {a : Int} {gs : List (List Int)} {xs : List Int} (h : IsSiz a gs xs) : xs.length ≤ 20 := by
  rcases h with ⟨e, h⟩ | ⟨e, rfl⟩
  · obtain ⟨N, rfl, _, hN, _⟩ := gB_pm e
    rw [h.1]; simpa using hN
  · simp
/-- p is a member. -/
def Memb (a : Int) (gs : List (List Int)) (p : List Int) : Prop := gB a gs = true ∧ (p.length : Int) = a ∧ isP p = true ∧ Mb gs a.toNat p
theorem memb_uniq {a : Int} {gs : List (List Int)} {p : List Int} {b b' : Bool} (h : b = true ↔ Memb a gs p) (h' : b' = true ↔ Memb a gs p) : b = b' := by
  rw [Bool.eq_iff_iff, h, h']
/-- What MemberWithPrefix answers. -/
def IsMw (a : Int) (gs : List (List Int)) (pre m : List Int) (ok : Bool) : Prop :=
  (gB a gs = true ∧ (pre.length : Int) ≤ a ∧ IsMwp a.toNat gs pre m ok) ∨ (¬ (gB a gs = true ∧ (pre.length : Int) ≤ a) ∧ m = [] ∧ ok = false)
theorem IsMw.uniq {a : Int} {gs : List (List Int)} {pre m m' : List Int} {ok ok' : Bool} (h : IsMw a gs pre m ok) (h' : IsMw a gs pre m' ok') : m = m' ∧ ok = ok' := by
  rcases h with ⟨e, hl, h⟩ | ⟨e, rfl, rfl⟩ <;> rcases h' with ⟨e', hl', h'⟩ | ⟨e', rfl, rfl⟩
  · obtain ⟨N, rfl, h1, hN, _, _, ok⟩ := gB_pm e
    exact h.uniq (by simpa using h1) (by simpa using hN) (fun g hg => by rw [Int.toNat_natCast]; exact ok g hg) (by simp; omega) h'
  · exact absurd ⟨e, hl⟩ e'
  · exact absurd ⟨e', hl'⟩ e
  · exact ⟨rfl, rfl⟩
theorem IsMwp.len {N : Nat} {gs : List (List Int)} {pre m : List Int} {ok : Bool} (h1 : 1 ≤ N) (h2 : N ≤ 20) (hg : ∀ g ∈ gs, Pn N g) (h : IsMwp N gs pre m ok) : m.length ≤ 20 := by
  rcases h with ⟨_, h⟩ | ⟨_, rfl, _⟩
  · rw [(h.1.pn hg h1 h2).2]; exact h2
  · simp
theorem IsMw.len {a : Int} {gs : List (List Int)} {pre m : List Int} {ok : Bool} (h : IsMw a gs pre m ok) : m.length ≤ 20 := by
  rcases h with ⟨e, hl, h⟩ | ⟨e, rfl, rfl⟩
  · obtain ⟨N, rfl, h1, hN, _, _, ok⟩ := gB_pm e
    rw [Int.toNat_natCast] at h
    exact h.len h1 hN ok
  · simp

section
variable (a : Int) (A : Option Addr) (n c : Nat) (vs : List SV) (xss : List (List Int)) (w : World)
set_option maxHeartbeats 1000000 in
set_option maxRecDepth 100000 in
theorem specGroupOrder (hx : RR w w.heap.size A n vs xss) (hn : n ≤ 1048576) (hl : Hid (∀ i, i < n → (vs.getD i sd0).2.1 ≤ 1048576)) (ha : -9223372036854775808 ≤ a ∧ a ≤ 9223372036854775807) :
    Calls Try.prog 38 #[.int .i64 a, .slice A n c] w fun e w' => ∃ v, e = .returned (.int .i64 v) ∧ IsOrd a xss v ∧ Below w.heap.size w w' := by
  have HX := Lib.hid hx
  have hlx : Hid (xss.length = n) := Lib.hid hx.lx
  clear hx
  go_enter Try.func38, Try.ntmps38
  go_wp2_with fail
  refine (specGS a A n c vs xss w HX.out hn hl ha).mono ?_
  rintro e w1 ⟨rfl, b1⟩
  have B1 := Lib.hid b1
  have X1 := Lib.hid (HX.out.up b1)
  clear b1
  rcases hs : gB a xss with _ | _
  · have Fin : Hid (IsOrd a xss 0) := Lib.hid (.inr ⟨hs, rfl⟩)
    clear hs
    go_wp2_with fail
    go_ret
    exact ⟨0, rfl, Fin.out, B1.out⟩
  · obtain ⟨N, rfl, hN1, hN2, hg8, hpm, hok⟩ := gB_pm hs
    have Hs := Lib.hid hs
    have Ok := Lib.hid hok
    have hn8 : n ≤ 8 := by rw [← hlx.out]; exact hg8
    clear hs hpm hok hg8
    go_wp2_with fail
    refine (specBuild N n c A vs xss w1 X1.out hN1 hN2 hn8 Ok).mono ?_
    rintro e w2 ⟨g, L, ch, rfl, hc2, hw2, b2⟩
    have C2 := Lib.hid hc2
    have W2 := Lib.hid hw2
    have B2 : Hid (Below w.heap.size w w2) := Lib.hid (btr B1.out b2)
    clear hc2 hw2 b2
    go_wp2_with fail
    refine (specOrder w1.heap.size g N ch L xss w2 C2.out W2.out hN1 hN2).mono ?_
    rintro e w3 ⟨rfl, b3⟩
    have B3 : Hid (Below w.heap.size w w3) := Lib.hid (btr B2.out b3)
    have Fin : Hid (IsOrd (N : Int) xss (prodL (osL N ch N))) := Lib.hid (.inl ⟨Hs.out, _, by rw [Int.toNat_natCast]; exact W2.out.os hN1 hN2, rfl⟩)
    clear b3
    go_wp2_with fail
    go_ret
    exact ⟨_, rfl, Fin.out, B3.out⟩
end
end Go.Proofs.Ytcjcmhoalomjfaa

/- The members of a group in lexicographic order: how many precede, how one entry adds to it. No Go in it. No condition. -/
namespace Go.Proofs.Ytcjcmhoalomjfaa
open Go.RowKit

/-- They agree in the first i entries. -/
def Ag (i : Nat) (q p : List Int) : Prop := ∀ t, t < i → nx q t = nx p t
/-- q precedes p, by one of the first i entries. -/
def LxI (i : Nat) (q p : List Int) : Prop := ∃ t, t < i ∧ Ag t q p ∧ nx q t < nx p t
section
variable {N i : Nat} {p q r m : List Int}
theorem Ag.symm (h : Ag i q p) : Ag i p q := fun t ht => (h t ht).symm
theorem Ag.trans (h : Ag i q p) (h2 : Ag i p r) : Ag i q r := fun t ht => (h t ht).trans (h2 t ht)
theorem Ag.mono {j : Nat} (h : Ag i q p) (hj : j ≤ i) : Ag j q p := fun t ht => h t (by omega)
theorem Ag.refl (i : Nat) (p : List Int) : Ag i p p := fun _ _ => rfl
theorem ag_succ : Ag (i + 1) q p ↔ Ag i q p ∧ nx q i = nx p i :=
  ⟨fun h => ⟨h.mono (by omega), h i (by omega)⟩, fun ⟨a, b⟩ t ht => by
    by_cases e : t = i
    · subst e; exact b
    · exact a t (by omega)⟩
theorem lxi_succ : LxI (i + 1) q p ↔ LxI i q p ∨ (Ag i q p ∧ nx q i < nx p i) := by
  constructor
  · rintro ⟨t, ht, a, b⟩
    by_cases e : t = i
    · subst e; exact .inr ⟨a, b⟩
    · exact .inl ⟨t, by omega, a, b⟩
  · rintro (⟨t, ht, a, b⟩ | ⟨a, b⟩)
    · exact ⟨t, by omega, a, b⟩
    · exact ⟨i, by omega, a, b⟩
theorem lxi_ag (h : Ag i p r) : LxI i q p ↔ LxI i q r := by
  constructor
  · rintro ⟨t, ht, a, b⟩
    exact ⟨t, ht, a.trans (h.mono (by omega)), by rw [← h t ht]; exact b⟩
  · rintro ⟨t, ht, a, b⟩
    exact ⟨t, ht, a.trans (h.mono (by omega)).symm, by rw [h t ht]; exact b⟩
theorem lxi_not (h : Ag i q p) : ¬ LxI i q p := fun ⟨t, ht, _, b⟩ => by rw [h t ht] at b; omega
theorem lxi_tri (p q : List Int) : ∀ i, Ag i p q ∨ LxI i p q ∨ LxI i q p
  | 0 => .inl fun _ h => absurd h (Nat.not_lt_zero _)
  | i + 1 => by
    rcases lxi_tri p q i with h | h | h
    · rcases Nat.lt_trichotomy (nx p i) (nx q i) with e | e | e
      · exact .inr (.inl (lxi_succ.2 (.inr ⟨h, e⟩)))
      · exact .inl (ag_succ.2 ⟨h, e⟩)
      · exact .inr (.inr (lxi_succ.2 (.inr ⟨h.symm, e⟩)))
    · exact .inr (.inl (lxi_succ.2 (.inl h)))
    · exact .inr (.inr (lxi_succ.2 (.inl h)))
theorem lx_tri (hp : Pn N p) (hq : Pn N q) : p = q ∨ LxI N p q ∨ LxI N q p := by
  rcases lxi_tri p q N with h | h | h
  · exact .inl (hp.ext hq h)
  · exact .inr (.inl h)
  · exact .inr (.inr h)
theorem LxI.trans (h : LxI N p q) (h2 : LxI N q r) : LxI N p r := by
  obtain ⟨t, ht, a, b⟩ := h
  obtain ⟨s, hs, a', b'⟩ := h2
  rcases Nat.lt_trichotomy t s with e | e | e
  · exact ⟨t, ht, a.trans (a'.mono (by omega)), by rw [← a' t e]; exact b⟩
  · subst e; exact ⟨t, ht, a.trans a', by omega⟩
  · exact ⟨s, hs, (a.mono (by omega)).trans a', by rw [a s e]; exact b'⟩
theorem LxI.irr : ¬ LxI N p p := lxi_not (Ag.refl _ _)
theorem LxI.mono {j : Nat} (h : LxI i q p) (hj : i ≤ j) : LxI j q p := by
  obtain ⟨t, ht, a, b⟩ := h
  exact ⟨t, by omega, a, b⟩
end

/-! ### counting -/
section
variable {P Q : List Int → Prop} {a b : Nat}
theorem crd_or (h : Crd P a) (h2 : Crd Q b) (hd : ∀ x, P x → ¬ Q x) : Crd (fun x => P x ∨ Q x) (a + b) := by
  obtain ⟨l, d, m, rfl⟩ := h
  obtain ⟨l', d', m', rfl⟩ := h2
  refine ⟨l ++ l', List.nodup_append.2 ⟨d, d', fun x hx y hy e => hd x ((m x).1 hx) ((m' x).1 (e ▸ hy))⟩, fun p => ?_, by simp⟩
  rw [List.mem_append, m, m']
theorem crd_sub (h : Crd P a) (h2 : Crd Q b) (hs : ∀ x, P x → Q x) : a ≤ b := by
  obtain ⟨l, d, m, rfl⟩ := h
  obtain ⟨l', d', m', rfl⟩ := h2
  exact nd_subA d fun x hx => (m' x).2 (hs x ((m x).1 hx))
theorem crd_none (h : ∀ x, ¬ P x) : Crd P 0 := ⟨[], List.nodup_nil, fun p => ⟨fun hp => absurd hp List.not_mem_nil, fun hp => absurd hp (h p)⟩, rfl⟩
theorem crd_one (m : List Int) : Crd (fun q => q = m) 1 := ⟨[m], by simp, fun p => by simp, rfl⟩
theorem crd_fib {O : List Nat} {i c : Nat} (hO : O.Nodup) (h : ∀ v ∈ O, Crd (fun q => P q ∧ nx q i = v) c) : Crd (fun q => P q ∧ nx q i ∈ O) (O.length * c) := by
  have hf : ∃ f : Nat → List (List Int), ∀ v ∈ O, (f v).Nodup ∧ (∀ q, q ∈ f v ↔ P q ∧ nx q i = v) ∧ (f v).length = c := by
    refine ⟨fun v => if hv : v ∈ O then Classical.choose (h v hv) else [], fun v hv => ?_⟩
    simp only [hv, dif_pos]
    have := Classical.choose_spec (h v hv)
    exact ⟨this.1, this.2.1, this.2.2.symm⟩
  obtain ⟨f, hf⟩ := hf
  obtain ⟨i1, i2⟩ := flat_nd (f := f) (m := c) hO (fun v hv => (hf v hv).1) (fun v hv z hz hne p hp hp2 => hne (by rw [← (((hf v hv).2.1 p).1 hp).2, ← (((hf z hz).2.1 p).1 hp2).2])) (fun v hv => (hf v hv).2.2)
  refine ⟨_, i1, fun p => ?_, i2.symm⟩
  rw [List.mem_flatMap]
  constructor
  · rintro ⟨v, hv, hp⟩
    obtain ⟨a, b⟩ := ((hf v hv).2.1 p).1 hp
    exact ⟨a, b ▸ hv⟩
  · rintro ⟨a, b⟩
    exact ⟨_, b, ((hf _ b).2.1 p).2 ⟨a, rfl⟩⟩
end

/-! ### members that agree in the first entries -/
section
variable {N i : Nat} {gs : List (List Int)} {xs : List Int} {m p : List Int}
theorem gdx' {l : List Int} {j : Nat} (h : j < l.length) : l.getD j 0 = l[j] := by
  rw [List.getD_eq_getElem?_getD, List.getElem?_eq_getElem h]; rfl
theorem agree_card (h : IsOS N gs xs) (hg : ∀ g ∈ gs, Pn N g) (h1 : 1 ≤ N) (h2 : N ≤ 20) (hi : i ≤ N) (hm : Mb gs N m) : ∃ v, Crd (fun q => Mb gs N q ∧ Ag i q m) v ∧ pr xs i (N - i) = (v : Int) := by
  obtain ⟨v, hc, e⟩ := h.card hg h1 h2 (N - i) i (by omega)
  have hpn : ∀ p, Mb gs N p → Pn N p := fun p hp => hp.pn hg h1 h2
  have hmp := hpn m hm
  refine ⟨v, hc.map (fun q => compL q m) (fun a ha b hb e => ?_) (fun q => ?_), e⟩
  · have : compL (compL a m) (iv m) = compL (compL b m) (iv m) := congrArg (fun t => compL t (iv m)) e
    rwa [(hpn a ha.1).assoc hmp, (hpn b hb.1).assoc hmp, hmp.ci, (hpn a ha.1).idr, (hpn b hb.1).idr] at this
  · constructor
    · rintro ⟨a, b⟩
      have hq := hpn q a
      refine ⟨compL q (iv m), ⟨a.comp hg h1 h2 (hm.inv hg h1 h2), fun t ht => ?_⟩, ?_⟩
      · rw [hq.nxc (by omega), b t ht, hmp.nxi (by omega)]
      · rw [hq.assoc hmp.iv, hmp.ic, hq.idr]
    · rintro ⟨r, ⟨a, b⟩, rfl⟩
      refine ⟨a.comp hg h1 h2 hm, fun t ht => ?_⟩
      rw [(hpn r a).nxc (by omega), b t ht]
/-- The entries that members which agree with m before i have there, in ascending order. -/
def ChL (N : Nat) (gs : List (List Int)) (m : List Int) (i : Nat) (zs : List Int) : Prop :=
  zs.Pairwise (· < ·) ∧ ∀ v : Int, v ∈ zs ↔ ∃ q, Mb gs N q ∧ Ag i q m ∧ (nx q i : Int) = v
theorem ChL.nodup {zs : List Int} (h : ChL N gs m i zs) : zs.Nodup := h.1.imp fun hab e => by omega
theorem ChL.nonneg {zs : List Int} (h : ChL N gs m i zs) {v : Int} (hv : v ∈ zs) : 0 ≤ v := by
  obtain ⟨q, _, _, rfl⟩ := (h.2 v).1 hv; omega
theorem ChL.uniq {zs ys : List Int} (h : ChL N gs m i zs) (h' : ChL N gs m i ys) : zs = ys := by
  have hm : ∀ v, v ∈ zs ↔ v ∈ ys := fun v => (h.2 v).trans (h'.2 v).symm
  have hp : zs.Perm ys := (List.perm_ext_iff_of_nodup h.nodup h'.nodup).2 hm
  exact hp.eq_of_pairwise (le := (· ≤ ·)) (fun a b _ _ h1 h2 => by omega) (h.1.imp fun hab => by omega) (h'.1.imp fun hab => by omega)
theorem ChL.ag {m' : List Int} {zs : List Int} (h : ChL N gs m i zs) (ha : Ag i m m') : ChL N gs m' i zs :=
  ⟨h.1, fun v => (h.2 v).trans ⟨fun ⟨q, a, b, c⟩ => ⟨q, a, b.trans ha, c⟩, fun ⟨q, a, b, c⟩ => ⟨q, a, b.trans ha.symm, c⟩⟩⟩
theorem ChL.len {zs : List Int} (h : ChL N gs m i zs) (ho : IsOS N gs xs) (hg : ∀ g ∈ gs, Pn N g) (h1 : 1 ≤ N) (h2 : N ≤ 20) (hi : i < N) (hm : Mb gs N m) : (zs.length : Int) = xs.getD i 0 := by
  obtain ⟨l, d, hl, e⟩ := ho.2 i hi
  have hmp := hm.pn hg h1 h2
  have hd : (l.map fun y => (nx m y : Int)).Nodup := nd_mapA d fun x hx y hy e => hmp.inj ((hl x).1 hx).1 ((hl y).1 hy).1 (by omega)
  have hmem : ∀ v, v ∈ (l.map fun y => (nx m y : Int)) ↔ v ∈ zs := fun v => by
    rw [List.mem_map, h.2]
    constructor
    · rintro ⟨y, hy, rfl⟩
      obtain ⟨hyN, p, hp, hf, rfl⟩ := (hl y).1 hy
      have hpp := hp.pn hg h1 h2
      exact ⟨compL p m, hp.comp hg h1 h2 hm, fun t ht => by rw [hpp.nxc (by omega), hf t ht], by rw [hpp.nxc hi]⟩
    · rintro ⟨q, hq, ha, rfl⟩
      have hqp := hq.pn hg h1 h2
      have hlt := hmp.iv.lt (hqp.lt hi)
      refine ⟨nx (iv m) (nx q i), (hl _).2 ⟨hlt, compL q (iv m), hq.comp hg h1 h2 (hm.inv hg h1 h2), fun t ht => ?_, ?_⟩, ?_⟩
      · rw [hqp.nxc (by omega), ha t ht, hmp.nxi (by omega)]
      · rw [hqp.nxc hi]
      · rw [hmp.nxi' (hqp.lt hi)]
  have a := nd_subA hd fun v hv => (hmem v).1 hv
  have b := nd_subA h.nodup fun v hv => (hmem v).2 hv
  rw [List.length_map] at a b
  rw [e]; omega
/-- One entry more: so many members more precede p. -/
theorem rank_step {zs : List Int} {K T : Nat} (h : ChL N gs m i zs) (ho : IsOS N gs xs) (hg : ∀ g ∈ gs, Pn N g) (h1 : 1 ≤ N) (h2 : N ≤ 20) (hi : i < N) (hm : Mb gs N m) (ha : Ag i m p)
    (hK : K ≤ zs.length) (hlo : ∀ j, j < K → zs.getD j 0 < (nx p i : Int)) (hhi : K < zs.length → (nx p i : Int) ≤ zs.getD K 0) (hT : Crd (fun q => Mb gs N q ∧ LxI i q p) T) :
    ∃ c : Nat, pr xs (i + 1) (N - (i + 1)) = (c : Int) ∧ Crd (fun q => Mb gs N q ∧ LxI (i + 1) q p) (T + K * c) := by
  obtain ⟨c, _, hc⟩ := agree_card ho hg h1 h2 (i := i + 1) (by omega) hm
  refine ⟨c, hc, ?_⟩
  have hat : ∀ j, j < zs.length → zs.getD j 0 ∈ zs := fun j hj => by rw [gdx' hj]; exact List.getElem_mem hj
  have hin : ∀ v, v ∈ (zs.take K).map Int.toNat ↔ (v : Int) ∈ zs ∧ (v : Int) < (nx p i : Int) := fun v => by
    rw [List.mem_map]
    constructor
    · rintro ⟨x, hx, rfl⟩
      obtain ⟨j, hj, rfl⟩ := List.mem_iff_getElem.1 hx
      rw [List.length_take] at hj
      rw [List.getElem_take]
      have hz := List.getElem_mem (l := zs) (n := j) (by omega)
      have hl := hlo j (by omega)
      rw [gdx' (by omega)] at hl
      have := h.nonneg hz
      rw [Int.toNat_of_nonneg this]
      exact ⟨hz, hl⟩
    · rintro ⟨hv, hl⟩
      obtain ⟨j, hj, e⟩ := List.mem_iff_getElem.1 hv
      have hjK : j < K := by
        rcases Nat.lt_or_ge j K with h3 | h3
        · exact h3
        · have h4 := hhi (by omega)
          rw [gdx' (by omega)] at h4
          have h5 : zs[K]'(by omega) ≤ zs[j] := by
            rcases Nat.lt_or_ge K j with h6 | h6
            · have := List.pairwise_iff_getElem.1 h.1 K j (by omega) hj h6; omega
            · obtain rfl : K = j := by omega
              exact Int.le_refl _
          omega
      exact ⟨(v : Int), by rw [← e]; exact List.mem_iff_getElem.2 ⟨j, by rw [List.length_take]; omega, by rw [List.getElem_take]⟩, Int.toNat_natCast v⟩
  have hnd : ((zs.take K).map Int.toNat).Nodup := nd_mapA (h.nodup.sublist (List.take_sublist _ _)) fun x hx y hy e => by
    have := h.nonneg (List.mem_of_mem_take hx)
    have := h.nonneg (List.mem_of_mem_take hy)
    omega
  have hf := crd_fib (P := fun q => Mb gs N q ∧ Ag i q m) (i := i) (c := c) hnd fun v hv => by
    obtain ⟨hz, _⟩ := (hin v).1 hv
    obtain ⟨r, hr, hra, hrv⟩ := (h.2 _).1 hz
    obtain ⟨c', hc', e'⟩ := agree_card ho hg h1 h2 (i := i + 1) (by omega) hr
    obtain rfl : c' = c := by omega
    exact hc'.congr fun q => by
      rw [ag_succ, and_assoc]
      have e2 : nx r i = v := by omega
      rw [e2]
      exact ⟨fun ⟨a, b, d⟩ => ⟨a, b.trans hra, d⟩, fun ⟨a, b, d⟩ => ⟨a, b.trans hra.symm, d⟩⟩
  have hlen : ((zs.take K).map Int.toNat).length = K := by rw [List.length_map, List.length_take]; omega
  rw [hlen] at hf
  refine (crd_or hT hf fun q hq hq2 => lxi_not (hq2.1.2.trans ha) hq.2).congr fun q => ?_
  rw [lxi_succ, hin]
  constructor
  · rintro (⟨a, b⟩ | ⟨⟨a, b⟩, _, d⟩)
    · exact ⟨a, .inl b⟩
    · exact ⟨a, .inr ⟨b.trans ha, by omega⟩⟩
  · rintro ⟨a, b | ⟨b, d⟩⟩
    · exact .inl ⟨a, b⟩
    · exact .inr ⟨⟨a, b.trans ha.symm⟩, (h.2 _).2 ⟨q, a, b.trans ha.symm, rfl⟩, by omega⟩
/-- Where p's entry is none that they have, nothing is added behind it. -/
theorem rank_stop {zs : List Int} {T : Nat} (h : ChL N gs m i zs) (hi : i < N) (ha : Ag i m p) (hn : (nx p i : Int) ∉ zs) (hT : Crd (fun q => Mb gs N q ∧ LxI (i + 1) q p) T) : Crd (fun q => Mb gs N q ∧ LxI N q p) T := by
  refine hT.congr fun q => ⟨fun ⟨a, b⟩ => ⟨a, b.mono (by omega)⟩, fun ⟨a, t, ht, b, d⟩ => ⟨a, t, ?_, b, d⟩⟩
  rcases Nat.lt_or_ge t (i + 1) with hl | hl
  · exact hl
  · exact absurd ((h.2 _).2 ⟨q, a, (b.mono (by omega)).trans ha.symm, by rw [b i (by omega)]⟩) hn

/-! ### ranks -/
def Rk (N : Nat) (gs : List (List Int)) (p : List Int) (c : Nat) : Prop := Crd (fun q => Mb gs N q ∧ LxI N q p) c
theorem rk_lt {p q : List Int} {c d V : Nat} (hp : Rk N gs p c) (hq : Rk N gs q d) (hpm : Mb gs N p) (hl : LxI N p q) : c < d := by
  have h := crd_or hp (crd_one p) fun x hx e => LxI.irr (e ▸ hx.2)
  have := crd_sub h hq fun x hx => by
    rcases hx with ⟨a, b⟩ | rfl
    · exact ⟨a, b.trans hl⟩
    · exact ⟨hpm, hl⟩
  omega
theorem rk_inj {p q : List Int} {c : Nat} (hg : ∀ g ∈ gs, Pn N g) (h1 : 1 ≤ N) (h2 : N ≤ 20) (hp : Rk N gs p c) (hq : Rk N gs q c) (hpm : Mb gs N p) (hqm : Mb gs N q) : p = q := by
  rcases lx_tri (hpm.pn hg h1 h2) (hqm.pn hg h1 h2) with e | e | e
  · exact e
  · have := rk_lt (V := 0) hp hq hpm e; omega
  · have := rk_lt (V := 0) hq hp hqm e; omega
theorem rk_ord {p : List Int} {c V : Nat} (hp : Rk N gs p c) (hV : Crd (Mb gs N) V) (hpm : Mb gs N p) : c < V := by
  have h := crd_or hp (crd_one p) fun x hx e => LxI.irr (e ▸ hx.2)
  have := crd_sub h hV fun x hx => by
    rcases hx with ⟨a, _⟩ | rfl
    · exact a
    · exact hpm
  omega
end
end Go.Proofs.Ytcjcmhoalomjfaa

/- Sets of permutations that are closed under products and inverses: cosets, their smallest members, Lagrange, index two, the center. No Go in it. No condition. -/
namespace Go.Proofs.Ytcjcmhoalomjfaa
open Go.RowKit

/-- A group of permutations of N points. -/
structure Sgp (N : Nat) (H : List Int → Prop) : Prop where
  pn : ∀ p, H p → Pn N p
  one : H (idL N)
  mul : ∀ p q, H p → H q → H (compL p q)
  inv : ∀ p, H p → H (iv p)
/-- q lies in the coset of p. -/
def Cos (H : List Int → Prop) (p q : List Int) : Prop := ∃ h, H h ∧ q = compL h p
/-- m is the smallest of p's coset. -/
def CMin (N : Nat) (H : List Int → Prop) (p m : List Int) : Prop := Cos H p m ∧ ∀ q, Cos H p q → ¬ LxI N q m
section
variable {N h g : Nat} {H G : List Int → Prop} {p q r m m' : List Int} {gs : List (List Int)}
theorem sgp_mb (hg : ∀ g ∈ gs, Pn N g) (h1 : 1 ≤ N) (h2 : N ≤ 20) : Sgp N (Mb gs N) := ⟨fun _ h => h.pn hg h1 h2, .one, fun _ _ a b => a.comp hg h1 h2 b, fun _ a => a.inv hg h1 h2⟩
theorem Cos.pn (hH : Sgp N H) (hp : Pn N p) (h : Cos H p q) : Pn N q := by
  obtain ⟨x, hx, rfl⟩ := h
  exact (hH.pn x hx).comp hp
theorem cos_refl (hH : Sgp N H) (hp : Pn N p) : Cos H p p := ⟨idL N, hH.one, hp.idl.symm⟩
theorem Cos.symm (hH : Sgp N H) (hp : Pn N p) (h : Cos H p q) : Cos H q p := by
  obtain ⟨x, hx, rfl⟩ := h
  have hxp := hH.pn x hx
  exact ⟨iv x, hH.inv x hx, by rw [← hxp.iv.assoc hxp, hxp.ic, hp.idl]⟩
theorem Cos.trans (hH : Sgp N H) (h : Cos H p q) (h' : Cos H q r) : Cos H p r := by
  obtain ⟨x, hx, rfl⟩ := h
  obtain ⟨y, hy, rfl⟩ := h'
  exact ⟨compL y x, hH.mul y x hy hx, ((hH.pn y hy).assoc (hH.pn x hx)).symm⟩
theorem cos_iff (hH : Sgp N H) (hp : Pn N p) (hq : Pn N q) : Cos H p q ↔ H (compL q (iv p)) := by
  constructor
  · rintro ⟨x, hx, rfl⟩
    have hxp := hH.pn x hx
    rw [hxp.assoc hp, hp.ci, hxp.idr]; exact hx
  · exact fun h => ⟨_, h, by rw [hq.assoc hp.iv, hp.ic, hq.idr]⟩
theorem cancel_r (hp : Pn N p) (hq : Pn N q) (hr : Pn N r) (e : compL p r = compL q r) : p = q := by
  have : compL (compL p r) (iv r) = compL (compL q r) (iv r) := congrArg (fun t => compL t (iv r)) e
  rwa [hp.assoc hr, hq.assoc hr, hr.ci, hp.idr, hq.idr] at this
/-- A list that isn't empty has a smallest. -/
theorem lx_min : ∀ l : List (List Int), l ≠ [] → (∀ x ∈ l, Pn N x) → ∃ m ∈ l, ∀ q ∈ l, ¬ LxI N q m
  | [], h, _ => absurd rfl h
  | [a], _, _ => ⟨a, by simp, fun q hq => by rw [List.mem_singleton.1 hq]; exact LxI.irr⟩
  | a :: b :: t, _, hp => by
    obtain ⟨m, hm, hmin⟩ := lx_min (b :: t) (by simp) fun x hx => hp x (List.mem_cons_of_mem _ hx)
    rcases Classical.em (LxI N a m) with hl | hl
    · refine ⟨a, by simp, fun q hq hqa => ?_⟩
      rcases List.mem_cons.1 hq with rfl | hq
      · exact LxI.irr hqa
      · exact hmin q hq (hqa.trans hl)
    · refine ⟨m, List.mem_cons_of_mem _ hm, fun q hq hqm => ?_⟩
      rcases List.mem_cons.1 hq with rfl | hq
      · exact hl hqm
      · exact hmin q hq hqm
theorem CMin.ex (hH : Sgp N H) (cH : Crd H h) (hp : Pn N p) : ∃ m, CMin N H p m := by
  obtain ⟨l, hd, hm, _⟩ := cH
  obtain ⟨m, hmm, hmin⟩ := lx_min (N := N) (l.map fun x => compL x p) (by
    intro e
    have := (hm (idL N)).2 hH.one
    rw [List.map_eq_nil_iff] at e
    rw [e] at this; cases this) fun x hx => by
      obtain ⟨y, hy, rfl⟩ := List.mem_map.1 hx
      exact (hH.pn y ((hm y).1 hy)).comp hp
  obtain ⟨y, hy, rfl⟩ := List.mem_map.1 hmm
  refine ⟨_, ⟨y, (hm y).1 hy, rfl⟩, fun q hq => ?_⟩
  obtain ⟨x, hx, rfl⟩ := hq
  exact hmin _ (List.mem_map.2 ⟨x, (hm x).2 hx, rfl⟩)
theorem CMin.uniq (hH : Sgp N H) (hp : Pn N p) (a : CMin N H p m) (b : CMin N H p m') : m = m' := by
  rcases lx_tri (a.1.pn hH hp) (b.1.pn hH hp) with e | e | e
  · exact e
  · exact absurd e (b.2 m a.1)
  · exact absurd e (a.2 m' b.1)
theorem CMin.cos (hH : Sgp N H) (hp : Pn N p) (c : Cos H p q) (a : CMin N H p m) : CMin N H q m :=
  ⟨(c.symm hH hp).trans hH a.1, fun x hx => a.2 x (c.trans hH hx)⟩
/-- Two permutations have one coset exactly if the smallest of their cosets is the same. -/
theorem CMin.same (hH : Sgp N H) (hp : Pn N p) (hq : Pn N q) (a : CMin N H p m) (b : CMin N H q m') : Cos H p q ↔ m = m' := by
  constructor
  · exact fun c => (a.cos hH hp c).uniq hH hq b
  · rintro rfl
    exact a.1.trans hH (b.1.symm hH hq)
theorem flat_ndL {β : Type} {f : List Int → List β} {m : Nat} : ∀ {O : List (List Int)}, O.Nodup → (∀ y ∈ O, (f y).Nodup) → (∀ y ∈ O, ∀ z ∈ O, y ≠ z → ∀ p, p ∈ f y → p ∉ f z) → (∀ y ∈ O, (f y).length = m) →
    (O.flatMap f).Nodup ∧ (O.flatMap f).length = O.length * m
  | [], _, _, _, _ => by simp
  | a :: t, hd, h1, h2, h3 => by
    rw [List.nodup_cons] at hd
    obtain ⟨i1, i2⟩ := flat_ndL (O := t) hd.2 (fun y hy => h1 y (by simp [hy])) (fun y hy z hz => h2 y (by simp [hy]) z (by simp [hz])) (fun y hy => h3 y (by simp [hy]))
    rw [List.flatMap_cons]
    refine ⟨List.nodup_append.2 ⟨h1 a (by simp), i1, fun p hp q hq e => ?_⟩, ?_⟩
    · subst e
      obtain ⟨z, hz, hq⟩ := List.mem_flatMap.1 hq
      exact h2 a (by simp) z (by simp [hz]) (fun e => hd.1 (e ▸ hz)) p hp hq
    · rw [List.length_append, i2, h3 a (by simp), List.length_cons, Nat.succ_mul]; omega
/-- Lagrange: so many smallest members of cosets, times the order of the subgroup. -/
theorem lagr (hG : Sgp N G) (hH : Sgp N H) (hs : ∀ p, H p → G p) (cG : Crd G g) (cH : Crd H h) : ∃ k, Crd (fun p => G p ∧ CMin N H p p) k ∧ g = k * h := by
  classical
  have cG0 := cG
  have cH0 := cH
  obtain ⟨lG, dG, mG, _⟩ := cG
  obtain ⟨lH, dH, mH, eH⟩ := cH
  have hR : ∀ p, p ∈ lG.filter (fun p => decide (CMin N H p p)) ↔ G p ∧ CMin N H p p := fun p => by rw [List.mem_filter, mG, decide_eq_true_eq]
  refine ⟨_, ⟨lG.filter fun p => decide (CMin N H p p), dG.filter _, hR, rfl⟩, ?_⟩
  obtain ⟨i1, i2⟩ := flat_ndL (O := lG.filter fun p => decide (CMin N H p p)) (f := fun r => lH.map fun x => compL x r) (m := h) (dG.filter _)
    (fun r hr => nd_mapA dH fun x hx y hy e => cancel_r (hH.pn x ((mH x).1 hx)) (hH.pn y ((mH y).1 hy)) (hG.pn r ((hR r).1 hr).1) e)
    (fun r hr s hs' hne p hp hp2 => by
      obtain ⟨x, hx, rfl⟩ := List.mem_map.1 hp
      obtain ⟨y, hy, e⟩ := List.mem_map.1 hp2
      obtain ⟨gr, cr⟩ := (hR r).1 hr
      obtain ⟨gs', cs⟩ := (hR s).1 hs'
      have c1 : Cos H r (compL x r) := ⟨x, (mH x).1 hx, rfl⟩
      have c2 : Cos H s (compL x r) := ⟨y, (mH y).1 hy, e.symm⟩
      have c3 : Cos H r s := c1.trans hH (c2.symm hH (hG.pn s gs'))
      exact hne ((cr.cos hH (hG.pn r gr) c3).uniq hH (hG.pn s gs') cs))
    (fun r _ => by rw [List.length_map]; exact eH.symm)
  refine cG0.uniq ⟨_, i1, fun p => ?_, i2.symm⟩
  rw [List.mem_flatMap]
  constructor
  · rintro ⟨r, hr, hp⟩
    obtain ⟨x, hx, rfl⟩ := List.mem_map.1 hp
    exact hG.mul _ _ (hs x ((mH x).1 hx)) ((hR r).1 hr).1
  · intro gp
    obtain ⟨m, hm⟩ := CMin.ex hH cH0 (hG.pn p gp)
    obtain ⟨y, hy, e⟩ := hm.1.symm hH (hG.pn p gp)
    have hgm : G m := by
      obtain ⟨x, hx, rfl⟩ := hm.1
      exact hG.mul _ _ (hs x hx) gp
    exact ⟨m, (hR m).2 ⟨hgm, hm.cos hH (hG.pn p gp) hm.1⟩, List.mem_map.2 ⟨y, (mH y).2 hy, e.symm⟩⟩
/-- The identity precedes all. -/
theorem lx_id (hp : Pn N p) : ¬ LxI N p (idL N) := by
  rintro ⟨t, ht, a, b⟩
  rw [nx_id ht] at b
  have : Fx t p := fun i hi => by rw [a i hi, nx_id (by omega)]
  have := this.ge hp ht
  omega
theorem CMin.one (hH : Sgp N H) : CMin N H (idL N) (idL N) := ⟨cos_refl hH (hH.pn _ hH.one), fun _ hq => lx_id (hq.pn hH (hH.pn _ hH.one))⟩
theorem cos_one (hH : Sgp N H) : Cos H (idL N) p ↔ H p := by
  constructor
  · rintro ⟨x, hx, rfl⟩
    rw [(hH.pn x hx).idr]; exact hx
  · exact fun h => ⟨p, h, (hH.pn p h).idr.symm⟩
/-- In a group of twice as many, those outside have one coset. -/
theorem two_cos (hG : Sgp N G) (hH : Sgp N H) (hs : ∀ p, H p → G p) (cG : Crd G g) (cH : Crd H h) (e : g = 2 * h) (hh : 1 ≤ h) (gp : G p) (gq : G q) (np : ¬ H p) (nq : ¬ H q) : Cos H p q := by
  obtain ⟨k, ck, ek⟩ := lagr hG hH hs cG cH
  obtain rfl : k = 2 := by
    rw [e] at ek
    exact (Nat.eq_of_mul_eq_mul_right hh ek).symm
  obtain ⟨l, d, m, el⟩ := ck
  obtain ⟨mp, hmp⟩ := CMin.ex hH cH (hG.pn p gp)
  obtain ⟨mq, hmq⟩ := CMin.ex hH cH (hG.pn q gq)
  have hin : ∀ {x y : List Int}, G x → CMin N H x y → y ∈ l := fun gx hy => (m _).2 ⟨by
    obtain ⟨z, hz, rfl⟩ := hy.1
    exact hG.mul _ _ (hs z hz) gx, hy.cos hH (hG.pn _ gx) hy.1⟩
  have h1 := hin (hs _ hH.one) (CMin.one hH)
  have h2 := hin gp hmp
  have h3 := hin gq hmq
  have ne : ∀ {x y : List Int}, G x → ¬ H x → CMin N H x y → y ≠ idL N := fun gx nx hy e => by
    subst e
    exact nx ((cos_one hH).1 (hy.1.symm hH (hG.pn _ gx)))
  refine (hmp.same hH (hG.pn p gp) (hG.pn q gq) hmq).2 ?_
  rcases Classical.em (mp = mq) with e2 | e2
  · exact e2
  · exfalso
    have := nd_subA (l' := [idL N, mp, mq]) (l := l) (by simp [(ne gp np hmp).symm, (ne gq nq hmq).symm, e2]) fun x hx => by
      simp at hx
      rcases hx with rfl | rfl | rfl
      · exact h1
      · exact h2
      · exact h3
    simp at this
    omega
/-- A subgroup of index two is normal. -/
theorem two_normal (hG : Sgp N G) (hH : Sgp N H) (hs : ∀ p, H p → G p) (cG : Crd G g) (cH : Crd H h) (e : g = 2 * h) (hh : 1 ≤ h) (hp : H p) (gq : G q) : H (compL (compL (iv q) p) q) := by
  have pq := hG.pn q gq
  have pp := hH.pn p hp
  rcases Classical.em (H q) with hq | hq
  · exact hH.mul _ _ (hH.mul _ _ (hH.inv q hq) hp) hq
  · rcases Classical.em (H (compL (compL (iv q) p) q)) with hx | hx
    · exact hx
    · exfalso
      obtain ⟨y, hy, ey⟩ := two_cos hG hH hs cG cH e hh gq (hG.mul _ _ (hG.mul _ _ (hG.inv q gq) (hs p hp)) gq) hq hx
      have e2 : compL (iv q) p = y := cancel_r (pq.iv.comp pp) (hH.pn y hy) pq ey
      have e3 : iv q = compL y (iv p) := by rw [← e2, pq.iv.assoc pp, pp.ci, pq.iv.idr]
      have h4 : H (iv q) := by rw [e3]; exact hH.mul _ _ hy (hH.inv p hp)
      have := hH.inv _ h4
      rw [pq.iviv] at this
      exact hq this
/-- What begins with the identity, holds smallest members of cosets of what bs generates, and goes on at every generator, holds all of them. -/
theorem reps_all {bs l : List (List Int)} (hH : Sgp N H) (cH : Crd H h) (hb : ∀ g ∈ bs, Pn N g) (h1 : 1 ≤ N) (h2 : N ≤ 20) (l0 : idL N ∈ l) (hm : ∀ r ∈ l, Mb bs N r ∧ CMin N H r r) (hc : ∀ r ∈ l, ∀ g ∈ bs, ∀ m, CMin N H (compL r g) m → m ∈ l) : ∀ p, p ∈ l ↔ Mb bs N p ∧ CMin N H p p := by
  have key : ∀ q, Mb bs N q → ∃ r ∈ l, Cos H r q := fun q hq => by
    induction hq with
    | one => exact ⟨idL N, l0, cos_refl hH (pn_id h1 h2)⟩
    | @mul q' g hq' hg ih =>
      obtain ⟨r, hr, x, hx, e⟩ := ih
      have pr := (hm r hr).1.pn hb h1 h2
      have pg := hb _ hg
      obtain ⟨m, hmm⟩ := CMin.ex hH cH (pr.comp pg)
      refine ⟨m, hc r hr _ hg m hmm, (hmm.1.symm hH (pr.comp pg)).trans hH ⟨x, hx, ?_⟩⟩
      rw [e, (hH.pn x hx).assoc pr]
  refine fun p => ⟨hm p, fun ⟨hp, hmin⟩ => ?_⟩
  obtain ⟨r, hr, c⟩ := key p hp
  have pr := (hm r hr).1.pn hb h1 h2
  have := ((hm r hr).2.cos hH pr c).uniq hH (hp.pn hb h1 h2) hmin
  rw [← this]; exact hr
/-- The center. -/
def Ctr (G : List Int → Prop) (p : List Int) : Prop := G p ∧ ∀ q, G q → compL p q = compL q p
theorem Sgp.ctr (hG : Sgp N G) : Sgp N (Ctr G) := by
  refine ⟨fun p h => hG.pn p h.1, ⟨hG.one, fun q hq => by rw [(hG.pn q hq).idl, (hG.pn q hq).idr]⟩, fun p q hp hq => ⟨hG.mul p q hp.1 hq.1, fun r hr => ?_⟩, fun p hp => ⟨hG.inv p hp.1, fun r hr => ?_⟩⟩
  · have pp := hG.pn p hp.1
    have pq := hG.pn q hq.1
    have pr := hG.pn r hr
    rw [pp.assoc pq, hq.2 r hr, ← pp.assoc pr, hp.2 r hr, pr.assoc pp]
  · have pp := hG.pn p hp.1
    have pr := hG.pn r hr
    have e := hp.2 r hr
    refine cancel_r (pp.iv.comp pr) (pr.comp pp.iv) pp ?_
    rw [pr.assoc pp.iv, pp.ic, pr.idr, pp.iv.assoc pr, ← e, ← pp.iv.assoc pp, pp.ic, pr.idl]
end
end Go.Proofs.Ytcjcmhoalomjfaa
