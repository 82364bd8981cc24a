/- Part 3 of the texts: SrcP, OrM, Gen, ChB, ChQ, Ins, ChR, ChT, ChX, ChY, ChZ. No condition of its own: each text tells its own. -/
import Derived.Test.YtooafmifbplbhaaMg2
import Derived.Test.YtooafmifbplbhaaMg1
import Derived.Deep.RegionLaw
import Derived.Deep.LoopGhost
set_option linter.unusedVariables false
set_option linter.unusedSimpArgs false

/- The model's drawn permutations. Condition: degrees of at most 100. -/
namespace Go.Proofs.Ytooafmifbplbhaa
open Go.RowKit

theorem RI.cellAt {w : World} {B b o : Nat} {ys : List Int} (h : RI w B (some ⟨b, o, none⟩) ys) {j : Nat} (hj : j < ys.length) : b < B ∧ w.cell? ⟨b, o + j, none⟩ = some (.int .i64 (ys.getD j 0)) := by
  obtain ⟨b', o', e, hb, hc⟩ := h (by omega)
  injection e with e
  injection e with e1 e2
  subst e1; subst e2
  exact ⟨hb, hc j hj⟩

/-- append of readable numbers. -/
theorem wpList_appN {w : World} {ops : Array Oper} {rest : List Oper} {o : Oper} {a : Act} {Q : Exit → Act → World → Prop} (hgd : o.guard = none) (s x : Operand)
    (ho : o.op = .call { callee := .builtin .append, args := #[s, x], argTypes := #[25, 25] })
    (base : Nat) (A : Option Addr) (n c : Nat) (xs : List Int) (hs : a.eval s = .slice A n c) (hown : Slc w base A n c xs) (g off m c2 : Nat) (ys : List Int) (hx : a.eval x = .slice (some ⟨g, off, none⟩) m c2)
    (hy : RI w w.heap.size (some ⟨g, off, none⟩) ys) (ly : ys.length = m) (hn : n + m ≤ 1000000000000) (hbase : base ≤ w.heap.size)
    (h : ∀ A' c' w', Slc w' base A' (n + m) c' (xs ++ ys) → w.grownBy w' (Value.slice A n c).ownBlock → wpList Try.prog ops Q rest (a.put o.dst (.slice A' (n + m) c')) w') : wpList Try.prog ops Q (o :: rest) a w := by
  obtain ⟨i0, hi, hz0, hz1, hz2⟩ := info_parts infoI
  obtain ⟨hl, ho'⟩ := hown
  subst hl
  refine wpList_append_own w hgd s x 25 ho base 2 i0 (.int .i64 0) 1 8 Try.underlying25 hi hz0 hz1 hz2 rfl (by decide) _ xs.length _ hs ho' ⟨g, off, none⟩ m c2 (ys.map (Value.int .i64)) hx (by simp [ly]) ?_ ?_ ?_ (by omega) hbase ?_
  · intro j v hj
    have hjl : j < ys.length := by
      have := (List.getElem?_eq_some_iff.1 hj).1
      simpa using this
    have e : (⟨g, off, none⟩ : Addr).add j = ⟨g, off + j, none⟩ := by unfold Addr.add; split <;> simp_all
    rw [e, (hy.cellAt hjl).2]
    rw [List.getElem?_map, List.getElem?_eq_getElem hjl] at hj
    rw [← Option.some.inj hj, List.getD_eq_getElem?_getD, List.getElem?_eq_getElem hjl]; rfl
  · intro v hv; rw [List.mem_map] at hv; obtain ⟨u, _, rfl⟩ := hv; rfl
  · unfold maxLen; omega
  · intro v' w' hown' hg _
    have hO : Own w' base v' (xs ++ ys) := by
      unfold Own
      rw [List.length_append, List.map_append, ly]
      exact hown'
    obtain ⟨A', c', rfl, hS⟩ := Slc.of_own (n := xs.length + m) hO (by simp [ly])
    exact h A' c' w' hS hg

/-- append of readable numbers, as one step of a region that draws. -/
theorem step_appN {w : World} {ops : Array Oper} {o : Oper} {a : Act} {K : Act → World → Prop} {Q : Exit → Act → World → Prop} {E : Prop} (hgd : o.guard = none) (s x : Operand)
    (ho : o.op = .call { callee := .builtin .append, args := #[s, x], argTypes := #[25, 25] })
    (base : Nat) (A : Option Addr) (n c : Nat) (xs : List Int) (hs : a.eval s = .slice A n c) (hown : Slc w base A n c xs) (g off m c2 : Nat) (ys : List Int) (hx : a.eval x = .slice (some ⟨g, off, none⟩) m c2)
    (hy : RI w w.heap.size (some ⟨g, off, none⟩) ys) (ly : ys.length = m) (hn : n + m ≤ 1000000000000) (hbase : base ≤ w.heap.size) (N : Nat) (hN : n + m = N)
    (h : ∀ A' c' w', Slc w' base A' N c' (xs ++ ys) → w.grownBy w' (Value.slice A n c).ownBlock → K (a.put o.dst (.slice A' N c')) w') : if Region.wanted o (yielded ops a.tmps) = true then Oper.wp Try.prog o a w K Q else E := by
  have hw : Region.wanted o (yielded ops a.tmps) = true := by simp [Region.wanted, hgd]
  rw [if_pos hw]
  subst hN
  obtain ⟨i0, hi, hz0, hz1, hz2⟩ := info_parts infoI
  obtain ⟨hl, ho'⟩ := hown
  subst hl
  refine wp_append_own w s x 25 ho base 2 i0 (.int .i64 0) 1 8 Try.underlying25 hi hz0 hz1 hz2 rfl (by decide) _ xs.length _ hs ho' ⟨g, off, none⟩ m c2 (ys.map (Value.int .i64)) hx (by simp [ly]) ?_ ?_ ?_ (by omega) hbase ?_
  · intro j v hj
    have hjl : j < ys.length := by
      have := (List.getElem?_eq_some_iff.1 hj).1
      simpa using this
    have e : (⟨g, off, none⟩ : Addr).add j = ⟨g, off + j, none⟩ := by unfold Addr.add; split <;> simp_all
    rw [e, (hy.cellAt hjl).2]
    rw [List.getElem?_map, List.getElem?_eq_getElem hjl] at hj
    rw [← Option.some.inj hj, List.getD_eq_getElem?_getD, List.getElem?_eq_getElem hjl]; rfl
  · intro v hv; rw [List.mem_map] at hv; obtain ⟨u, _, rfl⟩ := hv; rfl
  · unfold maxLen; omega
  · intro v' w' hown' hg _
    have hO : Own w' base v' (xs ++ ys) := by
      unfold Own
      rw [List.length_append, List.map_append, ly]
      exact hown'
    obtain ⟨A', c', rfl, hS⟩ := Slc.of_own (n := xs.length + m) hO (by simp [ly])
    exact h A' c' w' hS hg
theorem litRI (w : World) (u : Int) : RI (w.alloc (.cells #[.int .i64 u] 2)) (w.alloc (.cells #[.int .i64 u] 2)).heap.size (some ⟨w.heap.size, 0, none⟩) [u] := (Slc.lit1 w w.heap.size u (Nat.le_refl _)).ri_
theorem RI.belowAll {w w' : World} {A : Option Addr} {xs : List Int} (h : RI w w.heap.size A xs) (hb : Below w.heap.size w w') : RI w' w'.heap.size A xs := fun hp => by
  obtain ⟨b, o, e, hbb, hc⟩ := h hp
  exact ⟨b, o, e, by have := hb.size; omega, fun j hj => (hb.cell (p := ⟨b, o + j, none⟩) hbb).trans (hc j hj)⟩

theorem grown_below2 {w w1 w' : World} {row : Option Nat} (h : w.grownBy w1 row) (b : Below w1.heap.size w1 w') : w.grownBy w' row :=
  ⟨b.os.trans h.os, b.tape.trans h.tape, b.output.trans h.output, Nat.le_trans h.size b.size, fun k hk hn => (b.block k (Nat.lt_of_lt_of_le hk h.size)).trans (h.block k hk hn)⟩
theorem below_undrew {w w' : World} (h : Below w.drew.heap.size w.drew w') : Below w.heap.size w w' := ⟨h.os, h.tape, h.output, h.size, h.block⟩
theorem below_undrewA {w w' : World} {o : Obj} (h : Below (w.drew.alloc o).heap.size (w.drew.alloc o) w') : Below (w.alloc o).heap.size (w.alloc o) w' := ⟨h.os, h.tape, h.output, h.size, h.block⟩

/-- copyInts of what can be read. -/
theorem copyRI (g off n c : Nat) (xs : List Int) (w : World) (h : RI w w.heap.size (some ⟨g, off, none⟩) xs) (lx : xs.length = n) (hn : n ≤ 1000000) :
    Calls Try.prog 84 #[.slice (some ⟨g, off, none⟩) n c] w fun e w' => ∃ A' c', e = .returned (.slice A' n c') ∧ Slc w' w.heap.size A' n c' xs ∧ Below w.heap.size w w' := by
  have H0 := Lib.hid (Slc.lit0 w w.heap.size (Nat.le_refl _))
  have H : Hid (RI (w.alloc (.cells #[] 2)) (w.alloc (.cells #[] 2)).heap.size (some ⟨g, off, none⟩) xs) := Lib.hid fun hp => by
    obtain ⟨b, o, e, hb, hc⟩ := h hp
    exact ⟨b, o, e, by simp; omega, fun j hj => by rw [World.cell?_alloc_lt w _ ⟨b, o + j, none⟩ hb]; exact hc j hj⟩
  clear h
  go_enter Try.func84, Try.ntmps84
  go_wp2_with (first | (at_builtin; refine wpList_appN rfl _ _ rfl w.heap.size (some ⟨w.heap.size, 0, none⟩) 0 0 [] rfl H0.out g off n c xs rfl H.out lx (by omega) (by simp) ?_; intro A' c' w' s1 g1))
  have S1 : Hid (Slc w' w.heap.size A' n c' xs) := Lib.hid (by simpa using s1)
  have B1 : Hid (Below w.heap.size w w') := Lib.hid (((Below.refl _ w).alloc (Nat.le_refl _) _).grown g1 (by simp) (fun k e => by simp [Value.ownBlock] at e; omega))
  clear s1 g1
  go_wp2
  go_ret
  exact ⟨_, _, by simp, S1.out, B1.out⟩

theorem grown_alloc2 {w w1 : World} {row : Option Nat} (h : w.grownBy w1 row) (o : Obj) : w.grownBy (w1.alloc o) row :=
  ⟨h.os, h.tape, h.output, Nat.le_trans h.size (by simp), fun k hk hn => (Below.heap_alloc w1 o k (Nat.lt_of_lt_of_le hk h.size)).trans (h.block k hk hn)⟩
theorem takeRI {w : World} {B q off : Nat} {xs : List Int} (h : RI w B (some ⟨q, off, none⟩) xs) (r : Nat) : RI w B (some ⟨q, off, none⟩) (xs.take r) := fun hp => by
  have hl : (xs.take r).length ≤ xs.length := by rw [List.length_take]; omega
  obtain ⟨b, o, e, hb, hc⟩ := h (by omega)
  refine ⟨b, o, e, hb, fun j hj => ?_⟩
  rw [hc j (by omega)]
  have : (xs.take r).getD j 0 = xs.getD j 0 := by
    rw [List.length_take] at hj
    rw [List.getD_eq_getElem?_getD, List.getElem?_take, if_pos (by omega), ← List.getD_eq_getElem?_getD]
  rw [this]
theorem dropRI {w w' : World} {base q k c r off : Nat} {xs : List Int} (h : Slc w base (some ⟨q, 0, none⟩) k c xs) (hb : Below w.heap.size w w') (ho : r < k → off = r) : RI w' w'.heap.size (some ⟨q, off, none⟩) (xs.drop r) := fun hp => by
  have lx := h.1
  rw [List.length_drop] at hp
  obtain rfl := ho (by omega)
  have hri : RI w w.heap.size (some ⟨q, 0, none⟩) xs := h.ri_
  have hq := (h.lt_ q rfl).2
  refine ⟨q, _, rfl, by have := hb.size; omega, fun j hj => ?_⟩
  rw [List.length_drop] at hj
  rw [hb.cell (p := ⟨q, _, none⟩) hq]
  have := (hri.cellAt (j := off + j) (by omega)).2
  rw [Nat.zero_add] at this
  rw [this, List.getD_eq_getElem?_getD, List.getD_eq_getElem?_getD, List.getElem?_drop]

set_option maxRecDepth 100000 in
set_option maxHeartbeats 2000000 in
theorem drawPerm (g n : Nat) (w : World) (hs : Src w g) (hn : n ≤ 100) :
    Calls Try.prog 103 #[.pointer (some ⟨g, 0, none⟩), .int .i64 (n : Int)] w fun e w' => ∃ q c xs, e = .returned (.slice (some ⟨q, 0, none⟩) n c) ∧ Slc w' w.heap.size (some ⟨q, 0, none⟩) n c xs ∧ Src w' g ∧ w.grownBy w' (some g) := by
  have Hs := Lib.hid hs
  have hg := hs.lt
  clear hs
  go_enter Try.func103, Try.ntmps103
  go_wp2_with fail
  go_loopg [5, 6, 7] n (fun gg v i _ wr => ∃ k q c xs, k ≤ n ∧ n - k ≤ gg ∧ i = .int .i64 (k : Nat) ∧ v = .slice (some ⟨q, 0, none⟩) k c ∧ Slc wr w.heap.size (some ⟨q, 0, none⟩) k c xs ∧ Src wr g ∧ w.grownBy wr (some g))
  case atStart => exact ⟨0, _, _, [], Nat.zero_le _, by omega, rfl, rfl, Slc.lit0 w _ (Nat.le_refl _), Hs.out.below ((Below.refl w.heap.size w).alloc (Nat.le_refl _) _) hg, grown_alloc2 (grown_refl _ _) _⟩
  case round =>
    obtain ⟨k, q, c, xs, hk, hgg, rfl, rfl, sl, src, gro⟩ := hrel
    have Sl := Lib.hid sl
    have Sr := Lib.hid src
    have Gr := Lib.hid gro
    have hkc := sl.le.1
    clear sl src gro
    by_cases hlt : k < n
    · go_wp2_with fail
      refine (srcBelow g _ (k + 1) wr Sr.out (by push_cast; rfl) (by omega) (by omega)).mono ?_
      rintro e w1 ⟨r, hr, rfl, s1, g1⟩
      have Sr1 := Lib.hid s1
      have Gr1 : Hid (w.grownBy w1 (some g)) := Lib.hid (grown_trans' Gr.out g1)
      have Sl1 : Hid (Slc w1 w.heap.size (some ⟨q, 0, none⟩) k c xs) := Lib.hid (Sl.out.kept g1 (.inr (by have := (Sl.out.lt_ q rfl).1; intro e; simp [Value.ownBlock] at e; omega)))
      have p0 : (0 : Int) ≤ r := by omega
      have p1 : (r : Int) ≤ k := by omega
      have p2 : (r : Int) ≤ c := by omega
      have p3 : r ≤ k := by omega
      have p4 : r ≤ c := by omega
      have lxs : xs.length = k := Sl1.out.1
      have RIt : Hid (RI w1 w1.heap.size (some ⟨q, 0, none⟩) (xs.take r)) := Lib.hid (takeRI Sl1.out.ri_ r)
      have ltk : Hid ((xs.take r).length = r) := Lib.hid (by rw [List.length_take]; omega)
      have ldr : Hid ((xs.drop r).length = k - r) := Lib.hid (by rw [List.length_drop]; omega)
      have hwb := Gr1.out.size
      clear s1 g1 lxs
      have RItA : Hid (RI (w1.alloc (.cells #[.int .i64 (k : Int)] 2)) (w1.alloc (.cells #[.int .i64 (k : Int)] 2)).heap.size (some ⟨q, 0, none⟩) (xs.take r)) := Lib.hid (RIt.out.belowAll ((Below.refl _ _).alloc (Nat.le_refl _) _))
      have Lit : Hid (RI (w1.alloc (.cells #[.int .i64 (k : Int)] 2)) (w1.alloc (.cells #[.int .i64 (k : Int)] 2)).heap.size (some ⟨w1.heap.size, 0, none⟩) [(k : Int)]) := Lib.hid (litRI w1 k)
      have DrX : Hid (∀ w3 : World, Below w1.heap.size w1 w3 → RI w3 w3.heap.size (some ⟨q, r, none⟩) (xs.drop r)) := Lib.hid fun w3 hb => dropRI Sl1.out hb fun _ => rfl
      have ld0 : Hid (c = r → (xs.drop r).length = 0) := Lib.hid fun e => by have := ldr.out; omega
      have Dr0 : Hid (c = r → ∀ w3 : World, Below w1.heap.size w1 w3 → RI w3 w3.heap.size (some ⟨q, 0, none⟩) (xs.drop r)) := Lib.hid fun e w3 hb => dropRI Sl1.out hb fun h => by omega
      by_cases hcr : c = r
      · obtain rfl : k = r := by omega
        subst hcr
        go_wp2_with fail
        go_region_law (first
          | (refine step_appN rfl (.tmp 21) (.tmp 23) rfl w1.heap.size A2 c c2 (xs.take c) ?_ (s2.alloc _) w2.heap.size 0 1 1 [(c : Int)] ?_ (litRI w2 c) rfl ?_ ?_ (c + 1) rfl ?_; (simp [Act.eval, Act.put]); (simp [Act.eval, Act.put]); (omega); (have hz := b2.size; simp at hz ⊢; omega); (intro A3 c3 w3 s3 g3; have bb : Below w1.heap.size w1 w3 := (Below.alloc b2 b2.size _).grown g3 (by have hz := b2.size; simp at hz ⊢; omega) (fun j hj => (s2.lt_ j hj).1)))
          | (refine step_appN rfl (.tmp 21) (.tmp 23) rfl w1.heap.size A2 c c2 (xs.take c) ?_ (s2.mono (by simp)) w1.heap.size 0 1 1 [(c : Int)] ?_ (Lit.out.belowAll b2) rfl ?_ ?_ (c + 1) rfl ?_; (simp [Act.eval, Act.put]); (simp [Act.eval, Act.put]); (omega); (have hz := b2.size; simp at hz ⊢; omega); (intro A3 c3 w3 s3 g3; have bb : Below w1.heap.size w1 w3 := (btr ((Below.refl w1.heap.size w1).alloc (Nat.le_refl _) _) b2).grown g3 (by have hz := b2.size; simp at hz ⊢; omega) (fun j hj => Nat.le_trans (by simp) (s2.lt_ j hj).1)))
          | (refine step_appN rfl (.tmp 24) (.tmp 27) rfl w1.heap.size A3 (c + 1) c3 _ ?_ s3 q 0 0 0 (xs.drop c) ?_ (Dr0.out trivial _ bb) (ld0.out trivial) ?_ ?_ (c + 1) ?_ ?_; (simp [Act.eval, Act.put]); (simp [Act.eval, Act.put]); (omega); (have hz := bb.size; omega); (omega); (intro A4 c4 w4 s4 g4))
          | (go_simp; go_wp2_with (go_at_call 84; (first | refine (copyRI q 0 c _ (xs.take c) w1.drew RIt.out ltk.out (by omega)).mono ?_ | refine (copyRI q 0 c _ (xs.take c) (w1.alloc (.cells #[.int .i64 (c : Int)] 2)).drew RItA.out ltk.out (by omega)).mono ?_); rintro e w2 ⟨A2, c2, rfl, s2, b20⟩; have b2 := below_undrew b20; clear b20)))
        all_goals
          have B4 : Hid (Below w1.heap.size w1 w4) := Lib.hid (bb.grown g4 bb.size (fun j hj => (s3.lt_ j hj).1))
          have Sr4 := Lib.hid (Sr1.out.below B4.out (Nat.lt_of_lt_of_le hg hwb))
          have Gr4 := Lib.hid (grown_below2 Gr1.out B4.out)
          obtain ⟨q4, e4⟩ : ∃ q4, A4 = some ⟨q4, 0, none⟩ := by
            rcases s4.at_ with ⟨_, _, e0, _⟩ | ⟨q4, e0, _, _⟩
            · omega
            · exact ⟨q4, e0⟩
          subst e4
          have S4 := Lib.hid (s4.mono hwb)
          clear s4 g4 s3 g3 s2 b2 bb
          go_wp2_with fail
          go_roundg (n - (c + 1))
          case rel => exact ⟨c + 1, _, _, _, by omega, Nat.le_refl _, by go_num, rfl, S4.out, Sr4.out, Gr4.out⟩
          case measure => omega
      · go_wp2_with fail
        go_region_law (first
          | (refine step_appN rfl (.tmp 21) (.tmp 23) rfl w1.heap.size A2 r c2 (xs.take r) ?_ (s2.alloc _) w2.heap.size 0 1 1 [(k : Int)] ?_ (litRI w2 k) rfl ?_ ?_ (r + 1) rfl ?_; (simp [Act.eval, Act.put]); (simp [Act.eval, Act.put]); (omega); (have hz := b2.size; simp at hz ⊢; omega); (intro A3 c3 w3 s3 g3; have bb : Below w1.heap.size w1 w3 := (Below.alloc b2 b2.size _).grown g3 (by have hz := b2.size; simp at hz ⊢; omega) (fun j hj => (s2.lt_ j hj).1)))
          | (refine step_appN rfl (.tmp 21) (.tmp 23) rfl w1.heap.size A2 r c2 (xs.take r) ?_ (s2.mono (by simp)) w1.heap.size 0 1 1 [(k : Int)] ?_ (Lit.out.belowAll b2) rfl ?_ ?_ (r + 1) rfl ?_; (simp [Act.eval, Act.put]); (simp [Act.eval, Act.put]); (omega); (have hz := b2.size; simp at hz ⊢; omega); (intro A3 c3 w3 s3 g3; have bb : Below w1.heap.size w1 w3 := (btr ((Below.refl w1.heap.size w1).alloc (Nat.le_refl _) _) b2).grown g3 (by have hz := b2.size; simp at hz ⊢; omega) (fun j hj => Nat.le_trans (by simp) (s2.lt_ j hj).1)))
          | (refine step_appN rfl (.tmp 24) (.tmp 27) rfl w1.heap.size A3 (r + 1) c3 _ ?_ s3 q r (k - r) (c - r) (xs.drop r) ?_ (DrX.out _ bb) ldr.out ?_ ?_ (k + 1) ?_ ?_; (simp [Act.eval, Act.put]); (simp [Act.eval, Act.put]); (omega); (have hz := bb.size; omega); (omega); (intro A4 c4 w4 s4 g4))
          | (go_simp; go_wp2_with (go_at_call 84; (first | refine (copyRI q 0 r _ (xs.take r) w1.drew RIt.out ltk.out (by omega)).mono ?_ | refine (copyRI q 0 r _ (xs.take r) (w1.alloc (.cells #[.int .i64 (k : Int)] 2)).drew RItA.out ltk.out (by omega)).mono ?_); rintro e w2 ⟨A2, c2, rfl, s2, b20⟩; have b2 := below_undrew b20; clear b20)))
        all_goals
          have B4 : Hid (Below w1.heap.size w1 w4) := Lib.hid (bb.grown g4 bb.size (fun j hj => (s3.lt_ j hj).1))
          have Sr4 := Lib.hid (Sr1.out.below B4.out (Nat.lt_of_lt_of_le hg hwb))
          have Gr4 := Lib.hid (grown_below2 Gr1.out B4.out)
          obtain ⟨q4, e4⟩ : ∃ q4, A4 = some ⟨q4, 0, none⟩ := by
            rcases s4.at_ with ⟨_, _, e0, _⟩ | ⟨q4, e0, _, _⟩
            · omega
            · exact ⟨q4, e0⟩
          subst e4
          have S4 := Lib.hid (s4.mono hwb)
          clear s4 g4 s3 g3 s2 b2 bb
          go_wp2_with fail
          go_roundg (n - (k + 1))
          case rel => exact ⟨k + 1, _, _, _, by omega, Nat.le_refl _, by go_num, rfl, S4.out, Sr4.out, Gr4.out⟩
          case measure => omega
    · have hkn : k = n := by omega
      subst hkn
      go_wp2_with fail
      go_ret
      exact ⟨_, _, _, rfl, Sl.out, Sr.out, Gr.out⟩
end Go.Proofs.Ytooafmifbplbhaa

/- Orbits under lists of maps, as a search in the order of discovery; sorted orbits; the sweep over all points. No Go in it. No condition. -/
namespace Go.Proofs.Ytooafmifbplbhaa

/-- A rearrangement of the points below N. -/
structure PM (N : Nat) (g : List Int) : Prop where
  len : g.length = N
  lo : ∀ i, i < N → 0 ≤ g.getD i 0
  hi : ∀ i, i < N → g.getD i 0 < N
  inj : ∀ i j, i < N → j < N → g.getD i 0 = g.getD j 0 → i = j
def PMs (N : Nat) (gs : List (List Int)) : Prop := ∀ g ∈ gs, PM N g

theorem PM.nx_lt {N : Nat} {g : List Int} (h : PM N g) {x : Nat} (hx : x < N) : nx g x < N := by
  have := h.lo x hx; have := h.hi x hx; unfold nx; omega
theorem PM.nx_val {N : Nat} {g : List Int} (h : PM N g) {x : Nat} (hx : x < N) : g.getD x 0 = (nx g x : Int) := by
  have := h.lo x hx; unfold nx; omega
theorem PM.nx_inj {N : Nat} {g : List Int} (h : PM N g) {x y : Nat} (hx : x < N) (hy : y < N) (e : nx g x = nx g y) : x = y :=
  h.inj x y hx hy (by rw [h.nx_val hx, h.nx_val hy, e])
theorem IsP.pm {p : List Int} (h : IsP p) : PM p.length p := ⟨rfl, h.lo, h.hi, h.inj⟩

theorem nd_sub {l' : List Nat} : ∀ {l : List Nat}, l'.Nodup → (∀ x ∈ l', x ∈ l) → l'.length ≤ l.length := by
  induction l' with
  | nil => intro l _ _; simp
  | cons a t ih =>
    intro l hd h
    rw [List.nodup_cons] at hd
    have ha : a ∈ l := h a (by simp)
    have := ih (l := l.erase a) hd.2 fun x hx => by
      have hne : x ≠ a := fun e => hd.1 (e ▸ hx)
      exact (List.mem_erase_of_ne hne).2 (h x (by simp [hx]))
    rw [List.length_erase_of_mem ha] at this
    have h0 : 0 < l.length := List.length_pos_of_mem ha
    simp; omega
/-- A nodup list within another of the same length is all of it. -/
theorem nd_all {l' l : List Nat} (hd : l'.Nodup) (h : ∀ x ∈ l', x ∈ l) (hl : l.length ≤ l'.length) : ∀ y ∈ l, y ∈ l' := fun y hy => by
  rcases Decidable.em (y ∈ l') with h1 | h1
  · exact h1
  · have := nd_sub (l' := y :: l') (l := l) (List.nodup_cons.2 ⟨h1, hd⟩) (fun x hx => by
      rcases List.mem_cons.1 hx with rfl | hx
      · exact hy
      · exact h x hx)
    simp at this; omega
theorem nd_map {f : Nat → Nat} {l : List Nat} (hd : l.Nodup) (hf : ∀ x ∈ l, ∀ y ∈ l, f x = f y → x = y) : (l.map f).Nodup := by
  induction l with
  | nil => simp
  | cons a t ih =>
    rw [List.nodup_cons] at hd
    rw [List.map_cons, List.nodup_cons]
    refine ⟨fun hm => ?_, ih hd.2 fun x hx y hy => hf x (by simp [hx]) y (by simp [hy])⟩
    obtain ⟨b, hb, e⟩ := List.mem_map.1 hm
    have := hf b (by simp [hb]) a (by simp) e
    subst this
    exact hd.1 hb

/-! ### reach -/
inductive Rch (gs : List (List Int)) (x : Nat) : Nat → Prop
  | refl : Rch gs x x
  | step {u : Nat} {g : List Int} : Rch gs x u → g ∈ gs → Rch gs x (nx g u)
section
variable {gs : List (List Int)} {N x y z : Nat}
theorem Rch.trans (h : Rch gs x y) (k : Rch gs y z) : Rch gs x z := by
  induction k with
  | refl => exact h
  | step _ hg ih => exact ih.step hg
theorem Rch.lt (hp : PMs N gs) (hx : x < N) (h : Rch gs x y) : y < N := by
  induction h with
  | refl => exact hx
  | step _ hg ih => exact (hp _ hg).nx_lt ih
end

/-! ### the search -/
def addN (f : List Nat) (y : Nat) : List Nat := if y ∈ f then f else f ++ [y]
def expd (gs : List (List Int)) (u : Nat) (f : List Nat) : List Nat := gs.foldl (fun f g => addN f (nx g u)) f
def bfs (gs : List (List Int)) : Nat → Nat → List Nat → List Nat
  | 0, _, f => f
  | fuel + 1, i, f => if i < f.length then bfs gs fuel (i + 1) (expd gs (f.getD i 0) f) else f
/-- The orbit of x in the order of discovery. -/
def orb (gs : List (List Int)) (N x : Nat) : List Nat := bfs gs (N + 1) 0 [x]

theorem bfs_go {gs : List (List Int)} {N i : Nat} {f : List Nat} (hi : i < f.length) (hl : f.length ≤ N) : bfs gs (N + 1 - i) i f = bfs gs (N + 1 - (i + 1)) (i + 1) (expd gs (f.getD i 0) f) := by
  obtain ⟨k, hk⟩ : ∃ k, N + 1 - i = k + 1 := ⟨N - i, by omega⟩
  have hk' : N + 1 - (i + 1) = k := by omega
  rw [hk, hk', bfs, if_pos hi]
theorem bfs_end {gs : List (List Int)} {N i : Nat} {f : List Nat} (hi : f.length ≤ i) : bfs gs (N + 1 - i) i f = f := by
  cases N + 1 - i with
  | zero => rfl
  | succ k => rw [bfs, if_neg (by omega)]

/-- What the search holds of its list. -/
structure Fd (gs : List (List Int)) (N x : Nat) (f : List Nat) : Prop where
  nd : f.Nodup
  lt : ∀ y ∈ f, y < N
  rch : ∀ y ∈ f, Rch gs x y
  pre : ∃ t, f = x :: t
section
variable {gs : List (List Int)} {N x : Nat} {f : List Nat}
theorem Fd.len (h : Fd gs N x f) : f.length ≤ N := ndlen N f h.nd h.lt
theorem Fd.pos (h : Fd gs N x f) : 0 < f.length := by obtain ⟨t, rfl⟩ := h.pre; simp
theorem Fd.one (hx : x < N) : Fd gs N x [x] := ⟨by simp, by simpa using hx, by simpa using Rch.refl, ⟨[], rfl⟩⟩
theorem addN_pre (f : List Nat) (y : Nat) : ∃ t, addN f y = f ++ t := by
  unfold addN; split
  · exact ⟨[], by simp⟩
  · exact ⟨[y], rfl⟩
theorem mem_addN {f : List Nat} {y z : Nat} : z ∈ addN f y ↔ z ∈ f ∨ z = y := by
  unfold addN; split
  · rename_i h
    exact ⟨.inl, fun h' => h'.elim id (fun e => e ▸ h)⟩
  · simp
theorem Fd.add (h : Fd gs N x f) {y : Nat} (hy : y < N) (hr : Rch gs x y) : Fd gs N x (addN f y) := by
  obtain ⟨t, rfl⟩ := h.pre
  refine ⟨?_, fun z hz => ?_, fun z hz => ?_, ?_⟩
  · unfold addN; split
    · exact h.nd
    · rename_i hn
      rw [List.nodup_append]
      refine ⟨h.nd, by simp, fun a ha b hb e => ?_⟩
      obtain rfl : b = y := by simpa using hb
      exact hn (e ▸ ha)
  · rcases mem_addN.1 hz with h1 | rfl
    · exact h.lt z h1
    · exact hy
  · rcases mem_addN.1 hz with h1 | rfl
    · exact h.rch z h1
    · exact hr
  · obtain ⟨t', e⟩ := addN_pre (x :: t) y
    exact ⟨t ++ t', by rw [e]; rfl⟩
theorem expd_pre (gs : List (List Int)) (u : Nat) : ∀ f : List Nat, ∃ t, expd gs u f = f ++ t := by
  unfold expd
  induction gs with
  | nil => intro f; exact ⟨[], by simp⟩
  | cons g gs ih =>
    intro f
    obtain ⟨t, e⟩ := addN_pre f (nx g u)
    obtain ⟨t', e'⟩ := ih (addN f (nx g u))
    exact ⟨t ++ t', by rw [List.foldl_cons, e', e, List.append_assoc]⟩
theorem expd_mem (gs : List (List Int)) (u : Nat) : ∀ f : List Nat, ∀ g ∈ gs, nx g u ∈ expd gs u f := by
  unfold expd
  induction gs with
  | nil => intro f g hg; cases hg
  | cons g gs ih =>
    intro f g' hg'
    rw [List.foldl_cons]
    rcases List.mem_cons.1 hg' with rfl | hg'
    · obtain ⟨t, e⟩ := expd_pre gs u (addN f (nx g' u))
      unfold expd at e
      rw [e, List.mem_append]
      exact .inl (mem_addN.2 (.inr rfl))
    · exact ih _ g' hg'
theorem Fd.fold (hp : PMs N gs) {u : Nat} (hu : u < N) (hr : Rch gs x u) : ∀ (l : List (List Int)), (∀ g ∈ l, g ∈ gs) → ∀ f : List Nat, Fd gs N x f → Fd gs N x (l.foldl (fun f g => addN f (nx g u)) f)
  | [], _, f, h => h
  | g :: l, hl, f, h => by
    rw [List.foldl_cons]
    exact Fd.fold hp hu hr l (fun g' hg' => hl g' (by simp [hg'])) _ (h.add ((hp g (hl g (by simp))).nx_lt hu) (hr.step (hl g (by simp))))
theorem getD_memN {l : List Nat} {i : Nat} (h : i < l.length) : l.getD i 0 ∈ l := by
  rw [List.getD_eq_getElem?_getD, List.getElem?_eq_getElem h]
  exact List.getElem_mem h
theorem getD_preN {l t : List Nat} {i : Nat} (h : i < l.length) : (l ++ t).getD i 0 = l.getD i 0 := by
  rw [List.getD_eq_getElem?_getD, List.getElem?_append_left h, ← List.getD_eq_getElem?_getD]
theorem Fd.exp (hp : PMs N gs) (h : Fd gs N x f) {i : Nat} (hi : i < f.length) : Fd gs N x (expd gs (f.getD i 0) f) :=
  Fd.fold hp (h.lt _ (getD_memN hi)) (h.rch _ (getD_memN hi)) gs (fun _ h => h) f h
/-- The first i are expanded. -/
def Cl (gs : List (List Int)) (i : Nat) (f : List Nat) : Prop := ∀ j, j < i → ∀ g ∈ gs, nx g (f.getD j 0) ∈ f
theorem Cl.exp {i : Nat} (h : Cl gs i f) (hi : i < f.length) : Cl gs (i + 1) (expd gs (f.getD i 0) f) := by
  obtain ⟨t, e⟩ := expd_pre gs (f.getD i 0) f
  intro j hj g hg
  by_cases e2 : j = i
  · subst e2
    have := expd_mem gs (f.getD j 0) f g hg
    rw [e] at this ⊢
    rw [getD_preN hi]
    exact this
  · rw [e, getD_preN (by omega), List.mem_append]
    exact .inl (h j (by omega) g hg)
theorem bfs_spec (hp : PMs N gs) : ∀ (fuel i : Nat) (f : List Nat), Fd gs N x f → Cl gs i f → i ≤ f.length → N + 1 ≤ fuel + i → Fd gs N x (bfs gs fuel i f) ∧ Cl gs (bfs gs fuel i f).length (bfs gs fuel i f)
  | 0, i, f, h, c, hi, hf => by have := h.len; omega
  | fuel + 1, i, f, h, c, hi, hf => by
    rw [bfs]
    split
    · rename_i hlt
      have hpre := expd_pre gs (f.getD i 0) f
      exact bfs_spec hp fuel (i + 1) _ (h.exp hp hlt) (c.exp hlt) (by obtain ⟨t, e⟩ := hpre; rw [e, List.length_append]; omega) (by omega)
    · obtain rfl : i = f.length := by omega
      exact ⟨h, c⟩
end

section
variable {gs : List (List Int)} {N : Nat}
theorem orb_fd (hp : PMs N gs) {x : Nat} (hx : x < N) : Fd gs N x (orb gs N x) :=
  (bfs_spec hp (N + 1) 0 [x] (Fd.one hx) (fun j hj => absurd hj (by omega)) (Nat.zero_le _) (by omega)).1
theorem orb_cl (hp : PMs N gs) {x : Nat} (hx : x < N) : Cl gs (orb gs N x).length (orb gs N x) :=
  (bfs_spec hp (N + 1) 0 [x] (Fd.one hx) (fun j hj => absurd hj (by omega)) (Nat.zero_le _) (by omega)).2
theorem orb_self (hp : PMs N gs) {x : Nat} (hx : x < N) : x ∈ orb gs N x := by
  obtain ⟨t, e⟩ := (orb_fd hp hx).pre
  rw [e]; simp
theorem orb_step (hp : PMs N gs) {x u : Nat} (hx : x < N) (hu : u ∈ orb gs N x) {g : List Int} (hg : g ∈ gs) : nx g u ∈ orb gs N x := by
  obtain ⟨j, hj, e⟩ := List.mem_iff_getElem.1 hu
  have := orb_cl hp hx j hj g hg
  rw [List.getD_eq_getElem?_getD, List.getElem?_eq_getElem hj] at this
  simpa [e] using this
theorem orb_iff (hp : PMs N gs) {x y : Nat} (hx : x < N) : y ∈ orb gs N x ↔ Rch gs x y := by
  refine ⟨(orb_fd hp hx).rch y, fun h => ?_⟩
  induction h with
  | refl => exact orb_self hp hx
  | step _ hg ih => exact orb_step hp hx ih hg
theorem orb_lt (hp : PMs N gs) {x y : Nat} (hx : x < N) (h : y ∈ orb gs N x) : y < N := (orb_fd hp hx).lt y h
theorem orb_sub (hp : PMs N gs) {x y z : Nat} (hx : x < N) (hy : y ∈ orb gs N x) (hz : z ∈ orb gs N y) : z ∈ orb gs N x := by
  have hy' := orb_lt hp hx hy
  rw [orb_iff hp hx] at hy ⊢
  rw [orb_iff hp hy'] at hz
  exact hy.trans hz
/-- Whoever comes into an orbit came out of it. -/
theorem orb_back (hp : PMs N gs) {x u : Nat} (hx : x < N) (hu : u < N) {g : List Int} (hg : g ∈ gs) (h : nx g u ∈ orb gs N x) : u ∈ orb gs N x := by
  have hf := orb_fd hp hx
  have h1 : ((orb gs N x).map (nx g)).Nodup := nd_map hf.nd fun a ha b hb e => (hp g hg).nx_inj (hf.lt a ha) (hf.lt b hb) e
  have h2 := nd_all h1 (l := orb gs N x) (fun a ha => by
    obtain ⟨b, hb, rfl⟩ := List.mem_map.1 ha
    exact orb_step hp hx hb hg) (by simp) _ h
  obtain ⟨b, hb, e⟩ := List.mem_map.1 h2
  rw [← (hp g hg).nx_inj (hf.lt b hb) hu e]
  exact hb
theorem rch_symm (hp : PMs N gs) {x y : Nat} (hx : x < N) (h : Rch gs x y) : Rch gs y x := by
  have hx' : x ∈ orb gs N y := by
    have : ∀ z, Rch gs x z → ∀ y, y < N → z ∈ orb gs N y → x ∈ orb gs N y := by
      intro z hz
      induction hz with
      | refl => intro y _ h; exact h
      | step hu hg ih => intro y hy h; exact ih y hy (orb_back hp hy (hu.lt hp hx) hg h)
    exact this y h y (h.lt hp hx) (orb_self hp (h.lt hp hx))
  exact (orb_iff hp (h.lt hp hx)).1 hx'
theorem orb_symm (hp : PMs N gs) {x y : Nat} (hx : x < N) (h : y ∈ orb gs N x) : x ∈ orb gs N y := by
  have hy := orb_lt hp hx h
  rw [orb_iff hp hx] at h
  rw [orb_iff hp hy]
  exact rch_symm hp hx h
end

/-! ### sorted -/
def oN (gs : List (List Int)) (N x : Nat) : List Nat := (List.range N).filter fun y => decide (y ∈ orb gs N x)
def oS (gs : List (List Int)) (N x : Nat) : List Int := (oN gs N x).map Int.ofNat
theorem mem_oN {gs : List (List Int)} {N x y : Nat} : y ∈ oN gs N x ↔ y < N ∧ y ∈ orb gs N x := by simp [oN]
theorem oN_nd (gs : List (List Int)) (N x : Nat) : (oN gs N x).Nodup := List.nodup_range.filter _
theorem oN_len {gs : List (List Int)} {N : Nat} (hp : PMs N gs) {x : Nat} (hx : x < N) : (oN gs N x).length = (orb gs N x).length :=
  Nat.le_antisymm (nd_sub (oN_nd gs N x) fun y hy => (mem_oN.1 hy).2) (nd_sub (orb_fd hp hx).nd fun y hy => mem_oN.2 ⟨orb_lt hp hx hy, hy⟩)
theorem oN_perm {gs : List (List Int)} {N : Nat} (hp : PMs N gs) {x : Nat} (hx : x < N) : (orb gs N x).Perm (oN gs N x) :=
  (List.perm_ext_iff_of_nodup (orb_fd hp hx).nd (oN_nd gs N x)).2 fun y => ⟨fun hy => mem_oN.2 ⟨orb_lt hp hx hy, hy⟩, fun hy => (mem_oN.1 hy).2⟩
theorem oS_sorted (gs : List (List Int)) (N x : Nat) : (oS gs N x).Pairwise fun a b => a ≤ b := by
  unfold oS oN
  rw [List.pairwise_map]
  refine List.Pairwise.filter _ ?_
  exact (List.pairwise_lt_range (n := N)).imp fun h => by simp; omega
theorem sorted_uniq : ∀ {l l' : List Int}, l.Perm l' → l.Pairwise (· ≤ ·) → l'.Pairwise (· ≤ ·) → l = l' := fun hp h1 h2 =>
  hp.eq_of_pairwise (fun a b _ _ h h' => Int.le_antisymm h h') h1 h2
/-- Whatever sorts the search's list comes to the same list. -/
theorem oS_of {gs : List (List Int)} {N : Nat} (hp : PMs N gs) {x : Nat} (hx : x < N) {l : List Int} (h : l.Perm ((orb gs N x).map Int.ofNat)) (hs : l.Pairwise (· ≤ ·)) : l = oS gs N x :=
  sorted_uniq (h.trans ((oN_perm hp hx).map _)) hs (oS_sorted gs N x)
theorem oS_sort {gs : List (List Int)} {N : Nat} (hp : PMs N gs) {x : Nat} (hx : x < N) : (((orb gs N x).map Int.ofNat).mergeSort fun a b => decide (a ≤ b)) = oS gs N x := by
  refine oS_of hp hx (List.mergeSort_perm _ _) ?_
  have := List.pairwise_mergeSort (le := fun a b : Int => decide (a ≤ b)) (fun a b c h1 h2 => by simp at h1 h2 ⊢; omega) (fun a b => by simp; omega) ((orb gs N x).map Int.ofNat)
  exact this.imp fun h => by simpa using h

/-! ### the sweep -/
/-- y lies in the orbit of one of the first k. -/
def sn (gs : List (List Int)) (N k y : Nat) : Bool := (List.range k).any fun z => decide (y ∈ orb gs N z)
def starts (gs : List (List Int)) (N k : Nat) : List Nat := (List.range k).filter fun z => !sn gs N z z
def orbs (gs : List (List Int)) (N k : Nat) : List (List Int) := (starts gs N k).map (oS gs N)
section
variable {gs : List (List Int)} {N : Nat}
theorem sn_iff {k y : Nat} : sn gs N k y = true ↔ ∃ z, z < k ∧ y ∈ orb gs N z := by simp [sn]
theorem sn_zero (y : Nat) : sn gs N 0 y = false := rfl
theorem sn_succ (k y : Nat) : sn gs N (k + 1) y = (sn gs N k y || decide (y ∈ orb gs N k)) := by
  simp [sn, List.range_succ]
theorem sn_seen (hp : PMs N gs) {k : Nat} (hk : k < N) (h : sn gs N k k = true) (y : Nat) : sn gs N (k + 1) y = sn gs N k y := by
  rw [sn_succ]
  rcases hy : sn gs N k y with _ | _
  · obtain ⟨z, hz, hkz⟩ := sn_iff.1 h
    have : ¬ y ∈ orb gs N k := fun hy' => by
      have : sn gs N k y = true := sn_iff.2 ⟨z, hz, orb_sub hp (by omega) hkz hy'⟩
      rw [hy] at this; cases this
    simp [this]
  · rfl
theorem sn_out (hp : PMs N gs) {k u : Nat} (hk : k ≤ N) (hu : u < N) (h : sn gs N k u = false) {g : List Int} (hg : g ∈ gs) : sn gs N k (nx g u) = false := by
  rcases h' : sn gs N k (nx g u) with _ | _
  · rfl
  · obtain ⟨z, hz, hm⟩ := sn_iff.1 h'
    have : sn gs N k u = true := sn_iff.2 ⟨z, hz, orb_back hp (by omega) hu hg hm⟩
    rw [h] at this; cases this
theorem starts_no {k : Nat} (h : sn gs N k k = true) : starts gs N (k + 1) = starts gs N k := by
  simp [starts, List.range_succ, h]
theorem starts_yes {k : Nat} (h : sn gs N k k = false) : starts gs N (k + 1) = starts gs N k ++ [k] := by
  simp [starts, List.range_succ, h]
theorem orbs_no {k : Nat} (h : sn gs N k k = true) : orbs gs N (k + 1) = orbs gs N k := by rw [orbs, starts_no h, orbs]
theorem orbs_yes {k : Nat} (h : sn gs N k k = false) : orbs gs N (k + 1) = orbs gs N k ++ [oS gs N k] := by rw [orbs, starts_yes h, orbs]; simp
theorem starts_le (k : Nat) : (starts gs N k).length ≤ k := by
  have := List.length_filter_le (fun z => !sn gs N z z) (List.range k)
  simpa [starts] using this
theorem orbs_len (k : Nat) : (orbs gs N k).length = (starts gs N k).length := by simp [orbs]
theorem starts_pre {k m : Nat} (h : k ≤ m) : ∃ t, starts gs N m = starts gs N k ++ t := by
  induction m with
  | zero => exact ⟨[], by obtain rfl : k = 0 := by omega
                          simp⟩
  | succ m ih =>
    by_cases e : k = m + 1
    · exact ⟨[], by rw [e]; simp⟩
    · obtain ⟨t, ht⟩ := ih (by omega)
      rcases hs : sn gs N m m with _ | _
      · exact ⟨t ++ [m], by rw [starts_yes hs, ht, List.append_assoc]⟩
      · exact ⟨t, by rw [starts_no hs, ht]⟩
theorem orbs_pre {k m : Nat} (h : k ≤ m) : ∃ t, orbs gs N m = orbs gs N k ++ t := by
  obtain ⟨t, ht⟩ := starts_pre (gs := gs) (N := N) h
  exact ⟨t.map (oS gs N), by rw [orbs, ht, List.map_append, orbs]⟩
/-- The next orbit that comes. -/
theorem orbs_at {k : Nat} (hk : k < N) (h : sn gs N k k = false) : (orbs gs N N).getD (orbs gs N k).length [] = oS gs N k ∧ (orbs gs N k).length < (orbs gs N N).length := by
  obtain ⟨t, ht⟩ := orbs_pre (gs := gs) (N := N) (show k + 1 ≤ N from hk)
  rw [ht, orbs_yes h]
  refine ⟨?_, by simp⟩
  rw [List.append_assoc, List.getD_eq_getElem?_getD, List.getElem?_append_right (Nat.le_refl _), Nat.sub_self]
  rfl
end
end Go.Proofs.Ytooafmifbplbhaa

/- IsGeneratorSet, of the program and of the model. Conditions: at most 1048576 lists of at most 1048576 numbers. -/
namespace Go.Proofs.Ytooafmifbplbhaa
open Go.RowKit

/-- What IsGeneratorSet answers. -/
def gB (n : Int) (gs : List (List Int)) : Bool := decide (1 ≤ n ∧ n ≤ 20 ∧ gs.length ≤ 8 ∧ ∀ g ∈ gs, (g.length : Int) = n ∧ isP g = true)
theorem gB_iff {n : Int} {gs : List (List Int)} : gB n gs = true ↔ 1 ≤ n ∧ n ≤ 20 ∧ gs.length ≤ 8 ∧ ∀ g ∈ gs, (g.length : Int) = n ∧ isP g = true := by simp [gB]
theorem gB_no {n : Int} {gs : List (List Int)} (h : ¬ (1 ≤ n ∧ n ≤ 20 ∧ gs.length ≤ 8)) : gB n gs = false := by
  rw [← Bool.not_eq_true, gB_iff]; exact fun h' => h ⟨h'.1, h'.2.1, h'.2.2.1⟩
theorem getD_memL {l : List (List Int)} {k : Nat} (hk : k < l.length) : l.getD k [] ∈ l := by
  rw [List.getD_eq_getElem?_getD, List.getElem?_eq_getElem hk]; exact List.getElem_mem hk
theorem gB_row {n : Int} {gs : List (List Int)} {k : Nat} {y : List Int} (hk : k < gs.length) (ey : gs.getD k [] = y) (h : ¬ ((y.length : Int) = n ∧ isP y = true)) : gB n gs = false := by
  rw [← Bool.not_eq_true, gB_iff]; exact fun h' => h (by rw [← ey]; exact h'.2.2.2 _ (getD_memL hk))
theorem gB_all {n : Int} {gs : List (List Int)} (h0 : 1 ≤ n ∧ n ≤ 20 ∧ gs.length ≤ 8) (h : ∀ j, j < gs.length → ((gs.getD j []).length : Int) = n ∧ isP (gs.getD j []) = true) : gB n gs = true := by
  refine gB_iff.2 ⟨h0.1, h0.2.1, h0.2.2, fun g hg => ?_⟩
  obtain ⟨j, hj, e⟩ := List.mem_iff_getElem.1 hg
  have := h j hj
  rw [List.getD_eq_getElem?_getD, List.getElem?_eq_getElem hj] at this
  simpa [e] using this
theorem gB_pm {n : Int} {gs : List (List Int)} (h : gB n gs = true) : ∃ N : Nat, n = (N : Int) ∧ 1 ≤ N ∧ N ≤ 20 ∧ gs.length ≤ 8 ∧ PMs N gs ∧ ∀ g ∈ gs, IsP g ∧ g.length = N := by
  obtain ⟨h1, h2, h3, h4⟩ := gB_iff.1 h
  refine ⟨n.toNat, by omega, by omega, by omega, h3, fun g hg => ?_, fun g hg => ⟨isP_iff.1 (h4 g hg).2, by have := (h4 g hg).1; omega⟩⟩
  have hl : g.length = n.toNat := by have := (h4 g hg).1; omega
  rw [← hl]
  exact (isP_iff.1 (h4 g hg).2).pm

set_option maxHeartbeats 1600000 in
/-- The program's IsGeneratorSet. -/
theorem implGS (a : Int) (A : Option Addr) (n c : Nat) (vs : List SV) (xss : List (List Int)) (w : World) (hx : RR w w.heap.size A n vs xss) (hn : n ≤ 1048576) (hl : Hid (∀ i, i < n → (vs.getD i sd0).2.1 ≤ 1048576)) :
    Calls Try.prog 47 #[.int .i64 a, .slice A n c] w fun e w' => e = .returned (.bool (gB a xss)) ∧ Below w.heap.size w w' := by
  have HX := Lib.hid hx
  have hlx := hx.lx
  clear hx
  by_cases h0 : a < 1
  · have d1 : decide (a < 1) = true := by simp; omega
    have Fin := Lib.hid (gB_no (n := a) (gs := xss) (by omega))
    go_enter Try.func47, Try.ntmps47
    go_wp2
    go_ret
    exact ⟨ret_bool Fin.out.symm, Below.refl _ _⟩
  · have d1 : decide (a < 1) = false := by simp; omega
    by_cases h1 : 20 < a
    · have d2 : decide (20 < a) = true := by simp; omega
      have Fin := Lib.hid (gB_no (n := a) (gs := xss) (by omega))
      go_enter Try.func47, Try.ntmps47
      go_wp2
      go_ret
      exact ⟨ret_bool Fin.out.symm, Below.refl _ _⟩
    · have d2 : decide (20 < a) = false := by simp; omega
      by_cases h2 : 8 < n
      · have d3 : decide ((8 : Int) < n) = true := by simp; omega
        have Fin := Lib.hid (gB_no (n := a) (gs := xss) (by omega))
        go_enter Try.func47, Try.ntmps47
        go_wp2
        go_ret
        exact ⟨ret_bool Fin.out.symm, Below.refl _ _⟩
      · have d3 : decide ((8 : Int) < n) = false := by simp; omega
        go_enter Try.func47, Try.ntmps47
        go_wp2
        go_loopw [20] (fun i wr => ∃ k : Nat, k ≤ n ∧ i = .int .i64 (k : Nat) ∧ (∀ j, j < k → ((xss.getD j []).length : Int) = a ∧ isP (xss.getD j []) = true) ∧ Below w.heap.size w wr) (fun i _ => n - (intOf i).toNat)
        case atStart => exact ⟨0, Nat.zero_le _, rfl, fun j h => absurd h (by omega), Below.refl _ _⟩
        case round =>
          obtain ⟨k, hk, rfl, hz, bel⟩ := hrel
          have Hz := Lib.hid hz
          have Be := Lib.hid bel
          clear hz bel
          by_cases hlt : k < n
          · obtain ⟨b, off, A5, l, c5, y, rfl, hb, ev, ey, hc0, hr0, hy, hlc⟩ := HX.out.at_ hlt
            have hl1 := hl.out k hlt
            rw [ev] at hl1
            have c1 := (Be.out.cell (p := ⟨b, off + k, none⟩) hb).trans hc0
            have R1 := Lib.hid ((hr0.below Be.out (Nat.le_refl _)).more Be.out.size)
            have Ey := Lib.hid ey
            have Hy : Hid (y.length = l) := Lib.hid hy
            clear ev ey hc0 hr0 hy
            by_cases hla : (l : Int) = a
            · rcases hp : isP y with _ | _
              · have Fin : Hid (gB a xss = false) := Lib.hid (gB_row (by rw [hlx]; exact hlt) Ey.out (by rw [hp]; simp))
                go_wp2_with fail
                refine (implIsP A5 c5 l y wr R1.out Hy (by omega)).mono ?_
                rintro e w2 ⟨rfl, b2⟩
                have B2 : Hid (Below w.heap.size w w2) := Lib.hid (btr Be.out b2)
                clear b2
                rw [hp]
                go_wp2_with fail
                go_ret
                exact ⟨ret_bool Fin.out.symm, B2.out⟩
              · go_wp2_with fail
                refine (implIsP A5 c5 l y wr R1.out Hy (by omega)).mono ?_
                rintro e w2 ⟨rfl, b2⟩
                have B2 : Hid (Below w.heap.size w w2) := Lib.hid (btr Be.out b2)
                clear b2
                have Hp : Hid (isP y = true) := Lib.hid hp
                rw [hp]
                clear hp
                go_wp2_with fail
                go_roundw
                case rel => exact ⟨k + 1, by omega, by go_num, fun j hj => by
                  by_cases e : j = k
                  · subst e; rw [Ey.out, Hy.out]; exact ⟨hla, Hp.out⟩
                  · exact Hz.out j (by omega), B2.out⟩
                case measure => simp [intOf]; omega
            · have Fin : Hid (gB a xss = false) := Lib.hid (gB_row (by rw [hlx]; exact hlt) Ey.out (by rw [Hy.out]; exact fun h => hla h.1))
              go_wp2_with fail
              go_ret
              exact ⟨ret_bool Fin.out.symm, Be.out⟩
          · have hkn : k = n := by omega
            subst hkn
            have Fin : Hid (gB a xss = true) := Lib.hid (gB_all ⟨by omega, by omega, by omega⟩ (fun j hj => Hz.out j (by rw [← hlx]; exact hj)))
            go_wp2
            go_ret
            exact ⟨ret_bool Fin.out.symm, Be.out⟩

set_option maxHeartbeats 1600000 in
/-- The model's IsGeneratorSet. -/
theorem specGS (a : Int) (A : Option Addr) (n c : Nat) (vs : List SV) (xss : List (List Int)) (w : World) (hx : RR w w.heap.size A n vs xss) (hn : n ≤ 1048576) (hl : Hid (∀ i, i < n → (vs.getD i sd0).2.1 ≤ 1048576)) (ha : -9223372036854775808 ≤ a ∧ a ≤ 9223372036854775807) :
    Calls Try.prog 26 #[.int .i64 a, .slice A n c] w fun e w' => e = .returned (.bool (gB a xss)) ∧ Below w.heap.size w w' := by
  have HX := Lib.hid hx
  have hlx := hx.lx
  clear hx
  by_cases h0 : 1 ≤ a ∧ a ≤ 20
  · by_cases h2 : 8 < n
    · have d3 : decide ((8 : Int) < n) = true := by simp; omega
      have Fin := Lib.hid (gB_no (n := a) (gs := xss) (by omega))
      go_enter Try.func26, Try.ntmps26
      go_wp2_with (go_at_call 65; refine (inR_true _ _ _ _ (by omega) (by omega)).mono ?_; rintro e w' ⟨rfl, rfl⟩)
      go_ret
      exact ⟨ret_bool Fin.out.symm, Below.refl _ _⟩
    · have d3 : decide ((8 : Int) < n) = false := by simp; omega
      go_enter Try.func26, Try.ntmps26
      go_wp2_with (go_at_call 65; refine (inR_true _ _ _ _ (by omega) (by omega)).mono ?_; rintro e w' ⟨rfl, rfl⟩)
      go_loopw [5] (fun i wr => ∃ k : Nat, k ≤ n ∧ i = .int .i64 (k : Nat) ∧ (∀ j, j < k → ((xss.getD j []).length : Int) = a ∧ isP (xss.getD j []) = true) ∧ Below w.heap.size w wr) (fun i _ => n - (intOf i).toNat)
      case atStart => exact ⟨0, Nat.zero_le _, rfl, fun j h => absurd h (by omega), Below.refl _ _⟩
      case round =>
        obtain ⟨k, hk, rfl, hz, bel⟩ := hrel
        have Hz := Lib.hid hz
        have Be := Lib.hid bel
        clear hz bel
        by_cases hlt : k < n
        · obtain ⟨b, off, A5, l, c5, y, rfl, hb, ev, ey, hc0, hr0, hy, hlc⟩ := HX.out.at_ hlt
          have hl1 := hl.out k hlt
          rw [ev] at hl1
          have c1 := (Be.out.cell (p := ⟨b, off + k, none⟩) hb).trans hc0
          have R1 := Lib.hid ((hr0.below Be.out (Nat.le_refl _)).more Be.out.size)
          have Ey := Lib.hid ey
          have Hy : Hid (y.length = l) := Lib.hid hy
          clear ev ey hc0 hr0 hy
          by_cases hla : (l : Int) = a
          · rcases hp : isP y with _ | _
            · have Fin : Hid (gB a xss = false) := Lib.hid (gB_row (by rw [hlx]; exact hlt) Ey.out (by rw [hp]; simp))
              go_wp2_with fail
              refine (quiet_below (specIsP A5 c5 l y wr R1.out Hy (by omega) hlc)).mono ?_
              rintro e w2 ⟨rfl, b2⟩
              have B2 : Hid (Below w.heap.size w w2) := Lib.hid (btr Be.out b2)
              clear b2
              rw [hp]
              go_wp2_with fail
              go_ret
              exact ⟨ret_bool Fin.out.symm, B2.out⟩
            · go_wp2_with fail
              refine (quiet_below (specIsP A5 c5 l y wr R1.out Hy (by omega) hlc)).mono ?_
              rintro e w2 ⟨rfl, b2⟩
              have B2 : Hid (Below w.heap.size w w2) := Lib.hid (btr Be.out b2)
              clear b2
              have Hp : Hid (isP y = true) := Lib.hid hp
              rw [hp]
              clear hp
              go_wp2_with fail
              go_roundw
              case rel => exact ⟨k + 1, by omega, by go_num, fun j hj => by
                by_cases e : j = k
                · subst e; rw [Ey.out, Hy.out]; exact ⟨hla, Hp.out⟩
                · exact Hz.out j (by omega), B2.out⟩
              case measure => simp [intOf]; omega
          · have Fin : Hid (gB a xss = false) := Lib.hid (gB_row (by rw [hlx]; exact hlt) Ey.out (by rw [Hy.out]; exact fun h => hla h.1))
            go_wp2_with fail
            go_ret
            exact ⟨ret_bool Fin.out.symm, Be.out⟩
        · have hkn : k = n := by omega
          subst hkn
          have Fin : Hid (gB a xss = true) := Lib.hid (gB_all ⟨by omega, by omega, by omega⟩ (fun j hj => Hz.out j (by rw [← hlx]; exact hj)))
          go_wp2
          go_ret
          exact ⟨ret_bool Fin.out.symm, Be.out⟩
  · have Fin := Lib.hid (gB_no (n := a) (gs := xss) (by omega))
    go_enter Try.func26, Try.ntmps26
    go_wp2_with (go_at_call 65; refine (inR_false _ _ _ _ (by omega)).mono ?_; rintro e w' ⟨rfl, rfl⟩)
    go_ret
    exact ⟨ret_bool Fin.out.symm, Below.refl _ _⟩
theorem implIsGeneratorSet (a : Int) (A : Option Addr) (n c : Nat) (vs : List SV) (xss : List (List Int)) (w : World) (hx : RR w w.heap.size A n vs xss) (hn : n ≤ 1048576) (hl : Hid (∀ i, i < n → (vs.getD i sd0).2.1 ≤ 1048576)) :
    Calls Try.prog 47 #[.int .i64 a, .slice A n c] w fun e w' => e = .returned (.bool (gB a xss)) ∧ Below w.heap.size w w' := implGS a A n c vs xss w hx hn hl
theorem specIsGeneratorSet (a : Int) (A : Option Addr) (n c : Nat) (vs : List SV) (xss : List (List Int)) (w : World) (hx : RR w w.heap.size A n vs xss) (hn : n ≤ 1048576) (hl : Hid (∀ i, i < n → (vs.getD i sd0).2.1 ≤ 1048576)) (ha : -9223372036854775808 ≤ a ∧ a ≤ 9223372036854775807) :
    Calls Try.prog 26 #[.int .i64 a, .slice A n c] w fun e w' => e = .returned (.bool (gB a xss)) ∧ Below w.heap.size w w' := specGS a A n c vs xss w hx hn hl ha
end Go.Proofs.Ytooafmifbplbhaa

/- The model's buildChain: a chain whole from level 0 on, of what the generators generate. Conditions: at most 20 points, 8 generators. -/
namespace Go.Proofs.Ytooafmifbplbhaa
open Go.RowKit

/-- addGenerator keeps its contract at every level. -/
theorem specAddGen (base g N : Nat) (h1 : 1 ≤ N) (h2 : N ≤ 20) : ∀ m k, k + m = N → AGs base g N k
  | 0, k, e => by
    obtain rfl : k = N := by omega
    exact specAddGenTop base g k h1 h2
  | m + 1, k, e => specAddGen1 base g N k (by omega) (specAddProd base g N k (by omega) (specAddGen base g N h1 h2 m (k + 1) (by omega)))
theorem upTo0 (N : Nat) (h1 : 1 ≤ N) (h2 : N ≤ 20) : UpTo N (ch0 N) 0 := by
  have hrep : ∀ i y, (ch0 N).rep i y ≠ [] → y = i := fun i y h => by
    by_cases e : y = i
    · exact e
    · exact absurd (if_neg e) h
  have hone : ∀ i, (ch0 N).rep i i = idL N := fun i => if_pos rfl
  have hk : ∀ i, i < N → RepOK N (ch0 N) i := fun i hi => ⟨fun y hy => by
    obtain rfl := hrep i y hy
    rw [hone]; exact ⟨hi, pn_id h1 h2, fx_id (by omega), nx_id hi⟩, hone i⟩
  refine ⟨fun i _ hi => hk i hi, fun i _ _ g hg => (List.not_mem_nil hg).elim, fun i _ hi p => ⟨fun hs => ?_, fun hm => ?_⟩, fun i _ _ => Nat.zero_le _, rfl⟩
  · have : p = idL N := by
      clear hi
      induction hs with
      | top => rfl
      | @low i p hi hp hf hr _ ih =>
        have e := hrep i _ hr
        rw [e, hone, iv_id h1 h2, hp.idr] at ih
        exact ih (Nat.zero_le _)
    rw [this]; exact .one
  · rw [hm.none_]
    clear hm
    have : ∀ m i, i + m = N → Sv N (ch0 N) i (idL N) := fun m => by
      induction m with
      | zero => intro i e; obtain rfl : i = N := by omega
                exact .top
      | succ m ih =>
        intro i e
        exact (sv_down (hk i (by omega)) (by omega) (pn_id h1 h2) (fx_id (by omega)) (nx_id (by omega))).2 (ih (i + 1) (by omega))
    exact this (N - i) i (by omega)
/-- The chain is whole, and of what gs generate. -/
structure Whole (N : Nat) (gs : List (List Int)) (c : Ch) : Prop where
  up : UpTo N c 0
  mem : ∀ q, Mb (c.gen 0) N q ↔ Mb gs N q
theorem Whole.next {N : Nat} {gs : List (List Int)} {c c' : Ch} {p : List Int} (h1 : 1 ≤ N) (h2 : N ≤ 20) (hgs : ∀ g ∈ gs, Pn N g) (hp : Pn N p) (h : Whole N gs c) (ha : Ap N 0 c c' p) : Whole N (gs ++ [p]) c' := by
  have hgp : ∀ g ∈ c.gen 0, Pn N g := h.up.pn (Nat.le_refl _) (Nat.zero_le _)
  have a1 : ∀ g ∈ gs ++ [p], Pn N g := fun g hg => by
    rcases List.mem_append.1 hg with hg | hg
    · exact hgs g hg
    · obtain rfl := List.mem_singleton.1 hg; exact hp
  have a2 : ∀ g ∈ c.gen 0 ++ [p], Pn N g := fun g hg => by
    rcases List.mem_append.1 hg with hg | hg
    · exact hgp g hg
    · obtain rfl := List.mem_singleton.1 hg; exact hp
  refine ⟨ha.up, fun q => (ha.gen q).trans ⟨fun hq => hq.sub h1 h2 a1 fun g hg => ?_, fun hq => hq.sub h1 h2 a2 fun g hg => ?_⟩⟩
  · rcases List.mem_append.1 hg with hg | hg
    · exact ((h.mem g).1 (.of (hgp g hg) hg)).more fun g hg => List.mem_append_left _ hg
    · obtain rfl := List.mem_singleton.1 hg; exact .of hp (by simp)
  · rcases List.mem_append.1 hg with hg | hg
    · exact ((h.mem g).2 (.of (hgs g hg) hg)).more fun g hg => List.mem_append_left _ hg
    · obtain rfl := List.mem_singleton.1 hg; exact .of hp (by simp)

set_option maxHeartbeats 2000000 in
set_option maxRecDepth 100000 in
theorem specBuild (N n cc : Nat) (A : Option Addr) (vs : List SV) (gs : List (List Int)) (w : World) (hx : RR w w.heap.size A n vs gs) (hN1 : 1 ≤ N) (hN : N ≤ 20) (hn : n ≤ 8) (ok : Hid (∀ g ∈ gs, IsP g ∧ g.length = N)) :
    Calls Try.prog 54 #[.int .i64 (N : Nat), .slice A n cc] w fun e w' => ∃ g L c, e = .returned (.pointer (some ⟨g, 0, none⟩)) ∧ Cn w' w.heap.size g N c L ∧ Whole N gs c ∧ Below w.heap.size w w' := by
  have HX := Lib.hid hx
  have hlx : Hid (gs.length = n) := Lib.hid hx.lx
  clear hx
  go_enter Try.func54, Try.ntmps54
  go_wp2_with fail
  refine (specEmpty N w hN1 hN).mono ?_
  rintro e w1 ⟨g, L, rfl, hc1, b1⟩
  have C1 := Lib.hid hc1
  have B1 := Lib.hid b1
  have U0 := Lib.hid (upTo0 N hN1 hN)
  clear hc1 b1
  go_wp2_with fail
  go_loopw [6] (fun i wr => ∃ (j : Nat) (c : Ch) (L : LY), j ≤ n ∧ i = .int .i64 (j : Nat) ∧ Cn wr w.heap.size g N c L ∧ Whole N (gs.take j) c ∧ Below w.heap.size w wr) (fun i _ => n - (intOf i).toNat)
  case atStart => exact ⟨0, _, L, Nat.zero_le _, rfl, C1.out, ⟨U0.out, fun q => by rw [List.take_zero]; exact Iff.rfl⟩, B1.out⟩
  case round =>
    clear C1 B1 U0
    obtain ⟨j, c, L, hj, rfl, hc, hw, bel⟩ := hrel
    have C2 := Lib.hid hc
    have W2 := Lib.hid hw
    have Be := Lib.hid bel
    clear hc hw bel
    by_cases hlt : j < n
    · obtain ⟨b, off, A5, l, c5, y, rfl, hb, hv, ey, x1, ri, ly, hl5⟩ := (HX.out.up Be.out).at_ hlt
      have hyP := ok.out y (by rw [← ey]; exact getD_memL (by rw [hlx.out]; exact hlt))
      obtain rfl : l = N := by omega
      have Ri := Lib.hid ri
      have YP : Hid (Pn l y) := Lib.hid hyP
      obtain ⟨b5, off5, rfl, hb5, hc5⟩ := ri (by omega)
      have Ey := Lib.hid ey
      have q0 : (0 : Int) ≤ j := by omega
      have q1 : (j : Int) < n := by omega
      clear hv ey hb ri hb5 hc5 hyP
      go_wp2_with fail
      refine (copyRI b5 off5 l c5 y wr Ri.out (Lib.hid ly) (by omega)).mono ?_
      rintro e w2 ⟨A2, c2, rfl, s2, b2⟩
      have S2 : Hid (Slc w2 w.heap.size A2 l c2 y) := Lib.hid (s2.mono Be.out.size)
      have C3 := Lib.hid (C2.out.up b2)
      have Be2 : Hid (Below w.heap.size w w2) := Lib.hid (btr Be.out b2)
      have hz2 := Be2.out.size
      clear s2 b2
      go_wp2_with fail
      have K := specAddGen w.heap.size g l hN1 hN l 0 (by omega) c2 A2 c L y w2 C3.out S2.out YP.out Fx.zero W2.out.up
      refine K.mono ?_
      rintro e w3 ⟨c', L', rfl, hc3, hch, hmt, hap⟩
      have C4 := Lib.hid hc3
      have Be3 : Hid (Below w.heap.size w w3) := Lib.hid (Be2.out.trans (hch.below (fun k hk => (C3.out.mut hk).1) hz2))
      have W4 : Hid (Whole l (gs.take (j + 1)) c') := Lib.hid (by
        rw [List.take_succ_eq_append_getElem (by rw [hlx.out]; exact hlt)]
        have e1 : gs[j]'(by rw [hlx.out]; exact hlt) = y := by rw [← Ey.out, List.getD_eq_getElem?_getD, List.getElem?_eq_getElem (by rw [hlx.out]; exact hlt)]; rfl
        rw [e1]
        exact W2.out.next hN1 hN (fun g hg => ok.out g (List.mem_of_mem_take hg)) YP.out hap)
      clear K hc3 hch hmt hap
      go_wp2_with fail
      go_roundw
      case rel => exact ⟨j + 1, c', L', by omega, by go_num, C4.out, W4.out, Be3.out⟩
      case measure => simp [intOf]; omega
    · obtain rfl : j = n := by omega
      have W3 : Hid (Whole N gs c) := Lib.hid (by have := W2.out; rwa [List.take_of_length_le (by rw [hlx.out]; exact Nat.le_refl _)] at this)
      go_wp2_with fail
      go_ret
      exact ⟨g, L, c, rfl, C2.out, W3.out, Be.out⟩
end Go.Proofs.Ytooafmifbplbhaa

/- What a whole chain tells: orbit sizes, the order, membership; what these are for the group. Conditions: at most 20 points, 8 generators. -/
namespace Go.Proofs.Ytooafmifbplbhaa
open Go.RowKit

/-! ### the group's own numbers -/
section
variable {N : Nat} {gs hs : List (List Int)} {c : Ch}
theorem Whole.stab (h : Whole N gs c) (h1 : 1 ≤ N) (h2 : N ≤ 20) : ∀ i, i ≤ N → ∀ p, Mb (c.gen i) N p ↔ Mb gs N p ∧ Fx i p
  | 0, _, p => by rw [h.mem]; exact ⟨fun h => ⟨h, Fx.zero⟩, fun h => h.1⟩
  | i + 1, hi, p => by
    have ih := h.stab h1 h2 i (by omega)
    have hr := h.up.rep i (Nat.zero_le _) hi
    have hpn : ∀ g ∈ c.gen 0, Pn N g := h.up.pn (Nat.le_refl _) (Nat.zero_le _)
    constructor
    · intro hm
      have hp := hm.pn (h.up.pn (Nat.zero_le _) hi) h1 h2
      have hf : Fx (i + 1) p := by
        rcases Nat.lt_or_ge (i + 1) N with hl | hl
        · exact hm.fx (h.up.gp (i + 1) (Nat.zero_le _) hl) h1 h2 hi
        · obtain rfl : i + 1 = N := by omega
          rw [h.up.top] at hm
          rw [hm.none_]; exact fx_id (Nat.le_refl _)
      have hs := (sv_down hr hi hp (hf.mono (by omega)) (hf i (by omega))).2 ((h.up.sv (i + 1) (Nat.zero_le _) hi p).2 hm)
      exact ⟨((ih p).1 ((h.up.sv i (Nat.zero_le _) (by omega) p).1 hs)).1, hf⟩
    · rintro ⟨hm, hf⟩
      have hp := ((h.mem p).2 hm).pn hpn h1 h2
      have hs := (h.up.sv i (Nat.zero_le _) (by omega) p).2 ((ih p).2 ⟨hm, hf.mono (by omega)⟩)
      exact (h.up.sv (i + 1) (Nat.zero_le _) hi p).1 ((sv_down hr hi hp (hf.mono (by omega)) (hf i (by omega))).1 hs)
theorem Whole.rep_mb (h : Whole N gs c) (h1 : 1 ≤ N) (h2 : N ≤ 20) {i y : Nat} (hi : i < N) (hy : c.rep i y ≠ []) : Mb gs N (c.rep i y) ∧ Fx i (c.rep i y) ∧ nx (c.rep i y) i = y ∧ y < N := by
  have hl := (h.up.mono (Nat.zero_le i)).low hi h1 h2
  have h3 := (h.stab h1 h2 i (by omega) _).1 (hl.inn y hy)
  obtain ⟨a1, a2, a3, a4⟩ := hl.rep.at_ y hy
  exact ⟨h3.1, a3, a4, a1⟩
theorem Whole.rep_iff (h : Whole N gs c) (h1 : 1 ≤ N) (h2 : N ≤ 20) {i y : Nat} (hi : i < N) : c.rep i y ≠ [] ↔ ∃ p, Mb gs N p ∧ Fx i p ∧ nx p i = y := by
  constructor
  · intro hy
    obtain ⟨a, b, d, _⟩ := h.rep_mb h1 h2 hi hy
    exact ⟨_, a, b, d⟩
  · rintro ⟨p, hm, hf, rfl⟩
    exact (((h.up.sv i (Nat.zero_le _) (by omega) p).2 ((h.stab h1 h2 i (by omega) p).2 ⟨hm, hf⟩)).inv_low hi).2.2.1
/-- The sizes of the orbits of the points under the members that fix the points before them. -/
def IsOS (N : Nat) (gs : List (List Int)) (xs : List Int) : Prop := xs.length = N ∧ ∀ i, i < N → ∃ l : List Nat, l.Nodup ∧ (∀ y, y ∈ l ↔ y < N ∧ ∃ p, Mb gs N p ∧ Fx i p ∧ nx p i = y) ∧ xs.getD i 0 = (l.length : Int)
theorem IsOS.uniq {xs ys : List Int} (h : IsOS N gs xs) (h' : IsOS N gs ys) : xs = ys := by
  refine ext_getD h.1 h'.1 fun i hi => ?_
  obtain ⟨l, d, m, e⟩ := h.2 i hi
  obtain ⟨l', d', m', e'⟩ := h'.2 i hi
  have a := nd_sub d (fun x hx => (m' x).2 ((m x).1 hx))
  have b := nd_sub d' (fun x hx => (m x).2 ((m' x).1 hx))
  rw [e, e']; omega
/-- How many representatives a level has. -/
def nr (N : Nat) (c : Ch) (i m : Nat) : Nat := ((List.range m).filter fun y => !(c.rep i y).isEmpty).length
def osL (N : Nat) (c : Ch) (m : Nat) : List Int := (List.range m).map fun i => (nr N c i N : Int)
theorem nr_zero (N : Nat) (c : Ch) (i : Nat) : nr N c i 0 = 0 := rfl
theorem nr_yes {i m : Nat} (h : c.rep i m ≠ []) : nr N c i (m + 1) = nr N c i m + 1 := by
  unfold nr; rw [List.range_succ, List.filter_append]; simp [List.isEmpty_eq_false_iff.2 h]
theorem nr_no {i m : Nat} (h : c.rep i m = []) : nr N c i (m + 1) = nr N c i m := by
  unfold nr; rw [List.range_succ, List.filter_append]; simp [h]
theorem nr_le (i m : Nat) : nr N c i m ≤ m := by
  have := List.length_filter_le (fun y => !(c.rep i y).isEmpty) (List.range m)
  simpa [nr] using this
theorem osL_succ (m : Nat) : osL N c (m + 1) = osL N c m ++ [(nr N c m N : Int)] := by simp [osL, List.range_succ]
theorem osL_len (m : Nat) : (osL N c m).length = m := by simp [osL]
theorem osL_at {i m : Nat} (hi : i < m) : (osL N c m).getD i 0 = (nr N c i N : Int) := by
  unfold osL
  rw [List.getD_eq_getElem?_getD, List.getElem?_map, List.getElem?_range hi]; rfl
theorem Whole.os (h : Whole N gs c) (h1 : 1 ≤ N) (h2 : N ≤ 20) : IsOS N gs (osL N c N) := by
  refine ⟨osL_len N, fun i hi => ⟨(List.range N).filter fun y => !(c.rep i y).isEmpty, List.nodup_range.filter _, fun y => ?_, osL_at hi⟩⟩
  rw [List.mem_filter, List.mem_range, Bool.not_eq_true', List.isEmpty_eq_false_iff, h.rep_iff h1 h2 hi]
/-- Level i has a representative of i itself, and none below. -/
theorem Whole.nr_pos (h : Whole N gs c) (h1 : 1 ≤ N) {i : Nat} (hi : i < N) : 1 ≤ nr N c i N ∧ nr N c i N ≤ N - i := by
  have hr := h.up.rep i (Nat.zero_le _) hi
  constructor
  · unfold nr
    refine List.length_pos_of_mem (a := i) ?_
    rw [List.mem_filter, List.mem_range, Bool.not_eq_true', List.isEmpty_eq_false_iff]
    exact ⟨hi, by rw [hr.one]; intro e; have := idL_length N; rw [e] at this; simp at this; omega⟩
  · have : ((List.range N).filter fun y => !(c.rep i y).isEmpty).length ≤ (List.range' i (N - i)).length := by
      refine nd_sub (List.nodup_range.filter _) fun y hy => ?_
      rw [List.mem_filter, List.mem_range, Bool.not_eq_true', List.isEmpty_eq_false_iff] at hy
      obtain ⟨a1, a2, a3, a4⟩ := hr.at_ y hy.2
      have := a3.ge a2 hi
      rw [List.mem_range'_1]; omega
    simpa [nr] using this
/-- The product. -/
def prodL (l : List Int) : Int := l.foldl (fun a x => a * x) 1
theorem prodL_snoc (l : List Int) (x : Int) : prodL (l ++ [x]) = prodL l * x := by simp [prodL]
def facts : Nat → Nat → Nat
  | _, 0 => 1
  | N, m + 1 => facts N m * (N - m)
theorem facts_pos {N : Nat} : ∀ {m : Nat}, m ≤ N → 1 ≤ facts N m
  | 0, _ => Nat.le_refl _
  | m + 1, h => Nat.mul_pos (facts_pos (by omega)) (by omega)
theorem facts_mono {N m : Nat} (h : m < N) : facts N m ≤ facts N (m + 1) := Nat.le_mul_of_pos_right _ (by omega)
theorem facts_le {N : Nat} (hN : N ≤ 20) : ∀ m, m ≤ N → facts N m ≤ 2432902008176640000 := by
  have hall : ∀ N, N ≤ 20 → ∀ m, m ≤ N → facts N m ≤ 2432902008176640000 := by decide +kernel
  exact hall N hN
theorem Whole.prod_le (h : Whole N gs c) (h1 : 1 ≤ N) : ∀ m, m ≤ N → 1 ≤ prodL (osL N c m) ∧ prodL (osL N c m) ≤ (facts N m : Int)
  | 0, _ => by simp [osL, prodL, facts]
  | m + 1, hm => by
    obtain ⟨a, b⟩ := h.prod_le h1 m (by omega)
    obtain ⟨d, e⟩ := h.nr_pos h1 (i := m) hm
    rw [osL_succ, prodL_snoc]
    refine ⟨?_, ?_⟩
    · have := Int.mul_le_mul a (show (1 : Int) ≤ (nr N c m N : Int) by omega) (by omega) (by omega)
      simpa using this
    · have := Int.mul_le_mul b (show (nr N c m N : Int) ≤ ((N - m : Nat) : Int) by omega) (by omega) (by omega)
      show _ ≤ ((facts N m * (N - m) : Nat) : Int)
      rw [Int.natCast_mul]; exact this
end

set_option maxHeartbeats 400000 in
theorem specB2I (b : Bool) (w : World) : Calls Try.prog 92 #[.bool b] w fun e w' => e = .returned (.int .i64 (if b then 1 else 0)) ∧ w = w' := by
  cases b
  · go_enter Try.func92, Try.ntmps92
    go_wp2
    go_ret
    exact ⟨rfl, rfl⟩
  · go_enter Try.func92, Try.ntmps92
    go_wp2
    go_ret
    exact ⟨rfl, rfl⟩

set_option maxHeartbeats 2000000 in
set_option maxRecDepth 100000 in
theorem specSizes (base g N : Nat) (c : Ch) (L : LY) (gs : List (List Int)) (w : World) (hc : Cn w base g N c L) (hw : Whole N gs c) (hN1 : 1 ≤ N) (hN : N ≤ 20) :
    Calls Try.prog 66 #[.pointer (some ⟨g, 0, none⟩)] w fun e w' => ∃ A' c', e = .returned (.slice A' N c') ∧ Slc w' w.heap.size A' N c' (osL N c N) ∧ Below w.heap.size w w' := by
  have HC := Lib.hid hc
  have HW := Lib.hid hw
  have S0 := Lib.hid (Slc.lit0 w w.heap.size (Nat.le_refl _))
  clear hc hw
  go_enter Try.func66, Try.ntmps66
  go_wp2_with fail
  go_loopg [3, 4] N (fun gg v i wr => ∃ (k cc : Nat) (A : Option Addr), k ≤ N ∧ N - k ≤ gg ∧ i = .int .i64 (k : Nat) ∧ v = .slice A k cc ∧ Slc wr w.heap.size A k cc (osL N c k) ∧ Below w.heap.size w wr)
  case atStart => exact ⟨0, _, _, Nat.zero_le _, by omega, rfl, rfl, S0.out, (Below.refl _ _).alloc (Nat.le_refl _) _⟩
  case round =>
    clear S0
    obtain ⟨k, cc, A, hk, hgg, rfl, rfl, hs, bel⟩ := hrel
    have Ss := Lib.hid hs
    have Be := Lib.hid bel
    have C1 := Lib.hid (HC.out.up bel)
    have x0 := C1.out.c0
    clear hs bel
    by_cases hlt : k < N
    · go_wp2_with fail
      go_loopg [5, 6] N (fun gg s y wr2 => ∃ m : Nat, m ≤ N ∧ N - m ≤ gg ∧ y = .int .i64 (m : Nat) ∧ s = .int .i64 (nr N c k m : Nat) ∧ wr = wr2)
      case atStart => exact ⟨0, Nat.zero_le _, by omega, rfl, rfl, rfl⟩
      case round =>
        obtain ⟨m, hm, hg2, rfl, rfl, rfl⟩ := hrel
        by_cases hmt : m < N
        · have x1 := C1.out.c1
          have x2 := C1.out.cR hlt
          have x3 := C1.out.cro hlt hmt
          have en := C1.out.enn hlt hmt
          rcases hd : (L.en k).getD m sd0 with ⟨dA, dn, dc⟩
          rw [hd] at x3 en
          simp only [sval] at x3
          have q0 : (0 : Int) ≤ k := by omega
          have q1 : (k : Int) < N := by omega
          have q2 : (0 : Int) ≤ m := by omega
          have q3 : (m : Int) < N := by omega
          have hnm := nr_le (N := N) (c := c) k m
          have en2 : dn = (c.rep k m).length := en
          by_cases hz : c.rep k m = []
          · obtain rfl : dn = 0 := by rw [en2, hz]; rfl
            have d0 : decide ((0 : Int) < 0) = false := by decide
            have Kn := Lib.hid (nr_no (N := N) hz)
            clear hd en en2
            go_wp2_with (first | (go_at_call 92; refine (specB2I _ _).mono ?_; rintro e w' ⟨rfl, rfl⟩))
            go_roundg (N - (m + 1))
            case rel => exact ⟨m + 1, by omega, by omega, by go_num, by rw [Kn.out], rfl⟩
            case measure => omega
          · obtain rfl : dn = N := by
              have h2 := rep_ne_pos (HW.out.up.rep k (Nat.zero_le _) hlt) hz
              omega
            have d0 : decide ((0 : Int) < (dn : Int)) = true := by simp; omega
            have Kn := Lib.hid (nr_yes (N := dn) hz)
            clear hd en en2
            go_wp2_with (first | (go_at_call 92; refine (specB2I _ _).mono ?_; rintro e w' ⟨rfl, rfl⟩))
            go_roundg (dn - (m + 1))
            case rel => exact ⟨m + 1, by omega, by omega, by go_num, by rw [Kn.out]; go_num, rfl⟩
            case measure => omega
        · obtain rfl : m = N := by omega
          have hzr := Be.out.size
          have Osk := Lib.hid (osL_succ (N := m) (c := c) k)
          go_wp2_with (at_builtin; refine wpList_app1 rfl _ _ rfl w.heap.size A k cc _ rfl (Ss.out.alloc _) wr.heap.size (nr m c k m : Int) rfl (by rw [World.cell?_alloc_at _ _ _ _ rfl]; rfl) (by omega) (by simp; omega) ?_; intro A3 c3 w3 s3 g3)
          have S3 : Hid (Slc w3 w.heap.size A3 (k + 1) c3 (osL m c (k + 1))) := Lib.hid (by rw [Osk.out]; exact s3)
          have B3 : Hid (Below w.heap.size w w3) := Lib.hid ((Be.out.alloc hzr _).grown g3 (by simp; omega) (fun j hj => (Ss.out.lt_ j hj).1))
          clear s3 g3
          go_wp2_with fail
          go_roundg (m - (k + 1))
          case rel => exact ⟨k + 1, _, _, by omega, by omega, by go_num, rfl, S3.out, B3.out⟩
          case measure => omega
    · obtain rfl : k = N := by omega
      go_wp2_with fail
      go_ret
      exact ⟨_, _, rfl, Ss.out, Be.out⟩

theorem specOrder (base g N : Nat) (c : Ch) (L : LY) (gs : List (List Int)) (w : World) (hc : Cn w base g N c L) (hw : Whole N gs c) (hN1 : 1 ≤ N) (hN : N ≤ 20) :
    Calls Try.prog 67 #[.pointer (some ⟨g, 0, none⟩)] w fun e w' => e = .returned (.int .i64 (prodL (osL N c N))) ∧ Below w.heap.size w w' := by
  have HC := Lib.hid hc
  have HW := Lib.hid hw
  clear hc hw
  go_enter Try.func67, Try.ntmps67
  go_wp2_with fail
  refine (specSizes base g N c L gs w HC.out HW.out hN1 hN).mono ?_
  rintro e w1 ⟨A, cc, rfl, s1, b1⟩
  have S1 := Lib.hid s1
  have B1 := Lib.hid b1
  clear s1 b1
  go_wp2_with fail
  go_loop [3, 5] (fun o i => ∃ k : Nat, k ≤ N ∧ i = .int .i64 (k : Nat) ∧ o = .int .i64 (prodL (osL N c k))) (fun _ i => N - (intOf i).toNat)
  case atStart => exact ⟨0, Nat.zero_le _, rfl, rfl⟩
  case round =>
    obtain ⟨k, hk, rfl, rfl⟩ := hrel
    by_cases hlt : k < N
    · obtain ⟨b, off, rfl, hb, hcell⟩ := S1.out.ri_ (by rw [S1.out.1]; omega)
      have x1 := hcell k (by rw [S1.out.1]; exact hlt)
      rw [osL_at hlt] at x1
      have pl := HW.out.prod_le hN1 (k + 1) hlt
      have pf := facts_le hN (k + 1) hlt
      rw [osL_succ, prodL_snoc] at pl
      have wr1 : IntKind.i64.wrap (prodL (osL N c k) * (nr N c k N : Int)) = prodL (osL N c k) * (nr N c k N : Int) := by rw [IntKind.wrap_i64]; omega
      have e1 : prodL (osL N c (k + 1)) = prodL (osL N c k) * (nr N c k N : Int) := by rw [osL_succ, prodL_snoc]
      have E1 := Lib.hid e1
      have q0 : (0 : Int) ≤ k := by omega
      have q1 : (k : Int) < N := by omega
      clear hb hcell pl pf e1
      go_wp2_with fail
      go_round
      case rel => exact ⟨k + 1, by omega, by go_num, by rw [E1.out]⟩
      case measure => simp [intOf]; omega
    · obtain rfl : k = N := by omega
      go_wp2_with fail
      go_ret
      exact ⟨rfl, B1.out⟩
theorem specHas (base g N cp : Nat) (A : Option Addr) (c : Ch) (L : LY) (gs : List (List Int)) (p : List Int) (w : World) (hc : Cn w base g N c L) (hw : Whole N gs c) (hp : RI w w.heap.size A p) (hP : Hid (Pn N p)) (ans : Bool) (ha : Hid (ans = true ↔ Mb gs N p)) :
    Calls Try.prog 53 #[.pointer (some ⟨g, 0, none⟩), .slice A N cp] w fun e w' => e = .returned (.bool ans) ∧ Below w.heap.size w w' := by
  have HC := Lib.hid hc
  have HW := Lib.hid hw
  have HP := Lib.hid hp
  clear hc hw hp
  go_enter Try.func53, Try.ntmps53
  go_wp2_with fail
  have K := specSift base g N 0 cp A c L p w HC.out HP.out hP (Lib.hid Fx.zero) (Nat.zero_le _) (Lib.hid HW.out.up.rep)
  refine K.mono ?_
  rintro e w1 ⟨A1, n1, c1, lvl, rfl, hlv, hle, b1⟩
  have C1 := Lib.hid (HC.out.up b1)
  have B1 := Lib.hid b1
  have x0 := C1.out.c0
  have e1 : ((lvl : Int) == (N : Int)) = ans := by
    have h1 : Sv N c 0 p ↔ Mb gs N p := (HW.out.up.sv 0 (Nat.le_refl _) (Nat.zero_le _) p).trans (HW.out.mem p)
    have h2 : ans = true ↔ lvl = N := ha.out.trans (h1.symm.trans hlv.symm)
    rw [Bool.eq_iff_iff, h2, beq_iff_eq]; omega
  clear K hlv hle b1
  go_wp2_with fail
  go_ret
  exact ⟨rfl, B1.out⟩
end Go.Proofs.Ytooafmifbplbhaa

/- insertSorted and sortedInts of the model. No condition but lengths. -/
namespace Go.Proofs.Ytooafmifbplbhaa
open Go.RowKit

/-- The sorted list with v put in at k. -/
def putIn (ys : List Int) (k : Nat) (v : Int) : List Int := ys.take k ++ [v] ++ ys.drop k
theorem putIn_perm (ys : List Int) (k : Nat) (v : Int) : (putIn ys k v).Perm (v :: ys) := by
  unfold putIn
  have h : (ys.take k ++ [v]).Perm (v :: ys.take k) := List.perm_append_comm
  have := h.append_right (ys.drop k)
  rw [List.cons_append, List.take_append_drop] at this
  exact this
theorem putIn_sorted {ys : List Int} {k : Nat} {v : Int} (hs : ys.Pairwise (· ≤ ·)) (h1 : ∀ j, j < k → ys.getD j 0 < v) (h2 : k < ys.length → v ≤ ys.getD k 0) : (putIn ys k v).Pairwise (· ≤ ·) := by
  unfold putIn
  have hd : ∀ b ∈ ys.drop k, v ≤ b := fun b hb => by
    obtain ⟨j, hj, e⟩ := List.mem_iff_getElem.1 hb
    rw [List.length_drop] at hj
    rw [List.getElem_drop] at e
    have h3 := h2 (by omega)
    rw [List.getD_eq_getElem?_getD, List.getElem?_eq_getElem (by omega : k < ys.length)] at h3
    rw [List.pairwise_iff_getElem] at hs
    rw [← e]
    by_cases e0 : j = 0
    · subst e0; simpa using h3
    · have := hs k (k + j) (by omega) (by omega) (by omega)
      have h3' : v ≤ ys[k] := by simpa using h3
      omega
  have ht : ∀ a ∈ ys.take k, a < v := fun a ha => by
    obtain ⟨j, hj, e⟩ := List.mem_iff_getElem.1 ha
    rw [List.length_take] at hj
    rw [List.getElem_take] at e
    have := h1 j (by omega)
    rw [List.getD_eq_getElem?_getD, List.getElem?_eq_getElem (by omega)] at this
    rw [← e]; simpa using this
  rw [List.append_assoc, List.pairwise_append]
  refine ⟨hs.sublist (List.take_sublist _ _), ?_, fun a ha b hb => ?_⟩
  · rw [List.singleton_append, List.pairwise_cons]
    exact ⟨hd, hs.sublist (List.drop_sublist _ _)⟩
  · have := ht a ha
    rcases List.mem_append.1 hb with hb | hb
    · obtain rfl : b = v := by simpa using hb
      omega
    · have := hd b hb; omega

set_option maxHeartbeats 2000000 in
set_option maxRecDepth 100000 in
/-- insertSorted, of a number that the list lacks. -/
theorem specIns (g n c base : Nat) (ys : List Int) (v : Int) (w : World) (h : Slc w base (some ⟨g, 0, none⟩) n c ys) (hv : Hid (v ∉ ys)) (hn : n ≤ 1000) :
    Calls Try.prog 85 #[.slice (some ⟨g, 0, none⟩) n c, .int .i64 v] w fun e w' => ∃ g' c' zs, e = .returned (.slice (some ⟨g', 0, none⟩) (n + 1) c') ∧ Slc w' w.heap.size (some ⟨g', 0, none⟩) (n + 1) c' zs ∧ zs.Perm (v :: ys) ∧ (ys.Pairwise (· ≤ ·) → zs.Pairwise (· ≤ ·)) ∧ Below w.heap.size w w' := by
  have H := Lib.hid h
  have lx := h.1
  have hnc := h.le.1
  have ri := Lib.hid h.ri_
  clear h
  go_enter Try.func85, Try.ntmps85
  go_wp2
  go_loop [5] (fun i => ∃ k : Nat, k ≤ n ∧ i = .int .i64 (k : Nat) ∧ ∀ j, j < k → ys.getD j 0 < v) (fun i => n - (intOf i).toNat)
  case atStart => exact ⟨0, Nat.zero_le _, rfl, fun j h => absurd h (by omega)⟩
  case round =>
    obtain ⟨k, hk, rfl, hz⟩ := hrel
    have Hz := Lib.hid hz
    clear hz
    have EndIt : Hid (∀ (hge : k < n → v ≤ ys.getD k 0), (putIn ys k v).Perm (v :: ys) ∧ (ys.Pairwise (· ≤ ·) → (putIn ys k v).Pairwise (· ≤ ·))) := Lib.hid fun hge => ⟨putIn_perm _ _ _, fun hs => putIn_sorted hs Hz.out (fun h => hge (by rw [← lx]; exact h))⟩
    have RIt : Hid (RI w w.heap.size (some ⟨g, 0, none⟩) (ys.take k)) := Lib.hid (takeRI ri.out k)
    have ltk : Hid ((ys.take k).length = k) := Lib.hid (by rw [List.length_take]; omega)
    have ldr : Hid ((ys.drop k).length = n - k) := Lib.hid (by rw [List.length_drop]; omega)
    have DrX : Hid (∀ w3 : World, Below w.heap.size w w3 → RI w3 w3.heap.size (some ⟨g, k, none⟩) (ys.drop k)) := Lib.hid fun w3 hb => dropRI H.out hb fun _ => rfl
    have ld0 : Hid (c = k → (ys.drop k).length = 0) := Lib.hid fun e => by have := ldr.out; omega
    have Dr0 : Hid (c = k → ∀ w3 : World, Below w.heap.size w w3 → RI w3 w3.heap.size (some ⟨g, 0, none⟩) (ys.drop k)) := Lib.hid fun e w3 hb => dropRI H.out hb fun h => by omega
    have p1 : (k : Int) ≤ c := by omega
    by_cases hlt : k < n
    · obtain ⟨b, off, e1, hb, hc⟩ := ri.out (by rw [lx]; omega)
      have c1 := hc k (by rw [lx]; exact hlt)
      obtain ⟨rfl, rfl⟩ : g = b ∧ 0 = off := by injection e1 with e1; injection e1 with e1 e2; exact ⟨e1, e2⟩
      rw [Nat.zero_add] at c1
      have hne : ys.getD k 0 ≠ v := fun e => hv.out (by rw [← e]; exact (by rw [List.getD_eq_getElem?_getD, List.getElem?_eq_getElem (by omega)]; exact List.getElem_mem _))
      obtain ⟨u, eu⟩ : ∃ u, ys.getD k 0 = u := ⟨_, rfl⟩
      rw [eu] at c1 hne
      have Eu := Lib.hid eu
      clear eu hc e1
      by_cases hlv : u < v
      · go_wp2
        go_round
        case rel => exact ⟨k + 1, by omega, by go_num, fun j hj => by
          by_cases e : j = k
          · subst e; rw [Eu.out]; exact hlv
          · exact Hz.out j (by omega)⟩
        case measure => simp [intOf]; omega
      · have Z := Lib.hid (EndIt.out (fun _ => by rw [Eu.out]; omega))
        have hck : ¬ c = k := by omega
        clear EndIt
        go_wp2_with fail
        refine (copyRI g 0 k _ (ys.take k) w RIt.out ltk.out (by omega)).mono ?_
        rintro e w2 ⟨A2, c2, rfl, s2, b2⟩
        have S2 := Lib.hid s2
        have B2 := Lib.hid b2
        have Z2 := b2.size
        clear s2 b2
        go_wp2_with (first
            | (at_builtin; refine wpList_app1 rfl _ _ rfl w.heap.size A2 k c2 _ rfl (S2.out.alloc _) w2.heap.size v rfl (by rw [World.cell?_alloc_at _ _ _ _ rfl]; rfl) (by omega) (by simp; omega) ?_; intro A3 c3 w3 s3 g3; have B3 : Hid (Below w.heap.size w w3) := Lib.hid ((B2.out.alloc B2.out.size _).grown g3 (by simp; omega) (fun j hj => (S2.out.lt_ j hj).1)); have S3 := Lib.hid s3; clear s3 g3)
            | (at_builtin; refine wpList_appN rfl _ _ rfl w.heap.size A3 (k + 1) c3 _ rfl S3.out g k (n - k) (c - k) (ys.drop k) rfl (DrX.out _ B3.out) ldr.out (by omega) B3.out.size ?_; intro A4 c4 w4 s4 g4))
        have S4 : Hid (Slc w4 w.heap.size A4 (n + 1) c4 (putIn ys k v)) := Lib.hid (by
          have := s4
          rw [show k + 1 + (n - k) = n + 1 from by omega] at this
          exact this)
        have B4 : Hid (Below w.heap.size w w4) := Lib.hid (B3.out.grown g4 B3.out.size (fun j hj => (S3.out.lt_ j hj).1))
        rw [show k + 1 + (n - k) = n + 1 from by omega]
        clear s4 g4
        obtain ⟨q4, rfl⟩ : ∃ q4, A4 = some ⟨q4, 0, none⟩ := by
          rcases S4.out.at_ with ⟨_, _, e0, _⟩ | ⟨q4, e0, _, _⟩
          · omega
          · exact ⟨q4, e0⟩
        go_wp2
        go_ret
        exact ⟨_, _, _, rfl, S4.out, Z.out.1, Z.out.2, B4.out⟩
    · have hkn : k = n := by omega
      have Z := Lib.hid (EndIt.out (fun h => absurd h hlt))
      subst hkn
      clear EndIt
      by_cases hck : c = k
      · subst hck
        go_wp2_with fail
        refine (copyRI g 0 c _ (ys.take c) w RIt.out ltk.out (by omega)).mono ?_
        rintro e w2 ⟨A2, c2, rfl, s2, b2⟩
        have S2 := Lib.hid s2
        have B2 := Lib.hid b2
        have Z2 := b2.size
        clear s2 b2
        go_wp2_with (first
            | (at_builtin; refine wpList_app1 rfl _ _ rfl w.heap.size A2 c c2 _ rfl (S2.out.alloc _) w2.heap.size v rfl (by rw [World.cell?_alloc_at _ _ _ _ rfl]; rfl) (by omega) (by simp; omega) ?_; intro A3 c3 w3 s3 g3; have B3 : Hid (Below w.heap.size w w3) := Lib.hid ((B2.out.alloc B2.out.size _).grown g3 (by simp; omega) (fun j hj => (S2.out.lt_ j hj).1)); have S3 := Lib.hid s3; clear s3 g3)
            | (at_builtin; refine wpList_appN rfl _ _ rfl w.heap.size A3 (c + 1) c3 _ rfl S3.out g 0 0 0 (ys.drop c) rfl (Dr0.out trivial _ B3.out) (ld0.out trivial) (by omega) B3.out.size ?_; intro A4 c4 w4 s4 g4))
        have S4 : Hid (Slc w4 w.heap.size A4 (c + 1) c4 (putIn ys c v)) := Lib.hid s4
        have B4 : Hid (Below w.heap.size w w4) := Lib.hid (B3.out.grown g4 B3.out.size (fun j hj => (S3.out.lt_ j hj).1))
        clear s4 g4
        obtain ⟨q4, rfl⟩ : ∃ q4, A4 = some ⟨q4, 0, none⟩ := by
          rcases S4.out.at_ with ⟨_, _, e0, _⟩ | ⟨q4, e0, _, _⟩
          · omega
          · exact ⟨q4, e0⟩
        go_wp2
        go_ret
        exact ⟨_, _, _, rfl, S4.out, Z.out.1, Z.out.2, B4.out⟩
      · have ld1 : Hid ((ys.drop k).length = k - k) := ldr
        go_wp2_with fail
        refine (copyRI g 0 k _ (ys.take k) w RIt.out ltk.out (by omega)).mono ?_
        rintro e w2 ⟨A2, c2, rfl, s2, b2⟩
        have S2 := Lib.hid s2
        have B2 := Lib.hid b2
        have Z2 := b2.size
        clear s2 b2
        go_wp2_with (first
            | (at_builtin; refine wpList_app1 rfl _ _ rfl w.heap.size A2 k c2 _ rfl (S2.out.alloc _) w2.heap.size v rfl (by rw [World.cell?_alloc_at _ _ _ _ rfl]; rfl) (by omega) (by simp; omega) ?_; intro A3 c3 w3 s3 g3; have B3 : Hid (Below w.heap.size w w3) := Lib.hid ((B2.out.alloc B2.out.size _).grown g3 (by simp; omega) (fun j hj => (S2.out.lt_ j hj).1)); have S3 := Lib.hid s3; clear s3 g3)
            | (at_builtin; refine wpList_appN rfl _ _ rfl w.heap.size A3 (k + 1) c3 _ rfl S3.out g k 0 (c - k) (ys.drop k) rfl (DrX.out _ B3.out) (by rw [ld1.out]; omega) (by omega) B3.out.size ?_; intro A4 c4 w4 s4 g4))
        have S4 : Hid (Slc w4 w.heap.size A4 (k + 1) c4 (putIn ys k v)) := Lib.hid s4
        have B4 : Hid (Below w.heap.size w w4) := Lib.hid (B3.out.grown g4 B3.out.size (fun j hj => (S3.out.lt_ j hj).1))
        clear s4 g4
        obtain ⟨q4, rfl⟩ : ∃ q4, A4 = some ⟨q4, 0, none⟩ := by
          rcases S4.out.at_ with ⟨_, _, e0, _⟩ | ⟨q4, e0, _, _⟩
          · omega
          · exact ⟨q4, e0⟩
        go_wp2
        go_ret
        exact ⟨_, _, _, rfl, S4.out, Z.out.1, Z.out.2, B4.out⟩

end Go.Proofs.Ytooafmifbplbhaa

/- Members with given entries, by the model's chain. Conditions: at most 20 points, 8 generators. -/
namespace Go.Proofs.Ytooafmifbplbhaa
open Go.RowKit

/-- The entries that level i allows behind p, among the first m points. -/
def chL (c : Ch) (i : Nat) (p : List Int) (m : Nat) : List Int := ((List.range m).filter fun y => !(c.rep i y).isEmpty).map fun y => (nx p y : Int)
theorem chL_yes {c : Ch} {i m : Nat} {p : List Int} (h : c.rep i m ≠ []) : chL c i p (m + 1) = chL c i p m ++ [(nx p m : Int)] := by
  unfold chL; rw [List.range_succ, List.filter_append]; simp [List.isEmpty_eq_false_iff.2 h]
theorem chL_no {c : Ch} {i m : Nat} {p : List Int} (h : c.rep i m = []) : chL c i p (m + 1) = chL c i p m := by
  unfold chL; rw [List.range_succ, List.filter_append]; simp [h]
theorem chL_mem {c : Ch} {i m : Nat} {p : List Int} {v : Int} : v ∈ chL c i p m ↔ ∃ y, y < m ∧ c.rep i y ≠ [] ∧ (nx p y : Int) = v := by
  simp only [chL, List.mem_map, List.mem_filter, List.mem_range, Bool.not_eq_true', List.isEmpty_eq_false_iff, and_assoc]
theorem chL_len (c : Ch) (i : Nat) (p : List Int) (m : Nat) : (chL c i p m).length ≤ m := by
  unfold chL; rw [List.length_map]
  have := List.length_filter_le (fun y => !(c.rep i y).isEmpty) (List.range m)
  simpa using this

set_option maxHeartbeats 2000000 in
set_option maxRecDepth 100000 in
theorem specChoices (base g N i cp : Nat) (A : Option Addr) (c : Ch) (L : LY) (gs : List (List Int)) (p : List Int) (w : World) (hc : Cn w base g N c L) (hw : Whole N gs c) (hp : RI w w.heap.size A p) (hP : Hid (Pn N p)) (hi : i < N) :
    Calls Try.prog 58 #[.pointer (some ⟨g, 0, none⟩), .int .i64 (i : Nat), .slice A N cp] w fun e w' => ∃ g' m cc zs, e = .returned (.slice (some ⟨g', 0, none⟩) m cc) ∧ Slc w' w.heap.size (some ⟨g', 0, none⟩) m cc zs ∧ zs.Perm (chL c i p N) ∧ zs.Pairwise (· ≤ ·) ∧ Below w.heap.size w w' := by
  have HC := Lib.hid hc
  have HW := Lib.hid hw
  have HP := Lib.hid hp
  have hN := hP.out.pos
  have S0 := Lib.hid (Slc.lit0 w w.heap.size (Nat.le_refl _))
  clear hc hw hp
  go_enter Try.func58, Try.ntmps58
  go_wp2_with fail
  go_loopw [7, 8] (fun v j wr => ∃ (k m cc q : Nat) (zs : List Int), k ≤ N ∧ m ≤ k ∧ j = .int .i64 (k : Nat) ∧ v = .slice (some ⟨q, 0, none⟩) m cc ∧ Slc wr w.heap.size (some ⟨q, 0, none⟩) m cc zs ∧ zs.Perm (chL c i p k) ∧ zs.Pairwise (· ≤ ·) ∧ Below w.heap.size w wr) (fun _ j _ => N - (intOf j).toNat)
  case atStart => exact ⟨0, 0, _, _, [], Nat.zero_le _, Nat.le_refl _, rfl, rfl, S0.out, .refl _, .nil, (Below.refl _ _).alloc (Nat.le_refl _) _⟩
  case round =>
    clear S0
    obtain ⟨k, m, cc, q, zs, hk, hmk, rfl, rfl, hs, hpm, hso, bel⟩ := hrel
    have Ss := Lib.hid hs
    have Be := Lib.hid bel
    have Pm1 := Lib.hid hpm
    have So := Lib.hid hso
    have C1 := Lib.hid (HC.out.up bel)
    have x0 := C1.out.c0
    clear hs hpm hso
    by_cases hlt : k < N
    · have x1 := C1.out.c1
      have x2 := C1.out.cR hi
      have x3 := C1.out.cro hi hlt
      have en := C1.out.enn hi hlt
      rcases hd : (L.en i).getD k sd0 with ⟨dA, dn, dc⟩
      rw [hd] at x3 en
      simp only [sval] at x3
      have q0 : (0 : Int) ≤ k := by omega
      have q1 : (k : Int) < N := by omega
      have q2 : (0 : Int) ≤ i := by omega
      have q3 : (i : Int) < N := by omega
      have en2 : dn = (c.rep i k).length := en
      by_cases hz : c.rep i k = []
      · obtain rfl : dn = 0 := by rw [en2, hz]; rfl
        have d0 : decide ((0 : Int) < 0) = false := by decide
        have Kn := Lib.hid (chL_no (p := p) hz)
        clear hd en en2 bel
        go_wp2_with fail
        go_roundw
        case rel => exact ⟨k + 1, m, cc, q, zs, by omega, by omega, by go_num, rfl, Ss.out, by rw [Kn.out]; exact Pm1.out, So.out, Be.out⟩
        case measure => simp [intOf]; omega
      · obtain rfl : dn = N := by
          have h2 := rep_ne_pos (HW.out.up.rep i (Nat.zero_le _) hi) hz
          omega
        have d0 : decide ((0 : Int) < (dn : Int)) = true := by simp; omega
        have Kn := Lib.hid (chL_yes (p := p) hz)
        obtain ⟨b, off, rfl, hb, hcell⟩ := (HP.out.up bel) (by rw [hP.out.2]; omega)
        have x4 := hcell k (by rw [hP.out.2]; exact hlt)
        rw [nx_val hP.out.1 (by rw [hP.out.2]; exact hlt)] at x4
        have hv : Hid (((nx p k : Nat) : Int) ∉ zs) := Lib.hid fun hm => by
          obtain ⟨y, hy, _, e⟩ := chL_mem.1 (Pm1.out.mem_iff.1 hm)
          have := hP.out.inj (x := y) (y := k) (by omega) hlt (by omega)
          omega
        obtain ⟨v, ev⟩ : ∃ v, nx p k = v := ⟨_, rfl⟩
        rw [ev] at x4 hv Kn
        clear hd en en2 bel hb hcell ev
        go_wp2_with fail
        refine (specIns q m cc w.heap.size zs (v : Int) wr Ss.out hv (by omega)).mono ?_
        rintro e w2 ⟨g2, c2, zs2, rfl, s2, p2, o2, b2⟩
        have S2 : Hid (Slc w2 w.heap.size (some ⟨g2, 0, none⟩) (m + 1) c2 zs2) := Lib.hid (s2.mono Be.out.size)
        have P2 : Hid (zs2.Perm (chL c i p (k + 1))) := Lib.hid (by
          rw [Kn.out]
          exact (p2.trans (Pm1.out.cons _)).trans (by simpa using (List.perm_append_comm (l₁ := [(v : Int)]) (l₂ := chL c i p k))))
        have O2 := Lib.hid (o2 So.out)
        have Be2 : Hid (Below w.heap.size w w2) := Lib.hid (btr Be.out b2)
        clear s2 p2 o2 b2
        go_wp2_with fail
        go_roundw
        case rel => exact ⟨k + 1, m + 1, c2, g2, zs2, by omega, by omega, by go_num, rfl, S2.out, P2.out, O2.out, Be2.out⟩
        case measure => simp [intOf]; omega
    · obtain rfl : k = N := by omega
      clear bel
      go_wp2_with fail
      go_ret
      exact ⟨q, m, cc, zs, rfl, Ss.out, Pm1.out, So.out, Be.out⟩

set_option maxHeartbeats 2000000 in
set_option maxRecDepth 100000 in
theorem specWithEntry (base g N i v y cp : Nat) (A : Option Addr) (c : Ch) (L : LY) (p : List Int) (w : World) (hc : Cn w base g N c L) (hp : RI w w.heap.size A p) (hP : Hid (Pn N p)) (hi : i < N) (hy : y < N) (hv : Hid (nx p y = v)) (hz : Hid (Pn N (c.rep i y))) :
    Calls Try.prog 59 #[.pointer (some ⟨g, 0, none⟩), .int .i64 (i : Nat), .slice A N cp, .int .i64 (v : Nat)] w fun e w' => ∃ A' c', e = .returned (.slice A' N c') ∧ Slc w' w.heap.size A' N c' (compL (c.rep i y) p) ∧ Below w.heap.size w w' := by
  have HC := Lib.hid hc
  have HP := Lib.hid hp
  have hN := hP.out.pos
  have x1 := hc.c1
  have x2 := hc.cR hi
  have q0 : (0 : Int) ≤ v := by omega
  have hvN : v < N := by rw [← hv.out]; exact hP.out.lt hy
  have q1 : (v : Int) < N := by omega
  have q2 : (0 : Int) ≤ i := by omega
  have q3 : (i : Int) < N := by omega
  have q4 : (0 : Int) ≤ y := by omega
  have q5 : (y : Int) < N := by omega
  have x3 := hc.cro hi hy
  have en := hc.enn hi hy
  rcases hd : (L.en i).getD y sd0 with ⟨dA, dn, dc⟩
  rw [hd] at x3 en
  simp only [sval] at x3
  obtain rfl : dn = N := by
    have h1 : dn = (c.rep i y).length := en
    rw [h1, hz.out.2]
  have Hd := Lib.hid hd
  clear hc hp hd en
  go_enter Try.func59, Try.ntmps59
  go_wp2_with fail
  have Iv : Hid ((invL p dn).getD v 0 = (y : Int)) := Lib.hid (by
    have e1 : invL p dn = iv p := by unfold iv; rw [hP.out.2]
    have e2 := hP.out.nxi hy
    rw [hv.out] at e2
    have h3 := hP.out.iv
    rw [e1, nx_val h3.1 (by rw [h3.2]; exact hvN), e2])
  go_region_law ((go_simp; go_wp2_with (first
    | (go_at_call 73; refine (specInv A cp dn p w.drew HP.out (Lib.hid hP.out.2) (Lib.hid hP.out.1) hN.2).mono ?_; rintro e w1 ⟨A1, c1, rfl, s1, b1⟩
       have b1' : Below w.heap.size w w1 := ⟨b1.os, b1.tape, b1.output, b1.size, b1.block⟩
       have C1 := HC.out.up b1'
       have z1 := C1.c1
       have z2 := C1.cR hi
       have z3 := C1.cro hi hy
       rw [Hd.out] at z3
       simp only [sval] at z3
       obtain ⟨bb, off, hA1, hb1, hc1⟩ := s1.ri_ (by rw [s1.1]; omega)
       subst hA1
       have z4 := hc1 v (by rw [s1.1]; exact hvN)
       rw [Iv.out] at z4
       have E0 := C1.ent1 i hi y hy
       rw [Hd.out] at E0
       have E1 := Lib.hid E0
       have M1 := Lib.hid (HP.out.up b1')
       have B1 := Lib.hid b1'
       clear hb1 hc1 s1 b1 b1' C1 E0)
    | (go_at_call 62; (first | refine (specComp dA A dc cp dn (c.rep i y) p w1 E1.out.ri_ M1.out (Lib.hid hz.out.2) (Lib.hid hP.out.2) (Lib.hid hz.out.1) hN.2).mono ?_ | refine (specComp dA A dc cp dn (c.rep i y) p w1.drew E1.out.ri_ M1.out (Lib.hid hz.out.2) (Lib.hid hP.out.2) (Lib.hid hz.out.1) hN.2).mono ?_); rintro e w2 ⟨A2, c2, rfl, s2, b2⟩))))
  all_goals (go_wp2_with fail; go_ret; exact ⟨A2, c2, rfl, s2.mono B1.out.size, btr B1.out b2⟩)
end Go.Proofs.Ytooafmifbplbhaa

/- The smallest member with a prefix: what it is, and that the model finds it. Conditions: at most 20 points, 8 generators. -/
namespace Go.Proofs.Ytooafmifbplbhaa
open Go.RowKit

/-- m is the member with the prefix whose further entries are as small as can be, one after the other. -/
def Greedy (N : Nat) (gs : List (List Int)) (pre m : List Int) : Prop :=
  Mb gs N m ∧ ∀ i, i < N → (i < pre.length → (nx m i : Int) = pre.getD i 0) ∧ (pre.length ≤ i → ∀ q, Mb gs N q → (∀ t, t < i → nx q t = nx m t) → nx m i ≤ nx q i)
def NoMem (N : Nat) (gs : List (List Int)) (pre : List Int) : Prop := ∀ q, Mb gs N q → ¬ ∀ t, t < pre.length → (nx q t : Int) = pre.getD t 0
/-- What MemberWithPrefix answers. -/
def IsMwp (N : Nat) (gs : List (List Int)) (pre m : List Int) (ok : Bool) : Prop := (ok = true ∧ Greedy N gs pre m) ∨ (ok = false ∧ m = [] ∧ NoMem N gs pre)
section
variable {N : Nat} {gs : List (List Int)} {pre m m' : List Int}
theorem Greedy.uniq (h1 : 1 ≤ N) (h2 : N ≤ 20) (hg : ∀ g ∈ gs, Pn N g) (h : Greedy N gs pre m) (h' : Greedy N gs pre m') : m = m' := by
  have hp := h.1.pn hg h1 h2
  have hp' := h'.1.pn hg h1 h2
  refine hp.ext hp' fun x hx => ?_
  induction x using Nat.strongRecOn with
  | ind x ih =>
    by_cases hl : x < pre.length
    · have a := (h.2 x hx).1 hl
      have b := (h'.2 x hx).1 hl
      omega
    · have a := (h.2 x hx).2 (by omega) m' h'.1 fun t ht => (ih t ht (by omega)).symm
      have b := (h'.2 x hx).2 (by omega) m h.1 fun t ht => ih t ht (by omega)
      omega
theorem Greedy.has (h : Greedy N gs pre m) (hl : pre.length ≤ N) : ¬ NoMem N gs pre := fun hn => hn m h.1 fun t ht => (h.2 t (by omega)).1 ht
theorem IsMwp.uniq {ok ok' : Bool} (h1 : 1 ≤ N) (h2 : N ≤ 20) (hg : ∀ g ∈ gs, Pn N g) (hl : pre.length ≤ N) (h : IsMwp N gs pre m ok) (h' : IsMwp N gs pre m' ok') : m = m' ∧ ok = ok' := by
  rcases h with ⟨rfl, a⟩ | ⟨rfl, rfl, a⟩ <;> rcases h' with ⟨rfl, b⟩ | ⟨rfl, rfl, b⟩
  · exact ⟨a.uniq h1 h2 hg b, rfl⟩
  · exact absurd b (a.has hl)
  · exact absurd a (b.has hl)
  · exact ⟨rfl, rfl⟩
/-- m keeps to it in its first k entries. -/
def GrTo (N : Nat) (gs : List (List Int)) (pre m : List Int) (k : Nat) : Prop :=
  Mb gs N m ∧ ∀ i, i < k → (i < pre.length → (nx m i : Int) = pre.getD i 0) ∧ (pre.length ≤ i → ∀ q, Mb gs N q → (∀ t, t < i → nx q t = nx m t) → nx m i ≤ nx q i)
/-- The entries that level i allows are those of the members that agree before. -/
theorem Whole.choice {c : Ch} (h : Whole N gs c) (h1 : 1 ≤ N) (h2 : N ≤ 20) (hg : ∀ g ∈ gs, Pn N g) {i : Nat} (hi : i < N) (hm : Mb gs N m) {v : Int} : v ∈ chL c i m N ↔ ∃ q, Mb gs N q ∧ (∀ t, t < i → nx q t = nx m t) ∧ (nx q i : Int) = v := by
  have hp := hm.pn hg h1 h2
  rw [chL_mem]
  constructor
  · rintro ⟨y, hy, hr, rfl⟩
    obtain ⟨a, b, d, _⟩ := h.rep_mb h1 h2 hi hr
    have hr' := a.pn hg h1 h2
    refine ⟨compL (c.rep i y) m, a.comp hg h1 h2 hm, fun t ht => ?_, ?_⟩
    · rw [hr'.nxc (by omega), b t ht]
    · rw [hr'.nxc hi, d]
  · rintro ⟨q, hq, ha, rfl⟩
    have hq' := hq.pn hg h1 h2
    have hmi := hp.iv
    refine ⟨nx (iv m) (nx q i), hmi.lt (hq'.lt hi), (h.rep_iff h1 h2 hi).2 ⟨compL q (iv m), hq.comp hg h1 h2 (hm.inv hg h1 h2), fun t ht => ?_, ?_⟩, ?_⟩
    · rw [hq'.nxc (by omega), ha t ht, hp.nxi (by omega)]
    · rw [hq'.nxc hi]
    · rw [hp.nxi' (hq'.lt hi)]
theorem GrTo.step {c : Ch} {k : Nat} (h : GrTo N gs pre m k) (hw : Whole N gs c) (h1 : 1 ≤ N) (h2 : N ≤ 20) (hg : ∀ g ∈ gs, Pn N g) (hk : k < N) {y : Nat} (hr : c.rep k y ≠ []) (hv : (k < pre.length → (nx m y : Int) = pre.getD k 0) ∧ (pre.length ≤ k → ∀ v ∈ chL c k m N, (nx m y : Int) ≤ v)) : GrTo N gs pre (compL (c.rep k y) m) (k + 1) := by
  obtain ⟨a, b, d, _⟩ := hw.rep_mb h1 h2 hk hr
  have hr' := a.pn hg h1 h2
  have e : ∀ t, t < k → nx (compL (c.rep k y) m) t = nx m t := fun t ht => by rw [hr'.nxc (by omega), b t ht]
  have e2 : nx (compL (c.rep k y) m) k = nx m y := by rw [hr'.nxc hk, d]
  refine ⟨a.comp hg h1 h2 h.1, fun i hi => ?_⟩
  rcases Nat.lt_or_ge i k with hl | hl
  · rw [e i hl]
    exact ⟨(h.2 i hl).1, fun hp q hq hag => (h.2 i hl).2 hp q hq fun t ht => (hag t ht).trans (e t (by omega))⟩
  · obtain rfl : i = k := by omega
    rw [e2]
    refine ⟨hv.1, fun hp q hq hag => ?_⟩
    have := hv.2 hp (nx q i : Int) ((hw.choice h1 h2 hg hk h.1).2 ⟨q, hq, fun t ht => (hag t ht).trans (e t ht), rfl⟩)
    omega
theorem GrTo.no {c : Ch} {k : Nat} (h : GrTo N gs pre m k) (hw : Whole N gs c) (h1 : 1 ≤ N) (h2 : N ≤ 20) (hg : ∀ g ∈ gs, Pn N g) (hk : k < N) (hl : k < pre.length) (hn : pre.getD k 0 ∉ chL c k m N) : NoMem N gs pre := fun q hq hag =>
  hn ((hw.choice h1 h2 hg hk h.1).2 ⟨q, hq, fun t ht => by
    have a := hag t (by omega)
    have b := (h.2 t ht).1 (by omega)
    omega, hag k hl⟩)
theorem hasB_in (xs : List Int) (x : Int) : hasB xs x = decide (x ∈ xs) := by
  unfold hasB
  rw [Bool.eq_iff_iff]
  simp only [decide_eq_true_eq]
  constructor
  · rintro ⟨k, hk, e⟩
    rw [← e, List.getD_eq_getElem?_getD, List.getElem?_eq_getElem hk]; exact List.getElem_mem _
  · intro h
    obtain ⟨k, hk, e⟩ := List.mem_iff_getElem.1 h
    exact ⟨k, hk, by rw [List.getD_eq_getElem?_getD, List.getElem?_eq_getElem hk, ← e]; rfl⟩
end

set_option maxHeartbeats 4000000 in
set_option maxRecDepth 100000 in
theorem specMwp (base g N np cp : Nat) (A : Option Addr) (c : Ch) (L : LY) (gs : List (List Int)) (pre : List Int) (w : World) (hc : Cn w base g N c L) (hw : Whole N gs c) (hp : RI w w.heap.size A pre) (lp : Hid (pre.length = np)) (hnp : np ≤ N) (hN1 : 1 ≤ N) (hN : N ≤ 20) (hg : Hid (∀ g ∈ gs, Pn N g)) :
    Calls Try.prog 64 #[.pointer (some ⟨g, 0, none⟩), .slice A np cp] w fun e w' => ∃ A' n' c' m ok, e = .returned (.tuple #[.slice A' n' c', .bool ok]) ∧ Slc w' w.heap.size A' n' c' m ∧ IsMwp N gs pre m ok ∧ Below w.heap.size w w' := by
  have HC := Lib.hid hc
  have HW := Lib.hid hw
  have HP := Lib.hid hp
  have x0 := hc.c0
  clear hc hw hp
  go_enter Try.func64, Try.ntmps64
  go_wp2_with fail
  refine (specIdent N w (by omega)).mono ?_
  rintro e w1 ⟨A1, c1, rfl, s1, b1⟩
  have S1 := Lib.hid s1
  have B1 := Lib.hid b1
  clear s1 b1 x0
  go_wp2_with fail
  go_loopw [6, 7] (fun v i wr => ∃ (k cc : Nat) (M : Option Addr) (m : List Int), k ≤ N ∧ i = .int .i64 (k : Nat) ∧ v = .slice M N cc ∧ Slc wr w.heap.size M N cc m ∧ GrTo N gs pre m k ∧ Below w.heap.size w wr) (fun _ i _ => N - (intOf i).toNat)
  case atStart => exact ⟨0, _, _, _, Nat.zero_le _, rfl, rfl, S1.out, ⟨.one, fun i hi => absurd hi (by omega)⟩, B1.out⟩
  case round =>
    clear S1 B1
    obtain ⟨k, cc, M, m, hk, rfl, rfl, hs, hgr, bel⟩ := hrel
    have Ss := Lib.hid hs
    have Gr := Lib.hid hgr
    have Be := Lib.hid bel
    have C1 := Lib.hid (HC.out.up bel)
    have x0 := C1.out.c0
    have MP : Hid (Pn N m) := Lib.hid (hgr.1.pn hg.out hN1 hN)
    clear hs hgr bel
    by_cases hlt : k < N
    · go_wp2_with fail
      refine (specChoices base g N k cc M c L gs m wr C1.out HW.out Ss.out.ri_ MP hlt).mono ?_
      rintro e w2 ⟨g2, m2, c2, zs, rfl, s2, p2, o2, b2⟩
      have S2 := Lib.hid s2
      have P2 := Lib.hid p2
      have O2 := Lib.hid o2
      have Ss2 := Lib.hid (Ss.out.up b2)
      have C2 := Lib.hid (C1.out.up b2)
      have Be2 : Hid (Below w.heap.size w w2) := Lib.hid (btr Be.out b2)
      have hid : ∃ v, v ∈ zs := ⟨(nx m k : Int), P2.out.mem_iff.2 ((HW.out.choice hN1 hN hg.out hlt Gr.out.1).2 ⟨m, Gr.out.1, fun _ _ => rfl, rfl⟩)⟩
      have hm2 : 0 < m2 := by
        obtain ⟨v, hv⟩ := hid
        rw [← s2.1]; exact List.length_pos_of_mem hv
      have hm3 : m2 ≤ 20 := by rw [← s2.1, p2.length_eq]; have := chL_len c k m N; omega
      obtain ⟨bz, oz, hzA, hzb, hzc⟩ := s2.ri_ (by rw [s2.1]; omega)
      have x5 := hzc 0 (by rw [s2.1]; omega)
      have ez : (some ⟨g2, 0, none⟩ : Option Addr) = some ⟨bz, oz, none⟩ := hzA
      injection ez with ez
      injection ez with e1 e2 _
      subst e1 e2
      obtain ⟨v0, ev0⟩ : ∃ v0, zs.getD 0 0 = v0 := ⟨_, rfl⟩
      rw [ev0] at x5
      have V0 : Hid (zs.getD 0 0 = v0) := Lib.hid ev0
      have q0 : (0 : Int) < m2 := by omega
      clear s2 p2 o2 b2 hzA hzb hzc ev0 hid x0
      -- what a value among the choices gives
      have Take : Hid (∀ v : Int, v ∈ zs → (k < pre.length → v = pre.getD k 0) → (pre.length ≤ k → ∀ u ∈ zs, v ≤ u) → ∃ y : Nat, y < N ∧ v = (nx m y : Int) ∧ Pn N (c.rep k y) ∧ GrTo N gs pre (compL (c.rep k y) m) (k + 1)) := Lib.hid fun v hv h1 h2 => by
        obtain ⟨y, hy, hr, e⟩ := chL_mem.1 (P2.out.mem_iff.1 hv)
        exact ⟨y, hy, e.symm, ((HW.out.up.rep k (Nat.zero_le _) hlt).at_ y hr).2.1, Gr.out.step HW.out hN1 hN hg.out hlt hr ⟨fun hl => by rw [e]; exact h1 hl, fun hl u hu => by rw [e]; exact h2 hl u (P2.out.mem_iff.2 hu)⟩⟩
      by_cases hl : k < np
      · obtain ⟨b, off, rfl, hb, hcell⟩ := (HP.out.up Be2.out) (by rw [lp.out]; omega)
        have x6 := hcell k (by rw [lp.out]; exact hl)
        obtain ⟨v, ev⟩ : ∃ v, pre.getD k 0 = v := ⟨_, rfl⟩
        rw [ev] at x6
        have q1 : (0 : Int) ≤ k := by omega
        have q2 : (k : Int) < np := by omega
        have Ev : Hid (pre.getD k 0 = v) := Lib.hid ev
        clear hb hcell ev
        by_cases hin : v ∈ zs
        · obtain ⟨y, hy, rfl, hrP, hgr⟩ := Take.out v hin (fun _ => Ev.out.symm) (fun hh => absurd hh (by rw [lp.out]; omega))
          have Gr2 := Lib.hid hgr
          have HA : Hid (hasB zs (nx m y : Int) = true) := Lib.hid (by rw [hasB_in]; exact decide_eq_true hin)
          have RP := Lib.hid hrP
          clear hgr hin hrP
          go_wp2_with fail
          refine (containsI_any _ c2 m2 zs _ w2 _ S2.out.ri_ S2.out.hid (by omega) true HA).mono ?_
          rintro e w' ⟨rfl, rfl⟩
          go_wp2_with fail
          refine (specWithEntry base g N k (nx m y) y cc M c L m w2 C2.out Ss2.out.ri_ MP hlt hy (Lib.hid rfl) RP).mono ?_
          rintro e w3 ⟨A3, c3, rfl, s3, b3⟩
          have S3 : Hid (Slc w3 w.heap.size A3 N c3 (compL (c.rep k y) m)) := Lib.hid (s3.mono Be2.out.size)
          have Be3 : Hid (Below w.heap.size w w3) := Lib.hid (btr Be2.out b3)
          clear s3 b3
          go_wp2_with fail
          go_roundw
          case rel => exact ⟨k + 1, _, _, _, by omega, by go_num, rfl, S3.out, Gr2.out, Be3.out⟩
          case measure => simp [intOf]; omega
        · have HA : Hid (hasB zs v = false) := Lib.hid (by rw [hasB_in]; exact decide_eq_false hin)
          have No : Hid (NoMem N gs pre) := Lib.hid (Gr.out.no HW.out hN1 hN hg.out hlt (by rw [lp.out]; exact hl) (by rw [Ev.out]; exact fun h => hin (P2.out.mem_iff.2 h)))
          have S3 := Lib.hid (Slc.lit0 w2 w.heap.size Be2.out.size)
          have hz2 := Be2.out.size
          clear hin
          go_wp2_with fail
          refine (containsI_any _ c2 m2 zs _ w2 _ S2.out.ri_ S2.out.hid (by omega) false HA).mono ?_
          rintro e w' ⟨rfl, rfl⟩
          go_wp2_with fail
          go_ret2
          exact ⟨_, _, _, [], false, rfl, S3.out, .inr ⟨rfl, rfl, No.out⟩, Be2.out.alloc hz2 _⟩
      · have hin : v0 ∈ zs := by
          rw [← V0.out, List.getD_eq_getElem?_getD, List.getElem?_eq_getElem (by rw [S2.out.1]; exact hm2)]
          exact List.getElem_mem _
        have hmin : ∀ u ∈ zs, v0 ≤ u := fun u hu => by
          obtain ⟨t, ht, e⟩ := List.mem_iff_getElem.1 hu
          have h0 := hm2
          rw [← S2.out.1] at h0
          rw [← V0.out, List.getD_eq_getElem?_getD, List.getElem?_eq_getElem h0, ← e]
          show zs[0] ≤ zs[t]
          rcases Nat.eq_zero_or_pos t with rfl | hp
          · exact Int.le_refl _
          · exact (List.pairwise_iff_getElem.1 O2.out) 0 t h0 ht hp
        obtain ⟨y, hy, hvy, hrP, hgr⟩ := Take.out v0 hin (fun hh => absurd hh (by rw [lp.out]; omega)) (fun _ => hmin)
        have Gr2 := Lib.hid hgr
        have HA : Hid (hasB zs (nx m y : Int) = true) := Lib.hid (by rw [hasB_in, ← hvy]; exact decide_eq_true hin)
        have RP := Lib.hid hrP
        subst hvy
        clear hgr hin hrP hmin V0
        go_wp2_with fail
        refine (containsI_any _ c2 m2 zs _ w2 _ S2.out.ri_ S2.out.hid (by omega) true HA).mono ?_
        rintro e w' ⟨rfl, rfl⟩
        go_wp2_with fail
        refine (specWithEntry base g N k (nx m y) y cc M c L m w2 C2.out Ss2.out.ri_ MP hlt hy (Lib.hid rfl) RP).mono ?_
        rintro e w3 ⟨A3, c3, rfl, s3, b3⟩
        have S3 : Hid (Slc w3 w.heap.size A3 N c3 (compL (c.rep k y) m)) := Lib.hid (s3.mono Be2.out.size)
        have Be3 : Hid (Below w.heap.size w w3) := Lib.hid (btr Be2.out b3)
        clear s3 b3
        go_wp2_with fail
        go_roundw
        case rel => exact ⟨k + 1, _, _, _, by omega, by go_num, rfl, S3.out, Gr2.out, Be3.out⟩
        case measure => simp [intOf]; omega
    · obtain rfl : k = N := by omega
      go_wp2_with fail
      go_ret2
      exact ⟨_, _, _, m, true, rfl, Ss.out, .inl ⟨rfl, Gr.out⟩, Be.out⟩
end Go.Proofs.Ytooafmifbplbhaa

/- GroupOrder, OrbitSizes, IsMember and MemberWithPrefix of the model: what they answer. Conditions: at most 1048576 lists of at most 1048576 numbers. -/
namespace Go.Proofs.Ytooafmifbplbhaa
open Go.RowKit

/-- What GroupOrder answers. -/
def IsOrd (a : Int) (gs : List (List Int)) (v : Int) : Prop := (gB a gs = true ∧ ∃ xs, IsOS a.toNat gs xs ∧ v = prodL xs) ∨ (gB a gs = false ∧ v = 0)
theorem IsOrd.uniq {a v v' : Int} {gs : List (List Int)} (h : IsOrd a gs v) (h' : IsOrd a gs v') : v = v' := by
  rcases h with ⟨e, xs, h, rfl⟩ | ⟨e, rfl⟩ <;> rcases h' with ⟨e', ys, h', rfl⟩ | ⟨e', rfl⟩
  · rw [h.uniq h']
  · rw [e] at e'; cases e'
  · rw [e] at e'; cases e'
  · rfl
/-- What OrbitSizes answers. -/
def IsSiz (a : Int) (gs : List (List Int)) (xs : List Int) : Prop := (gB a gs = true ∧ IsOS a.toNat gs xs) ∨ (gB a gs = false ∧ xs = [])
theorem IsSiz.uniq {a : Int} {gs : List (List Int)} {xs ys : List Int} (h : IsSiz a gs xs) (h' : IsSiz a gs ys) : xs = ys := by
  rcases h with ⟨e, h⟩ | ⟨e, rfl⟩ <;> rcases h' with ⟨e', h'⟩ | ⟨e', rfl⟩
  · exact h.uniq h'
  · rw [e] at e'; cases e'
  · rw [e] at e'; cases e'
  · rfl
theorem IsSiz.len {a : Int} {gs : List (List Int)} {xs : List Int} (h : IsSiz a gs xs) : xs.length ≤ 20 := by
  rcases h with ⟨e, h⟩ | ⟨e, rfl⟩
  · obtain ⟨N, rfl, _, hN, _⟩ := gB_pm e
    rw [h.1]; simpa using hN
  · simp
/-- p is a member. -/
def Memb (a : Int) (gs : List (List Int)) (p : List Int) : Prop := gB a gs = true ∧ (p.length : Int) = a ∧ isP p = true ∧ Mb gs a.toNat p
theorem memb_uniq {a : Int} {gs : List (List Int)} {p : List Int} {b b' : Bool} (h : b = true ↔ Memb a gs p) (h' : b' = true ↔ Memb a gs p) : b = b' := by
  rw [Bool.eq_iff_iff, h, h']
/-- What MemberWithPrefix answers. -/
def IsMw (a : Int) (gs : List (List Int)) (pre m : List Int) (ok : Bool) : Prop :=
  (gB a gs = true ∧ (pre.length : Int) ≤ a ∧ IsMwp a.toNat gs pre m ok) ∨ (¬ (gB a gs = true ∧ (pre.length : Int) ≤ a) ∧ m = [] ∧ ok = false)
theorem IsMw.uniq {a : Int} {gs : List (List Int)} {pre m m' : List Int} {ok ok' : Bool} (h : IsMw a gs pre m ok) (h' : IsMw a gs pre m' ok') : m = m' ∧ ok = ok' := by
  rcases h with ⟨e, hl, h⟩ | ⟨e, rfl, rfl⟩ <;> rcases h' with ⟨e', hl', h'⟩ | ⟨e', rfl, rfl⟩
  · obtain ⟨N, rfl, h1, hN, _, _, ok⟩ := gB_pm e
    exact h.uniq (by simpa using h1) (by simpa using hN) (fun g hg => by rw [Int.toNat_natCast]; exact ok g hg) (by simp; omega) h'
  · exact absurd ⟨e, hl⟩ e'
  · exact absurd ⟨e', hl'⟩ e
  · exact ⟨rfl, rfl⟩
theorem IsMwp.len {N : Nat} {gs : List (List Int)} {pre m : List Int} {ok : Bool} (h1 : 1 ≤ N) (h2 : N ≤ 20) (hg : ∀ g ∈ gs, Pn N g) (h : IsMwp N gs pre m ok) : m.length ≤ 20 := by
  rcases h with ⟨_, h⟩ | ⟨_, rfl, _⟩
  · rw [(h.1.pn hg h1 h2).2]; exact h2
  · simp
theorem IsMw.len {a : Int} {gs : List (List Int)} {pre m : List Int} {ok : Bool} (h : IsMw a gs pre m ok) : m.length ≤ 20 := by
  rcases h with ⟨e, hl, h⟩ | ⟨e, rfl, rfl⟩
  · obtain ⟨N, rfl, h1, hN, _, _, ok⟩ := gB_pm e
    rw [Int.toNat_natCast] at h
    exact h.len h1 hN ok
  · simp

section
variable (a : Int) (A : Option Addr) (n c : Nat) (vs : List SV) (xss : List (List Int)) (w : World)
set_option maxHeartbeats 1000000 in
set_option maxRecDepth 100000 in
theorem specGroupOrder (hx : RR w w.heap.size A n vs xss) (hn : n ≤ 1048576) (hl : Hid (∀ i, i < n → (vs.getD i sd0).2.1 ≤ 1048576)) (ha : -9223372036854775808 ≤ a ∧ a ≤ 9223372036854775807) :
    Calls Try.prog 28 #[.int .i64 a, .slice A n c] w fun e w' => ∃ v, e = .returned (.int .i64 v) ∧ IsOrd a xss v ∧ Below w.heap.size w w' := by
  have HX := Lib.hid hx
  have hlx : Hid (xss.length = n) := Lib.hid hx.lx
  clear hx
  go_enter Try.func28, Try.ntmps28
  go_wp2_with fail
  refine (specGS a A n c vs xss w HX.out hn hl ha).mono ?_
  rintro e w1 ⟨rfl, b1⟩
  have B1 := Lib.hid b1
  have X1 := Lib.hid (HX.out.up b1)
  clear b1
  rcases hs : gB a xss with _ | _
  · have Fin : Hid (IsOrd a xss 0) := Lib.hid (.inr ⟨hs, rfl⟩)
    clear hs
    go_wp2_with fail
    go_ret
    exact ⟨0, rfl, Fin.out, B1.out⟩
  · obtain ⟨N, rfl, hN1, hN2, hg8, hpm, hok⟩ := gB_pm hs
    have Hs := Lib.hid hs
    have Ok := Lib.hid hok
    have hn8 : n ≤ 8 := by rw [← hlx.out]; exact hg8
    clear hs hpm hok hg8
    go_wp2_with fail
    refine (specBuild N n c A vs xss w1 X1.out hN1 hN2 hn8 Ok).mono ?_
    rintro e w2 ⟨g, L, ch, rfl, hc2, hw2, b2⟩
    have C2 := Lib.hid hc2
    have W2 := Lib.hid hw2
    have B2 : Hid (Below w.heap.size w w2) := Lib.hid (btr B1.out b2)
    clear hc2 hw2 b2
    go_wp2_with fail
    refine (specOrder w1.heap.size g N ch L xss w2 C2.out W2.out hN1 hN2).mono ?_
    rintro e w3 ⟨rfl, b3⟩
    have B3 : Hid (Below w.heap.size w w3) := Lib.hid (btr B2.out b3)
    have Fin : Hid (IsOrd (N : Int) xss (prodL (osL N ch N))) := Lib.hid (.inl ⟨Hs.out, _, by rw [Int.toNat_natCast]; exact W2.out.os hN1 hN2, rfl⟩)
    clear b3
    go_wp2_with fail
    go_ret
    exact ⟨_, rfl, Fin.out, B3.out⟩
set_option maxHeartbeats 1000000 in
set_option maxRecDepth 100000 in
theorem specOrbitSizes (hx : RR w w.heap.size A n vs xss) (hn : n ≤ 1048576) (hl : Hid (∀ i, i < n → (vs.getD i sd0).2.1 ≤ 1048576)) (ha : -9223372036854775808 ≤ a ∧ a ≤ 9223372036854775807) :
    Calls Try.prog 27 #[.int .i64 a, .slice A n c] w fun e w' => ∃ A' m c' zs, e = .returned (.slice A' m c') ∧ Slc w' w.heap.size A' m c' zs ∧ IsSiz a xss zs ∧ Below w.heap.size w w' := by
  have HX := Lib.hid hx
  have hlx : Hid (xss.length = n) := Lib.hid hx.lx
  clear hx
  go_enter Try.func27, Try.ntmps27
  go_wp2_with fail
  refine (specGS a A n c vs xss w HX.out hn hl ha).mono ?_
  rintro e w1 ⟨rfl, b1⟩
  have B1 := Lib.hid b1
  have X1 := Lib.hid (HX.out.up b1)
  have hz1 := b1.size
  clear b1
  rcases hs : gB a xss with _ | _
  · have Fin : Hid (IsSiz a xss []) := Lib.hid (.inr ⟨hs, rfl⟩)
    have S0 := Lib.hid (Slc.lit0 w1 w.heap.size hz1)
    clear hs
    go_wp2_with fail
    go_ret
    exact ⟨_, _, _, _, rfl, S0.out, Fin.out, B1.out.alloc hz1 _⟩
  · obtain ⟨N, rfl, hN1, hN2, hg8, hpm, hok⟩ := gB_pm hs
    have Hs := Lib.hid hs
    have Ok := Lib.hid hok
    have hn8 : n ≤ 8 := by rw [← hlx.out]; exact hg8
    clear hs hpm hok hg8
    go_wp2_with fail
    refine (specBuild N n c A vs xss w1 X1.out hN1 hN2 hn8 Ok).mono ?_
    rintro e w2 ⟨g, L, ch, rfl, hc2, hw2, b2⟩
    have C2 := Lib.hid hc2
    have W2 := Lib.hid hw2
    have B2 : Hid (Below w.heap.size w w2) := Lib.hid (btr B1.out b2)
    clear hc2 hw2 b2
    go_wp2_with fail
    refine (specSizes w1.heap.size g N ch L xss w2 C2.out W2.out hN1 hN2).mono ?_
    rintro e w3 ⟨A3, c3, rfl, s3, b3⟩
    have S3 : Hid (Slc w3 w.heap.size A3 N c3 (osL N ch N)) := Lib.hid (s3.mono B2.out.size)
    have B3 : Hid (Below w.heap.size w w3) := Lib.hid (btr B2.out b3)
    have Fin : Hid (IsSiz (N : Int) xss (osL N ch N)) := Lib.hid (.inl ⟨Hs.out, by rw [Int.toNat_natCast]; exact W2.out.os hN1 hN2⟩)
    clear s3 b3
    go_wp2_with fail
    go_ret
    exact ⟨_, _, _, _, rfl, S3.out, Fin.out, B3.out⟩
set_option maxHeartbeats 1000000 in
set_option maxRecDepth 100000 in
theorem specMemberWithPrefix (P : Option Addr) (np cp : Nat) (pre : List Int) (hx : RR w w.heap.size A n vs xss) (hn : n ≤ 1048576) (hl : Hid (∀ i, i < n → (vs.getD i sd0).2.1 ≤ 1048576)) (hp : RI w w.heap.size P pre) (lp : Hid (pre.length = np)) (hnp : np ≤ 1048576) (ha : -9223372036854775808 ≤ a ∧ a ≤ 9223372036854775807) :
    Calls Try.prog 41 #[.int .i64 a, .slice A n c, .slice P np cp] w fun e w' => ∃ A' m c' zs ok, e = .returned (.tuple #[.slice A' m c', .bool ok]) ∧ Slc w' w.heap.size A' m c' zs ∧ IsMw a xss pre zs ok ∧ Below w.heap.size w w' := by
  have HX := Lib.hid hx
  have HP := Lib.hid hp
  have hlx : Hid (xss.length = n) := Lib.hid hx.lx
  clear hx hp
  go_enter Try.func41, Try.ntmps41
  go_wp2_with fail
  refine (specGS a A n c vs xss w HX.out hn hl ha).mono ?_
  rintro e w1 ⟨rfl, b1⟩
  have B1 := Lib.hid b1
  have X1 := Lib.hid (HX.out.up b1)
  have P1 := Lib.hid (HP.out.up b1)
  have hz1 := b1.size
  have S0 := Lib.hid (Slc.lit0 w1 w.heap.size hz1)
  clear b1
  rcases hs : gB a xss with _ | _
  · have Fin : Hid (IsMw a xss pre [] false) := Lib.hid (.inr ⟨fun h => by rw [hs] at h; exact absurd h.1 (by decide), rfl, rfl⟩)
    clear hs
    go_wp2_with fail
    go_ret2
    exact ⟨_, _, _, _, _, rfl, S0.out, Fin.out, B1.out.alloc hz1 _⟩
  · obtain ⟨N, rfl, hN1, hN2, hg8, hpm, hok⟩ := gB_pm hs
    have Hs := Lib.hid hs
    have Ok := Lib.hid hok
    have hn8 : n ≤ 8 := by rw [← hlx.out]; exact hg8
    clear hs hpm hok hg8
    by_cases hle : np ≤ N
    · have d0 : decide ((N : Int) < (np : Int)) = false := by simp; omega
      go_wp2_with fail
      refine (specBuild N n c A vs xss w1 X1.out hN1 hN2 hn8 Ok).mono ?_
      rintro e w2 ⟨g, L, ch, rfl, hc2, hw2, b2⟩
      have C2 := Lib.hid hc2
      have W2 := Lib.hid hw2
      have P2 := Lib.hid (P1.out.up b2)
      have B2 : Hid (Below w.heap.size w w2) := Lib.hid (btr B1.out b2)
      clear hc2 hw2 b2
      go_wp2_with fail
      refine (specMwp w1.heap.size g N np cp P ch L xss pre w2 C2.out W2.out P2.out lp hle hN1 hN2 Ok).mono ?_
      rintro e w3 ⟨A3, n3, c3, m, ok, rfl, s3, hm3, b3⟩
      have S3 : Hid (Slc w3 w.heap.size A3 n3 c3 m) := Lib.hid (s3.mono B2.out.size)
      have B3 : Hid (Below w.heap.size w w3) := Lib.hid (btr B2.out b3)
      have Fin : Hid (IsMw (N : Int) xss pre m ok) := Lib.hid (.inl ⟨Hs.out, by rw [lp.out]; omega, by rw [Int.toNat_natCast]; exact hm3⟩)
      clear s3 b3 hm3
      go_wp2_with fail
      go_ret2
      exact ⟨_, _, _, _, _, rfl, S3.out, Fin.out, B3.out⟩
    · have d0 : decide ((N : Int) < (np : Int)) = true := by simp; omega
      have Fin : Hid (IsMw (N : Int) xss pre [] false) := Lib.hid (.inr ⟨fun h => by have := h.2; rw [lp.out] at this; omega, rfl, rfl⟩)
      go_wp2_with fail
      go_ret2
      exact ⟨_, _, _, _, _, rfl, S0.out, Fin.out, B1.out.alloc hz1 _⟩
end
end Go.Proofs.Ytooafmifbplbhaa

/- IsMember, LongestMemberPrefix and SameGroup of the model: what they answer. Conditions: at most 1048576 lists of at most 1048576 numbers. -/
namespace Go.Proofs.Ytooafmifbplbhaa
open Go.RowKit

/-- p's first k entries are those of a member, and no more of them are. -/
def LmpOK (N : Nat) (gs : List (List Int)) (p : List Int) (k : Nat) : Prop := k ≤ N ∧ (∃ q, Mb gs N q ∧ ∀ t, t < k → nx q t = nx p t) ∧ (k < N → ¬ ∃ q, Mb gs N q ∧ ∀ t, t ≤ k → nx q t = nx p t)
theorem LmpOK.uniq {N k k' : Nat} {gs : List (List Int)} {p : List Int} (h : LmpOK N gs p k) (h' : LmpOK N gs p k') : k = k' := by
  obtain ⟨a, ⟨q, hq, hq2⟩, b⟩ := h
  obtain ⟨a', ⟨q', hq', hq2'⟩, b'⟩ := h'
  rcases Nat.lt_trichotomy k k' with hl | hl | hl
  · exact absurd ⟨q', hq', fun t ht => hq2' t (by omega)⟩ (b (by omega))
  · exact hl
  · exact absurd ⟨q, hq, fun t ht => hq2 t (by omega)⟩ (b' (by omega))
/-- What LongestMemberPrefix answers. -/
def IsLmp (a : Int) (gs : List (List Int)) (p : List Int) (v : Int) : Prop :=
  (gB a gs = true ∧ (p.length : Int) = a ∧ isP p = true ∧ ∃ k : Nat, v = k ∧ LmpOK a.toNat gs p k) ∨ (¬ (gB a gs = true ∧ (p.length : Int) = a ∧ isP p = true) ∧ v = -1)
theorem IsLmp.uniq {a v v' : Int} {gs : List (List Int)} {p : List Int} (h : IsLmp a gs p v) (h' : IsLmp a gs p v') : v = v' := by
  rcases h with ⟨e1, e2, e3, k, rfl, h⟩ | ⟨e, rfl⟩ <;> rcases h' with ⟨e1', e2', e3', k', rfl, h'⟩ | ⟨e', rfl⟩
  · rw [h.uniq h']
  · exact absurd ⟨e1, e2, e3⟩ e'
  · exact absurd ⟨e1', e2', e3'⟩ e
  · rfl
/-- The two lists generate the same group. -/
def SameG (a : Int) (xs ys : List (List Int)) : Prop := gB a xs = true ∧ gB a ys = true ∧ (∀ g ∈ ys, Mb xs a.toNat g) ∧ ∀ g ∈ xs, Mb ys a.toNat g

theorem bool_of (P : Prop) : ∃ b : Bool, b = true ↔ P := by
  rcases Classical.em P with h | h
  · exact ⟨true, fun _ => h, fun _ => rfl⟩
  · exact ⟨false, fun e => (by cases e), fun e => absurd e h⟩
section
variable (a : Int) (A : Option Addr) (n c : Nat) (vs : List SV) (xss : List (List Int)) (w : World)
theorem specIsPB (N : Nat) (xs : List Int) (ans : Bool) (hx : RI w w.heap.size A xs) (lx : Hid (xs.length = n)) (hn : n ≤ 2097152) (hnc : n ≤ c) (ha : Hid (isP xs = ans)) :
    Calls Try.prog 52 #[.slice A n c] w fun e w' => e = .returned (.bool ans) ∧ Below w.heap.size w w' :=
  (quiet_below (specIsP A c n xs w hx lx hn hnc)).mono fun e w' ⟨he, hb⟩ => ⟨he.trans (ret_bool ha.out), hb⟩
set_option maxHeartbeats 1000000 in
theorem specIsPOf (N : Nat) (xs : List Int) (ans : Bool) (hx : RI w w.heap.size A xs) (lx : Hid (xs.length = n)) (hn : n ≤ 2097152) (hnc : n ≤ c) (ha : Hid ((decide (n = N) && isP xs) = ans)) :
    Calls Try.prog 55 #[.int .i64 (N : Nat), .slice A n c] w fun e w' => e = .returned (.bool ans) ∧ Below w.heap.size w w' := by
  have HX := Lib.hid hx
  clear hx
  by_cases e1 : n = N
  · subst e1
    have e0 : ((n : Int) == (n : Int)) = true := by simp
    have h1 : Hid (isP xs = ans) := Lib.hid (by rw [← ha.out]; simp)
    go_enter Try.func55, Try.ntmps55
    go_wp2_with (first | (go_at_call 52; refine (specIsPB A n c w n xs ans HX.out lx hn hnc h1).mono ?_; rintro e w1 ⟨rfl, b1⟩))
    go_ret
    exact ⟨rfl, b1⟩
  · have e0 : ((n : Int) == (N : Int)) = false := by simp; omega
    have h1 : Hid (ans = false) := Lib.hid (by rw [← ha.out]; simp [e1])
    go_enter Try.func55, Try.ntmps55
    go_wp2_with fail
    go_ret
    exact ⟨ret_bool h1.out.symm, Below.refl _ _⟩
set_option maxHeartbeats 2000000 in
set_option maxRecDepth 100000 in
theorem specIsMember (P : Option Addr) (np cp : Nat) (p : List Int) (hx : RR w w.heap.size A n vs xss) (hn : n ≤ 1048576) (hl : Hid (∀ i, i < n → (vs.getD i sd0).2.1 ≤ 1048576)) (hp : RI w w.heap.size P p) (lp : Hid (p.length = np)) (hnp : np ≤ 1048576) (hpc : np ≤ cp) (ha : -9223372036854775808 ≤ a ∧ a ≤ 9223372036854775807) :
    Calls Try.prog 17 #[.int .i64 a, .slice A n c, .slice P np cp] w fun e w' => ∃ b, e = .returned (.bool b) ∧ (b = true ↔ Memb a xss p) ∧ Below w.heap.size w w' := by
  have HX := Lib.hid hx
  have HP := Lib.hid hp
  have hlx : Hid (xss.length = n) := Lib.hid hx.lx
  clear hx hp
  go_enter Try.func17, Try.ntmps17
  go_wp2_with fail
  refine (specGS a A n c vs xss w HX.out hn hl ha).mono ?_
  rintro e w1 ⟨rfl, b1⟩
  have B1 := Lib.hid b1
  have X1 := Lib.hid (HX.out.up b1)
  have P1 := Lib.hid (HP.out.up b1)
  clear b1
  rcases hs : gB a xss with _ | _
  · have Fin : Hid (false = true ↔ Memb a xss p) := Lib.hid ⟨fun h => (by cases h), fun h => by have := h.1; rw [hs] at this; cases this⟩
    clear hs
    go_wp2_with fail
    go_ret
    exact ⟨_, rfl, Fin.out, B1.out⟩
  · by_cases e1 : (np : Int) = a
    · obtain ⟨N, rfl, hN1, hN2, hg8, hpm, hok⟩ := gB_pm hs
      obtain rfl : np = N := by omega
      have Hs := Lib.hid hs
      have Ok := Lib.hid hok
      have hn8 : n ≤ 8 := by rw [← hlx.out]; exact hg8
      have e0 : ((np : Int) == (np : Int)) = true := by simp
      clear hs hpm hok hg8 e1
      rcases hq : isP p with _ | _
      · have Fin : Hid (false = true ↔ Memb np xss p) := Lib.hid ⟨fun h => (by cases h), fun h => by have := h.2.2.1; rw [hq] at this; cases this⟩
        have Hq := Lib.hid hq
        clear hq
        go_wp2_with fail
        refine (specIsPB P np cp w1 np p false P1.out lp (by omega) hpc Hq).mono ?_
        rintro e w2 ⟨rfl, b2⟩
        have B2 : Hid (Below w.heap.size w w2) := Lib.hid (btr B1.out b2)
        clear b2
        go_wp2_with fail
        go_ret
        exact ⟨_, rfl, Fin.out, B2.out⟩
      · have PP : Hid (Pn np p) := Lib.hid ⟨isP_iff.1 hq, lp.out⟩
        have Hq := Lib.hid hq
        clear hq
        go_wp2_with fail
        refine (specIsPB P np cp w1 np p true P1.out lp (by omega) hpc Hq).mono ?_
        rintro e w2 ⟨rfl, b2⟩
        have X2 := Lib.hid (X1.out.up b2)
        have P2 := Lib.hid (P1.out.up b2)
        have B2 : Hid (Below w.heap.size w w2) := Lib.hid (btr B1.out b2)
        clear b2
        go_wp2_with fail
        refine (specBuild np n c A vs xss w2 X2.out hN1 hN2 hn8 Ok).mono ?_
        rintro e w3 ⟨g, L, ch, rfl, hc3, hw3, b3⟩
        have C3 := Lib.hid hc3
        have W3 := Lib.hid hw3
        have P3 := Lib.hid (P2.out.up b3)
        have B3 : Hid (Below w.heap.size w w3) := Lib.hid (btr B2.out b3)
        clear hc3 hw3 b3
        obtain ⟨ans, hans⟩ : ∃ ans : Bool, ans = true ↔ Mb xss np p := by
          rcases Classical.em (Mb xss np p) with h | h
          · exact ⟨true, fun _ => h, fun _ => rfl⟩
          · exact ⟨false, fun e => (by cases e), fun e => absurd e h⟩
        have Ha := Lib.hid hans
        have Fin : Hid (ans = true ↔ Memb np xss p) := Lib.hid ⟨fun h => ⟨Hs.out, by rw [lp.out], Hq.out, by rw [Int.toNat_natCast]; exact hans.1 h⟩, fun h => hans.2 (by have := h.2.2.2; rwa [Int.toNat_natCast] at this)⟩
        clear hans
        go_wp2_with fail
        refine (specHas w2.heap.size g np cp P ch L xss p w3 C3.out W3.out P3.out PP ans Ha).mono ?_
        rintro e w4 ⟨rfl, b4⟩
        have B4 : Hid (Below w.heap.size w w4) := Lib.hid (btr B3.out b4)
        clear b4
        go_wp2_with fail
        go_ret
        exact ⟨_, rfl, Fin.out, B4.out⟩
    · have e0 : ((np : Int) == a) = false := by simpa using e1
      have Fin : Hid (false = true ↔ Memb a xss p) := Lib.hid ⟨fun h => (by cases h), fun h => by have := h.2.1; rw [lp.out] at this; exact absurd this e1⟩
      clear hs
      go_wp2_with fail
      go_ret
      exact ⟨_, rfl, Fin.out, B1.out⟩

set_option maxHeartbeats 2000000 in
set_option maxRecDepth 100000 in
theorem specHasAll (base g N m cm : Nat) (M : Option Addr) (us : List SV) (gs hs : List (List Int)) (ch : Ch) (L : LY) (hc : Cn w base g N ch L) (hw : Whole N gs ch) (hm : RR w w.heap.size M m us hs) (ok : Hid (∀ g ∈ hs, IsP g ∧ g.length = N)) (hN1 : 1 ≤ N) (hm8 : m ≤ 8) (fin : Bool) (hf : Hid (fin = true ↔ ∀ x ∈ hs, Mb gs N x)) :
    Calls Try.prog 75 #[.pointer (some ⟨g, 0, none⟩), .slice M m cm] w fun e w' => e = .returned (.bool fin) ∧ Below w.heap.size w w' := by
  have HC := Lib.hid hc
  have HW := Lib.hid hw
  have HM := Lib.hid hm
  have hlx : Hid (hs.length = m) := Lib.hid hm.lx
  clear hc hw hm
  go_enter Try.func75, Try.ntmps75
  go_wp2_with fail
  go_loopw [5] (fun i wr => ∃ k : Nat, k ≤ m ∧ i = .int .i64 (k : Nat) ∧ (∀ x ∈ hs.take k, Mb gs N x) ∧ Below w.heap.size w wr) (fun i _ => m - (intOf i).toNat)
  case atStart => exact ⟨0, Nat.zero_le _, rfl, fun x hx => by simp at hx, Below.refl _ _⟩
  case round =>
    obtain ⟨k, hk, rfl, hall, bel⟩ := hrel
    have Al := Lib.hid hall
    have Be := Lib.hid bel
    have C1 := Lib.hid (HC.out.up bel)
    clear hall bel
    by_cases hlt : k < m
    · obtain ⟨b, off, A5, l, c5, y, rfl, hb, hv, ey, x1, ri, ly, hl5⟩ := (HM.out.up Be.out).at_ hlt
      have hym : y ∈ hs := by rw [← ey]; exact getD_memL (by rw [hlx.out]; exact hlt)
      have hyP := ok.out y hym
      obtain rfl : l = N := by omega
      have Ri := Lib.hid ri
      have YP : Hid (Pn l y) := Lib.hid hyP
      have Ym := Lib.hid hym
      have Ey := Lib.hid ey
      have q0 : (0 : Int) ≤ k := by omega
      have q1 : (k : Int) < m := by omega
      obtain ⟨ans, hans⟩ : ∃ ans : Bool, ans = true ↔ Mb gs l y := by
        rcases Classical.em (Mb gs l y) with h | h
        · exact ⟨true, fun _ => h, fun _ => rfl⟩
        · exact ⟨false, fun e => (by cases e), fun e => absurd e h⟩
      have Ha := Lib.hid hans
      clear hv ey hb ri hyP hym hans
      go_wp2_with fail
      refine (specHas base g l c5 A5 ch L gs y wr C1.out HW.out Ri.out YP ans Ha).mono ?_
      rintro e w2 ⟨rfl, b2⟩
      have Be2 : Hid (Below w.heap.size w w2) := Lib.hid (btr Be.out b2)
      clear b2
      rcases ans with _ | _
      · have Fin : Hid (fin = false) := Lib.hid (by
          rcases hq : fin with _ | _
          · rfl
          · exact absurd (Ha.out.2 (hf.out.1 hq y Ym.out)) (by decide))
        go_wp2_with fail
        go_ret
        exact ⟨ret_bool Fin.out.symm, Be2.out⟩
      · have Al2 : Hid (∀ x ∈ hs.take (k + 1), Mb gs l x) := Lib.hid fun x hx => by
          rw [List.take_succ_eq_append_getElem (by rw [hlx.out]; exact hlt)] at hx
          rcases List.mem_append.1 hx with hx | hx
          · exact Al.out x hx
          · have e1 : hs[k]'(by rw [hlx.out]; exact hlt) = y := by rw [← Ey.out, List.getD_eq_getElem?_getD, List.getElem?_eq_getElem (by rw [hlx.out]; exact hlt)]; rfl
            rw [List.mem_singleton.1 hx, e1]; exact Ha.out.1 rfl
        go_wp2_with fail
        go_roundw
        case rel => exact ⟨k + 1, by omega, by go_num, Al2.out, Be2.out⟩
        case measure => simp [intOf]; omega
    · obtain rfl : k = m := by omega
      have Fin : Hid (fin = true) := Lib.hid (hf.out.2 fun x hx => Al.out x (by rw [List.take_of_length_le (by rw [hlx.out]; exact Nat.le_refl _)]; exact hx))
      go_wp2_with fail
      go_ret
      exact ⟨ret_bool Fin.out.symm, Be.out⟩
set_option maxHeartbeats 2000000 in
set_option maxRecDepth 100000 in
theorem specSameGroup (M : Option Addr) (m cm : Nat) (us : List SV) (hss : List (List Int)) (hx : RR w w.heap.size A n vs xss) (hn : n ≤ 1048576) (hl : Hid (∀ i, i < n → (vs.getD i sd0).2.1 ≤ 1048576)) (hy : RR w w.heap.size M m us hss) (hm : m ≤ 1048576) (hlm : Hid (∀ i, i < m → (us.getD i sd0).2.1 ≤ 1048576)) (ha : -9223372036854775808 ≤ a ∧ a ≤ 9223372036854775807) :
    Calls Try.prog 44 #[.int .i64 a, .slice A n c, .slice M m cm] w fun e w' => ∃ b, e = .returned (.bool b) ∧ (b = true ↔ SameG a xss hss) ∧ Below w.heap.size w w' := by
  have HX := Lib.hid hx
  have HY := Lib.hid hy
  have hlx : Hid (xss.length = n) := Lib.hid hx.lx
  have hly : Hid (hss.length = m) := Lib.hid hy.lx
  clear hx hy
  go_enter Try.func44, Try.ntmps44
  go_wp2_with fail
  refine (specGS a A n c vs xss w HX.out hn hl ha).mono ?_
  rintro e w1 ⟨rfl, b1⟩
  have B1 := Lib.hid b1
  have X1 := Lib.hid (HX.out.up b1)
  have Y1 := Lib.hid (HY.out.up b1)
  clear b1
  rcases hs : gB a xss with _ | _
  · have Fin : Hid (false = true ↔ SameG a xss hss) := Lib.hid ⟨fun h => (by cases h), fun h => by have := h.1; rw [hs] at this; cases this⟩
    clear hs
    go_wp2_with fail
    go_ret
    exact ⟨_, rfl, Fin.out, B1.out⟩
  · have Hs := Lib.hid hs
    clear hs
    go_wp2_with fail
    refine (specGS a M m cm us hss w1 Y1.out hm hlm ha).mono ?_
    rintro e w2 ⟨rfl, b2⟩
    have B2 : Hid (Below w.heap.size w w2) := Lib.hid (btr B1.out b2)
    have X2 := Lib.hid (X1.out.up b2)
    have Y2 := Lib.hid (Y1.out.up b2)
    clear b2
    rcases ht : gB a hss with _ | _
    · have Fin : Hid (false = true ↔ SameG a xss hss) := Lib.hid ⟨fun h => (by cases h), fun h => by have := h.2.1; rw [ht] at this; cases this⟩
      clear ht
      go_wp2_with fail
      go_ret
      exact ⟨_, rfl, Fin.out, B2.out⟩
    · have Ht := Lib.hid ht
      obtain ⟨N, rfl, hN1, hN2, hg8, _, hok⟩ := gB_pm Hs.out
      obtain ⟨N2, hNN, _, _, hg8', _, hok'⟩ := gB_pm ht
      obtain rfl : N2 = N := by omega
      have Ok := Lib.hid hok
      have Ok' := Lib.hid hok'
      have hn8 : n ≤ 8 := by rw [← hlx.out]; exact hg8
      have hm8 : m ≤ 8 := by rw [← hly.out]; exact hg8'
      clear ht hok hok' hg8 hg8' hNN
      go_wp2_with fail
      refine (specBuild N2 n c A vs xss w2 X2.out hN1 hN2 hn8 Ok).mono ?_
      rintro e w3 ⟨g, L, ch, rfl, hc3, hw3, b3⟩
      have C3 := Lib.hid hc3
      have W3 := Lib.hid hw3
      have X3 := Lib.hid (X2.out.up b3)
      have Y3 := Lib.hid (Y2.out.up b3)
      have B3 : Hid (Below w.heap.size w w3) := Lib.hid (btr B2.out b3)
      clear hc3 hw3 b3
      obtain ⟨b, hb⟩ : ∃ b : Bool, b = true ↔ ∀ x ∈ hss, Mb xss N2 x := bool_of _
      have Hb := Lib.hid hb
      clear hb
      go_wp2_with fail
      refine (specHasAll w3 w2.heap.size g N2 m cm M us xss hss ch L C3.out W3.out Y3.out Ok' hN1 hm8 b Hb).mono ?_
      rintro e w4 ⟨rfl, b4⟩
      have X4 := Lib.hid (X3.out.up b4)
      have Y4 := Lib.hid (Y3.out.up b4)
      have B4 : Hid (Below w.heap.size w w4) := Lib.hid (btr B3.out b4)
      clear b4
      rcases b with _ | _
      · have Fin : Hid (false = true ↔ SameG N2 xss hss) := Lib.hid ⟨fun h => (by cases h), fun h => Hb.out.2 (by have := h.2.2.1; rwa [Int.toNat_natCast] at this)⟩
        go_wp2_with fail
        go_ret
        exact ⟨_, rfl, Fin.out, B4.out⟩
      · go_wp2_with fail
        refine (specBuild N2 m cm M us hss w4 Y4.out hN1 hN2 hm8 Ok').mono ?_
        rintro e w5 ⟨g5, L5, ch5, rfl, hc5, hw5, b5⟩
        have C5 := Lib.hid hc5
        have W5 := Lib.hid hw5
        have X5 := Lib.hid (X4.out.up b5)
        have B5 : Hid (Below w.heap.size w w5) := Lib.hid (btr B4.out b5)
        clear hc5 hw5 b5
        obtain ⟨b, hb⟩ : ∃ b : Bool, b = true ↔ ∀ x ∈ xss, Mb hss N2 x := bool_of _
        have Hb2 := Lib.hid hb
        clear hb
        go_wp2_with fail
        refine (specHasAll w5 w4.heap.size g5 N2 n c A vs hss xss ch5 L5 C5.out W5.out X5.out Ok hN1 hn8 b Hb2).mono ?_
        rintro e w6 ⟨rfl, b6⟩
        have Fin : Hid (b = true ↔ SameG N2 xss hss) := Lib.hid ⟨fun h => ⟨Hs.out, Ht.out, by rw [Int.toNat_natCast]; exact Hb.out.1 trivial, by rw [Int.toNat_natCast]; exact Hb2.out.1 h⟩, fun h => Hb2.out.2 (by have := h.2.2.2; rwa [Int.toNat_natCast] at this)⟩
        have B6 : Hid (Below w.heap.size w w6) := Lib.hid (btr B5.out b6)
        clear b6
        go_wp2_with fail
        go_ret
        exact ⟨_, rfl, Fin.out, B6.out⟩
end
end Go.Proofs.Ytooafmifbplbhaa

/- LongestMemberPrefix and StrongGeneratingSet of the model: what they answer. Conditions: at most 1048576 lists of at most 1048576 numbers. -/
namespace Go.Proofs.Ytooafmifbplbhaa
open Go.RowKit

section
variable (a : Int) (A : Option Addr) (n c : Nat) (vs : List SV) (xss : List (List Int)) (w : World)
set_option maxHeartbeats 4000000 in
set_option maxRecDepth 100000 in
theorem specLmp (P : Option Addr) (np cp : Nat) (p : List Int) (hx : RR w w.heap.size A n vs xss) (hn : n ≤ 1048576) (hl : Hid (∀ i, i < n → (vs.getD i sd0).2.1 ≤ 1048576)) (hp : RI w w.heap.size P p) (lp : Hid (p.length = np)) (hnp : np ≤ 1048576) (hpc : np ≤ cp) (ha : -9223372036854775808 ≤ a ∧ a ≤ 9223372036854775807) :
    Calls Try.prog 18 #[.int .i64 a, .slice A n c, .slice P np cp] w fun e w' => ∃ v, e = .returned (.int .i64 v) ∧ IsLmp a xss p v ∧ Below w.heap.size w w' := by
  have HX := Lib.hid hx
  have HP := Lib.hid hp
  have hlx : Hid (xss.length = n) := Lib.hid hx.lx
  clear hx hp
  go_enter Try.func18, Try.ntmps18
  go_wp2_with fail
  refine (specGS a A n c vs xss w HX.out hn hl ha).mono ?_
  rintro e w1 ⟨rfl, b1⟩
  have B1 := Lib.hid b1
  have X1 := Lib.hid (HX.out.up b1)
  have P1 := Lib.hid (HP.out.up b1)
  clear b1
  rcases hs : gB a xss with _ | _
  · have Fin : Hid (IsLmp a xss p (-1)) := Lib.hid (.inr ⟨fun h => (by have := h.1; rw [hs] at this; cases this), rfl⟩)
    clear hs
    go_wp2_with fail
    go_ret
    exact ⟨_, rfl, Fin.out, B1.out⟩
  · obtain ⟨N, rfl, hN1, hN2, hg8, hpm, hok⟩ := gB_pm hs
    have Hs := Lib.hid hs
    have Ok := Lib.hid hok
    have hn8 : n ≤ 8 := by rw [← hlx.out]; exact hg8
    clear hs hpm hok hg8
    obtain ⟨ans, hans⟩ : ∃ ans, (decide (np = N) && isP p) = ans := ⟨_, rfl⟩
    have Ha := Lib.hid hans
    go_wp2_with fail
    refine (specIsPOf P np cp w1 N p ans P1.out lp (by omega) hpc Ha).mono ?_
    rintro e w2 ⟨rfl, b2⟩
    have X2 := Lib.hid (X1.out.up b2)
    have P2 := Lib.hid (P1.out.up b2)
    have B2 : Hid (Below w.heap.size w w2) := Lib.hid (btr B1.out b2)
    clear b2
    rcases ans with _ | _
    · have Fin : Hid (IsLmp N xss p (-1)) := Lib.hid (.inr ⟨(fun h => by
        have h1 := h.2.1
        rw [lp.out] at h1
        have h2 : np = N := by omega
        rw [h2, h.2.2] at hans; simp at hans), rfl⟩)
      clear hans
      go_wp2_with fail
      go_ret
      exact ⟨_, rfl, Fin.out, B2.out⟩
    · rw [Bool.and_eq_true, decide_eq_true_eq] at hans
      obtain ⟨rfl, hq⟩ := hans
      have PP : Hid (Pn np p) := Lib.hid ⟨isP_iff.1 hq, lp.out⟩
      have Hq := Lib.hid hq
      clear hq
      go_wp2_with fail
      refine (specBuild np n c A vs xss w2 X2.out hN1 hN2 hn8 Ok).mono ?_
      rintro e w3 ⟨g, L, ch, rfl, hc3, hw3, b3⟩
      have C3 := Lib.hid hc3
      have W3 := Lib.hid hw3
      have P3 := Lib.hid (P2.out.up b3)
      have B3 : Hid (Below w.heap.size w w3) := Lib.hid (btr B2.out b3)
      clear hc3 hw3 b3
      go_wp2_with fail
      refine (specIdent np w3 (by omega)).mono ?_
      rintro e w4 ⟨A4, c4, rfl, s4, b4⟩
      have S4 : Hid (Slc w4 w3.heap.size A4 np c4 (idL np)) := Lib.hid s4
      have C4 := Lib.hid (C3.out.up b4)
      have P4 := Lib.hid (P3.out.up b4)
      have B4 := Lib.hid b4
      clear s4 b4
      go_wp2_with fail
      go_loopw [8, 9] (fun v i wr => ∃ (k cc : Nat) (M : Option Addr) (m : List Int), k ≤ np ∧ i = .int .i64 (k : Nat) ∧ v = .slice M np cc ∧ Slc wr w3.heap.size M np cc m ∧ Mb xss np m ∧ (∀ t, t < k → nx m t = nx p t) ∧ Below w3.heap.size w3 wr) (fun _ i _ => np - (intOf i).toNat)
      case atStart => exact ⟨0, _, _, _, Nat.zero_le _, rfl, rfl, S4.out, .one, fun t ht => absurd ht (by omega), B4.out⟩
      case round =>
        clear S4 C4 P4 B4
        obtain ⟨k, cc, M, m, hk, rfl, rfl, hs, hmb, hag, bel⟩ := hrel
        have Ss := Lib.hid hs
        have Mb1 := Lib.hid hmb
        have Ag := Lib.hid hag
        have Be := Lib.hid bel
        have C5 := Lib.hid (C3.out.up bel)
        have P5 := Lib.hid (P3.out.up bel)
        have MP : Hid (Pn np m) := Lib.hid (hmb.pn Ok.out hN1 hN2)
        clear hs hmb hag bel
        by_cases hlt : k < np
        · obtain ⟨b, off, rfl, hb, hcell⟩ := P5.out (by rw [lp.out]; omega)
          have x6 := hcell k (by rw [lp.out]; exact hlt)
          rw [nx_val PP.out.1 (by rw [lp.out]; exact hlt)] at x6
          obtain ⟨v, ev⟩ : ∃ v, nx p k = v := ⟨_, rfl⟩
          rw [ev] at x6
          have Ev := Lib.hid ev
          have hvN : v < np := by rw [← ev]; exact PP.out.lt hlt
          have q1 : (0 : Int) ≤ k := by omega
          have q2 : (k : Int) < np := by omega
          have Hb := Lib.hid hb
          clear hb hcell ev
          obtain ⟨ans, hans⟩ : ∃ ans : Bool, ans = true ↔ (v : Int) ∈ chL ch k m np := bool_of _
          have Ha := Lib.hid hans
          clear hans
          have C5d : Hid (Cn wr.drew w2.heap.size g np ch L) := Lib.hid (C5.out.up ⟨rfl, rfl, rfl, Nat.le_refl _, fun _ _ => rfl⟩)
          go_wp2_with fail
          go_cut [39] from 30 to 39 (fun z wx => z = .bool (!ans) ∧ Below wr.heap.size wr wx)
          case first =>
            go_region_law ((go_simp; go_wp2_with (first
              | (go_at_call 58; refine (specChoices w2.heap.size g np k cc M ch L xss m wr.drew C5d.out W3.out Ss.out.ri_ MP hlt).mono ?_; rintro e w5 ⟨g2, m2, c2, zs, rfl, s2, p2, o2, b2⟩
                 have b2' : Below wr.heap.size wr w5 := ⟨b2.os, b2.tape, b2.output, b2.size, b2.block⟩
                 have x6' : w5.cell? ⟨b, off + k, none⟩ = some (.int .i64 (v : Nat)) := (b2'.cell (p := ⟨b, off + k, none⟩) Hb.out).trans x6
                 have HA : Hid (hasB zs (v : Int) = ans) := Lib.hid (by rw [hasB_in, Bool.eq_iff_iff, decide_eq_true_eq, p2.mem_iff]; exact Ha.out.symm)
                 have hm2 : m2 ≤ 20 := by rw [← s2.1, p2.length_eq]; have := chL_len ch k m np; omega
                 have S2 := Lib.hid s2
                 have Bw5 := Lib.hid b2'
                 clear s2 p2 o2 b2 b2')
              | (go_at_call 57; (first | refine (containsI_any (some ⟨g2, 0, none⟩) c2 m2 zs (v : Int) w5 _ S2.out.ri_ S2.out.hid (by omega) ans HA).mono ?_ | refine (containsI_any (some ⟨g2, 0, none⟩) c2 m2 zs (v : Int) w5.drew _ S2.out.ri_ S2.out.hid (by omega) ans HA).mono ?_); rintro e w' ⟨rfl, rfl⟩))))
            all_goals (go_wp2_with fail; go_meet; exact ⟨rfl, Bw5.out⟩)
          case rest =>
            obtain ⟨rfl, bc⟩ := hcut
            have Cc := Lib.hid (C5.out.up bc)
            have Sc := Lib.hid (Ss.out.up bc)
            have x7 : wc.cell? ⟨b, off + k, none⟩ = some (.int .i64 (v : Nat)) := (bc.cell (p := ⟨b, off + k, none⟩) Hb.out).trans x6
            have Bc : Hid (Below w3.heap.size w3 wc) := Lib.hid (btr Be.out bc)
            clear x6 bc
            rcases ans with _ | _
            · have Fin : Hid (IsLmp np xss p (k : Nat)) := Lib.hid (.inl ⟨Hs.out, by rw [lp.out], Hq.out, k, rfl, by
                rw [Int.toNat_natCast]
                refine ⟨by omega, ⟨m, Mb1.out, Ag.out⟩, fun _ => ?_⟩
                rintro ⟨q, hq, hqa⟩
                have := Ha.out.2 ((W3.out.choice hN1 hN2 Ok.out hlt Mb1.out).2 ⟨q, hq, fun t ht => (hqa t (by omega)).trans (Ag.out t ht).symm, by rw [hqa k (Nat.le_refl _), Ev.out]⟩)
                cases this⟩)
              have B6 : Hid (Below w.heap.size w wc) := Lib.hid (btr B3.out Bc.out)
              go_wp2_with fail
              go_ret
              exact ⟨_, rfl, Fin.out, B6.out⟩
            · obtain ⟨y, hy, hr, hmy⟩ := chL_mem.1 (Ha.out.1 rfl)
              have hmy2 : nx m y = v := by omega
              obtain ⟨a1, a2, a3, _⟩ := W3.out.rep_mb hN1 hN2 hlt hr
              have Rp : Hid (Pn np (ch.rep k y)) := Lib.hid (a1.pn Ok.out hN1 hN2)
              have Hmy := Lib.hid hmy2
              have Mb2 : Hid (Mb xss np (compL (ch.rep k y) m)) := Lib.hid (a1.comp Ok.out hN1 hN2 Mb1.out)
              have Ag2 : Hid (∀ t, t < k + 1 → nx (compL (ch.rep k y) m) t = nx p t) := Lib.hid fun t ht => by
                rw [Rp.out.nxc (by omega)]
                rcases Nat.lt_or_ge t k with hl | hl
                · rw [a2 t hl, Ag.out t hl]
                · obtain rfl : t = k := by omega
                  rw [a3, Hmy.out, Ev.out]
              clear hr hmy hmy2 a1 a2 a3
              go_wp2_with fail
              refine (specWithEntry w2.heap.size g np k v y cc M ch L m wc Cc.out Sc.out.ri_ MP hlt hy Hmy Rp).mono ?_
              rintro e w6 ⟨A6, c6, rfl, s6, b6⟩
              have S6 : Hid (Slc w6 w3.heap.size A6 np c6 (compL (ch.rep k y) m)) := Lib.hid (s6.mono Bc.out.size)
              have B6 : Hid (Below w3.heap.size w3 w6) := Lib.hid (btr Bc.out b6)
              clear s6 b6
              go_wp2_with fail
              go_roundw
              case rel => exact ⟨k + 1, _, _, _, by omega, by go_num, rfl, S6.out, Mb2.out, Ag2.out, B6.out⟩
              case measure => simp [intOf]; omega
        · obtain rfl : k = np := by omega
          have Fin : Hid (IsLmp k xss p (k : Nat)) := Lib.hid (.inl ⟨Hs.out, by rw [lp.out], Hq.out, k, rfl, by
            rw [Int.toNat_natCast]
            exact ⟨Nat.le_refl _, ⟨m, Mb1.out, Ag.out⟩, fun h => absurd h (by omega)⟩⟩)
          have B6 : Hid (Below w.heap.size w wr) := Lib.hid (btr B3.out Be.out)
          go_wp2_with fail
          go_ret
          exact ⟨_, rfl, Fin.out, B6.out⟩

/-! ### StrongGeneratingSet -/
end
/-- The prefix for level i and point y. -/
def preOf (pr : Nat × Nat) : List Int := idL pr.1 ++ [(pr.2 : Int)]
/-- The smallest members for a list of levels and points, where there are any. -/
def Sgs (N : Nat) (gs : List (List Int)) : List (Nat × Nat) → List (List Int) → Prop
  | [], l => l = []
  | pr :: ps, l => ∃ m ok rest, IsMwp N gs (preOf pr) m ok ∧ Sgs N gs ps rest ∧ l = (if ok = true then [m] else []) ++ rest
theorem Sgs.snoc {N : Nat} {gs : List (List Int)} {m : List Int} {ok : Bool} {pr : Nat × Nat} (hm : IsMwp N gs (preOf pr) m ok) : ∀ {ps : List (Nat × Nat)} {l : List (List Int)}, Sgs N gs ps l → Sgs N gs (ps ++ [pr]) (l ++ if ok = true then [m] else [])
  | [], l, h => by
    obtain rfl : l = [] := h
    exact ⟨m, ok, [], hm, rfl, by simp⟩
  | p :: ps, l, h => by
    obtain ⟨m', ok', rest, h1, h2, rfl⟩ := h
    exact ⟨m', ok', _, h1, h2.snoc hm, by rw [List.append_assoc]⟩
theorem Sgs.uniq {N : Nat} {gs : List (List Int)} (h1 : 1 ≤ N) (h2 : N ≤ 20) (hg : ∀ g ∈ gs, Pn N g) : ∀ {ps : List (Nat × Nat)} {l l' : List (List Int)}, (∀ pr ∈ ps, pr.1 < N) → Sgs N gs ps l → Sgs N gs ps l' → l = l'
  | [], l, l', _, h, h' => by rw [show l = [] from h, show l' = [] from h']
  | p :: ps, l, l', hp, h, h' => by
    obtain ⟨m, ok, rest, a1, a2, rfl⟩ := h
    obtain ⟨m', ok', rest', b1, b2, rfl⟩ := h'
    have hl : (preOf p).length ≤ N := by
      have := hp p (by simp)
      unfold preOf; rw [List.length_append, idL_length]; simp; omega
    obtain ⟨e1, e2⟩ := a1.uniq h1 h2 hg hl b1
    rw [e1, e2, Sgs.uniq h1 h2 hg (fun pr hpr => hp pr (by simp [hpr])) a2 b2]
theorem Sgs.ok {N : Nat} {gs : List (List Int)} (h1 : 1 ≤ N) (h2 : N ≤ 20) (hg : ∀ g ∈ gs, Pn N g) : ∀ {ps : List (Nat × Nat)} {l : List (List Int)}, Sgs N gs ps l → l.length ≤ ps.length ∧ ∀ y ∈ l, Mb gs N y ∧ y.length = N
  | [], l, h => by rw [show l = [] from h]; simp
  | p :: ps, l, h => by
    obtain ⟨m, ok, rest, a1, a2, rfl⟩ := h
    obtain ⟨b1, b2⟩ := a2.ok h1 h2 hg
    rcases a1 with ⟨rfl, a1⟩ | ⟨rfl, _, _⟩
    · refine ⟨by simp; omega, fun y hy => ?_⟩
      simp at hy
      rcases hy with rfl | hy
      · exact ⟨a1.1, (a1.1.pn hg h1 h2).2⟩
      · exact b2 y hy
    · refine ⟨by simp; omega, fun y hy => b2 y (by simpa using hy)⟩
/-- The levels below k, and the points behind each. -/
def prsI (N i m : Nat) : List (Nat × Nat) := (List.range m).map fun t => (i, i + 1 + t)
def prs (N : Nat) : Nat → List (Nat × Nat)
  | 0 => []
  | k + 1 => prs N k ++ prsI N k (N - (k + 1))
theorem prsI_succ (N i m : Nat) : prsI N i (m + 1) = prsI N i m ++ [(i, i + 1 + m)] := by simp [prsI, List.range_succ]
theorem prs_lt (N : Nat) : ∀ k, k ≤ N → ∀ pr ∈ prs N k, pr.1 < N
  | 0, _, pr, h => by simp [prs] at h
  | k + 1, hk, pr, h => by
    rcases List.mem_append.1 h with h | h
    · exact prs_lt N k (by omega) pr h
    · simp only [prsI, List.mem_map] at h
      obtain ⟨t, _, rfl⟩ := h
      exact hk
theorem prs_len (N : Nat) : ∀ k, (prs N k).length ≤ k * N
  | 0 => by simp [prs]
  | k + 1 => by
    have := prs_len N k
    simp only [prs, prsI, List.length_append, List.length_map, List.length_range, Nat.add_mul, Nat.one_mul]
    omega
/-- What StrongGeneratingSet answers. -/
def IsSgs (a : Int) (gs l : List (List Int)) : Prop := (gB a gs = true ∧ Sgs a.toNat gs (prs a.toNat a.toNat) l) ∨ (gB a gs = false ∧ l = [])
theorem IsSgs.uniq {a : Int} {gs l l' : List (List Int)} (h : IsSgs a gs l) (h' : IsSgs a gs l') : l = l' := by
  rcases h with ⟨e, h⟩ | ⟨e, rfl⟩ <;> rcases h' with ⟨e', h'⟩ | ⟨e', rfl⟩
  · obtain ⟨N, rfl, h1, hN, _, _, ok⟩ := gB_pm e
    rw [Int.toNat_natCast] at h h'
    exact h.uniq h1 hN ok (prs_lt N N (Nat.le_refl _)) h'
  · rw [e] at e'; cases e'
  · rw [e] at e'; cases e'
  · rfl
end Go.Proofs.Ytooafmifbplbhaa
