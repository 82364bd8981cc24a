/- The model's drawn permutations. Condition: degrees of at most 100. -/
import Derived.Test.YtooafmifbplbhaaSrc
import Derived.Deep.RegionLaw
namespace Go.Proofs.Ytooafmifbplbhaa
open Go.RowKit

theorem RI.cellAt {w : World} {B b o : Nat} {ys : List Int} (h : RI w B (some ⟨b, o, none⟩) ys) {j : Nat} (hj : j < ys.length) : b < B ∧ w.cell? ⟨b, o + j, none⟩ = some (.int .i64 (ys.getD j 0)) := by
  obtain ⟨b', o', e, hb, hc⟩ := h (by omega)
  injection e with e
  injection e with e1 e2
  subst e1; subst e2
  exact ⟨hb, hc j hj⟩

/-- append of readable numbers. -/
theorem wpList_appN {w : World} {ops : Array Oper} {rest : List Oper} {o : Oper} {a : Act} {Q : Exit → Act → World → Prop} (hgd : o.guard = none) (s x : Operand)
    (ho : o.op = .call { callee := .builtin .append, args := #[s, x], argTypes := #[25, 25] })
    (base : Nat) (A : Option Addr) (n c : Nat) (xs : List Int) (hs : a.eval s = .slice A n c) (hown : Slc w base A n c xs) (g off m c2 : Nat) (ys : List Int) (hx : a.eval x = .slice (some ⟨g, off, none⟩) m c2)
    (hy : RI w w.heap.size (some ⟨g, off, none⟩) ys) (ly : ys.length = m) (hn : n + m ≤ 1000000000000) (hbase : base ≤ w.heap.size)
    (h : ∀ A' c' w', Slc w' base A' (n + m) c' (xs ++ ys) → w.grownBy w' (Value.slice A n c).ownBlock → wpList Try.prog ops Q rest (a.put o.dst (.slice A' (n + m) c')) w') : wpList Try.prog ops Q (o :: rest) a w := by
  obtain ⟨i0, hi, hz0, hz1, hz2⟩ := info_parts infoI
  obtain ⟨hl, ho'⟩ := hown
  subst hl
  refine wpList_append_own w hgd s x 25 ho base 2 i0 (.int .i64 0) 1 8 Try.underlying25 hi hz0 hz1 hz2 rfl (by decide) _ xs.length _ hs ho' ⟨g, off, none⟩ m c2 (ys.map (Value.int .i64)) hx (by simp [ly]) ?_ ?_ ?_ (by omega) hbase ?_
  · intro j v hj
    have hjl : j < ys.length := by
      have := (List.getElem?_eq_some_iff.1 hj).1
      simpa using this
    have e : (⟨g, off, none⟩ : Addr).add j = ⟨g, off + j, none⟩ := by unfold Addr.add; split <;> simp_all
    rw [e, (hy.cellAt hjl).2]
    rw [List.getElem?_map, List.getElem?_eq_getElem hjl] at hj
    rw [← Option.some.inj hj, List.getD_eq_getElem?_getD, List.getElem?_eq_getElem hjl]; rfl
  · intro v hv; rw [List.mem_map] at hv; obtain ⟨u, _, rfl⟩ := hv; rfl
  · unfold maxLen; omega
  · intro v' w' hown' hg _
    have hO : Own w' base v' (xs ++ ys) := by
      unfold Own
      rw [List.length_append, List.map_append, ly]
      exact hown'
    obtain ⟨A', c', rfl, hS⟩ := Slc.of_own (n := xs.length + m) hO (by simp [ly])
    exact h A' c' w' hS hg

/-- append of readable numbers, as one step of a region that draws. -/
theorem step_appN {w : World} {ops : Array Oper} {o : Oper} {a : Act} {K : Act → World → Prop} {Q : Exit → Act → World → Prop} {E : Prop} (hgd : o.guard = none) (s x : Operand)
    (ho : o.op = .call { callee := .builtin .append, args := #[s, x], argTypes := #[25, 25] })
    (base : Nat) (A : Option Addr) (n c : Nat) (xs : List Int) (hs : a.eval s = .slice A n c) (hown : Slc w base A n c xs) (g off m c2 : Nat) (ys : List Int) (hx : a.eval x = .slice (some ⟨g, off, none⟩) m c2)
    (hy : RI w w.heap.size (some ⟨g, off, none⟩) ys) (ly : ys.length = m) (hn : n + m ≤ 1000000000000) (hbase : base ≤ w.heap.size) (N : Nat) (hN : n + m = N)
    (h : ∀ A' c' w', Slc w' base A' N c' (xs ++ ys) → w.grownBy w' (Value.slice A n c).ownBlock → K (a.put o.dst (.slice A' N c')) w') : if Region.wanted o (yielded ops a.tmps) = true then Oper.wp Try.prog o a w K Q else E := by
  have hw : Region.wanted o (yielded ops a.tmps) = true := by simp [Region.wanted, hgd]
  rw [if_pos hw]
  subst hN
  obtain ⟨i0, hi, hz0, hz1, hz2⟩ := info_parts infoI
  obtain ⟨hl, ho'⟩ := hown
  subst hl
  refine wp_append_own w s x 25 ho base 2 i0 (.int .i64 0) 1 8 Try.underlying25 hi hz0 hz1 hz2 rfl (by decide) _ xs.length _ hs ho' ⟨g, off, none⟩ m c2 (ys.map (Value.int .i64)) hx (by simp [ly]) ?_ ?_ ?_ (by omega) hbase ?_
  · intro j v hj
    have hjl : j < ys.length := by
      have := (List.getElem?_eq_some_iff.1 hj).1
      simpa using this
    have e : (⟨g, off, none⟩ : Addr).add j = ⟨g, off + j, none⟩ := by unfold Addr.add; split <;> simp_all
    rw [e, (hy.cellAt hjl).2]
    rw [List.getElem?_map, List.getElem?_eq_getElem hjl] at hj
    rw [← Option.some.inj hj, List.getD_eq_getElem?_getD, List.getElem?_eq_getElem hjl]; rfl
  · intro v hv; rw [List.mem_map] at hv; obtain ⟨u, _, rfl⟩ := hv; rfl
  · unfold maxLen; omega
  · intro v' w' hown' hg _
    have hO : Own w' base v' (xs ++ ys) := by
      unfold Own
      rw [List.length_append, List.map_append, ly]
      exact hown'
    obtain ⟨A', c', rfl, hS⟩ := Slc.of_own (n := xs.length + m) hO (by simp [ly])
    exact h A' c' w' hS hg
theorem litRI (w : World) (u : Int) : RI (w.alloc (.cells #[.int .i64 u] 2)) (w.alloc (.cells #[.int .i64 u] 2)).heap.size (some ⟨w.heap.size, 0, none⟩) [u] := (Slc.lit1 w w.heap.size u (Nat.le_refl _)).ri_
theorem RI.belowAll {w w' : World} {A : Option Addr} {xs : List Int} (h : RI w w.heap.size A xs) (hb : Below w.heap.size w w') : RI w' w'.heap.size A xs := fun hp => by
  obtain ⟨b, o, e, hbb, hc⟩ := h hp
  exact ⟨b, o, e, by have := hb.size; omega, fun j hj => (hb.cell (p := ⟨b, o + j, none⟩) hbb).trans (hc j hj)⟩

theorem grown_below2 {w w1 w' : World} {row : Option Nat} (h : w.grownBy w1 row) (b : Below w1.heap.size w1 w') : w.grownBy w' row :=
  ⟨b.os.trans h.os, b.tape.trans h.tape, b.output.trans h.output, Nat.le_trans h.size b.size, fun k hk hn => (b.block k (Nat.lt_of_lt_of_le hk h.size)).trans (h.block k hk hn)⟩
theorem below_undrew {w w' : World} (h : Below w.drew.heap.size w.drew w') : Below w.heap.size w w' := ⟨h.os, h.tape, h.output, h.size, h.block⟩
theorem below_undrewA {w w' : World} {o : Obj} (h : Below (w.drew.alloc o).heap.size (w.drew.alloc o) w') : Below (w.alloc o).heap.size (w.alloc o) w' := ⟨h.os, h.tape, h.output, h.size, h.block⟩

/-- copyInts of what can be read. -/
theorem copyRI (g off n c : Nat) (xs : List Int) (w : World) (h : RI w w.heap.size (some ⟨g, off, none⟩) xs) (lx : xs.length = n) (hn : n ≤ 1000000) :
    Calls Try.prog 84 #[.slice (some ⟨g, off, none⟩) n c] w fun e w' => ∃ A' c', e = .returned (.slice A' n c') ∧ Slc w' w.heap.size A' n c' xs ∧ Below w.heap.size w w' := by
  have H0 := Lib.hid (Slc.lit0 w w.heap.size (Nat.le_refl _))
  have H : Hid (RI (w.alloc (.cells #[] 2)) (w.alloc (.cells #[] 2)).heap.size (some ⟨g, off, none⟩) xs) := Lib.hid fun hp => by
    obtain ⟨b, o, e, hb, hc⟩ := h hp
    exact ⟨b, o, e, by simp; omega, fun j hj => by rw [World.cell?_alloc_lt w _ ⟨b, o + j, none⟩ hb]; exact hc j hj⟩
  clear h
  go_enter Try.func84, Try.ntmps84
  go_wp2_with (first | (at_builtin; refine wpList_appN rfl _ _ rfl w.heap.size (some ⟨w.heap.size, 0, none⟩) 0 0 [] rfl H0.out g off n c xs rfl H.out lx (by omega) (by simp) ?_; intro A' c' w' s1 g1))
  have S1 : Hid (Slc w' w.heap.size A' n c' xs) := Lib.hid (by simpa using s1)
  have B1 : Hid (Below w.heap.size w w') := Lib.hid (((Below.refl _ w).alloc (Nat.le_refl _) _).grown g1 (by simp) (fun k e => by simp [Value.ownBlock] at e; omega))
  clear s1 g1
  go_wp2
  go_ret
  exact ⟨_, _, by simp, S1.out, B1.out⟩

theorem grown_alloc2 {w w1 : World} {row : Option Nat} (h : w.grownBy w1 row) (o : Obj) : w.grownBy (w1.alloc o) row :=
  ⟨h.os, h.tape, h.output, Nat.le_trans h.size (by simp), fun k hk hn => (Below.heap_alloc w1 o k (Nat.lt_of_lt_of_le hk h.size)).trans (h.block k hk hn)⟩
theorem takeRI {w : World} {B q off : Nat} {xs : List Int} (h : RI w B (some ⟨q, off, none⟩) xs) (r : Nat) : RI w B (some ⟨q, off, none⟩) (xs.take r) := fun hp => by
  have hl : (xs.take r).length ≤ xs.length := by rw [List.length_take]; omega
  obtain ⟨b, o, e, hb, hc⟩ := h (by omega)
  refine ⟨b, o, e, hb, fun j hj => ?_⟩
  rw [hc j (by omega)]
  have : (xs.take r).getD j 0 = xs.getD j 0 := by
    rw [List.length_take] at hj
    rw [List.getD_eq_getElem?_getD, List.getElem?_take, if_pos (by omega), ← List.getD_eq_getElem?_getD]
  rw [this]
theorem dropRI {w w' : World} {base q k c r off : Nat} {xs : List Int} (h : Slc w base (some ⟨q, 0, none⟩) k c xs) (hb : Below w.heap.size w w') (ho : r < k → off = r) : RI w' w'.heap.size (some ⟨q, off, none⟩) (xs.drop r) := fun hp => by
  have lx := h.1
  rw [List.length_drop] at hp
  obtain rfl := ho (by omega)
  have hri : RI w w.heap.size (some ⟨q, 0, none⟩) xs := h.ri_
  have hq := (h.lt_ q rfl).2
  refine ⟨q, _, rfl, by have := hb.size; omega, fun j hj => ?_⟩
  rw [List.length_drop] at hj
  rw [hb.cell (p := ⟨q, _, none⟩) hq]
  have := (hri.cellAt (j := off + j) (by omega)).2
  rw [Nat.zero_add] at this
  rw [this, List.getD_eq_getElem?_getD, List.getD_eq_getElem?_getD, List.getElem?_drop]

set_option maxRecDepth 100000 in
set_option maxHeartbeats 2000000 in
theorem drawPerm (g n : Nat) (w : World) (hs : Src w g) (hn : n ≤ 100) :
    Calls Try.prog 103 #[.pointer (some ⟨g, 0, none⟩), .int .i64 (n : Int)] w fun e w' => ∃ q c xs, e = .returned (.slice (some ⟨q, 0, none⟩) n c) ∧ Slc w' w.heap.size (some ⟨q, 0, none⟩) n c xs ∧ Src w' g ∧ w.grownBy w' (some g) := by
  have Hs := Lib.hid hs
  have hg := hs.lt
  clear hs
  go_enter Try.func103, Try.ntmps103
  go_wp2_with fail
  go_loopg [5, 6, 7] n (fun gg v i _ wr => ∃ k q c xs, k ≤ n ∧ n - k ≤ gg ∧ i = .int .i64 (k : Nat) ∧ v = .slice (some ⟨q, 0, none⟩) k c ∧ Slc wr w.heap.size (some ⟨q, 0, none⟩) k c xs ∧ Src wr g ∧ w.grownBy wr (some g))
  case atStart => exact ⟨0, _, _, [], Nat.zero_le _, by omega, rfl, rfl, Slc.lit0 w _ (Nat.le_refl _), Hs.out.below ((Below.refl w.heap.size w).alloc (Nat.le_refl _) _) hg, grown_alloc2 (grown_refl _ _) _⟩
  case round =>
    obtain ⟨k, q, c, xs, hk, hgg, rfl, rfl, sl, src, gro⟩ := hrel
    have Sl := Lib.hid sl
    have Sr := Lib.hid src
    have Gr := Lib.hid gro
    have hkc := sl.le.1
    clear sl src gro
    by_cases hlt : k < n
    · go_wp2_with fail
      refine (srcBelow g _ (k + 1) wr Sr.out (by push_cast; rfl) (by omega) (by omega)).mono ?_
      rintro e w1 ⟨r, hr, rfl, s1, g1⟩
      have Sr1 := Lib.hid s1
      have Gr1 : Hid (w.grownBy w1 (some g)) := Lib.hid (grown_trans' Gr.out g1)
      have Sl1 : Hid (Slc w1 w.heap.size (some ⟨q, 0, none⟩) k c xs) := Lib.hid (Sl.out.kept g1 (.inr (by have := (Sl.out.lt_ q rfl).1; intro e; simp [Value.ownBlock] at e; omega)))
      have p0 : (0 : Int) ≤ r := by omega
      have p1 : (r : Int) ≤ k := by omega
      have p2 : (r : Int) ≤ c := by omega
      have p3 : r ≤ k := by omega
      have p4 : r ≤ c := by omega
      have lxs : xs.length = k := Sl1.out.1
      have RIt : Hid (RI w1 w1.heap.size (some ⟨q, 0, none⟩) (xs.take r)) := Lib.hid (takeRI Sl1.out.ri_ r)
      have ltk : Hid ((xs.take r).length = r) := Lib.hid (by rw [List.length_take]; omega)
      have ldr : Hid ((xs.drop r).length = k - r) := Lib.hid (by rw [List.length_drop]; omega)
      have hwb := Gr1.out.size
      clear s1 g1 lxs
      have RItA : Hid (RI (w1.alloc (.cells #[.int .i64 (k : Int)] 2)) (w1.alloc (.cells #[.int .i64 (k : Int)] 2)).heap.size (some ⟨q, 0, none⟩) (xs.take r)) := Lib.hid (RIt.out.belowAll ((Below.refl _ _).alloc (Nat.le_refl _) _))
      have Lit : Hid (RI (w1.alloc (.cells #[.int .i64 (k : Int)] 2)) (w1.alloc (.cells #[.int .i64 (k : Int)] 2)).heap.size (some ⟨w1.heap.size, 0, none⟩) [(k : Int)]) := Lib.hid (litRI w1 k)
      have DrX : Hid (∀ w3 : World, Below w1.heap.size w1 w3 → RI w3 w3.heap.size (some ⟨q, r, none⟩) (xs.drop r)) := Lib.hid fun w3 hb => dropRI Sl1.out hb fun _ => rfl
      have ld0 : Hid (c = r → (xs.drop r).length = 0) := Lib.hid fun e => by have := ldr.out; omega
      have Dr0 : Hid (c = r → ∀ w3 : World, Below w1.heap.size w1 w3 → RI w3 w3.heap.size (some ⟨q, 0, none⟩) (xs.drop r)) := Lib.hid fun e w3 hb => dropRI Sl1.out hb fun h => by omega
      by_cases hcr : c = r
      · obtain rfl : k = r := by omega
        subst hcr
        go_wp2_with fail
        go_region_law (first
          | (refine step_appN rfl (.tmp 21) (.tmp 23) rfl w1.heap.size A2 c c2 (xs.take c) ?_ (s2.alloc _) w2.heap.size 0 1 1 [(c : Int)] ?_ (litRI w2 c) rfl ?_ ?_ (c + 1) rfl ?_; (simp [Act.eval, Act.put]); (simp [Act.eval, Act.put]); (omega); (have hz := b2.size; simp at hz ⊢; omega); (intro A3 c3 w3 s3 g3; have bb : Below w1.heap.size w1 w3 := (Below.alloc b2 b2.size _).grown g3 (by have hz := b2.size; simp at hz ⊢; omega) (fun j hj => (s2.lt_ j hj).1)))
          | (refine step_appN rfl (.tmp 21) (.tmp 23) rfl w1.heap.size A2 c c2 (xs.take c) ?_ (s2.mono (by simp)) w1.heap.size 0 1 1 [(c : Int)] ?_ (Lit.out.belowAll b2) rfl ?_ ?_ (c + 1) rfl ?_; (simp [Act.eval, Act.put]); (simp [Act.eval, Act.put]); (omega); (have hz := b2.size; simp at hz ⊢; omega); (intro A3 c3 w3 s3 g3; have bb : Below w1.heap.size w1 w3 := (btr ((Below.refl w1.heap.size w1).alloc (Nat.le_refl _) _) b2).grown g3 (by have hz := b2.size; simp at hz ⊢; omega) (fun j hj => Nat.le_trans (by simp) (s2.lt_ j hj).1)))
          | (refine step_appN rfl (.tmp 24) (.tmp 27) rfl w1.heap.size A3 (c + 1) c3 _ ?_ s3 q 0 0 0 (xs.drop c) ?_ (Dr0.out trivial _ bb) (ld0.out trivial) ?_ ?_ (c + 1) ?_ ?_; (simp [Act.eval, Act.put]); (simp [Act.eval, Act.put]); (omega); (have hz := bb.size; omega); (omega); (intro A4 c4 w4 s4 g4))
          | (go_simp; go_wp2_with (go_at_call 84; (first | refine (copyRI q 0 c _ (xs.take c) w1.drew RIt.out ltk.out (by omega)).mono ?_ | refine (copyRI q 0 c _ (xs.take c) (w1.alloc (.cells #[.int .i64 (c : Int)] 2)).drew RItA.out ltk.out (by omega)).mono ?_); rintro e w2 ⟨A2, c2, rfl, s2, b20⟩; have b2 := below_undrew b20; clear b20)))
        all_goals
          have B4 : Hid (Below w1.heap.size w1 w4) := Lib.hid (bb.grown g4 bb.size (fun j hj => (s3.lt_ j hj).1))
          have Sr4 := Lib.hid (Sr1.out.below B4.out (Nat.lt_of_lt_of_le hg hwb))
          have Gr4 := Lib.hid (grown_below2 Gr1.out B4.out)
          obtain ⟨q4, e4⟩ : ∃ q4, A4 = some ⟨q4, 0, none⟩ := by
            rcases s4.at_ with ⟨_, _, e0, _⟩ | ⟨q4, e0, _, _⟩
            · omega
            · exact ⟨q4, e0⟩
          subst e4
          have S4 := Lib.hid (s4.mono hwb)
          clear s4 g4 s3 g3 s2 b2 bb
          go_wp2_with fail
          go_roundg (n - (c + 1))
          case rel => exact ⟨c + 1, _, _, _, by omega, Nat.le_refl _, by go_num, rfl, S4.out, Sr4.out, Gr4.out⟩
          case measure => omega
      · go_wp2_with fail
        go_region_law (first
          | (refine step_appN rfl (.tmp 21) (.tmp 23) rfl w1.heap.size A2 r c2 (xs.take r) ?_ (s2.alloc _) w2.heap.size 0 1 1 [(k : Int)] ?_ (litRI w2 k) rfl ?_ ?_ (r + 1) rfl ?_; (simp [Act.eval, Act.put]); (simp [Act.eval, Act.put]); (omega); (have hz := b2.size; simp at hz ⊢; omega); (intro A3 c3 w3 s3 g3; have bb : Below w1.heap.size w1 w3 := (Below.alloc b2 b2.size _).grown g3 (by have hz := b2.size; simp at hz ⊢; omega) (fun j hj => (s2.lt_ j hj).1)))
          | (refine step_appN rfl (.tmp 21) (.tmp 23) rfl w1.heap.size A2 r c2 (xs.take r) ?_ (s2.mono (by simp)) w1.heap.size 0 1 1 [(k : Int)] ?_ (Lit.out.belowAll b2) rfl ?_ ?_ (r + 1) rfl ?_; (simp [Act.eval, Act.put]); (simp [Act.eval, Act.put]); (omega); (have hz := b2.size; simp at hz ⊢; omega); (intro A3 c3 w3 s3 g3; have bb : Below w1.heap.size w1 w3 := (btr ((Below.refl w1.heap.size w1).alloc (Nat.le_refl _) _) b2).grown g3 (by have hz := b2.size; simp at hz ⊢; omega) (fun j hj => Nat.le_trans (by simp) (s2.lt_ j hj).1)))
          | (refine step_appN rfl (.tmp 24) (.tmp 27) rfl w1.heap.size A3 (r + 1) c3 _ ?_ s3 q r (k - r) (c - r) (xs.drop r) ?_ (DrX.out _ bb) ldr.out ?_ ?_ (k + 1) ?_ ?_; (simp [Act.eval, Act.put]); (simp [Act.eval, Act.put]); (omega); (have hz := bb.size; omega); (omega); (intro A4 c4 w4 s4 g4))
          | (go_simp; go_wp2_with (go_at_call 84; (first | refine (copyRI q 0 r _ (xs.take r) w1.drew RIt.out ltk.out (by omega)).mono ?_ | refine (copyRI q 0 r _ (xs.take r) (w1.alloc (.cells #[.int .i64 (k : Int)] 2)).drew RItA.out ltk.out (by omega)).mono ?_); rintro e w2 ⟨A2, c2, rfl, s2, b20⟩; have b2 := below_undrew b20; clear b20)))
        all_goals
          have B4 : Hid (Below w1.heap.size w1 w4) := Lib.hid (bb.grown g4 bb.size (fun j hj => (s3.lt_ j hj).1))
          have Sr4 := Lib.hid (Sr1.out.below B4.out (Nat.lt_of_lt_of_le hg hwb))
          have Gr4 := Lib.hid (grown_below2 Gr1.out B4.out)
          obtain ⟨q4, e4⟩ : ∃ q4, A4 = some ⟨q4, 0, none⟩ := by
            rcases s4.at_ with ⟨_, _, e0, _⟩ | ⟨q4, e0, _, _⟩
            · omega
            · exact ⟨q4, e0⟩
          subst e4
          have S4 := Lib.hid (s4.mono hwb)
          clear s4 g4 s3 g3 s2 b2 bb
          go_wp2_with fail
          go_roundg (n - (k + 1))
          case rel => exact ⟨k + 1, _, _, _, by omega, Nat.le_refl _, by go_num, rfl, S4.out, Sr4.out, Gr4.out⟩
          case measure => omega
    · have hkn : k = n := by omega
      subst hkn
      go_wp2_with fail
      go_ret
      exact ⟨_, _, _, rfl, Sl.out, Sr.out, Gr.out⟩
end Go.Proofs.Ytooafmifbplbhaa
