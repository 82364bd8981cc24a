/- Orbits and IsTransitive, of the program and of the model. Conditions: at most 1048576 lists of at most 1048576 numbers. -/
import Derived.Test.YtojmlmeahoppjaaCnt
namespace Go.Proofs.Ytojmlmeahoppjaa
open Go.RowKit Go.Shelf
attribute [local go_sem] Oper.semAt_some

theorem hasB_mem (xs : List Int) (x : Int) : hasB xs x = decide (x ∈ xs) := by
  unfold hasB
  rw [Bool.eq_iff_iff]
  simp only [decide_eq_true_eq]
  constructor
  · rintro ⟨j, hj, e⟩
    rw [List.getD_eq_getElem?_getD, List.getElem?_eq_getElem hj] at e
    have e2 : xs[j] = x := by simpa using e
    rw [← e2]; exact List.getElem_mem hj
  · intro h
    obtain ⟨j, hj, e⟩ := List.mem_iff_getElem.1 h
    exact ⟨j, hj, by rw [List.getD_eq_getElem?_getD, List.getElem?_eq_getElem hj, e]; rfl⟩
theorem sn_starts {gs : List (List Int)} {N : Nat} (hp : PMs N gs) : ∀ k, k ≤ N → ∀ y, sn gs N k y = true ↔ ∃ z ∈ starts gs N k, y ∈ orb gs N z
  | 0, _, y => by simp [sn_zero, starts]
  | k + 1, hk, y => by
    have ih := sn_starts hp k (by omega) y
    rcases hs : sn gs N k k with _ | _
    · rw [sn_succ, starts_yes hs, Bool.or_eq_true, ih]
      constructor
      · rintro (⟨z, hz, h⟩ | h)
        · exact ⟨z, List.mem_append_left _ hz, h⟩
        · exact ⟨k, by simp, by simpa using h⟩
      · rintro ⟨z, hz, h⟩
        rcases List.mem_append.1 hz with hz | hz
        · exact .inl ⟨z, hz, h⟩
        · obtain rfl : z = k := by simpa using hz
          exact .inr (by simpa using h)
    · rw [sn_seen hp (by omega) hs, starts_no hs, ih]
/-- The numbers of the first orbits, one list. -/
theorem flat_has {gs : List (List Int)} {N k : Nat} (hp : PMs N gs) (hk : k ≤ N) {y : Nat} (hy : y < N) : hasB (orbs gs N k).flatten (y : Int) = sn gs N k y := by
  rw [hasB_mem, Bool.eq_iff_iff, decide_eq_true_eq, sn_starts hp k hk, List.mem_flatten]
  constructor
  · rintro ⟨l, hl, h⟩
    obtain ⟨z, hz, rfl⟩ := List.mem_map.1 hl
    obtain ⟨u, hu, e⟩ := List.mem_map.1 h
    have e2 : u = y := Int.ofNat.inj e
    subst e2
    exact ⟨z, hz, (mem_oN.1 hu).2⟩
  · rintro ⟨z, hz, h⟩
    exact ⟨oS gs N z, List.mem_map.2 ⟨z, hz, rfl⟩, List.mem_map.2 ⟨y, mem_oN.2 ⟨hy, h⟩, rfl⟩⟩
theorem oS_len (gs : List (List Int)) (N x : Nat) : (oS gs N x).length ≤ N := by
  unfold oS oN
  rw [List.length_map]
  have := List.length_filter_le (fun y => decide (y ∈ orb gs N x)) (List.range N)
  simpa using this
theorem flat_len (gs : List (List Int)) (N k : Nat) : (orbs gs N k).flatten.length ≤ k * N := by
  rw [List.length_flatten]
  have : ∀ l : List (List Int), (∀ y ∈ l, y.length ≤ N) → (l.map List.length).sum ≤ l.length * N := by
    intro l
    induction l with
    | nil => simp
    | cons a t ih =>
      intro h
      have h1 := ih fun y hy => h y (by simp [hy])
      have h2 := h a (by simp)
      rw [List.map_cons, List.sum_cons, List.length_cons, Nat.succ_mul]; omega
  refine Nat.le_trans (this _ fun y hy => ?_) (Nat.mul_le_mul_right N ?_)
  · obtain ⟨z, _, rfl⟩ := List.mem_map.1 hy
    exact oS_len gs N z
  · rw [orbs_len]; exact starts_le k

theorem SS.keptR {w w' : World} {bo bi n c : Nat} {A : Option Addr} {vs : List SV} {xss : List (List Int)} {row : Option Nat} (h : SS w bo bi A n c vs xss) (hg : w.grownBy w' row)
    (ho : (Value.slice A n c).ownBlock = none ∨ (Value.slice A n c).ownBlock ≠ row) (hr : ∀ i, i < n → (sval (vs.getD i sd0)).ownBlock = none ∨ (sval (vs.getD i sd0)).ownBlock ≠ row) : SS w' bo bi A n c vs xss :=
  ⟨World.ownsRow.kept h.own hg ho, h.lv, h.lx, fun i hi' => (h.row i hi').kept hg (hr i hi'), h.dis⟩
theorem SS.xk {b bo bi n c : Nat} {W C : World} {A : Option Addr} {vs : List SV} {xss : List (List Int)} (h : SS W bo bi A n c vs xss) (hk : Xk b W C) (h1 : b + 2 < bo) (h2 : b + 2 < bi) : SS C bo bi A n c vs xss := by
  refine ⟨⟨h.own.1, ?_⟩, h.lv, h.lx, fun i hi => (h.row i hi).xk hk (fun k e => .inr (by have := ((h.row i hi).lt_ k e).1; omega)), h.dis⟩
  rcases h.own.2 with hn | ⟨g, cap, cur, e, hb', hg, rest⟩
  · exact .inl hn
  · exact .inr ⟨g, cap, cur, e, hb', by rw [hk.block g (Array.getElem?_eq_some_iff.1 hg).1 (.inr (by omega))]; exact hg, rest⟩

/-- append of a list of numbers; where the slice lies behind it. -/
theorem wpList_appN_at {w : World} {ops : Array Oper} {rest : List Oper} {o : Oper} {a : Act} {Q : Exit → Act → World → Prop} (hgd : o.guard = none) (s x : Operand)
    (ho : o.op = .call { callee := .builtin .append, args := #[s, x], argTypes := #[34, 34] })
    (base : Nat) (A : Option Addr) (n c : Nat) (xs : List Int) (hs : a.eval s = .slice A n c) (hown : Slc w base A n c xs) (g off m c2 : Nat) (ys : List Int) (hx : a.eval x = .slice (some ⟨g, off, none⟩) m c2)
    (hy : RI w w.heap.size (some ⟨g, off, none⟩) ys) (ly : ys.length = m) (hn : n + m ≤ 1000000000000) (hbase : base ≤ w.heap.size)
    (h : ∀ A' c' w', Slc w' base A' (n + m) c' (xs ++ ys) → w.grownBy w' (Value.slice A n c).ownBlock → ((Value.slice A' (n + m) c').ownBlock = (Value.slice A n c).ownBlock ∨ (Value.slice A' (n + m) c').ownBlock = some w.heap.size) → wpList Try.prog ops Q rest (a.put o.dst (.slice A' (n + m) c')) w') : wpList Try.prog ops Q (o :: rest) a w := by
  obtain ⟨i0, hi, hz0, hz1, hz2⟩ := info_parts infoI
  obtain ⟨hl, ho'⟩ := hown
  subst hl
  refine wpList_append_own_at w hgd s x 34 ho base 2 i0 (.int .i64 0) 1 8 Try.underlying34 hi hz0 hz1 hz2 rfl (by decide) _ xs.length _ hs ho' ⟨g, off, none⟩ m c2 (ys.map (Value.int .i64)) hx (by simp [ly]) ?_ ?_ ?_ (by omega) hbase ?_
  · intro j v hj
    have hjl : j < ys.length := by
      have := (List.getElem?_eq_some_iff.1 hj).1
      simpa using this
    have e : (⟨g, off, none⟩ : Addr).add j = ⟨g, off + j, none⟩ := by unfold Addr.add; split <;> simp_all
    rw [e, (hy.cellAt hjl).2]
    rw [List.getElem?_map, List.getElem?_eq_getElem hjl] at hj
    rw [← Option.some.inj hj, List.getD_eq_getElem?_getD, List.getElem?_eq_getElem hjl]; rfl
  · intro v hv; rw [List.mem_map] at hv; obtain ⟨u, _, rfl⟩ := hv; rfl
  · unfold maxLen; omega
  · intro v' w' hown' hg _ hat
    have hO : Own w' base v' (xs ++ ys) := by
      unfold Own
      rw [List.length_append, List.map_append, ly]
      exact hown'
    obtain ⟨A', c', rfl, hS⟩ := Slc.of_own (n := xs.length + m) hO (by simp [ly])
    exact h A' c' w' hS hg hat

theorem ne_sym {a b : Option Nat} (h : a = none ∨ a ≠ b) : b = none ∨ b ≠ a := by
  rcases h with rfl | h
  · rcases b with _ | q
    · exact .inl rfl
    · exact .inr (by simp)
  · exact .inr fun e => h e.symm

set_option maxHeartbeats 4000000 in
set_option maxRecDepth 100000 in
/-- allOrbits. -/
theorem specAllOrbs (N n c : Nat) (A : Option Addr) (vs : List SV) (gs : List (List Int)) (w : World) (hx : RR w w.heap.size A n vs gs) (hp : Hid (PMs N gs)) (hN : N ≤ 20) (hn : n ≤ 8) :
    Calls Try.prog 49 #[.int .i64 (N : Nat), .slice A n c] w fun e w' => ∃ A' m c' us, e = .returned (.slice A' m c') ∧ SS w' w.heap.size w.heap.size A' m c' us (orbs gs N N) ∧ Below w.heap.size w w' := by
  have HX := Lib.hid hx
  have S0 : Hid (SS ((w.alloc (.cells #[] 34)).alloc (.cells #[] 2)) w.heap.size w.heap.size (some ⟨w.heap.size, 0, none⟩) 0 0 [] []) := Lib.hid ((SS.lit0 w _ _ (Nat.le_refl _)).alloc _)
  have T0 : Hid (Slc ((w.alloc (.cells #[] 34)).alloc (.cells #[] 2)) w.heap.size (some ⟨w.heap.size + 1, 0, none⟩) 0 0 []) := Lib.hid (by
    have := Slc.lit0 (w.alloc (.cells #[] 34)) w.heap.size (by simp)
    rw [World.size_alloc] at this; exact this)
  have B0 : Hid (Below w.heap.size w ((w.alloc (.cells #[] 34)).alloc (.cells #[] 2))) := Lib.hid (((Below.refl _ _).alloc (Nat.le_refl _) _).alloc (by simp) _)
  clear hx
  go_enter Try.func49, Try.ntmps49
  go_wp2
  go_loopw [5, 6, 7] (fun o s i wr => ∃ k A1 m1 c1 us A2 n2 c2, k ≤ N ∧ i = .int .i64 (k : Nat) ∧ o = .slice A1 m1 c1 ∧ s = .slice A2 n2 c2 ∧ SS wr w.heap.size w.heap.size A1 m1 c1 us (orbs gs N k) ∧ Slc wr w.heap.size A2 n2 c2 (orbs gs N k).flatten ∧
    (∀ i, i < m1 → (sval (us.getD i sd0)).ownBlock = none ∨ (sval (us.getD i sd0)).ownBlock ≠ (Value.slice A2 n2 c2).ownBlock) ∧ Below w.heap.size w wr) (fun _ _ i _ => N - (intOf i).toNat)
  case atStart => exact ⟨0, _, _, _, [], _, _, _, Nat.zero_le _, rfl, rfl, rfl, S0.out, T0.out, fun i h => absurd h (by omega), B0.out⟩
  case round =>
    clear S0 T0 B0
    obtain ⟨k, A1, m1, c1, us, A2, n2, c2, hk, rfl, rfl, rfl, ss, sl, dj, bel⟩ := hrel
    have Ss := Lib.hid ss
    have Sl := Lib.hid sl
    have Dj := Lib.hid dj
    have Be := Lib.hid bel
    have hn2 : n2 ≤ 400 := by rw [← sl.1]; have := flat_len gs N k; have := Nat.mul_le_mul hk (Nat.le_refl N); have := Nat.mul_le_mul hN hN; omega
    have hm1 : m1 ≤ 20 := by rw [← ss.lx, orbs_len]; have := starts_le (gs := gs) (N := N) k; omega
    clear ss sl dj bel
    by_cases hlt : k < N
    · have Hb := Lib.hid (flat_has hp.out hk hlt)
      obtain ⟨b, hbv⟩ : ∃ b, sn gs N k k = b := ⟨_, rfl⟩
      rw [hbv] at Hb
      go_wp2_with fail
      refine (containsI_any A2 c2 n2 _ (k : Int) wr _ Sl.out.ri_ Sl.out.hid (by omega) b Hb).mono ?_
      rintro e w1 ⟨rfl, rfl⟩
      rcases b with _ | _
      · have Oy := Lib.hid (orbs_yes hbv)
        clear hbv Hb
        go_wp2_with fail
        refine (specOrbOf k A n c N vs gs wr (HX.out.up Be.out) hp hlt (by omega) hn).mono ?_
        rintro e w2 ⟨g2, d2, rfl, s2, b2⟩
        have S2 := Lib.hid s2
        have B2 := Lib.hid b2
        obtain ⟨M, hM⟩ : ∃ M, (orb gs N k).length = M := ⟨_, rfl⟩
        have hM20 : M ≤ 20 := by rw [← hM]; have := (orb_fd hp.out hlt).len; omega
        rw [hM] at S2 ⊢
        clear s2 b2 hM
        go_wp2_with fail
        refine (specSorted (some ⟨g2, 0, none⟩) M d2 ((orb gs N k).map Int.ofNat) w2 S2.out.ri_ S2.out.hid (Lib.hid ?_) (by omega)).mono ?_
        · exact ((orb_fd hp.out hlt).nd).map Int.ofNat (fun a b hab e => hab (Int.ofNat.inj e))
        rintro e w3 ⟨g3, c3, zs, rfl, s3, p3, st3, b3⟩
        have S3 : Hid (Slc w3 wr.heap.size (some ⟨g3, 0, none⟩) M c3 (oS gs N k)) := Lib.hid (by rw [← oS_of hp.out hlt p3 st3]; exact s3.mono B2.out.size)
        have B3 : Hid (Below wr.heap.size wr w3) := Lib.hid (btr B2.out b3)
        have Be3 : Hid (Below w.heap.size w w3) := Lib.hid (btr Be.out B3.out)
        have D3 := Lib.hid (lies_dis Ss.out S3.out.lies (Nat.le_refl _))
        have Ss3 := Lib.hid (Ss.out.up B3.out)
        have Sl3 := Lib.hid (Sl.out.up B3.out)
        have D4 : Hid ((Value.slice (some ⟨g3, 0, none⟩) M c3).ownBlock = none ∨ (Value.slice (some ⟨g3, 0, none⟩) M c3).ownBlock ≠ (Value.slice A2 n2 c2).ownBlock) := Lib.hid (S3.out.lies.apart Sl.out.lies (.inr (Nat.le_refl _)))
        have hz3 := Be3.out.size
        clear s3 p3 st3 b3
        go_wp2_with (first
          | (at_builtin; refine wpList_app2 rfl _ _ rfl rfl (Ss3.out.alloc _) w3.heap.size (some ⟨g3, 0, none⟩) M c3 _ rfl (by rw [World.cell?_alloc_at _ _ _ _ rfl]; rfl) ((S3.out.mono Be.out.size).alloc _) D3.out (by omega) (by simp; omega) ?_; intro A5 c5 w5 ss5 hg5
             have Ss5 := Lib.hid ss5
             have Sl5 : Hid (Slc w5 w.heap.size A2 n2 c2 (orbs gs N k).flatten) := Lib.hid ((Sl3.out.alloc (.cells #[.slice (some ⟨g3, 0, none⟩) M c3] 34)).kept hg5 (apart_types Sl3.out Ss3.out.own))
             have R5 : Hid (RI w5 w5.heap.size (some ⟨g3, 0, none⟩) (oS gs N k)) := Lib.hid (((S3.out.alloc (.cells #[.slice (some ⟨g3, 0, none⟩) M c3] 34)).kept hg5 (apart_types S3.out Ss3.out.own)).ri_)
             have Be5 : Hid (Below w.heap.size w w5) := Lib.hid ((Be3.out.alloc hz3 _).grown hg5 (by simp; omega) (fun j hj => (Ss3.out.lt_ j hj).1))
             clear ss5 hg5)
          | (at_builtin; refine wpList_appN_at rfl _ _ rfl w.heap.size A2 n2 c2 _ rfl Sl5.out g3 0 M c3 (oS gs N k) rfl R5.out S3.out.1 (by omega) Be5.out.size ?_; intro A6 c6 w6 s6 g6 h6))
        have Sl6 : Hid (Slc w6 w.heap.size A6 (n2 + M) c6 (orbs gs N (k + 1)).flatten) := Lib.hid (by rw [Oy.out, List.flatten_append]; simpa using s6)
        have hrow : ∀ i, i < m1 + 1 → (sval ((us ++ [((some ⟨g3, 0, none⟩, M, c3) : SV)]).getD i sd0)).ownBlock = none ∨ (sval ((us ++ [((some ⟨g3, 0, none⟩, M, c3) : SV)]).getD i sd0)).ownBlock ≠ (Value.slice A2 n2 c2).ownBlock := fun i hi => by
          by_cases e : i < m1
          · rw [getD_app _ _ _ _ (by rw [Ss.out.lv]; exact e)]; exact Dj.out i e
          · rw [getD_snoc _ _ _ _ (by rw [Ss.out.lv]; omega)]; exact D4.out
        have Ss6 : Hid (SS w6 w.heap.size w.heap.size A5 (m1 + 1) c5 (us ++ [((some ⟨g3, 0, none⟩, M, c3) : SV)]) (orbs gs N (k + 1))) := Lib.hid (by
          rw [Oy.out]
          exact Ss5.out.keptR g6 (ne_sym (apart_types Sl5.out Ss5.out.own)) hrow)
        have Dj6 : Hid (∀ i, i < m1 + 1 → (sval ((us ++ [((some ⟨g3, 0, none⟩, M, c3) : SV)]).getD i sd0)).ownBlock = none ∨ (sval ((us ++ [((some ⟨g3, 0, none⟩, M, c3) : SV)]).getD i sd0)).ownBlock ≠ (Value.slice A6 (n2 + M) c6).ownBlock) := Lib.hid fun i hi => by
          rcases h6 with e | e
          · rw [e]; exact hrow i hi
          · rw [e]
            rcases e2 : (sval ((us ++ [((some ⟨g3, 0, none⟩, M, c3) : SV)]).getD i sd0)).ownBlock with _ | q
            · exact .inl rfl
            · have := ((Ss5.out.row i hi).lt_ q e2).2
              exact .inr fun e3 => by have := Option.some.inj e3; omega
        have Be6 : Hid (Below w.heap.size w w6) := Lib.hid (Be5.out.grown g6 Be5.out.size (fun j hj => (Sl5.out.lt_ j hj).1))
        clear s6 g6 h6 hrow
        go_wp2
        go_roundw
        case rel => exact ⟨k + 1, _, _, _, _, _, _, _, by omega, by go_num, rfl, rfl, Ss6.out, Sl6.out, Dj6.out, Be6.out⟩
        case measure => simp [intOf]; omega
      · have On := Lib.hid (orbs_no hbv)
        clear hbv Hb
        go_wp2
        go_roundw
        case rel => exact ⟨k + 1, _, _, _, us, _, _, _, by omega, by go_num, rfl, rfl, by rw [On.out]; exact Ss.out, by rw [On.out]; exact Sl.out, Dj.out, Be.out⟩
        case measure => simp [intOf]; omega
    · have hkn : k = N := by omega
      subst hkn
      go_wp2
      go_ret
      exact ⟨_, _, _, _, rfl, Ss.out, Be.out⟩

/-- What Orbits answers. -/
def orbitsL (n : Int) (gs : List (List Int)) : List (List Int) := if gB n gs = true then orbs gs n.toNat n.toNat else []
theorem orbitsL_ok (n : Int) (gs : List (List Int)) : (orbitsL n gs).length ≤ 20 ∧ ∀ y ∈ orbitsL n gs, y.length ≤ 20 := by
  unfold orbitsL
  split
  · rename_i h
    obtain ⟨N, rfl, _, hN, _⟩ := gB_pm h
    refine ⟨by rw [orbs_len]; have := starts_le (gs := gs) (N := N) N; simp; omega, fun y hy => ?_⟩
    obtain ⟨z, _, rfl⟩ := List.mem_map.1 hy
    have := oS_len gs N z
    simp; omega
  · exact ⟨Nat.zero_le _, fun y hy => by cases hy⟩

set_option maxHeartbeats 1600000 in
set_option maxRecDepth 100000 in
/-- The model's Orbits. -/
theorem specOrbits (a : Int) (A : Option Addr) (n c : Nat) (vs : List SV) (xss : List (List Int)) (w : World) (hx : RR w w.heap.size A n vs xss) (hn : n ≤ 1048576) (hl : Hid (∀ i, i < n → (vs.getD i sd0).2.1 ≤ 1048576)) (ha : -9223372036854775808 ≤ a ∧ a ≤ 9223372036854775807) :
    Calls Try.prog 17 #[.int .i64 a, .slice A n c] w fun e w' => ∃ A' m c' us, e = .returned (.slice A' m c') ∧ SS w' w.heap.size w.heap.size A' m c' us (orbitsL a xss) ∧ Below w.heap.size w w' := by
  rcases hs : gB a xss with _ | _
  · have Fin : Hid (orbitsL a xss = []) := Lib.hid (if_neg (by rw [hs]; simp))
    go_enter Try.func17, Try.ntmps17
    go_wp2_with fail
    have K0 := specGS a A n c vs xss w hx hn hl ha
    refine K0.mono ?_
    rintro e w1 ⟨rfl, b1⟩
    have B1 := Lib.hid b1
    clear b1 K0
    rw [hs]
    go_wp2_with fail
    go_ret
    exact ⟨_, _, _, _, rfl, by rw [Fin.out]; exact SS.lit0 w1 _ _ B1.out.size, B1.out.alloc B1.out.size _⟩
  · have Fin : Hid (orbitsL a xss = orbs xss a.toNat a.toNat) := Lib.hid (if_pos hs)
    obtain ⟨N, hN, hN1, hN2, hg8, hpm, hok⟩ := gB_pm hs
    subst hN
    have Pm := Lib.hid hpm
    have HX := Lib.hid hx
    have hlx := hx.lx
    clear hok hpm
    go_enter Try.func17, Try.ntmps17
    go_wp2_with fail
    have K0 := specGS N A n c vs xss w hx hn hl ha
    refine K0.mono ?_
    rintro e w1 ⟨rfl, b1⟩
    have B1 := Lib.hid b1
    clear b1 hx K0
    rw [hs]
    clear hs
    go_wp2_with fail
    refine (specAllOrbs N n c A vs xss w1 (HX.out.up B1.out) Pm hN2 (by omega)).mono ?_
    rintro e w2 ⟨A2, m2, c2, us, rfl, s2, b2⟩
    have S2 := Lib.hid (s2.mono B1.out.size B1.out.size)
    have B2 : Hid (Below w.heap.size w w2) := Lib.hid (btr B1.out b2)
    clear s2 b2
    go_wp2
    go_ret
    exact ⟨_, _, _, _, rfl, by rw [Fin.out]; exact S2.out, B2.out⟩

set_option maxHeartbeats 1600000 in
set_option maxRecDepth 100000 in
/-- The model's IsTransitive. -/
theorem specIsTransitive (a : Int) (A : Option Addr) (n c : Nat) (vs : List SV) (xss : List (List Int)) (w : World) (hx : RR w w.heap.size A n vs xss) (hn : n ≤ 1048576) (hl : Hid (∀ i, i < n → (vs.getD i sd0).2.1 ≤ 1048576)) (ha : -9223372036854775808 ≤ a ∧ a ≤ 9223372036854775807) :
    Calls Try.prog 44 #[.int .i64 a, .slice A n c] w fun e w' => e = .returned (.bool (transB a xss)) ∧ Below w.heap.size w w' := by
  rcases hs : gB a xss with _ | _
  · have Fin : Hid (transB a xss = false) := Lib.hid (by unfold transB; rw [hs]; rfl)
    go_enter Try.func44, Try.ntmps44
    go_wp2_with fail
    have K0 := specGS a A n c vs xss w hx hn hl ha
    refine K0.mono ?_
    rintro e w1 ⟨rfl, b1⟩
    have B1 := Lib.hid b1
    clear b1 K0
    rw [hs]
    go_wp2_with fail
    go_ret
    exact ⟨ret_bool Fin.out.symm, B1.out⟩
  · obtain ⟨N, hN, hN1, hN2, hg8, hpm, hok⟩ := gB_pm hs
    subst hN
    have Fin : Hid (transB N xss = decide ((orbs xss N N).length = 1)) := Lib.hid (by unfold transB; rw [hs]; rfl)
    have Pm := Lib.hid hpm
    have HX := Lib.hid hx
    have hlx := hx.lx
    clear hok hpm
    go_enter Try.func44, Try.ntmps44
    go_wp2_with fail
    have K0 := specGS N A n c vs xss w hx hn hl ha
    refine K0.mono ?_
    rintro e w1 ⟨rfl, b1⟩
    have B1 := Lib.hid b1
    clear b1 hx K0
    rw [hs]
    clear hs
    go_wp2_with fail
    refine (specAllOrbs N n c A vs xss w1 (HX.out.up B1.out) Pm hN2 (by omega)).mono ?_
    rintro e w2 ⟨A2, m2, c2, us, rfl, s2, b2⟩
    have Hm : Hid ((orbs xss N N).length = m2) := Lib.hid s2.lx
    have B2 : Hid (Below w.heap.size w w2) := Lib.hid (btr B1.out b2)
    clear s2 b2
    by_cases h1 : m2 = 1
    · subst h1
      go_wp2
      go_ret
      exact ⟨by rw [Fin.out, Hm.out]; rfl, B2.out⟩
    · have d1 : ((m2 : Int) == 1) = false := by simp; omega
      have Fin2 : Hid (transB N xss = false) := Lib.hid (by rw [Fin.out, Hm.out]; simpa using h1)
      go_wp2
      go_ret
      exact ⟨ret_bool Fin2.out.symm, B2.out⟩
end Go.Proofs.Ytojmlmeahoppjaa
