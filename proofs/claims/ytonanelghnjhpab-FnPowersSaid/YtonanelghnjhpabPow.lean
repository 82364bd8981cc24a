/- Power, of the program and of the model. Condition: at most 2097152 entries. -/
import Derived.Test.YtonanelghnjhpabAll
import Derived.Test.YtonanelghnjhpabMod
namespace Go.Proofs.Ytonanelghnjhpab
open Go.RowKit

/-- What Power answers. -/
def powerL (p : List Int) (k : Int) : List Int := if isP p = true then powL p k else []
theorem powL_length (p : List Int) (k : Int) : (powL p k).length = p.length := by simp [powL]
theorem powL_getD {p : List Int} {k : Int} {i : Nat} (h : i < p.length) : (powL p k).getD i 0 = (it p (k % (per p i : Int)).toNat i : Int) := by
  rw [List.getD_eq_getElem?_getD, List.getElem?_eq_getElem (by simp [powL, h])]; simp [powL]
theorem powL_take {p : List Int} {k : Int} {i : Nat} (h : i < p.length) : (powL p k).take (i + 1) = (powL p k).take i ++ [(it p (k % (per p i : Int)).toNat i : Int)] := by
  rw [List.take_succ_eq_append_getElem (by rw [powL_length]; exact h)]
  congr 2
  rw [← powL_getD h, List.getD_eq_getElem?_getD, List.getElem?_eq_getElem (by rw [powL_length]; exact h)]; rfl

set_option maxHeartbeats 800000 in
/-- The model's Power. -/
theorem specPower (A : Option Addr) (c n : Nat) (p : List Int) (K : Int) (w : World) (hp : RI w w.heap.size A p) (lp : Hid (p.length = n)) (hn : n ≤ 2097152) (hc : n ≤ c) (hK1 : -9223372036854775808 ≤ K) (hK2 : K ≤ 9223372036854775807) :
    Calls Try.prog 5 #[.slice A n c, .int .i64 K] w fun e w' => ∃ A' n' c', e = .returned (.slice A' n' c') ∧ Slc w' w.heap.size A' n' c' (powerL p K) ∧ n' ≤ 20 ∧ Below w.heap.size w w' := by
  rcases hs : isP p with _ | _
  · have Fin : Hid (powerL p K = []) := Lib.hid (if_neg (by rw [hs]; decide))
    by_cases h0 : n = 0
    · subst h0
      go_enter Try.func5, Try.ntmps5
      go_wp2_with fail
      refine wp_loop_rounds 1 ?_
      rw [rounds_succ]
      go_wp2
      go_ret
      exact ⟨_, _, _, rfl, by rw [Fin.out]; exact Slc.lit0 w _ (Nat.le_refl _), Nat.zero_le _, (Below.refl _ _).alloc (Nat.le_refl _) _⟩
    · have hpos : (0 : Int) < n := by omega
      go_enter Try.func5, Try.ntmps5
      go_wp2_with fail
      refine wp_loop_rounds 1 ?_
      rw [rounds_succ]
      go_wp2_with fail
      refine (quiet_below (specIsP A c n p _ ((hp.alloc (Nat.le_refl _) _).more (by simp)) lp hn hc)).mono ?_
      rintro e w1 ⟨rfl, b1⟩
      have B1 : Hid (Below w.heap.size w w1) := Lib.hid (((Below.refl _ _).alloc (Nat.le_refl _) _).trans (b1.mono (by simp)))
      have S1 : Hid (Slc w1 w.heap.size (some ⟨w.heap.size, 0, none⟩) 0 0 []) := Lib.hid ((Slc.lit0 w _ (Nat.le_refl _)).up b1)
      clear b1
      go_wp2_with fail
      go_ret
      exact ⟨_, _, _, rfl, by rw [Fin.out]; exact S1.out, Nat.zero_le _, B1.out⟩
  · have Fin : Hid (powerL p K = powL p K) := Lib.hid (if_pos hs)
    have Ip := Lib.hid (isP_iff.1 hs)
    have hn20 : n ≤ 20 := by rw [← lp.out]; exact Ip.out.le
    have Hs := Lib.hid hs
    go_enter Try.func5, Try.ntmps5
    go_wp2
    go_loopw [5, 6, 7, 8] (fun v i _ _ wr => ∃ k A' c', k ≤ n ∧ i = .int .i64 (k : Nat) ∧ v = .slice A' k c' ∧ Slc wr w.heap.size A' k c' ((powL p K).take k) ∧ Below w.heap.size w wr) (fun _ i _ _ _ => n - (intOf i).toNat)
    case atStart => exact ⟨0, _, _, Nat.zero_le _, rfl, rfl, Slc.lit0 w _ (Nat.le_refl _), (Below.refl _ _).alloc (Nat.le_refl _) _⟩
    case round =>
      obtain ⟨k, A', c', hk, rfl, rfl, own, bel⟩ := hrel
      have Own' := Lib.hid own
      have Bel := Lib.hid bel
      clear own bel
      by_cases hlt : k < n
      · have hlt' : (k : Int) < n := by omega
        have PS := Lib.hid (per_spec Ip.out (x := k) (by rw [lp.out]; exact hlt))
        obtain ⟨m, em⟩ : ∃ m, per p k = m := ⟨_, rfl⟩
        have hm1 : 1 ≤ m := by rw [← em]; exact PS.out.1
        have Pt : Hid ((powL p K).take (k + 1) = (powL p K).take k ++ [(it p (K % (m : Int)).toNat k : Int)]) := Lib.hid (by rw [← em]; exact powL_take (by rw [lp.out]; exact hlt))
        have Em := Lib.hid em
        clear em
        obtain ⟨s, hs1, hs2, r1, r2, _, r4⟩ := rem_facts K m hm1
        have Pt2 : Hid ((powL p K).take (k + 1) = (powL p K).take k ++ [(it p s k : Int)]) := Lib.hid (by rw [hs2]; exact Pt.out)
        obtain ⟨r, er⟩ : ∃ r, K.tmod (m : Int) = r := ⟨_, rfl⟩
        rw [er] at r1 r2 r4
        have Er := Lib.hid er
        have R4 := Lib.hid r4
        clear hs2 er r4 hs
        go_wp2_with fail
        refine (quiet_below (specIsP _ c n p wr (hp.up Bel.out) lp hn hc)).mono ?_
        rintro e w1 ⟨rfl, b1⟩
        have Bel1 : Hid (Below w.heap.size w w1) := Lib.hid (btr Bel.out b1)
        have Own1 := Lib.hid (Own'.out.up b1)
        rw [Hs.out]
        clear b1
        go_wp2_with fail
        refine (specCycleOf A c n k p w1 (hp.up Bel1.out) lp Ip hlt hn20).mono ?_
        rintro e w2 ⟨A2, m2, c2, rfl, s2, hm2, b2⟩
        have Bel2 : Hid (Below w.heap.size w w2) := Lib.hid (btr Bel1.out b2)
        have Own2 := Lib.hid (Own1.out.up b2)
        have hmm : m2 = m := by rw [← s2.1, cyc_length, Em.out]
        obtain ⟨b5, off5, rfl, hb5, hc5⟩ := s2.ri_ (by rw [cyc_length, Em.out]; omega)
        have c5 := hc5 s (by rw [cyc_length, Em.out]; exact hs1)
        rw [cyc_getD (by rw [Em.out]; exact hs1)] at c5
        obtain ⟨y, ey⟩ : ∃ y, it p s k = y := ⟨_, rfl⟩
        rw [ey] at c5
        have Ey := Lib.hid ey
        clear s2 b2 hc5 ey
        subst hmm
        have er := Er.out
        have r4 := R4.out
        have i1 : (0 : Int) ≤ r + m2 := by omega
        have i2 : (1 : Int) ≤ m2 := by omega
        have i3 : (0 : Int) ≤ s := by omega
        have i4 : (s : Int) < m2 := by omega
        go_wp2_with (first | (at_builtin; refine wpList_app1 rfl _ _ rfl w.heap.size A' k c' _ rfl (Own2.out.alloc _) w2.heap.size y rfl (by rw [World.cell?_alloc_at _ _ _ _ rfl]; rfl) (by omega) (by have := Bel2.out.size; simp; omega) ?_; intro A3 c3' w3 own3 hg3))
        have Own3 := Lib.hid own3
        have Bel3 : Hid (Below w.heap.size w w3) := Lib.hid ((Bel2.out.alloc Bel2.out.size _).grown hg3 (by have := Bel2.out.size; simp; omega) (fun j hj => (Own2.out.lt_ j hj).1))
        clear own3 hg3
        go_wp2
        go_roundw
        case rel => exact ⟨k + 1, A3, c3', by omega, by go_num, rfl, by rw [Pt2.out, Ey.out]; exact Own3.out, Bel3.out⟩
        case measure => simp [intOf]; omega
      · have hkn : k = n := by omega
        subst hkn
        have Ft : Hid ((powL p K).take k = powerL p K) := Lib.hid (by rw [Fin.out, List.take_of_length_le (by rw [powL_length, lp.out]; exact Nat.le_refl _)])
        go_wp2
        go_ret
        exact ⟨_, _, _, rfl, by rw [← Ft.out]; exact Own'.out, hn20, Bel.out⟩

/-- Point y lies in one of the first k cycles. -/
def InTo (p : List Int) (n k y : Nat) : Prop := ∃ j t, j < k ∧ it p t ((heads p n).getD j 0) = y
theorem row_all {p : List Int} (ip : IsP p) {n y : Nat} (ln : p.length = n) (hy : y < n) : InTo p n (heads p n).length y := by
  subst ln
  obtain ⟨c, j, hc, hst, _, e⟩ := min_ex ip hy
  have hmem : c ∈ heads p p.length := List.mem_filter.2 ⟨List.mem_range.2 hc, hst⟩
  obtain ⟨i, hi, ei⟩ := List.getElem_of_mem hmem
  exact ⟨i, j, hi, by rw [List.getD_eq_getElem?_getD, List.getElem?_eq_getElem hi]; show it p j (heads p p.length)[i] = y; rw [ei]; exact e⟩
theorem pow_at {p : List Int} (ip : IsP p) {x t m s : Nat} (hx : x < p.length) (hm : per p x = m) (hm1 : 1 ≤ m) (K : Int) (hs : s = (K % (m : Int)).toNat) :
    it p ((t + s) % m) x = it p (K % (per p (it p t x) : Int)).toNat (it p t x) := by
  rw [per_it ip hx t, hm, ← hs, it_comm, ← it_add, ← hm, ← it_mod ip hx]

set_option maxHeartbeats 1600000 in
set_option maxRecDepth 100000 in
/-- permutation.power. -/
theorem implPow (A : Option Addr) (c n : Nat) (p : List Int) (K : Int) (w : World) (hp : RI w w.heap.size A p) (lp : Hid (p.length = n)) (ip : Hid (IsP p)) (hn : n ≤ 20) (hK1 : -9223372036854775808 ≤ K) (hK2 : K ≤ 9223372036854775807) :
    Calls Try.prog 25 #[.slice A n c, .int .i64 K] w fun e w' => ∃ A' c', e = .returned (.slice A' n c') ∧ Slc w' w.heap.size A' n c' (powL p K) ∧ Below w.heap.size w w' := by
  obtain ⟨i0, hi, hz0, hz1, hz2⟩ := info_parts infoI
  go_enter Try.func25, Try.ntmps25
  go_wp2_with (first | (at_make; refine wpList_make_full _ rfl _ _ 40 rfl w.heap.size 2 i0 (.int .i64 0) 1 Try.underlying40 hi hz0 hz1 .i64 .i64 _ _ n rfl rfl rfl rfl (by rw [hz2]; omega) (by unfold maxLen; omega) (Nat.le_refl _) ?_; intro w0 hown0 hgrow0) | fail)
  have Row0 := Lib.hid (Row.made hown0)
  have B0 : Hid (Below w.heap.size w w0) := Lib.hid ((Below.refl _ _).grown hgrow0 (Nat.le_refl _) (fun k e => nomatch e))
  clear hown0 hgrow0
  have hgw := Row0.out.lt_.2
  refine (implAll A c n p w0 (hp.up B0.out) lp ip hn).mono ?_
  rintro e w1 ⟨A1, M, c1, vs, rfl, s1, hM, b1⟩
  have S1 := Lib.hid s1
  have B1 : Hid (Below w.heap.size w w1) := Lib.hid (btr B0.out b1)
  have Row1 := Lib.hid (Row0.out.below b1 hgw)
  have Z1 : w0.heap.size ≤ w1.heap.size := b1.size
  have lM : Hid ((heads p n).length = M) := Lib.hid (by rw [← s1.lx, cycs_heads, List.length_map, lp.out])
  clear s1 b1
  go_wp2_with fail
  go_loopw [7, 8, 9, 10, 11, 18] (fun _ _ _ _ _ i wr => ∃ k ys, k ≤ M ∧ i = .int .i64 (k : Nat) ∧ Row wr w.heap.size w.heap.size n n ys ∧ (∀ y, y < n → InTo p n k y → ys.getD y 0 = (it p (K % (per p y : Int)).toNat y : Int)) ∧ w1.grownBy wr (some w.heap.size)) (fun _ _ _ _ _ i _ => M - (intOf i).toNat)
  case atStart => exact ⟨0, _, Nat.zero_le _, rfl, Row1.out, fun y _ ⟨j, t, h, _⟩ => absurd h (by omega), grown_refl _ _⟩
  case round =>
    obtain ⟨k, ys, hk, rfl, row, hin, gro⟩ := hrel
    have Row' := Lib.hid row
    have Hin := Lib.hid hin
    have Gro := Lib.hid gro
    have Sr := Lib.hid (S1.out.mid (w' := wr) (lo := w0.heap.size) (fun b h1 h2 => gro.block b h2 (by simp; omega)) (Nat.le_refl _) (Nat.le_refl _))
    clear row hin gro
    by_cases hlt : k < M
    · obtain ⟨x, ex⟩ : ∃ x, (heads p n).getD k 0 = x := ⟨_, rfl⟩
      have hx : x < n := heads_lt (by rw [lM.out]; exact hlt) ex
      have hxp : x < p.length := by rw [lp.out]; exact hx
      obtain ⟨g, rfl, hg1, hg2, hc⟩ := Sr.out.at_ (by omega)
      have c0 := hc k hlt
      have hrow := Sr.out.row k hlt
      have ecy : (cycs p).getD k [] = cyc p x := by
        rw [cycs_heads, lp.out, List.getD_eq_getElem?_getD, List.getElem?_map, ← ex, List.getD_eq_getElem?_getD, List.getElem?_eq_getElem (by rw [lM.out]; exact hlt)]; rfl
      rw [ecy] at hrow
      obtain ⟨m, em⟩ : ∃ m, per p x = m := ⟨_, rfl⟩
      have PS := per_spec ip.out hxp
      rw [em] at PS
      have hm1 := PS.1
      have hm20 : m ≤ 20 := by have := PS.2.1; rw [lp.out] at this; omega
      have hml : (vs.getD k sd0).2.1 = m := by rw [← hrow.1, cyc_length, em]
      obtain ⟨A5, e5⟩ : ∃ A5, (vs.getD k sd0).1 = A5 := ⟨_, rfl⟩
      obtain ⟨c5, ec5⟩ : ∃ c5, (vs.getD k sd0).2.2 = c5 := ⟨_, rfl⟩
      rw [e5, hml, ec5] at c0 hrow
      obtain ⟨b5, off5, rfl, hb5, hc5⟩ := hrow.ri_ (by rw [hrow.1]; omega)
      have hb5g : w0.heap.size ≤ b5 := (hrow.lt_ b5 rfl).1
      have C5 : Hid (∀ t, t < m → wr.cell? ⟨b5, off5 + t, none⟩ = some (.int .i64 (it p t x : Int))) := Lib.hid fun t ht => by
        rw [← cyc_getD (p := p) (x := x) (j := t) (by rw [em]; exact ht)]; exact hc5 t (by rw [cyc_length, em]; exact ht)
      obtain ⟨s, hs1, hs2, r1, r2, r3, _⟩ := rem_facts K m hm1
      have Pat : Hid (∀ t, it p ((t + s) % m) x = it p (K % (per p (it p t x) : Int)).toNat (it p t x)) := Lib.hid fun t => pow_at ip.out hxp em hm1 K hs2
      have Mo : Hid ((K % (m : Int)).toNat = s) := Lib.hid hs2.symm
      have Em := Lib.hid em
      have Ex := Lib.hid ex
      clear ecy hrow PS hml e5 ec5 hc5 hc em ex hs2
      have i3 : (0 : Int) ≤ s := by omega
      have i4 : (s : Int) < m := by omega
      have im : (1 : Int) ≤ m := by omega
      obtain ⟨wo, rfl⟩ : ∃ wo : World, wo = wr := ⟨_, rfl⟩
      clear r1 r2 r3
      · go_wp2_with fail
        refine (implModulo K m (by omega) (by omega) _).mono ?_
        rintro e w' ⟨rfl, rfl⟩
        rw [Mo.out]
        go_wp2_with fail
        go_loopw [10, 11, 29] (fun _ _ i wr2 => ∃ t zs, t ≤ m ∧ i = .int .i64 (t : Nat) ∧ Row wr2 w.heap.size w.heap.size n n zs ∧ (∀ y, y < n → (InTo p n k y ∨ ∃ u, u < t ∧ it p u x = y) → zs.getD y 0 = (it p (K % (per p y : Int)).toNat y : Int)) ∧ wo.grownBy wr2 (some w.heap.size)) (fun _ _ i _ => m - (intOf i).toNat)
        case atStart => exact ⟨0, ys, Nat.zero_le _, rfl, Row'.out, fun y hy h => Hin.out y hy (by rcases h with h | ⟨u, hu, _⟩; exact h; omega), grown_refl _ _⟩
        case round =>
          obtain ⟨t, zs, ht, rfl, row2, hz2, gro2⟩ := hrel
          have Hz2 := Lib.hid hz2
          have hyl : Hid (zs.length = n) := Lib.hid row2.1
          clear hz2
          by_cases hlt2 : t < m
          · obtain ⟨y, ey⟩ : ∃ y, it p t x = y := ⟨_, rfl⟩
            have hy : y < n := by rw [← ey, ← lp.out]; exact it_lt ip.out hxp t
            have q1 := (World.cell?_of_block (w := wo) (w' := wr) (a := ⟨b5, off5 + t, none⟩) (gro2.block b5 hb5 (by simp; omega))).trans (C5.out t hlt2)
            rw [ey] at q1
            obtain ⟨z, ez⟩ : ∃ z, (t + s) % m = z := ⟨_, rfl⟩
            have hz : z < m := by rw [← ez]; exact Nat.mod_lt _ (by omega)
            have q2 := (World.cell?_of_block (w := wo) (w' := wr) (a := ⟨b5, off5 + z, none⟩) (gro2.block b5 hb5 (by simp; omega))).trans (C5.out z hz)
            obtain ⟨v, ev⟩ : ∃ v, it p z x = v := ⟨_, rfl⟩
            rw [ev] at q2
            have eI : (((t : Int) + (s : Int)) % (m : Int)) = (z : Int) := by rw [← ez, Int.natCast_emod, Int.natCast_add]
            have q3 := row2.cell hy
            have q4 := row2.free y
            obtain ⟨old, eold⟩ : ∃ old, zs.getD y 0 = old := ⟨_, rfl⟩
            rw [eold] at q3
            have Row3 := Lib.hid (row2.store y (v : Int))
            have Gro3 := Lib.hid (grown_set gro2 y (.int .i64 (v : Int)))
            have Val : Hid ((v : Int) = (it p (K % (per p y : Int)).toNat y : Int)) := Lib.hid (by rw [← ev, ← ez, Pat.out t, ey])
            have Ey := Lib.hid ey
            have j1 : (0 : Int) ≤ t := by omega
            have j2 : (t : Int) < m := by omega
            clear row2 gro2 ey ez ev eold
            go_wp2
            go_roundw
            case rel =>
              refine ⟨t + 1, _, by omega, by go_num, Row3.out, fun y' hy' h => ?_, Gro3.out⟩
              rw [set_getD hyl.out hy']
              by_cases e : y = y'
              · subst e; rw [if_pos rfl]; exact Val.out
              · rw [if_neg e]
                refine Hz2.out y' hy' ?_
                rcases h with h | ⟨u, hu, he⟩
                · exact .inl h
                · refine .inr ⟨u, ?_, he⟩
                  by_cases e2 : u = t
                  · subst e2; exact absurd (Ey.out.symm.trans he) e
                  · omega
            case measure => simp [intOf]; omega
          · have htm : t = m := by omega
            have Row3 := Lib.hid row2
            have Gro3 := Lib.hid gro2
            clear row2 gro2
            go_wp2
            go_roundw
            case rel =>
              refine ⟨k + 1, zs, by omega, by go_num, Row3.out, fun y hy h => Hz2.out y hy ?_, ?_⟩
              · obtain ⟨j, u, hj, he⟩ := h
                by_cases e : j = k
                · subst e
                  rw [Ex.out] at he
                  have hmod := it_mod ip.out hxp u
                  rw [Em.out] at hmod
                  exact .inr ⟨u % m, by rw [htm]; exact Nat.mod_lt _ (by omega), by rw [← hmod]; exact he⟩
                · exact .inl ⟨j, u, by omega, he⟩
              · exact ⟨Gro3.out.os.trans Gro.out.os, Gro3.out.tape.trans Gro.out.tape, Gro3.out.output.trans Gro.out.output, Nat.le_trans Gro.out.size Gro3.out.size, fun b hb hne => (Gro3.out.block b (Nat.lt_of_lt_of_le hb Gro.out.size) hne).trans (Gro.out.block b hb hne)⟩
            case measure => simp [intOf]; omega
    · have hkm : k = M := by omega
      subst hkm
      have Em : Hid (ys = powL p K) := Lib.hid (ext_getD Row'.out.1 ((powL_length p K).trans lp.out) fun y hy => by
        rw [powL_getD (by rw [lp.out]; exact hy)]; exact Hin.out y hy (by rw [← lM.out]; exact row_all ip.out lp.out hy))
      have Bw : Hid (Below w.heap.size w wr) := Lib.hid (B1.out.trans ((Below.refl _ _).grown Gro.out B1.out.size (fun j hj => by injection hj with hj; omega)))
      go_wp2
      go_ret
      exact ⟨_, _, rfl, by rw [← Em.out]; exact Row'.out.slc, Bw.out⟩

set_option maxHeartbeats 400000 in
/-- The program's Power. -/
theorem implPower (A : Option Addr) (c n : Nat) (p : List Int) (K : Int) (w : World) (hp : RI w w.heap.size A p) (lp : Hid (p.length = n)) (hn : n ≤ 2097152) (hK1 : -9223372036854775808 ≤ K) (hK2 : K ≤ 9223372036854775807) :
    Calls Try.prog 7 #[.slice A n c, .int .i64 K] w fun e w' => ∃ A' n' c', e = .returned (.slice A' n' c') ∧ Slc w' w.heap.size A' n' c' (powerL p K) ∧ n' ≤ 20 ∧ Below w.heap.size w w' := by
  rcases hs : isP p with _ | _
  · have Fin : Hid (powerL p K = []) := Lib.hid (if_neg (by rw [hs]; decide))
    go_enter Try.func7, Try.ntmps7
    go_wp2_with fail
    refine (implIsP A c n p w hp lp hn).mono ?_
    rintro e w1 ⟨rfl, b1⟩
    have B1 := Lib.hid b1
    clear b1
    go_wp2_with fail
    go_ret
    exact ⟨_, _, _, rfl, by rw [Fin.out]; exact Slc.nil_, Nat.zero_le _, B1.out⟩
  · have Fin : Hid (powerL p K = powL p K) := Lib.hid (if_pos hs)
    have Ip := Lib.hid (isP_iff.1 hs)
    have hn20 : n ≤ 20 := by rw [← lp.out]; exact Ip.out.le
    go_enter Try.func7, Try.ntmps7
    go_wp2_with fail
    refine (implIsP A c n p w hp lp hn).mono ?_
    rintro e w1 ⟨rfl, b1⟩
    have B1 := Lib.hid b1
    clear b1
    go_wp2_with fail
    refine (implPow A c n p K w1 (hp.up B1.out) lp Ip hn20 hK1 hK2).mono ?_
    rintro e w2 ⟨A2, c2, rfl, s2, b2⟩
    have S2 := Lib.hid (s2.mono B1.out.size)
    have B2 : Hid (Below w.heap.size w w2) := Lib.hid (btr B1.out b2)
    clear s2 b2
    go_wp2_with fail
    go_ret
    exact ⟨_, _, _, rfl, by rw [Fin.out]; exact S2.out, hn20, B2.out⟩
end Go.Proofs.Ytonanelghnjhpab
