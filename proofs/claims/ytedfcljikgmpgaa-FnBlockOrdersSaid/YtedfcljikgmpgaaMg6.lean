/- Part 6 of the texts: SpB, RkM, RkB, SbA, PbB, SpC, Sz2, SSk, Hel4, WalkA7, PbC, Arg, WalkB7, SpD. No condition of its own: each text tells its own. -/
import Derived.Test.YtedfcljikgmpgaaMg5
import Derived.Test.YtedfcljikgmpgaaMg1
import Derived.Test.YtedfcljikgmpgaaMg4
import Derived.Test.YtedfcljikgmpgaaMg3
import Derived.Test.YtedfcljikgmpgaaMg2
import Derived.BigQuiet
import Derived.Deep.RegionLaw
import Derived.ChangeArms
import Derived.ProofKit
import Derived.OpenShut
import Derived.ChangeSlices
set_option linter.unusedVariables false
set_option linter.unusedSimpArgs false

/- blockIndexes, respects, IsBlockSystem, BlockAction and the orders of the model. Conditions: at most 20 points; at most 1048576 lists of at most 1048576 numbers. -/
namespace Go.Proofs.Ytedfcljikgmpgaa
open Go.RowKit

/-- The indices of the blocks of the points. -/
def ixL (N : Nat) (bl : List (List Int)) : List Int := (List.range N).map fun x => (bi bl x : Int)
theorem ixL_len {N : Nat} {bl : List (List Int)} : (ixL N bl).length = N := by simp [ixL]
theorem ixL_getD {N x : Nat} {bl : List (List Int)} (h : x < N) : (ixL N bl).getD x 0 = (bi bl x : Int) := by
  rw [getD_eq (by rw [ixL_len]; exact h)]; simp [ixL]

set_option maxHeartbeats 4000000 in
set_option maxRecDepth 100000 in
/-- blockIndexes, at a partition. -/
theorem specBix (N n c : Nat) (A : Option Addr) (vs : List SV) (bl : List (List Int)) (w : World) (hx : RR w w.heap.size A n vs bl) (hP : Hid (Prt N bl)) (h1 : 1 ≤ N) (h2 : N ≤ 20) :
    Calls Try.prog 47 #[.int .i64 (N : Nat), .slice A n c] w fun e w' => ∃ A' c', e = .returned (.slice A' N c') ∧ Slc w' w.heap.size A' N c' (ixL N bl) ∧ Below w.heap.size w w' := by
  obtain ⟨i0, hi, hz0, hz1, hz2⟩ := info_parts infoI
  have HX := Lib.hid hx
  have hlx : Hid (bl.length = n) := Lib.hid hx.lx
  have hn20 : n ≤ 20 := by have := hP.out.len_le; rw [hlx.out] at this; omega
  clear hx
  go_enter Try.func47, Try.ntmps47
  go_wp2_with (first | (at_make; refine wpList_make_full _ rfl _ _ 48 rfl w.heap.size 2 i0 (.int .i64 0) 1 Try.underlying48 hi hz0 hz1 .i64 .i64 _ _ N rfl rfl rfl rfl (by rw [hz2]; omega) (by unfold maxLen; omega) (Nat.le_refl _) ?_; intro w1 hown1 hgrow1))
  have R1 := Lib.hid (Row.made hown1)
  have B1 : Hid (Below w.heap.size w w1) := Lib.hid ((Below.refl _ _).grown hgrow1 (Nat.le_refl _) (fun k e => nomatch e))
  clear hown1 hgrow1
  go_wp2_with fail
  go_loopw [6] (fun iv wr => ∃ (i : Nat) (zs : List Int), i ≤ n ∧ iv = .int .i64 (i : Nat) ∧ Row wr w.heap.size w.heap.size N N zs ∧ (∀ x, x < N → bi bl x < i → zs.getD x 0 = (bi bl x : Int)) ∧ Below w.heap.size w wr) (fun iv _ => n - (intOf iv).toNat)
  case atStart => exact ⟨0, _, Nat.zero_le _, rfl, R1.out, fun x _ h => absurd h (Nat.not_lt_zero _), B1.out⟩
  case round =>
    clear R1 B1
    obtain ⟨i, zs, hi', rfl, hr, hdone, bel⟩ := hrel
    have Rr := Lib.hid hr
    have Dn := Lib.hid hdone
    have Be := Lib.hid bel
    clear hr hdone bel
    by_cases hlt : i < n
    · have hi2 : i < bl.length := by rw [hlx.out]; exact hlt
      obtain ⟨y, ey⟩ : ∃ y, bl.getD i [] = y := ⟨_, rfl⟩
      obtain ⟨d, ed⟩ : ∃ d, vs.getD i sd0 = d := ⟨_, rfl⟩
      obtain ⟨A5, l, c5⟩ := d
      have KC : Hid (∀ W : World, Below w.heap.size w W → (∃ b5 o5, A = some ⟨b5, o5, none⟩ ∧ b5 < w.heap.size ∧ W.cell? ⟨b5, o5 + i, none⟩ = some (.slice A5 l c5)) ∧ RI W w.heap.size A5 y) := Lib.hid fun W hW => by
        obtain ⟨b', o', A', l', c', y', e', hb', ev', ey', x', r', _, _⟩ := (HX.out.below hW (Nat.le_refl _)).at_ hlt
        rw [ed] at ev'
        injection ev' with e3 e4; injection e4 with e4 e5
        subst e3 e4 e5
        rw [ey] at ey'
        subst ey'
        exact ⟨⟨b', o', e', hb', x'⟩, r'⟩
      have Ly : Hid (y.length = l) := Lib.hid (by have := HX.out.lens i hlt; rw [ey, ed] at this; exact this)
      have hl20 : l ≤ 20 := by have := (hP.out.1 i hi2).2.1.1; rw [ey, Ly.out] at this; omega
      have Ey := Lib.hid ey
      obtain ⟨⟨b5, o5, rfl, hb5, xc0⟩, _⟩ := KC.out _ Be.out
      have q0 : (0 : Int) ≤ i := by omega
      have q1 : (i : Int) < n := by omega
      clear ey ed
      go_wp2_with fail
      go_loopw [7] (fun kv wr2 => ∃ (k : Nat) (zs : List Int), k ≤ l ∧ kv = .int .i64 (k : Nat) ∧ Row wr2 w.heap.size w.heap.size N N zs ∧ (∀ x, x < N → (bi bl x < i ∨ ∃ k', k' < k ∧ (x : Int) = y.getD k' 0) → zs.getD x 0 = (bi bl x : Int)) ∧ Below w.heap.size w wr2) (fun kv _ => l - (intOf kv).toNat)
      case atStart => exact ⟨0, zs, Nat.zero_le _, rfl, Rr.out, fun x hx h => Dn.out x hx (h.elim id fun ⟨k', h', _⟩ => absurd h' (Nat.not_lt_zero _)), Be.out⟩
      case round =>
        clear Rr Dn Be
        obtain ⟨k, zs, hk, rfl, hr, hdone, bel⟩ := hrel
        have Rr := Lib.hid hr
        have Dn := Lib.hid hdone
        have Be := Lib.hid bel
        obtain ⟨⟨b5', o5', e5, _, xc⟩, rr⟩ := KC.out _ bel
        injection e5 with e5; injection e5 with e51 e52
        subst e51 e52
        clear hr hdone bel xc0
        by_cases hlt2 : k < l
        · obtain ⟨bz, oz, rfl, hbz, hc⟩ := rr (by rw [Ly.out]; omega)
          have zk := hc k (by rw [Ly.out]; exact hlt2)
          have ek := hP.out.ent hi2 (k := k) (by rw [Ey.out, Ly.out]; exact hlt2)
          rw [Ey.out] at ek
          obtain ⟨Z, eZ⟩ : ∃ Z : Nat, y.getD k 0 = (Z : Int) := ⟨(y.getD k 0).toNat, by omega⟩
          rw [eZ] at zk ek
          have hZ : Z < N := by omega
          have hbZ : bi bl Z = i := ek.2.2
          have fz := Rr.out.free Z
          have hcz := Rr.out.cell hZ
          obtain ⟨o1, ho1⟩ : ∃ o1, zs.getD Z 0 = o1 := ⟨_, rfl⟩
          rw [ho1] at hcz
          have R2 := Lib.hid (Rr.out.store Z (i : Int))
          have B2 : Hid (Below w.heap.size w (wr.setCell ⟨w.heap.size, Z, none⟩ (.int .i64 (i : Int)))) := Lib.hid (Be.out.setCell (p := ⟨w.heap.size, Z, none⟩) (Nat.le_refl _) _)
          have Dn2 : Hid (∀ x, x < N → (bi bl x < i ∨ ∃ k', k' < k + 1 ∧ (x : Int) = y.getD k' 0) → (zs.set Z (i : Int)).getD x 0 = (bi bl x : Int)) := Lib.hid fun x hx h => by
            rw [set_getD Rr.out.1 hx]
            by_cases e : Z = x
            · subst e; rw [if_pos rfl, hbZ]
            · rw [if_neg e]
              refine Dn.out x hx (h.imp id fun ⟨k', h', e'⟩ => ⟨k', ?_, e'⟩)
              by_cases e2 : k' = k
              · subst e2; rw [eZ] at e'; exact absurd (by omega) e
              · omega
          have qZ : (Z : Int) < N := by omega
          have k0 : (0 : Int) ≤ k := by omega
          have k1 : (k : Int) < l := by omega
          clear hc eZ ek hbZ ho1 hbz
          go_wp2_with fail
          go_roundw
          case rel => exact ⟨k + 1, _, by omega, by go_num, R2.out, Dn2.out, B2.out⟩
          case measure => simp [intOf]; omega
        · obtain rfl : k = l := by omega
          have Dn2 : Hid (∀ x, x < N → bi bl x < i + 1 → zs.getD x 0 = (bi bl x : Int)) := Lib.hid fun x hx h => by
            refine Dn.out x hx ?_
            by_cases e : bi bl x < i
            · exact .inl e
            · have e2 : bi bl x = i := by omega
              have hm := hP.out.bi_mem hx
              rw [e2, Ey.out] at hm
              obtain ⟨k', hk', ek'⟩ := List.mem_iff_getElem.1 hm
              exact .inr ⟨k', by rw [← Ly.out]; exact hk', by rw [getD_eq hk', ek']⟩
          go_wp2_with fail
          go_roundw
          case rel => exact ⟨i + 1, zs, by omega, by go_num, Rr.out, Dn2.out, Be.out⟩
          case measure => simp [intOf]; omega
    · obtain rfl : i = n := by omega
      have Fin : Hid (zs = ixL N bl) := Lib.hid (ext_getD Rr.out.1 ixL_len fun x hx => by
        rw [ixL_getD hx]
        exact Dn.out x hx (by rw [← hlx.out]; exact hP.out.bi_lt hx))
      go_wp2_with fail
      go_ret
      exact ⟨_, _, rfl, by rw [← Fin.out]; exact Rr.out.slc, Be.out⟩

set_option maxHeartbeats 4000000 in
set_option maxRecDepth 100000 in
/-- respects, at a partition. -/
theorem specResp (N n c cg cx : Nat) (G A X : Option Addr) (vs : List SV) (bl : List (List Int)) (g : List Int) (w : World) (hG : RI w w.heap.size G g) (hg : Hid (Pn N g)) (hx : RR w w.heap.size A n vs bl) (hP : Hid (Prt N bl)) (hX : RI w w.heap.size X (ixL N bl)) (ans : Bool) (ha : Hid (ans = true ↔ Rsp N bl g)) :
    Calls Try.prog 48 #[.slice G N cg, .slice A n c, .slice X N cx] w fun e w' => e = .returned (.bool ans) ∧ Below w.heap.size w w' := by
  have HG := Lib.hid hG
  have HA := Lib.hid hx
  have HX := Lib.hid hX
  have hln : Hid (bl.length = n) := Lib.hid hx.lx
  have hN20 := hg.out.pos.2
  have hN1 := hg.out.pos.1
  have hn20 : n ≤ 20 := by have := hP.out.len_le; rw [hln.out] at this; omega
  clear hG hx hX
  go_enter Try.func48, Try.ntmps48
  go_wp2_with fail
  go_loopw [7] (fun iv wr => ∃ i : Nat, i ≤ n ∧ iv = .int .i64 (i : Nat) ∧ (∀ j, j < i → ∀ k, k < (bl.getD j []).length → bi bl (nx g ((bl.getD j []).getD k 0).toNat) = bi bl (nx g ((bl.getD j []).getD 0 0).toNat)) ∧ Below w.heap.size w wr) (fun iv _ => n - (intOf iv).toNat)
  case atStart => exact ⟨0, Nat.zero_le _, rfl, fun j h => absurd h (Nat.not_lt_zero _), Below.refl _ _⟩
  case round =>
    obtain ⟨i, hi, rfl, hdone, bel⟩ := hrel
    have Dn := Lib.hid hdone
    have Be := Lib.hid bel
    clear hdone bel
    by_cases hlt : i < n
    · have hi2 : i < bl.length := by rw [hln.out]; exact hlt
      obtain ⟨y, ey⟩ : ∃ y, bl.getD i [] = y := ⟨_, rfl⟩
      obtain ⟨d, ed⟩ : ∃ d, vs.getD i sd0 = d := ⟨_, rfl⟩
      obtain ⟨A5, l, c5⟩ := d
      have KC : Hid (∀ W : World, Below w.heap.size w W → (∃ b5 o5, A = some ⟨b5, o5, none⟩ ∧ b5 < w.heap.size ∧ W.cell? ⟨b5, o5 + i, none⟩ = some (.slice A5 l c5)) ∧ RI W w.heap.size A5 y) := Lib.hid fun W hW => by
        obtain ⟨b', o', A', l', c', y', e', hb', ev', ey', x', r', _, _⟩ := (HA.out.below hW (Nat.le_refl _)).at_ hlt
        rw [ed] at ev'
        injection ev' with e3 e4; injection e4 with e4 e5
        subst e3 e4 e5
        rw [ey] at ey'
        subst ey'
        exact ⟨⟨b', o', e', hb', x'⟩, r'⟩
      have Ly : Hid (y.length = l) := Lib.hid (by have := HA.out.lens i hlt; rw [ey, ed] at this; exact this)
      have hl0 : 0 < l := by rw [← Ly.out]; have := (hP.out.1 i hi2).1; rw [ey] at this; exact List.length_pos_iff.2 this
      have hl20 : l ≤ 20 := by have := (hP.out.1 i hi2).2.1.1; rw [ey, Ly.out] at this; omega
      have Ey := Lib.hid ey
      obtain ⟨⟨b5, o5, rfl, hb5, xc0⟩, _⟩ := KC.out _ Be.out
      have e0 := hP.out.ent hi2 (k := 0) (by rw [ey, Ly.out]; exact hl0)
      rw [ey] at e0
      obtain ⟨Z0, eZ0⟩ : ∃ Z : Nat, y.getD 0 0 = (Z : Int) := ⟨(y.getD 0 0).toNat, by omega⟩
      rw [eZ0] at e0
      have hZ0 : Z0 < N := by omega
      obtain ⟨V0, eV0⟩ : ∃ V, nx g Z0 = V := ⟨_, rfl⟩
      have hV0 : V0 < N := by rw [← eV0]; exact hg.out.lt hZ0
      have EZ0 := Lib.hid eZ0
      have EV0 := Lib.hid eV0
      have q0 : (0 : Int) ≤ i := by omega
      have q1 : (i : Int) < n := by omega
      have ql0 : (0 : Int) < l := by omega
      clear ey ed e0 eZ0 eV0
      go_wp2_with fail
      go_loopw [8] (fun kv wr2 => ∃ k : Nat, 1 ≤ k ∧ k ≤ l ∧ kv = .int .i64 (k : Nat) ∧ (∀ k', k' < k → bi bl (nx g (y.getD k' 0).toNat) = bi bl V0) ∧ Below w.heap.size w wr2) (fun kv _ => l - (intOf kv).toNat)
      case atStart => exact ⟨1, Nat.le_refl _, hl0, rfl, fun k' h => (by
        obtain rfl : k' = 0 := by omega
        rw [EZ0.out, Int.toNat_natCast, EV0.out]), Be.out⟩
      case round =>
        clear Be
        obtain ⟨k, hk1, hk, rfl, hdone, bel⟩ := hrel
        have Al := Lib.hid hdone
        have Be := Lib.hid bel
        obtain ⟨⟨b5', o5', e5, _, xc⟩, rr⟩ := KC.out _ bel
        injection e5 with e5; injection e5 with e51 e52
        subst e51 e52
        clear hdone bel xc0
        by_cases hlt2 : k < l
        · obtain ⟨bz, oz, rfl, hbz, hc⟩ := rr (by rw [Ly.out]; omega)
          have zk := hc k (by rw [Ly.out]; exact hlt2)
          have z0 := hc 0 (by rw [Ly.out]; exact hl0)
          have ek := hP.out.ent hi2 (k := k) (by rw [Ey.out, Ly.out]; exact hlt2)
          rw [Ey.out] at ek
          obtain ⟨Z, eZ⟩ : ∃ Z : Nat, y.getD k 0 = (Z : Int) := ⟨(y.getD k 0).toNat, by omega⟩
          rw [eZ] at zk ek
          rw [EZ0.out, Nat.add_zero] at z0
          have hZ : Z < N := by omega
          obtain ⟨V, eV⟩ : ∃ V, nx g Z = V := ⟨_, rfl⟩
          have hV : V < N := by rw [← eV]; exact hg.out.lt hZ
          obtain ⟨bg, og, rfl, hbg, hcg⟩ := (HG.out.below Be.out (Nat.le_refl _)) (by rw [hg.out.2]; omega)
          have y0 := hcg Z0 (by rw [hg.out.2]; exact hZ0)
          have yk := hcg Z (by rw [hg.out.2]; exact hZ)
          rw [nx_val hg.out.1 (by rw [hg.out.2]; exact hZ0), EV0.out] at y0
          rw [nx_val hg.out.1 (by rw [hg.out.2]; exact hZ), eV] at yk
          obtain ⟨bx, ox, rfl, hbx, hcx⟩ := (HX.out.below Be.out (Nat.le_refl _)) (by rw [ixL_len]; omega)
          have x0 := hcx V0 (by rw [ixL_len]; exact hV0)
          have xk := hcx V (by rw [ixL_len]; exact hV)
          rw [ixL_getD hV0] at x0
          rw [ixL_getD hV] at xk
          obtain ⟨I0, eI0⟩ : ∃ I, bi bl V0 = I := ⟨_, rfl⟩
          obtain ⟨Ik, eIk⟩ : ∃ I, bi bl V = I := ⟨_, rfl⟩
          rw [eI0] at x0
          rw [eIk] at xk
          have EZ := Lib.hid eZ
          have EV := Lib.hid eV
          have EI0 := Lib.hid eI0
          have EIk := Lib.hid eIk
          have qZ : (Z : Int) < N := by omega
          have qZ0 : (Z0 : Int) < N := by omega
          have qV : (V : Int) < N := by omega
          have qV0 : (V0 : Int) < N := by omega
          have k0 : (0 : Int) ≤ k := by omega
          have k1 : (k : Int) < l := by omega
          have BD : Hid (∀ q, Below w.heap.size w (wr.drewN q)) := Lib.hid fun q => below_drewN Be.out q
          clear hc ek hcg hcx eZ eV eI0 eIk hbz hbg hbx
          by_cases hI : Ik = I0
          · have d0 : ((Ik : Int) != (I0 : Int)) = false := by rw [hI]; simp
            have d1 : ((Ik : Int) == (I0 : Int)) = true := by rw [hI]; simp
            have Al2 : Hid (∀ k', k' < k + 1 → bi bl (nx g (y.getD k' 0).toNat) = bi bl V0) := Lib.hid fun k' hk' => by
              by_cases e : k' = k
              · subst e; rw [EZ.out, Int.toNat_natCast, EV.out, EIk.out, EI0.out, hI]
              · exact Al.out k' (by omega)
            clear hI
            go_wp2_with fail
            go_quiet (fail)
            go_wp2_with fail
            go_roundw
            case rel => exact ⟨k + 1, by omega, by omega, by go_num, Al2.out, BD.out _⟩
            case measure => simp [intOf]; omega
          · have d0 : ((Ik : Int) != (I0 : Int)) = true := by rw [bne_iff_ne]; omega
            have d1 : ((Ik : Int) == (I0 : Int)) = false := by rw [beq_eq_false_iff_ne]; omega
            have Fin : Hid (false = ans) := Lib.hid (by
              rcases ans with _ | _
              · rfl
              · refine absurd ?_ hI
                have hr := ha.out.1 rfl
                have e1 := hP.out.ent hi2 (k := 0) (by rw [Ey.out, Ly.out]; exact hl0)
                have e2 := hP.out.ent hi2 (k := k) (by rw [Ey.out, Ly.out]; exact hlt2)
                rw [Ey.out, EZ0.out, Int.toNat_natCast] at e1
                rw [Ey.out, EZ.out, Int.toNat_natCast] at e2
                have : bi bl (nx g Z) = bi bl (nx g Z0) := hr Z Z0 hZ hZ0 (e2.2.2.trans e1.2.2.symm)
                rw [EV.out, EV0.out, EIk.out, EI0.out] at this
                exact this)
            clear hI
            go_wp2_with fail
            go_quiet (fail)
            go_wp2_with fail
            go_ret
            exact ⟨ret_bool Fin.out, BD.out _⟩
        · obtain rfl : k = l := by omega
          have Dn2 : Hid (∀ j, j < i + 1 → ∀ k, k < (bl.getD j []).length → bi bl (nx g ((bl.getD j []).getD k 0).toNat) = bi bl (nx g ((bl.getD j []).getD 0 0).toNat)) := Lib.hid fun j hj k' hk' => by
            by_cases e : j = i
            · subst e
              rw [Ey.out] at hk' ⊢
              rw [Al.out k' (by rw [← Ly.out]; exact hk'), EZ0.out, Int.toNat_natCast, EV0.out]
            · exact Dn.out j (by omega) k' hk'
          go_wp2_with fail
          go_roundw
          case rel => exact ⟨i + 1, by omega, by go_num, Dn2.out, Be.out⟩
          case measure => simp [intOf]; omega
    · obtain rfl : i = n := by omega
      have Fin : Hid (true = ans) := Lib.hid (Eq.symm (ha.out.2 fun u v hu hv e => by
        show bi bl (nx g u) = bi bl (nx g v)
        have key : ∀ z, z < N → bi bl (nx g z) = bi bl (nx g ((bl.getD (bi bl z) []).getD 0 0).toNat) := fun z hz => by
          have hl := hP.out.bi_lt hz
          obtain ⟨k, hk, ek⟩ := List.mem_iff_getElem.1 (hP.out.bi_mem hz)
          have := Dn.out _ (by rw [← hln.out]; exact hl) k hk
          rw [getD_eq hk, ek] at this
          exact this
        rw [key u hu, key v hv, e]))
      go_wp2_with fail
      go_ret
      exact ⟨ret_bool Fin.out, Be.out⟩
end Go.Proofs.Ytedfcljikgmpgaa

/- How many members each choice of the model's chain has; the entries there are, of the model. Conditions: at most 20 points, 8 generators. -/
namespace Go.Proofs.Ytedfcljikgmpgaa
open Go.RowKit

/-- What choicesAt answers, in the words of ranks. -/
theorem chL_ok {N i : Nat} {gs : List (List Int)} {c : Ch} {m : List Int} {zs : List Int} (hw : Whole N gs c) (h1 : 1 ≤ N) (h2 : N ≤ 20) (hg : ∀ g ∈ gs, Pn N g) (hi : i < N) (hm : Mb gs N m) (hp : zs.Perm (chL c i m N)) (ho : zs.Pairwise (· ≤ ·)) : ChL N gs m i zs := by
  have hmp := hm.pn hg h1 h2
  have hn : (chL c i m N).Nodup := nd_mapA (List.nodup_range.filter _) fun x hx y hy e => hmp.inj (List.mem_range.1 (List.mem_filter.1 hx).1) (List.mem_range.1 (List.mem_filter.1 hy).1) (by omega)
  have hz : zs.Nodup := hp.nodup_iff.2 hn
  refine ⟨List.Pairwise.imp (S := fun a b => a < b) (fun {a b} hab => by have := hab.1; have := hab.2; omega) (ho.and hz), fun v => ?_⟩
  rw [hp.mem_iff, hw.choice h1 h2 hg hi hm]
  exact Iff.rfl

end Go.Proofs.Ytedfcljikgmpgaa

/- countBelow of the model: how many members precede a permutation. Conditions: at most 20 points, 8 generators. -/
namespace Go.Proofs.Ytedfcljikgmpgaa
open Go.RowKit

theorem first_ge (zs : List Int) (v : Int) : ∃ K, K ≤ zs.length ∧ (∀ j, j < K → zs.getD j 0 < v) ∧ (K < zs.length → v ≤ zs.getD K 0) := by
  have h : ∀ n, n ≤ zs.length → (∀ j, j < n → zs.getD j 0 < v) ∨ ∃ K, K < n ∧ (∀ j, j < K → zs.getD j 0 < v) ∧ v ≤ zs.getD K 0 := fun n => by
    induction n with
    | zero => exact fun _ => .inl fun j h => absurd h (Nat.not_lt_zero _)
    | succ n ih =>
      intro hn
      rcases ih (by omega) with h | ⟨K, a, b, d⟩
      · by_cases e : zs.getD n 0 < v
        · exact .inl fun j hj => by
            by_cases e2 : j = n
            · subst e2; exact e
            · exact h j (by omega)
        · exact .inr ⟨n, by omega, h, by omega⟩
      · exact .inr ⟨K, by omega, b, d⟩
  rcases h zs.length (Nat.le_refl _) with h | ⟨K, a, b, d⟩
  · exact ⟨zs.length, Nat.le_refl _, h, fun h => absurd h (Nat.lt_irrefl _)⟩
  · exact ⟨K, by omega, b, fun _ => d⟩
/-- The order of a group of at most 20 points. -/
theorem IsOS.ordB {N : Nat} {gs : List (List Int)} {xs : List Int} (h : IsOS N gs xs) (hg : ∀ g ∈ gs, Pn N g) (h1 : 1 ≤ N) (h2 : N ≤ 20) : ∃ V, Crd (Mb gs N) V ∧ prodL xs = (V : Int) ∧ V ≤ 2432902008176640000 := by
  obtain ⟨V, hV, e⟩ := h.order hg h1 h2
  have := h.pr_le hg h1 h2 0 N (by omega)
  have hf := facts_le h2 (0 + N) (by omega)
  rw [prodL_pr, h.1] at e
  exact ⟨V, hV, by rw [prodL_pr, h.1]; exact e, by omega⟩

end Go.Proofs.Ytedfcljikgmpgaa

/- IsSubgroup, SubgroupIndex and SameCoset of the model: what they answer. Conditions: at most 1048576 lists of at most 1048576 numbers. -/
namespace Go.Proofs.Ytedfcljikgmpgaa
open Go.RowKit


/-! ### what the orders tell of the index -/
section
variable {a va vb : Int} {xa xb : List (List Int)}
theorem ord_nat (h : IsOrd a xa va) (hs : gB a xa = true) : ∃ V : Nat, va = (V : Int) ∧ Crd (Mb xa a.toNat) V ∧ 1 ≤ V ∧ V ≤ 2432902008176640000 := by
  rcases h with ⟨_, xs, h, rfl⟩ | ⟨e, _⟩
  · obtain ⟨N, rfl, h1, h2, _, _, ok⟩ := gB_pm hs
    rw [Int.toNat_natCast] at h ⊢
    obtain ⟨V, hV, e, hb⟩ := h.ordB ok h1 h2
    have : 1 ≤ V := crd_sub (crd_one (idL N)) hV fun x hx => by subst hx; exact .one
    exact ⟨V, e, hV, this, hb⟩
  · rw [hs] at e; cases e
theorem ord_idx (hs : SubG a xa xb) (ha : IsOrd a xa va) (hb : IsOrd a xb vb) : ∃ Va Vb : Nat, va = (Va : Int) ∧ vb = (Vb : Int) ∧ 1 ≤ Va ∧ Vb ≤ 2432902008176640000 ∧ IsIdx a xa xb ((Vb / Va : Nat) : Int) := by
  obtain ⟨Va, e1, c1, l1, _⟩ := ord_nat ha hs.1
  obtain ⟨Vb, e2, c2, _, l2⟩ := ord_nat hb hs.2.1
  obtain ⟨k, hk, e⟩ := idx_ord hs c1 c2
  refine ⟨Va, Vb, e1, e2, l1, l2, .inl ⟨hs, k, hk, ?_⟩⟩
  rw [e, Nat.mul_div_cancel _ (by omega)]
end


end Go.Proofs.Ytedfcljikgmpgaa

/- The program's blockImages, BlockAction, IsBlockSystem, BlockActionOrder, BlockKernelOrder. Conditions: at most 1048576 lists of at most 1048576 numbers. -/
namespace Go.Proofs.Ytedfcljikgmpgaa
open Go.RowKit

section
variable {N : Nat} {bl : List (List Int)} {f : Nat → Option Nat} {g : List Int}
/-- Behind uniteEach the smallest of a point's set is the head of its block. -/
theorem each_head (hP : Prt N bl) (h : Lnk N f) (h1 : Rf N (bi bl) (rt f)) (h2 : Rf N (rt f) (bi bl)) {u : Nat} (hu : u < N) : (rt f u : Int) = (bl.getD (bi bl u) []).getD 0 0 := by
  have hl := hP.bi_lt hu
  have hh := hP.head hl
  have hb := hP.head_bi hl
  obtain ⟨m, em⟩ : ∃ m : Nat, (bl.getD (bi bl u) []).getD 0 0 = (m : Int) := ⟨((bl.getD (bi bl u) []).getD 0 0).toNat, by omega⟩
  rw [em] at hh hb ⊢
  have hm : m < N := by omega
  have e1 : rt f u = rt f m := h1 u m hu hm hb.symm
  have h3 := rt_le h m
  have hru : rt f u < N := by omega
  have e2 : bi bl (rt f u) = bi bl u := h2 _ _ hru hu (rt_rt h u)
  have h4 := hP.bi_mem hru
  rw [e2] at h4
  have hs := hP.1 _ hl
  obtain ⟨k, hk, ek⟩ := List.mem_iff_getElem.1 h4
  have : (m : Int) ≤ (rt f u : Int) := by
    rw [← em, ← ek, getD_eq (by omega : 0 < (bl.getD (bi bl u) []).length)]
    rcases Nat.eq_zero_or_pos k with rfl | hk0
    · exact Int.le_refl _
    · have := PtS.lt hs.2.1 k hk0 hk
      rw [getD_eq (by omega : 0 < (bl.getD (bi bl u) []).length), getD_eq hk] at this
      omega
  omega
/-- The entries of block i that g maps into one block. -/
theorem rsp_of (hP : Prt N bl) (hg : Pn N g) (h1 : Rf N (bi bl) (rt f)) (h2 : Rf N (rt f) (bi bl)) (h : ∀ i, i < bl.length → ∀ k, k < (bl.getD i []).length → rt f (nx g ((bl.getD i []).getD k 0).toNat) = rt f (nx g ((bl.getD i []).getD 0 0).toNat)) : Rsp N bl g := by
  intro u v hu hv e
  show bi bl (nx g u) = bi bl (nx g v)
  have key : ∀ z, z < N → rt f (nx g z) = rt f (nx g ((bl.getD (bi bl z) []).getD 0 0).toNat) := fun z hz => by
    have hl := hP.bi_lt hz
    obtain ⟨k, hk, ek⟩ := List.mem_iff_getElem.1 (hP.bi_mem hz)
    have := h _ hl k hk
    rw [getD_eq hk, ek] at this
    exact this
  refine h2 _ _ (hg.lt hu) (hg.lt hv) ?_
  rw [key u hu, key v hv, e]
theorem rsp_to (hP : Prt N bl) (hg : Pn N g) (h1 : Rf N (bi bl) (rt f)) (h : Rsp N bl g) {i k : Nat} (hi : i < bl.length) (hk : k < (bl.getD i []).length) : rt f (nx g ((bl.getD i []).getD k 0).toNat) = rt f (nx g ((bl.getD i []).getD 0 0).toNat) := by
  have e1 := hP.ent hi (k := 0) (by omega)
  have e2 := hP.ent hi hk
  refine h1 _ _ (hg.lt (by omega)) (hg.lt (by omega)) (h _ _ (by omega) (by omega) (e2.2.2.trans e1.2.2.symm))
theorem actL_len : (actL bl g).length = bl.length := by unfold actL; rw [List.length_map]
theorem actL_take {i : Nat} (hi : i < bl.length) : (actL bl g).take (i + 1) = (actL bl g).take i ++ [((bi bl (nx g ((bl.getD i []).getD 0 0).toNat) : Nat) : Int)] := by
  rw [List.take_succ_eq_append_getElem (by rw [actL_len]; exact hi)]
  unfold actL
  rw [List.getElem_map, getD_L hi]
end

set_option maxHeartbeats 1000000 in
/-- The function literal of blockImages: the block that begins with a number. -/
theorem predHd (bx l c5 : Nat) (F : Int) (A5 : Option Addr) (y : List Int) (w : World) (hb : Blk w bx 2 #[.int .i64 F]) (hy : RI w w.heap.size A5 y) (ly : Hid (y.length = l)) (hl : 0 < l) (ans : Bool) (ha : Hid ((y.getD 0 0 == F) = ans)) :
    Calls Try.prog 92 #[.slice A5 l c5, .pointer (some ⟨bx, 0, none⟩)] w fun e w' => e = .returned (.bool ans) ∧ Below w.heap.size w w' := by
  obtain ⟨bz, oz, rfl, hbz, hc⟩ := hy (by rw [ly.out]; exact hl)
  have z0 := hc 0 (by rw [ly.out]; exact hl)
  obtain ⟨x, ex⟩ : ∃ x, y.getD 0 0 = x := ⟨_, rfl⟩
  rw [ex, Nat.add_zero] at z0
  have c0 : w.cell? ⟨bx, 0, none⟩ = some (.int .i64 F) := hb.cell 0
  have Fin : Hid ((x == F) = ans) := Lib.hid (by rw [← ha.out, ex])
  have q0 : (0 : Int) < l := by omega
  clear hc ex hbz hb ha
  go_enter Try.func92, Try.ntmps92
  go_wp2_with fail
  go_quiet (fail)
  go_wp2_with fail
  go_ret
  exact ⟨ret_bool Fin.out, pcDrewBelow _ _⟩
set_option maxHeartbeats 1000000 in
set_option maxRecDepth 100000 in
/-- slices.IndexFunc at that literal. -/
theorem idxHead (bx n c k : Nat) (F : Int) (A : Option Addr) (vs : List SV) (bl : List (List Int)) (w : World) (hx : RR w w.heap.size A n vs bl) (hb : Blk w bx 2 #[.int .i64 F]) (hn : n ≤ 1048576) (hk : k < n) (hne : Hid (∀ i, i < n → bl.getD i [] ≠ [])) (h1 : Hid ((bl.getD k []).getD 0 0 = F)) (h2 : Hid (∀ j, j < k → (bl.getD j []).getD 0 0 ≠ F)) :
    Calls Try.prog 91 #[.slice A n c, .func (.func 92) #[] #[.pointer (some ⟨bx, 0, none⟩)]] w fun e w' => e = .returned (.int .i64 (k : Nat)) ∧ Below w.heap.size w w' := by
  have HX := Lib.hid hx
  have HB := Lib.hid hb
  clear hx hb
  go_enter Try.func91, Try.ntmps91
  go_wp2_with fail
  go_loopw [8] (fun i wr => ∃ j : Nat, j ≤ k ∧ i = .int .i64 (j : Nat) ∧ Below w.heap.size w wr) (fun i _ => n - (intOf i).toNat)
  case atStart => exact ⟨0, Nat.zero_le _, rfl, Below.refl _ _⟩
  case round =>
    obtain ⟨j, hj, rfl, bel⟩ := hrel
    have Be := Lib.hid bel
    clear bel
    have hlt : j < n := by omega
    obtain ⟨b5, o5, A5, l, c5, y, rfl, hb5, ev, ey, x1, ri, ly, hlc⟩ := (HX.out.up Be.out).at_ hlt
    have hl0 : 0 < l := by rw [← ly]; have := hne.out j hlt; rw [ey] at this; exact List.length_pos_iff.2 this
    have Bk := Lib.hid (HB.out.below Be.out HB.out.lt)
    have Ri := Lib.hid ri
    have Ly : Hid (y.length = l) := Lib.hid ly
    have Ey := Lib.hid ey
    have q0 : (0 : Int) ≤ j := by omega
    have q1 : (j : Int) < n := by omega
    clear ev ey ri ly hb5
    by_cases e : j = k
    · subst e
      go_wp2_with fail
      refine (predHd bx l c5 F A5 y wr Bk.out Ri.out Ly hl0 true (Lib.hid (by rw [← Ey.out, h1.out]; simp))).mono ?_
      rintro e w1 ⟨rfl, b1⟩
      have B1 : Hid (Below w.heap.size w w1) := Lib.hid (btr Be.out b1)
      clear b1
      go_wp2_with fail
      go_ret
      exact ⟨rfl, B1.out⟩
    · have hne2 : Hid ((y.getD 0 0 == F) = false) := Lib.hid (by rw [← Ey.out, beq_eq_false_iff_ne]; exact h2.out j (by omega))
      go_wp2_with fail
      refine (predHd bx l c5 F A5 y wr Bk.out Ri.out Ly hl0 false hne2).mono ?_
      rintro e w1 ⟨rfl, b1⟩
      have B1 : Hid (Below w.heap.size w w1) := Lib.hid (btr Be.out b1)
      clear b1
      go_wp2_with fail
      go_roundw
      case rel => exact ⟨j + 1, by omega, by go_num, B1.out⟩
      case measure => simp [intOf]; omega

set_option maxHeartbeats 4000000 in
set_option maxRecDepth 100000 in
/-- blockImages. -/
theorem implImages (b N n c cg : Nat) (f : Nat → Option Nat) (D : DataW Value) (G A : Option Addr) (vs : List SV) (bl : List (List Int)) (g : List Int) (w : World) (h : UF w b N f D) (hG : RI w w.heap.size G g) (hg : Hid (Pn N g)) (hA : RR w w.heap.size A n vs bl) (hP : Hid (Prt N bl)) (h1 : Hid (Rf N (bi bl) (rt f))) (h2 : Hid (Rf N (rt f) (bi bl))) :
    Calls Try.prog 55 #[.slice G N cg, .slice A n c, .map (some b)] w fun e w' => ∃ A' n' c' zs ok, e = .returned (.tuple #[.slice A' n' c', .bool ok]) ∧ Slc w' w.heap.size A' n' c' zs ∧ ((ok = true ∧ Rsp N bl g ∧ zs = actL bl g) ∨ (ok = false ∧ ¬ Rsp N bl g ∧ zs = [])) ∧ Below w.heap.size w w' := by
  have hmf : ∀ (fn : Fn) (first cap : Array Value) (w : World), (Instr.makeFunc fn first cap).run Try.prog w = .ok (.func fn first cap) w := fun _ _ _ _ => rfl
  have H := Lib.hid h
  have HG := Lib.hid hG
  have HA := Lib.hid hA
  have hln : Hid (bl.length = n) := Lib.hid hA.lx
  have hN20 := hg.out.pos.2
  have hn20 : n ≤ 20 := by have := hP.out.len_le; rw [hln.out] at this; omega
  have Hne : Hid (∀ i, i < n → bl.getD i [] ≠ []) := Lib.hid fun i hi => (hP.out.1 i (by rw [hln.out]; exact hi)).1
  have Hd : Hid (∀ u, u < N → (rt f u : Int) = (bl.getD (bi bl u) []).getD 0 0) := Lib.hid fun u hu => each_head hP.out h.lk h1.out h2.out hu
  clear h hG hA
  go_enter Try.func55, Try.ntmps55
  go_wp2_with fail
  go_loopw [8, 17] (fun v iv wr => ∃ (i ci : Nat) (I : Option Addr), i ≤ n ∧ iv = .int .i64 (i : Nat) ∧ v = .slice I i ci ∧ Slc wr w.heap.size I i ci ((actL bl g).take i) ∧ (∀ j, j < i → ∀ k, k < (bl.getD j []).length → rt f (nx g ((bl.getD j []).getD k 0).toNat) = rt f (nx g ((bl.getD j []).getD 0 0).toNat)) ∧ Below w.heap.size w wr) (fun _ iv _ => n - (intOf iv).toNat)
  case atStart => exact ⟨0, _, _, Nat.zero_le _, rfl, rfl, by rw [List.take_zero]; exact Slc.nil_, fun j h => absurd h (Nat.not_lt_zero _), Below.refl _ _⟩
  case round =>
    obtain ⟨i, ci, I, hi, rfl, rfl, hs, hdone, bel⟩ := hrel
    have Ss := Lib.hid hs
    have Dn := Lib.hid hdone
    have Be := Lib.hid bel
    clear hs hdone bel
    by_cases hlt : i < n
    · obtain ⟨b5, o5, A5, l, c5, y, rfl, hb5, ev, ey, x1, ri, ly, hlc⟩ := (HA.out.up Be.out).at_ hlt
      have hi2 : i < bl.length := by rw [hln.out]; exact hlt
      have hl0 : 0 < l := by rw [← ly]; have := Hne.out i hlt; rw [ey] at this; exact List.length_pos_iff.2 this
      have Ey := Lib.hid ey
      have Ly : Hid (y.length = l) := Lib.hid ly
      have Ri := Lib.hid ri
      have hl20 : l ≤ 20 := by have := (hP.out.1 i hi2).2.1.1; rw [ey, ly] at this; omega
      obtain ⟨bz, oz, rfl, hbz, hc⟩ := ri (by rw [ly]; exact hl0)
      have z0 := hc 0 (by rw [ly]; exact hl0)
      have e0 := hP.out.ent hi2 (k := 0) (by rw [ey, ly]; exact hl0)
      rw [ey] at e0
      obtain ⟨X, eX⟩ : ∃ X : Nat, y.getD 0 0 = (X : Int) := ⟨(y.getD 0 0).toNat, by omega⟩
      rw [eX, Nat.add_zero] at z0
      rw [eX] at e0
      have hX : X < N := by omega
      have hbX : bi bl X = i := e0.2.2
      obtain ⟨bg, og, rfl, hbg, hcg⟩ := (HG.out.up Be.out) (by rw [hg.out.2]; omega)
      have y0 := hcg X (by rw [hg.out.2]; exact hX)
      rw [nx_val hg.out.1 (by rw [hg.out.2]; exact hX)] at y0
      obtain ⟨Y, eY⟩ : ∃ Y, nx g X = Y := ⟨_, rfl⟩
      have hY : Y < N := by rw [← eY]; exact hg.out.lt hX
      rw [eY] at y0
      have EX := Lib.hid eX
      have EY := Lib.hid eY
      have HbX := Lib.hid hbX
      have qX : (X : Int) < N := by omega
      have ql0 : (0 : Int) < l := by omega
      have KA9 : Hid (∀ W : World, Below w.heap.size w W → (vs.getD i sd0).1 = some ⟨bz, oz, none⟩) := Lib.hid fun W _ => by rw [ev]
      clear ev ey ri ly hc e0 eX hbX hcg eY hb5 hbz hbg
      go_wp2_with fail
      refine (ufSmallest b N Y f D wr (H.out.up Be.out) hY hN20).mono ?_
      rintro e w1 ⟨rfl, rfl⟩
      obtain ⟨F, eF⟩ : ∃ F, rt f Y = F := ⟨_, rfl⟩
      rw [eF]
      have EF := Lib.hid eF
      have B1 : Hid (Below wr.heap.size wr (wr.alloc (.cells #[.int .i64 (F : Nat)] 2))) := Lib.hid ((Below.refl _ _).alloc (Nat.le_refl _) _)
      have Bk1 : Hid (Blk (wr.alloc (.cells #[.int .i64 (F : Nat)] 2)) wr.heap.size 2 #[.int .i64 (F : Nat)]) := Lib.hid (Blk.new wr _ _)
      have hzr := Be.out.size
      clear eF z0 y0 x1
      go_wp2_with fail
      obtain ⟨W1, hW1⟩ : ∃ W1, wr.alloc (.cells #[.int .i64 (F : Nat)] 2) = W1 := ⟨_, rfl⟩
      obtain ⟨bx, hbx⟩ : ∃ bx, wr.heap.size = bx := ⟨_, rfl⟩
      rw [hW1] at B1 Bk1 ⊢
      rw [hbx] at Bk1 ⊢
      have Bw1 : Hid (Below w.heap.size w W1) := Lib.hid (btr Be.out B1.out)
      have Ss1 := Lib.hid (Ss.out.up B1.out)
      clear hW1 hbx B1 Ss Be
      go_loopw [31] (fun kv wr2 => ∃ k : Nat, k ≤ l ∧ kv = .int .i64 (k : Nat) ∧ (∀ k', k' < k → rt f (nx g (y.getD k' 0).toNat) = F) ∧ Below W1.heap.size W1 wr2) (fun kv _ => l - (intOf kv).toNat)
      case atStart => exact ⟨0, Nat.zero_le _, rfl, fun k' h => absurd h (Nat.not_lt_zero _), Below.refl _ _⟩
      case round =>
        obtain ⟨k, hk, rfl, hall, bel⟩ := hrel
        have All := Lib.hid hall
        have Be1 := Lib.hid bel
        have Be2 : Hid (Below w.heap.size w wr) := Lib.hid (btr Bw1.out bel)
        have Bk2 := Lib.hid (Bk1.out.below bel Bk1.out.lt)
        have c0 : wr.cell? ⟨bx, 0, none⟩ = some (.int .i64 (F : Nat)) := Bk2.out.cell 0
        have Rh : Hid (bl.getD i [] = y) := Ey
        clear hall bel
        by_cases hlt2 : k < l
        · have ri2 := (HA.out.up Be2.out).rows i hlt
          have len2 := (HA.out.up Be2.out).lens i hlt
          obtain ⟨bq, oq, eq, hbq, hcq⟩ := ri2 (by rw [Ey.out, Ly.out]; omega)
          obtain ⟨b6, o6, A6, l6, c6, y6, eA6, hb6, ev6, ey6, x6, ri6, ly6, hlc6⟩ := (HA.out.up Be2.out).at_ hlt
          have zk := hcq k (by rw [Ey.out, Ly.out]; exact hlt2)
          rw [Ey.out] at zk
          have e1 := hP.out.ent hi2 (k := k) (by rw [Ey.out, Ly.out]; exact hlt2)
          rw [Ey.out] at e1
          obtain ⟨Z, eZ⟩ : ∃ Z : Nat, y.getD k 0 = (Z : Int) := ⟨(y.getD k 0).toNat, by omega⟩
          rw [eZ] at zk e1
          have hZ : Z < N := by omega
          have EZ := Lib.hid eZ
          obtain ⟨bg2, og2, eg2, hbg2, hcg2⟩ := (HG.out.up Be2.out) (by rw [hg.out.2]; omega)
          injection eg2 with eg2; injection eg2 with eg3 eg4
          subst eg3 eg4
          have yk := hcg2 Z (by rw [hg.out.2]; exact hZ)
          rw [nx_val hg.out.1 (by rw [hg.out.2]; exact hZ)] at yk
          obtain ⟨V, eV⟩ : ∃ V, nx g Z = V := ⟨_, rfl⟩
          have hV : V < N := by rw [← eV]; exact hg.out.lt hZ
          rw [eV] at yk
          have EV := Lib.hid eV
          obtain ⟨R, eR⟩ : ∃ R, rt f V = R := ⟨_, rfl⟩
          have ER := Lib.hid eR
          have qZ : (Z : Int) < N := by omega
          have KQ : Hid (∀ q, Calls Try.prog 90 #[.map (some b), .int .i64 (V : Nat)] (wr.drewN q) fun e w' => e = .returned (.int .i64 (R : Nat)) ∧ w' = wr.drewN q) := Lib.hid fun q => by
            refine (ufSmallest b N V f D (wr.drewN q) ((H.out.up Be2.out).drewN q) hV hN20).mono ?_
            rintro e w' ⟨rfl, rfl⟩
            exact ⟨by rw [ER.out], rfl⟩
          have Rz : Hid (bq = bz ∧ oq = oz) := Lib.hid (by
            have h9 := KA9.out wr Be2.out
            rw [eq] at h9
            injection h9 with h9; injection h9 with h10 h11
            exact ⟨h10, h11⟩)
          obtain ⟨e10, e11⟩ := Rz.out
          subst e10 e11
          clear ri2 len2 eq hcq e1 eZ hcg2 eV eR hbq hbg2 eA6 hb6 ev6 ey6 x6 ri6 ly6 hlc6 Rz
          by_cases hRF : R = F
          · have d3 : ((R : Int) != (F : Int)) = false := by rw [hRF]; simp
            have All2 : Hid (∀ k', k' < k + 1 → rt f (nx g (y.getD k' 0).toNat) = F) := Lib.hid fun k' hk' => by
              by_cases e : k' = k
              · subst e; rw [EZ.out, Int.toNat_natCast, EV.out, ER.out, hRF]
              · exact All.out k' (by omega)
            clear hRF
            go_wp2_with fail
            go_quiet ((go_at_call 90; exact Calls.quiet_of_same (KQ.out _)))
            have Be3 : Hid (∀ q, Below W1.heap.size W1 (wr.drewN q)) := Lib.hid fun q => below_drewN Be1.out q
            go_wp2_with fail
            go_roundw
            case rel => exact ⟨k + 1, by omega, by go_num, All2.out, Be3.out _⟩
            case measure => simp [intOf]; omega
          · have d3 : ((R : Int) != (F : Int)) = true := by rw [bne_iff_ne]; omega
            have No : Hid (¬ Rsp N bl g) := Lib.hid fun hr => hRF (by
              have := rsp_to hP.out hg.out h1.out hr hi2 (k := k) (by rw [Ey.out, Ly.out]; exact hlt2)
              rw [Ey.out, EZ.out, EX.out, Int.toNat_natCast, Int.toNat_natCast, EV.out, EY.out, ER.out, EF.out] at this
              exact this)
            clear hRF
            go_wp2_with fail
            go_quiet ((go_at_call 90; exact Calls.quiet_of_same (KQ.out _)))
            have Be3 : Hid (∀ q, Below w.heap.size w (wr.drewN q)) := Lib.hid fun q => below_drewN Be2.out q
            go_wp2_with fail
            go_ret2
            exact ⟨_, _, _, [], false, rfl, Slc.nil_, .inr ⟨rfl, No.out, rfl⟩, Be3.out _⟩
        · obtain rfl : k = l := by omega
          have Dn2 : Hid (∀ j, j < i + 1 → ∀ k, k < (bl.getD j []).length → rt f (nx g ((bl.getD j []).getD k 0).toNat) = rt f (nx g ((bl.getD j []).getD 0 0).toNat)) := Lib.hid fun j hj k' hk' => by
            by_cases e : j = i
            · subst e
              rw [Ey.out] at hk' ⊢
              rw [All.out k' (by rw [← Ly.out]; exact hk'), All.out 0 hl0]
            · exact Dn.out j (by omega) k' hk'
          have hYl : bi bl Y < n := by rw [← hln.out]; exact hP.out.bi_lt hY
          obtain ⟨K, eK⟩ : ∃ K, bi bl Y = K := ⟨_, rfl⟩
          rw [eK] at hYl
          have h11 : Hid ((bl.getD K []).getD 0 0 = (F : Int)) := Lib.hid (by rw [← eK, ← Hd.out Y hY, EF.out])
          have h12 : Hid (∀ j, j < K → (bl.getD j []).getD 0 0 ≠ (F : Int)) := Lib.hid fun j hj e => by
            have := hP.out.hd_lt K hj (by rw [hln.out]; exact hYl)
            rw [e, h11.out] at this
            omega
          have Tk : Hid ((actL bl g).take (i + 1) = (actL bl g).take i ++ [(K : Int)]) := Lib.hid (by rw [actL_take hi2, Ey.out, EX.out, Int.toNat_natCast, EY.out, eK])
          have Ss2 := Lib.hid (Ss1.out.up Be1.out)
          clear eK c0
          go_wp2_with (go_at_call 91; fail)
          refine (idxHead bx n c K F _ vs bl wr (HA.out.up Be2.out) Bk2.out (by omega) hYl Hne h11 h12).mono ?_
          rintro e w5 ⟨rfl, b5'⟩
          have B5 : Hid (Below w.heap.size w w5) := Lib.hid (btr Be2.out b5')
          have Ss5 := Lib.hid (Ss2.out.up b5')
          have hz5 := B5.out.size
          clear b5'
          go_wp2_with (first | (at_builtin; refine wpList_app1 rfl _ _ rfl w.heap.size I i ci _ rfl (Ss5.out.alloc _) w5.heap.size K rfl (by rw [World.cell?_alloc_at _ _ _ _ rfl]; rfl) (by omega) (by simp; omega) ?_; intro A6 c6 w6 s6 g6))
          have S6 : Hid (Slc w6 w.heap.size A6 (i + 1) c6 ((actL bl g).take (i + 1))) := Lib.hid (by rw [Tk.out]; exact s6)
          have B6 : Hid (Below w.heap.size w w6) := Lib.hid ((B5.out.alloc hz5 _).grown g6 (by simp; omega) (fun j hj => (Ss5.out.lt_ j hj).1))
          clear s6 g6
          go_wp2_with fail
          go_roundw
          case rel => exact ⟨i + 1, c6, A6, by omega, by go_num, rfl, S6.out, Dn2.out, B6.out⟩
          case measure => simp [intOf]; omega
    · obtain rfl : i = n := by omega
      have Rs : Hid (Rsp N bl g) := Lib.hid (rsp_of hP.out hg.out h1.out h2.out fun j hj => Dn.out j (by rw [← hln.out]; exact hj))
      have St : Hid (Slc wr w.heap.size I i ci (actL bl g)) := Lib.hid (by
        have := Ss.out
        rwa [List.take_of_length_le (by rw [actL_len, hln.out]; exact Nat.le_refl _)] at this)
      go_wp2_with fail
      go_ret2
      exact ⟨_, _, _, _, true, rfl, St.out, .inl ⟨rfl, Rs.out, rfl⟩, Be.out⟩
end Go.Proofs.Ytedfcljikgmpgaa

/- IsBlockSystem, BlockAction and the orders of the model. Conditions: at most 1048576 lists of at most 1048576 numbers. -/
namespace Go.Proofs.Ytedfcljikgmpgaa
open Go.RowKit

theorem grown_undrewB {a b : World} {row : Option Nat} (h : a.drew.grownBy b row) : a.grownBy b row := ⟨h.os, h.tape, h.output, h.size, h.block⟩
set_option maxHeartbeats 4000000 in
set_option maxRecDepth 100000 in
/-- IsBlockSystem. -/
theorem ctBsy : CtImmB 14 IsBsy := by
  intro a A n c vs xss M m cm us yss w g s ha
  have S := Lib.hid s
  have HX := Lib.hid g.rr
  have HY := Lib.hid s.rr
  have hlx : Hid (xss.length = n) := Lib.hid g.rr.lx
  have hn := g.hn
  have hl := Lib.hid g.hl
  clear g s
  go_enter Try.func14, Try.ntmps14
  rcases hs : gB a xss with _ | _
  · have Fin : Hid (IsBsy a xss yss false) := Lib.hid ⟨fun e => (by cases e), fun h => (by have := h.1; rw [hs] at this; cases this)⟩
    have Hs := Lib.hid hs
    clear hs
    go_wp2_with (first
      | (go_at_call 39; refine (specGS a A n c vs xss w HX.out hn hl ha).mono ?_; rintro e w1 ⟨rfl, b1⟩; rw [Hs.out]; have B1 := Lib.hid b1; clear b1))
    go_ret
    exact ⟨_, rfl, Fin.out, B1.out⟩
  · obtain ⟨N, rfl, hN1, hN2, hg8, hpm, hok⟩ := gB_pm hs
    have Hs := Lib.hid hs
    have Ok : Hid (∀ g ∈ xss, Pn N g) := Lib.hid hok
    have hn8 : n ≤ 8 := by rw [← hlx.out]; exact hg8
    clear hs hpm hok
    go_wp2_with (first
      | (go_at_call 39; refine (specGS N A n c vs xss w HX.out hn hl ha).mono ?_; rintro e w1 ⟨rfl, b1⟩; rw [Hs.out]; have B1 := Lib.hid b1; clear b1)
      | (go_at_call 46; fail))
    refine (specPart N m cm M us yss w1 (S.out.up B1.out) hN1 hN2).mono ?_
    rintro e w2 ⟨ans, rfl, hans, b2⟩
    have B2 : Hid (Below w.heap.size w w2) := Lib.hid (btr B1.out b2)
    clear b2
    rcases ans with _ | _
    · have Fin : Hid (IsBsy N xss yss false) := Lib.hid ⟨fun e => (by cases e), fun h => (by have := hans.2 ⟨by omega, h.2.1⟩; cases this)⟩
      clear hans
      go_wp2_with fail
      go_ret
      exact ⟨_, rfl, Fin.out, B2.out⟩
    · have HP : Hid (Prt N yss) := Lib.hid (by have := (hans.1 rfl).2; rwa [Int.toNat_natCast] at this)
      clear hans
      go_wp2_with fail
      refine (specBix N m cm M us yss w2 (HY.out.up B2.out) HP hN1 hN2).mono ?_
      rintro e w3 ⟨X, cx, rfl, s3, b3⟩
      have S3 := Lib.hid s3
      have B3 : Hid (Below w.heap.size w w3) := Lib.hid (btr B2.out b3)
      clear s3 b3
      go_wp2_with fail
      go_loopw [8] (fun iv wr => ∃ i : Nat, i ≤ n ∧ iv = .int .i64 (i : Nat) ∧ (∀ j, j < i → Rsp N yss (xss.getD j [])) ∧ Below w3.heap.size w3 wr) (fun iv _ => n - (intOf iv).toNat)
      case atStart => exact ⟨0, Nat.zero_le _, rfl, fun j h => absurd h (Nat.not_lt_zero _), Below.refl _ _⟩
      case round =>
        obtain ⟨i, hi, rfl, hrs, bel⟩ := hrel
        have Rs := Lib.hid hrs
        have Be := Lib.hid bel
        have Bw : Hid (Below w.heap.size w wr) := Lib.hid (btr B3.out bel)
        have X5 := Lib.hid (S3.out.up bel)
        clear hrs bel
        by_cases hlt : i < n
        · obtain ⟨b5, o5, A5, l, c5, y, rfl, hb5, ev, ey, x1, ri, ly, hlc⟩ := (HX.out.up Bw.out).at_ hlt
          have hyP := Ok.out y (by rw [← ey]; exact getD_memL (by rw [hlx.out]; exact hlt))
          obtain rfl : l = N := by have := hyP.2; omega
          have Ri := Lib.hid ri
          have Ey := Lib.hid ey
          have Yp : Hid (Pn l y) := Lib.hid hyP
          have hmem : Hid (y ∈ xss) := Lib.hid (by rw [← ey]; exact getD_memL (by rw [hlx.out]; exact hlt))
          have q0 : (0 : Int) ≤ i := by omega
          have q1 : (i : Int) < n := by omega
          obtain ⟨r1, hr1⟩ := bool_ofP (Rsp l yss y)
          have Hr1 := Lib.hid hr1
          clear ev ey ri ly hyP hr1
          rcases r1 with _ | _
          · have Fin : Hid (IsBsy l xss yss false) := Lib.hid ⟨fun e => (by cases e), fun h => (by
              have := h.2.2 y hmem.out
              rw [Int.toNat_natCast] at this
              have := Hr1.out.2 this
              cases this)⟩
            go_wp2_with (go_at_call 48; fail)
            refine (specResp l m cm c5 cx A5 M X us yss y wr Ri.out Yp (HY.out.up Bw.out) HP X5.out.ri_ false Hr1).mono ?_
            rintro e w4 ⟨rfl, b4⟩
            have B4 : Hid (Below w.heap.size w w4) := Lib.hid (btr Bw.out b4)
            clear b4
            go_wp2_with fail
            go_ret
            exact ⟨_, rfl, Fin.out, B4.out⟩
          · have hr2 : Rsp l yss (iv y) := (Hr1.out.1 rfl).inv Yp.out hN1 hN2
            have Hr2 : Hid (Rsp l yss (iv y)) := Lib.hid hr2
            have Hr3 : Hid (Rsp l yss y) := Lib.hid (Hr1.out.1 rfl)
            have Rs6 : Hid (∀ j, j < i + 1 → Rsp l yss (xss.getD j [])) := Lib.hid fun j hj => by
              by_cases e : j = i
              · subst e; rw [Ey.out]; exact Hr1.out.1 rfl
              · exact Rs.out j (by omega)
            clear hr2
            go_wp2_with (go_at_call 48; fail)
            refine (specResp l m cm c5 cx A5 M X us yss y wr Ri.out Yp (HY.out.up Bw.out) HP X5.out.ri_ true (Lib.hid ⟨fun _ => Hr3.out, fun _ => rfl⟩)).mono ?_
            rintro e w4 ⟨rfl, b4⟩
            have B4 : Hid (Below w3.heap.size w3 w4) := Lib.hid (btr Be.out b4)
            have B4w : Hid (Below w.heap.size w w4) := Lib.hid (btr Bw.out b4)
            have Ri4 := Lib.hid (Ri.out.up b4)
            have x2 := (b4.cell (p := ⟨b5, o5 + i, none⟩) (by have := Bw.out.size; omega)).trans x1
            clear b4 x1
            go_wp2_with (go_at_call 49; fail)
            refine (specInv A5 c5 l y w4 Ri4.out (Lib.hid Yp.out.2) (Lib.hid Yp.out.1) hN2).mono ?_
            rintro e w5 ⟨A7, c7, rfl, s7, b7⟩
            have S7 : Hid (Slc w5 w4.heap.size A7 l c7 (iv y)) := Lib.hid (by unfold iv; rw [Yp.out.2]; exact s7)
            have B7 : Hid (Below w3.heap.size w3 w5) := Lib.hid (btr B4.out b7)
            have B7w : Hid (Below w.heap.size w w5) := Lib.hid (btr B4w.out b7)
            have X7 := Lib.hid ((S3.out.up B4.out).up b7)
            clear s7 b7
            go_wp2_with (go_at_call 48; fail)
            refine (specResp l m cm c7 cx A7 M X us yss (iv y) w5 S7.out.ri_ (Lib.hid Yp.out.iv) (HY.out.up B7w.out) HP X7.out.ri_ true (Lib.hid ⟨fun _ => Hr2.out, fun _ => rfl⟩)).mono ?_
            rintro e w6 ⟨rfl, b6⟩
            have B6 : Hid (Below w3.heap.size w3 w6) := Lib.hid (btr B7.out b6)
            clear b6
            go_wp2_with fail
            go_roundw
            case rel => exact ⟨i + 1, by omega, by go_num, Rs6.out, B6.out⟩
            case measure => simp [intOf]; omega
        · obtain rfl : i = n := by omega
          have Fin : Hid (IsBsy N xss yss true) := Lib.hid ⟨fun _ => ⟨Hs.out, by rw [Int.toNat_natCast]; exact HP.out, fun g hg => by
            rw [Int.toNat_natCast]
            obtain ⟨j, hj, e⟩ := List.mem_iff_getElem.1 hg
            have := Rs.out j (by rw [← hlx.out]; exact hj)
            rw [getD_L hj, e] at this
            exact this⟩, fun _ => rfl⟩
          go_wp2_with fail
          go_ret
          exact ⟨_, rfl, Fin.out, Bw.out⟩

set_option maxHeartbeats 4000000 in
set_option maxRecDepth 100000 in
/-- BlockAction. -/
theorem ctAct : CtImmMB 18 IsAct := by
  intro a A n c vs xss M m cm us yss w g s ha
  have G := Lib.hid g
  have S := Lib.hid s
  have HX := Lib.hid g.rr
  have HY := Lib.hid s.rr
  have hlx : Hid (xss.length = n) := Lib.hid g.rr.lx
  have hly : Hid (yss.length = m) := Lib.hid s.rr.lx
  clear g s
  have B0 : Hid (Below w.heap.size w (w.alloc (.cells #[] 48))) := Lib.hid ((Below.refl _ _).alloc (Nat.le_refl _) _)
  have S0 : Hid (SS (w.alloc (.cells #[] 48)) w.heap.size w.heap.size (some ⟨w.heap.size, 0, none⟩) 0 0 [] []) := Lib.hid (SS.lit0 w _ _ (Nat.le_refl _))
  go_enter Try.func18, Try.ntmps18
  go_wp2_with (go_at_call 14; fail)
  refine (ctBsy a A n c vs xss M m cm us yss _ (G.out.up B0.out) (S.out.up B0.out) ha).mono ?_
  rintro e w1 ⟨ok, rfl, hok, b1⟩
  have B1 : Hid (Below w.heap.size w w1) := Lib.hid (btr B0.out b1)
  have S1 := Lib.hid (S0.out.up b1)
  clear b1 S0 B0
  rcases ok with _ | _
  · have Fin : Hid (IsAct a xss yss [] false) := Lib.hid (.inr ⟨fun h => (by have := hok.2 h; cases this), rfl, rfl⟩)
    clear hok
    go_wp2_with fail
    go_ret2
    exact ⟨_, _, _, _, _, _, rfl, S1.out, Fin.out, B1.out⟩
  · have HB := Lib.hid (hok.1 rfl)
    obtain ⟨N, rfl, hN1, hN2, hg8, hpm, hokk⟩ := gB_pm HB.out.1
    have Ok : Hid (∀ g ∈ xss, Pn N g) := Lib.hid hokk
    have HP : Hid (Prt N yss) := Lib.hid (by have := HB.out.2.1; rwa [Int.toNat_natCast] at this)
    have hn8 : n ≤ 8 := by rw [← hlx.out]; exact hg8
    have hm20 : m ≤ 20 := by have := HP.out.len_le; rw [hly.out] at this; omega
    clear hok hpm hokk
    go_wp2_with fail
    refine (specBix N m cm M us yss w1 (HY.out.up B1.out) HP hN1 hN2).mono ?_
    rintro e w3 ⟨X, cx, rfl, s3, b3⟩
    have X3 := Lib.hid s3
    have S3 := Lib.hid (S1.out.up b3)
    have B3 : Hid (Below w.heap.size w w3) := Lib.hid (btr B1.out b3)
    generalize w.alloc (.cells #[] 48) = W0 at *
    clear s3 b3 S1
    go_wp2_with fail
    go_loopw [8, 10] (fun v iv wr => ∃ (i c' : Nat) (A' : Option Addr) (us' : List SV), i ≤ n ∧ iv = .int .i64 (i : Nat) ∧ v = .slice A' i c' ∧ SS wr w.heap.size w.heap.size A' i c' us' ((xss.map (actL yss)).take i) ∧ Slc wr w1.heap.size X N cx (ixL N yss) ∧ Below w.heap.size w wr) (fun _ iv _ => n - (intOf iv).toNat)
    case atStart => exact ⟨0, _, _, [], Nat.zero_le _, rfl, rfl, by rw [List.take_zero]; exact S3.out, X3.out, B3.out⟩
    case round =>
      clear S3 X3 B3
      obtain ⟨i, c', A', us', hi, rfl, rfl, hss, hix, bel⟩ := hrel
      have Ss := Lib.hid hss
      have Ix := Lib.hid hix
      have Be := Lib.hid bel
      have hz := bel.size
      clear hss hix bel
      by_cases hlt : i < n
      · obtain ⟨y, ey⟩ : ∃ y, xss.getD i [] = y := ⟨_, rfl⟩
        have hyP := Ok.out y (by rw [← ey]; exact getD_memL (by rw [hlx.out]; exact hlt))
        have Yp : Hid (Pn N y) := Lib.hid hyP
        have Tk : Hid ((xss.map (actL yss)).take (i + 1) = (xss.map (actL yss)).take i ++ [actL yss y]) := Lib.hid (by rw [getD_mapL (by rw [hlx.out]; exact hlt), ey])
        have KX : Hid (∀ W : World, Below w.heap.size w W → ∃ b5 o5 A5 c5, A = some ⟨b5, o5, none⟩ ∧ W.cell? ⟨b5, o5 + i, none⟩ = some (.slice A5 N c5) ∧ RI W w.heap.size A5 y) := Lib.hid fun W hW => by
          obtain ⟨b', o', A', l', c', y', e', hb', ev', ey', x', r', ly', _⟩ := (HX.out.below hW (Nat.le_refl _)).at_ hlt
          rw [ey] at ey'
          subst ey'
          obtain rfl : l' = N := by have := hyP.2; omega
          exact ⟨b', o', A', c', e', x', r'⟩
        have q0 : (0 : Int) ≤ i := by omega
        have q1 : (i : Int) < n := by omega
        have P0 : Hid (Slc (wr.alloc (.cells #[] 2)) wr.heap.size (some ⟨wr.heap.size, 0, none⟩) 0 0 []) := Lib.hid (Slc.lit0 wr _ (Nat.le_refl _))
        have Bp : Hid (Below wr.heap.size wr (wr.alloc (.cells #[] 2))) := Lib.hid ((Below.refl _ _).alloc (Nat.le_refl _) _)
        have Kr : Hid (∀ W : World, Below wr.heap.size wr W → SS W w.heap.size w.heap.size A' i c' us' ((xss.map (actL yss)).take i) ∧ Slc W w1.heap.size X N cx (ixL N yss) ∧ Below w.heap.size w W) := Lib.hid fun W hW => ⟨Ss.out.up hW, Ix.out.up hW, btr Be.out hW⟩
        have D0 : Hid (∀ (P : Option Addr) (k cc lo hi : Nat), Lies P k cc lo hi → wr.heap.size ≤ lo → ∀ t, t < i → (sval (us'.getD t sd0)).ownBlock = none ∨ (sval (us'.getD t sd0)).ownBlock ≠ (Value.slice P k cc).ownBlock) := Lib.hid fun P k cc lo hi l hlo => lies_dis Ss.out l hlo
        obtain ⟨W1, hW1⟩ : ∃ W1, wr = W1 := ⟨_, rfl⟩
        have HW1 := Lib.hid hW1
        clear ey hyP Ss Ix
        go_wp2_with fail
        go_loopw [11, 12] (fun v kv wr2 => ∃ (k c2 : Nat) (P : Option Addr), k ≤ m ∧ kv = .int .i64 (k : Nat) ∧ v = .slice P k c2 ∧ Slc wr2 W1.heap.size P k c2 ((actL yss y).take k) ∧ Below W1.heap.size W1 wr2) (fun _ kv _ => m - (intOf kv).toNat)
        case atStart => exact ⟨0, 0, _, Nat.zero_le _, rfl, rfl, by rw [List.take_zero, ← HW1.out]; exact P0.out, by rw [← HW1.out]; exact Bp.out⟩
        case round =>
          rw [HW1.out] at Kr D0 hz
          clear P0 Bp Be hW1 HW1
          obtain ⟨k, c2, P, hk, rfl, rfl, hs, bel⟩ := hrel
          have Sp := Lib.hid hs
          have Bp := Lib.hid bel
          obtain ⟨hss, hix, hbw⟩ := Kr.out _ bel
          have Ss := Lib.hid hss
          have Ix := Lib.hid hix
          have Bw := Lib.hid hbw
          have hzp := bel.size
          clear hs bel hss hix hbw
          by_cases hlt2 : k < m
          · have hk2 : k < yss.length := by rw [hly.out]; exact hlt2
            obtain ⟨b6, o6, A6, l6, c6, z, rfl, hb6, ev6, ez, x6, ri6, lz, hlc6⟩ := (HY.out.below Bw.out (Nat.le_refl _)).at_ hlt2
            have hl0 : 0 < l6 := by rw [← lz]; have := (HP.out.1 k hk2).1; rw [ez] at this; exact List.length_pos_iff.2 this
            obtain ⟨bz, oz, rfl, hbz, hc⟩ := ri6 (by rw [lz]; exact hl0)
            have z0 := hc 0 (by rw [lz]; exact hl0)
            have e0 := HP.out.ent hk2 (k := 0) (by rw [ez, lz]; exact hl0)
            rw [ez] at e0
            obtain ⟨Z, eZ⟩ : ∃ Z : Nat, z.getD 0 0 = (Z : Int) := ⟨(z.getD 0 0).toNat, by omega⟩
            rw [eZ] at e0
            rw [eZ, Nat.add_zero] at z0
            have hZ : Z < N := by omega
            obtain ⟨b5, o5, A5, c5, rfl, x5, r5⟩ := KX.out _ Bw.out
            obtain ⟨bg, og, rfl, hbg, hcg⟩ := r5 (by rw [Yp.out.2]; omega)
            have yk := hcg Z (by rw [Yp.out.2]; exact hZ)
            rw [nx_val Yp.out.1 (by rw [Yp.out.2]; exact hZ)] at yk
            obtain ⟨V, eV⟩ : ∃ V, nx y Z = V := ⟨_, rfl⟩
            have hV : V < N := by rw [← eV]; exact Yp.out.lt hZ
            rw [eV] at yk
            obtain ⟨bx, ox, rfl, hbx, hcx⟩ := Ix.out.ri_ (by rw [ixL_len]; omega)
            have xv := hcx V (by rw [ixL_len]; exact hV)
            rw [ixL_getD hV] at xv
            obtain ⟨I, eI⟩ : ∃ I, bi yss V = I := ⟨_, rfl⟩
            rw [eI] at xv
            have Tk2 : Hid ((actL yss y).take (k + 1) = (actL yss y).take k ++ [(I : Int)]) := Lib.hid (by rw [actL_take hk2, ez, eZ, Int.toNat_natCast, eV, eI])
            have qZ : (Z : Int) < N := by omega
            have qV : (V : Int) < N := by omega
            have k0 : (0 : Int) ≤ k := by omega
            have k1 : (k : Int) < m := by omega
            have ql0 : (0 : Int) < l6 := by omega
            clear hc e0 eZ hcg eV hcx eI ev6 ez ri6 lz hb6 hbz hbg hbx r5
            go_wp2_with fail
            go_region_law (refine step_appN rfl (.tmp 36) (.tmp 52) rfl W1.heap.size P k c2 ((actL yss y).take k) ?_ (Sp.out.alloc (.cells #[.int .i64 (I : Int)] 2)) wr.heap.size 0 1 1 [(I : Int)] ?_ (litRI wr _) rfl ?_ ?_ (k + 1) rfl ?_; (simp [Act.eval, Act.put]); (simp [Act.eval, Act.put]); (omega); (simp; omega); (intro A3 c3 w3' s3 g3))
            all_goals
              have S3 : Hid (Slc w3' W1.heap.size A3 (k + 1) c3 ((actL yss y).take (k + 1))) := Lib.hid (by rw [Tk2.out]; exact s3)
              have B3 : Hid (Below W1.heap.size W1 w3') := Lib.hid ((Bp.out.alloc hzp _).grown (grown_undrewB g3) (by simp; omega) (fun j hj => (Sp.out.lt_ j hj).1))
              clear s3 g3
              go_wp2_with fail
              go_roundw
              case rel => exact ⟨k + 1, c3, A3, by omega, by go_num, rfl, S3.out, B3.out⟩
              case measure => simp [intOf]; omega
          · obtain rfl : k = m := by omega
            have Sf : Hid (Slc wr W1.heap.size P k c2 (actL yss y)) := Lib.hid (by
              have := Sp.out
              rwa [List.take_of_length_le (by rw [actL_len, hly.out]; exact Nat.le_refl _)] at this)
            have D6 := Lib.hid (D0.out P k c2 _ _ Sf.out.lies (Nat.le_refl _))
            have hzw := Bw.out.size
            go_wp2_with (at_builtin; go_must (refine wpList_app2_at rfl _ _ rfl rfl (Ss.out.alloc _) wr.heap.size P k c2 (actL yss y) rfl (by rw [World.cell?_alloc_at _ _ _ _ rfl]; rfl) ((Sf.out.mono hz).alloc _) D6.out (by omega) (by simp; omega) ?_); intro A9 c9 w9 s9 g9 h9)
            have S9 : Hid (SS w9 w.heap.size w.heap.size A9 (i + 1) c9 (us' ++ [(P, k, c2)]) ((xss.map (actL yss)).take (i + 1))) := Lib.hid (by rw [Tk.out]; exact s9)
            have B9 : Hid (Below w.heap.size w w9) := Lib.hid ((Bw.out.alloc hzw _).grown g9 (by simp; omega) (fun q hq => (Ss.out.lt_ q hq).1))
            have I9 : Hid (Slc w9 w1.heap.size X N cx (ixL N yss)) := Lib.hid ((Ix.out.alloc _).kept g9 (apart_types Ix.out Ss.out.own))
            clear s9 g9 h9
            go_wp2_with fail
            go_roundw
            case rel => exact ⟨i + 1, c9, A9, _, by omega, by go_num, rfl, S9.out, I9.out, B9.out⟩
            case measure => simp [intOf]; omega
      · obtain rfl : i = n := by omega
        have Fin : Hid (IsAct N xss yss (xss.map (actL yss)) true) := Lib.hid (.inl ⟨HB.out, rfl, rfl⟩)
        have Sm : Hid (SS wr w.heap.size w.heap.size A' i c' us' (xss.map (actL yss))) := Lib.hid (by
          have h3 := Ss.out
          rwa [List.take_of_length_le (by rw [List.length_map, hlx.out]; exact Nat.le_refl _)] at h3)
        go_wp2_with fail
        go_ret2
        exact ⟨_, _, _, us', _, _, rfl, Sm.out, Fin.out, Be.out⟩
set_option maxHeartbeats 2000000 in
set_option maxRecDepth 100000 in
/-- BlockActionOrder. -/
theorem ctBao : CtImmI 33 IsBao := by
  intro a A n c vs xss M m cm us yss w g s ha
  have G := Lib.hid g
  have S := Lib.hid s
  have hly : Hid (yss.length = m) := Lib.hid s.rr.lx
  have hm := s.hn
  clear g s
  go_enter Try.func33, Try.ntmps33
  go_wp2_with fail
  refine (ctAct a A n c vs xss M m cm us yss w G.out S.out ha).mono ?_
  rintro e w1 ⟨A1, m1, c1, us1, l1, ok, rfl, s1, r1, b1⟩
  have B1 := Lib.hid b1
  rcases r1 with ⟨h, rfl, rfl⟩ | ⟨h, rfl, rfl⟩
  · have H := Lib.hid h
    have hb : (xss.map (actL yss)).length ≤ 20 ∧ ∀ y ∈ xss.map (actL yss), y.length ≤ 20 := IsAct.len (ok := true) (.inl ⟨h, rfl, rfl⟩)
    have G1 : Hid (GIn w1 A1 m1 us1 (xss.map (actL yss))) := Lib.hid ⟨s1.rr, by have := s1.lx; omega, fun i hi => by
      rw [← (s1.row i hi).1]
      have h1 := hb.2 _ (getD_memL (show i < (xss.map (actL yss)).length by rw [s1.lx]; exact hi))
      omega⟩
    have h64 : I64 (m : Int) := by unfold I64; omega
    clear s1 b1 hb h
    go_wp2_with fail
    refine (ctOrd m A1 m1 c1 us1 _ w1 G1.out h64).mono ?_
    rintro e w2 ⟨v, rfl, hv, b2⟩
    have Fin : Hid (IsBao a xss yss v) := Lib.hid (.inl ⟨H.out, by rw [hly.out]; exact hv⟩)
    have B2 : Hid (Below w.heap.size w w2) := Lib.hid (btr B1.out b2)
    clear hv b2
    go_wp2_with fail
    go_ret
    exact ⟨_, rfl, Fin.out, B2.out⟩
  · have Fin : Hid (IsBao a xss yss 0) := Lib.hid (.inr ⟨h, rfl⟩)
    clear s1 b1 h
    go_wp2_with fail
    go_ret
    exact ⟨_, rfl, Fin.out, B1.out⟩

set_option maxHeartbeats 2000000 in
set_option maxRecDepth 100000 in
/-- BlockKernelOrder. -/
theorem ctBko : CtImmI 35 IsBko := by
  intro a A n c vs xss M m cm us yss w g s ha
  have G := Lib.hid g
  have S := Lib.hid s
  clear g s
  go_enter Try.func35, Try.ntmps35
  go_wp2_with fail
  refine (ctBao a A n c vs xss M m cm us yss w G.out S.out ha).mono ?_
  rintro e w1 ⟨k, rfl, hk, b1⟩
  have B1 := Lib.hid b1
  have Hk := Lib.hid hk
  have hkb : 0 ≤ k ∧ k ≤ 2432902008176640000 := by
    rcases hk with ⟨_, h⟩ | ⟨_, rfl⟩
    · exact ord_bnd h
    · omega
  clear b1 hk
  by_cases h0 : k = 0
  · subst h0
    have Fin : Hid (IsBko a xss yss 0) := Lib.hid ⟨0, Hk.out, .inl ⟨rfl, rfl⟩⟩
    go_wp2_with fail
    go_ret
    exact ⟨_, rfl, Fin.out, B1.out⟩
  · have e2 : (k == 0) = false := by rw [beq_eq_false_iff_ne]; exact h0
    go_wp2_with fail
    refine (ctOrd a A n c vs xss w1 (G.out.up B1.out) ha).mono ?_
    rintro e w2 ⟨o, rfl, ho, b2⟩
    have ob := ord_bnd ho
    have B2 : Hid (Below w.heap.size w w2) := Lib.hid (btr B1.out b2)
    obtain ⟨v, ev⟩ : ∃ v, o.tdiv k = v := ⟨_, rfl⟩
    have Fin : Hid (IsBko a xss yss v) := Lib.hid ⟨k, Hk.out, .inr ⟨h0, o, ho, ev.symm⟩⟩
    have hvb : 0 ≤ v ∧ v ≤ 2432902008176640000 := by
      obtain ⟨K, rfl⟩ : ∃ K : Nat, k = (K : Int) := ⟨k.toNat, by omega⟩
      obtain ⟨O, rfl⟩ : ∃ O : Nat, o = (O : Int) := ⟨o.toNat, by omega⟩
      have e1 : (O : Int).tdiv (K : Int) = ((O / K : Nat) : Int) := (Int.ofNat_tdiv O K).symm
      have := Nat.div_le_self O K
      rw [← ev, e1]
      generalize O / K = q at this ⊢
      omega
    clear ho b2
    go_wp2_with fail
    go_ret
    exact ⟨_, rfl, Fin.out, B2.out⟩
end Go.Proofs.Ytedfcljikgmpgaa

/- The size of a slice of slices against whatever is left. No condition. -/
namespace Go.Proofs.Ytedfcljikgmpgaa
open Go.RowKit

set_option maxHeartbeats 1000000 in
theorem szSS2 (A : Option Addr) (n c : Nat) (left : Int) (vs : List SV) (xss : List (List Int)) (w : World) (hx : RR w w.heap.size A n vs xss) (hn : n ≤ maxLen) (hl : Hid (∀ i, i < n → (vs.getD i sd0).2.1 ≤ maxLen)) (h0 : 0 ≤ left) (h1 : left ≤ 1048576) :
    Calls Try.prog 13 #[.slice A n c, .int .i64 left] w fun e w' => e = .returned (.int .i64 (if ((n + tot vs n : Nat) : Int) ≤ left then left - ((n + tot vs n : Nat) : Int) else -1)) ∧ w = w' := by
  have HX := Lib.hid hx
  clear hx
  have hn' := hn
  unfold maxLen at hn'
  obtain ⟨r, er⟩ : ∃ r : Int, (if ((n + tot vs n : Nat) : Int) ≤ left then left - ((n + tot vs n : Nat) : Int) else -1) = r := ⟨_, rfl⟩
  rw [er]
  have Er := Lib.hid er
  clear er
  by_cases h : (n : Int) ≤ left
  · have d : decide (left - (n : Int) < 0) = false := by simp; omega
    have hwl : IntKind.i64.wrap (left - (n : Int)) = left - (n : Int) := by rw [IntKind.wrap_i64]; omega
    go_enter Try.func13, Try.ntmps13
    go_wp2
    go_loop [1, 5] (fun v i => ∃ (k T : Nat), k ≤ n ∧ Hid (tot vs k = T) ∧ ((n + T : Nat) : Int) ≤ left ∧ i = .int .i64 (k : Nat) ∧ v = .int .i64 (left - ((n + T : Nat) : Int))) (fun _ i => n - (intOf i).toNat)
    case atStart => exact ⟨0, 0, Nat.zero_le _, Lib.hid rfl, by omega, rfl, by go_num⟩
    case round =>
      obtain ⟨k, T, hk, hT, hT1, rfl, rfl⟩ := hrel
      clear hwl
      by_cases hlt : k < n
      · obtain ⟨b, off, A5, l, c5, y, rfl, hb, ev, ey, hc, hr, hy, hlc⟩ := HX.out.at_ hlt
        have hl1 := hl.out k hlt
        have hT2 : Hid (tot vs (k + 1) = T + l) := Lib.hid (by rw [tot_succ, hT.out, ev])
        have hm : Hid (tot vs (k + 1) ≤ tot vs n) := Lib.hid (tot_mono hlt)
        rw [ev] at hl1
        clear ev ey hr
        by_cases hfit : ((n + T + l : Nat) : Int) ≤ left
        · have d2 : decide (left - ((n + T : Nat) : Int) - (l : Int) < 0) = false := by simp; omega
          go_wp2_with fail
          refine (szS A5 l c5 _ w (by omega) (by omega) hl1).mono ?_
          rintro e w1 ⟨rfl, rfl⟩
          rw [if_pos (by omega)]
          go_wp2
          go_round
          case rel => exact ⟨k + 1, T + l, by omega, hT2, by omega, by go_num, by go_num⟩
          case measure => simp [intOf]; omega
        · go_wp2_with fail
          refine (szS A5 l c5 _ w (by omega) (by omega) hl1).mono ?_
          rintro e w1 ⟨rfl, rfl⟩
          rw [if_neg (by omega)]
          go_wp2
          go_ret
          exact ⟨by rw [← Er.out, if_neg (by have := hm.out; rw [hT2.out] at this; omega)]; rfl, rfl⟩
      · have hkn : k = n := by omega
        subst hkn
        go_wp2
        go_ret
        exact ⟨by rw [← Er.out, hT.out, if_pos hT1]; go_num, rfl⟩
  · have d : decide (left - (n : Int) < 0) = true := by simp; omega
    have er2 : r = -1 := by rw [← Er.out, if_neg (by omega)]
    have hwl : IntKind.i64.wrap (left - (n : Int)) = left - (n : Int) := by rw [IntKind.wrap_i64]; omega
    subst er2
    go_enter Try.func13, Try.ntmps13
    go_wp2
    go_ret
    exact ⟨rfl, rfl⟩
end Go.Proofs.Ytedfcljikgmpgaa

/- markInt64SS from a later mark on: for laws over two slices of slices. Condition: at most 1048576 entries. -/
namespace Go.Proofs.Ytedfcljikgmpgaa
open Go.RowKit

set_option maxHeartbeats 800000 in
/-- markInt64SS, from a later mark on. -/
theorem markSSk (S : Nat) (A : Option Addr) (n c bo bi : Nat) (vs : List SV) (xss : List (List Int)) (w : World) (hx : SS w bo bi A n c vs xss) (hn : n ≤ 1048576) (hlen : Hid (tot vs n ≤ 1048576)) (hS : S ≤ 1048576) :
    Calls Try.prog 20 #[.slice A n c, .int .i64 (1 + (S : Int))] w fun e w' => ∃ X, X ≤ 2097152 ∧ Hid (S + tot vs n = X) ∧ e = .returned (.int .i64 (1 + (X : Int))) ∧ SS w' bo bi A n c vs (marks2 vs (1 + S) n) ∧ OnlyIn w w' vs n := by
  have HX := Lib.hid hx
  clear hx
  go_enter Try.func20, Try.ntmps20
  go_wp2
  go_loopw [1, 5] (fun v i wr => ∃ (k T : Nat) (zss : List (List Int)), k ≤ n ∧ Hid (S + tot vs k = T) ∧ i = .int .i64 (k : Nat) ∧ v = .int .i64 (1 + (T : Int)) ∧ SS wr bo bi A n c vs zss ∧ (∀ t, t < k → zss.getD t [] = marks (1 + S + tot vs t) (vs.getD t sd0).2.1) ∧ OnlyIn w wr vs n) (fun _ i _ => n - (intOf i).toNat)
  case atStart => exact ⟨0, S, _, Nat.zero_le _, Lib.hid rfl, rfl, rfl, HX.out, fun j h => absurd h (by omega), OnlyIn.refl _ _ _⟩
  case round =>
    obtain ⟨k, T, zss, hk, hT, rfl, rfl, ss, hz, oi⟩ := hrel
    have Ss := Lib.hid ss
    have Hz := Lib.hid hz
    have Oi := Lib.hid oi
    have hT1 : T ≤ 2097152 := by have := tot_mono (vs := vs) hk; have := hT.out; have := hlen.out; omega
    clear ss hz oi
    by_cases hlt : k < n
    · obtain ⟨g, rfl, _, _, hc⟩ := Ss.out.at_ (by omega)
      have c1 := hc k hlt
      have r1 := Ss.out.row k hlt
      have hl : (vs.getD k sd0).2.1 ≤ 1048576 := Nat.le_trans (tot_row hlt) hlen.out
      have hT2 : Hid (S + tot vs (k + 1) = T + (vs.getD k sd0).2.1) := Lib.hid (by rw [tot_succ, ← hT.out]; omega)
      have ev : sval (vs.getD k sd0) = .slice (vs.getD k sd0).1 (vs.getD k sd0).2.1 (vs.getD k sd0).2.2 := rfl
      have MK : Hid (∀ w2 ys, Slc w2 bi (vs.getD k sd0).1 (vs.getD k sd0).2.1 (vs.getD k sd0).2.2 ys → wr.grownBy w2 (Value.slice (vs.getD k sd0).1 (vs.getD k sd0).2.1 (vs.getD k sd0).2.2).ownBlock → SS w2 bo bi (some ⟨g, 0, none⟩) n c vs (zss.set k ys) ∧ OnlyIn w w2 vs n) :=
        Lib.hid fun w2 ys h1 h2 => ⟨Ss.out.marked hlt h1 h2, Oi.out.step (i := k) h2 hlt⟩
      obtain ⟨l, el⟩ : ∃ l, (vs.getD k sd0).2.1 = l := ⟨_, rfl⟩
      obtain ⟨A5, e5⟩ : ∃ A5, (vs.getD k sd0).1 = A5 := ⟨_, rfl⟩
      obtain ⟨c5, ec5⟩ : ∃ c5, (vs.getD k sd0).2.2 = c5 := ⟨_, rfl⟩
      have El := Lib.hid el
      rw [e5, el, ec5] at c1 r1 MK
      rw [el] at hl hT2
      have R1 := Lib.hid r1
      clear r1 e5 el ec5 hc ev
      go_wp2_with fail
      refine (markK bi (1 + T) _ A5 l c5 _ wr R1.out (by omega) (by omega) (by omega)).mono ?_
      rintro e w2 ⟨rfl, s2, g2⟩
      have M2 := Lib.hid (MK.out w2 _ s2 g2)
      clear s2 g2
      go_wp2_with fail
      go_roundw
      case rel =>
        refine ⟨k + 1, T + l, zss.set k (marks (1 + T) l), by omega, hT2, by go_num, by go_num, M2.out.1, fun t ht => ?_, M2.out.2⟩
        by_cases e : k = t
        · subst e
          rw [List.getD_eq_getElem?_getD, List.getElem?_set, if_pos rfl, if_pos (by rw [Ss.out.lx]; exact hlt), El.out, show 1 + S + tot vs k = 1 + T by rw [← hT.out]; omega]; rfl
        · rw [List.getD_eq_getElem?_getD, List.getElem?_set, if_neg e, ← List.getD_eq_getElem?_getD]; exact Hz.out t (by omega)
      case measure => simp [intOf]; omega
    · have hkn : k = n := by omega
      subst hkn
      have Ez : Hid (zss = marks2 vs (1 + S) k) := Lib.hid (by
        apply List.ext_getElem (by rw [Ss.out.lx]; simp [marks2])
        intro i h1 h2
        have h3 : i < k := by rw [← Ss.out.lx]; exact h1
        have := Hz.out i h3
        rw [← marks2_getD h3, List.getD_eq_getElem?_getD, List.getD_eq_getElem?_getD, List.getElem?_eq_getElem h1, List.getElem?_eq_getElem h2] at this
        exact this)
      go_wp2
      go_ret
      exact ⟨T, hT1, hT, rfl, by rw [← Ez.out]; exact Ss.out, Oi.out⟩
end Go.Proofs.Ytedfcljikgmpgaa

/- Slices of slices where a row elsewhere has turned. No condition. -/
namespace Go.Proofs.Ytedfcljikgmpgaa
open Go.RowKit

theorem SS.farM {w w' : World} {bo bi n c n' c' : Nat} {A A' : Option Addr} {vs : List SV} {xss : List (List Int)} (h : SS w bo bi A n c vs xss) (hg : w.grownBy w' (Value.slice A' n' c').ownBlock)
    (hd : ∀ k, (Value.slice A n c).ownBlock = some k → (Value.slice A' n' c').ownBlock = some k → False)
    (hd2 : ∀ s, s < n → ∀ k, (sval (vs.getD s sd0)).ownBlock = some k → (Value.slice A' n' c').ownBlock = some k → False) : SS w' bo bi A n c vs xss := by
  have ap : ∀ v : Value, (∀ k, v.ownBlock = some k → (Value.slice A' n' c').ownBlock = some k → False) → v.ownBlock = none ∨ v.ownBlock ≠ (Value.slice A' n' c').ownBlock := fun v hv => by
    rcases e : v.ownBlock with _ | k
    · exact .inl rfl
    · exact .inr fun e2 => hv k e e2.symm
  refine ⟨h.own.kept hg (ap _ hd), h.lv, h.lx, fun i hi => (h.row i hi).kept hg (ap _ (hd2 i hi)), h.dis⟩
end Go.Proofs.Ytedfcljikgmpgaa

/- The walk of the law FnExactIsBlockSystem: it returns true at every input, and writes nothing that was there. No condition but the program's own contract. -/
namespace Go.Proofs.Ytedfcljikgmpgaa
open Go.RowKit

set_option maxHeartbeats 4000000 in
set_option maxRecDepth 100000 in
/-- The law FnExactIsBlockSystem. -/
theorem lawIsBlockSystem (IM : CtImmB 16 IsBsy) (i0 : Int) (g1A : Option Addr) (g1n g1c : Nat) (g1v : List SV) (g1x : List (List Int)) (g2A : Option Addr) (g2n g2c : Nat) (g2v : List SV) (g2x : List (List Int)) (w : World) (wfi0 : I64 i0) (hg1 : RR w w.heap.size g1A g1n g1v g1x) (hmg1 : g1n ≤ maxLen) (hkg1 : Hid (∀ i, i < g1n → (g1v.getD i sd0).2.1 ≤ maxLen)) (hg2 : RR w w.heap.size g2A g2n g2v g2x) (hmg2 : g2n ≤ maxLen) (hkg2 : Hid (∀ i, i < g2n → (g2v.getD i sd0).2.1 ≤ maxLen)) :
    Calls Try.prog 3 #[.int .i64 i0, .slice g1A g1n g1c, .slice g2A g2n g2c] w fun e w' => e = .returned (.bool true) ∧ Below w.heap.size w w' := by
  have Hg1 := Lib.hid hg1
  have hlxg1 := Lib.hid hg1.lx
  have hllg1 := Lib.hid hg1.lens
  have Hg2 := Lib.hid hg2
  have hlxg2 := Lib.hid hg2.lx
  have hllg2 := Lib.hid hg2.lens
  clear hg1 hg2
  by_cases hT0 : ((g1n + tot g1v g1n : Nat) : Int) ≤ (1048576 : Int)
  · skip
    have HT0 := Lib.hid hT0
    obtain ⟨L1, eL1⟩ : ∃ L : Int, (1048576 : Int) - ((g1n + tot g1v g1n : Nat) : Int) = L := ⟨_, rfl⟩
    have hl1 : 0 ≤ L1 ∧ L1 ≤ 1048576 := by omega
    have EL1 := Lib.hid eL1
    clear eL1
    have hLn1 : ¬ L1 < 0 := by omega
    have dLn1 : decide (L1 < 0) = false := by simp; omega
    by_cases hT1 : ((g2n + tot g2v g2n : Nat) : Int) ≤ L1
    · skip
      have HT1 := Lib.hid hT1
      obtain ⟨LE, eLE⟩ : ∃ L : Int, L1 - ((g2n + tot g2v g2n : Nat) : Int) = L := ⟨_, rfl⟩
      have hLE : ¬ LE < 0 := by omega
      have dLE : decide (LE < 0) = false := by simp; omega
      have ELE := Lib.hid eLE
      clear eLE
      have hEq1 := EL1.out
      have hng1 : g1n ≤ 1048576 := by omega
      have KTg1 : Hid (tot g1v g1n ≤ 1048576) := Lib.hid (by omega)
      have hlg1 : Hid (∀ i, i < g1n → (g1v.getD i sd0).2.1 ≤ 1048576) := Lib.hid fun i hi => by have := tot_row (vs := g1v) hi; have := KTg1.out; omega
      have hylg1 : Hid (∀ i, i < g1n → (g1x.getD i []).length ≤ 1048576) := Lib.hid fun i hi => by rw [hllg1.out i hi]; exact hlg1.out i hi
      have hng2 : g2n ≤ 1048576 := by omega
      have KTg2 : Hid (tot g2v g2n ≤ 1048576) := Lib.hid (by omega)
      have hlg2 : Hid (∀ i, i < g2n → (g2v.getD i sd0).2.1 ≤ 1048576) := Lib.hid fun i hi => by have := tot_row (vs := g2v) hi; have := KTg2.out; omega
      have hylg2 : Hid (∀ i, i < g2n → (g2x.getD i []).length ≤ 1048576) := Lib.hid fun i hi => by rw [hllg2.out i hi]; exact hlg2.out i hi
      clear hT0 hT1 hEq1
      go_enter Try.func3, Try.ntmps3
      go_wp2_with fail
      have K0 := szSS2 g1A g1n g1c 1048576 g1v g1x w Hg1.out hmg1 hkg1 (by decide) (by decide)
      refine K0.mono ?_
      rintro e w0 ⟨rfl, rfl⟩
      clear K0
      rw [if_pos HT0.out]
      rw [EL1.out]
      go_wp2_with fail
      have K0 := szSS2 g2A g2n g2c L1 g2v g2x w Hg2.out hmg2 hkg2 hl1.1 hl1.2
      refine K0.mono ?_
      rintro e w0 ⟨rfl, rfl⟩
      clear K0
      rw [if_pos HT1.out]
      rw [ELE.out]
      go_wp2_with fail
      refine (toSS g1A g1n g1c g1v g1x w Hg1.out hng1 hlg1).mono ?_
      rintro e w1 ⟨A1, c1, us1, rfl, s1, q1, b1⟩
      have Z1 : Hid (w.heap.size ≤ w1.heap.size) := Lib.hid b1.size
      have B1 : Hid (Below w.heap.size w w1) := Lib.hid b1
      have Ftg1_1 := Lib.hid s1
      have Ltg1 : Hid (Lies A1 g1n c1 w.heap.size w1.heap.size) := Lib.hid s1.lt_
      have Itg1 : Hid (∀ t, t < g1n → ∀ k, (sval (us1.getD t sd0)).ownBlock = some k → w.heap.size ≤ k ∧ k < w1.heap.size) := Lib.hid fun t ht => (s1.row t ht).lt_
      have Qtg1 := Lib.hid q1
      have hltg1 : Hid (∀ i, i < g1n → (us1.getD i sd0).2.1 ≤ 1048576) := Lib.hid fun i hi => by rw [q1 i hi]; exact hlg1.out i hi
      clear s1 b1 q1
      go_wp2_with fail
      refine (toSS g2A g2n g2c g2v g2x w1 (Hg2.out.up B1.out) hng2 hlg2).mono ?_
      rintro e w2 ⟨A2, c2, us2, rfl, s2, q2, b2⟩
      have Z2 : Hid (w1.heap.size ≤ w2.heap.size) := Lib.hid b2.size
      have B2 : Hid (Below w.heap.size w w2) := Lib.hid (btr B1.out b2)
      have Ftg1_2 := Lib.hid (Ftg1_1.out.up b2)
      clear Ftg1_1
      have Ftg2_2 := Lib.hid s2
      have Ltg2 : Hid (Lies A2 g2n c2 w1.heap.size w2.heap.size) := Lib.hid s2.lt_
      have Itg2 : Hid (∀ t, t < g2n → ∀ k, (sval (us2.getD t sd0)).ownBlock = some k → w1.heap.size ≤ k ∧ k < w2.heap.size) := Lib.hid fun t ht => (s2.row t ht).lt_
      have Qtg2 := Lib.hid q2
      have hltg2 : Hid (∀ i, i < g2n → (us2.getD i sd0).2.1 ≤ 1048576) := Lib.hid fun i hi => by rw [q2 i hi]; exact hlg2.out i hi
      clear s2 b2 q2
      go_wp2_with fail
      have K3 := ctBsy i0 A1 g1n c1 us1 g1x A2 g2n c2 us2 g2x w2 ⟨Ftg1_2.out.rr, hng1, hltg1.out⟩ ⟨Ftg2_2.out.rr, hng2, hltg2.out⟩ wfi0
      refine K3.mono ?_
      clear K3
      rintro e w3 ⟨v3, rfl, r3, b3⟩
      have Z3 : Hid (w2.heap.size ≤ w3.heap.size) := Lib.hid b3.size
      have B3 : Hid (Below w.heap.size w w3) := Lib.hid (btr B2.out b3)
      have Ftg1_3 := Lib.hid (Ftg1_2.out.up b3)
      clear Ftg1_2
      have Ftg2_3 := Lib.hid (Ftg2_2.out.up b3)
      clear Ftg2_2
      have HR := Lib.hid r3
      clear r3
      clear b3
      clear Ftg1_3
      clear Ftg2_3
      go_wp2_with fail
      refine (toSS g1A g1n g1c g1v g1x w3 (Hg1.out.up B3.out) hng1 hlg1).mono ?_
      rintro e w4 ⟨A4, c4, us4, rfl, s4, q4, b4⟩
      have Z4 : Hid (w3.heap.size ≤ w4.heap.size) := Lib.hid b4.size
      have B4 : Hid (Below w.heap.size w w4) := Lib.hid (btr B3.out b4)
      have Fxg1_4 := Lib.hid s4
      have Lxg1 : Hid (Lies A4 g1n c4 w3.heap.size w4.heap.size) := Lib.hid s4.lt_
      have Ixg1 : Hid (∀ t, t < g1n → ∀ k, (sval (us4.getD t sd0)).ownBlock = some k → w3.heap.size ≤ k ∧ k < w4.heap.size) := Lib.hid fun t ht => (s4.row t ht).lt_
      have Qxg1 := Lib.hid q4
      have hlxg1 : Hid (∀ i, i < g1n → (us4.getD i sd0).2.1 ≤ 1048576) := Lib.hid fun i hi => by rw [q4 i hi]; exact hlg1.out i hi
      clear s4 b4 q4
      go_wp2_with fail
      refine (toSS g2A g2n g2c g2v g2x w4 (Hg2.out.up B4.out) hng2 hlg2).mono ?_
      rintro e w5 ⟨A5, c5, us5, rfl, s5, q5, b5⟩
      have Z5 : Hid (w4.heap.size ≤ w5.heap.size) := Lib.hid b5.size
      have B5 : Hid (Below w.heap.size w w5) := Lib.hid (btr B4.out b5)
      have Fxg1_5 := Lib.hid (Fxg1_4.out.up b5)
      clear Fxg1_4
      have Fxg2_5 := Lib.hid s5
      have Lxg2 : Hid (Lies A5 g2n c5 w4.heap.size w5.heap.size) := Lib.hid s5.lt_
      have Ixg2 : Hid (∀ t, t < g2n → ∀ k, (sval (us5.getD t sd0)).ownBlock = some k → w4.heap.size ≤ k ∧ k < w5.heap.size) := Lib.hid fun t ht => (s5.row t ht).lt_
      have Qxg2 := Lib.hid q5
      have hlxg2 : Hid (∀ i, i < g2n → (us5.getD i sd0).2.1 ≤ 1048576) := Lib.hid fun i hi => by rw [q5 i hi]; exact hlg2.out i hi
      clear s5 b5 q5
      go_wp2_with fail
      have K6 := IM i0 A4 g1n c4 us4 g1x A5 g2n c5 us5 g2x w5 ⟨Fxg1_5.out.rr, hng1, hlxg1.out⟩ ⟨Fxg2_5.out.rr, hng2, hlxg2.out⟩ wfi0
      refine K6.mono ?_
      clear K6
      rintro e w6 ⟨v6, rfl, r6, b6⟩
      have Z6 : Hid (w5.heap.size ≤ w6.heap.size) := Lib.hid b6.size
      have B6 : Hid (Below w.heap.size w w6) := Lib.hid (btr B5.out b6)
      have Fxg1_6 := Lib.hid (Fxg1_5.out.up b6)
      clear Fxg1_5
      have Fxg2_6 := Lib.hid (Fxg2_5.out.up b6)
      clear Fxg2_5
      have e6 := HR.out.uniq r6
      subst e6
      clear r6
      clear b6
      go_wp2_with fail
      refine (toSS g1A g1n g1c g1v g1x w6 (Hg1.out.up B6.out) hng1 hlg1).mono ?_
      rintro e w7 ⟨A7, c7, us7, rfl, s7, q7, b7⟩
      have Z7 : Hid (w6.heap.size ≤ w7.heap.size) := Lib.hid b7.size
      have B7 : Hid (Below w.heap.size w w7) := Lib.hid (btr B6.out b7)
      have Fxg1_7 := Lib.hid (Fxg1_6.out.up b7)
      clear Fxg1_6
      have Fxg2_7 := Lib.hid (Fxg2_6.out.up b7)
      clear Fxg2_6
      have Fyg1_7 := Lib.hid s7
      have Lyg1 : Hid (Lies A7 g1n c7 w6.heap.size w7.heap.size) := Lib.hid s7.lt_
      have Iyg1 : Hid (∀ t, t < g1n → ∀ k, (sval (us7.getD t sd0)).ownBlock = some k → w6.heap.size ≤ k ∧ k < w7.heap.size) := Lib.hid fun t ht => (s7.row t ht).lt_
      have Qyg1 := Lib.hid q7
      have hlyg1 : Hid (∀ i, i < g1n → (us7.getD i sd0).2.1 ≤ 1048576) := Lib.hid fun i hi => by rw [q7 i hi]; exact hlg1.out i hi
      clear s7 b7 q7
      go_wp2_with fail
      refine (eqRR_same A4 A7 g1n c4 g1n c7 us4 us7 _ w7 Fxg1_7.out.rr Fyg1_7.out.rr (by omega) hylg1).mono ?_
      rintro e w8 ⟨rfl, b8⟩
      have Z8 : Hid (w7.heap.size ≤ w8.heap.size) := Lib.hid b8.size
      have B8 : Hid (Below w.heap.size w w8) := Lib.hid (btr B7.out b8)
      have Fxg1_8 := Lib.hid (Fxg1_7.out.up b8)
      clear Fxg1_7
      have Fxg2_8 := Lib.hid (Fxg2_7.out.up b8)
      clear Fxg2_7
      have Fyg1_8 := Lib.hid (Fyg1_7.out.up b8)
      clear Fyg1_7
      clear b8
      clear Fyg1_8
      go_wp2_with fail
      refine (toSS g2A g2n g2c g2v g2x w8 (Hg2.out.up B8.out) hng2 hlg2).mono ?_
      rintro e w9 ⟨A9, c9, us9, rfl, s9, q9, b9⟩
      have Z9 : Hid (w8.heap.size ≤ w9.heap.size) := Lib.hid b9.size
      have B9 : Hid (Below w.heap.size w w9) := Lib.hid (btr B8.out b9)
      have Fxg1_9 := Lib.hid (Fxg1_8.out.up b9)
      clear Fxg1_8
      have Fxg2_9 := Lib.hid (Fxg2_8.out.up b9)
      clear Fxg2_8
      have Fyg2_9 := Lib.hid s9
      have Lyg2 : Hid (Lies A9 g2n c9 w8.heap.size w9.heap.size) := Lib.hid s9.lt_
      have Iyg2 : Hid (∀ t, t < g2n → ∀ k, (sval (us9.getD t sd0)).ownBlock = some k → w8.heap.size ≤ k ∧ k < w9.heap.size) := Lib.hid fun t ht => (s9.row t ht).lt_
      have Qyg2 := Lib.hid q9
      have hlyg2 : Hid (∀ i, i < g2n → (us9.getD i sd0).2.1 ≤ 1048576) := Lib.hid fun i hi => by rw [q9 i hi]; exact hlg2.out i hi
      clear s9 b9 q9
      go_wp2_with fail
      refine (eqRR_same A5 A9 g2n c5 g2n c9 us5 us9 _ w9 Fxg2_9.out.rr Fyg2_9.out.rr (by omega) hylg2).mono ?_
      rintro e w10 ⟨rfl, b10⟩
      have Z10 : Hid (w9.heap.size ≤ w10.heap.size) := Lib.hid b10.size
      have B10 : Hid (Below w.heap.size w w10) := Lib.hid (btr B9.out b10)
      have Fxg1_10 := Lib.hid (Fxg1_9.out.up b10)
      clear Fxg1_9
      have Fxg2_10 := Lib.hid (Fxg2_9.out.up b10)
      clear Fxg2_9
      have Fyg2_10 := Lib.hid (Fyg2_9.out.up b10)
      clear Fyg2_9
      clear b10
      clear Fyg2_10
      go_wp2_with fail
      go_ret
      exact ⟨rfl, B10.out⟩
    · skip
      have HT1 := Lib.hid hT1
      clear hT0 hT1
      go_enter Try.func3, Try.ntmps3
      go_wp2_with fail
      have K0 := szSS2 g1A g1n g1c 1048576 g1v g1x w Hg1.out hmg1 hkg1 (by decide) (by decide)
      refine K0.mono ?_
      rintro e w0 ⟨rfl, rfl⟩
      clear K0
      rw [if_pos HT0.out]
      rw [EL1.out]
      go_wp2_with fail
      have K0 := szSS2 g2A g2n g2c L1 g2v g2x w Hg2.out hmg2 hkg2 hl1.1 hl1.2
      refine K0.mono ?_
      rintro e w0 ⟨rfl, rfl⟩
      clear K0
      rw [if_neg (Int.not_le.2 HT1.out)]
      go_wp2
      go_ret
      exact ⟨rfl, Below.refl _ _⟩
  · skip
    have HT0 := Lib.hid hT0
    clear hT0
    go_enter Try.func3, Try.ntmps3
    go_wp2_with fail
    have K0 := szSS2 g1A g1n g1c 1048576 g1v g1x w Hg1.out hmg1 hkg1 (by decide) (by decide)
    refine K0.mono ?_
    rintro e w0 ⟨rfl, rfl⟩
    clear K0
    rw [if_neg (Int.not_le.2 HT0.out)]
    go_wp2
    go_ret
    exact ⟨rfl, Below.refl _ _⟩
end Go.Proofs.Ytedfcljikgmpgaa

/- The program's BlockAction, IsBlockSystem, BlockActionOrder, BlockKernelOrder. Conditions: at most 1048576 lists of at most 1048576 numbers. -/
namespace Go.Proofs.Ytedfcljikgmpgaa
open Go.RowKit

set_option maxHeartbeats 4000000 in
set_option maxRecDepth 100000 in
/-- BlockAction. -/
theorem implBlockAction : CtImmMB 19 IsAct := by
  intro a A n c vs xss M m cm us yss w g s _
  have hmm := @run_makeMap Try.prog
  have G := Lib.hid g
  have S := Lib.hid s
  have HX := Lib.hid g.rr
  have HY := Lib.hid s.rr
  have hlx : Hid (xss.length = n) := Lib.hid g.rr.lx
  have hn := g.hn
  have hl := Lib.hid g.hl
  clear g s
  go_enter Try.func19, Try.ntmps19
  rcases hs : gB a xss with _ | _
  · have Fin : Hid (IsAct a xss yss [] false) := Lib.hid (.inr ⟨fun h => (by have := h.1; rw [hs] at this; cases this), rfl, rfl⟩)
    have Hs := Lib.hid hs
    clear hs
    go_wp2_with (first
      | (go_at_call 52; refine (implGS a A n c vs xss w HX.out hn hl).mono ?_; rintro e w1 ⟨rfl, b1⟩; rw [Hs.out]; have B1 := Lib.hid b1; clear b1))
    go_ret2
    exact ⟨_, _, _, _, _, _, rfl, SS.nil_, Fin.out, B1.out⟩
  · obtain ⟨N, rfl, hN1, hN2, hg8, hpm, hok⟩ := gB_pm hs
    have Hs := Lib.hid hs
    have Ok : Hid (∀ g ∈ xss, Pn N g) := Lib.hid hok
    clear hs hpm hok
    go_wp2_with (first
      | (go_at_call 52; refine (implGS N A n c vs xss w HX.out hn hl).mono ?_; rintro e w1 ⟨rfl, b1⟩; rw [Hs.out]; have B1 := Lib.hid b1; clear b1)
      | (go_at_call 53; fail))
    refine (implPart N M m cm us yss w1 (S.out.up B1.out)).mono ?_
    rintro e w2 ⟨ans, rfl, hans, b2⟩
    have B2 : Hid (Below w.heap.size w w2) := Lib.hid (btr B1.out b2)
    have hz2 := B2.out.size
    clear b2
    rcases ans with _ | _
    · have Fin : Hid (IsAct N xss yss [] false) := Lib.hid (.inr ⟨fun h => (by have := hans.2 ⟨by omega, h.2.1⟩; cases this), rfl, rfl⟩)
      clear hans
      go_wp2_with fail
      go_ret2
      exact ⟨_, _, _, _, _, _, rfl, SS.nil_, Fin.out, B2.out⟩
    · have HP : Hid (Prt N yss) := Lib.hid (by have := (hans.1 rfl).2; rwa [Int.toNat_natCast] at this)
      have U0 := Lib.hid (UF.made w2 N)
      have Y0 : Hid (RR (w2.alloc (.map #[] 0)) w2.heap.size M m us yss) := Lib.hid ((HY.out.up B2.out).alloc (Nat.le_refl _) _)
      have Bm : Hid (Below w.heap.size w (w2.alloc (.map #[] 0))) := Lib.hid (B2.out.alloc hz2 _)
      clear hans
      go_wp2_with fail
      refine (ufEach w2.heap.size N w2.heap.size m cm _ _ M us yss _ U0.out Y0.out (Nat.le_refl _) HP hN2).mono ?_
      rintro e w3 ⟨f, D, rfl, u3, ⟨_, h1, h3⟩, g3⟩
      have U3 := Lib.hid u3
      have R1 : Hid (Rf N (bi yss) (rt f)) := Lib.hid h1
      have R2 : Hid (Rf N (rt f) (bi yss)) := Lib.hid (h3 _ (fun u v _ _ e => by rw [rt_empty, rt_empty] at e; rw [e]) (Rf.refl _ _))
      have B3 : Hid (Below w.heap.size w w3) := Lib.hid (Bm.out.grown g3 (by simp; omega) (fun k e => by injection e with e; omega))
      have hz3 := B3.out.size
      generalize w2.heap.size = b at U3 hz2 ⊢
      clear u3 h1 h3 g3 U0 Y0 Bm
      go_wp2_with fail
      go_loopw [9, 30] (fun v iv wr => ∃ (i c' : Nat) (A' : Option Addr) (us' : List SV), i ≤ n ∧ iv = .int .i64 (i : Nat) ∧ v = .slice A' i c' ∧ SS wr w3.heap.size w3.heap.size A' i c' us' ((xss.map (actL yss)).take i) ∧ (∀ j, j < i → Rsp N yss (xss.getD j [])) ∧ Below w3.heap.size w3 wr) (fun _ iv _ => n - (intOf iv).toNat)
      case atStart => exact ⟨0, _, _, [], Nat.zero_le _, rfl, rfl, by rw [List.take_zero]; exact SS.nil_, fun j h => absurd h (Nat.not_lt_zero _), Below.refl _ _⟩
      case round =>
        obtain ⟨i, c', A', us', hi, rfl, rfl, hss, hrs, bel⟩ := hrel
        have Ss := Lib.hid hss
        have Rs := Lib.hid hrs
        have Be := Lib.hid bel
        have Bw : Hid (Below w.heap.size w wr) := Lib.hid (btr B3.out bel)
        have hz4 := bel.size
        clear hss hrs bel
        by_cases hlt : i < n
        · obtain ⟨b5, o5, A5, l, c5, y, rfl, hb5, ev, ey, x1, ri, ly, hlc⟩ := (HX.out.up Bw.out).at_ hlt
          have hyP := Ok.out y (by rw [← ey]; exact getD_memL (by rw [hlx.out]; exact hlt))
          obtain rfl : l = N := by have := hyP.2; omega
          have Ri := Lib.hid ri
          have Ey := Lib.hid ey
          have Yp : Hid (Pn l y) := Lib.hid hyP
          have Tk : Hid ((xss.map (actL yss)).take (i + 1) = (xss.map (actL yss)).take i ++ [actL yss y]) := Lib.hid (by rw [getD_mapL (by rw [hlx.out]; exact hlt), ey])
          have q0 : (0 : Int) ≤ i := by omega
          have q1 : (i : Int) < n := by omega
          clear ev ey ri ly hyP hb5
          go_wp2_with fail
          refine (implImages b l m cm c5 f D A5 M us yss y wr (U3.out.up Be.out) Ri.out Yp (HY.out.up Bw.out) HP R1 R2).mono ?_
          rintro e w6 ⟨A6, n6, c6, zs, ok, rfl, s6, hcase, b6⟩
          have S6 := Lib.hid s6
          have B6 : Hid (Below w3.heap.size w3 w6) := Lib.hid (btr Be.out b6)
          have Ss6 := Lib.hid (Ss.out.up b6)
          have D6 := Lib.hid (lies_dis (w := wr) Ss.out s6.lies (Nat.le_refl _))
          have hz6 := B6.out.size
          clear s6 b6
          rcases hcase with ⟨rfl, hr, rfl⟩ | ⟨rfl, hr, rfl⟩
          · have Rs6 : Hid (∀ j, j < i + 1 → Rsp l yss (xss.getD j [])) := Lib.hid fun j hj => by
              by_cases e : j = i
              · subst e; rw [Ey.out]; exact hr
              · exact Rs.out j (by omega)
            clear hr
            go_wp2_with (at_builtin; go_must (refine wpList_app2_at rfl _ _ rfl rfl (Ss6.out.alloc _) w6.heap.size A6 n6 c6 (actL yss y) rfl (by rw [World.cell?_alloc_at _ _ _ _ rfl]; rfl) ((S6.out.mono hz4).alloc _) D6.out (by omega) (by simp; omega) ?_); intro A9 c9 w9 s9 g9 h9)
            have S9 : Hid (SS w9 w3.heap.size w3.heap.size A9 (i + 1) c9 (us' ++ [(A6, n6, c6)]) ((xss.map (actL yss)).take (i + 1))) := Lib.hid (by rw [Tk.out]; exact s9)
            have B9 : Hid (Below w3.heap.size w3 w9) := Lib.hid ((B6.out.alloc (by omega) _).grown g9 (by simp; omega) (fun q hq => (Ss6.out.lt_ q hq).1))
            clear s9 g9 h9
            go_wp2_with fail
            go_roundw
            case rel => exact ⟨i + 1, c9, A9, _, by omega, by go_num, rfl, S9.out, Rs6.out, B9.out⟩
            case measure => simp [intOf]; omega
          · have Fin : Hid (IsAct l xss yss [] false) := Lib.hid (.inr ⟨fun h => hr (by
              have := h.2.2 y (by rw [← Ey.out]; exact getD_memL (by rw [hlx.out]; exact hlt))
              rwa [Int.toNat_natCast] at this), rfl, rfl⟩)
            have Bf : Hid (Below w.heap.size w w6) := Lib.hid (btr B3.out B6.out)
            clear hr
            go_wp2_with fail
            go_ret2
            exact ⟨_, _, _, _, _, _, rfl, SS.nil_, Fin.out, Bf.out⟩
        · obtain rfl : i = n := by omega
          have Fin : Hid (IsAct N xss yss (xss.map (actL yss)) true) := Lib.hid (.inl ⟨⟨Hs.out, by rw [Int.toNat_natCast]; exact HP.out, fun g hg => by
            rw [Int.toNat_natCast]
            obtain ⟨j, hj, e⟩ := List.mem_iff_getElem.1 hg
            have := Rs.out j (by rw [← hlx.out]; exact hj)
            rw [getD_L hj, e] at this
            exact this⟩, rfl, rfl⟩)
          have Sm : Hid (SS wr w.heap.size w.heap.size A' i c' us' (xss.map (actL yss))) := Lib.hid (by
            have h3 := Ss.out.mono hz3 hz3
            rwa [List.take_of_length_le (by rw [List.length_map, hlx.out]; exact Nat.le_refl _)] at h3)
          go_wp2_with fail
          go_ret2
          exact ⟨_, _, _, us', _, _, rfl, Sm.out, Fin.out, Bw.out⟩

set_option maxHeartbeats 1000000 in
/-- IsBlockSystem. -/
theorem implIsBlockSystem : CtImmB 16 IsBsy := by
  intro a A n c vs xss M m cm us yss w g s ha
  have G := Lib.hid g
  have S := Lib.hid s
  clear g s
  go_enter Try.func16, Try.ntmps16
  go_wp2_with fail
  refine (implBlockAction a A n c vs xss M m cm us yss w G.out S.out ha).mono ?_
  rintro e w1 ⟨A1, m1, c1, us1, l1, ok, rfl, s1, r1, b1⟩
  have B1 := Lib.hid b1
  have Fin : Hid (IsBsy a xss yss ok) := Lib.hid (by
    rcases r1 with ⟨h, _, rfl⟩ | ⟨h, _, rfl⟩
    · exact ⟨fun _ => h, fun _ => rfl⟩
    · exact ⟨fun e => (by cases e), fun e => absurd e h⟩)
  clear s1 r1 b1
  go_wp2_with fail
  go_ret
  exact ⟨_, rfl, Fin.out, B1.out⟩

set_option maxHeartbeats 2000000 in
set_option maxRecDepth 100000 in
/-- BlockActionOrder. -/
theorem implBlockActionOrder : CtImmI 34 IsBao := by
  intro a A n c vs xss M m cm us yss w g s ha
  have G := Lib.hid g
  have S := Lib.hid s
  have hly : Hid (yss.length = m) := Lib.hid s.rr.lx
  have hm := s.hn
  clear g s
  go_enter Try.func34, Try.ntmps34
  go_wp2_with fail
  refine (implBlockAction a A n c vs xss M m cm us yss w G.out S.out ha).mono ?_
  rintro e w1 ⟨A1, m1, c1, us1, l1, ok, rfl, s1, r1, b1⟩
  have B1 := Lib.hid b1
  rcases r1 with ⟨h, rfl, rfl⟩ | ⟨h, rfl, rfl⟩
  · have H := Lib.hid h
    have hb : (xss.map (actL yss)).length ≤ 20 ∧ ∀ y ∈ xss.map (actL yss), y.length ≤ 20 := IsAct.len (ok := true) (.inl ⟨h, rfl, rfl⟩)
    have G1 : Hid (GIn w1 A1 m1 us1 (xss.map (actL yss))) := Lib.hid ⟨s1.rr, by have := s1.lx; omega, fun i hi => by
      rw [← (s1.row i hi).1]
      have h1 := hb.2 _ (getD_memL (show i < (xss.map (actL yss)).length by rw [s1.lx]; exact hi))
      omega⟩
    have h64 : I64 (m : Int) := by unfold I64; omega
    clear s1 b1 hb h
    go_wp2_with fail
    refine (implGroupOrder m A1 m1 c1 us1 _ w1 G1.out h64).mono ?_
    rintro e w2 ⟨v, rfl, hv, b2⟩
    have Fin : Hid (IsBao a xss yss v) := Lib.hid (.inl ⟨H.out, by rw [hly.out]; exact hv⟩)
    have B2 : Hid (Below w.heap.size w w2) := Lib.hid (btr B1.out b2)
    clear hv b2
    go_wp2_with fail
    go_ret
    exact ⟨_, rfl, Fin.out, B2.out⟩
  · have Fin : Hid (IsBao a xss yss 0) := Lib.hid (.inr ⟨h, rfl⟩)
    clear s1 b1 h
    go_wp2_with fail
    go_ret
    exact ⟨_, rfl, Fin.out, B1.out⟩

set_option maxHeartbeats 2000000 in
set_option maxRecDepth 100000 in
/-- BlockKernelOrder. -/
theorem implBlockKernelOrder : CtImmI 36 IsBko := by
  intro a A n c vs xss M m cm us yss w g s ha
  have G := Lib.hid g
  have S := Lib.hid s
  clear g s
  go_enter Try.func36, Try.ntmps36
  go_wp2_with fail
  refine (implBlockActionOrder a A n c vs xss M m cm us yss w G.out S.out ha).mono ?_
  rintro e w1 ⟨k, rfl, hk, b1⟩
  have B1 := Lib.hid b1
  have Hk := Lib.hid hk
  have hkb : 0 ≤ k ∧ k ≤ 2432902008176640000 := by
    rcases hk with ⟨_, h⟩ | ⟨_, rfl⟩
    · exact ord_bnd h
    · omega
  clear b1 hk
  by_cases h0 : k = 0
  · subst h0
    have Fin : Hid (IsBko a xss yss 0) := Lib.hid ⟨0, Hk.out, .inl ⟨rfl, rfl⟩⟩
    go_wp2_with fail
    go_ret
    exact ⟨_, rfl, Fin.out, B1.out⟩
  · have e2 : (k == 0) = false := by rw [beq_eq_false_iff_ne]; exact h0
    go_wp2_with fail
    refine (implGroupOrder a A n c vs xss w1 (G.out.up B1.out) ha).mono ?_
    rintro e w2 ⟨o, rfl, ho, b2⟩
    have ob := ord_bnd ho
    have B2 : Hid (Below w.heap.size w w2) := Lib.hid (btr B1.out b2)
    obtain ⟨v, ev⟩ : ∃ v, o.tdiv k = v := ⟨_, rfl⟩
    have Fin : Hid (IsBko a xss yss v) := Lib.hid ⟨k, Hk.out, .inr ⟨h0, o, ho, ev.symm⟩⟩
    have hvb : 0 ≤ v ∧ v ≤ 2432902008176640000 := by
      obtain ⟨K, rfl⟩ : ∃ K : Nat, k = (K : Int) := ⟨k.toNat, by omega⟩
      obtain ⟨O, rfl⟩ : ∃ O : Nat, o = (O : Int) := ⟨o.toNat, by omega⟩
      have e1 : (O : Int).tdiv (K : Int) = ((O / K : Nat) : Int) := (Int.ofNat_tdiv O K).symm
      have := Nat.div_le_self O K
      rw [← ev, e1]
      generalize O / K = q at this ⊢
      omega
    clear ho b2
    go_wp2_with fail
    go_ret
    exact ⟨_, rfl, Fin.out, B2.out⟩
end Go.Proofs.Ytedfcljikgmpgaa

/- What the frame of a proof knows of a slice of slices of int64 that came in. No condition. -/
namespace Go.Proofs.Ytedfcljikgmpgaa
open Go.ChangeShapes Go.WideShapes Go.ChangeAt Go.RowKit

theorem cellsS1 : Try.prog.cellsOf 48 = 1 := by kernel_rfl
theorem one_cell {W : World} {x : Addr} {cs : List Value} (h : W.cells? 0 x 1 = some cs) : ∃ c, cs = [c] ∧ W.cell? x = some c := by
  have e0 : x.add 0 = x := by simp [Addr.add]
  simp [World.cells?, List.range_succ, e0] at h
  cases hc : W.cell? x with
  | none => simp [hc] at h
  | some c =>
    simp [hc] at h
    exact ⟨c, h.symm, rfl⟩

theorem argSS {H : Type} {enc : TypeId × Value → H} {W : World} {a : Option Addr} {len cap : Nat} {d : DataW H} {ps : List MemPlace}
    (h : ∃ fuel, DataW.trod enc Try.prog W 0 (fun _ => true) true fuel 22 (Value.slice a len cap).cells.toList = some (d, ps)) :
    len ≤ maxLen ∧ ∃ vs xss, RR W W.heap.size a len vs xss ∧ ∀ i, i < len → (vs.getD i sd0).2.1 ≤ maxLen := by
  obtain ⟨fuel, hf⟩ := h
  rcases DataW.trod_slice Try.underlying22 hf with ⟨hcs, hx⟩ | ⟨a', len', cap', elems, rest, n, rfl, hcs, hx, _, hl, hm, hlen, hel, _, _⟩
  · simp [Value.cells] at hcs
    obtain ⟨rfl, rfl, rfl⟩ := hcs
    exact ⟨Nat.zero_le _, [], [], RR.nil_, fun i h => absurd h (by omega)⟩
  · simp [Value.cells] at hcs
    obtain ⟨rfl, rfl, rfl⟩ := hcs
    obtain ⟨b, off, spot⟩ := a'
    -- each element
    have key : ∀ i, i < len → ∃ (A : Option Addr) (l c : Nat) (xs : List Int), W.cell? (Addr.add ⟨b, off, spot⟩ i) = some (.slice A l c) ∧ xs.length = l ∧ l ≤ c ∧ c ≤ maxLen ∧ RI W W.heap.size A xs := by
      intro i hi
      have hE := hel i hi
      rw [cellsS1, Nat.mul_one, List.getElem?_eq_getElem (by omega)] at hE
      simp only [Option.bind_eq_some_iff] at hE
      obtain ⟨cs1, hc1, hy1⟩ := hE
      obtain ⟨c, rfl, hcc⟩ := one_cell hc1
      rcases open_ints Try.underlying48 Try.underlying2 (by kernel_rfl) hy1 with ⟨hcs, _⟩ | ⟨ia, il, ic, zs, hcs, _, hil, him, hiz, _, hicell, hiw⟩
      · injection hcs with hcs _
        subst hcs
        exact ⟨none, 0, 0, [], hcc, rfl, Nat.le_refl _, Nat.zero_le _, RI.nil_⟩
      · injection hcs with hcs _
        subst hcs
        have hiz' : zs.length = ic := by simpa using hiz
        obtain ⟨xs, hxl, hR⟩ := RI.of_row (w := W) (a := some ia) (len := il) (cap := ic) (zs := zs) (.inr ⟨ia, rfl, hil, him, hiz', hicell, hiw⟩)
        exact ⟨some ia, il, ic, xs, hcc, hxl.out, hil, him, hR⟩
    refine ⟨Nat.le_trans hl hm, ?_⟩
    have hch : ∃ f : Nat → SV × List Int, ∀ i, i < len → W.cell? (Addr.add ⟨b, off, spot⟩ i) = some (.slice (f i).1.1 (f i).1.2.1 (f i).1.2.2) ∧ (f i).2.length = (f i).1.2.1 ∧ (f i).1.2.1 ≤ (f i).1.2.2 ∧ (f i).1.2.2 ≤ maxLen ∧ RI W W.heap.size (f i).1.1 (f i).2 := by
      refine ⟨fun i => if hi : i < len then (((Classical.choose (key i hi)), Classical.choose (Classical.choose_spec (key i hi)), Classical.choose (Classical.choose_spec (Classical.choose_spec (key i hi)))), Classical.choose (Classical.choose_spec (Classical.choose_spec (Classical.choose_spec (key i hi))))) else (sd0, []), fun i hi => ?_⟩
      have := Classical.choose_spec (Classical.choose_spec (Classical.choose_spec (Classical.choose_spec (key i hi))))
      simp only [hi, dif_pos]
      exact this
    obtain ⟨f, hf⟩ := hch
    have g1 : ∀ j, j < len → ((List.range len).map fun i => (f i).1).getD j sd0 = (f j).1 := fun j hj => by
      rw [List.getD_eq_getElem?_getD, List.getElem?_map, List.getElem?_range hj]; rfl
    have g2 : ∀ j, j < len → ((List.range len).map fun i => (f i).2).getD j [] = (f j).2 := fun j hj => by
      rw [List.getD_eq_getElem?_getD, List.getElem?_map, List.getElem?_range hj]; rfl
    refine ⟨(List.range len).map fun i => (f i).1, (List.range len).map fun i => (f i).2, ⟨by simp, by simp, fun hp => ?_, fun j hj => ?_, fun j hj => ?_, fun j hj => ?_⟩, fun i hi => ?_⟩
    · have h0 := (hf 0 hp).1
      have hs : spot = none := by simpa [Addr.add] using World.cell?_spot h0
      subst hs
      refine ⟨b, off, rfl, ?_, fun j hj => ?_⟩
      · have := World.block_lt_of_cell? W _ h0
        simpa [Addr.add] using this
      · rw [g1 j hj, ← (hf j hj).1]
        unfold Addr.add
        split <;> simp_all
    · rw [g1 j hj, g2 j hj]; exact (hf j hj).2.2.2.2
    · rw [g1 j hj, g2 j hj]; exact (hf j hj).2.1
    · rw [g1 j hj]; exact (hf j hj).2.2.1
    · rw [g1 i hi]; exact Nat.le_trans (hf i hi).2.2.1 (hf i hi).2.2.2.1
end Go.Proofs.Ytedfcljikgmpgaa

/- The walk of the law FnExactBlockAction: it returns true at every input, and writes nothing that was there. No condition but the program's own contract. -/
namespace Go.Proofs.Ytedfcljikgmpgaa
open Go.RowKit

set_option maxHeartbeats 4000000 in
set_option maxRecDepth 100000 in
/-- The law FnExactBlockAction. -/
theorem lawBlockAction (IM : CtImmMB 19 IsAct) (i0 : Int) (g1A : Option Addr) (g1n g1c : Nat) (g1v : List SV) (g1x : List (List Int)) (g2A : Option Addr) (g2n g2c : Nat) (g2v : List SV) (g2x : List (List Int)) (w : World) (wfi0 : I64 i0) (hg1 : RR w w.heap.size g1A g1n g1v g1x) (hmg1 : g1n ≤ maxLen) (hkg1 : Hid (∀ i, i < g1n → (g1v.getD i sd0).2.1 ≤ maxLen)) (hg2 : RR w w.heap.size g2A g2n g2v g2x) (hmg2 : g2n ≤ maxLen) (hkg2 : Hid (∀ i, i < g2n → (g2v.getD i sd0).2.1 ≤ maxLen)) :
    Calls Try.prog 4 #[.int .i64 i0, .slice g1A g1n g1c, .slice g2A g2n g2c] w fun e w' => e = .returned (.bool true) ∧ Below w.heap.size w w' := by
  have Hg1 := Lib.hid hg1
  have hlxg1 := Lib.hid hg1.lx
  have hllg1 := Lib.hid hg1.lens
  have Hg2 := Lib.hid hg2
  have hlxg2 := Lib.hid hg2.lx
  have hllg2 := Lib.hid hg2.lens
  clear hg1 hg2
  by_cases hT0 : ((g1n + tot g1v g1n : Nat) : Int) ≤ (1048576 : Int)
  · skip
    have HT0 := Lib.hid hT0
    obtain ⟨L1, eL1⟩ : ∃ L : Int, (1048576 : Int) - ((g1n + tot g1v g1n : Nat) : Int) = L := ⟨_, rfl⟩
    have hl1 : 0 ≤ L1 ∧ L1 ≤ 1048576 := by omega
    have EL1 := Lib.hid eL1
    clear eL1
    have hLn1 : ¬ L1 < 0 := by omega
    have dLn1 : decide (L1 < 0) = false := by simp; omega
    by_cases hT1 : ((g2n + tot g2v g2n : Nat) : Int) ≤ L1
    · skip
      have HT1 := Lib.hid hT1
      obtain ⟨LE, eLE⟩ : ∃ L : Int, L1 - ((g2n + tot g2v g2n : Nat) : Int) = L := ⟨_, rfl⟩
      have hLE : ¬ LE < 0 := by omega
      have dLE : decide (LE < 0) = false := by simp; omega
      have ELE := Lib.hid eLE
      clear eLE
      have hEq1 := EL1.out
      have hng1 : g1n ≤ 1048576 := by omega
      have KTg1 : Hid (tot g1v g1n ≤ 1048576) := Lib.hid (by omega)
      have hlg1 : Hid (∀ i, i < g1n → (g1v.getD i sd0).2.1 ≤ 1048576) := Lib.hid fun i hi => by have := tot_row (vs := g1v) hi; have := KTg1.out; omega
      have hylg1 : Hid (∀ i, i < g1n → (g1x.getD i []).length ≤ 1048576) := Lib.hid fun i hi => by rw [hllg1.out i hi]; exact hlg1.out i hi
      have hng2 : g2n ≤ 1048576 := by omega
      have KTg2 : Hid (tot g2v g2n ≤ 1048576) := Lib.hid (by omega)
      have hlg2 : Hid (∀ i, i < g2n → (g2v.getD i sd0).2.1 ≤ 1048576) := Lib.hid fun i hi => by have := tot_row (vs := g2v) hi; have := KTg2.out; omega
      have hylg2 : Hid (∀ i, i < g2n → (g2x.getD i []).length ≤ 1048576) := Lib.hid fun i hi => by rw [hllg2.out i hi]; exact hlg2.out i hi
      clear hT0 hT1 hEq1
      go_enter Try.func4, Try.ntmps4
      go_wp2_with fail
      have K0 := szSS2 g1A g1n g1c 1048576 g1v g1x w Hg1.out hmg1 hkg1 (by decide) (by decide)
      refine K0.mono ?_
      rintro e w0 ⟨rfl, rfl⟩
      clear K0
      rw [if_pos HT0.out]
      rw [EL1.out]
      go_wp2_with fail
      have K0 := szSS2 g2A g2n g2c L1 g2v g2x w Hg2.out hmg2 hkg2 hl1.1 hl1.2
      refine K0.mono ?_
      rintro e w0 ⟨rfl, rfl⟩
      clear K0
      rw [if_pos HT1.out]
      rw [ELE.out]
      go_wp2_with fail
      refine (toSS g1A g1n g1c g1v g1x w Hg1.out hng1 hlg1).mono ?_
      rintro e w1 ⟨A1, c1, us1, rfl, s1, q1, b1⟩
      have Z1 : Hid (w.heap.size ≤ w1.heap.size) := Lib.hid b1.size
      have B1 : Hid (Below w.heap.size w w1) := Lib.hid b1
      have Ftg1_1 := Lib.hid s1
      have Ltg1 : Hid (Lies A1 g1n c1 w.heap.size w1.heap.size) := Lib.hid s1.lt_
      have Itg1 : Hid (∀ t, t < g1n → ∀ k, (sval (us1.getD t sd0)).ownBlock = some k → w.heap.size ≤ k ∧ k < w1.heap.size) := Lib.hid fun t ht => (s1.row t ht).lt_
      have Qtg1 := Lib.hid q1
      have hltg1 : Hid (∀ i, i < g1n → (us1.getD i sd0).2.1 ≤ 1048576) := Lib.hid fun i hi => by rw [q1 i hi]; exact hlg1.out i hi
      clear s1 b1 q1
      go_wp2_with fail
      refine (toSS g2A g2n g2c g2v g2x w1 (Hg2.out.up B1.out) hng2 hlg2).mono ?_
      rintro e w2 ⟨A2, c2, us2, rfl, s2, q2, b2⟩
      have Z2 : Hid (w1.heap.size ≤ w2.heap.size) := Lib.hid b2.size
      have B2 : Hid (Below w.heap.size w w2) := Lib.hid (btr B1.out b2)
      have Ftg1_2 := Lib.hid (Ftg1_1.out.up b2)
      clear Ftg1_1
      have Ftg2_2 := Lib.hid s2
      have Ltg2 : Hid (Lies A2 g2n c2 w1.heap.size w2.heap.size) := Lib.hid s2.lt_
      have Itg2 : Hid (∀ t, t < g2n → ∀ k, (sval (us2.getD t sd0)).ownBlock = some k → w1.heap.size ≤ k ∧ k < w2.heap.size) := Lib.hid fun t ht => (s2.row t ht).lt_
      have Qtg2 := Lib.hid q2
      have hltg2 : Hid (∀ i, i < g2n → (us2.getD i sd0).2.1 ≤ 1048576) := Lib.hid fun i hi => by rw [q2 i hi]; exact hlg2.out i hi
      clear s2 b2 q2
      go_wp2_with fail
      have K3 := ctAct i0 A1 g1n c1 us1 g1x A2 g2n c2 us2 g2x w2 ⟨Ftg1_2.out.rr, hng1, hltg1.out⟩ ⟨Ftg2_2.out.rr, hng2, hltg2.out⟩ wfi0
      refine K3.mono ?_
      clear K3
      rintro e w3 ⟨A3, n3, c3, us3, z3, ok3, rfl, s3, r3, b3⟩
      have m3 : n3 ≤ 1048576 := by have := (boundAct r3).1; have := s3.lx; omega
      have Z3 : Hid (w2.heap.size ≤ w3.heap.size) := Lib.hid b3.size
      have B3 : Hid (Below w.heap.size w w3) := Lib.hid (btr B2.out b3)
      have Ftg1_3 := Lib.hid (Ftg1_2.out.up b3)
      clear Ftg1_2
      have Ftg2_3 := Lib.hid (Ftg2_2.out.up b3)
      clear Ftg2_2
      have HR := Lib.hid r3
      clear r3
      have FW_3 := Lib.hid s3
      have LW : Hid (Lies A3 n3 c3 w2.heap.size w3.heap.size) := Lib.hid s3.lt_
      have IW : Hid (∀ t, t < n3 → ∀ k, (sval (us3.getD t sd0)).ownBlock = some k → w2.heap.size ≤ k ∧ k < w3.heap.size) := Lib.hid fun t ht => (s3.row t ht).lt_
      clear s3 b3
      clear Ftg1_3
      clear Ftg2_3
      go_wp2_with fail
      refine (toSS g1A g1n g1c g1v g1x w3 (Hg1.out.up B3.out) hng1 hlg1).mono ?_
      rintro e w4 ⟨A4, c4, us4, rfl, s4, q4, b4⟩
      have Z4 : Hid (w3.heap.size ≤ w4.heap.size) := Lib.hid b4.size
      have B4 : Hid (Below w.heap.size w w4) := Lib.hid (btr B3.out b4)
      have FW_4 := Lib.hid (FW_3.out.up b4)
      clear FW_3
      have Fxg1_4 := Lib.hid s4
      have Lxg1 : Hid (Lies A4 g1n c4 w3.heap.size w4.heap.size) := Lib.hid s4.lt_
      have Ixg1 : Hid (∀ t, t < g1n → ∀ k, (sval (us4.getD t sd0)).ownBlock = some k → w3.heap.size ≤ k ∧ k < w4.heap.size) := Lib.hid fun t ht => (s4.row t ht).lt_
      have Qxg1 := Lib.hid q4
      have hlxg1 : Hid (∀ i, i < g1n → (us4.getD i sd0).2.1 ≤ 1048576) := Lib.hid fun i hi => by rw [q4 i hi]; exact hlg1.out i hi
      clear s4 b4 q4
      go_wp2_with fail
      refine (toSS g2A g2n g2c g2v g2x w4 (Hg2.out.up B4.out) hng2 hlg2).mono ?_
      rintro e w5 ⟨A5, c5, us5, rfl, s5, q5, b5⟩
      have Z5 : Hid (w4.heap.size ≤ w5.heap.size) := Lib.hid b5.size
      have B5 : Hid (Below w.heap.size w w5) := Lib.hid (btr B4.out b5)
      have FW_5 := Lib.hid (FW_4.out.up b5)
      clear FW_4
      have Fxg1_5 := Lib.hid (Fxg1_4.out.up b5)
      clear Fxg1_4
      have Fxg2_5 := Lib.hid s5
      have Lxg2 : Hid (Lies A5 g2n c5 w4.heap.size w5.heap.size) := Lib.hid s5.lt_
      have Ixg2 : Hid (∀ t, t < g2n → ∀ k, (sval (us5.getD t sd0)).ownBlock = some k → w4.heap.size ≤ k ∧ k < w5.heap.size) := Lib.hid fun t ht => (s5.row t ht).lt_
      have Qxg2 := Lib.hid q5
      have hlxg2 : Hid (∀ i, i < g2n → (us5.getD i sd0).2.1 ≤ 1048576) := Lib.hid fun i hi => by rw [q5 i hi]; exact hlg2.out i hi
      clear s5 b5 q5
      go_wp2_with fail
      have K6 := IM i0 A4 g1n c4 us4 g1x A5 g2n c5 us5 g2x w5 ⟨Fxg1_5.out.rr, hng1, hlxg1.out⟩ ⟨Fxg2_5.out.rr, hng2, hlxg2.out⟩ wfi0
      refine K6.mono ?_
      clear K6
      rintro e w6 ⟨A6, n6, c6, us6, z6, ok6, rfl, s6, r6, b6⟩
      have m6 : n6 ≤ 1048576 := by have := (boundAct r6).1; have := s6.lx; omega
      have Z6 : Hid (w5.heap.size ≤ w6.heap.size) := Lib.hid b6.size
      have B6 : Hid (Below w.heap.size w w6) := Lib.hid (btr B5.out b6)
      have FW_6 := Lib.hid (FW_5.out.up b6)
      clear FW_5
      have Fxg1_6 := Lib.hid (Fxg1_5.out.up b6)
      clear Fxg1_5
      have Fxg2_6 := Lib.hid (Fxg2_5.out.up b6)
      clear Fxg2_5
      obtain ⟨e6, f6⟩ := HR.out.uniq r6
      subst e6 f6
      clear r6
      have FG_6 := Lib.hid s6
      have LG : Hid (Lies A6 n6 c6 w5.heap.size w6.heap.size) := Lib.hid s6.lt_
      have IG : Hid (∀ t, t < n6 → ∀ k, (sval (us6.getD t sd0)).ownBlock = some k → w5.heap.size ≤ k ∧ k < w6.heap.size) := Lib.hid fun t ht => (s6.row t ht).lt_
      clear s6 b6
      go_wp2_with fail
      refine (eqRR_same A6 A3 n6 c6 n3 c3 us6 us3 _ w6 FG_6.out.rr FW_6.out.rr (by omega) (Lib.hid fun i hi => (boundAct HR.out).2.1 i (by rw [FG_6.out.lx]; exact hi))).mono ?_
      rintro e w7 ⟨rfl, b7⟩
      have Z7 : Hid (w6.heap.size ≤ w7.heap.size) := Lib.hid b7.size
      have B7 : Hid (Below w.heap.size w w7) := Lib.hid (btr B6.out b7)
      have FW_7 := Lib.hid (FW_6.out.up b7)
      clear FW_6
      have Fxg1_7 := Lib.hid (Fxg1_6.out.up b7)
      clear Fxg1_6
      have Fxg2_7 := Lib.hid (Fxg2_6.out.up b7)
      clear Fxg2_6
      have FG_7 := Lib.hid (FG_6.out.up b7)
      clear FG_6
      clear b7
      go_wp2_with fail
      refine (toSS g1A g1n g1c g1v g1x w7 (Hg1.out.up B7.out) hng1 hlg1).mono ?_
      rintro e w8 ⟨A8, c8, us8, rfl, s8, q8, b8⟩
      have Z8 : Hid (w7.heap.size ≤ w8.heap.size) := Lib.hid b8.size
      have B8 : Hid (Below w.heap.size w w8) := Lib.hid (btr B7.out b8)
      have FW_8 := Lib.hid (FW_7.out.up b8)
      clear FW_7
      have Fxg1_8 := Lib.hid (Fxg1_7.out.up b8)
      clear Fxg1_7
      have Fxg2_8 := Lib.hid (Fxg2_7.out.up b8)
      clear Fxg2_7
      have FG_8 := Lib.hid (FG_7.out.up b8)
      clear FG_7
      have Fyg1_8 := Lib.hid s8
      have Lyg1 : Hid (Lies A8 g1n c8 w7.heap.size w8.heap.size) := Lib.hid s8.lt_
      have Iyg1 : Hid (∀ t, t < g1n → ∀ k, (sval (us8.getD t sd0)).ownBlock = some k → w7.heap.size ≤ k ∧ k < w8.heap.size) := Lib.hid fun t ht => (s8.row t ht).lt_
      have Qyg1 := Lib.hid q8
      have hlyg1 : Hid (∀ i, i < g1n → (us8.getD i sd0).2.1 ≤ 1048576) := Lib.hid fun i hi => by rw [q8 i hi]; exact hlg1.out i hi
      clear s8 b8 q8
      go_wp2_with fail
      refine (eqRR_same A4 A8 g1n c4 g1n c8 us4 us8 _ w8 Fxg1_8.out.rr Fyg1_8.out.rr (by omega) hylg1).mono ?_
      rintro e w9 ⟨rfl, b9⟩
      have Z9 : Hid (w8.heap.size ≤ w9.heap.size) := Lib.hid b9.size
      have B9 : Hid (Below w.heap.size w w9) := Lib.hid (btr B8.out b9)
      have FW_9 := Lib.hid (FW_8.out.up b9)
      clear FW_8
      have Fxg1_9 := Lib.hid (Fxg1_8.out.up b9)
      clear Fxg1_8
      have Fxg2_9 := Lib.hid (Fxg2_8.out.up b9)
      clear Fxg2_8
      have FG_9 := Lib.hid (FG_8.out.up b9)
      clear FG_8
      have Fyg1_9 := Lib.hid (Fyg1_8.out.up b9)
      clear Fyg1_8
      clear b9
      clear Fyg1_9
      go_wp2_with fail
      refine (toSS g2A g2n g2c g2v g2x w9 (Hg2.out.up B9.out) hng2 hlg2).mono ?_
      rintro e w10 ⟨A10, c10, us10, rfl, s10, q10, b10⟩
      have Z10 : Hid (w9.heap.size ≤ w10.heap.size) := Lib.hid b10.size
      have B10 : Hid (Below w.heap.size w w10) := Lib.hid (btr B9.out b10)
      have FW_10 := Lib.hid (FW_9.out.up b10)
      clear FW_9
      have Fxg1_10 := Lib.hid (Fxg1_9.out.up b10)
      clear Fxg1_9
      have Fxg2_10 := Lib.hid (Fxg2_9.out.up b10)
      clear Fxg2_9
      have FG_10 := Lib.hid (FG_9.out.up b10)
      clear FG_9
      have Fyg2_10 := Lib.hid s10
      have Lyg2 : Hid (Lies A10 g2n c10 w9.heap.size w10.heap.size) := Lib.hid s10.lt_
      have Iyg2 : Hid (∀ t, t < g2n → ∀ k, (sval (us10.getD t sd0)).ownBlock = some k → w9.heap.size ≤ k ∧ k < w10.heap.size) := Lib.hid fun t ht => (s10.row t ht).lt_
      have Qyg2 := Lib.hid q10
      have hlyg2 : Hid (∀ i, i < g2n → (us10.getD i sd0).2.1 ≤ 1048576) := Lib.hid fun i hi => by rw [q10 i hi]; exact hlg2.out i hi
      clear s10 b10 q10
      go_wp2_with fail
      refine (eqRR_same A5 A10 g2n c5 g2n c10 us5 us10 _ w10 Fxg2_10.out.rr Fyg2_10.out.rr (by omega) hylg2).mono ?_
      rintro e w11 ⟨rfl, b11⟩
      have Z11 : Hid (w10.heap.size ≤ w11.heap.size) := Lib.hid b11.size
      have B11 : Hid (Below w.heap.size w w11) := Lib.hid (btr B10.out b11)
      have FW_11 := Lib.hid (FW_10.out.up b11)
      clear FW_10
      have Fxg1_11 := Lib.hid (Fxg1_10.out.up b11)
      clear Fxg1_10
      have Fxg2_11 := Lib.hid (Fxg2_10.out.up b11)
      clear Fxg2_10
      have FG_11 := Lib.hid (FG_10.out.up b11)
      clear FG_10
      have Fyg2_11 := Lib.hid (Fyg2_10.out.up b11)
      clear Fyg2_10
      clear b11
      clear Fyg2_11
      have KTx : Hid (tot us4 g1n ≤ 1048576) := Lib.hid (by rw [tot_eq g1n Qxg1.out]; exact KTg1.out)
      go_wp2_with fail
      refine (markSS A4 g1n c4 _ _ us4 _ w11 Fxg1_11.out (by omega) KTx).mono ?_
      rintro e w12 ⟨rfl, s12, o12⟩
      have Z12 : Hid (w11.heap.size ≤ w12.heap.size) := Lib.hid o12.size
      have B12 : Hid (Below w.heap.size w w12) := Lib.hid (B11.out.trans (o12.below B11.out.size (fun t ht k e => by have h2 := Ixg1.out t ht k e; have := Z1.out; have := Z2.out; have := Z3.out; have := Z4.out; have := Z5.out; have := Z6.out; have := Z7.out; have := Z8.out; have := Z9.out; have := Z10.out; have := Z11.out; have := Z12.out; omega)))
      have FW_12 := Lib.hid (FW_11.out.only2 o12 (fun k hk t ht e => by have h1 := LW.out k hk; have h2 := Ixg1.out t ht k e; have := Z1.out; have := Z2.out; have := Z3.out; have := Z4.out; have := Z5.out; have := Z6.out; have := Z7.out; have := Z8.out; have := Z9.out; have := Z10.out; have := Z11.out; have := Z12.out; omega) (fun s hs k hk t ht e => by have h1 := IW.out s hs k hk; have h2 := Ixg1.out t ht k e; have := Z1.out; have := Z2.out; have := Z3.out; have := Z4.out; have := Z5.out; have := Z6.out; have := Z7.out; have := Z8.out; have := Z9.out; have := Z10.out; have := Z11.out; have := Z12.out; omega))
      clear FW_11
      have Fxg1_12 := Lib.hid s12
      clear Fxg1_11
      have Fxg2_12 := Lib.hid (Fxg2_11.out.only2 o12 (fun k hk t ht e => by have h1 := Lxg2.out k hk; have h2 := Ixg1.out t ht k e; have := Z1.out; have := Z2.out; have := Z3.out; have := Z4.out; have := Z5.out; have := Z6.out; have := Z7.out; have := Z8.out; have := Z9.out; have := Z10.out; have := Z11.out; have := Z12.out; omega) (fun s hs k hk t ht e => by have h1 := Ixg2.out s hs k hk; have h2 := Ixg1.out t ht k e; have := Z1.out; have := Z2.out; have := Z3.out; have := Z4.out; have := Z5.out; have := Z6.out; have := Z7.out; have := Z8.out; have := Z9.out; have := Z10.out; have := Z11.out; have := Z12.out; omega))
      clear Fxg2_11
      have FG_12 := Lib.hid (FG_11.out.only2 o12 (fun k hk t ht e => by have h1 := LG.out k hk; have h2 := Ixg1.out t ht k e; have := Z1.out; have := Z2.out; have := Z3.out; have := Z4.out; have := Z5.out; have := Z6.out; have := Z7.out; have := Z8.out; have := Z9.out; have := Z10.out; have := Z11.out; have := Z12.out; omega) (fun s hs k hk t ht e => by have h1 := IG.out s hs k hk; have h2 := Ixg1.out t ht k e; have := Z1.out; have := Z2.out; have := Z3.out; have := Z4.out; have := Z5.out; have := Z6.out; have := Z7.out; have := Z8.out; have := Z9.out; have := Z10.out; have := Z11.out; have := Z12.out; omega))
      clear FG_11
      clear s12 o12
      obtain ⟨T, eT⟩ : ∃ T, tot us4 g1n = T := ⟨_, rfl⟩
      have hT9 : T ≤ 1048576 := by rw [← eT]; exact KTx.out
      rw [eT]
      clear eT
      have KTy : Hid (tot us5 g2n ≤ 1048576) := Lib.hid (by rw [tot_eq g2n Qxg2.out]; exact KTg2.out)
      go_wp2_with fail
      refine (markSSk T A5 g2n c5 _ _ us5 _ w12 Fxg2_12.out (by omega) KTy (by omega)).mono ?_
      rintro e w13 ⟨X, hX9, eX, rfl, s13, o13⟩
      have Z13 : Hid (w12.heap.size ≤ w13.heap.size) := Lib.hid o13.size
      have B13 : Hid (Below w.heap.size w w13) := Lib.hid (B12.out.trans (o13.below B12.out.size (fun t ht k e => by have h2 := Ixg2.out t ht k e; have := Z1.out; have := Z2.out; have := Z3.out; have := Z4.out; have := Z5.out; have := Z6.out; have := Z7.out; have := Z8.out; have := Z9.out; have := Z10.out; have := Z11.out; have := Z12.out; have := Z13.out; omega)))
      have FW_13 := Lib.hid (FW_12.out.only2 o13 (fun k hk t ht e => by have h1 := LW.out k hk; have h2 := Ixg2.out t ht k e; have := Z1.out; have := Z2.out; have := Z3.out; have := Z4.out; have := Z5.out; have := Z6.out; have := Z7.out; have := Z8.out; have := Z9.out; have := Z10.out; have := Z11.out; have := Z12.out; have := Z13.out; omega) (fun s hs k hk t ht e => by have h1 := IW.out s hs k hk; have h2 := Ixg2.out t ht k e; have := Z1.out; have := Z2.out; have := Z3.out; have := Z4.out; have := Z5.out; have := Z6.out; have := Z7.out; have := Z8.out; have := Z9.out; have := Z10.out; have := Z11.out; have := Z12.out; have := Z13.out; omega))
      clear FW_12
      have Fxg1_13 := Lib.hid (Fxg1_12.out.only2 o13 (fun k hk t ht e => by have h1 := Lxg1.out k hk; have h2 := Ixg2.out t ht k e; have := Z1.out; have := Z2.out; have := Z3.out; have := Z4.out; have := Z5.out; have := Z6.out; have := Z7.out; have := Z8.out; have := Z9.out; have := Z10.out; have := Z11.out; have := Z12.out; have := Z13.out; omega) (fun s hs k hk t ht e => by have h1 := Ixg1.out s hs k hk; have h2 := Ixg2.out t ht k e; have := Z1.out; have := Z2.out; have := Z3.out; have := Z4.out; have := Z5.out; have := Z6.out; have := Z7.out; have := Z8.out; have := Z9.out; have := Z10.out; have := Z11.out; have := Z12.out; have := Z13.out; omega))
      clear Fxg1_12
      have Fxg2_13 := Lib.hid s13
      clear Fxg2_12
      have FG_13 := Lib.hid (FG_12.out.only2 o13 (fun k hk t ht e => by have h1 := LG.out k hk; have h2 := Ixg2.out t ht k e; have := Z1.out; have := Z2.out; have := Z3.out; have := Z4.out; have := Z5.out; have := Z6.out; have := Z7.out; have := Z8.out; have := Z9.out; have := Z10.out; have := Z11.out; have := Z12.out; have := Z13.out; omega) (fun s hs k hk t ht e => by have h1 := IG.out s hs k hk; have h2 := Ixg2.out t ht k e; have := Z1.out; have := Z2.out; have := Z3.out; have := Z4.out; have := Z5.out; have := Z6.out; have := Z7.out; have := Z8.out; have := Z9.out; have := Z10.out; have := Z11.out; have := Z12.out; have := Z13.out; omega))
      clear FG_12
      clear s13 o13
      go_wp2_with fail
      refine (eqRR_same A6 A3 n6 c6 n3 c3 us6 us3 _ w13 FG_13.out.rr FW_13.out.rr (by omega) (Lib.hid fun i hi => (boundAct HR.out).2.1 i (by rw [FG_13.out.lx]; exact hi))).mono ?_
      rintro e w14 ⟨rfl, b14⟩
      have Z14 : Hid (w13.heap.size ≤ w14.heap.size) := Lib.hid b14.size
      have B14 : Hid (Below w.heap.size w w14) := Lib.hid (btr B13.out b14)
      have FW_14 := Lib.hid (FW_13.out.up b14)
      clear FW_13
      have Fxg1_14 := Lib.hid (Fxg1_13.out.up b14)
      clear Fxg1_13
      have Fxg2_14 := Lib.hid (Fxg2_13.out.up b14)
      clear Fxg2_13
      have FG_14 := Lib.hid (FG_13.out.up b14)
      clear FG_13
      clear b14
      clear Fxg1_14
      clear Fxg2_14
      have KG : Hid (tot us6 n6 ≤ 1048576) := Lib.hid (by
        have h9 := (boundAct HR.out).2.2
        rw [FG_14.out.tot_sum]; exact h9)
      go_wp2_with fail
      refine (markSS A6 n6 c6 _ _ us6 _ w14 FG_14.out (by omega) KG).mono ?_
      rintro e w15 ⟨rfl, s15, o15⟩
      have Z15 : Hid (w14.heap.size ≤ w15.heap.size) := Lib.hid o15.size
      have B15 : Hid (Below w.heap.size w w15) := Lib.hid (B14.out.trans (o15.below B14.out.size (fun t ht k e => by have h2 := IG.out t ht k e; have := Z1.out; have := Z2.out; have := Z3.out; have := Z4.out; have := Z5.out; have := Z6.out; have := Z7.out; have := Z8.out; have := Z9.out; have := Z10.out; have := Z11.out; have := Z12.out; have := Z13.out; have := Z14.out; have := Z15.out; omega)))
      have FW_15 := Lib.hid (FW_14.out.only2 o15 (fun k hk t ht e => by have h1 := LW.out k hk; have h2 := IG.out t ht k e; have := Z1.out; have := Z2.out; have := Z3.out; have := Z4.out; have := Z5.out; have := Z6.out; have := Z7.out; have := Z8.out; have := Z9.out; have := Z10.out; have := Z11.out; have := Z12.out; have := Z13.out; have := Z14.out; have := Z15.out; omega) (fun s hs k hk t ht e => by have h1 := IW.out s hs k hk; have h2 := IG.out t ht k e; have := Z1.out; have := Z2.out; have := Z3.out; have := Z4.out; have := Z5.out; have := Z6.out; have := Z7.out; have := Z8.out; have := Z9.out; have := Z10.out; have := Z11.out; have := Z12.out; have := Z13.out; have := Z14.out; have := Z15.out; omega))
      clear FW_14
      have FG_15 := Lib.hid s15
      clear FG_14
      clear s15 o15
      obtain ⟨U, eU⟩ : ∃ U, tot us6 n6 = U := ⟨_, rfl⟩
      have EU := Lib.hid eU
      have hU9 : U ≤ 1048576 := by rw [← eU]; exact KG.out
      rw [eU]
      clear eU
      go_wp2_with fail
      refine (heldSS A6 n6 c6 _ _ us6 w15 FG_15.out (by omega) KG).mono ?_
      rintro e w' ⟨rfl, rfl⟩
      rw [EU.out]
      go_wp2_with fail
      refine (toSS g1A g1n g1c g1v g1x w15 (Hg1.out.up B15.out) hng1 hlg1).mono ?_
      rintro e w16 ⟨A16, c16, us16, rfl, s16, q16, b16⟩
      have Z16 : Hid (w15.heap.size ≤ w16.heap.size) := Lib.hid b16.size
      have B16 : Hid (Below w.heap.size w w16) := Lib.hid (btr B15.out b16)
      have FW_16 := Lib.hid (FW_15.out.up b16)
      clear FW_15
      have FG_16 := Lib.hid (FG_15.out.up b16)
      clear FG_15
      have Fzg1_16 := Lib.hid s16
      have Lzg1 : Hid (Lies A16 g1n c16 w15.heap.size w16.heap.size) := Lib.hid s16.lt_
      have Izg1 : Hid (∀ t, t < g1n → ∀ k, (sval (us16.getD t sd0)).ownBlock = some k → w15.heap.size ≤ k ∧ k < w16.heap.size) := Lib.hid fun t ht => (s16.row t ht).lt_
      have Qzg1 := Lib.hid q16
      have hlzg1 : Hid (∀ i, i < g1n → (us16.getD i sd0).2.1 ≤ 1048576) := Lib.hid fun i hi => by rw [q16 i hi]; exact hlg1.out i hi
      clear s16 b16 q16
      go_wp2_with fail
      refine (toSS g2A g2n g2c g2v g2x w16 (Hg2.out.up B16.out) hng2 hlg2).mono ?_
      rintro e w17 ⟨A17, c17, us17, rfl, s17, q17, b17⟩
      have Z17 : Hid (w16.heap.size ≤ w17.heap.size) := Lib.hid b17.size
      have B17 : Hid (Below w.heap.size w w17) := Lib.hid (btr B16.out b17)
      have FW_17 := Lib.hid (FW_16.out.up b17)
      clear FW_16
      have FG_17 := Lib.hid (FG_16.out.up b17)
      clear FG_16
      have Fzg1_17 := Lib.hid (Fzg1_16.out.up b17)
      clear Fzg1_16
      have Fzg2_17 := Lib.hid s17
      have Lzg2 : Hid (Lies A17 g2n c17 w16.heap.size w17.heap.size) := Lib.hid s17.lt_
      have Izg2 : Hid (∀ t, t < g2n → ∀ k, (sval (us17.getD t sd0)).ownBlock = some k → w16.heap.size ≤ k ∧ k < w17.heap.size) := Lib.hid fun t ht => (s17.row t ht).lt_
      have Qzg2 := Lib.hid q17
      have hlzg2 : Hid (∀ i, i < g2n → (us17.getD i sd0).2.1 ≤ 1048576) := Lib.hid fun i hi => by rw [q17 i hi]; exact hlg2.out i hi
      clear s17 b17 q17
      go_wp2_with fail
      have K18 := IM i0 A16 g1n c16 us16 g1x A17 g2n c17 us17 g2x w17 ⟨Fzg1_17.out.rr, hng1, hlzg1.out⟩ ⟨Fzg2_17.out.rr, hng2, hlzg2.out⟩ wfi0
      refine K18.mono ?_
      clear K18
      rintro e w18 ⟨A18, n18, c18, us18, z18, ok18, rfl, s18, r18, b18⟩
      have m18 : n18 ≤ 1048576 := by have := (boundAct r18).1; have := s18.lx; omega
      have Z18 : Hid (w17.heap.size ≤ w18.heap.size) := Lib.hid b18.size
      have B18 : Hid (Below w.heap.size w w18) := Lib.hid (btr B17.out b18)
      have FW_18 := Lib.hid (FW_17.out.up b18)
      clear FW_17
      have FG_18 := Lib.hid (FG_17.out.up b18)
      clear FG_17
      have Fzg1_18 := Lib.hid (Fzg1_17.out.up b18)
      clear Fzg1_17
      have Fzg2_18 := Lib.hid (Fzg2_17.out.up b18)
      clear Fzg2_17
      obtain ⟨e18, f18⟩ := HR.out.uniq r18
      subst e18 f18
      clear r18
      have FH_18 := Lib.hid s18
      have LH : Hid (Lies A18 n18 c18 w17.heap.size w18.heap.size) := Lib.hid s18.lt_
      have IH : Hid (∀ t, t < n18 → ∀ k, (sval (us18.getD t sd0)).ownBlock = some k → w17.heap.size ≤ k ∧ k < w18.heap.size) := Lib.hid fun t ht => (s18.row t ht).lt_
      clear s18 b18
      clear Fzg1_18
      clear Fzg2_18
      go_wp2_with fail
      refine (eqRR_same A18 A3 n18 c18 n3 c3 us18 us3 _ w18 FH_18.out.rr FW_18.out.rr (by omega) (Lib.hid fun i hi => (boundAct HR.out).2.1 i (by rw [FH_18.out.lx]; exact hi))).mono ?_
      rintro e w19 ⟨rfl, b19⟩
      have Z19 : Hid (w18.heap.size ≤ w19.heap.size) := Lib.hid b19.size
      have B19 : Hid (Below w.heap.size w w19) := Lib.hid (btr B18.out b19)
      have FW_19 := Lib.hid (FW_18.out.up b19)
      clear FW_18
      have FG_19 := Lib.hid (FG_18.out.up b19)
      clear FG_18
      have FH_19 := Lib.hid (FH_18.out.up b19)
      clear FH_18
      clear b19
      go_wp2_with fail
      refine (heldSS A6 n6 c6 _ _ us6 w19 FG_19.out (by omega) KG).mono ?_
      rintro e w' ⟨rfl, rfl⟩
      rw [EU.out]
      go_wp2_with fail
      go_ret
      exact ⟨rfl, B19.out⟩
    · skip
      have HT1 := Lib.hid hT1
      clear hT0 hT1
      go_enter Try.func4, Try.ntmps4
      go_wp2_with fail
      have K0 := szSS2 g1A g1n g1c 1048576 g1v g1x w Hg1.out hmg1 hkg1 (by decide) (by decide)
      refine K0.mono ?_
      rintro e w0 ⟨rfl, rfl⟩
      clear K0
      rw [if_pos HT0.out]
      rw [EL1.out]
      go_wp2_with fail
      have K0 := szSS2 g2A g2n g2c L1 g2v g2x w Hg2.out hmg2 hkg2 hl1.1 hl1.2
      refine K0.mono ?_
      rintro e w0 ⟨rfl, rfl⟩
      clear K0
      rw [if_neg (Int.not_le.2 HT1.out)]
      go_wp2
      go_ret
      exact ⟨rfl, Below.refl _ _⟩
  · skip
    have HT0 := Lib.hid hT0
    clear hT0
    go_enter Try.func4, Try.ntmps4
    go_wp2_with fail
    have K0 := szSS2 g1A g1n g1c 1048576 g1v g1x w Hg1.out hmg1 hkg1 (by decide) (by decide)
    refine K0.mono ?_
    rintro e w0 ⟨rfl, rfl⟩
    clear K0
    rw [if_neg (Int.not_le.2 HT0.out)]
    go_wp2
    go_ret
    exact ⟨rfl, Below.refl _ _⟩
end Go.Proofs.Ytedfcljikgmpgaa

/- mergeLabels, labelsToBlocks and minimalBlocks of the model. Conditions: at most 20 points, 8 generators. -/
namespace Go.Proofs.Ytedfcljikgmpgaa
open Go.RowKit

def mrgL (ls : List Int) (a b : Int) : List Int := ls.map fun x => if x = b then a else x
theorem mrgL_len {ls : List Int} {a b : Int} : (mrgL ls a b).length = ls.length := by simp [mrgL]
theorem mrgL_getD {ls : List Int} {a b : Int} {u : Nat} (h : u < ls.length) : (mrgL ls a b).getD u 0 = if ls.getD u 0 = b then a else ls.getD u 0 := by
  rw [getD_eq (by rw [mrgL_len]; exact h), getD_eq h]; simp [mrgL]
/-- Labels of the points: points themselves. -/
structure Lbl (N : Nat) (ls : List Int) : Prop where
  len : ls.length = N
  lo : ∀ u, u < N → 0 ≤ ls.getD u 0
  hi : ∀ u, u < N → ls.getD u 0 < N
section
variable {N u v : Nat} {ls : List Int}
theorem Lbl.val (h : Lbl N ls) (hu : u < N) : ls.getD u 0 = (nx ls u : Int) := by
  have := h.lo u hu
  unfold nx; omega
theorem Lbl.lt (h : Lbl N ls) (hu : u < N) : nx ls u < N := by
  have h1 := h.val hu
  have := h.hi u hu
  omega
theorem Lbl.eq (h : Lbl N ls) (hu : u < N) (hv : v < N) : ls.getD u 0 = ls.getD v 0 ↔ nx ls u = nx ls v := by
  rw [h.val hu, h.val hv]; omega
theorem lbl_id (N : Nat) : Lbl N (idL N) := ⟨idL_length N, fun u hu => by rw [idL_getD hu]; omega, fun u hu => by rw [idL_getD hu]; omega⟩
theorem Lbl.mrg (h : Lbl N ls) {a b : Nat} (ha : a < N) : Lbl N (mrgL ls (a : Int) (b : Int)) ∧ ∀ u, u < N → nx (mrgL ls (a : Int) (b : Int)) u = if nx ls u = b then a else nx ls u := by
  have key : ∀ u, u < N → (mrgL ls (a : Int) (b : Int)).getD u 0 = ((if nx ls u = b then a else nx ls u : Nat) : Int) := fun u hu => by
    rw [mrgL_getD (by rw [h.len]; exact hu), h.val hu]
    by_cases e : nx ls u = b
    · rw [if_pos (by omega), if_pos e]
    · rw [if_neg (by omega), if_neg e]
  refine ⟨⟨by rw [mrgL_len]; exact h.len, fun u hu => ?_, fun u hu => ?_⟩, fun u hu => ?_⟩
  · rw [key u hu]; omega
  · rw [key u hu]
    have := h.lt hu
    split <;> omega
  · unfold nx
    rw [key u hu]
    rfl
end

set_option maxHeartbeats 2000000 in
set_option maxRecDepth 100000 in
/-- mergeLabels. -/
theorem specMrg (N c : Nat) (A : Option Addr) (ls : List Int) (a b : Int) (w : World) (hp : RI w w.heap.size A ls) (lp : Hid (ls.length = N)) (h1 : 1 ≤ N) (h2 : N ≤ 20) :
    Calls Try.prog 67 #[.slice A N c, .int .i64 a, .int .i64 b] w fun e w' => ∃ A' c', e = .returned (.slice A' N c') ∧ Slc w' w.heap.size A' N c' (mrgL ls a b) ∧ Below w.heap.size w w' := by
  have HP := Lib.hid hp
  clear hp
  go_enter Try.func67, Try.ntmps67
  go_wp2_with fail
  refine (copyAny A N c ls w HP.out lp (by omega)).mono ?_
  rintro e w1 ⟨A1, c1, rfl, s1, b1⟩
  obtain ⟨g, rfl, hg1, hg2⟩ : ∃ g, A1 = some ⟨g, 0, none⟩ ∧ w.heap.size ≤ g ∧ g < w1.heap.size := by
    rcases s1.at_ with ⟨_, _, e, _⟩ | x
    · omega
    · exact x
  have R1 : Hid (Row w1 w.heap.size g N c1 ls) := Lib.hid (by
    exact Row.of_own s1.2)
  have B1 := Lib.hid b1
  clear s1 b1
  go_wp2_with fail
  go_loopw [8] (fun iv wr => ∃ (i : Nat) (zs : List Int), i ≤ N ∧ iv = .int .i64 (i : Nat) ∧ Row wr w.heap.size g N c1 zs ∧ (∀ j, j < N → zs.getD j 0 = if j < i then (mrgL ls a b).getD j 0 else ls.getD j 0) ∧ Below w.heap.size w wr) (fun iv _ => N - (intOf iv).toNat)
  case atStart => exact ⟨0, ls, Nat.zero_le _, rfl, R1.out, fun j _ => by rw [if_neg (Nat.not_lt_zero _)], B1.out⟩
  case round =>
    clear R1 B1
    obtain ⟨i, zs, hi, rfl, hr, hz, bel⟩ := hrel
    have Rr := Lib.hid hr
    have Hz := Lib.hid hz
    have Be := Lib.hid bel
    clear hr hz bel
    by_cases hlt : i < N
    · have c1 := Rr.out.cell hlt
      have f1 := Rr.out.free i
      have e1 := Hz.out i hlt
      rw [if_neg (Nat.lt_irrefl _)] at e1
      obtain ⟨x, ex⟩ : ∃ x, ls.getD i 0 = x := ⟨_, rfl⟩
      rw [e1, ex] at c1
      have Ex := Lib.hid ex
      have q0 : (0 : Int) ≤ i := by omega
      have q1 : (i : Int) < N := by omega
      have mi : Hid ((mrgL ls a b).getD i 0 = if x = b then a else x) := Lib.hid (by rw [mrgL_getD (by rw [lp.out]; exact hlt), ex])
      clear e1 ex
      by_cases hxb : x = b
      · have d0 : (x == b) = true := by simpa using hxb
        have R2 := Lib.hid (Rr.out.store i a)
        have B2 : Hid (Below w.heap.size w (wr.setCell ⟨g, i, none⟩ (.int .i64 a))) := Lib.hid (Be.out.setCell (p := ⟨g, i, none⟩) hg1 _)
        have Z2 : Hid (∀ j, j < N → (zs.set i a).getD j 0 = if j < i + 1 then (mrgL ls a b).getD j 0 else ls.getD j 0) := Lib.hid fun j hj => by
          rw [set_getD Rr.out.1 hj]
          by_cases e : i = j
          · subst e; rw [if_pos rfl, if_pos (by omega), mi.out, if_pos hxb]
          · rw [if_neg e, Hz.out j hj]
            by_cases e2 : j < i
            · rw [if_pos e2, if_pos (by omega)]
            · rw [if_neg e2, if_neg (by omega)]
        clear hxb
        go_wp2_with fail
        go_roundw
        case rel => exact ⟨i + 1, _, by omega, by go_num, R2.out, Z2.out, B2.out⟩
        case measure => simp [intOf]; omega
      · have d0 : (x == b) = false := by simpa using hxb
        have Z2 : Hid (∀ j, j < N → zs.getD j 0 = if j < i + 1 then (mrgL ls a b).getD j 0 else ls.getD j 0) := Lib.hid fun j hj => by
          rw [Hz.out j hj]
          by_cases e : i = j
          · subst e; rw [if_neg (Nat.lt_irrefl _), if_pos (by omega), mi.out, if_neg hxb, Ex.out]
          · by_cases e2 : j < i
            · rw [if_pos e2, if_pos (by omega)]
            · rw [if_neg e2, if_neg (by omega)]
        clear hxb
        go_wp2_with fail
        go_roundw
        case rel => exact ⟨i + 1, zs, by omega, by go_num, Rr.out, Z2.out, Be.out⟩
        case measure => simp [intOf]; omega
    · obtain rfl : i = N := by omega
      have Fin : Hid (zs = mrgL ls a b) := Lib.hid (ext_getD Rr.out.1 (by rw [mrgL_len]; exact lp.out) fun j hj => by rw [Hz.out j hj, if_pos hj])
      go_wp2_with fail
      go_ret
      exact ⟨_, _, rfl, by rw [← Fin.out]; exact Rr.out.slc, Be.out⟩

theorem SS.keptT {w w' : World} {bo bi n c : Nat} {A : Option Addr} {vs : List SV} {xss : List (List Int)} {row : Option Nat} (h : SS w bo bi A n c vs xss) (hg : w.grownBy w' row)
    (ho : (Value.slice A n c).ownBlock = none ∨ (Value.slice A n c).ownBlock ≠ row) (hr : ∀ i, i < n → (sval (vs.getD i sd0)).ownBlock = none ∨ (sval (vs.getD i sd0)).ownBlock ≠ row) : SS w' bo bi A n c vs xss :=
  ⟨World.ownsRow.kept h.own hg ho, h.lv, h.lx, fun i hi' => (h.row i hi').kept hg (hr i hi'), h.dis⟩
theorem apart_flip {a b : Option Nat} (h : a = none ∨ a ≠ b) : b = none ∨ b ≠ a := by
  rcases b with _ | b
  · exact .inl rfl
  · refine .inr fun e => ?_
    rcases h with h | h
    · rw [h] at e; cases e
    · exact h e.symm
/-- append of one number, and where the row lies behind it. -/
theorem wpList_app1_at {w : World} {ops : Array Oper} {rest : List Oper} {o : Oper} {a : Act} {Q : Exit → Act → World → Prop} (hgd : o.guard = none) (s x : Operand)
    (ho : o.op = .call { callee := .builtin .append, args := #[s, x], argTypes := #[48, 48] })
    (base : Nat) (A : Option Addr) (n c : Nat) (xs : List Int) (hs : a.eval s = .slice A n c) (hown : Slc w base A n c xs) (g : Nat) (u : Int) (hx : a.eval x = .slice (some ⟨g, 0, none⟩) 1 1)
    (hcell : w.cell? ⟨g, 0, none⟩ = some (.int .i64 u)) (hn : n ≤ 1000000000000) (hbase : base ≤ w.heap.size)
    (h : ∀ A' c' w', Slc w' base A' (n + 1) c' (xs ++ [u]) → w.grownBy w' (Value.slice A n c).ownBlock → ((Value.slice A' (n + 1) c').ownBlock = (Value.slice A n c).ownBlock ∨ (Value.slice A' (n + 1) c').ownBlock = some w.heap.size) → wpList Try.prog ops Q rest (a.put o.dst (.slice A' (n + 1) c')) w') : wpList Try.prog ops Q (o :: rest) a w := by
  obtain ⟨i0, hi, hz0, hz1, hz2⟩ := info_parts infoI
  obtain ⟨hl, ho'⟩ := hown
  subst hl
  refine wpList_append_own_at w hgd s x 48 ho base 2 i0 (.int .i64 0) 1 8 Try.underlying48 hi hz0 hz1 hz2 rfl (by decide) _ xs.length _ hs ho' ⟨g, 0, none⟩ 1 1 [.int .i64 u] hx rfl ?_ ?_ ?_ (by omega) hbase ?_
  · intro j v hj
    match j, hj with
    | 0, hj => simp at hj; subst hj; simpa [Addr.add] using hcell
    | j + 1, hj => simp at hj
  · intro v hv; simp at hv; subst hv; rfl
  · unfold maxLen; omega
  · intro v' w' hown' hg _ hat
    have hO : Own w' base v' (xs ++ [u]) := by
      unfold Own
      rw [List.length_append, List.map_append]
      exact hown'
    obtain ⟨A', c', rfl, hS⟩ := Slc.of_own (n := xs.length + 1) hO (by simp)
    exact h A' c' w' hS hg hat

set_option maxHeartbeats 4000000 in
set_option maxRecDepth 100000 in
/-- labelsToBlocks. -/
theorem specL2B (N c : Nat) (A : Option Addr) (ls : List Int) (w : World) (hp : RI w w.heap.size A ls) (hL : Hid (Lbl N ls)) (h1 : 1 ≤ N) (h2 : N ≤ 20) :
    Calls Try.prog 68 #[.slice A N c] w fun e w' => ∃ A' n' c' us, e = .returned (.slice A' n' c') ∧ SS w' w.heap.size w.heap.size A' n' c' us (canon N (nx ls)) ∧ Below w.heap.size w w' := by
  have HP := Lib.hid hp
  clear hp
  have S0 : Hid (SS ((w.alloc (.cells #[] 48)).alloc (.cells #[] 2)) w.heap.size w.heap.size (some ⟨w.heap.size, 0, none⟩) 0 0 [] []) := Lib.hid ((SS.lit0 w _ _ (Nat.le_refl _)).alloc _)
  have D0 : Hid (Slc ((w.alloc (.cells #[] 48)).alloc (.cells #[] 2)) w.heap.size (some ⟨w.heap.size + 1, 0, none⟩) 0 0 []) := Lib.hid (by
    have := Slc.lit0 (w.alloc (.cells #[] 48)) w.heap.size (by simp)
    simpa using this)
  have B0 : Hid (Below w.heap.size w ((w.alloc (.cells #[] 48)).alloc (.cells #[] 2))) := Lib.hid (((Below.refl _ _).alloc (Nat.le_refl _) _).alloc (by simp) _)
  go_enter Try.func68, Try.ntmps68
  go_wp2_with fail
  go_loopw [3, 4, 5] (fun ov dv xv wr => ∃ (x k c1 m c2 : Nat) (O D : Option Addr) (us : List SV) (ds : List Int), x ≤ N ∧ k ≤ 20 ∧ m ≤ x ∧ xv = .int .i64 (x : Nat) ∧ ov = .slice O k c1 ∧ dv = .slice D m c2 ∧ SS wr w.heap.size w.heap.size O k c1 us (cnB (nx ls) N x) ∧ Slc wr w.heap.size D m c2 ds ∧ (∀ t, t < k → (sval (us.getD t sd0)).ownBlock = none ∨ (sval (us.getD t sd0)).ownBlock ≠ (Value.slice D m c2).ownBlock) ∧ (∀ v, v ∈ ds ↔ ∃ h, h < x ∧ fstB (nx ls) h = true ∧ v = (nx ls h : Int)) ∧ Below w.heap.size w wr) (fun _ _ xv _ => N - (intOf xv).toNat)
  case atStart => exact ⟨0, 0, 0, 0, 0, _, _, [], [], Nat.zero_le _, by omega, Nat.le_refl _, rfl, rfl, rfl, S0.out, D0.out, fun t h => absurd h (Nat.not_lt_zero _), fun v => ⟨fun h => (by cases h), fun ⟨h, a, _⟩ => absurd a (Nat.not_lt_zero _)⟩, B0.out⟩
  case round =>
    clear S0 D0 B0
    obtain ⟨x, k, c1, m, c2, O, D, us, ds, hx, hk, hm, rfl, rfl, rfl, hss, hds, hap, hmem, bel⟩ := hrel
    have Ss := Lib.hid hss
    have Ds := Lib.hid hds
    have Ap := Lib.hid hap
    have Mem := Lib.hid hmem
    have Be := Lib.hid bel
    have hz := bel.size
    clear hss hds hap hmem bel
    by_cases hlt : x < N
    · obtain ⟨bz, oz, rfl, hbz, hc⟩ := (HP.out.up Be.out) (by rw [hL.out.len]; omega)
      have zx := hc x (by rw [hL.out.len]; exact hlt)
      rw [hL.out.val hlt] at zx
      obtain ⟨X, eX⟩ : ∃ X, nx ls x = X := ⟨_, rfl⟩
      rw [eX] at zx
      have EX := Lib.hid eX
      have q0 : (0 : Int) ≤ x := by omega
      have q1 : (x : Int) < N := by omega
      clear hc eX hbz
      rcases hf : fstB (nx ls) x with _ | _
      · have Ha : Hid (hasB ds (X : Int) = true) := Lib.hid (hasB_mem.2 ((Mem.out _).2 (by
          have : ∃ y, y < x ∧ nx ls y = nx ls x := Classical.byContradiction fun hn => by
            rw [fstB_iff.2 fun y hy e => hn ⟨y, hy, e⟩] at hf; cases hf
          obtain ⟨y, hy, e⟩ := this
          obtain ⟨h, a, b, c⟩ := fst_ex (nx ls) y
          exact ⟨h, by omega, b, by rw [c, e, EX.out]⟩)))
        have Cn := Lib.hid (cnB_no (N := N) hf)
        have Mem2 : Hid (∀ v, v ∈ ds ↔ ∃ h, h < x + 1 ∧ fstB (nx ls) h = true ∧ v = (nx ls h : Int)) := Lib.hid fun v => by
          rw [Mem.out v]
          constructor
          · rintro ⟨h, a, b⟩; exact ⟨h, by omega, b⟩
          · rintro ⟨h, a, b, c⟩
            refine ⟨h, ?_, b, c⟩
            by_cases e : h = x
            · subst e; rw [hf] at b; cases b
            · omega
        clear hf
        go_wp2_with (first
          | (go_at_call 84; refine (containsI_any D c2 m ds _ wr wr.heap.size Ds.out.ri_ (Lib.hid Ds.out.1) (by omega) true Ha).mono ?_; rintro e w' ⟨rfl, rfl⟩)
          | go_in)
        go_roundw
        case rel => exact ⟨x + 1, k, c1, m, c2, O, D, us, ds, by omega, hk, by omega, by go_num, rfl, rfl, by rw [Cn.out]; exact Ss.out, Ds.out, Ap.out, Mem2.out, Be.out⟩
        case measure => simp [intOf]; omega
      · have Ha : Hid (hasB ds (X : Int) = false) := Lib.hid (by
          rcases hq : hasB ds (X : Int) with _ | _
          · rfl
          · obtain ⟨h, a, b, c⟩ := (Mem.out _).1 (hasB_mem.1 hq)
            exact absurd (by rw [EX.out]; omega) (fstB_iff.1 hf h a))
        have Cy := Lib.hid (cnB_yes (N := N) hf)
        have Pe : Hid (ptsL (fun y => decide (nx ls y = X)) x = []) := Lib.hid (List.eq_nil_iff_forall_not_mem.2 fun v hv => by
          obtain ⟨y, hy, _, e⟩ := mem_ptsL.1 hv
          have e := of_decide_eq_true e
          exact fstB_iff.1 hf y hy (by rw [e, EX.out]))
        have Blk' : Hid (blkL (nx ls) N x = ptsL (fun y => decide (nx ls y = X)) N) := Lib.hid (by unfold blkL; rw [EX.out])
        have hk19 : Hid (k + 1 ≤ 20) := Lib.hid (by
          have h5 := cnB_len (r := nx ls) (N := N) (x + 1)
          rw [Cy.out, List.length_append, Ss.out.lx] at h5
          have h6 := List.length_filter_le (fstB (nx ls)) (List.range (x + 1))
          rw [List.length_range] at h6
          simp at h5
          omega)
        have Mem2 : Hid (∀ v, v ∈ ds ++ [(X : Int)] ↔ ∃ h, h < x + 1 ∧ fstB (nx ls) h = true ∧ v = (nx ls h : Int)) := Lib.hid fun v => by
          rw [List.mem_append, Mem.out v, List.mem_singleton]
          constructor
          · rintro (⟨h, a, b⟩ | rfl)
            · exact ⟨h, by omega, b⟩
            · exact ⟨x, by omega, hf, by rw [EX.out]⟩
          · rintro ⟨h, a, b, c⟩
            by_cases e : h = x
            · subst e; exact .inr (by rw [c, EX.out])
            · exact .inl ⟨h, by omega, b, c⟩
        clear hf
        go_wp2_with (first
          | (go_at_call 84; refine (containsI_any D c2 m ds _ wr wr.heap.size Ds.out.ri_ (Lib.hid Ds.out.1) (by omega) false Ha).mono ?_; rintro e w' ⟨rfl, rfl⟩)
          | (at_builtin; refine wpList_app1_at rfl _ _ rfl w.heap.size D m c2 ds rfl (Ds.out.alloc _) wr.heap.size X rfl (by rw [World.cell?_alloc_at _ _ _ _ rfl]; rfl) (by omega) (by simp; omega) ?_; intro D3 c3 w3 s3 g3 at3
             have At3 := Lib.hid at3
             have Gd : Hid ((wr.alloc (.cells #[.int .i64 (X : Int)] 2)).grownBy w3 (Value.slice D m c2).ownBlock) := Lib.hid g3
             have Sd := Lib.hid s3
             clear s3 g3 at3)
          | go_in)
        have B3 : Hid (Below w.heap.size w w3) := Lib.hid ((Be.out.alloc hz _).grown Gd.out (by simp; omega) (fun j hj => (Ds.out.lt_ j hj).1))
        have hz3 := B3.out.size
        have hzr3 : wr.heap.size < w3.heap.size := by have := Gd.out.size; simp at this; omega
        have Ss3 : Hid (SS w3 w.heap.size w.heap.size O k c1 us (cnB (nx ls) N x)) := Lib.hid ((Ss.out.alloc _).keptT Gd.out (apart_flip (apart_types Ds.out Ss.out.own)) Ap.out)
        have Ap3 : Hid (∀ t, t < k → (sval (us.getD t sd0)).ownBlock = none ∨ (sval (us.getD t sd0)).ownBlock ≠ (Value.slice D3 (m + 1) c3).ownBlock) := Lib.hid fun t ht => by
          rcases At3.out with e | e
          · rw [e]; exact Ap.out t ht
          · rw [e]
            rcases e2 : (sval (us.getD t sd0)).ownBlock with _ | q
            · exact .inl rfl
            · refine .inr fun e3 => ?_
              injection e3 with e3
              have := ((Ss.out.row t ht).lt_ q e2).2
              simp at e3
              omega
        have Dl : Hid (∀ q, (Value.slice D3 (m + 1) c3).ownBlock = some q → q < w3.heap.size) := Lib.hid fun q hq => (Sd.out.lt_ q hq).2
        have P0 : Hid (Slc (w3.alloc (.cells #[] 2)) w3.heap.size (some ⟨w3.heap.size, 0, none⟩) 0 0 (ptsL (fun y => decide (nx ls y = X)) x)) := Lib.hid (by rw [Pe.out]; exact Slc.lit0 w3 _ (Nat.le_refl _))
        have Bp : Hid (Below w3.heap.size w3 (w3.alloc (.cells #[] 2))) := Lib.hid ((Below.refl _ _).alloc (Nat.le_refl _) _)
        clear zx Gd Ss Ds Ap Pe
        go_loopw [6, 7] (fun pv yv wr2 => ∃ (y p cP : Nat) (P : Option Addr), x ≤ y ∧ y ≤ N ∧ p ≤ 20 ∧ yv = .int .i64 (y : Nat) ∧ pv = .slice P p cP ∧ Slc wr2 w3.heap.size P p cP (ptsL (fun y => decide (nx ls y = X)) y) ∧ Below w3.heap.size w3 wr2) (fun _ yv _ => N - (intOf yv).toNat)
        case atStart => exact ⟨x, 0, 0, _, Nat.le_refl _, by omega, by omega, rfl, rfl, P0.out, Bp.out⟩
        case round =>
          clear P0 Bp
          obtain ⟨y, p, cP, P, hxy, hyN, hp, rfl, rfl, hs, bel⟩ := hrel
          have Sp := Lib.hid hs
          have Bp := Lib.hid bel
          have Bw : Hid (Below w.heap.size w wr) := Lib.hid (btr B3.out bel)
          have hzp := bel.size
          clear hs bel
          by_cases hlt2 : y < N
          · obtain ⟨bq, oq, eq, hbq, hc⟩ := (HP.out.up Bw.out) (by rw [hL.out.len]; omega)
            injection eq with eq; injection eq with eq1 eq2
            subst eq1 eq2
            have zx := hc x (by rw [hL.out.len]; exact hlt)
            have zy := hc y (by rw [hL.out.len]; exact hlt2)
            rw [hL.out.val hlt, EX.out] at zx
            rw [hL.out.val hlt2] at zy
            obtain ⟨Y, eY⟩ : ∃ Y, nx ls y = Y := ⟨_, rfl⟩
            rw [eY] at zy
            have EY := Lib.hid eY
            have r0 : (0 : Int) ≤ y := by omega
            have r1 : (y : Int) < N := by omega
            have BpD : Hid (∀ q, Below w3.heap.size w3 (wr.drewN q)) := Lib.hid fun q => below_drewN Bp.out q
            have SpD : Hid (∀ q, Slc (wr.drewN q) w3.heap.size P p cP (ptsL (fun y => decide (nx ls y = X)) y)) := Lib.hid fun q => Sp.out.drewN q
            clear hc eY hbq
            by_cases hXY : Y = X
            · have d0 : ((Y : Int) == (X : Int)) = true := by rw [hXY]; simp
              have Py : Hid (ptsL (fun y => decide (nx ls y = X)) (y + 1) = ptsL (fun y => decide (nx ls y = X)) y ++ [(y : Int)]) := Lib.hid (ptsL_yes (by simpa using EY.out.trans hXY))
              have hp19 : p + 1 ≤ 20 := by
                have h5 := ptsL_le (fun y => decide (nx ls y = X)) (y + 1)
                rw [Py.out, List.length_append, Sp.out.1] at h5
                simp at h5
                omega
              clear hXY
              go_wp2_with fail
              go_quiet (fail)
              obtain ⟨w5, hw5⟩ : ∃ w5, wr.drewN nq = w5 := ⟨_, rfl⟩
              have S5 := SpD.out nq
              have B5 := BpD.out nq
              rw [hw5] at S5 B5 ⊢
              have Sp5 := Lib.hid S5
              have Bp5 := Lib.hid B5
              have hz5 := B5.size
              clear hw5 S5 B5
              go_wp2_with (first | (at_builtin; refine wpList_app1 rfl _ _ rfl w3.heap.size P p cP _ rfl (Sp5.out.alloc _) w5.heap.size y rfl (by rw [World.cell?_alloc_at _ _ _ _ rfl]; rfl) (by omega) (by simp; omega) ?_; intro P6 c6 w6 s6 g6) | go_in)
              have S6 : Hid (Slc w6 w3.heap.size P6 (p + 1) c6 (ptsL (fun y => decide (nx ls y = X)) (y + 1))) := Lib.hid (by rw [Py.out]; exact s6)
              have B6 : Hid (Below w3.heap.size w3 w6) := Lib.hid ((Bp5.out.alloc hz5 _).grown g6 (by simp; omega) (fun j hj => (Sp5.out.lt_ j hj).1))
              clear s6 g6
              go_wp2_with fail
              go_roundw
              case rel => exact ⟨y + 1, p + 1, c6, P6, by omega, by omega, hp19, by go_num, rfl, S6.out, B6.out⟩
              case measure => simp [intOf]; omega
            · have d0 : ((Y : Int) == (X : Int)) = false := by rw [beq_eq_false_iff_ne]; omega
              have Pn' : Hid (ptsL (fun y => decide (nx ls y = X)) (y + 1) = ptsL (fun y => decide (nx ls y = X)) y) := Lib.hid (ptsL_no (by simpa using fun e => hXY (EY.out.symm.trans e)))
              clear hXY
              go_wp2_with fail
              go_quiet (fail)
              go_wp2_with fail
              go_roundw
              case rel => exact ⟨y + 1, p, cP, P, by omega, by omega, hp, by go_num, rfl, by rw [Pn'.out]; exact SpD.out _, BpD.out _⟩
              case measure => simp [intOf]; omega
          · obtain rfl : y = N := by omega
            have Ss6 := Lib.hid (Ss3.out.up Bp.out)
            have Sd6 := Lib.hid (Sd.out.up Bp.out)
            have D6 : Hid (∀ t, t < k → (sval (us.getD t sd0)).ownBlock = none ∨ (sval (us.getD t sd0)).ownBlock ≠ (Value.slice P p cP).ownBlock) := Lib.hid (lies_dis (w := w3) Ss3.out Sp.out.lies (Nat.le_refl _))
            have hzw := Bw.out.size
            go_wp2_with (at_builtin; go_must (refine wpList_app2_at rfl _ _ rfl rfl (Ss6.out.alloc _) wr.heap.size P p cP (ptsL (fun y => decide (nx ls y = X)) y) rfl (by rw [World.cell?_alloc_at _ _ _ _ rfl]; rfl) ((Sp.out.mono hz3).alloc _) D6.out (by omega) (by simp; omega) ?_); intro A9 c9 w9 s9 g9 h9)
            have S9 : Hid (SS w9 w.heap.size w.heap.size A9 (k + 1) c9 (us ++ [(P, p, cP)]) (cnB (nx ls) y (x + 1))) := Lib.hid (by rw [Cy.out, Blk'.out]; exact s9)
            have B9 : Hid (Below w.heap.size w w9) := Lib.hid ((Bw.out.alloc hzw _).grown g9 (by simp; omega) (fun q hq => (Ss6.out.lt_ q hq).1))
            have D9 : Hid (Slc w9 w.heap.size D3 (m + 1) c3 (ds ++ [(X : Int)])) := Lib.hid ((Sd6.out.alloc _).kept g9 (apart_types Sd6.out Ss6.out.own))
            have Ap9 : Hid (∀ t, t < k + 1 → (sval ((us ++ [(P, p, cP)]).getD t sd0)).ownBlock = none ∨ (sval ((us ++ [(P, p, cP)]).getD t sd0)).ownBlock ≠ (Value.slice D3 (m + 1) c3).ownBlock) := Lib.hid fun t ht => by
              by_cases e : t < k
              · rw [getD_app us _ _ _ (by rw [Ss3.out.lv]; exact e)]; exact Ap3.out t e
              · obtain rfl : t = k := by omega
                rw [getD_snoc us _ _ _ Ss3.out.lv.symm]
                rcases e2 : (sval (P, p, cP)).ownBlock with _ | q
                · exact .inl rfl
                · refine .inr fun e3 => ?_
                  have h7 := (Sp.out.lt_ q e2).1
                  have h8 := Dl.out q e3.symm
                  omega
            clear s9 g9 h9
            go_wp2_with fail
            go_roundw
            case rel => exact ⟨x + 1, k + 1, c9, m + 1, c3, A9, D3, _, _, by omega, hk19.out, by omega, by go_num, rfl, rfl, S9.out, D9.out, Ap9.out, Mem2.out, B9.out⟩
            case measure => simp [intOf]; omega
    · obtain rfl : x = N := by omega
      go_wp2_with fail
      go_ret
      exact ⟨_, _, _, us, rfl, Ss.out, Be.out⟩
end Go.Proofs.Ytedfcljikgmpgaa
