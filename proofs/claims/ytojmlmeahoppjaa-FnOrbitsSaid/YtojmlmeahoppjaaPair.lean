/- PairOrbitCount of the program. Conditions: at most 1048576 lists of at most 1048576 numbers. -/
import Derived.Test.YtojmlmeahoppjaaCnt
import Derived.Test.YtojmlmeahoppjaaPairM
import Derived.Test.YtojmlmeahoppjaaSrcP
import Derived.Deep.RegionLaw
namespace Go.Proofs.Ytojmlmeahoppjaa
open Go.RowKit

theorem take_pair {N k j : Nat} {g : List Int} (hk : k < N) (hj : j < N) : (pairL N g).take (k * N + (j + 1)) = (pairL N g).take (k * N + j) ++ [((nx g k * N + nx g j : Nat) : Int)] := by
  have h := pr_lt hk hj
  rw [← Nat.add_assoc, List.take_succ_eq_append_getElem (by rw [pairL_len]; exact h)]
  congr 2
  have := pairL_at g h
  rw [List.getD_eq_getElem?_getD, List.getElem?_eq_getElem (by rw [pairL_len]; exact h)] at this
  rw [pr_div hj, pr_mod hj] at this
  exact this

theorem grown_undrewP {a b : World} {row : Option Nat} (h : a.drew.grownBy b row) : a.grownBy b row := ⟨h.os, h.tape, h.output, h.size, h.block⟩

set_option maxHeartbeats 4000000 in
set_option maxRecDepth 100000 in
/-- pairMap. -/
theorem implPairMap (N M : Nat) (A : Option Addr) (c : Nat) (g : List Int) (w : World) (hx : RI w w.heap.size A g) (hp : Hid (PM N g)) (hN1 : 1 ≤ N) (hN : N ≤ 20) (hM : Hid (M = N * N)) :
    Calls Try.prog 63 #[.int .i64 (N : Nat), .slice A N c] w fun e w' => ∃ A' c', e = .returned (.slice A' M c') ∧ Slc w' w.heap.size A' M c' (pairL N g) ∧ Below w.heap.size w w' := by
  have HX := Lib.hid hx
  clear hx
  go_enter Try.func63, Try.ntmps63
  go_wp2
  go_loopg [5, 9] N (fun gg v i wr => ∃ (k m : Nat) (A' : Option Addr) (c' : Nat), k ≤ N ∧ N - k ≤ gg ∧ m = k * N ∧ i = .int .i64 (k : Nat) ∧ v = .slice A' m c' ∧ Slc wr w.heap.size A' m c' ((pairL N g).take m) ∧ Below w.heap.size w wr)
  case atStart => exact ⟨0, 0, _, _, Nat.zero_le _, by omega, by simp, rfl, rfl, Slc.nil_, Below.refl _ _⟩
  case round =>
    obtain ⟨k, m, A', c', hk, hgk, hm, rfl, rfl, ss, bel⟩ := hrel
    have Ss := Lib.hid ss
    have Be := Lib.hid bel
    have Hm := Lib.hid hm
    clear ss bel hm
    by_cases hlt : k < N
    · go_wp2
      obtain ⟨wl, rfl⟩ : ∃ wl, wl = wr := ⟨_, rfl⟩
      go_loopg [5, 13] N (fun gg v i wr2 => ∃ (j m2 : Nat) (A2 : Option Addr) (c2 : Nat), j ≤ N ∧ N - j ≤ gg ∧ m2 = k * N + j ∧ i = .int .i64 (j : Nat) ∧ v = .slice A2 m2 c2 ∧ Slc wr2 w.heap.size A2 m2 c2 ((pairL N g).take m2) ∧ Below w.heap.size w wr2)
      case atStart => exact ⟨0, m, _, _, Nat.zero_le _, by omega, Hm.out, rfl, rfl, Ss.out, Be.out⟩
      case round =>
        obtain ⟨j, m2, A2, c2, hj, hgj, hm2, rfl, rfl, ss2, bel2⟩ := hrel
        have Ss2 := Lib.hid ss2
        have Be2 := Lib.hid bel2
        have Hm2 := Lib.hid hm2
        have hm400 : m2 ≤ 400 := by
          have := Nat.mul_le_mul_right N (show k + 1 ≤ N from hlt)
          have := Nat.mul_le_mul hN hN
          rw [Nat.succ_mul] at *; omega
        clear ss2 bel2 hm2
        by_cases hjl : j < N
        · obtain ⟨b, off, rfl, hb, hc⟩ := (HX.out.below Be2.out (Nat.le_refl _)) (by rw [hp.out.len]; omega)
          have c1 := hc k (by rw [hp.out.len]; exact hlt)
          have c3 := hc j (by rw [hp.out.len]; exact hjl)
          rw [hp.out.nx_val hlt] at c1
          rw [hp.out.nx_val hjl] at c3
          have Tk : Hid ((pairL N g).take (m2 + 1) = (pairL N g).take m2 ++ [((nx g k * N + nx g j : Nat) : Int)]) := Lib.hid (by rw [Hm2.out, Nat.add_assoc, take_pair hlt hjl])
          have ha := hp.out.nx_lt hlt
          have hb2 := hp.out.nx_lt hjl
          obtain ⟨x, ex⟩ : ∃ x, nx g k = x := ⟨_, rfl⟩
          obtain ⟨y, ey⟩ : ∃ y, nx g j = y := ⟨_, rfl⟩
          rw [ex] at c1 Tk ha
          rw [ey] at c3 Tk hb2
          obtain ⟨z, ez⟩ : ∃ z : Nat, x * N = z := ⟨_, rfl⟩
          have hz : z ≤ 400 := by rw [← ez]; have := Nat.mul_le_mul (show x ≤ 20 by omega) hN; omega
          have ez2 : (x : Int) * (N : Int) = (z : Int) := by rw [← ez]; push_cast; rfl
          rw [ez] at Tk
          have wz : IntKind.i64.wrap (z : Int) = z := by rw [IntKind.wrap_i64]; omega
          have wzy : IntKind.i64.wrap ((z : Int) + y) = (z : Int) + y := by rw [IntKind.wrap_i64]; omega
          have kx0 : (0 : Int) ≤ k := by omega
          have kx1 : (k : Int) < N := by omega
          have jx0 : (0 : Int) ≤ j := by omega
          have jx1 : (j : Int) < N := by omega
          have Ex := Lib.hid ex
          have Ey := Lib.hid ey
          have Ez := Lib.hid ez
          have hz9 := Be2.out.size
          clear hc ex ey ez hb
          go_wp2_with fail
          go_region_law (refine step_appN rfl (.tmp 16) (.tmp 28) rfl w.heap.size A2 m2 c2 ((pairL N g).take m2) ?_ (Ss2.out.alloc (.cells #[.int .i64 ((z : Int) + (y : Int))] 2)) wr.heap.size 0 1 1 [(z : Int) + (y : Int)] ?_ (litRI wr _) rfl ?_ ?_ (m2 + 1) rfl ?_; (simp [Act.eval, Act.put]); (simp [Act.eval, Act.put]); (omega); (simp; omega); (intro A3 c3 w3 s3 g3))
          all_goals
            have S3 : Hid (Slc w3 w.heap.size A3 (m2 + 1) c3 ((pairL N g).take (m2 + 1))) := Lib.hid (by rw [Tk.out]; push_cast; exact s3)
            have B3 : Hid (Below w.heap.size w w3) := Lib.hid ((Be2.out.alloc hz9 (.cells #[.int .i64 ((z : Int) + (y : Int))] 2)).grown (grown_undrewP g3) (by simp; omega) (fun q hq => (Ss2.out.lt_ q hq).1))
            clear s3 g3
            go_wp2_with fail
            go_roundg (N - (j + 1))
            case rel => exact ⟨j + 1, m2 + 1, _, _, by omega, by omega, by rw [Hm2.out]; omega, by go_num, rfl, S3.out, B3.out⟩
            case measure => omega
        · have hjN : j = N := by omega
          subst hjN
          go_wp2
          go_roundg (j - (k + 1))
          case rel => exact ⟨k + 1, m2, _, _, by omega, by omega, by rw [Hm2.out, Nat.succ_mul], by go_num, rfl, Ss2.out, Be2.out⟩
          case measure => omega
    · have hkN : k = N := by omega
      subst hkN
      have Ss3 : Hid (Slc wr w.heap.size A' m c' (pairL k g)) := Lib.hid (by
        have := Ss.out
        rwa [List.take_of_length_le (by rw [pairL_len, Hm.out]; exact Nat.le_refl _)] at this)
      obtain rfl : m = M := Hm.out.trans hM.out.symm
      go_wp2
      go_ret
      exact ⟨_, _, rfl, Ss3.out, Be.out⟩

/-- What PairOrbitCount answers. -/
def pairC (n : Int) (gs : List (List Int)) : Int := if gB n gs = true then (offs gs n.toNat (n.toNat * n.toNat) : Nat) else 0
theorem pairGs_take {gs : List (List Int)} {N k : Nat} {y : List Int} (hk : k < gs.length) (ey : gs.getD k [] = y) : pairGs N (gs.take (k + 1)) = pairGs N (gs.take k) ++ [pairL N y] := by
  rw [List.getD_eq_getElem?_getD, List.getElem?_eq_getElem hk] at ey
  have e' : gs[k] = y := ey
  rw [List.take_succ_eq_append_getElem hk, pairGs, List.map_append, e']; rfl

set_option maxHeartbeats 1600000 in
set_option maxRecDepth 100000 in
/-- The program's PairOrbitCount. -/
theorem implPairOrbitCount (a : Int) (A : Option Addr) (n c : Nat) (vs : List SV) (xss : List (List Int)) (w : World) (hx : RR w w.heap.size A n vs xss) (hn : n ≤ 1048576) (hl : Hid (∀ i, i < n → (vs.getD i sd0).2.1 ≤ 1048576)) :
    Calls Try.prog 31 #[.int .i64 a, .slice A n c] w fun e w' => e = .returned (.int .i64 (pairC a xss)) ∧ Below w.heap.size w w' := by
  rcases hs : gB a xss with _ | _
  · have Fin : Hid (pairC a xss = 0) := Lib.hid (if_neg (by rw [hs]; simp))
    go_enter Try.func31, Try.ntmps31
    go_wp2_with fail
    have K0 := implGS a A n c vs xss w hx hn hl
    refine K0.mono ?_
    rintro e w1 ⟨rfl, b1⟩
    have B1 := Lib.hid b1
    clear b1 K0
    rw [hs]
    go_wp2_with fail
    go_ret
    exact ⟨ret_int Fin.out.symm, B1.out⟩
  · obtain ⟨N, hN, hN1, hN2, hg8, hpm, hok⟩ := gB_pm hs
    subst hN
    have Fin : Hid (pairC N xss = (offs xss N (N * N) : Nat)) := Lib.hid (if_pos hs)
    have Pm := Lib.hid hpm
    have HX := Lib.hid hx
    have hlx := hx.lx
    obtain ⟨M, hM0⟩ : ∃ M, M = N * N := ⟨_, rfl⟩
    have HM := Lib.hid hM0
    have hM4 : M ≤ 400 := by rw [hM0]; have := Nat.mul_le_mul hN2 hN2; omega
    have hM1 : 1 ≤ M := by rw [hM0]; have := Nat.mul_le_mul hN1 hN1; omega
    have hMi : (N : Int) * (N : Int) = (M : Int) := by rw [hM0]; push_cast; rfl
    have wM : IntKind.i64.wrap ((N : Int) * (N : Int)) = (M : Int) := by rw [hMi, IntKind.wrap_i64]; omega
    have wM2 : IntKind.i64.wrap (M : Int) = (M : Int) := by rw [IntKind.wrap_i64]; omega
    clear hok hpm hM0
    go_enter Try.func31, Try.ntmps31
    go_wp2_with fail
    have K0 := implGS N A n c vs xss w hx hn hl
    refine K0.mono ?_
    rintro e w1 ⟨rfl, b1⟩
    have B1 := Lib.hid b1
    clear b1 hx K0
    rw [hs]
    clear hs
    go_wp2_with fail
    go_loopw [5, 14] (fun v i wr => ∃ k A' c' us, k ≤ n ∧ i = .int .i64 (k : Nat) ∧ v = .slice A' k c' ∧ SS wr w.heap.size w.heap.size A' k c' us (pairGs N (xss.take k)) ∧ Below w.heap.size w wr) (fun _ i _ => n - (intOf i).toNat)
    case atStart => exact ⟨0, _, _, [], Nat.zero_le _, rfl, rfl, SS.nil_, B1.out⟩
    case round =>
      obtain ⟨k, A', c', us, hk, rfl, rfl, ss, bel⟩ := hrel
      have Ss := Lib.hid ss
      have Be := Lib.hid bel
      clear ss bel
      by_cases hlt : k < n
      · obtain ⟨b, off, A5, l, c5, y, rfl, hb, ev, ey, hc0, hr0, hy, hlc⟩ := HX.out.at_ hlt
        have hyp : Hid (PM N y) := Lib.hid (Pm.out y (by rw [← ey]; exact getD_memL (by rw [hlx]; exact hlt)))
        have hl' : l = N := by rw [← hy]; exact hyp.out.len
        subst hl'
        have c1 := (Be.out.cell (p := ⟨b, off + k, none⟩) hb).trans hc0
        have R1 := Lib.hid ((hr0.below Be.out (Nat.le_refl _)).more Be.out.size)
        have Tk := Lib.hid (pairGs_take (N := l) (by rw [hlx]; exact hlt) ey)
        clear ev ey hc0 hr0 hy
        go_wp2_with fail
        refine (implPairMap l M A5 c5 y wr R1.out hyp hN1 hN2 HM).mono ?_
        rintro e w3 ⟨A3, c3, rfl, s3, b3⟩
        have D3 := Lib.hid (lies_dis Ss.out s3.lies (Nat.le_refl _))
        have S3 := Lib.hid (s3.mono Be.out.size)
        have Ss3 := Lib.hid (Ss.out.up b3)
        have Be3 : Hid (Below w.heap.size w w3) := Lib.hid (btr Be.out b3)
        have hz3 := Be3.out.size
        clear s3 b3
        go_wp2_with (first
          | (at_builtin; refine wpList_app2 rfl _ _ rfl rfl (Ss3.out.alloc _) w3.heap.size A3 M c3 _ rfl (by rw [World.cell?_alloc_at _ _ _ _ rfl]; rfl) (S3.out.alloc _) D3.out (by omega) (by simp; omega) ?_; intro A4 c4 w4 ss4 hg4
             have Ss4 : Hid (SS w4 w.heap.size w.heap.size A4 (k + 1) c4 (us ++ [(A3, M, c3)]) (pairGs l (xss.take (k + 1)))) := Lib.hid (by rw [Tk.out]; exact ss4)
             have Be4 : Hid (Below w.heap.size w w4) := Lib.hid ((Be3.out.alloc hz3 _).grown hg4 (by simp; omega) (fun j hj => (Ss3.out.lt_ j hj).1))
             clear ss4 hg4))
        go_wp2
        go_roundw
        case rel => exact ⟨k + 1, _, _, _, by omega, by go_num, rfl, Ss4.out, Be4.out⟩
        case measure => simp [intOf]; omega
      · have hkn : k = n := by omega
        subst hkn
        have Gs : Hid (pairGs N (xss.take k) = pairGs N xss) := Lib.hid (by rw [List.take_of_length_le (by rw [hlx]; exact Nat.le_refl _)])
        have Ss2 : Hid (SS wr w.heap.size w.heap.size A' k c' us (pairGs N xss)) := Lib.hid (by rw [← Gs.out]; exact Ss.out)
        go_wp2_with fail
        have PmM : Hid (PMs M (pairGs N xss)) := Lib.hid (by rw [HM.out]; exact Pm.out.pair)
        refine (implCount M k c' A' us (pairGs N xss) wr Ss2.out.rr PmM hM1 (by omega) (by omega)).mono ?_
        rintro e w2 ⟨rfl, b2⟩
        have B2 : Hid (Below w.heap.size w w2) := Lib.hid (btr Be.out b2)
        clear b2
        obtain ⟨C1, hC1⟩ : ∃ C1, (orbs (pairGs N xss) M M).length = C1 := ⟨_, rfl⟩
        rw [hC1]
        go_wp2_with fail
        refine (implCount N k c A vs xss w2 (HX.out.up B2.out) Pm hN1 (by omega) (by omega)).mono ?_
        rintro e w3 ⟨rfl, b3⟩
        have B3 : Hid (Below w.heap.size w w3) := Lib.hid (btr B2.out b3)
        clear b3
        obtain ⟨C2, hC2⟩ : ∃ C2, (orbs xss N N).length = C2 := ⟨_, rfl⟩
        rw [hC2]
        have hsum : C1 = offs xss N (N * N) + C2 := by rw [← hC1, ← hC2, HM.out]; exact pair_count Pm.out
        have h1 : C1 ≤ 400 := by rw [← hC1, orbs_len]; have := starts_le (gs := pairGs N xss) (N := M) M; omega
        have Fin2 : Hid (pairC N xss = (C1 : Int) - C2) := Lib.hid (by rw [Fin.out, hsum]; push_cast; omega)
        have h2 : C2 ≤ C1 := by rw [hsum]; omega
        clear hsum hC1 hC2
        go_wp2_with fail
        go_ret
        exact ⟨ret_int Fin2.out.symm, B3.out⟩
end Go.Proofs.Ytojmlmeahoppjaa
