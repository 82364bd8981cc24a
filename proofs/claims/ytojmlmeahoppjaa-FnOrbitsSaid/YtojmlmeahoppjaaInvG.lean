/- InverseGenerators, of the program and of the model. Conditions: at most 1048576 lists of at most 1048576 numbers. -/
import Derived.Test.YtojmlmeahoppjaaGen
import Derived.Test.YtojmlmeahoppjaaInv
namespace Go.Proofs.Ytojmlmeahoppjaa
open Go.RowKit

/-- What InverseGenerators answers. -/
def invG (gs : List (List Int)) : List (List Int) := gs.map fun g => invL g g.length
def invsL (n : Int) (gs : List (List Int)) : List (List Int) := if gB n gs = true then invG gs else []
theorem take_invG {gs : List (List Int)} {k : Nat} {y : List Int} (hk : k < gs.length) (ey : gs.getD k [] = y) : invG (gs.take (k + 1)) = invG (gs.take k) ++ [invL y y.length] := by
  rw [List.getD_eq_getElem?_getD, List.getElem?_eq_getElem hk] at ey
  have e' : gs[k] = y := ey
  rw [List.take_succ_eq_append_getElem hk, invG, List.map_append, e']; rfl
theorem getD_ok {gs : List (List Int)} {N k : Nat} {y : List Int} (h : ∀ g ∈ gs, IsP g ∧ g.length = N) (hk : k < gs.length) (ey : gs.getD k [] = y) : IsP y ∧ y.length = N := h y (by rw [← ey]; exact getD_memL hk)

set_option maxHeartbeats 1600000 in
set_option maxRecDepth 100000 in
/-- The program's InverseGenerators. -/
theorem implInverseGenerators (a : Int) (A : Option Addr) (n c : Nat) (vs : List SV) (xss : List (List Int)) (w : World) (hx : RR w w.heap.size A n vs xss) (hn : n ≤ 1048576) (hl : Hid (∀ i, i < n → (vs.getD i sd0).2.1 ≤ 1048576)) :
    Calls Try.prog 32 #[.int .i64 a, .slice A n c] w fun e w' => ∃ A' m c' us, e = .returned (.slice A' m c') ∧ SS w' w.heap.size w.heap.size A' m c' us (invsL a xss) ∧ Below w.heap.size w w' := by
  rcases hs : gB a xss with _ | _
  · have Fin : Hid (invsL a xss = []) := Lib.hid (if_neg (by rw [hs]; decide))
    go_enter Try.func32, Try.ntmps32
    go_wp2_with fail
    have K0 := implGS a A n c vs xss w hx hn hl
    refine K0.mono ?_
    rintro e w1 ⟨rfl, b1⟩
    have B1 := Lib.hid b1
    clear b1
    rw [hs]
    go_wp2_with fail
    go_ret
    exact ⟨_, _, _, _, rfl, by rw [Fin.out]; exact SS.nil_, B1.out⟩
  · have Fin : Hid (invsL a xss = invG xss) := Lib.hid (if_pos hs)
    obtain ⟨N, _, hN1, hN2, hg8, hpm, hok⟩ := gB_pm hs
    rename_i hNa
    clear hNa hpm
    have Ok := Lib.hid hok
    have HX := Lib.hid hx
    have hlx := hx.lx
    clear hok
    go_enter Try.func32, Try.ntmps32
    go_wp2_with fail
    have K0 := implGS a A n c vs xss w hx hn hl
    refine K0.mono ?_
    rintro e w1 ⟨rfl, b1⟩
    have B1 := Lib.hid b1
    clear b1 hx
    rw [hs]
    clear hs
    go_wp2_with fail
    go_loopw [5, 14] (fun v i wr => ∃ k A' c' us, k ≤ n ∧ i = .int .i64 (k : Nat) ∧ v = .slice A' k c' ∧ SS wr w.heap.size w.heap.size A' k c' us (invG (xss.take k)) ∧ Below w.heap.size w wr) (fun _ i _ => n - (intOf i).toNat)
    case atStart => exact ⟨0, _, _, [], Nat.zero_le _, rfl, rfl, SS.nil_, B1.out⟩
    case round =>
      obtain ⟨k, A', c', us, hk, rfl, rfl, ss, bel⟩ := hrel
      have Ss := Lib.hid ss
      have Be := Lib.hid bel
      clear ss bel
      by_cases hlt : k < n
      · obtain ⟨b, off, A5, l, c5, y, rfl, hb, ev, ey, hc0, hr0, hy, hlc⟩ := HX.out.at_ hlt
        have hy2 := getD_ok Ok.out (by rw [hlx]; exact hlt) ey
        have c1 := (Be.out.cell (p := ⟨b, off + k, none⟩) hb).trans hc0
        have R1 := Lib.hid ((hr0.below Be.out (Nat.le_refl _)).more Be.out.size)
        have Tk := Lib.hid (take_invG (k := k) (by rw [hlx]; exact hlt) ey)
        have Hy : Hid (y.length = l) := Lib.hid hy
        have Iy := Lib.hid hy2.1
        have hl20 : l ≤ 20 := by rw [← hy, hy2.2]; exact hN2
        clear ev ey hc0 hr0 hy hy2
        go_wp2_with fail
        refine (implInv A5 c5 l y wr R1.out Hy Iy hl20).mono ?_
        rintro e w2 ⟨A2, c2, rfl, s2, b2⟩
        have S2 := Lib.hid (s2.mono Be.out.size)
        have D2 := Lib.hid (lies_dis Ss.out s2.lies (Nat.le_refl _))
        have Ss2 := Lib.hid (Ss.out.up b2)
        have Be2 : Hid (Below w.heap.size w w2) := Lib.hid (btr Be.out b2)
        clear s2 b2
        go_wp2_with (first | (at_builtin; refine wpList_app2 rfl _ _ rfl rfl (Ss2.out.alloc _) w2.heap.size A2 l c2 _ rfl (by rw [World.cell?_alloc_at _ _ _ _ rfl]; rfl) (S2.out.alloc _) D2.out (by omega) (by have := Be2.out.size; simp; omega) ?_; intro A3 c3 w3 ss3 hg3))
        have Ss3 : Hid (SS w3 w.heap.size w.heap.size A3 (k + 1) c3 (us ++ [(A2, l, c2)]) (invG (xss.take (k + 1)))) := Lib.hid (by rw [Tk.out, Hy.out]; exact ss3)
        have Be3 : Hid (Below w.heap.size w w3) := Lib.hid ((Be2.out.alloc Be2.out.size _).grown hg3 (by have := Be2.out.size; simp; omega) (fun j hj => (Ss.out.lt_ j hj).1))
        clear ss3 hg3
        go_wp2
        go_roundw
        case rel => exact ⟨k + 1, A3, c3, _, by omega, by go_num, rfl, Ss3.out, Be3.out⟩
        case measure => simp [intOf]; omega
      · have hkn : k = n := by omega
        subst hkn
        have Fq : Hid (invG (xss.take k) = invsL a xss) := Lib.hid (by rw [Fin.out, List.take_of_length_le (by rw [hlx]; exact Nat.le_refl _)])
        go_wp2
        go_ret
        exact ⟨_, _, _, _, rfl, by rw [← Fq.out]; exact Ss.out, Be.out⟩

set_option maxHeartbeats 1600000 in
set_option maxRecDepth 100000 in
/-- The model's inverses. -/
theorem specInvs (A : Option Addr) (n c N : Nat) (vs : List SV) (xss : List (List Int)) (w : World) (hx : RR w w.heap.size A n vs xss) (hok : Hid (∀ g ∈ xss, IsP g ∧ g.length = N)) (hN2 : N ≤ 20) (hn : n ≤ 8) :
    Calls Try.prog 65 #[.slice A n c] w fun e w' => ∃ A' c' us, e = .returned (.slice A' n c') ∧ SS w' w.heap.size w.heap.size A' n c' us (invG xss) ∧ Below w.heap.size w w' := by
  have HX := Lib.hid hx
  have hlx := hx.lx
  clear hx
  go_enter Try.func65, Try.ntmps65
  go_wp2
  go_loopw [3, 4] (fun v i wr => ∃ k A' c' us, k ≤ n ∧ i = .int .i64 (k : Nat) ∧ v = .slice A' k c' ∧ SS wr w.heap.size w.heap.size A' k c' us (invG (xss.take k)) ∧ Below w.heap.size w wr) (fun _ i _ => n - (intOf i).toNat)
  case atStart => exact ⟨0, _, _, [], Nat.zero_le _, rfl, rfl, SS.lit0 w _ _ (Nat.le_refl _), (Below.refl _ _).alloc (Nat.le_refl _) _⟩
  case round =>
    obtain ⟨k, A', c', us, hk, rfl, rfl, ss, bel⟩ := hrel
    have Ss := Lib.hid ss
    have Be := Lib.hid bel
    clear ss bel
    by_cases hlt : k < n
    · obtain ⟨b, off, A5, l, c5, y, rfl, hb, ev, ey, hc0, hr0, hy, hlc⟩ := HX.out.at_ hlt
      have hy2 := getD_ok hok.out (by rw [hlx]; exact hlt) ey
      have c1 := (Be.out.cell (p := ⟨b, off + k, none⟩) hb).trans hc0
      have R1 := Lib.hid ((hr0.below Be.out (Nat.le_refl _)).more Be.out.size)
      have Tk := Lib.hid (take_invG (k := k) (by rw [hlx]; exact hlt) ey)
      have Hy : Hid (y.length = l) := Lib.hid hy
      have Iy := Lib.hid hy2.1
      have hl20 : l ≤ 20 := by rw [← hy, hy2.2]; exact hN2
      clear ev ey hc0 hr0 hy hy2
      go_wp2_with fail
      refine (specInv A5 c5 l y wr R1.out Hy Iy hl20).mono ?_
      rintro e w2 ⟨A2, c2, rfl, s2, b2⟩
      have S2 := Lib.hid (s2.mono Be.out.size)
      have D2 := Lib.hid (lies_dis Ss.out s2.lies (Nat.le_refl _))
      have Ss2 := Lib.hid (Ss.out.up b2)
      have Be2 : Hid (Below w.heap.size w w2) := Lib.hid (btr Be.out b2)
      clear s2 b2
      go_wp2_with (first | (at_builtin; refine wpList_app2 rfl _ _ rfl rfl (Ss2.out.alloc _) w2.heap.size A2 l c2 _ rfl (by rw [World.cell?_alloc_at _ _ _ _ rfl]; rfl) (S2.out.alloc _) D2.out (by omega) (by have := Be2.out.size; simp; omega) ?_; intro A3 c3 w3 ss3 hg3))
      have Ss3 : Hid (SS w3 w.heap.size w.heap.size A3 (k + 1) c3 (us ++ [(A2, l, c2)]) (invG (xss.take (k + 1)))) := Lib.hid (by rw [Tk.out, Hy.out]; exact ss3)
      have Be3 : Hid (Below w.heap.size w w3) := Lib.hid ((Be2.out.alloc Be2.out.size _).grown hg3 (by have := Be2.out.size; simp; omega) (fun j hj => (Ss.out.lt_ j hj).1))
      clear ss3 hg3
      go_wp2
      go_roundw
      case rel => exact ⟨k + 1, A3, c3, _, by omega, by go_num, rfl, Ss3.out, Be3.out⟩
      case measure => simp [intOf]; omega
    · have hkn : k = n := by omega
      subst hkn
      have Fq : Hid (xss.take k = xss) := Lib.hid (List.take_of_length_le (by rw [hlx]; exact Nat.le_refl _))
      go_wp2
      go_ret
      exact ⟨_, _, _, rfl, by rw [Fq.out] at Ss; exact Ss.out, Be.out⟩

set_option maxHeartbeats 800000 in
set_option maxRecDepth 100000 in
/-- The model's InverseGenerators. -/
theorem specInverseGenerators (a : Int) (A : Option Addr) (n c : Nat) (vs : List SV) (xss : List (List Int)) (w : World) (hx : RR w w.heap.size A n vs xss) (hn : n ≤ 1048576) (hl : Hid (∀ i, i < n → (vs.getD i sd0).2.1 ≤ 1048576)) (ha : -9223372036854775808 ≤ a ∧ a ≤ 9223372036854775807) :
    Calls Try.prog 34 #[.int .i64 a, .slice A n c] w fun e w' => ∃ A' m c' us, e = .returned (.slice A' m c') ∧ SS w' w.heap.size w.heap.size A' m c' us (invsL a xss) ∧ Below w.heap.size w w' := by
  rcases hs : gB a xss with _ | _
  · have Fin : Hid (invsL a xss = []) := Lib.hid (if_neg (by rw [hs]; decide))
    go_enter Try.func34, Try.ntmps34
    go_wp2_with fail
    have K0 := specGS a A n c vs xss w hx hn hl ha
    refine K0.mono ?_
    clear K0
    rintro e w1 ⟨rfl, b1⟩
    have B1 := Lib.hid b1
    clear b1
    rw [hs]
    go_wp2_with fail
    go_ret
    exact ⟨_, _, _, _, rfl, by rw [Fin.out]; exact SS.lit0 w1 _ _ B1.out.size, (B1.out.alloc B1.out.size _)⟩
  · have Fin : Hid (invsL a xss = invG xss) := Lib.hid (if_pos hs)
    obtain ⟨N, _, hN1, hN2, hg8, hpm, hok⟩ := gB_pm hs
    rename_i hNa
    clear hNa hpm
    have Ok := Lib.hid hok
    have HX := Lib.hid hx
    have hlx := hx.lx
    clear hok
    go_enter Try.func34, Try.ntmps34
    go_wp2_with fail
    have K0 := specGS a A n c vs xss w hx hn hl ha
    refine K0.mono ?_
    clear K0
    rintro e w1 ⟨rfl, b1⟩
    have B1 := Lib.hid b1
    clear b1 hx
    rw [hs]
    clear hs
    go_wp2_with fail
    refine (specInvs A n c N vs xss w1 (HX.out.up B1.out) Ok hN2 (by omega)).mono ?_
    rintro e w2 ⟨A2, c2, us, rfl, s2, b2⟩
    have S2 := Lib.hid (s2.mono B1.out.size B1.out.size)
    have B2 : Hid (Below w.heap.size w w2) := Lib.hid (btr B1.out b2)
    clear s2 b2
    go_wp2
    go_ret
    exact ⟨_, _, _, _, rfl, by rw [Fin.out]; exact S2.out, B2.out⟩
end Go.Proofs.Ytojmlmeahoppjaa
