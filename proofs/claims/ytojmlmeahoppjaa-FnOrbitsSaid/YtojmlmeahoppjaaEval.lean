/- EvaluateWord of the model, at words of letters. Conditions: at most 20 points, 8 generators, 200 letters. -/
import Derived.Test.YtojmlmeahoppjaaWordS
import Derived.Test.YtojmlmeahoppjaaGrpM
namespace Go.Proofs.Ytojmlmeahoppjaa
open Go.RowKit

/-- The map of a letter. -/
def letM (gs : List (List Int)) (l : Int) : List Int := if l < 0 then invL (gs.getD (-l - 1).toNat []) (gs.getD (-l - 1).toNat []).length else gs.getD (l - 1).toNat []
/-- A letter of m generators. -/
def Ltr (m : Nat) (l : Int) : Prop := ∃ i, i < 2 * m ∧ l = letL i
theorem letL_facts {m i : Nat} (hi : i < 2 * m) (hm : m ≤ 8) : letL i ≠ 0 ∧ -8 ≤ letL i ∧ letL i ≤ 8 ∧ letL i ≤ m ∧ -(letL i) ≤ m := by
  unfold letL
  split <;> omega
theorem letM_at {gs : List (List Int)} {n i : Nat} (hi : i < 2 * n) : letM gs (letL i) = ((stps gs n).getD i (0, [])).2 := by
  rw [stps_at hi]
  unfold letM letL
  by_cases h : i % 2 = 1
  · rw [if_pos h, if_pos h, if_pos (by omega)]
    have e : (-(-(((i / 2 : Nat) : Int) + 1)) - 1).toNat = i / 2 := by omega
    rw [e]
  · rw [if_neg h, if_neg h, if_neg (by omega)]
    have e : ((((i / 2 : Nat) : Int) + 1) - 1).toNat = i / 2 := by omega
    rw [e]
theorem mem_stps {gs : List (List Int)} {n : Nat} {t : Stp} (h : t ∈ stps gs n) : ∃ i, i < 2 * n ∧ t.1 = letL i ∧ t.2 = letM gs t.1 := by
  obtain ⟨i, hi, e⟩ := List.mem_iff_getElem.1 h
  rw [stps_len] at hi
  have e2 : (stps gs n).getD i (0, []) = t := by rw [List.getD_eq_getElem?_getD, List.getElem?_eq_getElem (by rw [stps_len]; exact hi), ← e]; rfl
  have e3 : t.1 = letL i := by rw [← e2, stps_at hi]
  exact ⟨i, hi, e3, by rw [e3, letM_at hi, e2]⟩
/-- Where the letters of a word lead. -/
def evP (gs : List (List Int)) (x : Nat) (w : List Int) : Nat := w.foldl (fun u l => nx (letM gs l) u) x
theorem led_ev {gs : List (List Int)} {n x y : Nat} {w : List Int} (h : Led (stps gs n) x w y) : evP gs x w = y ∧ ∀ l ∈ w, Ltr n l := by
  induction h with
  | refl => exact ⟨rfl, fun l hl => by cases hl⟩
  | step hw ht ih =>
    obtain ⟨i, hi, e1, e2⟩ := mem_stps ht
    refine ⟨?_, fun l hl => ?_⟩
    · unfold evP at ih ⊢
      rw [List.foldl_append, ih.1]
      simp only [List.foldl_cons, List.foldl_nil]
      rw [e2]
    · rcases List.mem_append.1 hl with hl | hl
      · exact ih.2 l hl
      · obtain rfl := List.mem_singleton.1 hl
        exact ⟨i, hi, e1⟩
theorem evP_take {gs : List (List Int)} {x k : Nat} {w : List Int} (hk : k < w.length) : evP gs x (w.take (k + 1)) = nx (letM gs (w.getD k 0)) (evP gs x (w.take k)) := by
  unfold evP
  rw [List.take_succ_eq_append_getElem hk, List.foldl_append, List.getD_eq_getElem?_getD, List.getElem?_eq_getElem hk]; rfl
theorem letM_isP {gs : List (List Int)} {N n : Nat} (ok : ∀ g ∈ gs, IsP g ∧ g.length = N) (hn : n = gs.length) {l : Int} (hl : Ltr n l) : IsP (letM gs l) ∧ (letM gs l).length = N := by
  obtain ⟨i, hi, rfl⟩ := hl
  rw [letM_at hi, stps_at hi]
  have hm := ok _ (getD_memL (l := gs) (k := i / 2) (by omega))
  by_cases h : i % 2 = 1
  · show IsP (if i % 2 = 1 then _ else _) ∧ _
    simp only [if_pos h]
    exact ⟨isP_inv hm.1, by rw [invL_length]; exact hm.2⟩
  · simp only [if_neg h]
    exact hm

theorem isP_idE {n : Nat} (h1 : 1 ≤ n) (h2 : n ≤ 20) : IsP (idL n) := by
  refine ⟨by rw [idL_length]; exact h1, by rw [idL_length]; exact h2, fun i hi => ?_, fun i hi => ?_, fun i j hi hj e => ?_⟩
  · rw [idL_length] at hi; rw [idL_getD hi]; omega
  · rw [idL_length] at hi ⊢; rw [idL_getD hi]; omega
  · rw [idL_length] at hi hj; rw [idL_getD hi, idL_getD hj] at e; omega

set_option maxHeartbeats 1000000 in
/-- isWordOf at letters. -/
theorem specIsWord (m n c : Nat) (A : Option Addr) (wd : List Int) (w : World) (hx : RI w w.heap.size A wd) (lx : Hid (wd.length = n)) (hall : Hid (∀ l ∈ wd, Ltr m l)) (hm : m ≤ 8) (hn : n ≤ 200) :
    Calls Try.prog 61 #[.int .i64 (m : Nat), .slice A n c] w fun e w' => e = .returned (.bool true) ∧ w = w' := by
  have HX := Lib.hid hx
  have d0 : decide ((200 : Int) < n) = false := by simp; omega
  clear hx
  go_enter Try.func61, Try.ntmps61
  go_wp2_with fail
  go_loop [5] (fun i => ∃ k : Nat, k ≤ n ∧ i = .int .i64 (k : Nat)) (fun i => n - (intOf i).toNat)
  case atStart => exact ⟨0, Nat.zero_le _, rfl⟩
  case round =>
    clear d0
    obtain ⟨k, hk, rfl⟩ := hrel
    by_cases hlt : k < n
    · obtain ⟨b, off, rfl, hb, hc⟩ := HX.out (by rw [lx.out]; omega)
      have c1 := hc k (by rw [lx.out]; exact hlt)
      obtain ⟨l, el⟩ : ∃ l, wd.getD k 0 = l := ⟨_, rfl⟩
      rw [el] at c1
      obtain ⟨i, hi, hli⟩ := hall.out l (by rw [← el, List.getD_eq_getElem?_getD, List.getElem?_eq_getElem (by rw [lx.out]; exact hlt)]; exact List.getElem_mem _)
      have hf := letL_facts hi hm
      rw [← hli] at hf
      obtain ⟨f1, f2, f3, f4, f5⟩ := hf
      have e1 : (l == 0) = false := by simpa using f1
      have d4 : decide ((m : Int) < l) = false := by simp; omega
      have d5 : decide ((m : Int) < -l) = false := by simp; omega
      have wl : IntKind.i64.wrap (-l) = -l := by rw [IntKind.wrap_i64]; omega
      have p0 : (0 : Int) ≤ k := by omega
      have p1 : (k : Int) < n := by omega
      clear el hli hc hi
      go_wp2_with (go_at_call 51; refine (inR_true _ _ _ _ (by omega) (by omega)).mono ?_; rintro e w' ⟨rfl, rfl⟩)
      go_round
      case rel => exact ⟨k + 1, by omega, by go_num⟩
      case measure => simp [intOf]; omega
    · have hkn : k = n := by omega
      subst hkn
      go_wp2_with fail
      go_ret
      exact ⟨rfl, rfl⟩

set_option maxHeartbeats 2000000 in
set_option maxRecDepth 100000 in
/-- evaluate at letters. -/
theorem specEvaluate (N m mc n c x : Nat) (G A : Option Addr) (vs : List SV) (gs : List (List Int)) (wd : List Int) (w : World) (hg : RR w w.heap.size G m vs gs) (hx : RI w w.heap.size A wd) (lx : Hid (wd.length = n)) (ok : Hid (∀ g ∈ gs, IsP g ∧ g.length = N)) (hall : Hid (∀ l ∈ wd, Ltr m l)) (hN1 : 1 ≤ N) (hN : N ≤ 20) (hm : m ≤ 8) (hn : n ≤ 200) (hxN : x < N) :
    Calls Try.prog 62 #[.int .i64 (N : Nat), .slice G m mc, .slice A n c] w fun e w' => ∃ A' c' P, e = .returned (.slice A' N c') ∧ Slc w' w.heap.size A' N c' P ∧ nx P x = evP gs x wd ∧ IsP P ∧ Below w.heap.size w w' := by
  have HG := Lib.hid hg
  have HX := Lib.hid hx
  have hlx : Hid (m = gs.length) := Lib.hid hg.lx.symm
  clear hg hx
  go_enter Try.func62, Try.ntmps62
  go_wp2_with fail
  refine (specIdent N w (by omega)).mono ?_
  rintro e w1 ⟨A1, c1, rfl, s1, b1⟩
  have S1 := Lib.hid s1
  have B1 := Lib.hid b1
  have Id1 : Hid (IsP (idL N)) := Lib.hid (isP_idE hN1 hN)
  clear s1 b1
  go_wp2_with fail
  go_loopw [7, 8] (fun v i wr => ∃ k A' c' P, k ≤ n ∧ i = .int .i64 (k : Nat) ∧ v = .slice A' N c' ∧ Slc wr w.heap.size A' N c' P ∧ IsP P ∧ nx P x = evP gs x (wd.take k) ∧ Below w.heap.size w wr) (fun _ i _ => n - (intOf i).toNat)
  case atStart => exact ⟨0, _, _, _, Nat.zero_le _, rfl, rfl, S1.out, Id1.out, by unfold nx; rw [idL_getD hxN]; rfl, B1.out⟩
  case round =>
    clear S1 B1 Id1
    obtain ⟨k, A', c', P, hk, rfl, rfl, ss, ip, ev, bel⟩ := hrel
    have Ss := Lib.hid ss
    have Ip := Lib.hid ip
    have Ev := Lib.hid ev
    have Be := Lib.hid bel
    have hz := bel.size
    clear ss ip ev bel
    by_cases hlt : k < n
    · obtain ⟨b, off, rfl, hb, hc⟩ := (HX.out.below Be.out (Nat.le_refl _)) (by rw [lx.out]; omega)
      have c1 := hc k (by rw [lx.out]; exact hlt)
      obtain ⟨l, el⟩ : ∃ l, wd.getD k 0 = l := ⟨_, rfl⟩
      rw [el] at c1
      have hlm := hall.out l (by rw [← el, List.getD_eq_getElem?_getD, List.getElem?_eq_getElem (by rw [lx.out]; exact hlt)]; exact List.getElem_mem _)
      have Lq := Lib.hid (letM_isP ok.out hlx.out hlm)
      have Nx := Lib.hid (evP_take (gs := gs) (x := x) (w := wd) (by rw [lx.out]; exact hlt))
      have El := Lib.hid el
      obtain ⟨i, hi, hli⟩ := hlm
      have KP : Hid (∀ W : World, RR W W.heap.size G m vs gs → Calls Try.prog 68 #[.slice G m mc, .int .i64 l] W fun e w' => ∃ A' c', e = .returned (.slice A' N c') ∧ RI w' w'.heap.size A' (letM gs l) ∧ Below W.heap.size W w') := Lib.hid fun W hW => by
        subst hli
        rw [letM_at hi]
        exact specLetP i G m mc N vs gs W hW ok hN hi hm
      have p0 : (0 : Int) ≤ k := by omega
      have p1 : (k : Int) < n := by omega
      clear el hli hc hi
      go_wp2_with fail
      refine (KP.out wr (HG.out.up Be.out)).mono ?_
      rintro e w2 ⟨A2, c2, rfl, r2, b2⟩
      have R2 := Lib.hid r2
      have Ss2 := Lib.hid (Ss.out.up b2)
      have Be2 : Hid (Below w.heap.size w w2) := Lib.hid (btr Be.out b2)
      clear r2 b2
      go_wp2_with fail
      refine (specComp A' A2 c' c2 N P (letM gs l) w2 Ss2.out.ri_ R2.out Ss2.out.hid (Lib.hid Lq.out.2) Ip hN).mono ?_
      rintro e w3 ⟨A3, c3, rfl, s3, b3⟩
      have S3 := Lib.hid (s3.mono Be2.out.size)
      have Be3 : Hid (Below w.heap.size w w3) := Lib.hid (btr Be2.out b3)
      have Ip3 : Hid (IsP (compL P (letM gs l))) := Lib.hid (isP_comp Ip.out Lq.out.1 (by rw [Ss.out.1, Lq.out.2]))
      have Ev3 : Hid (nx (compL P (letM gs l)) x = evP gs x (wd.take (k + 1))) := Lib.hid (by rw [Nx.out, El.out, nx_comp (by rw [Ss.out.1]; exact hxN), Ev.out])
      clear s3 b3
      go_wp2_with fail
      go_roundw
      case rel => exact ⟨k + 1, _, _, _, by omega, by go_num, rfl, S3.out, Ip3.out, Ev3.out, Be3.out⟩
      case measure => simp [intOf]; omega
    · have hkn : k = n := by omega
      subst hkn
      have Ev2 : Hid (nx P x = evP gs x wd) := Lib.hid (by rw [Ev.out, List.take_of_length_le (by rw [lx.out]; exact Nat.le_refl _)])
      go_wp2_with fail
      go_ret
      exact ⟨_, _, P, rfl, Ss.out, Ev2.out, Ip.out, Be.out⟩

set_option maxHeartbeats 1000000 in
set_option maxRecDepth 100000 in
/-- EvaluateWord at generators and letters. -/
theorem specEvalWord (N m mc n c x : Nat) (G A : Option Addr) (vs : List SV) (gs : List (List Int)) (wd : List Int) (w : World) (hg : RR w w.heap.size G m vs gs) (hl : Hid (∀ i, i < m → (vs.getD i sd0).2.1 ≤ 1048576)) (hx : RI w w.heap.size A wd) (lx : Hid (wd.length = n)) (hs : gB (N : Int) gs = true) (ok : Hid (∀ g ∈ gs, IsP g ∧ g.length = N)) (hall : Hid (∀ l ∈ wd, Ltr m l)) (hN1 : 1 ≤ N) (hN : N ≤ 20) (hm : m ≤ 8) (hn : n ≤ 200) (hxN : x < N) :
    Calls Try.prog 27 #[.int .i64 (N : Nat), .slice G m mc, .slice A n c] w fun e w' => ∃ A' c' P, e = .returned (.tuple #[.slice A' N c', .bool true]) ∧ Slc w' w.heap.size A' N c' P ∧ nx P x = evP gs x wd ∧ IsP P ∧ Below w.heap.size w w' := by
  have HG := Lib.hid hg
  have HX := Lib.hid hx
  clear hg hx
  go_enter Try.func27, Try.ntmps27
  go_wp2_with fail
  have K0 := specGS N G m mc vs gs w HG.out (by omega) hl (by omega)
  refine K0.mono ?_
  rintro e w1 ⟨rfl, b1⟩
  have B1 := Lib.hid b1
  have X1 := Lib.hid (HX.out.up B1.out)
  clear b1 K0
  rw [hs]
  go_wp2_with fail
  refine (specIsWord m n c A wd w1 X1.out lx hall hm hn).mono ?_
  rintro e w1' ⟨rfl, rfl⟩
  go_wp2_with fail
  refine (specEvaluate N m mc n c x G A vs gs wd w1 (HG.out.up B1.out) X1.out lx ok hall hN1 hN hm hn hxN).mono ?_
  rintro e w2 ⟨A2, c2, P, rfl, s2, ev, ip, b2⟩
  have S2 := Lib.hid (s2.mono B1.out.size)
  have Ev := Lib.hid ev
  have Ip := Lib.hid ip
  have B2 : Hid (Below w.heap.size w w2) := Lib.hid (btr B1.out b2)
  clear s2 ev ip b2
  go_wp2_with fail
  go_ret2
  exact ⟨_, _, P, rfl, S2.out, Ev.out, Ip.out, B2.out⟩
end Go.Proofs.Ytojmlmeahoppjaa
