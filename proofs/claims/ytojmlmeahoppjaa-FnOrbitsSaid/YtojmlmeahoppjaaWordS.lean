/- ShortestWordTo of the model. Conditions: at most 1048576 lists of at most 1048576 numbers. -/
import Derived.Test.YtojmlmeahoppjaaOrbs
import Derived.Test.YtojmlmeahoppjaaInvG
import Derived.Test.YtojmlmeahoppjaaWordM
import Derived.Test.YtojmlmeahoppjaaGrpM
import Derived.Deep.RegionWith
import Derived.Deep.LoopGhost
import Derived.Deep.CutRange
import Derived.Deep.DeepMust
namespace Go.Proofs.Ytojmlmeahoppjaa
open Go.RowKit

/-- The letter at a place of the order of letters. -/
def letL (i : Nat) : Int := if i % 2 = 1 then -(((i / 2 : Nat) : Int) + 1) else ((i / 2 : Nat) : Int) + 1
theorem stps_at {gs : List (List Int)} {n i : Nat} (hi : i < 2 * n) : (stps gs n).getD i (0, []) = (letL i, if i % 2 = 1 then invL (gs.getD (i / 2) []) (gs.getD (i / 2) []).length else gs.getD (i / 2) []) := by
  unfold letL
  by_cases h : i % 2 = 1
  · rw [if_pos h, if_pos h]
    have := stps_odd (gs := gs) (k := n) (j := i / 2) (by omega)
    rwa [show 2 * (i / 2) + 1 = i from by omega] at this
  · rw [if_neg h, if_neg h]
    have := stps_even (gs := gs) (k := n) (j := i / 2) (by omega)
    rwa [show 2 * (i / 2) = i from by omega] at this

/-- letterAt. -/
theorem specLetterAt (i : Nat) (w : World) (hi : i ≤ 1000) :
    Calls Try.prog 69 #[.int .i64 (i : Nat)] w fun e w' => e = .returned (.int .i64 (letL i)) ∧ w = w' := by
  obtain ⟨q, hq⟩ : ∃ q, i / 2 = q := ⟨_, rfl⟩
  have dq : (i : Int).tdiv 2 = (q : Int) := by subst hq; exact (Int.ofNat_tdiv i 2).symm
  have wq : IntKind.i64.wrap (q : Int) = q := by rw [IntKind.wrap_i64]; omega
  have wq1 : IntKind.i64.wrap ((q : Int) + 1) = (q : Int) + 1 := by rw [IntKind.wrap_i64]; omega
  have wq2 : IntKind.i64.wrap (-((q : Int) + 1)) = -((q : Int) + 1) := by rw [IntKind.wrap_i64]; omega
  by_cases h : i % 2 = 1
  · have dr : (i : Int).tmod 2 = 1 := by
      have := (Int.ofNat_tmod i 2).symm
      rw [h] at this; exact this
    have Fin : Hid (letL i = -((q : Int) + 1)) := Lib.hid (by unfold letL; rw [if_pos h, hq])
    clear h hq
    go_enter Try.func69, Try.ntmps69
    go_wp2
    go_ret
    exact ⟨ret_int Fin.out.symm, rfl⟩
  · have dr : (i : Int).tmod 2 = 0 := by
      have := (Int.ofNat_tmod i 2).symm
      rw [show i % 2 = 0 from by omega] at this; exact this
    have Fin : Hid (letL i = (q : Int) + 1) := Lib.hid (by unfold letL; rw [if_neg h, hq])
    clear h hq
    go_enter Try.func69, Try.ntmps69
    go_wp2
    go_ret
    exact ⟨ret_int Fin.out.symm, rfl⟩

/-- letterPermutation of a generator's own letter. -/
theorem specLetPos (j : Nat) (A : Option Addr) (n c N : Nat) (vs : List SV) (gs : List (List Int)) (w : World) (hx : RR w w.heap.size A n vs gs) (ok : Hid (∀ g ∈ gs, IsP g ∧ g.length = N)) (hj : j < n) (hn : n ≤ 8) :
    Calls Try.prog 68 #[.slice A n c, .int .i64 ((j : Int) + 1)] w fun e w' => ∃ A' c', e = .returned (.slice A' N c') ∧ RI w' w'.heap.size A' (gs.getD j []) ∧ Below w.heap.size w w' := by
  obtain ⟨b, off, A5, l, c5, y, rfl, hb, ev, ey, hc0, hr0, hy, hlc⟩ := hx.at_ hj
  have hl : l = N := by rw [← hy]; exact (ok.out y (by rw [← ey]; exact getD_memL (by rw [hx.lx]; exact hj))).2
  subst hl
  have R0 : Hid (RI w w.heap.size A5 (gs.getD j [])) := Lib.hid (by rw [ey]; exact hr0)
  have w1 : IntKind.i64.wrap ((j : Int) + 1 - 1) = (j : Int) := by rw [IntKind.wrap_i64]; omega
  have d0 : decide ((j : Int) + 1 < 0) = false := decide_eq_false (by omega)
  have p1 : (0 : Int) ≤ j := by omega
  have p2 : (j : Int) < n := by omega
  clear hx ev ey hr0 hy
  go_enter Try.func68, Try.ntmps68
  go_wp2
  go_ret
  exact ⟨_, _, rfl, R0.out, Below.refl _ _⟩
/-- letterPermutation of an inverse's letter. -/
theorem specLetNeg (j : Nat) (A : Option Addr) (n c N : Nat) (vs : List SV) (gs : List (List Int)) (w : World) (hx : RR w w.heap.size A n vs gs) (ok : Hid (∀ g ∈ gs, IsP g ∧ g.length = N)) (hN : N ≤ 20) (hj : j < n) (hn : n ≤ 8) :
    Calls Try.prog 68 #[.slice A n c, .int .i64 (-((j : Int) + 1))] w fun e w' => ∃ A' c', e = .returned (.slice A' N c') ∧ RI w' w'.heap.size A' (invL (gs.getD j []) (gs.getD j []).length) ∧ Below w.heap.size w w' := by
  obtain ⟨b, off, A5, l, c5, y, rfl, hb, ev, ey, hc0, hr0, hy, hlc⟩ := hx.at_ hj
  have hok := ok.out y (by rw [← ey]; exact getD_memL (by rw [hx.lx]; exact hj))
  have hl : l = N := by rw [← hy]; exact hok.2
  subst hl
  have Ip := Lib.hid hok.1
  have R0 := Lib.hid hr0
  have Hy := Lib.hid hy
  have Ey := Lib.hid ey
  have w1 : IntKind.i64.wrap (-(-((j : Int) + 1))) = (j : Int) + 1 := by rw [IntKind.wrap_i64]; omega
  have w2 : IntKind.i64.wrap ((j : Int) + 1 - 1) = (j : Int) := by rw [IntKind.wrap_i64]; omega
  have d0 : decide (-((j : Int) + 1) < 0) = true := decide_eq_true (by omega)
  have p1 : (0 : Int) ≤ j := by omega
  have p2 : (j : Int) < n := by omega
  clear hx ev ey hr0 hy hok
  go_enter Try.func68, Try.ntmps68
  go_wp2_with fail
  refine (specInv A5 c5 l y w R0.out Hy Ip hN).mono ?_
  rintro e w3 ⟨A3, c3, rfl, s3, b3⟩
  have R3 : Hid (RI w3 w3.heap.size A3 (invL (gs.getD j []) (gs.getD j []).length)) := Lib.hid (by rw [Ey.out, Hy.out]; exact s3.ri_)
  have B3 := Lib.hid b3
  clear s3 b3
  go_wp2
  go_ret
  exact ⟨_, _, rfl, R3.out, B3.out⟩
/-- letterPermutation of the letter at a place. -/
theorem specLetP (i : Nat) (A : Option Addr) (n c N : Nat) (vs : List SV) (gs : List (List Int)) (w : World) (hx : RR w w.heap.size A n vs gs) (ok : Hid (∀ g ∈ gs, IsP g ∧ g.length = N)) (hN : N ≤ 20) (hi : i < 2 * n) (hn : n ≤ 8) :
    Calls Try.prog 68 #[.slice A n c, .int .i64 (letL i)] w fun e w' => ∃ A' c', e = .returned (.slice A' N c') ∧ RI w' w'.heap.size A' ((stps gs n).getD i (0, [])).2 ∧ Below w.heap.size w w' := by
  rw [stps_at hi]
  unfold letL
  by_cases h : i % 2 = 1
  · rw [if_pos h, if_pos h]
    exact specLetNeg (i / 2) A n c N vs gs w hx ok hN (by omega) hn
  · rw [if_neg h, if_neg h]
    exact specLetPos (i / 2) A n c N vs gs w hx ok (by omega) hn

/-- The steps' maps rearrange the points. -/
theorem stps_pm {gs : List (List Int)} {N n : Nat} (ok : ∀ g ∈ gs, IsP g ∧ g.length = N) (hn : n ≤ gs.length) : PMs N (mvs (stps gs n)) := by
  intro g hg
  obtain ⟨t, ht, rfl⟩ := List.mem_map.1 hg
  obtain ⟨i, hi, e⟩ := List.mem_iff_getElem.1 ht
  have h := stps_at (gs := gs) (n := n) (i := i) (by rw [stps_len] at hi; exact hi)
  rw [List.getD_eq_getElem?_getD, List.getElem?_eq_getElem hi] at h
  have h2 : (stps gs n)[i] = (letL i, if i % 2 = 1 then invL (gs.getD (i / 2) []) (gs.getD (i / 2) []).length else gs.getD (i / 2) []) := h
  rw [stps_len] at hi
  have hm : gs.getD (i / 2) [] ∈ gs := getD_memL (by omega)
  rw [← e, h2]
  show PM N (if i % 2 = 1 then _ else _)
  have := ok _ hm
  by_cases ho : i % 2 = 1
  · rw [if_pos ho, ← this.2, ← invL_length (gs.getD (i / 2) []) (gs.getD (i / 2) []).length]
    rw [invL_length]
    have h3 := (isP_inv this.1).pm
    rwa [invL_length] at h3
  · rw [if_neg ho, ← this.2]; exact this.1.pm
/-- What ShortestWordTo answers. -/
def wordO (n : Int) (gs : List (List Int)) (x y : Int) : Option (List Int) := if gB n gs = true ∧ (0 ≤ x ∧ x < n) ∧ (0 ≤ y ∧ y < n) then wrd (stps gs gs.length) n.toNat x.toNat y.toNat else none

theorem pts_ints (f : List Arr) : (pts f).map Int.ofNat = f.map fun a => (a.1 : Int) := by simp [pts]
/-- The words of arrivals. -/
def wds (f : List Arr) : List (List Int) := f.map (·.2)
theorem wds_getD (f : List Arr) {i : Nat} (hi : i < f.length) : (wds f).getD i [] = (f.getD i ar0).2 := by
  unfold wds
  rw [List.getD_eq_getElem?_getD, List.getD_eq_getElem?_getD, List.getElem?_map, List.getElem?_eq_getElem hi]; rfl
theorem wds_len (f : List Arr) : (wds f).length = f.length := by simp [wds]
theorem addA_yes {f : List Arr} {v : Nat} {w : List Int} (h : v ∈ pts f) : addA f v w = f := if_pos h
theorem addA_no {f : List Arr} {v : Nat} {w : List Int} (h : v ∉ pts f) : addA f v w = f ++ [(v, w)] := if_neg h

/-- A slice literal of one slice. -/
theorem SS.lit1 {w : World} {base bi : Nat} {A : Option Addr} {n c : Nat} {ys : List Int} (h : Slc w bi A n c ys) (hb : base ≤ w.heap.size) : SS (w.alloc (.cells #[.slice A n c] 34)) base bi (some ⟨w.heap.size, 0, none⟩) 1 1 [(A, n, c)] [ys] :=
  ⟨World.ownsRow_lit (size := 1) w #[.slice A n c] 1 hb (by unfold maxLen; omega) rfl, rfl, rfl, fun i hi => by
    obtain rfl : i = 0 := by omega
    exact h.alloc _, fun i j h1 h2 => by omega⟩
theorem RR.drew' {w : World} {B n : Nat} {A : Option Addr} {vs : List SV} {xss : List (List Int)} (h : RR w B A n vs xss) : RR w.drew w.drew.heap.size A n vs xss ↔ RR w w.heap.size A n vs xss := ⟨fun h => h.keep fun _ _ => rfl, fun h => h.keep fun _ _ => rfl⟩
/-- Every row lies somewhere. -/
def Som (us : List SV) (n : Nat) : Prop := ∀ t, t < n → ∃ g, (us.getD t sd0).1 = some ⟨g, 0, none⟩
theorem Som.snoc {us : List SV} {n g d e : Nat} (h : Som us n) (hl : us.length = n) : Som (us ++ [(some ⟨g, 0, none⟩, d, e)]) (n + 1) := fun t ht => by
  by_cases e1 : t < n
  · rw [getD_app _ _ _ _ (by rw [hl]; exact e1)]; exact h t e1
  · rw [getD_snoc _ _ _ _ (by rw [hl]; omega)]; exact ⟨g, rfl⟩

set_option maxHeartbeats 8000000 in
set_option maxRecDepth 100000 in
/-- The model's ShortestWordTo, at generators and points. -/
theorem specWord_core (N x y n c : Nat) (A : Option Addr) (vs : List SV) (gs : List (List Int)) (w : World) (hx : RR w w.heap.size A n vs gs) (hn : n ≤ 1048576) (hl : Hid (∀ i, i < n → (vs.getD i sd0).2.1 ≤ 1048576)) (hs : gB (N : Int) gs = true) (hxN : x < N) (hyN : y < N) (hN2 : N ≤ 20) (hg8 : gs.length ≤ 8) (ok : Hid (∀ g ∈ gs, IsP g ∧ g.length = N)) :
    Calls Try.prog 43 #[.int .i64 (N : Nat), .slice A n c, .int .i64 (x : Nat), .int .i64 (y : Nat)] w fun e w' => ∃ A' m c', e = .returned (.tuple #[.slice A' m c', .bool (wrd (stps gs gs.length) N x y).isSome]) ∧ Slc w' w.heap.size A' m c' ((wrd (stps gs gs.length) N x y).getD []) ∧ m ≤ 20 ∧ Below w.heap.size w w' := by
  have HX := Lib.hid hx
  have hlx := hx.lx
  have hn8 : n ≤ 8 := by omega
  have Ptx : Hid (decide (0 ≤ (x : Int) ∧ (x : Int) < N) = true) := Lib.hid (decide_eq_true (by omega))
  have Pty : Hid (decide (0 ≤ (y : Int) ∧ (y : Int) < N) = true) := Lib.hid (decide_eq_true (by omega))
  have Sp : Hid (PMs N (mvs (stps gs gs.length))) := Lib.hid (stps_pm ok.out (Nat.le_refl _))
  obtain ⟨S, hS⟩ : ∃ S, stps gs gs.length = S := ⟨_, rfl⟩
  have hSl : S.length = 2 * n := by rw [← hS, stps_len, hlx]
  have HS : Hid (stps gs n = S) := Lib.hid (by rw [← hlx]; exact hS)
  rw [hS] at Sp ⊢
  go_enter Try.func43, Try.ntmps43
  go_wp2_with fail
  have K0 := specGS N A n c vs gs w hx hn hl (by omega)
  refine K0.mono ?_
  rintro e w1 ⟨rfl, b1⟩
  have B1 := Lib.hid b1
  clear b1 hx K0 hS
  rw [hs]
  go_wp2_with fail
  refine (specPt N x w1 (by omega) (by omega)).mono ?_
  rintro e w1' ⟨rfl, rfl⟩
  rw [Ptx.out]
  go_wp2_with fail
  refine (specPt N y w1 (by omega) (by omega)).mono ?_
  rintro e w1' ⟨rfl, rfl⟩
  rw [Pty.out]
  go_wp2_with fail
  have hww : w.heap.size ≤ w1.heap.size := B1.out.size
  obtain ⟨V, hV⟩ : ∃ V, ((w1.alloc (.cells #[.int .i64 (x : Int)] 2)).alloc (.cells #[] 2)).alloc (.cells #[.slice (some ⟨w1.heap.size + 1, 0, none⟩) 0 0] 34) = V := ⟨_, rfl⟩
  rw [hV]
  have F0 : Hid (Slc V w.heap.size (some ⟨w1.heap.size, 0, none⟩) 1 1 ((pts [((x, []) : Arr)]).map Int.ofNat)) := Lib.hid (by rw [← hV]; exact ((Slc.lit1 w1 w.heap.size (x : Int) hww).alloc _).alloc _)
  have W0 : Hid (SS V w.heap.size w.heap.size (some ⟨w1.heap.size + 1 + 1, 0, none⟩) 1 1 [(some ⟨w1.heap.size + 1, 0, none⟩, 0, 0)] (wds [((x, []) : Arr)])) := Lib.hid (by
    have h1 := Slc.lit0 (w1.alloc (.cells #[.int .i64 (x : Int)] 2)) w.heap.size (by simp; omega)
    have h2 := SS.lit1 (base := w.heap.size) h1 (by simp; omega)
    simp only [World.size_alloc] at h2
    rw [hV] at h2; exact h2)
  have Bv : Hid (Below w.heap.size w V) := Lib.hid (by rw [← hV]; exact ((B1.out.alloc hww _).alloc (by simp; omega) _).alloc (by simp; omega) _)
  have D0 : Hid (∀ i, i < 1 → (sval (([(some ⟨w1.heap.size + 1, 0, none⟩, 0, 0)] : List SV).getD i sd0)).ownBlock = none ∨ (sval (([(some ⟨w1.heap.size + 1, 0, none⟩, 0, 0)] : List SV).getD i sd0)).ownBlock ≠ (Value.slice (some ⟨w1.heap.size, 0, none⟩) 1 1).ownBlock) := Lib.hid fun i hi => by
    obtain rfl : i = 0 := by omega
    right; simp [sval, Value.ownBlock]
  clear hV
  go_loopg [10, 11, 12] (N + 1) (fun gg fo wo iv wr => ∃ (i : Nat) (f : List Arr) (A1 : Option Addr) (c1 : Nat) (A2 : Option Addr) (c2 : Nat) (us : List SV), i ≤ f.length ∧ N + 1 - i ≤ gg ∧ iv = .int .i64 (i : Nat) ∧ fo = .slice A1 f.length c1 ∧ wo = .slice A2 f.length c2 ∧
    Slc wr w.heap.size A1 f.length c1 ((pts f).map Int.ofNat) ∧ SS wr w.heap.size w.heap.size A2 f.length c2 us (wds f) ∧ Som us f.length ∧ (∀ i, i < f.length → (sval (us.getD i sd0)).ownBlock = none ∨ (sval (us.getD i sd0)).ownBlock ≠ (Value.slice A1 f.length c1).ownBlock) ∧
    Fw S N x f ∧ bfw S y (N + 1 - i) i f = wrd S N x y ∧ Below w.heap.size w wr)
  case atStart => exact ⟨0, [(x, [])], _, _, _, _, _, Nat.zero_le _, Nat.le_refl _, rfl, rfl, rfl, F0.out, W0.out, fun t ht => by
    obtain rfl : t = 0 := by simpa using ht
    exact ⟨_, rfl⟩, D0.out, Fw.one hxN, rfl, Bv.out⟩
  case round =>
    clear F0 W0 Bv D0
    obtain ⟨i, f, A1, c1, A2, c2, us, hi, hgi, rfl, rfl, rfl, sf, sw, som, dj, fw, hbf, bel⟩ := hrel
    have Sf := Lib.hid sf
    have Sw := Lib.hid sw
    have So := Lib.hid som
    have Dj := Lib.hid dj
    have Fq := Lib.hid fw
    have Hbf := Lib.hid hbf
    have Be := Lib.hid bel
    have hfN := fw.size
    clear sf sw som dj fw hbf bel
    by_cases hlf : i < f.length
    · obtain ⟨u, hu⟩ : ∃ u, (f.getD i ar0).1 = u := ⟨_, rfl⟩
      obtain ⟨wd, hwd⟩ : ∃ wd, (f.getD i ar0).2 = wd := ⟨_, rfl⟩
      have huN : u < N := by rw [← hu]; exact Fq.out.lt hlf
      have hwl : wd.length ≤ 20 := by rw [← hwd]; have := Fq.out.len i hlf; omega
      rcases Slc.at_ Sf.out with ⟨_, e1, _⟩ | ⟨g, rfl, hg1, hg2⟩
      · exfalso; have : (pts f).length = 0 := by have := congrArg List.length e1; simpa using this
        rw [pts_len] at this; omega
      have c3 := Sf.out.cellN hlf
      rw [pts_getD, hu] at c3
      have px0 : (0 : Int) ≤ i := by omega
      have px1 : (i : Int) < f.length := by omega
      by_cases hyu : u = y
      · have Ans : Hid (wrd S N x y = some wd) := Lib.hid (by rw [← Hbf.out, ← hwd]; exact bfw_found hlf hfN (by rw [hu]; exact hyu))
        have hrow := Sw.out.row i hlf
        rw [wds_getD f hlf, hwd] at hrow
        obtain ⟨q, rfl, hq1, hq2, hqc⟩ := Sw.out.at_ (by omega)
        have cw := hqc i hlf
        obtain ⟨A4, m4, c4, e4⟩ : ∃ A4 m4 c4, us.getD i sd0 = (A4, m4, c4) := ⟨_, _, _, rfl⟩
        rw [e4] at cw hrow
        have Hrow := Lib.hid hrow
        have hm4 : m4 ≤ 20 := by
          have h9 : wd.length = m4 := hrow.1
          omega
        have A1s : Hid ((wrd S N x y).isSome = true) := Lib.hid (by rw [Ans.out]; rfl)
        have A2s : Hid ((wrd S N x y).getD [] = wd) := Lib.hid (by rw [Ans.out]; rfl)
        subst hyu
        clear hu hwd hrow e4 hqc
        go_wp2_with fail
        go_ret2
        exact ⟨A4, m4, c4, congrArg (fun b => Ending.returned (.tuple #[.slice A4 m4 c4, .bool b])) A1s.out.symm, by rw [A2s.out]; exact Hrow.out, hm4, Be.out⟩
      · have hyu2 : ((u : Int) == (y : Int)) = false := by simp; omega
        have Hgo : Hid (bfw S y (N + 1 - (i + 1)) (i + 1) (expA S u wd f) = wrd S N x y) := Lib.hid (by rw [← Hbf.out, bfw_go hlf hfN (by rw [hu]; exact hyu), hu, hwd])
        have Hu := Lib.hid hu
        have Hwd := Lib.hid hwd
        clear hu hwd
        go_wp2_with fail
        obtain ⟨wl, rfl⟩ : ∃ wl, wl = wr := ⟨_, rfl⟩
        go_loopg [10, 11, 13] (2 * n) (fun gg fo wo iv wr2 => ∃ (j : Nat) (f2 : List Arr) (B1 : Option Addr) (d1 : Nat) (B2 : Option Addr) (d2 : Nat) (us2 : List SV), j ≤ 2 * n ∧ 2 * n - j ≤ gg ∧ iv = .int .i64 (j : Nat) ∧ fo = .slice B1 f2.length d1 ∧ wo = .slice B2 f2.length d2 ∧
          Slc wr2 w.heap.size B1 f2.length d1 ((pts f2).map Int.ofNat) ∧ SS wr2 w.heap.size w.heap.size B2 f2.length d2 us2 (wds f2) ∧ Som us2 f2.length ∧ (∀ i, i < f2.length → (sval (us2.getD i sd0)).ownBlock = none ∨ (sval (us2.getD i sd0)).ownBlock ≠ (Value.slice B1 f2.length d1).ownBlock) ∧
          f2 = expAk S j u wd f ∧ Below w.heap.size w wr2)
        case atStart => exact ⟨0, f, _, _, _, _, us, Nat.zero_le _, Nat.le_refl _, rfl, rfl, rfl, Sf.out, Sw.out, So.out, Dj.out, expAk_zero.symm, Be.out⟩
        case round =>
          obtain ⟨j, f2, B1, d1, B2, d2, us2, hj, hgj, rfl, rfl, rfl, sf2, sw2, som2, dj2, ef2, bel2⟩ := hrel
          have Sf2 := Lib.hid sf2
          have Sw2 := Lib.hid sw2
          have So2 := Lib.hid som2
          have Dj2 := Lib.hid dj2
          have Ef := Lib.hid ef2
          have Be2 := Lib.hid bel2
          have Fq2 : Hid (Fw S N x f2) := Lib.hid (by rw [ef2, ← Hu.out, ← Hwd.out]; exact Fq.out.expk Sp.out hlf j)
          have hf2N := Fq2.out.size
          have hpre : i < f2.length ∧ f2.getD i ar0 = (u, wd) := by
            obtain ⟨tt, et⟩ := expA_pre (S.take j) u wd f
            rw [ef2]
            unfold expAk
            rw [et]
            exact ⟨by rw [List.length_append]; omega, by rw [getD_appA _ _ _ hlf]; exact Prod.ext Hu.out Hwd.out⟩
          have hi2 := hpre.1
          have Hat := Lib.hid hpre.2
          clear sf2 sw2 som2 dj2 ef2 bel2 hpre
          have wn2 : IntKind.i64.wrap (2 * (n : Int)) = 2 * (n : Int) := by rw [IntKind.wrap_i64]; omega
          by_cases hjl : j < 2 * n
          · have d0 : decide ((j : Int) < 2 * (n : Int)) = true := decide_eq_true (by omega)
            obtain ⟨tl, tm, ht⟩ : ∃ tl tm, S.getD j (0, []) = (tl, tm) := ⟨_, _, rfl⟩
            have htl : letL j = tl := by
              have h9 := stps_at (gs := gs) (n := n) hjl
              rw [HS.out, ht] at h9
              exact (congrArg Prod.fst h9).symm
            have hmem : (tl, tm) ∈ S := by
              rw [← ht, List.getD_eq_getElem?_getD, List.getElem?_eq_getElem (by omega)]; exact List.getElem_mem _
            have htp : PM N tm := Sp.out tm (List.mem_map.2 ⟨_, hmem, rfl⟩)
            have Nx := Lib.hid (expAk_succ (u := u) (w := wd) (f := f) (by omega : j < S.length) ht)
            obtain ⟨v, ev2⟩ : ∃ v, nx tm u = v := ⟨_, rfl⟩
            have hvN : v < N := by rw [← ev2]; exact htp.nx_lt huN
            have Htm := Lib.hid htp
            have Ev := Lib.hid ev2
            have Ht := Lib.hid ht
            rcases Slc.at_ Sf2.out with ⟨_, e1, _⟩ | ⟨g2, rfl, hg21, hg22⟩
            · exfalso; have : (pts f2).length = 0 := by have := congrArg List.length e1; simpa using this
              rw [pts_len] at this; omega
            have c32 := Sf2.out.cellN hi2
            rw [pts_getD, Hat.out] at c32
            have px1' : (i : Int) < f2.length := by omega
            have pu0 : (0 : Int) ≤ u := by omega
            have pu1 : (u : Int) < N := by omega
            have KP : Hid (∀ W : World, RR W W.heap.size A n vs gs → Calls Try.prog 68 #[.slice A n c, .int .i64 (letL j)] W fun e w' => ∃ A' c', e = .returned (.slice A' N c') ∧ (∃ b off, A' = some ⟨b, off, none⟩ ∧ w'.cell? ⟨b, off + u, none⟩ = some (.int .i64 (v : Nat))) ∧ Below W.heap.size W w') := Lib.hid fun W hW => (specLetP j A n c N vs gs W hW ok hN2 hjl hn8).mono fun e w' ⟨A', c', he, hr, hb⟩ => by
              rw [HS.out, Ht.out] at hr
              obtain ⟨b, off, e1, _, hc⟩ := hr (by rw [Htm.out.len]; omega)
              refine ⟨A', c', he, ⟨b, off, e1, ?_⟩, hb⟩
              have := hc u (by rw [Htm.out.len]; exact huN)
              rw [Htm.out.nx_val huN, Ev.out] at this
              exact this
            have Htl := Lib.hid htl
            clear ht hmem htp ev2 htl
            have HXd : Hid (RR wr.drew wr.drew.heap.size A n vs gs) := Lib.hid ((HX.out.up Be2.out).drew'.2 (HX.out.up Be2.out))
            go_wp2_with fail
            go_cut [14] from 52 to 88 (fun zz wx => zz = .int .i64 (v : Nat) ∧ Below wr.heap.size wr wx)
            case first =>
              go_region_with (first
                | (go_at_call 69; go_must (refine (specLetterAt j _ (by omega)).mono ?_; rintro e w7 ⟨rfl, rfl⟩))
                | (go_at_call 68; go_must (refine (KP.out wr.drew HXd.out).mono ?_; rintro e w8 ⟨A8, c8, rfl, ⟨b8, off8, rfl, cv8⟩, b80⟩; have b8' := below_undrew b80; have c38 : w8.cell? ⟨g2, i, none⟩ = some (.int .i64 (u : Nat)) := (b8'.cell (p := ⟨g2, i, none⟩) hg22).trans c32; clear b80)))
              all_goals (go_wp2_with fail; go_meet; exact ⟨rfl, b8'⟩)
            case rest =>
              obtain ⟨rfl, bx⟩ := hcut
              have Sf3 := Lib.hid (Sf2.out.up bx)
              have Sw3 := Lib.hid (Sw2.out.up bx)
              have Be3 : Hid (Below w.heap.size w wc) := Lib.hid (btr Be2.out bx)
              have hw3 := Be3.out.size
              obtain ⟨isIn, hIn⟩ : ∃ isIn, decide (v ∈ pts f2) = isIn := ⟨_, rfl⟩
              have HasI : Hid (hasB ((pts f2).map Int.ofNat) (v : Int) = isIn) := Lib.hid (by rw [hasB_nat]; exact hIn)
              clear bx
              go_wp2_with fail
              refine (containsI_any (some ⟨g2, 0, none⟩) d1 f2.length _ (v : Int) wc _ Sf3.out.ri_ Sf3.out.hid (by omega) isIn HasI).mono ?_
              rintro e w9 ⟨rfl, rfl⟩
              rcases isIn with _ | _
              · have hvn : v ∉ pts f2 := by simpa using hIn
                have Nx2 : Hid (expAk S (j + 1) u wd f = f2 ++ [(v, wd ++ [tl])]) := Lib.hid (by rw [Nx.out, ← Ef.out]; show addA f2 (nx tm u) (wd ++ [tl]) = _; rw [Ev.out, addA_no hvn])
                have Pt2 : Hid ((pts (f2 ++ [(v, wd ++ [tl])])).map Int.ofNat = (pts f2).map Int.ofNat ++ [(v : Int)]) := Lib.hid (by simp [pts])
                have Wt2 : Hid (wds (f2 ++ [(v, wd ++ [tl])]) = wds f2 ++ [wd ++ [tl]]) := Lib.hid (by simp [wds])
                have Ln2 : Hid ((f2 ++ [(v, wd ++ [tl])]).length = f2.length + 1) := Lib.hid (by simp)
                obtain ⟨F3, hF3⟩ : ∃ F3, f2 ++ [(v, wd ++ [tl])] = F3 := ⟨_, rfl⟩
                rw [hF3] at Nx2 Pt2 Wt2 Ln2
                clear hIn HasI hvn hF3
                go_wp2_with (first
                  | (at_builtin; refine wpList_appN_at rfl _ _ rfl w.heap.size (some ⟨g2, 0, none⟩) f2.length d1 _ rfl (Sf3.out.alloc _) wc.heap.size 0 1 1 [((v : Nat) : Int)] rfl (litRI wc _) rfl (by omega) (by simp; omega) ?_; intro A5 c5 w5 s5 g5 h5))
                have hrow : ∀ q, q < f2.length → (sval (us2.getD q sd0)).ownBlock = none ∨ (sval (us2.getD q sd0)).ownBlock ≠ (Value.slice A5 (f2.length + 1) c5).ownBlock := fun q hq => by
                  rcases h5 with e | e
                  · rw [e]; exact Dj2.out q hq
                  · rw [e]
                    rcases e2 : (sval (us2.getD q sd0)).ownBlock with _ | z
                    · exact .inl rfl
                    · have := ((Sw3.out.row q hq).lt_ z e2).2
                      exact .inr fun e3 => by have := Option.some.inj e3; simp at this; omega
                have Dj5 := Lib.hid hrow
                have Sf5 := Lib.hid s5
                have Sw5 : Hid (SS w5 w.heap.size w.heap.size B2 f2.length d2 us2 (wds f2)) := Lib.hid ((Sw3.out.alloc (.cells #[.int .i64 (v : Int)] 2)).keptR g5 (ne_sym (apart_types (Sf3.out.alloc (.cells #[.int .i64 (v : Int)] 2)) (Sw3.out.alloc (.cells #[.int .i64 (v : Int)] 2)).own)) Dj2.out)
                have Be5 : Hid (Below w.heap.size w w5) := Lib.hid ((Be3.out.alloc hw3 _).grown g5 (by simp; omega) (fun q hq => (Sf3.out.lt_ q hq).1))
                have hw5 := Be5.out.size
                clear s5 g5 h5 hrow
                obtain ⟨qw, rfl, hq1, hq2, hqc⟩ := Sw5.out.at_ (by omega)
                have cw := hqc i hi2
                have hrow := Sw5.out.row i hi2
                rw [wds_getD f2 hi2, Hat.out] at hrow
                obtain ⟨gr, hgr⟩ := So2.out i hi2
                obtain ⟨A4, m4, c4, e4⟩ : ∃ A4 m4 c4, us2.getD i sd0 = (A4, m4, c4) := ⟨_, _, _, rfl⟩
                rw [e4] at cw hrow hgr
                have hA4 : A4 = some ⟨gr, 0, none⟩ := hgr
                subst hA4
                have Hrow := Lib.hid hrow
                have Hm4 : Hid (wd.length = m4) := Lib.hid hrow.1
                have hm4b : m4 ≤ 20 := by rw [← Hm4.out]; exact hwl
                clear hrow e4 hqc hgr
                go_wp2_with fail
                refine (copyRI gr 0 m4 c4 wd w5 Hrow.out.ri_ Hm4.out (by omega)).mono ?_
                rintro e w6 ⟨A6, c6, rfl, s6, b6⟩
                have S6 := Lib.hid s6
                have B6 := Lib.hid b6
                have hz6 := b6.size
                clear s6 b6
                go_wp2_with fail
                refine (specLetterAt j w6 (by omega)).mono ?_
                rintro e w6' ⟨rfl, rfl⟩
                rw [Htl.out]
                go_wp2_with (first
                  | (at_builtin; refine wpList_app1 rfl _ _ rfl w5.heap.size A6 m4 c6 _ rfl (S6.out.alloc _) w6.heap.size tl rfl (by rw [World.cell?_alloc_at _ _ _ _ rfl]; rfl) (by omega) (by simp; omega) ?_; intro A7 c7 w7 s7 g7
                     have S7 := Lib.hid s7
                     have B7 : Hid (Below w5.heap.size w5 w7) := Lib.hid ((B6.out.alloc hz6 _).grown g7 (by simp; omega) (fun q hq => (S6.out.lt_ q hq).1))
                     have D7 := Lib.hid (lies_dis Sw5.out S7.out.lies (Nat.le_refl _))
                     have Sw7 := Lib.hid (Sw5.out.up B7.out)
                     have Sf7 := Lib.hid (Sf5.out.up B7.out)
                     have DF7 := Lib.hid (S7.out.lies.apart Sf5.out.lies (.inr (Nat.le_refl _)))
                     have Be7 : Hid (Below w.heap.size w w7) := Lib.hid (btr Be5.out B7.out)
                     have hw7 := Be7.out.size
                     clear s7 g7)
                  | (at_builtin; refine wpList_app2 rfl _ _ rfl rfl (Sw7.out.alloc _) w7.heap.size A7 (m4 + 1) c7 _ rfl (by rw [World.cell?_alloc_at _ _ _ _ rfl]; rfl) ((S7.out.mono hw5).alloc _) D7.out (by omega) (by simp; omega) ?_; intro A8 c8 w8 ss8 hg8))
                have Ss8 : Hid (SS w8 w.heap.size w.heap.size A8 F3.length c8 (us2 ++ [(A7, m4 + 1, c7)]) (wds F3)) := Lib.hid (by rw [Ln2.out, Wt2.out]; exact ss8)
                have Sf8 : Hid (Slc w8 w.heap.size A5 F3.length c5 ((pts F3).map Int.ofNat)) := Lib.hid (by
                  rw [Ln2.out, Pt2.out]
                  exact (Sf7.out.alloc (.cells #[.slice A7 (m4 + 1) c7] 34)).kept hg8 (apart_types (Sf7.out.alloc (.cells #[.slice A7 (m4 + 1) c7] 34)) (Sw7.out.alloc (.cells #[.slice A7 (m4 + 1) c7] 34)).own))
                have Be8 : Hid (Below w.heap.size w w8) := Lib.hid ((Be7.out.alloc hw7 _).grown hg8 (by simp; omega) (fun q hq => (Sw7.out.lt_ q hq).1))
                obtain ⟨g7, rfl⟩ : ∃ g7, A7 = some ⟨g7, 0, none⟩ := by
                  rcases S7.out.at_ with ⟨_, _, e0, _⟩ | ⟨q4, e0, _, _⟩
                  · omega
                  · exact ⟨q4, e0⟩
                have So8 : Hid (Som (us2 ++ [(some ⟨g7, 0, none⟩, m4 + 1, c7)]) F3.length) := Lib.hid (by rw [Ln2.out]; exact So2.out.snoc Sw5.out.lv)
                have Dj8 : Hid (∀ q, q < F3.length → (sval ((us2 ++ [((some ⟨g7, 0, none⟩, m4 + 1, c7) : SV)]).getD q sd0)).ownBlock = none ∨ (sval ((us2 ++ [((some ⟨g7, 0, none⟩, m4 + 1, c7) : SV)]).getD q sd0)).ownBlock ≠ (Value.slice A5 F3.length c5).ownBlock) := Lib.hid (by
                  rw [Ln2.out]
                  intro q hq
                  by_cases e : q < f2.length
                  · rw [getD_app _ _ _ _ (by rw [Sw5.out.lv]; exact e)]; exact Dj5.out q e
                  · rw [getD_snoc _ _ _ _ (by rw [Sw5.out.lv]; omega)]; exact DF7.out)
                rw [← Ln2.out]
                clear ss8 hg8
                go_wp2_with fail
                go_roundg (2 * n - (j + 1))
                case rel => exact ⟨j + 1, F3, _, _, _, _, _, by omega, by omega, by go_num, rfl, rfl, Sf8.out, Ss8.out, So8.out, Dj8.out, Nx2.out.symm, Be8.out⟩
                case measure => omega
              · have hvi : v ∈ pts f2 := by simpa using hIn
                have Nx2 : Hid (expAk S (j + 1) u wd f = f2) := Lib.hid (by rw [Nx.out, ← Ef.out]; show addA f2 (nx tm u) (wd ++ [tl]) = _; rw [Ev.out, addA_yes hvi])
                clear hIn HasI hvi
                go_wp2_with fail
                go_roundg (2 * n - (j + 1))
                case rel => exact ⟨j + 1, f2, _, _, _, _, us2, by omega, by omega, by go_num, rfl, rfl, Sf3.out, Sw3.out, So2.out, Dj2.out, Nx2.out.symm, Be3.out⟩
                case measure => omega
          · have d0 : decide ((j : Int) < 2 * (n : Int)) = false := decide_eq_false (by omega)
            have hjn : j = S.length := by omega
            have Ee : Hid (expA S u wd f = f2) := Lib.hid (by rw [Ef.out, hjn, expAk_all])
            have Hb2 : Hid (bfw S y (N + 1 - (i + 1)) (i + 1) f2 = wrd S N x y) := Lib.hid (by rw [← Ee.out]; exact Hgo.out)
            go_wp2_with fail
            go_roundg (N + 1 - (i + 1))
            case rel => exact ⟨i + 1, f2, _, _, _, _, us2, by omega, by omega, by go_num, rfl, rfl, Sf2.out, Sw2.out, So2.out, Dj2.out, Fq2.out, Hb2.out, Be2.out⟩
            case measure => omega
    · have hif : i = f.length := by omega
      have Ans : Hid (wrd S N x y = none) := Lib.hid (by rw [← Hbf.out]; exact bfw_end (by omega))
      have A1s : Hid ((wrd S N x y).isSome = false) := Lib.hid (by rw [Ans.out]; rfl)
      have A2s : Hid ((wrd S N x y).getD [] = []) := Lib.hid (by rw [Ans.out]; rfl)
      have hwr := Be.out.size
      go_wp2_with fail
      go_ret2
      exact ⟨_, 0, 0, congrArg (fun b => Ending.returned (.tuple #[.slice (some ⟨wr.heap.size, 0, none⟩) 0 0, .bool b])) A1s.out.symm, by rw [A2s.out]; exact Slc.lit0 wr _ hwr, by omega, Be.out.alloc hwr _⟩
end Go.Proofs.Ytojmlmeahoppjaa
