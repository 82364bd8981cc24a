/- The walk of the law FnExactCycles: it returns true at every list, and writes nothing that was there. No condition. -/
import Derived.Test.YtopaeojcpidfgaaCycles
namespace Go.Proofs.Ytopaeojcpidfgaa
open Go.RowKit

theorem cyclesL_ok (p : List Int) : ∀ y ∈ cyclesL p, y.length ≤ 20 := by
  intro y hy
  unfold cyclesL at hy
  split at hy
  · rename_i h
    have ip := isP_iff.1 h
    have hy' := (List.mem_filter.1 hy).1
    unfold cycs at hy'
    rw [List.mem_map] at hy'
    obtain ⟨x, hx, rfl⟩ := hy'
    have := per_spec ip (List.mem_range.1 (List.mem_filter.1 hx).1)
    have := ip.le
    rw [cyc_length]; omega
  · cases hy
theorem SS.lens {w : World} {bo bi n c : Nat} {A : Option Addr} {vs : List SV} {xss : List (List Int)} (h : SS w bo bi A n c vs xss) (hl : ∀ y ∈ xss, y.length ≤ 20) : ∀ i, i < n → (vs.getD i sd0).2.1 ≤ 1000 := fun i hi => by
  rw [← (h.row i hi).1]
  have : xss.getD i [] ∈ xss := by rw [List.getD_eq_getElem?_getD, List.getElem?_eq_getElem (by rw [h.lx]; exact hi)]; exact List.getElem_mem _
  have := hl _ this
  omega
/-- A slice of slices whose blocks lie below lo is kept where only blocks from lo on have turned. -/
theorem SS.only {w w' : World} {bo bi n c n' lo : Nat} {A : Option Addr} {vs us : List SV} {xss : List (List Int)} (h : SS w bo bi A n c vs xss) (ho : OnlyIn w w' us n')
    (hus : ∀ i, i < n' → ∀ k, (sval (us.getD i sd0)).ownBlock = some k → lo ≤ k) (hout : ∀ k, (Value.slice A n c).ownBlock = some k → k < lo) (hin : ∀ i, i < n → ∀ k, (sval (vs.getD i sd0)).ownBlock = some k → k < lo) : SS w' bo bi A n c vs xss := by
  have hb : ∀ k, k < lo → k < w.heap.size → w'.heap[k]? = w.heap[k]? := fun k hk hk2 => ho.block k hk2 fun i hi e => by have := hus i hi k e; omega
  refine ⟨⟨h.own.1, ?_⟩, h.lv, h.lx, fun i hi => ⟨(h.row i hi).1, (h.row i hi).2.1, ?_⟩, h.dis⟩
  · rcases h.own.2 with hn | ⟨g, cap, cur, e, hb', hg, rest⟩
    · exact .inl hn
    · exact .inr ⟨g, cap, cur, e, hb', by rw [hb g (hout g (by rw [e]; rfl)) (Array.getElem?_eq_some_iff.1 hg).1]; exact hg, rest⟩
  · rcases (h.row i hi).2.2 with hn | ⟨g, cap, cur, e, hb', hg, rest⟩
    · exact .inl hn
    · exact .inr ⟨g, cap, cur, e, hb', by rw [hb g (hin i hi g (by show (Value.slice _ _ _).ownBlock = _; rw [e]; rfl)) (Array.getElem?_eq_some_iff.1 hg).1]; exact hg, rest⟩
/-- A slice of slices none of whose blocks is the one that turned. -/
theorem SS.far {w w' : World} {bo bi n c lo hi n' c' : Nat} {A A' : Option Addr} {vs : List SV} {xss : List (List Int)} (h : SS w bo bi A n c vs xss) (hg : w.grownBy w' (Value.slice A' n' c').ownBlock) (l : Lies A' n' c' lo hi)
    (hd : (∀ k, (Value.slice A n c).ownBlock = some k → k < lo ∨ hi ≤ k) ∧ ∀ i, i < n → ∀ k, (sval (vs.getD i sd0)).ownBlock = some k → k < lo ∨ hi ≤ k) : SS w' bo bi A n c vs xss := by
  have key : ∀ {B : Option Addr} {m d : Nat}, (∀ k, (Value.slice B m d).ownBlock = some k → k < lo ∨ hi ≤ k) → (Value.slice B m d).ownBlock = none ∨ (Value.slice B m d).ownBlock ≠ (Value.slice A' n' c').ownBlock := fun {B m d} hk => by
    rcases e : (Value.slice B m d).ownBlock with _ | b
    · exact .inl rfl
    · right; intro e'; have := hk b e; have := l b e'.symm; omega
  exact ⟨World.ownsRow.kept h.own hg (key hd.1), h.lv, h.lx, fun i hi' => (h.row i hi').kept hg (key (hd.2 i hi')), h.dis⟩
theorem SS.ins {w : World} {bo bi n c : Nat} {A : Option Addr} {vs : List SV} {xss : List (List Int)} (h : SS w bo bi A n c vs xss) : ∀ i, i < n → ∀ k, (sval (vs.getD i sd0)).ownBlock = some k → bi ≤ k ∧ k < w.heap.size := fun i hi k e => (h.row i hi).lt_ k e

set_option maxHeartbeats 2000000 in
set_option maxRecDepth 100000 in
/-- The law FnExactCycles. -/
theorem lawCycles (P : Option Addr) (cp np : Nat) (p : List Int) (w : World) (hp : RI w w.heap.size P p) (lp : Hid (p.length = np)) :
    Calls Try.prog 12 #[.slice P np cp] w fun e w' => e = .returned (.bool true) ∧ Below w.heap.size w w' := by
  by_cases hnp : np ≤ 1048576
  · have LL : Hid (∀ y ∈ cyclesL p, y.length ≤ 1000) := Lib.hid fun y hy => by have := cyclesL_ok p y hy; omega
    go_enter Try.func12, Try.ntmps12
    go_wp2_with fail
    refine (toS_any P cp np p w hp lp (by omega)).mono ?_
    rintro e w1 ⟨A1, c1, rfl, s1, b1⟩
    have T1 := Lib.hid s1
    have B1 := Lib.hid b1
    have le1 := s1.le.1
    clear s1 b1
    go_wp2_with fail
    refine (specCycles A1 c1 np p w1 T1.out.ri_ lp (by omega) le1).mono ?_
    rintro e w2 ⟨A2, n2, c2, vs2, rfl, s2, l2, b2⟩
    have W2 := Lib.hid s2
    have B2 : Hid (Below w.heap.size w w2) := Lib.hid (btr B1.out b2)
    clear s2 b2
    go_wp2_with fail
    refine (toS_any P cp np p w2 (hp.up B2.out) lp (by omega)).mono ?_
    rintro e w3 ⟨A3, c3, rfl, s3, b3⟩
    have X3 := Lib.hid s3
    have B3 : Hid (Below w.heap.size w w3) := Lib.hid (btr B2.out b3)
    have W3 := Lib.hid (W2.out.up b3)
    have B23 := Lib.hid b3
    clear s3 b3
    go_wp2_with fail
    refine (implCycles A3 c3 np p w3 X3.out.ri_ lp (by omega)).mono ?_
    rintro e w4 ⟨A4, n4, c4, vs4, rfl, s4, l4, b4⟩
    have G4 := Lib.hid s4
    have B4 : Hid (Below w.heap.size w w4) := Lib.hid (btr B3.out b4)
    have W4 := Lib.hid (W3.out.up b4)
    have X4 := Lib.hid (X3.out.up b4)
    have B34 := Lib.hid b4
    clear s4 b4
    go_wp2_with fail
    refine (eqSS_same A4 A2 n4 c4 n2 c2 _ _ _ _ vs4 vs2 _ w4 G4.out W4.out (by omega) LL).mono ?_
    rintro e w5 ⟨rfl, b5⟩
    have B5 : Hid (Below w.heap.size w w5) := Lib.hid (btr B4.out b5)
    have W5 := Lib.hid (W4.out.up b5)
    have X5 := Lib.hid (X4.out.up b5)
    have G5 := Lib.hid (G4.out.up b5)
    clear b5
    go_wp2_with fail
    refine (toS_any P cp np p w5 (hp.up B5.out) lp (by omega)).mono ?_
    rintro e w6 ⟨A6, c6, rfl, s6, b6⟩
    have Y6 := Lib.hid s6
    have B6 : Hid (Below w.heap.size w w6) := Lib.hid (btr B5.out b6)
    have W6 := Lib.hid (W5.out.up b6)
    have X6 := Lib.hid (X5.out.up b6)
    have G6 := Lib.hid (G5.out.up b6)
    clear s6 b6
    go_wp2_with fail
    refine (eqS_same _ _ A3 A6 np c3 np c6 w6 X6.out Y6.out (by omega)).mono ?_
    rintro e w7 ⟨rfl, b7⟩
    have B7 : Hid (Below w.heap.size w w7) := Lib.hid (btr B6.out b7)
    have W7 := Lib.hid (W6.out.up b7)
    have X7 := Lib.hid (X6.out.up b7)
    have G7 := Lib.hid (G6.out.up b7)
    clear b7
    go_wp2_with fail
    refine (mark1 _ A3 np c3 _ w7 X7.out (by omega)).mono ?_
    rintro e w8 ⟨rfl, s8, g8⟩
    have LX : Hid (Lies A3 np c3 w2.heap.size w3.heap.size) := Lib.hid X3.out.lies
    have B8 : Hid (Below w.heap.size w w8) := Lib.hid (B7.out.trans (below_mark g8 LX.out B2.out.size B7.out.size))
    have W8 := Lib.hid (W7.out.far g8 LX.out ⟨fun k e => .inl (W2.out.lt_ k e).2, fun i hi k e => .inl (W2.out.ins i hi k e).2⟩)
    have G8 := Lib.hid (G7.out.far g8 LX.out ⟨fun k e => .inr (G4.out.lt_ k e).1, fun i hi k e => .inr (G4.out.ins i hi k e).1⟩)
    clear s8 g8
    go_wp2_with fail
    refine (eqSS_same A4 A2 n4 c4 n2 c2 _ _ _ _ vs4 vs2 _ w8 G8.out W8.out (by omega) LL).mono ?_
    rintro e w9 ⟨rfl, b9⟩
    have B9 : Hid (Below w.heap.size w w9) := Lib.hid (btr B8.out b9)
    have W9 := Lib.hid (W8.out.up b9)
    have G9 := Lib.hid (G8.out.up b9)
    have HL : Hid (∀ i, i < n4 → (vs4.getD i sd0).2.1 ≤ 1000) := Lib.hid (G9.out.lens (cyclesL_ok p))
    clear b9
    go_wp2_with fail
    refine (markSS A4 n4 c4 _ _ vs4 _ w9 G9.out (by omega) HL).mono ?_
    rintro e w10 ⟨rfl, s10, o10⟩
    have G10 := Lib.hid s10
    have B10 : Hid (Below w.heap.size w w10) := Lib.hid (B9.out.trans (o10.below B9.out.size fun i hi k e => by have := (G4.out.ins i hi k e).1; have := B3.out.size; omega))
    have W10 := Lib.hid (W9.out.only (lo := w3.heap.size) o10 (fun i hi k e => (G4.out.ins i hi k e).1) (fun k e => by have := (W2.out.lt_ k e).2; have := B23.out.size; omega) (fun i hi k e => by have := (W2.out.ins i hi k e).2; have := B23.out.size; omega))
    have hT := tot_le HL.out n4 (Nat.le_refl _)
    obtain ⟨T, eT⟩ : ∃ T, tot vs4 n4 = T := ⟨_, rfl⟩
    have ET := Lib.hid eT
    rw [eT] at hT ⊢
    clear s10 o10 eT
    go_wp2_with fail
    refine (heldSS A4 n4 c4 _ _ vs4 w10 G10.out (by omega) HL).mono ?_
    rintro e w10' ⟨rfl, rfl⟩
    rw [ET.out]
    go_wp2_with fail
    refine (toS_any P cp np p w10 (hp.up B10.out) lp (by omega)).mono ?_
    rintro e w11 ⟨A11, c11, rfl, s11, b11⟩
    have Z11 := Lib.hid s11
    have B11 : Hid (Below w.heap.size w w11) := Lib.hid (btr B10.out b11)
    have W11 := Lib.hid (W10.out.up b11)
    have G11 := Lib.hid (G10.out.up b11)
    clear s11 b11
    go_wp2_with fail
    refine (implCycles A11 c11 np p w11 Z11.out.ri_ lp (by omega)).mono ?_
    rintro e w12 ⟨A12, n12, c12, vs12, rfl, s12, l12, b12⟩
    have H12 := Lib.hid s12
    have B12 : Hid (Below w.heap.size w w12) := Lib.hid (btr B11.out b12)
    have W12 := Lib.hid (W11.out.up b12)
    have G12 := Lib.hid (G11.out.up b12)
    clear s12 b12
    go_wp2_with fail
    refine (eqSS_same A12 A2 n12 c12 n2 c2 _ _ _ _ vs12 vs2 _ w12 H12.out W12.out (by omega) LL).mono ?_
    rintro e w13 ⟨rfl, b13⟩
    have B13 : Hid (Below w.heap.size w w13) := Lib.hid (btr B12.out b13)
    have G13 := Lib.hid (G12.out.up b13)
    clear b13
    go_wp2_with fail
    refine (heldSS A4 n4 c4 _ _ vs4 w13 G13.out (by omega) HL).mono ?_
    rintro e w13' ⟨rfl, rfl⟩
    rw [ET.out]
    go_wp2_with fail
    go_ret
    exact ⟨rfl, B13.out⟩
  · have d1 : decide ((1048576 : Int) < np) = true := by simp; omega
    go_enter Try.func12, Try.ntmps12
    go_wp2
    go_ret
    exact ⟨rfl, Below.refl _ _⟩
end Go.Proofs.Ytopaeojcpidfgaa
