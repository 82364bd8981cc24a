/- Part 6 of the texts: PzD, WalkB9, Vi, WpA, WpE, PgC, WalkC9, WalkD9, WalkE9, WalkF9, WalkG9. No condition of its own: each text tells its own. -/
import Derived.Test.YtkjokchhffjidaaMg5
import Derived.Test.YtkjokchhffjidaaMg1
import Derived.Test.YtkjokchhffjidaaMg3
import Derived.Test.YtkjokchhffjidaaMg4
import Derived.OpenShut
import Derived.Laws.Small
set_option linter.unusedVariables false
set_option linter.unusedSimpArgs false

/- The model's SamePuzzle, MoveIndex. Conditions: those of PIn. -/
namespace Go.Proofs.Ytkjokchhffjidaa
open Go.RowKit

def smB (z : Int) (s : ByteArray) (gs : List (List Int)) (z' : Int) (s' : ByteArray) (gs' : List (List Int)) : Bool := pzB z s gs && pzB z' s' gs' && decide (z = z') && decide (s = s') && decide (gs = gs')
theorem smB_iff {z z' : Int} {s s' : ByteArray} {gs gs' : List (List Int)} : smB z s gs z' s' gs' = true ↔ pzB z s gs = true ∧ pzB z' s' gs' = true ∧ z = z' ∧ s = s' ∧ gs = gs' := by
  unfold smB
  simp only [Bool.and_eq_true, decide_eq_true_eq]
  exact ⟨fun ⟨⟨⟨⟨a, b⟩, c⟩, d⟩, e⟩ => ⟨a, b, c, d, e⟩, fun ⟨a, b, c, d, e⟩ => ⟨⟨⟨⟨a, b⟩, c⟩, d⟩, e⟩⟩
theorem smB_no {z z' : Int} {s s' : ByteArray} {gs gs' : List (List Int)} (h : ¬ (pzB z s gs = true ∧ pzB z' s' gs' = true ∧ z = z' ∧ s = s' ∧ gs = gs')) : smB z s gs z' s' gs' = false := by
  rcases e : smB z s gs z' s' gs' with _ | _
  · rfl
  · exact absurd (smB_iff.1 e) h
theorem pz_lens {z : Int} {s : ByteArray} {gs : List (List Int)} (h : pzB z s gs = true) : ∀ i, i < gs.length → (gs.getD i []).length ≤ 1000 := fun i hi => by
  obtain ⟨N, _, _, h2, _, ok, _⟩ := pz_deg h
  have := (ok _ (getD_memG hi)).2
  omega

theorem tl_inj {s s' : ByteArray} (h : s.toList = s'.toList) : s = s' := by
  rw [ByteArray.toList_eq, ByteArray.toList_eq] at h
  cases s; cases s'
  congr 1
  exact Array.ext' h

set_option maxHeartbeats 1600000 in
/-- SamePuzzle. -/
theorem specSamePuzzle (z : Int) (s : ByteArray) (A : Option Addr) (n c : Nat) (vs : List SV) (gs : List (List Int)) (z' : Int) (s' : ByteArray) (A' : Option Addr) (n' c' : Nat) (vs' : List SV) (gs' : List (List Int)) (w : World) (h : PIn w z s A n vs gs) (h' : PIn w z' s' A' n' vs' gs') :
    Calls Try.prog 29 #[.agg #[.int .i64 z, .string s, .slice A n c], .agg #[.int .i64 z', .string s', .slice A' n' c']] w fun e w' => e = .returned (.bool (smB z s gs z' s' gs')) ∧ Below w.heap.size w w' := by
  obtain ⟨V, hV⟩ : ∃ V, (w.alloc (.cells #[.int .i64 z, .string s, .slice A n c] 26)).alloc (.cells #[.int .i64 z', .string s', .slice A' n' c'] 26) = V := ⟨_, rfl⟩
  have bV : Hid (Blk V w.heap.size 26 #[.int .i64 z, .string s, .slice A n c]) := Lib.hid (by rw [← hV]; exact (Blk.new w _ _).alloc _)
  have bV' : Hid (Blk V (w.heap.size + 1) 26 #[.int .i64 z', .string s', .slice A' n' c']) := Lib.hid (by
    rw [← hV]; have := Blk.new (w.alloc (.cells #[.int .i64 z, .string s, .slice A n c] 26)) 26 #[.int .i64 z', .string s', .slice A' n' c']
    rw [World.size_alloc] at this; exact this)
  have BV : Hid (Below w.heap.size w V) := Lib.hid (by rw [← hV]; exact ((Below.refl _ w).alloc (Nat.le_refl _) _).alloc (by simp) _)
  have HV := Lib.hid (h.up BV.out)
  have HV' := Lib.hid (h'.up BV.out)
  have hlx : Hid (gs.length = n) := Lib.hid h.g.rr.lx
  have hlx' : Hid (gs'.length = n') := Lib.hid h'.g.rr.lx
  have K := specIsValidPuzzle z s A n c vs gs V HV.out
  have x0 := bV.out.cell 0
  have x1 := bV.out.cell 1
  have x2 := bV.out.cell 2
  have y0 := bV'.out.cell 0
  have y1 := bV'.out.cell 1
  have y2 := bV'.out.cell 2
  clear h h'
  rcases hp : pzB z s gs with _ | _
  · have Fin : Hid (smB z s gs z' s' gs' = false) := Lib.hid (smB_no fun h => by rw [hp] at h; cases h.1)
    rw [hp] at K
    go_enter Try.func29, Try.ntmps29
    go_wp2_with fail
    refine K.mono ?_
    rintro e w1 ⟨rfl, b1⟩
    have B1 : Hid (Below w.heap.size w w1) := Lib.hid (btr BV.out b1)
    clear K b1
    go_wp2_with fail
    go_ret
    exact ⟨ret_bool Fin.out.symm, B1.out⟩
  · rw [hp] at K
    have Hp := Lib.hid hp
    clear hp
    go_enter Try.func29, Try.ntmps29
    go_wp2_with fail
    refine K.mono ?_
    rintro e w1 ⟨rfl, b1⟩
    have B1 : Hid (Below w.heap.size w w1) := Lib.hid (btr BV.out b1)
    have bx1 := Lib.hid (bV.out.below b1 bV.out.lt)
    have bx1' := Lib.hid (bV'.out.below b1 bV'.out.lt)
    have H1 := Lib.hid (HV.out.up b1)
    have H1' := Lib.hid (HV'.out.up b1)
    have u0 := bx1'.out.cell 0
    have u1 := bx1'.out.cell 1
    have u2 := bx1'.out.cell 2
    have K2 := specIsValidPuzzle z' s' A' n' c' vs' gs' w1 H1'.out
    clear K b1 x0 x1 x2 y0 y1 y2 hV
    rcases hp' : pzB z' s' gs' with _ | _
    · have Fin : Hid (smB z s gs z' s' gs' = false) := Lib.hid (smB_no fun h => by rw [hp'] at h; cases h.2.1)
      rw [hp'] at K2
      go_wp2_with fail
      refine K2.mono ?_
      rintro e w2 ⟨rfl, b2⟩
      have B2 : Hid (Below w.heap.size w w2) := Lib.hid (btr B1.out b2)
      clear K2 b2
      go_wp2_with fail
      go_ret
      exact ⟨ret_bool Fin.out.symm, B2.out⟩
    · rw [hp'] at K2
      have Hp' := Lib.hid hp'
      clear hp'
      go_wp2_with fail
      refine K2.mono ?_
      rintro e w2 ⟨rfl, b2⟩
      have B2 : Hid (Below w.heap.size w w2) := Lib.hid (btr B1.out b2)
      have bx2 := bx1.out.below b2 bx1.out.lt
      have bx2' := bx1'.out.below b2 bx1'.out.lt
      have H2 := Lib.hid (H1.out.up b2)
      have H2' := Lib.hid (H1'.out.up b2)
      have x0 := bx2.cell 0
      have x1 := bx2.cell 1
      have x2 := bx2.cell 2
      have y0 := bx2'.cell 0
      have y1 := bx2'.cell 1
      have y2 := bx2'.cell 2
      clear K2 b2 bx2 bx2' u0 u1 u2
      by_cases hz : z = z'
      · have d0 : (z == z') = true := by rw [beq_iff_eq]; exact hz
        by_cases hs : s = s'
        · have d1 : (s.toList == s'.toList) = true := by rw [hs]; simp
          have E : Hid (smB z s gs z' s' gs' = decide (gs = gs')) := Lib.hid (by
            unfold smB; rw [Hp.out, Hp'.out, decide_eq_true hz, decide_eq_true hs]; rfl)
          have n8 : n ≤ 1000 := by obtain ⟨_, _, _, _, h8, _⟩ := pz_deg Hp.out; have := hlx.out; omega
          have n8' : n' ≤ 1000 := by obtain ⟨_, _, _, _, h8, _⟩ := pz_deg Hp'.out; have := hlx'.out; omega
          have L1 : Hid (∀ i, i < n → (gs.getD i []).length ≤ 1000) := Lib.hid fun i hi => pz_lens Hp.out i (by rw [hlx.out]; exact hi)
          have L2 : Hid (∀ i, i < n' → (gs'.getD i []).length ≤ 1000) := Lib.hid fun i hi => pz_lens Hp'.out i (by rw [hlx'.out]; exact hi)
          clear hz hs
          go_wp2_with fail
          refine (specEqP A A' n c n' c' vs vs' gs gs' w2 H2.out.g.rr H2'.out.g.rr n8 n8' L1 L2).mono ?_
          rintro e w3 ⟨rfl, b3⟩
          have B3 : Hid (Below w.heap.size w w3) := Lib.hid (btr B2.out b3)
          clear b3
          rw [← E.out]
          go_wp2_with fail
          go_ret
          exact ⟨rfl, B3.out⟩
        · have d1 : (s.toList == s'.toList) = false := by rw [beq_eq_false_iff_ne]; exact fun e => hs (tl_inj e)
          have Fin : Hid (smB z s gs z' s' gs' = false) := Lib.hid (smB_no fun h => hs h.2.2.2.1)
          clear hs
          go_wp2_with fail
          go_ret
          exact ⟨ret_bool Fin.out.symm, B2.out⟩
      · have d0 : (z == z') = false := by rw [beq_eq_false_iff_ne]; exact hz
        have Fin : Hid (smB z s gs z' s' gs' = false) := Lib.hid (smB_no fun h => hz h.2.2.1)
        clear hz
        go_wp2_with fail
        go_ret
        exact ⟨ret_bool Fin.out.symm, B2.out⟩

theorem ext1 (s nm : ByteArray) {i : Nat} (hi : i < s.size) : (s.extract i (i + 1) = nm) ↔ (nm.size = 1 ∧ byt nm 0 = byt s i) := by
  have hsz : (s.extract i (i + 1)).size = 1 := by rw [ByteArray.size_extract]; omega
  have hb : byt (s.extract i (i + 1)) 0 = byt s i := by
    rw [← byt_eq _ (by omega), ← byt_eq s hi]
    congr 1
    simp [ByteArray.getElem_extract]
  constructor
  · rintro rfl; exact ⟨hsz, hb⟩
  · rintro ⟨h1, h2⟩
    have h3 : ∀ k (hk : k < (s.extract i (i + 1)).size) (hk' : k < nm.size), (s.extract i (i + 1))[k] = nm[k] := fun k hk hk' => by
      obtain rfl : k = 0 := by omega
      apply UInt8.toNat_inj.1
      rw [byt_eq _ hk, byt_eq _ hk', hb, h2]
    exact ByteArray.ext_getElem (by omega) h3
set_option maxHeartbeats 1600000 in
set_option maxRecDepth 100000 in
/-- MoveIndex. -/
theorem specMoveIndex (z : Int) (s : ByteArray) (A : Option Addr) (n c : Nat) (vs : List SV) (gs : List (List Int)) (nm : ByteArray) (w : World) (h : PIn w z s A n vs gs) :
    Calls Try.prog 37 #[.agg #[.int .i64 z, .string s, .slice A n c], .string nm] w fun e w' => e = .returned (.int .i64 (mvF z s gs nm)) ∧ Below w.heap.size w w' := by
  obtain ⟨V, hV⟩ : ∃ V, (w.alloc (.cells #[.int .i64 z, .string s, .slice A n c] 26)) = V := ⟨_, rfl⟩
  have bV : Hid (Blk V w.heap.size 26 #[.int .i64 z, .string s, .slice A n c]) := Lib.hid (by rw [← hV]; exact Blk.new w _ _)
  have BV : Hid (Below w.heap.size w V) := Lib.hid (by rw [← hV]; exact (Below.refl _ w).alloc (Nat.le_refl _) _)
  have HV := Lib.hid (h.up BV.out)
  have hs := h.s
  clear h
  go_enter Try.func37, Try.ntmps37
  go_wp2_with fail
  try rw [hV]
  go_loopw [5] (fun iv wr => ∃ i : Nat, i ≤ s.size ∧ iv = .int .i64 (i : Nat) ∧ (∀ j, j < i → ¬ (nm.size = 1 ∧ byt nm 0 = byt s j)) ∧ Below V.heap.size V wr) (fun iv _ => s.size - (intOf iv).toNat)
  case atStart => exact ⟨0, Nat.zero_le _, rfl, fun j h => absurd h (Nat.not_lt_zero _), Below.refl _ _⟩
  case round =>
    obtain ⟨i, hi, rfl, hno, bel⟩ := hrel
    have Hno := Lib.hid hno
    have Be := Lib.hid bel
    have bx := Lib.hid (bV.out.below bel bV.out.lt)
    have Hr := Lib.hid (HV.out.up bel)
    have x0 := bx.out.cell 0
    have x1 := bx.out.cell 1
    have x2 := bx.out.cell 2
    have Bw : Hid (Below w.heap.size w wr) := Lib.hid (btr BV.out bel)
    clear hno bel
    by_cases hlt : i < s.size
    · have K := specIsValidPuzzle z s A n c vs gs wr Hr.out
      have p0 : (0 : Int) ≤ i := by omega
      have p1 : (i : Int) < s.size := by omega
      have p2 : (i : Int) + 1 ≤ s.size := by omega
      have p3 : (i : Int) ≤ (i : Int) + 1 := by omega
      have wi : IntKind.i64.wrap ((i : Int) + 1) = ((i + 1 : Nat) : Int) := by rw [IntKind.wrap_i64]; omega
      rcases hp : pzB z s gs with _ | _
      · have Fin : Hid (mvF z s gs nm = -1) := Lib.hid (by unfold mvF; rw [hp]; rfl)
        rw [hp] at K
        go_wp2_with fail
        refine K.mono ?_
        rintro e w2 ⟨rfl, b2⟩
        have B2 : Hid (Below w.heap.size w w2) := Lib.hid (btr Bw.out b2)
        clear K b2
        go_wp2_with fail
        go_ret
        exact ⟨by rw [Fin.out]; try rfl, B2.out⟩
      · rw [hp] at K
        have Hp := Lib.hid hp
        clear hp
        have E1 := Lib.hid (ext1 s nm hlt)
        obtain ⟨t, et⟩ : ∃ t, s.extract i (i + 1) = t := ⟨_, rfl⟩
        rw [et] at E1
        go_wp2_with fail
        refine K.mono ?_
        rintro e w2 ⟨rfl, b2⟩
        have B2 : Hid (Below w.heap.size w w2) := Lib.hid (btr Bw.out b2)
        have Bv2 : Hid (Below V.heap.size V w2) := Lib.hid (btr Be.out b2)
        have bx2 := bx.out.below b2 bx.out.lt
        have y1 := bx2.cell 1
        clear K b2 x0 x1 x2 bx2
        by_cases hm : t = nm
        · have te : (t.toList == nm.toList) = true := by rw [hm]; simp
          have Fin : Hid (mvF z s gs nm = (i : Int)) := Lib.hid (by unfold mvF; rw [if_pos Hp.out, mvI_some hlt (E1.out.1 hm) Hno.out])
          clear hm
          go_wp2_with fail
          go_ret
          exact ⟨by rw [Fin.out]; try rfl, B2.out⟩
        · have te : (t.toList == nm.toList) = false := by rw [beq_eq_false_iff_ne]; exact fun e => hm (tl_inj e)
          have Nx : Hid (¬ (nm.size = 1 ∧ byt nm 0 = byt s i)) := Lib.hid fun h => hm (E1.out.2 h)
          clear hm
          go_wp2_with fail
          go_roundw
          case rel => exact ⟨i + 1, by omega, by go_num, fun j hj => by
            by_cases e : j = i
            · subst e; exact Nx.out
            · exact Hno.out j (by omega), Bv2.out⟩
          case measure => simp [intOf]; omega
    · obtain hie : i = s.size := by omega
      have Fin : Hid (mvF z s gs nm = -1) := Lib.hid (by
        unfold mvF
        rw [mvI_none (by rw [← hie]; exact Hno.out)]
        split <;> rfl)
      subst hie
      go_wp2_with fail
      go_ret
      exact ⟨by rw [Fin.out]; try rfl, Bw.out⟩
end Go.Proofs.Ytkjokchhffjidaa

/- The walk of the law FnExactSamePuzzle: it returns true at every input, and writes nothing that was there. No condition but the program's own contract. -/
namespace Go.Proofs.Ytkjokchhffjidaa
open Go.RowKit

set_option maxHeartbeats 8000000 in
set_option maxRecDepth 100000 in
/-- The law FnExactSamePuzzle. -/
theorem lawSamePuzzle (IM : ∀ (z : Int) (s : ByteArray) (A : Option Addr) (n c : Nat) (vs : List SV) (gs : List (List Int)) (z' : Int) (s' : ByteArray) (A' : Option Addr) (n' c' : Nat) (vs' : List SV) (gs' : List (List Int)) (w : World), PIn w z s A n vs gs → PIn w z' s' A' n' vs' gs' → Calls Try.prog 30 #[.agg #[.int .i64 z, .string s, .slice A n c], .agg #[.int .i64 z', .string s', .slice A' n' c']] w fun e w' => e = .returned (.bool (smB z s gs z' s' gs')) ∧ Below w.heap.size w w') (z0 : Int) (s0 : ByteArray) (A0 : Option Addr) (n0 c0 : Nat) (vs0 : List SV) (gs0 : List (List Int)) (z1 : Int) (s1 : ByteArray) (A1 : Option Addr) (n1 c1 : Nat) (vs1 : List SV) (gs1 : List (List Int)) (w : World) (wz0 : -9223372036854775808 ≤ z0 ∧ z0 ≤ 9223372036854775807) (hs0 : s0.size ≤ maxLen) (hx0 : RR w w.heap.size A0 n0 vs0 gs0) (hm0 : n0 ≤ maxLen) (hk0 : Hid (∀ i, i < n0 → (vs0.getD i sd0).2.1 ≤ maxLen)) (wz1 : -9223372036854775808 ≤ z1 ∧ z1 ≤ 9223372036854775807) (hs1 : s1.size ≤ maxLen) (hx1 : RR w w.heap.size A1 n1 vs1 gs1) (hm1 : n1 ≤ maxLen) (hk1 : Hid (∀ i, i < n1 → (vs1.getD i sd0).2.1 ≤ maxLen)) :
    Calls Try.prog 5 #[.agg #[.int .i64 z0, .string s0, .slice A0 n0 c0], .agg #[.int .i64 z1, .string s1, .slice A1 n1 c1]] w fun e w' => e = .returned (.bool true) ∧ Below w.heap.size w w' := by
  have HX0 := Lib.hid hx0
  have hll0 := Lib.hid hx0.lens
  clear hx0
  have HX1 := Lib.hid hx1
  have hll1 := Lib.hid hx1.lens
  clear hx1
  have ba0 : Hid (Below w.heap.size w (w.alloc (.cells #[.int .i64 z0, .string s0, .slice A0 n0 c0] 37))) := Lib.hid ((Below.refl _ _).alloc (Nat.le_refl _) _)
  have B0_0 : Hid (Below w.heap.size w (w.alloc (.cells #[.int .i64 z0, .string s0, .slice A0 n0 c0] 37))) := Lib.hid ba0.out
  have bx0_0 : Hid (Blk (w.alloc (.cells #[.int .i64 z0, .string s0, .slice A0 n0 c0] 37)) (w.heap.size) 37 #[.int .i64 z0, .string s0, .slice A0 n0 c0]) := Lib.hid (Blk.new w _ _)
  have ba1 : Hid (Below (w.alloc (.cells #[.int .i64 z0, .string s0, .slice A0 n0 c0] 37)).heap.size (w.alloc (.cells #[.int .i64 z0, .string s0, .slice A0 n0 c0] 37)) ((w.alloc (.cells #[.int .i64 z0, .string s0, .slice A0 n0 c0] 37)).alloc (.cells #[.int .i64 z1, .string s1, .slice A1 n1 c1] 37))) := Lib.hid ((Below.refl _ _).alloc (Nat.le_refl _) _)
  have B0_1 : Hid (Below w.heap.size w ((w.alloc (.cells #[.int .i64 z0, .string s0, .slice A0 n0 c0] 37)).alloc (.cells #[.int .i64 z1, .string s1, .slice A1 n1 c1] 37))) := Lib.hid (btr B0_0.out ba1.out)
  have bx0_a1 := Lib.hid (bx0_0.out.below ba1.out bx0_0.out.lt)
  have bx1_0 : Hid (Blk ((w.alloc (.cells #[.int .i64 z0, .string s0, .slice A0 n0 c0] 37)).alloc (.cells #[.int .i64 z1, .string s1, .slice A1 n1 c1] 37)) (w.heap.size + 1) 37 #[.int .i64 z1, .string s1, .slice A1 n1 c1]) := Lib.hid (by have := Blk.new (w.alloc (.cells #[.int .i64 z0, .string s0, .slice A0 n0 c0] 37)) 37 #[.int .i64 z1, .string s1, .slice A1 n1 c1]; rw [World.size_alloc] at this; exact this)
  obtain ⟨r0, hr0⟩ : ∃ r : Int, r = if ((s0.size + (n0 + tot vs0 n0) : Nat) : Int) ≤ (1048576 : Int) then (1048576 : Int) - ((s0.size + (n0 + tot vs0 n0) : Nat) : Int) else -1 := ⟨_, rfl⟩
  have Hr0 := Lib.hid hr0
  by_cases hT0 : ((s0.size + (n0 + tot vs0 n0) : Nat) : Int) ≤ (1048576 : Int)
  · skip
    rw [if_pos hT0] at hr0
    have hr00 : 0 ≤ r0 ∧ r0 ≤ 1048576 := by omega
    have dr0 : decide (r0 < 0) = false := by simp; omega
    have hn0 : n0 ≤ 1048576 := by omega
    have hss0 : s0.size ≤ 1048576 := by omega
    have KT0 : Hid (tot vs0 n0 ≤ 1048576) := Lib.hid (by omega)
    have hl0 : Hid (∀ i, i < n0 → (vs0.getD i sd0).2.1 ≤ 1048576) := Lib.hid fun i hi => by have := tot_row (vs := vs0) hi; have := KT0.out; omega
    have hyl0 : Hid (∀ i, i < n0 → (gs0.getD i []).length ≤ 1048576) := Lib.hid fun i hi => by rw [hll0.out i hi]; exact hl0.out i hi
    clear hr0 hT0
    obtain ⟨r1, hr1⟩ : ∃ r : Int, r = if ((s1.size + (n1 + tot vs1 n1) : Nat) : Int) ≤ r0 then r0 - ((s1.size + (n1 + tot vs1 n1) : Nat) : Int) else -1 := ⟨_, rfl⟩
    have Hr1 := Lib.hid hr1
    by_cases hT1 : ((s1.size + (n1 + tot vs1 n1) : Nat) : Int) ≤ r0
    · skip
      rw [if_pos hT1] at hr1
      have hr01 : 0 ≤ r1 ∧ r1 ≤ 1048576 := by omega
      have dr1 : decide (r1 < 0) = false := by simp; omega
      have hn1 : n1 ≤ 1048576 := by omega
      have hss1 : s1.size ≤ 1048576 := by omega
      have KT1 : Hid (tot vs1 n1 ≤ 1048576) := Lib.hid (by omega)
      have hl1 : Hid (∀ i, i < n1 → (vs1.getD i sd0).2.1 ≤ 1048576) := Lib.hid fun i hi => by have := tot_row (vs := vs1) hi; have := KT1.out; omega
      have hyl1 : Hid (∀ i, i < n1 → (gs1.getD i []).length ≤ 1048576) := Lib.hid fun i hi => by rw [hll1.out i hi]; exact hl1.out i hi
      clear hr1 hT1
      go_enter Try.func5, Try.ntmps5
      have q0_0 := bx0_a1.out.cell 0
      have q0_1 := bx0_a1.out.cell 1
      have q0_2 := bx0_a1.out.cell 2
      have q1_0 := bx1_0.out.cell 0
      have q1_1 := bx1_0.out.cell 1
      have q1_2 := bx1_0.out.cell 2
      go_wp2_with fail
      refine (szPz z0 s0 A0 n0 c0 1048576 vs0 gs0 _ (HX0.out.up B0_1.out) hs0 hm0 hk0 (by decide) (by decide) r0 Hr0).mono ?_
      rintro e w1 ⟨rfl, b1⟩
      clear q0_0 q0_1 q0_2 q1_0 q1_1 q1_2
      have B1 : Hid (Below w.heap.size w w1) := Lib.hid (btr B0_1.out b1)
      have bx0_1 := Lib.hid (bx0_a1.out.below b1 bx0_a1.out.lt)
      clear bx0_a1
      have bx1_1 := Lib.hid (bx1_0.out.below b1 bx1_0.out.lt)
      clear bx1_0
      clear b1
      have q0_0 := bx0_1.out.cell 0
      have q0_1 := bx0_1.out.cell 1
      have q0_2 := bx0_1.out.cell 2
      have q1_0 := bx1_1.out.cell 0
      have q1_1 := bx1_1.out.cell 1
      have q1_2 := bx1_1.out.cell 2
      go_wp2_with fail
      refine (szPz z1 s1 A1 n1 c1 r0 vs1 gs1 _ (HX1.out.up B1.out) hs1 hm1 hk1 hr00.1 hr00.2 r1 Hr1).mono ?_
      rintro e w2 ⟨rfl, b2⟩
      clear q0_0 q0_1 q0_2 q1_0 q1_1 q1_2
      have B2 : Hid (Below w.heap.size w w2) := Lib.hid (btr B1.out b2)
      have bx0_2 := Lib.hid (bx0_1.out.below b2 bx0_1.out.lt)
      clear bx0_1
      have bx1_2 := Lib.hid (bx1_1.out.below b2 bx1_1.out.lt)
      clear bx1_1
      clear b2
      have q0_0 := bx0_2.out.cell 0
      have q0_1 := bx0_2.out.cell 1
      have q0_2 := bx0_2.out.cell 2
      have q1_0 := bx1_2.out.cell 0
      have q1_1 := bx1_2.out.cell 1
      have q1_2 := bx1_2.out.cell 2
      go_wp2_with fail
      go_cut [6] from 20 to 25 (fun v wx => v = .bool (smB z0 s0 gs0 z1 s1 gs1) ∧ Below w2.heap.size w2 wx)
      case first =>
        have D0 : RR w2.drew w2.drew.heap.size A0 n0 vs0 gs0 := (HX0.out.up B2.out).keep fun _ _ => rfl
        have D1 : RR w2.drew w2.drew.heap.size A1 n1 vs1 gs1 := (HX1.out.up B2.out).keep fun _ _ => rfl
        go_region_law ((go_simp; go_wp2_with (first
        | (go_at_call 26; with_reducible refine (toPz z0 s0 A0 n0 c0 vs0 gs0 w2.drew D0 hn0 hl0).mono ?_
           rintro e w3 ⟨C3, cc3, us3, rfl, s3, l3, b3d⟩
           have b3 : Below w2.heap.size w2 w3 := ⟨b3d.os, b3d.tape, b3d.output, b3d.size, b3d.block⟩
           have B3 := Lib.hid (btr B2.out b3)
           have bx0_t3 := Lib.hid (bx0_2.out.below b3 bx0_2.out.lt)
           have ybx03_0 := bx0_t3.out.cell 0
           have ybx03_1 := bx0_t3.out.cell 1
           have ybx03_2 := bx0_t3.out.cell 2
           have bx1_t3 := Lib.hid (bx1_2.out.below b3 bx1_2.out.lt)
           have ybx13_0 := bx1_t3.out.cell 0
           have ybx13_1 := bx1_t3.out.cell 1
           have ybx13_2 := bx1_t3.out.cell 2
           have Pt0_3 : Hid (PIn w3 z0 s0 C3 n0 us3 gs0) := Lib.hid ⟨⟨s3.rr, hn0, fun i hi => by rw [l3 i hi]; exact hl0.out i hi⟩, wz0, hss0⟩
           have bw3 := Lib.hid b3
           clear b3d b3 s3 l3)
        | (go_at_call 26; with_reducible refine (toPz z1 s1 A1 n1 c1 vs1 gs1 w2.drew D1 hn1 hl1).mono ?_
           rintro e w3 ⟨C3, cc3, us3, rfl, s3, l3, b3d⟩
           have b3 : Below w2.heap.size w2 w3 := ⟨b3d.os, b3d.tape, b3d.output, b3d.size, b3d.block⟩
           have B3 := Lib.hid (btr B2.out b3)
           have bx0_t3 := Lib.hid (bx0_2.out.below b3 bx0_2.out.lt)
           have ybx03_0 := bx0_t3.out.cell 0
           have ybx03_1 := bx0_t3.out.cell 1
           have ybx03_2 := bx0_t3.out.cell 2
           have bx1_t3 := Lib.hid (bx1_2.out.below b3 bx1_2.out.lt)
           have ybx13_0 := bx1_t3.out.cell 0
           have ybx13_1 := bx1_t3.out.cell 1
           have ybx13_2 := bx1_t3.out.cell 2
           have Pt1_3 : Hid (PIn w3 z1 s1 C3 n1 us3 gs1) := Lib.hid ⟨⟨s3.rr, hn1, fun i hi => by rw [l3 i hi]; exact hl1.out i hi⟩, wz1, hss1⟩
           have bw3 := Lib.hid b3
           clear b3d b3 s3 l3)
        | (go_at_call 26; have up0 := Pt0_3; have E0 : RR w3 w3.heap.size A1 n1 vs1 gs1 := HX1.out.up B3.out; have E1 : RR w3.drew w3.drew.heap.size A1 n1 vs1 gs1 := E0.keep fun _ _ => rfl; (first | with_reducible refine (toPz z1 s1 A1 n1 c1 vs1 gs1 w3 E0 hn1 hl1).mono ?_ | with_reducible refine (toPz z1 s1 A1 n1 c1 vs1 gs1 w3.drew E1 hn1 hl1).mono ?_)
           rintro e w4 ⟨C4, cc4, us4, rfl, s4, l4, b4d⟩
           have b4 : Below w3.heap.size w3 w4 := ⟨b4d.os, b4d.tape, b4d.output, b4d.size, b4d.block⟩
           have B4 := Lib.hid (btr B3.out b4)
           have bx0_t4 := Lib.hid (bx0_t3.out.below b4 bx0_t3.out.lt)
           have ybx04_0 := bx0_t4.out.cell 0
           have ybx04_1 := bx0_t4.out.cell 1
           have ybx04_2 := bx0_t4.out.cell 2
           have bx1_t4 := Lib.hid (bx1_t3.out.below b4 bx1_t3.out.lt)
           have ybx14_0 := bx1_t4.out.cell 0
           have ybx14_1 := bx1_t4.out.cell 1
           have ybx14_2 := bx1_t4.out.cell 2
           have Pt1_4 : Hid (PIn w4 z1 s1 C4 n1 us4 gs1) := Lib.hid ⟨⟨s4.rr, hn1, fun i hi => by rw [l4 i hi]; exact hl1.out i hi⟩, wz1, hss1⟩
           have Pt0_4 := Lib.hid (Pt0_3.out.up b4)
           have bw4 := Lib.hid (btr bw3.out b4)
           clear b4d b4 s4 l4 up0)
        | (go_at_call 26; have up0 := Pt1_3; have E0 : RR w3 w3.heap.size A0 n0 vs0 gs0 := HX0.out.up B3.out; have E1 : RR w3.drew w3.drew.heap.size A0 n0 vs0 gs0 := E0.keep fun _ _ => rfl; (first | with_reducible refine (toPz z0 s0 A0 n0 c0 vs0 gs0 w3 E0 hn0 hl0).mono ?_ | with_reducible refine (toPz z0 s0 A0 n0 c0 vs0 gs0 w3.drew E1 hn0 hl0).mono ?_)
           rintro e w4 ⟨C4, cc4, us4, rfl, s4, l4, b4d⟩
           have b4 : Below w3.heap.size w3 w4 := ⟨b4d.os, b4d.tape, b4d.output, b4d.size, b4d.block⟩
           have B4 := Lib.hid (btr B3.out b4)
           have bx0_t4 := Lib.hid (bx0_t3.out.below b4 bx0_t3.out.lt)
           have ybx04_0 := bx0_t4.out.cell 0
           have ybx04_1 := bx0_t4.out.cell 1
           have ybx04_2 := bx0_t4.out.cell 2
           have bx1_t4 := Lib.hid (bx1_t3.out.below b4 bx1_t3.out.lt)
           have ybx14_0 := bx1_t4.out.cell 0
           have ybx14_1 := bx1_t4.out.cell 1
           have ybx14_2 := bx1_t4.out.cell 2
           have Pt0_4 : Hid (PIn w4 z0 s0 C4 n0 us4 gs0) := Lib.hid ⟨⟨s4.rr, hn0, fun i hi => by rw [l4 i hi]; exact hl0.out i hi⟩, wz0, hss0⟩
           have Pt1_4 := Lib.hid (Pt1_3.out.up b4)
           have bw4 := Lib.hid (btr bw3.out b4)
           clear b4d b4 s4 l4 up0)
        | (go_at_call 29; (first | with_reducible refine (specSamePuzzle _ _ _ _ _ _ _ _ _ _ _ _ _ _ w4 Pt0_4.out Pt1_4.out).mono ?_ | refine (specSamePuzzle _ _ _ _ _ _ _ _ _ _ _ _ _ _ w4.drew ⟨⟨Pt0_4.out.g.1.keep fun _ _ => rfl, Pt0_4.out.g.2, Pt0_4.out.g.3⟩, Pt0_4.out.z, Pt0_4.out.s⟩ ⟨⟨Pt1_4.out.g.1.keep fun _ _ => rfl, Pt1_4.out.g.2, Pt1_4.out.g.3⟩, Pt1_4.out.z, Pt1_4.out.s⟩).mono ?_); rintro e w5 ⟨rfl, b5⟩))))
        all_goals (go_wp2_with fail; go_meet; exact ⟨rfl, btr bw4.out ⟨b5.os, b5.tape, b5.output, b5.size, b5.block⟩⟩)
      case rest =>
        obtain ⟨rfl, bc⟩ := hcut
        clear q0_0 q0_1 q0_2 q1_0 q1_1 q1_2
        have Bc : Hid (Below w.heap.size w wc) := Lib.hid (btr B2.out bc)
        have bx0_c := Lib.hid (bx0_2.out.below bc bx0_2.out.lt)
        clear bx0_2
        have bx1_c := Lib.hid (bx1_2.out.below bc bx1_2.out.lt)
        clear bx1_2
        clear bc
        have q0_0 := bx0_c.out.cell 0
        have q0_1 := bx0_c.out.cell 1
        have q0_2 := bx0_c.out.cell 2
        have q1_0 := bx1_c.out.cell 0
        have q1_1 := bx1_c.out.cell 1
        have q1_2 := bx1_c.out.cell 2
        go_wp2_with fail
        refine (toPz z0 s0 A0 n0 c0 vs0 gs0 _ (HX0.out.up Bc.out) hn0 hl0).mono ?_
        rintro e w6 ⟨C6, cc6, us6, rfl, s6, l6, b6⟩
        clear q0_0 q0_1 q0_2 q1_0 q1_1 q1_2
        have B6 : Hid (Below w.heap.size w w6) := Lib.hid (btr Bc.out b6)
        have bx0_6 := Lib.hid (bx0_c.out.below b6 bx0_c.out.lt)
        clear bx0_c
        have bx1_6 := Lib.hid (bx1_c.out.below b6 bx1_c.out.lt)
        clear bx1_c
        have x0_6 := Lib.hid s6
        have Px0_6 : Hid (PIn w6 z0 s0 C6 n0 us6 gs0) := Lib.hid ⟨⟨s6.rr, hn0, fun i hi => by rw [l6 i hi]; exact hl0.out i hi⟩, wz0, hss0⟩
        have Qx0 := Lib.hid l6
        clear b6 s6 l6
        have bb6 : Hid (Below w6.heap.size w6 (w6.alloc (.cells #[.int .i64 z0, .string s0, .slice C6 n0 cc6] 26))) := Lib.hid ((Below.refl _ _).alloc (Nat.le_refl _) _)
        have BB6 : Hid (Below w.heap.size w (w6.alloc (.cells #[.int .i64 z0, .string s0, .slice C6 n0 cc6] 26))) := Lib.hid (btr B6.out bb6.out)
        have bx0_b6 := Lib.hid (bx0_6.out.below bb6.out bx0_6.out.lt)
        clear bx0_6
        have bx1_b6 := Lib.hid (bx1_6.out.below bb6.out bx1_6.out.lt)
        clear bx1_6
        have x0_b6 := Lib.hid (x0_6.out.up bb6.out)
        clear x0_6
        have Px0_b6 := Lib.hid (Px0_6.out.up bb6.out)
        clear Px0_6
        have xb0_6 : Hid (Blk (w6.alloc (.cells #[.int .i64 z0, .string s0, .slice C6 n0 cc6] 26)) w6.heap.size 26 #[.int .i64 z0, .string s0, .slice C6 n0 cc6]) := Lib.hid (Blk.new w6 _ _)
        have q0_0 := bx0_b6.out.cell 0
        have q0_1 := bx0_b6.out.cell 1
        have q0_2 := bx0_b6.out.cell 2
        have q1_0 := bx1_b6.out.cell 0
        have q1_1 := bx1_b6.out.cell 1
        have q1_2 := bx1_b6.out.cell 2
        have q4_0 := xb0_6.out.cell 0
        have q4_1 := xb0_6.out.cell 1
        have q4_2 := xb0_6.out.cell 2
        go_wp2_with fail
        refine (toPz z1 s1 A1 n1 c1 vs1 gs1 _ (HX1.out.up BB6.out) hn1 hl1).mono ?_
        rintro e w7 ⟨C7, cc7, us7, rfl, s7, l7, b7⟩
        clear q0_0 q0_1 q0_2 q1_0 q1_1 q1_2 q4_0 q4_1 q4_2
        have B7 : Hid (Below w.heap.size w w7) := Lib.hid (btr BB6.out b7)
        have bx0_7 := Lib.hid (bx0_b6.out.below b7 bx0_b6.out.lt)
        clear bx0_b6
        have bx1_7 := Lib.hid (bx1_b6.out.below b7 bx1_b6.out.lt)
        clear bx1_b6
        have x0_7 := Lib.hid (x0_b6.out.up b7)
        clear x0_b6
        have Px0_7 := Lib.hid (Px0_b6.out.up b7)
        clear Px0_b6
        have xb0_7 := Lib.hid (xb0_6.out.below b7 xb0_6.out.lt)
        clear xb0_6
        have x1_7 := Lib.hid s7
        have Px1_7 : Hid (PIn w7 z1 s1 C7 n1 us7 gs1) := Lib.hid ⟨⟨s7.rr, hn1, fun i hi => by rw [l7 i hi]; exact hl1.out i hi⟩, wz1, hss1⟩
        have Qx1 := Lib.hid l7
        clear b7 s7 l7
        have bb7 : Hid (Below w7.heap.size w7 (w7.alloc (.cells #[.int .i64 z1, .string s1, .slice C7 n1 cc7] 26))) := Lib.hid ((Below.refl _ _).alloc (Nat.le_refl _) _)
        have BB7 : Hid (Below w.heap.size w (w7.alloc (.cells #[.int .i64 z1, .string s1, .slice C7 n1 cc7] 26))) := Lib.hid (btr B7.out bb7.out)
        have bx0_b7 := Lib.hid (bx0_7.out.below bb7.out bx0_7.out.lt)
        clear bx0_7
        have bx1_b7 := Lib.hid (bx1_7.out.below bb7.out bx1_7.out.lt)
        clear bx1_7
        have x0_b7 := Lib.hid (x0_7.out.up bb7.out)
        clear x0_7
        have Px0_b7 := Lib.hid (Px0_7.out.up bb7.out)
        clear Px0_7
        have xb0_b7 := Lib.hid (xb0_7.out.below bb7.out xb0_7.out.lt)
        clear xb0_7
        have x1_b7 := Lib.hid (x1_7.out.up bb7.out)
        clear x1_7
        have Px1_b7 := Lib.hid (Px1_7.out.up bb7.out)
        clear Px1_7
        have xb1_7 : Hid (Blk (w7.alloc (.cells #[.int .i64 z1, .string s1, .slice C7 n1 cc7] 26)) w7.heap.size 26 #[.int .i64 z1, .string s1, .slice C7 n1 cc7]) := Lib.hid (Blk.new w7 _ _)
        have q0_0 := bx0_b7.out.cell 0
        have q0_1 := bx0_b7.out.cell 1
        have q0_2 := bx0_b7.out.cell 2
        have q1_0 := bx1_b7.out.cell 0
        have q1_1 := bx1_b7.out.cell 1
        have q1_2 := bx1_b7.out.cell 2
        have q4_0 := xb0_b7.out.cell 0
        have q4_1 := xb0_b7.out.cell 1
        have q4_2 := xb0_b7.out.cell 2
        have q7_0 := xb1_7.out.cell 0
        have q7_1 := xb1_7.out.cell 1
        have q7_2 := xb1_7.out.cell 2
        go_wp2_with fail
        refine (IM z0 s0 C6 n0 cc6 us6 gs0 z1 s1 C7 n1 cc7 us7 gs1 _ Px0_b7.out Px1_b7.out).mono ?_
        rintro e w8 ⟨rfl, b8⟩
        clear q0_0 q0_1 q0_2 q1_0 q1_1 q1_2 q4_0 q4_1 q4_2 q7_0 q7_1 q7_2
        have B8 : Hid (Below w.heap.size w w8) := Lib.hid (btr BB7.out b8)
        have bx0_8 := Lib.hid (bx0_b7.out.below b8 bx0_b7.out.lt)
        clear bx0_b7
        have bx1_8 := Lib.hid (bx1_b7.out.below b8 bx1_b7.out.lt)
        clear bx1_b7
        have x0_8 := Lib.hid (x0_b7.out.up b8)
        clear x0_b7
        have Px0_8 := Lib.hid (Px0_b7.out.up b8)
        clear Px0_b7
        have xb0_8 := Lib.hid (xb0_b7.out.below b8 xb0_b7.out.lt)
        clear xb0_b7
        have x1_8 := Lib.hid (x1_b7.out.up b8)
        clear x1_b7
        have Px1_8 := Lib.hid (Px1_b7.out.up b8)
        clear Px1_b7
        have xb1_8 := Lib.hid (xb1_7.out.below b8 xb1_7.out.lt)
        clear xb1_7
        clear b8
        have ne0 : (smB z0 s0 gs0 z1 s1 gs1 != smB z0 s0 gs0 z1 s1 gs1) = false := by simp
        have q0_0 := bx0_8.out.cell 0
        have q0_1 := bx0_8.out.cell 1
        have q0_2 := bx0_8.out.cell 2
        have q1_0 := bx1_8.out.cell 0
        have q1_1 := bx1_8.out.cell 1
        have q1_2 := bx1_8.out.cell 2
        have q4_0 := xb0_8.out.cell 0
        have q4_1 := xb0_8.out.cell 1
        have q4_2 := xb0_8.out.cell 2
        have q7_0 := xb1_8.out.cell 0
        have q7_1 := xb1_8.out.cell 1
        have q7_2 := xb1_8.out.cell 2
        go_wp2_with fail
        go_region_law ((go_simp; go_wp2_with (first
          | (go_at_call 26; refine (toPz z0 s0 A0 n0 c0 vs0 gs0 w8.drew ((HX0.out.up B8.out).keep fun _ _ => rfl) hn0 hl0).mono ?_; rintro e w9 ⟨C9, cc9, us9, rfl, s9, l9, b9d⟩
             have b9 : Below w8.heap.size w8 w9 := ⟨b9d.os, b9d.tape, b9d.output, b9d.size, b9d.block⟩
             have B9 := Lib.hid (btr B8.out b9)
             have bx0_9 := Lib.hid (bx0_8.out.below b9 bx0_8.out.lt)
             have y0_0 := bx0_9.out.cell 0
             have y0_1 := bx0_9.out.cell 1
             have y0_2 := bx0_9.out.cell 2
             have bx1_9 := Lib.hid (bx1_8.out.below b9 bx1_8.out.lt)
             have y1_0 := bx1_9.out.cell 0
             have y1_1 := bx1_9.out.cell 1
             have y1_2 := bx1_9.out.cell 2
             have x0_9 := Lib.hid (x0_8.out.up b9)
             have Px0_9 := Lib.hid (Px0_8.out.up b9)
             have xb0_9 := Lib.hid (xb0_8.out.below b9 xb0_8.out.lt)
             have y4_0 := xb0_9.out.cell 0
             have y4_1 := xb0_9.out.cell 1
             have y4_2 := xb0_9.out.cell 2
             have x1_9 := Lib.hid (x1_8.out.up b9)
             have Px1_9 := Lib.hid (Px1_8.out.up b9)
             have xb1_9 := Lib.hid (xb1_8.out.below b9 xb1_8.out.lt)
             have y7_0 := xb1_9.out.cell 0
             have y7_1 := xb1_9.out.cell 1
             have y7_2 := xb1_9.out.cell 2
             have T9 := Lib.hid s9
             clear b9d b9 s9 l9)
          | (go_at_call 28; (first | refine (eqPz z0 s0 C6 C9 n0 cc6 n0 cc9 us6 us9 gs0 w9 x0_9.out.rr T9.out.rr hn0 hyl0).mono ?_ | refine (eqPz z0 s0 C6 C9 n0 cc6 n0 cc9 us6 us9 gs0 w9.drew (x0_9.out.rr.keep fun _ _ => rfl) (T9.out.rr.keep fun _ _ => rfl) hn0 hyl0).mono ?_); rintro e w10 ⟨rfl, b10d⟩))))
        all_goals
          have b10 : Below w9.heap.size w9 w10 := ⟨b10d.os, b10d.tape, b10d.output, b10d.size, b10d.block⟩
          have B10 := Lib.hid (btr B9.out b10)
          have bx0_10 := Lib.hid (bx0_9.out.below b10 bx0_9.out.lt)
          have bx1_10 := Lib.hid (bx1_9.out.below b10 bx1_9.out.lt)
          have x0_10 := Lib.hid (x0_9.out.up b10)
          have Px0_10 := Lib.hid (Px0_9.out.up b10)
          have xb0_10 := Lib.hid (xb0_9.out.below b10 xb0_9.out.lt)
          have x1_10 := Lib.hid (x1_9.out.up b10)
          have Px1_10 := Lib.hid (Px1_9.out.up b10)
          have xb1_10 := Lib.hid (xb1_9.out.below b10 xb1_9.out.lt)
          clear b10d b10
          have q0_0 := bx0_10.out.cell 0
          have q0_1 := bx0_10.out.cell 1
          have q0_2 := bx0_10.out.cell 2
          have q1_0 := bx1_10.out.cell 0
          have q1_1 := bx1_10.out.cell 1
          have q1_2 := bx1_10.out.cell 2
          have q4_0 := xb0_10.out.cell 0
          have q4_1 := xb0_10.out.cell 1
          have q4_2 := xb0_10.out.cell 2
          have q7_0 := xb1_10.out.cell 0
          have q7_1 := xb1_10.out.cell 1
          have q7_2 := xb1_10.out.cell 2
          go_wp2_with fail
          go_region_law ((go_simp; go_wp2_with (first
            | (go_at_call 26; refine (toPz z1 s1 A1 n1 c1 vs1 gs1 w10.drew ((HX1.out.up B10.out).keep fun _ _ => rfl) hn1 hl1).mono ?_; rintro e w11 ⟨C11, cc11, us11, rfl, s11, l11, b11d⟩
               have b11 : Below w10.heap.size w10 w11 := ⟨b11d.os, b11d.tape, b11d.output, b11d.size, b11d.block⟩
               have B11 := Lib.hid (btr B10.out b11)
               have bx0_11 := Lib.hid (bx0_10.out.below b11 bx0_10.out.lt)
               have y0_0 := bx0_11.out.cell 0
               have y0_1 := bx0_11.out.cell 1
               have y0_2 := bx0_11.out.cell 2
               have bx1_11 := Lib.hid (bx1_10.out.below b11 bx1_10.out.lt)
               have y1_0 := bx1_11.out.cell 0
               have y1_1 := bx1_11.out.cell 1
               have y1_2 := bx1_11.out.cell 2
               have x0_11 := Lib.hid (x0_10.out.up b11)
               have Px0_11 := Lib.hid (Px0_10.out.up b11)
               have xb0_11 := Lib.hid (xb0_10.out.below b11 xb0_10.out.lt)
               have y4_0 := xb0_11.out.cell 0
               have y4_1 := xb0_11.out.cell 1
               have y4_2 := xb0_11.out.cell 2
               have x1_11 := Lib.hid (x1_10.out.up b11)
               have Px1_11 := Lib.hid (Px1_10.out.up b11)
               have xb1_11 := Lib.hid (xb1_10.out.below b11 xb1_10.out.lt)
               have y7_0 := xb1_11.out.cell 0
               have y7_1 := xb1_11.out.cell 1
               have y7_2 := xb1_11.out.cell 2
               have T11 := Lib.hid s11
               clear b11d b11 s11 l11)
            | (go_at_call 28; (first | refine (eqPz z1 s1 C7 C11 n1 cc7 n1 cc11 us7 us11 gs1 w11 x1_11.out.rr T11.out.rr hn1 hyl1).mono ?_ | refine (eqPz z1 s1 C7 C11 n1 cc7 n1 cc11 us7 us11 gs1 w11.drew (x1_11.out.rr.keep fun _ _ => rfl) (T11.out.rr.keep fun _ _ => rfl) hn1 hyl1).mono ?_); rintro e w12 ⟨rfl, b12d⟩))))
          all_goals
            have b12 : Below w11.heap.size w11 w12 := ⟨b12d.os, b12d.tape, b12d.output, b12d.size, b12d.block⟩
            have B12 := Lib.hid (btr B11.out b12)
            have bx0_12 := Lib.hid (bx0_11.out.below b12 bx0_11.out.lt)
            have bx1_12 := Lib.hid (bx1_11.out.below b12 bx1_11.out.lt)
            have x0_12 := Lib.hid (x0_11.out.up b12)
            have Px0_12 := Lib.hid (Px0_11.out.up b12)
            have xb0_12 := Lib.hid (xb0_11.out.below b12 xb0_11.out.lt)
            have x1_12 := Lib.hid (x1_11.out.up b12)
            have Px1_12 := Lib.hid (Px1_11.out.up b12)
            have xb1_12 := Lib.hid (xb1_11.out.below b12 xb1_11.out.lt)
            clear b12d b12
            have q0_0 := bx0_12.out.cell 0
            have q0_1 := bx0_12.out.cell 1
            have q0_2 := bx0_12.out.cell 2
            have q1_0 := bx1_12.out.cell 0
            have q1_1 := bx1_12.out.cell 1
            have q1_2 := bx1_12.out.cell 2
            have q4_0 := xb0_12.out.cell 0
            have q4_1 := xb0_12.out.cell 1
            have q4_2 := xb0_12.out.cell 2
            have q7_0 := xb1_12.out.cell 0
            have q7_1 := xb1_12.out.cell 1
            have q7_2 := xb1_12.out.cell 2
            go_wp2_with fail
            go_ret
            exact ⟨rfl, B12.out⟩
    · skip
      obtain rfl : r1 = -1 := by rw [hr1, if_neg hT1]
      clear hr1 hT1
      go_enter Try.func5, Try.ntmps5
      have q0_0 := bx0_a1.out.cell 0
      have q0_1 := bx0_a1.out.cell 1
      have q0_2 := bx0_a1.out.cell 2
      have q1_0 := bx1_0.out.cell 0
      have q1_1 := bx1_0.out.cell 1
      have q1_2 := bx1_0.out.cell 2
      go_wp2_with fail
      refine (szPz z0 s0 A0 n0 c0 1048576 vs0 gs0 _ (HX0.out.up B0_1.out) hs0 hm0 hk0 (by decide) (by decide) r0 Hr0).mono ?_
      rintro e w1 ⟨rfl, b1⟩
      clear q0_0 q0_1 q0_2 q1_0 q1_1 q1_2
      have B1 : Hid (Below w.heap.size w w1) := Lib.hid (btr B0_1.out b1)
      have bx0_1 := Lib.hid (bx0_a1.out.below b1 bx0_a1.out.lt)
      clear bx0_a1
      have bx1_1 := Lib.hid (bx1_0.out.below b1 bx1_0.out.lt)
      clear bx1_0
      clear b1
      have q0_0 := bx0_1.out.cell 0
      have q0_1 := bx0_1.out.cell 1
      have q0_2 := bx0_1.out.cell 2
      have q1_0 := bx1_1.out.cell 0
      have q1_1 := bx1_1.out.cell 1
      have q1_2 := bx1_1.out.cell 2
      go_wp2_with fail
      refine (szPz z1 s1 A1 n1 c1 r0 vs1 gs1 _ (HX1.out.up B1.out) hs1 hm1 hk1 hr00.1 hr00.2 (-1) Hr1).mono ?_
      rintro e w2 ⟨rfl, b2⟩
      clear q0_0 q0_1 q0_2 q1_0 q1_1 q1_2
      have B2 : Hid (Below w.heap.size w w2) := Lib.hid (btr B1.out b2)
      have bx0_2 := Lib.hid (bx0_1.out.below b2 bx0_1.out.lt)
      clear bx0_1
      have bx1_2 := Lib.hid (bx1_1.out.below b2 bx1_1.out.lt)
      clear bx1_1
      clear b2
      have q0_0 := bx0_2.out.cell 0
      have q0_1 := bx0_2.out.cell 1
      have q0_2 := bx0_2.out.cell 2
      have q1_0 := bx1_2.out.cell 0
      have q1_1 := bx1_2.out.cell 1
      have q1_2 := bx1_2.out.cell 2
      go_wp2_with fail
      go_ret
      exact ⟨rfl, B2.out⟩
  · skip
    obtain rfl : r0 = -1 := by rw [hr0, if_neg hT0]
    clear hr0 hT0
    go_enter Try.func5, Try.ntmps5
    have q0_0 := bx0_a1.out.cell 0
    have q0_1 := bx0_a1.out.cell 1
    have q0_2 := bx0_a1.out.cell 2
    have q1_0 := bx1_0.out.cell 0
    have q1_1 := bx1_0.out.cell 1
    have q1_2 := bx1_0.out.cell 2
    go_wp2_with fail
    refine (szPz z0 s0 A0 n0 c0 1048576 vs0 gs0 _ (HX0.out.up B0_1.out) hs0 hm0 hk0 (by decide) (by decide) (-1) Hr0).mono ?_
    rintro e w1 ⟨rfl, b1⟩
    clear q0_0 q0_1 q0_2 q1_0 q1_1 q1_2
    have B1 : Hid (Below w.heap.size w w1) := Lib.hid (btr B0_1.out b1)
    have bx0_1 := Lib.hid (bx0_a1.out.below b1 bx0_a1.out.lt)
    clear bx0_a1
    have bx1_1 := Lib.hid (bx1_0.out.below b1 bx1_0.out.lt)
    clear bx1_0
    clear b1
    have q0_0 := bx0_1.out.cell 0
    have q0_1 := bx0_1.out.cell 1
    have q0_2 := bx0_1.out.cell 2
    have q1_0 := bx1_1.out.cell 0
    have q1_1 := bx1_1.out.cell 1
    have q1_2 := bx1_1.out.cell 2
    go_wp2_with fail
    go_ret
    exact ⟨rfl, B1.out⟩
end Go.Proofs.Ytkjokchhffjidaa

/- Numbers of 64 bits in a row. No condition. -/
namespace Go.Proofs.Ytkjokchhffjidaa
open Go.RowKit

def VI (xs : List Int) : Prop := ∀ x ∈ xs, -9223372036854775808 ≤ x ∧ x ≤ 9223372036854775807
theorem VI.at_ {xs : List Int} (h : VI xs) {i : Nat} (hi : i < xs.length) : -9223372036854775808 ≤ xs.getD i 0 ∧ xs.getD i 0 ≤ 9223372036854775807 :=
  h _ (by rw [List.getD_eq_getElem?_getD, List.getElem?_eq_getElem hi]; exact List.getElem_mem _)
theorem VI.nil_ : VI [] := fun x h => by cases h
theorem VI.snoc {xs : List Int} {x : Int} (h : VI xs) (hx : -9223372036854775808 ≤ x ∧ x ≤ 9223372036854775807) : VI (xs ++ [x]) := fun y hy => by
  rcases List.mem_append.1 hy with hy | hy
  · exact h y hy
  · rw [List.mem_singleton.1 hy]; exact hx
/-- As RI.of_row, and the numbers are of 64 bits. -/
theorem RI.of_rowV {w : World} {a : Option Addr} {len cap : Nat} {zs : List Int}
    (h : (a = none ∧ len = 0 ∧ cap = 0 ∧ zs = []) ∨ ∃ x, a = some x ∧ len ≤ cap ∧ cap ≤ maxLen ∧ zs.length = cap ∧ (∀ i, i < zs.length → w.cell? (x.add i) = some (.int .i64 (zs.getD i 0))) ∧ ∀ n ∈ zs, (Lit.int .i64 n).wf = true) :
    ∃ xs : List Int, Hid (xs.length = len) ∧ RI w w.heap.size a xs ∧ Hid (VI xs) := by
  rcases h with ⟨rfl, rfl, rfl, rfl⟩ | ⟨⟨b, off, spot⟩, rfl, hl, hm, hz, hc, hw⟩
  · exact ⟨[], Lib.hid rfl, RI.nil_, Lib.hid VI.nil_⟩
  · refine ⟨zs.take len, Lib.hid (by rw [List.length_take]; omega), fun hp => ?_, Lib.hid fun x hx => bounds_i64 (hw x (List.mem_of_mem_take hx))⟩
    rw [List.length_take] at hp
    have h0 := hc 0 (by omega)
    have hspot : spot = none := by simpa [Addr.add] using World.cell?_spot h0
    subst hspot
    refine ⟨b, off, rfl, ?_, fun j hj => ?_⟩
    · have := World.block_lt_of_cell? w _ h0
      simpa [Addr.add] using this
    · rw [List.length_take] at hj
      rw [List.getD_eq_getElem?_getD, List.getElem?_take, if_pos (by omega), ← List.getD_eq_getElem?_getD, ← hc j (by omega)]
      unfold Addr.add
      split <;> simp_all
end Go.Proofs.Ytkjokchhffjidaa

/- The program's letters and valid words. Condition: at most 2097152 letters, numbers of 64 bits. -/
namespace Go.Proofs.Ytkjokchhffjidaa
open Go.RowKit

/-- A letter without its sign. -/
def gnL (l : Int) : Int := if l = -9223372036854775808 then l else if 0 ≤ l then l else -l
theorem gnL_pos {l : Int} (h : 0 ≤ l) : gnL l = l := by unfold gnL; rw [if_neg (by omega), if_pos h]
theorem gnL_neg {l : Int} (h : l < 0) (h2 : l ≠ -9223372036854775808) : gnL l = -l := by unfold gnL; rw [if_neg h2, if_neg (by omega)]
theorem okL_gn {g l : Int} (h : -9223372036854775808 ≤ l ∧ l ≤ 9223372036854775807) : okL g l = decide (1 ≤ gnL l ∧ gnL l ≤ g ∧ gnL l ≤ 8) := by
  unfold okL
  rw [Bool.eq_iff_iff, decide_eq_true_eq, decide_eq_true_eq]
  by_cases h1 : l = -9223372036854775808
  · subst h1; unfold gnL; rw [if_pos rfl]; omega
  · by_cases h2 : 0 ≤ l
    · rw [gnL_pos h2]; omega
    · rw [gnL_neg (by omega) h1]; omega

set_option maxHeartbeats 1600000 in
/-- generatorOf. -/
theorem implGen (l : Int) (w : World) (hl : -9223372036854775808 ≤ l ∧ l ≤ 9223372036854775807) :
    Calls Try.prog 104 #[.int .i64 l] w fun e w' => e = .returned (.int .i64 (gnL l)) ∧ w = w' := by
  unfold gnL
  by_cases h1 : l = -9223372036854775808
  · subst h1
    rw [if_pos rfl]
    have w2 : wrap64 9223372036854775808 = -9223372036854775808 := by unfold wrap64; omega
    go_enter Try.func104, Try.ntmps104
    go_wp2_with fail
    go_ret
    exact ⟨rfl, rfl⟩
  · rw [if_neg h1]
    have wl : IntKind.i64.wrap (-l) = -l := by rw [IntKind.wrap_i64]; omega
    by_cases h2 : 0 ≤ l
    · rw [if_pos h2]
      have d0 : decide (l < -l) = false := by simp; omega
      go_enter Try.func104, Try.ntmps104
      go_wp2_with fail
      go_ret
      exact ⟨rfl, rfl⟩
    · rw [if_neg h2]
      go_enter Try.func104, Try.ntmps104
      go_wp2_with fail
      go_ret
      exact ⟨rfl, rfl⟩

set_option maxHeartbeats 1600000 in
set_option maxRecDepth 100000 in
/-- IsValidWord. -/
theorem implIsValidWord (g : Int) (A : Option Addr) (n c : Nat) (wd : List Int) (w : World) (hx : RI w w.heap.size A wd) (lx : Hid (wd.length = n)) (hn : n ≤ 2097152) (vi : Hid (VI wd)) (wfg : -9223372036854775808 ≤ g ∧ g ≤ 9223372036854775807) :
    Calls Try.prog 82 #[.int .i64 g, .slice A n c] w fun e w' => e = .returned (.bool (vW g wd)) ∧ w = w' := by
  have HX := Lib.hid hx
  clear hx
  by_cases h200 : n ≤ 200
  · have d0 : decide ((200 : Int) < n) = false := by simp; omega
    go_enter Try.func82, Try.ntmps82
    go_wp2_with fail
    go_loopw [13] (fun i wr => ∃ k : Nat, k ≤ n ∧ i = .int .i64 (k : Nat) ∧ (∀ j, j < k → okL g (wd.getD j 0) = true) ∧ w = wr) (fun i _ => n - (intOf i).toNat)
    case atStart => exact ⟨0, Nat.zero_le _, rfl, fun j h => absurd h (Nat.not_lt_zero _), rfl⟩
    case round =>
      clear d0
      obtain ⟨k, hk, rfl, hok, rfl⟩ := hrel
      have Hok := Lib.hid hok
      clear hok
      by_cases hlt : k < n
      · obtain ⟨b, off, rfl, hb, hc⟩ := HX.out (by rw [lx.out]; omega)
        have c1 := hc k (by rw [lx.out]; exact hlt)
        have hll := vi.out.at_ (i := k) (by rw [lx.out]; exact hlt)
        obtain ⟨l, el⟩ : ∃ l, wd.getD k 0 = l := ⟨_, rfl⟩
        rw [el] at c1 hll
        have El := Lib.hid el
        have p0 : (0 : Int) ≤ k := by omega
        have p1 : (k : Int) < n := by omega
        have hkl : Hid (k < wd.length) := Lib.hid (by rw [lx.out]; exact hlt)
        have Okg := Lib.hid (okL_gn (g := g) hll)
        obtain ⟨q, eq⟩ : ∃ q, gnL l = q := ⟨_, rfl⟩
        have K := implGen l w hll
        rw [eq] at K Okg
        clear el hc eq
        by_cases f1 : 1 ≤ q
        · have d1 : decide (q < 1) = false := by simp; omega
          by_cases f2 : q ≤ g
          · have d2 : decide (g < q) = false := by simp; omega
            by_cases f3 : q ≤ 8
            · have d3 : decide (8 < q) = false := by simp; omega
              have Nx : Hid (okL g l = true) := Lib.hid (by rw [Okg.out]; exact decide_eq_true ⟨f1, f2, f3⟩)
              go_wp2_with fail
              refine K.mono ?_
              rintro e w' ⟨rfl, rfl⟩
              clear K
              go_wp2_with fail
              go_roundw
              case rel => exact ⟨k + 1, by omega, by go_num, fun j hj => by
                by_cases e : j = k
                · subst e; rw [El.out]; exact Nx.out
                · exact Hok.out j (by omega), trivial⟩
              case measure => simp [intOf]; omega
            · have d3 : decide (8 < q) = true := by simp; omega
              have Bad : Hid (vW g wd = false) := Lib.hid (vW_bad hkl.out (by rw [El.out, Okg.out, decide_eq_false_iff_not]; intro h; exact f3 h.2.2))
              go_wp2_with fail
              refine K.mono ?_
              rintro e w' ⟨rfl, rfl⟩
              clear K
              go_wp2_with fail
              go_ret
              exact ⟨by rw [Bad.out]; try rfl, rfl⟩
          · have d2 : decide (g < q) = true := by simp; omega
            have Bad : Hid (vW g wd = false) := Lib.hid (vW_bad hkl.out (by rw [El.out, Okg.out, decide_eq_false_iff_not]; intro h; exact f2 h.2.1))
            go_wp2_with fail
            refine K.mono ?_
            rintro e w' ⟨rfl, rfl⟩
            clear K
            go_wp2_with fail
            go_ret
            exact ⟨by rw [Bad.out]; try rfl, rfl⟩
        · have d1 : decide (q < 1) = true := by simp; omega
          have Bad : Hid (vW g wd = false) := Lib.hid (vW_bad hkl.out (by rw [El.out, Okg.out, decide_eq_false_iff_not]; intro h; exact f1 h.1))
          go_wp2_with fail
          refine K.mono ?_
          rintro e w' ⟨rfl, rfl⟩
          clear K
          go_wp2_with fail
          go_ret
          exact ⟨by rw [Bad.out]; try rfl, rfl⟩
      · obtain rfl : k = n := by omega
        have Ok : Hid (vW g wd = true) := Lib.hid ((vW_all (by rw [lx.out]; omega)).2 fun i hi => Hok.out i (by rw [← lx.out]; exact hi))
        go_wp2_with fail
        go_ret
        exact ⟨by rw [Ok.out]; try rfl, rfl⟩
  · have d0 : decide ((200 : Int) < n) = true := by simp; omega
    have Bad : Hid (vW g wd = false) := Lib.hid (vW_long (by rw [lx.out]; omega))
    go_enter Try.func82, Try.ntmps82
    go_wp2_with fail
    go_ret
    exact ⟨by rw [Bad.out]; try rfl, rfl⟩


/-- isWord. -/
theorem implIsWord (A : Option Addr) (n c : Nat) (wd : List Int) (w : World) (hx : RI w w.heap.size A wd) (lx : Hid (wd.length = n)) (hn : n ≤ 2097152) (vi : Hid (VI wd)) :
    Calls Try.prog 54 #[.slice A n c] w fun e w' => e = .returned (.bool (vW 8 wd)) ∧ w = w' := by
  have HX := Lib.hid hx
  clear hx
  go_enter Try.func54, Try.ntmps54
  go_wp2_with fail
  refine (implIsValidWord 8 A n c wd w HX.out lx hn vi (by omega)).mono ?_
  rintro e w' ⟨rfl, rfl⟩
  go_wp2_with fail
  go_ret
  exact ⟨rfl, rfl⟩
end Go.Proofs.Ytkjokchhffjidaa

/- The program's EvaluateWord. Conditions: numbers of 64 bits in the word. -/
namespace Go.Proofs.Ytkjokchhffjidaa
open Go.RowKit

/-- As CtImsP, the list's numbers of 64 bits. -/
def CtImvP (F : Nat) (R : Int → List (List Int) → List Int → List Int → Bool → Prop) : Prop := ∀ (a : Int) (A : Option Addr) (n c : Nat) (vs : List SV) (xss : List (List Int)) (P : Option Addr) (np cp : Nat) (p : List Int) (w : World), GIn w A n vs xss → SIn w P np cp p → I64 a → Hid (VI p) →
  Calls Try.prog F #[.int .i64 a, .slice A n c, .slice P np cp] w fun e w' => ∃ A' m c' zs ok, e = .returned (.tuple #[.slice A' m c', .bool ok]) ∧ Slc w' w.heap.size A' m c' zs ∧ R a xss p zs ok ∧ Below w.heap.size w w'

set_option maxHeartbeats 1600000 in
/-- moveOf of a generator's own letter. -/
theorem implMvPos (j : Nat) (A : Option Addr) (n c N : Nat) (vs : List SV) (gs : List (List Int)) (w : World) (hx : RR w w.heap.size A n vs gs) (ok : Hid (∀ g ∈ gs, IsP g ∧ g.length = N)) (hj : j < n) (hn : n ≤ 8) :
    Calls Try.prog 83 #[.slice A n c, .int .i64 ((j : Int) + 1)] w fun e w' => ∃ A' c', e = .returned (.slice A' N c') ∧ RI w' w'.heap.size A' (gs.getD j []) ∧ Below w.heap.size w w' := by
  obtain ⟨b, off, A5, l, c5, y, rfl, hb, ev, ey, hc0, hr0, hy, hlc⟩ := hx.at_ hj
  have hl : l = N := by rw [← hy]; exact (ok.out y (by rw [← ey]; exact getD_memL (by rw [hx.lx]; exact hj))).2
  subst hl
  have R0 : Hid (RI w w.heap.size A5 (gs.getD j [])) := Lib.hid (by rw [ey]; exact hr0)
  have w1 : IntKind.i64.wrap ((j : Int) + 1 - 1) = (j : Int) := by rw [IntKind.wrap_i64]; omega
  have d0 : decide ((j : Int) + 1 < 0) = false := decide_eq_false (by omega)
  have K := implGen ((j : Int) + 1) w (by omega)
  rw [gnL_pos (by omega)] at K
  have p1 : (0 : Int) ≤ j := by omega
  have p2 : (j : Int) < n := by omega
  clear hx ev ey hr0 hy
  go_enter Try.func83, Try.ntmps83
  go_wp2_with fail
  refine K.mono ?_
  rintro e w' ⟨rfl, rfl⟩
  clear K
  go_wp2_with fail
  go_ret
  exact ⟨_, _, rfl, R0.out, Below.refl _ _⟩
set_option maxHeartbeats 1600000 in
/-- moveOf of an inverse's letter. -/
theorem implMvNeg (j : Nat) (A : Option Addr) (n c N : Nat) (vs : List SV) (gs : List (List Int)) (w : World) (hx : RR w w.heap.size A n vs gs) (ok : Hid (∀ g ∈ gs, IsP g ∧ g.length = N)) (hN : N ≤ 20) (hj : j < n) (hn : n ≤ 8) :
    Calls Try.prog 83 #[.slice A n c, .int .i64 (-((j : Int) + 1))] w fun e w' => ∃ A' c', e = .returned (.slice A' N c') ∧ RI w' w'.heap.size A' (invL (gs.getD j []) (gs.getD j []).length) ∧ Below w.heap.size w w' := by
  obtain ⟨b, off, A5, l, c5, y, rfl, hb, ev, ey, hc0, hr0, hy, hlc⟩ := hx.at_ hj
  have hok := ok.out y (by rw [← ey]; exact getD_memL (by rw [hx.lx]; exact hj))
  have hl : l = N := by rw [← hy]; exact hok.2
  subst hl
  have Ip := Lib.hid hok.1
  have R0 := Lib.hid hr0
  have Hy := Lib.hid hy
  have Ey := Lib.hid ey
  have w2 : IntKind.i64.wrap ((j : Int) + 1 - 1) = (j : Int) := by rw [IntKind.wrap_i64]; omega
  have d0 : decide (-((j : Int) + 1) < 0) = true := decide_eq_true (by omega)
  have K := implGen (-((j : Int) + 1)) w (by omega)
  rw [gnL_neg (by omega) (by omega), Int.neg_neg] at K
  have p1 : (0 : Int) ≤ j := by omega
  have p2 : (j : Int) < n := by omega
  clear hx ev ey hr0 hy hok
  go_enter Try.func83, Try.ntmps83
  go_wp2_with fail
  refine K.mono ?_
  rintro e w' ⟨rfl, rfl⟩
  clear K
  go_wp2_with fail
  refine (implInv A5 c5 l y w R0.out Hy Ip hN).mono ?_
  rintro e w3 ⟨A3, c3, rfl, s3, b3⟩
  have R3 : Hid (RI w3 w3.heap.size A3 (invL (gs.getD j []) (gs.getD j []).length)) := Lib.hid (by rw [Ey.out, Hy.out]; exact s3.ri_)
  have B3 := Lib.hid b3
  clear s3 b3
  go_wp2_with fail
  go_ret
  exact ⟨_, _, rfl, R3.out, B3.out⟩
/-- moveOf. -/
theorem implMv (l : Int) (A : Option Addr) (n c N : Nat) (vs : List SV) (gs : List (List Int)) (w : World) (hx : RR w w.heap.size A n vs gs) (ok : Hid (∀ g ∈ gs, IsP g ∧ g.length = N)) (hN : N ≤ 20) (hl : LtG gs l) (hn : n ≤ 8) :
    Calls Try.prog 83 #[.slice A n c, .int .i64 l] w fun e w' => ∃ A' c', e = .returned (.slice A' N c') ∧ RI w' w'.heap.size A' (ltM gs l) ∧ Below w.heap.size w w' := by
  have hlx := hx.lx
  obtain ⟨h0, h1, h2⟩ := hl
  unfold ltM
  by_cases h : l < 0
  · rw [if_pos h]
    have e : l = -((((-l - 1).toNat : Nat) : Int) + 1) := by omega
    have := implMvNeg (-l - 1).toNat A n c N vs gs w hx ok hN (by omega) hn
    rw [← e] at this
    exact this
  · rw [if_neg h]
    have e : l = (((l - 1).toNat : Nat) : Int) + 1 := by omega
    have := implMvPos (l - 1).toNat A n c N vs gs w hx ok (by omega) hn
    rw [← e] at this
    exact this

set_option maxHeartbeats 4000000 in
set_option maxRecDepth 100000 in
/-- EvaluateWord: the shape CtImvP. -/
theorem implEvaluateWord : CtImvP 47 IsEvw := by
  intro a A n c vs xss P np cp p w g s ha vi
  have G := Lib.hid g
  have S := Lib.hid s
  have hlx : Hid (xss.length = n) := Lib.hid g.rr.lx
  have lp := Lib.hid s.lp
  have hnp := s.hn
  clear g s
  rcases hg : gB a xss with _ | _
  · have Hg := Lib.hid hg
    have E1 : Hid (evB a xss p = false) := Lib.hid (by unfold evB; rw [hg]; rfl)
    have E2 : Hid (evF a xss p = []) := Lib.hid (by unfold evF; rw [E1.out]; rfl)
    clear hg
    go_enter Try.func47, Try.ntmps47
    go_wp2_with fail
    refine (implGS a A n c vs xss w G.out.rr G.out.hn (Lib.hid G.out.hl)).mono ?_
    rintro e w1 ⟨rfl, b1⟩
    have B1 := Lib.hid b1
    have hz := b1.size
    rw [Hg.out]
    clear b1
    go_wp2_with fail
    go_ret2
    exact ⟨none, 0, 0, [], false, rfl, Slc.nil_, ⟨E2.out.symm, E1.out.symm⟩, B1.out⟩
  · obtain ⟨N, rfl, h1, h2, h8, _, ok⟩ := gB_pm hg
    have Hg := Lib.hid hg
    have Ok : Hid (∀ g ∈ xss, Pn N g) := Lib.hid ok
    have hm8 : n ≤ 8 := by rw [← hlx.out]; exact h8
    clear hg ok
    rcases hv : vW (n : Int) p with _ | _
    · have Hv := Lib.hid hv
      have E1 : Hid (evB N xss p = false) := Lib.hid (by unfold evB; rw [hlx.out, hv, Bool.and_false])
      have E2 : Hid (evF N xss p = []) := Lib.hid (by unfold evF; rw [E1.out]; rfl)
      clear hv
      go_enter Try.func47, Try.ntmps47
      go_wp2_with fail
      refine (implGS N A n c vs xss w G.out.rr G.out.hn (Lib.hid G.out.hl)).mono ?_
      rintro e w1 ⟨rfl, b1⟩
      have B1 := Lib.hid b1
      have hz := b1.size
      have S1 := Lib.hid (S.out.ri.up b1)
      rw [Hg.out]
      clear b1
      go_wp2_with fail
      refine (implIsValidWord n P np cp p w1 S1.out lp (by omega) vi (by omega)).mono ?_
      rintro e w' ⟨rfl, rfl⟩
      rw [Hv.out]
      go_wp2_with fail
      go_ret2
      exact ⟨none, 0, 0, [], false, rfl, Slc.nil_, ⟨E2.out.symm, E1.out.symm⟩, B1.out⟩
    · have Hv := Lib.hid hv
      have E1 : Hid (evB N xss p = true) := Lib.hid (by unfold evB; rw [hlx.out, hv, Hg.out]; rfl)
      have E2 : Hid (evF N xss p = evW N xss p) := Lib.hid (by unfold evF; rw [if_pos E1.out, Int.toNat_natCast])
      have Hw : Hid (∀ l ∈ p, LtG xss l) := Lib.hid (vW_ltg (by rw [hlx.out]; exact hv))
      have hp2 : np ≤ 200 := by rw [← lp.out]; exact (vW_iff.1 hv).1
      clear hv
      go_enter Try.func47, Try.ntmps47
      go_wp2_with fail
      refine (implGS N A n c vs xss w G.out.rr G.out.hn (Lib.hid G.out.hl)).mono ?_
      rintro e w1 ⟨rfl, b1⟩
      have B1 := Lib.hid b1
      have hz := b1.size
      have S1 := Lib.hid (S.out.ri.up b1)
      have G1 := Lib.hid (G.out.rr.up b1)
      rw [Hg.out]
      clear b1
      go_wp2_with fail
      refine (implIsValidWord n P np cp p w1 S1.out lp (by omega) vi (by omega)).mono ?_
      rintro e w' ⟨rfl, rfl⟩
      rw [Hv.out]
      go_wp2_with fail
      refine (implId_core N w1 h1 h2).mono ?_
      rintro e w2 ⟨A2, c2, rfl, s2, b2⟩
      have S2 : Hid (Slc w2 w.heap.size A2 N c2 (evW N xss (p.take 0))) := Lib.hid (by rw [List.take_zero, evW_nil]; exact s2.mono hz)
      have B2 : Hid (Below w.heap.size w w2) := Lib.hid (btr B1.out b2)
      clear s2 b2
      go_wp2_with fail
      go_loopw [8, 26] (fun pv iv wr => ∃ (i cP : Nat) (Q : Option Addr), i ≤ np ∧ iv = .int .i64 (i : Nat) ∧ pv = .slice Q N cP ∧ Slc wr w.heap.size Q N cP (evW N xss (p.take i)) ∧ Below w.heap.size w wr) (fun _ iv _ => np - (intOf iv).toNat)
      case atStart => exact ⟨0, c2, A2, Nat.zero_le _, rfl, rfl, S2.out, B2.out⟩
      case round =>
        clear S2 B2
        obtain ⟨i, cP, Q, hi, rfl, rfl, hs, bel⟩ := hrel
        have Sp := Lib.hid hs
        have Be := Lib.hid bel
        have hz := bel.size
        clear hs bel
        by_cases hlt : i < np
        · obtain ⟨b, off, rfl, hb, hc⟩ := (S.out.ri.up Be.out) (by rw [lp.out]; omega)
          have c0 := hc i (by rw [lp.out]; exact hlt)
          obtain ⟨l, el⟩ : ∃ l, p.getD i 0 = l := ⟨_, rfl⟩
          rw [el] at c0
          have hl : LtG xss l := Hw.out l (by rw [← el, List.getD_eq_getElem?_getD, List.getElem?_eq_getElem (by rw [lp.out]; exact hlt)]; exact List.getElem_mem _)
          have Hl := Lib.hid hl
          have Tk : Hid (evW N xss (p.take (i + 1)) = compL (evW N xss (p.take i)) (ltM xss l)) := Lib.hid (by rw [evW_take (by rw [lp.out]; exact hlt), el])
          have Pp : Hid (Pn N (evW N xss (p.take i))) := Lib.hid (evW_pn Ok.out h1 h2 fun x hx => Hw.out x (List.mem_of_mem_take hx))
          have Pl : Hid (Pn N (ltM xss l)) := Lib.hid (ltM_pn Ok.out hl)
          have OkI : Hid (∀ g ∈ xss, IsP g ∧ g.length = N) := Lib.hid Ok.out
          have p0 : (0 : Int) ≤ i := by omega
          have p1 : (i : Int) < np := by omega
          clear el hc hb hl
          go_wp2_with fail
          refine (implMv l A n c N vs xss wr (G.out.rr.up Be.out) OkI h2 Hl.out hm8).mono ?_
          rintro e w2 ⟨A2, c2, rfl, r2, b2⟩
          have R2 := Lib.hid r2
          have Sp2 := Lib.hid (Sp.out.up b2)
          have Be2 : Hid (Below w.heap.size w w2) := Lib.hid (btr Be.out b2)
          have hz2 := b2.size
          clear r2 b2 Sp
          go_wp2_with fail
          refine (implThen Q A2 cP c2 N _ _ w2 Sp2.out.ri_ R2.out (Lib.hid Pp.out.2) (Lib.hid Pl.out.2) (Lib.hid Pp.out.1) h2).mono ?_
          rintro e w3 ⟨A3, c3, rfl, s3, b3⟩
          have S3 : Hid (Slc w3 w.heap.size A3 N c3 (evW N xss (p.take (i + 1)))) := Lib.hid (by rw [Tk.out]; exact s3.mono (by omega))
          have B3 : Hid (Below w.heap.size w w3) := Lib.hid (btr Be2.out b3)
          clear s3 b3
          go_wp2_with fail
          go_roundw
          case rel => exact ⟨i + 1, c3, A3, by omega, by go_num, rfl, S3.out, B3.out⟩
          case measure => simp [intOf]; omega
        · obtain rfl : i = np := by omega
          have Fin : Hid (Slc wr w.heap.size Q N cP (evW N xss p)) := Lib.hid (by have := Sp.out; rwa [List.take_of_length_le (by rw [lp.out]; exact Nat.le_refl _)] at this)
          go_wp2_with fail
          go_ret2
          exact ⟨Q, N, cP, _, true, rfl, Fin.out, ⟨E2.out.symm, E1.out.symm⟩, Be.out⟩
end Go.Proofs.Ytkjokchhffjidaa

/- The program's ApplyWord, SamePuzzle, MoveIndex. Conditions: those of PIn, SIn; a word's numbers are of 64 bits. -/
namespace Go.Proofs.Ytkjokchhffjidaa
open Go.RowKit

set_option maxHeartbeats 1600000 in
/-- ApplyWord. -/
theorem implApplyWord (z : Int) (s : ByteArray) (A : Option Addr) (n c : Nat) (vs : List SV) (gs : List (List Int)) (P : Option Addr) (np cp : Nat) (x : List Int) (D : Option Addr) (nd cd : Nat) (wd : List Int) (w : World) (h : PIn w z s A n vs gs) (k : SIn w P np cp x) (l : SIn w D nd cd wd) (vi : Hid (VI wd)) :
    Calls Try.prog 14 #[.agg #[.int .i64 z, .string s, .slice A n c], .slice P np cp, .slice D nd cd] w fun e w' => ∃ A' m c', e = .returned (.tuple #[.slice A' m c', .bool (apB z s gs x wd)]) ∧ Slc w' w.heap.size A' m c' (apF z s gs x wd) ∧ m ≤ 20 ∧ Below w.heap.size w w' := by
  have bV : Hid (Blk (w.alloc (.cells #[.int .i64 z, .string s, .slice A n c] 26)) w.heap.size 26 #[.int .i64 z, .string s, .slice A n c]) := Lib.hid (Blk.new w _ _)
  have BV : Hid (Below w.heap.size w (w.alloc (.cells #[.int .i64 z, .string s, .slice A n c] 26))) := Lib.hid ((Below.refl _ w).alloc (Nat.le_refl _) _)
  have HV := Lib.hid (h.up BV.out)
  have KV := Lib.hid (k.up BV.out)
  have LV := Lib.hid (l.up BV.out)
  have K := implIsState z s A n c vs gs P np cp x _ HV.out KV.out
  have hlx : Hid (gs.length = n) := Lib.hid h.g.rr.lx
  clear h k l
  rcases hp : stB z s gs x with _ | _
  · have E1 : Hid (apB z s gs x wd = false) := Lib.hid (by unfold apB; rw [hp, Bool.false_and])
    have E2 : Hid (apF z s gs x wd = []) := Lib.hid (by unfold apF; rw [E1.out]; rfl)
    rw [hp] at K
    go_enter Try.func14, Try.ntmps14
    go_wp2_with fail
    refine K.mono ?_
    rintro e w1 ⟨rfl, b1⟩
    have B1 : Hid (Below w.heap.size w w1) := Lib.hid (btr BV.out b1)
    have hz1 := B1.out.size
    clear K b1
    go_wp2_with fail
    go_ret2
    exact ⟨none, 0, 0, by rw [E1.out]; try rfl, by rw [E2.out]; exact Slc.nil_, by omega, B1.out⟩
  · have Hp := Lib.hid hp
    obtain ⟨N, rfl, h1, h2, h8, ok, hgb⟩ := pz_deg (stB_iff.1 hp).1
    have Ok := Lib.hid ok
    have Px : Hid (Pn N x) := Lib.hid (by have := stB_iff.1 hp; exact ⟨this.2.2, by omega⟩)
    have lpx : Hid (np = N) := Lib.hid (by rw [← KV.out.lp, Px.out.2])
    rw [hp] at K
    clear hp ok
    have Ev1 : Hid (evB N gs wd = vW (n : Int) wd) := Lib.hid (by unfold evB; rw [hgb, hlx.out, Bool.true_and])
    rcases hv : vW (n : Int) wd with _ | _
    · have Hv := Lib.hid hv
      have E1 : Hid (apB N s gs x wd = false) := Lib.hid (by unfold apB; rw [hlx.out, hv, Bool.and_false])
      have E2 : Hid (apF N s gs x wd = []) := Lib.hid (by unfold apF; rw [E1.out]; rfl)
      clear hv
      go_enter Try.func14, Try.ntmps14
      go_wp2_with fail
      refine K.mono ?_
      rintro e w1 ⟨rfl, b1⟩
      have B1 : Hid (Below w.heap.size w w1) := Lib.hid (btr BV.out b1)
      have bx : Blk w1 w.heap.size 26 #[.int .i64 (N : Nat), .string s, .slice A n c] := bV.out.below b1 bV.out.lt
      have c0 : w1.cell? ⟨w.heap.size, 0, none⟩ = some (.int .i64 (N : Nat)) := bx.cell 0
      have c2 : w1.cell? ⟨w.heap.size, 2, none⟩ = some (.slice A n c) := bx.cell 2
      have L1 := Lib.hid (LV.out.up b1)
      have K1 := Lib.hid (KV.out.up b1)
      have G1 := Lib.hid (HV.out.g.up b1)
      clear K b1 bx
      go_wp2_with fail
      refine (implEvaluateWord (N : Int) A n c vs gs D nd cd wd w1 G1.out L1.out (by constructor <;> omega) vi).mono ?_
      rintro e w2 ⟨A2, m2, c2', zs, ok2, rfl, s2, ⟨hz, hok⟩, b2⟩
      obtain rfl : ok2 = false := by rw [hok, Ev1.out, Hv.out]
      have B2 : Hid (Below w.heap.size w w2) := Lib.hid (btr B1.out b2)
      clear s2 b2 hz hok
      go_wp2_with fail
      go_ret2
      exact ⟨none, 0, 0, by rw [E1.out]; try rfl, by rw [E2.out]; exact Slc.nil_, by omega, B2.out⟩
    · have Hv := Lib.hid hv
      have E1 : Hid (apB N s gs x wd = true) := Lib.hid (by unfold apB; rw [hlx.out, hv, Hp.out]; rfl)
      have E2 : Hid (apF N s gs x wd = compL x (evW N gs wd)) := Lib.hid (by unfold apF; rw [if_pos E1.out, Int.toNat_natCast])
      have E3 : Hid (evF N gs wd = evW N gs wd) := Lib.hid (by unfold evF; rw [if_pos (by rw [Ev1.out]; exact hv), Int.toNat_natCast])
      have Hw : Hid (∀ l ∈ wd, LtG gs l) := Lib.hid (vW_ltg (by rw [hlx.out]; exact hv))
      have Pe : Hid (Pn N (evW N gs wd)) := Lib.hid (evW_pn Ok.out h1 h2 Hw.out)
      clear hv
      go_enter Try.func14, Try.ntmps14
      go_wp2_with fail
      refine K.mono ?_
      rintro e w1 ⟨rfl, b1⟩
      have B1 : Hid (Below w.heap.size w w1) := Lib.hid (btr BV.out b1)
      have bx : Blk w1 w.heap.size 26 #[.int .i64 (N : Nat), .string s, .slice A n c] := bV.out.below b1 bV.out.lt
      have c0 : w1.cell? ⟨w.heap.size, 0, none⟩ = some (.int .i64 (N : Nat)) := bx.cell 0
      have c2 : w1.cell? ⟨w.heap.size, 2, none⟩ = some (.slice A n c) := bx.cell 2
      have L1 := Lib.hid (LV.out.up b1)
      have K1 := Lib.hid (KV.out.up b1)
      have G1 := Lib.hid (HV.out.g.up b1)
      clear K b1 bx
      go_wp2_with fail
      refine (implEvaluateWord (N : Int) A n c vs gs D nd cd wd w1 G1.out L1.out (by constructor <;> omega) vi).mono ?_
      rintro e w2 ⟨A2, m2, c2', zs, ok2, rfl, s2, ⟨hz, hok⟩, b2⟩
      obtain rfl : ok2 = true := by rw [hok, Ev1.out, Hv.out]
      rw [hz, E3.out] at s2
      have S2 := Lib.hid s2
      have K2 := Lib.hid (K1.out.up b2)
      have B2 : Hid (Below w.heap.size w w2) := Lib.hid (btr B1.out b2)
      have hz2 := B2.out.size
      have hm2 : m2 = N := by rw [← S2.out.1, Pe.out.2]
      have hnp2 : np = N := lpx.out
      clear s2 b2 hz hok
      subst hm2
      subst hnp2
      go_wp2_with fail
      refine (implThen P A2 cp c2' np x (evW np gs wd) w2 K2.out.ri S2.out.ri_ (Lib.hid K2.out.lp) (Lib.hid Pe.out.2) (Lib.hid Px.out.1) h2).mono ?_
      rintro e w3 ⟨A3, c3, rfl, s3, b3⟩
      have S3 : Hid (Slc w3 w.heap.size A3 np c3 (apF np s gs x wd)) := Lib.hid (by rw [E2.out]; exact s3.mono hz2)
      have B3 : Hid (Below w.heap.size w w3) := Lib.hid (btr B2.out b3)
      clear s3 b3
      go_wp2_with fail
      go_ret2
      exact ⟨A3, np, c3, by rw [E1.out]; try rfl, S3.out, h2, B3.out⟩
set_option maxHeartbeats 4000000 in
set_option maxRecDepth 100000 in
/-- slices.EqualFunc of two lists of lists by slices.Equal. -/
theorem implEqF (A B : Option Addr) (n c m d : Nat) (vs us : List SV) (xss yss : List (List Int)) (w : World) (hx : RR w w.heap.size A n vs xss) (hy : RR w w.heap.size B m us yss) (hl1 : Hid (∀ i, i < n → (vs.getD i sd0).2.1 ≤ 1048576)) (hl2 : Hid (∀ i, i < m → (us.getD i sd0).2.1 ≤ 1048576)) (hn : n ≤ 1048576) :
    Calls Try.prog 70 #[.slice A n c, .slice B m d, .func (.func 59) #[] #[]] w fun e w' => e = .returned (.bool (decide (xss = yss))) ∧ ∃ q, w' = w.drewN q := by
  have HX := Lib.hid hx
  have HY := Lib.hid hy
  clear hx hy
  by_cases hnm : n = m
  · subst hnm
    have e0 : ((n : Int) != (n : Int)) = false := by simp
    go_enter Try.func70, Try.ntmps70
    go_wp2_with fail
    go_loopw [17] (fun i wr => ∃ k : Nat, k ≤ n ∧ i = .int .i64 (k : Nat) ∧ (∀ j, j < k → xss.getD j [] = yss.getD j []) ∧ ∃ q, wr = w.drewN q) (fun i _ => n - (intOf i).toNat)
    case atStart => exact ⟨0, Nat.zero_le _, rfl, fun j h => absurd h (Nat.not_lt_zero _), 0, rfl⟩
    case round =>
      obtain ⟨k, hk, rfl, hall, q, rfl⟩ := hrel
      have All := Lib.hid hall
      clear hall
      by_cases hlt : k < n
      · obtain ⟨b, off, A5, l, c5, y, rfl, hb, ev, ey, x1, r1, ly1, hlc⟩ := (HX.out.drewN q).at_ hlt
        obtain ⟨b', off', A6, l', c6, y', rfl, hb', ev', ey', x2, r2, ly2, hlc'⟩ := (HY.out.drewN q).at_ hlt
        have h1 := hl1.out k hlt
        have h2 := hl2.out k hlt
        rw [ev] at h1
        rw [ev'] at h2
        have h1' : l ≤ 2097152 := by simp only at h1; omega
        have h2' : l' ≤ 2097152 := by simp only at h2; omega
        have K := sEq A5 A6 c5 c6 l l' y y' (w.drewN q) r1 r2 (Lib.hid ly1) (Lib.hid ly2) h1' h2'
        have Ey := Lib.hid ey
        have Ey' := Lib.hid ey'
        have p1 : (0 : Int) ≤ k := by omega
        have p2 : (k : Int) < n := by omega
        clear r1 r2 ly1 ly2 ev ey ev' ey' hb hb' h1 h2
        by_cases e : y = y'
        · have All2 : Hid (∀ j, j < k + 1 → xss.getD j [] = yss.getD j []) := Lib.hid fun j hj => by
            by_cases e2 : j = k
            · subst e2; rw [Ey.out, Ey'.out, e]
            · exact All.out j (by omega)
          rw [decide_eq_true e] at K
          clear e
          go_wp2_with fail
          refine K.mono ?_
          rintro e w' ⟨rfl, q2, rfl⟩
          clear K
          go_wp2_with fail
          go_roundw
          case rel => exact ⟨k + 1, by omega, by go_num, All2.out, _, rfl⟩
          case measure => simp [intOf]; omega
        · have Fin : Hid (false = decide (xss = yss)) := Lib.hid (Eq.symm (decide_eq_false fun e2 => e (by rw [← Ey.out, ← Ey'.out, e2])))
          rw [decide_eq_false e] at K
          clear e
          go_wp2_with fail
          refine K.mono ?_
          rintro e w' ⟨rfl, q2, rfl⟩
          clear K
          go_wp2_with fail
          go_ret
          exact ⟨ret_bool Fin.out, _, rfl⟩
      · obtain rfl : k = n := by omega
        have Fin : Hid (true = decide (xss = yss)) := Lib.hid (Eq.symm (decide_eq_true (by
          apply List.ext_getElem (by rw [HX.out.lx, HY.out.lx])
          intro i h1 h2
          have := All.out i (by rw [← HX.out.lx]; exact h1)
          rw [getD_LP h1, getD_LP h2] at this
          exact this)))
        go_wp2_with fail
        go_ret
        exact ⟨ret_bool Fin.out, q, rfl⟩
  · have e0 : ((n : Int) != (m : Int)) = true := by rw [bne_iff_ne]; omega
    have e1 : ((n : Int) == (m : Int)) = false := by rw [beq_eq_false_iff_ne]; omega
    have Fin : Hid (false = decide (xss = yss)) := Lib.hid (Eq.symm (decide_eq_false fun e2 => hnm (by rw [← HX.out.lx, ← HY.out.lx, e2])))
    go_enter Try.func70, Try.ntmps70
    go_wp2_with fail
    go_ret
    exact ⟨ret_bool Fin.out, 0, rfl⟩
set_option maxHeartbeats 1600000 in
set_option maxRecDepth 100000 in
/-- SamePuzzle. -/
theorem implSamePuzzle (z : Int) (s : ByteArray) (A : Option Addr) (n c : Nat) (vs : List SV) (gs : List (List Int)) (z' : Int) (s' : ByteArray) (A' : Option Addr) (n' c' : Nat) (vs' : List SV) (gs' : List (List Int)) (w : World) (h : PIn w z s A n vs gs) (h' : PIn w z' s' A' n' vs' gs') :
    Calls Try.prog 30 #[.agg #[.int .i64 z, .string s, .slice A n c], .agg #[.int .i64 z', .string s', .slice A' n' c']] w fun e w' => e = .returned (.bool (smB z s gs z' s' gs')) ∧ Below w.heap.size w w' := by
  obtain ⟨V, hV⟩ : ∃ V, (w.alloc (.cells #[.int .i64 z, .string s, .slice A n c] 26)).alloc (.cells #[.int .i64 z', .string s', .slice A' n' c'] 26) = V := ⟨_, rfl⟩
  have bV : Hid (Blk V w.heap.size 26 #[.int .i64 z, .string s, .slice A n c]) := Lib.hid (by rw [← hV]; exact (Blk.new w _ _).alloc _)
  have bV' : Hid (Blk V (w.heap.size + 1) 26 #[.int .i64 z', .string s', .slice A' n' c']) := Lib.hid (by
    rw [← hV]; have := Blk.new (w.alloc (.cells #[.int .i64 z, .string s, .slice A n c] 26)) 26 #[.int .i64 z', .string s', .slice A' n' c']
    rw [World.size_alloc] at this; exact this)
  have BV : Hid (Below w.heap.size w V) := Lib.hid (by rw [← hV]; exact ((Below.refl _ w).alloc (Nat.le_refl _) _).alloc (by simp) _)
  have HV := Lib.hid (h.up BV.out)
  have HV' := Lib.hid (h'.up BV.out)
  have K := implIsValidPuzzle z s A n c vs gs V HV.out
  have x0 := bV.out.cell 0
  have x1 := bV.out.cell 1
  have x2 := bV.out.cell 2
  clear h h'
  rcases hp : pzB z s gs with _ | _
  · have Fin : Hid (smB z s gs z' s' gs' = false) := Lib.hid (smB_no fun h => by rw [hp] at h; cases h.1)
    rw [hp] at K
    go_enter Try.func30, Try.ntmps30
    go_wp2_with fail
    refine K.mono ?_
    rintro e w1 ⟨rfl, b1⟩
    have B1 : Hid (Below w.heap.size w w1) := Lib.hid (btr BV.out b1)
    clear K b1
    go_wp2_with fail
    go_ret
    exact ⟨ret_bool Fin.out.symm, B1.out⟩
  · rw [hp] at K
    have Hp := Lib.hid hp
    clear hp
    go_enter Try.func30, Try.ntmps30
    go_wp2_with fail
    refine K.mono ?_
    rintro e w1 ⟨rfl, b1⟩
    have B1 : Hid (Below w.heap.size w w1) := Lib.hid (btr BV.out b1)
    have bx1 := bV.out.below b1 bV.out.lt
    have bx1' := bV'.out.below b1 bV'.out.lt
    have H1 := Lib.hid (HV.out.up b1)
    have H1' := Lib.hid (HV'.out.up b1)
    clear K b1 x0 x1 x2 hV
    have x0 := bx1.cell 0
    have x1 := bx1.cell 1
    have x2 := bx1.cell 2
    have y0 := bx1'.cell 0
    have y1 := bx1'.cell 1
    have y2 := bx1'.cell 2
    clear bx1 bx1'
    by_cases hz : z = z'
    · have d0 : (z == z') = true := by rw [beq_iff_eq]; exact hz
      by_cases hs : s = s'
      · have d1 : (s.toList == s'.toList) = true := by rw [hs]; simp
        have E : Hid (smB z s gs z' s' gs' = decide (gs = gs')) := Lib.hid (by
          by_cases e : gs = gs'
          · rw [decide_eq_true e]
            exact smB_iff.2 ⟨Hp.out, by rw [← hz, ← hs, ← e]; exact Hp.out, hz, hs, e⟩
          · rw [decide_eq_false e]
            exact smB_no fun h => e h.2.2.2.2)
        clear hz hs
        go_wp2_with fail
        refine (quiet_below (implEqF A A' n c n' c' vs vs' gs gs' w1 H1.out.g.rr H1'.out.g.rr (Lib.hid H1.out.g.hl) (Lib.hid H1'.out.g.hl) H1.out.g.hn)).mono ?_
        rintro e w3 ⟨rfl, b3⟩
        have B3 : Hid (Below w.heap.size w w3) := Lib.hid (btr B1.out b3)
        clear b3
        rw [← E.out]
        go_wp2_with fail
        go_ret
        exact ⟨rfl, B3.out⟩
      · have d1 : (s.toList == s'.toList) = false := by rw [beq_eq_false_iff_ne]; exact fun e => hs (tl_inj e)
        have Fin : Hid (smB z s gs z' s' gs' = false) := Lib.hid (smB_no fun h => hs h.2.2.2.1)
        clear hs
        go_wp2_with fail
        go_ret
        exact ⟨ret_bool Fin.out.symm, B1.out⟩
    · have d0 : (z == z') = false := by rw [beq_eq_false_iff_ne]; exact hz
      have Fin : Hid (smB z s gs z' s' gs' = false) := Lib.hid (smB_no fun h => hz h.2.2.1)
      clear hz
      go_wp2_with fail
      go_ret
      exact ⟨ret_bool Fin.out.symm, B1.out⟩
set_option maxHeartbeats 1600000 in
set_option maxRecDepth 100000 in
/-- MoveIndex. -/
theorem implMoveIndex (z : Int) (s : ByteArray) (A : Option Addr) (n c : Nat) (vs : List SV) (gs : List (List Int)) (nm : ByteArray) (w : World) (h : PIn w z s A n vs gs) :
    Calls Try.prog 38 #[.agg #[.int .i64 z, .string s, .slice A n c], .string nm] w fun e w' => e = .returned (.int .i64 (mvF z s gs nm)) ∧ Below w.heap.size w w' := by
  have bV : Hid (Blk (w.alloc (.cells #[.int .i64 z, .string s, .slice A n c] 26)) w.heap.size 26 #[.int .i64 z, .string s, .slice A n c]) := Lib.hid (Blk.new w _ _)
  have BV : Hid (Below w.heap.size w (w.alloc (.cells #[.int .i64 z, .string s, .slice A n c] 26))) := Lib.hid ((Below.refl _ w).alloc (Nat.le_refl _) _)
  have HV := Lib.hid (h.up BV.out)
  have K := implIsValidPuzzle z s A n c vs gs _ HV.out
  clear h
  rcases hp : pzB z s gs with _ | _
  · have Fin : Hid (mvF z s gs nm = -1) := Lib.hid (by unfold mvF; rw [hp]; rfl)
    rw [hp] at K
    go_enter Try.func38, Try.ntmps38
    go_wp2_with fail
    refine K.mono ?_
    rintro e w1 ⟨rfl, b1⟩
    have B1 : Hid (Below w.heap.size w w1) := Lib.hid (btr BV.out b1)
    clear K b1
    go_wp2_with fail
    go_ret
    exact ⟨by rw [Fin.out]; try rfl, B1.out⟩
  · rw [hp] at K
    by_cases h1 : nm.size = 1
    · have d1 : ((nm.size : Int) != 1) = false := by rw [h1]; rfl
      have Fin : Hid (ixF s (byt nm 0) = mvF z s gs nm) := Lib.hid (by unfold mvF; rw [if_pos hp, ← mvI_ix h1]; cases mvI s nm <;> rfl)
      clear hp
      go_enter Try.func38, Try.ntmps38
      go_wp2_with fail
      refine K.mono ?_
      rintro e w1 ⟨rfl, b1⟩
      have B1 : Hid (Below w.heap.size w w1) := Lib.hid (btr BV.out b1)
      have bx : Blk w1 w.heap.size 26 #[.int .i64 z, .string s, .slice A n c] := bV.out.below b1 bV.out.lt
      have c1 : w1.cell? ⟨w.heap.size, 1, none⟩ = some (.string s) := bx.cell 1
      clear K b1 bx
      go_wp2_with fail
      refine (sIx1 s nm h1 w1).mono ?_
      rintro e w' ⟨rfl, q, rfl⟩
      have B2 : Hid (Below w.heap.size w (w1.drewN q)) := Lib.hid (below_drewN B1.out q)
      rw [Fin.out]
      go_wp2_with fail
      go_ret
      exact ⟨rfl, B2.out⟩
    · have d1 : ((nm.size : Int) != 1) = true := by rw [bne_iff_ne]; omega
      have Fin : Hid (mvF z s gs nm = -1) := Lib.hid (by
        unfold mvF
        rw [mvI_none fun j hj h => h1 h.1]
        split <;> rfl)
      go_enter Try.func38, Try.ntmps38
      go_wp2_with fail
      refine K.mono ?_
      rintro e w1 ⟨rfl, b1⟩
      have B1 : Hid (Below w.heap.size w w1) := Lib.hid (btr BV.out b1)
      clear K b1
      go_wp2_with fail
      go_ret
      exact ⟨by rw [Fin.out]; try rfl, B1.out⟩
end Go.Proofs.Ytkjokchhffjidaa

/- The walk of the law FnExactIsState: it returns true at every input, and writes nothing that was there. No condition but the program's own contract. -/
namespace Go.Proofs.Ytkjokchhffjidaa
open Go.RowKit

set_option maxHeartbeats 8000000 in
set_option maxRecDepth 100000 in
/-- The law FnExactIsState. -/
theorem lawIsState (IM : ∀ (z : Int) (s : ByteArray) (A : Option Addr) (n c : Nat) (vs : List SV) (gs : List (List Int)) (P : Option Addr) (np cp : Nat) (x : List Int) (w : World), PIn w z s A n vs gs → SIn w P np cp x → Calls Try.prog 17 #[.agg #[.int .i64 z, .string s, .slice A n c], .slice P np cp] w fun e w' => e = .returned (.bool (stB z s gs x)) ∧ Below w.heap.size w w') (z0 : Int) (s0 : ByteArray) (A0 : Option Addr) (n0 c0 : Nat) (vs0 : List SV) (gs0 : List (List Int)) (A1 : Option Addr) (n1 c1 : Nat) (x1 : List Int) (w : World) (wz0 : -9223372036854775808 ≤ z0 ∧ z0 ≤ 9223372036854775807) (hs0 : s0.size ≤ maxLen) (hx0 : RR w w.heap.size A0 n0 vs0 gs0) (hm0 : n0 ≤ maxLen) (hk0 : Hid (∀ i, i < n0 → (vs0.getD i sd0).2.1 ≤ maxLen)) (hx1 : RI w w.heap.size A1 x1) (lx1 : Hid (x1.length = n1)) :
    Calls Try.prog 6 #[.agg #[.int .i64 z0, .string s0, .slice A0 n0 c0], .slice A1 n1 c1] w fun e w' => e = .returned (.bool true) ∧ Below w.heap.size w w' := by
  have HX0 := Lib.hid hx0
  have hll0 := Lib.hid hx0.lens
  clear hx0
  have HX1 := Lib.hid hx1
  clear hx1
  have ba0 : Hid (Below w.heap.size w (w.alloc (.cells #[.int .i64 z0, .string s0, .slice A0 n0 c0] 37))) := Lib.hid ((Below.refl _ _).alloc (Nat.le_refl _) _)
  have B0_0 : Hid (Below w.heap.size w (w.alloc (.cells #[.int .i64 z0, .string s0, .slice A0 n0 c0] 37))) := Lib.hid ba0.out
  have bx0_0 : Hid (Blk (w.alloc (.cells #[.int .i64 z0, .string s0, .slice A0 n0 c0] 37)) (w.heap.size) 37 #[.int .i64 z0, .string s0, .slice A0 n0 c0]) := Lib.hid (Blk.new w _ _)
  by_cases hn1 : n1 ≤ 1048576
  · skip
    have dn1 : decide ((1048576 : Int) < (n1 : Int)) = false := by simp; omega
    obtain ⟨r0, hr0⟩ : ∃ r : Int, r = if ((s0.size + (n0 + tot vs0 n0) : Nat) : Int) ≤ (1048576 : Int) then (1048576 : Int) - ((s0.size + (n0 + tot vs0 n0) : Nat) : Int) else -1 := ⟨_, rfl⟩
    have Hr0 := Lib.hid hr0
    by_cases hT0 : ((s0.size + (n0 + tot vs0 n0) : Nat) : Int) ≤ (1048576 : Int)
    · skip
      rw [if_pos hT0] at hr0
      have hr00 : 0 ≤ r0 ∧ r0 ≤ 1048576 := by omega
      have dr0 : decide (r0 < 0) = false := by simp; omega
      have hn0 : n0 ≤ 1048576 := by omega
      have hss0 : s0.size ≤ 1048576 := by omega
      have KT0 : Hid (tot vs0 n0 ≤ 1048576) := Lib.hid (by omega)
      have hl0 : Hid (∀ i, i < n0 → (vs0.getD i sd0).2.1 ≤ 1048576) := Lib.hid fun i hi => by have := tot_row (vs := vs0) hi; have := KT0.out; omega
      have hyl0 : Hid (∀ i, i < n0 → (gs0.getD i []).length ≤ 1048576) := Lib.hid fun i hi => by rw [hll0.out i hi]; exact hl0.out i hi
      clear hr0 hT0
      go_enter Try.func6, Try.ntmps6
      have q0_0 := bx0_0.out.cell 0
      have q0_1 := bx0_0.out.cell 1
      have q0_2 := bx0_0.out.cell 2
      go_wp2_with fail
      refine (szPz z0 s0 A0 n0 c0 1048576 vs0 gs0 _ (HX0.out.up B0_0.out) hs0 hm0 hk0 (by decide) (by decide) r0 Hr0).mono ?_
      rintro e w1 ⟨rfl, b1⟩
      clear q0_0 q0_1 q0_2
      have B1 : Hid (Below w.heap.size w w1) := Lib.hid (btr B0_0.out b1)
      have bx0_1 := Lib.hid (bx0_0.out.below b1 bx0_0.out.lt)
      clear bx0_0
      clear b1
      have q0_0 := bx0_1.out.cell 0
      have q0_1 := bx0_1.out.cell 1
      have q0_2 := bx0_1.out.cell 2
      go_wp2_with fail
      refine (toPz z0 s0 A0 n0 c0 vs0 gs0 _ (HX0.out.up B1.out) hn0 hl0).mono ?_
      rintro e w2 ⟨C2, cc2, us2, rfl, s2, l2, b2⟩
      clear q0_0 q0_1 q0_2
      have B2 : Hid (Below w.heap.size w w2) := Lib.hid (btr B1.out b2)
      have bx0_2 := Lib.hid (bx0_1.out.below b2 bx0_1.out.lt)
      clear bx0_1
      have t0_2 := Lib.hid s2
      have Pt0_2 : Hid (PIn w2 z0 s0 C2 n0 us2 gs0) := Lib.hid ⟨⟨s2.rr, hn0, fun i hi => by rw [l2 i hi]; exact hl0.out i hi⟩, wz0, hss0⟩
      have Qt0 := Lib.hid l2
      clear b2 s2 l2
      have q0_0 := bx0_2.out.cell 0
      have q0_1 := bx0_2.out.cell 1
      have q0_2 := bx0_2.out.cell 2
      go_wp2_with fail
      refine (toS_any A1 c1 n1 x1 _ (HX1.out.up B2.out) lx1 (by omega)).mono ?_
      rintro e w3 ⟨C3, cc3, rfl, s3, b3⟩
      clear q0_0 q0_1 q0_2
      have B3 : Hid (Below w.heap.size w w3) := Lib.hid (btr B2.out b3)
      have bx0_3 := Lib.hid (bx0_2.out.below b3 bx0_2.out.lt)
      clear bx0_2
      have t0_3 := Lib.hid (t0_2.out.up b3)
      clear t0_2
      have Pt0_3 := Lib.hid (Pt0_2.out.up b3)
      clear Pt0_2
      have t1_3 := Lib.hid s3
      have let1 := s3.le.1
      have Lnt1 := Lib.hid s3.lies
      clear b3 s3
      have q0_0 := bx0_3.out.cell 0
      have q0_1 := bx0_3.out.cell 1
      have q0_2 := bx0_3.out.cell 2
      go_wp2_with fail
      refine (specIsState z0 s0 C2 n0 cc2 us2 gs0 C3 n1 cc3 x1 _ Pt0_3.out ⟨t1_3.out.ri_, lx1.out, hn1, let1⟩).mono ?_
      rintro e w4 ⟨rfl, b4⟩
      clear q0_0 q0_1 q0_2
      have B4 : Hid (Below w.heap.size w w4) := Lib.hid (btr B3.out b4)
      have bx0_4 := Lib.hid (bx0_3.out.below b4 bx0_3.out.lt)
      clear bx0_3
      have t0_4 := Lib.hid (t0_3.out.up b4)
      clear t0_3
      have Pt0_4 := Lib.hid (Pt0_3.out.up b4)
      clear Pt0_3
      have t1_4 := Lib.hid (t1_3.out.up b4)
      clear t1_3
      clear b4
      clear t0_4
      clear Pt0_4
      clear t1_4
      have q0_0 := bx0_4.out.cell 0
      have q0_1 := bx0_4.out.cell 1
      have q0_2 := bx0_4.out.cell 2
      go_wp2_with fail
      refine (toPz z0 s0 A0 n0 c0 vs0 gs0 _ (HX0.out.up B4.out) hn0 hl0).mono ?_
      rintro e w5 ⟨C5, cc5, us5, rfl, s5, l5, b5⟩
      clear q0_0 q0_1 q0_2
      have B5 : Hid (Below w.heap.size w w5) := Lib.hid (btr B4.out b5)
      have bx0_5 := Lib.hid (bx0_4.out.below b5 bx0_4.out.lt)
      clear bx0_4
      have x0_5 := Lib.hid s5
      have Px0_5 : Hid (PIn w5 z0 s0 C5 n0 us5 gs0) := Lib.hid ⟨⟨s5.rr, hn0, fun i hi => by rw [l5 i hi]; exact hl0.out i hi⟩, wz0, hss0⟩
      have Qx0 := Lib.hid l5
      clear b5 s5 l5
      have bb5 : Hid (Below w5.heap.size w5 (w5.alloc (.cells #[.int .i64 z0, .string s0, .slice C5 n0 cc5] 26))) := Lib.hid ((Below.refl _ _).alloc (Nat.le_refl _) _)
      have BB5 : Hid (Below w.heap.size w (w5.alloc (.cells #[.int .i64 z0, .string s0, .slice C5 n0 cc5] 26))) := Lib.hid (btr B5.out bb5.out)
      have bx0_b5 := Lib.hid (bx0_5.out.below bb5.out bx0_5.out.lt)
      clear bx0_5
      have x0_b5 := Lib.hid (x0_5.out.up bb5.out)
      clear x0_5
      have Px0_b5 := Lib.hid (Px0_5.out.up bb5.out)
      clear Px0_5
      have xb0_5 : Hid (Blk (w5.alloc (.cells #[.int .i64 z0, .string s0, .slice C5 n0 cc5] 26)) w5.heap.size 26 #[.int .i64 z0, .string s0, .slice C5 n0 cc5]) := Lib.hid (Blk.new w5 _ _)
      have q0_0 := bx0_b5.out.cell 0
      have q0_1 := bx0_b5.out.cell 1
      have q0_2 := bx0_b5.out.cell 2
      have q3_0 := xb0_5.out.cell 0
      have q3_1 := xb0_5.out.cell 1
      have q3_2 := xb0_5.out.cell 2
      go_wp2_with fail
      refine (toS_any A1 c1 n1 x1 _ (HX1.out.up BB5.out) lx1 (by omega)).mono ?_
      rintro e w6 ⟨C6, cc6, rfl, s6, b6⟩
      clear q0_0 q0_1 q0_2 q3_0 q3_1 q3_2
      have B6 : Hid (Below w.heap.size w w6) := Lib.hid (btr BB5.out b6)
      have bx0_6 := Lib.hid (bx0_b5.out.below b6 bx0_b5.out.lt)
      clear bx0_b5
      have x0_6 := Lib.hid (x0_b5.out.up b6)
      clear x0_b5
      have Px0_6 := Lib.hid (Px0_b5.out.up b6)
      clear Px0_b5
      have xb0_6 := Lib.hid (xb0_5.out.below b6 xb0_5.out.lt)
      clear xb0_5
      have x1_6 := Lib.hid s6
      have lex1 := s6.le.1
      have Lnx1 := Lib.hid s6.lies
      clear b6 s6
      have q0_0 := bx0_6.out.cell 0
      have q0_1 := bx0_6.out.cell 1
      have q0_2 := bx0_6.out.cell 2
      have q3_0 := xb0_6.out.cell 0
      have q3_1 := xb0_6.out.cell 1
      have q3_2 := xb0_6.out.cell 2
      go_wp2_with fail
      refine (IM z0 s0 C5 n0 cc5 us5 gs0 C6 n1 cc6 x1 _ Px0_6.out ⟨x1_6.out.ri_, lx1.out, hn1, lex1⟩).mono ?_
      rintro e w7 ⟨rfl, b7⟩
      clear q0_0 q0_1 q0_2 q3_0 q3_1 q3_2
      have B7 : Hid (Below w.heap.size w w7) := Lib.hid (btr B6.out b7)
      have bx0_7 := Lib.hid (bx0_6.out.below b7 bx0_6.out.lt)
      clear bx0_6
      have x0_7 := Lib.hid (x0_6.out.up b7)
      clear x0_6
      have Px0_7 := Lib.hid (Px0_6.out.up b7)
      clear Px0_6
      have xb0_7 := Lib.hid (xb0_6.out.below b7 xb0_6.out.lt)
      clear xb0_6
      have x1_7 := Lib.hid (x1_6.out.up b7)
      clear x1_6
      clear b7
      have ne0 : (stB z0 s0 gs0 x1 != stB z0 s0 gs0 x1) = false := by simp
      have q0_0 := bx0_7.out.cell 0
      have q0_1 := bx0_7.out.cell 1
      have q0_2 := bx0_7.out.cell 2
      have q3_0 := xb0_7.out.cell 0
      have q3_1 := xb0_7.out.cell 1
      have q3_2 := xb0_7.out.cell 2
      go_wp2_with fail
      go_region_law ((go_simp; go_wp2_with (first
        | (go_at_call 26; refine (toPz z0 s0 A0 n0 c0 vs0 gs0 w7.drew ((HX0.out.up B7.out).keep fun _ _ => rfl) hn0 hl0).mono ?_; rintro e w8 ⟨C8, cc8, us8, rfl, s8, l8, b8d⟩
           have b8 : Below w7.heap.size w7 w8 := ⟨b8d.os, b8d.tape, b8d.output, b8d.size, b8d.block⟩
           have B8 := Lib.hid (btr B7.out b8)
           have bx0_8 := Lib.hid (bx0_7.out.below b8 bx0_7.out.lt)
           have y0_0 := bx0_8.out.cell 0
           have y0_1 := bx0_8.out.cell 1
           have y0_2 := bx0_8.out.cell 2
           have x0_8 := Lib.hid (x0_7.out.up b8)
           have Px0_8 := Lib.hid (Px0_7.out.up b8)
           have xb0_8 := Lib.hid (xb0_7.out.below b8 xb0_7.out.lt)
           have y3_0 := xb0_8.out.cell 0
           have y3_1 := xb0_8.out.cell 1
           have y3_2 := xb0_8.out.cell 2
           have x1_8 := Lib.hid (x1_7.out.up b8)
           have T8 := Lib.hid s8
           clear b8d b8 s8 l8)
        | (go_at_call 28; (first | refine (eqPz z0 s0 C5 C8 n0 cc5 n0 cc8 us5 us8 gs0 w8 x0_8.out.rr T8.out.rr hn0 hyl0).mono ?_ | refine (eqPz z0 s0 C5 C8 n0 cc5 n0 cc8 us5 us8 gs0 w8.drew (x0_8.out.rr.keep fun _ _ => rfl) (T8.out.rr.keep fun _ _ => rfl) hn0 hyl0).mono ?_); rintro e w9 ⟨rfl, b9d⟩))))
      all_goals
        have b9 : Below w8.heap.size w8 w9 := ⟨b9d.os, b9d.tape, b9d.output, b9d.size, b9d.block⟩
        have B9 := Lib.hid (btr B8.out b9)
        have bx0_9 := Lib.hid (bx0_8.out.below b9 bx0_8.out.lt)
        have x0_9 := Lib.hid (x0_8.out.up b9)
        have Px0_9 := Lib.hid (Px0_8.out.up b9)
        have xb0_9 := Lib.hid (xb0_8.out.below b9 xb0_8.out.lt)
        have x1_9 := Lib.hid (x1_8.out.up b9)
        clear b9d b9
        have q0_0 := bx0_9.out.cell 0
        have q0_1 := bx0_9.out.cell 1
        have q0_2 := bx0_9.out.cell 2
        have q3_0 := xb0_9.out.cell 0
        have q3_1 := xb0_9.out.cell 1
        have q3_2 := xb0_9.out.cell 2
        go_wp2_with fail
        refine (toS_any A1 c1 n1 x1 _ (HX1.out.up B9.out) lx1 (by omega)).mono ?_
        rintro e w10 ⟨C10, cc10, rfl, s10, b10⟩
        clear q0_0 q0_1 q0_2 q3_0 q3_1 q3_2
        have B10 : Hid (Below w.heap.size w w10) := Lib.hid (btr B9.out b10)
        have bx0_10 := Lib.hid (bx0_9.out.below b10 bx0_9.out.lt)
        clear bx0_9
        have x0_10 := Lib.hid (x0_9.out.up b10)
        clear x0_9
        have Px0_10 := Lib.hid (Px0_9.out.up b10)
        clear Px0_9
        have xb0_10 := Lib.hid (xb0_9.out.below b10 xb0_9.out.lt)
        clear xb0_9
        have x1_10 := Lib.hid (x1_9.out.up b10)
        clear x1_9
        have y1_10 := Lib.hid s10
        have ley1 := s10.le.1
        have Lny1 := Lib.hid s10.lies
        clear b10 s10
        have q0_0 := bx0_10.out.cell 0
        have q0_1 := bx0_10.out.cell 1
        have q0_2 := bx0_10.out.cell 2
        have q3_0 := xb0_10.out.cell 0
        have q3_1 := xb0_10.out.cell 1
        have q3_2 := xb0_10.out.cell 2
        go_wp2_with fail
        refine (eqS_same _ _ C6 C10 n1 cc6 n1 cc10 _ x1_10.out y1_10.out (by omega)).mono ?_
        rintro e w11 ⟨rfl, b11⟩
        clear q0_0 q0_1 q0_2 q3_0 q3_1 q3_2
        have B11 : Hid (Below w.heap.size w w11) := Lib.hid (btr B10.out b11)
        have bx0_11 := Lib.hid (bx0_10.out.below b11 bx0_10.out.lt)
        clear bx0_10
        have x0_11 := Lib.hid (x0_10.out.up b11)
        clear x0_10
        have Px0_11 := Lib.hid (Px0_10.out.up b11)
        clear Px0_10
        have xb0_11 := Lib.hid (xb0_10.out.below b11 xb0_10.out.lt)
        clear xb0_10
        have x1_11 := Lib.hid (x1_10.out.up b11)
        clear x1_10
        have y1_11 := Lib.hid (y1_10.out.up b11)
        clear y1_10
        clear b11
        clear y1_11
        have q0_0 := bx0_11.out.cell 0
        have q0_1 := bx0_11.out.cell 1
        have q0_2 := bx0_11.out.cell 2
        have q3_0 := xb0_11.out.cell 0
        have q3_1 := xb0_11.out.cell 1
        have q3_2 := xb0_11.out.cell 2
        go_wp2_with fail
        go_ret
        exact ⟨rfl, B11.out⟩
    · skip
      obtain rfl : r0 = -1 := by rw [hr0, if_neg hT0]
      clear hr0 hT0
      go_enter Try.func6, Try.ntmps6
      have q0_0 := bx0_0.out.cell 0
      have q0_1 := bx0_0.out.cell 1
      have q0_2 := bx0_0.out.cell 2
      go_wp2_with fail
      refine (szPz z0 s0 A0 n0 c0 1048576 vs0 gs0 _ (HX0.out.up B0_0.out) hs0 hm0 hk0 (by decide) (by decide) (-1) Hr0).mono ?_
      rintro e w1 ⟨rfl, b1⟩
      clear q0_0 q0_1 q0_2
      have B1 : Hid (Below w.heap.size w w1) := Lib.hid (btr B0_0.out b1)
      have bx0_1 := Lib.hid (bx0_0.out.below b1 bx0_0.out.lt)
      clear bx0_0
      clear b1
      have q0_0 := bx0_1.out.cell 0
      have q0_1 := bx0_1.out.cell 1
      have q0_2 := bx0_1.out.cell 2
      go_wp2_with fail
      go_ret
      exact ⟨rfl, B1.out⟩
  · skip
    have dn1 : decide ((1048576 : Int) < (n1 : Int)) = true := by simp; omega
    go_enter Try.func6, Try.ntmps6
    have q0_0 := bx0_0.out.cell 0
    have q0_1 := bx0_0.out.cell 1
    have q0_2 := bx0_0.out.cell 2
    go_wp2_with fail
    go_ret
    exact ⟨rfl, B0_0.out⟩
end Go.Proofs.Ytkjokchhffjidaa

/- The walk of the law FnExactIsSolved: it returns true at every input, and writes nothing that was there. No condition but the program's own contract. -/
namespace Go.Proofs.Ytkjokchhffjidaa
open Go.RowKit

set_option maxHeartbeats 8000000 in
set_option maxRecDepth 100000 in
/-- The law FnExactIsSolved. -/
theorem lawIsSolved (IM : ∀ (z : Int) (s : ByteArray) (A : Option Addr) (n c : Nat) (vs : List SV) (gs : List (List Int)) (P : Option Addr) (np cp : Nat) (x : List Int) (w : World), PIn w z s A n vs gs → SIn w P np cp x → Calls Try.prog 22 #[.agg #[.int .i64 z, .string s, .slice A n c], .slice P np cp] w fun e w' => e = .returned (.bool (slB z s gs x)) ∧ Below w.heap.size w w') (z0 : Int) (s0 : ByteArray) (A0 : Option Addr) (n0 c0 : Nat) (vs0 : List SV) (gs0 : List (List Int)) (A1 : Option Addr) (n1 c1 : Nat) (x1 : List Int) (w : World) (wz0 : -9223372036854775808 ≤ z0 ∧ z0 ≤ 9223372036854775807) (hs0 : s0.size ≤ maxLen) (hx0 : RR w w.heap.size A0 n0 vs0 gs0) (hm0 : n0 ≤ maxLen) (hk0 : Hid (∀ i, i < n0 → (vs0.getD i sd0).2.1 ≤ maxLen)) (hx1 : RI w w.heap.size A1 x1) (lx1 : Hid (x1.length = n1)) :
    Calls Try.prog 8 #[.agg #[.int .i64 z0, .string s0, .slice A0 n0 c0], .slice A1 n1 c1] w fun e w' => e = .returned (.bool true) ∧ Below w.heap.size w w' := by
  have HX0 := Lib.hid hx0
  have hll0 := Lib.hid hx0.lens
  clear hx0
  have HX1 := Lib.hid hx1
  clear hx1
  have ba0 : Hid (Below w.heap.size w (w.alloc (.cells #[.int .i64 z0, .string s0, .slice A0 n0 c0] 37))) := Lib.hid ((Below.refl _ _).alloc (Nat.le_refl _) _)
  have B0_0 : Hid (Below w.heap.size w (w.alloc (.cells #[.int .i64 z0, .string s0, .slice A0 n0 c0] 37))) := Lib.hid ba0.out
  have bx0_0 : Hid (Blk (w.alloc (.cells #[.int .i64 z0, .string s0, .slice A0 n0 c0] 37)) (w.heap.size) 37 #[.int .i64 z0, .string s0, .slice A0 n0 c0]) := Lib.hid (Blk.new w _ _)
  by_cases hn1 : n1 ≤ 1048576
  · skip
    have dn1 : decide ((1048576 : Int) < (n1 : Int)) = false := by simp; omega
    obtain ⟨r0, hr0⟩ : ∃ r : Int, r = if ((s0.size + (n0 + tot vs0 n0) : Nat) : Int) ≤ (1048576 : Int) then (1048576 : Int) - ((s0.size + (n0 + tot vs0 n0) : Nat) : Int) else -1 := ⟨_, rfl⟩
    have Hr0 := Lib.hid hr0
    by_cases hT0 : ((s0.size + (n0 + tot vs0 n0) : Nat) : Int) ≤ (1048576 : Int)
    · skip
      rw [if_pos hT0] at hr0
      have hr00 : 0 ≤ r0 ∧ r0 ≤ 1048576 := by omega
      have dr0 : decide (r0 < 0) = false := by simp; omega
      have hn0 : n0 ≤ 1048576 := by omega
      have hss0 : s0.size ≤ 1048576 := by omega
      have KT0 : Hid (tot vs0 n0 ≤ 1048576) := Lib.hid (by omega)
      have hl0 : Hid (∀ i, i < n0 → (vs0.getD i sd0).2.1 ≤ 1048576) := Lib.hid fun i hi => by have := tot_row (vs := vs0) hi; have := KT0.out; omega
      have hyl0 : Hid (∀ i, i < n0 → (gs0.getD i []).length ≤ 1048576) := Lib.hid fun i hi => by rw [hll0.out i hi]; exact hl0.out i hi
      clear hr0 hT0
      go_enter Try.func8, Try.ntmps8
      have q0_0 := bx0_0.out.cell 0
      have q0_1 := bx0_0.out.cell 1
      have q0_2 := bx0_0.out.cell 2
      go_wp2_with fail
      refine (szPz z0 s0 A0 n0 c0 1048576 vs0 gs0 _ (HX0.out.up B0_0.out) hs0 hm0 hk0 (by decide) (by decide) r0 Hr0).mono ?_
      rintro e w1 ⟨rfl, b1⟩
      clear q0_0 q0_1 q0_2
      have B1 : Hid (Below w.heap.size w w1) := Lib.hid (btr B0_0.out b1)
      have bx0_1 := Lib.hid (bx0_0.out.below b1 bx0_0.out.lt)
      clear bx0_0
      clear b1
      have q0_0 := bx0_1.out.cell 0
      have q0_1 := bx0_1.out.cell 1
      have q0_2 := bx0_1.out.cell 2
      go_wp2_with fail
      refine (toPz z0 s0 A0 n0 c0 vs0 gs0 _ (HX0.out.up B1.out) hn0 hl0).mono ?_
      rintro e w2 ⟨C2, cc2, us2, rfl, s2, l2, b2⟩
      clear q0_0 q0_1 q0_2
      have B2 : Hid (Below w.heap.size w w2) := Lib.hid (btr B1.out b2)
      have bx0_2 := Lib.hid (bx0_1.out.below b2 bx0_1.out.lt)
      clear bx0_1
      have t0_2 := Lib.hid s2
      have Pt0_2 : Hid (PIn w2 z0 s0 C2 n0 us2 gs0) := Lib.hid ⟨⟨s2.rr, hn0, fun i hi => by rw [l2 i hi]; exact hl0.out i hi⟩, wz0, hss0⟩
      have Qt0 := Lib.hid l2
      clear b2 s2 l2
      have q0_0 := bx0_2.out.cell 0
      have q0_1 := bx0_2.out.cell 1
      have q0_2 := bx0_2.out.cell 2
      go_wp2_with fail
      refine (toS_any A1 c1 n1 x1 _ (HX1.out.up B2.out) lx1 (by omega)).mono ?_
      rintro e w3 ⟨C3, cc3, rfl, s3, b3⟩
      clear q0_0 q0_1 q0_2
      have B3 : Hid (Below w.heap.size w w3) := Lib.hid (btr B2.out b3)
      have bx0_3 := Lib.hid (bx0_2.out.below b3 bx0_2.out.lt)
      clear bx0_2
      have t0_3 := Lib.hid (t0_2.out.up b3)
      clear t0_2
      have Pt0_3 := Lib.hid (Pt0_2.out.up b3)
      clear Pt0_2
      have t1_3 := Lib.hid s3
      have let1 := s3.le.1
      have Lnt1 := Lib.hid s3.lies
      clear b3 s3
      have q0_0 := bx0_3.out.cell 0
      have q0_1 := bx0_3.out.cell 1
      have q0_2 := bx0_3.out.cell 2
      go_wp2_with fail
      refine (specIsSolved z0 s0 C2 n0 cc2 us2 gs0 C3 n1 cc3 x1 _ Pt0_3.out ⟨t1_3.out.ri_, lx1.out, hn1, let1⟩).mono ?_
      rintro e w4 ⟨rfl, b4⟩
      clear q0_0 q0_1 q0_2
      have B4 : Hid (Below w.heap.size w w4) := Lib.hid (btr B3.out b4)
      have bx0_4 := Lib.hid (bx0_3.out.below b4 bx0_3.out.lt)
      clear bx0_3
      have t0_4 := Lib.hid (t0_3.out.up b4)
      clear t0_3
      have Pt0_4 := Lib.hid (Pt0_3.out.up b4)
      clear Pt0_3
      have t1_4 := Lib.hid (t1_3.out.up b4)
      clear t1_3
      clear b4
      clear t0_4
      clear Pt0_4
      clear t1_4
      have q0_0 := bx0_4.out.cell 0
      have q0_1 := bx0_4.out.cell 1
      have q0_2 := bx0_4.out.cell 2
      go_wp2_with fail
      refine (toPz z0 s0 A0 n0 c0 vs0 gs0 _ (HX0.out.up B4.out) hn0 hl0).mono ?_
      rintro e w5 ⟨C5, cc5, us5, rfl, s5, l5, b5⟩
      clear q0_0 q0_1 q0_2
      have B5 : Hid (Below w.heap.size w w5) := Lib.hid (btr B4.out b5)
      have bx0_5 := Lib.hid (bx0_4.out.below b5 bx0_4.out.lt)
      clear bx0_4
      have x0_5 := Lib.hid s5
      have Px0_5 : Hid (PIn w5 z0 s0 C5 n0 us5 gs0) := Lib.hid ⟨⟨s5.rr, hn0, fun i hi => by rw [l5 i hi]; exact hl0.out i hi⟩, wz0, hss0⟩
      have Qx0 := Lib.hid l5
      clear b5 s5 l5
      have bb5 : Hid (Below w5.heap.size w5 (w5.alloc (.cells #[.int .i64 z0, .string s0, .slice C5 n0 cc5] 26))) := Lib.hid ((Below.refl _ _).alloc (Nat.le_refl _) _)
      have BB5 : Hid (Below w.heap.size w (w5.alloc (.cells #[.int .i64 z0, .string s0, .slice C5 n0 cc5] 26))) := Lib.hid (btr B5.out bb5.out)
      have bx0_b5 := Lib.hid (bx0_5.out.below bb5.out bx0_5.out.lt)
      clear bx0_5
      have x0_b5 := Lib.hid (x0_5.out.up bb5.out)
      clear x0_5
      have Px0_b5 := Lib.hid (Px0_5.out.up bb5.out)
      clear Px0_5
      have xb0_5 : Hid (Blk (w5.alloc (.cells #[.int .i64 z0, .string s0, .slice C5 n0 cc5] 26)) w5.heap.size 26 #[.int .i64 z0, .string s0, .slice C5 n0 cc5]) := Lib.hid (Blk.new w5 _ _)
      have q0_0 := bx0_b5.out.cell 0
      have q0_1 := bx0_b5.out.cell 1
      have q0_2 := bx0_b5.out.cell 2
      have q3_0 := xb0_5.out.cell 0
      have q3_1 := xb0_5.out.cell 1
      have q3_2 := xb0_5.out.cell 2
      go_wp2_with fail
      refine (toS_any A1 c1 n1 x1 _ (HX1.out.up BB5.out) lx1 (by omega)).mono ?_
      rintro e w6 ⟨C6, cc6, rfl, s6, b6⟩
      clear q0_0 q0_1 q0_2 q3_0 q3_1 q3_2
      have B6 : Hid (Below w.heap.size w w6) := Lib.hid (btr BB5.out b6)
      have bx0_6 := Lib.hid (bx0_b5.out.below b6 bx0_b5.out.lt)
      clear bx0_b5
      have x0_6 := Lib.hid (x0_b5.out.up b6)
      clear x0_b5
      have Px0_6 := Lib.hid (Px0_b5.out.up b6)
      clear Px0_b5
      have xb0_6 := Lib.hid (xb0_5.out.below b6 xb0_5.out.lt)
      clear xb0_5
      have x1_6 := Lib.hid s6
      have lex1 := s6.le.1
      have Lnx1 := Lib.hid s6.lies
      clear b6 s6
      have q0_0 := bx0_6.out.cell 0
      have q0_1 := bx0_6.out.cell 1
      have q0_2 := bx0_6.out.cell 2
      have q3_0 := xb0_6.out.cell 0
      have q3_1 := xb0_6.out.cell 1
      have q3_2 := xb0_6.out.cell 2
      go_wp2_with fail
      refine (IM z0 s0 C5 n0 cc5 us5 gs0 C6 n1 cc6 x1 _ Px0_6.out ⟨x1_6.out.ri_, lx1.out, hn1, lex1⟩).mono ?_
      rintro e w7 ⟨rfl, b7⟩
      clear q0_0 q0_1 q0_2 q3_0 q3_1 q3_2
      have B7 : Hid (Below w.heap.size w w7) := Lib.hid (btr B6.out b7)
      have bx0_7 := Lib.hid (bx0_6.out.below b7 bx0_6.out.lt)
      clear bx0_6
      have x0_7 := Lib.hid (x0_6.out.up b7)
      clear x0_6
      have Px0_7 := Lib.hid (Px0_6.out.up b7)
      clear Px0_6
      have xb0_7 := Lib.hid (xb0_6.out.below b7 xb0_6.out.lt)
      clear xb0_6
      have x1_7 := Lib.hid (x1_6.out.up b7)
      clear x1_6
      clear b7
      have ne0 : (slB z0 s0 gs0 x1 != slB z0 s0 gs0 x1) = false := by simp
      have q0_0 := bx0_7.out.cell 0
      have q0_1 := bx0_7.out.cell 1
      have q0_2 := bx0_7.out.cell 2
      have q3_0 := xb0_7.out.cell 0
      have q3_1 := xb0_7.out.cell 1
      have q3_2 := xb0_7.out.cell 2
      go_wp2_with fail
      go_region_law ((go_simp; go_wp2_with (first
        | (go_at_call 26; refine (toPz z0 s0 A0 n0 c0 vs0 gs0 w7.drew ((HX0.out.up B7.out).keep fun _ _ => rfl) hn0 hl0).mono ?_; rintro e w8 ⟨C8, cc8, us8, rfl, s8, l8, b8d⟩
           have b8 : Below w7.heap.size w7 w8 := ⟨b8d.os, b8d.tape, b8d.output, b8d.size, b8d.block⟩
           have B8 := Lib.hid (btr B7.out b8)
           have bx0_8 := Lib.hid (bx0_7.out.below b8 bx0_7.out.lt)
           have y0_0 := bx0_8.out.cell 0
           have y0_1 := bx0_8.out.cell 1
           have y0_2 := bx0_8.out.cell 2
           have x0_8 := Lib.hid (x0_7.out.up b8)
           have Px0_8 := Lib.hid (Px0_7.out.up b8)
           have xb0_8 := Lib.hid (xb0_7.out.below b8 xb0_7.out.lt)
           have y3_0 := xb0_8.out.cell 0
           have y3_1 := xb0_8.out.cell 1
           have y3_2 := xb0_8.out.cell 2
           have x1_8 := Lib.hid (x1_7.out.up b8)
           have T8 := Lib.hid s8
           clear b8d b8 s8 l8)
        | (go_at_call 28; (first | refine (eqPz z0 s0 C5 C8 n0 cc5 n0 cc8 us5 us8 gs0 w8 x0_8.out.rr T8.out.rr hn0 hyl0).mono ?_ | refine (eqPz z0 s0 C5 C8 n0 cc5 n0 cc8 us5 us8 gs0 w8.drew (x0_8.out.rr.keep fun _ _ => rfl) (T8.out.rr.keep fun _ _ => rfl) hn0 hyl0).mono ?_); rintro e w9 ⟨rfl, b9d⟩))))
      all_goals
        have b9 : Below w8.heap.size w8 w9 := ⟨b9d.os, b9d.tape, b9d.output, b9d.size, b9d.block⟩
        have B9 := Lib.hid (btr B8.out b9)
        have bx0_9 := Lib.hid (bx0_8.out.below b9 bx0_8.out.lt)
        have x0_9 := Lib.hid (x0_8.out.up b9)
        have Px0_9 := Lib.hid (Px0_8.out.up b9)
        have xb0_9 := Lib.hid (xb0_8.out.below b9 xb0_8.out.lt)
        have x1_9 := Lib.hid (x1_8.out.up b9)
        clear b9d b9
        have q0_0 := bx0_9.out.cell 0
        have q0_1 := bx0_9.out.cell 1
        have q0_2 := bx0_9.out.cell 2
        have q3_0 := xb0_9.out.cell 0
        have q3_1 := xb0_9.out.cell 1
        have q3_2 := xb0_9.out.cell 2
        go_wp2_with fail
        refine (toS_any A1 c1 n1 x1 _ (HX1.out.up B9.out) lx1 (by omega)).mono ?_
        rintro e w10 ⟨C10, cc10, rfl, s10, b10⟩
        clear q0_0 q0_1 q0_2 q3_0 q3_1 q3_2
        have B10 : Hid (Below w.heap.size w w10) := Lib.hid (btr B9.out b10)
        have bx0_10 := Lib.hid (bx0_9.out.below b10 bx0_9.out.lt)
        clear bx0_9
        have x0_10 := Lib.hid (x0_9.out.up b10)
        clear x0_9
        have Px0_10 := Lib.hid (Px0_9.out.up b10)
        clear Px0_9
        have xb0_10 := Lib.hid (xb0_9.out.below b10 xb0_9.out.lt)
        clear xb0_9
        have x1_10 := Lib.hid (x1_9.out.up b10)
        clear x1_9
        have y1_10 := Lib.hid s10
        have ley1 := s10.le.1
        have Lny1 := Lib.hid s10.lies
        clear b10 s10
        have q0_0 := bx0_10.out.cell 0
        have q0_1 := bx0_10.out.cell 1
        have q0_2 := bx0_10.out.cell 2
        have q3_0 := xb0_10.out.cell 0
        have q3_1 := xb0_10.out.cell 1
        have q3_2 := xb0_10.out.cell 2
        go_wp2_with fail
        refine (eqS_same _ _ C6 C10 n1 cc6 n1 cc10 _ x1_10.out y1_10.out (by omega)).mono ?_
        rintro e w11 ⟨rfl, b11⟩
        clear q0_0 q0_1 q0_2 q3_0 q3_1 q3_2
        have B11 : Hid (Below w.heap.size w w11) := Lib.hid (btr B10.out b11)
        have bx0_11 := Lib.hid (bx0_10.out.below b11 bx0_10.out.lt)
        clear bx0_10
        have x0_11 := Lib.hid (x0_10.out.up b11)
        clear x0_10
        have Px0_11 := Lib.hid (Px0_10.out.up b11)
        clear Px0_10
        have xb0_11 := Lib.hid (xb0_10.out.below b11 xb0_10.out.lt)
        clear xb0_10
        have x1_11 := Lib.hid (x1_10.out.up b11)
        clear x1_10
        have y1_11 := Lib.hid (y1_10.out.up b11)
        clear y1_10
        clear b11
        clear y1_11
        have q0_0 := bx0_11.out.cell 0
        have q0_1 := bx0_11.out.cell 1
        have q0_2 := bx0_11.out.cell 2
        have q3_0 := xb0_11.out.cell 0
        have q3_1 := xb0_11.out.cell 1
        have q3_2 := xb0_11.out.cell 2
        go_wp2_with fail
        go_ret
        exact ⟨rfl, B11.out⟩
    · skip
      obtain rfl : r0 = -1 := by rw [hr0, if_neg hT0]
      clear hr0 hT0
      go_enter Try.func8, Try.ntmps8
      have q0_0 := bx0_0.out.cell 0
      have q0_1 := bx0_0.out.cell 1
      have q0_2 := bx0_0.out.cell 2
      go_wp2_with fail
      refine (szPz z0 s0 A0 n0 c0 1048576 vs0 gs0 _ (HX0.out.up B0_0.out) hs0 hm0 hk0 (by decide) (by decide) (-1) Hr0).mono ?_
      rintro e w1 ⟨rfl, b1⟩
      clear q0_0 q0_1 q0_2
      have B1 : Hid (Below w.heap.size w w1) := Lib.hid (btr B0_0.out b1)
      have bx0_1 := Lib.hid (bx0_0.out.below b1 bx0_0.out.lt)
      clear bx0_0
      clear b1
      have q0_0 := bx0_1.out.cell 0
      have q0_1 := bx0_1.out.cell 1
      have q0_2 := bx0_1.out.cell 2
      go_wp2_with fail
      go_ret
      exact ⟨rfl, B1.out⟩
  · skip
    have dn1 : decide ((1048576 : Int) < (n1 : Int)) = true := by simp; omega
    go_enter Try.func8, Try.ntmps8
    have q0_0 := bx0_0.out.cell 0
    have q0_1 := bx0_0.out.cell 1
    have q0_2 := bx0_0.out.cell 2
    go_wp2_with fail
    go_ret
    exact ⟨rfl, B0_0.out⟩
end Go.Proofs.Ytkjokchhffjidaa

/- The walk of the law FnExactMoveIndex: it returns true at every input, and writes nothing that was there. No condition but the program's own contract. -/
namespace Go.Proofs.Ytkjokchhffjidaa
open Go.RowKit

set_option maxHeartbeats 8000000 in
set_option maxRecDepth 100000 in
/-- The law FnExactMoveIndex. -/
theorem lawMoveIndex (IM : ∀ (z : Int) (s : ByteArray) (A : Option Addr) (n c : Nat) (vs : List SV) (gs : List (List Int)) (t : ByteArray) (w : World), PIn w z s A n vs gs → Calls Try.prog 38 #[.agg #[.int .i64 z, .string s, .slice A n c], .string t] w fun e w' => e = .returned (.int .i64 (mvF z s gs t)) ∧ Below w.heap.size w w') (z0 : Int) (s0 : ByteArray) (A0 : Option Addr) (n0 c0 : Nat) (vs0 : List SV) (gs0 : List (List Int)) (t1 : ByteArray) (w : World) (wz0 : -9223372036854775808 ≤ z0 ∧ z0 ≤ 9223372036854775807) (hs0 : s0.size ≤ maxLen) (hx0 : RR w w.heap.size A0 n0 vs0 gs0) (hm0 : n0 ≤ maxLen) (hk0 : Hid (∀ i, i < n0 → (vs0.getD i sd0).2.1 ≤ maxLen)) (ht1 : t1.size ≤ maxLen) :
    Calls Try.prog 9 #[.agg #[.int .i64 z0, .string s0, .slice A0 n0 c0], .string t1] w fun e w' => e = .returned (.bool true) ∧ Below w.heap.size w w' := by
  have HX0 := Lib.hid hx0
  have hll0 := Lib.hid hx0.lens
  clear hx0
  have ba0 : Hid (Below w.heap.size w (w.alloc (.cells #[.int .i64 z0, .string s0, .slice A0 n0 c0] 37))) := Lib.hid ((Below.refl _ _).alloc (Nat.le_refl _) _)
  have B0_0 : Hid (Below w.heap.size w (w.alloc (.cells #[.int .i64 z0, .string s0, .slice A0 n0 c0] 37))) := Lib.hid ba0.out
  have bx0_0 : Hid (Blk (w.alloc (.cells #[.int .i64 z0, .string s0, .slice A0 n0 c0] 37)) (w.heap.size) 37 #[.int .i64 z0, .string s0, .slice A0 n0 c0]) := Lib.hid (Blk.new w _ _)
  by_cases hn1 : t1.size ≤ 1048576
  · skip
    have dn1 : decide ((1048576 : Int) < (t1.size : Int)) = false := by simp; omega
    obtain ⟨r0, hr0⟩ : ∃ r : Int, r = if ((s0.size + (n0 + tot vs0 n0) : Nat) : Int) ≤ (1048576 : Int) then (1048576 : Int) - ((s0.size + (n0 + tot vs0 n0) : Nat) : Int) else -1 := ⟨_, rfl⟩
    have Hr0 := Lib.hid hr0
    by_cases hT0 : ((s0.size + (n0 + tot vs0 n0) : Nat) : Int) ≤ (1048576 : Int)
    · skip
      rw [if_pos hT0] at hr0
      have hr00 : 0 ≤ r0 ∧ r0 ≤ 1048576 := by omega
      have dr0 : decide (r0 < 0) = false := by simp; omega
      have hn0 : n0 ≤ 1048576 := by omega
      have hss0 : s0.size ≤ 1048576 := by omega
      have KT0 : Hid (tot vs0 n0 ≤ 1048576) := Lib.hid (by omega)
      have hl0 : Hid (∀ i, i < n0 → (vs0.getD i sd0).2.1 ≤ 1048576) := Lib.hid fun i hi => by have := tot_row (vs := vs0) hi; have := KT0.out; omega
      have hyl0 : Hid (∀ i, i < n0 → (gs0.getD i []).length ≤ 1048576) := Lib.hid fun i hi => by rw [hll0.out i hi]; exact hl0.out i hi
      clear hr0 hT0
      go_enter Try.func9, Try.ntmps9
      have q0_0 := bx0_0.out.cell 0
      have q0_1 := bx0_0.out.cell 1
      have q0_2 := bx0_0.out.cell 2
      go_wp2_with fail
      refine (szPz z0 s0 A0 n0 c0 1048576 vs0 gs0 _ (HX0.out.up B0_0.out) hs0 hm0 hk0 (by decide) (by decide) r0 Hr0).mono ?_
      rintro e w1 ⟨rfl, b1⟩
      clear q0_0 q0_1 q0_2
      have B1 : Hid (Below w.heap.size w w1) := Lib.hid (btr B0_0.out b1)
      have bx0_1 := Lib.hid (bx0_0.out.below b1 bx0_0.out.lt)
      clear bx0_0
      clear b1
      have q0_0 := bx0_1.out.cell 0
      have q0_1 := bx0_1.out.cell 1
      have q0_2 := bx0_1.out.cell 2
      go_wp2_with fail
      refine (toPz z0 s0 A0 n0 c0 vs0 gs0 _ (HX0.out.up B1.out) hn0 hl0).mono ?_
      rintro e w2 ⟨C2, cc2, us2, rfl, s2, l2, b2⟩
      clear q0_0 q0_1 q0_2
      have B2 : Hid (Below w.heap.size w w2) := Lib.hid (btr B1.out b2)
      have bx0_2 := Lib.hid (bx0_1.out.below b2 bx0_1.out.lt)
      clear bx0_1
      have t0_2 := Lib.hid s2
      have Pt0_2 : Hid (PIn w2 z0 s0 C2 n0 us2 gs0) := Lib.hid ⟨⟨s2.rr, hn0, fun i hi => by rw [l2 i hi]; exact hl0.out i hi⟩, wz0, hss0⟩
      have Qt0 := Lib.hid l2
      clear b2 s2 l2
      have q0_0 := bx0_2.out.cell 0
      have q0_1 := bx0_2.out.cell 1
      have q0_2 := bx0_2.out.cell 2
      go_wp2_with fail
      refine (specMoveIndex z0 s0 C2 n0 cc2 us2 gs0 t1 _ Pt0_2.out).mono ?_
      rintro e w3 ⟨rfl, b3⟩
      clear q0_0 q0_1 q0_2
      have B3 : Hid (Below w.heap.size w w3) := Lib.hid (btr B2.out b3)
      have bx0_3 := Lib.hid (bx0_2.out.below b3 bx0_2.out.lt)
      clear bx0_2
      have t0_3 := Lib.hid (t0_2.out.up b3)
      clear t0_2
      have Pt0_3 := Lib.hid (Pt0_2.out.up b3)
      clear Pt0_2
      clear b3
      clear t0_3
      clear Pt0_3
      have q0_0 := bx0_3.out.cell 0
      have q0_1 := bx0_3.out.cell 1
      have q0_2 := bx0_3.out.cell 2
      go_wp2_with fail
      refine (toPz z0 s0 A0 n0 c0 vs0 gs0 _ (HX0.out.up B3.out) hn0 hl0).mono ?_
      rintro e w4 ⟨C4, cc4, us4, rfl, s4, l4, b4⟩
      clear q0_0 q0_1 q0_2
      have B4 : Hid (Below w.heap.size w w4) := Lib.hid (btr B3.out b4)
      have bx0_4 := Lib.hid (bx0_3.out.below b4 bx0_3.out.lt)
      clear bx0_3
      have x0_4 := Lib.hid s4
      have Px0_4 : Hid (PIn w4 z0 s0 C4 n0 us4 gs0) := Lib.hid ⟨⟨s4.rr, hn0, fun i hi => by rw [l4 i hi]; exact hl0.out i hi⟩, wz0, hss0⟩
      have Qx0 := Lib.hid l4
      clear b4 s4 l4
      have bb4 : Hid (Below w4.heap.size w4 (w4.alloc (.cells #[.int .i64 z0, .string s0, .slice C4 n0 cc4] 26))) := Lib.hid ((Below.refl _ _).alloc (Nat.le_refl _) _)
      have BB4 : Hid (Below w.heap.size w (w4.alloc (.cells #[.int .i64 z0, .string s0, .slice C4 n0 cc4] 26))) := Lib.hid (btr B4.out bb4.out)
      have bx0_b4 := Lib.hid (bx0_4.out.below bb4.out bx0_4.out.lt)
      clear bx0_4
      have x0_b4 := Lib.hid (x0_4.out.up bb4.out)
      clear x0_4
      have Px0_b4 := Lib.hid (Px0_4.out.up bb4.out)
      clear Px0_4
      have xb0_4 : Hid (Blk (w4.alloc (.cells #[.int .i64 z0, .string s0, .slice C4 n0 cc4] 26)) w4.heap.size 26 #[.int .i64 z0, .string s0, .slice C4 n0 cc4]) := Lib.hid (Blk.new w4 _ _)
      have q0_0 := bx0_b4.out.cell 0
      have q0_1 := bx0_b4.out.cell 1
      have q0_2 := bx0_b4.out.cell 2
      have q3_0 := xb0_4.out.cell 0
      have q3_1 := xb0_4.out.cell 1
      have q3_2 := xb0_4.out.cell 2
      go_wp2_with fail
      refine (IM z0 s0 C4 n0 cc4 us4 gs0 t1 _ Px0_b4.out).mono ?_
      rintro e w5 ⟨rfl, b5⟩
      clear q0_0 q0_1 q0_2 q3_0 q3_1 q3_2
      have B5 : Hid (Below w.heap.size w w5) := Lib.hid (btr BB4.out b5)
      have bx0_5 := Lib.hid (bx0_b4.out.below b5 bx0_b4.out.lt)
      clear bx0_b4
      have x0_5 := Lib.hid (x0_b4.out.up b5)
      clear x0_b4
      have Px0_5 := Lib.hid (Px0_b4.out.up b5)
      clear Px0_b4
      have xb0_5 := Lib.hid (xb0_4.out.below b5 xb0_4.out.lt)
      clear xb0_4
      clear b5
      have ne0 : (mvF z0 s0 gs0 t1 != mvF z0 s0 gs0 t1) = false := by simp
      have q0_0 := bx0_5.out.cell 0
      have q0_1 := bx0_5.out.cell 1
      have q0_2 := bx0_5.out.cell 2
      have q3_0 := xb0_5.out.cell 0
      have q3_1 := xb0_5.out.cell 1
      have q3_2 := xb0_5.out.cell 2
      go_wp2_with fail
      go_region_law ((go_simp; go_wp2_with (first
        | (go_at_call 26; refine (toPz z0 s0 A0 n0 c0 vs0 gs0 w5.drew ((HX0.out.up B5.out).keep fun _ _ => rfl) hn0 hl0).mono ?_; rintro e w6 ⟨C6, cc6, us6, rfl, s6, l6, b6d⟩
           have b6 : Below w5.heap.size w5 w6 := ⟨b6d.os, b6d.tape, b6d.output, b6d.size, b6d.block⟩
           have B6 := Lib.hid (btr B5.out b6)
           have bx0_6 := Lib.hid (bx0_5.out.below b6 bx0_5.out.lt)
           have y0_0 := bx0_6.out.cell 0
           have y0_1 := bx0_6.out.cell 1
           have y0_2 := bx0_6.out.cell 2
           have x0_6 := Lib.hid (x0_5.out.up b6)
           have Px0_6 := Lib.hid (Px0_5.out.up b6)
           have xb0_6 := Lib.hid (xb0_5.out.below b6 xb0_5.out.lt)
           have y3_0 := xb0_6.out.cell 0
           have y3_1 := xb0_6.out.cell 1
           have y3_2 := xb0_6.out.cell 2
           have T6 := Lib.hid s6
           clear b6d b6 s6 l6)
        | (go_at_call 28; (first | refine (eqPz z0 s0 C4 C6 n0 cc4 n0 cc6 us4 us6 gs0 w6 x0_6.out.rr T6.out.rr hn0 hyl0).mono ?_ | refine (eqPz z0 s0 C4 C6 n0 cc4 n0 cc6 us4 us6 gs0 w6.drew (x0_6.out.rr.keep fun _ _ => rfl) (T6.out.rr.keep fun _ _ => rfl) hn0 hyl0).mono ?_); rintro e w7 ⟨rfl, b7d⟩))))
      all_goals
        have b7 : Below w6.heap.size w6 w7 := ⟨b7d.os, b7d.tape, b7d.output, b7d.size, b7d.block⟩
        have B7 := Lib.hid (btr B6.out b7)
        have bx0_7 := Lib.hid (bx0_6.out.below b7 bx0_6.out.lt)
        have x0_7 := Lib.hid (x0_6.out.up b7)
        have Px0_7 := Lib.hid (Px0_6.out.up b7)
        have xb0_7 := Lib.hid (xb0_6.out.below b7 xb0_6.out.lt)
        clear b7d b7
        have q0_0 := bx0_7.out.cell 0
        have q0_1 := bx0_7.out.cell 1
        have q0_2 := bx0_7.out.cell 2
        have q3_0 := xb0_7.out.cell 0
        have q3_1 := xb0_7.out.cell 1
        have q3_2 := xb0_7.out.cell 2
        go_wp2_with fail
        go_ret
        exact ⟨rfl, B7.out⟩
    · skip
      obtain rfl : r0 = -1 := by rw [hr0, if_neg hT0]
      clear hr0 hT0
      go_enter Try.func9, Try.ntmps9
      have q0_0 := bx0_0.out.cell 0
      have q0_1 := bx0_0.out.cell 1
      have q0_2 := bx0_0.out.cell 2
      go_wp2_with fail
      refine (szPz z0 s0 A0 n0 c0 1048576 vs0 gs0 _ (HX0.out.up B0_0.out) hs0 hm0 hk0 (by decide) (by decide) (-1) Hr0).mono ?_
      rintro e w1 ⟨rfl, b1⟩
      clear q0_0 q0_1 q0_2
      have B1 : Hid (Below w.heap.size w w1) := Lib.hid (btr B0_0.out b1)
      have bx0_1 := Lib.hid (bx0_0.out.below b1 bx0_0.out.lt)
      clear bx0_0
      clear b1
      have q0_0 := bx0_1.out.cell 0
      have q0_1 := bx0_1.out.cell 1
      have q0_2 := bx0_1.out.cell 2
      go_wp2_with fail
      go_ret
      exact ⟨rfl, B1.out⟩
  · skip
    have dn1 : decide ((1048576 : Int) < (t1.size : Int)) = true := by simp; omega
    go_enter Try.func9, Try.ntmps9
    have q0_0 := bx0_0.out.cell 0
    have q0_1 := bx0_0.out.cell 1
    have q0_2 := bx0_0.out.cell 2
    go_wp2_with fail
    go_ret
    exact ⟨rfl, B0_0.out⟩
end Go.Proofs.Ytkjokchhffjidaa

/- The walk of the law FnExactStateCount: it returns true at every input, and writes nothing that was there. No condition but the program's own contract. -/
namespace Go.Proofs.Ytkjokchhffjidaa
open Go.RowKit

set_option maxHeartbeats 8000000 in
set_option maxRecDepth 100000 in
/-- The law FnExactStateCount. -/
theorem lawStateCount (IM : ∀ (z : Int) (s : ByteArray) (A : Option Addr) (n c : Nat) (vs : List SV) (gs : List (List Int)) (w : World), PIn w z s A n vs gs → Calls Try.prog 40 #[.agg #[.int .i64 z, .string s, .slice A n c]] w fun e w' => ∃ v, e = .returned (.int .i64 v) ∧ IsStc z s gs v ∧ Below w.heap.size w w') (z0 : Int) (s0 : ByteArray) (A0 : Option Addr) (n0 c0 : Nat) (vs0 : List SV) (gs0 : List (List Int)) (w : World) (wz0 : -9223372036854775808 ≤ z0 ∧ z0 ≤ 9223372036854775807) (hs0 : s0.size ≤ maxLen) (hx0 : RR w w.heap.size A0 n0 vs0 gs0) (hm0 : n0 ≤ maxLen) (hk0 : Hid (∀ i, i < n0 → (vs0.getD i sd0).2.1 ≤ maxLen)) :
    Calls Try.prog 10 #[.agg #[.int .i64 z0, .string s0, .slice A0 n0 c0]] w fun e w' => e = .returned (.bool true) ∧ Below w.heap.size w w' := by
  have HX0 := Lib.hid hx0
  have hll0 := Lib.hid hx0.lens
  clear hx0
  have ba0 : Hid (Below w.heap.size w (w.alloc (.cells #[.int .i64 z0, .string s0, .slice A0 n0 c0] 37))) := Lib.hid ((Below.refl _ _).alloc (Nat.le_refl _) _)
  have B0_0 : Hid (Below w.heap.size w (w.alloc (.cells #[.int .i64 z0, .string s0, .slice A0 n0 c0] 37))) := Lib.hid ba0.out
  have bx0_0 : Hid (Blk (w.alloc (.cells #[.int .i64 z0, .string s0, .slice A0 n0 c0] 37)) (w.heap.size) 37 #[.int .i64 z0, .string s0, .slice A0 n0 c0]) := Lib.hid (Blk.new w _ _)
  obtain ⟨r0, hr0⟩ : ∃ r : Int, r = if ((s0.size + (n0 + tot vs0 n0) : Nat) : Int) ≤ (1048576 : Int) then (1048576 : Int) - ((s0.size + (n0 + tot vs0 n0) : Nat) : Int) else -1 := ⟨_, rfl⟩
  have Hr0 := Lib.hid hr0
  by_cases hT0 : ((s0.size + (n0 + tot vs0 n0) : Nat) : Int) ≤ (1048576 : Int)
  · skip
    rw [if_pos hT0] at hr0
    have hr00 : 0 ≤ r0 ∧ r0 ≤ 1048576 := by omega
    have dr0 : decide (r0 < 0) = false := by simp; omega
    have hn0 : n0 ≤ 1048576 := by omega
    have hss0 : s0.size ≤ 1048576 := by omega
    have KT0 : Hid (tot vs0 n0 ≤ 1048576) := Lib.hid (by omega)
    have hl0 : Hid (∀ i, i < n0 → (vs0.getD i sd0).2.1 ≤ 1048576) := Lib.hid fun i hi => by have := tot_row (vs := vs0) hi; have := KT0.out; omega
    have hyl0 : Hid (∀ i, i < n0 → (gs0.getD i []).length ≤ 1048576) := Lib.hid fun i hi => by rw [hll0.out i hi]; exact hl0.out i hi
    clear hr0 hT0
    go_enter Try.func10, Try.ntmps10
    have q0_0 := bx0_0.out.cell 0
    have q0_1 := bx0_0.out.cell 1
    have q0_2 := bx0_0.out.cell 2
    go_wp2_with fail
    refine (szPz z0 s0 A0 n0 c0 1048576 vs0 gs0 _ (HX0.out.up B0_0.out) hs0 hm0 hk0 (by decide) (by decide) r0 Hr0).mono ?_
    rintro e w1 ⟨rfl, b1⟩
    clear q0_0 q0_1 q0_2
    have B1 : Hid (Below w.heap.size w w1) := Lib.hid (btr B0_0.out b1)
    have bx0_1 := Lib.hid (bx0_0.out.below b1 bx0_0.out.lt)
    clear bx0_0
    clear b1
    have q0_0 := bx0_1.out.cell 0
    have q0_1 := bx0_1.out.cell 1
    have q0_2 := bx0_1.out.cell 2
    go_wp2_with fail
    refine (toPz z0 s0 A0 n0 c0 vs0 gs0 _ (HX0.out.up B1.out) hn0 hl0).mono ?_
    rintro e w2 ⟨C2, cc2, us2, rfl, s2, l2, b2⟩
    clear q0_0 q0_1 q0_2
    have B2 : Hid (Below w.heap.size w w2) := Lib.hid (btr B1.out b2)
    have bx0_2 := Lib.hid (bx0_1.out.below b2 bx0_1.out.lt)
    clear bx0_1
    have t0_2 := Lib.hid s2
    have Pt0_2 : Hid (PIn w2 z0 s0 C2 n0 us2 gs0) := Lib.hid ⟨⟨s2.rr, hn0, fun i hi => by rw [l2 i hi]; exact hl0.out i hi⟩, wz0, hss0⟩
    have Qt0 := Lib.hid l2
    clear b2 s2 l2
    have q0_0 := bx0_2.out.cell 0
    have q0_1 := bx0_2.out.cell 1
    have q0_2 := bx0_2.out.cell 2
    go_wp2_with fail
    refine (specStateCount z0 s0 C2 n0 cc2 us2 gs0 _ Pt0_2.out).mono ?_
    rintro e w3 ⟨v3, rfl, r3, b3⟩
    clear q0_0 q0_1 q0_2
    have B3 : Hid (Below w.heap.size w w3) := Lib.hid (btr B2.out b3)
    have bx0_3 := Lib.hid (bx0_2.out.below b3 bx0_2.out.lt)
    clear bx0_2
    have t0_3 := Lib.hid (t0_2.out.up b3)
    clear t0_2
    have Pt0_3 := Lib.hid (Pt0_2.out.up b3)
    clear Pt0_2
    have R0 := Lib.hid r3
    clear b3 r3
    clear t0_3
    clear Pt0_3
    have q0_0 := bx0_3.out.cell 0
    have q0_1 := bx0_3.out.cell 1
    have q0_2 := bx0_3.out.cell 2
    go_wp2_with fail
    refine (toPz z0 s0 A0 n0 c0 vs0 gs0 _ (HX0.out.up B3.out) hn0 hl0).mono ?_
    rintro e w4 ⟨C4, cc4, us4, rfl, s4, l4, b4⟩
    clear q0_0 q0_1 q0_2
    have B4 : Hid (Below w.heap.size w w4) := Lib.hid (btr B3.out b4)
    have bx0_4 := Lib.hid (bx0_3.out.below b4 bx0_3.out.lt)
    clear bx0_3
    have x0_4 := Lib.hid s4
    have Px0_4 : Hid (PIn w4 z0 s0 C4 n0 us4 gs0) := Lib.hid ⟨⟨s4.rr, hn0, fun i hi => by rw [l4 i hi]; exact hl0.out i hi⟩, wz0, hss0⟩
    have Qx0 := Lib.hid l4
    clear b4 s4 l4
    have bb4 : Hid (Below w4.heap.size w4 (w4.alloc (.cells #[.int .i64 z0, .string s0, .slice C4 n0 cc4] 26))) := Lib.hid ((Below.refl _ _).alloc (Nat.le_refl _) _)
    have BB4 : Hid (Below w.heap.size w (w4.alloc (.cells #[.int .i64 z0, .string s0, .slice C4 n0 cc4] 26))) := Lib.hid (btr B4.out bb4.out)
    have bx0_b4 := Lib.hid (bx0_4.out.below bb4.out bx0_4.out.lt)
    clear bx0_4
    have x0_b4 := Lib.hid (x0_4.out.up bb4.out)
    clear x0_4
    have Px0_b4 := Lib.hid (Px0_4.out.up bb4.out)
    clear Px0_4
    have xb0_4 : Hid (Blk (w4.alloc (.cells #[.int .i64 z0, .string s0, .slice C4 n0 cc4] 26)) w4.heap.size 26 #[.int .i64 z0, .string s0, .slice C4 n0 cc4]) := Lib.hid (Blk.new w4 _ _)
    have q0_0 := bx0_b4.out.cell 0
    have q0_1 := bx0_b4.out.cell 1
    have q0_2 := bx0_b4.out.cell 2
    have q3_0 := xb0_4.out.cell 0
    have q3_1 := xb0_4.out.cell 1
    have q3_2 := xb0_4.out.cell 2
    go_wp2_with fail
    refine (IM z0 s0 C4 n0 cc4 us4 gs0 _ Px0_b4.out).mono ?_
    rintro e w5 ⟨v5, rfl, r5, b5⟩
    clear q0_0 q0_1 q0_2 q3_0 q3_1 q3_2
    have B5 : Hid (Below w.heap.size w w5) := Lib.hid (btr BB4.out b5)
    have bx0_5 := Lib.hid (bx0_b4.out.below b5 bx0_b4.out.lt)
    clear bx0_b4
    have x0_5 := Lib.hid (x0_b4.out.up b5)
    clear x0_b4
    have Px0_5 := Lib.hid (Px0_b4.out.up b5)
    clear Px0_b4
    have xb0_5 := Lib.hid (xb0_4.out.below b5 xb0_4.out.lt)
    clear xb0_4
    have ev5 := R0.out.uniq r5
    subst ev5
    clear b5 r5
    have ne0 : (v3 != v3) = false := by simp
    have q0_0 := bx0_5.out.cell 0
    have q0_1 := bx0_5.out.cell 1
    have q0_2 := bx0_5.out.cell 2
    have q3_0 := xb0_5.out.cell 0
    have q3_1 := xb0_5.out.cell 1
    have q3_2 := xb0_5.out.cell 2
    go_wp2_with fail
    go_region_law ((go_simp; go_wp2_with (first
      | (go_at_call 26; refine (toPz z0 s0 A0 n0 c0 vs0 gs0 w5.drew ((HX0.out.up B5.out).keep fun _ _ => rfl) hn0 hl0).mono ?_; rintro e w6 ⟨C6, cc6, us6, rfl, s6, l6, b6d⟩
         have b6 : Below w5.heap.size w5 w6 := ⟨b6d.os, b6d.tape, b6d.output, b6d.size, b6d.block⟩
         have B6 := Lib.hid (btr B5.out b6)
         have bx0_6 := Lib.hid (bx0_5.out.below b6 bx0_5.out.lt)
         have y0_0 := bx0_6.out.cell 0
         have y0_1 := bx0_6.out.cell 1
         have y0_2 := bx0_6.out.cell 2
         have x0_6 := Lib.hid (x0_5.out.up b6)
         have Px0_6 := Lib.hid (Px0_5.out.up b6)
         have xb0_6 := Lib.hid (xb0_5.out.below b6 xb0_5.out.lt)
         have y3_0 := xb0_6.out.cell 0
         have y3_1 := xb0_6.out.cell 1
         have y3_2 := xb0_6.out.cell 2
         have T6 := Lib.hid s6
         clear b6d b6 s6 l6)
      | (go_at_call 28; (first | refine (eqPz z0 s0 C4 C6 n0 cc4 n0 cc6 us4 us6 gs0 w6 x0_6.out.rr T6.out.rr hn0 hyl0).mono ?_ | refine (eqPz z0 s0 C4 C6 n0 cc4 n0 cc6 us4 us6 gs0 w6.drew (x0_6.out.rr.keep fun _ _ => rfl) (T6.out.rr.keep fun _ _ => rfl) hn0 hyl0).mono ?_); rintro e w7 ⟨rfl, b7d⟩))))
    all_goals
      have b7 : Below w6.heap.size w6 w7 := ⟨b7d.os, b7d.tape, b7d.output, b7d.size, b7d.block⟩
      have B7 := Lib.hid (btr B6.out b7)
      have bx0_7 := Lib.hid (bx0_6.out.below b7 bx0_6.out.lt)
      have x0_7 := Lib.hid (x0_6.out.up b7)
      have Px0_7 := Lib.hid (Px0_6.out.up b7)
      have xb0_7 := Lib.hid (xb0_6.out.below b7 xb0_6.out.lt)
      clear b7d b7
      have q0_0 := bx0_7.out.cell 0
      have q0_1 := bx0_7.out.cell 1
      have q0_2 := bx0_7.out.cell 2
      have q3_0 := xb0_7.out.cell 0
      have q3_1 := xb0_7.out.cell 1
      have q3_2 := xb0_7.out.cell 2
      go_wp2_with fail
      go_ret
      exact ⟨rfl, B7.out⟩
  · skip
    obtain rfl : r0 = -1 := by rw [hr0, if_neg hT0]
    clear hr0 hT0
    go_enter Try.func10, Try.ntmps10
    have q0_0 := bx0_0.out.cell 0
    have q0_1 := bx0_0.out.cell 1
    have q0_2 := bx0_0.out.cell 2
    go_wp2_with fail
    refine (szPz z0 s0 A0 n0 c0 1048576 vs0 gs0 _ (HX0.out.up B0_0.out) hs0 hm0 hk0 (by decide) (by decide) (-1) Hr0).mono ?_
    rintro e w1 ⟨rfl, b1⟩
    clear q0_0 q0_1 q0_2
    have B1 : Hid (Below w.heap.size w w1) := Lib.hid (btr B0_0.out b1)
    have bx0_1 := Lib.hid (bx0_0.out.below b1 bx0_0.out.lt)
    clear bx0_0
    clear b1
    have q0_0 := bx0_1.out.cell 0
    have q0_1 := bx0_1.out.cell 1
    have q0_2 := bx0_1.out.cell 2
    go_wp2_with fail
    go_ret
    exact ⟨rfl, B1.out⟩
end Go.Proofs.Ytkjokchhffjidaa

/- The walk of the law FnExactIsReachable: it returns true at every input, and writes nothing that was there. No condition but the program's own contract. -/
namespace Go.Proofs.Ytkjokchhffjidaa
open Go.RowKit

set_option maxHeartbeats 8000000 in
set_option maxRecDepth 100000 in
/-- The law FnExactIsReachable. -/
theorem lawIsReachable (IM : ∀ (z : Int) (s : ByteArray) (A : Option Addr) (n c : Nat) (vs : List SV) (gs : List (List Int)) (P : Option Addr) (np cp : Nat) (x : List Int) (w : World), PIn w z s A n vs gs → SIn w P np cp x → Calls Try.prog 20 #[.agg #[.int .i64 z, .string s, .slice A n c], .slice P np cp] w fun e w' => ∃ v, e = .returned (.bool v) ∧ IsRch z s gs x v ∧ Below w.heap.size w w') (z0 : Int) (s0 : ByteArray) (A0 : Option Addr) (n0 c0 : Nat) (vs0 : List SV) (gs0 : List (List Int)) (A1 : Option Addr) (n1 c1 : Nat) (x1 : List Int) (w : World) (wz0 : -9223372036854775808 ≤ z0 ∧ z0 ≤ 9223372036854775807) (hs0 : s0.size ≤ maxLen) (hx0 : RR w w.heap.size A0 n0 vs0 gs0) (hm0 : n0 ≤ maxLen) (hk0 : Hid (∀ i, i < n0 → (vs0.getD i sd0).2.1 ≤ maxLen)) (hx1 : RI w w.heap.size A1 x1) (lx1 : Hid (x1.length = n1)) :
    Calls Try.prog 11 #[.agg #[.int .i64 z0, .string s0, .slice A0 n0 c0], .slice A1 n1 c1] w fun e w' => e = .returned (.bool true) ∧ Below w.heap.size w w' := by
  have HX0 := Lib.hid hx0
  have hll0 := Lib.hid hx0.lens
  clear hx0
  have HX1 := Lib.hid hx1
  clear hx1
  have ba0 : Hid (Below w.heap.size w (w.alloc (.cells #[.int .i64 z0, .string s0, .slice A0 n0 c0] 37))) := Lib.hid ((Below.refl _ _).alloc (Nat.le_refl _) _)
  have B0_0 : Hid (Below w.heap.size w (w.alloc (.cells #[.int .i64 z0, .string s0, .slice A0 n0 c0] 37))) := Lib.hid ba0.out
  have bx0_0 : Hid (Blk (w.alloc (.cells #[.int .i64 z0, .string s0, .slice A0 n0 c0] 37)) (w.heap.size) 37 #[.int .i64 z0, .string s0, .slice A0 n0 c0]) := Lib.hid (Blk.new w _ _)
  by_cases hn1 : n1 ≤ 1048576
  · skip
    have dn1 : decide ((1048576 : Int) < (n1 : Int)) = false := by simp; omega
    obtain ⟨r0, hr0⟩ : ∃ r : Int, r = if ((s0.size + (n0 + tot vs0 n0) : Nat) : Int) ≤ (1048576 : Int) then (1048576 : Int) - ((s0.size + (n0 + tot vs0 n0) : Nat) : Int) else -1 := ⟨_, rfl⟩
    have Hr0 := Lib.hid hr0
    by_cases hT0 : ((s0.size + (n0 + tot vs0 n0) : Nat) : Int) ≤ (1048576 : Int)
    · skip
      rw [if_pos hT0] at hr0
      have hr00 : 0 ≤ r0 ∧ r0 ≤ 1048576 := by omega
      have dr0 : decide (r0 < 0) = false := by simp; omega
      have hn0 : n0 ≤ 1048576 := by omega
      have hss0 : s0.size ≤ 1048576 := by omega
      have KT0 : Hid (tot vs0 n0 ≤ 1048576) := Lib.hid (by omega)
      have hl0 : Hid (∀ i, i < n0 → (vs0.getD i sd0).2.1 ≤ 1048576) := Lib.hid fun i hi => by have := tot_row (vs := vs0) hi; have := KT0.out; omega
      have hyl0 : Hid (∀ i, i < n0 → (gs0.getD i []).length ≤ 1048576) := Lib.hid fun i hi => by rw [hll0.out i hi]; exact hl0.out i hi
      clear hr0 hT0
      go_enter Try.func11, Try.ntmps11
      have q0_0 := bx0_0.out.cell 0
      have q0_1 := bx0_0.out.cell 1
      have q0_2 := bx0_0.out.cell 2
      go_wp2_with fail
      refine (szPz z0 s0 A0 n0 c0 1048576 vs0 gs0 _ (HX0.out.up B0_0.out) hs0 hm0 hk0 (by decide) (by decide) r0 Hr0).mono ?_
      rintro e w1 ⟨rfl, b1⟩
      clear q0_0 q0_1 q0_2
      have B1 : Hid (Below w.heap.size w w1) := Lib.hid (btr B0_0.out b1)
      have bx0_1 := Lib.hid (bx0_0.out.below b1 bx0_0.out.lt)
      clear bx0_0
      clear b1
      have q0_0 := bx0_1.out.cell 0
      have q0_1 := bx0_1.out.cell 1
      have q0_2 := bx0_1.out.cell 2
      go_wp2_with fail
      refine (toPz z0 s0 A0 n0 c0 vs0 gs0 _ (HX0.out.up B1.out) hn0 hl0).mono ?_
      rintro e w2 ⟨C2, cc2, us2, rfl, s2, l2, b2⟩
      clear q0_0 q0_1 q0_2
      have B2 : Hid (Below w.heap.size w w2) := Lib.hid (btr B1.out b2)
      have bx0_2 := Lib.hid (bx0_1.out.below b2 bx0_1.out.lt)
      clear bx0_1
      have t0_2 := Lib.hid s2
      have Pt0_2 : Hid (PIn w2 z0 s0 C2 n0 us2 gs0) := Lib.hid ⟨⟨s2.rr, hn0, fun i hi => by rw [l2 i hi]; exact hl0.out i hi⟩, wz0, hss0⟩
      have Qt0 := Lib.hid l2
      clear b2 s2 l2
      have q0_0 := bx0_2.out.cell 0
      have q0_1 := bx0_2.out.cell 1
      have q0_2 := bx0_2.out.cell 2
      go_wp2_with fail
      refine (toS_any A1 c1 n1 x1 _ (HX1.out.up B2.out) lx1 (by omega)).mono ?_
      rintro e w3 ⟨C3, cc3, rfl, s3, b3⟩
      clear q0_0 q0_1 q0_2
      have B3 : Hid (Below w.heap.size w w3) := Lib.hid (btr B2.out b3)
      have bx0_3 := Lib.hid (bx0_2.out.below b3 bx0_2.out.lt)
      clear bx0_2
      have t0_3 := Lib.hid (t0_2.out.up b3)
      clear t0_2
      have Pt0_3 := Lib.hid (Pt0_2.out.up b3)
      clear Pt0_2
      have t1_3 := Lib.hid s3
      have let1 := s3.le.1
      have Lnt1 := Lib.hid s3.lies
      clear b3 s3
      have q0_0 := bx0_3.out.cell 0
      have q0_1 := bx0_3.out.cell 1
      have q0_2 := bx0_3.out.cell 2
      go_wp2_with fail
      refine (specIsReachable z0 s0 C2 n0 cc2 us2 gs0 C3 n1 cc3 x1 _ Pt0_3.out ⟨t1_3.out.ri_, lx1.out, hn1, let1⟩).mono ?_
      rintro e w4 ⟨v4, rfl, r4, b4⟩
      clear q0_0 q0_1 q0_2
      have B4 : Hid (Below w.heap.size w w4) := Lib.hid (btr B3.out b4)
      have bx0_4 := Lib.hid (bx0_3.out.below b4 bx0_3.out.lt)
      clear bx0_3
      have t0_4 := Lib.hid (t0_3.out.up b4)
      clear t0_3
      have Pt0_4 := Lib.hid (Pt0_3.out.up b4)
      clear Pt0_3
      have t1_4 := Lib.hid (t1_3.out.up b4)
      clear t1_3
      have R0 := Lib.hid r4
      clear b4 r4
      clear t0_4
      clear Pt0_4
      clear t1_4
      have q0_0 := bx0_4.out.cell 0
      have q0_1 := bx0_4.out.cell 1
      have q0_2 := bx0_4.out.cell 2
      go_wp2_with fail
      refine (toPz z0 s0 A0 n0 c0 vs0 gs0 _ (HX0.out.up B4.out) hn0 hl0).mono ?_
      rintro e w5 ⟨C5, cc5, us5, rfl, s5, l5, b5⟩
      clear q0_0 q0_1 q0_2
      have B5 : Hid (Below w.heap.size w w5) := Lib.hid (btr B4.out b5)
      have bx0_5 := Lib.hid (bx0_4.out.below b5 bx0_4.out.lt)
      clear bx0_4
      have x0_5 := Lib.hid s5
      have Px0_5 : Hid (PIn w5 z0 s0 C5 n0 us5 gs0) := Lib.hid ⟨⟨s5.rr, hn0, fun i hi => by rw [l5 i hi]; exact hl0.out i hi⟩, wz0, hss0⟩
      have Qx0 := Lib.hid l5
      clear b5 s5 l5
      have bb5 : Hid (Below w5.heap.size w5 (w5.alloc (.cells #[.int .i64 z0, .string s0, .slice C5 n0 cc5] 26))) := Lib.hid ((Below.refl _ _).alloc (Nat.le_refl _) _)
      have BB5 : Hid (Below w.heap.size w (w5.alloc (.cells #[.int .i64 z0, .string s0, .slice C5 n0 cc5] 26))) := Lib.hid (btr B5.out bb5.out)
      have bx0_b5 := Lib.hid (bx0_5.out.below bb5.out bx0_5.out.lt)
      clear bx0_5
      have x0_b5 := Lib.hid (x0_5.out.up bb5.out)
      clear x0_5
      have Px0_b5 := Lib.hid (Px0_5.out.up bb5.out)
      clear Px0_5
      have xb0_5 : Hid (Blk (w5.alloc (.cells #[.int .i64 z0, .string s0, .slice C5 n0 cc5] 26)) w5.heap.size 26 #[.int .i64 z0, .string s0, .slice C5 n0 cc5]) := Lib.hid (Blk.new w5 _ _)
      have q0_0 := bx0_b5.out.cell 0
      have q0_1 := bx0_b5.out.cell 1
      have q0_2 := bx0_b5.out.cell 2
      have q3_0 := xb0_5.out.cell 0
      have q3_1 := xb0_5.out.cell 1
      have q3_2 := xb0_5.out.cell 2
      go_wp2_with fail
      refine (toS_any A1 c1 n1 x1 _ (HX1.out.up BB5.out) lx1 (by omega)).mono ?_
      rintro e w6 ⟨C6, cc6, rfl, s6, b6⟩
      clear q0_0 q0_1 q0_2 q3_0 q3_1 q3_2
      have B6 : Hid (Below w.heap.size w w6) := Lib.hid (btr BB5.out b6)
      have bx0_6 := Lib.hid (bx0_b5.out.below b6 bx0_b5.out.lt)
      clear bx0_b5
      have x0_6 := Lib.hid (x0_b5.out.up b6)
      clear x0_b5
      have Px0_6 := Lib.hid (Px0_b5.out.up b6)
      clear Px0_b5
      have xb0_6 := Lib.hid (xb0_5.out.below b6 xb0_5.out.lt)
      clear xb0_5
      have x1_6 := Lib.hid s6
      have lex1 := s6.le.1
      have Lnx1 := Lib.hid s6.lies
      clear b6 s6
      have q0_0 := bx0_6.out.cell 0
      have q0_1 := bx0_6.out.cell 1
      have q0_2 := bx0_6.out.cell 2
      have q3_0 := xb0_6.out.cell 0
      have q3_1 := xb0_6.out.cell 1
      have q3_2 := xb0_6.out.cell 2
      go_wp2_with fail
      refine (IM z0 s0 C5 n0 cc5 us5 gs0 C6 n1 cc6 x1 _ Px0_6.out ⟨x1_6.out.ri_, lx1.out, hn1, lex1⟩).mono ?_
      rintro e w7 ⟨v7, rfl, r7, b7⟩
      clear q0_0 q0_1 q0_2 q3_0 q3_1 q3_2
      have B7 : Hid (Below w.heap.size w w7) := Lib.hid (btr B6.out b7)
      have bx0_7 := Lib.hid (bx0_6.out.below b7 bx0_6.out.lt)
      clear bx0_6
      have x0_7 := Lib.hid (x0_6.out.up b7)
      clear x0_6
      have Px0_7 := Lib.hid (Px0_6.out.up b7)
      clear Px0_6
      have xb0_7 := Lib.hid (xb0_6.out.below b7 xb0_6.out.lt)
      clear xb0_6
      have x1_7 := Lib.hid (x1_6.out.up b7)
      clear x1_6
      have ev7 := R0.out.uniq r7
      subst ev7
      clear b7 r7
      have ne0 : (v4 != v4) = false := by simp
      have q0_0 := bx0_7.out.cell 0
      have q0_1 := bx0_7.out.cell 1
      have q0_2 := bx0_7.out.cell 2
      have q3_0 := xb0_7.out.cell 0
      have q3_1 := xb0_7.out.cell 1
      have q3_2 := xb0_7.out.cell 2
      go_wp2_with fail
      go_region_law ((go_simp; go_wp2_with (first
        | (go_at_call 26; refine (toPz z0 s0 A0 n0 c0 vs0 gs0 w7.drew ((HX0.out.up B7.out).keep fun _ _ => rfl) hn0 hl0).mono ?_; rintro e w8 ⟨C8, cc8, us8, rfl, s8, l8, b8d⟩
           have b8 : Below w7.heap.size w7 w8 := ⟨b8d.os, b8d.tape, b8d.output, b8d.size, b8d.block⟩
           have B8 := Lib.hid (btr B7.out b8)
           have bx0_8 := Lib.hid (bx0_7.out.below b8 bx0_7.out.lt)
           have y0_0 := bx0_8.out.cell 0
           have y0_1 := bx0_8.out.cell 1
           have y0_2 := bx0_8.out.cell 2
           have x0_8 := Lib.hid (x0_7.out.up b8)
           have Px0_8 := Lib.hid (Px0_7.out.up b8)
           have xb0_8 := Lib.hid (xb0_7.out.below b8 xb0_7.out.lt)
           have y3_0 := xb0_8.out.cell 0
           have y3_1 := xb0_8.out.cell 1
           have y3_2 := xb0_8.out.cell 2
           have x1_8 := Lib.hid (x1_7.out.up b8)
           have T8 := Lib.hid s8
           clear b8d b8 s8 l8)
        | (go_at_call 28; (first | refine (eqPz z0 s0 C5 C8 n0 cc5 n0 cc8 us5 us8 gs0 w8 x0_8.out.rr T8.out.rr hn0 hyl0).mono ?_ | refine (eqPz z0 s0 C5 C8 n0 cc5 n0 cc8 us5 us8 gs0 w8.drew (x0_8.out.rr.keep fun _ _ => rfl) (T8.out.rr.keep fun _ _ => rfl) hn0 hyl0).mono ?_); rintro e w9 ⟨rfl, b9d⟩))))
      all_goals
        have b9 : Below w8.heap.size w8 w9 := ⟨b9d.os, b9d.tape, b9d.output, b9d.size, b9d.block⟩
        have B9 := Lib.hid (btr B8.out b9)
        have bx0_9 := Lib.hid (bx0_8.out.below b9 bx0_8.out.lt)
        have x0_9 := Lib.hid (x0_8.out.up b9)
        have Px0_9 := Lib.hid (Px0_8.out.up b9)
        have xb0_9 := Lib.hid (xb0_8.out.below b9 xb0_8.out.lt)
        have x1_9 := Lib.hid (x1_8.out.up b9)
        clear b9d b9
        have q0_0 := bx0_9.out.cell 0
        have q0_1 := bx0_9.out.cell 1
        have q0_2 := bx0_9.out.cell 2
        have q3_0 := xb0_9.out.cell 0
        have q3_1 := xb0_9.out.cell 1
        have q3_2 := xb0_9.out.cell 2
        go_wp2_with fail
        refine (toS_any A1 c1 n1 x1 _ (HX1.out.up B9.out) lx1 (by omega)).mono ?_
        rintro e w10 ⟨C10, cc10, rfl, s10, b10⟩
        clear q0_0 q0_1 q0_2 q3_0 q3_1 q3_2
        have B10 : Hid (Below w.heap.size w w10) := Lib.hid (btr B9.out b10)
        have bx0_10 := Lib.hid (bx0_9.out.below b10 bx0_9.out.lt)
        clear bx0_9
        have x0_10 := Lib.hid (x0_9.out.up b10)
        clear x0_9
        have Px0_10 := Lib.hid (Px0_9.out.up b10)
        clear Px0_9
        have xb0_10 := Lib.hid (xb0_9.out.below b10 xb0_9.out.lt)
        clear xb0_9
        have x1_10 := Lib.hid (x1_9.out.up b10)
        clear x1_9
        have y1_10 := Lib.hid s10
        have ley1 := s10.le.1
        have Lny1 := Lib.hid s10.lies
        clear b10 s10
        have q0_0 := bx0_10.out.cell 0
        have q0_1 := bx0_10.out.cell 1
        have q0_2 := bx0_10.out.cell 2
        have q3_0 := xb0_10.out.cell 0
        have q3_1 := xb0_10.out.cell 1
        have q3_2 := xb0_10.out.cell 2
        go_wp2_with fail
        refine (eqS_same _ _ C6 C10 n1 cc6 n1 cc10 _ x1_10.out y1_10.out (by omega)).mono ?_
        rintro e w11 ⟨rfl, b11⟩
        clear q0_0 q0_1 q0_2 q3_0 q3_1 q3_2
        have B11 : Hid (Below w.heap.size w w11) := Lib.hid (btr B10.out b11)
        have bx0_11 := Lib.hid (bx0_10.out.below b11 bx0_10.out.lt)
        clear bx0_10
        have x0_11 := Lib.hid (x0_10.out.up b11)
        clear x0_10
        have Px0_11 := Lib.hid (Px0_10.out.up b11)
        clear Px0_10
        have xb0_11 := Lib.hid (xb0_10.out.below b11 xb0_10.out.lt)
        clear xb0_10
        have x1_11 := Lib.hid (x1_10.out.up b11)
        clear x1_10
        have y1_11 := Lib.hid (y1_10.out.up b11)
        clear y1_10
        clear b11
        clear y1_11
        have q0_0 := bx0_11.out.cell 0
        have q0_1 := bx0_11.out.cell 1
        have q0_2 := bx0_11.out.cell 2
        have q3_0 := xb0_11.out.cell 0
        have q3_1 := xb0_11.out.cell 1
        have q3_2 := xb0_11.out.cell 2
        go_wp2_with fail
        go_ret
        exact ⟨rfl, B11.out⟩
    · skip
      obtain rfl : r0 = -1 := by rw [hr0, if_neg hT0]
      clear hr0 hT0
      go_enter Try.func11, Try.ntmps11
      have q0_0 := bx0_0.out.cell 0
      have q0_1 := bx0_0.out.cell 1
      have q0_2 := bx0_0.out.cell 2
      go_wp2_with fail
      refine (szPz z0 s0 A0 n0 c0 1048576 vs0 gs0 _ (HX0.out.up B0_0.out) hs0 hm0 hk0 (by decide) (by decide) (-1) Hr0).mono ?_
      rintro e w1 ⟨rfl, b1⟩
      clear q0_0 q0_1 q0_2
      have B1 : Hid (Below w.heap.size w w1) := Lib.hid (btr B0_0.out b1)
      have bx0_1 := Lib.hid (bx0_0.out.below b1 bx0_0.out.lt)
      clear bx0_0
      clear b1
      have q0_0 := bx0_1.out.cell 0
      have q0_1 := bx0_1.out.cell 1
      have q0_2 := bx0_1.out.cell 2
      go_wp2_with fail
      go_ret
      exact ⟨rfl, B1.out⟩
  · skip
    have dn1 : decide ((1048576 : Int) < (n1 : Int)) = true := by simp; omega
    go_enter Try.func11, Try.ntmps11
    have q0_0 := bx0_0.out.cell 0
    have q0_1 := bx0_0.out.cell 1
    have q0_2 := bx0_0.out.cell 2
    go_wp2_with fail
    go_ret
    exact ⟨rfl, B0_0.out⟩
end Go.Proofs.Ytkjokchhffjidaa
