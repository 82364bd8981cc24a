/- Part 3 of the texts: FmtC, PM, PCyc, PCyI, Img, PCyS, PCyP, KnM, SSx, SSh, SSo, Hel4, SSr, PzE, KnA. No condition of its own: each text tells its own. -/
import Derived.Test.YtkjokchhffjidaaGreatDoorMg2
import Derived.Test.YtkjokchhffjidaaGreatDoorMg1
import Derived.Lib.SliceRun
import Derived.RegionTactic
set_option linter.unusedVariables false
set_option linter.unusedSimpArgs false

/- FormatCycles, of the program and of the model. No condition but lengths. -/
namespace Go.Proofs.YtkjokchhffjidaaGreatDoor
open Go.RowKit Go.Shelf

theorem layWs : Lays.n166 Tryz.prog Tryz.lays156_ren := { Tryz.lays156 with }
theorem bld_up {T e : TypeId} {B b : Nat} {bs : List Value} {w w' : World} (h : Lib.IsBuilder T e B b bs w) (hb : Below w.heap.size w w') : Lib.IsBuilder T e B b bs w' := by
  have one : ∀ p, Lib.BuilderAt T e B b p bs w → Lib.BuilderAt T e B b p bs w' := by
    rintro p ⟨hB, v, hbk, hown, hne⟩
    have hlt : b < w.heap.size := (Array.getElem?_eq_some_iff.1 hbk).1
    refine ⟨hB, v, by rw [hb.block b hlt]; exact hbk, ⟨hown.1, ?_⟩, hne⟩
    rcases hown.2 with hn | ⟨g, cap, cur, e1, hg1, hg, rest⟩
    · exact .inl hn
    · exact .inr ⟨g, cap, cur, e1, hg1, by rw [hb.block g (Array.getElem?_eq_some_iff.1 hg).1]; exact hg, rest⟩
  rcases h with h | h
  · exact .inl (one _ h)
  · exact .inr (one _ h)
/-- WriteString. -/
theorem writeT (B b : Nat) (l : List UInt8) (s : ByteArray) (w : World) (h : Lib.IsBuilder 93 5 B b (Lib.byteCells l) w) (hlen : l.length + s.size ≤ 1000000) (hBw : B ≤ w.heap.size) :
    Calls Tryz.prog 70 #[.pointer (some ⟨b, 0, none⟩), .string s] w fun e w' => e = .returned (.tuple #[.int .i64 s.size, .nilIface]) ∧ Lib.IsBuilder 93 5 B b (Lib.byteCells (l ++ s.toList)) w' ∧ Below B w w' := by
  refine (Any.Builder_WriteString layWs Tryz.Builder_Extra_156 B b (Lib.byteCells l) s w h (by simp [Lib.byteCells]; omega) hBw).mono ?_
  rintro e w' ⟨rfl, hat, hb⟩
  refine ⟨rfl, .inr ?_, hb⟩
  have e2 : Lib.byteCells (l ++ s.toList) = Lib.byteCells l ++ Lib.strCells s := by
    rw [ByteArray.toList_eq]; simp [Lib.byteCells, Lib.strCells]
  rw [e2]; exact hat

/-- Cycles, each in brackets. -/
def fmtCs (cs : List (List Int)) : List UInt8 := (cs.map fun c => 40 :: (fmtI c ++ [41])).flatten
theorem fmtCs_snoc (cs : List (List Int)) (c : List Int) : fmtCs (cs ++ [c]) = fmtCs cs ++ (40 :: (fmtI c ++ [41])) := by simp [fmtCs]
theorem fmtCs_take {cs : List (List Int)} {k : Nat} {y : List Int} (hk : k < cs.length) (e : cs.getD k [] = y) : fmtCs (cs.take (k + 1)) = fmtCs (cs.take k) ++ (40 :: (fmtI y ++ [41])) := by
  rw [List.take_succ_eq_append_getElem hk, fmtCs_snoc]
  rw [List.getD_eq_getElem?_getD, List.getElem?_eq_getElem hk] at e
  have e' : cs[k] = y := e
  rw [e']
theorem fmtCs_len (cs : List (List Int)) (h : ∀ c ∈ cs, Pts c ∧ c.length ≤ 20) : (fmtCs cs).length ≤ 62 * cs.length := by
  induction cs with
  | nil => exact Nat.le_refl _
  | cons c t ih =>
    have h1 := ih fun x hx => h x (by simp [hx])
    have h2 := h c (by simp)
    have h3 := fmtI_len h2.1
    have e : fmtCs (c :: t) = (40 :: (fmtI c ++ [41])) ++ fmtCs t := by simp [fmtCs]
    rw [e]
    simp; omega
/-- What FormatCycles writes. -/
def fmtCyc (p : List Int) : List UInt8 := if isP p = true then (if (cycl p).length = 0 then [40, 41] else fmtCs (cycl p)) else []
theorem cyc_pts {p : List Int} (h : IsP p) : ∀ c ∈ cycl p, Pts c ∧ 1 ≤ c.length ∧ c.length ≤ 20 := by
  intro c hc
  unfold cycl at hc
  rw [List.mem_filter] at hc
  obtain ⟨hc, _⟩ := hc
  rw [cycs_heads, List.mem_map] at hc
  obtain ⟨x, hx, rfl⟩ := hc
  have hxl : x < p.length := List.mem_range.1 (List.mem_filter.1 hx).1
  have hs := per_spec h hxl
  have hle := h.le
  rw [cyc_length]
  refine ⟨?_, hs.1, by omega⟩
  intro z hz
  unfold cyc at hz
  rw [List.mem_map] at hz
  obtain ⟨k, _, rfl⟩ := hz
  have := it_lt h hxl k
  omega
theorem cyc_at {p : List Int} (h : IsP p) {k : Nat} (hk : k < (cycl p).length) : Pts ((cycl p).getD k []) ∧ 1 ≤ ((cycl p).getD k []).length ∧ ((cycl p).getD k []).length ≤ 20 := by
  refine cyc_pts h _ ?_
  rw [List.getD_eq_getElem?_getD, List.getElem?_eq_getElem hk]
  exact List.getElem_mem hk
theorem br_toList (t : ByteArray) : ((⟨#[40]⟩ : ByteArray) ++ t ++ (⟨#[41]⟩ : ByteArray)).toList = 40 :: (t.toList ++ [41]) := by
  rw [toList_app, toList_app]
  have e1 : (⟨#[40]⟩ : ByteArray).toList = [40] := by rw [ByteArray.toList_eq]
  have e2 : (⟨#[41]⟩ : ByteArray).toList = [41] := by rw [ByteArray.toList_eq]
  rw [e1, e2]; simp

set_option maxHeartbeats 1000000 in
/-- The program's FormatCycles. -/
theorem implFormatCycles (A : Option Addr) (c n : Nat) (p : List Int) (w : World) (hp : RI w w.heap.size A p) (lp : Hid (p.length = n)) (hn : n ≤ 2097152) :
    Calls Tryz.prog 58 #[.slice A n c] w fun e w' => ∃ t, e = .returned (.string t) ∧ t.toList = fmtCyc p ∧ Below w.heap.size w w' := by
  rcases hs : isP p with _ | _
  · have Fin : Hid (fmtCyc p = []) := Lib.hid (if_neg (by rw [hs]; decide))
    go_enter Tryz.func58, Tryz.ntmps58
    go_wp2_with fail
    refine (implIsP A c n p w hp lp hn).mono ?_
    rintro e w1 ⟨he, b1⟩
    rw [hs] at he
    subst he
    have B1 := Lib.hid b1
    clear b1
    go_wp2_with fail
    go_ret
    exact ⟨_, rfl, by rw [Fin.out]; exact empty_toList, B1.out⟩
  · have Ip := Lib.hid (isP_iff.1 hs)
    have Cl : Hid (cyclesL p = cycl p) := Lib.hid (if_pos hs)
    have Fin : Hid (fmtCyc p = if (cycl p).length = 0 then [40, 41] else fmtCs (cycl p)) := Lib.hid (if_pos hs)
    go_enter Tryz.func58, Tryz.ntmps58
    go_wp2_with fail
    refine (implIsP A c n p w hp lp hn).mono ?_
    rintro e w1 ⟨he, b1⟩
    rw [hs] at he
    subst he
    have B1 := Lib.hid b1
    clear b1
    go_wp2_with fail
    refine (implCycles A c n p w1 (hp.up B1.out) lp hn).mono ?_
    rintro e w2 ⟨A2, m, c2, vs, rfl, s2, hm, b2⟩
    rw [Cl.out] at s2
    have S2 := Lib.hid s2
    have B2 : Hid (Below w.heap.size w w2) := Lib.hid (btr B1.out b2)
    have lm := s2.lx
    clear s2 b2
    by_cases h0 : m = 0
    · subst h0
      have F : Hid (fmtCyc p = [40, 41]) := Lib.hid (by rw [Fin.out, if_pos lm])
      clear lm
      go_wp2_with fail
      go_ret
      exact ⟨_, rfl, by rw [F.out, ByteArray.toList_eq], B2.out⟩
    · have F : Hid (fmtCyc p = fmtCs (cycl p)) := Lib.hid (by rw [Fin.out, if_neg (by omega)])
      have ne : ((m : Int) == 0) = false := by rw [beq_eq_false_iff_ne]; omega
      have I0 := Lib.hid (Lib.fresh_isBuilder 93 5 w2)
      have Lm := Lib.hid lm
      obtain ⟨g, rfl, hg1, hg2, hcel⟩ := S2.out.at_ (by omega)
      have Hc := Lib.hid hcel
      clear lm hs hcel
      go_wp2_with fail
      go_loopg [6, 17] m (fun gg _ i wr => ∃ k, k ≤ m ∧ m - k ≤ gg ∧ i = .int .i64 (k : Nat) ∧ Lib.IsBuilder 93 5 w2.heap.size w2.heap.size (Lib.byteCells (fmtCs ((cycl p).take k))) wr ∧ w2.heap.size < wr.heap.size ∧ Below w2.heap.size w2 wr)
      case atStart => exact ⟨0, Nat.zero_le _, by omega, rfl, I0.out, by simp, (Below.refl _ _).alloc (Nat.le_refl _) _⟩
      case round =>
        obtain ⟨k, hk, hgg, rfl, bld, zr, bel⟩ := hrel
        have Bld := Lib.hid bld
        have Bel := Lib.hid bel
        clear bld bel
        by_cases hlt : k < m
        · have c0 := (Bel.out.cell (p := ⟨g, k, none⟩) hg2).trans (Hc.out k hlt)
          obtain ⟨y, ey⟩ : ∃ y, (cycl p).getD k [] = y := ⟨_, rfl⟩
          have hy := cyc_at Ip.out (k := k) (by rw [Lm.out]; exact hlt)
          have hrow := (S2.out.row k hlt).up Bel.out
          rw [ey] at hrow hy
          obtain ⟨l, el⟩ : ∃ l, (vs.getD k sd0).2.1 = l := ⟨_, rfl⟩
          obtain ⟨A5, e5⟩ : ∃ A5, (vs.getD k sd0).1 = A5 := ⟨_, rfl⟩
          obtain ⟨c5, ec5⟩ : ∃ c5, (vs.getD k sd0).2.2 = c5 := ⟨_, rfl⟩
          rw [e5, el, ec5] at c0 hrow
          have Tk := Lib.hid (fmtCs_take (cs := cycl p) (by rw [Lm.out]; exact hlt) ey)
          have Len : Hid ((fmtCs ((cycl p).take k)).length ≤ 1240) := Lib.hid (by
            have := fmtCs_len ((cycl p).take k) (fun c hc => by have := cyc_pts Ip.out c (List.mem_of_mem_take hc); exact ⟨this.1, this.2.2⟩)
            rw [List.length_take] at this
            omega)
          have Row := Lib.hid hrow
          have Py := Lib.hid hy.1
          have hl1 : 1 ≤ l := by rw [← hrow.1]; exact hy.2.1
          have hl20 : l ≤ 20 := by rw [← hrow.1]; exact hy.2.2
          clear hrow hy ey el e5 ec5
          go_wp2_with fail
          refine (implJoin A5 c5 l y wr Row.out.ri_ Row.out.hid Py hl1 hl20).mono ?_
          rintro e w4 ⟨t, rfl, ht, b4⟩
          have Ht := Lib.hid ht
          have ts : t.size ≤ 60 := by
            have := fmtI_len Py.out
            rw [← ht, len_toList0, Row.out.1] at this
            omega
          have Bld4 := Lib.hid (bld_up Bld.out b4)
          have z4 := b4.size
          have Bel4 : Hid (Below w2.heap.size w2 w4) := Lib.hid (btr Bel.out b4)
          have sz1 : ¬ 9223372036854775807 < 1 + t.size := by omega
          have sz2 : ¬ 9223372036854775807 < 1 + t.size + 1 := by omega
          have s1 : (⟨#[40]⟩ : ByteArray).size = 1 := rfl
          have s2' : (⟨#[41]⟩ : ByteArray).size = 1 := rfl
          have bs : ((⟨#[40]⟩ : ByteArray) ++ t ++ (⟨#[41]⟩ : ByteArray)).size = t.size + 2 := by rw [ByteArray.size_append, ByteArray.size_append]; omega
          clear ht b4
          go_wp2_with fail
          refine (writeT w2.heap.size w2.heap.size _ _ w4 Bld4.out (by have := Len.out; omega) (by omega)).mono ?_
          rintro e w5 ⟨rfl, bld5, b5⟩
          have Bld5 : Hid (Lib.IsBuilder 93 5 w2.heap.size w2.heap.size (Lib.byteCells (fmtCs ((cycl p).take (k + 1)))) w5) := Lib.hid (by
            rw [br_toList, Ht.out, ← Tk.out] at bld5; exact bld5)
          have Bel5 : Hid (Below w2.heap.size w2 w5) := Lib.hid (Bel4.out.trans b5)
          have z5 := b5.size
          clear bld5 b5
          go_wp2_with fail
          go_roundg (m - (k + 1))
          case rel => exact ⟨k + 1, by omega, Nat.le_refl _, by go_num, Bld5.out, by omega, Bel5.out⟩
          case measure => omega
        · have hkm : k = m := by omega
          subst hkm
          have Tk : Hid ((cycl p).take k = cycl p) := Lib.hid (List.take_of_length_le (by rw [Lm.out]; exact Nat.le_refl _))
          go_wp2_with fail
          refine (Tryz.Builder_String_any w2.heap.size w2.heap.size _ wr Bld.out (by omega)).mono ?_
          rintro e w5 ⟨rfl, b5⟩
          have B5 : Hid (Below w.heap.size w w5) := Lib.hid (btr B2.out (Bel.out.trans b5))
          clear b5
          go_wp2_with fail
          go_ret
          exact ⟨_, rfl, by rw [ByteArray.toList_mk, Tk.out, F.out], B5.out⟩

theorem fmtCs_zero {cs : List (List Int)} : fmtCs cs = [] ↔ cs.length = 0 := by
  cases cs with
  | nil => simp [fmtCs]
  | cons a t => simp [fmtCs]

set_option maxHeartbeats 1000000 in
/-- The model's FormatCycles. -/
theorem specFormatCycles (A : Option Addr) (c n : Nat) (p : List Int) (w : World) (hp : RI w w.heap.size A p) (lp : Hid (p.length = n)) (hn : n ≤ 2097152) (hc : n ≤ c) :
    Calls Tryz.prog 46 #[.slice A n c] w fun e w' => ∃ t, e = .returned (.string t) ∧ t.toList = fmtCyc p ∧ Below w.heap.size w w' := by
  rcases hs : isP p with _ | _
  · have Fin : Hid (fmtCyc p = []) := Lib.hid (if_neg (by rw [hs]; decide))
    go_enter Tryz.func46, Tryz.ntmps46
    go_wp2_with fail
    refine (quiet_below (specIsP A c n p w hp lp hn hc)).mono ?_
    rintro e w1 ⟨he, b1⟩
    rw [hs] at he
    subst he
    have B1 := Lib.hid b1
    clear b1
    go_wp2_with fail
    go_ret
    exact ⟨_, rfl, by rw [Fin.out]; exact empty_toList, B1.out⟩
  · have Ip := Lib.hid (isP_iff.1 hs)
    have Cl : Hid (cyclesL p = cycl p) := Lib.hid (if_pos hs)
    have Fin : Hid (fmtCyc p = if (cycl p).length = 0 then [40, 41] else fmtCs (cycl p)) := Lib.hid (if_pos hs)
    go_enter Tryz.func46, Tryz.ntmps46
    go_wp2_with fail
    refine (quiet_below (specIsP A c n p w hp lp hn hc)).mono ?_
    rintro e w1 ⟨he, b1⟩
    rw [hs] at he
    subst he
    have B1 := Lib.hid b1
    clear b1
    go_wp2_with fail
    refine (specCycles A c n p w1 (hp.up B1.out) lp hn hc).mono ?_
    rintro e w2 ⟨A2, m, c2, vs, rfl, s2, hm, b2⟩
    rw [Cl.out] at s2
    have S2 := Lib.hid s2
    have B2 : Hid (Below w.heap.size w w2) := Lib.hid (btr B1.out b2)
    have Lm := Lib.hid s2.lx
    clear s2 b2 hs
    go_wp2_with fail
    go_loopg [4, 5] m (fun gg sv i wr => ∃ k t, k ≤ m ∧ m - k ≤ gg ∧ i = .int .i64 (k : Nat) ∧ sv = .string t ∧ t.toList = fmtCs ((cycl p).take k) ∧ Below w2.heap.size w2 wr)
    case atStart => exact ⟨0, _, Nat.zero_le _, by omega, rfl, rfl, empty_toList, Below.refl _ _⟩
    case round =>
      obtain ⟨k, t, hk, hgg, rfl, rfl, ht, bel⟩ := hrel
      have T := Lib.hid ht
      have Bel := Lib.hid bel
      have Bw : Hid (Below w.heap.size w wr) := Lib.hid (btr B2.out bel)
      have Len : t.size ≤ 1240 := by
        have := fmtCs_len ((cycl p).take k) (fun c hc => by have := cyc_pts Ip.out c (List.mem_of_mem_take hc); exact ⟨this.1, this.2.2⟩)
        rw [List.length_take, ← ht, len_toList0] at this
        omega
      clear ht bel
      by_cases hlt : k < m
      · obtain ⟨g, rfl, hg1, hg2, hcel⟩ := S2.out.at_ (by omega)
        have c0 := (Bel.out.cell (p := ⟨g, k, none⟩) hg2).trans (hcel k hlt)
        obtain ⟨y, ey⟩ : ∃ y, (cycl p).getD k [] = y := ⟨_, rfl⟩
        have hy := cyc_at Ip.out (k := k) (by rw [Lm.out]; exact hlt)
        have hrow := (S2.out.row k hlt).up Bel.out
        rw [ey] at hrow hy
        obtain ⟨l, el⟩ : ∃ l, (vs.getD k sd0).2.1 = l := ⟨_, rfl⟩
        obtain ⟨A5, e5⟩ : ∃ A5, (vs.getD k sd0).1 = A5 := ⟨_, rfl⟩
        obtain ⟨c5, ec5⟩ : ∃ c5, (vs.getD k sd0).2.2 = c5 := ⟨_, rfl⟩
        rw [e5, el, ec5] at c0 hrow
        have Tk := Lib.hid (fmtCs_take (cs := cycl p) (by rw [Lm.out]; exact hlt) ey)
        have Row := Lib.hid hrow
        have Py := Lib.hid hy.1
        have hl1 : 1 ≤ l := by rw [← hrow.1]; exact hy.2.1
        have hl20 : l ≤ 20 := by rw [← hrow.1]; exact hy.2.2
        have sz0 : ¬ 9223372036854775807 < t.size + 1 := by omega
        clear hrow hy ey el e5 ec5 hcel
        go_wp2_with fail
        refine (specFmt A5 c5 l y wr Row.out.ri_ Row.out.hid Py hl1 hl20).mono ?_
        rintro e w4 ⟨u, rfl, hu, b4⟩
        have Hu := Lib.hid hu
        have ts : u.size ≤ 60 := by
          have := fmtI_len Py.out
          rw [← hu, len_toList0, Row.out.1] at this
          omega
        have Bel4 : Hid (Below w2.heap.size w2 w4) := Lib.hid (btr Bel.out b4)
        have sz1 : ¬ 9223372036854775807 < t.size + 1 + u.size := by omega
        have sz2 : ¬ 9223372036854775807 < t.size + 1 + u.size + 1 := by omega
        have tl : Hid ((t ++ (⟨#[40]⟩ : ByteArray) ++ u ++ (⟨#[41]⟩ : ByteArray)).toList = fmtCs ((cycl p).take (k + 1))) := Lib.hid (by
          rw [Tk.out, toList_app, toList_app, toList_app, T.out, Hu.out]
          have e1 : (⟨#[40]⟩ : ByteArray).toList = [40] := by rw [ByteArray.toList_eq]
          have e2 : (⟨#[41]⟩ : ByteArray).toList = [41] := by rw [ByteArray.toList_eq]
          rw [e1, e2]; simp)
        clear hu b4
        go_wp2_with fail
        go_roundg (m - (k + 1))
        case rel => exact ⟨k + 1, _, by omega, Nat.le_refl _, by go_num, rfl, tl.out, Bel4.out⟩
        case measure => omega
      · have hkm : k = m := by omega
        subst hkm
        have T2 : Hid (t.toList = fmtCs (cycl p)) := Lib.hid (by rw [T.out, List.take_of_length_le (by rw [Lm.out]; exact Nat.le_refl _)])
        by_cases h0 : k = 0
        · have F : Hid (fmtCyc p = [40, 41]) := Lib.hid (by rw [Fin.out, if_pos (by rw [Lm.out]; exact h0)])
          have te : t.toList.isEmpty = true := by rw [T2.out, List.isEmpty_iff, fmtCs_zero, Lm.out]; exact h0
          clear h0
          go_wp2_with fail
          go_ret
          exact ⟨_, rfl, by rw [F.out, ByteArray.toList_eq], Bw.out⟩
        · have F : Hid (fmtCyc p = fmtCs (cycl p)) := Lib.hid (by rw [Fin.out, if_neg (by rw [Lm.out]; exact h0)])
          have te : t.toList.isEmpty = false := by
            rw [Bool.eq_false_iff]; intro e; rw [List.isEmpty_iff, T2.out, fmtCs_zero, Lm.out] at e; exact h0 e
          clear h0
          go_wp2_with fail
          go_ret
          exact ⟨t, rfl, by rw [T2.out, F.out], Bw.out⟩
end Go.Proofs.YtkjokchhffjidaaGreatDoor

/- Plain facts: a text of cycles reads back as the permutation, by the program's way and by the model's. No Go in it. -/
namespace Go.Proofs.YtkjokchhffjidaaGreatDoor

/-- The first k points of a cycle set, each to the next one. -/
def setK (q : List Int) (xs : List Nat) : Nat → List Int
  | 0 => q
  | k + 1 => (setK q xs k).set (xs.getD k 0) (xs.getD ((k + 1) % xs.length) 0 : Nat)
def setAll (q : List Int) (xs : List Nat) : List Int := setK q xs xs.length
def allLt (n : Nat) (xs : List Nat) : Bool := xs.all fun x => decide (x < n)
theorem setK_len (q : List Int) (xs : List Nat) (k : Nat) : (setK q xs k).length = q.length := by
  induction k with
  | zero => rfl
  | succ k ih => rw [setK, List.length_set, ih]
theorem setAll_len (q : List Int) (xs : List Nat) : (setAll q xs).length = q.length := setK_len _ _ _
theorem set_D {x : List Int} {i j : Nat} (hj : j < x.length) (u : Int) : (x.set i u).getD j 0 = if i = j then u else x.getD j 0 := by
  rw [List.getD_eq_getElem?_getD, List.getElem?_set]
  by_cases e : i = j
  · subst e; rw [if_pos rfl, if_pos hj, if_pos rfl]; rfl
  · rw [if_neg e, if_neg e, ← List.getD_eq_getElem?_getD]
theorem setK_get {q : List Int} {xs : List Nat} (f : Nat → Nat) (hv : ∀ i, i < xs.length → xs.getD ((i + 1) % xs.length) 0 = f (xs.getD i 0)) {j : Nat} (hj : j < q.length) :
    ∀ k, k ≤ xs.length → (setK q xs k).getD j 0 = if j ∈ xs.take k then (f j : Int) else q.getD j 0 := by
  intro k
  induction k with
  | zero => intro _; simp [setK]
  | succ k ih =>
    intro hk
    rw [setK, set_D (by rw [setK_len]; exact hj), ih (by omega), hv k (by omega), List.take_succ_eq_append_getElem (by omega)]
    have e : xs.getD k 0 = xs[k] := by rw [List.getD_eq_getElem?_getD, List.getElem?_eq_getElem (by omega)]; rfl
    rw [e]
    by_cases h : xs[k] = j
    · rw [if_pos h, if_pos (by simp [h]), h]
    · rw [if_neg h]
      by_cases h2 : j ∈ xs.take k
      · rw [if_pos h2, if_pos (List.mem_append.2 (.inl h2))]
      · rw [if_neg h2, if_neg (by simp only [List.mem_append, List.mem_singleton, not_or]; exact ⟨h2, fun e => h e.symm⟩)]
def foldC (q : List Int) (cs : List (List Nat)) : List Int := cs.foldl setAll q
theorem foldC_len (cs : List (List Nat)) : ∀ q, (foldC q cs).length = q.length := by
  induction cs with
  | nil => intro q; rfl
  | cons c t ih => intro q; show (foldC (setAll q c) t).length = _; rw [ih, setAll_len]
theorem foldC_get (f : Nat → Nat) (cs : List (List Nat)) (hv : ∀ c ∈ cs, ∀ i, i < c.length → c.getD ((i + 1) % c.length) 0 = f (c.getD i 0)) {j : Nat} :
    ∀ q : List Int, j < q.length → (foldC q cs).getD j 0 = if ∃ c ∈ cs, j ∈ c then (f j : Int) else q.getD j 0 := by
  induction cs with
  | nil => intro q hj; simp [foldC]
  | cons c t ih =>
    intro q hj
    show (foldC (setAll q c) t).getD j 0 = _
    rw [ih (fun d hd => hv d (by simp [hd])) _ (by rw [setAll_len]; exact hj)]
    unfold setAll
    rw [setK_get f (hv c (by simp)) hj _ (Nat.le_refl _), List.take_of_length_le (Nat.le_refl _)]
    by_cases h1 : ∃ d ∈ t, j ∈ d
    · rw [if_pos h1]
      obtain ⟨d, hd, hm⟩ := h1
      rw [if_pos ⟨d, by simp [hd], hm⟩]
    · rw [if_neg h1]
      by_cases h2 : j ∈ c
      · rw [if_pos h2, if_pos ⟨c, by simp, h2⟩]
      · rw [if_neg h2, if_neg]
        rintro ⟨d, hd, hm⟩
        rw [List.mem_cons] at hd
        rcases hd with rfl | hd
        · exact h2 hm
        · exact h1 ⟨d, hd, hm⟩
/-- The cycles of two points and more, as numbers. -/
def cyN (p : List Int) : List (List Nat) := (cycl p).map fun c => c.map Int.toNat
theorem cyN_mem {p : List Int} {c : List Nat} (h : c ∈ cyN p) : ∃ x, x < p.length ∧ 1 < per p x ∧ c = (List.range (per p x)).map fun k => it p k x := by
  unfold cyN at h
  rw [List.mem_map] at h
  obtain ⟨d, hd, rfl⟩ := h
  unfold cycl at hd
  rw [List.mem_filter] at hd
  obtain ⟨hd, hl⟩ := hd
  rw [cycs_heads, List.mem_map] at hd
  obtain ⟨x, hx, rfl⟩ := hd
  refine ⟨x, List.mem_range.1 (List.mem_filter.1 hx).1, by simpa [cyc_length] using hl, ?_⟩
  unfold cyc
  rw [List.map_map]
  rfl
theorem rmap_getD (n : Nat) (f : Nat → Nat) {i : Nat} (h : i < n) : ((List.range n).map f).getD i 0 = f i := by
  rw [List.getD_eq_getElem?_getD, List.getElem?_map, List.getElem?_range h]; rfl
theorem fold_cycl {p : List Int} (hp : IsP p) : foldC (idL p.length) (cyN p) = p := by
  refine ext_getD (n := p.length) ((foldC_len _ _).trans (idL_length _)) rfl fun j hj => ?_
  rw [foldC_get (nx p) _ ?_ _ (by rw [idL_length]; exact hj)]
  · by_cases h : ∃ c ∈ cyN p, j ∈ c
    · rw [if_pos h, nx_val hp hj]
    · rw [if_neg h, idL_getD hj]
      obtain ⟨c, k, hc, hst, hk, e⟩ := min_ex hp hj
      have h1 : ¬ 1 < per p c := fun hl => h ⟨(cyc p c).map Int.toNat, List.mem_map_of_mem (by
        unfold cycl
        rw [List.mem_filter]
        refine ⟨?_, by simpa [cyc_length] using hl⟩
        rw [cycs_heads]
        exact List.mem_map_of_mem (List.mem_filter.2 ⟨List.mem_range.2 hc, hst⟩)), by
          unfold cyc
          rw [List.map_map, List.mem_map]
          exact ⟨k, List.mem_range.2 hk, by rw [← e]; rfl⟩⟩
      have hs := per_spec hp hc
      have h0 : k = 0 := by omega
      subst h0
      have hper : per p c = 1 := by omega
      have e2 : nx p c = c := by have := hs.2.2.1; rw [hper] at this; exact this
      have e3 : c = j := e
      rw [nx_val hp hj, ← e3, e2]
  · intro c hc i hi
    obtain ⟨x, hx, hl, rfl⟩ := cyN_mem hc
    rw [List.length_map, List.length_range] at hi ⊢
    have hm := Nat.mod_lt (i + 1) (show 0 < per p x by omega)
    rw [rmap_getD _ _ hm, rmap_getD _ _ hi, ← it_mod hp hx (i + 1)]
    rfl
theorem cyN_lt {p : List Int} (hp : IsP p) : ∀ c ∈ cyN p, allLt p.length c = true := by
  intro c hc
  obtain ⟨x, hx, _, rfl⟩ := cyN_mem hc
  unfold allLt
  rw [List.all_eq_true]
  intro y hy
  rw [List.mem_map] at hy
  obtain ⟨k, _, rfl⟩ := hy
  exact decide_eq_true (it_lt hp hx k)

/-- A cycle from the head of a text, the program's way. -/
def cycP (l : List UInt8) : Option (List Nat × List UInt8) :=
  if l.head? = some 40 then
    if l.tail.head? = some 41 then some ([], l.tail.tail)
    else match numsP l.tail with
      | none => none
      | some y => if y.2.head? = some 41 then some (y.1, y.2.tail) else none
  else none
theorem numsP_len : ∀ (n : Nat) (l : List UInt8), l.length ≤ n → ∀ y, numsP l = some y → y.2.length ≤ l.length := by
  intro n
  induction n with
  | zero =>
    intro l hl y h
    obtain rfl : l = [] := List.eq_nil_of_length_eq_zero (by omega)
    rw [numsP_none (by decide)] at h; cases h
  | succ n ih =>
    intro l hl y h
    have hdw : (l.dropWhile isD).length ≤ l.length := (List.dropWhile_sublist _).length_le
    cases hp : pD (l.takeWhile isD) with
    | none => rw [numsP_none hp] at h; cases h
    | some x =>
      by_cases h2 : (l.dropWhile isD).head? = some 32
      · rw [numsP_more hp h2] at h
        cases hr : l.dropWhile isD with
        | nil => rw [hr] at h2; cases h2
        | cons a t =>
          rw [hr] at h hdw
          simp at hdw
          cases h3 : numsP t with
          | none => rw [List.tail_cons, h3] at h; cases h
          | some z =>
            rw [List.tail_cons, h3] at h
            have h4 := ih t (by omega) z h3
            have h5 : y = (x :: z.1, z.2) := by simpa using h.symm
            rw [h5]
            show z.2.length ≤ _
            omega
      · rw [numsP_last hp h2] at h
        have h5 : y = ([x], l.dropWhile isD) := by simpa using h.symm
        rw [h5]; exact hdw
theorem cycP_len {l r : List UInt8} {xs : List Nat} (h : cycP l = some (xs, r)) : r.length < l.length := by
  unfold cycP at h
  cases l with
  | nil => simp at h
  | cons a t =>
    by_cases h0 : (a :: t).head? = some 40
    · rw [if_pos h0, List.tail_cons] at h
      by_cases h1 : t.head? = some 41
      · rw [if_pos h1] at h
        have e : t.tail = r := by simpa using (congrArg (fun o => o.map Prod.snd) h)
        rw [← e]
        simp; omega
      · rw [if_neg h1] at h
        cases h3 : numsP t with
        | none => rw [h3] at h; cases h
        | some y =>
          rw [h3] at h
          have hl := numsP_len _ t (Nat.le_refl _) y h3
          by_cases h4 : y.2.head? = some 41
          · simp only [if_pos h4] at h
            have e : y.2.tail = r := by simpa using (congrArg (fun o => o.map Prod.snd) h)
            rw [← e]
            simp; omega
          · simp only [if_neg h4] at h; cases h
    · rw [if_neg h0] at h; cases h
/-- All cycles of a text, the program's way. -/
def pcI : Nat → List Int → List UInt8 → Option (List Int)
  | 0, _, _ => none
  | f + 1, q, l => if l = [] then some q else match cycP l with
    | none => none
    | some y => if allLt q.length y.1 = true then pcI f (setAll q y.1) y.2 else none
theorem toNat_pts {c : List Int} (h : Pts c) : Pts c ∧ ofN (c.map Int.toNat) = c := by
  refine ⟨h, ?_⟩
  unfold ofN
  rw [List.map_map]
  conv => rhs; rw [← List.map_id c]
  exact List.map_congr_left fun x hx => by have := h x hx; show ((x.toNat : Nat) : Int) = x; omega
theorem fmtI_ne {c : List Int} (hp : Pts c) (hc : c ≠ []) : ∃ b t, fmtI c = b :: t ∧ isD b = true := by
  cases c with
  | nil => exact absurd rfl hc
  | cons x r =>
    have hx := hp x (by simp)
    obtain ⟨d1, d2, d3, d4, d5, d6⟩ := dig_facts x.toNat (by omega)
    have hd : ∃ b t, dig x.toNat = b :: t ∧ isD b = true := by
      cases e : dig x.toNat with
      | nil => exact absurd e d6
      | cons b t => rw [e, List.all_cons, Bool.and_eq_true] at d1; exact ⟨b, t, rfl, d1.1⟩
    obtain ⟨b, t, e, hb⟩ := hd
    by_cases hr : r = []
    · subst hr; exact ⟨b, t, e, hb⟩
    · rw [fmtI_cons x hr, e]; exact ⟨b, _, rfl, hb⟩
theorem cycP_yes {t r : List UInt8} {xs : List Nat} (h : t.head? ≠ some 41) (hn : numsP t = some (xs, 41 :: r)) : cycP (40 :: t) = some (xs, r) := by
  unfold cycP
  simp [h, hn]
theorem cycP_fmt {c : List Int} (hp : Pts c) (hc : c ≠ []) (r : List UInt8) : cycP (40 :: (fmtI c ++ [41]) ++ r) = some (c.map Int.toNat, r) := by
  obtain ⟨b, t, e, hb⟩ := fmtI_ne hp hc
  have h1 : (fmtI c ++ [41] ++ r).head? ≠ some 41 := by
    rw [e]; simp
    intro e2; subst e2; exact absurd hb (by decide)
  rw [List.cons_append]
  refine cycP_yes h1 ?_
  rw [List.append_assoc]
  exact numsP_fmt c ([41] ++ r) hp hc (by intro b hb; simp at hb; subst hb; decide)
theorem fmtCs_cons (c : List Int) (cs : List (List Int)) : fmtCs (c :: cs) = 40 :: (fmtI c ++ [41]) ++ fmtCs cs := by simp [fmtCs]
theorem pcI_fmt : ∀ (cs : List (List Int)) (q : List Int) (f : Nat), (∀ c ∈ cs, Pts c ∧ c ≠ [] ∧ allLt q.length (c.map Int.toNat) = true) → (fmtCs cs).length < f → pcI f q (fmtCs cs) = some (foldC q (cs.map fun c => c.map Int.toNat)) := by
  intro cs
  induction cs with
  | nil =>
    intro q f _ hf
    cases f with
    | zero => simp at hf
    | succ f => simp [pcI, fmtCs, foldC]
  | cons c t ih =>
    intro q f h hf
    cases f with
    | zero => simp at hf
    | succ f =>
      obtain ⟨h1, h2, h3⟩ := h c (by simp)
      rw [fmtCs_cons, pcI, if_neg (by simp), cycP_fmt h1 h2]
      simp only [h3, if_true]
      rw [ih (setAll q (c.map Int.toNat)) f (fun d hd => by have := h d (by simp [hd]); rw [setAll_len]; exact this) (by rw [fmtCs_cons] at hf; simp at hf; omega)]
      rfl
theorem cycl_all {p : List Int} (hp : IsP p) : ∀ c ∈ cycl p, Pts c ∧ c ≠ [] ∧ allLt p.length (c.map Int.toNat) = true := by
  intro c hc
  have h1 := cyc_pts hp c hc
  exact ⟨h1.1, fun e => by rw [e] at h1; simp at h1, cyN_lt hp _ (List.mem_map_of_mem hc)⟩
theorem pcI_id (n f : Nat) (hf : 2 < f) : pcI f (idL n) [40, 41] = some (idL n) := by
  obtain ⟨g, rfl⟩ : ∃ g, f = g + 2 := ⟨f - 2, by omega⟩
  rw [pcI, if_neg (by simp)]
  have : cycP [40, 41] = some ([], []) := rfl
  rw [this]
  simp [allLt, pcI, setAll, setK]
theorem cyN_nil {p : List Int} (h : (cycl p).length = 0) : cyN p = [] := by unfold cyN; rw [List.eq_nil_of_length_eq_zero h]; rfl
/-- The program's reading of a permutation's text gives the permutation. -/
theorem pcI_back {p : List Int} (hp : IsP p) (f : Nat) (hf : (fmtCyc p).length < f) : pcI f (idL p.length) (fmtCyc p) = some p := by
  have hi := isP_iff.2 hp
  unfold fmtCyc at hf ⊢
  rw [if_pos hi] at hf ⊢
  by_cases h0 : (cycl p).length = 0
  · rw [if_pos h0] at hf ⊢
    rw [pcI_id _ _ (by simpa using hf)]
    have := fold_cycl hp
    rw [cyN_nil h0] at this
    rw [show idL p.length = p from this]
  · rw [if_neg h0] at hf ⊢
    rw [pcI_fmt (cycl p) (idL p.length) f (by rw [idL_length]; exact cycl_all hp) hf]
    exact congrArg some (fold_cycl hp)
theorem pcI_len : ∀ (f : Nat) (q : List Int) (l : List UInt8) (p : List Int), pcI f q l = some p → p.length = q.length := by
  intro f
  induction f with
  | zero => intro q l p h; cases h
  | succ f ih =>
    intro q l p h
    rw [pcI] at h
    by_cases hl : l = []
    · rw [if_pos hl] at h; rw [← Option.some.inj h]
    · rw [if_neg hl] at h
      cases hc : cycP l with
      | none => rw [hc] at h; cases h
      | some y =>
        rw [hc] at h
        by_cases ha : allLt q.length y.1 = true
        · simp only [if_pos ha] at h
          rw [ih _ _ _ h, setAll_len]
        · simp only [if_neg ha] at h; cases h
/-- p is the permutation of degree n that the text l writes. -/
def Wr (n : Nat) (l : List UInt8) (p : List Int) : Prop := IsP p ∧ p.length = n ∧ fmtCyc p = l
def chk (l : List UInt8) (o : Option (List Int)) : Option (List Int) := match o with
  | none => none
  | some p => if fmtCyc p = l then some p else none
theorem id_isP {n : Nat} (h1 : 1 ≤ n) (h2 : n ≤ 20) : IsP (idL n) := by
  refine ⟨by rw [idL_length]; exact h1, by rw [idL_length]; exact h2, fun i hi => ?_, fun i hi => ?_, fun i j hi hj e => ?_⟩
  · rw [idL_length] at hi; rw [idL_getD hi]; omega
  · rw [idL_length] at hi ⊢; rw [idL_getD hi]; omega
  · rw [idL_length] at hi hj; rw [idL_getD hi, idL_getD hj] at e; omega
theorem fmtCyc_ne {p : List Int} (h : fmtCyc p ≠ []) : IsP p := by
  rw [← isP_iff]
  cases hs : isP p with
  | true => rfl
  | false => exact absurd (if_neg (by rw [hs]; decide)) h
/-- What the program reads is just what is written. -/
theorem chk_pcI {n : Nat} (h1 : 1 ≤ n) (h2 : n ≤ 20) {l : List UInt8} {f : Nat} (hf : l.length < f) (p : List Int) : chk l (pcI f (idL n) l) = some p ↔ Wr n l p := by
  constructor
  · intro h
    cases ho : pcI f (idL n) l with
    | none => rw [ho] at h; cases h
    | some q =>
      rw [ho] at h
      unfold chk at h
      by_cases e : fmtCyc q = l
      · simp only [if_pos e] at h
        obtain rfl := Option.some.inj h
        have hl : q.length = n := by rw [pcI_len _ _ _ _ ho, idL_length]
        refine ⟨?_, hl, e⟩
        by_cases hn : l = []
        · subst hn
          cases f with
          | zero => cases ho
          | succ f =>
            rw [pcI, if_pos rfl] at ho
            rw [← Option.some.inj ho]
            exact id_isP h1 h2
        · exact fmtCyc_ne (by rw [e]; exact hn)
      · simp only [if_neg e] at h; cases h
  · rintro ⟨hp, hl, e⟩
    have := pcI_back hp f (by rw [e]; exact hf)
    rw [hl, e] at this
    rw [this]
    unfold chk
    simp [e]

/-- The model's way: the pieces between the closing brackets. -/
def pcS : Bool → List Int → List (List UInt8) → Option (List Int)
  | _, q, [] => some q
  | first, q, part :: ps =>
    match (if first = true then some part else if part.head? = some 40 then some part.tail else none) with
    | none => none
    | some b => match wordsP 32 b with
      | none => none
      | some xs => if allLt q.length xs = true then pcS false (setAll q xs) ps else none
def pcM (n : Nat) (l : List UInt8) : Option (List Int) :=
  if l = [40, 41] then some (idL n) else if 2 ≤ l.length ∧ l.head? = some 40 ∧ l.getLast? = some 41 then pcS true (idL n) (splitB 41 ((l.drop 1).take (l.length - 2))) else none
theorem pcS_first (q : List Int) (part : List UInt8) (ps : List (List UInt8)) : pcS true q (part :: ps) = match wordsP 32 part with
      | none => none
      | some xs => if allLt q.length xs = true then pcS false (setAll q xs) ps else none := by simp only [pcS, if_true]
theorem pcS_next (q : List Int) (t : List UInt8) (ps : List (List UInt8)) : pcS false q ((40 :: t) :: ps) = match wordsP 32 t with
      | none => none
      | some xs => if allLt q.length xs = true then pcS false (setAll q xs) ps else none := by simp [pcS]
theorem pcS_bad (q : List Int) (part : List UInt8) (ps : List (List UInt8)) (h : part.head? ≠ some 40) : pcS false q (part :: ps) = none := by simp [pcS, h]
theorem pcS_fmt : ∀ (cs : List (List Int)) (q : List Int), (∀ c ∈ cs, Pts c ∧ c ≠ [] ∧ allLt q.length (c.map Int.toNat) = true) → pcS false q (cs.map fun c => 40 :: fmtI c) = some (foldC q (cs.map fun c => c.map Int.toNat)) := by
  intro cs
  induction cs with
  | nil => intro q _; rfl
  | cons c t ih =>
    intro q h
    obtain ⟨h1, h2, h3⟩ := h c (by simp)
    rw [List.map_cons, pcS_next, wordsP_fmt h1 h2]
    simp only [h3, if_true]
    rw [ih _ fun d hd => by have := h d (by simp [hd]); rw [setAll_len]; exact this]
    rfl
theorem fmtI_no41 {c : List Int} (h : Pts c) : ∀ x ∈ fmtI c, x ≠ 41 := by
  induction c with
  | nil => intro x hx; cases hx
  | cons a t ih =>
    intro x hx
    have ha := h a (by simp)
    have hd := (dig_facts a.toNat (by omega)).1
    by_cases e : t = []
    · subst e
      exact all_isD_ne hd 41 (by decide) x hx
    · rw [fmtI_cons a e, List.mem_append] at hx
      rcases hx with hx | hx
      · exact all_isD_ne hd 41 (by decide) x hx
      · rw [List.mem_cons] at hx
        rcases hx with rfl | hx
        · decide
        · exact ih h.tail x hx
theorem inner_jn : ∀ (c : List Int) (cs : List (List Int)), fmtCs (c :: cs) = 40 :: (jn 41 (fmtI c :: cs.map fun d => 40 :: fmtI d) ++ [41]) := by
  intro c cs
  induction cs generalizing c with
  | nil => simp [fmtCs, jn]
  | cons d t ih =>
    rw [fmtCs_cons, ih d, List.map_cons, jn_cons 41 (fmtI c) (by simp)]
    have : ∀ (a : List UInt8) r, jn 41 ((40 :: a) :: r) = 40 :: jn 41 (a :: r) := by
      intro a r
      cases r with
      | nil => rfl
      | cons x y => rfl
    rw [this]
    simp
theorem pcM_back {p : List Int} (hp : IsP p) : pcM p.length (fmtCyc p) = some p := by
  have hi := isP_iff.2 hp
  unfold fmtCyc
  rw [if_pos hi]
  by_cases h0 : (cycl p).length = 0
  · rw [if_pos h0]
    unfold pcM
    rw [if_pos rfl]
    have := fold_cycl hp
    rw [cyN_nil h0] at this
    exact congrArg some this
  · rw [if_neg h0]
    have hf := fold_cycl hp
    have hall := cycl_all hp
    unfold cyN at hf
    cases hc : cycl p with
    | nil => rw [hc] at h0; simp at h0
    | cons c cs =>
      rw [hc] at hf hall
      obtain ⟨h1, h2, h3⟩ := hall c (by simp)
      obtain ⟨b, t, eb, hb⟩ := fmtI_ne h1 h2
      have hj := inner_jn c cs
      have hno : ∀ w ∈ fmtI c :: cs.map (fun d => 40 :: fmtI d), ∀ x ∈ w, x ≠ 41 := by
        intro w hw
        rw [List.mem_cons] at hw
        rcases hw with rfl | hw
        · exact fmtI_no41 h1
        · rw [List.mem_map] at hw
          obtain ⟨d, hd, rfl⟩ := hw
          intro x hx
          rw [List.mem_cons] at hx
          rcases hx with rfl | hx
          · decide
          · exact fmtI_no41 (hall d (by simp [hd])).1 x hx
      have hsp := splitB_jn 41 _ (by simp) hno
      generalize hJ : jn 41 (fmtI c :: cs.map fun d => 40 :: fmtI d) = J at hj hsp
      have hne : fmtCs (c :: cs) ≠ [40, 41] := by
        rw [fmtCs_cons, eb]
        intro e
        simp at e
      unfold pcM
      have c1 : 2 ≤ (40 :: (J ++ [41])).length := by rw [List.length_cons, List.length_append]; simp
      have c3 : (40 :: (J ++ [41])).getLast? = some 41 := by rw [← List.cons_append]; exact List.getLast?_concat
      rw [if_neg hne, hj, if_pos ⟨c1, rfl, c3⟩]
      have ei : ((40 :: (J ++ [41])).drop 1).take ((40 :: (J ++ [41])).length - 2) = J := by
        rw [List.drop_succ_cons, List.drop_zero]
        have : (40 :: (J ++ [41])).length - 2 = J.length := by simp
        rw [this, List.take_left' rfl]
      rw [ei, hsp, pcS_first, wordsP_fmt h1 h2, idL_length]
      simp only [h3, if_true]
      rw [pcS_fmt cs _ fun d hd => by have := hall d (by simp [hd]); rw [setAll_len, idL_length]; exact this]
      exact congrArg some hf
theorem pcS_len : ∀ (ps : List (List UInt8)) (b : Bool) (q p : List Int), pcS b q ps = some p → p.length = q.length := by
  intro ps
  induction ps with
  | nil => intro b q p h; rw [pcS] at h; rw [← Option.some.inj h]
  | cons part t ih =>
    intro b q p h
    rw [pcS] at h
    split at h
    · cases h
    · split at h
      · cases h
      · split at h
        · rw [ih _ _ _ h, setAll_len]
        · cases h
theorem chk_pcM {n : Nat} (h1 : 1 ≤ n) (h2 : n ≤ 20) {l : List UInt8} (p : List Int) : chk l (pcM n l) = some p ↔ Wr n l p := by
  constructor
  · intro h
    cases ho : pcM n l with
    | none => rw [ho] at h; cases h
    | some q =>
      rw [ho] at h
      unfold chk at h
      by_cases e : fmtCyc q = l
      · simp only [if_pos e] at h
        obtain rfl := Option.some.inj h
        have hne : l ≠ [] := by
          intro e2; subst e2
          unfold pcM at ho
          rw [if_neg (by simp), if_neg (by simp)] at ho
          cases ho
        refine ⟨fmtCyc_ne (by rw [e]; exact hne), ?_, e⟩
        unfold pcM at ho
        split at ho
        · rw [← Option.some.inj ho, idL_length]
        · split at ho
          · rw [pcS_len _ _ _ _ ho, idL_length]
          · cases ho
      · simp only [if_neg e] at h; cases h
  · rintro ⟨hp, hl, e⟩
    have := pcM_back hp
    rw [hl, e] at this
    rw [this]
    unfold chk
    simp [e]
/-- What ParseCycles reads. -/
def cycO (n : Int) (s : ByteArray) : Option (List Int) := if 1 ≤ n ∧ n ≤ 20 ∧ s.size ≤ 200 then chk s.toList (pcI (s.size + 1) (idL n.toNat) s.toList) else none
theorem cycO_model {n : Int} {s : ByteArray} (h : 1 ≤ n ∧ n ≤ 20 ∧ s.size ≤ 200) : cycO n s = chk s.toList (pcM n.toNat s.toList) := by
  rw [cycO, if_pos h]
  have a := chk_pcI (n := n.toNat) (by omega) (by omega) (l := s.toList) (f := s.size + 1) (by rw [len_toList0]; omega)
  have b := chk_pcM (n := n.toNat) (by omega) (by omega) (l := s.toList)
  cases hx : chk s.toList (pcI (s.size + 1) (idL n.toNat) s.toList) with
  | some p => exact ((b p).2 ((a p).1 hx)).symm
  | none =>
    cases hy : chk s.toList (pcM n.toNat s.toList) with
    | none => rfl
    | some q => rw [(a q).2 ((b q).1 hy)] at hx; cases hx
theorem cycO_wr {n : Int} {s : ByteArray} (h : 1 ≤ n ∧ n ≤ 20 ∧ s.size ≤ 200) (p : List Int) : cycO n s = some p ↔ Wr n.toNat s.toList p := by
  rw [cycO, if_pos h]
  exact chk_pcI (by omega) (by omega) (by rw [len_toList0]; omega) p
end Go.Proofs.YtkjokchhffjidaaGreatDoor

/- ParseCycles, of the program and of the model. Condition: at most 2097152 bytes. -/
namespace Go.Proofs.YtkjokchhffjidaaGreatDoor
open Go.RowKit

theorem idOut (n : Int) (w : World) (h : n < 1 ∨ 20 < n) : Calls Tryz.prog 39 #[.int .i64 n] w fun e w' => e = .returned (.slice none 0 0) ∧ w' = w := by
  by_cases h1 : n < 1
  · have d1 : decide ((n : Int) < 1) = true := by simp; omega
    go_enter Tryz.func39, Tryz.ntmps39
    go_wp2
    go_ret
    exact ⟨rfl, rfl⟩
  · have d1 : decide ((n : Int) < 1) = false := by simp; omega
    have d2 : decide ((20 : Int) < n) = true := by simp; omega
    go_enter Tryz.func39, Tryz.ntmps39
    go_wp2
    go_ret
    exact ⟨rfl, rfl⟩

theorem grown_join {w w1 w' : World} {row : Option Nat} (h : w.grownBy w1 row) (b : w1.grownBy w' row) : w.grownBy w' row :=
  ⟨b.os.trans h.os, b.tape.trans h.tape, b.output.trans h.output, Nat.le_trans h.size b.size, fun i hi hne => (b.block i (Nat.lt_of_lt_of_le hi h.size) hne).trans (h.block i hi hne)⟩

theorem cycP_no {l : List UInt8} (h : l.head? ≠ some 40) : cycP l = none := if_neg h
theorem cycP_empty {l r : List UInt8} (h : l = 40 :: 41 :: r) : cycP l = some ([], r) := by subst h; rfl
theorem cycP_nums {l t : List UInt8} (h : l = 40 :: t) (h2 : t.head? ≠ some 41) : cycP l = match numsP t with
      | none => none
      | some y => if y.2.head? = some 41 then some (y.1, y.2.tail) else none := by
  subst h; unfold cycP; simp [h2]
  try (cases numsP t <;> rfl)

set_option maxHeartbeats 1000000 in
/-- cycle. -/
theorem curCycle (g k : Nat) (s : ByteArray) (w : World) (h : Cur w g s k) (hs : s.size ≤ 1000) (R : Option (List Nat × List UInt8)) (hR : Hid (R = cycP (rest s k))) :
    Calls Tryz.prog 56 #[.pointer (some ⟨g, 0, none⟩)] w fun e w' => w.grownBy w' (some g) ∧
      ((R = none ∧ ∃ A n c, e = .returned (.tuple #[.slice A n c, .bool false])) ∨ ∃ xs r A n c k', R = some (xs, r) ∧ e = .returned (.tuple #[.slice A n c, .bool true]) ∧ Slc w' w.heap.size A n c (ofN xs) ∧ Cur w' g s k' ∧ rest s k' = r ∧ n ≤ 1001) := by
  have H := Lib.hid h
  have gw := h.lt
  have hks := h.1
  clear h
  by_cases h1 : ∃ hk : k < s.size, s[k] = 40
  · obtain ⟨hk, e1⟩ := h1
    have r1 : Hid (rest s k = 40 :: rest s (k + 1)) := Lib.hid (by rw [rest_cons s hk, e1])
    by_cases h2 : ∃ hk : k + 1 < s.size, s[k + 1] = 41
    · obtain ⟨hk2, e2⟩ := h2
      have Rs : Hid (R = some ([], rest s (k + 2))) := Lib.hid (by rw [hR.out, r1.out]; exact cycP_empty (by rw [rest_cons s hk2, e2]))
      go_enter Tryz.func56, Tryz.ntmps56
      go_wp2_with fail
      refine (curTake g k s 40 w H.out hs hk e1).mono ?_
      rintro e w1 ⟨rfl, c1, g1⟩
      have C1 := Lib.hid c1
      have G1 := Lib.hid g1
      clear c1 g1 e1
      go_wp2_with fail
      refine (curTake g (k + 1) s 41 w1 C1.out hs hk2 e2).mono ?_
      rintro e w2 ⟨rfl, c2, g2⟩
      have C2 := Lib.hid c2
      have G2 := Lib.hid (grown_join G1.out g2)
      clear c2 g2 e2
      go_wp2_with fail
      go_ret2
      exact ⟨G2.out, .inr ⟨[], _, _, _, _, k + 2, Rs.out, rfl, Slc.nil_, C2.out, rfl, by omega⟩⟩
    · have Rn : Hid (R = match numsP (rest s (k + 1)) with
          | none => none
          | some y => if y.2.head? = some 41 then some (y.1, y.2.tail) else none) := Lib.hid (by
        rw [hR.out]
        exact cycP_nums r1.out (by rw [Ne, rest_head s (k + 1) 41 (by omega)]; exact h2))
      obtain ⟨N, hN⟩ : ∃ N, numsP (rest s (k + 1)) = N := ⟨_, rfl⟩
      rw [hN] at Rn
      have HN : Hid (N = numsP (rest s (k + 1))) := Lib.hid hN.symm
      clear hN
      have H2 := Lib.hid h2
      clear h2
      go_enter Tryz.func56, Tryz.ntmps56
      go_wp2_with fail
      refine (curTake g k s 40 w H.out hs hk e1).mono ?_
      rintro e w1 ⟨rfl, c1, g1⟩
      have C1 := Lib.hid c1
      have G1 := Lib.hid g1
      clear c1 g1 e1
      go_wp2_with fail
      refine (curNot g (k + 1) s 41 w1 C1.out (fun hk e => H2.out ⟨hk, e⟩)).mono ?_
      rintro e w2 ⟨rfl, m2, rfl⟩
      have C2 : Hid (Cur (w1.drewN m2) g s (k + 1)) := Lib.hid (C1.out.drewN _)
      have G2 : Hid (w.grownBy (w1.drewN m2) (some g)) := Lib.hid (grown_drewN G1.out _)
      generalize w1.drewN m2 = w2 at C2 G2 ⊢
      go_wp2_with fail
      refine (curNumbers g (k + 1) s w2 C2.out hs N HN).mono ?_
      rintro e w3 ⟨g3, ⟨rfl, rfl, k', cu3⟩ | ⟨xs, r, A, n, c, k', rfl, rfl, s3, cu3, hr3, hk3, hn3⟩⟩
      · have G3 := Lib.hid (grown_join G2.out g3)
        have Re : Hid (R = none) := Lib.hid Rn.out
        clear g3 cu3
        go_wp2_with fail
        go_ret2
        exact ⟨G3.out, .inl ⟨Re.out, _, _, _, rfl⟩⟩
      · have G3 := Lib.hid (grown_join G2.out g3)
        have C3 := Lib.hid cu3
        have S3 := Lib.hid (s3.mono G2.out.size)
        have S3' := Lib.hid s3
        have z2 := G2.out.size
        have k's := cu3.1
        have Re : Hid (R = if r.head? = some 41 then some (xs, r.tail) else none) := Lib.hid Rn.out
        have Hr3 := Lib.hid hr3
        clear g3 cu3 s3 hr3
        by_cases h4 : ∃ hk : k' < s.size, s[k'] = 41
        · obtain ⟨hk4, e4⟩ := h4
          have Rf : Hid (R = some (xs, rest s (k' + 1))) := Lib.hid (by
            rw [Re.out, ← Hr3.out, if_pos ((rest_head s k' 41 k's).2 ⟨hk4, e4⟩), rest_cons s hk4]; rfl)
          go_wp2_with fail
          refine (curTake g k' s 41 w3 C3.out hs hk4 e4).mono ?_
          rintro e w4 ⟨rfl, c4, g4⟩
          have C4 := Lib.hid c4
          have G4 := Lib.hid (grown_join G3.out g4)
          have S4 : Hid (Slc w4 w.heap.size A n c (ofN xs)) := Lib.hid (S3.out.kept g4 (by
            rcases e : (Value.slice A n c).ownBlock with _ | q
            · exact .inl rfl
            · right; intro e2; have h1 := (S3.out.lt_ q e).1; injection e2 with e2; omega))
          clear c4 g4 e4
          go_wp2_with fail
          go_ret2
          exact ⟨G4.out, .inr ⟨xs, _, A, n, c, k' + 1, Rf.out, rfl, S4.out, C4.out, rfl, hn3⟩⟩
        · have Rf : Hid (R = none) := Lib.hid (by rw [Re.out, ← Hr3.out, if_neg (by rw [rest_head s k' 41 k's]; exact h4)])
          have H4 := Lib.hid h4
          clear h4
          go_wp2_with fail
          refine (curNot g k' s 41 w3 C3.out (fun hk e => H4.out ⟨hk, e⟩)).mono ?_
          rintro e w4 ⟨rfl, m4, rfl⟩
          go_wp2_with fail
          go_ret2
          exact ⟨grown_drewN G3.out _, .inl ⟨Rf.out, _, _, _, rfl⟩⟩
  · have Rn : Hid (R = none) := Lib.hid (by rw [hR.out]; exact cycP_no (by rw [Ne, rest_head s k 40 hks]; exact h1))
    have H1 := Lib.hid h1
    clear h1
    go_enter Tryz.func56, Tryz.ntmps56
    go_wp2_with fail
    refine (curNot g k s 40 w H.out (fun hk e => H1.out ⟨hk, e⟩)).mono ?_
    rintro e w1 ⟨rfl, m, rfl⟩
    go_wp2_with fail
    go_ret2
    exact ⟨grown_drewN (grown_refl _ _) _, .inl ⟨Rn.out, _, _, _, rfl⟩⟩

set_option maxHeartbeats 1000000 in
/-- setCycle. -/
theorem implSet (g n c base : Nat) (q : List Int) (A : Option Addr) (m cm : Nat) (xs : List Nat) (w : World) (hq : Row w base g n c q) (hx : RI w w.heap.size A (ofN xs)) (hxg : ∀ b off, A = some ⟨b, off, none⟩ → 0 < m → b ≠ g) (lx : Hid (xs.length = m)) (hn : n ≤ 20) (hm : m ≤ 2000) :
    Calls Tryz.prog 57 #[.slice (some ⟨g, 0, none⟩) n c, .slice A m cm] w fun e w' => e = .returned (.bool (allLt n xs)) ∧ (allLt n xs = true → Row w' base g n c (setAll q xs)) ∧ w.grownBy w' (some g) := by
  have lq := hq.1
  have Q := Lib.hid hq
  clear hq
  go_enter Tryz.func57, Tryz.ntmps57
  go_wp2
  go_loopg [5, 6, 9] m (fun gg _ _ i wr => ∃ k, k ≤ m ∧ m - k ≤ gg ∧ i = .int .i64 (k : Nat) ∧ Row wr base g n c (setK q xs k) ∧ allLt n (xs.take k) = true ∧ w.grownBy wr (some g))
  case atStart => exact ⟨0, Nat.zero_le _, by omega, rfl, Q.out, rfl, grown_refl _ _⟩
  case round =>
    obtain ⟨k, hk, hg, rfl, row, hall, gro⟩ := hrel
    have Rw := Lib.hid row
    have Al := Lib.hid hall
    have Gr := Lib.hid gro
    clear row hall gro
    by_cases hlt : k < m
    · obtain ⟨b, off, rfl, hb, hc⟩ := hx (by rw [ofN_len, lx.out]; omega)
      have hbg := hxg b off rfl (by omega)
      have hbw : b < w.heap.size := hb
      have hm2 := Nat.mod_lt (k + 1) (show 0 < m by omega)
      have cellAt : ∀ j, j < m → wr.cell? ⟨b, off + j, none⟩ = some (.int .i64 ((xs.getD j 0 : Nat) : Int)) := fun j hj => by
        rw [World.cell?_of_block (Gr.out.block b hbw (fun e => hbg (by injection e))), hc j (by rw [ofN_len, lx.out]; exact hj)]
        have : (ofN xs).getD j 0 = ((xs.getD j 0 : Nat) : Int) := by
          unfold ofN
          rw [List.getD_eq_getElem?_getD, List.getElem?_map, List.getD_eq_getElem?_getD, List.getElem?_eq_getElem (by rw [lx.out]; exact hj)]; rfl
        rw [this]
      have c1 := cellAt k hlt
      have c2 := cellAt ((k + 1) % m) hm2
      obtain ⟨x, ex⟩ : ∃ x, xs.getD k 0 = x := ⟨_, rfl⟩
      obtain ⟨y, ey⟩ : ∃ y, xs.getD ((k + 1) % m) 0 = y := ⟨_, rfl⟩
      have Sk : Hid (setK q xs (k + 1) = (setK q xs k).set x (y : Int)) := Lib.hid (by rw [setK, lx.out, ex, ey])
      have Tk : Hid (xs.take (k + 1) = xs.take k ++ [x]) := Lib.hid (by
        rw [List.take_succ_eq_append_getElem (by rw [lx.out]; exact hlt), ← ex, List.getD_eq_getElem?_getD, List.getElem?_eq_getElem (by rw [lx.out]; exact hlt)]; rfl)
      obtain ⟨z, ez⟩ : ∃ z, (k + 1) % m = z := ⟨_, rfl⟩
      have eint : (((k : Int) + 1) % (m : Int)) = (z : Int) := by rw [← ez]; exact_mod_cast rfl
      rw [ex] at c1
      rw [ey, ez] at c2
      rw [ez] at hm2
      by_cases hxn : x < n
      · have d1 : decide ((n : Int) ≤ (x : Int)) = false := by simp; omega
        have c3 := Rw.out.cell hxn
        have f3 := Rw.out.free x
        have Rw2 := Lib.hid (Rw.out.store x (y : Int))
        have Gr2 := Lib.hid (grown_set Gr.out x (.int .i64 (y : Int)))
        have Al2 : Hid (allLt n (xs.take (k + 1)) = true) := Lib.hid (by
          have := Al.out
          unfold allLt at this ⊢
          rw [Tk.out, List.all_append, this]; simpa using hxn)
        clear cellAt hc ex ey ez
        go_wp2
        go_roundg (m - (k + 1))
        case rel => exact ⟨k + 1, by omega, Nat.le_refl _, by go_num, by rw [Sk.out]; exact Rw2.out, Al2.out, Gr2.out⟩
        case measure => omega
      · have d1 : decide ((n : Int) ≤ (x : Int)) = true := by simp; omega
        have F : Hid (allLt n xs = false) := Lib.hid (by
          rw [Bool.eq_false_iff]
          intro h
          unfold allLt at h
          rw [List.all_eq_true] at h
          have hm : x ∈ xs := List.mem_of_mem_take (i := k + 1) (by rw [Tk.out]; simp)
          have := h x hm
          simp at this
          omega)
        clear cellAt hc ex ey ez
        go_wp2
        go_ret
        refine ⟨by rw [F.out]; rfl, ?_, Gr.out⟩
        intro h
        rw [F.out] at h
        cases h
    · have hkm : k = m := by omega
      subst hkm
      have F : Hid (allLt n xs = true) := Lib.hid (by have := Al.out; rw [List.take_of_length_le (by rw [lx.out]; exact Nat.le_refl _)] at this; exact this)
      have Sf : Hid (setK q xs k = setAll q xs) := Lib.hid (by unfold setAll; rw [lx.out])
      go_wp2
      go_ret
      exact ⟨by rw [F.out]; rfl, fun _ => by rw [← Sf.out]; exact Rw.out, Gr.out⟩
end Go.Proofs.YtkjokchhffjidaaGreatDoor

/- The program's ParseCycles. Condition: at most 2097152 bytes. -/
namespace Go.Proofs.YtkjokchhffjidaaGreatDoor
open Go.RowKit

theorem cycO_out {n : Int} {s : ByteArray} (h : ¬ (1 ≤ n ∧ n ≤ 20 ∧ s.size ≤ 200)) : cycO n s = none := if_neg h
theorem pcI_end {f : Nat} {q : List Int} (hf : 0 < f) : pcI f q [] = some q := by
  cases f with
  | zero => omega
  | succ f => simp [pcI]
theorem pcI_none {f : Nat} {q : List Int} {l : List UInt8} (hl : l ≠ []) (h : cycP l = none) : pcI f q l = none := by
  cases f with
  | zero => rfl
  | succ f => rw [pcI, if_neg hl, h]
theorem pcI_step {f : Nat} {q : List Int} {l r : List UInt8} {xs : List Nat} (hl : l ≠ []) (h : cycP l = some (xs, r)) : pcI (f + 1) q l = if allLt q.length xs = true then pcI f (setAll q xs) r else none := by
  rw [pcI, if_neg hl, h]
theorem chk_yes {l : List UInt8} {q : List Int} (h : fmtCyc q = l) : chk l (some q) = some q := by unfold chk; simp [h]
theorem chk_no {l : List UInt8} {q : List Int} (h : fmtCyc q ≠ l) : chk l (some q) = none := by unfold chk; simp [h]

set_option maxHeartbeats 2000000 in
theorem implPC_core (n : Nat) (s : ByteArray) (w : World) (h1 : 1 ≤ n) (h2 : n ≤ 20) (h3 : s.size ≤ 200) (O : Option (List Int)) (hO : Hid (O = chk s.toList (pcI (s.size + 1) (idL n) s.toList))) :
    Calls Tryz.prog 41 #[.int .i64 (n : Int), .string s] w fun e w' => ∃ A m c, e = .returned (.tuple #[.slice A m c, .bool O.isSome]) ∧ Slc w' w.heap.size A m c (O.getD []) ∧ m ≤ 20 ∧ Below w.heap.size w w' := by
  have d3 : decide ((200 : Int) < s.size) = false := by simp; omega
  obtain ⟨RR, hRR⟩ : ∃ RR, pcI (s.size + 1) (idL n) s.toList = RR := ⟨_, rfl⟩
  rw [hRR] at hO
  have HR := Lib.hid hRR
  clear hRR
  have q24 : ∀ (w : World) (a : Option Addr) (n c n' c' : Nat), (binOp .eql 48 (.slice a n c) (.slice none n' c')).run Tryz.prog w = .ok (.bool a.isNone) w := fun w a n c n' c' => Lib.run_eql_slice_nil w _ _ a n c n' c' Tryz.underlying48
  go_enter Tryz.func41, Tryz.ntmps41
  go_wp2_with fail
  refine (implId_core n w h1 h2).mono ?_
  rintro e w1 ⟨A1, c1, rfl, s1, b1⟩
  obtain ⟨gp, rfl, hg1, hg2⟩ : ∃ gp, A1 = some ⟨gp, 0, none⟩ ∧ w.heap.size ≤ gp ∧ gp < w1.heap.size := by
    rcases s1.at_ with ⟨_, _, e0, _⟩ | ⟨gp, e0, e1, e2⟩
    · omega
    · exact ⟨gp, e0, e1, e2⟩
  have lid : (idL n).length = n := idL_length n
  have Q1 : Hid (Row w1 w.heap.size gp n c1 (idL n)) := Lib.hid (Row.of_own (by have := s1.2; rw [← s1.1] at this; rw [s1.1] at this; exact this))
  have B1 := Lib.hid b1
  have C1 : Hid (Cur (w1.alloc (.cells #[.string s, .int .i64 0] 77)) w1.heap.size s 0) := Lib.hid ⟨Nat.zero_le _, Blk.new w1 _ _⟩
  have Q1' : Hid (Row (w1.alloc (.cells #[.string s, .int .i64 0] 77)) w.heap.size gp n c1 (idL n)) := Lib.hid (Q1.out.alloc _)
  have B1' : Hid (Below w.heap.size w (w1.alloc (.cells #[.string s, .int .i64 0] 77))) := Lib.hid (B1.out.alloc b1.size _)
  clear s1 b1
  go_wp2_with fail
  go_loopg [8, 9] s.size (fun gg _ _ wr => ∃ j q f, (rest s j).length ≤ gg ∧ Cur wr w1.heap.size s j ∧ Row wr w.heap.size gp n c1 q ∧ (rest s j).length < f ∧ pcI f q (rest s j) = RR ∧ w1.heap.size < wr.heap.size ∧ Below w.heap.size w wr)
  case atStart => exact ⟨0, idL n, s.size + 1, by rw [rest_len]; omega, C1.out, Q1'.out, by rw [rest_len]; omega, HR.out, by simp, B1'.out⟩
  case round =>
    obtain ⟨j, q, f, hgg, cur, row, hf, hpc, zr, bel⟩ := hrel
    have Cu := Lib.hid cur
    have Rw := Lib.hid row
    have Pc := Lib.hid hpc
    have Bel := Lib.hid bel
    have lq := row.1
    have hjs := cur.1
    have hlen := rest_len s j
    clear cur row hpc bel
    by_cases hend : j = s.size
    · have E1 : Hid (decide (j = s.size) = true) := Lib.hid (by simpa using hend)
      have Rq : Hid (RR = some q) := Lib.hid (by rw [← Pc.out, rest_end s (by omega), pcI_end (by omega)])
      clear hend
      go_wp2_with fail
      refine (curEnd w1.heap.size j s wr Cu.out true E1).mono ?_
      rintro e w2 ⟨rfl, m2, rfl⟩
      have Rw2 : Hid (Row (wr.drewN m2) w.heap.size gp n c1 q) := Lib.hid (Rw.out.drewN _)
      have Bel2 : Hid (Below w.heap.size w (wr.drewN m2)) := Lib.hid (below_drewN Bel.out _)
      generalize wr.drewN m2 = w2 at Rw2 Bel2 ⊢
      go_wp2_with fail
      refine (implFormatCycles (some ⟨gp, 0, none⟩) c1 n q w2 Rw2.out.slc.ri_ Rw2.out.slc.hid (by omega)).mono ?_
      rintro e w3 ⟨t, rfl, ht, b3⟩
      have Bel3 : Hid (Below w.heap.size w w3) := Lib.hid (btr Bel2.out b3)
      have S3 := Lib.hid (Rw2.out.slc.up b3)
      clear b3
      by_cases he : fmtCyc q = s.toList
      · have O1 : Hid (O = some q) := Lib.hid (by rw [hO.out, Rq.out, chk_yes he])
        have te : (t.toList == s.toList) = true := by rw [ht, he]; simp
        clear ht he
        go_wp2_with fail
        go_ret2
        exact ⟨_, _, _, by rw [O1.out]; rfl, by rw [O1.out]; exact S3.out, h2, Bel3.out⟩
      · have O1 : Hid (O = none) := Lib.hid (by rw [hO.out, Rq.out, chk_no he])
        have te : (t.toList == s.toList) = false := by rw [ht]; simpa using he
        clear ht he
        go_wp2_with fail
        go_ret2
        exact ⟨_, _, _, by rw [O1.out]; rfl, by rw [O1.out]; exact Slc.nil_, Nat.zero_le _, Bel3.out⟩
    · have E1 : Hid (decide (j = s.size) = false) := Lib.hid (by simpa using hend)
      have hlt : j < s.size := by omega
      have hne : rest s j ≠ [] := by intro e; rw [e] at hlen; simp at hlen; omega
      have Ne := Lib.hid hne
      obtain ⟨N, hN⟩ : ∃ N, cycP (rest s j) = N := ⟨_, rfl⟩
      have HN : Hid (N = cycP (rest s j)) := Lib.hid hN.symm
      clear hend hne hN
      go_wp2_with fail
      refine (curEnd w1.heap.size j s wr Cu.out false E1).mono ?_
      rintro e w2 ⟨rfl, m2, rfl⟩
      have Rw2 : Hid (Row (wr.drewN m2) w.heap.size gp n c1 q) := Lib.hid (Rw.out.drewN _)
      have Cu2 : Hid (Cur (wr.drewN m2) w1.heap.size s j) := Lib.hid (Cu.out.drewN _)
      have Bel2 : Hid (Below w.heap.size w (wr.drewN m2)) := Lib.hid (below_drewN Bel.out _)
      have z2 : w1.heap.size < (wr.drewN m2).heap.size := zr
      generalize wr.drewN m2 = w2 at Rw2 Cu2 Bel2 z2 ⊢
      go_wp2_with fail
      refine (curCycle w1.heap.size j s w2 Cu2.out (by omega) N HN).mono ?_
      rintro e w3 ⟨g3, ⟨rfl, A3, n3, c3, rfl⟩ | ⟨xs, r, A3, n3, c3, j3, rfl, rfl, s3, cu3, hr3, hn3⟩⟩
      · have O1 : Hid (O = none) := Lib.hid (by rw [hO.out, ← Pc.out, pcI_none Ne.out HN.out.symm]; rfl)
        have Bel3 : Hid (Below w.heap.size w w3) := Lib.hid (Bel2.out.grown g3 Bel2.out.size (fun k e => by injection e with e; omega))
        clear g3
        go_wp2_with fail
        go_ret2
        exact ⟨_, _, _, by rw [O1.out]; rfl, by rw [O1.out]; exact Slc.nil_, Nat.zero_le _, Bel3.out⟩
      · have Bel3 : Hid (Below w.heap.size w w3) := Lib.hid (Bel2.out.grown g3 Bel2.out.size (fun k e => by injection e with e; omega))
        have Rw3 : Hid (Row w3 w.heap.size gp n c1 q) := Lib.hid (Rw2.out.kept g3 (fun e => by injection e with e; omega))
        have z3 := g3.size
        have Cu3 := Lib.hid cu3
        have S3 := Lib.hid s3
        have hlr : r.length < (rest s j).length := cycP_len HN.out.symm
        have Hr3 := Lib.hid hr3
        have lxs : Hid (xs.length = n3) := Lib.hid (by have := s3.1; rw [ofN_len] at this; exact this)
        have far : Hid (∀ b off, A3 = some ⟨b, off, none⟩ → 0 < n3 → b ≠ gp) := Lib.hid fun b off e _ => by
          rcases S3.out.at_ with ⟨e0, _⟩ | ⟨q3, e0, e1, e2⟩
          · rw [e0] at e; cases e
          · rw [e0] at e; injection e with e; injection e with e; omega
        obtain ⟨f, rfl⟩ : ∃ f', f = f' + 1 := ⟨f - 1, by omega⟩
        have Pc2 : Hid (RR = if allLt n xs = true then pcI f (setAll q xs) r else none) := Lib.hid (by rw [← Pc.out, pcI_step Ne.out HN.out.symm, lq])
        clear g3 cu3 s3 hr3
        go_wp2_with fail
        refine (implSet gp n c1 w.heap.size q A3 n3 c3 xs w3 Rw3.out S3.out.ri_ far.out lxs h2 (by omega)).mono ?_
        rintro e w4 ⟨he4, hrow, g4⟩
        have Bel4 : Hid (Below w.heap.size w w4) := Lib.hid (Bel3.out.grown g4 Bel3.out.size (fun k e => by injection e with e; omega))
        have Cu4 : Hid (Cur w4 w1.heap.size s j3) := Lib.hid (Cu3.out.kept g4 (fun e => by injection e with e; omega))
        have z4 := g4.size
        rcases ha : allLt n xs with _ | _
        · have O1 : Hid (O = none) := Lib.hid (by rw [hO.out, Pc2.out, ha]; rfl)
          rw [ha] at he4
          subst he4
          clear hrow g4
          go_wp2_with fail
          go_ret2
          exact ⟨_, _, _, by rw [O1.out]; rfl, by rw [O1.out]; exact Slc.nil_, Nat.zero_le _, Bel4.out⟩
        · have Rw4 := Lib.hid (hrow ha)
          have Pc3 : Hid (pcI f (setAll q xs) (rest s j3) = RR) := Lib.hid (by rw [Pc2.out, ha, if_pos rfl, Hr3.out])
          rw [ha] at he4
          subst he4
          clear hrow g4
          go_wp2_with fail
          go_roundg (rest s j3).length
          case rel => exact ⟨j3, setAll q xs, f, Nat.le_refl _, Cu4.out, Rw4.out, by rw [Hr3.out]; omega, Pc3.out, by omega, Bel4.out⟩
          case measure => rw [Hr3.out]; omega

/-- The program's ParseCycles. -/
theorem implParseCycles0 (n : Int) (s : ByteArray) (w : World) (_hs : s.size ≤ 2097152) :
    Calls Tryz.prog 41 #[.int .i64 n, .string s] w fun e w' => ∃ A m c, e = .returned (.tuple #[.slice A m c, .bool (cycO n s).isSome]) ∧ Slc w' w.heap.size A m c ((cycO n s).getD []) ∧ m ≤ 20 ∧ Below w.heap.size w w' := by
  by_cases hr : 1 ≤ n ∧ n ≤ 20
  · obtain ⟨m, rfl⟩ := Int.eq_ofNat_of_zero_le (show 0 ≤ n by omega)
    by_cases h3 : s.size ≤ 200
    · exact implPC_core m s w (by omega) (by omega) h3 (cycO (m : Int) s) (Lib.hid (if_pos ⟨hr.1, hr.2, h3⟩))
    · have d3 : decide ((200 : Int) < s.size) = true := by simp; omega
      have Fin : Hid (cycO (m : Int) s = none) := Lib.hid (cycO_out fun h => h3 h.2.2)
      have q24 : ∀ (w : World) (a : Option Addr) (n c n' c' : Nat), (binOp .eql 48 (.slice a n c) (.slice none n' c')).run Tryz.prog w = .ok (.bool a.isNone) w := fun w a n c n' c' => Lib.run_eql_slice_nil w _ _ a n c n' c' Tryz.underlying48
      go_enter Tryz.func41, Tryz.ntmps41
      go_wp2_with fail
      refine (implId_core m w (by omega) (by omega)).mono ?_
      rintro e w1 ⟨A1, c1, rfl, s1, b1⟩
      obtain ⟨gp, rfl⟩ : ∃ gp, A1 = some ⟨gp, 0, none⟩ := by
        rcases s1.at_ with ⟨_, _, e0, _⟩ | ⟨gp, e0, e1, e2⟩
        · omega
        · exact ⟨gp, e0⟩
      have B1 := Lib.hid b1
      clear s1 b1
      go_wp2_with fail
      go_ret2
      exact ⟨_, _, _, by rw [Fin.out]; rfl, by rw [Fin.out]; exact Slc.nil_, Nat.zero_le _, B1.out⟩
  · have Fin : Hid (cycO n s = none) := Lib.hid (cycO_out fun h => hr ⟨h.1, h.2.1⟩)
    have q24 : ∀ (w : World) (a : Option Addr) (n c n' c' : Nat), (binOp .eql 48 (.slice a n c) (.slice none n' c')).run Tryz.prog w = .ok (.bool a.isNone) w := fun w a n c n' c' => Lib.run_eql_slice_nil w _ _ a n c n' c' Tryz.underlying48
    go_enter Tryz.func41, Tryz.ntmps41
    go_wp2_with fail
    refine (idOut n w (by omega)).mono ?_
    rintro e w1 ⟨rfl, rfl⟩
    go_wp2_with fail
    go_ret2
    exact ⟨_, _, _, by rw [Fin.out]; rfl, by rw [Fin.out]; exact Slc.nil_, Nat.zero_le _, Below.refl _ _⟩
theorem implParseCycles (n : Int) (s : ByteArray) (w : World) (_hs : s.size ≤ 2097152) (_hn : -9223372036854775808 ≤ n ∧ n ≤ 9223372036854775807) :
    Calls Tryz.prog 41 #[.int .i64 n, .string s] w fun e w' => ∃ A m c, e = .returned (.tuple #[.slice A m c, .bool (cycO n s).isSome]) ∧ Slc w' w.heap.size A m c ((cycO n s).getD []) ∧ m ≤ 20 ∧ Below w.heap.size w w' := implParseCycles0 n s w _hs
end Go.Proofs.YtkjokchhffjidaaGreatDoor

/- ParseImages, of the program and of the model. Condition: at most 2097152 bytes. -/
namespace Go.Proofs.YtkjokchhffjidaaGreatDoor
open Go.RowKit

/-- The permutation that a list of numbers is, if it is one. -/
def permO (o : Option (List Nat)) : Option (List Int) := match o with
  | none => none
  | some xs => if isP (ofN xs) = true then some (ofN xs) else none
/-- What ParseImages reads. -/
def imgO (s : ByteArray) : Option (List Int) := if s.size ≤ 200 then permO (wordsP 32 s.toList) else none
theorem imgO_big {s : ByteArray} (h : ¬ s.size ≤ 200) : imgO s = none := if_neg h
theorem imgO_nums {s : ByteArray} (h : s.size ≤ 200) : imgO s = permO (match numsP s.toList with | some (xs, []) => some xs | _ => none) := by
  rw [imgO, if_pos h]
  exact congrArg permO (nums_words _ _ (Nat.le_refl _)).symm
theorem rest_zero (s : ByteArray) : rest s 0 = s.toList := rfl
theorem rest_nil_iff (s : ByteArray) {k : Nat} (h : k ≤ s.size) : rest s k = [] ↔ k = s.size := by
  constructor
  · intro e
    have := rest_len s k
    rw [e] at this
    simp at this
    omega
  · intro e; exact rest_end s (by omega)


theorem mapM_append_ {α β : Type} (f : α → Option β) (l l' : List α) : (l ++ l').mapM f = (l.mapM f).bind fun x => (l'.mapM f).map (x ++ ·) := by
  induction l with
  | nil => rw [List.nil_append, show ([] : List α).mapM f = some [] from rfl]; cases h : l'.mapM f <;> simp [h]
  | cons a t ih =>
    rw [List.cons_append, mapM_cons_, mapM_cons_, ih]
    cases f a with
    | none => rfl
    | some x => cases t.mapM f with
      | none => rfl
      | some y => cases l'.mapM f <;> simp
theorem take_succ_map {ws : List ByteArray} {k : Nat} (hk : k < ws.length) : (ws.map ByteArray.toList).take (k + 1) = (ws.map ByteArray.toList).take k ++ [ws[k].toList] := by
  rw [List.take_succ_eq_append_getElem (by simpa using hk)]; simp
theorem mapM_take_none {ls : List (List UInt8)} {k : Nat} {v : List UInt8} (h : ls.take (k + 1) = ls.take k ++ [v]) (hn : pW v = none) : ls.mapM pW = none := by
  rw [← List.take_append_drop (k + 1) ls, mapM_append_, h, mapM_append_, mapM_cons_, hn]
  cases (ls.take k).mapM pW <;> rfl
theorem mapM_take_some {ls : List (List UInt8)} {k x : Nat} {xs : List Nat} {v : List UInt8} (h : ls.take (k + 1) = ls.take k ++ [v]) (hx : (ls.take k).mapM pW = some xs) (hn : pW v = some x) : (ls.take (k + 1)).mapM pW = some (xs ++ [x]) := by
  rw [h, mapM_append_, hx, mapM_cons_, hn]; rfl

end Go.Proofs.YtkjokchhffjidaaGreatDoor

/- The model's parseCycle. Conditions: at most 1000 bytes; a permutation's row of at most 20. -/
namespace Go.Proofs.YtkjokchhffjidaaGreatDoor
open Go.RowKit

/-- Whether a cycle is read: numbers, all below n. -/
def okC (n : Nat) (R : Option (List Nat)) : Bool := match R with
  | some xs => allLt n xs
  | none => false
theorem okC_some {n : Nat} {R : Option (List Nat)} {xs : List Nat} (h : R = some xs) : okC n R = allLt n xs := by subst h; rfl
theorem okC_none {n : Nat} {R : Option (List Nat)} (h : R = none) : okC n R = false := by subst h; rfl
theorem grown_drew1 {a w : World} {row : Option Nat} (h : a.grownBy w row) : a.grownBy w.drew row := ⟨h.os, h.tape, h.output, h.size, h.block⟩
theorem mapM_mem : ∀ (l : List (List UInt8)) (ys : List Nat), l.mapM pW = some ys → ∀ v ∈ l, ∀ x, pW v = some x → x ∈ ys := by
  intro l
  induction l with
  | nil => intro ys _ v hv; cases hv
  | cons a l ih =>
    intro ys h v hv x hx
    rw [mapM_cons_] at h
    cases ha : pW a with
    | none => rw [ha] at h; cases h
    | some y =>
      rw [ha] at h
      cases hl : l.mapM pW with
      | none => rw [hl] at h; cases h
      | some zs =>
        rw [hl] at h
        simp at h
        subst h
        rcases List.mem_cons.1 hv with rfl | hv
        · rw [ha] at hx; injection hx with hx; subst hx; exact List.mem_cons_self
        · exact List.mem_cons_of_mem _ (ih zs hl v hv x hx)
theorem take_mem {ls : List (List UInt8)} {k : Nat} {v : List UInt8} (h : ls.take (k + 1) = ls.take k ++ [v]) : v ∈ ls := List.mem_of_mem_take (i := k + 1) (by rw [h]; simp)
theorem allLt_snoc {n x : Nat} {xs : List Nat} (h : allLt n xs = true) (hx : x < n) : allLt n (xs ++ [x]) = true := by
  unfold allLt at h ⊢; rw [List.all_append, h]; simpa using hx
theorem okC_out {n x : Nat} {ls : List (List UInt8)} {v : List UInt8} (hm : v ∈ ls) (hp : pW v = some x) (hx : ¬ x < n) : okC n (ls.mapM pW) = false := by
  cases h : ls.mapM pW with
  | none => rfl
  | some ys =>
    show allLt n ys = false
    rw [Bool.eq_false_iff]
    intro ha
    unfold allLt at ha
    rw [List.all_eq_true] at ha
    have := ha x (mapM_mem ls ys h v hm x hp)
    simp at this
    omega

set_option maxHeartbeats 1600000 in
theorem specPC (g n c base : Nat) (q : List Int) (s : ByteArray) (w : World) (hq : Row w base g n c q) (hs : s.size ≤ 1000) (hn : n ≤ 20) (R : Option (List Nat)) (hR : Hid (R = wordsP 32 s.toList)) :
    Calls Tryz.prog 45 #[.slice (some ⟨g, 0, none⟩) n c, .string s] w fun e w' => e = .returned (.bool (okC n R)) ∧ (∀ xs, R = some xs → allLt n xs = true → Row w' base g n c (setAll q xs)) ∧ w.grownBy w' (some g) := by
  have Q := Lib.hid hq
  have hgw := hq.lt_.2
  clear hq
  go_enter Tryz.func45, Tryz.ntmps45
  go_wp2_with fail
  refine (specSplit s 32 w (by omega)).mono ?_
  rintro e w1 ⟨A1, n1, c1, ws, rfl, t1, hw, h1n, hn1, hsz, b1⟩
  have T1 := Lib.hid t1
  have Q1 : Hid (Row w1 base g n c q) := Lib.hid (Q.out.below b1 hgw)
  have G1 : Hid (w.grownBy w1 (some g)) := Lib.hid (grown_below (grown_refl _ _) b1)
  have Hw := Lib.hid hw
  have Sz := Lib.hid hsz
  have lw := t1.1
  have z1 : w.heap.size ≤ w1.heap.size := b1.size
  clear t1 b1 hw hsz
  go_wp2_with fail
  go_loopg [6, 7, 8, 9] n1 (fun gg v i _ _ wr => ∃ k A c xs, k ≤ n1 ∧ n1 - k ≤ gg ∧ i = .int .i64 (k : Nat) ∧ v = .slice A k c ∧ Slc wr w1.heap.size A k c (ofN xs) ∧ ((splitB 32 s.toList).take k).mapM pW = some xs ∧ allLt n xs = true ∧ Below w1.heap.size w1 wr)
  case atStart => exact ⟨0, _, _, [], Nat.zero_le _, by omega, rfl, rfl, Slc.lit0 w1 _ (Nat.le_refl _), rfl, rfl, (Below.refl _ _).alloc (Nat.le_refl _) _⟩
  case round =>
    obtain ⟨k, A, ca, xs, hk, hg, rfl, rfl, sl, hm, hal, bel⟩ := hrel
    have Sl := Lib.hid sl
    have Hm := Lib.hid hm
    have Al := Lib.hid hal
    have Bel := Lib.hid bel
    have Rw : Hid (Row wr base g n c q) := Lib.hid (Q1.out.below bel (by omega))
    have Gr : Hid (w.grownBy wr (some g)) := Lib.hid (grown_past G1.out (grown_below (grown_refl _ none) bel) (by intro k e; cases e))
    clear sl hm hal bel
    by_cases hlt : k < n1
    · obtain ⟨g2, rfl, hg1, hg2, hc⟩ := T1.out.at_ (by omega)
      have c0 := (Bel.out.cell (p := ⟨g2, k, none⟩) hg2).trans (hc k (by omega))
      obtain ⟨u, eu⟩ : ∃ u, ws[k]'(by omega) = u := ⟨_, rfl⟩
      have hu : u.size ≤ s.size := by rw [← eu]; exact Sz.out _ (List.getElem_mem _)
      have Tk : Hid ((splitB 32 s.toList).take (k + 1) = (splitB 32 s.toList).take k ++ [u.toList]) := Lib.hid (by rw [← Hw.out, take_succ_map (by omega), eu])
      rw [eu] at c0
      clear eu hc
      rcases hp : pW u.toList with _ | x
      · have Hp := Lib.hid hp
        have Fin : Hid (R = none) := Lib.hid (by rw [hR.out, wordsP, mapM_take_none Tk.out hp])
        clear hp
        go_wp2_with fail
        refine (specInt u wr (by omega) none Hp).mono ?_
        rintro e w2 ⟨rfl, rfl⟩
        go_wp2_with fail
        go_ret
        exact ⟨by rw [okC_none Fin.out]; rfl, fun xs h => (by rw [Fin.out] at h; cases h), Gr.out⟩
      · have Hp := Lib.hid hp
        have Hm2 := Lib.hid (mapM_take_some Tk.out Hm.out hp)
        by_cases hxn : x < n
        · have d1 : decide ((n : Int) ≤ (x : Int)) = false := by simp; omega
          have Al2 := Lib.hid (allLt_snoc Al.out hxn)
          clear hp
          go_wp2_with fail
          refine (specInt u wr (by omega) (some x) Hp).mono ?_
          rintro e w2 ⟨rfl, rfl⟩
          go_wp2_with (first | (at_builtin; refine wpList_app1 rfl _ _ rfl w1.heap.size A k ca _ rfl (Sl.out.alloc _) wr.heap.size (x : Int) rfl (by rw [World.cell?_alloc_at _ _ _ _ rfl]; rfl) (by omega) (by have := Bel.out.size; simp; omega) ?_; intro A3 c3 w3 s3 g3))
          have S3 : Hid (Slc w3 w1.heap.size A3 (k + 1) c3 (ofN (xs ++ [x]))) := Lib.hid (by rw [ofN_snoc]; exact s3)
          have Bel3 : Hid (Below w1.heap.size w1 w3) := Lib.hid ((Bel.out.alloc Bel.out.size _).grown g3 (by have := Bel.out.size; simp; omega) (fun j hj => (Sl.out.lt_ j hj).1))
          clear s3 g3
          go_wp2
          go_roundg (n1 - (k + 1))
          case rel => exact ⟨k + 1, A3, c3, _, by omega, Nat.le_refl _, by go_num, rfl, S3.out, Hm2.out, Al2.out, Bel3.out⟩
          case measure => omega
        · have d1 : decide ((n : Int) ≤ (x : Int)) = true := by simp; omega
          have Fin : Hid (okC n R = false) := Lib.hid (by rw [hR.out, wordsP]; exact okC_out (take_mem Tk.out) hp hxn)
          clear hp
          go_wp2_with fail
          refine (specInt u wr (by omega) (some x) Hp).mono ?_
          rintro e w2 ⟨rfl, rfl⟩
          go_wp2_with fail
          go_ret
          exact ⟨by rw [Fin.out]; rfl, fun ys h ha => (by have := Fin.out; rw [okC_some h, ha] at this; cases this), Gr.out⟩
    · have hkn : k = n1 := by omega
      subst hkn
      have Fin : Hid (R = some xs) := Lib.hid (by
        have := Hm.out
        rw [List.take_of_length_le (by rw [← Hw.out, List.length_map, lw]; exact Nat.le_refl _)] at this
        rw [hR.out, wordsP, this])
      have lx : xs.length = k := by have := Sl.out.1; rw [ofN_len] at this; exact this
      have Lx := Lib.hid lx
      clear lx
      obtain ⟨wl, rfl⟩ : ∃ wl, wl = wr := ⟨_, rfl⟩
      go_wp2_with fail
      go_loopg [10] k (fun gg i wr2 => ∃ j, j ≤ k ∧ k - j ≤ gg ∧ i = .int .i64 (j : Nat) ∧ Row wr2 base g n c (setK q xs j) ∧ wl.grownBy wr2 (some g))
      case atStart => exact ⟨0, Nat.zero_le _, by omega, rfl, Rw.out, grown_refl _ _⟩
      case round =>
        obtain ⟨j, hj, hgj, rfl, row, gro⟩ := hrel
        have Rw2 := Lib.hid row
        have Gr2 := Lib.hid gro
        clear row gro
        by_cases hjl : j < k
        · obtain ⟨b, off, rfl, hb, hc⟩ := Sl.out.ri_ (by rw [Sl.out.1]; omega)
          have hbg : b ≠ g := by
            rcases Sl.out.at_ with ⟨_, _, e0, _⟩ | ⟨q3, e0, e1, e2⟩
            · omega
            · injection e0 with e0; injection e0 with e0; omega
          have hm2 := Nat.mod_lt (j + 1) (show 0 < k by omega)
          have cellAt : ∀ i, i < k → wr.cell? ⟨b, off + i, none⟩ = some (.int .i64 ((xs.getD i 0 : Nat) : Int)) := fun i hi => by
            rw [World.cell?_of_block (Gr2.out.block b hb (fun e => hbg (by injection e))), hc i (by rw [ofN_len, Lx.out]; exact hi)]
            have : (ofN xs).getD i 0 = ((xs.getD i 0 : Nat) : Int) := by
              unfold ofN
              rw [List.getD_eq_getElem?_getD, List.getElem?_map, List.getD_eq_getElem?_getD, List.getElem?_eq_getElem (by rw [Lx.out]; exact hi)]; rfl
            rw [this]
          have c1' := cellAt j hjl
          have c2' := cellAt ((j + 1) % k) hm2
          obtain ⟨x, ex⟩ : ∃ x, xs.getD j 0 = x := ⟨_, rfl⟩
          obtain ⟨y, ey⟩ : ∃ y, xs.getD ((j + 1) % k) 0 = y := ⟨_, rfl⟩
          have Sk : Hid (setK q xs (j + 1) = (setK q xs j).set x (y : Int)) := Lib.hid (by rw [setK, Lx.out, ex, ey])
          have hxn : x < n := by
            have ha := Al.out
            unfold allLt at ha
            rw [List.all_eq_true] at ha
            have hmem : x ∈ xs := by
              rw [← ex, List.getD_eq_getElem?_getD, List.getElem?_eq_getElem (by rw [Lx.out]; exact hjl)]
              exact List.getElem_mem _
            have := ha x hmem
            simpa using this
          obtain ⟨z, ez⟩ : ∃ z, (j + 1) % k = z := ⟨_, rfl⟩
          have eint : (((j : Int) + 1) % (k : Int)) = (z : Int) := by rw [← ez]; exact_mod_cast rfl
          rw [ex] at c1'
          rw [ey, ez] at c2'
          rw [ez] at hm2
          have c3 := Rw2.out.cell hxn
          have f3 := Rw2.out.free x
          have Rw3 := Lib.hid (Rw2.out.store x (y : Int))
          have Gr3 := Lib.hid (grown_set Gr2.out x (.int .i64 (y : Int)))
          clear cellAt hc ex ey ez
          go_wp2_with fail
          go_region
          all_goals go_wp2_with fail
          all_goals go_roundg (k - (j + 1))
          case rel => exact ⟨j + 1, by omega, Nat.le_refl _, by go_num, by rw [Sk.out]; exact Rw3.out.drew, grown_drew1 Gr3.out⟩
          case measure => omega
        · have hjk : j = k := by omega
          subst hjk
          have Sf : Hid (setK q xs j = setAll q xs) := Lib.hid (by unfold setAll; rw [Lx.out])
          have G2 : Hid (w.grownBy wr (some g)) := Lib.hid (grown_join Gr.out Gr2.out)
          go_wp2_with fail
          go_ret
          exact ⟨by rw [okC_some Fin.out, Al.out]; rfl, fun ys h _ => (by rw [Fin.out] at h; injection h with h; subst h; rw [← Sf.out]; exact Rw2.out), G2.out⟩
end Go.Proofs.YtkjokchhffjidaaGreatDoor

/- The model's ParseCycles. Condition: at most 2097152 bytes. -/
namespace Go.Proofs.YtkjokchhffjidaaGreatDoor
open Go.RowKit

theorem pcM_bad {n : Nat} {l : List UInt8} (h : ¬ (2 ≤ l.length ∧ l.head? = some 40 ∧ l.getLast? = some 41)) : pcM n l = none := by
  unfold pcM
  rw [if_neg (fun e => h (by subst e; exact ⟨by decide, rfl, rfl⟩)), if_neg h]
theorem cycO_bad {n : Int} {s : ByteArray} (h : ¬ (2 ≤ s.toList.length ∧ s.toList.head? = some 40 ∧ s.toList.getLast? = some 41)) : cycO n s = none := by
  by_cases hr : 1 ≤ n ∧ n ≤ 20 ∧ s.size ≤ 200
  · rw [cycO_model hr, pcM_bad h]; rfl
  · exact cycO_out hr
/-- Where the model's way stands before part k. -/
def pcInv (l inner : List UInt8) (RR : Option (List Int)) (k : Nat) (q : List Int) : Prop :=
  (l = [40, 41] → RR = some q) ∧ (l ≠ [40, 41] → pcS (decide (k = 0)) q ((splitB 41 inner).drop k) = RR)
theorem pcInv_start {n : Nat} {l inner : List UInt8} (h : 2 ≤ l.length ∧ l.head? = some 40 ∧ l.getLast? = some 41) (hi : inner = (l.drop 1).take (l.length - 2)) : pcInv l inner (pcM n l) 0 (idL n) := by
  refine ⟨fun e => ?_, fun e => ?_⟩
  · unfold pcM; rw [if_pos e]
  · unfold pcM; rw [if_neg e, if_pos h, hi]; rfl
theorem pcInv_end {l inner : List UInt8} {RR : Option (List Int)} {k : Nat} {q : List Int} (h : pcInv l inner RR k q) (he : (splitB 41 inner).length ≤ k ∨ l = [40, 41]) : RR = some q := by
  by_cases e : l = [40, 41]
  · exact h.1 e
  · rcases he with he | he
    · rw [← h.2 e, List.drop_eq_nil_of_le he, pcS]
    · exact absurd he e
/-- What a part's numbers lead to. -/
def stepR (n : Nat) (q : List Int) (ps : List (List UInt8)) (R : Option (List Nat)) : Option (List Int) := match R with
      | none => none
      | some xs => if allLt n xs = true then pcS false (setAll q xs) ps else none
theorem stepR_no {n : Nat} {q : List Int} {ps : List (List UInt8)} {R : Option (List Nat)} (h : okC n R = false) : stepR n q ps R = none := by
  cases R with
  | none => rfl
  | some xs => have h : allLt n xs = false := h; unfold stepR; simp [h]
theorem stepR_yes {n : Nat} {q : List Int} {ps : List (List UInt8)} {R : Option (List Nat)} (h : okC n R = true) : ∃ xs, R = some xs ∧ allLt n xs = true ∧ stepR n q ps R = pcS false (setAll q xs) ps := by
  cases R with
  | none => cases h
  | some xs => have h : allLt n xs = true := h; exact ⟨xs, rfl, h, by unfold stepR; simp [h]⟩
theorem pcInv_first {l inner : List UInt8} {RR : Option (List Int)} {k n : Nat} {q : List Int} {v : List UInt8} (h : pcInv l inner RR k q) (hl : l ≠ [40, 41]) (hk : k = 0) (lq : q.length = n) (hd : (splitB 41 inner).drop k = v :: (splitB 41 inner).drop (k + 1)) : RR = stepR n q ((splitB 41 inner).drop (k + 1)) (wordsP 32 v) := by
  rw [← h.2 hl, hd, decide_eq_true hk, pcS_first, lq]; rfl
theorem pcInv_next {l inner : List UInt8} {RR : Option (List Int)} {k n : Nat} {q : List Int} {v t : List UInt8} (h : pcInv l inner RR k q) (hl : l ≠ [40, 41]) (hk : k ≠ 0) (lq : q.length = n) (hd : (splitB 41 inner).drop k = v :: (splitB 41 inner).drop (k + 1)) (hv : v = 40 :: t) : RR = stepR n q ((splitB 41 inner).drop (k + 1)) (wordsP 32 t) := by
  subst hv; rw [← h.2 hl, hd, decide_eq_false hk, pcS_next, lq]; rfl
theorem pcInv_bad {l inner : List UInt8} {RR : Option (List Int)} {k : Nat} {q : List Int} {v : List UInt8} (h : pcInv l inner RR k q) (hl : l ≠ [40, 41]) (hk : k ≠ 0) (hd : (splitB 41 inner).drop k = v :: (splitB 41 inner).drop (k + 1)) (hv : v.head? ≠ some 40) : RR = none := by
  rw [← h.2 hl, hd, decide_eq_false hk, pcS_bad _ _ _ hv]
theorem pcInv_go {l inner : List UInt8} {RR : Option (List Int)} {k : Nat} {q : List Int} (hl : l ≠ [40, 41]) (h : pcS false q ((splitB 41 inner).drop (k + 1)) = RR) : pcInv l inner RR (k + 1) q := ⟨fun e => absurd e hl, fun _ => h⟩
theorem last_toList (s : ByteArray) {t : Nat} (h : t + 1 = s.size) : s.toList.getLast? = some (s[t]'(by omega)) := by
  have e : s.size - 1 = t := by omega
  rw [List.getLast?_eq_getElem?, len_toList, e]
  rw [List.getElem?_eq_getElem (by rw [len_toList]; omega)]
  have := rest_get s 0 t (by rw [rest_len]; omega) (by omega)
  simp only [Nat.zero_add] at this
  rw [← this]
  rfl
theorem drop_map {ws : List ByteArray} {k : Nat} (hk : k < ws.length) : (ws.map ByteArray.toList).drop k = ws[k].toList :: (ws.map ByteArray.toList).drop (k + 1) := by
  rw [List.drop_eq_getElem_cons (by rw [List.length_map]; exact hk), List.getElem_map]
theorem bne40 {x : UInt8} {b : UInt8} (h : x ≠ b) : ((x.toNat : Int) != (b.toNat : Int)) = true := by
  rw [bne_iff_ne]; exact fun e => h (UInt8.toNat_inj.1 (by omega))

set_option maxHeartbeats 2000000 in
theorem specPC_core (n : Nat) (s : ByteArray) (w : World) (h1 : 1 ≤ n) (h2 : n ≤ 20) (h3 : s.size ≤ 200) (t : Nat) (ht : Hid (t + 1 = s.size)) (t1 : 1 ≤ t) (z0 : 0 < s.size) (b0 : s[0] = 40) (bt : ∀ h : t < s.size, s[t] = 41) (O : Option (List Int)) (hO : Hid (O = chk s.toList (pcM n s.toList))) :
    Calls Tryz.prog 32 #[.int .i64 (n : Int), .string s] w fun e w' => ∃ A m c, e = .returned (.tuple #[.slice A m c, .bool O.isSome]) ∧ Slc w' w.heap.size A m c (O.getD []) ∧ m ≤ 20 ∧ Below w.heap.size w w' := by
  have hts : t < s.size := by have := ht.out; omega
  have d1 : decide ((s.size : Int) < 2) = false := by have := ht.out; simp; omega
  have d3 : decide ((200 : Int) < s.size) = false := by simp; omega
  have f0 : (((s[0]).toNat : Int) != 40) = false := by rw [b0]; rfl
  have ft : (((s[t]).toNat : Int) != 41) = false := by rw [bt hts]; rfl
  have et : (s.size : Int) - 1 = (t : Int) := by have := ht.out; omega
  have p1 : (1 : Int) ≤ t := by omega
  have p2 : (t : Int) ≤ s.size := by omega
  have p3 : (0 : Int) < s.size := by omega
  have p4 : (t : Int) < s.size := by omega
  have p5 : (0 : Int) ≤ t := by omega
  obtain ⟨inner, hin⟩ : ∃ l, (s.extract 1 t).toList = l := ⟨_, rfl⟩
  have Inn := Lib.hid hin
  clear hin
  obtain ⟨RR, hRR⟩ : ∃ RR, pcM n s.toList = RR := ⟨_, rfl⟩
  have Start : Hid (pcInv s.toList inner RR 0 (idL n)) := Lib.hid (by
    rw [← hRR]
    refine pcInv_start ⟨by rw [len_toList]; omega, by rw [head_toList s z0, b0], by rw [last_toList s ht.out, bt hts]⟩ ?_
    rw [← Inn.out, extract_toList, len_toList]
    have := ht.out
    rw [show s.size - 2 = t - 1 by omega])
  rw [hRR] at hO
  clear hRR b0 bt
  go_enter Tryz.func32, Tryz.ntmps32
  go_wp2_with (first | (go_at_call 42; refine (inR_true _ _ _ _ (by omega) (by omega)).mono ?_; rintro e w' ⟨rfl, rfl⟩) | (go_at_call 43; refine (specIdent n w (by omega)).mono ?_; rintro e w1 ⟨A1, c1, rfl, s1, b1⟩))
  obtain ⟨gp, rfl, hg1, hg2⟩ : ∃ gp, A1 = some ⟨gp, 0, none⟩ ∧ w.heap.size ≤ gp ∧ gp < w1.heap.size := by
    rcases s1.at_ with ⟨_, _, e0, _⟩ | ⟨gp, e0, e1, e2⟩
    · omega
    · exact ⟨gp, e0, e1, e2⟩
  have Q1 : Hid (Row w1 w.heap.size gp n c1 (idL n)) := Lib.hid (Row.of_own (by have := s1.2; rw [← s1.1] at this; rw [s1.1] at this; exact this))
  have B1 := Lib.hid b1
  have z1 := b1.size
  have hnc := s1.le.1
  clear s1 b1
  go_wp2_with fail
  refine (specSplit (s.extract 1 t) 41 w1 (by rw [ByteArray.size_extract]; omega)).mono ?_
  rintro e w2 ⟨A2, n2, c2, ws, rfl, t2, hw, h1n, hn1, hsz, b2⟩
  have T2 := Lib.hid t2
  have Q2 : Hid (Row w2 w.heap.size gp n c1 (idL n)) := Lib.hid (Q1.out.below b2 hg2)
  have B2 : Hid (Below w.heap.size w w2) := Lib.hid (btr B1.out b2)
  have Hw : Hid (ws.map ByteArray.toList = splitB 41 inner) := Lib.hid (by rw [hw, Inn.out])
  have Sz : Hid (∀ u ∈ ws, u.size ≤ 200) := Lib.hid fun u hu => by have := hsz u hu; rw [ByteArray.size_extract] at this; omega
  have lw := t2.1
  have z2 := b2.size
  clear t2 b2 hw hsz
  go_wp2_with fail
  go_loopg [8, 9] n2 (fun gg i _ wr => ∃ k q, k ≤ n2 ∧ n2 - k ≤ gg ∧ i = .int .i64 (k : Nat) ∧ Row wr w.heap.size gp n c1 q ∧ pcInv s.toList inner RR k q ∧ w2.grownBy wr (some gp) ∧ Below w.heap.size w wr)
  case atStart => exact ⟨0, idL n, Nat.zero_le _, by omega, rfl, Q2.out, Start.out, grown_refl _ _, B2.out⟩
  case round =>
    obtain ⟨k, q, hk, hg, rfl, row, inv, gro, bel⟩ := hrel
    have Rw := Lib.hid row
    have Inv := Lib.hid inv
    have Gr := Lib.hid gro
    have Bel := Lib.hid bel
    have lq := row.1
    clear row inv gro bel
    by_cases hgo : k < n2 ∧ s.toList ≠ [40, 41]
    · have hlt := hgo.1
      have Hne := Lib.hid hgo.2
      have te : (s.toList == [40, 41]) = false := by simpa using hgo.2
      obtain ⟨g2, rfl, hg3, hg4, hc⟩ := (T2.out.kept Gr.out (by
        right
        intro e
        have := (T2.out.lt_ _ e).1
        omega)).at_ (by omega)
      have c0 := hc k (by omega)
      obtain ⟨u, eu⟩ : ∃ u, ws[k]'(by omega) = u := ⟨_, rfl⟩
      have hu : u.size ≤ 200 := by rw [← eu]; exact Sz.out _ (List.getElem_mem _)
      have Dk : Hid ((splitB 41 inner).drop k = u.toList :: (splitB 41 inner).drop (k + 1)) := Lib.hid (by rw [← Hw.out, drop_map (by omega), eu])
      rw [eu] at c0
      clear eu hc hgo
      by_cases hk0 : k = 0
      · have dk : decide (0 < k) = false := by simp; omega
        have St : Hid (RR = stepR n q ((splitB 41 inner).drop (k + 1)) (wordsP 32 u.toList)) := Lib.hid (pcInv_first Inv.out Hne.out hk0 lq Dk.out)
        clear hk0
        go_wp2_with fail
        refine (specPC gp n c1 w.heap.size q u wr Rw.out (by omega) h2 (wordsP 32 u.toList) (Lib.hid rfl)).mono ?_
        rintro e w4 ⟨he4, hrow, g4⟩
        have Bel4 : Hid (Below w.heap.size w w4) := Lib.hid (Bel.out.grown g4 Bel.out.size (fun k e => by injection e with e; omega))
        have Gr4 : Hid (w2.grownBy w4 (some gp)) := Lib.hid (grown_join Gr.out g4)
        rcases ha : okC n (wordsP 32 u.toList) with _ | _
        · have O1 : Hid (O = none) := Lib.hid (by rw [hO.out, St.out, stepR_no ha]; rfl)
          rw [ha] at he4
          subst he4
          clear hrow g4 ha
          go_wp2_with fail
          go_ret2
          exact ⟨_, _, _, by rw [O1.out]; rfl, by rw [O1.out]; exact Slc.lit0 w4 _ Bel4.out.size, Nat.zero_le _, Bel4.out.alloc Bel4.out.size _⟩
        · obtain ⟨xs, e1, e2, e3⟩ := stepR_yes (q := q) (ps := (splitB 41 inner).drop (k + 1)) ha
          have Rw4 := Lib.hid (hrow xs e1 e2)
          have Inv4 : Hid (pcInv s.toList inner RR (k + 1) (setAll q xs)) := Lib.hid (pcInv_go Hne.out (by rw [St.out, e3]))
          rw [ha] at he4
          subst he4
          clear hrow g4 ha e1 e2 e3
          go_wp2_with fail
          go_roundg (n2 - (k + 1))
          case rel => exact ⟨k + 1, setAll q xs, by omega, Nat.le_refl _, by go_num, Rw4.out, Inv4.out, Gr4.out, Bel4.out⟩
          case measure => omega
      · have dk : decide (0 < k) = true := by simp; omega
        have kp : 0 < k := by omega
        by_cases hu0 : u.size = 0
        · have e0 : ((u.size : Int) == 0) = true := by rw [beq_iff_eq]; omega
          have O1 : Hid (O = none) := Lib.hid (by
            rw [hO.out, pcInv_bad Inv.out Hne.out hk0 Dk.out (by rw [List.head?_eq_getElem?, List.getElem?_eq_none (by rw [len_toList]; omega)]; simp)]; rfl)
          clear hk0 hu0
          go_wp2_with fail
          go_ret2
          exact ⟨_, _, _, by rw [O1.out]; rfl, by rw [O1.out]; exact Slc.lit0 wr _ Bel.out.size, Nat.zero_le _, Bel.out.alloc Bel.out.size _⟩
        · have e0 : ((u.size : Int) == 0) = false := by rw [beq_eq_false_iff_ne]; omega
          have u0 : 0 < u.size := by omega
          have v0 : (0 : Int) < u.size := by omega
          have v1 : (1 : Int) ≤ u.size := by omega
          by_cases hb : u[0] = 40
          · have fb : (((u[0]).toNat : Int) != 40) = false := by rw [hb]; rfl
            obtain ⟨b, eb⟩ : ∃ b, u.extract 1 u.size = b := ⟨_, rfl⟩
            have sb : b.size ≤ 200 := by rw [← eb, ByteArray.size_extract]; omega
            have Sp : Hid (u.toList = 40 :: b.toList) := Lib.hid (by
              rw [← eb, extract_toList]
              have hh := head_toList u u0
              have hl := len_toList u
              cases hx : u.toList with
              | nil => rw [hx] at hl; simp at hl; omega
              | cons a r =>
                rw [hx] at hh hl
                simp at hh hl
                rw [hh, hb]
                show _ = 40 :: List.take _ r
                rw [List.take_of_length_le (by omega)])
            have St : Hid (RR = stepR n q ((splitB 41 inner).drop (k + 1)) (wordsP 32 b.toList)) := Lib.hid (pcInv_next Inv.out Hne.out hk0 lq Dk.out Sp.out)
            clear hk0 hu0 hb
            go_wp2_with fail
            refine (specPC gp n c1 w.heap.size q b wr Rw.out (by omega) h2 (wordsP 32 b.toList) (Lib.hid rfl)).mono ?_
            rintro e w4 ⟨he4, hrow, g4⟩
            have Bel4 : Hid (Below w.heap.size w w4) := Lib.hid (Bel.out.grown g4 Bel.out.size (fun k e => by injection e with e; omega))
            have Gr4 : Hid (w2.grownBy w4 (some gp)) := Lib.hid (grown_join Gr.out g4)
            rcases ha : okC n (wordsP 32 b.toList) with _ | _
            · have O1 : Hid (O = none) := Lib.hid (by rw [hO.out, St.out, stepR_no ha]; rfl)
              rw [ha] at he4
              subst he4
              clear hrow g4 ha
              go_wp2_with fail
              go_ret2
              exact ⟨_, _, _, by rw [O1.out]; rfl, by rw [O1.out]; exact Slc.lit0 w4 _ Bel4.out.size, Nat.zero_le _, Bel4.out.alloc Bel4.out.size _⟩
            · obtain ⟨xs, e1, e2, e3⟩ := stepR_yes (q := q) (ps := (splitB 41 inner).drop (k + 1)) ha
              have Rw4 := Lib.hid (hrow xs e1 e2)
              have Inv4 : Hid (pcInv s.toList inner RR (k + 1) (setAll q xs)) := Lib.hid (pcInv_go Hne.out (by rw [St.out, e3]))
              rw [ha] at he4
              subst he4
              clear hrow g4 ha e1 e2 e3
              go_wp2_with fail
              go_roundg (n2 - (k + 1))
              case rel => exact ⟨k + 1, setAll q xs, by omega, Nat.le_refl _, by go_num, Rw4.out, Inv4.out, Gr4.out, Bel4.out⟩
              case measure => omega
          · have fb : (((u[0]).toNat : Int) != 40) = true := bne40 (b := 40) hb
            have O1 : Hid (O = none) := Lib.hid (by
              rw [hO.out, pcInv_bad Inv.out Hne.out hk0 Dk.out (by rw [head_toList u u0]; intro e; injection e with e; exact hb e)]; rfl)
            clear hk0 hu0 hb
            go_wp2_with fail
            go_ret2
            exact ⟨_, _, _, by rw [O1.out]; rfl, by rw [O1.out]; exact Slc.lit0 wr _ Bel.out.size, Nat.zero_le _, Bel.out.alloc Bel.out.size _⟩
    · have Rq : Hid (RR = some q) := Lib.hid (pcInv_end Inv.out (by
        rw [← Hw.out, List.length_map, lw]
        by_cases hl : s.toList = [40, 41]
        · exact .inr hl
        · exact .inl (by have : ¬ k < n2 := fun h => hgo ⟨h, hl⟩; omega)))
      have key : ¬ k < n2 ∨ (k < n2 ∧ (s.toList == [40, 41]) = true) := by
        by_cases hl : k < n2
        · refine .inr ⟨hl, ?_⟩
          have : s.toList = [40, 41] := Decidable.byContradiction fun h => hgo ⟨hl, h⟩
          rw [this]; rfl
        · exact .inl hl
      clear hgo
      rcases key with dl | ⟨dl, te⟩
      all_goals
        go_wp2_with fail
        refine (specFormatCycles (some ⟨gp, 0, none⟩) c1 n q wr Rw.out.slc.ri_ Rw.out.slc.hid (by omega) hnc).mono ?_
        rintro e w3 ⟨tt, rfl, htt, b3⟩
        have Bel3 : Hid (Below w.heap.size w w3) := Lib.hid (btr Bel.out b3)
        have S3 := Lib.hid (Rw.out.slc.up b3)
        clear b3
        by_cases he : fmtCyc q = s.toList
        · have O1 : Hid (O = some q) := Lib.hid (by rw [hO.out, Rq.out, chk_yes he])
          have te2 : (tt.toList == s.toList) = true := by rw [htt, he]; simp
          clear htt he
          go_wp2_with fail
          go_ret2
          exact ⟨_, _, _, by rw [O1.out]; rfl, by rw [O1.out]; exact S3.out, h2, Bel3.out⟩
        · have O1 : Hid (O = none) := Lib.hid (by rw [hO.out, Rq.out, chk_no he])
          have te2 : (tt.toList == s.toList) = false := by rw [htt]; simpa using he
          clear htt he
          go_wp2_with fail
          go_ret2
          exact ⟨_, _, _, by rw [O1.out]; rfl, by rw [O1.out]; exact Slc.lit0 w3 _ Bel3.out.size, Nat.zero_le _, Bel3.out.alloc Bel3.out.size _⟩

/-- The model's ParseCycles. -/
theorem specParseCycles0 (n : Int) (s : ByteArray) (w : World) (hs : s.size ≤ 2097152) :
    Calls Tryz.prog 32 #[.int .i64 n, .string s] w fun e w' => ∃ A m c, e = .returned (.tuple #[.slice A m c, .bool (cycO n s).isSome]) ∧ Slc w' w.heap.size A m c ((cycO n s).getD []) ∧ m ≤ 20 ∧ Below w.heap.size w w' := by
  by_cases hr : 1 ≤ n ∧ n ≤ 20
  · by_cases d1 : s.size < 2
    · have d1' : decide ((s.size : Int) < 2) = true := by simp; omega
      have Fin : Hid (cycO n s = none) := Lib.hid (cycO_bad fun h => by have := h.1; rw [len_toList] at this; omega)
      go_enter Tryz.func32, Tryz.ntmps32
      go_wp2_with (go_at_call 42; refine (inR_true _ _ _ _ hr.1 hr.2).mono ?_; rintro e w' ⟨rfl, rfl⟩)
      go_ret2
      exact ⟨_, _, _, by rw [Fin.out]; rfl, by rw [Fin.out]; exact Slc.lit0 w _ (Nat.le_refl _), Nat.zero_le _, (Below.refl _ _).alloc (Nat.le_refl _) _⟩
    have d1' : decide ((s.size : Int) < 2) = false := by simp; omega
    by_cases h3 : s.size ≤ 200
    · have d3 : decide ((200 : Int) < s.size) = false := by simp; omega
      have z0 : 0 < s.size := by omega
      have p3 : (0 : Int) < s.size := by omega
      by_cases hb : s[0] = 40
      · obtain ⟨t, ht⟩ : ∃ t, t + 1 = s.size := ⟨s.size - 1, by omega⟩
        by_cases hb2 : s[t] = 41
        · obtain ⟨m, rfl⟩ := Int.eq_ofNat_of_zero_le (show 0 ≤ n by omega)
          exact specPC_core m s w (by omega) (by omega) h3 t (Lib.hid ht) (by omega) z0 hb (fun _ => hb2) _ (Lib.hid (cycO_model ⟨hr.1, hr.2, h3⟩))
        · have Fin : Hid (cycO n s = none) := Lib.hid (cycO_bad fun h => by
            have := h.2.2; rw [last_toList s ht] at this; injection this with this; exact hb2 this)
          have hts : t < s.size := by omega
          have f0 : (((s[0]).toNat : Int) != 40) = false := by rw [hb]; rfl
          have ft : (((s[t]).toNat : Int) != 41) = true := bne40 (b := 41) hb2
          have et : (s.size : Int) - 1 = (t : Int) := by omega
          have p4 : (t : Int) < s.size := by omega
          have p5 : (0 : Int) ≤ t := by omega
          clear ht hb hb2
          go_enter Tryz.func32, Tryz.ntmps32
          go_wp2_with (go_at_call 42; refine (inR_true _ _ _ _ hr.1 hr.2).mono ?_; rintro e w' ⟨rfl, rfl⟩)
          go_ret2
          exact ⟨_, _, _, by rw [Fin.out]; rfl, by rw [Fin.out]; exact Slc.lit0 w _ (Nat.le_refl _), Nat.zero_le _, (Below.refl _ _).alloc (Nat.le_refl _) _⟩
      · have Fin : Hid (cycO n s = none) := Lib.hid (cycO_bad fun h => by
          have := h.2.1; rw [head_toList s z0] at this; injection this with this; exact hb this)
        have f0 : (((s[0]).toNat : Int) != 40) = true := bne40 (b := 40) hb
        clear hb
        go_enter Tryz.func32, Tryz.ntmps32
        go_wp2_with (go_at_call 42; refine (inR_true _ _ _ _ hr.1 hr.2).mono ?_; rintro e w' ⟨rfl, rfl⟩)
        go_ret2
        exact ⟨_, _, _, by rw [Fin.out]; rfl, by rw [Fin.out]; exact Slc.lit0 w _ (Nat.le_refl _), Nat.zero_le _, (Below.refl _ _).alloc (Nat.le_refl _) _⟩
    · have d3 : decide ((200 : Int) < s.size) = true := by simp; omega
      have Fin : Hid (cycO n s = none) := Lib.hid (cycO_out fun h => h3 h.2.2)
      go_enter Tryz.func32, Tryz.ntmps32
      go_wp2_with (go_at_call 42; refine (inR_true _ _ _ _ hr.1 hr.2).mono ?_; rintro e w' ⟨rfl, rfl⟩)
      go_ret2
      exact ⟨_, _, _, by rw [Fin.out]; rfl, by rw [Fin.out]; exact Slc.lit0 w _ (Nat.le_refl _), Nat.zero_le _, (Below.refl _ _).alloc (Nat.le_refl _) _⟩
  · have Fin : Hid (cycO n s = none) := Lib.hid (cycO_out fun h => hr ⟨h.1, h.2.1⟩)
    have H1 : Hid (n < 1 ∨ 20 < n) := Lib.hid (by omega)
    go_enter Tryz.func32, Tryz.ntmps32
    go_wp2_with (go_at_call 42; refine (inR_false _ _ _ _ H1.out).mono ?_; rintro e w' ⟨rfl, rfl⟩)
    go_ret2
    exact ⟨_, _, _, by rw [Fin.out]; rfl, by rw [Fin.out]; exact Slc.lit0 w _ (Nat.le_refl _), Nat.zero_le _, (Below.refl _ _).alloc (Nat.le_refl _) _⟩
theorem specParseCycles (n : Int) (s : ByteArray) (w : World) (hs : s.size ≤ 2097152) (_hn : -9223372036854775808 ≤ n ∧ n ≤ 9223372036854775807) :
    Calls Tryz.prog 32 #[.int .i64 n, .string s] w fun e w' => ∃ A m c, e = .returned (.tuple #[.slice A m c, .bool (cycO n s).isSome]) ∧ Slc w' w.heap.size A m c ((cycO n s).getD []) ∧ m ≤ 20 ∧ Below w.heap.size w w' := specParseCycles0 n s w hs
end Go.Proofs.YtkjokchhffjidaaGreatDoor

/- The known puzzles: what their texts read, and the table. -/
namespace Go.Proofs.YtkjokchhffjidaaGreatDoor
open Go.RowKit

theorem isP_of {p : List Int} (h : 1 ≤ p.length ∧ p.length ≤ 20 ∧ (∀ i, i < p.length → 0 ≤ p.getD i 0 ∧ p.getD i 0 < p.length) ∧ ∀ i, i < p.length → ∀ j, j < p.length → p.getD i 0 = p.getD j 0 → i = j) : IsP p :=
  ⟨h.1, h.2.1, fun i hi => (h.2.2.1 i hi).1, fun i hi => (h.2.2.1 i hi).2, fun i j hi hj e => h.2.2.2 i hi j hj e⟩
theorem cycO_lit (n : Int) (s : ByteArray) (l : List UInt8) (p : List Int) (hs : s.data.toList = l) (h : 1 ≤ n ∧ n ≤ 20 ∧ s.size ≤ 200) (hp : IsP p) (hl : p.length = n.toNat) (hf : fmtCyc p = l) : cycO n s = some p :=
  (cycO_wr h p).2 ⟨hp, hl, by rw [hf, ByteArray.toList_eq, hs]⟩
theorem kn0_0 : cycO 4 ⟨#[40, 48, 32, 49, 41]⟩ = some [1, 0, 2, 3] := cycO_lit _ _ _ _ rfl (by decide) (isP_of (by decide)) rfl (by decide)
theorem kn0_1 : cycO 4 ⟨#[40, 49, 32, 50, 41]⟩ = some [0, 2, 1, 3] := cycO_lit _ _ _ _ rfl (by decide) (isP_of (by decide)) rfl (by decide)
theorem kn0_2 : cycO 4 ⟨#[40, 50, 32, 51, 41]⟩ = some [0, 1, 3, 2] := cycO_lit _ _ _ _ rfl (by decide) (isP_of (by decide)) rfl (by decide)
theorem kn1_0 : cycO 6 ⟨#[40, 48, 32, 49, 32, 50, 32, 51, 32, 52, 32, 53, 41]⟩ = some [1, 2, 3, 4, 5, 0] := cycO_lit _ _ _ _ rfl (by decide) (isP_of (by decide)) rfl (by decide)
theorem kn1_1 : cycO 6 ⟨#[40, 48, 32, 50, 41]⟩ = some [2, 1, 0, 3, 4, 5] := cycO_lit _ _ _ _ rfl (by decide) (isP_of (by decide)) rfl (by decide)
theorem kn2_0 : cycO 6 ⟨#[40, 48, 32, 49, 32, 50, 32, 51, 41]⟩ = some [1, 2, 3, 0, 4, 5] := cycO_lit _ _ _ _ rfl (by decide) (isP_of (by decide)) rfl (by decide)
theorem kn2_1 : cycO 6 ⟨#[40, 50, 32, 51, 32, 52, 32, 53, 41]⟩ = some [0, 1, 3, 4, 5, 2] := cycO_lit _ _ _ _ rfl (by decide) (isP_of (by decide)) rfl (by decide)
theorem kn3_0 : cycO 7 ⟨#[40, 48, 32, 49, 32, 50, 32, 51, 41]⟩ = some [1, 2, 3, 0, 4, 5, 6] := cycO_lit _ _ _ _ rfl (by decide) (isP_of (by decide)) rfl (by decide)
theorem kn3_1 : cycO 7 ⟨#[40, 49, 32, 50, 32, 54, 32, 53, 41]⟩ = some [0, 2, 6, 3, 4, 1, 5] := cycO_lit _ _ _ _ rfl (by decide) (isP_of (by decide)) rfl (by decide)
theorem kn3_2 : cycO 7 ⟨#[40, 48, 32, 52, 32, 53, 32, 49, 41]⟩ = some [4, 0, 2, 3, 5, 1, 6] := cycO_lit _ _ _ _ rfl (by decide) (isP_of (by decide)) rfl (by decide)
theorem kn4_0 : cycO 12 ⟨#[40, 48, 32, 49, 41, 40, 52, 32, 53, 41]⟩ = some [1, 0, 2, 3, 5, 4, 6, 7, 8, 9, 10, 11] := cycO_lit _ _ _ _ rfl (by decide) (isP_of (by decide)) rfl (by decide)
theorem kn4_1 : cycO 12 ⟨#[40, 49, 32, 50, 41, 40, 54, 32, 55, 41]⟩ = some [0, 2, 1, 3, 4, 5, 7, 6, 8, 9, 10, 11] := cycO_lit _ _ _ _ rfl (by decide) (isP_of (by decide)) rfl (by decide)
theorem kn4_2 : cycO 12 ⟨#[40, 50, 32, 51, 41, 40, 56, 32, 57, 41]⟩ = some [0, 1, 3, 2, 4, 5, 6, 7, 9, 8, 10, 11] := cycO_lit _ _ _ _ rfl (by decide) (isP_of (by decide)) rfl (by decide)
theorem kn4_3 : cycO 12 ⟨#[40, 48, 32, 51, 41, 40, 49, 48, 32, 49, 49, 41]⟩ = some [3, 1, 2, 0, 4, 5, 6, 7, 8, 9, 11, 10] := cycO_lit _ _ _ _ rfl (by decide) (isP_of (by decide)) rfl (by decide)
theorem kn5_0 : cycO 12 ⟨#[40, 48, 32, 49, 32, 50, 41, 40, 51, 32, 54, 32, 57, 41]⟩ = some [1, 2, 0, 6, 4, 5, 9, 7, 8, 3, 10, 11] := cycO_lit _ _ _ _ rfl (by decide) (isP_of (by decide)) rfl (by decide)
theorem kn5_1 : cycO 12 ⟨#[40, 48, 32, 55, 32, 49, 48, 41, 40, 51, 32, 52, 32, 53, 41]⟩ = some [7, 1, 2, 4, 5, 3, 6, 10, 8, 9, 0, 11] := cycO_lit _ _ _ _ rfl (by decide) (isP_of (by decide)) rfl (by decide)
theorem kn5_2 : cycO 12 ⟨#[40, 49, 32, 52, 32, 49, 49, 41, 40, 54, 32, 55, 32, 56, 41]⟩ = some [0, 4, 2, 3, 11, 5, 7, 8, 6, 9, 10, 1] := cycO_lit _ _ _ _ rfl (by decide) (isP_of (by decide)) rfl (by decide)
theorem kn5_3 : cycO 12 ⟨#[40, 50, 32, 53, 32, 56, 41, 40, 57, 32, 49, 48, 32, 49, 49, 41]⟩ = some [0, 1, 5, 3, 4, 8, 6, 7, 2, 10, 11, 9] := cycO_lit _ _ _ _ rfl (by decide) (isP_of (by decide)) rfl (by decide)
/-- The degree of a known puzzle. -/
def knN (k : Int) : Int := if k = 0 then 4 else if k = 1 then 6 else if k = 2 then 6 else if k = 3 then 7 else if k = 4 then 12 else if k = 5 then 12 else 0
/-- Its names. -/
def knS (k : Int) : ByteArray := if k = 0 then ⟨#[65, 66, 67]⟩ else if k = 1 then ⟨#[65, 66]⟩ else if k = 2 then ⟨#[65, 66]⟩ else if k = 3 then ⟨#[65, 66, 67]⟩ else if k = 4 then ⟨#[65, 66, 67, 68]⟩ else if k = 5 then ⟨#[65, 66, 67, 68]⟩ else ⟨#[]⟩
/-- Its moves. -/
def knG (k : Int) : List (List Int) := if k = 0 then [[1, 0, 2, 3], [0, 2, 1, 3], [0, 1, 3, 2]] else if k = 1 then [[1, 2, 3, 4, 5, 0], [2, 1, 0, 3, 4, 5]] else if k = 2 then [[1, 2, 3, 0, 4, 5], [0, 1, 3, 4, 5, 2]] else if k = 3 then [[1, 2, 3, 0, 4, 5, 6], [0, 2, 6, 3, 4, 1, 5], [4, 0, 2, 3, 5, 1, 6]] else if k = 4 then [[1, 0, 2, 3, 5, 4, 6, 7, 8, 9, 10, 11], [0, 2, 1, 3, 4, 5, 7, 6, 8, 9, 10, 11], [0, 1, 3, 2, 4, 5, 6, 7, 9, 8, 10, 11], [3, 1, 2, 0, 4, 5, 6, 7, 8, 9, 11, 10]] else if k = 5 then [[1, 2, 0, 6, 4, 5, 9, 7, 8, 3, 10, 11], [7, 1, 2, 4, 5, 3, 6, 10, 8, 9, 0, 11], [0, 4, 2, 3, 11, 5, 7, 8, 6, 9, 10, 1], [0, 1, 5, 3, 4, 8, 6, 7, 2, 10, 11, 9]] else []
/-- Whether there is one. -/
def knB (k : Int) : Bool := decide (0 ≤ k) && decide (k ≤ 5)
/-- The texts as they are read. -/
def rdC (n : Int) (ss : List ByteArray) : List (List Int) := ss.map fun s => (cycO n s).getD []
theorem rd0 : rdC 4 [⟨#[40, 48, 32, 49, 41]⟩, ⟨#[40, 49, 32, 50, 41]⟩, ⟨#[40, 50, 32, 51, 41]⟩] = [[1, 0, 2, 3], [0, 2, 1, 3], [0, 1, 3, 2]] := by simp only [rdC, List.map_cons, List.map_nil, kn0_0, kn0_1, kn0_2, Option.getD_some]
theorem rd1 : rdC 6 [⟨#[40, 48, 32, 49, 32, 50, 32, 51, 32, 52, 32, 53, 41]⟩, ⟨#[40, 48, 32, 50, 41]⟩] = [[1, 2, 3, 4, 5, 0], [2, 1, 0, 3, 4, 5]] := by simp only [rdC, List.map_cons, List.map_nil, kn1_0, kn1_1, Option.getD_some]
theorem rd2 : rdC 6 [⟨#[40, 48, 32, 49, 32, 50, 32, 51, 41]⟩, ⟨#[40, 50, 32, 51, 32, 52, 32, 53, 41]⟩] = [[1, 2, 3, 0, 4, 5], [0, 1, 3, 4, 5, 2]] := by simp only [rdC, List.map_cons, List.map_nil, kn2_0, kn2_1, Option.getD_some]
theorem rd3 : rdC 7 [⟨#[40, 48, 32, 49, 32, 50, 32, 51, 41]⟩, ⟨#[40, 49, 32, 50, 32, 54, 32, 53, 41]⟩, ⟨#[40, 48, 32, 52, 32, 53, 32, 49, 41]⟩] = [[1, 2, 3, 0, 4, 5, 6], [0, 2, 6, 3, 4, 1, 5], [4, 0, 2, 3, 5, 1, 6]] := by simp only [rdC, List.map_cons, List.map_nil, kn3_0, kn3_1, kn3_2, Option.getD_some]
theorem rd4 : rdC 12 [⟨#[40, 48, 32, 49, 41, 40, 52, 32, 53, 41]⟩, ⟨#[40, 49, 32, 50, 41, 40, 54, 32, 55, 41]⟩, ⟨#[40, 50, 32, 51, 41, 40, 56, 32, 57, 41]⟩, ⟨#[40, 48, 32, 51, 41, 40, 49, 48, 32, 49, 49, 41]⟩] = [[1, 0, 2, 3, 5, 4, 6, 7, 8, 9, 10, 11], [0, 2, 1, 3, 4, 5, 7, 6, 8, 9, 10, 11], [0, 1, 3, 2, 4, 5, 6, 7, 9, 8, 10, 11], [3, 1, 2, 0, 4, 5, 6, 7, 8, 9, 11, 10]] := by simp only [rdC, List.map_cons, List.map_nil, kn4_0, kn4_1, kn4_2, kn4_3, Option.getD_some]
theorem rd5 : rdC 12 [⟨#[40, 48, 32, 49, 32, 50, 41, 40, 51, 32, 54, 32, 57, 41]⟩, ⟨#[40, 48, 32, 55, 32, 49, 48, 41, 40, 51, 32, 52, 32, 53, 41]⟩, ⟨#[40, 49, 32, 52, 32, 49, 49, 41, 40, 54, 32, 55, 32, 56, 41]⟩, ⟨#[40, 50, 32, 53, 32, 56, 41, 40, 57, 32, 49, 48, 32, 49, 49, 41]⟩] = [[1, 2, 0, 6, 4, 5, 9, 7, 8, 3, 10, 11], [7, 1, 2, 4, 5, 3, 6, 10, 8, 9, 0, 11], [0, 4, 2, 3, 11, 5, 7, 8, 6, 9, 10, 1], [0, 1, 5, 3, 4, 8, 6, 7, 2, 10, 11, 9]] := by simp only [rdC, List.map_cons, List.map_nil, kn5_0, kn5_1, kn5_2, kn5_3, Option.getD_some]
end Go.Proofs.YtkjokchhffjidaaGreatDoor

/- Slices of slices of int64 that are only read, and the laws' helpers on them. Conditions: at most 1048576 slices, numbers in all. -/
namespace Go.Proofs.YtkjokchhffjidaaGreatDoor
open Go.RowKit

/-- '.slice A n _' reads as the slices vs, which read as the lists xss, all in blocks below B. -/
structure RR (w : World) (B : Nat) (A : Option Addr) (n : Nat) (vs : List SV) (xss : List (List Int)) : Prop where
  lv : vs.length = n
  lx : xss.length = n
  cells : 0 < n → ∃ b off, A = some ⟨b, off, none⟩ ∧ b < B ∧ ∀ j, j < n → w.cell? ⟨b, off + j, none⟩ = some (.slice (vs.getD j sd0).1 (vs.getD j sd0).2.1 (vs.getD j sd0).2.2)
  rows : ∀ j, j < n → RI w B (vs.getD j sd0).1 (xss.getD j [])
  lens : ∀ j, j < n → (xss.getD j []).length = (vs.getD j sd0).2.1
  caps : ∀ j, j < n → (vs.getD j sd0).2.1 ≤ (vs.getD j sd0).2.2

section
variable {w w' : World} {B B' n : Nat} {A : Option Addr} {vs : List SV} {xss : List (List Int)}
theorem RR.keep (h : RR w B A n vs xss) (hk : ∀ p : Addr, p.block < B → w'.cell? p = w.cell? p) : RR w' B A n vs xss :=
  ⟨h.lv, h.lx, fun hn => by obtain ⟨b, off, e, hb, hc⟩ := h.cells hn; exact ⟨b, off, e, hb, fun j hj => (hk ⟨b, off + j, none⟩ hb).trans (hc j hj)⟩, fun j hj => (h.rows j hj).keep hk, h.lens, h.caps⟩
theorem RR.more (h : RR w B A n vs xss) (hB : B ≤ B') : RR w B' A n vs xss :=
  ⟨h.lv, h.lx, fun hn => by obtain ⟨b, off, e, hb, hc⟩ := h.cells hn; exact ⟨b, off, e, by omega, hc⟩, fun j hj => (h.rows j hj).more hB, h.lens, h.caps⟩
theorem RR.below (h : RR w B A n vs xss) {B' : Nat} (hb : Below B' w w') (hB : B ≤ B') : RR w' B A n vs xss := h.keep fun _ hp => hb.cell (by omega)
theorem RR.up (h : RR w w.heap.size A n vs xss) (hb : Below w.heap.size w w') : RR w' w'.heap.size A n vs xss := (h.below hb (Nat.le_refl _)).more hb.size
theorem RR.drewN (h : RR w B A n vs xss) (k : Nat) : RR (w.drewN k) B A n vs xss := h.keep fun _ _ => rfl
theorem RR.alloc (h : RR w B A n vs xss) (hB : B ≤ w.heap.size) (o : Obj) : RR (w.alloc o) B A n vs xss := h.keep fun p hp => World.cell?_alloc_lt w o p (by omega)
theorem RR.grown (h : RR w B A n vs xss) {row : Option Nat} (hg : w.grownBy w' row) (hB : B ≤ w.heap.size) (hr : ∀ g, row = some g → B ≤ g) : RR w' B A n vs xss :=
  h.keep fun p hp => World.cell?_of_block (hg.block p.block (by omega) (fun e => by have := hr _ e.symm; omega))
theorem RR.setCell (h : RR w B A n vs xss) {p : Addr} (hB : B ≤ p.block) (u : Value) : RR (w.setCell p u) B A n vs xss :=
  h.keep fun q hq => World.cell?_setCell_other w p q u (fun e => by subst e; omega)
theorem RR.nil_ : RR w B A 0 [] [] := ⟨rfl, rfl, fun h => absurd h (by omega), fun j h => absurd h (by omega), fun j h => absurd h (by omega), fun j h => absurd h (by omega)⟩
/-- What the k-th slice is. -/
theorem RR.at_ (h : RR w B A n vs xss) {k : Nat} (hk : k < n) : ∃ b off A5 l c5 y, A = some ⟨b, off, none⟩ ∧ b < B ∧ vs.getD k sd0 = (A5, l, c5) ∧ xss.getD k [] = y ∧
    w.cell? ⟨b, off + k, none⟩ = some (.slice A5 l c5) ∧ RI w B A5 y ∧ y.length = l ∧ l ≤ c5 := by
  obtain ⟨b, off, e, hb, hc⟩ := h.cells (by omega)
  exact ⟨b, off, _, _, _, _, e, hb, rfl, rfl, hc k hk, h.rows k hk, h.lens k hk, h.caps k hk⟩
theorem SS.rr {bo bi c : Nat} (h : SS w bo bi A n c vs xss) : RR w w.heap.size A n vs xss :=
  ⟨h.lv, h.lx, fun hn => by obtain ⟨g, e, _, hg, hc⟩ := h.at_ hn; exact ⟨g, 0, e, hg, fun j hj => by rw [Nat.zero_add]; exact hc j hj⟩, fun j hj => (h.row j hj).ri_, fun j hj => (h.row j hj).1, fun j hj => (h.row j hj).le.1⟩
end

/-- The sum of the first k lengths. -/
def tot : List SV → Nat → Nat
  | _, 0 => 0
  | vs, k + 1 => tot vs k + (vs.getD k sd0).2.1
theorem tot_succ (vs : List SV) (k : Nat) : tot vs (k + 1) = tot vs k + (vs.getD k sd0).2.1 := rfl
theorem tot_mono {vs : List SV} {a b : Nat} (h : a ≤ b) : tot vs a ≤ tot vs b := by
  induction b with
  | zero => obtain rfl : a = 0 := by omega
            exact Nat.le_refl _
  | succ b ih =>
    by_cases e : a = b + 1
    · subst e; exact Nat.le_refl _
    · have := ih (by omega); rw [tot_succ]; omega
theorem tot_row {vs : List SV} {k n : Nat} (h : k < n) : (vs.getD k sd0).2.1 ≤ tot vs n := by
  have := tot_mono (vs := vs) (show k + 1 ≤ n from h)
  rw [tot_succ] at this; omega
theorem tot_eq {vs us : List SV} : ∀ n, (∀ i, i < n → (vs.getD i sd0).2.1 = (us.getD i sd0).2.1) → tot vs n = tot us n
  | 0, _ => rfl
  | n + 1, h => by rw [tot_succ, tot_succ, tot_eq n (fun i hi => h i (by omega)), h n (by omega)]
theorem tot_le_mul {vs : List SV} {n m : Nat} (h : ∀ i, i < n → (vs.getD i sd0).2.1 ≤ m) : tot vs n ≤ n * m := by
  induction n with
  | zero => exact Nat.zero_le _
  | succ n ih => have := ih (fun i hi => h i (by omega)); have := h n (by omega); rw [tot_succ, Nat.succ_mul]; omega

theorem getD_set_ne {α : Type} {l : List α} {i j : Nat} {x d : α} (h : i ≠ j) : (l.set i x).getD j d = l.getD j d := by
  rw [List.getD_eq_getElem?_getD, List.getElem?_set, if_neg h, ← List.getD_eq_getElem?_getD]
theorem getD_set_eq {α : Type} {l : List α} {i : Nat} {x d : α} (h : i < l.length) : (l.set i x).getD i d = x := by
  rw [List.getD_eq_getElem?_getD, List.getElem?_set, if_pos rfl, if_pos h]; rfl
theorem getD_rep {α : Type} {n i : Nat} {d : α} : (List.replicate n d).getD i d = d := by
  rw [List.getD_eq_getElem?_getD, List.getElem?_replicate]; split <;> rfl
/-- 'make([][]int64, n)': a row of nil slices. -/
theorem SS.made {w : World} {base bi g n : Nat} (h : w.ownsRow base 48 1 (.slice (some ⟨g, 0, none⟩) n n) n (madeCells (Value.slice none 0 0).cells (n * 1)).toList) : SS w base bi (some ⟨g, 0, none⟩) n n (List.replicate n sd0) (List.replicate n []) := by
  refine ⟨?_, by simp, by simp, fun i _ => ?_, fun i j _ _ => ?_⟩
  · have e : (madeCells (Value.slice none 0 0).cells (n * 1)).toList = (List.replicate n sd0).map sval := by
      show (madeCells #[Value.slice none 0 0] (n * 1)).toList = _
      rw [toList_madeCells_one]; simp [sval, sd0]
    rw [← e]; exact h
  · rw [getD_rep, getD_rep]; exact Slc.nil_
  · rw [getD_rep]; exact .inl rfl
/-- Where cell j of the outer row takes another slice. -/
theorem SS.store {w : World} {base bi g n c j dn dc : Nat} {dA : Option Addr} {vs : List SV} {xss : List (List Int)} {ys : List Int} (h : SS w base bi (some ⟨g, 0, none⟩) n c vs xss) (hj : j < n) (hs : Slc w bi dA dn dc ys)
    (hd : ∀ i, i < n → i ≠ j → (sval (vs.getD i sd0)).ownBlock = none ∨ (sval (vs.getD i sd0)).ownBlock ≠ (Value.slice dA dn dc).ownBlock) :
    SS (w.setCell ⟨g, j, none⟩ (.slice dA dn dc)) base bi (some ⟨g, 0, none⟩) n c (vs.set j (dA, dn, dc)) (xss.set j ys) ∧ w.grownBy (w.setCell ⟨g, j, none⟩ (.slice dA dn dc)) (some g) := by
  obtain ⟨hown, hgr⟩ := h.own.stored j (.slice dA dn dc)
  refine ⟨⟨by rw [List.map_set]; exact hown, by rw [List.length_set]; exact h.lv, by rw [List.length_set]; exact h.lx, fun i hi => ?_, fun a b hab hb => ?_⟩, hgr⟩
  · by_cases e : j = i
    · subst e
      rw [getD_set_eq (by rw [h.lv]; exact hj), getD_set_eq (by rw [h.lx]; exact hj)]
      exact hs.kept hgr (apart_types hs h.own)
    · rw [getD_set_ne e, getD_set_ne e]
      exact (h.row i hi).kept hgr (apart_types (h.row i hi) h.own)
  · by_cases ea : j = a
    · subst ea
      rw [getD_set_eq (by rw [h.lv]; exact hj), getD_set_ne (by omega)]
      rcases hd b hb (by omega) with e | e
      · rw [e]
        rcases (sval (dA, dn, dc)).ownBlock with _ | q
        · exact .inl rfl
        · exact .inr (by simp)
      · exact .inr fun e2 => e e2.symm
    · rw [getD_set_ne ea]
      by_cases eb : j = b
      · subst eb
        rw [getD_set_eq (by rw [h.lv]; exact hj)]
        exact hd a (by omega) (by omega)
      · rw [getD_set_ne eb]; exact h.dis a b hab hb

end Go.Proofs.YtkjokchhffjidaaGreatDoor

/- The laws' helpers that compare, mark and read slices of slices. Conditions: at most 1048576 slices, numbers in all. -/
namespace Go.Proofs.YtkjokchhffjidaaGreatDoor
open Go.RowKit
end Go.Proofs.YtkjokchhffjidaaGreatDoor

/- What is kept where a slice of slices was marked; bounds on lists of lists. No condition. -/
namespace Go.Proofs.YtkjokchhffjidaaGreatDoor
open Go.RowKit

def sumL (l : List (List Int)) : Nat := (l.map List.length).sum
theorem sumL_le {l : List (List Int)} {k : Nat} (h : ∀ y ∈ l, y.length ≤ k) : sumL l ≤ l.length * k := by
  induction l with
  | nil => simp [sumL]
  | cons a t ih =>
    have h1 := ih fun y hy => h y (by simp [hy])
    have h2 := h a (by simp)
    unfold sumL at h1 ⊢
    rw [List.map_cons, List.sum_cons, List.length_cons, Nat.succ_mul]; omega
theorem bound_all {l : List (List Int)} {m k : Nat} (h1 : l.length ≤ m) (h2 : ∀ y ∈ l, y.length ≤ k) (h : m * k ≤ 1048576 ∧ m ≤ 1048576 ∧ k ≤ 1048576) :
    l.length ≤ 1048576 ∧ (∀ i, i < l.length → (l.getD i []).length ≤ 1048576) ∧ sumL l ≤ 1048576 := by
  refine ⟨by omega, fun i hi => ?_, ?_⟩
  · have : l.getD i [] ∈ l := by rw [List.getD_eq_getElem?_getD, List.getElem?_eq_getElem hi]; exact List.getElem_mem _
    have := h2 _ this; omega
  · have h3 := sumL_le h2
    have h4 : l.length * k ≤ m * k := Nat.mul_le_mul_right k h1
    omega
theorem SS.tot_sum {w : World} {bo bi n c : Nat} {A : Option Addr} {vs : List SV} {xss : List (List Int)} (h : SS w bo bi A n c vs xss) : tot vs n = sumL xss := by
  have key : ∀ k, k ≤ n → tot vs k = sumL (xss.take k) := by
    intro k
    induction k with
    | zero => intro _; rfl
    | succ k ih =>
      intro hk
      have hk' : k < xss.length := by rw [h.lx]; omega
      rw [tot_succ, ih (by omega), List.take_succ_eq_append_getElem hk', ← (h.row k (by omega)).1, List.getD_eq_getElem?_getD, List.getElem?_eq_getElem hk']
      show sumL (xss.take k) + _ = sumL (xss.take k ++ [xss[k]])
      unfold sumL
      rw [List.map_append, List.sum_append]; simp
  rw [key n (Nat.le_refl _), List.take_of_length_le (by rw [h.lx]; exact Nat.le_refl _)]
/-- A slice of slices none of whose blocks is the one that turned. -/
theorem SS.far2 {w w' : World} {bo bi n c lo hi lo' hi' n' c' : Nat} {A A' : Option Addr} {vs : List SV} {xss : List (List Int)} (h : SS w bo bi A n c vs xss) (hg : w.grownBy w' (Value.slice A' n' c').ownBlock)
    (lo1 : Lies A n c lo hi) (li : ∀ t, t < n → ∀ k, (sval (vs.getD t sd0)).ownBlock = some k → lo ≤ k ∧ k < hi) (l : Lies A' n' c' lo' hi') (hb : hi ≤ lo' ∨ hi' ≤ lo) : SS w' bo bi A n c vs xss :=
  ⟨World.ownsRow.kept h.own hg (lo1.apart l hb), h.lv, h.lx, fun i hi' => (h.row i hi').kept hg (Lies.apart (show Lies _ _ _ lo hi from li i hi') l hb), h.dis⟩
theorem invL_len (p : List Int) : (invL p p.length).length = p.length := by
  have : ∀ k, (invL p k).length = p.length := by
    intro k
    induction k with
    | zero => simp [invL]
    | succ k ih => simp [invL, ih]
  exact this _
end Go.Proofs.YtkjokchhffjidaaGreatDoor

/- Slices of slices where a row elsewhere has turned. No condition. -/
namespace Go.Proofs.YtkjokchhffjidaaGreatDoor
open Go.RowKit

theorem SS.farM {w w' : World} {bo bi n c n' c' : Nat} {A A' : Option Addr} {vs : List SV} {xss : List (List Int)} (h : SS w bo bi A n c vs xss) (hg : w.grownBy w' (Value.slice A' n' c').ownBlock)
    (hd : ∀ k, (Value.slice A n c).ownBlock = some k → (Value.slice A' n' c').ownBlock = some k → False)
    (hd2 : ∀ s, s < n → ∀ k, (sval (vs.getD s sd0)).ownBlock = some k → (Value.slice A' n' c').ownBlock = some k → False) : SS w' bo bi A n c vs xss := by
  have ap : ∀ v : Value, (∀ k, v.ownBlock = some k → (Value.slice A' n' c').ownBlock = some k → False) → v.ownBlock = none ∨ v.ownBlock ≠ (Value.slice A' n' c').ownBlock := fun v hv => by
    rcases e : v.ownBlock with _ | k
    · exact .inl rfl
    · exact .inr fun e2 => hv k e e2.symm
  refine ⟨h.own.kept hg (ap _ hd), h.lv, h.lx, fun i hi => (h.row i hi).kept hg (ap _ (hd2 i hi)), h.dis⟩
end Go.Proofs.YtkjokchhffjidaaGreatDoor

/- A slice of slices is kept where a block turned that is none of its own. No condition. -/
namespace Go.Proofs.YtkjokchhffjidaaGreatDoor
open Go.RowKit

section
variable {w w' : World} {base n c : Nat} {A : Option Addr} {vs : List SV} {xss : List (List Int)}
/-- Kept where a block turned that is none of its own. -/
theorem SS.farR {r lo hi : Nat} (h : SS w base base A n c vs xss) (hg : w.grownBy w' (some r)) (hA : ∀ k, (Value.slice A n c).ownBlock = some k → lo ≤ k ∧ k < hi) (hI : ∀ i, i < n → ∀ k, (sval (vs.getD i sd0)).ownBlock = some k → lo ≤ k ∧ k < hi) (hr : r < lo ∨ hi ≤ r) : SS w' base base A n c vs xss := by
  have ne : ∀ (v : Value), (∀ k, v.ownBlock = some k → lo ≤ k ∧ k < hi) → v.ownBlock = none ∨ v.ownBlock ≠ some r := fun v hv => by
    rcases e : v.ownBlock with _ | k
    · exact .inl rfl
    · exact .inr fun e2 => by injection e2 with e2; have := hv k e; omega
  exact ⟨World.ownsRow.kept h.own hg (ne _ hA), h.lv, h.lx, fun i hi' => (h.row i hi').kept hg (ne _ (hI i hi')), h.dis⟩
end
end Go.Proofs.YtkjokchhffjidaaGreatDoor

/- What the laws over puzzles call: eqPuzzle, markPuzzle, heldPuzzle. Conditions: lengths. -/
namespace Go.Proofs.YtkjokchhffjidaaGreatDoor
open Go.RowKit

theorem Blk.up {w w' : World} {g : Nat} {t : TypeId} {cs : Array Value} (h : Blk w g t cs) (hb : Below w.heap.size w w') : Blk w' g t cs := h.below hb h.lt


end Go.Proofs.YtkjokchhffjidaaGreatDoor

/- The model's known puzzles. No condition. -/
namespace Go.Proofs.YtkjokchhffjidaaGreatDoor
open Go.RowKit

theorem rdC_snoc {n : Int} {ss : List ByteArray} {k : Nat} (hk : k < ss.length) : rdC n (ss.take (k + 1)) = rdC n (ss.take k) ++ [(cycO n (ss.getD k ⟨#[]⟩)).getD []] := by
  unfold rdC
  rw [List.take_add_one, List.map_append, List.getD_eq_getElem?_getD, List.getElem?_eq_getElem hk]; rfl
set_option maxHeartbeats 4000000 in
set_option maxRecDepth 100000 in
/-- puzzleOf at m texts in block b. -/
theorem specPuzzleOf (n : Nat) (b m c : Nat) (ss : List ByteArray) (w : World) (h1 : 1 ≤ n) (h2 : n ≤ 20) (hm : m ≤ 8) (hl : ss.length = m) (hb : b < w.heap.size)
    (hc : Hid (∀ j, j < m → w.cell? ⟨b, j, none⟩ = some (.string (ss.getD j ⟨#[]⟩)))) (hz200 : Hid (∀ j, j < m → (ss.getD j ⟨#[]⟩).size ≤ 200)) (nm : ByteArray) (hnm : Hid (nm = ByteArray.extract ⟨#[65, 66, 67, 68, 69, 70, 71, 72]⟩ 0 m)) :
    Calls Tryz.prog 21 #[.int .i64 (n : Int), .slice (some ⟨b, 0, none⟩) m c] w fun e w' => ∃ A' c' us, e = .returned (.agg #[.int .i64 (n : Int), .string nm, .slice A' m c']) ∧ SS w' w.heap.size w.heap.size A' m c' us (rdC n ss) ∧ (∀ i, i < m → (us.getD i sd0).2.1 ≤ 20) ∧ Below w.heap.size w w' := by
  have hcc := hc
  obtain ⟨V, hV⟩ : ∃ V, (w.alloc (.cells #[.int .i64 0, .string ⟨#[]⟩, .slice none 0 0] 30)).alloc (.cells #[.int .i64 (n : Int), .string nm, .slice none 0 0] 30) = V := ⟨_, rfl⟩
  have hz : V.heap.size = w.heap.size + 2 := by rw [← hV]; simp
  have b0 : Hid (Blk V w.heap.size 30 #[.int .i64 0, .string ⟨#[]⟩, .slice none 0 0]) := Lib.hid (by rw [← hV]; exact (Blk.new w _ _).alloc _)
  have b1 : Hid (Blk V (w.heap.size + 1) 30 #[.int .i64 (n : Int), .string nm, .slice none 0 0]) := Lib.hid (by
    rw [← hV]; have := Blk.new (w.alloc (.cells #[.int .i64 0, .string ⟨#[]⟩, .slice none 0 0] 30)) 30 #[.int .i64 (n : Int), .string nm, .slice none 0 0]
    rw [World.size_alloc] at this; exact this)
  have BV : Hid (Below w.heap.size w V) := Lib.hid (by rw [← hV]; exact ((Below.refl _ w).alloc (Nat.le_refl _) _).alloc (by simp) _)
  go_enter Tryz.func21, Tryz.ntmps21
  go_wp2_with fail
  rw [← hnm.out, hV]
  clear hV
  go_loopg [6] m (fun gg iv wr => ∃ (k : Nat) (us : List SV) (A : Option Addr) (c' : Nat), k ≤ m ∧ m - k ≤ gg ∧ iv = .int .i64 (k : Nat) ∧ Blk wr w.heap.size 30 #[.int .i64 0, .string ⟨#[]⟩, .slice none 0 0] ∧ Blk wr (w.heap.size + 1) 30 #[.int .i64 (n : Int), .string nm, .slice A k c'] ∧ SS wr V.heap.size V.heap.size A k c' us (rdC n (ss.take k)) ∧ (∀ i, i < k → (us.getD i sd0).2.1 ≤ 20) ∧ Below w.heap.size w wr)
  case atStart => exact ⟨0, [], none, 0, Nat.zero_le _, by omega, rfl, b0.out, b1.out, by simpa [rdC] using (SS.nil_ (w := V)), fun i hi => absurd hi (by omega), BV.out⟩
  case round =>
    obtain ⟨k, us, A, c', hk, hgk, rfl, p0, p1, ss5, ln5, bel⟩ := hrel
    have P0 := Lib.hid p0
    have P1 := Lib.hid p1
    have Ss := Lib.hid ss5
    have Ln := Lib.hid ln5
    have Bel := Lib.hid bel
    have x0 := p1.cell 0
    have x1 := p1.cell 1
    have x2 := p1.cell 2
    have hwz : V.heap.size ≤ wr.heap.size := by have := p1.lt; omega
    clear p0 p1 ss5 ln5 bel
    by_cases hkm : k < m
    · obtain ⟨sk, hsk⟩ : ∃ sk, ss.getD k ⟨#[]⟩ = sk := ⟨_, rfl⟩
      have hss : sk.size ≤ 200 := by rw [← hsk]; exact hz200.out k hkm
      have hcell : wr.cell? ⟨b, k, none⟩ = some (.string sk) := by
        rw [Bel.out.cell (p := ⟨b, k, none⟩) hb, ← hsk]; exact hcc.out k hkm
      have q1 : (0 : Int) ≤ k := by omega
      have q2 : (k : Int) < m := by omega
      go_wp2_with fail
      refine (specParseCycles0 (n : Int) sk wr (by omega)).mono ?_
      rintro e w2 ⟨A2, m2, c2, rfl, s2, hm2, b2⟩
      obtain ⟨ys, hys⟩ : ∃ ys, (cycO (n : Int) sk).getD [] = ys := ⟨_, rfl⟩
      rw [hys] at s2
      have LI : Hid (∀ t, t < k → ∀ j, (sval (us.getD t sd0)).ownBlock = some j → V.heap.size ≤ j ∧ j < wr.heap.size) := Lib.hid fun t ht => (Ss.out.row t ht).lt_
      have L2 := s2.lt_
      have D5 := Lib.hid (show ∀ t, t < k → (sval (us.getD t sd0)).ownBlock = none ∨ (sval (us.getD t sd0)).ownBlock ≠ (Value.slice A2 m2 c2).ownBlock from fun t ht => by
        rcases e9 : (sval (us.getD t sd0)).ownBlock with _ | z
        · exact .inl rfl
        · exact .inr fun e8 => by have := (LI.out t ht z e9).2; have := (L2 z e8.symm).1; omega)
      have P0' := Lib.hid (P0.out.below b2 P0.out.lt)
      have P1' := Lib.hid (P1.out.below b2 P1.out.lt)
      have Ss2 := Lib.hid (Ss.out.up b2)
      have Sl2 : Hid (Slc w2 V.heap.size A2 m2 c2 ys) := Lib.hid (s2.mono (by omega))
      have Bel2 := Lib.hid (btr Bel.out b2)
      have hwz2 : V.heap.size ≤ w2.heap.size := by have := b2.size; omega
      clear x0 x1 x2 s2 L2
      have x0 := P1'.out.cell 0
      have x1 := P1'.out.cell 1
      have x2 := P1'.out.cell 2
      go_wp2_with (first
        | (at_builtin
           refine wpList_app2 rfl _ _ rfl rfl (Ss2.out.alloc _) w2.heap.size A2 m2 c2 ys rfl (by rw [World.cell?_alloc_at _ _ _ _ rfl]; rfl) ((Sl2.out).alloc _) D5.out (by omega) (by simp; omega) ?_
           intro A7 c7 w7 ss7 g7
           have LO : ∀ j, (Value.slice A k c').ownBlock = some j → V.heap.size ≤ j := fun j hj => (Ss2.out.lt_ j hj).1
           have P07 := Lib.hid ((P0'.out.alloc (.cells #[.slice A2 m2 c2] 48)).grown g7 (fun e => by have := LO _ e.symm; omega))
           have P17 := Lib.hid ((P1'.out.alloc (.cells #[.slice A2 m2 c2] 48)).grown g7 (fun e => by have := LO _ e.symm; omega))
           have Bel7 : Hid (Below w.heap.size w w7) := Lib.hid ((Bel2.out.alloc Bel2.out.size (.cells #[.slice A2 m2 c2] 48)).grown g7 (by simp; omega) (fun j hj => by have := LO j hj; omega))
           have z0 := P17.out.cell 0
           have z1 := P17.out.cell 1
           have z2 := P17.out.cell 2
           have f2 := P17.out.frozen 2))
      have S7 : Hid (SS w7 V.heap.size V.heap.size A7 (k + 1) c7 (us ++ [(A2, m2, c2)]) (rdC n (ss.take k) ++ [ys])) := Lib.hid ss7
      have LA7 := S7.out.lt_
      have LI7 : ∀ t, t < k + 1 → ∀ j, (sval ((us ++ [((A2, m2, c2) : SV)]).getD t sd0)).ownBlock = some j → V.heap.size ≤ j ∧ j < w7.heap.size := fun t ht => (S7.out.row t ht).lt_
      have S8 := Lib.hid (S7.out.farR (w' := w7.setCell ⟨w.heap.size + 1, 2, none⟩ (.slice A7 (k + 1) c7)) (r := w.heap.size + 1) (grown_set (grown_refl _ _) _ _) LA7 LI7 (.inl (by omega)))
      have Q0 : Blk (w7.setCell ⟨w.heap.size + 1, 2, none⟩ (.slice A7 (k + 1) c7)) w.heap.size 30 #[.int .i64 0, .string ⟨#[]⟩, .slice none 0 0] := (Below.heap_setCell _ _ _ _ (by show w.heap.size ≠ w.heap.size + 1; omega)).trans P07.out
      have Q1 : Blk (w7.setCell ⟨w.heap.size + 1, 2, none⟩ (.slice A7 (k + 1) c7)) (w.heap.size + 1) 30 #[.int .i64 (n : Int), .string nm, .slice A7 (k + 1) c7] := P17.out.set_ 2 _
      have Bel8 : Below w.heap.size w (w7.setCell ⟨w.heap.size + 1, 2, none⟩ (.slice A7 (k + 1) c7)) := Bel7.out.setCell (p := ⟨w.heap.size + 1, 2, none⟩) (by show w.heap.size ≤ w.heap.size + 1; omega) _
      have Ln8 : ∀ i, i < k + 1 → ((us ++ [((A2, m2, c2) : SV)]).getD i sd0).2.1 ≤ 20 := fun i hi => by
        by_cases e9 : i < k
        · rw [getD_app _ _ _ _ (by rw [Ss2.out.lv]; exact e9)]; exact Ln.out i e9
        · rw [getD_snoc _ _ _ _ (by rw [Ss2.out.lv]; omega)]; exact hm2
      clear ss7 g7
      go_roundg (m - (k + 1))
      case rel => exact ⟨k + 1, _, A7, c7, by omega, by omega, by go_num, Q0, Q1, by rw [rdC_snoc (by omega), hsk, hys]; exact S8.out, Ln8, Bel8⟩
      case measure => omega
    · obtain rfl : k = m := by omega
      have y0 := P0.out.cell 0
      have y1 := P0.out.cell 1
      have y2 := P0.out.cell 2
      have g0 := P0.out.frozen 0
      have g1 := P0.out.frozen 1
      have g2 := P0.out.frozen 2
      go_wp2_with fail
      obtain ⟨W2, e2⟩ : ∃ W2, wr.setCell ⟨w.heap.size, 0, none⟩ (.int .i64 (n : Int)) = W2 := ⟨_, rfl⟩
      obtain ⟨W3, e3⟩ : ∃ W3, W2.setCell ⟨w.heap.size, 1, none⟩ (.string nm) = W3 := ⟨_, rfl⟩
      obtain ⟨W4, e4⟩ : ∃ W4, W3.setCell ⟨w.heap.size, 2, none⟩ (.slice A k c') = W4 := ⟨_, rfl⟩
      rw [e2, e3, e4]
      have LA : ∀ j, (Value.slice A k c').ownBlock = some j → V.heap.size ≤ j ∧ j < wr.heap.size := Ss.out.lt_
      have LI : ∀ t, t < k → ∀ j, (sval (us.getD t sd0)).ownBlock = some j → V.heap.size ≤ j ∧ j < wr.heap.size := fun t ht => (Ss.out.row t ht).lt_
      have S6 : SS W2 V.heap.size V.heap.size A k c' us (rdC n (ss.take k)) := by rw [← e2]; exact Ss.out.farR (r := w.heap.size) (grown_set (grown_refl _ _) _ _) LA LI (.inl (by omega))
      have S7 : SS W3 V.heap.size V.heap.size A k c' us (rdC n (ss.take k)) := by rw [← e3]; exact S6.farR (r := w.heap.size) (grown_set (grown_refl _ _) _ _) LA LI (.inl (by omega))
      have S8 : SS W4 V.heap.size V.heap.size A k c' us (rdC n (ss.take k)) := by rw [← e4]; exact S7.farR (r := w.heap.size) (grown_set (grown_refl _ _) _ _) LA LI (.inl (by omega))
      have D2 : Blk W2 w.heap.size 30 #[.int .i64 (n : Int), .string ⟨#[]⟩, .slice none 0 0] := by rw [← e2]; exact P0.out.set_ 0 _
      have D3 : Blk W3 w.heap.size 30 #[.int .i64 (n : Int), .string nm, .slice none 0 0] := by rw [← e3]; exact D2.set_ 1 _
      have D4 : Blk W4 w.heap.size 30 #[.int .i64 (n : Int), .string nm, .slice A k c'] := by rw [← e4]; exact D3.set_ 2 _
      have r1 := D4.cell 0
      have r2 := D4.cell 1
      have r3 := D4.cell 2
      have Be : Below w.heap.size w W4 := by
        rw [← e4, ← e3, ← e2]
        exact ((Bel.out.setCell (p := ⟨w.heap.size, 0, none⟩) (Nat.le_refl _) _).setCell (p := ⟨w.heap.size, 1, none⟩) (Nat.le_refl _) _).setCell (p := ⟨w.heap.size, 2, none⟩) (Nat.le_refl _) _
      clear e2 e3 e4
      have ek : ss.take k = ss := List.take_of_length_le (by omega)
      rw [ek] at S8
      exact bodyPost_ret (v := .agg #[.int .i64 (n : Int), .string nm, .slice A k c']) (by simp [results, Tryz.results21, r1, r2, r3, go_sem]) rfl ⟨A, c', us, rfl, S8.mono (by omega) (by omega), Ln.out, Be⟩
end Go.Proofs.YtkjokchhffjidaaGreatDoor
