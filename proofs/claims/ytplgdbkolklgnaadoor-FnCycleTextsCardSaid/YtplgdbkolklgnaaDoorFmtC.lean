/- FormatCycles, of the program and of the model. No condition but lengths. -/
import Derived.Test.YtplgdbkolklgnaaDoorFmtI
import Derived.Test.YtplgdbkolklgnaaDoorCycles
namespace Go.Proofs.YtplgdbkolklgnaaDoor
open Go.RowKit Go.Shelf

theorem layWs : Lays.n166 Tryd.prog Tryd.lays156_ren := { Tryd.lays156 with }
theorem bld_up {T e : TypeId} {B b : Nat} {bs : List Value} {w w' : World} (h : Lib.IsBuilder T e B b bs w) (hb : Below w.heap.size w w') : Lib.IsBuilder T e B b bs w' := by
  have one : ∀ p, Lib.BuilderAt T e B b p bs w → Lib.BuilderAt T e B b p bs w' := by
    rintro p ⟨hB, v, hbk, hown, hne⟩
    have hlt : b < w.heap.size := (Array.getElem?_eq_some_iff.1 hbk).1
    refine ⟨hB, v, by rw [hb.block b hlt]; exact hbk, ⟨hown.1, ?_⟩, hne⟩
    rcases hown.2 with hn | ⟨g, cap, cur, e1, hg1, hg, rest⟩
    · exact .inl hn
    · exact .inr ⟨g, cap, cur, e1, hg1, by rw [hb.block g (Array.getElem?_eq_some_iff.1 hg).1]; exact hg, rest⟩
  rcases h with h | h
  · exact .inl (one _ h)
  · exact .inr (one _ h)
/-- WriteString. -/
theorem writeT (B b : Nat) (l : List UInt8) (s : ByteArray) (w : World) (h : Lib.IsBuilder 45 5 B b (Lib.byteCells l) w) (hlen : l.length + s.size ≤ 1000000) (hBw : B ≤ w.heap.size) :
    Calls Tryd.prog 27 #[.pointer (some ⟨b, 0, none⟩), .string s] w fun e w' => e = .returned (.tuple #[.int .i64 s.size, .nilIface]) ∧ Lib.IsBuilder 45 5 B b (Lib.byteCells (l ++ s.toList)) w' ∧ Below B w w' := by
  refine (Any.Builder_WriteString layWs Tryd.Builder_Extra_156 B b (Lib.byteCells l) s w h (by simp [Lib.byteCells]; omega) hBw).mono ?_
  rintro e w' ⟨rfl, hat, hb⟩
  refine ⟨rfl, .inr ?_, hb⟩
  have e2 : Lib.byteCells (l ++ s.toList) = Lib.byteCells l ++ Lib.strCells s := by
    rw [ByteArray.toList_eq]; simp [Lib.byteCells, Lib.strCells]
  rw [e2]; exact hat

/-- Cycles, each in brackets. -/
def fmtCs (cs : List (List Int)) : List UInt8 := (cs.map fun c => 40 :: (fmtI c ++ [41])).flatten
theorem fmtCs_snoc (cs : List (List Int)) (c : List Int) : fmtCs (cs ++ [c]) = fmtCs cs ++ (40 :: (fmtI c ++ [41])) := by simp [fmtCs]
theorem fmtCs_take {cs : List (List Int)} {k : Nat} {y : List Int} (hk : k < cs.length) (e : cs.getD k [] = y) : fmtCs (cs.take (k + 1)) = fmtCs (cs.take k) ++ (40 :: (fmtI y ++ [41])) := by
  rw [List.take_succ_eq_append_getElem hk, fmtCs_snoc]
  rw [List.getD_eq_getElem?_getD, List.getElem?_eq_getElem hk] at e
  have e' : cs[k] = y := e
  rw [e']
theorem fmtCs_len (cs : List (List Int)) (h : ∀ c ∈ cs, Pts c ∧ c.length ≤ 20) : (fmtCs cs).length ≤ 62 * cs.length := by
  induction cs with
  | nil => exact Nat.le_refl _
  | cons c t ih =>
    have h1 := ih fun x hx => h x (by simp [hx])
    have h2 := h c (by simp)
    have h3 := fmtI_len h2.1
    have e : fmtCs (c :: t) = (40 :: (fmtI c ++ [41])) ++ fmtCs t := by simp [fmtCs]
    rw [e]
    simp; omega
/-- What FormatCycles writes. -/
def fmtCyc (p : List Int) : List UInt8 := if isP p = true then (if (cycl p).length = 0 then [40, 41] else fmtCs (cycl p)) else []
theorem cyc_pts {p : List Int} (h : IsP p) : ∀ c ∈ cycl p, Pts c ∧ 1 ≤ c.length ∧ c.length ≤ 20 := by
  intro c hc
  unfold cycl at hc
  rw [List.mem_filter] at hc
  obtain ⟨hc, _⟩ := hc
  rw [cycs_heads, List.mem_map] at hc
  obtain ⟨x, hx, rfl⟩ := hc
  have hxl : x < p.length := List.mem_range.1 (List.mem_filter.1 hx).1
  have hs := per_spec h hxl
  have hle := h.le
  rw [cyc_length]
  refine ⟨?_, hs.1, by omega⟩
  intro z hz
  unfold cyc at hz
  rw [List.mem_map] at hz
  obtain ⟨k, _, rfl⟩ := hz
  have := it_lt h hxl k
  omega
theorem cyc_at {p : List Int} (h : IsP p) {k : Nat} (hk : k < (cycl p).length) : Pts ((cycl p).getD k []) ∧ 1 ≤ ((cycl p).getD k []).length ∧ ((cycl p).getD k []).length ≤ 20 := by
  refine cyc_pts h _ ?_
  rw [List.getD_eq_getElem?_getD, List.getElem?_eq_getElem hk]
  exact List.getElem_mem hk
theorem br_toList (t : ByteArray) : ((⟨#[40]⟩ : ByteArray) ++ t ++ (⟨#[41]⟩ : ByteArray)).toList = 40 :: (t.toList ++ [41]) := by
  rw [toList_app, toList_app]
  have e1 : (⟨#[40]⟩ : ByteArray).toList = [40] := by rw [ByteArray.toList_eq]
  have e2 : (⟨#[41]⟩ : ByteArray).toList = [41] := by rw [ByteArray.toList_eq]
  rw [e1, e2]; simp

set_option maxHeartbeats 1000000 in
/-- The program's FormatCycles. -/
theorem implFormatCycles (A : Option Addr) (c n : Nat) (p : List Int) (w : World) (hp : RI w w.heap.size A p) (lp : Hid (p.length = n)) (hn : n ≤ 2097152) :
    Calls Tryd.prog 9 #[.slice A n c] w fun e w' => ∃ t, e = .returned (.string t) ∧ t.toList = fmtCyc p ∧ Below w.heap.size w w' := by
  rcases hs : isP p with _ | _
  · have Fin : Hid (fmtCyc p = []) := Lib.hid (if_neg (by rw [hs]; decide))
    go_enter Tryd.func9, Tryd.ntmps9
    go_wp2_with fail
    refine (implIsP A c n p w hp lp hn).mono ?_
    rintro e w1 ⟨he, b1⟩
    rw [hs] at he
    subst he
    have B1 := Lib.hid b1
    clear b1
    go_wp2_with fail
    go_ret
    exact ⟨_, rfl, by rw [Fin.out]; exact empty_toList, B1.out⟩
  · have Ip := Lib.hid (isP_iff.1 hs)
    have Cl : Hid (cyclesL p = cycl p) := Lib.hid (if_pos hs)
    have Fin : Hid (fmtCyc p = if (cycl p).length = 0 then [40, 41] else fmtCs (cycl p)) := Lib.hid (if_pos hs)
    go_enter Tryd.func9, Tryd.ntmps9
    go_wp2_with fail
    refine (implIsP A c n p w hp lp hn).mono ?_
    rintro e w1 ⟨he, b1⟩
    rw [hs] at he
    subst he
    have B1 := Lib.hid b1
    clear b1
    go_wp2_with fail
    refine (implCycles A c n p w1 (hp.up B1.out) lp hn).mono ?_
    rintro e w2 ⟨A2, m, c2, vs, rfl, s2, hm, b2⟩
    rw [Cl.out] at s2
    have S2 := Lib.hid s2
    have B2 : Hid (Below w.heap.size w w2) := Lib.hid (btr B1.out b2)
    have lm := s2.lx
    clear s2 b2
    by_cases h0 : m = 0
    · subst h0
      have F : Hid (fmtCyc p = [40, 41]) := Lib.hid (by rw [Fin.out, if_pos lm])
      clear lm
      go_wp2_with fail
      go_ret
      exact ⟨_, rfl, by rw [F.out, ByteArray.toList_eq], B2.out⟩
    · have F : Hid (fmtCyc p = fmtCs (cycl p)) := Lib.hid (by rw [Fin.out, if_neg (by omega)])
      have ne : ((m : Int) == 0) = false := by rw [beq_eq_false_iff_ne]; omega
      have I0 := Lib.hid (Lib.fresh_isBuilder 45 5 w2)
      have Lm := Lib.hid lm
      obtain ⟨g, rfl, hg1, hg2, hcel⟩ := S2.out.at_ (by omega)
      have Hc := Lib.hid hcel
      clear lm hs hcel
      go_wp2_with fail
      go_loopg [6, 17] m (fun gg _ i wr => ∃ k, k ≤ m ∧ m - k ≤ gg ∧ i = .int .i64 (k : Nat) ∧ Lib.IsBuilder 45 5 w2.heap.size w2.heap.size (Lib.byteCells (fmtCs ((cycl p).take k))) wr ∧ w2.heap.size < wr.heap.size ∧ Below w2.heap.size w2 wr)
      case atStart => exact ⟨0, Nat.zero_le _, by omega, rfl, I0.out, by simp, (Below.refl _ _).alloc (Nat.le_refl _) _⟩
      case round =>
        obtain ⟨k, hk, hgg, rfl, bld, zr, bel⟩ := hrel
        have Bld := Lib.hid bld
        have Bel := Lib.hid bel
        clear bld bel
        by_cases hlt : k < m
        · have c0 := (Bel.out.cell (p := ⟨g, k, none⟩) hg2).trans (Hc.out k hlt)
          obtain ⟨y, ey⟩ : ∃ y, (cycl p).getD k [] = y := ⟨_, rfl⟩
          have hy := cyc_at Ip.out (k := k) (by rw [Lm.out]; exact hlt)
          have hrow := (S2.out.row k hlt).up Bel.out
          rw [ey] at hrow hy
          obtain ⟨l, el⟩ : ∃ l, (vs.getD k sd0).2.1 = l := ⟨_, rfl⟩
          obtain ⟨A5, e5⟩ : ∃ A5, (vs.getD k sd0).1 = A5 := ⟨_, rfl⟩
          obtain ⟨c5, ec5⟩ : ∃ c5, (vs.getD k sd0).2.2 = c5 := ⟨_, rfl⟩
          rw [e5, el, ec5] at c0 hrow
          have Tk := Lib.hid (fmtCs_take (cs := cycl p) (by rw [Lm.out]; exact hlt) ey)
          have Len : Hid ((fmtCs ((cycl p).take k)).length ≤ 1240) := Lib.hid (by
            have := fmtCs_len ((cycl p).take k) (fun c hc => by have := cyc_pts Ip.out c (List.mem_of_mem_take hc); exact ⟨this.1, this.2.2⟩)
            rw [List.length_take] at this
            omega)
          have Row := Lib.hid hrow
          have Py := Lib.hid hy.1
          have hl1 : 1 ≤ l := by rw [← hrow.1]; exact hy.2.1
          have hl20 : l ≤ 20 := by rw [← hrow.1]; exact hy.2.2
          clear hrow hy ey el e5 ec5
          go_wp2_with fail
          refine (implJoin A5 c5 l y wr Row.out.ri_ Row.out.hid Py hl1 hl20).mono ?_
          rintro e w4 ⟨t, rfl, ht, b4⟩
          have Ht := Lib.hid ht
          have ts : t.size ≤ 60 := by
            have := fmtI_len Py.out
            rw [← ht, len_toList0, Row.out.1] at this
            omega
          have Bld4 := Lib.hid (bld_up Bld.out b4)
          have z4 := b4.size
          have Bel4 : Hid (Below w2.heap.size w2 w4) := Lib.hid (btr Bel.out b4)
          have sz1 : ¬ 9223372036854775807 < 1 + t.size := by omega
          have sz2 : ¬ 9223372036854775807 < 1 + t.size + 1 := by omega
          have s1 : (⟨#[40]⟩ : ByteArray).size = 1 := rfl
          have s2' : (⟨#[41]⟩ : ByteArray).size = 1 := rfl
          have bs : ((⟨#[40]⟩ : ByteArray) ++ t ++ (⟨#[41]⟩ : ByteArray)).size = t.size + 2 := by rw [ByteArray.size_append, ByteArray.size_append]; omega
          clear ht b4
          go_wp2_with fail
          refine (writeT w2.heap.size w2.heap.size _ _ w4 Bld4.out (by have := Len.out; omega) (by omega)).mono ?_
          rintro e w5 ⟨rfl, bld5, b5⟩
          have Bld5 : Hid (Lib.IsBuilder 45 5 w2.heap.size w2.heap.size (Lib.byteCells (fmtCs ((cycl p).take (k + 1)))) w5) := Lib.hid (by
            rw [br_toList, Ht.out, ← Tk.out] at bld5; exact bld5)
          have Bel5 : Hid (Below w2.heap.size w2 w5) := Lib.hid (Bel4.out.trans b5)
          have z5 := b5.size
          clear bld5 b5
          go_wp2_with fail
          go_roundg (m - (k + 1))
          case rel => exact ⟨k + 1, by omega, Nat.le_refl _, by go_num, Bld5.out, by omega, Bel5.out⟩
          case measure => omega
        · have hkm : k = m := by omega
          subst hkm
          have Tk : Hid ((cycl p).take k = cycl p) := Lib.hid (List.take_of_length_le (by rw [Lm.out]; exact Nat.le_refl _))
          go_wp2_with fail
          refine (Tryd.Builder_String_any w2.heap.size w2.heap.size _ wr Bld.out (by omega)).mono ?_
          rintro e w5 ⟨rfl, b5⟩
          have B5 : Hid (Below w.heap.size w w5) := Lib.hid (btr B2.out (Bel.out.trans b5))
          clear b5
          go_wp2_with fail
          go_ret
          exact ⟨_, rfl, by rw [ByteArray.toList_mk, Tk.out, F.out], B5.out⟩

theorem fmtCs_zero {cs : List (List Int)} : fmtCs cs = [] ↔ cs.length = 0 := by
  cases cs with
  | nil => simp [fmtCs]
  | cons a t => simp [fmtCs]

set_option maxHeartbeats 1000000 in
/-- The model's FormatCycles. -/
theorem specFormatCycles (A : Option Addr) (c n : Nat) (p : List Int) (w : World) (hp : RI w w.heap.size A p) (lp : Hid (p.length = n)) (hn : n ≤ 2097152) (hc : n ≤ c) :
    Calls Tryd.prog 11 #[.slice A n c] w fun e w' => ∃ t, e = .returned (.string t) ∧ t.toList = fmtCyc p ∧ Below w.heap.size w w' := by
  rcases hs : isP p with _ | _
  · have Fin : Hid (fmtCyc p = []) := Lib.hid (if_neg (by rw [hs]; decide))
    go_enter Tryd.func11, Tryd.ntmps11
    go_wp2_with fail
    refine (quiet_below (specIsP A c n p w hp lp hn hc)).mono ?_
    rintro e w1 ⟨he, b1⟩
    rw [hs] at he
    subst he
    have B1 := Lib.hid b1
    clear b1
    go_wp2_with fail
    go_ret
    exact ⟨_, rfl, by rw [Fin.out]; exact empty_toList, B1.out⟩
  · have Ip := Lib.hid (isP_iff.1 hs)
    have Cl : Hid (cyclesL p = cycl p) := Lib.hid (if_pos hs)
    have Fin : Hid (fmtCyc p = if (cycl p).length = 0 then [40, 41] else fmtCs (cycl p)) := Lib.hid (if_pos hs)
    go_enter Tryd.func11, Tryd.ntmps11
    go_wp2_with fail
    refine (quiet_below (specIsP A c n p w hp lp hn hc)).mono ?_
    rintro e w1 ⟨he, b1⟩
    rw [hs] at he
    subst he
    have B1 := Lib.hid b1
    clear b1
    go_wp2_with fail
    refine (specCycles A c n p w1 (hp.up B1.out) lp hn hc).mono ?_
    rintro e w2 ⟨A2, m, c2, vs, rfl, s2, hm, b2⟩
    rw [Cl.out] at s2
    have S2 := Lib.hid s2
    have B2 : Hid (Below w.heap.size w w2) := Lib.hid (btr B1.out b2)
    have Lm := Lib.hid s2.lx
    clear s2 b2 hs
    go_wp2_with fail
    go_loopg [4, 5] m (fun gg sv i wr => ∃ k t, k ≤ m ∧ m - k ≤ gg ∧ i = .int .i64 (k : Nat) ∧ sv = .string t ∧ t.toList = fmtCs ((cycl p).take k) ∧ Below w2.heap.size w2 wr)
    case atStart => exact ⟨0, _, Nat.zero_le _, by omega, rfl, rfl, empty_toList, Below.refl _ _⟩
    case round =>
      obtain ⟨k, t, hk, hgg, rfl, rfl, ht, bel⟩ := hrel
      have T := Lib.hid ht
      have Bel := Lib.hid bel
      have Bw : Hid (Below w.heap.size w wr) := Lib.hid (btr B2.out bel)
      have Len : t.size ≤ 1240 := by
        have := fmtCs_len ((cycl p).take k) (fun c hc => by have := cyc_pts Ip.out c (List.mem_of_mem_take hc); exact ⟨this.1, this.2.2⟩)
        rw [List.length_take, ← ht, len_toList0] at this
        omega
      clear ht bel
      by_cases hlt : k < m
      · obtain ⟨g, rfl, hg1, hg2, hcel⟩ := S2.out.at_ (by omega)
        have c0 := (Bel.out.cell (p := ⟨g, k, none⟩) hg2).trans (hcel k hlt)
        obtain ⟨y, ey⟩ : ∃ y, (cycl p).getD k [] = y := ⟨_, rfl⟩
        have hy := cyc_at Ip.out (k := k) (by rw [Lm.out]; exact hlt)
        have hrow := (S2.out.row k hlt).up Bel.out
        rw [ey] at hrow hy
        obtain ⟨l, el⟩ : ∃ l, (vs.getD k sd0).2.1 = l := ⟨_, rfl⟩
        obtain ⟨A5, e5⟩ : ∃ A5, (vs.getD k sd0).1 = A5 := ⟨_, rfl⟩
        obtain ⟨c5, ec5⟩ : ∃ c5, (vs.getD k sd0).2.2 = c5 := ⟨_, rfl⟩
        rw [e5, el, ec5] at c0 hrow
        have Tk := Lib.hid (fmtCs_take (cs := cycl p) (by rw [Lm.out]; exact hlt) ey)
        have Row := Lib.hid hrow
        have Py := Lib.hid hy.1
        have hl1 : 1 ≤ l := by rw [← hrow.1]; exact hy.2.1
        have hl20 : l ≤ 20 := by rw [← hrow.1]; exact hy.2.2
        have sz0 : ¬ 9223372036854775807 < t.size + 1 := by omega
        clear hrow hy ey el e5 ec5 hcel
        go_wp2_with fail
        refine (specFmt A5 c5 l y wr Row.out.ri_ Row.out.hid Py hl1 hl20).mono ?_
        rintro e w4 ⟨u, rfl, hu, b4⟩
        have Hu := Lib.hid hu
        have ts : u.size ≤ 60 := by
          have := fmtI_len Py.out
          rw [← hu, len_toList0, Row.out.1] at this
          omega
        have Bel4 : Hid (Below w2.heap.size w2 w4) := Lib.hid (btr Bel.out b4)
        have sz1 : ¬ 9223372036854775807 < t.size + 1 + u.size := by omega
        have sz2 : ¬ 9223372036854775807 < t.size + 1 + u.size + 1 := by omega
        have tl : Hid ((t ++ (⟨#[40]⟩ : ByteArray) ++ u ++ (⟨#[41]⟩ : ByteArray)).toList = fmtCs ((cycl p).take (k + 1))) := Lib.hid (by
          rw [Tk.out, toList_app, toList_app, toList_app, T.out, Hu.out]
          have e1 : (⟨#[40]⟩ : ByteArray).toList = [40] := by rw [ByteArray.toList_eq]
          have e2 : (⟨#[41]⟩ : ByteArray).toList = [41] := by rw [ByteArray.toList_eq]
          rw [e1, e2]; simp)
        clear hu b4
        go_wp2_with fail
        go_roundg (m - (k + 1))
        case rel => exact ⟨k + 1, _, by omega, Nat.le_refl _, by go_num, rfl, tl.out, Bel4.out⟩
        case measure => omega
      · have hkm : k = m := by omega
        subst hkm
        have T2 : Hid (t.toList = fmtCs (cycl p)) := Lib.hid (by rw [T.out, List.take_of_length_le (by rw [Lm.out]; exact Nat.le_refl _)])
        by_cases h0 : k = 0
        · have F : Hid (fmtCyc p = [40, 41]) := Lib.hid (by rw [Fin.out, if_pos (by rw [Lm.out]; exact h0)])
          have te : t.toList.isEmpty = true := by rw [T2.out, List.isEmpty_iff, fmtCs_zero, Lm.out]; exact h0
          clear h0
          go_wp2_with fail
          go_ret
          exact ⟨_, rfl, by rw [F.out, ByteArray.toList_eq], Bw.out⟩
        · have F : Hid (fmtCyc p = fmtCs (cycl p)) := Lib.hid (by rw [Fin.out, if_neg (by rw [Lm.out]; exact h0)])
          have te : t.toList.isEmpty = false := by
            rw [Bool.eq_false_iff]; intro e; rw [List.isEmpty_iff, T2.out, fmtCs_zero, Lm.out] at e; exact h0 e
          clear h0
          go_wp2_with fail
          go_ret
          exact ⟨t, rfl, by rw [T2.out, F.out], Bw.out⟩
end Go.Proofs.YtplgdbkolklgnaaDoor
