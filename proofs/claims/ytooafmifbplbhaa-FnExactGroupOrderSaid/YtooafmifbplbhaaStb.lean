/- What StabilizerOrder answers; isPointSet and moveToFront of the model. Conditions: at most 20 points; lists of at most 1048576 numbers. -/
import Derived.Test.YtooafmifbplbhaaCrd
import Derived.Test.YtooafmifbplbhaaChX
import Derived.Deep.Upon
namespace Go.Proofs.Ytooafmifbplbhaa
open Go.RowKit

/-- A strictly increasing list of points. -/
def PtS (N : Nat) (pts : List Int) : Prop := pts.length ≤ N ∧ ∀ i, i < pts.length → 0 ≤ pts.getD i 0 ∧ pts.getD i 0 < N ∧ (0 < i → pts.getD (i - 1) 0 < pts.getD i 0)
/-- What StabilizerOrder answers: how many members fix the points. -/
def IsStb (a : Int) (gs : List (List Int)) (pts : List Int) (v : Int) : Prop :=
  (gB a gs = true ∧ PtS a.toNat pts ∧ ∃ c : Nat, Crd (fun p => Mb gs a.toNat p ∧ Fxs pts p) c ∧ v = (c : Int)) ∨ (¬ (gB a gs = true ∧ PtS a.toNat pts) ∧ v = 0)
theorem IsStb.uniq {a v v' : Int} {gs : List (List Int)} {pts : List Int} (h : IsStb a gs pts v) (h' : IsStb a gs pts v') : v = v' := by
  rcases h with ⟨e, f, c, hc, rfl⟩ | ⟨e, rfl⟩ <;> rcases h' with ⟨e', f', c', hc', rfl⟩ | ⟨e', rfl⟩
  · rw [hc.uniq hc']
  · exact absurd ⟨e, f⟩ e'
  · exact absurd ⟨e', f'⟩ e
  · rfl
section
variable {N : Nat} {pts : List Int}
theorem PtS.lt (h : PtS N pts) {i : Nat} : ∀ j, i < j → j < pts.length → pts.getD i 0 < pts.getD j 0
  | 0, hij, _ => absurd hij (Nat.not_lt_zero _)
  | j + 1, hij, hj => by
    have h1 := (h.2 (j + 1) hj).2.2 (Nat.succ_pos j)
    rw [Nat.add_sub_cancel] at h1
    by_cases e : i = j
    · rw [e]; exact h1
    · have := h.lt (i := i) j (by omega) (by omega)
      omega
theorem gdx {l : List Int} {i : Nat} (h : i < l.length) : l.getD i 0 = l[i] := by
  rw [List.getD_eq_getElem?_getD, List.getElem?_eq_getElem h]; rfl
theorem PtS.nodup (h : PtS N pts) : pts.Nodup := List.pairwise_iff_getElem.2 fun i j hi hj hij => by
  have := h.lt j hij hj
  rw [gdx hi, gdx hj] at this
  exact fun e => by rw [e] at this; omega
theorem PtS.mem (h : PtS N pts) {x : Int} (hx : x ∈ pts) : 0 ≤ x ∧ x < N := by
  obtain ⟨i, hi, rfl⟩ := List.mem_iff_getElem.1 hx
  have := h.2 i hi
  rw [gdx hi] at this
  exact ⟨this.1, this.2.1⟩
theorem hasB_mem {l : List Int} {x : Int} : hasB l x = true ↔ x ∈ l := by
  unfold hasB
  rw [decide_eq_true_eq, List.mem_iff_getElem]
  exact ⟨fun ⟨j, hj, e⟩ => ⟨j, hj, by rw [← gdx hj, e]⟩, fun ⟨j, hj, e⟩ => ⟨j, hj, by rw [gdx hj, e]⟩⟩
/-- The points in a new order: those of the list, then the others. -/
def mtf (pts : List Int) (k : Nat) : List Int := pts ++ ((List.range k).map Int.ofNat).filter fun x => !hasB pts x
theorem mtf_zero : mtf pts 0 = pts := by simp [mtf]
theorem mtf_yes {k : Nat} (h : hasB pts (k : Int) = true) : mtf pts (k + 1) = mtf pts k := by
  unfold mtf
  rw [List.range_succ, List.map_append, List.filter_append]
  simp [h]
theorem mtf_no {k : Nat} (h : hasB pts (k : Int) = false) : mtf pts (k + 1) = mtf pts k ++ [(k : Int)] := by
  unfold mtf
  rw [List.range_succ, List.map_append, List.filter_append]
  simp [h]
theorem mtf_le (k : Nat) : (mtf pts k).length ≤ pts.length + k := by
  unfold mtf
  rw [List.length_append]
  have := List.length_filter_le (fun x => !hasB pts x) ((List.range k).map Int.ofNat)
  simp at this ⊢; omega
theorem mtf_pre (k : Nat) {j : Nat} (hj : j < pts.length) : (mtf pts k).getD j 0 = pts.getD j 0 := getD_app _ _ _ _ hj
theorem PtS.mtf_mem (h : PtS N pts) (x : Int) : x ∈ mtf pts N ↔ 0 ≤ x ∧ x < N := by
  unfold mtf
  rw [List.mem_append, List.mem_filter, List.mem_map]
  constructor
  · rintro (hx | ⟨⟨i, hi, rfl⟩, _⟩)
    · exact h.mem hx
    · have := List.mem_range.1 hi
      exact ⟨Int.natCast_nonneg _, by show (i : Int) < N; omega⟩
  · rintro ⟨h0, h1⟩
    by_cases hx : x ∈ pts
    · exact .inl hx
    · refine .inr ⟨⟨x.toNat, List.mem_range.2 (by omega), by show ((x.toNat : Nat) : Int) = x; omega⟩, ?_⟩
      rw [Bool.not_eq_true', ← Bool.not_eq_true, hasB_mem]; exact hx
theorem PtS.mtf_nd (h : PtS N pts) : (mtf pts N).Nodup := by
  unfold mtf
  refine List.nodup_append.2 ⟨h.nodup, (nd_mapA List.nodup_range fun x _ y _ e => Int.ofNat.inj e).filter _, fun a ha b hb e => ?_⟩
  subst e
  have h2 := (List.mem_filter.1 hb).2
  rw [Bool.not_eq_true', ← Bool.not_eq_true, hasB_mem] at h2
  exact h2 ha
theorem PtS.mtf_pn (h : PtS N pts) (h1 : 1 ≤ N) (h2 : N ≤ 20) : Pn N (mtf pts N) := by
  have hr : ((List.range N).map Int.ofNat).Nodup := nd_mapA List.nodup_range fun x _ y _ e => Int.ofNat.inj e
  have hl : (mtf pts N).length = N := by
    have a := nd_subA (l := (List.range N).map Int.ofNat) h.mtf_nd fun x hx => by
      have := (h.mtf_mem x).1 hx
      exact List.mem_map.2 ⟨x.toNat, List.mem_range.2 (by omega), by show ((x.toNat : Nat) : Int) = x; omega⟩
    have b := nd_subA (l := mtf pts N) hr fun x hx => by
      obtain ⟨i, hi, rfl⟩ := List.mem_map.1 hx
      have := List.mem_range.1 hi
      exact (h.mtf_mem _).2 ⟨Int.natCast_nonneg _, by show (i : Int) < N; omega⟩
    simp at a b; omega
  have hm : ∀ i, i < (mtf pts N).length → 0 ≤ (mtf pts N).getD i 0 ∧ (mtf pts N).getD i 0 < N := fun i hi => by
    rw [gdx hi]; exact (h.mtf_mem _).1 (List.getElem_mem hi)
  refine ⟨⟨by omega, by omega, fun i hi => (hm i hi).1, fun i hi => by have := (hm i hi).2; omega, fun i j hi hj e => ?_⟩, hl⟩
  rw [gdx hi, gdx hj] at e
  have hp := List.pairwise_iff_getElem.1 h.mtf_nd
  rcases Nat.lt_trichotomy i j with hl | hl | hl
  · exact absurd e (hp i j hi hj hl)
  · exact hl
  · exact absurd e.symm (hp j i hj hi hl)
end

/-- append of nothing. -/
theorem wpList_app0 {w : World} {ops : Array Oper} {rest : List Oper} {o : Oper} {a : Act} {Q : Exit → Act → World → Prop} (hgd : o.guard = none) (s x : Operand)
    (ho : o.op = .call { callee := .builtin .append, args := #[s, x], argTypes := #[25, 25] })
    (b : Option Addr) (sl sc : Nat) (hle : sl ≤ sc) (hs : a.eval s = .slice b sl sc) (A : Option Addr) (c : Nat) (hx : a.eval x = .slice A 0 c)
    (h : wpList Try.prog ops Q rest (a.put o.dst (.slice b sl sc)) w) : wpList Try.prog ops Q (o :: rest) a w := by
  obtain ⟨i0, hi, hz0, hz1, hz2⟩ := info_parts infoI
  refine wpList_plain hgd fun _ hK => ?_
  have hr := run_append_nothing (P := Try.prog) w 25 25 o.type 2 i0 Try.underlying25 hi b sl sc hle (.slice A 0 c)
    ⟨.inl ⟨_, Try.underlying25⟩, fun w' => by cases A <;> rfl, by cases A <;> simp [Builtin.firstCells, loadCells, loadCellsFrom], by cases A <;> simp [Builtin.firstCells, loadCells, loadCellsFrom], by simp, fun u hu => by cases hu⟩
  unfold Oper.wp execOp
  simp only [ho, resolve, invoke, builtin, Sem.run_bind, Sem.run_pure, Result.andThen_ok, List.map_toArray, List.map_cons, List.map_nil, hs, hx, hr]
  exact hK _ _ h

/-- copyInts of whatever can be read. -/
theorem copyAny (A : Option Addr) (n c : Nat) (xs : List Int) (w : World) (h : RI w w.heap.size A xs) (lx : Hid (xs.length = n)) (hn : n ≤ 1000000) :
    Calls Try.prog 84 #[.slice A n c] w fun e w' => ∃ A' c', e = .returned (.slice A' n c') ∧ Slc w' w.heap.size A' n c' xs ∧ Below w.heap.size w w' := by
  by_cases h0 : 0 < n
  · obtain ⟨b, off, rfl, hb, hc⟩ := h (by rw [lx.out]; exact h0)
    exact copyRI b off n c xs w h lx.out hn
  · obtain rfl : n = 0 := by omega
    obtain rfl : xs = [] := List.length_eq_zero_iff.1 lx.out
    have H0 := Lib.hid (Slc.lit0 w w.heap.size (Nat.le_refl _))
    have B0 : Hid (Below w.heap.size w (w.alloc (.cells #[] 2))) := Lib.hid ((Below.refl _ w).alloc (Nat.le_refl _) _)
    clear h lx
    go_enter Try.func84, Try.ntmps84
    go_wp2_with (first | (at_builtin; refine wpList_app0 rfl _ _ rfl _ 0 0 (Nat.le_refl _) rfl A c rfl ?_))
    go_ret
    exact ⟨_, _, rfl, H0.out, B0.out⟩

/-- isPoint of the model. -/
theorem specPt4 (n x : Int) (w : World) (h1 : 1 ≤ n) (h2 : n ≤ 1000) (ans : Bool) (ha : Hid (decide (0 ≤ x ∧ x < n) = ans)) : Calls Try.prog 99 #[.int .i64 n, .int .i64 x] w fun e w' => e = .returned (.bool ans) ∧ w = w' := by
  rw [← ha.out]
  clear ha
  by_cases h : 0 ≤ x ∧ x < n
  · rw [decide_eq_true h]
    go_enter Try.func99, Try.ntmps99
    go_wp2_with fail
    refine (inR_true _ _ _ _ (by omega) (by omega)).mono ?_
    rintro e w' ⟨rfl, rfl⟩
    go_wp2
    go_ret
    exact ⟨rfl, rfl⟩
  · rw [decide_eq_false h]
    go_enter Try.func99, Try.ntmps99
    go_wp2_with fail
    refine (inR_false _ _ _ _ (by omega)).mono ?_
    rintro e w' ⟨rfl, rfl⟩
    go_wp2
    go_ret
    exact ⟨rfl, rfl⟩

set_option maxHeartbeats 2000000 in
set_option maxRecDepth 100000 in
/-- isPointSet of the model. -/
theorem specIsPS (N np cp : Nat) (P : Option Addr) (pts : List Int) (w : World) (hp : RI w w.heap.size P pts) (lp : Hid (pts.length = np)) (h1 : 1 ≤ N) (h2 : N ≤ 20) (hn : np ≤ 1048576) :
    Calls Try.prog 72 #[.int .i64 (N : Nat), .slice P np cp] w fun e w' => ∃ ans, e = .returned (.bool ans) ∧ (ans = true ↔ PtS N pts) ∧ ∃ m, w' = w.drewN m := by
  by_cases hle : np ≤ N
  · have d0 : decide ((N : Int) < (np : Int)) = false := by simp; omega
    go_enter Try.func72, Try.ntmps72
    go_wp2_with fail
    go_loopw [5] (fun i wr => ∃ k : Nat, k ≤ np ∧ i = .int .i64 (k : Nat) ∧ (∀ i, i < k → 0 ≤ pts.getD i 0 ∧ pts.getD i 0 < N ∧ (0 < i → pts.getD (i - 1) 0 < pts.getD i 0)) ∧ ∃ m, wr = w.drewN m) (fun i _ => np - (intOf i).toNat)
    case atStart => exact ⟨0, Nat.zero_le _, rfl, fun _ h => absurd h (Nat.not_lt_zero _), 0, rfl⟩
    case round =>
      obtain ⟨k, hk, rfl, ok, m, rfl⟩ := hrel
      have Ok := Lib.hid ok
      clear ok
      by_cases hlt : k < np
      · obtain ⟨b, off, rfl, hb, hc⟩ := hp (by rw [lp.out]; omega)
        have c1 := hc k (by rw [lp.out]; omega)
        have hc2 := Lib.hid hc
        obtain ⟨x, ex⟩ : ∃ x, pts.getD k 0 = x := ⟨_, rfl⟩
        rw [ex] at c1
        have Ex := Lib.hid ex
        clear ex hc
        have p1 : (0 : Int) ≤ k := by omega
        have p2 : (k : Int) < np := by omega
        by_cases hpt : 0 ≤ x ∧ x < (N : Int)
        · have Pt : Hid (decide (0 ≤ x ∧ x < (N : Int)) = true) := Lib.hid (decide_eq_true hpt)
          have Hpt := Lib.hid hpt
          clear hpt
          by_cases hk0 : k = 0
          · clear hc2
            have d1 : decide ((0 : Int) < (k : Int)) = false := by simp; omega
            have d2 : decide (0 < k) = false := by simp; omega
            have K0 := Lib.hid hk0
            clear hk0
            go_wp2
            go_quiet ((first | (go_at_call 99; exact quiet_add_left (specPt4 _ _ _ (by omega) (by omega) true Pt))))
            go_wp2
            go_roundw
            case rel => exact ⟨k + 1, by omega, by go_num, fun i hi => by
              have e0 := K0.out
              obtain rfl : i = k := by omega
              rw [Ex.out]; exact ⟨Hpt.out.1, Hpt.out.2, fun h => absurd h (by omega)⟩, _, rfl⟩
            case measure => simp [intOf]; omega
          · have d1 : decide ((0 : Int) < (k : Int)) = true := by simp; omega
            have d2 : decide (0 < k) = true := by simp; omega
            obtain ⟨u, hu⟩ : ∃ u : Nat, u + 1 = k := ⟨k - 1, by omega⟩
            have c2 := hc2.out u (by rw [lp.out]; omega)
            obtain ⟨y, ey⟩ : ∃ y, pts.getD u 0 = y := ⟨_, rfl⟩
            rw [ey] at c2
            have Ey := Lib.hid ey
            clear ey hc2
            have hw1 : IntKind.i64.wrap ((k : Int) - 1) = (u : Int) := by rw [IntKind.wrap_i64]; omega
            have p3 : (0 : Int) ≤ u := by omega
            have p4 : (u : Int) < np := by omega
            by_cases hxy : x ≤ y
            · have d3 : decide (x ≤ y) = true := decide_eq_true hxy
              have Fin : Hid (¬ PtS N pts) := Lib.hid fun h => by
                have := (h.2 k (by rw [lp.out]; exact hlt)).2.2 (by omega)
                rw [show k - 1 = u by omega, Ex.out, Ey.out] at this; omega
              clear hxy
              go_wp2
              go_quiet ((first | (go_at_call 99; exact quiet_add_left (specPt4 _ _ _ (by omega) (by omega) true Pt))))
              go_wp2
              go_ret
              exact ⟨false, rfl, ⟨fun h => (by cases h), fun h => absurd h Fin.out⟩, _, World.drewN_drewN _ _ _⟩
            · have d3 : decide (x ≤ y) = false := decide_eq_false hxy
              have Lt : Hid (y < x) := Lib.hid (by omega)
              clear hxy
              go_wp2
              go_quiet ((first | (go_at_call 99; exact quiet_add_left (specPt4 _ _ _ (by omega) (by omega) true Pt))))
              go_wp2
              go_roundw
              case rel => exact ⟨k + 1, by omega, by go_num, fun i hi => by
                by_cases e : i = k
                · subst e
                  rw [Ex.out, show i - 1 = u by omega, Ey.out]
                  exact ⟨Hpt.out.1, Hpt.out.2, fun _ => Lt.out⟩
                · exact Ok.out i (by omega), _, rfl⟩
              case measure => simp [intOf]; omega
        · have Pt : Hid (decide (0 ≤ x ∧ x < (N : Int)) = false) := Lib.hid (decide_eq_false hpt)
          have Fin : Hid (¬ PtS N pts) := Lib.hid fun h => by
            have := h.2 k (by rw [lp.out]; exact hlt)
            rw [Ex.out] at this
            exact hpt ⟨this.1, this.2.1⟩
          clear hpt hc2
          go_wp2
          go_quiet ((first | (go_at_call 99; exact quiet_add_left (specPt4 _ _ _ (by omega) (by omega) false Pt))))
          go_wp2
          go_ret
          exact ⟨false, rfl, ⟨fun h => (by cases h), fun h => absurd h Fin.out⟩, _, World.drewN_drewN _ _ _⟩
      · obtain rfl : k = np := by omega
        have Fin : Hid (PtS N pts) := Lib.hid ⟨by rw [lp.out]; exact hle, fun i hi => Ok.out i (by rw [← lp.out]; exact hi)⟩
        go_wp2
        go_ret
        exact ⟨true, rfl, ⟨fun _ => Fin.out, fun _ => rfl⟩, _, rfl⟩
  · have d0 : decide ((N : Int) < (np : Int)) = true := by simp; omega
    have Fin : Hid (¬ PtS N pts) := Lib.hid fun h => hle (by rw [← lp.out]; exact h.1)
    clear hp
    go_enter Try.func72, Try.ntmps72
    go_wp2
    go_ret
    exact ⟨false, rfl, ⟨fun h => (by cases h), fun h => absurd h Fin.out⟩, 0, rfl⟩

set_option maxHeartbeats 1000000 in
set_option maxRecDepth 100000 in
/-- moveToFront of the model. -/
theorem specMtf (N np cp : Nat) (P : Option Addr) (pts : List Int) (w : World) (hp : RI w w.heap.size P pts) (lp : Hid (pts.length = np)) (h2 : N ≤ 20) (hn : np ≤ 20) :
    Calls Try.prog 74 #[.int .i64 (N : Nat), .slice P np cp] w fun e w' => ∃ A' m c', e = .returned (.slice A' m c') ∧ Slc w' w.heap.size A' m c' (mtf pts N) ∧ Below w.heap.size w w' := by
  have HP := Lib.hid hp
  clear hp
  go_enter Try.func74, Try.ntmps74
  go_wp2_with fail
  refine (copyAny P np cp pts w HP.out lp (by omega)).mono ?_
  rintro e w1 ⟨A1, c1, rfl, s1, b1⟩
  have S1 : Hid (Slc w1 w.heap.size A1 np c1 (mtf pts 0)) := Lib.hid (by rw [mtf_zero]; exact s1)
  have B1 := Lib.hid b1
  clear s1 b1
  go_wp2_with fail
  go_loopw [5, 6] (fun v i wr => ∃ (k m cc : Nat) (A : Option Addr), k ≤ N ∧ i = .int .i64 (k : Nat) ∧ v = .slice A m cc ∧ Slc wr w.heap.size A m cc (mtf pts k) ∧ Below w.heap.size w wr) (fun _ i _ => N - (intOf i).toNat)
  case atStart => exact ⟨0, _, _, _, Nat.zero_le _, rfl, rfl, S1.out, B1.out⟩
  case round =>
    clear S1 B1
    obtain ⟨k, m, cc, A, hk, rfl, rfl, hs, bel⟩ := hrel
    have Ss := Lib.hid hs
    have Be := Lib.hid bel
    have P1 := Lib.hid ((HP.out.below bel (Nat.le_refl _)).more bel.size)
    have hm : m ≤ 40 := by have := mtf_le (pts := pts) k; rw [hs.1, lp.out] at this; omega
    clear hs bel
    by_cases hlt : k < N
    · rcases hh : hasB pts (k : Int) with _ | _
      · have Hh := Lib.hid hh
        have Tk := Lib.hid (mtf_no hh)
        clear hh
        go_wp2_with (first
          | (go_at_call 57; refine (containsI_any _ _ _ _ _ _ _ P1.out lp (by omega) false Hh).mono ?_; rintro e w' ⟨rfl, rfl⟩)
          | (at_builtin; refine wpList_app1 rfl _ _ rfl w.heap.size A m cc _ rfl (Ss.out.alloc _) wr.heap.size (k : Int) rfl (by rw [World.cell?_alloc_at _ _ _ _ rfl]; rfl) (by omega) (by have := Be.out.size; simp; omega) ?_; intro A3 c3 w3 s3 g3))
        have S3 : Hid (Slc w3 w.heap.size A3 (m + 1) c3 (mtf pts (k + 1))) := Lib.hid (by rw [Tk.out]; exact s3)
        have B3 : Hid (Below w.heap.size w w3) := Lib.hid ((Be.out.alloc Be.out.size _).grown g3 (by have := Be.out.size; simp; omega) (fun j hj => (Ss.out.lt_ j hj).1))
        clear s3 g3
        go_wp2_with fail
        go_roundw
        case rel => exact ⟨k + 1, _, _, _, by omega, by go_num, rfl, S3.out, B3.out⟩
        case measure => simp [intOf]; omega
      · have Hh := Lib.hid hh
        have Tk := Lib.hid (mtf_yes hh)
        clear hh
        go_wp2_with (first
          | (go_at_call 57; refine (containsI_any _ _ _ _ _ _ _ P1.out lp (by omega) true Hh).mono ?_; rintro e w' ⟨rfl, rfl⟩))
        go_roundw
        case rel => exact ⟨k + 1, _, _, _, by omega, by go_num, rfl, by rw [Tk.out]; exact Ss.out, Be.out⟩
        case measure => simp [intOf]; omega
    · obtain rfl : k = N := by omega
      go_wp2_with fail
      go_ret
      exact ⟨_, _, _, rfl, Ss.out, Be.out⟩
end Go.Proofs.Ytooafmifbplbhaa
