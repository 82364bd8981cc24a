/- Part 3 of the texts: ChQ, Ins, ChR, ChT, ChX, ChY, ChZ, ChV, Crd, Stb, StbS, Ct4, SrcA, DrawG. No condition of its own: each text tells its own. -/
import Derived.Test.YtbimhnifjnibjaaMg2
import Derived.Test.YtbimhnifjnibjaaMg1
import Derived.Deep.LoopGhost
import Derived.Deep.Upon
import Derived.Deep.CutRange
set_option linter.unusedVariables false
set_option linter.unusedSimpArgs false

/- What a whole chain tells: orbit sizes, the order, membership; what these are for the group. Conditions: at most 20 points, 8 generators. -/
namespace Go.Proofs.Ytbimhnifjnibjaa
open Go.RowKit

/-! ### the group's own numbers -/
section
variable {N : Nat} {gs hs : List (List Int)} {c : Ch}
theorem Whole.stab (h : Whole N gs c) (h1 : 1 ≤ N) (h2 : N ≤ 20) : ∀ i, i ≤ N → ∀ p, Mb (c.gen i) N p ↔ Mb gs N p ∧ Fx i p
  | 0, _, p => by rw [h.mem]; exact ⟨fun h => ⟨h, Fx.zero⟩, fun h => h.1⟩
  | i + 1, hi, p => by
    have ih := h.stab h1 h2 i (by omega)
    have hr := h.up.rep i (Nat.zero_le _) hi
    have hpn : ∀ g ∈ c.gen 0, Pn N g := h.up.pn (Nat.le_refl _) (Nat.zero_le _)
    constructor
    · intro hm
      have hp := hm.pn (h.up.pn (Nat.zero_le _) hi) h1 h2
      have hf : Fx (i + 1) p := by
        rcases Nat.lt_or_ge (i + 1) N with hl | hl
        · exact hm.fx (h.up.gp (i + 1) (Nat.zero_le _) hl) h1 h2 hi
        · obtain rfl : i + 1 = N := by omega
          rw [h.up.top] at hm
          rw [hm.none_]; exact fx_id (Nat.le_refl _)
      have hs := (sv_down hr hi hp (hf.mono (by omega)) (hf i (by omega))).2 ((h.up.sv (i + 1) (Nat.zero_le _) hi p).2 hm)
      exact ⟨((ih p).1 ((h.up.sv i (Nat.zero_le _) (by omega) p).1 hs)).1, hf⟩
    · rintro ⟨hm, hf⟩
      have hp := ((h.mem p).2 hm).pn hpn h1 h2
      have hs := (h.up.sv i (Nat.zero_le _) (by omega) p).2 ((ih p).2 ⟨hm, hf.mono (by omega)⟩)
      exact (h.up.sv (i + 1) (Nat.zero_le _) hi p).1 ((sv_down hr hi hp (hf.mono (by omega)) (hf i (by omega))).1 hs)
theorem Whole.rep_mb (h : Whole N gs c) (h1 : 1 ≤ N) (h2 : N ≤ 20) {i y : Nat} (hi : i < N) (hy : c.rep i y ≠ []) : Mb gs N (c.rep i y) ∧ Fx i (c.rep i y) ∧ nx (c.rep i y) i = y ∧ y < N := by
  have hl := (h.up.mono (Nat.zero_le i)).low hi h1 h2
  have h3 := (h.stab h1 h2 i (by omega) _).1 (hl.inn y hy)
  obtain ⟨a1, a2, a3, a4⟩ := hl.rep.at_ y hy
  exact ⟨h3.1, a3, a4, a1⟩
theorem Whole.rep_iff (h : Whole N gs c) (h1 : 1 ≤ N) (h2 : N ≤ 20) {i y : Nat} (hi : i < N) : c.rep i y ≠ [] ↔ ∃ p, Mb gs N p ∧ Fx i p ∧ nx p i = y := by
  constructor
  · intro hy
    obtain ⟨a, b, d, _⟩ := h.rep_mb h1 h2 hi hy
    exact ⟨_, a, b, d⟩
  · rintro ⟨p, hm, hf, rfl⟩
    exact (((h.up.sv i (Nat.zero_le _) (by omega) p).2 ((h.stab h1 h2 i (by omega) p).2 ⟨hm, hf⟩)).inv_low hi).2.2.1
/-- The sizes of the orbits of the points under the members that fix the points before them. -/
def IsOS (N : Nat) (gs : List (List Int)) (xs : List Int) : Prop := xs.length = N ∧ ∀ i, i < N → ∃ l : List Nat, l.Nodup ∧ (∀ y, y ∈ l ↔ y < N ∧ ∃ p, Mb gs N p ∧ Fx i p ∧ nx p i = y) ∧ xs.getD i 0 = (l.length : Int)
theorem IsOS.uniq {xs ys : List Int} (h : IsOS N gs xs) (h' : IsOS N gs ys) : xs = ys := by
  refine ext_getD h.1 h'.1 fun i hi => ?_
  obtain ⟨l, d, m, e⟩ := h.2 i hi
  obtain ⟨l', d', m', e'⟩ := h'.2 i hi
  have a := nd_sub d (fun x hx => (m' x).2 ((m x).1 hx))
  have b := nd_sub d' (fun x hx => (m x).2 ((m' x).1 hx))
  rw [e, e']; omega
/-- How many representatives a level has. -/
def nr (N : Nat) (c : Ch) (i m : Nat) : Nat := ((List.range m).filter fun y => !(c.rep i y).isEmpty).length
def osL (N : Nat) (c : Ch) (m : Nat) : List Int := (List.range m).map fun i => (nr N c i N : Int)
theorem nr_zero (N : Nat) (c : Ch) (i : Nat) : nr N c i 0 = 0 := rfl
theorem nr_yes {i m : Nat} (h : c.rep i m ≠ []) : nr N c i (m + 1) = nr N c i m + 1 := by
  unfold nr; rw [List.range_succ, List.filter_append]; simp [List.isEmpty_eq_false_iff.2 h]
theorem nr_no {i m : Nat} (h : c.rep i m = []) : nr N c i (m + 1) = nr N c i m := by
  unfold nr; rw [List.range_succ, List.filter_append]; simp [h]
theorem nr_le (i m : Nat) : nr N c i m ≤ m := by
  have := List.length_filter_le (fun y => !(c.rep i y).isEmpty) (List.range m)
  simpa [nr] using this
theorem osL_succ (m : Nat) : osL N c (m + 1) = osL N c m ++ [(nr N c m N : Int)] := by simp [osL, List.range_succ]
theorem osL_len (m : Nat) : (osL N c m).length = m := by simp [osL]
theorem osL_at {i m : Nat} (hi : i < m) : (osL N c m).getD i 0 = (nr N c i N : Int) := by
  unfold osL
  rw [List.getD_eq_getElem?_getD, List.getElem?_map, List.getElem?_range hi]; rfl
theorem Whole.os (h : Whole N gs c) (h1 : 1 ≤ N) (h2 : N ≤ 20) : IsOS N gs (osL N c N) := by
  refine ⟨osL_len N, fun i hi => ⟨(List.range N).filter fun y => !(c.rep i y).isEmpty, List.nodup_range.filter _, fun y => ?_, osL_at hi⟩⟩
  rw [List.mem_filter, List.mem_range, Bool.not_eq_true', List.isEmpty_eq_false_iff, h.rep_iff h1 h2 hi]
/-- Level i has a representative of i itself, and none below. -/
theorem Whole.nr_pos (h : Whole N gs c) (h1 : 1 ≤ N) {i : Nat} (hi : i < N) : 1 ≤ nr N c i N ∧ nr N c i N ≤ N - i := by
  have hr := h.up.rep i (Nat.zero_le _) hi
  constructor
  · unfold nr
    refine List.length_pos_of_mem (a := i) ?_
    rw [List.mem_filter, List.mem_range, Bool.not_eq_true', List.isEmpty_eq_false_iff]
    exact ⟨hi, by rw [hr.one]; intro e; have := idL_length N; rw [e] at this; simp at this; omega⟩
  · have : ((List.range N).filter fun y => !(c.rep i y).isEmpty).length ≤ (List.range' i (N - i)).length := by
      refine nd_sub (List.nodup_range.filter _) fun y hy => ?_
      rw [List.mem_filter, List.mem_range, Bool.not_eq_true', List.isEmpty_eq_false_iff] at hy
      obtain ⟨a1, a2, a3, a4⟩ := hr.at_ y hy.2
      have := a3.ge a2 hi
      rw [List.mem_range'_1]; omega
    simpa [nr] using this
/-- The product. -/
def prodL (l : List Int) : Int := l.foldl (fun a x => a * x) 1
theorem prodL_snoc (l : List Int) (x : Int) : prodL (l ++ [x]) = prodL l * x := by simp [prodL]
def facts : Nat → Nat → Nat
  | _, 0 => 1
  | N, m + 1 => facts N m * (N - m)
theorem facts_pos {N : Nat} : ∀ {m : Nat}, m ≤ N → 1 ≤ facts N m
  | 0, _ => Nat.le_refl _
  | m + 1, h => Nat.mul_pos (facts_pos (by omega)) (by omega)
theorem facts_mono {N m : Nat} (h : m < N) : facts N m ≤ facts N (m + 1) := Nat.le_mul_of_pos_right _ (by omega)
theorem facts_le {N : Nat} (hN : N ≤ 20) : ∀ m, m ≤ N → facts N m ≤ 2432902008176640000 := by
  have hall : ∀ N, N ≤ 20 → ∀ m, m ≤ N → facts N m ≤ 2432902008176640000 := by decide +kernel
  exact hall N hN
theorem Whole.prod_le (h : Whole N gs c) (h1 : 1 ≤ N) : ∀ m, m ≤ N → 1 ≤ prodL (osL N c m) ∧ prodL (osL N c m) ≤ (facts N m : Int)
  | 0, _ => by simp [osL, prodL, facts]
  | m + 1, hm => by
    obtain ⟨a, b⟩ := h.prod_le h1 m (by omega)
    obtain ⟨d, e⟩ := h.nr_pos h1 (i := m) hm
    rw [osL_succ, prodL_snoc]
    refine ⟨?_, ?_⟩
    · have := Int.mul_le_mul a (show (1 : Int) ≤ (nr N c m N : Int) by omega) (by omega) (by omega)
      simpa using this
    · have := Int.mul_le_mul b (show (nr N c m N : Int) ≤ ((N - m : Nat) : Int) by omega) (by omega) (by omega)
      show _ ≤ ((facts N m * (N - m) : Nat) : Int)
      rw [Int.natCast_mul]; exact this
end

set_option maxHeartbeats 400000 in
theorem specB2I (b : Bool) (w : World) : Calls Try.prog 47 #[.bool b] w fun e w' => e = .returned (.int .i64 (if b then 1 else 0)) ∧ w = w' := by
  cases b
  · go_enter Try.func47, Try.ntmps47
    go_wp2
    go_ret
    exact ⟨rfl, rfl⟩
  · go_enter Try.func47, Try.ntmps47
    go_wp2
    go_ret
    exact ⟨rfl, rfl⟩

set_option maxHeartbeats 2000000 in
set_option maxRecDepth 100000 in
theorem specSizes (base g N : Nat) (c : Ch) (L : LY) (gs : List (List Int)) (w : World) (hc : Cn w base g N c L) (hw : Whole N gs c) (hN1 : 1 ≤ N) (hN : N ≤ 20) :
    Calls Try.prog 24 #[.pointer (some ⟨g, 0, none⟩)] w fun e w' => ∃ A' c', e = .returned (.slice A' N c') ∧ Slc w' w.heap.size A' N c' (osL N c N) ∧ Below w.heap.size w w' := by
  have HC := Lib.hid hc
  have HW := Lib.hid hw
  have S0 := Lib.hid (Slc.lit0 w w.heap.size (Nat.le_refl _))
  clear hc hw
  go_enter Try.func24, Try.ntmps24
  go_wp2_with fail
  go_loopg [3, 4] N (fun gg v i wr => ∃ (k cc : Nat) (A : Option Addr), k ≤ N ∧ N - k ≤ gg ∧ i = .int .i64 (k : Nat) ∧ v = .slice A k cc ∧ Slc wr w.heap.size A k cc (osL N c k) ∧ Below w.heap.size w wr)
  case atStart => exact ⟨0, _, _, Nat.zero_le _, by omega, rfl, rfl, S0.out, (Below.refl _ _).alloc (Nat.le_refl _) _⟩
  case round =>
    clear S0
    obtain ⟨k, cc, A, hk, hgg, rfl, rfl, hs, bel⟩ := hrel
    have Ss := Lib.hid hs
    have Be := Lib.hid bel
    have C1 := Lib.hid (HC.out.up bel)
    have x0 := C1.out.c0
    clear hs bel
    by_cases hlt : k < N
    · go_wp2_with fail
      go_loopg [5, 6] N (fun gg s y wr2 => ∃ m : Nat, m ≤ N ∧ N - m ≤ gg ∧ y = .int .i64 (m : Nat) ∧ s = .int .i64 (nr N c k m : Nat) ∧ wr = wr2)
      case atStart => exact ⟨0, Nat.zero_le _, by omega, rfl, rfl, rfl⟩
      case round =>
        obtain ⟨m, hm, hg2, rfl, rfl, rfl⟩ := hrel
        by_cases hmt : m < N
        · have x1 := C1.out.c1
          have x2 := C1.out.cR hlt
          have x3 := C1.out.cro hlt hmt
          have en := C1.out.enn hlt hmt
          rcases hd : (L.en k).getD m sd0 with ⟨dA, dn, dc⟩
          rw [hd] at x3 en
          simp only [sval] at x3
          have q0 : (0 : Int) ≤ k := by omega
          have q1 : (k : Int) < N := by omega
          have q2 : (0 : Int) ≤ m := by omega
          have q3 : (m : Int) < N := by omega
          have hnm := nr_le (N := N) (c := c) k m
          have en2 : dn = (c.rep k m).length := en
          by_cases hz : c.rep k m = []
          · obtain rfl : dn = 0 := by rw [en2, hz]; rfl
            have d0 : decide ((0 : Int) < 0) = false := by decide
            have Kn := Lib.hid (nr_no (N := N) hz)
            clear hd en en2
            go_wp2_with (first | (go_at_call 47; refine (specB2I _ _).mono ?_; rintro e w' ⟨rfl, rfl⟩))
            go_roundg (N - (m + 1))
            case rel => exact ⟨m + 1, by omega, by omega, by go_num, by rw [Kn.out], rfl⟩
            case measure => omega
          · obtain rfl : dn = N := by
              have h2 := rep_ne_pos (HW.out.up.rep k (Nat.zero_le _) hlt) hz
              omega
            have d0 : decide ((0 : Int) < (dn : Int)) = true := by simp; omega
            have Kn := Lib.hid (nr_yes (N := dn) hz)
            clear hd en en2
            go_wp2_with (first | (go_at_call 47; refine (specB2I _ _).mono ?_; rintro e w' ⟨rfl, rfl⟩))
            go_roundg (dn - (m + 1))
            case rel => exact ⟨m + 1, by omega, by omega, by go_num, by rw [Kn.out]; go_num, rfl⟩
            case measure => omega
        · obtain rfl : m = N := by omega
          have hzr := Be.out.size
          have Osk := Lib.hid (osL_succ (N := m) (c := c) k)
          go_wp2_with (at_builtin; refine wpList_app1 rfl _ _ rfl w.heap.size A k cc _ rfl (Ss.out.alloc _) wr.heap.size (nr m c k m : Int) rfl (by rw [World.cell?_alloc_at _ _ _ _ rfl]; rfl) (by omega) (by simp; omega) ?_; intro A3 c3 w3 s3 g3)
          have S3 : Hid (Slc w3 w.heap.size A3 (k + 1) c3 (osL m c (k + 1))) := Lib.hid (by rw [Osk.out]; exact s3)
          have B3 : Hid (Below w.heap.size w w3) := Lib.hid ((Be.out.alloc hzr _).grown g3 (by simp; omega) (fun j hj => (Ss.out.lt_ j hj).1))
          clear s3 g3
          go_wp2_with fail
          go_roundg (m - (k + 1))
          case rel => exact ⟨k + 1, _, _, by omega, by omega, by go_num, rfl, S3.out, B3.out⟩
          case measure => omega
    · obtain rfl : k = N := by omega
      go_wp2_with fail
      go_ret
      exact ⟨_, _, rfl, Ss.out, Be.out⟩

theorem specOrder (base g N : Nat) (c : Ch) (L : LY) (gs : List (List Int)) (w : World) (hc : Cn w base g N c L) (hw : Whole N gs c) (hN1 : 1 ≤ N) (hN : N ≤ 20) :
    Calls Try.prog 22 #[.pointer (some ⟨g, 0, none⟩)] w fun e w' => e = .returned (.int .i64 (prodL (osL N c N))) ∧ Below w.heap.size w w' := by
  have HC := Lib.hid hc
  have HW := Lib.hid hw
  clear hc hw
  go_enter Try.func22, Try.ntmps22
  go_wp2_with fail
  refine (specSizes base g N c L gs w HC.out HW.out hN1 hN).mono ?_
  rintro e w1 ⟨A, cc, rfl, s1, b1⟩
  have S1 := Lib.hid s1
  have B1 := Lib.hid b1
  clear s1 b1
  go_wp2_with fail
  go_loop [3, 5] (fun o i => ∃ k : Nat, k ≤ N ∧ i = .int .i64 (k : Nat) ∧ o = .int .i64 (prodL (osL N c k))) (fun _ i => N - (intOf i).toNat)
  case atStart => exact ⟨0, Nat.zero_le _, rfl, rfl⟩
  case round =>
    obtain ⟨k, hk, rfl, rfl⟩ := hrel
    by_cases hlt : k < N
    · obtain ⟨b, off, rfl, hb, hcell⟩ := S1.out.ri_ (by rw [S1.out.1]; omega)
      have x1 := hcell k (by rw [S1.out.1]; exact hlt)
      rw [osL_at hlt] at x1
      have pl := HW.out.prod_le hN1 (k + 1) hlt
      have pf := facts_le hN (k + 1) hlt
      rw [osL_succ, prodL_snoc] at pl
      have wr1 : IntKind.i64.wrap (prodL (osL N c k) * (nr N c k N : Int)) = prodL (osL N c k) * (nr N c k N : Int) := by rw [IntKind.wrap_i64]; omega
      have e1 : prodL (osL N c (k + 1)) = prodL (osL N c k) * (nr N c k N : Int) := by rw [osL_succ, prodL_snoc]
      have E1 := Lib.hid e1
      have q0 : (0 : Int) ≤ k := by omega
      have q1 : (k : Int) < N := by omega
      clear hb hcell pl pf e1
      go_wp2_with fail
      go_round
      case rel => exact ⟨k + 1, by omega, by go_num, by rw [E1.out]⟩
      case measure => simp [intOf]; omega
    · obtain rfl : k = N := by omega
      go_wp2_with fail
      go_ret
      exact ⟨rfl, B1.out⟩
end Go.Proofs.Ytbimhnifjnibjaa

/- insertSorted and sortedInts of the model. No condition but lengths. -/
namespace Go.Proofs.Ytbimhnifjnibjaa
open Go.RowKit

/-- The sorted list with v put in at k. -/
def putIn (ys : List Int) (k : Nat) (v : Int) : List Int := ys.take k ++ [v] ++ ys.drop k
theorem putIn_perm (ys : List Int) (k : Nat) (v : Int) : (putIn ys k v).Perm (v :: ys) := by
  unfold putIn
  have h : (ys.take k ++ [v]).Perm (v :: ys.take k) := List.perm_append_comm
  have := h.append_right (ys.drop k)
  rw [List.cons_append, List.take_append_drop] at this
  exact this
theorem putIn_sorted {ys : List Int} {k : Nat} {v : Int} (hs : ys.Pairwise (· ≤ ·)) (h1 : ∀ j, j < k → ys.getD j 0 < v) (h2 : k < ys.length → v ≤ ys.getD k 0) : (putIn ys k v).Pairwise (· ≤ ·) := by
  unfold putIn
  have hd : ∀ b ∈ ys.drop k, v ≤ b := fun b hb => by
    obtain ⟨j, hj, e⟩ := List.mem_iff_getElem.1 hb
    rw [List.length_drop] at hj
    rw [List.getElem_drop] at e
    have h3 := h2 (by omega)
    rw [List.getD_eq_getElem?_getD, List.getElem?_eq_getElem (by omega : k < ys.length)] at h3
    rw [List.pairwise_iff_getElem] at hs
    rw [← e]
    by_cases e0 : j = 0
    · subst e0; simpa using h3
    · have := hs k (k + j) (by omega) (by omega) (by omega)
      have h3' : v ≤ ys[k] := by simpa using h3
      omega
  have ht : ∀ a ∈ ys.take k, a < v := fun a ha => by
    obtain ⟨j, hj, e⟩ := List.mem_iff_getElem.1 ha
    rw [List.length_take] at hj
    rw [List.getElem_take] at e
    have := h1 j (by omega)
    rw [List.getD_eq_getElem?_getD, List.getElem?_eq_getElem (by omega)] at this
    rw [← e]; simpa using this
  rw [List.append_assoc, List.pairwise_append]
  refine ⟨hs.sublist (List.take_sublist _ _), ?_, fun a ha b hb => ?_⟩
  · rw [List.singleton_append, List.pairwise_cons]
    exact ⟨hd, hs.sublist (List.drop_sublist _ _)⟩
  · have := ht a ha
    rcases List.mem_append.1 hb with hb | hb
    · obtain rfl : b = v := by simpa using hb
      omega
    · have := hd b hb; omega

set_option maxHeartbeats 2000000 in
set_option maxRecDepth 100000 in
/-- insertSorted, of a number that the list lacks. -/
theorem specIns (g n c base : Nat) (ys : List Int) (v : Int) (w : World) (h : Slc w base (some ⟨g, 0, none⟩) n c ys) (hv : Hid (v ∉ ys)) (hn : n ≤ 1000) :
    Calls Try.prog 62 #[.slice (some ⟨g, 0, none⟩) n c, .int .i64 v] w fun e w' => ∃ g' c' zs, e = .returned (.slice (some ⟨g', 0, none⟩) (n + 1) c') ∧ Slc w' w.heap.size (some ⟨g', 0, none⟩) (n + 1) c' zs ∧ zs.Perm (v :: ys) ∧ (ys.Pairwise (· ≤ ·) → zs.Pairwise (· ≤ ·)) ∧ Below w.heap.size w w' := by
  have H := Lib.hid h
  have lx := h.1
  have hnc := h.le.1
  have ri := Lib.hid h.ri_
  clear h
  go_enter Try.func62, Try.ntmps62
  go_wp2
  go_loop [5] (fun i => ∃ k : Nat, k ≤ n ∧ i = .int .i64 (k : Nat) ∧ ∀ j, j < k → ys.getD j 0 < v) (fun i => n - (intOf i).toNat)
  case atStart => exact ⟨0, Nat.zero_le _, rfl, fun j h => absurd h (by omega)⟩
  case round =>
    obtain ⟨k, hk, rfl, hz⟩ := hrel
    have Hz := Lib.hid hz
    clear hz
    have EndIt : Hid (∀ (hge : k < n → v ≤ ys.getD k 0), (putIn ys k v).Perm (v :: ys) ∧ (ys.Pairwise (· ≤ ·) → (putIn ys k v).Pairwise (· ≤ ·))) := Lib.hid fun hge => ⟨putIn_perm _ _ _, fun hs => putIn_sorted hs Hz.out (fun h => hge (by rw [← lx]; exact h))⟩
    have RIt : Hid (RI w w.heap.size (some ⟨g, 0, none⟩) (ys.take k)) := Lib.hid (takeRI ri.out k)
    have ltk : Hid ((ys.take k).length = k) := Lib.hid (by rw [List.length_take]; omega)
    have ldr : Hid ((ys.drop k).length = n - k) := Lib.hid (by rw [List.length_drop]; omega)
    have DrX : Hid (∀ w3 : World, Below w.heap.size w w3 → RI w3 w3.heap.size (some ⟨g, k, none⟩) (ys.drop k)) := Lib.hid fun w3 hb => dropRI H.out hb fun _ => rfl
    have ld0 : Hid (c = k → (ys.drop k).length = 0) := Lib.hid fun e => by have := ldr.out; omega
    have Dr0 : Hid (c = k → ∀ w3 : World, Below w.heap.size w w3 → RI w3 w3.heap.size (some ⟨g, 0, none⟩) (ys.drop k)) := Lib.hid fun e w3 hb => dropRI H.out hb fun h => by omega
    have p1 : (k : Int) ≤ c := by omega
    by_cases hlt : k < n
    · obtain ⟨b, off, e1, hb, hc⟩ := ri.out (by rw [lx]; omega)
      have c1 := hc k (by rw [lx]; exact hlt)
      obtain ⟨rfl, rfl⟩ : g = b ∧ 0 = off := by injection e1 with e1; injection e1 with e1 e2; exact ⟨e1, e2⟩
      rw [Nat.zero_add] at c1
      have hne : ys.getD k 0 ≠ v := fun e => hv.out (by rw [← e]; exact (by rw [List.getD_eq_getElem?_getD, List.getElem?_eq_getElem (by omega)]; exact List.getElem_mem _))
      obtain ⟨u, eu⟩ : ∃ u, ys.getD k 0 = u := ⟨_, rfl⟩
      rw [eu] at c1 hne
      have Eu := Lib.hid eu
      clear eu hc e1
      by_cases hlv : u < v
      · go_wp2
        go_round
        case rel => exact ⟨k + 1, by omega, by go_num, fun j hj => by
          by_cases e : j = k
          · subst e; rw [Eu.out]; exact hlv
          · exact Hz.out j (by omega)⟩
        case measure => simp [intOf]; omega
      · have Z := Lib.hid (EndIt.out (fun _ => by rw [Eu.out]; omega))
        have hck : ¬ c = k := by omega
        clear EndIt
        go_wp2_with fail
        refine (copyRI g 0 k _ (ys.take k) w RIt.out ltk.out (by omega)).mono ?_
        rintro e w2 ⟨A2, c2, rfl, s2, b2⟩
        have S2 := Lib.hid s2
        have B2 := Lib.hid b2
        have Z2 := b2.size
        clear s2 b2
        go_wp2_with (first
            | (at_builtin; refine wpList_app1 rfl _ _ rfl w.heap.size A2 k c2 _ rfl (S2.out.alloc _) w2.heap.size v rfl (by rw [World.cell?_alloc_at _ _ _ _ rfl]; rfl) (by omega) (by simp; omega) ?_; intro A3 c3 w3 s3 g3; have B3 : Hid (Below w.heap.size w w3) := Lib.hid ((B2.out.alloc B2.out.size _).grown g3 (by simp; omega) (fun j hj => (S2.out.lt_ j hj).1)); have S3 := Lib.hid s3; clear s3 g3)
            | (at_builtin; refine wpList_appN rfl _ _ rfl w.heap.size A3 (k + 1) c3 _ rfl S3.out g k (n - k) (c - k) (ys.drop k) rfl (DrX.out _ B3.out) ldr.out (by omega) B3.out.size ?_; intro A4 c4 w4 s4 g4))
        have S4 : Hid (Slc w4 w.heap.size A4 (n + 1) c4 (putIn ys k v)) := Lib.hid (by
          have := s4
          rw [show k + 1 + (n - k) = n + 1 from by omega] at this
          exact this)
        have B4 : Hid (Below w.heap.size w w4) := Lib.hid (B3.out.grown g4 B3.out.size (fun j hj => (S3.out.lt_ j hj).1))
        rw [show k + 1 + (n - k) = n + 1 from by omega]
        clear s4 g4
        obtain ⟨q4, rfl⟩ : ∃ q4, A4 = some ⟨q4, 0, none⟩ := by
          rcases S4.out.at_ with ⟨_, _, e0, _⟩ | ⟨q4, e0, _, _⟩
          · omega
          · exact ⟨q4, e0⟩
        go_wp2
        go_ret
        exact ⟨_, _, _, rfl, S4.out, Z.out.1, Z.out.2, B4.out⟩
    · have hkn : k = n := by omega
      have Z := Lib.hid (EndIt.out (fun h => absurd h hlt))
      subst hkn
      clear EndIt
      by_cases hck : c = k
      · subst hck
        go_wp2_with fail
        refine (copyRI g 0 c _ (ys.take c) w RIt.out ltk.out (by omega)).mono ?_
        rintro e w2 ⟨A2, c2, rfl, s2, b2⟩
        have S2 := Lib.hid s2
        have B2 := Lib.hid b2
        have Z2 := b2.size
        clear s2 b2
        go_wp2_with (first
            | (at_builtin; refine wpList_app1 rfl _ _ rfl w.heap.size A2 c c2 _ rfl (S2.out.alloc _) w2.heap.size v rfl (by rw [World.cell?_alloc_at _ _ _ _ rfl]; rfl) (by omega) (by simp; omega) ?_; intro A3 c3 w3 s3 g3; have B3 : Hid (Below w.heap.size w w3) := Lib.hid ((B2.out.alloc B2.out.size _).grown g3 (by simp; omega) (fun j hj => (S2.out.lt_ j hj).1)); have S3 := Lib.hid s3; clear s3 g3)
            | (at_builtin; refine wpList_appN rfl _ _ rfl w.heap.size A3 (c + 1) c3 _ rfl S3.out g 0 0 0 (ys.drop c) rfl (Dr0.out trivial _ B3.out) (ld0.out trivial) (by omega) B3.out.size ?_; intro A4 c4 w4 s4 g4))
        have S4 : Hid (Slc w4 w.heap.size A4 (c + 1) c4 (putIn ys c v)) := Lib.hid s4
        have B4 : Hid (Below w.heap.size w w4) := Lib.hid (B3.out.grown g4 B3.out.size (fun j hj => (S3.out.lt_ j hj).1))
        clear s4 g4
        obtain ⟨q4, rfl⟩ : ∃ q4, A4 = some ⟨q4, 0, none⟩ := by
          rcases S4.out.at_ with ⟨_, _, e0, _⟩ | ⟨q4, e0, _, _⟩
          · omega
          · exact ⟨q4, e0⟩
        go_wp2
        go_ret
        exact ⟨_, _, _, rfl, S4.out, Z.out.1, Z.out.2, B4.out⟩
      · have ld1 : Hid ((ys.drop k).length = k - k) := ldr
        go_wp2_with fail
        refine (copyRI g 0 k _ (ys.take k) w RIt.out ltk.out (by omega)).mono ?_
        rintro e w2 ⟨A2, c2, rfl, s2, b2⟩
        have S2 := Lib.hid s2
        have B2 := Lib.hid b2
        have Z2 := b2.size
        clear s2 b2
        go_wp2_with (first
            | (at_builtin; refine wpList_app1 rfl _ _ rfl w.heap.size A2 k c2 _ rfl (S2.out.alloc _) w2.heap.size v rfl (by rw [World.cell?_alloc_at _ _ _ _ rfl]; rfl) (by omega) (by simp; omega) ?_; intro A3 c3 w3 s3 g3; have B3 : Hid (Below w.heap.size w w3) := Lib.hid ((B2.out.alloc B2.out.size _).grown g3 (by simp; omega) (fun j hj => (S2.out.lt_ j hj).1)); have S3 := Lib.hid s3; clear s3 g3)
            | (at_builtin; refine wpList_appN rfl _ _ rfl w.heap.size A3 (k + 1) c3 _ rfl S3.out g k 0 (c - k) (ys.drop k) rfl (DrX.out _ B3.out) (by rw [ld1.out]; omega) (by omega) B3.out.size ?_; intro A4 c4 w4 s4 g4))
        have S4 : Hid (Slc w4 w.heap.size A4 (k + 1) c4 (putIn ys k v)) := Lib.hid s4
        have B4 : Hid (Below w.heap.size w w4) := Lib.hid (B3.out.grown g4 B3.out.size (fun j hj => (S3.out.lt_ j hj).1))
        clear s4 g4
        obtain ⟨q4, rfl⟩ : ∃ q4, A4 = some ⟨q4, 0, none⟩ := by
          rcases S4.out.at_ with ⟨_, _, e0, _⟩ | ⟨q4, e0, _, _⟩
          · omega
          · exact ⟨q4, e0⟩
        go_wp2
        go_ret
        exact ⟨_, _, _, rfl, S4.out, Z.out.1, Z.out.2, B4.out⟩

end Go.Proofs.Ytbimhnifjnibjaa

/- Members with given entries, by the model's chain. Conditions: at most 20 points, 8 generators. -/
namespace Go.Proofs.Ytbimhnifjnibjaa
open Go.RowKit

/-- The entries that level i allows behind p, among the first m points. -/
def chL (c : Ch) (i : Nat) (p : List Int) (m : Nat) : List Int := ((List.range m).filter fun y => !(c.rep i y).isEmpty).map fun y => (nx p y : Int)
theorem chL_yes {c : Ch} {i m : Nat} {p : List Int} (h : c.rep i m ≠ []) : chL c i p (m + 1) = chL c i p m ++ [(nx p m : Int)] := by
  unfold chL; rw [List.range_succ, List.filter_append]; simp [List.isEmpty_eq_false_iff.2 h]
theorem chL_no {c : Ch} {i m : Nat} {p : List Int} (h : c.rep i m = []) : chL c i p (m + 1) = chL c i p m := by
  unfold chL; rw [List.range_succ, List.filter_append]; simp [h]
theorem chL_mem {c : Ch} {i m : Nat} {p : List Int} {v : Int} : v ∈ chL c i p m ↔ ∃ y, y < m ∧ c.rep i y ≠ [] ∧ (nx p y : Int) = v := by
  simp only [chL, List.mem_map, List.mem_filter, List.mem_range, Bool.not_eq_true', List.isEmpty_eq_false_iff, and_assoc]
theorem chL_len (c : Ch) (i : Nat) (p : List Int) (m : Nat) : (chL c i p m).length ≤ m := by
  unfold chL; rw [List.length_map]
  have := List.length_filter_le (fun y => !(c.rep i y).isEmpty) (List.range m)
  simpa using this

set_option maxHeartbeats 2000000 in
set_option maxRecDepth 100000 in
theorem specChoices (base g N i cp : Nat) (A : Option Addr) (c : Ch) (L : LY) (gs : List (List Int)) (p : List Int) (w : World) (hc : Cn w base g N c L) (hw : Whole N gs c) (hp : RI w w.heap.size A p) (hP : Hid (Pn N p)) (hi : i < N) :
    Calls Try.prog 48 #[.pointer (some ⟨g, 0, none⟩), .int .i64 (i : Nat), .slice A N cp] w fun e w' => ∃ g' m cc zs, e = .returned (.slice (some ⟨g', 0, none⟩) m cc) ∧ Slc w' w.heap.size (some ⟨g', 0, none⟩) m cc zs ∧ zs.Perm (chL c i p N) ∧ zs.Pairwise (· ≤ ·) ∧ Below w.heap.size w w' := by
  have HC := Lib.hid hc
  have HW := Lib.hid hw
  have HP := Lib.hid hp
  have hN := hP.out.pos
  have S0 := Lib.hid (Slc.lit0 w w.heap.size (Nat.le_refl _))
  clear hc hw hp
  go_enter Try.func48, Try.ntmps48
  go_wp2_with fail
  go_loopw [7, 8] (fun v j wr => ∃ (k m cc q : Nat) (zs : List Int), k ≤ N ∧ m ≤ k ∧ j = .int .i64 (k : Nat) ∧ v = .slice (some ⟨q, 0, none⟩) m cc ∧ Slc wr w.heap.size (some ⟨q, 0, none⟩) m cc zs ∧ zs.Perm (chL c i p k) ∧ zs.Pairwise (· ≤ ·) ∧ Below w.heap.size w wr) (fun _ j _ => N - (intOf j).toNat)
  case atStart => exact ⟨0, 0, _, _, [], Nat.zero_le _, Nat.le_refl _, rfl, rfl, S0.out, .refl _, .nil, (Below.refl _ _).alloc (Nat.le_refl _) _⟩
  case round =>
    clear S0
    obtain ⟨k, m, cc, q, zs, hk, hmk, rfl, rfl, hs, hpm, hso, bel⟩ := hrel
    have Ss := Lib.hid hs
    have Be := Lib.hid bel
    have Pm1 := Lib.hid hpm
    have So := Lib.hid hso
    have C1 := Lib.hid (HC.out.up bel)
    have x0 := C1.out.c0
    clear hs hpm hso
    by_cases hlt : k < N
    · have x1 := C1.out.c1
      have x2 := C1.out.cR hi
      have x3 := C1.out.cro hi hlt
      have en := C1.out.enn hi hlt
      rcases hd : (L.en i).getD k sd0 with ⟨dA, dn, dc⟩
      rw [hd] at x3 en
      simp only [sval] at x3
      have q0 : (0 : Int) ≤ k := by omega
      have q1 : (k : Int) < N := by omega
      have q2 : (0 : Int) ≤ i := by omega
      have q3 : (i : Int) < N := by omega
      have en2 : dn = (c.rep i k).length := en
      by_cases hz : c.rep i k = []
      · obtain rfl : dn = 0 := by rw [en2, hz]; rfl
        have d0 : decide ((0 : Int) < 0) = false := by decide
        have Kn := Lib.hid (chL_no (p := p) hz)
        clear hd en en2 bel
        go_wp2_with fail
        go_roundw
        case rel => exact ⟨k + 1, m, cc, q, zs, by omega, by omega, by go_num, rfl, Ss.out, by rw [Kn.out]; exact Pm1.out, So.out, Be.out⟩
        case measure => simp [intOf]; omega
      · obtain rfl : dn = N := by
          have h2 := rep_ne_pos (HW.out.up.rep i (Nat.zero_le _) hi) hz
          omega
        have d0 : decide ((0 : Int) < (dn : Int)) = true := by simp; omega
        have Kn := Lib.hid (chL_yes (p := p) hz)
        obtain ⟨b, off, rfl, hb, hcell⟩ := (HP.out.up bel) (by rw [hP.out.2]; omega)
        have x4 := hcell k (by rw [hP.out.2]; exact hlt)
        rw [nx_val hP.out.1 (by rw [hP.out.2]; exact hlt)] at x4
        have hv : Hid (((nx p k : Nat) : Int) ∉ zs) := Lib.hid fun hm => by
          obtain ⟨y, hy, _, e⟩ := chL_mem.1 (Pm1.out.mem_iff.1 hm)
          have := hP.out.inj (x := y) (y := k) (by omega) hlt (by omega)
          omega
        obtain ⟨v, ev⟩ : ∃ v, nx p k = v := ⟨_, rfl⟩
        rw [ev] at x4 hv Kn
        clear hd en en2 bel hb hcell ev
        go_wp2_with fail
        refine (specIns q m cc w.heap.size zs (v : Int) wr Ss.out hv (by omega)).mono ?_
        rintro e w2 ⟨g2, c2, zs2, rfl, s2, p2, o2, b2⟩
        have S2 : Hid (Slc w2 w.heap.size (some ⟨g2, 0, none⟩) (m + 1) c2 zs2) := Lib.hid (s2.mono Be.out.size)
        have P2 : Hid (zs2.Perm (chL c i p (k + 1))) := Lib.hid (by
          rw [Kn.out]
          exact (p2.trans (Pm1.out.cons _)).trans (by simpa using (List.perm_append_comm (l₁ := [(v : Int)]) (l₂ := chL c i p k))))
        have O2 := Lib.hid (o2 So.out)
        have Be2 : Hid (Below w.heap.size w w2) := Lib.hid (btr Be.out b2)
        clear s2 p2 o2 b2
        go_wp2_with fail
        go_roundw
        case rel => exact ⟨k + 1, m + 1, c2, g2, zs2, by omega, by omega, by go_num, rfl, S2.out, P2.out, O2.out, Be2.out⟩
        case measure => simp [intOf]; omega
    · obtain rfl : k = N := by omega
      clear bel
      go_wp2_with fail
      go_ret
      exact ⟨q, m, cc, zs, rfl, Ss.out, Pm1.out, So.out, Be.out⟩

set_option maxHeartbeats 2000000 in
set_option maxRecDepth 100000 in
theorem specWithEntry (base g N i v y cp : Nat) (A : Option Addr) (c : Ch) (L : LY) (p : List Int) (w : World) (hc : Cn w base g N c L) (hp : RI w w.heap.size A p) (hP : Hid (Pn N p)) (hi : i < N) (hy : y < N) (hv : Hid (nx p y = v)) (hz : Hid (Pn N (c.rep i y))) :
    Calls Try.prog 49 #[.pointer (some ⟨g, 0, none⟩), .int .i64 (i : Nat), .slice A N cp, .int .i64 (v : Nat)] w fun e w' => ∃ A' c', e = .returned (.slice A' N c') ∧ Slc w' w.heap.size A' N c' (compL (c.rep i y) p) ∧ Below w.heap.size w w' := by
  have HC := Lib.hid hc
  have HP := Lib.hid hp
  have hN := hP.out.pos
  have x1 := hc.c1
  have x2 := hc.cR hi
  have q0 : (0 : Int) ≤ v := by omega
  have hvN : v < N := by rw [← hv.out]; exact hP.out.lt hy
  have q1 : (v : Int) < N := by omega
  have q2 : (0 : Int) ≤ i := by omega
  have q3 : (i : Int) < N := by omega
  have q4 : (0 : Int) ≤ y := by omega
  have q5 : (y : Int) < N := by omega
  have x3 := hc.cro hi hy
  have en := hc.enn hi hy
  rcases hd : (L.en i).getD y sd0 with ⟨dA, dn, dc⟩
  rw [hd] at x3 en
  simp only [sval] at x3
  obtain rfl : dn = N := by
    have h1 : dn = (c.rep i y).length := en
    rw [h1, hz.out.2]
  have Hd := Lib.hid hd
  clear hc hp hd en
  go_enter Try.func49, Try.ntmps49
  go_wp2_with fail
  have Iv : Hid ((invL p dn).getD v 0 = (y : Int)) := Lib.hid (by
    have e1 : invL p dn = iv p := by unfold iv; rw [hP.out.2]
    have e2 := hP.out.nxi hy
    rw [hv.out] at e2
    have h3 := hP.out.iv
    rw [e1, nx_val h3.1 (by rw [h3.2]; exact hvN), e2])
  go_region_law ((go_simp; go_wp2_with (first
    | (go_at_call 63; refine (specInv A cp dn p w.drew HP.out (Lib.hid hP.out.2) (Lib.hid hP.out.1) hN.2).mono ?_; rintro e w1 ⟨A1, c1, rfl, s1, b1⟩
       have b1' : Below w.heap.size w w1 := ⟨b1.os, b1.tape, b1.output, b1.size, b1.block⟩
       have C1 := HC.out.up b1'
       have z1 := C1.c1
       have z2 := C1.cR hi
       have z3 := C1.cro hi hy
       rw [Hd.out] at z3
       simp only [sval] at z3
       obtain ⟨bb, off, hA1, hb1, hc1⟩ := s1.ri_ (by rw [s1.1]; omega)
       subst hA1
       have z4 := hc1 v (by rw [s1.1]; exact hvN)
       rw [Iv.out] at z4
       have E0 := C1.ent1 i hi y hy
       rw [Hd.out] at E0
       have E1 := Lib.hid E0
       have M1 := Lib.hid (HP.out.up b1')
       have B1 := Lib.hid b1'
       clear hb1 hc1 s1 b1 b1' C1 E0)
    | (go_at_call 61; (first | refine (specComp dA A dc cp dn (c.rep i y) p w1 E1.out.ri_ M1.out (Lib.hid hz.out.2) (Lib.hid hP.out.2) (Lib.hid hz.out.1) hN.2).mono ?_ | refine (specComp dA A dc cp dn (c.rep i y) p w1.drew E1.out.ri_ M1.out (Lib.hid hz.out.2) (Lib.hid hP.out.2) (Lib.hid hz.out.1) hN.2).mono ?_); rintro e w2 ⟨A2, c2, rfl, s2, b2⟩))))
  all_goals (go_wp2_with fail; go_ret; exact ⟨A2, c2, rfl, s2.mono B1.out.size, btr B1.out b2⟩)
end Go.Proofs.Ytbimhnifjnibjaa

/- The smallest member with a prefix: what it is, and that the model finds it. Conditions: at most 20 points, 8 generators. -/
namespace Go.Proofs.Ytbimhnifjnibjaa
open Go.RowKit

/-- m is the member with the prefix whose further entries are as small as can be, one after the other. -/
def Greedy (N : Nat) (gs : List (List Int)) (pre m : List Int) : Prop :=
  Mb gs N m ∧ ∀ i, i < N → (i < pre.length → (nx m i : Int) = pre.getD i 0) ∧ (pre.length ≤ i → ∀ q, Mb gs N q → (∀ t, t < i → nx q t = nx m t) → nx m i ≤ nx q i)
def NoMem (N : Nat) (gs : List (List Int)) (pre : List Int) : Prop := ∀ q, Mb gs N q → ¬ ∀ t, t < pre.length → (nx q t : Int) = pre.getD t 0
/-- What MemberWithPrefix answers. -/
def IsMwp (N : Nat) (gs : List (List Int)) (pre m : List Int) (ok : Bool) : Prop := (ok = true ∧ Greedy N gs pre m) ∨ (ok = false ∧ m = [] ∧ NoMem N gs pre)
section
variable {N : Nat} {gs : List (List Int)} {pre m m' : List Int}
theorem Greedy.uniq (h1 : 1 ≤ N) (h2 : N ≤ 20) (hg : ∀ g ∈ gs, Pn N g) (h : Greedy N gs pre m) (h' : Greedy N gs pre m') : m = m' := by
  have hp := h.1.pn hg h1 h2
  have hp' := h'.1.pn hg h1 h2
  refine hp.ext hp' fun x hx => ?_
  induction x using Nat.strongRecOn with
  | ind x ih =>
    by_cases hl : x < pre.length
    · have a := (h.2 x hx).1 hl
      have b := (h'.2 x hx).1 hl
      omega
    · have a := (h.2 x hx).2 (by omega) m' h'.1 fun t ht => (ih t ht (by omega)).symm
      have b := (h'.2 x hx).2 (by omega) m h.1 fun t ht => ih t ht (by omega)
      omega
theorem Greedy.has (h : Greedy N gs pre m) (hl : pre.length ≤ N) : ¬ NoMem N gs pre := fun hn => hn m h.1 fun t ht => (h.2 t (by omega)).1 ht
theorem IsMwp.uniq {ok ok' : Bool} (h1 : 1 ≤ N) (h2 : N ≤ 20) (hg : ∀ g ∈ gs, Pn N g) (hl : pre.length ≤ N) (h : IsMwp N gs pre m ok) (h' : IsMwp N gs pre m' ok') : m = m' ∧ ok = ok' := by
  rcases h with ⟨rfl, a⟩ | ⟨rfl, rfl, a⟩ <;> rcases h' with ⟨rfl, b⟩ | ⟨rfl, rfl, b⟩
  · exact ⟨a.uniq h1 h2 hg b, rfl⟩
  · exact absurd b (a.has hl)
  · exact absurd a (b.has hl)
  · exact ⟨rfl, rfl⟩
/-- m keeps to it in its first k entries. -/
def GrTo (N : Nat) (gs : List (List Int)) (pre m : List Int) (k : Nat) : Prop :=
  Mb gs N m ∧ ∀ i, i < k → (i < pre.length → (nx m i : Int) = pre.getD i 0) ∧ (pre.length ≤ i → ∀ q, Mb gs N q → (∀ t, t < i → nx q t = nx m t) → nx m i ≤ nx q i)
/-- The entries that level i allows are those of the members that agree before. -/
theorem Whole.choice {c : Ch} (h : Whole N gs c) (h1 : 1 ≤ N) (h2 : N ≤ 20) (hg : ∀ g ∈ gs, Pn N g) {i : Nat} (hi : i < N) (hm : Mb gs N m) {v : Int} : v ∈ chL c i m N ↔ ∃ q, Mb gs N q ∧ (∀ t, t < i → nx q t = nx m t) ∧ (nx q i : Int) = v := by
  have hp := hm.pn hg h1 h2
  rw [chL_mem]
  constructor
  · rintro ⟨y, hy, hr, rfl⟩
    obtain ⟨a, b, d, _⟩ := h.rep_mb h1 h2 hi hr
    have hr' := a.pn hg h1 h2
    refine ⟨compL (c.rep i y) m, a.comp hg h1 h2 hm, fun t ht => ?_, ?_⟩
    · rw [hr'.nxc (by omega), b t ht]
    · rw [hr'.nxc hi, d]
  · rintro ⟨q, hq, ha, rfl⟩
    have hq' := hq.pn hg h1 h2
    have hmi := hp.iv
    refine ⟨nx (iv m) (nx q i), hmi.lt (hq'.lt hi), (h.rep_iff h1 h2 hi).2 ⟨compL q (iv m), hq.comp hg h1 h2 (hm.inv hg h1 h2), fun t ht => ?_, ?_⟩, ?_⟩
    · rw [hq'.nxc (by omega), ha t ht, hp.nxi (by omega)]
    · rw [hq'.nxc hi]
    · rw [hp.nxi' (hq'.lt hi)]
theorem GrTo.step {c : Ch} {k : Nat} (h : GrTo N gs pre m k) (hw : Whole N gs c) (h1 : 1 ≤ N) (h2 : N ≤ 20) (hg : ∀ g ∈ gs, Pn N g) (hk : k < N) {y : Nat} (hr : c.rep k y ≠ []) (hv : (k < pre.length → (nx m y : Int) = pre.getD k 0) ∧ (pre.length ≤ k → ∀ v ∈ chL c k m N, (nx m y : Int) ≤ v)) : GrTo N gs pre (compL (c.rep k y) m) (k + 1) := by
  obtain ⟨a, b, d, _⟩ := hw.rep_mb h1 h2 hk hr
  have hr' := a.pn hg h1 h2
  have e : ∀ t, t < k → nx (compL (c.rep k y) m) t = nx m t := fun t ht => by rw [hr'.nxc (by omega), b t ht]
  have e2 : nx (compL (c.rep k y) m) k = nx m y := by rw [hr'.nxc hk, d]
  refine ⟨a.comp hg h1 h2 h.1, fun i hi => ?_⟩
  rcases Nat.lt_or_ge i k with hl | hl
  · rw [e i hl]
    exact ⟨(h.2 i hl).1, fun hp q hq hag => (h.2 i hl).2 hp q hq fun t ht => (hag t ht).trans (e t (by omega))⟩
  · obtain rfl : i = k := by omega
    rw [e2]
    refine ⟨hv.1, fun hp q hq hag => ?_⟩
    have := hv.2 hp (nx q i : Int) ((hw.choice h1 h2 hg hk h.1).2 ⟨q, hq, fun t ht => (hag t ht).trans (e t ht), rfl⟩)
    omega
theorem GrTo.no {c : Ch} {k : Nat} (h : GrTo N gs pre m k) (hw : Whole N gs c) (h1 : 1 ≤ N) (h2 : N ≤ 20) (hg : ∀ g ∈ gs, Pn N g) (hk : k < N) (hl : k < pre.length) (hn : pre.getD k 0 ∉ chL c k m N) : NoMem N gs pre := fun q hq hag =>
  hn ((hw.choice h1 h2 hg hk h.1).2 ⟨q, hq, fun t ht => by
    have a := hag t (by omega)
    have b := (h.2 t ht).1 (by omega)
    omega, hag k hl⟩)
theorem hasB_in (xs : List Int) (x : Int) : hasB xs x = decide (x ∈ xs) := by
  unfold hasB
  rw [Bool.eq_iff_iff]
  simp only [decide_eq_true_eq]
  constructor
  · rintro ⟨k, hk, e⟩
    rw [← e, List.getD_eq_getElem?_getD, List.getElem?_eq_getElem hk]; exact List.getElem_mem _
  · intro h
    obtain ⟨k, hk, e⟩ := List.mem_iff_getElem.1 h
    exact ⟨k, hk, by rw [List.getD_eq_getElem?_getD, List.getElem?_eq_getElem hk, ← e]; rfl⟩
end

end Go.Proofs.Ytbimhnifjnibjaa

/- GroupOrder, OrbitSizes, IsMember and MemberWithPrefix of the model: what they answer. Conditions: at most 1048576 lists of at most 1048576 numbers. -/
namespace Go.Proofs.Ytbimhnifjnibjaa
open Go.RowKit

/-- What GroupOrder answers. -/
def IsOrd (a : Int) (gs : List (List Int)) (v : Int) : Prop := (gB a gs = true ∧ ∃ xs, IsOS a.toNat gs xs ∧ v = prodL xs) ∨ (gB a gs = false ∧ v = 0)
theorem IsOrd.uniq {a v v' : Int} {gs : List (List Int)} (h : IsOrd a gs v) (h' : IsOrd a gs v') : v = v' := by
  rcases h with ⟨e, xs, h, rfl⟩ | ⟨e, rfl⟩ <;> rcases h' with ⟨e', ys, h', rfl⟩ | ⟨e', rfl⟩
  · rw [h.uniq h']
  · rw [e] at e'; cases e'
  · rw [e] at e'; cases e'
  · rfl
/-- What OrbitSizes answers. -/
def IsSiz (a : Int) (gs : List (List Int)) (xs : List Int) : Prop := (gB a gs = true ∧ IsOS a.toNat gs xs) ∨ (gB a gs = false ∧ xs = [])
theorem IsSiz.uniq {a : Int} {gs : List (List Int)} {xs ys : List Int} (h : IsSiz a gs xs) (h' : IsSiz a gs ys) : xs = ys := by
  rcases h with ⟨e, h⟩ | ⟨e, rfl⟩ <;> rcases h' with ⟨e', h'⟩ | ⟨e', rfl⟩
  · exact h.uniq h'
  · rw [e] at e'; cases e'
  · rw [e] at e'; cases e'
  · rfl
theorem IsSiz.len {a : Int} {gs : List (List Int)} {xs : List Int} (h : IsSiz a gs xs) : xs.length ≤ 20 := by
  rcases h with ⟨e, h⟩ | ⟨e, rfl⟩
  · obtain ⟨N, rfl, _, hN, _⟩ := gB_pm e
    rw [h.1]; simpa using hN
  · simp
/-- p is a member. -/
def Memb (a : Int) (gs : List (List Int)) (p : List Int) : Prop := gB a gs = true ∧ (p.length : Int) = a ∧ isP p = true ∧ Mb gs a.toNat p
theorem memb_uniq {a : Int} {gs : List (List Int)} {p : List Int} {b b' : Bool} (h : b = true ↔ Memb a gs p) (h' : b' = true ↔ Memb a gs p) : b = b' := by
  rw [Bool.eq_iff_iff, h, h']
/-- What MemberWithPrefix answers. -/
def IsMw (a : Int) (gs : List (List Int)) (pre m : List Int) (ok : Bool) : Prop :=
  (gB a gs = true ∧ (pre.length : Int) ≤ a ∧ IsMwp a.toNat gs pre m ok) ∨ (¬ (gB a gs = true ∧ (pre.length : Int) ≤ a) ∧ m = [] ∧ ok = false)
theorem IsMw.uniq {a : Int} {gs : List (List Int)} {pre m m' : List Int} {ok ok' : Bool} (h : IsMw a gs pre m ok) (h' : IsMw a gs pre m' ok') : m = m' ∧ ok = ok' := by
  rcases h with ⟨e, hl, h⟩ | ⟨e, rfl, rfl⟩ <;> rcases h' with ⟨e', hl', h'⟩ | ⟨e', rfl, rfl⟩
  · obtain ⟨N, rfl, h1, hN, _, _, ok⟩ := gB_pm e
    exact h.uniq (by simpa using h1) (by simpa using hN) (fun g hg => by rw [Int.toNat_natCast]; exact ok g hg) (by simp; omega) h'
  · exact absurd ⟨e, hl⟩ e'
  · exact absurd ⟨e', hl'⟩ e
  · exact ⟨rfl, rfl⟩
theorem IsMwp.len {N : Nat} {gs : List (List Int)} {pre m : List Int} {ok : Bool} (h1 : 1 ≤ N) (h2 : N ≤ 20) (hg : ∀ g ∈ gs, Pn N g) (h : IsMwp N gs pre m ok) : m.length ≤ 20 := by
  rcases h with ⟨_, h⟩ | ⟨_, rfl, _⟩
  · rw [(h.1.pn hg h1 h2).2]; exact h2
  · simp
theorem IsMw.len {a : Int} {gs : List (List Int)} {pre m : List Int} {ok : Bool} (h : IsMw a gs pre m ok) : m.length ≤ 20 := by
  rcases h with ⟨e, hl, h⟩ | ⟨e, rfl, rfl⟩
  · obtain ⟨N, rfl, h1, hN, _, _, ok⟩ := gB_pm e
    rw [Int.toNat_natCast] at h
    exact h.len h1 hN ok
  · simp

section
variable (a : Int) (A : Option Addr) (n c : Nat) (vs : List SV) (xss : List (List Int)) (w : World)
set_option maxHeartbeats 1000000 in
set_option maxRecDepth 100000 in
theorem specGroupOrder (hx : RR w w.heap.size A n vs xss) (hn : n ≤ 1048576) (hl : Hid (∀ i, i < n → (vs.getD i sd0).2.1 ≤ 1048576)) (ha : -9223372036854775808 ≤ a ∧ a ≤ 9223372036854775807) :
    Calls Try.prog 9 #[.int .i64 a, .slice A n c] w fun e w' => ∃ v, e = .returned (.int .i64 v) ∧ IsOrd a xss v ∧ Below w.heap.size w w' := by
  have HX := Lib.hid hx
  have hlx : Hid (xss.length = n) := Lib.hid hx.lx
  clear hx
  go_enter Try.func9, Try.ntmps9
  go_wp2_with fail
  refine (specGS a A n c vs xss w HX.out hn hl ha).mono ?_
  rintro e w1 ⟨rfl, b1⟩
  have B1 := Lib.hid b1
  have X1 := Lib.hid (HX.out.up b1)
  clear b1
  rcases hs : gB a xss with _ | _
  · have Fin : Hid (IsOrd a xss 0) := Lib.hid (.inr ⟨hs, rfl⟩)
    clear hs
    go_wp2_with fail
    go_ret
    exact ⟨0, rfl, Fin.out, B1.out⟩
  · obtain ⟨N, rfl, hN1, hN2, hg8, hpm, hok⟩ := gB_pm hs
    have Hs := Lib.hid hs
    have Ok := Lib.hid hok
    have hn8 : n ≤ 8 := by rw [← hlx.out]; exact hg8
    clear hs hpm hok hg8
    go_wp2_with fail
    refine (specBuild N n c A vs xss w1 X1.out hN1 hN2 hn8 Ok).mono ?_
    rintro e w2 ⟨g, L, ch, rfl, hc2, hw2, b2⟩
    have C2 := Lib.hid hc2
    have W2 := Lib.hid hw2
    have B2 : Hid (Below w.heap.size w w2) := Lib.hid (btr B1.out b2)
    clear hc2 hw2 b2
    go_wp2_with fail
    refine (specOrder w1.heap.size g N ch L xss w2 C2.out W2.out hN1 hN2).mono ?_
    rintro e w3 ⟨rfl, b3⟩
    have B3 : Hid (Below w.heap.size w w3) := Lib.hid (btr B2.out b3)
    have Fin : Hid (IsOrd (N : Int) xss (prodL (osL N ch N))) := Lib.hid (.inl ⟨Hs.out, _, by rw [Int.toNat_natCast]; exact W2.out.os hN1 hN2, rfl⟩)
    clear b3
    go_wp2_with fail
    go_ret
    exact ⟨_, rfl, Fin.out, B3.out⟩
set_option maxHeartbeats 1000000 in
set_option maxRecDepth 100000 in
theorem specOrbitSizes (hx : RR w w.heap.size A n vs xss) (hn : n ≤ 1048576) (hl : Hid (∀ i, i < n → (vs.getD i sd0).2.1 ≤ 1048576)) (ha : -9223372036854775808 ≤ a ∧ a ≤ 9223372036854775807) :
    Calls Try.prog 11 #[.int .i64 a, .slice A n c] w fun e w' => ∃ A' m c' zs, e = .returned (.slice A' m c') ∧ Slc w' w.heap.size A' m c' zs ∧ IsSiz a xss zs ∧ Below w.heap.size w w' := by
  have HX := Lib.hid hx
  have hlx : Hid (xss.length = n) := Lib.hid hx.lx
  clear hx
  go_enter Try.func11, Try.ntmps11
  go_wp2_with fail
  refine (specGS a A n c vs xss w HX.out hn hl ha).mono ?_
  rintro e w1 ⟨rfl, b1⟩
  have B1 := Lib.hid b1
  have X1 := Lib.hid (HX.out.up b1)
  have hz1 := b1.size
  clear b1
  rcases hs : gB a xss with _ | _
  · have Fin : Hid (IsSiz a xss []) := Lib.hid (.inr ⟨hs, rfl⟩)
    have S0 := Lib.hid (Slc.lit0 w1 w.heap.size hz1)
    clear hs
    go_wp2_with fail
    go_ret
    exact ⟨_, _, _, _, rfl, S0.out, Fin.out, B1.out.alloc hz1 _⟩
  · obtain ⟨N, rfl, hN1, hN2, hg8, hpm, hok⟩ := gB_pm hs
    have Hs := Lib.hid hs
    have Ok := Lib.hid hok
    have hn8 : n ≤ 8 := by rw [← hlx.out]; exact hg8
    clear hs hpm hok hg8
    go_wp2_with fail
    refine (specBuild N n c A vs xss w1 X1.out hN1 hN2 hn8 Ok).mono ?_
    rintro e w2 ⟨g, L, ch, rfl, hc2, hw2, b2⟩
    have C2 := Lib.hid hc2
    have W2 := Lib.hid hw2
    have B2 : Hid (Below w.heap.size w w2) := Lib.hid (btr B1.out b2)
    clear hc2 hw2 b2
    go_wp2_with fail
    refine (specSizes w1.heap.size g N ch L xss w2 C2.out W2.out hN1 hN2).mono ?_
    rintro e w3 ⟨A3, c3, rfl, s3, b3⟩
    have S3 : Hid (Slc w3 w.heap.size A3 N c3 (osL N ch N)) := Lib.hid (s3.mono B2.out.size)
    have B3 : Hid (Below w.heap.size w w3) := Lib.hid (btr B2.out b3)
    have Fin : Hid (IsSiz (N : Int) xss (osL N ch N)) := Lib.hid (.inl ⟨Hs.out, by rw [Int.toNat_natCast]; exact W2.out.os hN1 hN2⟩)
    clear s3 b3
    go_wp2_with fail
    go_ret
    exact ⟨_, _, _, _, rfl, S3.out, Fin.out, B3.out⟩
end
end Go.Proofs.Ytbimhnifjnibjaa

/- IsMember, LongestMemberPrefix and SameGroup of the model: what they answer. Conditions: at most 1048576 lists of at most 1048576 numbers. -/
namespace Go.Proofs.Ytbimhnifjnibjaa
open Go.RowKit

/-- p's first k entries are those of a member, and no more of them are. -/
def LmpOK (N : Nat) (gs : List (List Int)) (p : List Int) (k : Nat) : Prop := k ≤ N ∧ (∃ q, Mb gs N q ∧ ∀ t, t < k → nx q t = nx p t) ∧ (k < N → ¬ ∃ q, Mb gs N q ∧ ∀ t, t ≤ k → nx q t = nx p t)
theorem LmpOK.uniq {N k k' : Nat} {gs : List (List Int)} {p : List Int} (h : LmpOK N gs p k) (h' : LmpOK N gs p k') : k = k' := by
  obtain ⟨a, ⟨q, hq, hq2⟩, b⟩ := h
  obtain ⟨a', ⟨q', hq', hq2'⟩, b'⟩ := h'
  rcases Nat.lt_trichotomy k k' with hl | hl | hl
  · exact absurd ⟨q', hq', fun t ht => hq2' t (by omega)⟩ (b (by omega))
  · exact hl
  · exact absurd ⟨q, hq, fun t ht => hq2 t (by omega)⟩ (b' (by omega))
/-- What LongestMemberPrefix answers. -/
def IsLmp (a : Int) (gs : List (List Int)) (p : List Int) (v : Int) : Prop :=
  (gB a gs = true ∧ (p.length : Int) = a ∧ isP p = true ∧ ∃ k : Nat, v = k ∧ LmpOK a.toNat gs p k) ∨ (¬ (gB a gs = true ∧ (p.length : Int) = a ∧ isP p = true) ∧ v = -1)
theorem IsLmp.uniq {a v v' : Int} {gs : List (List Int)} {p : List Int} (h : IsLmp a gs p v) (h' : IsLmp a gs p v') : v = v' := by
  rcases h with ⟨e1, e2, e3, k, rfl, h⟩ | ⟨e, rfl⟩ <;> rcases h' with ⟨e1', e2', e3', k', rfl, h'⟩ | ⟨e', rfl⟩
  · rw [h.uniq h']
  · exact absurd ⟨e1, e2, e3⟩ e'
  · exact absurd ⟨e1', e2', e3'⟩ e
  · rfl
/-- The two lists generate the same group. -/
def SameG (a : Int) (xs ys : List (List Int)) : Prop := gB a xs = true ∧ gB a ys = true ∧ (∀ g ∈ ys, Mb xs a.toNat g) ∧ ∀ g ∈ xs, Mb ys a.toNat g

theorem bool_of (P : Prop) : ∃ b : Bool, b = true ↔ P := by
  rcases Classical.em P with h | h
  · exact ⟨true, fun _ => h, fun _ => rfl⟩
  · exact ⟨false, fun e => (by cases e), fun e => absurd e h⟩
section
variable (a : Int) (A : Option Addr) (n c : Nat) (vs : List SV) (xss : List (List Int)) (w : World)
theorem specIsPB (N : Nat) (xs : List Int) (ans : Bool) (hx : RI w w.heap.size A xs) (lx : Hid (xs.length = n)) (hn : n ≤ 2097152) (hnc : n ≤ c) (ha : Hid (isP xs = ans)) :
    Calls Try.prog 43 #[.slice A n c] w fun e w' => e = .returned (.bool ans) ∧ Below w.heap.size w w' :=
  (quiet_below (specIsP A c n xs w hx lx hn hnc)).mono fun e w' ⟨he, hb⟩ => ⟨he.trans (ret_bool ha.out), hb⟩

end
end Go.Proofs.Ytbimhnifjnibjaa

/- LongestMemberPrefix and StrongGeneratingSet of the model: what they answer. Conditions: at most 1048576 lists of at most 1048576 numbers. -/
namespace Go.Proofs.Ytbimhnifjnibjaa
open Go.RowKit

section
variable (a : Int) (A : Option Addr) (n c : Nat) (vs : List SV) (xss : List (List Int)) (w : World)

/-! ### StrongGeneratingSet -/
end
/-- The prefix for level i and point y. -/
def preOf (pr : Nat × Nat) : List Int := idL pr.1 ++ [(pr.2 : Int)]
/-- The smallest members for a list of levels and points, where there are any. -/
def Sgs (N : Nat) (gs : List (List Int)) : List (Nat × Nat) → List (List Int) → Prop
  | [], l => l = []
  | pr :: ps, l => ∃ m ok rest, IsMwp N gs (preOf pr) m ok ∧ Sgs N gs ps rest ∧ l = (if ok = true then [m] else []) ++ rest
theorem Sgs.snoc {N : Nat} {gs : List (List Int)} {m : List Int} {ok : Bool} {pr : Nat × Nat} (hm : IsMwp N gs (preOf pr) m ok) : ∀ {ps : List (Nat × Nat)} {l : List (List Int)}, Sgs N gs ps l → Sgs N gs (ps ++ [pr]) (l ++ if ok = true then [m] else [])
  | [], l, h => by
    obtain rfl : l = [] := h
    exact ⟨m, ok, [], hm, rfl, by simp⟩
  | p :: ps, l, h => by
    obtain ⟨m', ok', rest, h1, h2, rfl⟩ := h
    exact ⟨m', ok', _, h1, h2.snoc hm, by rw [List.append_assoc]⟩
theorem Sgs.uniq {N : Nat} {gs : List (List Int)} (h1 : 1 ≤ N) (h2 : N ≤ 20) (hg : ∀ g ∈ gs, Pn N g) : ∀ {ps : List (Nat × Nat)} {l l' : List (List Int)}, (∀ pr ∈ ps, pr.1 < N) → Sgs N gs ps l → Sgs N gs ps l' → l = l'
  | [], l, l', _, h, h' => by rw [show l = [] from h, show l' = [] from h']
  | p :: ps, l, l', hp, h, h' => by
    obtain ⟨m, ok, rest, a1, a2, rfl⟩ := h
    obtain ⟨m', ok', rest', b1, b2, rfl⟩ := h'
    have hl : (preOf p).length ≤ N := by
      have := hp p (by simp)
      unfold preOf; rw [List.length_append, idL_length]; simp; omega
    obtain ⟨e1, e2⟩ := a1.uniq h1 h2 hg hl b1
    rw [e1, e2, Sgs.uniq h1 h2 hg (fun pr hpr => hp pr (by simp [hpr])) a2 b2]
theorem Sgs.ok {N : Nat} {gs : List (List Int)} (h1 : 1 ≤ N) (h2 : N ≤ 20) (hg : ∀ g ∈ gs, Pn N g) : ∀ {ps : List (Nat × Nat)} {l : List (List Int)}, Sgs N gs ps l → l.length ≤ ps.length ∧ ∀ y ∈ l, Mb gs N y ∧ y.length = N
  | [], l, h => by rw [show l = [] from h]; simp
  | p :: ps, l, h => by
    obtain ⟨m, ok, rest, a1, a2, rfl⟩ := h
    obtain ⟨b1, b2⟩ := a2.ok h1 h2 hg
    rcases a1 with ⟨rfl, a1⟩ | ⟨rfl, _, _⟩
    · refine ⟨by simp; omega, fun y hy => ?_⟩
      simp at hy
      rcases hy with rfl | hy
      · exact ⟨a1.1, (a1.1.pn hg h1 h2).2⟩
      · exact b2 y hy
    · refine ⟨by simp; omega, fun y hy => b2 y (by simpa using hy)⟩
/-- The levels below k, and the points behind each. -/
def prsI (N i m : Nat) : List (Nat × Nat) := (List.range m).map fun t => (i, i + 1 + t)
def prs (N : Nat) : Nat → List (Nat × Nat)
  | 0 => []
  | k + 1 => prs N k ++ prsI N k (N - (k + 1))
theorem prsI_succ (N i m : Nat) : prsI N i (m + 1) = prsI N i m ++ [(i, i + 1 + m)] := by simp [prsI, List.range_succ]
theorem prs_lt (N : Nat) : ∀ k, k ≤ N → ∀ pr ∈ prs N k, pr.1 < N
  | 0, _, pr, h => by simp [prs] at h
  | k + 1, hk, pr, h => by
    rcases List.mem_append.1 h with h | h
    · exact prs_lt N k (by omega) pr h
    · simp only [prsI, List.mem_map] at h
      obtain ⟨t, _, rfl⟩ := h
      exact hk
theorem prs_len (N : Nat) : ∀ k, (prs N k).length ≤ k * N
  | 0 => by simp [prs]
  | k + 1 => by
    have := prs_len N k
    simp only [prs, prsI, List.length_append, List.length_map, List.length_range, Nat.add_mul, Nat.one_mul]
    omega
/-- What StrongGeneratingSet answers. -/
def IsSgs (a : Int) (gs l : List (List Int)) : Prop := (gB a gs = true ∧ Sgs a.toNat gs (prs a.toNat a.toNat) l) ∨ (gB a gs = false ∧ l = [])
theorem IsSgs.uniq {a : Int} {gs l l' : List (List Int)} (h : IsSgs a gs l) (h' : IsSgs a gs l') : l = l' := by
  rcases h with ⟨e, h⟩ | ⟨e, rfl⟩ <;> rcases h' with ⟨e', h'⟩ | ⟨e', rfl⟩
  · obtain ⟨N, rfl, h1, hN, _, _, ok⟩ := gB_pm e
    rw [Int.toNat_natCast] at h h'
    exact h.uniq h1 hN ok (prs_lt N N (Nat.le_refl _)) h'
  · rw [e] at e'; cases e'
  · rw [e] at e'; cases e'
  · rfl
end Go.Proofs.Ytbimhnifjnibjaa

/- StrongGeneratingSet of the model. Conditions: at most 1048576 lists of at most 1048576 numbers. -/
namespace Go.Proofs.Ytbimhnifjnibjaa
open Go.RowKit

theorem ownsRow_mid {w w' : World} {base n size lo : Nat} {e : TypeId} {v : Value} {xs : List Value} (h : w.ownsRow base e size v n xs) (hm : ∀ k, lo ≤ k → k < w.heap.size → w'.heap[k]? = w.heap[k]?) (hl : lo ≤ base) : w'.ownsRow base e size v n xs := by
  refine ⟨h.1, ?_⟩
  rcases h.2 with h0 | ⟨g, cap, cur, e2, hb, hg, rest⟩
  · exact .inl h0
  · exact .inr ⟨g, cap, cur, e2, hb, by rw [hm g (by omega) (Array.getElem?_eq_some_iff.1 hg).1]; exact hg, rest⟩
/-- The chain lies where its blocks lie. -/
theorem Cn.mid {w w' : World} {base g N lo : Nat} {c : Ch} {L : LY} (h : Cn w base g N c L) (hm : ∀ k, lo ≤ k → k < w.heap.size → w'.heap[k]? = w.heap[k]?) (hl : lo ≤ base) : Cn w' base g N c L :=
  ⟨(hm g (Nat.le_trans hl h.hg) h.blk.lt).trans h.blk, h.hg, ownsRow_mid h.own1 hm hl, fun i hi => ownsRow_mid (h.row1 i hi) hm hl, h.len1, fun i hi y hy => (h.ent1 i hi y hy).mid hm hl,
    ownsRow_mid h.own2 hm hl, fun i hi => ownsRow_mid (h.row2 i hi) hm hl, h.len2, fun i hi y hy => (h.ent2 i hi y hy).mid hm hl, h.dRG, h.dro, h.drg, h.dgv⟩

end Go.Proofs.Ytbimhnifjnibjaa

/- How many members a group of permutations and its stabilizers have: the product of the orbit sizes; conjugate groups. No Go in it. No condition. -/
namespace Go.Proofs.Ytbimhnifjnibjaa
open Go.RowKit

/-! ### lists without repeats -/
theorem nd_subA {α : Type} [BEq α] [LawfulBEq α] {l' : List α} : ∀ {l : List α}, l'.Nodup → (∀ x ∈ l', x ∈ l) → l'.length ≤ l.length := by
  induction l' with
  | nil => intro l _ _; simp
  | cons a t ih =>
    intro l hd h
    rw [List.nodup_cons] at hd
    have ha : a ∈ l := h a (by simp)
    have := ih (l := l.erase a) hd.2 fun x hx => by
      have hne : x ≠ a := fun e => hd.1 (e ▸ hx)
      exact (List.mem_erase_of_ne hne).2 (h x (by simp [hx]))
    rw [List.length_erase_of_mem ha] at this
    have h0 : 0 < l.length := List.length_pos_of_mem ha
    simp; omega
theorem nd_mapA {α β : Type} {f : α → β} {l : List α} (hd : l.Nodup) (hf : ∀ x ∈ l, ∀ y ∈ l, f x = f y → x = y) : (l.map f).Nodup := by
  induction l with
  | nil => simp
  | cons a t ih =>
    rw [List.nodup_cons] at hd
    rw [List.map_cons, List.nodup_cons]
    refine ⟨fun hm => ?_, ih hd.2 fun x hx y hy => hf x (by simp [hx]) y (by simp [hy])⟩
    obtain ⟨b, hb, e⟩ := List.mem_map.1 hm
    have := hf b (by simp [hb]) a (by simp) e
    subst this
    exact hd.1 hb
theorem flat_nd {β : Type} {f : Nat → List β} {m : Nat} : ∀ {O : List Nat}, O.Nodup → (∀ y ∈ O, (f y).Nodup) → (∀ y ∈ O, ∀ z ∈ O, y ≠ z → ∀ p, p ∈ f y → p ∉ f z) → (∀ y ∈ O, (f y).length = m) →
    (O.flatMap f).Nodup ∧ (O.flatMap f).length = O.length * m
  | [], _, _, _, _ => by simp
  | a :: t, hd, h1, h2, h3 => by
    rw [List.nodup_cons] at hd
    obtain ⟨i1, i2⟩ := flat_nd (O := t) hd.2 (fun y hy => h1 y (by simp [hy])) (fun y hy z hz => h2 y (by simp [hy]) z (by simp [hz])) (fun y hy => h3 y (by simp [hy]))
    rw [List.flatMap_cons]
    refine ⟨List.nodup_append.2 ⟨h1 a (by simp), i1, fun p hp q hq e => ?_⟩, ?_⟩
    · subst e
      obtain ⟨z, hz, hq⟩ := List.mem_flatMap.1 hq
      exact h2 a (by simp) z (by simp [hz]) (fun e => hd.1 (e ▸ hz)) p hp hq
    · rw [List.length_append, i2, h3 a (by simp), List.length_cons, Nat.succ_mul]; omega

/-! ### how many -/
def Crd (P : List Int → Prop) (v : Nat) : Prop := ∃ l : List (List Int), l.Nodup ∧ (∀ p, p ∈ l ↔ P p) ∧ v = l.length
section
variable {P Q : List Int → Prop} {v u : Nat}
theorem Crd.uniq (h : Crd P v) (h' : Crd P u) : v = u := by
  obtain ⟨l, d, m, rfl⟩ := h
  obtain ⟨l', d', m', rfl⟩ := h'
  have a := nd_subA d fun x hx => (m' x).2 ((m x).1 hx)
  have b := nd_subA d' fun x hx => (m x).2 ((m' x).1 hx)
  omega
theorem Crd.congr (h : Crd P v) (e : ∀ p, P p ↔ Q p) : Crd Q v := by
  obtain ⟨l, d, m, rfl⟩ := h
  exact ⟨l, d, fun p => (m p).trans (e p), rfl⟩
theorem Crd.map (h : Crd P v) (f : List Int → List Int) (hf : ∀ p, P p → ∀ q, P q → f p = f q → p = q) (e : ∀ q, Q q ↔ ∃ p, P p ∧ q = f p) : Crd Q v := by
  obtain ⟨l, d, m, rfl⟩ := h
  refine ⟨l.map f, nd_mapA d fun x hx y hy => hf x ((m x).1 hx) y ((m y).1 hy), fun q => ?_, by simp⟩
  rw [e, List.mem_map]
  exact ⟨fun ⟨p, hp, e⟩ => ⟨p, (m p).1 hp, e.symm⟩, fun ⟨p, hp, e⟩ => ⟨p, (m p).2 hp, e.symm⟩⟩
end

/-! ### the product of the orbit sizes from one level on -/
def pr (xs : List Int) (k : Nat) : Nat → Int
  | 0 => 1
  | m + 1 => pr xs k m * xs.getD (k + m) 0
theorem pr_front (xs : List Int) (k : Nat) : ∀ m, pr xs k (m + 1) = xs.getD k 0 * pr xs (k + 1) m
  | 0 => by show (1 : Int) * xs.getD (k + 0) 0 = xs.getD k 0 * 1; rw [Int.one_mul, Int.mul_one]; rfl
  | m + 1 => by
    show pr xs k (m + 1) * xs.getD (k + (m + 1)) 0 = xs.getD k 0 * (pr xs (k + 1) m * xs.getD (k + 1 + m) 0)
    rw [pr_front xs k m, Int.mul_assoc, show k + (m + 1) = k + 1 + m by omega]
theorem prodL_take (xs : List Int) : ∀ m, m ≤ xs.length → prodL (xs.take m) = pr xs 0 m
  | 0, _ => rfl
  | m + 1, h => by
    rw [List.take_succ_eq_append_getElem (by omega), prodL_snoc, prodL_take xs m (by omega)]
    show _ = pr xs 0 m * xs.getD (0 + m) 0
    rw [Nat.zero_add, List.getD_eq_getElem?_getD, List.getElem?_eq_getElem (by omega)]; rfl
theorem prodL_pr (xs : List Int) : prodL xs = pr xs 0 xs.length := by rw [← prodL_take xs _ (Nat.le_refl _), List.take_length]
section
variable {N : Nat} {gs : List (List Int)} {xs : List Int}
theorem IsOS.card (h : IsOS N gs xs) (hg : ∀ g ∈ gs, Pn N g) (h1 : 1 ≤ N) (h2 : N ≤ 20) : ∀ m k, k + m = N → ∃ v, Crd (fun p => Mb gs N p ∧ Fx k p) v ∧ pr xs k m = (v : Int)
  | 0, k, e => by
    obtain rfl : k = N := by omega
    refine ⟨1, ⟨[idL k], by simp, fun p => ?_, rfl⟩, rfl⟩
    rw [List.mem_singleton]
    exact ⟨fun e => e ▸ ⟨.one, fx_id (Nat.le_refl _)⟩, fun ⟨a, b⟩ => b.all (a.pn hg h1 h2)⟩
  | m + 1, k, e => by
    obtain ⟨v, ⟨l, d, hm, rfl⟩, hv⟩ := h.card hg h1 h2 m (k + 1) (by omega)
    obtain ⟨O, dO, hO, ex⟩ := h.2 k (by omega)
    have hk : k < N := by omega
    have hr : ∃ r : Nat → List Int, ∀ y ∈ O, Mb gs N (r y) ∧ Fx k (r y) ∧ nx (r y) k = y := by
      refine ⟨fun y => if hy : y ∈ O then Classical.choose ((hO y).1 hy).2 else [], fun y hy => ?_⟩
      simp only [hy, dif_pos]
      exact Classical.choose_spec ((hO y).1 hy).2
    obtain ⟨r, hr⟩ := hr
    have hpn : ∀ p, Mb gs N p → Pn N p := fun p hp => hp.pn hg h1 h2
    have hat : ∀ y ∈ O, ∀ p, p ∈ l → nx (compL p (r y)) k = y := fun y hy p hp => by
      have h3 := (hm p).1 hp
      rw [(hpn p h3.1).nxc hk, h3.2 k (by omega), (hr y hy).2.2]
    obtain ⟨i1, i2⟩ := flat_nd (O := O) (f := fun y => l.map fun p => compL p (r y)) (m := l.length) dO
      (fun y hy => nd_mapA d fun p hp q hq e => by
        have hp' := hpn p ((hm p).1 hp).1
        have hq' := hpn q ((hm q).1 hq).1
        have hry := hpn _ (hr y hy).1
        have : compL (compL p (r y)) (iv (r y)) = compL (compL q (r y)) (iv (r y)) := congrArg (fun t => compL t (iv (r y))) e
        rw [hp'.assoc hry, hq'.assoc hry, hry.ci, hp'.idr, hq'.idr] at this
        exact this)
      (fun y hy z hz hne p hp hp2 => by
        obtain ⟨q, hq, rfl⟩ := List.mem_map.1 hp
        obtain ⟨q', hq', e'⟩ := List.mem_map.1 hp2
        exact hne (by rw [← hat y hy q hq, ← hat z hz q' hq', e']))
      (fun y hy => by simp)
    refine ⟨O.length * l.length, ⟨_, i1, fun p => ?_, i2.symm⟩, ?_⟩
    · rw [List.mem_flatMap]
      constructor
      · rintro ⟨y, hy, hp⟩
        obtain ⟨q, hq, rfl⟩ := List.mem_map.1 hp
        obtain ⟨a, b⟩ := (hm q).1 hq
        obtain ⟨a', b', _⟩ := hr y hy
        exact ⟨a.comp hg h1 h2 a', (b.mono (by omega)).comp (hpn q a) b' (by omega)⟩
      · rintro ⟨a, b⟩
        have hp := hpn p a
        have hy : nx p k ∈ O := (hO _).2 ⟨hp.lt hk, p, a, b, rfl⟩
        obtain ⟨a', b', e'⟩ := hr _ hy
        have hrp := hpn _ a'
        refine ⟨_, hy, List.mem_map.2 ⟨compL p (iv (r (nx p k))), (hm _).2 ⟨a.comp hg h1 h2 (a'.inv hg h1 h2), ?_⟩, ?_⟩⟩
        · refine Fx.succ (b.comp hp (b'.iv hrp (by omega)) (by omega)) ?_
          rw [hp.nxc hk]
          have := hrp.nxi (x := k) hk
          rw [e'] at this; exact this
        · rw [hp.assoc hrp.iv, hrp.ic, hp.idr]
    · rw [pr_front, ex, hv, Int.natCast_mul]
/-- The order is the number of members. -/
theorem IsOS.order (h : IsOS N gs xs) (hg : ∀ g ∈ gs, Pn N g) (h1 : 1 ≤ N) (h2 : N ≤ 20) : ∃ v, Crd (Mb gs N) v ∧ prodL xs = (v : Int) := by
  obtain ⟨v, hc, e⟩ := h.card hg h1 h2 N 0 (by omega)
  exact ⟨v, hc.congr fun p => ⟨fun h => h.1, fun h => ⟨h, Fx.zero⟩⟩, by rw [prodL_pr, h.1]; exact e⟩
end

section
variable {N : Nat} {gs : List (List Int)} {xs : List Int}
theorem IsOS.bnd (h : IsOS N gs xs) (hg : ∀ g ∈ gs, Pn N g) (h1 : 1 ≤ N) (h2 : N ≤ 20) {i : Nat} (hi : i < N) : 1 ≤ xs.getD i 0 ∧ xs.getD i 0 ≤ ((N - i : Nat) : Int) := by
  obtain ⟨l, d, m, e⟩ := h.2 i hi
  rw [e]
  constructor
  · have : i ∈ l := (m i).2 ⟨hi, idL N, .one, fx_id (by omega), nx_id hi⟩
    have := List.length_pos_of_mem this
    omega
  · have : l.length ≤ (List.range' i (N - i)).length := by
      refine nd_sub d fun y hy => ?_
      obtain ⟨hy, p, hp, hf, rfl⟩ := (m y).1 hy
      have := hf.ge (hp.pn hg h1 h2) hi
      rw [List.mem_range'_1]; omega
    rw [List.length_range'] at this
    omega
theorem IsOS.pr_le (h : IsOS N gs xs) (hg : ∀ g ∈ gs, Pn N g) (h1 : 1 ≤ N) (h2 : N ≤ 20) (k : Nat) : ∀ m, k + m ≤ N → 1 ≤ pr xs k m ∧ pr xs k m ≤ (facts N (k + m) : Int)
  | 0, hm => by
    have := facts_pos (N := N) (m := k) (by omega)
    exact ⟨Int.le_refl _, by show (1 : Int) ≤ (facts N (k + 0) : Int); rw [Nat.add_zero]; omega⟩
  | m + 1, hm => by
    obtain ⟨a, b⟩ := h.pr_le hg h1 h2 k m (by omega)
    obtain ⟨d, e⟩ := h.bnd hg h1 h2 (i := k + m) (by omega)
    show 1 ≤ pr xs k m * xs.getD (k + m) 0 ∧ pr xs k m * xs.getD (k + m) 0 ≤ ((facts N (k + m) * (N - (k + m)) : Nat) : Int)
    refine ⟨?_, ?_⟩
    · have := Int.mul_le_mul a d (by omega) (by omega)
      simpa using this
    · rw [Int.natCast_mul]
      exact Int.mul_le_mul b e (by omega) (by omega)
end

/-! ### conjugate groups -/
def cj (o p : List Int) : List Int := compL (compL (iv o) p) o
section
variable {N : Nat} {o p q m : List Int} {gs : List (List Int)}
theorem Pn.iviv (ho : Pn N o) : Proofs.Ytbimhnifjnibjaa.iv (Proofs.Ytbimhnifjnibjaa.iv o) = o := ho.iv.iv.ext ho fun x hx => by
  refine ho.iv.inj (ho.iv.iv.lt hx) (ho.lt hx) ?_
  rw [ho.iv.nxi' hx, ho.nxi hx]
theorem cj_pn (ho : Pn N o) (hp : Pn N p) : Pn N (cj o p) := (ho.iv.comp hp).comp ho
theorem cj_nx (ho : Pn N o) (hp : Pn N p) {x : Nat} (hx : x < N) : nx (cj o p) x = nx o (nx p (nx (iv o) x)) := by
  unfold cj; rw [(ho.iv.comp hp).nxc hx, ho.iv.nxc hx]
theorem cj_id (ho : Pn N o) : cj o (idL N) = idL N := by unfold cj; rw [ho.iv.idr, ho.ic]
theorem cj_mul (ho : Pn N o) (hp : Pn N p) (hq : Pn N q) : cj o (compL p q) = compL (cj o p) (cj o q) :=
  (cj_pn ho (hp.comp hq)).ext ((cj_pn ho hp).comp (cj_pn ho hq)) fun x hx => by
    rw [cj_nx ho (hp.comp hq) hx, (cj_pn ho hp).nxc hx, cj_nx ho hp hx, cj_nx ho hq (ho.lt (hp.lt (ho.iv.lt hx))), ho.nxi (hp.lt (ho.iv.lt hx)), hp.nxc (ho.iv.lt hx)]
theorem cj_back (ho : Pn N o) (hp : Pn N p) : cj (iv o) (cj o p) = p :=
  (cj_pn ho.iv (cj_pn ho hp)).ext hp fun x hx => by
    rw [cj_nx ho.iv (cj_pn ho hp) hx, ho.iviv, cj_nx ho hp (ho.lt hx), ho.nxi hx, ho.nxi (hp.lt hx)]
theorem cj_mb (ho : Pn N o) (hg : ∀ g ∈ gs, Pn N g) (q : List Int) : Mb (gs.map (cj o)) N q ↔ ∃ p, Mb gs N p ∧ q = cj o p := by
  have h1 := ho.pos.1
  have h2 := ho.pos.2
  constructor
  · intro h
    induction h with
    | one => exact ⟨_, .one, (cj_id ho).symm⟩
    | mul _ hm ih =>
      obtain ⟨p, hp, rfl⟩ := ih
      obtain ⟨g, hg', rfl⟩ := List.mem_map.1 hm
      exact ⟨_, .mul hp hg', (cj_mul ho (hp.pn hg h1 h2) (hg _ hg')).symm⟩
  · rintro ⟨p, hp, rfl⟩
    induction hp with
    | one => rw [cj_id ho]; exact .one
    | mul hp hm ih =>
      rw [cj_mul ho (hp.pn hg h1 h2) (hg _ hm)]
      exact .mul ih (List.mem_map.2 ⟨_, hm, rfl⟩)
/-- The points of the list are fixed. -/
def Fxs (pts p : List Int) : Prop := ∀ j, j < pts.length → nx p (nx pts j) = nx pts j
theorem cj_fx (hm : Pn N m) (hp : Pn N p) {pts : List Int} (hk : pts.length ≤ N) (hpre : ∀ j, j < pts.length → m.getD j 0 = pts.getD j 0) : Fx pts.length (cj (iv m) p) ↔ Fxs pts p := by
  have e : ∀ j, j < pts.length → nx m j = nx pts j := fun j hj => by unfold nx; rw [hpre j hj]
  constructor
  · intro h j hj
    have h3 := h j hj
    rw [cj_nx hm.iv hp (by omega), hm.iviv] at h3
    rw [← e j hj]
    exact hm.iv.inj (hp.lt (hm.lt (by omega))) (hm.lt (by omega)) (by rw [h3, hm.nxi (by omega)])
  · intro h j hj
    rw [cj_nx hm.iv hp (by omega), hm.iviv, e j hj, h j hj, ← e j hj, hm.nxi (by omega)]
/-- The stabilizer of the first points of m, counted in the conjugate group. -/
theorem cj_card {xs pts : List Int} (hm : Pn N m) (hg : ∀ g ∈ gs, Pn N g) (h : IsOS N (gs.map (cj (iv m))) xs) (hk : pts.length ≤ N) (hpre : ∀ j, j < pts.length → m.getD j 0 = pts.getD j 0) :
    ∃ v, Crd (fun p => Mb gs N p ∧ Fxs pts p) v ∧ pr xs pts.length (N - pts.length) = (v : Int) := by
  have h1 := hm.pos.1
  have h2 := hm.pos.2
  have hpn : ∀ p, Mb gs N p → Pn N p := fun p hp => hp.pn hg h1 h2
  have hg' : ∀ g ∈ gs.map (cj (iv m)), Pn N g := fun g hg1 => by
    obtain ⟨p, hp, rfl⟩ := List.mem_map.1 hg1
    exact cj_pn hm.iv (hg p hp)
  obtain ⟨v, hc, e⟩ := h.card hg' h1 h2 (N - pts.length) pts.length (by omega)
  refine ⟨v, hc.map (cj m) (fun p hp q hq e2 => ?_) (fun q => ?_), e⟩
  · rw [← cj_back hm (hp.1.pn hg' h1 h2), e2, cj_back hm (hq.1.pn hg' h1 h2)]
  · constructor
    · rintro ⟨a, b⟩
      refine ⟨cj (iv m) q, ⟨(cj_mb hm.iv hg _).2 ⟨q, a, rfl⟩, (cj_fx hm (hpn q a) hk hpre).2 b⟩, ?_⟩
      have := cj_back hm.iv (hpn q a)
      rw [hm.iviv] at this; exact this.symm
    · rintro ⟨p, ⟨a, b⟩, rfl⟩
      obtain ⟨q, hq, rfl⟩ := (cj_mb hm.iv hg _).1 a
      have := cj_back hm.iv (hpn q hq)
      rw [hm.iviv] at this
      rw [this]
      exact ⟨hq, (cj_fx hm (hpn q hq) hk hpre).1 b⟩
end
end Go.Proofs.Ytbimhnifjnibjaa

/- What StabilizerOrder answers; isPointSet and moveToFront of the model. Conditions: at most 20 points; lists of at most 1048576 numbers. -/
namespace Go.Proofs.Ytbimhnifjnibjaa
open Go.RowKit

/-- A strictly increasing list of points. -/
def PtS (N : Nat) (pts : List Int) : Prop := pts.length ≤ N ∧ ∀ i, i < pts.length → 0 ≤ pts.getD i 0 ∧ pts.getD i 0 < N ∧ (0 < i → pts.getD (i - 1) 0 < pts.getD i 0)
/-- What StabilizerOrder answers: how many members fix the points. -/
def IsStb (a : Int) (gs : List (List Int)) (pts : List Int) (v : Int) : Prop :=
  (gB a gs = true ∧ PtS a.toNat pts ∧ ∃ c : Nat, Crd (fun p => Mb gs a.toNat p ∧ Fxs pts p) c ∧ v = (c : Int)) ∨ (¬ (gB a gs = true ∧ PtS a.toNat pts) ∧ v = 0)
theorem IsStb.uniq {a v v' : Int} {gs : List (List Int)} {pts : List Int} (h : IsStb a gs pts v) (h' : IsStb a gs pts v') : v = v' := by
  rcases h with ⟨e, f, c, hc, rfl⟩ | ⟨e, rfl⟩ <;> rcases h' with ⟨e', f', c', hc', rfl⟩ | ⟨e', rfl⟩
  · rw [hc.uniq hc']
  · exact absurd ⟨e, f⟩ e'
  · exact absurd ⟨e', f'⟩ e
  · rfl
section
variable {N : Nat} {pts : List Int}
theorem PtS.lt (h : PtS N pts) {i : Nat} : ∀ j, i < j → j < pts.length → pts.getD i 0 < pts.getD j 0
  | 0, hij, _ => absurd hij (Nat.not_lt_zero _)
  | j + 1, hij, hj => by
    have h1 := (h.2 (j + 1) hj).2.2 (Nat.succ_pos j)
    rw [Nat.add_sub_cancel] at h1
    by_cases e : i = j
    · rw [e]; exact h1
    · have := h.lt (i := i) j (by omega) (by omega)
      omega
theorem gdx {l : List Int} {i : Nat} (h : i < l.length) : l.getD i 0 = l[i] := by
  rw [List.getD_eq_getElem?_getD, List.getElem?_eq_getElem h]; rfl
theorem PtS.nodup (h : PtS N pts) : pts.Nodup := List.pairwise_iff_getElem.2 fun i j hi hj hij => by
  have := h.lt j hij hj
  rw [gdx hi, gdx hj] at this
  exact fun e => by rw [e] at this; omega
theorem PtS.mem (h : PtS N pts) {x : Int} (hx : x ∈ pts) : 0 ≤ x ∧ x < N := by
  obtain ⟨i, hi, rfl⟩ := List.mem_iff_getElem.1 hx
  have := h.2 i hi
  rw [gdx hi] at this
  exact ⟨this.1, this.2.1⟩
theorem hasB_mem {l : List Int} {x : Int} : hasB l x = true ↔ x ∈ l := by
  unfold hasB
  rw [decide_eq_true_eq, List.mem_iff_getElem]
  exact ⟨fun ⟨j, hj, e⟩ => ⟨j, hj, by rw [← gdx hj, e]⟩, fun ⟨j, hj, e⟩ => ⟨j, hj, by rw [gdx hj, e]⟩⟩
/-- The points in a new order: those of the list, then the others. -/
def mtf (pts : List Int) (k : Nat) : List Int := pts ++ ((List.range k).map Int.ofNat).filter fun x => !hasB pts x
theorem mtf_zero : mtf pts 0 = pts := by simp [mtf]
theorem mtf_yes {k : Nat} (h : hasB pts (k : Int) = true) : mtf pts (k + 1) = mtf pts k := by
  unfold mtf
  rw [List.range_succ, List.map_append, List.filter_append]
  simp [h]
theorem mtf_no {k : Nat} (h : hasB pts (k : Int) = false) : mtf pts (k + 1) = mtf pts k ++ [(k : Int)] := by
  unfold mtf
  rw [List.range_succ, List.map_append, List.filter_append]
  simp [h]
theorem mtf_le (k : Nat) : (mtf pts k).length ≤ pts.length + k := by
  unfold mtf
  rw [List.length_append]
  have := List.length_filter_le (fun x => !hasB pts x) ((List.range k).map Int.ofNat)
  simp at this ⊢; omega
theorem mtf_pre (k : Nat) {j : Nat} (hj : j < pts.length) : (mtf pts k).getD j 0 = pts.getD j 0 := getD_app _ _ _ _ hj
theorem PtS.mtf_mem (h : PtS N pts) (x : Int) : x ∈ mtf pts N ↔ 0 ≤ x ∧ x < N := by
  unfold mtf
  rw [List.mem_append, List.mem_filter, List.mem_map]
  constructor
  · rintro (hx | ⟨⟨i, hi, rfl⟩, _⟩)
    · exact h.mem hx
    · have := List.mem_range.1 hi
      exact ⟨Int.natCast_nonneg _, by show (i : Int) < N; omega⟩
  · rintro ⟨h0, h1⟩
    by_cases hx : x ∈ pts
    · exact .inl hx
    · refine .inr ⟨⟨x.toNat, List.mem_range.2 (by omega), by show ((x.toNat : Nat) : Int) = x; omega⟩, ?_⟩
      rw [Bool.not_eq_true', ← Bool.not_eq_true, hasB_mem]; exact hx
theorem PtS.mtf_nd (h : PtS N pts) : (mtf pts N).Nodup := by
  unfold mtf
  refine List.nodup_append.2 ⟨h.nodup, (nd_mapA List.nodup_range fun x _ y _ e => Int.ofNat.inj e).filter _, fun a ha b hb e => ?_⟩
  subst e
  have h2 := (List.mem_filter.1 hb).2
  rw [Bool.not_eq_true', ← Bool.not_eq_true, hasB_mem] at h2
  exact h2 ha
theorem PtS.mtf_pn (h : PtS N pts) (h1 : 1 ≤ N) (h2 : N ≤ 20) : Pn N (mtf pts N) := by
  have hr : ((List.range N).map Int.ofNat).Nodup := nd_mapA List.nodup_range fun x _ y _ e => Int.ofNat.inj e
  have hl : (mtf pts N).length = N := by
    have a := nd_subA (l := (List.range N).map Int.ofNat) h.mtf_nd fun x hx => by
      have := (h.mtf_mem x).1 hx
      exact List.mem_map.2 ⟨x.toNat, List.mem_range.2 (by omega), by show ((x.toNat : Nat) : Int) = x; omega⟩
    have b := nd_subA (l := mtf pts N) hr fun x hx => by
      obtain ⟨i, hi, rfl⟩ := List.mem_map.1 hx
      have := List.mem_range.1 hi
      exact (h.mtf_mem _).2 ⟨Int.natCast_nonneg _, by show (i : Int) < N; omega⟩
    simp at a b; omega
  have hm : ∀ i, i < (mtf pts N).length → 0 ≤ (mtf pts N).getD i 0 ∧ (mtf pts N).getD i 0 < N := fun i hi => by
    rw [gdx hi]; exact (h.mtf_mem _).1 (List.getElem_mem hi)
  refine ⟨⟨by omega, by omega, fun i hi => (hm i hi).1, fun i hi => by have := (hm i hi).2; omega, fun i j hi hj e => ?_⟩, hl⟩
  rw [gdx hi, gdx hj] at e
  have hp := List.pairwise_iff_getElem.1 h.mtf_nd
  rcases Nat.lt_trichotomy i j with hl | hl | hl
  · exact absurd e (hp i j hi hj hl)
  · exact hl
  · exact absurd e.symm (hp j i hj hi hl)
end

/-- append of nothing. -/
theorem wpList_app0 {w : World} {ops : Array Oper} {rest : List Oper} {o : Oper} {a : Act} {Q : Exit → Act → World → Prop} (hgd : o.guard = none) (s x : Operand)
    (ho : o.op = .call { callee := .builtin .append, args := #[s, x], argTypes := #[28, 28] })
    (b : Option Addr) (sl sc : Nat) (hle : sl ≤ sc) (hs : a.eval s = .slice b sl sc) (A : Option Addr) (c : Nat) (hx : a.eval x = .slice A 0 c)
    (h : wpList Try.prog ops Q rest (a.put o.dst (.slice b sl sc)) w) : wpList Try.prog ops Q (o :: rest) a w := by
  obtain ⟨i0, hi, hz0, hz1, hz2⟩ := info_parts infoI
  refine wpList_plain hgd fun _ hK => ?_
  have hr := run_append_nothing (P := Try.prog) w 28 28 o.type 2 i0 Try.underlying28 hi b sl sc hle (.slice A 0 c)
    ⟨.inl ⟨_, Try.underlying28⟩, fun w' => by cases A <;> rfl, by cases A <;> simp [Builtin.firstCells, loadCells, loadCellsFrom], by cases A <;> simp [Builtin.firstCells, loadCells, loadCellsFrom], by simp, fun u hu => by cases hu⟩
  unfold Oper.wp execOp
  simp only [ho, resolve, invoke, builtin, Sem.run_bind, Sem.run_pure, Result.andThen_ok, List.map_toArray, List.map_cons, List.map_nil, hs, hx, hr]
  exact hK _ _ h

/-- copyInts of whatever can be read. -/
theorem copyAny (A : Option Addr) (n c : Nat) (xs : List Int) (w : World) (h : RI w w.heap.size A xs) (lx : Hid (xs.length = n)) (hn : n ≤ 1000000) :
    Calls Try.prog 46 #[.slice A n c] w fun e w' => ∃ A' c', e = .returned (.slice A' n c') ∧ Slc w' w.heap.size A' n c' xs ∧ Below w.heap.size w w' := by
  by_cases h0 : 0 < n
  · obtain ⟨b, off, rfl, hb, hc⟩ := h (by rw [lx.out]; exact h0)
    exact copyRI b off n c xs w h lx.out hn
  · obtain rfl : n = 0 := by omega
    obtain rfl : xs = [] := List.length_eq_zero_iff.1 lx.out
    have H0 := Lib.hid (Slc.lit0 w w.heap.size (Nat.le_refl _))
    have B0 : Hid (Below w.heap.size w (w.alloc (.cells #[] 2))) := Lib.hid ((Below.refl _ w).alloc (Nat.le_refl _) _)
    clear h lx
    go_enter Try.func46, Try.ntmps46
    go_wp2_with (first | (at_builtin; refine wpList_app0 rfl _ _ rfl _ 0 0 (Nat.le_refl _) rfl A c rfl ?_))
    go_ret
    exact ⟨_, _, rfl, H0.out, B0.out⟩



end Go.Proofs.Ytbimhnifjnibjaa

/- StabilizerOrder of the model. Conditions: at most 1048576 lists of at most 1048576 numbers. -/
namespace Go.Proofs.Ytbimhnifjnibjaa
open Go.RowKit

theorem Whole.pr_le {N : Nat} {gs : List (List Int)} {c : Ch} (h : Whole N gs c) (h1 : 1 ≤ N) (k : Nat) : ∀ m, k + m ≤ N → 1 ≤ pr (osL N c N) k m ∧ pr (osL N c N) k m ≤ (facts N (k + m) : Int)
  | 0, hm => by
    have := facts_pos (N := N) (m := k) (by omega)
    exact ⟨Int.le_refl _, by show (1 : Int) ≤ (facts N (k + 0) : Int); rw [Nat.add_zero]; omega⟩
  | m + 1, hm => by
    obtain ⟨a, b⟩ := h.pr_le h1 k m (by omega)
    obtain ⟨d, e⟩ := h.nr_pos h1 (i := k + m) (by omega)
    have ex : pr (osL N c N) k (m + 1) = pr (osL N c N) k m * (nr N c (k + m) N : Int) := by
      show _ * (osL N c N).getD (k + m) 0 = _
      rw [osL_at (by omega)]
    rw [ex]
    refine ⟨?_, ?_⟩
    · have := Int.mul_le_mul a (show (1 : Int) ≤ (nr N c (k + m) N : Int) by omega) (by omega) (by omega)
      simpa using this
    · have := Int.mul_le_mul b (show (nr N c (k + m) N : Int) ≤ ((N - (k + m) : Nat) : Int) by omega) (by omega) (by omega)
      show _ ≤ ((facts N (k + m) * (N - (k + m)) : Nat) : Int)
      rw [Int.natCast_mul]; exact this
theorem take_cj {gs : List (List Int)} {o : List Int} {k : Nat} {y : List Int} (hk : k < gs.length) (ey : gs.getD k [] = y) : (gs.take (k + 1)).map (cj o) = (gs.take k).map (cj o) ++ [cj o y] := by
  rw [List.getD_eq_getElem?_getD, List.getElem?_eq_getElem hk] at ey
  have e' : gs[k] = y := ey
  rw [List.take_succ_eq_append_getElem hk, List.map_append, e']; rfl

/-- One slice more on a slice of slices of the call's own. -/
theorem SS.snocV {w w' : World} {base bi n c : Nat} {A : Option Addr} {vs : List SV} {xss : List (List Int)} {A' : Option Addr} {c' : Nat} {d : SV} {ys : List Int} (hss : SS w base bi A n c vs xss) (hys : Slc w bi d.1 d.2.1 d.2.2 ys)
    (hdis : ∀ i, i < n → (sval (vs.getD i sd0)).ownBlock = none ∨ (sval (vs.getD i sd0)).ownBlock ≠ (sval d).ownBlock) (hown : w'.ownsRow base 28 1 (.slice A' (n + 1) c') (n + 1) (vs.map sval ++ [sval d])) (hg : w.grownBy w' (Value.slice A n c).ownBlock) :
    SS w' base bi A' (n + 1) c' (vs ++ [d]) (xss ++ [ys]) := by
  refine ⟨?_, by simp [hss.lv], by simp [hss.lx], fun i hi' => ?_, fun i j hij hj => ?_⟩
  · rw [List.map_append]; exact hown
  · by_cases e : i < n
    · rw [getD_app _ _ _ _ (by rw [hss.lv]; exact e), getD_app _ _ _ _ (by rw [hss.lx]; exact e)]
      exact (hss.row i e).kept hg (apart_types (hss.row i e) hss.own)
    · obtain rfl : i = n := by omega
      rw [getD_snoc _ _ _ _ hss.lv.symm, getD_snoc _ _ _ _ hss.lx.symm]
      exact hys.kept hg (apart_types hys hss.own)
  · rw [getD_app _ _ _ i (by rw [hss.lv]; omega)]
    by_cases e : j < n
    · rw [getD_app _ _ _ j (by rw [hss.lv]; exact e)]; exact hss.dis i j hij e
    · obtain rfl : j = n := by omega
      rw [getD_snoc _ _ _ _ hss.lv.symm]
      exact hdis i hij
end Go.Proofs.Ytbimhnifjnibjaa

/- What the functions of chapter 4 answer, and that the model's do. No condition. -/
namespace Go.Proofs.Ytbimhnifjnibjaa
open Go.RowKit

def IsMem (a : Int) (gs : List (List Int)) (p : List Int) (b : Bool) : Prop := b = true ↔ Memb a gs p
def IsSam (a : Int) (xs ys : List (List Int)) (b : Bool) : Prop := b = true ↔ SameG a xs ys
theorem IsMem.uniq {a : Int} {gs : List (List Int)} {p : List Int} {b b' : Bool} (h : IsMem a gs p b) (h' : IsMem a gs p b') : b = b' := memb_uniq h h'
theorem IsSam.uniq {a : Int} {xs ys : List (List Int)} {b b' : Bool} (h : IsSam a xs ys b) (h' : IsSam a xs ys b') : b = b' := by
  unfold IsSam at h h'; rw [Bool.eq_iff_iff, h, h']
theorem boundSgs {a : Int} {gs l : List (List Int)} (h : IsSgs a gs l) : l.length ≤ 1048576 ∧ (∀ i, i < l.length → (l.getD i []).length ≤ 1048576) ∧ sumL l ≤ 1048576 := by
  rcases h with ⟨e, h⟩ | ⟨e, rfl⟩
  · obtain ⟨N, rfl, h1, hN, _, _, ok⟩ := gB_pm e
    rw [Int.toNat_natCast] at h
    obtain ⟨a1, a2⟩ := h.ok h1 hN ok
    have a3 := prs_len N N
    have a4 : N * N ≤ 20 * 20 := Nat.mul_le_mul hN hN
    exact bound_all (m := 400) (k := 20) (by omega) (fun y hy => by rw [(a2 y hy).2]; exact hN) (by omega)
  · exact bound_all (m := 0) (k := 0) (Nat.le_refl _) (fun y hy => by cases hy) (by omega)

theorem ctOrd : CtImI 9 IsOrd := fun a A n c vs xss w g ha => specGroupOrder a A n c vs xss w g.rr g.hn (Lib.hid g.hl) ha
theorem ctSiz : CtImS 11 IsSiz := fun a A n c vs xss w g ha => specOrbitSizes a A n c vs xss w g.rr g.hn (Lib.hid g.hl) ha
end Go.Proofs.Ytbimhnifjnibjaa

/- The model's draws of any permutation. Condition: degrees from 1 to 20. -/
namespace Go.Proofs.Ytbimhnifjnibjaa
open Go.RowKit

/-- A literal row of numbers, read later. -/
theorem lit_at {w w1 : World} {g : Nat} {cs : Array Value} {r : Nat} (hg : g < w.heap.size) (hb : (w.alloc (.cells cs 2)).grownBy w1 (some g)) (hr : r < cs.size) (hall : ∀ (i : Nat) (h : i < cs.size), ∃ z : Int, cs[i] = .int .i64 z) : ∃ z : Int, w1.cell? ⟨w.heap.size, r, none⟩ = some (.int .i64 z) := by
  obtain ⟨z, hz⟩ := hall r hr
  refine ⟨z, ?_⟩
  rw [World.cell?_of_block (hb.block w.heap.size (by simp) (by intro e; injection e with e; omega)), World.cell?_alloc_at _ _ _ _ rfl]
  show cs[r]? = _
  rw [Array.getElem?_eq_getElem hr, hz]

set_option maxHeartbeats 1600000 in
theorem srcExtreme (g : Nat) (w : World) (hs : Src w g) :
    Calls Try.prog 53 #[.pointer (some ⟨g, 0, none⟩)] w fun e w' => ∃ z : Int, e = .returned (.int .i64 z) ∧ Src w' g ∧ w.grownBy w' (some g) := by
  have hg := hs.lt
  have Hs := Lib.hid hs
  clear hs
  go_enter Try.func53, Try.ntmps53
  go_wp2_with fail
  refine (srcBelow g _ 10 _ (Hs.out.below ((Below.refl w.heap.size w).alloc (Nat.le_refl _) _) hg) rfl (by omega) (by omega)).mono ?_
  rintro e w1 ⟨r, hr, rfl, s1, g1⟩
  have S1 := Lib.hid s1
  have G1 : Hid (w.grownBy w1 (some g)) := Lib.hid (grown_trans' (grown_alloc2 (grown_refl _ _) _) g1)
  obtain ⟨z, hz⟩ := lit_at (r := r) hg g1 hr (by
    intro i h
    have h : i < 10 := h
    rcases i with _ | _ | _ | _ | _ | _ | _ | _ | _ | _ | i
    all_goals first | exact ⟨_, rfl⟩ | omega)
  have p0 : (0 : Int) ≤ r := by omega
  have p1 : (r : Int) < 10 := by omega
  clear s1 g1
  go_wp2_with fail
  go_ret
  exact ⟨z, rfl, S1.out, G1.out⟩

set_option maxHeartbeats 1600000 in
theorem srcNumber (g n : Nat) (w : World) (hs : Src w g) (h1 : 1 ≤ n) (hn : n ≤ 100) :
    Calls Try.prog 33 #[.pointer (some ⟨g, 0, none⟩), .int .i64 (n : Int)] w fun e w' => ∃ z : Int, e = .returned (.int .i64 z) ∧ Src w' g ∧ w.grownBy w' (some g) := by
  go_enter Try.func33, Try.ntmps33
  go_wp2_with fail
  refine (srcOne g _ 10 w hs rfl (by omega) (by omega)).mono ?_
  rintro e w1 ⟨b, rfl, s1, g1⟩
  have S1 := Lib.hid s1
  have G1 := Lib.hid g1
  clear s1 g1
  cases b
  · go_wp2_with fail
    refine (srcOne g _ 2 w1 S1.out rfl (by omega) (by omega)).mono ?_
    rintro e w2 ⟨b, rfl, s2, g2⟩
    have S2 := Lib.hid s2
    have G2 : Hid (w.grownBy w2 (some g)) := Lib.hid (grown_trans' G1.out g2)
    clear s2 g2
    cases b
    · go_wp2_with fail
      refine (srcBelow g _ (n + 1) w2 S2.out (by omega) (by omega) (by omega)).mono ?_
      rintro e w3 ⟨r, hr, rfl, s3, g3⟩
      have S3 := Lib.hid s3
      have G3 : Hid (w.grownBy w3 (some g)) := Lib.hid (grown_trans' G2.out g3)
      clear s3 g3
      go_wp2_with fail
      go_ret
      exact ⟨r, rfl, S3.out, G3.out⟩
    · by_cases h4 : n ≤ 4
      · have hm : (min (n : Int) 4) = (n : Int) := by omega
        have d4 : decide ((n : Int) ≤ 4) = true := by simp; omega
        go_wp2_with fail
        refine (srcBelow g _ (n + 1) w2 S2.out (by omega) (by omega) (by omega)).mono ?_
        rintro e w3 ⟨r, hr, rfl, s3, g3⟩
        have S3 := Lib.hid s3
        have G3 : Hid (w.grownBy w3 (some g)) := Lib.hid (grown_trans' G2.out g3)
        clear s3 g3
        go_wp2_with fail
        go_ret
        exact ⟨r, rfl, S3.out, G3.out⟩
      · have hm : (min (n : Int) 4) = 4 := by omega
        have d4 : decide ((n : Int) ≤ 4) = false := by simp; omega
        go_wp2_with fail
        refine (srcBelow g _ (5) w2 S2.out (by omega) (by omega) (by omega)).mono ?_
        rintro e w3 ⟨r, hr, rfl, s3, g3⟩
        have S3 := Lib.hid s3
        have G3 : Hid (w.grownBy w3 (some g)) := Lib.hid (grown_trans' G2.out g3)
        clear s3 g3
        go_wp2_with fail
        go_ret
        exact ⟨r, rfl, S3.out, G3.out⟩
  · go_wp2_with fail
    refine (srcExtreme g w1 S1.out).mono ?_
    rintro e w2 ⟨z, rfl, s2, g2⟩
    have S2 := Lib.hid s2
    have hg2 := s2.lt
    have G2 : Hid (w.grownBy w2 (some g)) := Lib.hid (grown_trans' G1.out g2)
    clear s2 g2
    go_wp2_with fail
    refine (srcBelow g _ 4 _ (S2.out.below ((Below.refl w2.heap.size w2).alloc (Nat.le_refl _) _) hg2) rfl (by omega) (by omega)).mono ?_
    rintro e w3 ⟨r, hr, rfl, s3, g3⟩
    have S3 := Lib.hid s3
    have G3 : Hid (w.grownBy w3 (some g)) := Lib.hid (grown_trans' (grown_alloc2 G2.out _) g3)
    obtain ⟨y, hy⟩ := lit_at (r := r) hg2 g3 hr (by
      intro i h
      have h : i < 4 := h
      rcases i with _ | _ | _ | _ | i
      all_goals first | exact ⟨_, rfl⟩ | omega)
    have p0 : (0 : Int) ≤ r := by omega
    have p1 : (r : Int) < 4 := by omega
    clear s3 g3
    go_wp2_with fail
    go_ret
    exact ⟨y, rfl, S3.out, G3.out⟩

/-- What can be read: m numbers, in a block from base on. -/
def Pm (w : World) (base : Nat) (A : Option Addr) (m c : Nat) (xs : List Int) : Prop :=
  xs.length = m ∧ m ≤ c ∧ (0 < m → ∃ b off, A = some ⟨b, off, none⟩ ∧ base ≤ b ∧ b < w.heap.size ∧ ∀ j, j < m → w.cell? ⟨b, off + j, none⟩ = some (.int .i64 (xs.getD j 0)))
theorem Pm.of_slc {w : World} {base n c : Nat} {A : Option Addr} {xs : List Int} (h : Slc w base A n c xs) : Pm w base A n c xs := by
  refine ⟨h.1, h.le.1, fun hp => ?_⟩
  have hri := h.ri_
  obtain ⟨b, o, e, hb, hc⟩ := hri (by rw [h.1]; exact hp)
  refine ⟨b, o, e, (h.lt_ b (by subst e; rfl)).1, hb, fun j hj => hc j (by rw [h.1]; exact hj)⟩
theorem Pm.ri {w : World} {base n c : Nat} {A : Option Addr} {xs : List Int} (h : Pm w base A n c xs) : RI w w.heap.size A xs := fun hp => by
  obtain ⟨b, o, e, h1, h2, hc⟩ := h.2.2 (by rw [← h.1]; exact hp)
  exact ⟨b, o, e, h2, fun j hj => hc j (by rw [← h.1]; exact hj)⟩
theorem Pm.gro {w w' : World} {base n c g : Nat} {A : Option Addr} {xs : List Int} (h : Pm w base A n c xs) (hg : w.grownBy w' (some g)) (hb : g < base) : Pm w' base A n c xs := by
  refine ⟨h.1, h.2.1, fun hp => ?_⟩
  obtain ⟨b, o, e, h1, h2, hc⟩ := h.2.2 hp
  exact ⟨b, o, e, h1, Nat.lt_of_lt_of_le h2 hg.size, fun j hj => (World.cell?_of_block (a := ⟨b, o + j, none⟩) (hg.block b h2 (by intro e2; injection e2 with e2; omega))).trans (hc j hj)⟩
theorem Pm.up {w w' : World} {base n c : Nat} {A : Option Addr} {xs : List Int} (h : Pm w base A n c xs) (hb : Below w.heap.size w w') : Pm w' base A n c xs := by
  refine ⟨h.1, h.2.1, fun hp => ?_⟩
  obtain ⟨b, o, e, h1, h2, hc⟩ := h.2.2 hp
  exact ⟨b, o, e, h1, Nat.lt_of_lt_of_le h2 hb.size, fun j hj => (hb.cell (p := ⟨b, o + j, none⟩) h2).trans (hc j hj)⟩
theorem Pm.mono {w : World} {base base' n c : Nat} {A : Option Addr} {xs : List Int} (h : Pm w base A n c xs) (hb : base' ≤ base) : Pm w base' A n c xs := by
  refine ⟨h.1, h.2.1, fun hp => ?_⟩
  obtain ⟨b, o, e, h1, h2, hc⟩ := h.2.2 hp
  exact ⟨b, o, e, by omega, h2, hc⟩
theorem Pm.tail {w : World} {base n c q : Nat} {xs : List Int} (h : Slc w base (some ⟨q, 0, none⟩) n c xs) {A : Option Addr} (hA : 1 < n → A = some ⟨q, 1, none⟩) : Pm w base A (n - 1) (c - 1) (xs.drop 1) := by
  refine ⟨by rw [List.length_drop, h.1], by have := h.le.1; omega, fun hp => ?_⟩
  have hri : RI w w.heap.size (some ⟨q, 0, none⟩) xs := h.ri_
  have lx := h.1
  refine ⟨q, 1, hA (by omega), (h.lt_ q rfl).1, (h.lt_ q rfl).2, fun j hj => ?_⟩
  have := (hri.cellAt (j := 1 + j) (by omega)).2
  rw [Nat.zero_add] at this
  rw [this, List.getD_eq_getElem?_getD, List.getD_eq_getElem?_getD, List.getElem?_drop]

theorem grown_below3 {w w1 w' : World} {row : Option Nat} (h : w.grownBy w1 row) (b : Below w.heap.size w1 w') : w.grownBy w' row :=
  ⟨b.os.trans h.os, b.tape.trans h.tape, b.output.trans h.output, Nat.le_trans h.size b.size, fun k hk hn => (b.block k hk).trans (h.block k hk hn)⟩
theorem drawPermK (g n : Nat) (N : Int) (w : World) (hs : Src w g) (hN : N = (n : Int)) (hn : n ≤ 100) :
    Calls Try.prog 51 #[.pointer (some ⟨g, 0, none⟩), .int .i64 N] w fun e w' => ∃ q c xs, e = .returned (.slice (some ⟨q, 0, none⟩) n c) ∧ Slc w' w.heap.size (some ⟨q, 0, none⟩) n c xs ∧ Src w' g ∧ w.grownBy w' (some g) := by
  subst hN; exact drawPerm g n w hs hn
theorem grown_far {w w1 : World} {g q : Nat} (h : w.grownBy w1 (some g)) (hq : w.heap.size ≤ q) (j : Nat) (u : Value) : w.grownBy (w1.setCell ⟨q, j, none⟩ u) (some g) :=
  ⟨h.os, h.tape, h.output, by simpa [World.setCell] using h.size, fun k hk hn => (Below.heap_setCell w1 _ u k (by show k ≠ q; omega)).trans (h.block k hk hn)⟩

set_option maxHeartbeats 4000000 in
theorem drawAny (g n : Nat) (w : World) (hs : Src w g) (h1 : 1 ≤ n) (hn : n ≤ 20) :
    Calls Try.prog 34 #[.pointer (some ⟨g, 0, none⟩), .int .i64 (n : Int)] w fun e w' => ∃ A m c xs, e = .returned (.slice A m c) ∧ Pm w' w.heap.size A m c xs ∧ m ≤ 21 ∧ Src w' g ∧ w.grownBy w' (some g) := by
  have hg := hs.lt
  go_enter Try.func34, Try.ntmps34
  go_wp2_with fail
  refine (drawPerm g n w hs (by omega)).mono ?_
  rintro e w1 ⟨q, c, xs, rfl, sl1, s1, g1⟩
  have Sl1 := Lib.hid sl1
  have S1 := Lib.hid s1
  have G1 := Lib.hid g1
  have hq := (sl1.lt_ q rfl).1
  have hnc := sl1.le.1
  clear sl1 s1 g1
  go_wp2_with fail
  refine (srcOne g _ 12 w1 S1.out rfl (by omega) (by omega)).mono ?_
  rintro e w2 ⟨b2, rfl, s2, g2⟩
  have S2 := Lib.hid s2
  have G2 : Hid (w.grownBy w2 (some g)) := Lib.hid (grown_trans' G1.out g2)
  have Sl2 : Hid (Slc w2 w.heap.size (some ⟨q, 0, none⟩) n c xs) := Lib.hid (Sl1.out.kept g2 (.inr (by intro e; simp [Value.ownBlock] at e; omega)))
  clear s2 g2
  have hn0 : 0 < n := by omega
  cases b2
  · have S4 := S2
    have G4 := G2
    have P4 := Lib.hid (Pm.of_slc Sl2.out)
    have hm4 : n ≤ 21 := by omega
    go_wp2_with fail
    refine (srcOne g _ 60 _ S4.out rfl (by omega) (by omega)).mono ?_
    rintro e w5 ⟨b5, rfl, s5, g5⟩
    have S5 := Lib.hid s5
    have G5 : Hid (w.grownBy w5 (some g)) := Lib.hid (grown_trans' G4.out g5)
    have P5 := Lib.hid (P4.out.gro g5 hg)
    clear s5 g5
    cases b5
    · go_wp2_with fail
      go_ret
      exact ⟨_, _, _, _, rfl, P5.out, hm4, S5.out, G5.out⟩
    · go_wp2_with fail
      refine (srcBelow g _ 2 w5 S5.out rfl (by omega) (by omega)).mono ?_
      rintro e w6 ⟨r6, hr6, rfl, s6, g6⟩
      have S6 := Lib.hid s6
      have G6 : Hid (w.grownBy w6 (some g)) := Lib.hid (grown_trans' G5.out g6)
      clear s6 g6
      go_wp2_with fail
      refine (drawPermK g (20 + r6) _ w6 S6.out (by push_cast; rfl) (by omega)).mono ?_
      rintro e w7 ⟨q7, c7, xs7, rfl, sl7, s7, g7⟩
      have S7 := Lib.hid s7
      have G7 : Hid (w.grownBy w7 (some g)) := Lib.hid (grown_trans' G6.out g7)
      have P7 : Hid (Pm w7 w.heap.size (some ⟨q7, 0, none⟩) (20 + r6) c7 xs7) := Lib.hid ((Pm.of_slc sl7).mono G6.out.size)
      clear s7 g7 sl7
      go_wp2_with fail
      go_ret
      exact ⟨_, _, _, _, rfl, P7.out, by omega, S7.out, G7.out⟩
  · go_wp2_with fail
    refine (srcBelow g _ 3 w2 S2.out rfl (by omega) (by omega)).mono ?_
    rintro e w3 ⟨r3, hr3, rfl, s3, g3⟩
    have S3 := Lib.hid s3
    have G3 : Hid (w.grownBy w3 (some g)) := Lib.hid (grown_trans' G2.out g3)
    have Sl3 : Hid (Slc w3 w.heap.size (some ⟨q, 0, none⟩) n c xs) := Lib.hid (Sl2.out.kept g3 (.inr (by intro e; simp [Value.ownBlock] at e; omega)))
    clear s3 g3
    obtain rfl | rfl | rfl : r3 = 0 ∨ r3 = 1 ∨ r3 = 2 := by omega
    · go_wp2_with fail
      refine (srcBelow g _ n w3 S3.out rfl (by omega) (by omega)).mono ?_
      rintro e w8 ⟨i, hi, rfl, s8, g8⟩
      have S8 := Lib.hid s8
      have G8 : Hid (w.grownBy w8 (some g)) := Lib.hid (grown_trans' G3.out g8)
      have Sl8 : Hid (Slc w8 w.heap.size (some ⟨q, 0, none⟩) n c xs) := Lib.hid (Sl3.out.kept g8 (.inr (by intro e; simp [Value.ownBlock] at e; omega)))
      clear s8 g8
      go_wp2_with fail
      refine (srcNumber g n w8 S8.out h1 (by omega)).mono ?_
      rintro e w9 ⟨z, rfl, s9, g9⟩
      have row : Row w9 w.heap.size q n c xs := Row.of_own (by have := (Sl8.out.kept g9 (.inr (by intro e; simp [Value.ownBlock] at e; omega))); have h2 := this.2; rw [← this.1] at h2; rw [this.1] at h2; exact h2)
      have c9 := row.cell hi
      have f9 := row.free i
      have p0 : (0 : Int) ≤ i := by omega
      have p1 : (i : Int) < n := by omega
      have P4 := Lib.hid (Pm.of_slc (row.store i z).slc)
      have S4 : Hid (Src (w9.setCell ⟨q, i, none⟩ (.int .i64 z)) g) := Lib.hid (s9.below ((Below.refl (g + 1) w9).setCell (by show g + 1 ≤ q; omega) _) (by omega))
      have G4 : Hid (w.grownBy (w9.setCell ⟨q, i, none⟩ (.int .i64 z)) (some g)) := Lib.hid (grown_far (grown_trans' G8.out g9) hq _ _)
      have hm4 : n ≤ 21 := by omega
      clear s9 g9 row
      go_wp2_with fail
      refine (srcOne g _ 60 _ S4.out rfl (by omega) (by omega)).mono ?_
      rintro e w5 ⟨b5, rfl, s5, g5⟩
      have S5 := Lib.hid s5
      have G5 : Hid (w.grownBy w5 (some g)) := Lib.hid (grown_trans' G4.out g5)
      have P5 := Lib.hid (P4.out.gro g5 hg)
      clear s5 g5
      cases b5
      · go_wp2_with fail
        go_ret
        exact ⟨_, _, _, _, rfl, P5.out, hm4, S5.out, G5.out⟩
      · go_wp2_with fail
        refine (srcBelow g _ 2 w5 S5.out rfl (by omega) (by omega)).mono ?_
        rintro e w6 ⟨r6, hr6, rfl, s6, g6⟩
        have S6 := Lib.hid s6
        have G6 : Hid (w.grownBy w6 (some g)) := Lib.hid (grown_trans' G5.out g6)
        clear s6 g6
        go_wp2_with fail
        refine (drawPermK g (20 + r6) _ w6 S6.out (by push_cast; rfl) (by omega)).mono ?_
        rintro e w7 ⟨q7, c7, xs7, rfl, sl7, s7, g7⟩
        have S7 := Lib.hid s7
        have G7 : Hid (w.grownBy w7 (some g)) := Lib.hid (grown_trans' G6.out g7)
        have P7 : Hid (Pm w7 w.heap.size (some ⟨q7, 0, none⟩) (20 + r6) c7 xs7) := Lib.hid ((Pm.of_slc sl7).mono G6.out.size)
        clear s7 g7 sl7
        go_wp2_with fail
        go_ret
        exact ⟨_, _, _, _, rfl, P7.out, by omega, S7.out, G7.out⟩
    · have p1 : (1 : Int) ≤ n := by omega
      have p2 : (1 : Int) ≤ c := by omega
      have S4 := S3
      have G4 := G3
      have hm4 : n - 1 ≤ 21 := by omega
      by_cases hc1 : c = 1
      · have P4 : Hid (Pm w3 w.heap.size (some ⟨q, 0, none⟩) (n - 1) 0 (xs.drop 1)) := Lib.hid (by have := Pm.tail (A := some ⟨q, 0, none⟩) Sl3.out (fun h => by omega); rw [show c - 1 = 0 by omega] at this; exact this)
        go_wp2_with fail
        refine (srcOne g _ 60 _ S4.out rfl (by omega) (by omega)).mono ?_
        rintro e w5 ⟨b5, rfl, s5, g5⟩
        have S5 := Lib.hid s5
        have G5 : Hid (w.grownBy w5 (some g)) := Lib.hid (grown_trans' G4.out g5)
        have P5 := Lib.hid (P4.out.gro g5 hg)
        clear s5 g5
        cases b5
        · go_wp2_with fail
          go_ret
          exact ⟨_, _, _, _, rfl, P5.out, hm4, S5.out, G5.out⟩
        · go_wp2_with fail
          refine (srcBelow g _ 2 w5 S5.out rfl (by omega) (by omega)).mono ?_
          rintro e w6 ⟨r6, hr6, rfl, s6, g6⟩
          have S6 := Lib.hid s6
          have G6 : Hid (w.grownBy w6 (some g)) := Lib.hid (grown_trans' G5.out g6)
          clear s6 g6
          go_wp2_with fail
          refine (drawPermK g (20 + r6) _ w6 S6.out (by push_cast; rfl) (by omega)).mono ?_
          rintro e w7 ⟨q7, c7, xs7, rfl, sl7, s7, g7⟩
          have S7 := Lib.hid s7
          have G7 : Hid (w.grownBy w7 (some g)) := Lib.hid (grown_trans' G6.out g7)
          have P7 : Hid (Pm w7 w.heap.size (some ⟨q7, 0, none⟩) (20 + r6) c7 xs7) := Lib.hid ((Pm.of_slc sl7).mono G6.out.size)
          clear s7 g7 sl7
          go_wp2_with fail
          go_ret
          exact ⟨_, _, _, _, rfl, P7.out, by omega, S7.out, G7.out⟩
      · have P4 : Hid (Pm w3 w.heap.size (some ⟨q, 1, none⟩) (n - 1) (c - 1) (xs.drop 1)) := Lib.hid (Pm.tail Sl3.out (fun _ => rfl))
        go_wp2_with fail
        refine (srcOne g _ 60 _ S4.out rfl (by omega) (by omega)).mono ?_
        rintro e w5 ⟨b5, rfl, s5, g5⟩
        have S5 := Lib.hid s5
        have G5 : Hid (w.grownBy w5 (some g)) := Lib.hid (grown_trans' G4.out g5)
        have P5 := Lib.hid (P4.out.gro g5 hg)
        clear s5 g5
        cases b5
        · go_wp2_with fail
          go_ret
          exact ⟨_, _, _, _, rfl, P5.out, hm4, S5.out, G5.out⟩
        · go_wp2_with fail
          refine (srcBelow g _ 2 w5 S5.out rfl (by omega) (by omega)).mono ?_
          rintro e w6 ⟨r6, hr6, rfl, s6, g6⟩
          have S6 := Lib.hid s6
          have G6 : Hid (w.grownBy w6 (some g)) := Lib.hid (grown_trans' G5.out g6)
          clear s6 g6
          go_wp2_with fail
          refine (drawPermK g (20 + r6) _ w6 S6.out (by push_cast; rfl) (by omega)).mono ?_
          rintro e w7 ⟨q7, c7, xs7, rfl, sl7, s7, g7⟩
          have S7 := Lib.hid s7
          have G7 : Hid (w.grownBy w7 (some g)) := Lib.hid (grown_trans' G6.out g7)
          have P7 : Hid (Pm w7 w.heap.size (some ⟨q7, 0, none⟩) (20 + r6) c7 xs7) := Lib.hid ((Pm.of_slc sl7).mono G6.out.size)
          clear s7 g7 sl7
          go_wp2_with fail
          go_ret
          exact ⟨_, _, _, _, rfl, P7.out, by omega, S7.out, G7.out⟩
    · have hz := G3.out.size
      go_wp2_with (first | (at_builtin; refine wpList_app1 rfl _ _ rfl w.heap.size (some ⟨q, 0, none⟩) n c _ rfl (Sl3.out.alloc _) w3.heap.size (n : Int) rfl (by rw [World.cell?_alloc_at _ _ _ _ rfl]; rfl) (by omega) (by simp; omega) ?_; intro A4 c4 w4 s4 g4))
      have P4 := Lib.hid (Pm.of_slc s4)
      have B4 : Below w.heap.size w3 w4 := ((Below.refl _ w3).alloc hz _).grown g4 (by simp; omega) (fun j hj => (Sl3.out.lt_ j hj).1)
      have S4 : Hid (Src w4 g) := Lib.hid (S3.out.below B4 hg)
      have G4 : Hid (w.grownBy w4 (some g)) := Lib.hid (grown_below3 G3.out B4)
      have hm4 : n + 1 ≤ 21 := by omega
      clear s4 g4 B4
      go_wp2_with fail
      refine (srcOne g _ 60 _ S4.out rfl (by omega) (by omega)).mono ?_
      rintro e w5 ⟨b5, rfl, s5, g5⟩
      have S5 := Lib.hid s5
      have G5 : Hid (w.grownBy w5 (some g)) := Lib.hid (grown_trans' G4.out g5)
      have P5 := Lib.hid (P4.out.gro g5 hg)
      clear s5 g5
      cases b5
      · go_wp2_with fail
        go_ret
        exact ⟨_, _, _, _, rfl, P5.out, hm4, S5.out, G5.out⟩
      · go_wp2_with fail
        refine (srcBelow g _ 2 w5 S5.out rfl (by omega) (by omega)).mono ?_
        rintro e w6 ⟨r6, hr6, rfl, s6, g6⟩
        have S6 := Lib.hid s6
        have G6 : Hid (w.grownBy w6 (some g)) := Lib.hid (grown_trans' G5.out g6)
        clear s6 g6
        go_wp2_with fail
        refine (drawPermK g (20 + r6) _ w6 S6.out (by push_cast; rfl) (by omega)).mono ?_
        rintro e w7 ⟨q7, c7, xs7, rfl, sl7, s7, g7⟩
        have S7 := Lib.hid s7
        have G7 : Hid (w.grownBy w7 (some g)) := Lib.hid (grown_trans' G6.out g7)
        have P7 : Hid (Pm w7 w.heap.size (some ⟨q7, 0, none⟩) (20 + r6) c7 xs7) := Lib.hid ((Pm.of_slc sl7).mono G6.out.size)
        clear s7 g7 sl7
        go_wp2_with fail
        go_ret
        exact ⟨_, _, _, _, rfl, P7.out, by omega, S7.out, G7.out⟩
end Go.Proofs.Ytbimhnifjnibjaa

/- The model's draws of numbers, with their bounds; draws of generators and of groups. Condition: at most 4096 bytes. -/
namespace Go.Proofs.Ytbimhnifjnibjaa
open Go.RowKit

/-- The bounds of an int64. -/
def B64 (z : Int) : Prop := -9223372036854775808 ≤ z ∧ z ≤ 9223372036854775807
/-- A literal row of numbers, read later. -/
theorem lit_atB {w w1 : World} {g : Nat} {cs : Array Value} {r : Nat} (hg : g < w.heap.size) (hb : (w.alloc (.cells cs 2)).grownBy w1 (some g)) (hr : r < cs.size) (hall : ∀ (i : Nat) (h : i < cs.size), ∃ z : Int, cs[i] = .int .i64 z ∧ B64 z) : ∃ z : Int, w1.cell? ⟨w.heap.size, r, none⟩ = some (.int .i64 z) ∧ B64 z := by
  obtain ⟨z, hz, hB⟩ := hall r hr
  refine ⟨z, ?_, hB⟩
  rw [World.cell?_of_block (hb.block w.heap.size (by simp) (by intro e; injection e with e; omega)), World.cell?_alloc_at _ _ _ _ rfl]
  show cs[r]? = _
  rw [Array.getElem?_eq_getElem hr, hz]

set_option maxHeartbeats 1600000 in
theorem srcExtremeB (g : Nat) (w : World) (hs : Src w g) :
    Calls Try.prog 53 #[.pointer (some ⟨g, 0, none⟩)] w fun e w' => ∃ z : Int, e = .returned (.int .i64 z) ∧ B64 z ∧ Src w' g ∧ w.grownBy w' (some g) := by
  have hg := hs.lt
  have Hs := Lib.hid hs
  clear hs
  go_enter Try.func53, Try.ntmps53
  go_wp2_with fail
  refine (srcBelow g _ 10 _ (Hs.out.below ((Below.refl w.heap.size w).alloc (Nat.le_refl _) _) hg) rfl (by omega) (by omega)).mono ?_
  rintro e w1 ⟨r, hr, rfl, s1, g1⟩
  have S1 := Lib.hid s1
  have G1 : Hid (w.grownBy w1 (some g)) := Lib.hid (grown_trans' (grown_alloc2 (grown_refl _ _) _) g1)
  obtain ⟨z, hz, hzB⟩ := lit_atB (r := r) hg g1 hr (by
    intro i h
    have h : i < 10 := h
    rcases i with _ | _ | _ | _ | _ | _ | _ | _ | _ | _ | i
    all_goals first | exact ⟨_, rfl, by unfold B64; omega⟩ | omega)
  have p0 : (0 : Int) ≤ r := by omega
  have p1 : (r : Int) < 10 := by omega
  clear s1 g1
  go_wp2_with fail
  go_ret
  exact ⟨z, rfl, hzB, S1.out, G1.out⟩

set_option maxHeartbeats 1600000 in
theorem srcNumberB (g n : Nat) (w : World) (hs : Src w g) (h1 : 1 ≤ n) (hn : n ≤ 100) :
    Calls Try.prog 33 #[.pointer (some ⟨g, 0, none⟩), .int .i64 (n : Int)] w fun e w' => ∃ z : Int, e = .returned (.int .i64 z) ∧ B64 z ∧ Src w' g ∧ w.grownBy w' (some g) := by
  go_enter Try.func33, Try.ntmps33
  go_wp2_with fail
  refine (srcOne g _ 10 w hs rfl (by omega) (by omega)).mono ?_
  rintro e w1 ⟨b, rfl, s1, g1⟩
  have S1 := Lib.hid s1
  have G1 := Lib.hid g1
  clear s1 g1
  cases b
  · go_wp2_with fail
    refine (srcOne g _ 2 w1 S1.out rfl (by omega) (by omega)).mono ?_
    rintro e w2 ⟨b, rfl, s2, g2⟩
    have S2 := Lib.hid s2
    have G2 : Hid (w.grownBy w2 (some g)) := Lib.hid (grown_trans' G1.out g2)
    clear s2 g2
    cases b
    · go_wp2_with fail
      refine (srcBelow g _ (n + 1) w2 S2.out (by omega) (by omega) (by omega)).mono ?_
      rintro e w3 ⟨r, hr, rfl, s3, g3⟩
      have S3 := Lib.hid s3
      have G3 : Hid (w.grownBy w3 (some g)) := Lib.hid (grown_trans' G2.out g3)
      clear s3 g3
      go_wp2_with fail
      go_ret
      exact ⟨r, rfl, by unfold B64; omega, S3.out, G3.out⟩
    · by_cases h4 : n ≤ 4
      · have hm : (min (n : Int) 4) = (n : Int) := by omega
        have d4 : decide ((n : Int) ≤ 4) = true := by simp; omega
        go_wp2_with fail
        refine (srcBelow g _ (n + 1) w2 S2.out (by omega) (by omega) (by omega)).mono ?_
        rintro e w3 ⟨r, hr, rfl, s3, g3⟩
        have S3 := Lib.hid s3
        have G3 : Hid (w.grownBy w3 (some g)) := Lib.hid (grown_trans' G2.out g3)
        clear s3 g3
        go_wp2_with fail
        go_ret
        exact ⟨r, rfl, by unfold B64; omega, S3.out, G3.out⟩
      · have hm : (min (n : Int) 4) = 4 := by omega
        have d4 : decide ((n : Int) ≤ 4) = false := by simp; omega
        go_wp2_with fail
        refine (srcBelow g _ (5) w2 S2.out (by omega) (by omega) (by omega)).mono ?_
        rintro e w3 ⟨r, hr, rfl, s3, g3⟩
        have S3 := Lib.hid s3
        have G3 : Hid (w.grownBy w3 (some g)) := Lib.hid (grown_trans' G2.out g3)
        clear s3 g3
        go_wp2_with fail
        go_ret
        exact ⟨r, rfl, by unfold B64; omega, S3.out, G3.out⟩
  · go_wp2_with fail
    refine (srcExtremeB g w1 S1.out).mono ?_
    rintro e w2 ⟨z, rfl, hzB, s2, g2⟩
    have S2 := Lib.hid s2
    have hg2 := s2.lt
    have G2 : Hid (w.grownBy w2 (some g)) := Lib.hid (grown_trans' G1.out g2)
    clear s2 g2
    go_wp2_with fail
    refine (srcBelow g _ 4 _ (S2.out.below ((Below.refl w2.heap.size w2).alloc (Nat.le_refl _) _) hg2) rfl (by omega) (by omega)).mono ?_
    rintro e w3 ⟨r, hr, rfl, s3, g3⟩
    have S3 := Lib.hid s3
    have G3 : Hid (w.grownBy w3 (some g)) := Lib.hid (grown_trans' (grown_alloc2 G2.out _) g3)
    obtain ⟨y, hy, hyB⟩ := lit_atB (r := r) hg2 g3 hr (by
      intro i h
      have h : i < 4 := h
      rcases i with _ | _ | _ | _ | i
      all_goals first | exact ⟨_, rfl, by unfold B64; omega⟩ | exact ⟨_, rfl, hzB⟩ | omega)
    have p0 : (0 : Int) ≤ r := by omega
    have p1 : (r : Int) < 4 := by omega
    clear s3 g3
    go_wp2_with fail
    go_ret
    exact ⟨y, rfl, hyB, S3.out, G3.out⟩


section
variable {w w' : World} {base n c : Nat} {A : Option Addr} {vs : List SV} {xss : List (List Int)}
/-- Kept where a block turned that is none of its own. -/
theorem SS.farR {r lo hi : Nat} (h : SS w base base A n c vs xss) (hg : w.grownBy w' (some r)) (hA : ∀ k, (Value.slice A n c).ownBlock = some k → lo ≤ k ∧ k < hi) (hI : ∀ i, i < n → ∀ k, (sval (vs.getD i sd0)).ownBlock = some k → lo ≤ k ∧ k < hi) (hr : r < lo ∨ hi ≤ r) : SS w' base base A n c vs xss := by
  have ne : ∀ (v : Value), (∀ k, v.ownBlock = some k → lo ≤ k ∧ k < hi) → v.ownBlock = none ∨ v.ownBlock ≠ some r := fun v hv => by
    rcases e : v.ownBlock with _ | k
    · exact .inl rfl
    · exact .inr fun e2 => by injection e2 with e2; have := hv k e; omega
  exact ⟨World.ownsRow.kept h.own hg (ne _ hA), h.lv, h.lx, fun i hi' => (h.row i hi').kept hg (ne _ (hI i hi')), h.dis⟩
/-- A slice that can be read, appended onto a slice of slices of the call's own. -/
theorem wpList_app2R {ops : Array Oper} {rest : List Oper} {o : Oper} {a : Act} {Q : Exit → Act → World → Prop} (hgd : o.guard = none) (s x : Operand)
    (ho : o.op = .call { callee := .builtin .append, args := #[s, x], argTypes := #[24, 24] })
    (hs : a.eval s = .slice A n c) (hss : SS w base base A n c vs xss) (g : Nat) (dA : Option Addr) (dn dc lo : Nat) (ys : List Int) (hx : a.eval x = .slice (some ⟨g, 0, none⟩) 1 1)
    (hcell : w.cell? ⟨g, 0, none⟩ = some (.slice dA dn dc)) (hys : Pm w lo dA dn dc ys) (hlo : ∀ k, (Value.slice A n c).ownBlock = some k → k < lo) (hn : n ≤ 1000000000) (hbase : base ≤ w.heap.size)
    (h : ∀ A' c' w', RR w' w'.heap.size A' (n + 1) (vs ++ [(dA, dn, dc)]) (xss ++ [ys]) → w.grownBy w' (Value.slice A n c).ownBlock → wpList Try.prog ops Q rest (a.put o.dst (.slice A' (n + 1) c')) w') : wpList Try.prog ops Q (o :: rest) a w := by
  obtain ⟨i0, hi, hz0, hz1, hz2⟩ := info_parts infoS
  refine wpList_append_own (w := w) hgd s x 24 ho base 28 i0 (.slice none 0 0) 1 24 Try.underlying24 hi hz0 hz1 hz2 rfl (by decide) _ n _ hs hss.own ⟨g, 0, none⟩ 1 1 [.slice dA dn dc] hx rfl ?_ ?_ ?_ (by omega) hbase ?_
  · intro j v hj
    match j, hj with
    | 0, hj => simp at hj; subst hj; simpa [Addr.add] using hcell
    | j + 1, hj => simp at hj
  · intro v hv; simp at hv; subst hv; rfl
  · unfold maxLen; omega
  · intro v' w' hown' hg _
    rcases hown'.2 with ⟨rfl, h0⟩ | ⟨g', cap, cur, rfl, hb', hg', hnc, _⟩
    · omega
    · refine h (some ⟨g', 0, none⟩) cap w' ⟨by simp [hss.lv], by simp [hss.lx], fun _ => ⟨g', 0, rfl, (Array.getElem?_eq_some_iff.1 hg').1, fun j hj => ?_⟩, fun j hj => ?_, fun j hj => ?_, fun j hj => ?_⟩ hg
      · rw [Nat.zero_add, hown'.cellAt j (by omega)]
        by_cases e : j < n
        · rw [List.getElem?_append_left (by rw [List.length_map, hss.lv]; exact e), List.getElem?_map, getD_app _ _ _ _ (by rw [hss.lv]; exact e), List.getD_eq_getElem?_getD, List.getElem?_eq_getElem (by rw [hss.lv]; exact e)]; rfl
        · obtain rfl : j = n := by omega
          rw [List.getElem?_append_right (by rw [List.length_map, hss.lv]; exact Nat.le_refl _), List.length_map, hss.lv, Nat.sub_self, getD_snoc _ _ _ _ hss.lv.symm]; rfl
      · by_cases e : j < n
        · rw [getD_app _ _ _ _ (by rw [hss.lv]; exact e), getD_app _ _ _ _ (by rw [hss.lx]; exact e)]
          exact ((hss.row j e).kept hg (apart_types (hss.row j e) hss.own)).ri_
        · obtain rfl : j = n := by omega
          rw [getD_snoc _ _ _ _ hss.lv.symm, getD_snoc _ _ _ _ hss.lx.symm]
          intro hp
          obtain ⟨b, off, e1, h1, h2, hc⟩ := hys.2.2 (by rw [← hys.1]; exact hp)
          refine ⟨b, off, e1, Nat.lt_of_lt_of_le h2 hg.size, fun t ht => (World.cell?_of_block (a := ⟨b, off + t, none⟩) (hg.block b h2 fun e2 => ?_)).trans (hc t (by rw [← hys.1]; exact ht))⟩
          have := hlo b e2.symm
          omega
      · by_cases e : j < n
        · rw [getD_app _ _ _ _ (by rw [hss.lx]; exact e), getD_app _ _ _ _ (by rw [hss.lv]; exact e)]; exact (hss.row j e).1
        · obtain rfl : j = n := by omega
          rw [getD_snoc _ _ _ _ hss.lx.symm, getD_snoc _ _ _ _ hss.lv.symm]; exact hys.1
      · by_cases e : j < n
        · rw [getD_app _ _ _ _ (by rw [hss.lv]; exact e)]; exact (hss.row j e).le.1
        · obtain rfl : j = n := by omega
          rw [getD_snoc _ _ _ _ hss.lv.symm]; exact hys.2.1
end
theorem wrap_pos2 (k : Nat) (h : k ≤ 1000) : IntKind.i64.wrap ((k : Int) + 1) = (k : Int) + 1 := by rw [IntKind.wrap_i64]; omega
theorem grown_new2 {a b c : World} {g : Nat} {row : Option Nat} (h : a.grownBy b (some g)) (h2 : b.grownBy c row) (hr : ∀ j, row = some j → a.heap.size ≤ j) : a.grownBy c (some g) :=
  ⟨h2.os.trans h.os, h2.tape.trans h.tape, h2.output.trans h.output, Nat.le_trans h.size h2.size, fun i hi hne => (h2.block i (Nat.lt_of_lt_of_le hi h.size) (fun e => by have := hr _ e.symm; omega)).trans (h.block i hi hne)⟩
theorem Src.gro2 {g : Nat} {row : Option Nat} {w w' : World} (h : Src w g) (hb : w.grownBy w' row) (hg : ∀ r, row = some r → g < r) : Src w' g := by
  obtain ⟨A, len, cap, k, x, h1, h2, h3, h4⟩ := h
  refine ⟨A, len, cap, k, x, h1, h2, h3.keep fun p hp => World.cell?_of_block (hb.block p.block (by have := h4.lt; omega) (fun e => by have := hg _ e.symm; omega)), h4.grown hb (fun e => by have := hg _ e.symm; omega)⟩

set_option maxHeartbeats 4000000 in
set_option maxRecDepth 100000 in
/-- drawGenerators. -/
theorem drawGens (g n : Nat) (w : World) (hs : Src w g) (h1 : 1 ≤ n) (hn : n ≤ 20) :
    Calls Try.prog 31 #[.pointer (some ⟨g, 0, none⟩), .int .i64 (n : Int)] w fun e w' => ∃ A m c us xss, e = .returned (.slice A m c) ∧ SS w' w.heap.size w.heap.size A m c us xss ∧ (∀ i, i < m → (us.getD i sd0).2.1 = n) ∧ m ≤ 3 ∧ Src w' g ∧ w.grownBy w' (some g) := by
  have hg := hs.lt
  have Sr0 : Hid (Src (w.alloc (.cells #[] 28)) g) := Lib.hid (hs.below ((Below.refl w.heap.size w).alloc (Nat.le_refl _) _) hg)
  have Ss0 := Lib.hid (SS.lit0 w w.heap.size w.heap.size (Nat.le_refl _))
  have G0 : Hid (w.grownBy (w.alloc (.cells #[] 28)) (some g)) := Lib.hid (grown_alloc2 (grown_refl _ _) _)
  clear hs
  go_enter Try.func31, Try.ntmps31
  go_wp2_with fail
  refine (srcBelow g _ 3 _ Sr0.out rfl (by omega) (by omega)).mono ?_
  rintro e w1 ⟨r, hr, rfl, s1, g1⟩
  have Sr1 := Lib.hid s1
  have Ss1 : Hid (SS w1 w.heap.size w.heap.size (some ⟨w.heap.size, 0, none⟩) 0 0 [] []) := Lib.hid (Ss0.out.farR (lo := w.heap.size) (hi := w.heap.size + 1) g1 (fun k e => by simp [Value.ownBlock] at e; omega) (fun i hi => absurd hi (by omega)) (.inl hg))
  have G1 : Hid (w.grownBy w1 (some g)) := Lib.hid (grown_trans' G0.out g1)
  have wr1 : IntKind.i64.wrap (1 + (r : Int)) = ((r + 1 : Nat) : Int) := by rw [IntKind.wrap_i64]; omega
  clear s1 g1 Sr0 Ss0 G0
  go_wp2_with fail
  go_loopg [5, 6] 4 (fun gg v kk wr => ∃ (k : Nat) (A : Option Addr) (m c : Nat) (us : List SV) (xss : List (List Int)), m + k ≤ 3 ∧ k ≤ gg ∧ kk = .int .i64 (k : Nat) ∧ v = .slice A m c ∧ SS wr w.heap.size w.heap.size A m c us xss ∧ (∀ i, i < m → (us.getD i sd0).2.1 = n) ∧ Src wr g ∧ w.grownBy wr (some g))
  case atStart => exact ⟨r + 1, _, 0, _, [], [], by omega, by omega, rfl, rfl, Ss1.out, fun i hi => absurd hi (by omega), Sr1.out, G1.out⟩
  case round =>
    clear Sr1 Ss1 G1 wr1
    obtain ⟨k0, A, m, c, us, xss, hmk, hgk, rfl, rfl, ss, ln, sr, gr⟩ := hrel
    have Ss := Lib.hid ss
    have Ln := Lib.hid ln
    have Sr := Lib.hid sr
    have Gr := Lib.hid gr
    have hwz : w.heap.size ≤ wr.heap.size := gr.size
    clear ss ln sr gr
    by_cases hk0 : 0 < k0
    · obtain ⟨k, rfl⟩ : ∃ k, k0 = k + 1 := ⟨k0 - 1, by omega⟩
      have wk : IntKind.i64.wrap (((k + 1 : Nat) : Int) - 1) = (k : Int) := by rw [IntKind.wrap_i64]; omega
      have LA : Hid (∀ j, (Value.slice A m c).ownBlock = some j → w.heap.size ≤ j ∧ j < wr.heap.size) := Lib.hid Ss.out.lt_
      have LI : Hid (∀ t, t < m → ∀ j, (sval (us.getD t sd0)).ownBlock = some j → w.heap.size ≤ j ∧ j < wr.heap.size) := Lib.hid fun t ht => (Ss.out.row t ht).lt_
      go_wp2_with fail
      refine (specIdent n wr (by omega)).mono ?_
      rintro e w2 ⟨A1, c1, rfl, s2, b2⟩
      have Sr2 := Lib.hid (Sr.out.below b2 Sr.out.lt)
      have Ss2 := Lib.hid (Ss.out.up b2)
      have G2 : Hid (w.grownBy w2 (some g)) := Lib.hid (grown_below2 Gr.out b2)
      rcases Slc.at_ s2 with ⟨_, _, e0, _⟩ | ⟨q, rfl, hq1, hq2⟩
      · omega
      have Sl2 := Lib.hid s2
      have hz2 := b2.size
      clear s2 b2
      go_wp2_with fail
      refine (srcBelow g _ 4 w2 Sr2.out rfl (by omega) (by omega)).mono ?_
      rintro e w3 ⟨r3, hr3, rfl, s3, g3⟩
      have Sr3 := Lib.hid s3
      have Ss3 := Lib.hid (Ss2.out.farR g3 LA.out LI.out (.inl hg))
      have Sl3 : Hid (Slc w3 wr.heap.size (some ⟨q, 0, none⟩) n c1 (idL n)) := Lib.hid (Sl2.out.kept g3 (.inr (by simp [Value.ownBlock]; omega)))
      have G3 : Hid (w.grownBy w3 (some g)) := Lib.hid (grown_trans' G2.out g3)
      have hz3 := g3.size
      clear s3 g3
      obtain rfl | rfl | hr23 : r3 = 0 ∨ r3 = 1 ∨ (r3 = 2 ∨ r3 = 3) := by omega
      · clear Sl3 Sl2 hq1 hq2
        go_wp2_with fail
        refine (drawPermK g n _ w3 Sr3.out rfl (by omega)).mono ?_
        rintro e w4 ⟨q, c1, ys, rfl, s4, r4, g4⟩
        have Sr4 := Lib.hid r4
        have Ss4 := Lib.hid (Ss3.out.farR g4 LA.out LI.out (.inl hg))
        have hq1 : wr.heap.size ≤ q := by have := (s4.lt_ q rfl).1; omega
        have Sl4 : Hid (Slc w4 w.heap.size (some ⟨q, 0, none⟩) n c1 ys) := Lib.hid (s4.mono (by omega))
        have G4 : Hid (w.grownBy w4 (some g)) := Lib.hid (grown_trans' G3.out g4)
        clear s4 r4 g4
        have D5 := Lib.hid (show ∀ t, t < m → (sval (us.getD t sd0)).ownBlock = none ∨ (sval (us.getD t sd0)).ownBlock ≠ (Value.slice (some ⟨q, 0, none⟩) n c1).ownBlock from fun t ht => by
          rcases e9 : (sval (us.getD t sd0)).ownBlock with _ | z
          · exact .inl rfl
          · exact .inr fun e8 => by have := (LI.out t ht z e9).2; simp [Value.ownBlock] at e8; omega)
        have hzT : w.heap.size ≤ w4.heap.size := G4.out.size
        go_wp2_with (first
          | (at_builtin
             refine wpList_app2 rfl _ _ rfl rfl (Ss4.out.alloc _) w4.heap.size (some ⟨q, 0, none⟩) n c1 ys rfl (by rw [World.cell?_alloc_at _ _ _ _ rfl]; rfl) ((Sl4.out).alloc _) D5.out (by omega) (by simp; omega) ?_
             intro A7 c7 w7 ss7 g7))
        have S7 : Hid (SS w7 w.heap.size w.heap.size A7 (m + 1) c7 (us ++ [(some ⟨q, 0, none⟩, n, c1)]) (xss ++ [ys])) := Lib.hid ss7
        have Sr7 : Hid (Src w7 g) := Lib.hid ((Sr4.out.below ((Below.refl w4.heap.size w4).alloc (Nat.le_refl _) (.cells #[.slice (some ⟨q, 0, none⟩) n c1] 28)) Sr4.out.lt).gro2 g7 (fun j hj => by have := (Ss4.out.lt_ j hj).1; omega))
        have G7 : Hid (w.grownBy w7 (some g)) := Lib.hid (grown_new2 (grown_alloc2 G4.out (.cells #[.slice (some ⟨q, 0, none⟩) n c1] 28)) g7 (fun j hj => (Ss4.out.lt_ j hj).1))
        have Ln7 : Hid (∀ i, i < m + 1 → ((us ++ [((some ⟨q, 0, none⟩, n, c1) : SV)]).getD i sd0).2.1 = n) := Lib.hid fun i hi => by
          by_cases e9 : i < m
          · rw [getD_app _ _ _ _ (by rw [Ss4.out.lv]; exact e9)]; exact Ln.out i e9
          · rw [getD_snoc _ _ _ _ (by rw [Ss4.out.lv]; omega)]
        clear ss7 g7
        go_wp2_with fail
        go_roundg k
        case rel => exact ⟨k, A7, m + 1, c7, _, _, by omega, by omega, by go_num, rfl, S7.out, Ln7.out, Sr7.out, G7.out⟩
        case measure => omega
      · have row3 : Hid (Row w3 wr.heap.size q n c1 (idL n)) := Lib.hid (Row.of_own (by have h2 := Sl3.out.2; rw [← Sl3.out.1] at h2 ⊢; exact h2))
        go_wp2_with fail
        obtain ⟨wl, rfl⟩ : ∃ wl, wl = wr := ⟨_, rfl⟩
        go_loopg [8] n (fun gg iv wr2 => ∃ (i : Nat) (ys : List Int), i ≤ n ∧ n - i ≤ gg ∧ iv = .int .i64 (i : Nat) ∧ Row wr2 wl.heap.size q n c1 ys ∧ SS wr2 w.heap.size w.heap.size A m c us xss ∧ Src wr2 g ∧ w.grownBy wr2 (some g))
        case atStart => exact ⟨0, _, Nat.zero_le _, by omega, rfl, row3.out, Ss3.out, Sr3.out, G3.out⟩
        case round =>
          obtain ⟨i, ys, hi, hgi, rfl, row, ss5, sr5, g5⟩ := hrel
          have Ro := Lib.hid row
          have Ss5 := Lib.hid ss5
          have Sr5 := Lib.hid sr5
          have G5 := Lib.hid g5
          clear row ss5 sr5 g5
          by_cases hil : i < n
          · have c5 := Ro.out.cell hil
            have f5 := Ro.out.free i
            obtain ⟨u, hu⟩ : ∃ u, ((i : Int) + 1).tmod (n : Int) = u := ⟨_, rfl⟩
            have wi := wrap_pos2 i (by omega)
            have hn0 : ¬ ((n : Int) = 0) := by omega
            have p0 : (0 : Int) ≤ i := by omega
            have p1 : (i : Int) < n := by omega
            have Ro6 := Lib.hid (Ro.out.store i u)
            have Ss6 : Hid (SS (wr.setCell ⟨q, i, none⟩ (.int .i64 u)) w.heap.size w.heap.size A m c us xss) := Lib.hid (Ss5.out.farR (r := q) (grown_set (grown_refl _ _) _ _) LA.out LI.out (.inr hq1))
            have Sr6 : Hid (Src (wr.setCell ⟨q, i, none⟩ (.int .i64 u)) g) := Lib.hid (Sr5.out.gro (grown_set (grown_refl _ (some q)) i _) (by omega))
            have G6 : Hid (w.grownBy (wr.setCell ⟨q, i, none⟩ (.int .i64 u)) (some g)) := Lib.hid (grown_far G5.out (by omega) i _)
            obtain ⟨z5, hz5⟩ : ∃ z5, ys.getD i 0 = z5 := ⟨_, rfl⟩
            rw [hz5] at c5
            clear hz5
            go_wp2_with fail
            go_roundg (n - (i + 1))
            case rel => exact ⟨i + 1, _, by omega, by omega, by go_num, Ro6.out, Ss6.out, Sr6.out, G6.out⟩
            case measure => omega
          · have hin : i = n := by omega
            have Sl5 : Hid (Slc wr w.heap.size (some ⟨q, 0, none⟩) n c1 ys) := Lib.hid (Ro.out.slc.mono (by omega))
            clear hin
            have D5 := Lib.hid (show ∀ t, t < m → (sval (us.getD t sd0)).ownBlock = none ∨ (sval (us.getD t sd0)).ownBlock ≠ (Value.slice (some ⟨q, 0, none⟩) n c1).ownBlock from fun t ht => by
              rcases e9 : (sval (us.getD t sd0)).ownBlock with _ | z
              · exact .inl rfl
              · exact .inr fun e8 => by have := (LI.out t ht z e9).2; simp [Value.ownBlock] at e8; omega)
            have hzT : w.heap.size ≤ wr.heap.size := G5.out.size
            go_wp2_with (first
              | (at_builtin
                 refine wpList_app2 rfl _ _ rfl rfl (Ss5.out.alloc _) wr.heap.size (some ⟨q, 0, none⟩) n c1 ys rfl (by rw [World.cell?_alloc_at _ _ _ _ rfl]; rfl) ((Sl5.out).alloc _) D5.out (by omega) (by simp; omega) ?_
                 intro A7 c7 w7 ss7 g7))
            have S7 : Hid (SS w7 w.heap.size w.heap.size A7 (m + 1) c7 (us ++ [(some ⟨q, 0, none⟩, n, c1)]) (xss ++ [ys])) := Lib.hid ss7
            have Sr7 : Hid (Src w7 g) := Lib.hid ((Sr5.out.below ((Below.refl wr.heap.size wr).alloc (Nat.le_refl _) (.cells #[.slice (some ⟨q, 0, none⟩) n c1] 28)) Sr5.out.lt).gro2 g7 (fun j hj => by have := (Ss5.out.lt_ j hj).1; omega))
            have G7 : Hid (w.grownBy w7 (some g)) := Lib.hid (grown_new2 (grown_alloc2 G5.out (.cells #[.slice (some ⟨q, 0, none⟩) n c1] 28)) g7 (fun j hj => (Ss5.out.lt_ j hj).1))
            have Ln7 : Hid (∀ i, i < m + 1 → ((us ++ [((some ⟨q, 0, none⟩, n, c1) : SV)]).getD i sd0).2.1 = n) := Lib.hid fun i hi => by
              by_cases e9 : i < m
              · rw [getD_app _ _ _ _ (by rw [Ss5.out.lv]; exact e9)]; exact Ln.out i e9
              · rw [getD_snoc _ _ _ _ (by rw [Ss5.out.lv]; omega)]
            clear ss7 g7
            go_wp2_with fail
            go_roundg k
            case rel => exact ⟨k, A7, m + 1, c7, _, _, by omega, by omega, by go_num, rfl, S7.out, Ln7.out, Sr7.out, G7.out⟩
            case measure => omega
      · have d30 : ((r3 : Int) == 0) = false := by simp; omega
        have d31 : ((r3 : Int) == 1) = false := by simp; omega
        clear hr23 hr3
        go_wp2_with fail
        refine (srcBelow g _ n w3 Sr3.out rfl (by omega) (by omega)).mono ?_
        rintro e w4 ⟨x, hx, rfl, s4, g4⟩
        have Sr4 := Lib.hid s4
        have Ss4 := Lib.hid (Ss3.out.farR g4 LA.out LI.out (.inl hg))
        have Sl4 : Hid (Slc w4 wr.heap.size (some ⟨q, 0, none⟩) n c1 (idL n)) := Lib.hid (Sl3.out.kept g4 (.inr (by simp [Value.ownBlock]; omega)))
        have G4 : Hid (w.grownBy w4 (some g)) := Lib.hid (grown_trans' G3.out g4)
        clear s4 g4
        go_wp2_with fail
        refine (srcBelow g _ n w4 Sr4.out rfl (by omega) (by omega)).mono ?_
        rintro e w5 ⟨y, hy, rfl, s5, g5⟩
        have Sr5 := Lib.hid s5
        have Ss5 := Lib.hid (Ss4.out.farR g5 LA.out LI.out (.inl hg))
        have Sl5 : Hid (Slc w5 wr.heap.size (some ⟨q, 0, none⟩) n c1 (idL n)) := Lib.hid (Sl4.out.kept g5 (.inr (by simp [Value.ownBlock]; omega)))
        have G5 : Hid (w.grownBy w5 (some g)) := Lib.hid (grown_trans' G4.out g5)
        clear s5 g5
        have row5 : Row w5 wr.heap.size q n c1 (idL n) := Row.of_own (by have h2 := Sl5.out.2; rw [← Sl5.out.1] at h2 ⊢; exact h2)
        have c5 := row5.cell hx
        have f5 := row5.free x
        rw [idL_getD hx] at c5
        have row6 := row5.store x (y : Int)
        have c6 := row6.cell hy
        have f6 := row6.free y
        obtain ⟨z6, hz6⟩ : ∃ z6, ((idL n).set x (y : Int)).getD y 0 = z6 := ⟨_, rfl⟩
        rw [hz6] at c6
        have Ro7 := Lib.hid (row6.store y (x : Int))
        obtain ⟨w6, hw6⟩ : ∃ w6, w5.setCell ⟨q, x, none⟩ (.int .i64 (y : Int)) = w6 := ⟨_, rfl⟩
        have Ss6 : Hid (SS w6 w.heap.size w.heap.size A m c us xss) := Lib.hid (by rw [← hw6]; exact Ss5.out.farR (r := q) (grown_set (grown_refl _ _) _ _) LA.out LI.out (.inr hq1))
        have Sr6 : Hid (Src w6 g) := Lib.hid (by rw [← hw6]; exact Sr5.out.gro (grown_set (grown_refl _ (some q)) x _) (by omega))
        have G6 : Hid (w.grownBy w6 (some g)) := Lib.hid (by rw [← hw6]; exact grown_far G5.out (by omega) x _)
        have Ss8 : Hid (SS (w6.setCell ⟨q, y, none⟩ (.int .i64 (x : Int))) w.heap.size w.heap.size A m c us xss) := Lib.hid (Ss6.out.farR (r := q) (grown_set (grown_refl _ _) _ _) LA.out LI.out (.inr hq1))
        have Sr8 : Hid (Src (w6.setCell ⟨q, y, none⟩ (.int .i64 (x : Int))) g) := Lib.hid (Sr6.out.gro (grown_set (grown_refl _ (some q)) y _) (by omega))
        have G8 : Hid (w.grownBy (w6.setCell ⟨q, y, none⟩ (.int .i64 (x : Int))) (some g)) := Lib.hid (grown_far G6.out (by omega) y _)
        obtain ⟨w8, hw8⟩ : ∃ w8, w6.setCell ⟨q, y, none⟩ (.int .i64 (x : Int)) = w8 := ⟨_, rfl⟩
        rw [hw8] at Ss8 Sr8 G8
        rw [hw6] at c6 f6 Ro7
        rw [hw8] at Ro7
        have Sl8 : Hid (Slc w8 w.heap.size (some ⟨q, 0, none⟩) n c1 (((idL n).set x (y : Int)).set y (x : Int))) := Lib.hid (Ro7.out.slc.mono (by omega))
        have x0 : (0 : Int) ≤ x := by omega
        have x1 : (x : Int) < n := by omega
        have y0 : (0 : Int) ≤ y := by omega
        have y1 : (y : Int) < n := by omega
        clear row5 row6 hz6
        have D5 := Lib.hid (show ∀ t, t < m → (sval (us.getD t sd0)).ownBlock = none ∨ (sval (us.getD t sd0)).ownBlock ≠ (Value.slice (some ⟨q, 0, none⟩) n c1).ownBlock from fun t ht => by
          rcases e9 : (sval (us.getD t sd0)).ownBlock with _ | z
          · exact .inl rfl
          · exact .inr fun e8 => by have := (LI.out t ht z e9).2; simp [Value.ownBlock] at e8; omega)
        have hzT : w.heap.size ≤ w8.heap.size := G8.out.size
        go_wp2_with (first
          | (at_builtin
             refine wpList_app2 rfl _ _ rfl rfl (Ss8.out.alloc _) w8.heap.size (some ⟨q, 0, none⟩) n c1 (((idL n).set x (y : Int)).set y (x : Int)) rfl (by rw [World.cell?_alloc_at _ _ _ _ rfl]; rfl) ((Sl8.out).alloc _) D5.out (by omega) (by simp; omega) ?_
             intro A7 c7 w7 ss7 g7))
        have S7 : Hid (SS w7 w.heap.size w.heap.size A7 (m + 1) c7 (us ++ [(some ⟨q, 0, none⟩, n, c1)]) (xss ++ [(((idL n).set x (y : Int)).set y (x : Int))])) := Lib.hid ss7
        have Sr7 : Hid (Src w7 g) := Lib.hid ((Sr8.out.below ((Below.refl w8.heap.size w8).alloc (Nat.le_refl _) (.cells #[.slice (some ⟨q, 0, none⟩) n c1] 28)) Sr8.out.lt).gro2 g7 (fun j hj => by have := (Ss8.out.lt_ j hj).1; omega))
        have G7 : Hid (w.grownBy w7 (some g)) := Lib.hid (grown_new2 (grown_alloc2 G8.out (.cells #[.slice (some ⟨q, 0, none⟩) n c1] 28)) g7 (fun j hj => (Ss8.out.lt_ j hj).1))
        have Ln7 : Hid (∀ i, i < m + 1 → ((us ++ [((some ⟨q, 0, none⟩, n, c1) : SV)]).getD i sd0).2.1 = n) := Lib.hid fun i hi => by
          by_cases e9 : i < m
          · rw [getD_app _ _ _ _ (by rw [Ss8.out.lv]; exact e9)]; exact Ln.out i e9
          · rw [getD_snoc _ _ _ _ (by rw [Ss8.out.lv]; omega)]
        clear ss7 g7
        go_wp2_with fail
        go_roundg k
        case rel => exact ⟨k, A7, m + 1, c7, _, _, by omega, by omega, by go_num, rfl, S7.out, Ln7.out, Sr7.out, G7.out⟩
        case measure => omega
    · have hk00 : k0 = 0 := by omega
      subst hk00
      go_wp2_with fail
      go_ret
      exact ⟨_, _, _, _, _, rfl, Ss.out, Ln.out, by omega, Sr.out, Gr.out⟩

theorem SS.lens_le {w : World} {bo bi n c : Nat} {A : Option Addr} {us : List SV} {xss : List (List Int)} (_h : SS w bo bi A n c us xss) {N : Nat} (hl : ∀ i, i < n → (us.getD i sd0).2.1 = N) (hN : N ≤ 21) : ∀ i, i < n → (us.getD i sd0).2.1 ≤ 21 := fun i hi => by rw [hl i hi]; exact hN

set_option maxHeartbeats 4000000 in
set_option maxRecDepth 100000 in
/-- drawGroup. -/
theorem drawGroupT (g : Nat) (w : World) (hs : Src w g) :
    Calls Try.prog 16 #[.pointer (some ⟨g, 0, none⟩)] w fun e w' => ∃ (z : Int) (A : Option Addr) (m c : Nat) (vs : List SV) (xss : List (List Int)), e = .returned (.tuple #[.int .i64 z, .slice A m c]) ∧ B64 z ∧ RR w' w'.heap.size A m vs xss ∧ m ≤ 9 ∧ (∀ i, i < m → (vs.getD i sd0).2.1 ≤ 21) ∧ Src w' g ∧ w.grownBy w' (some g) := by
  have hg := hs.lt
  go_enter Try.func16, Try.ntmps16
  go_wp2_with fail
  refine (srcBetween g 2 5 w hs (by omega) (by omega)).mono ?_
  rintro e w1 ⟨n1, h11, h12, rfl, s1, g1⟩
  have Sr1 := Lib.hid s1
  have G1 := Lib.hid g1
  clear s1 g1 hs
  go_wp2_with fail
  refine (srcOne g _ 6 w1 Sr1.out rfl (by omega) (by omega)).mono ?_
  rintro e w2 ⟨b, rfl, s2, g2⟩
  have Sr2 := Lib.hid s2
  have G2 : Hid (w.grownBy w2 (some g)) := Lib.hid (grown_trans' G1.out g2)
  clear s2 g2
  go_upto_if 9 with fail
  go_cut [4] from 6 to 48 (fun nn wx => ∃ n : Nat, 1 ≤ n ∧ n ≤ 7 ∧ nn = .int .i64 (n : Nat) ∧ Src wx g ∧ w.grownBy wx (some g))
  case first =>
    cases b
    · go_wp2_with fail
      go_meet
      exact ⟨n1, by omega, by omega, rfl, Sr2.out, G2.out⟩
    · go_wp2_with fail
      refine (srcBetween g 1 7 w2 Sr2.out (by omega) (by omega)).mono ?_
      rintro e w3 ⟨n3, h31, h32, rfl, s3, g3⟩
      have Sr3 := Lib.hid s3
      have G3 : Hid (w.grownBy w3 (some g)) := Lib.hid (grown_trans' G2.out g3)
      clear s3 g3
      go_wp2_with fail
      go_meet
      exact ⟨n3, by omega, by omega, rfl, Sr3.out, G3.out⟩
  case rest =>
    obtain ⟨n, hn1, hn7, rfl, src, grc⟩ := hcut
    have Sr3 := Lib.hid src
    have G3 := Lib.hid grc
    clear src grc Sr2 G2 Sr1 G1
    go_wp2_with fail
    refine (drawGens g n wc Sr3.out hn1 (by omega)).mono ?_
    rintro e w4 ⟨A, m, c, us, xss, rfl, ss4, ln4, hm4, s4, g4⟩
    have Ss4 := Lib.hid ss4
    have Ln4 := Lib.hid ln4
    have Sr4 := Lib.hid s4
    have G4 : Hid (w.grownBy w4 (some g)) := Lib.hid (grown_trans' G3.out g4)
    have hgc : g < wc.heap.size := Sr3.out.lt
    have hz4 := G4.out.size
    have LA : Hid (∀ j, (Value.slice A m c).ownBlock = some j → wc.heap.size ≤ j ∧ j < w4.heap.size) := Lib.hid ss4.lt_
    have LI : Hid (∀ t, t < m → ∀ j, (sval (us.getD t sd0)).ownBlock = some j → wc.heap.size ≤ j ∧ j < w4.heap.size) := Lib.hid fun t ht => (ss4.row t ht).lt_
    have hzc4 := g4.size
    clear ss4 ln4 s4 g4
    go_wp2_with fail
    refine (srcOne g _ 20 w4 Sr4.out rfl (by omega) (by omega)).mono ?_
    rintro e w5 ⟨b5, rfl, s5, g5⟩
    have Sr5 := Lib.hid s5
    have Ss5 := Lib.hid (Ss4.out.farR g5 LA.out LI.out (.inl hgc))
    have G5 : Hid (w.grownBy w5 (some g)) := Lib.hid (grown_trans' G4.out g5)
    have hz5 := g5.size
    clear s5 g5
    cases b5
    · go_wp2_with fail
      go_ret2
      exact ⟨_, _, _, _, us, xss, rfl, by unfold B64; omega, Ss5.out.rr, by omega, Ss5.out.lens_le Ln4.out (by omega), Sr5.out, G5.out⟩
    · go_wp2_with fail
      refine (srcBelow g _ 4 w5 Sr5.out rfl (by omega) (by omega)).mono ?_
      rintro e w6 ⟨r6, hr6, rfl, s6, g6⟩
      have Sr6 := Lib.hid s6
      have Ss6 := Lib.hid (Ss5.out.farR g6 LA.out LI.out (.inl hgc))
      have G6 : Hid (w.grownBy w6 (some g)) := Lib.hid (grown_trans' G5.out g6)
      have hz6 := g6.size
      clear s6 g6
      obtain rfl | rfl | rfl | rfl : r6 = 0 ∨ r6 = 1 ∨ r6 = 2 ∨ r6 = 3 := by omega
      · go_wp2_with fail
        refine (srcNumberB g 20 w6 Sr6.out (by omega) (by omega)).mono ?_
        rintro e w7 ⟨z7, rfl, hB7, s7, g7⟩
        have Sr7 := Lib.hid s7
        have Ss7 := Lib.hid (Ss6.out.farR g7 LA.out LI.out (.inl hgc))
        have G7 : Hid (w.grownBy w7 (some g)) := Lib.hid (grown_trans' G6.out g7)
        have HB7 := Lib.hid hB7
        clear s7 g7 hB7
        go_wp2_with fail
        go_ret2
        exact ⟨_, _, _, _, us, xss, rfl, HB7.out, Ss7.out.rr, by omega, Ss7.out.lens_le Ln4.out (by omega), Sr7.out, G7.out⟩
      · go_wp2_with fail
        refine (drawAny g n w6 Sr6.out (by omega) (by omega)).mono ?_
        rintro e w7 ⟨A7, m7, c7, ys, rfl, p7, hm7, s7, g7⟩
        have Sr7 := Lib.hid s7
        have Ss7 := Lib.hid (Ss6.out.farR g7 LA.out LI.out (.inl hgc))
        have G7 : Hid (w.grownBy w7 (some g)) := Lib.hid (grown_trans' G6.out g7)
        have P7 : Hid (Pm (w7.alloc (.cells #[.slice A7 m7 c7] 28)) w6.heap.size A7 m7 c7 ys) := Lib.hid (p7.up ((Below.refl w7.heap.size w7).alloc (Nat.le_refl _) _))
        have hz7 := G7.out.size
        have hz67 := g7.size
        have hlt7 : Hid (∀ j, (Value.slice A m c).ownBlock = some j → j < w6.heap.size) := Lib.hid fun j hj => by have := (LA.out j hj).2; omega
        clear s7 g7 p7
        go_wp2_with (first
          | (at_builtin
             refine wpList_app2R rfl _ _ rfl rfl (Ss7.out.alloc _) w7.heap.size A7 m7 c7 w6.heap.size ys rfl (by rw [World.cell?_alloc_at _ _ _ _ rfl]; rfl) P7.out hlt7.out (by omega) (by simp; omega) ?_
             intro A8 c8 w8 rr8 g8))
        have R8 := Lib.hid rr8
        have Sr8 : Hid (Src w8 g) := Lib.hid ((Sr7.out.below ((Below.refl w7.heap.size w7).alloc (Nat.le_refl _) (.cells #[.slice A7 m7 c7] 28)) Sr7.out.lt).gro2 g8 (fun j hj => by have := (LA.out j hj).1; omega))
        have G8 : Hid (w.grownBy w8 (some g)) := Lib.hid (grown_new2 (grown_alloc2 G7.out (.cells #[.slice A7 m7 c7] 28)) g8 (fun j hj => by have := (LA.out j hj).1; have := G3.out.size; omega))
        have Ln8 : Hid (∀ i, i < m + 1 → ((us ++ [((A7, m7, c7) : SV)]).getD i sd0).2.1 ≤ 21) := Lib.hid fun i hi => by
          by_cases e9 : i < m
          · rw [getD_app _ _ _ _ (by rw [Ss7.out.lv]; exact e9), Ln4.out i e9]; omega
          · rw [getD_snoc _ _ _ _ (by rw [Ss7.out.lv]; omega)]; exact hm7
        clear rr8 g8
        go_wp2_with fail
        go_ret2
        exact ⟨_, _, _, _, _, _, rfl, by unfold B64; omega, R8.out, by omega, Ln8.out, Sr8.out, G8.out⟩
      · have hw6 := G6.out.size
        have Sr7 : Hid (Src (w6.alloc (.cells #[] 28)) g) := Lib.hid (Sr6.out.below ((Below.refl w6.heap.size w6).alloc (Nat.le_refl _) _) Sr6.out.lt)
        have G7 : Hid (w.grownBy (w6.alloc (.cells #[] 28)) (some g)) := Lib.hid (grown_alloc2 G6.out _)
        go_wp2_with fail
        go_ret2
        exact ⟨_, _, 0, _, [], [], rfl, by unfold B64; omega, RR.nil_, by omega, fun i hi => absurd hi (by omega), Sr7.out, G7.out⟩
      · go_wp2_with fail
        go_loopg [5] 10 (fun gg v wr => ∃ (A : Option Addr) (m c : Nat) (us : List SV) (xss : List (List Int)), m ≤ 9 ∧ 9 - m ≤ gg ∧ v = .slice A m c ∧ SS wr wc.heap.size wc.heap.size A m c us xss ∧ (∀ i, i < m → (us.getD i sd0).2.1 = n) ∧ Src wr g ∧ w.grownBy wr (some g) ∧ wc.heap.size ≤ wr.heap.size)
        case atStart => exact ⟨_, m, _, _, _, by omega, by omega, rfl, Ss6.out, Ln4.out, Sr6.out, G6.out, by omega⟩
        case round =>
          clear LA LI Ss4 Ss5 Ss6
          obtain ⟨A, m, c, us, xss, hm9, hgm, rfl, ss, ln, sr, gr, hzc⟩ := hrel
          have Ss := Lib.hid ss
          have Ln := Lib.hid ln
          have Sr := Lib.hid sr
          have Gr := Lib.hid gr
          have LA : Hid (∀ j, (Value.slice A m c).ownBlock = some j → wc.heap.size ≤ j ∧ j < wr.heap.size) := Lib.hid ss.lt_
          have LI : Hid (∀ t, t < m → ∀ j, (sval (us.getD t sd0)).ownBlock = some j → wc.heap.size ≤ j ∧ j < wr.heap.size) := Lib.hid fun t ht => (ss.row t ht).lt_
          clear ss ln sr gr
          go_wp2_with fail
          refine (srcBelow g _ 2 wr Sr.out rfl (by omega) (by omega)).mono ?_
          rintro e w7 ⟨r7, hr7, rfl, s7, g7⟩
          have Sr7 := Lib.hid s7
          have Ss7 := Lib.hid (Ss.out.farR g7 LA.out LI.out (.inl hgc))
          have G7 : Hid (w.grownBy w7 (some g)) := Lib.hid (grown_trans' Gr.out g7)
          have hz7 := g7.size
          have w88 : IntKind.i64.wrap (8 + (r7 : Int)) = 8 + (r7 : Int) := by rw [IntKind.wrap_i64]; omega
          have w89 : IntKind.i64.wrap (r7 : Int) = (r7 : Int) := by rw [IntKind.wrap_i64]; omega
          clear s7 g7
          by_cases hlt : (m : Int) < 8 + (r7 : Int)
          · have d7 : decide ((m : Int) < 8 + (r7 : Int)) = true := decide_eq_true hlt
            have hm8 : m ≤ 8 := by omega
            go_wp2_with fail
            refine (specIdent n w7 (by omega)).mono ?_
            rintro e w8 ⟨A8, c8, rfl, s8, b8⟩
            have Sr8 := Lib.hid (Sr7.out.below b8 Sr7.out.lt)
            have Ss8 := Lib.hid (Ss7.out.up b8)
            have G8 : Hid (w.grownBy w8 (some g)) := Lib.hid (grown_below2 G7.out b8)
            have D8 := Lib.hid (lies_dis Ss7.out s8.lies (Nat.le_refl _))
            have hz8 := b8.size
            have Sl8 := Lib.hid (s8.mono (show wc.heap.size ≤ w7.heap.size by omega))
            clear s8 b8
            go_wp2_with (first
              | (at_builtin
                 refine wpList_app2 rfl _ _ rfl rfl (Ss8.out.alloc _) w8.heap.size A8 n c8 (idL n) rfl (by rw [World.cell?_alloc_at _ _ _ _ rfl]; rfl) (Sl8.out.alloc _) D8.out (by omega) (by simp; omega) ?_
                 intro A9 c9 w9 ss9 g9))
            have Ss9 : Hid (SS w9 wc.heap.size wc.heap.size A9 (m + 1) c9 (us ++ [(A8, n, c8)]) (xss ++ [idL n])) := Lib.hid ss9
            have Sr9 : Hid (Src w9 g) := Lib.hid ((Sr8.out.below ((Below.refl w8.heap.size w8).alloc (Nat.le_refl _) (.cells #[.slice A8 n c8] 28)) Sr8.out.lt).gro2 g9 (fun j hj => by have := (LA.out j hj).1; omega))
            have G9 : Hid (w.grownBy w9 (some g)) := Lib.hid (grown_new2 (grown_alloc2 G8.out (.cells #[.slice A8 n c8] 28)) g9 (fun j hj => by have := (LA.out j hj).1; have := G3.out.size; omega))
            have hz9 : wc.heap.size ≤ w9.heap.size := by have := g9.size; simp at this; omega
            have Ln9 : Hid (∀ i, i < m + 1 → ((us ++ [((A8, n, c8) : SV)]).getD i sd0).2.1 = n) := Lib.hid fun i hi => by
              by_cases e9 : i < m
              · rw [getD_app _ _ _ _ (by rw [Ss8.out.lv]; exact e9)]; exact Ln.out i e9
              · rw [getD_snoc _ _ _ _ (by rw [Ss8.out.lv]; omega)]
            clear ss9 g9
            go_wp2_with fail
            go_roundg (9 - (m + 1))
            case rel => exact ⟨A9, m + 1, c9, _, _, by omega, by omega, rfl, Ss9.out, Ln9.out, Sr9.out, G9.out, hz9⟩
            case measure => omega
          · have d7 : decide ((m : Int) < 8 + (r7 : Int)) = false := decide_eq_false hlt
            go_wp2_with fail
            go_ret2
            exact ⟨_, _, _, _, us, xss, rfl, by unfold B64; omega, Ss7.out.rr, by omega, Ss7.out.lens_le Ln.out (by omega), Sr7.out, G7.out⟩
end Go.Proofs.Ytbimhnifjnibjaa
