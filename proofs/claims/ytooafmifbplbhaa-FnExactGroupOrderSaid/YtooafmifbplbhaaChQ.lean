/- What a whole chain tells: orbit sizes, the order, membership; what these are for the group. Conditions: at most 20 points, 8 generators. -/
import Derived.Test.YtooafmifbplbhaaChB
import Derived.Deep.LoopGhost
namespace Go.Proofs.Ytooafmifbplbhaa
open Go.RowKit

/-! ### the group's own numbers -/
section
variable {N : Nat} {gs hs : List (List Int)} {c : Ch}
theorem Whole.stab (h : Whole N gs c) (h1 : 1 ≤ N) (h2 : N ≤ 20) : ∀ i, i ≤ N → ∀ p, Mb (c.gen i) N p ↔ Mb gs N p ∧ Fx i p
  | 0, _, p => by rw [h.mem]; exact ⟨fun h => ⟨h, Fx.zero⟩, fun h => h.1⟩
  | i + 1, hi, p => by
    have ih := h.stab h1 h2 i (by omega)
    have hr := h.up.rep i (Nat.zero_le _) hi
    have hpn : ∀ g ∈ c.gen 0, Pn N g := h.up.pn (Nat.le_refl _) (Nat.zero_le _)
    constructor
    · intro hm
      have hp := hm.pn (h.up.pn (Nat.zero_le _) hi) h1 h2
      have hf : Fx (i + 1) p := by
        rcases Nat.lt_or_ge (i + 1) N with hl | hl
        · exact hm.fx (h.up.gp (i + 1) (Nat.zero_le _) hl) h1 h2 hi
        · obtain rfl : i + 1 = N := by omega
          rw [h.up.top] at hm
          rw [hm.none_]; exact fx_id (Nat.le_refl _)
      have hs := (sv_down hr hi hp (hf.mono (by omega)) (hf i (by omega))).2 ((h.up.sv (i + 1) (Nat.zero_le _) hi p).2 hm)
      exact ⟨((ih p).1 ((h.up.sv i (Nat.zero_le _) (by omega) p).1 hs)).1, hf⟩
    · rintro ⟨hm, hf⟩
      have hp := ((h.mem p).2 hm).pn hpn h1 h2
      have hs := (h.up.sv i (Nat.zero_le _) (by omega) p).2 ((ih p).2 ⟨hm, hf.mono (by omega)⟩)
      exact (h.up.sv (i + 1) (Nat.zero_le _) hi p).1 ((sv_down hr hi hp (hf.mono (by omega)) (hf i (by omega))).1 hs)
theorem Whole.rep_mb (h : Whole N gs c) (h1 : 1 ≤ N) (h2 : N ≤ 20) {i y : Nat} (hi : i < N) (hy : c.rep i y ≠ []) : Mb gs N (c.rep i y) ∧ Fx i (c.rep i y) ∧ nx (c.rep i y) i = y ∧ y < N := by
  have hl := (h.up.mono (Nat.zero_le i)).low hi h1 h2
  have h3 := (h.stab h1 h2 i (by omega) _).1 (hl.inn y hy)
  obtain ⟨a1, a2, a3, a4⟩ := hl.rep.at_ y hy
  exact ⟨h3.1, a3, a4, a1⟩
theorem Whole.rep_iff (h : Whole N gs c) (h1 : 1 ≤ N) (h2 : N ≤ 20) {i y : Nat} (hi : i < N) : c.rep i y ≠ [] ↔ ∃ p, Mb gs N p ∧ Fx i p ∧ nx p i = y := by
  constructor
  · intro hy
    obtain ⟨a, b, d, _⟩ := h.rep_mb h1 h2 hi hy
    exact ⟨_, a, b, d⟩
  · rintro ⟨p, hm, hf, rfl⟩
    exact (((h.up.sv i (Nat.zero_le _) (by omega) p).2 ((h.stab h1 h2 i (by omega) p).2 ⟨hm, hf⟩)).inv_low hi).2.2.1
/-- The sizes of the orbits of the points under the members that fix the points before them. -/
def IsOS (N : Nat) (gs : List (List Int)) (xs : List Int) : Prop := xs.length = N ∧ ∀ i, i < N → ∃ l : List Nat, l.Nodup ∧ (∀ y, y ∈ l ↔ y < N ∧ ∃ p, Mb gs N p ∧ Fx i p ∧ nx p i = y) ∧ xs.getD i 0 = (l.length : Int)
theorem IsOS.uniq {xs ys : List Int} (h : IsOS N gs xs) (h' : IsOS N gs ys) : xs = ys := by
  refine ext_getD h.1 h'.1 fun i hi => ?_
  obtain ⟨l, d, m, e⟩ := h.2 i hi
  obtain ⟨l', d', m', e'⟩ := h'.2 i hi
  have a := nd_sub d (fun x hx => (m' x).2 ((m x).1 hx))
  have b := nd_sub d' (fun x hx => (m x).2 ((m' x).1 hx))
  rw [e, e']; omega
/-- How many representatives a level has. -/
def nr (N : Nat) (c : Ch) (i m : Nat) : Nat := ((List.range m).filter fun y => !(c.rep i y).isEmpty).length
def osL (N : Nat) (c : Ch) (m : Nat) : List Int := (List.range m).map fun i => (nr N c i N : Int)
theorem nr_zero (N : Nat) (c : Ch) (i : Nat) : nr N c i 0 = 0 := rfl
theorem nr_yes {i m : Nat} (h : c.rep i m ≠ []) : nr N c i (m + 1) = nr N c i m + 1 := by
  unfold nr; rw [List.range_succ, List.filter_append]; simp [List.isEmpty_eq_false_iff.2 h]
theorem nr_no {i m : Nat} (h : c.rep i m = []) : nr N c i (m + 1) = nr N c i m := by
  unfold nr; rw [List.range_succ, List.filter_append]; simp [h]
theorem nr_le (i m : Nat) : nr N c i m ≤ m := by
  have := List.length_filter_le (fun y => !(c.rep i y).isEmpty) (List.range m)
  simpa [nr] using this
theorem osL_succ (m : Nat) : osL N c (m + 1) = osL N c m ++ [(nr N c m N : Int)] := by simp [osL, List.range_succ]
theorem osL_len (m : Nat) : (osL N c m).length = m := by simp [osL]
theorem osL_at {i m : Nat} (hi : i < m) : (osL N c m).getD i 0 = (nr N c i N : Int) := by
  unfold osL
  rw [List.getD_eq_getElem?_getD, List.getElem?_map, List.getElem?_range hi]; rfl
theorem Whole.os (h : Whole N gs c) (h1 : 1 ≤ N) (h2 : N ≤ 20) : IsOS N gs (osL N c N) := by
  refine ⟨osL_len N, fun i hi => ⟨(List.range N).filter fun y => !(c.rep i y).isEmpty, List.nodup_range.filter _, fun y => ?_, osL_at hi⟩⟩
  rw [List.mem_filter, List.mem_range, Bool.not_eq_true', List.isEmpty_eq_false_iff, h.rep_iff h1 h2 hi]
/-- Level i has a representative of i itself, and none below. -/
theorem Whole.nr_pos (h : Whole N gs c) (h1 : 1 ≤ N) {i : Nat} (hi : i < N) : 1 ≤ nr N c i N ∧ nr N c i N ≤ N - i := by
  have hr := h.up.rep i (Nat.zero_le _) hi
  constructor
  · unfold nr
    refine List.length_pos_of_mem (a := i) ?_
    rw [List.mem_filter, List.mem_range, Bool.not_eq_true', List.isEmpty_eq_false_iff]
    exact ⟨hi, by rw [hr.one]; intro e; have := idL_length N; rw [e] at this; simp at this; omega⟩
  · have : ((List.range N).filter fun y => !(c.rep i y).isEmpty).length ≤ (List.range' i (N - i)).length := by
      refine nd_sub (List.nodup_range.filter _) fun y hy => ?_
      rw [List.mem_filter, List.mem_range, Bool.not_eq_true', List.isEmpty_eq_false_iff] at hy
      obtain ⟨a1, a2, a3, a4⟩ := hr.at_ y hy.2
      have := a3.ge a2 hi
      rw [List.mem_range'_1]; omega
    simpa [nr] using this
/-- The product. -/
def prodL (l : List Int) : Int := l.foldl (fun a x => a * x) 1
theorem prodL_snoc (l : List Int) (x : Int) : prodL (l ++ [x]) = prodL l * x := by simp [prodL]
def facts : Nat → Nat → Nat
  | _, 0 => 1
  | N, m + 1 => facts N m * (N - m)
theorem facts_pos {N : Nat} : ∀ {m : Nat}, m ≤ N → 1 ≤ facts N m
  | 0, _ => Nat.le_refl _
  | m + 1, h => Nat.mul_pos (facts_pos (by omega)) (by omega)
theorem facts_mono {N m : Nat} (h : m < N) : facts N m ≤ facts N (m + 1) := Nat.le_mul_of_pos_right _ (by omega)
theorem facts_le {N : Nat} (hN : N ≤ 20) : ∀ m, m ≤ N → facts N m ≤ 2432902008176640000 := by
  have hall : ∀ N, N ≤ 20 → ∀ m, m ≤ N → facts N m ≤ 2432902008176640000 := by decide +kernel
  exact hall N hN
theorem Whole.prod_le (h : Whole N gs c) (h1 : 1 ≤ N) : ∀ m, m ≤ N → 1 ≤ prodL (osL N c m) ∧ prodL (osL N c m) ≤ (facts N m : Int)
  | 0, _ => by simp [osL, prodL, facts]
  | m + 1, hm => by
    obtain ⟨a, b⟩ := h.prod_le h1 m (by omega)
    obtain ⟨d, e⟩ := h.nr_pos h1 (i := m) hm
    rw [osL_succ, prodL_snoc]
    refine ⟨?_, ?_⟩
    · have := Int.mul_le_mul a (show (1 : Int) ≤ (nr N c m N : Int) by omega) (by omega) (by omega)
      simpa using this
    · have := Int.mul_le_mul b (show (nr N c m N : Int) ≤ ((N - m : Nat) : Int) by omega) (by omega) (by omega)
      show _ ≤ ((facts N m * (N - m) : Nat) : Int)
      rw [Int.natCast_mul]; exact this
end

set_option maxHeartbeats 400000 in
theorem specB2I (b : Bool) (w : World) : Calls Try.prog 92 #[.bool b] w fun e w' => e = .returned (.int .i64 (if b then 1 else 0)) ∧ w = w' := by
  cases b
  · go_enter Try.func92, Try.ntmps92
    go_wp2
    go_ret
    exact ⟨rfl, rfl⟩
  · go_enter Try.func92, Try.ntmps92
    go_wp2
    go_ret
    exact ⟨rfl, rfl⟩

set_option maxHeartbeats 2000000 in
set_option maxRecDepth 100000 in
theorem specSizes (base g N : Nat) (c : Ch) (L : LY) (gs : List (List Int)) (w : World) (hc : Cn w base g N c L) (hw : Whole N gs c) (hN1 : 1 ≤ N) (hN : N ≤ 20) :
    Calls Try.prog 66 #[.pointer (some ⟨g, 0, none⟩)] w fun e w' => ∃ A' c', e = .returned (.slice A' N c') ∧ Slc w' w.heap.size A' N c' (osL N c N) ∧ Below w.heap.size w w' := by
  have HC := Lib.hid hc
  have HW := Lib.hid hw
  have S0 := Lib.hid (Slc.lit0 w w.heap.size (Nat.le_refl _))
  clear hc hw
  go_enter Try.func66, Try.ntmps66
  go_wp2_with fail
  go_loopg [3, 4] N (fun gg v i wr => ∃ (k cc : Nat) (A : Option Addr), k ≤ N ∧ N - k ≤ gg ∧ i = .int .i64 (k : Nat) ∧ v = .slice A k cc ∧ Slc wr w.heap.size A k cc (osL N c k) ∧ Below w.heap.size w wr)
  case atStart => exact ⟨0, _, _, Nat.zero_le _, by omega, rfl, rfl, S0.out, (Below.refl _ _).alloc (Nat.le_refl _) _⟩
  case round =>
    clear S0
    obtain ⟨k, cc, A, hk, hgg, rfl, rfl, hs, bel⟩ := hrel
    have Ss := Lib.hid hs
    have Be := Lib.hid bel
    have C1 := Lib.hid (HC.out.up bel)
    have x0 := C1.out.c0
    clear hs bel
    by_cases hlt : k < N
    · go_wp2_with fail
      go_loopg [5, 6] N (fun gg s y wr2 => ∃ m : Nat, m ≤ N ∧ N - m ≤ gg ∧ y = .int .i64 (m : Nat) ∧ s = .int .i64 (nr N c k m : Nat) ∧ wr = wr2)
      case atStart => exact ⟨0, Nat.zero_le _, by omega, rfl, rfl, rfl⟩
      case round =>
        obtain ⟨m, hm, hg2, rfl, rfl, rfl⟩ := hrel
        by_cases hmt : m < N
        · have x1 := C1.out.c1
          have x2 := C1.out.cR hlt
          have x3 := C1.out.cro hlt hmt
          have en := C1.out.enn hlt hmt
          rcases hd : (L.en k).getD m sd0 with ⟨dA, dn, dc⟩
          rw [hd] at x3 en
          simp only [sval] at x3
          have q0 : (0 : Int) ≤ k := by omega
          have q1 : (k : Int) < N := by omega
          have q2 : (0 : Int) ≤ m := by omega
          have q3 : (m : Int) < N := by omega
          have hnm := nr_le (N := N) (c := c) k m
          have en2 : dn = (c.rep k m).length := en
          by_cases hz : c.rep k m = []
          · obtain rfl : dn = 0 := by rw [en2, hz]; rfl
            have d0 : decide ((0 : Int) < 0) = false := by decide
            have Kn := Lib.hid (nr_no (N := N) hz)
            clear hd en en2
            go_wp2_with (first | (go_at_call 92; refine (specB2I _ _).mono ?_; rintro e w' ⟨rfl, rfl⟩))
            go_roundg (N - (m + 1))
            case rel => exact ⟨m + 1, by omega, by omega, by go_num, by rw [Kn.out], rfl⟩
            case measure => omega
          · obtain rfl : dn = N := by
              have h2 := rep_ne_pos (HW.out.up.rep k (Nat.zero_le _) hlt) hz
              omega
            have d0 : decide ((0 : Int) < (dn : Int)) = true := by simp; omega
            have Kn := Lib.hid (nr_yes (N := dn) hz)
            clear hd en en2
            go_wp2_with (first | (go_at_call 92; refine (specB2I _ _).mono ?_; rintro e w' ⟨rfl, rfl⟩))
            go_roundg (dn - (m + 1))
            case rel => exact ⟨m + 1, by omega, by omega, by go_num, by rw [Kn.out]; go_num, rfl⟩
            case measure => omega
        · obtain rfl : m = N := by omega
          have hzr := Be.out.size
          have Osk := Lib.hid (osL_succ (N := m) (c := c) k)
          go_wp2_with (at_builtin; refine wpList_app1 rfl _ _ rfl w.heap.size A k cc _ rfl (Ss.out.alloc _) wr.heap.size (nr m c k m : Int) rfl (by rw [World.cell?_alloc_at _ _ _ _ rfl]; rfl) (by omega) (by simp; omega) ?_; intro A3 c3 w3 s3 g3)
          have S3 : Hid (Slc w3 w.heap.size A3 (k + 1) c3 (osL m c (k + 1))) := Lib.hid (by rw [Osk.out]; exact s3)
          have B3 : Hid (Below w.heap.size w w3) := Lib.hid ((Be.out.alloc hzr _).grown g3 (by simp; omega) (fun j hj => (Ss.out.lt_ j hj).1))
          clear s3 g3
          go_wp2_with fail
          go_roundg (m - (k + 1))
          case rel => exact ⟨k + 1, _, _, by omega, by omega, by go_num, rfl, S3.out, B3.out⟩
          case measure => omega
    · obtain rfl : k = N := by omega
      go_wp2_with fail
      go_ret
      exact ⟨_, _, rfl, Ss.out, Be.out⟩

theorem specOrder (base g N : Nat) (c : Ch) (L : LY) (gs : List (List Int)) (w : World) (hc : Cn w base g N c L) (hw : Whole N gs c) (hN1 : 1 ≤ N) (hN : N ≤ 20) :
    Calls Try.prog 67 #[.pointer (some ⟨g, 0, none⟩)] w fun e w' => e = .returned (.int .i64 (prodL (osL N c N))) ∧ Below w.heap.size w w' := by
  have HC := Lib.hid hc
  have HW := Lib.hid hw
  clear hc hw
  go_enter Try.func67, Try.ntmps67
  go_wp2_with fail
  refine (specSizes base g N c L gs w HC.out HW.out hN1 hN).mono ?_
  rintro e w1 ⟨A, cc, rfl, s1, b1⟩
  have S1 := Lib.hid s1
  have B1 := Lib.hid b1
  clear s1 b1
  go_wp2_with fail
  go_loop [3, 5] (fun o i => ∃ k : Nat, k ≤ N ∧ i = .int .i64 (k : Nat) ∧ o = .int .i64 (prodL (osL N c k))) (fun _ i => N - (intOf i).toNat)
  case atStart => exact ⟨0, Nat.zero_le _, rfl, rfl⟩
  case round =>
    obtain ⟨k, hk, rfl, rfl⟩ := hrel
    by_cases hlt : k < N
    · obtain ⟨b, off, rfl, hb, hcell⟩ := S1.out.ri_ (by rw [S1.out.1]; omega)
      have x1 := hcell k (by rw [S1.out.1]; exact hlt)
      rw [osL_at hlt] at x1
      have pl := HW.out.prod_le hN1 (k + 1) hlt
      have pf := facts_le hN (k + 1) hlt
      rw [osL_succ, prodL_snoc] at pl
      have wr1 : IntKind.i64.wrap (prodL (osL N c k) * (nr N c k N : Int)) = prodL (osL N c k) * (nr N c k N : Int) := by rw [IntKind.wrap_i64]; omega
      have e1 : prodL (osL N c (k + 1)) = prodL (osL N c k) * (nr N c k N : Int) := by rw [osL_succ, prodL_snoc]
      have E1 := Lib.hid e1
      have q0 : (0 : Int) ≤ k := by omega
      have q1 : (k : Int) < N := by omega
      clear hb hcell pl pf e1
      go_wp2_with fail
      go_round
      case rel => exact ⟨k + 1, by omega, by go_num, by rw [E1.out]⟩
      case measure => simp [intOf]; omega
    · obtain rfl : k = N := by omega
      go_wp2_with fail
      go_ret
      exact ⟨rfl, B1.out⟩
theorem specHas (base g N cp : Nat) (A : Option Addr) (c : Ch) (L : LY) (gs : List (List Int)) (p : List Int) (w : World) (hc : Cn w base g N c L) (hw : Whole N gs c) (hp : RI w w.heap.size A p) (hP : Hid (Pn N p)) (ans : Bool) (ha : Hid (ans = true ↔ Mb gs N p)) :
    Calls Try.prog 53 #[.pointer (some ⟨g, 0, none⟩), .slice A N cp] w fun e w' => e = .returned (.bool ans) ∧ Below w.heap.size w w' := by
  have HC := Lib.hid hc
  have HW := Lib.hid hw
  have HP := Lib.hid hp
  clear hc hw hp
  go_enter Try.func53, Try.ntmps53
  go_wp2_with fail
  have K := specSift base g N 0 cp A c L p w HC.out HP.out hP (Lib.hid Fx.zero) (Nat.zero_le _) (Lib.hid HW.out.up.rep)
  refine K.mono ?_
  rintro e w1 ⟨A1, n1, c1, lvl, rfl, hlv, hle, b1⟩
  have C1 := Lib.hid (HC.out.up b1)
  have B1 := Lib.hid b1
  have x0 := C1.out.c0
  have e1 : ((lvl : Int) == (N : Int)) = ans := by
    have h1 : Sv N c 0 p ↔ Mb gs N p := (HW.out.up.sv 0 (Nat.le_refl _) (Nat.zero_le _) p).trans (HW.out.mem p)
    have h2 : ans = true ↔ lvl = N := ha.out.trans (h1.symm.trans hlv.symm)
    rw [Bool.eq_iff_iff, h2, beq_iff_eq]; omega
  clear K hlv hle b1
  go_wp2_with fail
  go_ret
  exact ⟨rfl, B1.out⟩
end Go.Proofs.Ytooafmifbplbhaa
