/- Plain facts: the long cycles hold just the moved points. And Support, PermutationLess, Sign at permutations. -/
import Derived.Test.YtopaeojcpidfgaaCycles
import Derived.Test.YtopaeojcpidfgaaLess
import Derived.Test.YtopaeojcpidfgaaSign
import Derived.Test.YtopaeojcpidfgaaGroup
import Derived.Test.YtopaeojcpidfgaaParity2
namespace Go.Proofs.Ytopaeojcpidfgaa
open Go.RowKit

theorem head_eq {p : List Int} (h : IsP p) {x y a b : Nat} (hx : x < p.length) (hy : y < p.length) (sx : st p x = true) (sy : st p y = true) (e : it p a x = it p b y) : x = y := by
  have lo : ∀ {u v c d : Nat}, u < p.length → v < p.length → st p u = true → it p c u = it p d v → u ≤ v := by
    intro u v c d hu hv su e
    have hv1 := per_spec h hv
    -- v is an iterate of u
    have : ∃ k, it p k u = v := by
      refine ⟨(per p v - d % per p v) + c, ?_⟩
      rw [it_add, e, ← it_add, it_mod h hv]
      have : (per p v - d % per p v + d) % per p v = 0 := by
        have h1 := Nat.mod_lt d (show 0 < per p v by omega)
        have h2 := Nat.div_add_mod d (per p v)
        have h3 : per p v - d % per p v + d = per p v * (d / per p v + 1) := by
          rw [Nat.mul_add, Nat.mul_one]; omega
        rw [h3]; exact Nat.mul_mod_right _ _
      rw [this]; rfl
    obtain ⟨k, ek⟩ := this
    have := (st_iff h hu).1 su k
    omega
  have h1 := lo hx hy sx e
  have h2 := lo hy hx sy e.symm
  omega
def longH (p : List Int) : List Nat := ((List.range p.length).filter (st p)).filter fun h => decide (1 < per p h)
theorem cycl_longH (p : List Int) : cycl p = (longH p).map (cyc p) := by
  unfold cycl longH cycs
  rw [List.filter_map]
  congr 1
  refine List.filter_congr fun x _ => ?_
  simp [cyc_length]
theorem sum_cycl (p : List Int) : ((cycl p).map List.length).sum = ((longH p).flatMap fun h => (List.range (per p h)).map fun k => it p k h).length := by
  rw [List.length_flatMap, cycl_longH, List.map_map]
  congr 1
  refine List.map_congr_left fun x _ => ?_
  simp [cyc_length]
theorem moved_count {p : List Int} (h : IsP p) : ((cycl p).map List.length).sum = (supp p).length := by
  rw [sum_cycl]
  unfold supp
  rw [List.length_map]
  apply List.Perm.length_eq
  rw [List.perm_ext_iff_of_nodup]
  · intro x
    rw [List.mem_flatMap, List.mem_filter, List.mem_range]
    constructor
    · rintro ⟨c, hc, hx⟩
      rw [List.mem_map] at hx
      obtain ⟨k, _, rfl⟩ := hx
      unfold longH at hc
      rw [List.mem_filter, List.mem_filter, List.mem_range] at hc
      obtain ⟨⟨hcl, hst⟩, hp⟩ := hc
      have hxl := it_lt h hcl k
      refine ⟨hxl, ?_⟩
      rw [bne_iff_ne, nx_val h hxl]
      intro e
      have h1 := per_spec h hxl
      rw [per_it h hcl k] at h1
      exact h1.2.2.2 1 (Nat.le_refl _) (by simpa using hp) (by show nx p (it p k c) = _; omega)
    · rintro ⟨hx, hm⟩
      obtain ⟨c, j, hc, hst, hj, e⟩ := min_ex h hx
      refine ⟨c, ?_, List.mem_map.2 ⟨j, List.mem_range.2 hj, e⟩⟩
      unfold longH
      rw [List.mem_filter, List.mem_filter, List.mem_range]
      refine ⟨⟨hc, hst⟩, ?_⟩
      have h1 := per_spec h hx
      rw [← e, per_it h hc j] at h1
      rw [decide_eq_true_eq]
      rw [bne_iff_ne, nx_val h hx] at hm
      rcases Nat.lt_or_ge 1 (per p c) with h2 | h2
      · exact h2
      · have h3 : per p c = 1 := by omega
        have h4 := h1.2.2.1
        rw [h3, e] at h4
        have h5 : nx p x = x := h4
        omega
  · unfold List.Nodup
    rw [List.pairwise_flatMap]
    constructor
    · intro c hc
      unfold longH at hc
      rw [List.mem_filter, List.mem_filter, List.mem_range] at hc
      have hcl := hc.1.1
      rw [List.pairwise_map, List.pairwise_iff_getElem]
      intro i j hi hj hij e
      simp only [List.length_range] at hi hj
      simp only [List.getElem_range] at e
      have h1 := per_spec h hcl
      have e2 : it p i (it p (j - i) c) = it p i c := by rw [← it_add, e]; congr 1; omega
      exact h1.2.2.2 (j - i) (by omega) (by omega) (it_inj h (it_lt h hcl _) hcl i e2)
    · have hnd : (longH p).Nodup := ((List.nodup_range).filter _).filter _
      refine hnd.imp_of_mem ?_
      intro a b ha hb hab x hx y hy e
      unfold longH at ha hb
      rw [List.mem_filter, List.mem_filter, List.mem_range] at ha hb
      rw [List.mem_map] at hx hy
      obtain ⟨k, _, rfl⟩ := hx
      obtain ⟨k', _, e'⟩ := hy
      exact hab (head_eq h ha.1.1 hb.1.1 ha.1.2 hb.1.2 (e.trans e'.symm))
  · exact (List.nodup_range).filter _

theorem suppT (A : Option Addr) (c n m : Nat) (p : List Int) (b1 : Nat) (w : World) (hp : Slc w b1 A n c p) (ip : Hid (IsP p)) (hm : Hid ((supp p).length = m)) :
    Calls Try.prog 30 #[.slice A n c] w fun e w' => ∃ A' c', e = .returned (.slice A' m c') ∧ Slc w' w.heap.size A' m c' (supp p) ∧ Below w.heap.size w w' := by
  have hn : n ≤ 20 := by rw [← hp.1]; exact ip.out.le
  refine (implSupport A c n p w hp.ri_ hp.hid (by omega)).mono ?_
  rintro e w' ⟨A', n', c', rfl, s, _, b⟩
  have hc : suppL p = supp p := if_pos (isP_iff.2 ip.out)
  rw [hc] at s
  have : n' = m := by rw [← s.1, hm.out]
  subst this
  exact ⟨A', c', rfl, s, b⟩
theorem suppTs (A : Option Addr) (c n m : Nat) (p : List Int) (b1 : Nat) (w : World) (hp : Slc w b1 A n c p) (ip : Hid (IsP p)) (hm : Hid ((supp p).length = m)) :
    Calls Try.prog 32 #[.slice A n c] w fun e w' => ∃ A' c', e = .returned (.slice A' m c') ∧ Slc w' w.heap.size A' m c' (supp p) ∧ Below w.heap.size w w' := by
  have hn : n ≤ 20 := by rw [← hp.1]; exact ip.out.le
  refine (specSupport A c n p w hp.ri_ hp.hid (by omega) hp.le.1).mono ?_
  rintro e w' ⟨A', n', c', rfl, s, _, b⟩
  have hc : suppL p = supp p := if_pos (isP_iff.2 ip.out)
  rw [hc] at s
  have : n' = m := by rw [← s.1, hm.out]
  subst this
  exact ⟨A', c', rfl, s, b⟩
theorem lessT (A B : Option Addr) (c d n : Nat) (p q : List Int) (b1 b2 : Nat) (w : World) (hp : Slc w b1 A n c p) (hq : Slc w b2 B n d q) (hn : n ≤ 20) (z : Bool) (hz : Hid (lessP p q = z)) :
    Calls Try.prog 31 #[.slice A n c, .slice B n d] w fun e w' => e = .returned (.bool z) ∧ Below w.heap.size w w' :=
  (implPermutationLess A B c d n n p q w hp.ri_ hq.ri_ hp.hid hq.hid (by omega) (by omega)).mono fun e w' ⟨he, hb⟩ => ⟨he.trans (ret_bool hz.out), hb⟩
theorem lessTs (A B : Option Addr) (c d n : Nat) (p q : List Int) (b1 b2 : Nat) (w : World) (hp : Slc w b1 A n c p) (hq : Slc w b2 B n d q) (hn : n ≤ 20) (z : Bool) (hz : Hid (lessP p q = z)) :
    Calls Try.prog 35 #[.slice A n c, .slice B n d] w fun e w' => e = .returned (.bool z) ∧ Below w.heap.size w w' :=
  (specPermutationLess A B c d n n p q w hp.ri_ hq.ri_ hp.hid hq.hid (by omega) (by omega) hp.le.1 hq.le.1).mono fun e w' ⟨he, hb⟩ => ⟨he.trans (ret_bool hz.out), hb⟩
theorem signT (A : Option Addr) (c n : Nat) (p : List Int) (b1 : Nat) (w : World) (z : Int) (hp : Slc w b1 A n c p) (ip : Hid (IsP p)) (hz : Hid (sgn p = z)) :
    Calls Try.prog 33 #[.slice A n c] w fun e w' => e = .returned (.int .i64 z) ∧ Below w.heap.size w w' := by
  have hn : n ≤ 20 := by rw [← hp.1]; exact ip.out.le
  exact (implSign A c n p w hp.ri_ hp.hid (by omega)).mono fun e w' ⟨he, hb⟩ => ⟨he.trans (ret_int (by unfold signL; rw [if_pos (isP_iff.2 ip.out), hz.out])), hb⟩
theorem signTs (A : Option Addr) (c n : Nat) (p : List Int) (b1 : Nat) (w : World) (z : Int) (hp : Slc w b1 A n c p) (ip : Hid (IsP p)) (hz : Hid (sgn p = z)) :
    Calls Try.prog 34 #[.slice A n c] w fun e w' => e = .returned (.int .i64 z) ∧ Below w.heap.size w w' := by
  have hn : n ≤ 20 := by rw [← hp.1]; exact ip.out.le
  exact (specSign A c n p w hp.ri_ hp.hid (by omega) hp.le.1).mono fun e w' ⟨he, hb⟩ => ⟨he.trans (ret_int (by unfold signL; rw [if_pos (isP_iff.2 ip.out), hz.out])), hb⟩
theorem cycT (A : Option Addr) (c n : Nat) (p : List Int) (b1 : Nat) (w : World) (hp : Slc w b1 A n c p) (ip : Hid (IsP p)) :
    Calls Try.prog 29 #[.slice A n c] w fun e w' => ∃ A' m c' vs, e = .returned (.slice A' m c') ∧ SS w' w.heap.size w.heap.size A' m c' vs ((longH p).map (cyc p)) ∧ m ≤ 20 ∧ Below w.heap.size w w' := by
  have hn : n ≤ 20 := by rw [← hp.1]; exact ip.out.le
  refine (implCycles A c n p w hp.ri_ hp.hid (by omega)).mono ?_
  rintro e w' ⟨A', m, c', vs, rfl, s, hm, b⟩
  have hc : cyclesL p = (longH p).map (cyc p) := by unfold cyclesL; rw [if_pos (isP_iff.2 ip.out), cycl_longH]
  rw [hc] at s
  exact ⟨A', m, c', vs, rfl, s, hm, b⟩
theorem sgn_pm (p : List Int) : sgn p = 1 ∨ sgn p = -1 := by unfold sgn; split <;> simp
/-- What is known of the i-th long cycle. -/
theorem longH_at {p : List Int} (h : IsP p) {i x : Nat} (hi : i < (longH p).length) (e : (longH p).getD i 0 = x) : x < p.length ∧ st p x = true ∧ 1 < per p x := by
  have hm : x ∈ longH p := by rw [← e, List.getD_eq_getElem?_getD, List.getElem?_eq_getElem hi]; exact List.getElem_mem hi
  unfold longH at hm
  rw [List.mem_filter, List.mem_filter, List.mem_range] at hm
  exact ⟨hm.1.1, hm.1.2, by simpa using hm.2⟩
def lenSum (p : List Int) (i : Nat) : Nat := (((longH p).take i).map (per p)).sum
theorem lenSum_succ {p : List Int} {i x : Nat} (hi : i < (longH p).length) (e : (longH p).getD i 0 = x) : lenSum p (i + 1) = lenSum p i + per p x := by
  unfold lenSum
  rw [List.take_succ_eq_append_getElem hi, List.map_append, List.sum_append]
  have : (longH p)[i] = x := by rw [← e, List.getD_eq_getElem?_getD, List.getElem?_eq_getElem hi]; rfl
  simp [this]
theorem lenSum_le {p : List Int} (h : IsP p) : ∀ i, i ≤ (longH p).length → lenSum p i ≤ 20 * i := by
  intro i
  induction i with
  | zero => intro _; simp [lenSum]
  | succ i ih =>
    intro hi
    have h1 := lenSum_succ (p := p) (i := i) (by omega) rfl
    have h2 := longH_at h (i := i) (by omega) rfl
    have h3 := (per_spec h h2.1).2.1
    have := ih (by omega)
    have := h.le
    omega
theorem lenSum_all {p : List Int} (h : IsP p) {M : Nat} (hM : (longH p).length = M) : lenSum p M = (supp p).length := by
  rw [← moved_count h, cycl_longH]
  unfold lenSum
  rw [List.take_of_length_le (by omega), List.map_map]
  congr 1
  refine List.map_congr_left fun x _ => ?_
  simp [cyc_length]
end Go.Proofs.Ytopaeojcpidfgaa
