/- Plain facts: the cycles part the points. No Go in it. Condition: the list is a permutation. -/
import Derived.Test.YtplgdbkolklgnaaDoorAll
namespace Go.Proofs.YtplgdbkolklgnaaDoor

theorem st_iff {p : List Int} (h : IsP p) {y : Nat} (hy : y < p.length) : st p y = true ↔ ∀ k, y ≤ it p k y := by
  unfold st
  rw [List.all_eq_true]
  constructor
  · intro hs k
    rw [it_mod h hy k]
    have := hs (k % per p y) (List.mem_range.2 (Nat.mod_lt _ (per_spec h hy).1))
    simpa using this
  · intro hs k _
    simpa using hs k
theorem surj {p : List Int} (h : IsP p) {j : Nat} (hj : j < p.length) : ∃ x, x < p.length ∧ nx p x = j := by
  obtain ⟨h1, _, h3, _⟩ := per_spec h hj
  refine ⟨it p (per p j - 1) j, it_lt h hj _, ?_⟩
  have : it p (per p j - 1 + 1) j = j := by rw [show per p j - 1 + 1 = per p j from by omega]; exact h3
  exact this
/-- The number of cycles. -/
theorem head_eq {p : List Int} (h : IsP p) {x y a b : Nat} (hx : x < p.length) (hy : y < p.length) (sx : st p x = true) (sy : st p y = true) (e : it p a x = it p b y) : x = y := by
  have lo : ∀ {u v c d : Nat}, u < p.length → v < p.length → st p u = true → it p c u = it p d v → u ≤ v := by
    intro u v c d hu hv su e
    have hv1 := per_spec h hv
    -- v is an iterate of u
    have : ∃ k, it p k u = v := by
      refine ⟨(per p v - d % per p v) + c, ?_⟩
      rw [it_add, e, ← it_add, it_mod h hv]
      have : (per p v - d % per p v + d) % per p v = 0 := by
        have h1 := Nat.mod_lt d (show 0 < per p v by omega)
        have h2 := Nat.div_add_mod d (per p v)
        have h3 : per p v - d % per p v + d = per p v * (d / per p v + 1) := by
          rw [Nat.mul_add, Nat.mul_one]; omega
        rw [h3]; exact Nat.mul_mod_right _ _
      rw [this]; rfl
    obtain ⟨k, ek⟩ := this
    have := (st_iff h hu).1 su k
    omega
  have h1 := lo hx hy sx e
  have h2 := lo hy hx sy e.symm
  omega
def longH (p : List Int) : List Nat := ((List.range p.length).filter (st p)).filter fun h => decide (1 < per p h)
theorem cycl_longH (p : List Int) : cycl p = (longH p).map (cyc p) := by
  unfold cycl longH cycs
  rw [List.filter_map]
  congr 1
  refine List.filter_congr fun x _ => ?_
  simp [cyc_length]
theorem sum_cycl (p : List Int) : ((cycl p).map List.length).sum = ((longH p).flatMap fun h => (List.range (per p h)).map fun k => it p k h).length := by
  rw [List.length_flatMap, cycl_longH, List.map_map]
  congr 1
  refine List.map_congr_left fun x _ => ?_
  simp [cyc_length]
theorem moved_count {p : List Int} (h : IsP p) : ((cycl p).map List.length).sum = (supp p).length := by
  rw [sum_cycl]
  unfold supp
  rw [List.length_map]
  apply List.Perm.length_eq
  rw [List.perm_ext_iff_of_nodup]
  · intro x
    rw [List.mem_flatMap, List.mem_filter, List.mem_range]
    constructor
    · rintro ⟨c, hc, hx⟩
      rw [List.mem_map] at hx
      obtain ⟨k, _, rfl⟩ := hx
      unfold longH at hc
      rw [List.mem_filter, List.mem_filter, List.mem_range] at hc
      obtain ⟨⟨hcl, hst⟩, hp⟩ := hc
      have hxl := it_lt h hcl k
      refine ⟨hxl, ?_⟩
      rw [bne_iff_ne, nx_val h hxl]
      intro e
      have h1 := per_spec h hxl
      rw [per_it h hcl k] at h1
      exact h1.2.2.2 1 (Nat.le_refl _) (by simpa using hp) (by show nx p (it p k c) = _; omega)
    · rintro ⟨hx, hm⟩
      obtain ⟨c, j, hc, hst, hj, e⟩ := min_ex h hx
      refine ⟨c, ?_, List.mem_map.2 ⟨j, List.mem_range.2 hj, e⟩⟩
      unfold longH
      rw [List.mem_filter, List.mem_filter, List.mem_range]
      refine ⟨⟨hc, hst⟩, ?_⟩
      have h1 := per_spec h hx
      rw [← e, per_it h hc j] at h1
      rw [decide_eq_true_eq]
      rw [bne_iff_ne, nx_val h hx] at hm
      rcases Nat.lt_or_ge 1 (per p c) with h2 | h2
      · exact h2
      · have h3 : per p c = 1 := by omega
        have h4 := h1.2.2.1
        rw [h3, e] at h4
        have h5 : nx p x = x := h4
        omega
  · unfold List.Nodup
    rw [List.pairwise_flatMap]
    constructor
    · intro c hc
      unfold longH at hc
      rw [List.mem_filter, List.mem_filter, List.mem_range] at hc
      have hcl := hc.1.1
      rw [List.pairwise_map, List.pairwise_iff_getElem]
      intro i j hi hj hij e
      simp only [List.length_range] at hi hj
      simp only [List.getElem_range] at e
      have h1 := per_spec h hcl
      have e2 : it p i (it p (j - i) c) = it p i c := by rw [← it_add, e]; congr 1; omega
      exact h1.2.2.2 (j - i) (by omega) (by omega) (it_inj h (it_lt h hcl _) hcl i e2)
    · have hnd : (longH p).Nodup := ((List.nodup_range).filter _).filter _
      refine hnd.imp_of_mem ?_
      intro a b ha hb hab x hx y hy e
      unfold longH at ha hb
      rw [List.mem_filter, List.mem_filter, List.mem_range] at ha hb
      rw [List.mem_map] at hx hy
      obtain ⟨k, _, rfl⟩ := hx
      obtain ⟨k', _, e'⟩ := hy
      exact hab (head_eq h ha.1.1 hb.1.1 ha.1.2 hb.1.2 (e.trans e'.symm))
  · exact (List.nodup_range).filter _

end Go.Proofs.YtplgdbkolklgnaaDoor
