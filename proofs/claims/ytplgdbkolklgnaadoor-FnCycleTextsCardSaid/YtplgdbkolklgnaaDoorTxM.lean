/- The texts of permutations: their lengths; what is read back of them. Pure. -/
import Derived.Test.YtplgdbkolklgnaaDoorPCyP
import Derived.Test.YtplgdbkolklgnaaDoorTypM
import Derived.Test.YtplgdbkolklgnaaDoorOrb
import Derived.Test.YtplgdbkolklgnaaDoorFmtI
namespace Go.Proofs.YtplgdbkolklgnaaDoor
open Go.RowKit

def flat (p : List Int) : List Nat := (heads p p.length).flatMap fun h => (List.range (per p h)).map fun k => it p k h
theorem flat_perm {p : List Int} (h : IsP p) : (flat p).Perm (List.range p.length) := by
  rw [List.perm_ext_iff_of_nodup]
  · intro x
    unfold flat
    rw [List.mem_flatMap, List.mem_range]
    constructor
    · rintro ⟨c, hc, hx⟩
      rw [List.mem_map] at hx
      obtain ⟨k, _, rfl⟩ := hx
      exact it_lt h (List.mem_range.1 (List.mem_filter.1 hc).1) k
    · intro hx
      obtain ⟨c, j, hc, hst, hj, e⟩ := min_ex h hx
      exact ⟨c, List.mem_filter.2 ⟨List.mem_range.2 hc, hst⟩, List.mem_map.2 ⟨j, List.mem_range.2 hj, e⟩⟩
  · unfold flat List.Nodup
    rw [List.pairwise_flatMap]
    constructor
    · intro c hc
      have hcl := List.mem_range.1 (List.mem_filter.1 hc).1
      rw [List.pairwise_map, List.pairwise_iff_getElem]
      intro i j hi hj hij e
      simp only [List.length_range] at hi hj
      simp only [List.getElem_range] at e
      have h1 := per_spec h hcl
      have e2 : it p i (it p (j - i) c) = it p i c := by rw [← it_add, e]; congr 1; omega
      exact h1.2.2.2 (j - i) (by omega) (by omega) (it_inj h (it_lt h hcl _) hcl i e2)
    · have hnd : (heads p p.length).Nodup := (List.nodup_range).filter _
      refine hnd.imp_of_mem ?_
      intro a b ha hb hab x hx y hy e
      unfold heads at ha hb
      rw [List.mem_filter, List.mem_range] at ha hb
      rw [List.mem_map] at hx hy
      obtain ⟨k, _, rfl⟩ := hx
      obtain ⟨k', _, e'⟩ := hy
      exact hab (head_eq h ha.1 hb.1 ha.2 hb.2 (e.trans e'.symm))
  · exact List.nodup_range
theorem lens_sum {p : List Int} (h : IsP p) : (lens p).sum = p.length := by
  have := (flat_perm h).length_eq
  rw [List.length_range] at this
  rw [← this, lens_heads]
  unfold flat
  rw [List.length_flatMap]
  congr 1
  refine List.map_congr_left fun x _ => ?_
  simp
theorem cycs_pts {p : List Int} (h : IsP p) : ∀ c ∈ cycs p, Pts c := by
  intro c hc
  rw [cycs_heads, List.mem_map] at hc
  obtain ⟨x, hx, rfl⟩ := hc
  have hxl : x < p.length := List.mem_range.1 (List.mem_filter.1 hx).1
  have hs := per_spec h hxl
  have hle := h.le
  intro z hz
  unfold cyc at hz
  rw [List.mem_map] at hz
  obtain ⟨k, _, rfl⟩ := hz
  have := it_lt h hxl k
  omega
theorem fmtCs_filter : ∀ (cs : List (List Int)), (∀ c ∈ cs, Pts c) → (fmtCs (cs.filter fun c => decide (1 < c.length))).length ≤ 4 * (cs.map List.length).sum := by
  intro cs
  induction cs with
  | nil => intro _; simp [fmtCs]
  | cons c cs ih =>
    intro h
    have h1 := ih fun d hd => h d (List.mem_cons_of_mem _ hd)
    rw [List.filter_cons, List.map_cons, List.sum_cons]
    by_cases hc : 1 < c.length
    · rw [if_pos (by simpa using hc), fmtCs_cons]
      have h2 := fmtI_len (h c List.mem_cons_self)
      simp only [List.length_append, List.length_cons, List.length_nil]
      omega
    · rw [if_neg (by simpa using hc)]; omega
theorem fmtCyc_short {p : List Int} (hp : IsP p) : (fmtCyc p).length ≤ 82 := by
  unfold fmtCyc
  rw [if_pos (isP_iff.2 hp)]
  split
  · simp
  · have h1 := fmtCs_filter (cycs p) (fun c hc => cycs_pts hp c hc)
    have h2 : ((cycs p).map List.length).sum = p.length := lens_sum hp
    have h3 := hp.le
    unfold cycl
    omega
theorem fmtCyc_len (p : List Int) : (fmtCyc p).length ≤ 82 := by
  by_cases h : fmtCyc p = []
  · rw [h]; simp
  · exact fmtCyc_short (fmtCyc_ne h)
theorem imgO_back {p : List Int} {t : ByteArray} (hp : IsP p) (ht : t.toList = fmtImg p) : imgO t = some p := by
  have e : fmtImg p = fmtI p := if_pos (isP_iff.2 hp)
  have hl := fmtI_len (isP_pts hp)
  have hs : t.size ≤ 200 := by
    have h1 := len_toList t
    rw [ht, e] at h1
    have := hp.le
    omega
  have hne : p ≠ [] := by intro e2; have := hp.pos; rw [e2] at this; simp at this
  unfold imgO
  rw [if_pos hs, ht, e, wordsP_fmt (isP_pts hp) hne]
  have ho : ofN (p.map Int.toNat) = p := (toNat_pts (isP_pts hp)).2
  unfold permO
  simp only [ho, isP_iff.2 hp, if_true]
theorem cycO_back {p : List Int} {t : ByteArray} (hp : IsP p) (ht : t.toList = fmtCyc p) : cycO (p.length : Int) t = some p := by
  have h1 := len_toList t
  rw [ht] at h1
  have h2 := fmtCyc_len p
  refine (cycO_wr ⟨by have := hp.pos; omega, by have := hp.le; omega, by omega⟩ p).2 ⟨hp, by simp, ht.symm⟩
theorem cycO_text {n : Int} {s : ByteArray} {p : List Int} (h : cycO n s = some p) : fmtCyc p = s.toList := by
  by_cases hr : 1 ≤ n ∧ n ≤ 20 ∧ s.size ≤ 200
  · exact ((cycO_wr hr p).1 h).2.2
  · rw [cycO_out hr] at h; cases h
end Go.Proofs.YtplgdbkolklgnaaDoor
