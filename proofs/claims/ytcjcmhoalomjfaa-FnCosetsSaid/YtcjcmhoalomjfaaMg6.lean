/- Part 6 of the texts: CoM, SbB, WalkD6, PsB. No condition of its own: each text tells its own. -/
import Derived.Test.YtcjcmhoalomjfaaMg4
import Derived.Test.YtcjcmhoalomjfaaMg3
import Derived.Test.YtcjcmhoalomjfaaMg2
import Derived.Test.YtcjcmhoalomjfaaMg5
set_option linter.unusedVariables false
set_option linter.unusedSimpArgs false

/- The smallest member of a coset, entry by entry; the derived subgroup by a list of what waits. No Go in it. No condition. -/
namespace Go.Proofs.Ytcjcmhoalomjfaa
open Go.RowKit

section
variable {N k y i : Nat} {gs W C hs : List (List Int)} {c : Ch} {p m : List Int}
/-- m lies in the coset of p; its first k entries are as small as those before them allow. -/
def GrC (N : Nat) (gs : List (List Int)) (p m : List Int) (k : Nat) : Prop := Cos (Mb gs N) p m ∧ ∀ i, i < k → ∀ q, Cos (Mb gs N) p q → Ag i q m → nx m i ≤ nx q i
theorem GrC.zero (hg : ∀ g ∈ gs, Pn N g) (hp : Pn N p) : GrC N gs p p 0 := ⟨cos_refl (sgp_mb hg hp.pos.1 hp.pos.2) hp, fun i hi => absurd hi (by omega)⟩
theorem GrC.top (h : GrC N gs p m N) : CMin N (Mb gs N) p m := ⟨h.1, fun q hq ⟨t, ht, ha, hl⟩ => by have := h.2 t ht q hq ha; omega⟩
theorem GrC.pn (h : GrC N gs p m k) (hg : ∀ g ∈ gs, Pn N g) (hp : Pn N p) : Pn N m := h.1.pn (sgp_mb hg hp.pos.1 hp.pos.2) hp
theorem GrC.step (h : GrC N gs p m k) (hw : Whole N gs c) (hg : ∀ g ∈ gs, Pn N g) (hp : Pn N p) (hk : k < N) (hr : c.rep k y ≠ []) (hmin : ∀ y', y' < N → c.rep k y' ≠ [] → nx m y ≤ nx m y') : GrC N gs p (compL (c.rep k y) m) (k + 1) := by
  obtain ⟨h1, h2⟩ := hp.pos
  have hH := sgp_mb hg h1 h2
  have pm := h.pn hg hp
  obtain ⟨a1, a2, a3, a4⟩ := hw.rep_mb h1 h2 hk hr
  have pr := a1.pn hg h1 h2
  have hA : ∀ t, t < k → nx (compL (c.rep k y) m) t = nx m t := fun t ht => by rw [pr.nxc (by omega), a2 t ht]
  refine ⟨h.1.trans hH ⟨_, a1, rfl⟩, fun i hi q hq ha => ?_⟩
  rcases Nat.lt_or_ge i k with hl | hl
  · rw [hA i hl]
    exact h.2 i hl q hq fun t ht => (ha t ht).trans (hA t (by omega))
  · obtain rfl : i = k := by omega
    obtain ⟨g, gm, e⟩ := (h.1.symm hH hp).trans hH hq
    have pg := gm.pn hg h1 h2
    have hf : Fx i g := fun t ht => by
      have h3 := (ha t ht).trans (hA t ht)
      rw [e, pg.nxc (by omega)] at h3
      exact pm.inj (pg.lt (by omega)) (by omega) h3
    have h4 := hmin (nx g i) (pg.lt hk) ((hw.rep_iff h1 h2 hk).2 ⟨g, gm, hf, rfl⟩)
    rw [pr.nxc hk, a3, e, pg.nxc hk]
    exact h4

/-- What waits: the first i are in what hs generates; the conjugates of hs by the generators wait too. -/
structure Dv (N : Nat) (gs C W hs : List (List Int)) (i : Nat) : Prop where
  mem : ∀ s ∈ W, Drv N (Mb gs N) s
  sub : ∀ s ∈ hs, Drv N (Mb gs N) s
  done : ∀ t, t < i → Mb hs N (W.getD t [])
  conj : ∀ s ∈ hs, ∀ g ∈ gs, cj g s ∈ W
  ini : ∀ s ∈ C, s ∈ W
  len : W.length ≤ 64 + 8 * hs.length
  two : ∀ v, Crd (Mb hs N) v → 2 ^ hs.length ≤ v
theorem Dv.start (hC : ∀ s ∈ C, Drv N (Mb gs N) s) (hl : C.length ≤ 64) : Dv N gs C C [] 0 :=
  ⟨hC, fun s hs => (by cases hs), fun t ht => absurd ht (by omega), fun s hs => (by cases hs), fun s hs => hs, (by simpa using hl), fun v hv => by
    have := crd_sub (crd_one (idL N)) hv fun x hx => by subst hx; exact .one
    simpa using this⟩
theorem mb_more (hs' : ∀ s ∈ hs, s ∈ W) (h : Mb hs N p) : Mb W N p := by
  induction h with
  | one => exact .one
  | mul _ hm ih => exact .mul ih (hs' _ hm)
theorem Dv.skip (h : Dv N gs C W hs i) (hm : Mb hs N (W.getD i [])) : Dv N gs C W hs (i + 1) :=
  ⟨h.mem, h.sub, fun t ht => by
    rcases Nat.lt_or_ge t i with hl | hl
    · exact h.done t hl
    · obtain rfl : t = i := by omega
      exact hm, h.conj, h.ini, h.len, h.two⟩
theorem Dv.pn (h : Dv N gs C W hs i) (hg : ∀ g ∈ gs, Pn N g) (h1 : 1 ≤ N) (h2 : N ≤ 20) : ∀ s ∈ W, Pn N s := fun s hs' => (sgp_mb hg h1 h2).drv.pn s (h.mem s hs')
theorem Dv.pnh (h : Dv N gs C W hs i) (hg : ∀ g ∈ gs, Pn N g) (h1 : 1 ≤ N) (h2 : N ≤ 20) : ∀ s ∈ hs, Pn N s := fun s hs' => (sgp_mb hg h1 h2).drv.pn s (h.sub s hs')
theorem crd_mb (hg : ∀ g ∈ gs, Pn N g) (h1 : 1 ≤ N) (h2 : N ≤ 20) : ∃ V, Crd (Mb gs N) V ∧ 1 ≤ V ∧ V ≤ 2432902008176640000 := by
  classical
  have hx : IsOS N gs ((List.range N).map fun i => (((List.range N).filter fun y => decide (∃ p, Mb gs N p ∧ Fx i p ∧ nx p i = y)).length : Int)) := ⟨by simp, fun i hi => ⟨(List.range N).filter fun y => decide (∃ p, Mb gs N p ∧ Fx i p ∧ nx p i = y), List.nodup_range.filter _, fun y => by rw [List.mem_filter, List.mem_range, decide_eq_true_eq], by
    rw [List.getD_eq_getElem?_getD, List.getElem?_map, List.getElem?_range hi]; rfl⟩⟩
  obtain ⟨V, hV, e⟩ := hx.order hg h1 h2
  have hp := hx.pr_le hg h1 h2 0 N (by omega)
  have hf := facts_le h2 (0 + N) (by omega)
  rw [prodL_pr, hx.1] at e
  exact ⟨V, hV, by omega, by omega⟩
theorem Dv.add (h : Dv N gs C W hs i) (hg : ∀ g ∈ gs, Pn N g) (h1 : 1 ≤ N) (h2 : N ≤ 20) (hn : gs.length ≤ 8) (hi : i < W.length) (hp : W.getD i [] = p) (hm : ¬ Mb hs N p) : Dv N gs C (W ++ gs.map fun g => cj g p) (hs ++ [p]) (i + 1) := by
  have hG := sgp_mb hg h1 h2
  have hpW : p ∈ W := by rw [← hp, List.getD_eq_getElem?_getD, List.getElem?_eq_getElem hi]; exact List.getElem_mem _
  have hd := h.mem p hpW
  have pp := hG.drv.pn p hd
  have hh := h.pnh hg h1 h2
  have hh' : ∀ s ∈ hs ++ [p], Pn N s := fun s hs' => by
    rcases List.mem_append.1 hs' with hs' | hs'
    · exact hh s hs'
    · rw [List.mem_singleton.1 hs']; exact pp
  have hle : ∀ q, Mb hs N q → Mb (hs ++ [p]) N q := fun q hq => mb_more (fun s hs' => List.mem_append_left _ hs') hq
  have hpm : Mb (hs ++ [p]) N p := .of pp (by simp)
  refine ⟨fun s hs' => ?_, fun s hs' => ?_, fun t ht => ?_, fun s hs' g hgm => ?_, fun s hs' => List.mem_append_left _ (h.ini s hs'), ?_, fun v hv => ?_⟩
  · rcases List.mem_append.1 hs' with hs' | hs'
    · exact h.mem s hs'
    · obtain ⟨g, hgm, rfl⟩ := List.mem_map.1 hs'
      exact drv_nrm hG hd (.of (hg g hgm) hgm)
  · rcases List.mem_append.1 hs' with hs' | hs'
    · exact h.sub s hs'
    · rw [List.mem_singleton.1 hs']; exact hd
  · have e : (W ++ gs.map fun g => cj g p).getD t [] = W.getD t [] := by
      rw [List.getD_eq_getElem?_getD, List.getElem?_append_left (by omega), ← List.getD_eq_getElem?_getD]
    rw [e]
    rcases Nat.lt_or_ge t i with hl | hl
    · exact hle _ (h.done t hl)
    · obtain rfl : t = i := by omega
      rw [hp]; exact hpm
  · rcases List.mem_append.1 hs' with hs' | hs'
    · exact List.mem_append_left _ (h.conj s hs' g hgm)
    · rw [List.mem_singleton.1 hs']
      exact List.mem_append_right _ (List.mem_map.2 ⟨g, hgm, rfl⟩)
  · have := h.len
    rw [List.length_append, List.length_append, List.length_map]; simp; omega
  · obtain ⟨u, hu, _⟩ := crd_mb hh h1 h2
    have h3 := dbl (sgp_mb hh' h1 h2) (sgp_mb hh h1 h2) hle hv hu hpm hm
    have h4 := h.two u hu
    rw [List.length_append, List.length_singleton, Nat.pow_succ]
    omega
theorem Dv.few (h : Dv N gs C W hs i) (hg : ∀ g ∈ gs, Pn N g) (h1 : 1 ≤ N) (h2 : N ≤ 20) : hs.length ≤ 61 ∧ W.length ≤ 600 := by
  obtain ⟨u, hu, _, hu2⟩ := crd_mb (h.pnh hg h1 h2) h1 h2
  have h3 := h.two u hu
  have h4 : hs.length < 62 := (Nat.pow_lt_pow_iff_right (a := 2) (by omega)).1 (by
    have : (2 : Nat) ^ 62 = 4611686018427387904 := by decide
    omega)
  have := h.len
  exact ⟨by omega, by omega⟩
/-- At the end: the derived subgroup. -/
theorem Dv.fin (h : Dv N gs C W hs W.length) (hg : ∀ g ∈ gs, Pn N g) (h1 : 1 ≤ N) (h2 : N ≤ 20) (hC : ∀ p ∈ gs, ∀ q ∈ gs, cmt p q ∈ C ∨ cmt q p ∈ C ∨ p = q) : ∀ p, Mb hs N p ↔ Drv N (Mb gs N) p := fun p => by
  have hh := h.pnh hg h1 h2
  have all : ∀ s ∈ W, Mb hs N s := fun s hs' => by
    obtain ⟨t, ht, rfl⟩ := List.mem_iff_getElem.1 hs'
    have := h.done t ht
    rwa [List.getD_eq_getElem?_getD, List.getElem?_eq_getElem ht] at this
  refine drv_gens hg h1 h2 h.sub (fun s hs' g hgm => all _ (h.conj s hs' g hgm)) fun a ha b hb => ?_
  rcases hC a ha b hb with e | e | e
  · exact all _ (h.ini _ e)
  · have := (all _ (h.ini _ e)).inv hh h1 h2
    rwa [cmt_inv (hg b hb) (hg a ha)] at this
  · subst e
    rw [(cmt_one (hg a ha) (hg a ha)).2 rfl]
    exact .one
theorem cmt_cj {q : List Int} (hp : Pn N p) (hq : Pn N q) : compL (iv p) (cj q p) = cmt p q := by
  show compL (iv p) (compL (compL (iv q) p) q) = compL (compL (iv p) (iv q)) (compL p q)
  rw [hq.iv.assoc hp, hp.iv.assoc hq.iv]
theorem ctr_gens (hg : ∀ g ∈ gs, Pn N g) (h1 : 1 ≤ N) (h2 : N ≤ 20) : Ctr (Mb gs N) p ↔ Mb gs N p ∧ ∀ g ∈ gs, compL p g = compL g p := by
  constructor
  · exact fun h => ⟨h.1, fun g hgm => h.2 g (.of (hg g hgm) hgm)⟩
  · rintro ⟨hp, h⟩
    have pp := hp.pn hg h1 h2
    refine ⟨hp, fun q hq => ?_⟩
    induction hq with
    | one => rw [pp.idl, pp.idr]
    | mul hq' hm ih =>
      have pq := hq'.pn hg h1 h2
      have pg := hg _ hm
      rw [← pp.assoc pq, ih, pq.assoc pp, h _ hm, ← pq.assoc pg]
theorem abl_iff (hg : ∀ g ∈ gs, Pn N g) (h1 : 1 ≤ N) (h2 : N ≤ 20) : Abl (Mb gs N) ↔ ∀ p ∈ gs, ∀ q ∈ gs, compL p q = compL q p :=
  ⟨fun h p hp q hq => h p q (.of (hg p hp) hp) (.of (hg q hq) hq), abl_gens hg h1 h2⟩
theorem nrm_iff (hg : ∀ g ∈ gs, Pn N g) (hh : ∀ s ∈ hs, Pn N s) (h1 : 1 ≤ N) (h2 : N ≤ 20) : Nrm (Mb gs N) (Mb hs N) ↔ ∀ s ∈ hs, ∀ g ∈ gs, Mb hs N (cj g s) :=
  ⟨fun h s hs' g hgm => h s g (.of (hh s hs') hs') (.of (hg g hgm) hgm), nrm_gens hg hh h1 h2⟩
/-- How many of the first k are so. -/
def cnP (f : List Int → Bool) (l : List (List Int)) (k : Nat) : Nat := (l.take k).countP f
theorem cnP_succ {f : List Int → Bool} {l : List (List Int)} {k : Nat} {y : List Int} (hk : k < l.length) (ey : l.getD k [] = y) : cnP f l (k + 1) = cnP f l k + if f y = true then 1 else 0 := by
  rw [List.getD_eq_getElem?_getD, List.getElem?_eq_getElem hk] at ey
  have e' : l[k] = y := ey
  unfold cnP
  rw [List.take_succ_eq_append_getElem hk, List.countP_append, e']
  simp [List.countP_cons]
theorem cnP_le (f : List Int → Bool) (l : List (List Int)) (k : Nat) : cnP f l k ≤ l.length := Nat.le_trans List.countP_le_length (by rw [List.length_take]; omega)
theorem IsMbs.ctr {a : Int} {gs l : List (List Int)} {f : List Int → Bool} (h : IsMbs a gs l) (hf : Few a gs) (hc : ∀ p, Mb gs a.toNat p → (f p = true ↔ Ctr (Mb gs a.toNat) p)) : IsCtr a gs (cnP f l l.length : Nat) := by
  rcases h with ⟨_, hs, hm⟩ | ⟨hn, _⟩
  · refine .inl ⟨hf, _, ⟨l.filter f, (lx_nodup hs).filter _, fun p => ?_, ?_⟩, rfl⟩
    · rw [List.mem_filter, hm]
      exact ⟨fun ⟨a, b⟩ => (hc p a).1 b, fun h => ⟨h.1, (hc p h.1).2 h⟩⟩
    · unfold cnP; rw [List.take_length, List.countP_eq_length_filter]
  · exact absurd hf hn
end
end Go.Proofs.Ytcjcmhoalomjfaa

/- cosetMinimum and CosetMinimum of the model. Conditions: at most 1048576 lists of at most 1048576 numbers. -/
namespace Go.Proofs.Ytcjcmhoalomjfaa
open Go.RowKit

set_option maxHeartbeats 4000000 in
set_option maxRecDepth 100000 in
theorem specCosMin (base g N cp : Nat) (A : Option Addr) (c : Ch) (L : LY) (gs : List (List Int)) (p : List Int) (w : World) (hc : Cn w base g N c L) (hw : Whole N gs c) (hp : RI w w.heap.size A p) (hP : Hid (Pn N p)) (hN1 : 1 ≤ N) (hN : N ≤ 20) (hg : Hid (∀ g ∈ gs, Pn N g)) :
    Calls Try.prog 64 #[.pointer (some ⟨g, 0, none⟩), .slice A N cp] w fun e w' => ∃ A' c' m, e = .returned (.slice A' N c') ∧ Slc w' w.heap.size A' N c' m ∧ CMin N (Mb gs N) p m ∧ Below w.heap.size w w' := by
  have HC := Lib.hid hc
  have HW := Lib.hid hw
  have HP := Lib.hid hp
  clear hc hw hp
  go_enter Try.func64, Try.ntmps64
  go_wp2_with fail
  refine (copyAny A N cp p w HP.out (Lib.hid hP.out.2) (by omega)).mono ?_
  rintro e w1 ⟨A1, c1, rfl, s1, b1⟩
  have S1 := Lib.hid s1
  have B1 := Lib.hid b1
  clear s1 b1
  go_wp2_with fail
  go_loopw [5, 6] (fun v i wr => ∃ (k cc : Nat) (M : Option Addr) (m : List Int), k ≤ N ∧ i = .int .i64 (k : Nat) ∧ v = .slice M N cc ∧ Slc wr w.heap.size M N cc m ∧ GrC N gs p m k ∧ Below w.heap.size w wr) (fun _ i _ => N - (intOf i).toNat)
  case atStart => exact ⟨0, _, _, _, Nat.zero_le _, rfl, rfl, S1.out, .zero hg.out hP.out, B1.out⟩
  case round =>
    clear S1 B1
    obtain ⟨k, cc, M, m, hk, rfl, rfl, hs, hgr, bel⟩ := hrel
    have Ss := Lib.hid hs
    have Gr := Lib.hid hgr
    have Be := Lib.hid bel
    have C1 := Lib.hid (HC.out.up bel)
    have x0 := C1.out.c0
    have MP : Hid (Pn N m) := Lib.hid (hgr.pn hg.out hP.out)
    clear hs hgr bel
    by_cases hlt : k < N
    · go_wp2_with fail
      refine (specChoices base g N k cc M c L gs m wr C1.out HW.out Ss.out.ri_ MP hlt).mono ?_
      rintro e w2 ⟨g2, m2, c2, zs, rfl, s2, p2, o2, b2⟩
      have S2 := Lib.hid s2
      have P2 := Lib.hid p2
      have O2 := Lib.hid o2
      have Ss2 := Lib.hid (Ss.out.up b2)
      have C2 := Lib.hid (C1.out.up b2)
      have Be2 : Hid (Below w.heap.size w w2) := Lib.hid (btr Be.out b2)
      have hid0 : c.rep k k ≠ [] := by rw [(HW.out.up.rep k (Nat.zero_le _) hlt).one]; intro e; have := idL_length N; rw [e] at this; simp at this; omega
      have hid : (nx m k : Int) ∈ zs := P2.out.mem_iff.2 (chL_mem.2 ⟨k, hlt, hid0, rfl⟩)
      have hm2 : 0 < m2 := by
        rw [← s2.1]; exact List.length_pos_of_mem hid
      have hm3 : m2 ≤ 20 := by rw [← s2.1, p2.length_eq]; have := chL_len c k m N; omega
      obtain ⟨bz, oz, hzA, hzb, hzc⟩ := s2.ri_ (by rw [s2.1]; omega)
      have x5 := hzc 0 (by rw [s2.1]; omega)
      have ez : (some ⟨g2, 0, none⟩ : Option Addr) = some ⟨bz, oz, none⟩ := hzA
      injection ez with ez
      injection ez with e1 e2 _
      subst e1 e2
      obtain ⟨v0, ev0⟩ : ∃ v0, zs.getD 0 0 = v0 := ⟨_, rfl⟩
      rw [ev0] at x5
      have q0 : (0 : Int) < m2 := by omega
      have hin : v0 ∈ zs := by
        rw [← ev0, List.getD_eq_getElem?_getD, List.getElem?_eq_getElem (by rw [S2.out.1]; exact hm2)]
        exact List.getElem_mem _
      have hmin : ∀ u ∈ zs, v0 ≤ u := fun u hu => by
        obtain ⟨t, ht, e⟩ := List.mem_iff_getElem.1 hu
        have h0 := hm2
        rw [← S2.out.1] at h0
        rw [← ev0, List.getD_eq_getElem?_getD, List.getElem?_eq_getElem h0, ← e]
        show zs[0] ≤ zs[t]
        rcases Nat.eq_zero_or_pos t with rfl | hp
        · exact Int.le_refl _
        · exact (List.pairwise_iff_getElem.1 O2.out) 0 t h0 ht hp
      obtain ⟨y, hy, hr, hvy⟩ := chL_mem.1 (P2.out.mem_iff.1 hin)
      subst hvy
      have Gr2 : Hid (GrC N gs p (compL (c.rep k y) m) (k + 1)) := Lib.hid (Gr.out.step HW.out hg.out hP.out hlt hr fun y' hy' hr' => by
        have := hmin (nx m y' : Int) (P2.out.mem_iff.2 (chL_mem.2 ⟨y', hy', hr', rfl⟩))
        omega)
      have RP : Hid (Pn N (c.rep k y)) := Lib.hid ((HW.out.up.rep k (Nat.zero_le _) hlt).at_ y hr).2.1
      clear s2 p2 o2 b2 hzA hzb hzc ev0 hid hid0 x0 hin hmin hr
      go_wp2_with fail
      refine (specWithEntry base g N k (nx m y) y cc M c L m w2 C2.out Ss2.out.ri_ MP hlt hy (Lib.hid rfl) RP).mono ?_
      rintro e w3 ⟨A3, c3, rfl, s3, b3⟩
      have S3 : Hid (Slc w3 w.heap.size A3 N c3 (compL (c.rep k y) m)) := Lib.hid (s3.mono Be2.out.size)
      have Be3 : Hid (Below w.heap.size w w3) := Lib.hid (btr Be2.out b3)
      clear s3 b3
      go_wp2_with fail
      go_roundw
      case rel => exact ⟨k + 1, _, _, _, by omega, by go_num, rfl, S3.out, Gr2.out, Be3.out⟩
      case measure => simp [intOf]; omega
    · obtain rfl : k = N := by omega
      go_wp2_with fail
      go_ret
      exact ⟨_, _, m, rfl, Ss.out, Gr.out.top, Be.out⟩

set_option maxHeartbeats 4000000 in
set_option maxRecDepth 100000 in
theorem ctCmi : CtImsS 30 IsCmi := by
  intro a A n c vs xss P np cp p w g s ha
  have HX := Lib.hid g.rr
  have hlx : Hid (xss.length = n) := Lib.hid g.rr.lx
  have hn := g.hn
  have hl := Lib.hid g.hl
  have HP := Lib.hid s.ri
  have lp := Lib.hid s.lp
  have hnp := s.hn
  have hpc := s.hc
  clear g s
  go_enter Try.func30, Try.ntmps30
  go_wp2_with fail
  refine (specGS a A n c vs xss w HX.out hn hl ha).mono ?_
  rintro e w1 ⟨rfl, b1⟩
  have B1 := Lib.hid b1
  have hz1 := b1.size
  have S0 := Lib.hid (Slc.lit0 w1 w.heap.size hz1)
  clear b1
  rcases hs : gB a xss with _ | _
  · have Fin : Hid (IsCmi a xss p []) := Lib.hid (.inr ⟨fun h => (by have := h.1; rw [hs] at this; cases this), rfl⟩)
    clear hs
    go_wp2_with fail
    go_ret
    exact ⟨_, _, _, _, rfl, S0.out, Fin.out, B1.out.alloc hz1 _⟩
  · obtain ⟨N, rfl, hN1, hN2, hg8, hpm, hok⟩ := gB_pm hs
    have Hs := Lib.hid hs
    have Ok := Lib.hid hok
    have hn8 : n ≤ 8 := by rw [← hlx.out]; exact hg8
    clear hs hpm hok hg8 S0
    obtain ⟨ip, hip⟩ : ∃ ip, (decide (np = N) && isP p) = ip := ⟨_, rfl⟩
    have Hip := Lib.hid hip
    clear hip
    go_wp2_with fail
    refine (specIsPOf P np cp w1 N p ip (HP.out.up B1.out) lp (by omega) hpc Hip).mono ?_
    rintro e w2 ⟨rfl, b2⟩
    have B2 : Hid (Below w.heap.size w w2) := Lib.hid (btr B1.out b2)
    have hz2 := B2.out.size
    have S0 := Lib.hid (Slc.lit0 w2 w.heap.size hz2)
    clear b2
    rcases ip with _ | _
    · have Fin : Hid (IsCmi N xss p []) := Lib.hid (.inr ⟨fun h => (by
        have h1 := h.2.1
        have h3 := Hip.out
        rw [lp.out] at h1
        have h2 : np = N := by omega
        rw [h2, h.2.2] at h3; simp at h3), rfl⟩)
      go_wp2_with fail
      go_ret
      exact ⟨_, _, _, _, rfl, S0.out, Fin.out, B2.out.alloc hz2 _⟩
    · have h3 := Hip.out
      rw [Bool.and_eq_true, decide_eq_true_eq] at h3
      obtain ⟨rfl, hp1⟩ := h3
      have PP : Hid (Pn np p) := Lib.hid ⟨isP_iff.1 hp1, lp.out⟩
      have VP : Hid (Vld np xss p) := Lib.hid ⟨Hs.out, by rw [lp.out], hp1⟩
      clear hp1 S0
      go_wp2_with fail
      refine (specBuild np n c A vs xss w2 (HX.out.up B2.out) hN1 hN2 hn8 Ok).mono ?_
      rintro e w3 ⟨g, L, ch, rfl, hc, hw, b3⟩
      have W3 := Lib.hid hw
      have C3 := Lib.hid hc
      have B3 : Hid (Below w.heap.size w w3) := Lib.hid (btr B2.out b3)
      clear hc hw b3
      go_wp2_with fail
      refine (specCosMin w2.heap.size g np cp P ch L xss p w3 C3.out W3.out (HP.out.up B3.out) PP hN1 hN2 (Lib.hid Ok.out)).mono ?_
      rintro e w4 ⟨A4, c4, m4, rfl, s4, hm4, b4⟩
      have S4 := Lib.hid (s4.mono B3.out.size)
      have B4 : Hid (Below w.heap.size w w4) := Lib.hid (btr B3.out b4)
      have Fin : Hid (IsCmi np xss p m4) := Lib.hid (.inl ⟨VP.out, by rw [Int.toNat_natCast]; exact hm4⟩)
      clear s4 b4 hm4
      go_wp2_with fail
      go_ret
      exact ⟨_, _, _, _, rfl, S4.out, Fin.out, B4.out⟩
end Go.Proofs.Ytcjcmhoalomjfaa

/- The walk of the law FnExactCosetMinimum: it returns true at every input, and writes nothing that was there. No condition but the program's own contract. -/
namespace Go.Proofs.Ytcjcmhoalomjfaa
open Go.RowKit

set_option maxHeartbeats 4000000 in
set_option maxRecDepth 100000 in
/-- The law FnExactCosetMinimum. -/
theorem lawCosetMinimum (IM : CtImsS 27 IsCmi) (i0 : Int) (g1A : Option Addr) (g1n g1c : Nat) (g1v : List SV) (g1x : List (List Int)) (s2A : Option Addr) (s2n s2c : Nat) (s2x : List Int) (w : World) (wfi0 : I64 i0) (hg1 : RR w w.heap.size g1A g1n g1v g1x) (hmg1 : g1n ≤ maxLen) (hkg1 : Hid (∀ i, i < g1n → (g1v.getD i sd0).2.1 ≤ maxLen)) (hs2 : RI w w.heap.size s2A s2x) (ls2 : Hid (s2x.length = s2n)) :
    Calls Try.prog 9 #[.int .i64 i0, .slice g1A g1n g1c, .slice s2A s2n s2c] w fun e w' => e = .returned (.bool true) ∧ Below w.heap.size w w' := by
  have Hg1 := Lib.hid hg1
  have hlxg1 := Lib.hid hg1.lx
  have hllg1 := Lib.hid hg1.lens
  have Hs2 := Lib.hid hs2
  clear hg1 hs2
  by_cases hns2 : s2n ≤ 1048576
  · skip
    by_cases hT0 : ((g1n + tot g1v g1n : Nat) : Int) ≤ (1048576 : Int)
    · skip
      have HT0 := Lib.hid hT0
      obtain ⟨LE, eLE⟩ : ∃ L : Int, (1048576 : Int) - ((g1n + tot g1v g1n : Nat) : Int) = L := ⟨_, rfl⟩
      have hLE : ¬ LE < 0 := by omega
      have dLE : decide (LE < 0) = false := by simp; omega
      have ELE := Lib.hid eLE
      clear eLE
      have hng1 : g1n ≤ 1048576 := by omega
      have KTg1 : Hid (tot g1v g1n ≤ 1048576) := Lib.hid (by omega)
      have hlg1 : Hid (∀ i, i < g1n → (g1v.getD i sd0).2.1 ≤ 1048576) := Lib.hid fun i hi => by have := tot_row (vs := g1v) hi; have := KTg1.out; omega
      have hylg1 : Hid (∀ i, i < g1n → (g1x.getD i []).length ≤ 1048576) := Lib.hid fun i hi => by rw [hllg1.out i hi]; exact hlg1.out i hi
      clear hT0 
      go_enter Try.func9, Try.ntmps9
      go_wp2_with fail
      have K0 := szSS2 g1A g1n g1c 1048576 g1v g1x w Hg1.out hmg1 hkg1 (by decide) (by decide)
      refine K0.mono ?_
      rintro e w0 ⟨rfl, rfl⟩
      clear K0
      rw [if_pos HT0.out]
      rw [ELE.out]
      go_wp2_with fail
      refine (toSS g1A g1n g1c g1v g1x w Hg1.out hng1 hlg1).mono ?_
      rintro e w1 ⟨A1, c1, us1, rfl, s1, q1, b1⟩
      have Z1 : Hid (w.heap.size ≤ w1.heap.size) := Lib.hid b1.size
      have B1 : Hid (Below w.heap.size w w1) := Lib.hid b1
      have Ftg1_1 := Lib.hid s1
      have Ltg1 : Hid (Lies A1 g1n c1 w.heap.size w1.heap.size) := Lib.hid s1.lt_
      have Itg1 : Hid (∀ t, t < g1n → ∀ k, (sval (us1.getD t sd0)).ownBlock = some k → w.heap.size ≤ k ∧ k < w1.heap.size) := Lib.hid fun t ht => (s1.row t ht).lt_
      have Qtg1 := Lib.hid q1
      have hltg1 : Hid (∀ i, i < g1n → (us1.getD i sd0).2.1 ≤ 1048576) := Lib.hid fun i hi => by rw [q1 i hi]; exact hlg1.out i hi
      clear s1 b1 q1
      go_wp2_with fail
      refine (toS_any s2A s2c s2n s2x w1 (Hs2.out.up B1.out) ls2 (by omega)).mono ?_
      rintro e w2 ⟨A2, c2, rfl, s2, b2⟩
      have Z2 : Hid (w1.heap.size ≤ w2.heap.size) := Lib.hid b2.size
      have B2 : Hid (Below w.heap.size w w2) := Lib.hid (btr B1.out b2)
      have Ftg1_2 := Lib.hid (Ftg1_1.out.up b2)
      clear Ftg1_1
      have Fts2_2 := Lib.hid s2
      have Lts2 : Hid (Lies A2 s2n c2 w1.heap.size w2.heap.size) := Lib.hid s2.lies
      have lets2 := s2.le.1
      clear s2 b2
      go_wp2_with fail
      have K3 := ctCmi i0 A1 g1n c1 us1 g1x A2 s2n c2 s2x w2 ⟨Ftg1_2.out.rr, hng1, hltg1.out⟩ ⟨Fts2_2.out.ri_, ls2.out, hns2, lets2⟩ wfi0
      refine K3.mono ?_
      clear K3
      rintro e w3 ⟨A3, n3, c3, z3, rfl, s3, r3, b3⟩
      have m3 : n3 ≤ 1048576 := by have := IsCmi.len r3; have := s3.1; omega
      have Z3 : Hid (w2.heap.size ≤ w3.heap.size) := Lib.hid b3.size
      have B3 : Hid (Below w.heap.size w w3) := Lib.hid (btr B2.out b3)
      have Ftg1_3 := Lib.hid (Ftg1_2.out.up b3)
      clear Ftg1_2
      have Fts2_3 := Lib.hid (Fts2_2.out.up b3)
      clear Fts2_2
      have HR := Lib.hid r3
      clear r3
      have FW_3 := Lib.hid s3
      have LW : Hid (Lies A3 n3 c3 w2.heap.size w3.heap.size) := Lib.hid s3.lies
      clear s3 b3
      clear Ftg1_3
      clear Fts2_3
      go_wp2_with fail
      refine (toSS g1A g1n g1c g1v g1x w3 (Hg1.out.up B3.out) hng1 hlg1).mono ?_
      rintro e w4 ⟨A4, c4, us4, rfl, s4, q4, b4⟩
      have Z4 : Hid (w3.heap.size ≤ w4.heap.size) := Lib.hid b4.size
      have B4 : Hid (Below w.heap.size w w4) := Lib.hid (btr B3.out b4)
      have FW_4 := Lib.hid (FW_3.out.up b4)
      clear FW_3
      have Fxg1_4 := Lib.hid s4
      have Lxg1 : Hid (Lies A4 g1n c4 w3.heap.size w4.heap.size) := Lib.hid s4.lt_
      have Ixg1 : Hid (∀ t, t < g1n → ∀ k, (sval (us4.getD t sd0)).ownBlock = some k → w3.heap.size ≤ k ∧ k < w4.heap.size) := Lib.hid fun t ht => (s4.row t ht).lt_
      have Qxg1 := Lib.hid q4
      have hlxg1 : Hid (∀ i, i < g1n → (us4.getD i sd0).2.1 ≤ 1048576) := Lib.hid fun i hi => by rw [q4 i hi]; exact hlg1.out i hi
      clear s4 b4 q4
      go_wp2_with fail
      refine (toS_any s2A s2c s2n s2x w4 (Hs2.out.up B4.out) ls2 (by omega)).mono ?_
      rintro e w5 ⟨A5, c5, rfl, s5, b5⟩
      have Z5 : Hid (w4.heap.size ≤ w5.heap.size) := Lib.hid b5.size
      have B5 : Hid (Below w.heap.size w w5) := Lib.hid (btr B4.out b5)
      have FW_5 := Lib.hid (FW_4.out.up b5)
      clear FW_4
      have Fxg1_5 := Lib.hid (Fxg1_4.out.up b5)
      clear Fxg1_4
      have Fxs2_5 := Lib.hid s5
      have Lxs2 : Hid (Lies A5 s2n c5 w4.heap.size w5.heap.size) := Lib.hid s5.lies
      have lexs2 := s5.le.1
      clear s5 b5
      go_wp2_with fail
      have K6 := IM i0 A4 g1n c4 us4 g1x A5 s2n c5 s2x w5 ⟨Fxg1_5.out.rr, hng1, hlxg1.out⟩ ⟨Fxs2_5.out.ri_, ls2.out, hns2, lexs2⟩ wfi0
      refine K6.mono ?_
      clear K6
      rintro e w6 ⟨A6, n6, c6, z6, rfl, s6, r6, b6⟩
      have m6 : n6 ≤ 1048576 := by have := IsCmi.len r6; have := s6.1; omega
      have Z6 : Hid (w5.heap.size ≤ w6.heap.size) := Lib.hid b6.size
      have B6 : Hid (Below w.heap.size w w6) := Lib.hid (btr B5.out b6)
      have FW_6 := Lib.hid (FW_5.out.up b6)
      clear FW_5
      have Fxg1_6 := Lib.hid (Fxg1_5.out.up b6)
      clear Fxg1_5
      have Fxs2_6 := Lib.hid (Fxs2_5.out.up b6)
      clear Fxs2_5
      have e6 := HR.out.uniq r6
      subst e6
      clear r6
      have FG_6 := Lib.hid s6
      have LG : Hid (Lies A6 n6 c6 w5.heap.size w6.heap.size) := Lib.hid s6.lies
      clear s6 b6
      go_wp2_with fail
      refine (eqS_same _ _ A6 A3 n6 c6 n3 c3 w6 FG_6.out FW_6.out (by omega)).mono ?_
      rintro e w7 ⟨rfl, b7⟩
      have Z7 : Hid (w6.heap.size ≤ w7.heap.size) := Lib.hid b7.size
      have B7 : Hid (Below w.heap.size w w7) := Lib.hid (btr B6.out b7)
      have FW_7 := Lib.hid (FW_6.out.up b7)
      clear FW_6
      have Fxg1_7 := Lib.hid (Fxg1_6.out.up b7)
      clear Fxg1_6
      have Fxs2_7 := Lib.hid (Fxs2_6.out.up b7)
      clear Fxs2_6
      have FG_7 := Lib.hid (FG_6.out.up b7)
      clear FG_6
      clear b7
      go_wp2_with fail
      refine (toSS g1A g1n g1c g1v g1x w7 (Hg1.out.up B7.out) hng1 hlg1).mono ?_
      rintro e w8 ⟨A8, c8, us8, rfl, s8, q8, b8⟩
      have Z8 : Hid (w7.heap.size ≤ w8.heap.size) := Lib.hid b8.size
      have B8 : Hid (Below w.heap.size w w8) := Lib.hid (btr B7.out b8)
      have FW_8 := Lib.hid (FW_7.out.up b8)
      clear FW_7
      have Fxg1_8 := Lib.hid (Fxg1_7.out.up b8)
      clear Fxg1_7
      have Fxs2_8 := Lib.hid (Fxs2_7.out.up b8)
      clear Fxs2_7
      have FG_8 := Lib.hid (FG_7.out.up b8)
      clear FG_7
      have Fyg1_8 := Lib.hid s8
      have Lyg1 : Hid (Lies A8 g1n c8 w7.heap.size w8.heap.size) := Lib.hid s8.lt_
      have Iyg1 : Hid (∀ t, t < g1n → ∀ k, (sval (us8.getD t sd0)).ownBlock = some k → w7.heap.size ≤ k ∧ k < w8.heap.size) := Lib.hid fun t ht => (s8.row t ht).lt_
      have Qyg1 := Lib.hid q8
      have hlyg1 : Hid (∀ i, i < g1n → (us8.getD i sd0).2.1 ≤ 1048576) := Lib.hid fun i hi => by rw [q8 i hi]; exact hlg1.out i hi
      clear s8 b8 q8
      go_wp2_with fail
      refine (eqRR_same A4 A8 g1n c4 g1n c8 us4 us8 _ w8 Fxg1_8.out.rr Fyg1_8.out.rr (by omega) hylg1).mono ?_
      rintro e w9 ⟨rfl, b9⟩
      have Z9 : Hid (w8.heap.size ≤ w9.heap.size) := Lib.hid b9.size
      have B9 : Hid (Below w.heap.size w w9) := Lib.hid (btr B8.out b9)
      have FW_9 := Lib.hid (FW_8.out.up b9)
      clear FW_8
      have Fxg1_9 := Lib.hid (Fxg1_8.out.up b9)
      clear Fxg1_8
      have Fxs2_9 := Lib.hid (Fxs2_8.out.up b9)
      clear Fxs2_8
      have FG_9 := Lib.hid (FG_8.out.up b9)
      clear FG_8
      have Fyg1_9 := Lib.hid (Fyg1_8.out.up b9)
      clear Fyg1_8
      clear b9
      clear Fyg1_9
      go_wp2_with fail
      refine (toS_any s2A s2c s2n s2x w9 (Hs2.out.up B9.out) ls2 (by omega)).mono ?_
      rintro e w10 ⟨A10, c10, rfl, s10, b10⟩
      have Z10 : Hid (w9.heap.size ≤ w10.heap.size) := Lib.hid b10.size
      have B10 : Hid (Below w.heap.size w w10) := Lib.hid (btr B9.out b10)
      have FW_10 := Lib.hid (FW_9.out.up b10)
      clear FW_9
      have Fxg1_10 := Lib.hid (Fxg1_9.out.up b10)
      clear Fxg1_9
      have Fxs2_10 := Lib.hid (Fxs2_9.out.up b10)
      clear Fxs2_9
      have FG_10 := Lib.hid (FG_9.out.up b10)
      clear FG_9
      have Fys2_10 := Lib.hid s10
      have Lys2 : Hid (Lies A10 s2n c10 w9.heap.size w10.heap.size) := Lib.hid s10.lies
      have leys2 := s10.le.1
      clear s10 b10
      go_wp2_with fail
      refine (eqS_same _ _ A5 A10 s2n c5 s2n c10 w10 Fxs2_10.out Fys2_10.out (by omega)).mono ?_
      rintro e w11 ⟨rfl, b11⟩
      have Z11 : Hid (w10.heap.size ≤ w11.heap.size) := Lib.hid b11.size
      have B11 : Hid (Below w.heap.size w w11) := Lib.hid (btr B10.out b11)
      have FW_11 := Lib.hid (FW_10.out.up b11)
      clear FW_10
      have Fxg1_11 := Lib.hid (Fxg1_10.out.up b11)
      clear Fxg1_10
      have Fxs2_11 := Lib.hid (Fxs2_10.out.up b11)
      clear Fxs2_10
      have FG_11 := Lib.hid (FG_10.out.up b11)
      clear FG_10
      have Fys2_11 := Lib.hid (Fys2_10.out.up b11)
      clear Fys2_10
      clear b11
      clear Fys2_11
      have KTx : Hid (tot us4 g1n ≤ 1048576) := Lib.hid (by rw [tot_eq g1n Qxg1.out]; exact KTg1.out)
      go_wp2_with fail
      refine (markSS A4 g1n c4 _ _ us4 _ w11 Fxg1_11.out (by omega) KTx).mono ?_
      rintro e w12 ⟨rfl, s12, o12⟩
      have Z12 : Hid (w11.heap.size ≤ w12.heap.size) := Lib.hid o12.size
      have B12 : Hid (Below w.heap.size w w12) := Lib.hid (B11.out.trans (o12.below B11.out.size (fun t ht k e => by have h2 := Ixg1.out t ht k e; have := Z1.out; have := Z2.out; have := Z3.out; have := Z4.out; have := Z5.out; have := Z6.out; have := Z7.out; have := Z8.out; have := Z9.out; have := Z10.out; have := Z11.out; have := Z12.out; omega)))
      have FW_12 := Lib.hid (FW_11.out.only o12 (fun k hk t ht e => by have h1 := LW.out k hk; have h2 := Ixg1.out t ht k e; have := Z1.out; have := Z2.out; have := Z3.out; have := Z4.out; have := Z5.out; have := Z6.out; have := Z7.out; have := Z8.out; have := Z9.out; have := Z10.out; have := Z11.out; have := Z12.out; omega))
      clear FW_11
      have Fxg1_12 := Lib.hid s12
      clear Fxg1_11
      have Fxs2_12 := Lib.hid (Fxs2_11.out.only o12 (fun k hk t ht e => by have h1 := Lxs2.out k hk; have h2 := Ixg1.out t ht k e; have := Z1.out; have := Z2.out; have := Z3.out; have := Z4.out; have := Z5.out; have := Z6.out; have := Z7.out; have := Z8.out; have := Z9.out; have := Z10.out; have := Z11.out; have := Z12.out; omega))
      clear Fxs2_11
      have FG_12 := Lib.hid (FG_11.out.only o12 (fun k hk t ht e => by have h1 := LG.out k hk; have h2 := Ixg1.out t ht k e; have := Z1.out; have := Z2.out; have := Z3.out; have := Z4.out; have := Z5.out; have := Z6.out; have := Z7.out; have := Z8.out; have := Z9.out; have := Z10.out; have := Z11.out; have := Z12.out; omega))
      clear FG_11
      clear s12 o12
      obtain ⟨T, eT⟩ : ∃ T, tot us4 g1n = T := ⟨_, rfl⟩
      have hT9 : T ≤ 1048576 := by rw [← eT]; exact KTx.out
      rw [eT]
      clear eT
      go_wp2_with fail
      refine (markK _ (1 + T) _ A5 s2n c5 _ w12 Fxs2_12.out (by omega) (by omega) (by omega)).mono ?_
      rintro e w13 ⟨rfl, s13, g13⟩
      have Z13 : Hid (w12.heap.size ≤ w13.heap.size) := Lib.hid g13.size
      have B13 : Hid (Below w.heap.size w w13) := Lib.hid (B12.out.trans (below_mark g13 Lxs2.out (by have := Z1.out; have := Z2.out; have := Z3.out; have := Z4.out; have := Z5.out; have := Z6.out; have := Z7.out; have := Z8.out; have := Z9.out; have := Z10.out; have := Z11.out; have := Z12.out; have := Z13.out; omega) B12.out.size))
      have FW_13 := Lib.hid (FW_12.out.far g13 LW.out Lxs2.out (.inl (by have := Z1.out; have := Z2.out; have := Z3.out; have := Z4.out; have := Z5.out; have := Z6.out; have := Z7.out; have := Z8.out; have := Z9.out; have := Z10.out; have := Z11.out; have := Z12.out; have := Z13.out; omega)))
      clear FW_12
      have Fxg1_13 := Lib.hid (Fxg1_12.out.farM g13 (fun k hk e => by have h1 := Lxg1.out k hk; have h2 := Lxs2.out k e; have := Z1.out; have := Z2.out; have := Z3.out; have := Z4.out; have := Z5.out; have := Z6.out; have := Z7.out; have := Z8.out; have := Z9.out; have := Z10.out; have := Z11.out; have := Z12.out; have := Z13.out; omega) (fun s hs k hk e => by have h1 := Ixg1.out s hs k hk; have h2 := Lxs2.out k e; have := Z1.out; have := Z2.out; have := Z3.out; have := Z4.out; have := Z5.out; have := Z6.out; have := Z7.out; have := Z8.out; have := Z9.out; have := Z10.out; have := Z11.out; have := Z12.out; have := Z13.out; omega))
      clear Fxg1_12
      have Fxs2_13 := Lib.hid s13
      clear Fxs2_12
      have FG_13 := Lib.hid (FG_12.out.far g13 LG.out Lxs2.out (.inr (by have := Z1.out; have := Z2.out; have := Z3.out; have := Z4.out; have := Z5.out; have := Z6.out; have := Z7.out; have := Z8.out; have := Z9.out; have := Z10.out; have := Z11.out; have := Z12.out; have := Z13.out; omega)))
      clear FG_12
      clear s13 g13
      go_wp2_with fail
      refine (eqS_same _ _ A6 A3 n6 c6 n3 c3 w13 FG_13.out FW_13.out (by omega)).mono ?_
      rintro e w14 ⟨rfl, b14⟩
      have Z14 : Hid (w13.heap.size ≤ w14.heap.size) := Lib.hid b14.size
      have B14 : Hid (Below w.heap.size w w14) := Lib.hid (btr B13.out b14)
      have FW_14 := Lib.hid (FW_13.out.up b14)
      clear FW_13
      have Fxg1_14 := Lib.hid (Fxg1_13.out.up b14)
      clear Fxg1_13
      have Fxs2_14 := Lib.hid (Fxs2_13.out.up b14)
      clear Fxs2_13
      have FG_14 := Lib.hid (FG_13.out.up b14)
      clear FG_13
      clear b14
      clear Fxg1_14
      clear Fxs2_14
      go_wp2_with fail
      refine (mark1 _ A6 n6 c6 _ w14 FG_14.out (by omega)).mono ?_
      rintro e w15 ⟨rfl, s15, g15⟩
      have Z15 : Hid (w14.heap.size ≤ w15.heap.size) := Lib.hid g15.size
      have B15 : Hid (Below w.heap.size w w15) := Lib.hid (B14.out.trans (below_mark g15 LG.out (by have := Z1.out; have := Z2.out; have := Z3.out; have := Z4.out; have := Z5.out; have := Z6.out; have := Z7.out; have := Z8.out; have := Z9.out; have := Z10.out; have := Z11.out; have := Z12.out; have := Z13.out; have := Z14.out; have := Z15.out; omega) B14.out.size))
      have FW_15 := Lib.hid (FW_14.out.far g15 LW.out LG.out (.inl (by have := Z1.out; have := Z2.out; have := Z3.out; have := Z4.out; have := Z5.out; have := Z6.out; have := Z7.out; have := Z8.out; have := Z9.out; have := Z10.out; have := Z11.out; have := Z12.out; have := Z13.out; have := Z14.out; have := Z15.out; omega)))
      clear FW_14
      have FG_15 := Lib.hid s15
      clear FG_14
      clear s15 g15
      go_wp2_with fail
      refine (held1 _ A6 n6 c6 w15 FG_15.out (by omega)).mono ?_
      rintro e w' ⟨rfl, rfl⟩
      go_wp2_with fail
      refine (toSS g1A g1n g1c g1v g1x w15 (Hg1.out.up B15.out) hng1 hlg1).mono ?_
      rintro e w16 ⟨A16, c16, us16, rfl, s16, q16, b16⟩
      have Z16 : Hid (w15.heap.size ≤ w16.heap.size) := Lib.hid b16.size
      have B16 : Hid (Below w.heap.size w w16) := Lib.hid (btr B15.out b16)
      have FW_16 := Lib.hid (FW_15.out.up b16)
      clear FW_15
      have FG_16 := Lib.hid (FG_15.out.up b16)
      clear FG_15
      have Fzg1_16 := Lib.hid s16
      have Lzg1 : Hid (Lies A16 g1n c16 w15.heap.size w16.heap.size) := Lib.hid s16.lt_
      have Izg1 : Hid (∀ t, t < g1n → ∀ k, (sval (us16.getD t sd0)).ownBlock = some k → w15.heap.size ≤ k ∧ k < w16.heap.size) := Lib.hid fun t ht => (s16.row t ht).lt_
      have Qzg1 := Lib.hid q16
      have hlzg1 : Hid (∀ i, i < g1n → (us16.getD i sd0).2.1 ≤ 1048576) := Lib.hid fun i hi => by rw [q16 i hi]; exact hlg1.out i hi
      clear s16 b16 q16
      go_wp2_with fail
      refine (toS_any s2A s2c s2n s2x w16 (Hs2.out.up B16.out) ls2 (by omega)).mono ?_
      rintro e w17 ⟨A17, c17, rfl, s17, b17⟩
      have Z17 : Hid (w16.heap.size ≤ w17.heap.size) := Lib.hid b17.size
      have B17 : Hid (Below w.heap.size w w17) := Lib.hid (btr B16.out b17)
      have FW_17 := Lib.hid (FW_16.out.up b17)
      clear FW_16
      have FG_17 := Lib.hid (FG_16.out.up b17)
      clear FG_16
      have Fzg1_17 := Lib.hid (Fzg1_16.out.up b17)
      clear Fzg1_16
      have Fzs2_17 := Lib.hid s17
      have Lzs2 : Hid (Lies A17 s2n c17 w16.heap.size w17.heap.size) := Lib.hid s17.lies
      have lezs2 := s17.le.1
      clear s17 b17
      go_wp2_with fail
      have K18 := IM i0 A16 g1n c16 us16 g1x A17 s2n c17 s2x w17 ⟨Fzg1_17.out.rr, hng1, hlzg1.out⟩ ⟨Fzs2_17.out.ri_, ls2.out, hns2, lezs2⟩ wfi0
      refine K18.mono ?_
      clear K18
      rintro e w18 ⟨A18, n18, c18, z18, rfl, s18, r18, b18⟩
      have m18 : n18 ≤ 1048576 := by have := IsCmi.len r18; have := s18.1; omega
      have Z18 : Hid (w17.heap.size ≤ w18.heap.size) := Lib.hid b18.size
      have B18 : Hid (Below w.heap.size w w18) := Lib.hid (btr B17.out b18)
      have FW_18 := Lib.hid (FW_17.out.up b18)
      clear FW_17
      have FG_18 := Lib.hid (FG_17.out.up b18)
      clear FG_17
      have Fzg1_18 := Lib.hid (Fzg1_17.out.up b18)
      clear Fzg1_17
      have Fzs2_18 := Lib.hid (Fzs2_17.out.up b18)
      clear Fzs2_17
      have e18 := HR.out.uniq r18
      subst e18
      clear r18
      have FH_18 := Lib.hid s18
      have LH : Hid (Lies A18 n18 c18 w17.heap.size w18.heap.size) := Lib.hid s18.lies
      clear s18 b18
      clear Fzg1_18
      clear Fzs2_18
      go_wp2_with fail
      refine (eqS_same _ _ A18 A3 n18 c18 n3 c3 w18 FH_18.out FW_18.out (by omega)).mono ?_
      rintro e w19 ⟨rfl, b19⟩
      have Z19 : Hid (w18.heap.size ≤ w19.heap.size) := Lib.hid b19.size
      have B19 : Hid (Below w.heap.size w w19) := Lib.hid (btr B18.out b19)
      have FW_19 := Lib.hid (FW_18.out.up b19)
      clear FW_18
      have FG_19 := Lib.hid (FG_18.out.up b19)
      clear FG_18
      have FH_19 := Lib.hid (FH_18.out.up b19)
      clear FH_18
      clear b19
      go_wp2_with fail
      refine (held1 _ A6 n6 c6 w19 FG_19.out (by omega)).mono ?_
      rintro e w' ⟨rfl, rfl⟩
      go_wp2_with fail
      go_ret
      exact ⟨rfl, B19.out⟩
    · skip
      have HT0 := Lib.hid hT0
      clear hT0
      go_enter Try.func9, Try.ntmps9
      go_wp2_with fail
      have K0 := szSS2 g1A g1n g1c 1048576 g1v g1x w Hg1.out hmg1 hkg1 (by decide) (by decide)
      refine K0.mono ?_
      rintro e w0 ⟨rfl, rfl⟩
      clear K0
      rw [if_neg (Int.not_le.2 HT0.out)]
      go_wp2
      go_ret
      exact ⟨rfl, Below.refl _ _⟩
  · skip
    have d1 : decide ((1048576 : Int) < s2n) = true := by simp; omega
    go_enter Try.func9, Try.ntmps9
    go_wp2
    go_ret
    exact ⟨rfl, Below.refl _ _⟩
end Go.Proofs.Ytcjcmhoalomjfaa

/- The program's smallestLike over a coset and CosetMinimum. Conditions: at most 1048576 lists of at most 1048576 numbers. -/
namespace Go.Proofs.Ytcjcmhoalomjfaa
open Go.RowKit

set_option maxHeartbeats 4000000 in
set_option maxRecDepth 100000 in
/-- smallestLike of any permutation: the smallest of its coset. -/
theorem implSmallC (base N cp : Nat) (M : Nat → Prop) (c : Ch) (L : Nat → LK) (gs : List (List Int)) (A : Option Addr) (p : List Int) (w : World) (hc : Ck w base N 0 M c L) (ho : Orbs N 0 c L) (hw : Hid (Whole N gs c)) (h1 : 1 ≤ N) (h2 : N ≤ 20) (hg : Hid (∀ g ∈ gs, Pn N g)) (hm : RI w w.heap.size A p) (hP : Hid (Pn N p)) :
    Calls Try.prog 73 #[.pointer (some ⟨(L 0).B, 0, none⟩), .slice A N cp] w fun e w' => ∃ (A' : Option Addr) (c' : Nat) (m' : List Int), e = .returned (.slice A' N c') ∧ Slc w' w.heap.size A' N c' m' ∧ CMin N (Mb gs N) p m' ∧ Below w.heap.size w w' := by
  have HC := Lib.hid hc
  have HO := Lib.hid ho
  have HM := Lib.hid hm
  have Ep : Hid (ptr N L 0 = .pointer (some ⟨(L 0).B, 0, none⟩)) := Lib.hid (ptr_at (by omega))
  clear hc ho hm
  go_enter Try.func73, Try.ntmps73
  go_wp2_with fail
  go_loopg [1, 5, 6, 8] N (fun gg mv l _ _ wr => ∃ (j c1 : Nat) (A1 : Option Addr) (m1 : List Int), j ≤ N ∧ N - j ≤ gg ∧ l = ptr N L j ∧ mv = .slice A1 N c1 ∧ RI wr wr.heap.size A1 m1 ∧ ((j = 0 ∧ A1 = A ∧ c1 = cp ∧ m1 = p) ∨ Slc wr w.heap.size A1 N c1 m1) ∧ GrC N gs p m1 j ∧ Below w.heap.size w wr)
  case atStart => exact ⟨0, cp, A, p, Nat.zero_le _, by omega, Ep.out.symm, rfl, HM.out, .inl ⟨rfl, rfl, rfl, rfl⟩, .zero hg.out hP.out, Below.refl _ _⟩
  case round =>
    obtain ⟨j, c1, A1, m1, hjN, hgg, rfl, rfl, hm, hfr, hgr, bel⟩ := hrel
    have Hm := Lib.hid hm
    have Fr := Lib.hid hfr
    have Gr := Lib.hid hgr
    have Be := Lib.hid bel
    have MP := Lib.hid (hgr.pn hg.out hP.out)
    have Cj := Lib.hid (HC.out.up bel)
    clear hm hfr hgr bel
    by_cases hlt : j < N
    · rw [ptr_at hlt]
      obtain ⟨x0, x1, x2, x3, x4⟩ := Cj.out.cB (Nat.zero_le _) hlt
      have hol := Cj.out.olen (Nat.zero_le _) hlt
      have hOr := HO.out j (Nat.zero_le _) hlt
      have hR := hw.out.up.rep j (Nat.zero_le _) hlt
      obtain ⟨b, off, rfl, hb, hcell⟩ := Hm.out (by rw [MP.out.2]; omega)
      have z1 := hcell j (by rw [MP.out.2]; exact hlt)
      rw [nx_val MP.out.1 (by rw [MP.out.2]; exact hlt)] at z1
      obtain ⟨s0, es0⟩ : ∃ s0, nx m1 j = s0 := ⟨_, rfl⟩
      rw [es0] at z1
      have Es0 := Lib.hid es0
      obtain ⟨on, hon⟩ : ∃ on, (L j).orb.length = on := ⟨_, rfl⟩
      have hjO : j ∈ (L j).orb := (hOr.2 j).2 (by rw [hR.one]; intro e; have := idL_length N; rw [e] at this; simp at this; omega)
      have h0n : 0 < on := by rw [← hon]; exact List.length_pos_of_mem hjO
      have hon20 : on ≤ N := by rw [← hon]; exact hOr.len hR
      obtain ⟨ob, oc, hoe, _⟩ := Cj.out.cO (Nat.zero_le _) hlt (j := 0) (by omega)
      rw [hoe, hon] at x2
      simp only [sval] at x2
      have Hon := Lib.hid hon
      have HjO := Lib.hid hjO
      have Hor := Lib.hid hOr
      have HR := Lib.hid hR
      have Hoe := Lib.hid hoe
      have Hb := Lib.hid hb
      have Hcell : Hid (∀ y, y < N → wr.cell? ⟨b, off + y, none⟩ = some (.int .i64 ((nx m1 y : Nat) : Int))) := Lib.hid fun y hy => by
        rw [hcell y (by rw [MP.out.2]; exact hy), nx_val MP.out.1 (by rw [MP.out.2]; exact hy)]
      have p0 : (0 : Int) ≤ j := by omega
      have p1 : (j : Int) < N := by omega
      clear hol hOr hR hb hcell es0 hon hjO hoe x1 x3
      go_wp2_with fail
      go_loopg [6, 8, 28] on (fun gg lv _ iv wx => ∃ (t z : Nat), t ≤ on ∧ on - t ≤ gg ∧ iv = .int .i64 (t : Nat) ∧ lv = .int .i64 (z : Nat) ∧ (∀ s, s < t → z ≤ nx m1 ((L j).orb.getD s 0)) ∧ (∃ y, y ∈ (L j).orb ∧ z = nx m1 y) ∧ wr = wx)
      case atStart => exact ⟨0, s0, Nat.zero_le _, by omega, rfl, rfl, fun s hs => absurd hs (by omega), ⟨j, HjO.out, Es0.out.symm⟩, rfl⟩
      case round =>
        obtain ⟨t, z, ht, hg2, rfl, rfl, hall, hex, rfl⟩ := hrel
        have All := Lib.hid hall
        have Ex := Lib.hid hex
        clear hall hex
        by_cases htl : t < on
        · obtain ⟨ob', oc', hoe', x6⟩ := Cj.out.cO (Nat.zero_le _) hlt (j := t) (by rw [Hon.out]; exact htl)
          obtain ⟨rfl, rfl⟩ : ob = ob' ∧ oc = oc' := by
            rw [Hoe.out] at hoe'
            injection hoe' with h1 h2
            injection h1 with h1
            injection h1 with h1
            injection h2 with _ h2
            exact ⟨h1, h2⟩
          obtain ⟨y, ey⟩ : ∃ y, (L j).orb.getD t 0 = y := ⟨_, rfl⟩
          rw [ey] at x6
          have hyO : y ∈ (L j).orb := by rw [← ey, List.getD_eq_getElem?_getD, List.getElem?_eq_getElem (by rw [Hon.out]; exact htl)]; exact List.getElem_mem _
          have hy : y < N := Hor.out.lt HR.out hyO
          have x7 := Hcell.out y hy
          obtain ⟨u, eu⟩ : ∃ u, nx m1 y = u := ⟨_, rfl⟩
          rw [eu] at x7
          have Ey := Lib.hid ey
          have Eu := Lib.hid eu
          have HyO := Lib.hid hyO
          have q0 : (0 : Int) ≤ t := by omega
          have q1 : (t : Int) < on := by omega
          have q2 : (0 : Int) ≤ y := by omega
          have q3 : (y : Int) < N := by omega
          clear hoe' ey hyO eu
          go_wp2_with fail
          · go_roundg (on - (t + 1))
            case rel =>
              refine ⟨t + 1, u, by omega, by omega, by go_num, rfl, fun s hs => ?_, ⟨y, HyO.out, Eu.out.symm⟩, rfl⟩
              rcases Nat.lt_or_ge s t with h | h
              · have := All.out s h; omega
              · obtain rfl : s = t := by omega
                rw [Ey.out, Eu.out]; exact Nat.le_refl _
            case measure => omega
          · go_roundg (on - (t + 1))
            case rel =>
              refine ⟨t + 1, z, by omega, by omega, by go_num, rfl, fun s hs => ?_, Ex.out, rfl⟩
              rcases Nat.lt_or_ge s t with h | h
              · exact All.out s h
              · obtain rfl : s = t := by omega
                rw [Ey.out, Eu.out]; omega
            case measure => omega
        · obtain rfl : t = on := by omega
          go_wp2_with fail
          refine (implWith base N 0 j c1 M c L (some ⟨b, off, none⟩) m1 (z : Nat) wr Cj.out (Nat.zero_le _) hlt HR Hm.out MP).mono ?_
          rintro e w2 ⟨A2, n2, c2, rfl, (⟨rfl, rfl, rfl, hno⟩ | ⟨g2, y, rfl, rfl, hy, hyv, hyr, hs⟩), b2⟩
          · exfalso
            obtain ⟨y, hyO, e⟩ := Ex.out
            exact (Hor.out.2 y).1 hyO (hno y (Hor.out.lt HR.out hyO) (by rw [e]))
          · have C2 := Lib.hid (Cj.out.up b2)
            have B2 : Hid (Below w.heap.size w w2) := Lib.hid (btr Be.out b2)
            have S2 : Hid (Slc w2 w.heap.size (some ⟨g2, 0, none⟩) n2 c2 (compL (c.rep j y) m1)) := Lib.hid (hs.mono (by have := Be.out.size; omega))
            have G2 : Hid (GrC n2 gs p (compL (c.rep j y) m1) (j + 1)) := Lib.hid (Gr.out.step hw.out hg.out hP.out hlt hyr fun y' hy' hr' => by
              obtain ⟨s, hs', es⟩ := List.mem_iff_getElem.1 ((Hor.out.2 y').2 hr')
              have h3 := All.out s (by rw [← Hon.out]; exact hs')
              rw [List.getD_eq_getElem?_getD, List.getElem?_eq_getElem hs', es] at h3
              have h3 : z ≤ nx m1 y' := h3
              omega)
            have z4 := (C2.out.cB (Nat.zero_le _) hlt).2.2.2.2
            clear hs b2 hy hyv hyr x4
            go_wp2_with fail
            go_roundg (n2 - (j + 1))
            case rel => exact ⟨j + 1, c2, _, _, by omega, by omega, rfl, rfl, S2.out.ri_, .inr S2.out, G2.out, B2.out⟩
            case measure => omega
    · obtain rfl : j = N := by omega
      rw [ptr_end (Nat.le_refl _)]
      have Fin : Hid (Slc wr w.heap.size A1 j c1 m1) := Lib.hid (by
        rcases Fr.out with ⟨e1, _⟩ | h
        · omega
        · exact h)
      go_wp2_with fail
      go_ret
      exact ⟨_, _, _, rfl, Fin.out, Gr.out.top, Be.out⟩
set_option maxHeartbeats 4000000 in
set_option maxRecDepth 100000 in
/-- CosetMinimum. -/
theorem implCosetMinimum : CtImsS 27 IsCmi := by
  intro a A n c vs xss P np cp p w g s _
  have HX := Lib.hid g.rr
  have hlx : Hid (xss.length = n) := Lib.hid g.rr.lx
  have hn := g.hn
  have hl := Lib.hid g.hl
  have HP := Lib.hid s.ri
  have lp := Lib.hid s.lp
  have hnp := s.hn
  clear g s
  obtain ⟨ip, hip⟩ : ∃ ip, (decide ((np : Int) = a) && isP p) = ip := ⟨_, rfl⟩
  have Hip := Lib.hid hip
  clear hip
  go_enter Try.func27, Try.ntmps27
  rcases hs : gB a xss with _ | _
  · have Fin : Hid (IsCmi a xss p []) := Lib.hid (.inr ⟨fun h => (by have := h.1; rw [hs] at this; cases this), rfl⟩)
    have Hs := Lib.hid hs
    clear hs
    go_wp2_with (first
      | (go_at_call 59; refine (implGS a A n c vs xss w HX.out hn hl).mono ?_; rintro e w1 ⟨rfl, b1⟩; rw [Hs.out]; have B1 := Lib.hid b1; clear b1))
    go_ret
    exact ⟨_, _, _, _, rfl, Slc.nil_, Fin.out, B1.out⟩
  · have Hs := Lib.hid hs
    rcases ip with _ | _
    · have Fin : Hid (IsCmi a xss p []) := Lib.hid (.inr ⟨fun h => by
        have h1 := h.2.1
        have h2 := h.2.2
        have h3 := Hip.out
        rw [lp.out] at h1
        rw [h2] at h3
        simp [h1] at h3, rfl⟩)
      clear hs
      go_wp2_with (first
        | (go_at_call 59; refine (implGS a A n c vs xss w HX.out hn hl).mono ?_; rintro e w1 ⟨rfl, b1⟩; rw [Hs.out]; have B1 := Lib.hid b1; clear b1)
        | (go_at_call 69; refine (implIsPOf a P np cp p false w1 (HP.out.up B1.out) lp (by omega) Hip).mono ?_; rintro e w2 ⟨rfl, b2⟩; have B2 := Lib.hid b2; clear b2))
      go_ret
      exact ⟨_, _, _, _, rfl, Slc.nil_, Fin.out, btr B1.out B2.out⟩
    · obtain ⟨N, rfl, hN1, hN2, hg8, hpm, hok⟩ := gB_pm hs
      have h3 := Hip.out
      rw [Bool.and_eq_true, decide_eq_true_eq] at h3
      obtain rfl : np = N := by omega
      have PP : Hid (Pn np p) := Lib.hid ⟨isP_iff.1 h3.2, lp.out⟩
      have Hq := Lib.hid h3.2
      have Ok := Lib.hid hok
      have hn8 : n ≤ 8 := by rw [← hlx.out]; exact hg8
      clear hs hpm hok hg8 h3
      go_wp2_with (first
        | (go_at_call 59; refine (implGS np A n c vs xss w HX.out hn hl).mono ?_; rintro e w1 ⟨rfl, b1⟩; rw [Hs.out]; have B1 := Lib.hid b1; clear b1)
        | (go_at_call 69; refine (implIsPOfT P np cp p w1 (HP.out.up B1.out) lp (by omega) Hq).mono ?_; rintro e w2 ⟨rfl, b2⟩; have B2 : Hid (Below w.heap.size w w2) := Lib.hid (btr B1.out b2); clear b2)
        | (go_at_call 54; refine (implChainOf np n c A vs xss w2 (HX.out.up B2.out) hN1 hN2 hn8 Ok).mono ?_; rintro e w3 ⟨ch, L, M, rfl, hc, ho, hw, b3⟩; have W3 := Lib.hid hw; have C3 := Lib.hid hc; have O3 := Lib.hid ho; have B3 : Hid (Below w.heap.size w w3) := Lib.hid (btr B2.out b3); clear hc ho hw b3)
        | (go_at_call 73; fail))
      refine (implSmallC w2.heap.size np cp M ch L xss P p w3 C3.out O3.out W3 hN1 hN2 (Lib.hid Ok.out) (HP.out.up B3.out) PP).mono ?_
      rintro e w4 ⟨A4, c4, m4, rfl, s4, hm4, b4⟩
      have S4 := Lib.hid (s4.mono B3.out.size)
      have B4 : Hid (Below w.heap.size w w4) := Lib.hid (btr B3.out b4)
      have Fin : Hid (IsCmi np xss p m4) := Lib.hid (.inl ⟨⟨Hs.out, by rw [lp.out], Hq.out⟩, by rw [Int.toNat_natCast]; exact hm4⟩)
      clear s4 b4 hm4
      go_wp2_with fail
      go_ret
      exact ⟨_, _, _, _, rfl, S4.out, Fin.out, B4.out⟩
end Go.Proofs.Ytcjcmhoalomjfaa
