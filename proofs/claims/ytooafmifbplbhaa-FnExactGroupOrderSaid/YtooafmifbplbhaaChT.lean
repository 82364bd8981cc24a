/- The smallest member with a prefix: what it is, and that the model finds it. Conditions: at most 20 points, 8 generators. -/
import Derived.Test.YtooafmifbplbhaaChR
namespace Go.Proofs.Ytooafmifbplbhaa
open Go.RowKit

/-- m is the member with the prefix whose further entries are as small as can be, one after the other. -/
def Greedy (N : Nat) (gs : List (List Int)) (pre m : List Int) : Prop :=
  Mb gs N m ∧ ∀ i, i < N → (i < pre.length → (nx m i : Int) = pre.getD i 0) ∧ (pre.length ≤ i → ∀ q, Mb gs N q → (∀ t, t < i → nx q t = nx m t) → nx m i ≤ nx q i)
def NoMem (N : Nat) (gs : List (List Int)) (pre : List Int) : Prop := ∀ q, Mb gs N q → ¬ ∀ t, t < pre.length → (nx q t : Int) = pre.getD t 0
/-- What MemberWithPrefix answers. -/
def IsMwp (N : Nat) (gs : List (List Int)) (pre m : List Int) (ok : Bool) : Prop := (ok = true ∧ Greedy N gs pre m) ∨ (ok = false ∧ m = [] ∧ NoMem N gs pre)
section
variable {N : Nat} {gs : List (List Int)} {pre m m' : List Int}
theorem Greedy.uniq (h1 : 1 ≤ N) (h2 : N ≤ 20) (hg : ∀ g ∈ gs, Pn N g) (h : Greedy N gs pre m) (h' : Greedy N gs pre m') : m = m' := by
  have hp := h.1.pn hg h1 h2
  have hp' := h'.1.pn hg h1 h2
  refine hp.ext hp' fun x hx => ?_
  induction x using Nat.strongRecOn with
  | ind x ih =>
    by_cases hl : x < pre.length
    · have a := (h.2 x hx).1 hl
      have b := (h'.2 x hx).1 hl
      omega
    · have a := (h.2 x hx).2 (by omega) m' h'.1 fun t ht => (ih t ht (by omega)).symm
      have b := (h'.2 x hx).2 (by omega) m h.1 fun t ht => ih t ht (by omega)
      omega
theorem Greedy.has (h : Greedy N gs pre m) (hl : pre.length ≤ N) : ¬ NoMem N gs pre := fun hn => hn m h.1 fun t ht => (h.2 t (by omega)).1 ht
theorem IsMwp.uniq {ok ok' : Bool} (h1 : 1 ≤ N) (h2 : N ≤ 20) (hg : ∀ g ∈ gs, Pn N g) (hl : pre.length ≤ N) (h : IsMwp N gs pre m ok) (h' : IsMwp N gs pre m' ok') : m = m' ∧ ok = ok' := by
  rcases h with ⟨rfl, a⟩ | ⟨rfl, rfl, a⟩ <;> rcases h' with ⟨rfl, b⟩ | ⟨rfl, rfl, b⟩
  · exact ⟨a.uniq h1 h2 hg b, rfl⟩
  · exact absurd b (a.has hl)
  · exact absurd a (b.has hl)
  · exact ⟨rfl, rfl⟩
/-- m keeps to it in its first k entries. -/
def GrTo (N : Nat) (gs : List (List Int)) (pre m : List Int) (k : Nat) : Prop :=
  Mb gs N m ∧ ∀ i, i < k → (i < pre.length → (nx m i : Int) = pre.getD i 0) ∧ (pre.length ≤ i → ∀ q, Mb gs N q → (∀ t, t < i → nx q t = nx m t) → nx m i ≤ nx q i)
/-- The entries that level i allows are those of the members that agree before. -/
theorem Whole.choice {c : Ch} (h : Whole N gs c) (h1 : 1 ≤ N) (h2 : N ≤ 20) (hg : ∀ g ∈ gs, Pn N g) {i : Nat} (hi : i < N) (hm : Mb gs N m) {v : Int} : v ∈ chL c i m N ↔ ∃ q, Mb gs N q ∧ (∀ t, t < i → nx q t = nx m t) ∧ (nx q i : Int) = v := by
  have hp := hm.pn hg h1 h2
  rw [chL_mem]
  constructor
  · rintro ⟨y, hy, hr, rfl⟩
    obtain ⟨a, b, d, _⟩ := h.rep_mb h1 h2 hi hr
    have hr' := a.pn hg h1 h2
    refine ⟨compL (c.rep i y) m, a.comp hg h1 h2 hm, fun t ht => ?_, ?_⟩
    · rw [hr'.nxc (by omega), b t ht]
    · rw [hr'.nxc hi, d]
  · rintro ⟨q, hq, ha, rfl⟩
    have hq' := hq.pn hg h1 h2
    have hmi := hp.iv
    refine ⟨nx (iv m) (nx q i), hmi.lt (hq'.lt hi), (h.rep_iff h1 h2 hi).2 ⟨compL q (iv m), hq.comp hg h1 h2 (hm.inv hg h1 h2), fun t ht => ?_, ?_⟩, ?_⟩
    · rw [hq'.nxc (by omega), ha t ht, hp.nxi (by omega)]
    · rw [hq'.nxc hi]
    · rw [hp.nxi' (hq'.lt hi)]
theorem GrTo.step {c : Ch} {k : Nat} (h : GrTo N gs pre m k) (hw : Whole N gs c) (h1 : 1 ≤ N) (h2 : N ≤ 20) (hg : ∀ g ∈ gs, Pn N g) (hk : k < N) {y : Nat} (hr : c.rep k y ≠ []) (hv : (k < pre.length → (nx m y : Int) = pre.getD k 0) ∧ (pre.length ≤ k → ∀ v ∈ chL c k m N, (nx m y : Int) ≤ v)) : GrTo N gs pre (compL (c.rep k y) m) (k + 1) := by
  obtain ⟨a, b, d, _⟩ := hw.rep_mb h1 h2 hk hr
  have hr' := a.pn hg h1 h2
  have e : ∀ t, t < k → nx (compL (c.rep k y) m) t = nx m t := fun t ht => by rw [hr'.nxc (by omega), b t ht]
  have e2 : nx (compL (c.rep k y) m) k = nx m y := by rw [hr'.nxc hk, d]
  refine ⟨a.comp hg h1 h2 h.1, fun i hi => ?_⟩
  rcases Nat.lt_or_ge i k with hl | hl
  · rw [e i hl]
    exact ⟨(h.2 i hl).1, fun hp q hq hag => (h.2 i hl).2 hp q hq fun t ht => (hag t ht).trans (e t (by omega))⟩
  · obtain rfl : i = k := by omega
    rw [e2]
    refine ⟨hv.1, fun hp q hq hag => ?_⟩
    have := hv.2 hp (nx q i : Int) ((hw.choice h1 h2 hg hk h.1).2 ⟨q, hq, fun t ht => (hag t ht).trans (e t ht), rfl⟩)
    omega
theorem GrTo.no {c : Ch} {k : Nat} (h : GrTo N gs pre m k) (hw : Whole N gs c) (h1 : 1 ≤ N) (h2 : N ≤ 20) (hg : ∀ g ∈ gs, Pn N g) (hk : k < N) (hl : k < pre.length) (hn : pre.getD k 0 ∉ chL c k m N) : NoMem N gs pre := fun q hq hag =>
  hn ((hw.choice h1 h2 hg hk h.1).2 ⟨q, hq, fun t ht => by
    have a := hag t (by omega)
    have b := (h.2 t ht).1 (by omega)
    omega, hag k hl⟩)
theorem hasB_in (xs : List Int) (x : Int) : hasB xs x = decide (x ∈ xs) := by
  unfold hasB
  rw [Bool.eq_iff_iff]
  simp only [decide_eq_true_eq]
  constructor
  · rintro ⟨k, hk, e⟩
    rw [← e, List.getD_eq_getElem?_getD, List.getElem?_eq_getElem hk]; exact List.getElem_mem _
  · intro h
    obtain ⟨k, hk, e⟩ := List.mem_iff_getElem.1 h
    exact ⟨k, hk, by rw [List.getD_eq_getElem?_getD, List.getElem?_eq_getElem hk, ← e]; rfl⟩
end

set_option maxHeartbeats 4000000 in
set_option maxRecDepth 100000 in
theorem specMwp (base g N np cp : Nat) (A : Option Addr) (c : Ch) (L : LY) (gs : List (List Int)) (pre : List Int) (w : World) (hc : Cn w base g N c L) (hw : Whole N gs c) (hp : RI w w.heap.size A pre) (lp : Hid (pre.length = np)) (hnp : np ≤ N) (hN1 : 1 ≤ N) (hN : N ≤ 20) (hg : Hid (∀ g ∈ gs, Pn N g)) :
    Calls Try.prog 64 #[.pointer (some ⟨g, 0, none⟩), .slice A np cp] w fun e w' => ∃ A' n' c' m ok, e = .returned (.tuple #[.slice A' n' c', .bool ok]) ∧ Slc w' w.heap.size A' n' c' m ∧ IsMwp N gs pre m ok ∧ Below w.heap.size w w' := by
  have HC := Lib.hid hc
  have HW := Lib.hid hw
  have HP := Lib.hid hp
  have x0 := hc.c0
  clear hc hw hp
  go_enter Try.func64, Try.ntmps64
  go_wp2_with fail
  refine (specIdent N w (by omega)).mono ?_
  rintro e w1 ⟨A1, c1, rfl, s1, b1⟩
  have S1 := Lib.hid s1
  have B1 := Lib.hid b1
  clear s1 b1 x0
  go_wp2_with fail
  go_loopw [6, 7] (fun v i wr => ∃ (k cc : Nat) (M : Option Addr) (m : List Int), k ≤ N ∧ i = .int .i64 (k : Nat) ∧ v = .slice M N cc ∧ Slc wr w.heap.size M N cc m ∧ GrTo N gs pre m k ∧ Below w.heap.size w wr) (fun _ i _ => N - (intOf i).toNat)
  case atStart => exact ⟨0, _, _, _, Nat.zero_le _, rfl, rfl, S1.out, ⟨.one, fun i hi => absurd hi (by omega)⟩, B1.out⟩
  case round =>
    clear S1 B1
    obtain ⟨k, cc, M, m, hk, rfl, rfl, hs, hgr, bel⟩ := hrel
    have Ss := Lib.hid hs
    have Gr := Lib.hid hgr
    have Be := Lib.hid bel
    have C1 := Lib.hid (HC.out.up bel)
    have x0 := C1.out.c0
    have MP : Hid (Pn N m) := Lib.hid (hgr.1.pn hg.out hN1 hN)
    clear hs hgr bel
    by_cases hlt : k < N
    · go_wp2_with fail
      refine (specChoices base g N k cc M c L gs m wr C1.out HW.out Ss.out.ri_ MP hlt).mono ?_
      rintro e w2 ⟨g2, m2, c2, zs, rfl, s2, p2, o2, b2⟩
      have S2 := Lib.hid s2
      have P2 := Lib.hid p2
      have O2 := Lib.hid o2
      have Ss2 := Lib.hid (Ss.out.up b2)
      have C2 := Lib.hid (C1.out.up b2)
      have Be2 : Hid (Below w.heap.size w w2) := Lib.hid (btr Be.out b2)
      have hid : ∃ v, v ∈ zs := ⟨(nx m k : Int), P2.out.mem_iff.2 ((HW.out.choice hN1 hN hg.out hlt Gr.out.1).2 ⟨m, Gr.out.1, fun _ _ => rfl, rfl⟩)⟩
      have hm2 : 0 < m2 := by
        obtain ⟨v, hv⟩ := hid
        rw [← s2.1]; exact List.length_pos_of_mem hv
      have hm3 : m2 ≤ 20 := by rw [← s2.1, p2.length_eq]; have := chL_len c k m N; omega
      obtain ⟨bz, oz, hzA, hzb, hzc⟩ := s2.ri_ (by rw [s2.1]; omega)
      have x5 := hzc 0 (by rw [s2.1]; omega)
      have ez : (some ⟨g2, 0, none⟩ : Option Addr) = some ⟨bz, oz, none⟩ := hzA
      injection ez with ez
      injection ez with e1 e2 _
      subst e1 e2
      obtain ⟨v0, ev0⟩ : ∃ v0, zs.getD 0 0 = v0 := ⟨_, rfl⟩
      rw [ev0] at x5
      have V0 : Hid (zs.getD 0 0 = v0) := Lib.hid ev0
      have q0 : (0 : Int) < m2 := by omega
      clear s2 p2 o2 b2 hzA hzb hzc ev0 hid x0
      -- what a value among the choices gives
      have Take : Hid (∀ v : Int, v ∈ zs → (k < pre.length → v = pre.getD k 0) → (pre.length ≤ k → ∀ u ∈ zs, v ≤ u) → ∃ y : Nat, y < N ∧ v = (nx m y : Int) ∧ Pn N (c.rep k y) ∧ GrTo N gs pre (compL (c.rep k y) m) (k + 1)) := Lib.hid fun v hv h1 h2 => by
        obtain ⟨y, hy, hr, e⟩ := chL_mem.1 (P2.out.mem_iff.1 hv)
        exact ⟨y, hy, e.symm, ((HW.out.up.rep k (Nat.zero_le _) hlt).at_ y hr).2.1, Gr.out.step HW.out hN1 hN hg.out hlt hr ⟨fun hl => by rw [e]; exact h1 hl, fun hl u hu => by rw [e]; exact h2 hl u (P2.out.mem_iff.2 hu)⟩⟩
      by_cases hl : k < np
      · obtain ⟨b, off, rfl, hb, hcell⟩ := (HP.out.up Be2.out) (by rw [lp.out]; omega)
        have x6 := hcell k (by rw [lp.out]; exact hl)
        obtain ⟨v, ev⟩ : ∃ v, pre.getD k 0 = v := ⟨_, rfl⟩
        rw [ev] at x6
        have q1 : (0 : Int) ≤ k := by omega
        have q2 : (k : Int) < np := by omega
        have Ev : Hid (pre.getD k 0 = v) := Lib.hid ev
        clear hb hcell ev
        by_cases hin : v ∈ zs
        · obtain ⟨y, hy, rfl, hrP, hgr⟩ := Take.out v hin (fun _ => Ev.out.symm) (fun hh => absurd hh (by rw [lp.out]; omega))
          have Gr2 := Lib.hid hgr
          have HA : Hid (hasB zs (nx m y : Int) = true) := Lib.hid (by rw [hasB_in]; exact decide_eq_true hin)
          have RP := Lib.hid hrP
          clear hgr hin hrP
          go_wp2_with fail
          refine (containsI_any _ c2 m2 zs _ w2 _ S2.out.ri_ S2.out.hid (by omega) true HA).mono ?_
          rintro e w' ⟨rfl, rfl⟩
          go_wp2_with fail
          refine (specWithEntry base g N k (nx m y) y cc M c L m w2 C2.out Ss2.out.ri_ MP hlt hy (Lib.hid rfl) RP).mono ?_
          rintro e w3 ⟨A3, c3, rfl, s3, b3⟩
          have S3 : Hid (Slc w3 w.heap.size A3 N c3 (compL (c.rep k y) m)) := Lib.hid (s3.mono Be2.out.size)
          have Be3 : Hid (Below w.heap.size w w3) := Lib.hid (btr Be2.out b3)
          clear s3 b3
          go_wp2_with fail
          go_roundw
          case rel => exact ⟨k + 1, _, _, _, by omega, by go_num, rfl, S3.out, Gr2.out, Be3.out⟩
          case measure => simp [intOf]; omega
        · have HA : Hid (hasB zs v = false) := Lib.hid (by rw [hasB_in]; exact decide_eq_false hin)
          have No : Hid (NoMem N gs pre) := Lib.hid (Gr.out.no HW.out hN1 hN hg.out hlt (by rw [lp.out]; exact hl) (by rw [Ev.out]; exact fun h => hin (P2.out.mem_iff.2 h)))
          have S3 := Lib.hid (Slc.lit0 w2 w.heap.size Be2.out.size)
          have hz2 := Be2.out.size
          clear hin
          go_wp2_with fail
          refine (containsI_any _ c2 m2 zs _ w2 _ S2.out.ri_ S2.out.hid (by omega) false HA).mono ?_
          rintro e w' ⟨rfl, rfl⟩
          go_wp2_with fail
          go_ret2
          exact ⟨_, _, _, [], false, rfl, S3.out, .inr ⟨rfl, rfl, No.out⟩, Be2.out.alloc hz2 _⟩
      · have hin : v0 ∈ zs := by
          rw [← V0.out, List.getD_eq_getElem?_getD, List.getElem?_eq_getElem (by rw [S2.out.1]; exact hm2)]
          exact List.getElem_mem _
        have hmin : ∀ u ∈ zs, v0 ≤ u := fun u hu => by
          obtain ⟨t, ht, e⟩ := List.mem_iff_getElem.1 hu
          have h0 := hm2
          rw [← S2.out.1] at h0
          rw [← V0.out, List.getD_eq_getElem?_getD, List.getElem?_eq_getElem h0, ← e]
          show zs[0] ≤ zs[t]
          rcases Nat.eq_zero_or_pos t with rfl | hp
          · exact Int.le_refl _
          · exact (List.pairwise_iff_getElem.1 O2.out) 0 t h0 ht hp
        obtain ⟨y, hy, hvy, hrP, hgr⟩ := Take.out v0 hin (fun hh => absurd hh (by rw [lp.out]; omega)) (fun _ => hmin)
        have Gr2 := Lib.hid hgr
        have HA : Hid (hasB zs (nx m y : Int) = true) := Lib.hid (by rw [hasB_in, ← hvy]; exact decide_eq_true hin)
        have RP := Lib.hid hrP
        subst hvy
        clear hgr hin hrP hmin V0
        go_wp2_with fail
        refine (containsI_any _ c2 m2 zs _ w2 _ S2.out.ri_ S2.out.hid (by omega) true HA).mono ?_
        rintro e w' ⟨rfl, rfl⟩
        go_wp2_with fail
        refine (specWithEntry base g N k (nx m y) y cc M c L m w2 C2.out Ss2.out.ri_ MP hlt hy (Lib.hid rfl) RP).mono ?_
        rintro e w3 ⟨A3, c3, rfl, s3, b3⟩
        have S3 : Hid (Slc w3 w.heap.size A3 N c3 (compL (c.rep k y) m)) := Lib.hid (s3.mono Be2.out.size)
        have Be3 : Hid (Below w.heap.size w w3) := Lib.hid (btr Be2.out b3)
        clear s3 b3
        go_wp2_with fail
        go_roundw
        case rel => exact ⟨k + 1, _, _, _, by omega, by go_num, rfl, S3.out, Gr2.out, Be3.out⟩
        case measure => simp [intOf]; omega
    · obtain rfl : k = N := by omega
      go_wp2_with fail
      go_ret2
      exact ⟨_, _, _, m, true, rfl, Ss.out, .inl ⟨rfl, Gr.out⟩, Be.out⟩
end Go.Proofs.Ytooafmifbplbhaa
