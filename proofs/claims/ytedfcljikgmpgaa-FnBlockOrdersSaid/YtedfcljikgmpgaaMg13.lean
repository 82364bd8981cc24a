/- Part 13 of the texts: BlO, WalkJ7, Nmj7. No condition of its own: each text tells its own. -/
import Derived.Test.YtedfcljikgmpgaaMg6
import Derived.Test.YtedfcljikgmpgaaMg5
import Derived.Test.YtedfcljikgmpgaaMg11
set_option linter.unusedVariables false
set_option linter.unusedSimpArgs false

/- The order of a group is the order of its action on the blocks, times that of what keeps each of them. Condition: at most 20 points. -/
namespace Go.Proofs.Ytedfcljikgmpgaa

section
variable {N u i j : Nat} {bl gs : List (List Int)} {p q g : List Int}
theorem nx_act (hi : i < bl.length) : nx (actL bl g) i = bi bl (nx g ((bl.getD i []).getD 0 0).toNat) := by
  unfold nx actL
  rw [List.getD_eq_getElem?_getD, List.getElem?_map, List.getElem?_eq_getElem hi, List.getD_eq_getElem?_getD (l := bl), List.getElem?_eq_getElem hi]
  simp [nx]
theorem act_bi (h : Prt N bl) (hr : Rsp N bl g) (hu : u < N) : nx (actL bl g) (bi bl u) = bi bl (nx g u) := by
  have hl := h.bi_lt hu
  rw [nx_act hl]
  have h1 := h.head hl
  exact hr _ _ (by omega) hu (h.head_bi hl)
theorem act_len1 (h : Prt N bl) (h1 : 1 ≤ N) : 1 ≤ bl.length := by have := h.bi_lt (x := 0) (by omega); omega
theorem act_pn (h : Prt N bl) (h1 : 1 ≤ N) (h2 : N ≤ 20) (hg : Pn N g) (hr : Rsp N bl g) : Pn bl.length (actL bl g) := by
  have hv : ∀ i, i < bl.length → (actL bl g).getD i 0 = (nx (actL bl g) i : Int) ∧ nx (actL bl g) i < bl.length := fun i hi => by
    have hh := h.head hi
    refine ⟨?_, by rw [nx_act hi]; exact h.bi_lt (hg.lt (by omega))⟩
    have e : (actL bl g).getD i 0 = ((bi bl (nx g ((bl.getD i []).getD 0 0).toNat) : Nat) : Int) := by
      unfold actL
      rw [List.getD_eq_getElem?_getD, List.getElem?_map, List.getElem?_eq_getElem hi, List.getD_eq_getElem?_getD (l := bl), List.getElem?_eq_getElem hi]
      simp
    rw [e, nx_act hi]
  have hle := h.len_le
  refine ⟨⟨by rw [actL_len]; exact act_len1 h h1, by rw [actL_len]; omega, fun i hi => ?_, fun i hi => ?_, fun i j hi hj e => ?_⟩, actL_len⟩
  · rw [actL_len] at hi; rw [(hv i hi).1]; omega
  · rw [actL_len] at hi ⊢; rw [(hv i hi).1]; have := (hv i hi).2; omega
  · rw [actL_len] at hi hj
    rw [(hv i hi).1, (hv j hj).1, nx_act hi, nx_act hj] at e
    have e := Int.ofNat_inj.1 e
    have hi' := h.head hi
    have hj' := h.head hj
    have := hr.inv hg h1 h2 _ _ (hg.lt (by omega)) (hg.lt (by omega)) e
    change bi bl (nx (iv g) (nx g _)) = bi bl (nx (iv g) (nx g _)) at this
    rw [hg.nxi (by omega), hg.nxi (by omega), h.head_bi hi, h.head_bi hj] at this
    exact this
theorem act_id (h : Prt N bl) (h1 : 1 ≤ N) (h2 : N ≤ 20) : actL bl (idL N) = idL bl.length := by
  have hr : Rsp N bl (idL N) := fun u v hu hv e => by show bi bl (nx (idL N) u) = bi bl (nx (idL N) v); rw [nx_id hu, nx_id hv]; exact e
  have hle := h.len_le
  refine (act_pn h h1 h2 (pn_id h1 h2) hr).ext (pn_id (act_len1 h h1) (by omega)) fun i hi => ?_
  have hh := h.head hi
  rw [nx_act hi, nx_id hi, nx_id (by omega), h.head_bi hi]
theorem act_comp (h : Prt N bl) (h1 : 1 ≤ N) (h2 : N ≤ 20) (hp : Pn N p) (hq : Pn N q) (rp : Rsp N bl p) (rq : Rsp N bl q) : actL bl (compL p q) = compL (actL bl p) (actL bl q) := by
  have rc : Rsp N bl (compL p q) := fun u v hu hv e => by
    show bi bl (nx (compL p q) u) = bi bl (nx (compL p q) v)
    rw [hp.nxc hu, hp.nxc hv]
    exact rq _ _ (hp.lt hu) (hp.lt hv) (rp u v hu hv e)
  have ap := act_pn h h1 h2 hp rp
  refine (act_pn h h1 h2 (hp.comp hq) rc).ext (ap.comp (act_pn h h1 h2 hq rq)) fun i hi => ?_
  have hh := h.head hi
  rw [nx_act hi, hp.nxc (by omega), ap.nxc hi, nx_act hi, act_bi h rq (hp.lt (by omega))]
/-- The action's members are the images of the group's. -/
theorem mb_act (h : Prt N bl) (h1 : 1 ≤ N) (h2 : N ≤ 20) (ok : ∀ g ∈ gs, Pn N g) (rs : ∀ g ∈ gs, Rsp N bl g) : Mb (gs.map (actL bl)) bl.length q ↔ ∃ p, Mb gs N p ∧ q = actL bl p := by
  constructor
  · intro hq
    induction hq with
    | one => exact ⟨idL N, .one, (act_id h h1 h2).symm⟩
    | mul _ hg ih =>
      obtain ⟨p, hp, rfl⟩ := ih
      obtain ⟨g', hg', rfl⟩ := List.mem_map.1 hg
      exact ⟨compL p g', .mul hp hg', (act_comp h h1 h2 (hp.pn ok h1 h2) (ok g' hg') (Rsp.mb ok h1 h2 rs hp) (rs g' hg')).symm⟩
  · rintro ⟨p, hp, rfl⟩
    induction hp with
    | one => rw [act_id h h1 h2]; exact .one
    | mul hp hg ih => rw [act_comp h h1 h2 (hp.pn ok h1 h2) (ok _ hg) (Rsp.mb ok h1 h2 rs hp) (rs _ hg)]; exact .mul ih (List.mem_map.2 ⟨_, hg, rfl⟩)
/-- The order of the action divides the order of the group. -/
theorem act_dvd {V W : Nat} (h : Prt N bl) (h1 : 1 ≤ N) (h2 : N ≤ 20) (ok : ∀ g ∈ gs, Pn N g) (rs : ∀ g ∈ gs, Rsp N bl g) (cV : Crd (Mb gs N) V) (cW : Crd (Mb (gs.map (actL bl)) bl.length) W) : ∃ k, V = W * k := by
  have hG := sgp_mb ok h1 h2
  have pn : ∀ p, Mb gs N p → Pn N p := fun p hp => hp.pn ok h1 h2
  have rm : ∀ p, Mb gs N p → Rsp N bl p := fun p hp => Rsp.mb ok h1 h2 rs hp
  have ac : ∀ p q, Mb gs N p → Mb gs N q → actL bl (compL p q) = compL (actL bl p) (actL bl q) := fun p q hp hq => act_comp h h1 h2 (pn p hp) (pn q hq) (rm p hp) (rm q hq)
  have ap : ∀ p, Mb gs N p → Pn bl.length (actL bl p) := fun p hp => act_pn h h1 h2 (pn p hp) (rm p hp)
  let K : List Int → Prop := fun p => Mb gs N p ∧ actL bl p = idL bl.length
  have hK : Sgp N K := by
    refine ⟨fun p hp => pn p hp.1, ⟨.one, act_id h h1 h2⟩, fun p q hp hq => ⟨hG.mul p q hp.1 hq.1, ?_⟩, fun p hp => ⟨hG.inv p hp.1, ?_⟩⟩
    · rw [ac p q hp.1 hq.1, hp.2, (ap q hq.1).idl]; exact hq.2
    · have e := ac p (iv p) hp.1 (hG.inv p hp.1)
      rw [(pn p hp.1).ci, act_id h h1 h2, hp.2, (ap _ (hG.inv p hp.1)).idl] at e
      exact e.symm
  have hle : ∀ p, K p → Mb gs N p := fun p hp => hp.1
  obtain ⟨c, cK⟩ := crd_ex cV hle
  obtain ⟨k, ck, e⟩ := lagr hG hK hle cV cK
  have cosA : ∀ p q, Mb gs N p → Mb gs N q → (actL bl p = actL bl q ↔ Cos K p q) := fun p q hp hq => by
    rw [cos_iff hK (pn p hp) (pn q hq)]
    have e := ac q (iv p) hq (hG.inv p hp)
    have e2 := ac p (iv p) hp (hG.inv p hp)
    rw [(pn p hp).ci, act_id h h1 h2] at e2
    constructor
    · intro e3
      exact ⟨hG.mul _ _ hq (hG.inv p hp), by rw [e, ← e3, ← e2]⟩
    · rintro ⟨_, e3⟩
      rw [e] at e3
      exact (cancel_r (ap q hq) (ap p hp) (ap _ (hG.inv p hp)) (e3.trans e2)).symm
  have ci : Crd (Mb (gs.map (actL bl)) bl.length) k := by
    refine ck.map (actL bl) (fun p hp q hq e3 => ?_) fun q => ?_
    · exact ((CMin.same hK (pn p hp.1) (pn q hq.1) hp.2 hq.2).1 ((cosA p q hp.1 hq.1).1 e3))
    · rw [mb_act h h1 h2 ok rs]
      constructor
      · rintro ⟨p, hp, rfl⟩
        obtain ⟨m, hm⟩ := CMin.ex hK cK (pn p hp)
        obtain ⟨t, ht, rfl⟩ := hm.1
        have gm := hG.mul _ _ ht.1 hp
        have hc : Cos K p (compL t p) := ⟨t, ht, rfl⟩
        exact ⟨compL t p, ⟨gm, hm.cos hK (pn p hp) hc⟩, (cosA p _ hp gm).2 hc⟩
      · rintro ⟨p, hp, rfl⟩
        exact ⟨p, hp.1, rfl⟩
  obtain rfl := ci.uniq cW
  exact ⟨c, e⟩
end

/-- What the orders of a block system's action and kernel tell. -/
theorem act_ords {a v k o u : Int} {gs bl : List (List Int)} (hb : BS a gs bl) (h1 : IsBao a gs bl v) (h2 : IsBko a gs bl k) (h3 : IsOrd a gs o) (h4 : IsOrd (bl.length : Int) (gs.map (actL bl)) u) : v = u ∧ v * k = o ∧ 0 ≤ o ∧ o ≤ 2432902008176640000 := by
  obtain ⟨N, rfl, hN1, hN2, hg8, _, ok⟩ := gB_pm hb.1
  have hp := hb.2.1
  have hr := hb.2.2
  rw [Int.toNat_natCast] at hp hr
  have ok : ∀ g ∈ gs, Pn N g := ok
  have hle := hp.len_le
  have hM := act_len1 hp hN1
  have hgA : gB (bl.length : Int) (gs.map (actL bl)) = true := gB_iff.2 ⟨by omega, by omega, by rw [List.length_map]; exact hg8, fun g hg => by
    obtain ⟨g', hg', rfl⟩ := List.mem_map.1 hg
    have := act_pn hp hN1 hN2 (ok g' hg') (hr g' hg')
    exact ⟨by rw [this.2], isP_iff.2 this.1⟩⟩
  have e1 : v = u := by
    rcases h1 with ⟨_, h⟩ | ⟨hn, _⟩
    · exact h.uniq h4
    · exact absurd hb hn
  obtain ⟨V, rfl, cV, l1, l2⟩ := ord_nat h3 hb.1
  obtain ⟨W, rfl, cW, l3, l4⟩ := ord_nat h4 hgA
  rw [Int.toNat_natCast] at cV cW
  obtain ⟨q, hq⟩ := act_dvd hp hN1 hN2 ok hr cV cW
  subst e1
  refine ⟨rfl, ?_, by omega, by omega⟩
  obtain ⟨k', hk', h2⟩ := h2
  obtain rfl := hk'.uniq h1
  rcases h2 with ⟨e, _⟩ | ⟨_, o', ho', rfl⟩
  · omega
  · obtain rfl := ho'.uniq h3
    rw [hq, ← Int.ofNat_tdiv, Nat.mul_div_cancel_left _ (by omega), Int.natCast_mul]
end Go.Proofs.Ytedfcljikgmpgaa

/- The walk of the law FnBlockOrders: it returns true at every input, and writes nothing that was there. No condition. -/
namespace Go.Proofs.Ytedfcljikgmpgaa
open Go.RowKit

theorem GIn.ofA {w : World} {bo bi n c : Nat} {A : Option Addr} {vs : List SV} {l : List (List Int)} (h : SS w bo bi A n c vs l) (hb : l.length ≤ 20 ∧ ∀ y ∈ l, y.length ≤ 20) : GIn w A n vs l ∧ n ≤ 20 ∧ Hid (∀ i, i < n → (l.getD i []).length ≤ 1048576) := by
  have hr : ∀ i, i < n → (l.getD i []).length ≤ 20 := fun i hi => hb.2 _ (by
    rw [List.getD_eq_getElem?_getD, List.getElem?_eq_getElem (by rw [h.lx]; exact hi)]; exact List.getElem_mem _)
  have hn : n ≤ 20 := by rw [← h.lx]; exact hb.1
  exact ⟨⟨h.rr, by omega, fun i hi => by rw [← (h.row i hi).1]; have := hr i hi; omega⟩, hn, Lib.hid fun i hi => by have := hr i hi; omega⟩

set_option maxHeartbeats 16000000 in
set_option maxRecDepth 100000 in
theorem lawBlockOrders (A : Option Addr) (cap len : Nat) (w : World) (hb : SB w w.heap.size A len) :
    Calls Try.prog 12 #[.slice A len cap] w fun e w' => e = .returned (.bool true) ∧ Below w.heap.size w w' := by
  by_cases hl : len ≤ 4096
  · go_enter Try.func12, Try.ntmps12
    go_wp2_with fail
    refine (bigF4 A len cap w hl).mono ?_
    rintro e w0 ⟨rfl, rfl⟩
    go_wp2_with fail
    refine (drawBA len cap A w hb hl).mono ?_
    rintro e w1 ⟨z, A1, m, c, vs, xss, B, k, d, us, yss, rfl, hB, gi, gj, hk, _, b1⟩
    have G1 := Lib.hid gi
    have Y1 := Lib.hid gj
    have HB := Lib.hid hB
    have Lk : Hid (yss.length = k) := Lib.hid gj.rr.lx
    have B1 := Lib.hid b1
    clear gi gj hB b1 hb
    go_wp2_with fail
    refine (implBlockAction z A1 m c vs xss B k d us yss w1 G1.out Y1.out HB.out).mono ?_
    rintro e w2 ⟨A2, n2, c2, us2, l2, ok, rfl, s2, r2, b2⟩
    have R2 := Lib.hid r2
    obtain ⟨gi2, hn2, Ll2⟩ := GIn.ofA s2 r2.len
    have I2 := Lib.hid gi2
    have G2 := Lib.hid (G1.out.up b2)
    have Y2 := Lib.hid (Y1.out.up b2)
    have B2 : Hid (Below w.heap.size w w2) := Lib.hid (btr B1.out b2)
    clear gi2 s2 r2 b2 G1 Y1
    go_wp2_with fail
    refine (ctAct z A1 m c vs xss B k d us yss w2 G2.out Y2.out HB.out).mono ?_
    rintro e w3 ⟨A3, n3, c3, us3, l3, ok', rfl, s3, r3, b3⟩
    obtain ⟨e3, e3'⟩ := r3.uniq R2.out
    subst e3 e3'
    obtain ⟨gi3, hn3, Ll3⟩ := GIn.ofA s3 r3.len
    have W3 := Lib.hid gi3
    have I3 := Lib.hid (I2.out.up b3)
    have G3 := Lib.hid (G2.out.up b3)
    have Y3 := Lib.hid (Y2.out.up b3)
    have B3 : Hid (Below w.heap.size w w3) := Lib.hid (btr B2.out b3)
    have ne1 : (ok' != ok') = false := by simp
    clear gi3 s3 r3 b3 G2 Y2 I2
    go_wp2_with fail
    refine (likeRR_same A2 A3 n2 c2 n3 c3 us2 us3 l3 w3 I3.out.rr W3.out.rr (by omega) Ll2).mono ?_
    rintro e w4 ⟨rfl, b4⟩
    have W4 := Lib.hid (W3.out.up b4)
    have G4 := Lib.hid (G3.out.up b4)
    have Y4 := Lib.hid (Y3.out.up b4)
    have B4 : Hid (Below w.heap.size w w4) := Lib.hid (btr B3.out b4)
    clear b4 G3 Y3 I3 W3
    go_wp2_with fail
    refine (implBlockActionOrder z A1 m c vs xss B k d us yss w4 G4.out Y4.out HB.out).mono ?_
    rintro e w5 ⟨a, rfl, r5, b5⟩
    have R5 := Lib.hid r5
    have W5 := Lib.hid (W4.out.up b5)
    have G5 := Lib.hid (G4.out.up b5)
    have Y5 := Lib.hid (Y4.out.up b5)
    have B5 : Hid (Below w.heap.size w w5) := Lib.hid (btr B4.out b5)
    clear r5 b5 G4 Y4 W4
    go_wp2_with fail
    refine (implBlockKernelOrder z A1 m c vs xss B k d us yss w5 G5.out Y5.out HB.out).mono ?_
    rintro e w6 ⟨q, rfl, r6, b6⟩
    have R6 := Lib.hid r6
    have W6 := Lib.hid (W5.out.up b6)
    have G6 := Lib.hid (G5.out.up b6)
    have B6 : Hid (Below w.heap.size w w6) := Lib.hid (btr B5.out b6)
    clear r6 b6 G5 Y5 W5
    rcases ok' with _ | _
    · have hno : ¬ BS z xss yss := by
        rcases R2.out with ⟨_, _, e⟩ | ⟨h, _⟩
        · cases e
        · exact h
      obtain rfl : a = 0 := by
        rcases R5.out with ⟨h, _⟩ | ⟨_, e⟩
        · exact absurd h hno
        · exact e
      obtain rfl : q = 0 := by
        obtain ⟨k', hk', h⟩ := R6.out
        obtain rfl := hk'.uniq R5.out
        rcases h with ⟨_, e⟩ | ⟨hne, _⟩
        · exact e
        · exact absurd rfl hne
      go_wp2_with fail
      go_ret
      exact ⟨rfl, B6.out⟩
    · have hbs : BS z xss yss ∧ l3 = xss.map (actL yss) := by
        rcases R2.out with ⟨h, e, _⟩ | ⟨_, _, e⟩
        · exact ⟨h, e⟩
        · cases e
      have Bs := Lib.hid hbs.1
      have El := Lib.hid hbs.2
      clear hbs
      obtain ⟨X, hX⟩ : ∃ X, IntKind.i64.wrap (a * q) = X := ⟨_, rfl⟩
      have EX := Lib.hid hX
      go_wp2_with fail
      refine (ctOrd z A1 m c vs xss w6 G6.out HB.out).mono ?_
      rintro e w7 ⟨o, rfl, r7, b7⟩
      have R7 := Lib.hid r7
      have W7 := Lib.hid (W6.out.up b7)
      have B7 : Hid (Below w.heap.size w w7) := Lib.hid (btr B6.out b7)
      have KO : Hid (∀ v, IsOrd (k : Int) l3 v → a = v ∧ X = o) := Lib.hid fun v hv => by
        rw [El.out, ← Lk.out] at hv
        obtain ⟨h1, h2, h3, h4⟩ := act_ords Bs.out R5.out R6.out R7.out hv
        refine ⟨h1, ?_⟩
        rw [← EX.out, h2, IntKind.wrap_i64]
        omega
      obtain rfl : X = o := (KO.out a (by
        rcases R5.out with ⟨_, h⟩ | ⟨hn, _⟩
        · rw [El.out, ← Lk.out]; exact h
        · exact absurd Bs.out hn)).2
      have eq1 : (X == X) = true := by simp
      have IK : Hid (I64 (k : Int)) := Lib.hid (by unfold I64; omega)
      clear r7 b7 G6 W6
      go_wp2_with fail
      refine (ctOrd k A3 n3 c3 us3 l3 w7 W7.out IK.out).mono ?_
      rintro e w8 ⟨v, rfl, r8, b8⟩
      obtain rfl : a = v := (KO.out v r8).1
      have eq2 : (a == a) = true := by simp
      have B8 : Hid (Below w.heap.size w w8) := Lib.hid (btr B7.out b8)
      clear r8 b8
      go_wp2_with fail
      go_ret
      exact ⟨rfl, B8.out⟩
  · go_enter Try.func12, Try.ntmps12
    go_wp2_with fail
    refine (bigT4 A len cap w (by omega)).mono ?_
    rintro e w0 ⟨rfl, rfl⟩
    go_wp2_with fail
    go_ret
    exact ⟨rfl, Below.refl _ _⟩
end Go.Proofs.Ytedfcljikgmpgaa

/- The law FnBlockOrders and what its frame says of the bytes. Conditions: none beyond those of the texts imported. -/
namespace Go.Proofs.Ytedfcljikgmpgaa
open Go.RowKit
theorem nmdBlockOrders (A : Option Addr) (cap len : Nat) (w : World) (hb : SB w w.heap.size A len) :
    Calls Try.prog 12 #[.slice A len cap] w fun e w' => e = .returned (.bool true) ∧ Below w.heap.size w w' :=
  lawBlockOrders A cap len w hb
end Go.Proofs.Ytedfcljikgmpgaa
