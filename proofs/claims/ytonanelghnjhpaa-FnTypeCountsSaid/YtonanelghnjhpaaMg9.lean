/- Part 9 of the texts: WalkN5, PcG, PcS, Nmd5. No condition of its own: each text tells its own. -/
import Derived.Test.YtonanelghnjhpaaMg8
import Derived.Test.YtonanelghnjhpaaMg6
import Derived.Test.YtonanelghnjhpaaMg7
set_option linter.unusedVariables false
set_option linter.unusedSimpArgs false

/- The walk of the law FnTypeCounts: it returns true at every input, and writes nothing that was there. No condition but the program's own contract. -/
namespace Go.Proofs.Ytonanelghnjhpaa
open Go.RowKit

theorem IsCty.ones {N : Nat} {gs : List (List Int)} {v : Int} (hf : Few (N : Int) gs) (hg : ∀ g ∈ gs, Pn N g) (h1 : 1 ≤ N) (h2 : N ≤ 20) (h : IsCty (N : Int) gs (List.replicate N (1 : Int)) v) : v = 1 := by
  rcases h with ⟨_, c, hc, rfl⟩ | ⟨hn, _⟩
  · rw [Int.toNat_natCast] at hc
    have : c = 1 := hc.uniq ((crd_one (idL N)).congr fun q => ⟨fun e => by subst e; exact ⟨.one, (ctype_ones (pn_id h1 h2)).2 rfl⟩, fun ⟨a, b⟩ => (ctype_ones (a.pn hg h1 h2)).1 b⟩)
    rw [this]; rfl
  · exact absurd hf hn

set_option maxHeartbeats 8000000 in
set_option maxRecDepth 100000 in
theorem lawTypeCounts (ICt : CtImsI 38 IsCty) (A : Option Addr) (cap len : Nat) (w : World) (hb : SB w w.heap.size A len) :
    Calls Try.prog 6 #[.slice A len cap] w fun e w' => e = .returned (.bool true) ∧ Below w.heap.size w w' := by
  by_cases hl : len ≤ 4096
  · go_enter Try.func6, Try.ntmps6
    go_wp2_with fail
    refine (bigF4 A len cap w hl).mono ?_
    rintro e w0 ⟨rfl, rfl⟩
    go_wp2_with fail
    refine (drawCty len cap A w hb hl).mono ?_
    rintro e w1 ⟨z, A1, m, c, vs, xss, P, np, cp, p, rfl, hB, gi, si, b1⟩
    have G1 := Lib.hid gi
    have S1 := Lib.hid si
    have HB := Lib.hid hB
    have B1 := Lib.hid b1
    clear gi si b1 hB hb
    go_wp2_with fail
    refine (ICt z A1 m c vs xss P np cp p w1 G1.out S1.out HB.out).mono ?_
    rintro e w2 ⟨v, rfl, rv, b2⟩
    have Rv := Lib.hid rv
    have S2 := Lib.hid (S1.out.up b2)
    have G2 := Lib.hid (G1.out.up b2)
    have B2 : Hid (Below w.heap.size w w2) := Lib.hid (btr B1.out b2)
    clear rv b2
    go_wp2_with fail
    refine (ctCty z A1 m c vs xss P np cp p w2 G2.out S2.out HB.out).mono ?_
    rintro e w3 ⟨v', rfl, rv', b3⟩
    obtain rfl : v' = v := rv'.uniq Rv.out
    have G3 := Lib.hid (G2.out.up b3)
    have B3 : Hid (Below w.heap.size w w3) := Lib.hid (btr B2.out b3)
    have ne1 : (v' != v') = false := by simp
    clear rv' b3
    go_wp2_with fail
    refine (specGS z A1 m c vs xss w3 G3.out.rr G3.out.hn (Lib.hid G3.out.hl) HB.out).mono ?_
    rintro e w4 ⟨rfl, b4⟩
    have G4 := Lib.hid (G3.out.up b4)
    have B4 : Hid (Below w.heap.size w w4) := Lib.hid (btr B3.out b4)
    clear b4
    rcases hq : gB z xss with _ | _
    · obtain rfl : v' = -1 := by
        rcases Rv.out with ⟨⟨e, _⟩, _⟩ | ⟨_, e⟩
        · rw [hq] at e; cases e
        · exact e
      clear hq ne1
      go_wp2_with fail
      go_ret
      exact ⟨rfl, B4.out⟩
    · obtain ⟨N, rfl, hN1, hN2, hg8, hpm, hok⟩ := gB_pm hq
      have Ok : Hid (∀ g ∈ xss, Pn N g) := Lib.hid hok
      have Hq := Lib.hid hq
      have P0 := Lib.hid (Slc.lit0 w4 w4.heap.size (Nat.le_refl _))
      clear hq hpm hok ne1
      go_wp2_with fail
      go_loopw [7, 8] (fun v i wr => ∃ (k cc : Nat) (A' : Option Addr), k ≤ N ∧ i = .int .i64 (k : Nat) ∧ v = .slice A' k cc ∧ Slc wr w4.heap.size A' k cc (List.replicate k (1 : Int)) ∧ Below w4.heap.size w4 wr) (fun _ i _ => N - (intOf i).toNat)
      case atStart => exact ⟨0, _, _, Nat.zero_le _, rfl, rfl, P0.out, (Below.refl _ _).alloc (Nat.le_refl _) _⟩
      case round =>
        clear P0
        obtain ⟨k, cc, A', hk, rfl, rfl, hp, bel⟩ := hrel
        have P8 := Lib.hid hp
        have Be := Lib.hid bel
        have hz8 := bel.size
        clear hp bel
        by_cases hlt : k < N
        · go_wp2_with (first | (at_builtin; refine wpList_app1 rfl _ _ rfl w4.heap.size A' k cc _ rfl (P8.out.alloc _) wr.heap.size (1 : Int) rfl (by rw [World.cell?_alloc_at _ _ _ _ rfl]; rfl) (by omega) (by simp; omega) ?_; intro A10 c10 w10 s10 g10
                                have B10 : Hid (Below w4.heap.size w4 w10) := Lib.hid ((Be.out.alloc hz8 _).grown g10 (by simp; omega) (fun j hj => (P8.out.lt_ j hj).1))
                                have P10 : Hid (Slc w10 w4.heap.size A10 (k + 1) c10 (List.replicate (k + 1) (1 : Int))) := Lib.hid (by rw [List.replicate_succ']; exact s10)
                                clear s10 g10))
          go_roundw
          case rel => exact ⟨k + 1, _, _, by omega, by go_num, rfl, P10.out, B10.out⟩
          case measure => simp [intOf]; omega
        · obtain rfl : k = N := by omega
          have G8 := Lib.hid (G4.out.up Be.out)
          have B8 : Hid (Below w.heap.size w wr) := Lib.hid (btr B4.out Be.out)
          have S8 : Hid (SIn wr A' k cc (List.replicate k (1 : Int))) := Lib.hid ⟨P8.out.ri_, P8.out.1, by omega, P8.out.le.1⟩
          go_wp2_with fail
          refine (ctOrd k A1 m c vs xss wr G8.out HB.out).mono ?_
          rintro e w9 ⟨v9, rfl, rv9, b9⟩
          have G9 := Lib.hid (G8.out.up b9)
          have S9 := Lib.hid (S8.out.up b9)
          have B9 : Hid (Below w.heap.size w w9) := Lib.hid (btr B8.out b9)
          have Fw : Hid (¬ 3000 < v9 → Few (k : Int) xss) := Lib.hid fun h3 => by
            rcases rv9 with ⟨_, xs, hx, rfl⟩ | ⟨e, _⟩
            · rw [Int.toNat_natCast] at hx
              obtain ⟨V, hV, eV, _⟩ := hx.ordB Ok.out hN1 hN2
              exact ⟨Hq.out, V, by rw [Int.toNat_natCast]; exact hV, by omega⟩
            · have := Hq.out; rw [this] at e; cases e
          clear rv9 b9
          by_cases h3 : 3000 < v9
          · have d1 : decide (3000 < v9) = true := decide_eq_true h3
            have d2 : decide (v9 > 3000) = true := decide_eq_true h3
            go_wp2_with fail
            go_ret
            exact ⟨rfl, B9.out⟩
          · have d1 : decide (3000 < v9) = false := decide_eq_false h3
            have d2 : decide (v9 > 3000) = false := decide_eq_false h3
            go_wp2_with fail
            refine (ICt k A1 m c vs xss A' k cc _ w9 G9.out S9.out HB.out).mono ?_
            rintro e w10 ⟨v10, rfl, r10, b10⟩
            obtain rfl : v10 = 1 := IsCty.ones (Fw.out h3) Ok.out hN1 hN2 r10
            have B10 : Hid (Below w.heap.size w w10) := Lib.hid (btr B9.out b10)
            clear r10 b10
            go_wp2_with fail
            go_ret
            exact ⟨rfl, B10.out⟩
  · clear hb
    go_enter Try.func6, Try.ntmps6
    go_wp2_with fail
    refine (bigT4 A len cap w (by omega)).mono ?_
    rintro e w0 ⟨rfl, rfl⟩
    go_wp2_with fail
    go_ret
    exact ⟨rfl, Below.refl _ _⟩
end Go.Proofs.Ytonanelghnjhpaa

/- The program's smallestLike and MemberWithPrefix. Conditions: at most 1048576 lists of at most 1048576 numbers. -/
namespace Go.Proofs.Ytonanelghnjhpaa
open Go.RowKit


end Go.Proofs.Ytonanelghnjhpaa

/- The program's StrongGeneratingSet and SameGroup. Conditions: at most 1048576 lists of at most 1048576 numbers. -/
namespace Go.Proofs.Ytonanelghnjhpaa
open Go.RowKit

/-- As many, and all of them among the others: the same. -/
theorem Crd.same {P Q : List Int → Prop} {v : Nat} (hP : Crd P v) (hQ : Crd Q v) (h : ∀ p, P p → Q p) : ∀ p, Q p → P p := fun p hp => by
  obtain ⟨l, d, m, e⟩ := hP
  obtain ⟨l', d', m', e'⟩ := hQ
  refine (m p).1 ?_
  by_cases hm : p ∈ l
  · exact hm
  · exfalso
    have hnd : (p :: l).Nodup := List.nodup_cons.2 ⟨hm, d⟩
    have := nd_subA hnd fun x hx => by
      rcases List.mem_cons.1 hx with rfl | hx
      · exact (m' _).2 hp
      · exact (m' x).2 (h x ((m x).1 hx))
    simp at this; omega
theorem preOf_at {N k y : Nat} {g : List Int} (hf : Fx k g) (e : nx g k = y) : ∀ i, i < k + 1 → (nx g i : Int) = (preOf (k, y)).getD i 0 := fun i hi => by
  unfold preOf
  rcases Nat.lt_or_ge i k with hl | hl
  · rw [getD_app _ _ _ i (by rw [idL_length]; exact hl), idL_getD hl, hf i hl]
  · obtain rfl : i = k := by omega
    rw [getD_snoc _ _ _ i (by rw [idL_length]), e]
theorem preOf_len (k y : Nat) : (preOf (k, y)).length = k + 1 := by unfold preOf; rw [List.length_append, idL_length]; rfl


set_option maxHeartbeats 8000000 in
set_option maxRecDepth 100000 in
/-- SameGroup. -/
theorem implSameGroup : CtImmB 25 IsSam := by
  intro a A n c vs xss Q m cm us yss w g s _
  have HX := Lib.hid g.rr
  have HY := Lib.hid s.rr
  have hlx : Hid (xss.length = n) := Lib.hid g.rr.lx
  have hly : Hid (yss.length = m) := Lib.hid s.rr.lx
  have hn := g.hn
  have hm := s.hn
  have hl := Lib.hid g.hl
  have hl2 := Lib.hid s.hl
  clear g s
  go_enter Try.func25, Try.ntmps25
  rcases hs : gB a xss with _ | _
  · have Fin : Hid (IsSam a xss yss false) := Lib.hid ⟨fun h => (by cases h), fun h => (by have := h.1; rw [hs] at this; cases this)⟩
    have Hs := Lib.hid hs
    clear hs
    go_wp2_with (first
      | (go_at_call 56; refine (implGS a A n c vs xss w HX.out hn hl).mono ?_; rintro e w1 ⟨rfl, b1⟩; rw [Hs.out]; have B1 := Lib.hid b1; clear b1))
    go_ret
    exact ⟨_, rfl, Fin.out, B1.out⟩
  · have Hs := Lib.hid hs
    rcases hs2 : gB a yss with _ | _
    · have Fin : Hid (IsSam a xss yss false) := Lib.hid ⟨fun h => (by cases h), fun h => (by have := h.2.1; rw [hs2] at this; cases this)⟩
      have Hs2 := Lib.hid hs2
      clear hs hs2
      go_wp2_with (first
        | (go_at_call_of 56 (Value.slice A n c); refine (implGS a A n c vs xss w HX.out hn hl).mono ?_; rintro e w1 ⟨rfl, b1⟩; rw [Hs.out]; have B1 := Lib.hid b1; clear b1)
        | (go_at_call_of 56 (Value.slice Q m cm); refine (implGS a Q m cm us yss w1 (HY.out.up B1.out) hm hl2).mono ?_; rintro e w2 ⟨rfl, b2⟩; rw [Hs2.out]; have B2 := Lib.hid b2; clear b2))
      go_ret
      exact ⟨_, rfl, Fin.out, btr B1.out B2.out⟩
    · obtain ⟨N, rfl, hN1, hN2, hg8, hpm, hok⟩ := gB_pm hs
      obtain ⟨N', eN, _, _, hg8b, _, hok2⟩ := gB_pm hs2
      obtain rfl : N = N' := by omega
      have Hs2 := Lib.hid hs2
      have Ok := Lib.hid hok
      have Ok2 := Lib.hid hok2
      have hn8 : n ≤ 8 := by rw [← hlx.out]; exact hg8
      have hm8 : m ≤ 8 := by rw [← hly.out]; exact hg8b
      clear hs hs2 hpm hok hok2 hg8 hg8b eN
      go_wp2_with (first
        | (go_at_call_of 56 (Value.slice A n c); refine (implGS N A n c vs xss w HX.out hn hl).mono ?_; rintro e w1 ⟨rfl, b1⟩; rw [Hs.out]; have B1 := Lib.hid b1; clear b1)
        | (go_at_call_of 56 (Value.slice Q m cm); refine (implGS N Q m cm us yss w1 (HY.out.up B1.out) hm hl2).mono ?_; rintro e w2 ⟨rfl, b2⟩; rw [Hs2.out]; have B2 : Hid (Below w.heap.size w w2) := Lib.hid (btr B1.out b2); clear b2)
        | (go_at_call 57; refine (implChainOf N m cm Q us yss w2 (HY.out.up B2.out) hN1 hN2 hm8 Ok2).mono ?_; rintro e w3 ⟨ch, L, M, rfl, hc, ho, hw, b3⟩; have W3 := Lib.hid hw; have C3 := Lib.hid hc; have O3 := Lib.hid ho; have B3 : Hid (Below w.heap.size w w3) := Lib.hid (btr B2.out b3); clear hc ho hw b3))
      go_loopg [9, 25] n (fun gg _ jv wr => ∃ j : Nat, j ≤ n ∧ n - j ≤ gg ∧ jv = .int .i64 (j : Nat) ∧ (∀ t, t < j → Mb yss N (xss.getD t [])) ∧ Below w3.heap.size w3 wr)
      case atStart => exact ⟨0, Nat.zero_le _, by omega, rfl, fun t ht => absurd ht (by omega), Below.refl _ _⟩
      case round =>
        obtain ⟨j, hj, hgg, rfl, hall, bel⟩ := hrel
        have All := Lib.hid hall
        have Be : Hid (Below w.heap.size w wr) := Lib.hid (btr B3.out bel)
        have Be3 := Lib.hid bel
        have Cj := Lib.hid (C3.out.up bel)
        clear hall bel
        by_cases hlt : j < n
        · obtain ⟨b, off, A5, l, c5, y, rfl, hb, hv, ey, x1, ri, ly, hl5⟩ := (HX.out.up Be.out).at_ hlt
          have hym : y ∈ xss := by rw [← ey]; exact getD_memL (by rw [hlx.out]; exact hlt)
          have hyP := Ok.out y hym
          obtain rfl : l = N := by omega
          have YP : Hid (Pn l y) := Lib.hid hyP
          have Ri := Lib.hid ri
          have Ey := Lib.hid ey
          obtain ⟨ans, hans⟩ := boolOf (Mb yss l y)
          have Ha := Lib.hid hans
          have Hym := Lib.hid hym
          have q0 : (0 : Int) ≤ j := by omega
          have q1 : (j : Int) < n := by omega
          clear hv ey hb ri hyP hans hym
          go_wp2_with fail
          refine (implContains w2.heap.size l 0 c5 M ch L A5 y wr Cj.out (by omega) (Lib.hid W3.out.up) hN2 Ri.out YP (Lib.hid Fx.zero) ans (Lib.hid (Ha.out.trans (W3.out.mem y).symm))).mono ?_
          rintro e w4 ⟨rfl, b4⟩
          have B4 : Hid (Below w3.heap.size w3 w4) := Lib.hid (btr Be3.out b4)
          clear b4
          rcases ans with _ | _
          · have Fin : Hid (IsSam l xss yss false) := Lib.hid ⟨fun h => (by cases h), fun h => (by
              have h3 := h.2.2.2 y Hym.out
              rw [Int.toNat_natCast] at h3
              exact absurd (Ha.out.2 h3) (by decide))⟩
            have B5 : Hid (Below w.heap.size w w4) := Lib.hid (btr B3.out B4.out)
            go_wp2_with fail
            go_ret
            exact ⟨_, rfl, Fin.out, B5.out⟩
          · go_wp2_with fail
            go_roundg (n - (j + 1))
            case rel => exact ⟨j + 1, by omega, by omega, by go_num, fun t ht => by
              rcases Nat.lt_or_ge t j with h | h
              · exact All.out t h
              · obtain rfl : t = j := by omega
                rw [Ey.out]; exact Ha.out.1 (by trivial), B4.out⟩
            case measure => omega
        · obtain rfl : j = n := by omega
          have Sub : Hid (∀ g ∈ xss, Mb yss N g) := Lib.hid fun g hg => by
            obtain ⟨t, ht, rfl⟩ := mem_at hg
            exact All.out t (by rw [← hlx.out]; exact ht)
          go_wp2_with fail
          refine (implChainOf N j c A vs xss wr (HX.out.up Be.out) hN1 hN2 hn8 Ok).mono ?_
          rintro e w5 ⟨ch2, L2, M2, rfl, hc5, ho5, hw5, b5⟩
          have B5 : Hid (Below w.heap.size w w5) := Lib.hid (btr Be.out b5)
          have K1 := implOrder wr.heap.size N 0 0 M2 ch2 L2 xss w5 hc5 ho5 (Lib.hid hw5) (Nat.le_refl _) (Nat.zero_le _) hN1 hN2 (Lib.hid Ok.out)
          have K2 := implOrder w2.heap.size N 0 0 M ch L yss w5 (Cj.out.up b5) O3.out W3 (Nat.le_refl _) (Nat.zero_le _) hN1 hN2 (Lib.hid Ok2.out)
          rw [ptr_at (by omega)] at K1 K2
          have o1 := hw5.os hN1 hN2
          have o2 := W3.out.os hN1 hN2
          obtain ⟨v1, cr1, e1⟩ := o1.order Ok.out hN1 hN2
          obtain ⟨v2, cr2, e2⟩ := o2.order Ok2.out hN1 hN2
          have f1 : prodL (osL N ch2 N) = pr (osL N ch2 N) 0 (N - 0) := by rw [prodL_pr, osL_len]; rfl
          have f2 : prodL (osL N ch N) = pr (osL N ch N) 0 (N - 0) := by rw [prodL_pr, osL_len]; rfl
          rw [f1] at e1
          rw [f2] at e2
          have hsub : ∀ p, Mb xss N p → Mb yss N p := fun p hp => hp.sub hN1 hN2 Ok2.out Sub.out
          have Fin : Hid (IsSam N xss yss (pr (osL N ch2 N) 0 (N - 0) == pr (osL N ch N) 0 (N - 0))) := Lib.hid (by
            unfold IsSam
            rw [beq_iff_eq, e1, e2]
            constructor
            · intro h
              have hv : v1 = v2 := by omega
              subst hv
              refine ⟨Hs.out, Hs2.out, fun g hg => ?_, fun g hg => ?_⟩
              · rw [Int.toNat_natCast]
                exact cr1.same cr2 hsub g (.of (Ok2.out g hg) hg)
              · rw [Int.toNat_natCast]; exact Sub.out g hg
            · intro h
              have h3 := h.2.2.1
              rw [Int.toNat_natCast] at h3
              have := (cr1.congr fun p => ⟨hsub p, fun hp => hp.sub hN1 hN2 Ok.out h3⟩).uniq cr2
              omega)
          have Kh1 := Lib.hid K1
          have Kh2 := Lib.hid K2
          clear K1 K2 hc5 ho5 hw5 b5 o1 o2 cr1 cr2 e1 e2 f1 f2 hsub
          go_wp2_with fail
          refine Kh1.out.mono ?_
          rintro e w6 ⟨rfl, rfl⟩
          go_wp2_with fail
          refine Kh2.out.mono ?_
          rintro e w7 ⟨rfl, rfl⟩
          go_wp2_with fail
          go_ret
          exact ⟨_, rfl, Fin.out, B5.out⟩
end Go.Proofs.Ytonanelghnjhpaa

/- The four named laws of chapter 5, with the program's contracts put in. Conditions: none beyond those of the texts imported. -/
namespace Go.Proofs.Ytonanelghnjhpaa
open Go.RowKit
theorem nmdChainOrder (A : Option Addr) (cap len : Nat) (w : World) (hb : SB w w.heap.size A len) :
    Calls Try.prog 3 #[.slice A len cap] w fun e w' => e = .returned (.bool true) ∧ Below w.heap.size w w' :=
  lawChainOrder implGroupOrder implOrbitSizes implMembers implSameGroup A cap len w hb
theorem nmdRanks (A : Option Addr) (cap len : Nat) (w : World) (hb : SB w w.heap.size A len) :
    Calls Try.prog 4 #[.slice A len cap] w fun e w' => e = .returned (.bool true) ∧ Below w.heap.size w w' :=
  lawRanks implMemberAt implNextMember implRank implCountMembersBelow implIsMember A cap len w hb
theorem nmdRandomMembers (A : Option Addr) (cap len : Nat) (w : World) (hb : SB w w.heap.size A len) :
    Calls Try.prog 5 #[.slice A len cap] w fun e w' => e = .returned (.bool true) ∧ Below w.heap.size w w' :=
  lawRandomMembers implRandomMember implFirst implRank implIsMember A cap len w hb
theorem nmdTypeCounts (A : Option Addr) (cap len : Nat) (w : World) (hb : SB w w.heap.size A len) :
    Calls Try.prog 6 #[.slice A len cap] w fun e w' => e = .returned (.bool true) ∧ Below w.heap.size w w' :=
  lawTypeCounts implCountMembersOfType A cap len w hb
end Go.Proofs.Ytonanelghnjhpaa
