/- Part 8 of the texts: MpD, ItG, MpE, MpF, MpG, MpH, MpI, MpJ, Arg. No condition of its own: each text tells its own. -/
import Derived.Test.YtcjcmhoalomjfaaMg7
import Derived.Test.YtcjcmhoalomjfaaMg4
import Derived.Test.YtcjcmhoalomjfaaMg1
import Derived.Test.YtcjcmhoalomjfaaMg6
import Derived.Test.YtcjcmhoalomjfaaMg2
import Derived.RangeFuncNested
import Derived.RangeFuncBound
import Derived.RangeFuncCalls
import Derived.RangeFuncLeaves
import Derived.OwnWalkIn
import Derived.TacticsInMore
import Derived.LoopNIn
import Derived.LoopIn
import Derived.Shelf.SlSortCmp.Insertion
import Derived.Shelf.SlSortCmp.Whole1
import Derived.ChangeArms
import Derived.ProofKit
import Derived.OpenShut
import Derived.ChangeSlices
set_option linter.unusedVariables false
set_option linter.unusedSimpArgs false

/- cosetsWithin. Conditions: at most 20 points, 8 generators, 200 cosets. -/
namespace Go.Proofs.Ytcjcmhoalomjfaa
open Go.RowKit

section
variable {w w' : World} {bi b N : Nat} {U : List (List Int)} {S : List Int → Prop} {D : DataW Value}
theorem CS.made (w : World) (bi N : Nat) {U : List (List Int)} (hP : ∀ p, p ∈ U → Pn N p) (hc : U.length ≤ 200) : CS (w.alloc (.map #[] 0)) bi w.heap.size N U (fun _ => False) (.map []) :=
  ⟨World.ownsMap_made _ _ _ _, fun _ (h : False) => h.elim, hP, hc, fun p _ => ⟨fun h => (by cases h), fun (h : False) => h.elim⟩, fun _ h => (by cases h), fun _ (h : False) => h.elim⟩
theorem CS.del (h : CS w bi b N U S D) {n : Nat} {p : List Int} (hP : Pn N p) (hg : w.grownBy w' (some b)) (ho : w'.ownsMap Try.prog 56 Rv b n (D.del (kO p))) : CS w' bi b N U (fun q => S q ∧ q ≠ p) (D.del (kO p)) := by
  obtain ⟨es, clock, hb, _⟩ := h.own
  refine ⟨ownsMap_tight ho, fun q hq => h.inU q hq.1, h.pn, h.cap, fun q hq => ?_, fun kl hkl => ?_, fun q hq => ?_⟩
  · by_cases e : q = p
    · subst e
      rw [Maps.has_del_same]
      exact ⟨fun h => (by cases h), fun h => absurd rfl h.2⟩
    · rw [Maps.has_del_other (fun he => e (kO_inj hq hP he)), h.has q hq]
      exact ⟨fun x => ⟨x, e⟩, fun x => x.1⟩
  · by_cases e : kl = kO p
    · rw [e, Maps.has_del_same] at hkl; cases hkl
    · rw [Maps.has_del_other e] at hkl
      exact h.key kl hkl
  · obtain ⟨A', cp', h1, h2⟩ := h.row q hq.1
    refine ⟨A', cp', fun zd => ?_, h2.kept hg (.inr (own_ne h2 hb))⟩
    rw [Maps.atKey_del_other (fun he => hq.2 (kO_inj (h.pn q (h.inU q hq.1)) hP he))]; exact h1 zd
theorem CS.size_lt {w2 : World} {b2 : Nat} {S2 : List Int → Prop} {D2 : DataW Value} (h : CS w bi b N U S D) (h2 : CS w2 bi b2 N U S2 D2) (hs : ∀ p, S p → S2 p) {p : List Int} (hp : S2 p) (hn : ¬ S p) : Maps.size D < Maps.size D2 := by
  obtain ⟨es, rfl, hd, hl⟩ := h.own.entries lawK
  obtain ⟨es2, rfl, hd2, hl2⟩ := h2.own.entries lawK
  rw [Maps.size_eq, Maps.size_eq]
  have h1 : (es.map Prod.fst).Nodup := List.pairwise_map.2 hd
  have hpP := h2.pn p (h2.inU p hp)
  have hin : ∀ kl, Maps.has (.map es2) kl = true → kl ∈ es2.map Prod.fst := fun kl hk => by
    rw [Maps.has_eq, List.any_eq_true] at hk
    obtain ⟨x, hx, e⟩ := hk
    exact List.mem_map.2 ⟨x, hx, WideAt.sameKey_eq e⟩
  haveI : DecidableEq Lit := fun a b => Classical.propDecidable (a = b)
  have := nd_subA (l' := kO p :: es.map Prod.fst) (l := es2.map Prod.fst) (List.nodup_cons.2 ⟨fun hm => by
    obtain ⟨x, hx, e⟩ := List.mem_map.1 hm
    have hh := has_mem hx (hl x hx)
    rw [e] at hh
    exact hn ((h.has p hpP).1 hh), h1⟩) fun x hx => by
    rcases List.mem_cons.1 hx with rfl | hx
    · exact hin _ ((h2.has p hpP).2 hp)
    · obtain ⟨y, hy, rfl⟩ := List.mem_map.1 hx
      have hh := has_mem hy (hl y hy)
      obtain ⟨q, hq, e⟩ := h.key _ hh
      rw [e] at hh ⊢
      exact hin _ ((h2.has q hq).2 (hs q ((h.has q hq).1 hh)))
  simp only [List.length_cons, List.length_map] at this
  omega
theorem CS.drew (h : CS w bi b N U S D) : CS w.drew bi b N U S D :=
  ⟨h.own.drew, h.inU, h.pn, h.cap, h.has, h.key, fun p hp => by
    obtain ⟨A, cp, h1, h2⟩ := h.row p hp
    exact ⟨A, cp, h1, h2.drewN 1⟩⟩
theorem CS.some (h : CS w bi b N U S D) (hs : 0 < Maps.size D) : ∃ p, S p := by
  obtain ⟨es, rfl, hd, hl⟩ := h.own.entries lawK
  rcases es with _ | ⟨x, t⟩
  · exact absurd hs (by simp [Maps.size_eq])
  · have hh := has_mem (x := x) (es := x :: t) (by simp) (hl x (by simp))
    obtain ⟨p, hp, e⟩ := h.key _ hh
    rw [e] at hh
    exact ⟨p, (h.has p hp).1 hh⟩
theorem CS.none (h : CS w bi b N U S D) (hs : Maps.size D = 0) : ∀ p, ¬ S p := fun p hp => by
  obtain ⟨es, rfl, hd, hl⟩ := h.own.entries lawK
  have hh := (h.has p (h.pn p (h.inU p hp))).2 hp
  rw [Maps.size_eq] at hs
  rw [List.eq_nil_of_length_eq_zero hs, Maps.has_eq] at hh
  cases hh
end

/-- What holds ahead of each round: found and newest are cosets of the group, apart, and from found every generator leads to one of them. -/
structure CwI (N : Nat) (hs gs U : List (List Int)) (F E : List Int → Prop) : Prop where
  one : F (idL N) ∨ E (idL N)
  apart : ∀ p, E p → ¬ F p
  cl : ∀ p, F p → ∀ g ∈ gs, ∀ m, CMin N (Mb hs N) (compL p g) m → F m ∨ E m
theorem CwI.step {N : Nat} {hs gs U : List (List Int)} {F E : List Int → Prop} (h : CwI N hs gs U F E) : CwI N hs gs U (fun m => F m ∨ E m) (fun m => (∃ p, E p ∧ ∃ g ∈ gs, CMin N (Mb hs N) (compL p g) m) ∧ ¬ (F m ∨ E m)) :=
  ⟨.inl h.one, fun _ hp => hp.2, fun p hp g hg m hm => by
    by_cases hq : F m ∨ E m
    · exact .inl hq
    · rcases hp with hp | hp
      · exact absurd (h.cl p hp g hg m hm) hq
      · exact .inr ⟨⟨p, hp, g, hg, hm⟩, hq⟩⟩
theorem CwI.done {N : Nat} {hs gs U : List (List Int)} {F E : List Int → Prop} (h : CwI N hs gs U F E) (hE : ∀ p, ¬ E p) (h1 : 1 ≤ N) (h2 : N ≤ 20) (hg : ∀ g ∈ hs, Pn N g) (hG : ∀ g ∈ gs, Pn N g) (hU : ∀ p, p ∈ U ↔ Mb gs N p ∧ CMin N (Mb hs N) p p) (hF : ∀ p, F p → p ∈ U) :
    ∀ p, F p ↔ Mb gs N p ∧ CMin N (Mb hs N) p p := by
  haveI : DecidablePred F := fun a => Classical.propDecidable (F a)
  obtain ⟨V, hV, _⟩ := crd_mb hg h1 h2
  have hm : ∀ p, p ∈ U.filter (fun p => decide (F p)) ↔ F p := fun p => by
    rw [List.mem_filter, decide_eq_true_eq]
    exact ⟨fun x => x.2, fun x => ⟨hF p x, x⟩⟩
  intro p
  rw [← hm p]
  refine reps_all (sgp_mb hg h1 h2) hV hG h1 h2 ((hm _).2 (h.one.resolve_right (hE _))) (fun r hr => (hU r).1 (hF r ((hm r).1 hr))) (fun r hr g hgm m hm' => (hm m).2 ((h.cl r ((hm r).1 hr) g hgm m hm').resolve_right (hE m))) p

set_option maxHeartbeats 8000000 in
set_option maxRecDepth 100000 in
theorem implCosetsWithin (base bi N n cp : Nat) (M : Nat → Prop) (c : Ch) (L : Nat → LK) (hs gs U : List (List Int)) (A : Option Addr) (vs : List SV) (w : World)
    (hc : Ck w base N 0 M c L) (ho : Orbs N 0 c L) (hw : Hid (Whole N hs c)) (h1 : 1 ≤ N) (h2 : N ≤ 20) (hg : Hid (∀ g ∈ hs, Pn N g)) (hA : RR w w.heap.size A n vs gs) (hG : Hid (∀ g ∈ gs, IsP g ∧ g.length = N)) (hn : n ≤ 8)
    (hI : Slc w bi ((L 0).en.getD 0 sd0).1 ((L 0).en.getD 0 sd0).2.1 ((L 0).en.getD 0 sd0).2.2 (idL N)) (hbi : bi ≤ w.heap.size) (hU : Hid (∀ p, p ∈ U ↔ Mb gs N p ∧ CMin N (Mb hs N) p p)) (hU2 : Hid (U.length ≤ 200)) (hSub : Hid (∀ p, Mb hs N p → Mb gs N p)) :
    Calls Try.prog 55 #[.pointer (some ⟨(L 0).B, 0, none⟩), .slice A n cp] w fun e w' =>
      ∃ (b' : Nat) (D' : DataW Value), e = .returned (.map (some b')) ∧ CS w' bi b' N U (fun m => Mb gs N m ∧ CMin N (Mb hs N) m m) D' ∧ w.heap.size ≤ b' ∧ Below w.heap.size w w' := by
  have HC := Lib.hid hc
  have HO := Lib.hid ho
  have HA := Lib.hid hA
  have hGP : Hid (∀ g ∈ gs, Pn N g) := Lib.hid fun g hg' => hG.out g hg'
  have hUP : Hid (∀ p, p ∈ U → Pn N p) := Lib.hid fun p hp => ((hU.out p).1 hp).1.pn hGP.out h1 h2
  have hUC : Hid (∀ p, p ∈ U → ∀ g ∈ gs, ∀ m, CMin N (Mb hs N) (compL p g) m → m ∈ U) := Lib.hid fun p hp g hg' m hm => by
    have hS := sgp_mb hg.out h1 h2
    have hS2 := sgp_mb hGP.out h1 h2
    have hpg : Mb gs N (compL p g) := hS2.mul _ _ ((hU.out p).1 hp).1 (Mb.of (hGP.out g hg') hg')
    refine (hU.out m).2 ⟨?_, hm.cos hS (hS2.pn _ hpg) hm.1⟩
    obtain ⟨h, hh, e⟩ := hm.1
    rw [e]
    exact hS2.mul _ _ (hSub.out h hh) hpg
  obtain ⟨x0, _, _, x3, _⟩ := hc.cB (Nat.le_refl 0) (show 0 < N by omega)
  have x5 := hc.cM (Nat.le_refl 0) (show 0 < N by omega) (y := 0) (by omega)
  rcases hde : (L 0).en.getD 0 sd0 with ⟨dA, dn, dc⟩
  rw [hde] at x5 hI
  simp only [sval] at x5
  have hI : Slc w bi dA dn dc (idL N) := hI
  obtain rfl : dn = N := by have := hI.1; rw [idL_length] at this; omega
  have HI := Lib.hid hI
  have hB : (L 0).B < w.heap.size := (hc.lk 0 (Nat.le_refl _) (by omega)).blk.lt
  have hmb : (L 0).mb < w.heap.size := (hc.mlt _ (hc.mm 0 3 _ (Nat.le_refl _) (by omega) (by decide) rfl)).2
  have C5 : Hid (CS ((w.alloc (.map #[] 0)).alloc (.map #[] 0)) bi w.heap.size dn U (fun _ => False) (.map [])) := Lib.hid ((CS.made w bi dn hUP.out hU2.out).up ((Below.refl _ _).alloc (Nat.le_refl _) _))
  have C6 : Hid (CS ((w.alloc (.map #[] 0)).alloc (.map #[] 0)) bi (w.heap.size + 1) dn U (fun _ => False) (.map [])) := Lib.hid (by have := CS.made (w.alloc (.map #[] 0)) bi dn hUP.out hU2.out; rw [show (w.alloc (.map #[] 0)).heap.size = w.heap.size + 1 by simp] at this; exact this)
  have BA : Hid (Below w.heap.size w ((w.alloc (.map #[] 0)).alloc (.map #[] 0))) := Lib.hid (((Below.refl _ w).alloc (Nat.le_refl _) _).alloc (by simp) _)
  have Hr : Hid (w.heap.size < (w.alloc (.map #[] 0)).heap.size) := Lib.hid (by simp)
  clear hc ho hA hI hde
  have hmm := @run_makeMap Try.prog
  go_enter Try.func55, Try.ntmps55
  go_wp2_with fail
  generalize hW2 : (w.alloc (.map #[] 0)).alloc (.map #[] 0) = W2 at C5 C6 BA ⊢
  clear hW2
  obtain ⟨y, hy⟩ : ∃ y : Nat, y = 0 := ⟨0, rfl⟩
  have y0 : W2.cell? ⟨(L 0).B, 0, none⟩ = some (.int .i64 (y : Nat)) := by rw [hy]; exact (BA.out.cell (p := ⟨(L 0).B, 0, none⟩) hB).trans x0
  have y3 := (BA.out.cell (p := ⟨(L 0).B, 3, none⟩) hB).trans x3
  have y5 : W2.cell? ⟨(L 0).mb, y, none⟩ = some (.slice dA dn dc) := by rw [hy]; exact (BA.out.cell (p := ⟨(L 0).mb, 0, none⟩) hmb).trans x5
  have PI : Hid (Pn dn (idL dn)) := Lib.hid (pn_id h1 h2)
  have UI : Hid (idL dn ∈ U) := Lib.hid ((hU.out _).2 ⟨(sgp_mb hGP.out h1 h2).one, cmin_id (sgp_mb hg.out h1 h2)⟩)
  have p2 : (0 : Int) ≤ y := by omega
  have p3 : (y : Int) < dn := by omega
  clear hy
  clear x0 x3 x5
  go_region_held3 (fun w' => w'.cell? ⟨(L 0).B, 0, none⟩ = some (.int .i64 (y : Nat)) ∧ w'.cell? ⟨(L 0).B, 3, none⟩ = some (.slice (some ⟨(L 0).mb, 0, none⟩) dn dn) ∧ w'.cell? ⟨(L 0).mb, y, none⟩ = some (.slice dA dn dc))
    (first | exact ⟨y0, y3, y5⟩ | exact hS1 | go_keep)
    (first
      | (go_at_call 99; refine (implCsAdd bi (w.heap.size + 1) dn dc U (fun _ => False) (.map []) dA (idL dn) _ ?_ ?_ PI UI).mono ?_; (first | exact C6.out | exact C6.out.drew); (exact (HI.out.up BA.out).drewN 1); rintro e w1 ⟨rfl, c1, g1'⟩; have g1 : W2.grownBy w1 (some (w.heap.size + 1)) := ⟨g1'.os, g1'.tape, g1'.output, g1'.size, g1'.block⟩; have hS1 := And.intro (trans (World.cell?_of_block (a := ⟨(L 0).B, 0, none⟩) (g1.block (L 0).B (Nat.lt_of_lt_of_le hB BA.out.size) (by intro e; injection e with e; omega))) y0) (And.intro (trans (World.cell?_of_block (a := ⟨(L 0).B, 3, none⟩) (g1.block (L 0).B (Nat.lt_of_lt_of_le hB BA.out.size) (by intro e; injection e with e; omega))) y3) (trans (World.cell?_of_block (a := ⟨(L 0).mb, y, none⟩) (g1.block (L 0).mb (Nat.lt_of_lt_of_le hmb BA.out.size) (by intro e; injection e with e; omega))) y5))))
  have B1 : Hid (Below w.heap.size w w1) := Lib.hid (BA.out.grown g1 BA.out.size (fun k e => by injection e with e; omega))
  have F1 : Hid (CS w1 bi w.heap.size dn U (fun _ => False) (.map [])) := Lib.hid (C5.out.groK g1 (by omega) C6.out.noCells)
  have E1 := Lib.hid c1
  have I1 : Hid (CwI dn hs gs U (fun _ => False) (fun q => False ∨ q = idL dn)) := Lib.hid ⟨.inr (.inr rfl), fun _ _ h => h, fun _ (h : False) => h.elim⟩
  clear c1 g1 g1' hS1 y0 y3 y5 p2 p3 C5 C6 BA
  go_wp2_with fail
  go_loopg [6, 7] 200 (fun gg nv kv wr => ∃ (F E : List Int → Prop) (DF DE : DataW Value) (bn : Nat), nv = .map (some bn) ∧ w.heap.size < bn ∧ CS wr bi w.heap.size dn U F DF ∧ CS wr bi bn dn U E DE ∧ CwI dn hs gs U F E ∧ 200 - Maps.size DF ≤ gg ∧ Below w.heap.size w wr)
  case atStart => exact ⟨_, _, _, _, _, rfl, by omega, F1.out, E1.out, I1.out, by omega, B1.out⟩
  case round =>
    obtain ⟨F, E, DF, DE, bn, rfl, hbn, hF, hE, hI, hgg, bel⟩ := hrel
    have HF := Lib.hid hF
    have HE := Lib.hid hE
    have HW := Lib.hid hI
    have Be := Lib.hid bel
    have Hbn : Hid (bn < wr.heap.size ∧ w.heap.size < wr.heap.size) := Lib.hid ⟨hE.lt, hF.lt⟩
    clear hF hE hI bel
    by_cases hz : Maps.size DE = 0
    · have Fin : Hid (∀ m, F m ↔ Mb gs dn m ∧ CMin dn (Mb hs dn) m m) := Lib.hid (HW.out.done (HE.out.none hz) h1 h2 hg.out hGP.out hU.out HF.out.inU)
      have hz2 : ((Maps.size DE : Nat) : Int) = 0 := by omega
      go_wp2_with (first | (at_len; refine wpList_len_own _ rfl _ 48 rfl 56 33 Try.underlying48 Rv bn (Maps.size DE) DE rfl HE.out.own ?_; rw [hz2]) | go_in)
      go_ret
      exact ⟨_, DF, rfl, HF.out.ext Fin.out, Nat.le_refl _, Be.out⟩
    · have hz2 : (0 : Int) < ((Maps.size DE : Nat) : Int) := by omega
      have hEx : Hid (∃ p, E p) := Lib.hid (HE.out.some (by omega))
      go_wp2_with (first
        | (at_len; refine wpList_len_own _ rfl _ 48 rfl 56 33 Try.underlying48 Rv bn (Maps.size DE) DE rfl HE.out.own ?_)
        | (go_at_call 100; refine (mapsCopy bi w.heap.size bn dn U F E DF DE wr (by omega) HF.out HE.out).mono ?_; rintro e w2 ⟨DG, rfl, cg, g2⟩
           have B2 : Hid (Below w.heap.size w w2) := Lib.hid (Be.out.grown g2 Be.out.size (fun k e => by injection e with e; omega))
           have F2 := Lib.hid cg
           have E2 : Hid (CS w2 bi bn dn U E DE) := Lib.hid (HE.out.groK g2 (by omega) HF.out.noCells)
           have Sz : Hid (Maps.size DF < Maps.size DG) := Lib.hid (by
             obtain ⟨p, hp⟩ := hEx.out
             exact HF.out.size_lt cg (fun _ h => .inl h) (.inr hp) (HW.out.apart p hp))
           clear cg g2)
        | (go_at_call 101; refine (implNextCosets base bi bn dn n cp M c L hs gs U E DE A vs w2 (HC.out.up B2.out) HO.out hw h1 h2 hg E2.out (HA.out.up B2.out) hG hn (Lib.hid fun p hp => hUC.out p (HE.out.inU p hp))).mono ?_; rintro e w3 ⟨b3, D3, rfl, c3, hb3, b3'⟩
           have B3 : Hid (Below w.heap.size w w3) := Lib.hid (btr B2.out b3')
           have F3 : Hid (CS w3 bi w.heap.size dn U (fun m => F m ∨ E m) DG) := Lib.hid (F2.out.up b3')
           have N3 : Hid (CS w3 bi b3 dn U (fun m => ∃ p, E p ∧ ∃ g ∈ gs, CMin dn (Mb hs dn) (compL p g) m) D3) := Lib.hid (c3.mono (Nat.le_trans hbi B2.out.size))
           have Hb3 : Hid (w.heap.size < b3 ∧ b3 < w3.heap.size) := Lib.hid ⟨by have := F2.out.lt; omega, c3.lt⟩
           clear c3 b3' hb3)
        | (at_range; refine wpList_range_own _ rfl _ 48 rfl 56 33 lawK Try.underlying48 Rv w.heap.size (Maps.size DG) DG rfl F3.out.own ?_; intro w4 hrg4 hg4 hs4)
        | go_in)
      have R4 := Lib.hid hrg4
      have B4 : Hid (Below w.heap.size w w4) := Lib.hid (B3.out.grown hg4 B3.out.size (by simp))
      have F4 : Hid (CS w4 bi w.heap.size dn U (fun m => F m ∨ E m) DG) := Lib.hid (F3.out.gro0 hg4)
      have N4 : Hid (CS w4 bi b3 dn U (fun m => ∃ p, E p ∧ ∃ g ∈ gs, CMin dn (Mb hs dn) (compL p g) m) D3) := Lib.hid (N3.out.gro0 hg4)
      have Hr4 : Hid (w.heap.size < w3.heap.size ∧ b3 ≠ w3.heap.size) := Lib.hid ⟨by have := F3.out.lt; omega, by have := Hb3.out.2; omega⟩
      clear hrg4 hg4 hs4
      go_frame
      generalize hrr : w3.heap.size = r at R4 Hr4 ⊢
      clear hrr
      go_loopg [7] 200 (fun gg2 kv2 wr => ∃ (left : Lit → Bool) (cnt : Nat) (E5 : List Int → Prop) (D5 : DataW Value), cnt ≤ gg2 ∧ wr.ranges Try.prog 56 Rv w.heap.size r (Maps.size DG) DG left cnt ∧ CS wr bi w.heap.size dn U (fun m => F m ∨ E m) DG ∧ CS wr bi b3 dn U E5 D5 ∧ (∀ m, E5 m ↔ (∃ p, E p ∧ ∃ g ∈ gs, CMin dn (Mb hs dn) (compL p g) m) ∧ ¬ ((F m ∨ E m) ∧ left (kO m) = false)) ∧ Below w.heap.size w wr)
      case atStart => exact ⟨Maps.has DG, Maps.size DG, _, D3, F4.out.size, R4.out, F4.out, N4.out, fun m => ⟨fun h => ⟨h, fun ⟨hp, hl⟩ => (by rw [(F4.out.has m (F4.out.pn m (F4.out.inU m hp))).2 hp] at hl; cases hl)⟩, fun h => h.1⟩, B4.out⟩
      case round =>
        obtain ⟨left, cnt, E5, D5, hgg5, hrg, hf5, he5, hS5, bel5⟩ := hrel
        have Rg := Lib.hid hrg
        have F5 := Lib.hid hf5
        have C5 := Lib.hid he5
        have S5 := Lib.hid hS5
        have B5 := Lib.hid bel5
        clear hrg hf5 he5 hS5 bel5
        go_wp2_with (first | (at_next; refine wpList_next_ranges _ rfl _ rfl 56 lawK Rv id id (fun key _ _ => ⟨key, rfl⟩) (fun v _ _ => ⟨v, rfl⟩) w.heap.size r (Maps.size DG) DG left cnt rfl Rg.out ?_ ?_) | go_in)
        · intro hc0 hl0
          have Fin : Hid (∀ m, E5 m ↔ ((∃ p, E p ∧ ∃ g ∈ gs, CMin dn (Mb hs dn) (compL p g) m) ∧ ¬ (F m ∨ E m))) := Lib.hid fun m => by
            rw [S5.out m]
            exact ⟨fun h => ⟨h.1, fun x => h.2 ⟨x, hl0 _⟩⟩, fun h => ⟨h.1, fun x => h.2 x.1⟩⟩
          have I5 : Hid (CwI dn hs gs U (fun m => F m ∨ E m) (fun m => (∃ p, E p ∧ ∃ g ∈ gs, CMin dn (Mb hs dn) (compL p g) m) ∧ ¬ (F m ∨ E m))) := Lib.hid HW.out.step
          have C6 := Lib.hid (C5.out.ext Fin.out)
          clear hc0 hl0
          go_wp2_with fail
          go_roundg (200 - Maps.size DG)
          case rel => exact ⟨_, _, DG, D5, b3, rfl, Hb3.out.1, F5.out, C6.out, I5.out, Nat.le_refl _, B5.out⟩
          case measure => have := Sz.out; have := F5.out.size; omega
        · intro key v kl y ps w5 cnt1 hkey hlk hv hat hrg1 hlt hg1 hs1 hen
          obtain ⟨p, Ap, cpp, hpP, hp, rfl, rfl, rfl, hs', rfl⟩ := F5.out.entry (left_of Rg.out hlk) hkey hv hat
          have PP := Lib.hid hpP
          have Hp := Lib.hid hp
          have Hlt := Lib.hid hlt
          have Ba : Hid (Below w.heap.size w (w5.alloc (.cells (arrC p) 56))) := Lib.hid ((B5.out.grown hg1 B5.out.size (fun k e => by injection e with e; have := Hr4.out; omega)).alloc (by have := F5.out.lt; omega) _)
          have Ca : Hid (CS (w5.alloc (.cells (arrC p) 56)) bi b3 dn U E5 D5) := Lib.hid ((C5.out.groK hg1 Hr4.out.2 (rg_noCells Rg.out)).up ((Below.refl _ _).alloc (Nat.le_refl _) _))
          have Fa : Hid (CS (w5.alloc (.cells (arrC p) 56)) bi w.heap.size dn U (fun m => F m ∨ E m) DG) := Lib.hid ((F5.out.groK hg1 (by have := Hr4.out; omega) (rg_noCells Rg.out)).up ((Below.refl _ _).alloc (Nat.le_refl _) _))
          have Ra : Hid ((w5.alloc (.cells (arrC p) 56)).ranges Try.prog 56 Rv w.heap.size r (Maps.size DG) DG (fun z => left z && !z.sameKey (kO p)) cnt1) := Lib.hid (hrg1.alloc _)
          clear hat hrg1 hp hpP hlk hg1 hs1 hkey hv hlt hs'
          go_wp2_with (first
            | (refine wpList_stK (o := ⟨none, .store _ _ _, _, _, _, _⟩) rfl _ _ rfl rfl rfl rfl (arrC_size p) (arrC_one p) ?_)
            | (refine wpList_ldK (o := ⟨some 39, _, _, _, _, _⟩) rfl _ rfl w5.heap.size rfl _ (ld_new w5 p) ?_)
            | (at_delete; refine wpList_delete_own _ rfl _ _ 48 56 rfl 33 lawK Try.underlying48 Rv b3 (Maps.size D5) D5 rfl Ca.out.own _ (kO p) rfl (kO_eq PP.out) ?_; intro w6 ho6 ht6)
            | go_in)
          have g6 := ht6.grown
          have C6 := Lib.hid (Ca.out.del PP.out g6 ho6)
          have B6 : Hid (Below w.heap.size w w6) := Lib.hid (Ba.out.grown g6 Ba.out.size (fun k e => by injection e with e; have := Hb3.out; omega))
          have F6 : Hid (CS w6 bi w.heap.size dn U (fun m => F m ∨ E m) DG) := Lib.hid (Fa.out.groK g6 (by have := Hb3.out; omega) Ca.out.noCells)
          have R6 : Hid (w6.ranges Try.prog 56 Rv w.heap.size r (Maps.size DG) DG (fun z => left z && !z.sameKey (kO p)) cnt1) := Lib.hid (Ra.out.kept g6 (fun e => by injection e with e; have := Hb3.out; omega) (fun e => by injection e with e; exact Hr4.out.2 e.symm))
          have Fin : Hid (∀ m, (E5 m ∧ m ≠ p) ↔ (∃ p, E p ∧ ∃ g ∈ gs, CMin dn (Mb hs dn) (compL p g) m) ∧ ¬ ((F m ∨ E m) ∧ (left (kO m) && !(kO m).sameKey (kO p)) = false)) := Lib.hid fun m => by
            rw [S5.out m]
            constructor
            · rintro ⟨⟨h, hn1⟩, hn2⟩
              refine ⟨h, fun ⟨h3, h4⟩ => ?_⟩
              rcases hlq : left (kO m) with _ | _
              · exact hn1 ⟨h3, hlq⟩
              · rw [hlq] at h4
                exact hn2 (kO_inj (F5.out.pn m (F5.out.inU m h3)) PP.out (WideAt.sameKey_eq (by simpa using h4)))
            · rintro ⟨h, hn1⟩
              refine ⟨⟨h, fun ⟨h3, h4⟩ => hn1 ⟨h3, (by simp [h4])⟩⟩, ?_⟩
              rintro rfl
              exact hn1 ⟨Hp.out, (by simp [WideAt.sameKey_self (kO_key PP.out)])⟩
          clear ho6 ht6 g6
          go_wp2_with fail
          go_roundg cnt1
          case rel => exact ⟨_, cnt1, _, _, Nat.le_refl _, R6.out, F6.out, C6.out, Fin.out, B6.out⟩
          case measure => have := Hlt.out; omega
end Go.Proofs.Ytcjcmhoalomjfaa

/- What an iterator's walk needs of blocks, of slices of slices, of append inside a round. No condition. -/
namespace Go.Proofs.Ytcjcmhoalomjfaa
open Go.RowKit
attribute [local go_sem] Oper.semAt_some

/-- From A to C the blocks below b and beyond b + 2 lie as they lay. -/
structure Xk (b : Nat) (A C : World) : Prop where
  os : C.os = A.os
  tape : C.tape = A.tape
  output : C.output = A.output
  size : A.heap.size ≤ C.heap.size
  block : ∀ k, k < A.heap.size → (k < b ∨ b + 2 < k) → C.heap[k]? = A.heap[k]?
theorem Xk.of_grown {b r : Nat} {A C : World} (h : A.grownBy C (some r)) (hr : b ≤ r ∧ r ≤ b + 2) : Xk b A C :=
  ⟨h.os, h.tape, h.output, h.size, fun k hk hb => h.block k hk (fun e => by cases e; omega)⟩
theorem Xk.trans {b : Nat} {A C D : World} (h : Xk b A C) (k : Xk b C D) : Xk b A D :=
  ⟨k.os.trans h.os, k.tape.trans h.tape, k.output.trans h.output, Nat.le_trans h.size k.size, fun i hi hb => (k.block i (Nat.lt_of_lt_of_le hi h.size) hb).trans (h.block i hi hb)⟩
theorem Xk.put {b r : Nat} (A : World) (o : Obj) (hr : b ≤ r ∧ r ≤ b + 2) : Xk b A (A.putObj r o) := Xk.of_grown (grownBy_putObj' A r o) hr
theorem Xk.below {b B : Nat} {A C : World} (h : Xk b A C) (hB : B ≤ b) (hA : B ≤ A.heap.size) : Below B A C := ⟨h.os, h.tape, h.output, h.size, fun k hk => h.block k (by omega) (.inl (by omega))⟩
theorem Slc.xk {b base n c : Nat} {A C : World} {S : Option Addr} {xs : List Int} (h : Slc A base S n c xs) (hk : Xk b A C) (ho : ∀ k, (Value.slice S n c).ownBlock = some k → k < b ∨ b + 2 < k) : Slc C base S n c xs := by
  refine ⟨h.1, h.2.1, ?_⟩
  rcases h.2.2 with hn | ⟨g, cap, cur, e, hb', hg, rest⟩
  · exact .inl hn
  · exact .inr ⟨g, cap, cur, e, hb', by rw [hk.block g (Array.getElem?_eq_some_iff.1 hg).1 (ho g (by rw [e]; rfl))]; exact hg, rest⟩

theorem SS.keptR {w w' : World} {bo bi n c : Nat} {A : Option Addr} {vs : List SV} {xss : List (List Int)} {row : Option Nat} (h : SS w bo bi A n c vs xss) (hg : w.grownBy w' row)
    (ho : (Value.slice A n c).ownBlock = none ∨ (Value.slice A n c).ownBlock ≠ row) (hr : ∀ i, i < n → (sval (vs.getD i sd0)).ownBlock = none ∨ (sval (vs.getD i sd0)).ownBlock ≠ row) : SS w' bo bi A n c vs xss :=
  ⟨World.ownsRow.kept h.own hg ho, h.lv, h.lx, fun i hi' => (h.row i hi').kept hg (hr i hi'), h.dis⟩
theorem SS.xk {b bo bi n c : Nat} {W C : World} {A : Option Addr} {vs : List SV} {xss : List (List Int)} (h : SS W bo bi A n c vs xss) (hk : Xk b W C) (h1 : b + 2 < bo) (h2 : b + 2 < bi) : SS C bo bi A n c vs xss := by
  refine ⟨⟨h.own.1, ?_⟩, h.lv, h.lx, fun i hi => (h.row i hi).xk hk (fun k e => .inr (by have := ((h.row i hi).lt_ k e).1; omega)), h.dis⟩
  rcases h.own.2 with hn | ⟨g, cap, cur, e, hb', hg, rest⟩
  · exact .inl hn
  · exact .inr ⟨g, cap, cur, e, hb', by rw [hk.block g (Array.getElem?_eq_some_iff.1 hg).1 (.inr (by omega))]; exact hg, rest⟩

/-- append of one slice onto a slice of slices of the call's own, inside a round. -/
theorem wpListIn_app2 {F : Fence} {nn : Nat} {w : World} {base bi n c : Nat} {A : Option Addr} {vs : List SV} {xss : List (List Int)} {ops : Array Oper} {rest : List Oper} {o : Oper} {a : Act} {Q : Exit → Act → World → Prop} (hgd : o.guard = none) (s x : Operand)
    (ho : o.op = .call { callee := .builtin .append, args := #[s, x], argTypes := #[24, 24] })
    (hs : a.eval s = .slice A n c) (hss : SS w base bi A n c vs xss) (g : Nat) (dA : Option Addr) (dn dc : Nat) (ys : List Int) (hx : a.eval x = .slice (some ⟨g, 0, none⟩) 1 1)
    (hcell : w.cell? ⟨g, 0, none⟩ = some (.slice dA dn dc)) (hys : Slc w bi dA dn dc ys)
    (hdis : ∀ i, i < n → (sval (vs.getD i sd0)).ownBlock = none ∨ (sval (vs.getD i sd0)).ownBlock ≠ (Value.slice dA dn dc).ownBlock) (hn : n ≤ 1000000000) (hbase : base ≤ w.heap.size)
    (h : ∀ g' c' w', SS w' base bi (some ⟨g', 0, none⟩) (n + 1) c' (vs ++ [(dA, dn, dc)]) (xss ++ [ys]) → w.grownBy w' (Value.slice A n c).ownBlock → wpListIn F nn Try.prog ops Q rest (a.put o.dst (.slice (some ⟨g', 0, none⟩) (n + 1) c')) w') : wpListIn F nn Try.prog ops Q (o :: rest) a w := by
  obtain ⟨i0, hi, hz0, hz1, hz2⟩ := info_parts infoS
  refine wpListIn_append_own w hgd s x 24 ho base 33 i0 (.slice none 0 0) 1 24 Try.underlying24 hi hz0 hz1 hz2 rfl (by decide) _ n _ hs hss.own ⟨g, 0, none⟩ 1 1 [.slice dA dn dc] hx rfl ?_ ?_ ?_ (by omega) hbase ?_
  · intro j v hj
    match j, hj with
    | 0, hj => simp at hj; subst hj; simpa [Addr.add] using hcell
    | j + 1, hj => simp at hj
  · intro v hv; simp at hv; subst hv; rfl
  · unfold maxLen; omega
  · intro v' w' hown' hg _
    have hform : ∃ g' c', v' = .slice (some ⟨g', 0, none⟩) (n + 1) c' := by
      rcases hown'.2 with ⟨rfl, h0⟩ | ⟨g', cap, cur, rfl, _⟩
      · omega
      · exact ⟨_, _, rfl⟩
    obtain ⟨A', c', rfl⟩ := hform
    refine h A' c' w' ⟨?_, by simp [hss.lv], by simp [hss.lx], fun i hi' => ?_, fun i j hij hj => ?_⟩ hg
    · rw [List.map_append]; exact hown'
    · by_cases e : i < n
      · rw [getD_app _ _ _ _ (by rw [hss.lv]; exact e), getD_app _ _ _ _ (by rw [hss.lx]; exact e)]
        exact (hss.row i e).kept hg (apart_types (hss.row i e) hss.own)
      · obtain rfl : i = n := by omega
        rw [getD_snoc _ _ _ _ hss.lv.symm, getD_snoc _ _ _ _ hss.lx.symm]
        exact hys.kept hg (apart_types hys hss.own)
    · rw [getD_app _ _ _ i (by rw [hss.lv]; omega)]
      by_cases e : j < n
      · rw [getD_app _ _ _ j (by rw [hss.lv]; exact e)]; exact hss.dis i j hij e
      · obtain rfl : j = n := by omega
        rw [getD_snoc _ _ _ _ hss.lv.symm]
        exact hdis i hij

theorem take_next {xss : List (List Int)} {i : Nat} (hi : i < xss.length) : xss.take (i + 1) = xss.take i ++ [xss.getD i []] := by
  rw [List.take_succ_eq_append_getElem hi, List.getD_eq_getElem?_getD, List.getElem?_eq_getElem hi]; rfl
/-- A box of another type is not the slice's row. -/
theorem Blk.not_outer {w : World} {b base n : Nat} {v : Value} {cs : Array Value} {ys : List Value} (h : Blk w b 24 cs) (ho : w.ownsRow base 33 1 v n ys) : some b ≠ v.ownBlock := by
  rcases ho.2 with ⟨rfl, _⟩ | ⟨g', cap', cur', rfl, hb', hg', _⟩
  · simp [Value.ownBlock]
  · intro e
    have e2 : b = g' := by simpa [Value.ownBlock] using e
    subst e2
    have := (show w.heap[b]? = _ from h).symm.trans hg'
    simp at this

theorem grown_any {a b : World} {row : Option Nat} (h : a.grownBy b none) : a.grownBy b row := ⟨h.os, h.tape, h.output, h.size, fun k hk _ => h.block k hk (fun e => nomatch e)⟩
end Go.Proofs.Ytcjcmhoalomjfaa

/- The values of a map, collected: a range over the iterator that maps.Values makes. Conditions: at most 20 points, 200 cosets. -/
namespace Go.Proofs.Ytcjcmhoalomjfaa
open Go.RowKit
attribute [local go_sem] Oper.semAt_some

/-- WHAT THE ITERATOR PROMISES: called at the yield of whatever loop, in a world W that begins as w0, it makes block W.heap.size its own and hands the rounds the rows of S, each once, in whatever order; between the rounds it turns that block alone; a round keeps the blocks of w0 and that block. -/
def ItsM (gf : Nat) (lb : Array Value) (w0 : World) (N bi : Nat) (S : List Int → Prop) : Prop :=
  ∀ (l : Nat) (J : List (List Int) → World → Prop) (W : World), (∀ k, k < w0.heap.size → W.heap[k]? = w0.heap[k]?) → w0.heap.size ≤ W.heap.size →
    (∀ xs A C, J xs A → A.grownBy C (some W.heap.size) → J xs C) →
    (∀ xs Ap c p W1 W2, J xs W1 → S p → p ∉ xs → W.heap.size < W1.heap.size → W1.grownBy W2 (some W.heap.size) → Slc w0 bi Ap N c p →
      YieldAt Fence.wide 4 Try.prog l #[.slice Ap N c] W2 fun e W' => e = .returned (.bool true) ∧ J (xs ++ [p]) W' ∧ (∀ k, (k < w0.heap.size ∨ k = W.heap.size) → W'.heap[k]? = W2.heap[k]?) ∧ W2.heap.size ≤ W'.heap.size) →
    J [] W →
    CallsIn Fence.wide 5 Try.prog gf (#[.func (.yield l) #[] #[]] ++ lb) W fun e W' => (∃ v, e = .returned v) ∧ ∃ xs : List (List Int), xs.Nodup ∧ (∀ p, p ∈ xs ↔ S p) ∧ J xs W'

set_option maxHeartbeats 1000000 in
/-- A RANGE OVER IT, whose body always goes on. -/
theorem rangeM {g : Operand} {p : Tmp} {assign body : Code} {Q : Exit → Act → World → Prop} {a : Act} {w w0 : World} {gf : Nat} {lb : Array Value} {N bi : Nat} {S : List Int → Prop}
    (hg : a.eval g = .func (.func gf) #[] lb) (eg : ∀ args w, (callFunc gf args).run Try.prog w = .ok (.enter gf args) w)
    (hs : ItsM gf lb w0 N bi S) (hk0 : ∀ k, k < w0.heap.size → k < w.heap.size ∧ w.heap[k]? = w0.heap[k]?) (hsz : w0.heap.size ≤ w.heap.size)
    (I : List (List Int) → World → Prop) (hI : ∀ i A C, I i A → Xk w.heap.size A C → I i C) (h0 : I [] w) (ax : Value → Act)
    (hassign : ∀ (l : Nat) (v : Value) (W : World) (K : Act → World → Prop), K (ax v) W → assign.wpIn (Fence.wide.inRound l) 4 Try.prog (Exit.then K (fun _ _ _ => False)) { tmps := a.tmps.setIfInBounds p v, defers := [] } W)
    (hbody : ∀ (l : Nat) (i : List (List Int)) (Ap : Option Addr) (c : Nat) (q : List Int) (W1 W2 : World), I i W1 → S q → q ∉ i → w.heap.size + 2 < W1.heap.size → Xk w.heap.size W1 W2 → Slc w0 bi Ap N c q →
      body.wpIn (Fence.wide.inRound l) 4 Try.prog (Exit.then (fun _ W' => I (i ++ [q]) W' ∧ (∀ k, (k < w0.heap.size ∨ (w.heap.size ≤ k ∧ k ≤ w.heap.size + 2)) → W'.heap[k]? = W2.heap[k]?) ∧ W2.heap.size ≤ W'.heap.size) (fun _ _ _ => False)) (ax (.slice Ap N c)) W2)
    (hdone : ∀ W xs, xs.Nodup → (∀ p, p ∈ xs ↔ S p) → I xs W → W.heap[w.heap.size]? = some (.deferred (some [])) → Q .normal { a with defers := { target := .collected w.heap.size, args := #[] } :: a.defers } W) :
    (Code.rangeFunc g #[p] assign body).wpIn Fence.wide 6 Try.prog Q a w := by
  refine wpIn_rangeFunc ?_
  intro fn hfn
  obtain ⟨rc, hrc⟩ : ∃ rc : LoopState → Option Code → Loop, rc = fun st pe => { state := st, pending := pe, fn, tmps := a.tmps, params := #[p], assign, body, defers := w.heap.size } := ⟨_, rfl⟩
  obtain ⟨V, hV⟩ : ∃ V, (w.alloc (.deferred (some []))).alloc (.loop (rc .ready none)) = V := ⟨_, rfl⟩
  have hVs : V.heap.size = w.heap.size + 2 := by rw [← hV]; simp
  have hVl : V.heap[w.heap.size + 1]? = some (.loop (rc .ready none)) := by
    rw [← hV]; have := World.alloc_heap_new (w.alloc (.deferred (some []))) (.loop (rc .ready none)); rwa [World.size_alloc] at this
  have hVd : V.heap[w.heap.size]? = some (.deferred (some [])) := by
    rw [← hV]; exact (Below.heap_alloc _ _ _ (by simp)).trans (World.alloc_heap_new w _)
  have hVk : ∀ k, k < w.heap.size → V.heap[k]? = w.heap[k]? := fun k hk => by
    rw [← hV]; exact (Below.heap_alloc _ _ _ (by simp; omega)).trans (Below.heap_alloc _ _ _ hk)
  have hVx : Xk w.heap.size w V := by
    rw [← hV]; exact ⟨rfl, rfl, rfl, by simp; omega, fun k hk _ => (Below.heap_alloc _ _ _ (by simp; omega)).trans (Below.heap_alloc _ _ _ hk)⟩
  refine ⟨w.heap.size + 1, [{ target := .collected w.heap.size, args := #[] }], V, { target := .fn (.func gf) lb, args := #[.func (.yield (w.heap.size + 1)) #[] #[]] }, V, gf,
    #[.func (.yield (w.heap.size + 1)) #[] #[]] ++ lb, V, ?_, ?_, ?_, ?_, fun _ => by omega, ?_⟩
  · rw [← hV, hrc]; exact run_enterLoop_outer _ _ _ _ _
  · simp only [resolve, hg]
    simp [go_sem]
  · intro f' hf'; trivial
  · simp [invoke, go_sem, eg]
  · refine (hs (w.heap.size + 1) (fun i W => I i W ∧ W.heap[w.heap.size + 1]? = some (.loop (rc .ready none)) ∧ W.heap[w.heap.size]? = some (.deferred (some []))) V
      (fun k hk => (hVk k (hk0 k hk).1).trans (hk0 k hk).2) (by omega) ?_ ?_ ⟨hI [] w V h0 hVx, hVl, hVd⟩).mono ?_
    · rintro i A C ⟨hi, hl, hd⟩ hgr
      rw [hVs] at hgr
      refine ⟨hI i A C hi (Xk.of_grown hgr (by omega)), ?_, ?_⟩
      · exact (hgr.block _ (Array.getElem?_eq_some_iff.1 hl).1 (fun e => by injection e with e; omega)).trans hl
      · exact (hgr.block _ (Array.getElem?_eq_some_iff.1 hd).1 (fun e => by injection e with e; omega)).trans hd
    · rintro i Ap c q W1 W2 ⟨hi, hl, hd⟩ hlt hnx hsz1 hgr hsl
      rw [hVs] at hsz1 hgr
      have hl2 : W2.heap[w.heap.size + 1]? = some (.loop (rc .ready none)) := (hgr.block _ (Array.getElem?_eq_some_iff.1 hl).1 (fun e => by injection e with e; omega)).trans hl
      have hd2 : W2.heap[w.heap.size]? = some (.deferred (some [])) := (hgr.block _ (Array.getElem?_eq_some_iff.1 hd).1 (fun e => by injection e with e; omega)).trans hd
      have hlt2 : w.heap.size + 1 < W2.heap.size := (Array.getElem?_eq_some_iff.1 hl2).1
      have hy := run_yield (P := Try.prog) (args := #[.slice Ap N c]) hl2 (by rw [hrc]; rfl)
      rw [hrc] at hy
      have hy2 : (Instr.yield (w.heap.size + 1) #[.slice Ap N c]).run Try.prog W2 = .ok (.round (w.heap.size + 1) fn (a.tmps.setIfInBounds p (.slice Ap N c)) assign body) W2 := by simpa using hy
      refine ⟨fn, _, assign, body, hy2, roundIn_of_wpIn hfn (hassign _ (.slice Ap N c) W2 _ ?_)⟩
      refine ⟨_, run_beginRound hl2 (by rw [hrc]), ?_⟩
      have hX : Xk w.heap.size W1 (W2.putObj (w.heap.size + 1) (.loop { rc .ready none with state := .busy })) := (Xk.of_grown hgr (by omega)).trans (Xk.put _ _ (by omega))
      have hl3 : (W2.putObj (w.heap.size + 1) (.loop { rc .ready none with state := .busy })).heap[w.heap.size + 1]? = some (.loop { rc .ready none with state := .busy }) := World.putObj_heap_same hlt2
      have hd3 : (W2.putObj (w.heap.size + 1) (.loop { rc .ready none with state := .busy })).heap[w.heap.size]? = some (.deferred (some [])) := (World.putObj_heap_other (by omega)).trans hd2
      refine wpIn_mono (hbody _ i Ap c q W1 _ hi hlt hnx (by omega) hX hsl) ?_
      rintro e a3 W3 hp
      cases e with
      | normal =>
        obtain ⟨hi3, hk3, hs3⟩ := hp
        have hl4 := (hk3 (w.heap.size + 1) (.inr (by omega))).trans hl3
        have hd4 := (hk3 w.heap.size (.inr (by omega))).trans hd3
        have hr := run_endRound (P := Try.prog) none hl4
        refine ⟨_, _, hr, ?_⟩
        rw [World.putObj_size] at hs3
        have h5 : (W3.putObj (w.heap.size + 1) (.loop (rc .ready none))).heap[w.heap.size + 1]? = some (.loop (rc .ready none)) := World.putObj_heap_same (Array.getElem?_eq_some_iff.1 hl4).1
        have e1 : (Loop.mk (if (none : Option Code).isNone then LoopState.ready else .done) none (rc .ready none).fn (rc .ready none).tmps (rc .ready none).params (rc .ready none).assign (rc .ready none).body (rc .ready none).defers) = rc .ready none := by rw [hrc]; rfl
        have e2 : ({ rc .ready none with state := LoopState.busy } : Loop).fn = (rc .ready none).fn := rfl
        refine ⟨rfl, ⟨hI _ _ _ hi3 (Xk.put _ _ (by omega)), ?_, (World.putObj_heap_other (by omega)).trans hd4⟩, ?_, by rw [World.putObj_size]; exact hs3⟩
        · rw [hrc]; rw [World.putObj_heap_same (Array.getElem?_eq_some_iff.1 hl4).1]; rfl
        · intro k hk
          have hne : k ≠ w.heap.size + 1 := by
            rcases hk with hk | hk
            · have := (hk0 k hk).1; omega
            · omega
          refine (World.putObj_heap_other hne).trans ((hk3 k ?_).trans (World.putObj_heap_other hne))
          rcases hk with hk | hk
          · exact .inl hk
          · exact .inr (by omega)
      | ret => exact hp.elim
      | exit id => exact hp.elim
      | goto t => exact hp.elim
      | panic ch => exact hp.elim
      | outgrown => exact hp.elim
    · rintro e W2 ⟨⟨v, rfl⟩, xs, hnd, hxs, hi, hl, hd⟩
      refine ⟨none, _, by have := run_endLoop (P := Try.prog) hl (by rw [hrc]; simp); rw [hrc] at this; exact this, hdone _ xs hnd hxs (hI _ _ _ hi (Xk.put _ _ (by omega))) ((World.putObj_heap_other (by omega)).trans hd)⟩

end Go.Proofs.Ytcjcmhoalomjfaa

/- maps.Values of a map of cosets: the iterator's contract. Conditions: at most 20 points, 200 cosets. -/
namespace Go.Proofs.Ytcjcmhoalomjfaa
open Go.RowKit
attribute [local go_sem] Oper.semAt_some

theorem nodup_snoc {α : Type} {xs : List α} {x : α} (h : xs.Nodup) (hx : x ∉ xs) : (xs ++ [x]).Nodup := by
  rw [List.nodup_append]
  exact ⟨h, (by simp), fun a ha b hb => by rw [List.mem_singleton.1 hb]; rintro rfl; exact hx ha⟩
theorem mapsValues (b : Nat) (w : World) :
    Calls Try.prog 57 #[.map (some b)] w fun e w' => e = .returned (.func (.func 104) #[] #[.pointer (some ⟨w.heap.size, 0, none⟩)]) ∧ w' = w.alloc (.cells #[.map (some b)] 48) := by
  have hmf : ∀ (fn : Fn) (first cap : Array Value) (w : World), (Instr.makeFunc fn first cap).run Try.prog w = .ok (.func fn first cap) w := fun _ _ _ _ => rfl
  go_enter Try.func57, Try.ntmps57
  go_wp2
  go_ret
  exact ⟨rfl, rfl⟩

set_option maxHeartbeats 4000000 in
set_option maxRecDepth 100000 in
/-- THE ITERATOR's CONTRACT. -/
theorem itsVals (N bi b c1 : Nat) (U : List (List Int)) (S : List Int → Prop) (D : DataW Value) (w0 : World) (h : CS w0 bi b N U S D) (h1 : Blk w0 c1 48 #[.map (some b)]) :
    ItsM 104 #[.pointer (some ⟨c1, 0, none⟩)] w0 N bi S := by
  intro l J W hW hsz hJ hY h0
  have HC := Lib.hid h
  have HY := Lib.hid hY
  have HJ := Lib.hid hJ
  have HW := Lib.hid hW
  have c1lt := h1.lt
  have blt := h.lt
  have k1 : W.cell? ⟨c1, 0, none⟩ = some (.map (some b)) := ((show Blk W c1 48 _ from (hW c1 c1lt).trans h1).cell 0)
  have Ow : Hid (W.ownsMap Try.prog 56 Rv b (Maps.size D) D) := Lib.hid (by
    obtain ⟨es, clock, hb, r⟩ := h.own
    exact ⟨es, clock, (hW b blt).trans hb, r⟩)
  clear hY hJ hW h h1
  refine callsIn_wide.2 ?_
  show Calls Try.prog 104 #[.func (.yield l) #[] #[], .pointer (some ⟨c1, 0, none⟩)] W _
  go_enter Try.func104, Try.ntmps104
  go_wp2_with (first | (at_range; refine wpList_range_own _ rfl _ 48 rfl 56 33 lawK Try.underlying48 Rv b (Maps.size D) D rfl Ow.out ?_; intro V hrg0 hg0 hs0) | go_in)
  have R0 := Lib.hid hrg0
  have J0 : Hid (J [] V) := Lib.hid (HJ.out [] W V h0 (grown_any hg0))
  have K0 : Hid (∀ k, k < w0.heap.size → V.heap[k]? = w0.heap[k]?) := Lib.hid fun k hk => (hg0.block k (by omega) (by simp)).trans (HW.out k hk)
  have hVlt : W.heap.size < V.heap.size := by omega
  clear hrg0 hg0 hs0 h0 k1
  go_frame
  refine (wpIn_wide (n := 5)).1 ?_
  gi_loopw [4] (fun v wr => ∃ (xs : List (List Int)) (left : Lit → Bool) (cnt : Nat), wr.ranges Try.prog 56 Rv b W.heap.size (Maps.size D) D left cnt ∧ J xs wr ∧ xs.Nodup ∧ (∀ p, p ∈ xs ↔ S p ∧ left (kO p) = false) ∧ (∀ k, k < w0.heap.size → wr.heap[k]? = w0.heap[k]?) ∧ W.heap.size < wr.heap.size) (fun v wr => wr.rangeLeft b W.heap.size)
  case atStart => exact ⟨[], Maps.has D, Maps.size D, R0.out, J0.out, List.nodup_nil, fun p => ⟨fun h => (by cases h), fun ⟨hp, hl⟩ => (by rw [(HC.out.has p (HC.out.pn p (HC.out.inU p hp))).2 hp] at hl; cases hl)⟩, K0.out, hVlt⟩
  case round =>
    clear R0 J0 K0 hVlt
    obtain ⟨xs, left, cnt, hrg, hj, hnd, hmem, hkp, hlt0⟩ := hrel
    have Rg := Lib.hid hrg
    have Hj := Lib.hid hj
    have Nd := Lib.hid hnd
    have Hm := Lib.hid hmem
    have Kp := Lib.hid hkp
    clear hrg hj hnd hmem hkp
    rcases Rg.out.next lawK 0 with ⟨hc0, hl0, hrun⟩ | ⟨key, v, kl, y, w1, cnt1, hkey, hlk, hv, hat, hrun, hrg1, hlt, hg1, hs1, hen⟩
    · have Fin : Hid (∀ p, p ∈ xs ↔ S p) := Lib.hid fun p => by
        rw [Hm.out p]
        exact ⟨fun h => h.1, fun h => ⟨h, hl0 _⟩⟩
      clear hc0 hl0
      gi_wp2
      go_end0
      exact ⟨⟨_, rfl⟩, xs, Nd.out, Fin.out, Hj.out⟩
    · obtain ⟨p, Ap, cpp, hpP, hp, rfl, rfl, rfl, hs', _⟩ := HC.out.entry (left_of Rg.out hlk) hkey hv hat
      have Hnot : Hid (p ∉ xs) := Lib.hid fun hx => by
        have := ((Hm.out p).1 hx).2
        rw [hlk] at this; cases this
      have PP := Lib.hid hpP
      have Hp := Lib.hid hp
      have Hlt := Lib.hid hlt
      have R1 := Lib.hid hrg1
      have Sl := Lib.hid hs'
      have G1 := Lib.hid hg1
      have Kp1 : Hid (∀ k, k < w0.heap.size → w1.heap[k]? = w0.heap[k]?) := Lib.hid fun k hk => (hg1.block k (by omega) (fun e => by injection e with e; omega)).trans (Kp.out k hk)
      obtain ⟨fn, tmps, assign, body, hy, hR⟩ := HY.out xs Ap cpp p wr w1 Hj.out hp Hnot.out hlt0 hg1 hs'
      have HR := Lib.hid hR
      have hz1 := hg1.size
      clear hat hrg1 hp hpP hlk hg1 hkey hv hlt hs' hR
      gi_wp2
      refine HR.out.mono ?_
      rintro e w3 ⟨rfl, hj3, hk3, hs3⟩
      have Hj3 := Lib.hid hj3
      have Kp3 : Hid (∀ k, k < w0.heap.size → w3.heap[k]? = w0.heap[k]?) := Lib.hid fun k hk => (hk3 k (.inl hk)).trans (Kp1.out k hk)
      have R3 : Hid (w3.ranges Try.prog 56 Rv b W.heap.size (Maps.size D) D (fun z => left z && !z.sameKey (kO p)) cnt1) := Lib.hid (by
        obtain ⟨es, clock, since, seen, c0, hb, F, hs, hD, hr, rest⟩ := R1.out
        exact ⟨es, clock, since, seen, c0, (hk3 b (.inl blt)).trans hb, F, hs, hD, (hk3 _ (.inr rfl)).trans hr, rest⟩)
      have Nd3 : Hid ((xs ++ [p]).Nodup) := Lib.hid (nodup_snoc Nd.out Hnot.out)
      have Fin : Hid (∀ m, m ∈ xs ++ [p] ↔ S m ∧ (left (kO m) && !(kO m).sameKey (kO p)) = false) := Lib.hid fun m => by
        rw [List.mem_append, Hm.out m, List.mem_singleton]
        constructor
        · rintro (⟨h, hl⟩ | rfl)
          · exact ⟨h, (by simp [hl])⟩
          · exact ⟨Hp.out, (by simp [WideAt.sameKey_self (kO_key PP.out)])⟩
        · rintro ⟨h, hl⟩
          rcases hlq : left (kO m) with _ | _
          · exact .inl ⟨h, rfl⟩
          · exact .inr (kO_inj (HC.out.pn m (HC.out.inU m h)) PP.out (WideAt.sameKey_eq (by simpa [hlq] using hl)))
      have E1 := Rg.out.left_eq
      have E3 := R3.out.left_eq
      clear hj3 hk3
      gi_wp2
      go_roundw
      case rel => exact ⟨xs ++ [p], _, cnt1, R3.out, Hj3.out, Nd3.out, Fin.out, Kp3.out, by omega⟩
      case measure => rw [E1, E3]; exact Hlt.out
end Go.Proofs.Ytcjcmhoalomjfaa

/- slices.Collect of the values of a map. Conditions: at most 20 points, 200 cosets. -/
namespace Go.Proofs.Ytcjcmhoalomjfaa
open Go.RowKit
attribute [local go_sem] Oper.semAt_some

theorem wpListIn_app3 {F : Fence} {nn : Nat} {w : World} {base n c : Nat} {A : Option Addr} {us : List SV} {ops : Array Oper} {rest : List Oper} {o : Oper} {a : Act} {Q : Exit → Act → World → Prop} (hgd : o.guard = none) (s x : Operand)
    (ho : o.op = .call { callee := .builtin .append, args := #[s, x], argTypes := #[24, 24] })
    (hs : a.eval s = .slice A n c) (hss : w.ownsRow base 33 1 (.slice A n c) n (us.map sval)) (g : Nat) (dA : Option Addr) (dn dc : Nat) (hx : a.eval x = .slice (some ⟨g, 0, none⟩) 1 1)
    (hcell : w.cell? ⟨g, 0, none⟩ = some (.slice dA dn dc)) (hn : n ≤ 1000000000) (hbase : base ≤ w.heap.size)
    (h : ∀ g' c' w', w'.ownsRow base 33 1 (.slice (some ⟨g', 0, none⟩) (n + 1) c') (n + 1) ((us ++ [(dA, dn, dc)]).map sval) → w.grownBy w' (Value.slice A n c).ownBlock → wpListIn F nn Try.prog ops Q rest (a.put o.dst (.slice (some ⟨g', 0, none⟩) (n + 1) c')) w') : wpListIn F nn Try.prog ops Q (o :: rest) a w := by
  obtain ⟨i0, hi, hz0, hz1, hz2⟩ := info_parts infoS
  refine wpListIn_append_own w hgd s x 24 ho base 33 i0 (.slice none 0 0) 1 24 Try.underlying24 hi hz0 hz1 hz2 rfl (by decide) _ n _ hs hss ⟨g, 0, none⟩ 1 1 [.slice dA dn dc] hx rfl ?_ ?_ ?_ (by omega) hbase ?_
  · intro j v hj
    match j, hj with
    | 0, hj => simp at hj; subst hj; simpa [Addr.add] using hcell
    | j + 1, hj => simp at hj
  · intro v hv; simp at hv; subst hv; rfl
  · unfold maxLen; omega
  · intro v' w' hown' hg _
    have hform : ∃ g' c', v' = .slice (some ⟨g', 0, none⟩) (n + 1) c' := by
      rcases hown'.2 with ⟨rfl, h0⟩ | ⟨g', cap, cur, rfl, _⟩
      · omega
      · exact ⟨_, _, rfl⟩
    obtain ⟨A', c', rfl⟩ := hform
    exact h A' c' w' (by rw [List.map_append]; exact hown') hg
theorem own_xk {b bo n : Nat} {W C : World} {v : Value} {us : List Value} (h : W.ownsRow bo 33 1 v n us) (hk : Xk b W C) (h1 : b + 2 < bo) : C.ownsRow bo 33 1 v n us := by
  refine ⟨h.1, ?_⟩
  rcases h.2 with hn | ⟨g, cap, cur, e, hb', hg, rest⟩
  · exact .inl hn
  · exact .inr ⟨g, cap, cur, e, hb', by rw [hk.block g (Array.getElem?_eq_some_iff.1 hg).1 (.inr (by omega))]; exact hg, rest⟩
/-- The rows that lie in w0. -/
def Rw0 (w0 : World) (bi N : Nat) (us : List SV) (xs : List (List Int)) : Prop := us.length = xs.length ∧ ∀ t, t < xs.length → (us.getD t sd0).2.1 = N ∧ Slc w0 bi (us.getD t sd0).1 N (us.getD t sd0).2.2 (xs.getD t [])
theorem Rw0.snoc {w0 : World} {bi N c : Nat} {us : List SV} {xs : List (List Int)} {A : Option Addr} {p : List Int} (h : Rw0 w0 bi N us xs) (hs : Slc w0 bi A N c p) : Rw0 w0 bi N (us ++ [(A, N, c)]) (xs ++ [p]) := by
  refine ⟨by simp [h.1], fun t ht => ?_⟩
  by_cases e : t < xs.length
  · rw [getD_app _ _ _ _ (by rw [h.1]; exact e), getD_app _ _ _ _ e]
    exact h.2 t e
  · have e2 : t = xs.length := by simp at ht; omega
    subst e2
    rw [getD_snoc _ _ _ _ h.1.symm, getD_snoc _ _ _ _ rfl]
    exact ⟨rfl, hs⟩
theorem slc_same {w : World} {bi N c c' : Nat} {A : Option Addr} {p q : List Int} (hp : Slc w bi A N c p) (hq : Slc w bi A N c' q) : p = q := by
  apply List.ext_getElem (by rw [hp.1, hq.1])
  intro i h1 h2
  obtain ⟨b, off, e, hb, hc⟩ := hp.ri_ (by omega)
  obtain ⟨b', off', e', hb', hc'⟩ := hq.ri_ (by omega)
  rw [e] at e'
  injection e' with e'; injection e' with e1 e2
  subst e1; subst e2
  have := (hc i h1).symm.trans (hc' i h2)
  injection this with this
  injection this with _ this
  rw [List.getD_eq_getElem?_getD, List.getD_eq_getElem?_getD, List.getElem?_eq_getElem h1, List.getElem?_eq_getElem h2] at this
  simpa using this
theorem Slc.agree {w w' : World} {bi n c : Nat} {A : Option Addr} {xs : List Int} (h : Slc w bi A n c xs) (hk : ∀ k, k < w.heap.size → w'.heap[k]? = w.heap[k]?) : Slc w' bi A n c xs := by
  refine ⟨h.1, h.2.1, ?_⟩
  rcases h.2.2 with hn | ⟨g, cap, cur, e, hb', hg, rest⟩
  · exact .inl hn
  · exact .inr ⟨g, cap, cur, e, hb', by rw [hk g (Array.getElem?_eq_some_iff.1 hg).1]; exact hg, rest⟩
theorem Rw0.ss {w0 w : World} {bi N bo c : Nat} {us : List SV} {xs : List (List Int)} {A : Option Addr} (h : Rw0 w0 bi N us xs) (hk : ∀ k, k < w0.heap.size → w.heap[k]? = w0.heap[k]?) (ho : w.ownsRow bo 33 1 (.slice A xs.length c) xs.length (us.map sval)) (hd : xs.Nodup) (hN : 1 ≤ N) :
    SS w bo bi A xs.length c us xs := by
  refine ⟨ho, h.1, rfl, fun i hi => ?_, fun i j hij hj => ?_⟩
  · obtain ⟨e, hs⟩ := h.2 i hi
    rw [e]; exact hs.agree hk
  · obtain ⟨e1, h1⟩ := h.2 i (by omega)
    obtain ⟨e2, h2⟩ := h.2 j hj
    rcases h1.at_ with ⟨a1, a2, a3, _⟩ | ⟨g, a1, _⟩
    · omega
    · rcases h2.at_ with ⟨b1, b2, b3, _⟩ | ⟨g', b1, _⟩
      · omega
      · refine .inr fun e => ?_
        have e3 : some g = some g' := by
          have e4 : (Value.slice (us.getD i sd0).1 (us.getD i sd0).2.1 (us.getD i sd0).2.2).ownBlock = (Value.slice (us.getD j sd0).1 (us.getD j sd0).2.1 (us.getD j sd0).2.2).ownBlock := e
          rw [a1, b1] at e4
          exact e4
        injection e3 with e3
        subst e3
        rw [a1] at h1; rw [b1] at h2
        have e5 := slc_same h1 h2
        rw [List.getD_eq_getElem?_getD, List.getD_eq_getElem?_getD, List.getElem?_eq_getElem (by omega : i < xs.length), List.getElem?_eq_getElem hj] at e5
        exact (List.pairwise_iff_getElem.1 hd) i j (by omega) hj hij (by simpa using e5)

set_option maxHeartbeats 4000000 in
set_option maxRecDepth 100000 in
/-- slices.AppendSeq onto nil. -/
theorem appSeqM (N bi : Nat) (gf : Nat) (ef : ∀ args w, (callFunc gf args).run Try.prog w = .ok (.enter gf args) w) (lb : Array Value) (S : List Int → Prop) (U : List (List Int)) (w w0 : World) (hs : ItsM gf lb w0 N bi S) (hk : ∀ k, k < w0.heap.size → w.heap[k]? = w0.heap[k]?) (hsz : w0.heap.size ≤ w.heap.size) (hN : 1 ≤ N) (hU : Hid (∀ p, S p → p ∈ U)) (hU2 : U.length ≤ 200) :
    Calls Try.prog 127 #[.slice none 0 0, .func (.func gf) #[] lb] w fun e w' => ∃ A' c' us xs, e = .returned (.slice A' xs.length c') ∧ xs.Nodup ∧ (∀ p, p ∈ xs ↔ S p) ∧ SS w' w.heap.size bi A' xs.length c' us xs ∧ Below w.heap.size w w' := by
  have HS := Lib.hid hs
  have HK := Lib.hid hk
  clear hs hk
  refine (callsIn_wide (n := 6)).1 ?_
  refine callsIn_of_wp_marks Try.func127 rfl trivial ?_ rfl
  simp only [Try.ntmps127, List.size_toArray, List.length_cons, List.length_nil, Nat.reduceAdd, Nat.reduceSub, Array.replicate_succ, Array.replicate_zero, List.push_toArray, List.append_toArray, List.nil_append, List.cons_append]
  gi_wp2
  obtain ⟨V, hV⟩ : ∃ V, w.alloc (.cells #[.slice none 0 0] 24) = V := ⟨_, rfl⟩
  rw [hV]
  have hz : V.heap.size = w.heap.size + 1 := by rw [← hV]; simp
  have b0 : Blk V w.heap.size 24 #[.slice none 0 0] := by rw [← hV]; exact Blk.new w _ _
  have bel : Below w.heap.size w V := by rw [← hV]; exact (Below.refl _ w).alloc (Nat.le_refl _) _
  have hkV : ∀ k, k < w0.heap.size → k < V.heap.size ∧ V.heap[k]? = w0.heap[k]? := fun k h => ⟨by omega, (bel.block k (by omega)).trans (HK.out k h)⟩
  clear hV
  refine rangeM (gf := gf) (lb := lb) rfl ef HS.out hkV (by omega)
    (fun xs W => ∃ S' c us, Blk W w.heap.size 24 #[.slice S' xs.length c] ∧ W.ownsRow (V.heap.size + 3) 33 1 (.slice S' xs.length c) xs.length (us.map sval) ∧ Rw0 w0 bi N us xs ∧ xs.Nodup ∧ (∀ p, p ∈ xs → S p) ∧ Below w.heap.size w W)
    (fun i A C h hx => by
      obtain ⟨S', c, us, h1, h2, h4, h5, h6, h3⟩ := h
      exact ⟨S', c, us, (hx.block _ h1.lt (.inl (by omega))).trans h1, own_xk h2 hx (by omega), h4, h5, h6, h3.trans (hx.below (by omega) h3.size)⟩) ⟨none, 0, [], b0, World.ownsRow_nil _ _ _ _, ⟨rfl, fun t ht => absurd ht (by simp)⟩, List.nodup_nil, fun p hp => (by cases hp), bel⟩
    (fun v => { tmps := #[.slice none 0 0, .func (.func gf) #[] lb, .pointer (some ⟨w.heap.size, 0, none⟩), undef, .slice none 0 0, v, .func (.func gf) #[] lb, v, undef, undef, undef, undef, undef], defers := [] }) ?assign ?body ?done
  case assign =>
    intro l v W K hK
    gi_wp2
    exact hK
  case body =>
    rintro l xs S' d p W1 W2 ⟨R, e, us, hb, hss, hrw, hnd, hmem, hbl⟩ hSp hnot hsz1 hx hsl
    have hb2 : Blk W2 w.heap.size 24 #[.slice R xs.length e] := (hx.block _ hb.lt (.inl (by omega))).trans hb
    have cc : W2.cell? ⟨w.heap.size, 0, none⟩ = some (.slice R xs.length e) := hb2.cell 0
    have ff := hb2.frozen 0
    have Ss2 := Lib.hid (own_xk hss hx (by omega))
    have Rs := Lib.hid (hrw.snoc hsl)
    have Nd := Lib.hid (nodup_snoc hnd hnot)
    have Mm : Hid (∀ q, q ∈ xs ++ [p] → S q) := Lib.hid fun q hq => by
      rcases List.mem_append.1 hq with h | h
      · exact hmem q h
      · rw [List.mem_singleton.1 h]; exact hSp
    have Ln : Hid (xs.length ≤ 200) := Lib.hid (by have := nd_subA hnd fun q hq => hU.out q (hmem q hq); omega)
    have Bl2 := Lib.hid (hbl.trans (hx.below (by omega) hbl.size))
    have Hb2 := Lib.hid hb2
    have hz2 := hx.size
    have hzz : V.heap.size + 3 ≤ W2.heap.size := by omega
    have hcell : (W2.alloc (.cells #[.slice S' N d] 33)).cell? ⟨W2.heap.size, 0, none⟩ = some (.slice S' N d) := by rw [World.cell?_alloc_at _ _ _ _ rfl]; rfl
    have Hcell := Lib.hid hcell
    clear hcell hb hss hbl hx hsl hb2 hrw hnd hmem hSp hnot
    obtain ⟨m, hm⟩ : ∃ m, xs.length = m := ⟨_, rfl⟩
    rw [hm] at cc Ss2 Hb2 Ln
    have Hm := Lib.hid hm
    clear hm
    gi_wp2_with (first
      | (gi_at_builtin; refine wpListIn_app3 rfl _ _ rfl rfl (World.ownsRow.alloc Ss2.out _) W2.heap.size S' N d rfl Hcell.out (by have := Ln.out; omega) (by simp; omega) ?_; intro A5 c5 w5 ss5 hg5
         have Ss5 := Lib.hid ss5
         have Hb5 : Hid (Blk w5 w.heap.size 24 #[.slice R m e]) := Lib.hid ((Hb2.out.alloc (.cells #[.slice S' N d] 33)).grown hg5 ((Hb2.out.alloc (.cells #[.slice S' N d] 33)).not_outer (World.ownsRow.alloc Ss2.out _)))
         have cc5 : w5.cell? ⟨w.heap.size, 0, none⟩ = some (.slice R m e) := Hb5.out.cell 0
         have ff5 := Hb5.out.frozen 0
         have Hg5 := Lib.hid hg5
         clear ss5 hg5))
    have Hb6 := Lib.hid (Hb5.out.set_ 0 (.slice (some ⟨A5, 0, none⟩) (m + 1) c5))
    have hne : some w.heap.size ≠ (Value.slice (some ⟨A5, 0, none⟩) (m + 1) c5).ownBlock := Hb5.out.not_outer Ss5.out
    have Ss6 := Lib.hid (World.ownsRow.kept Ss5.out (grown_set (grown_refl w5 (some w.heap.size)) 0 (.slice (some ⟨A5, 0, none⟩) (m + 1) c5)) (.inr fun h => hne h.symm))
    have Bl5 : Hid (Below w.heap.size w w5) := Lib.hid ((Bl2.out.alloc Bl2.out.size _).grown Hg5.out (by have := Bl2.out.size; simp; omega) (fun j hj => by have := (World.ownsRow.lt Ss2.out j hj).1; omega))
    have e1 : (xs ++ [p]).length = m + 1 := by rw [List.length_append, Hm.out]; rfl
    refine ⟨⟨some ⟨A5, 0, none⟩, c5, us ++ [(S', N, d)], by rw [e1]; exact Hb6.out, by rw [e1]; exact Ss6.out, Rs.out, Nd.out, Mm.out, Bl5.out.setCell (p := ⟨w.heap.size, 0, none⟩) (Nat.le_refl _) _⟩, fun k hk => ?_, ?_⟩
    · have hkl : k ≠ w.heap.size := by omega
      have hkW2 : k < W2.heap.size := by omega
      refine (Below.heap_setCell _ _ _ k hkl).trans ((Hg5.out.block k (by simp; omega) fun e9 => ?_).trans (Below.heap_alloc _ _ _ hkW2))
      have := (World.ownsRow.lt Ss2.out k e9.symm).1
      omega
    · have := Hg5.out.size
      simp at this
      simp [World.setCell]; omega
  case done =>
    rintro W xs hnd hmem ⟨S', c, us, hb, hss, hrw, _, _, hbl⟩ hd
    have Hbl := Lib.hid hbl
    have Hss := Lib.hid hss
    have Rs := Lib.hid hrw
    have Nd := Lib.hid hnd
    have Mm := Lib.hid hmem
    obtain ⟨m, hm⟩ : ∃ m, xs.length = m := ⟨_, rfl⟩
    rw [hm] at hb Hss
    have Hm := Lib.hid hm
    have cc : W.cell? ⟨w.heap.size, 0, none⟩ = some (.slice S' m c) := hb.cell 0
    clear hbl hss hrw hnd hmem hm
    gi_wp2
    refine ⟨by simp, .inl ⟨_, _, rfl, run_takeDeferred hd, ?_⟩⟩
    have hfin := own_xk Hss.out (Xk.put W (.deferred none) (b := V.heap.size) (r := V.heap.size) (by omega)) (by omega)
    have hbl2 : Below w.heap.size w (W.putObj V.heap.size (.deferred none)) := Hbl.out.grown (grownBy_putObj' W _ _) Hbl.out.size (fun k e => by cases e; omega)
    have hr := World.ownsRow.mono hfin (base' := w.heap.size) (by omega)
    rw [← Hm.out] at hr ⊢
    exact ⟨_, results_tmp rfl _ _ _, _, _, us, xs, rfl, Nd.out, Mm.out, Rs.out.ss (fun k hk => (hbl2.block k (by omega)).trans (HK.out k hk)) hr Nd.out hN, hbl2⟩

set_option maxHeartbeats 800000 in
/-- slices.Collect. -/
theorem collectM (N bi : Nat) (gf : Nat) (ef : ∀ args w, (callFunc gf args).run Try.prog w = .ok (.enter gf args) w) (lb : Array Value) (S : List Int → Prop) (U : List (List Int)) (w w0 : World) (hs : ItsM gf lb w0 N bi S) (hk : ∀ k, k < w0.heap.size → w.heap[k]? = w0.heap[k]?) (hsz : w0.heap.size ≤ w.heap.size) (hN : 1 ≤ N) (hU : Hid (∀ p, S p → p ∈ U)) (hU2 : U.length ≤ 200) :
    Calls Try.prog 102 #[.func (.func gf) #[] lb] w fun e w' => ∃ A' c' us xs, e = .returned (.slice A' xs.length c') ∧ xs.Nodup ∧ (∀ p, p ∈ xs ↔ S p) ∧ SS w' w.heap.size bi A' xs.length c' us xs ∧ Below w.heap.size w w' := by
  have HS := Lib.hid hs
  have HK := Lib.hid hk
  clear hs hk
  go_enter Try.func102, Try.ntmps102
  go_wp2_with fail
  refine (appSeqM N bi gf ef lb S U w w0 HS.out HK.out hsz hN hU hU2).mono ?_
  rintro e w1 ⟨A1, c1, us, xs, rfl, n1, m1, s1, b1⟩
  have N1 := Lib.hid n1
  have M1 := Lib.hid m1
  have S1 := Lib.hid s1
  have B1 := Lib.hid b1
  clear n1 m1 s1 b1
  go_wp2
  go_ret
  exact ⟨_, _, _, xs, rfl, N1.out, M1.out, S1.out, B1.out⟩
end Go.Proofs.Ytcjcmhoalomjfaa

/- slices.SortFunc of rows by slices.Compare. Conditions: at most 20 points, 200 rows, no two alike. -/
namespace Go.Proofs.Ytcjcmhoalomjfaa
open Go.RowKit Go.Sort Go.Shelf

def cmpN (p q : List Int) (n : Nat) : Int := if lessI p q n = true then -1 else if lessI q p n = true then 1 else 0
theorem cmpN_lt (p q : List Int) (n : Nat) : decide (cmpN p q n < 0) = lessI p q n := by
  unfold cmpN
  cases h1 : lessI p q n
  · cases h2 : lessI q p n <;> simp
  · simp
set_option maxHeartbeats 400000 in
/-- slices.Compare at two lists of one length: the very number. -/
theorem sCmpE (A B : Option Addr) (c d n : Nat) (p q : List Int) (w : World) (hp : RI w w.heap.size A p) (hq : RI w w.heap.size B q) (lp : Hid (p.length = n)) (lq : Hid (q.length = n)) (hn : n ≤ 20) :
    Calls Try.prog 58 #[.slice A n c, .slice B n d] w fun e w' => e = .returned (.int .i64 (cmpN p q n)) ∧ w = w' := by
  go_enter Try.func58, Try.ntmps58
  go_wp2
  go_loop [5, 6, 7, 8, 11] (fun _ _ _ _ i => ∃ k : Nat, k ≤ n ∧ i = .int .i64 (k : Nat) ∧ (∀ j, j < k → p.getD j 0 = q.getD j 0)) (fun _ _ _ _ i => n - (intOf i).toNat)
  case atStart => exact ⟨0, Nat.zero_le _, rfl, fun j h => absurd h (by omega)⟩
  case round =>
    obtain ⟨k, hk, rfl, heq⟩ := hrel
    have Heq := Lib.hid heq
    clear heq
    by_cases hlt : k < n
    · obtain ⟨b, off, rfl, hb, hc⟩ := hp (by rw [lp.out]; omega)
      obtain ⟨b', off', rfl, hb', hc'⟩ := hq (by rw [lq.out]; omega)
      have c1 := hc k (by rw [lp.out]; omega)
      have c2 := hc' k (by rw [lq.out]; omega)
      obtain ⟨x, ex⟩ : ∃ x, p.getD k 0 = x := ⟨_, rfl⟩
      obtain ⟨y, ey⟩ : ∃ y, q.getD k 0 = y := ⟨_, rfl⟩
      rw [ex] at c1
      rw [ey] at c2
      have Ex := Lib.hid ex
      have Ey := Lib.hid ey
      clear ex ey hc hc' hp hq
      by_cases hxy : x = y
      · have Z : Hid (sgnI x y = 0) := Lib.hid (by subst hxy; unfold sgnI; simp)
        have Hxy := Lib.hid hxy
        clear hxy
        go_wp2_with fail
        refine (cmpI x y w).mono ?_
        rintro e w1 ⟨rfl, rfl⟩
        rw [Z.out]
        go_wp2
        go_round
        case rel => exact ⟨k + 1, by omega, by go_num, fun j hj => by
          by_cases e : j = k
          · subst e; rw [Ex.out, Ey.out, Hxy.out]
          · exact Heq.out j (by omega)⟩
        case measure => simp [intOf]; omega
      · have Fin : Hid (sgnI x y = cmpN p q n) := Lib.hid (by
          unfold cmpN
          rw [lessI_at hlt Heq.out (by rw [Ex.out, Ey.out]; exact hxy), lessI_at hlt (fun j hj => (Heq.out j hj).symm) (by rw [Ex.out, Ey.out]; exact fun e => hxy e.symm), Ex.out, Ey.out]
          unfold sgnI
          simp only [decide_eq_true_eq])
        have hne : (sgnI x y != 0) = true := by
          rw [bne_iff_ne]; unfold sgnI; split
          · decide
          · rw [if_pos (by omega)]; decide
        have hne' : (sgnI x y == 0) = false := by
          rw [beq_eq_false_iff_ne]; exact bne_iff_ne.1 hne
        clear hxy
        go_wp2_with fail
        refine (cmpI x y w).mono ?_
        rintro e w1 ⟨rfl, rfl⟩
        go_wp2
        go_ret
        exact ⟨ret_int Fin.out, rfl⟩
    · have hkn : k = n := by omega
      subst hkn
      have Fin : Hid ((0 : Int) = cmpN p q k) := Lib.hid (by
        unfold cmpN
        rw [lessI_end Heq.out, lessI_end (fun j hj => (Heq.out j hj).symm)]; rfl)
      go_wp2
      go_ret
      exact ⟨ret_int Fin.out, rfl⟩

/-- A row of w, with the permutation that it holds. -/
def RT (w : World) (bi N : Nat) : Type := {x : SV × List Int // x.1.2.1 = N ∧ Slc w bi x.1.1 N x.1.2.2 x.2 ∧ Pn N x.2}
def RT.enc {w : World} {bi N : Nat} (x : RT w bi N) : Value := sval x.1.1
def RT.sv {w : World} {bi N : Nat} (x : RT w bi N) : SV := x.1.1
def RT.per {w : World} {bi N : Nat} (x : RT w bi N) : List Int := x.1.2
def RT.cf {w : World} {bi N : Nat} (x y : RT w bi N) : Int := cmpN x.per y.per N
theorem rt_lt {w : World} {bi N : Nat} (x y : RT w bi N) : ltOf RT.cf x y = true ↔ LxI N x.per y.per := by
  unfold ltOf RT.cf
  rw [cmpN_lt]
  exact lessI_lx x.2.2.2 y.2.2.2
theorem rt_ltF {w : World} {bi N : Nat} (x y : RT w bi N) : ltOf RT.cf x y = false ↔ ¬ LxI N x.per y.per := by
  rw [← rt_lt]; cases ltOf RT.cf x y <;> simp
theorem rt_swo {w : World} {bi N : Nat} : SWO (ltOf (RT.cf (w := w) (bi := bi) (N := N))) where
  irrefl x := (rt_ltF x x).2 LxI.irr
  trans x y z h1 h2 := (rt_lt x z).2 (((rt_lt x y).1 h1).trans ((rt_lt y z).1 h2))
  ntrans x y z h1 h2 := (rt_ltF x z).2 fun h => by
    rcases lx_tri x.2.2.2 y.2.2.2 with e | e | e
    · have e : x.per = y.per := e
      rw [e] at h; exact (rt_ltF y z).1 h2 h
    · exact (rt_ltF x y).1 h1 e
    · exact (rt_ltF y z).1 h2 (LxI.trans (q := x.per) e h)
theorem rt_list {w : World} {bi N : Nat} : ∀ (us : List SV) (xs : List (List Int)), us.length = xs.length → (∀ t, t < xs.length → (us.getD t sd0).2.1 = N ∧ Slc w bi (us.getD t sd0).1 N (us.getD t sd0).2.2 (xs.getD t []) ∧ Pn N (xs.getD t [])) →
    ∃ l : List (RT w bi N), l.map RT.sv = us ∧ l.map RT.per = xs
  | [], [], _, _ => ⟨[], rfl, rfl⟩
  | [], _ :: _, h, _ => by simp at h
  | _ :: _, [], h, _ => by simp at h
  | u :: us, x :: xs, h, hr => by
    obtain ⟨l, e1, e2⟩ := rt_list us xs (by simpa using h) fun t ht => by
      exact hr (t + 1) (by simp; omega)
    have h0 := hr 0 (by simp)
    exact ⟨⟨(u, x), h0⟩ :: l, congrArg (u :: ·) e1, congrArg (x :: ·) e2⟩
end Go.Proofs.Ytcjcmhoalomjfaa

/- slices.SortFunc of rows by slices.Compare: sorted. Conditions: at most 20 points, 200 rows, no two alike. -/
namespace Go.Proofs.Ytcjcmhoalomjfaa
open Go.RowKit Go.Sort Go.Shelf

theorem rt_sorted {w : World} {bi N : Nat} {d' : Array (RT w bi N)} [Inhabited (RT w bi N)] {xs : List (List Int)} (hs : SortedIn (ltOf RT.cf) 0 d'.size d') (hm : (d'.toList.map RT.per).Perm xs) (hd : xs.Nodup) :
    (d'.toList.map RT.per).Pairwise (LxI N) := by
  have hnd := hm.symm.nodup hd
  rw [List.pairwise_iff_getElem]
  intro i j hi hj hij
  have hi2 : i < d'.size := by simpa using hi
  have hj2 : j < d'.size := by simpa using hj
  have h1 := (rt_ltF _ _).1 (hs i j (Nat.zero_le _) hij hj2)
  rw [getElem!_pos d' i hi2, getElem!_pos d' j hj2] at h1
  have e1 : (d'.toList.map RT.per)[i] = (d'[i]).per := by simp
  have e2 : (d'.toList.map RT.per)[j] = (d'[j]).per := by simp
  have hne := (List.pairwise_iff_getElem.1 hnd) i j hi hj hij
  rw [e1, e2] at hne ⊢
  rcases lx_tri (d'[i]).2.2.2 (d'[j]).2.2.2 with e | e | e
  · exact absurd e hne
  · exact e
  · exact absurd e h1

set_option maxHeartbeats 1000000 in
theorem sortRows (N bi base n c g : Nat) (us : List SV) (xs : List (List Int)) (w : World) (h : SS w base bi (some ⟨g, 0, none⟩) n c us xs) (hP : ∀ p, p ∈ xs → Pn N p) (hd : xs.Nodup) (h0 : 0 < n) (hn : n ≤ 200) (h1 : 1 ≤ N) (h2 : N ≤ 20) :
    Calls Try.prog 103 #[.slice (some ⟨g, 0, none⟩) n c, .func (.func 58) #[] #[]] w fun e w' =>
      e = .returned (.tuple #[]) ∧ ∃ us' xs', SS w' base bi (some ⟨g, 0, none⟩) n c us' xs' ∧ xs'.Pairwise (LxI N) ∧ (∀ p, p ∈ xs' ↔ p ∈ xs) ∧ w.grownBy w' (some g) := by
  obtain ⟨l, e1, e2⟩ := rt_list (w := w) (bi := bi) (N := N) us xs (by rw [h.lv, h.lx]) fun t ht => by
    have hp : Pn N (xs.getD t []) := hP _ (getD_memL ht)
    have hr := h.row t (by rw [← h.lx]; exact ht)
    have e : (us.getD t sd0).2.1 = N := by have := hr.1; have := hp.2; omega
    rw [e] at hr
    exact ⟨e, hr, hp⟩
  have hl : l.length = n := by rw [← h.lv, ← e1, List.length_map]
  haveI : Inhabited (RT w bi N) := ⟨l[0]'(by omega)⟩
  have eg : ∀ args w, (callFunc 58 args).run Try.prog w = .ok (.enter 58 args) w := enters_of Try.func58 (by kernel_rfl) rfl
  have ho : w.ownsRow base 33 1 (.slice (some ⟨g, 0, none⟩) l.length c) l.length (l.map RT.enc) := by
    have := h.own
    rw [← e1, List.map_map] at this
    rw [hl]; exact this
  have hH := holds_own RT.enc ho
  have hap : ∀ x : RT w bi N, (Value.slice x.1.1.1 N x.1.1.2.2).ownBlock = none ∨ (Value.slice x.1.1.1 N x.1.1.2.2).ownBlock ≠ some g := fun x => apart_types x.2.2.1 h.own
  have hcmp : CmpLays1 Try.prog 58 #[] RT.enc RT.cf g 0 l.toArray.size w := fun m os dk hs x y => by
    have hx := (x.2.2.1.kept (grown_put RT.enc w m g dk os) (hap x)).ri_
    have hy := (y.2.2.1.kept (grown_put RT.enc w m g dk os) (hap y)).ri_
    have ex : x.enc = .slice x.1.1.1 N x.1.1.2.2 := by have := x.2.1; unfold RT.enc sval; rw [this]
    have ey : y.enc = .slice y.1.1.1 N y.1.1.2.2 := by have := y.2.1; unfold RT.enc sval; rw [this]
    rw [ex, ey]
    refine (sCmpE x.1.1.1 y.1.1.1 x.1.1.2.2 y.1.1.2.2 N x.per y.per _ hx hy (Lib.hid x.2.2.2.2) (Lib.hid y.2.2.2.2) h2).mono ?_
    rintro e w' ⟨rfl, rfl⟩
    exact ⟨rfl, 0, #[], (by rw [grow_empty]; rfl)⟩
  have hblk : g < w.heap.size := (World.ownsRow.lt h.own g rfl).2
  have hsz : l.toArray.size = n := by simp [hl]
  have K := Any.slices_SortFunc laySortF RT.enc (fun _ => rfl) RT.cf rt_swo 58 #[] g 0 c l.toArray w eg hcmp hH hblk (by omega)
  rw [hsz] at K
  refine Calls.mono K ?_
  rintro e w' ⟨rfl, d', m, os, hpm, hso, rfl⟩
  have hd' : d'.size = n := by rw [hpm.1, hsz]
  have hperm : d'.toList.Perm l := by
    have := hpm.2.2
    have a1 : d'.extract 0 n = d' := by rw [← hd']; simp
    have a2 : l.toArray.extract 0 n = l.toArray := by rw [← hsz]; simp
    rw [a1, a2] at this
    simpa using this
  have hpx : (d'.toList.map RT.per).Perm xs := by rw [← e2]; exact hperm.map _
  have hso2 := rt_sorted (d' := d') (by rw [hd']; exact hso) hpx hd
  have hown := own_put RT.enc (ts := d'.toList) (n := l.length) ho (by simp [hd', hl]) (Nat.le_refl _) m os
  have hgr := grown_put RT.enc w m g d' os
  refine ⟨rfl, d'.toList.map RT.sv, d'.toList.map RT.per, ?_, hso2, fun p => hpx.mem_iff, hgr⟩
  have hlen : (d'.toList.map RT.per).length = n := by simp [hd']
  have hrw : Rw0 (sortWorld RT.enc w g 0 m d' os) bi N (d'.toList.map RT.sv) (d'.toList.map RT.per) := ⟨by simp, fun t ht => by
    have ht2 : t < d'.toList.length := by simpa using ht
    have a1 : (d'.toList.map RT.sv).getD t sd0 = (d'.toList[t]).sv := by rw [List.getD_eq_getElem?_getD, List.getElem?_map, List.getElem?_eq_getElem ht2]; rfl
    have a2 : (d'.toList.map RT.per).getD t [] = (d'.toList[t]).per := by rw [List.getD_eq_getElem?_getD, List.getElem?_map, List.getElem?_eq_getElem ht2]; rfl
    rw [a1, a2]
    exact ⟨(d'.toList[t]).2.1, (d'.toList[t]).2.2.1.kept hgr (hap _)⟩⟩
  have hfin := hrw.ss (bo := base) (c := c) (A := some ⟨g, 0, none⟩) (fun _ _ => rfl) (by
    rw [hlen, List.map_map]
    rw [hl] at hown
    rw [List.take_of_length_le (by simp [hd'])] at hown
    exact hown) (hpx.symm.nodup hd) h1
  rw [hlen] at hfin
  exact hfin
end Go.Proofs.Ytcjcmhoalomjfaa

/- CosetRepresentatives of the program. Conditions: at most 20 points, 8 generators. -/
namespace Go.Proofs.Ytcjcmhoalomjfaa
open Go.RowKit
attribute [local go_sem] Oper.semAt_some

set_option maxHeartbeats 1600000 in
set_option maxRecDepth 100000 in
/-- slices.SortedFunc over an iterator of rows. -/
theorem sortedM (N bi : Nat) (gf : Nat) (ef : ∀ args w, (callFunc gf args).run Try.prog w = .ok (.enter gf args) w) (lb : Array Value) (S : List Int → Prop) (U : List (List Int)) (w w0 : World) (hs : ItsM gf lb w0 N bi S) (hk : ∀ k, k < w0.heap.size → w.heap[k]? = w0.heap[k]?) (hsz : w0.heap.size ≤ w.heap.size) (hN : 1 ≤ N) (hN2 : N ≤ 20) (hU : Hid (∀ p, S p → p ∈ U)) (hU2 : U.length ≤ 200) (hP : Hid (∀ p, S p → Pn N p)) (hne : Hid (∃ p, S p)) :
    Calls Try.prog 56 #[.func (.func gf) #[] lb, .func (.func 58) #[] #[]] w fun e w' => ∃ A' n' c' us xs, e = .returned (.slice A' n' c') ∧ SS w' w.heap.size bi A' n' c' us xs ∧ xs.Pairwise (LxI N) ∧ (∀ p, p ∈ xs ↔ S p) ∧ Below w.heap.size w w' := by
  have HS := Lib.hid hs
  have HK := Lib.hid hk
  clear hs hk
  go_enter Try.func56, Try.ntmps56
  go_wp2_with (go_at_call 102; fail)
  refine (collectM N bi gf ef lb S U w w0 HS.out HK.out hsz hN hU hU2).mono ?_
  rintro e w1 ⟨A1, c1, us, xs, rfl, n1, m1, s1, b1⟩
  have N1 := Lib.hid n1
  have M1 := Lib.hid m1
  have B1 := Lib.hid b1
  have hpos : 0 < xs.length := by
    obtain ⟨p, hp⟩ := hne.out
    have := (m1 p).2 hp
    cases xs with
    | nil => cases this
    | cons a t => simp
  have hle : xs.length ≤ 200 := by have := nd_subA n1 fun q hq => hU.out q ((m1 q).1 hq); omega
  obtain ⟨g, rfl, hg⟩ : ∃ g, A1 = some ⟨g, 0, none⟩ ∧ w.heap.size ≤ g := by
    rcases s1.own.2 with ⟨e, h0⟩ | ⟨g, cap, cur, e, hb, _⟩
    · omega
    · injection e with e1 e2 e3; exact ⟨g, e1, hb⟩
  have S1 := Lib.hid s1
  clear n1 m1 s1 b1
  go_wp2_with (go_at_call 103; fail)
  refine (sortRows N bi w.heap.size xs.length c1 g us xs w1 S1.out (fun p hp => hP.out p ((M1.out p).1 hp)) N1.out hpos hle hN hN2).mono ?_
  rintro e w2 ⟨rfl, us', xs', s2, p2, m2, g2⟩
  have S2 := Lib.hid s2
  have P2 := Lib.hid p2
  have M2 : Hid (∀ p, p ∈ xs' ↔ S p) := Lib.hid fun p => (m2 p).trans (M1.out p)
  have B2 : Hid (Below w.heap.size w w2) := Lib.hid (B1.out.grown g2 B1.out.size (fun k e => by injection e with e; omega))
  clear s2 p2 m2 g2
  go_wp2_with fail
  go_ret
  exact ⟨_, _, _, us', xs', rfl, S2.out, P2.out, M2.out, B2.out⟩

set_option maxHeartbeats 4000000 in
set_option maxRecDepth 100000 in
theorem implCosetRepresentatives : CtImmM 18 IsRep := by
  intro a A n c vs xss M mb cm us0 yss w g s ha
  have G := Lib.hid g
  have S := Lib.hid s
  have HX := Lib.hid g.rr
  have HY := Lib.hid s.rr
  have hlx : Hid (xss.length = n) := Lib.hid g.rr.lx
  have hly : Hid (yss.length = mb) := Lib.hid s.rr.lx
  clear g s
  go_enter Try.func18, Try.ntmps18
  go_wp2_with (go_at_call 17; fail)
  refine (implSubgroupIndex a A n c vs xss M mb cm us0 yss w G.out S.out ha).mono ?_
  rintro e w1 ⟨v, rfl, hv, b1⟩
  have B1 := Lib.hid b1
  have hz1 := b1.size
  have Dec : (¬ FewC a xss yss ∧ (v = 0 ∨ 200 < v)) ∨ (∃ k : Nat, SubG a xss yss ∧ Crd (fun p => Mb yss a.toNat p ∧ CMin a.toNat (Mb xss a.toNat) p p) k ∧ v = (k : Int) ∧ 1 ≤ k ∧ k ≤ 200) := by
    rcases hv with ⟨hs, k, hk, rfl⟩ | ⟨hn, rfl⟩
    · by_cases h2 : k ≤ 200
      · exact .inr ⟨k, hs, hk, rfl, crd_sub (crd_one (idL a.toNat)) hk fun x hx => by subst hx; exact ⟨.one, cmin_id (gB_sgp hs.1)⟩, h2⟩
      · exact .inl ⟨fun ⟨_, k', hk', hl⟩ => by have := hk.uniq hk'; omega, .inr (by omega)⟩
    · exact .inl ⟨fun h => hn h.1, .inl rfl⟩
  clear b1 hv G S
  rcases Dec with ⟨hn, hv⟩ | ⟨k, hs, hk, rfl, hk1, hk2⟩
  · have Fin : Hid (IsRep a xss yss []) := Lib.hid (.inr ⟨hn, rfl⟩)
    clear hn
    rcases hv with rfl | h2
    · go_wp2_with fail
      go_ret
      exact ⟨_, _, _, _, _, rfl, SS.nil_, Fin.out, B1.out⟩
    · have d0 : (v == 0) = false := by rw [beq_eq_false_iff_ne]; omega
      have d1 : decide ((200 : Int) < v) = true := by simp; omega
      go_wp2_with fail
      go_ret
      exact ⟨_, _, _, _, _, rfl, SS.nil_, Fin.out, B1.out⟩
  · have Fw : Hid (FewC a xss yss) := Lib.hid ⟨hs, k, hk, hk2⟩
    obtain ⟨N, rfl, hN1, hN2, hg8, hpm, hok⟩ := gB_pm hs.1
    obtain ⟨N', eN, _, _, hg8b, _, hok2⟩ := gB_pm hs.2.1
    obtain rfl : N = N' := by omega
    have Ok : Hid (∀ g ∈ xss, Pn N g) := Lib.hid hok
    have Ok2 : Hid (∀ g ∈ yss, Pn N g) := Lib.hid hok2
    have OkX : Hid (∀ g ∈ xss, IsP g ∧ g.length = N) := Lib.hid hok
    have OkY : Hid (∀ g ∈ yss, IsP g ∧ g.length = N) := Lib.hid hok2
    have hn8 : n ≤ 8 := by rw [← hlx.out]; exact hg8
    have hm8 : mb ≤ 8 := by rw [← hly.out]; exact hg8b
    rw [Int.toNat_natCast] at hk
    obtain ⟨U, dU, mU, eU⟩ := hk
    have HU : Hid (∀ p, p ∈ U ↔ Mb yss N p ∧ CMin N (Mb xss N) p p) := Lib.hid mU
    have HU2 : Hid (U.length ≤ 200) := Lib.hid (by omega)
    have HSub : Hid (∀ p, Mb xss N p → Mb yss N p) := Lib.hid fun p hp => hp.sub hN1 hN2 Ok2.out (fun g hg => by have := hs.2.2 g hg; rwa [Int.toNat_natCast] at this)
    have d0 : ((k : Int) == 0) = false := by rw [beq_eq_false_iff_ne]; omega
    have d1 : decide ((200 : Int) < (k : Int)) = false := by simp; omega
    have ef : ∀ args w, (callFunc 104 args).run Try.prog w = .ok (.enter 104 args) w := enters_of Try.func104 (by kernel_rfl) rfl
    clear hs hpm hok hok2 hg8 hg8b eN dU mU eU
    go_wp2_with (first
      | (go_at_call 54; refine (implChainOfI w1.heap.size N n c (fun _ => False) A vs xss w1 (HX.out.up B1.out) (Nat.le_refl _) (Lib.hid fun _ e => e.elim) hN1 hN2 hn8 OkX).mono ?_; rintro e w2 ⟨ch, L, Mk, rfl, hc, ho, hw, _, _, him, b2⟩
         have C2 := Lib.hid hc
         have O2 := Lib.hid ho
         have W2 := Lib.hid hw
         have I2 : Hid (Slc w2 w1.heap.size ((L 0).en.getD 0 sd0).1 ((L 0).en.getD 0 sd0).2.1 ((L 0).en.getD 0 sd0).2.2 (idL N)) := Lib.hid (by
           obtain ⟨A0, c0, e0, hs0, _⟩ := him
           rw [e0]; exact hs0)
         have Z2 : Hid (w1.heap.size ≤ w2.heap.size) := Lib.hid b2.size
         have B2 : Hid (Below w.heap.size w w2) := Lib.hid (btr B1.out b2)
         clear hc ho hw him b2)
      | (go_at_call 55; refine (implCosetsWithin w1.heap.size w1.heap.size N mb cm Mk ch L xss yss U M us0 w2 C2.out O2.out W2 hN1 hN2 Ok (HY.out.up B2.out) OkY hm8 I2.out Z2.out HU HU2 HSub).mono ?_; rintro e w3 ⟨b', D', rfl, c3, hb3, b3⟩
         have C3 := Lib.hid c3
         have B3 : Hid (Below w.heap.size w w3) := Lib.hid (btr B2.out b3)
         have Z3 : Hid (w1.heap.size ≤ w3.heap.size) := Lib.hid (Nat.le_trans Z2.out b3.size)
         clear c3 hb3 b3)
      | (go_at_call 57; refine (mapsValues b' w3).mono ?_; rintro e w4 ⟨rfl, e4⟩
         have B4 : Hid (Below w3.heap.size w3 w4) := Lib.hid (by rw [e4]; exact (Below.refl _ _).alloc (Nat.le_refl _) _)
         have I4 : Hid (ItsM 104 #[.pointer (some ⟨w3.heap.size, 0, none⟩)] w4 N w1.heap.size (fun m => Mb yss N m ∧ CMin N (Mb xss N) m m)) := Lib.hid (itsVals N w1.heap.size b' w3.heap.size U _ D' w4 (C3.out.up B4.out) (by rw [e4]; exact Blk.new _ _ _))
         clear e4)
      | (go_at_call 56; refine (sortedM N w1.heap.size _ ef _ _ U w4 w4 I4.out (fun _ _ => rfl) (Nat.le_refl _) hN1 hN2 (Lib.hid fun p hp => (HU.out p).2 hp) HU2.out (Lib.hid fun p hp => hp.1.pn Ok2.out hN1 hN2) (Lib.hid ⟨idL N, .one, cmin_id (sgp_mb Ok.out hN1 hN2)⟩)).mono ?_; rintro e w5 ⟨A5, n5, c5, us, xs, rfl, s5, p5, m5, b5⟩
         have S5 := Lib.hid (s5.mono (show w.heap.size ≤ w4.heap.size by have := B4.out.size; have := Z3.out; omega) hz1)
         have B5 : Hid (Below w.heap.size w w5) := Lib.hid (btr (btr B3.out B4.out) b5)
         have Fin : Hid (IsRep N xss yss xs) := Lib.hid (.inl ⟨Fw.out, by rw [Int.toNat_natCast]; exact p5, fun p => by rw [Int.toNat_natCast]; exact m5 p⟩)
         clear s5 p5 m5 b5)
      | go_in)
    go_ret
    exact ⟨_, _, _, us, xs, rfl, S5.out, Fin.out, B5.out⟩
end Go.Proofs.Ytcjcmhoalomjfaa

/- What the frame of a proof knows of a slice of slices of int64 that came in. No condition. -/
namespace Go.Proofs.Ytcjcmhoalomjfaa
open Go.ChangeShapes Go.WideShapes Go.ChangeAt Go.RowKit

theorem cellsS1 : Try.prog.cellsOf 33 = 1 := by kernel_rfl
theorem one_cell {W : World} {x : Addr} {cs : List Value} (h : W.cells? 0 x 1 = some cs) : ∃ c, cs = [c] ∧ W.cell? x = some c := by
  have e0 : x.add 0 = x := by simp [Addr.add]
  simp [World.cells?, List.range_succ, e0] at h
  cases hc : W.cell? x with
  | none => simp [hc] at h
  | some c =>
    simp [hc] at h
    exact ⟨c, h.symm, rfl⟩

theorem argSS {H : Type} {enc : TypeId × Value → H} {W : World} {a : Option Addr} {len cap : Nat} {d : DataW H} {ps : List MemPlace}
    (h : ∃ fuel, DataW.trod enc Try.prog W 0 (fun _ => true) true fuel 24 (Value.slice a len cap).cells.toList = some (d, ps)) :
    len ≤ maxLen ∧ ∃ vs xss, RR W W.heap.size a len vs xss ∧ ∀ i, i < len → (vs.getD i sd0).2.1 ≤ maxLen := by
  obtain ⟨fuel, hf⟩ := h
  rcases DataW.trod_slice Try.underlying24 hf with ⟨hcs, hx⟩ | ⟨a', len', cap', elems, rest, n, rfl, hcs, hx, _, hl, hm, hlen, hel, _, _⟩
  · simp [Value.cells] at hcs
    obtain ⟨rfl, rfl, rfl⟩ := hcs
    exact ⟨Nat.zero_le _, [], [], RR.nil_, fun i h => absurd h (by omega)⟩
  · simp [Value.cells] at hcs
    obtain ⟨rfl, rfl, rfl⟩ := hcs
    obtain ⟨b, off, spot⟩ := a'
    -- each element
    have key : ∀ i, i < len → ∃ (A : Option Addr) (l c : Nat) (xs : List Int), W.cell? (Addr.add ⟨b, off, spot⟩ i) = some (.slice A l c) ∧ xs.length = l ∧ l ≤ c ∧ c ≤ maxLen ∧ RI W W.heap.size A xs := by
      intro i hi
      have hE := hel i hi
      rw [cellsS1, Nat.mul_one, List.getElem?_eq_getElem (by omega)] at hE
      simp only [Option.bind_eq_some_iff] at hE
      obtain ⟨cs1, hc1, hy1⟩ := hE
      obtain ⟨c, rfl, hcc⟩ := one_cell hc1
      rcases open_ints Try.underlying33 Try.underlying2 (by kernel_rfl) hy1 with ⟨hcs, _⟩ | ⟨ia, il, ic, zs, hcs, _, hil, him, hiz, _, hicell, hiw⟩
      · injection hcs with hcs _
        subst hcs
        exact ⟨none, 0, 0, [], hcc, rfl, Nat.le_refl _, Nat.zero_le _, RI.nil_⟩
      · injection hcs with hcs _
        subst hcs
        have hiz' : zs.length = ic := by simpa using hiz
        obtain ⟨xs, hxl, hR⟩ := RI.of_row (w := W) (a := some ia) (len := il) (cap := ic) (zs := zs) (.inr ⟨ia, rfl, hil, him, hiz', hicell, hiw⟩)
        exact ⟨some ia, il, ic, xs, hcc, hxl.out, hil, him, hR⟩
    refine ⟨Nat.le_trans hl hm, ?_⟩
    have hch : ∃ f : Nat → SV × List Int, ∀ i, i < len → W.cell? (Addr.add ⟨b, off, spot⟩ i) = some (.slice (f i).1.1 (f i).1.2.1 (f i).1.2.2) ∧ (f i).2.length = (f i).1.2.1 ∧ (f i).1.2.1 ≤ (f i).1.2.2 ∧ (f i).1.2.2 ≤ maxLen ∧ RI W W.heap.size (f i).1.1 (f i).2 := by
      refine ⟨fun i => if hi : i < len then (((Classical.choose (key i hi)), Classical.choose (Classical.choose_spec (key i hi)), Classical.choose (Classical.choose_spec (Classical.choose_spec (key i hi)))), Classical.choose (Classical.choose_spec (Classical.choose_spec (Classical.choose_spec (key i hi))))) else (sd0, []), fun i hi => ?_⟩
      have := Classical.choose_spec (Classical.choose_spec (Classical.choose_spec (Classical.choose_spec (key i hi))))
      simp only [hi, dif_pos]
      exact this
    obtain ⟨f, hf⟩ := hch
    have g1 : ∀ j, j < len → ((List.range len).map fun i => (f i).1).getD j sd0 = (f j).1 := fun j hj => by
      rw [List.getD_eq_getElem?_getD, List.getElem?_map, List.getElem?_range hj]; rfl
    have g2 : ∀ j, j < len → ((List.range len).map fun i => (f i).2).getD j [] = (f j).2 := fun j hj => by
      rw [List.getD_eq_getElem?_getD, List.getElem?_map, List.getElem?_range hj]; rfl
    refine ⟨(List.range len).map fun i => (f i).1, (List.range len).map fun i => (f i).2, ⟨by simp, by simp, fun hp => ?_, fun j hj => ?_, fun j hj => ?_, fun j hj => ?_⟩, fun i hi => ?_⟩
    · have h0 := (hf 0 hp).1
      have hs : spot = none := by simpa [Addr.add] using World.cell?_spot h0
      subst hs
      refine ⟨b, off, rfl, ?_, fun j hj => ?_⟩
      · have := World.block_lt_of_cell? W _ h0
        simpa [Addr.add] using this
      · rw [g1 j hj, ← (hf j hj).1]
        unfold Addr.add
        split <;> simp_all
    · rw [g1 j hj, g2 j hj]; exact (hf j hj).2.2.2.2
    · rw [g1 j hj, g2 j hj]; exact (hf j hj).2.1
    · rw [g1 j hj]; exact (hf j hj).2.2.1
    · rw [g1 i hi]; exact Nat.le_trans (hf i hi).2.2.1 (hf i hi).2.2.2.1
end Go.Proofs.Ytcjcmhoalomjfaa
