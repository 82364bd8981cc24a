/- The model's buildChain: a chain whole from level 0 on, of what the generators generate. Conditions: at most 20 points, 8 generators. -/
import Derived.Test.YtooafmifbplbhaaChE
import Derived.Test.YtooafmifbplbhaaSrcP
import Derived.Test.YtooafmifbplbhaaGen
namespace Go.Proofs.Ytooafmifbplbhaa
open Go.RowKit

/-- addGenerator keeps its contract at every level. -/
theorem specAddGen (base g N : Nat) (h1 : 1 ≤ N) (h2 : N ≤ 20) : ∀ m k, k + m = N → AGs base g N k
  | 0, k, e => by
    obtain rfl : k = N := by omega
    exact specAddGenTop base g k h1 h2
  | m + 1, k, e => specAddGen1 base g N k (by omega) (specAddProd base g N k (by omega) (specAddGen base g N h1 h2 m (k + 1) (by omega)))
theorem upTo0 (N : Nat) (h1 : 1 ≤ N) (h2 : N ≤ 20) : UpTo N (ch0 N) 0 := by
  have hrep : ∀ i y, (ch0 N).rep i y ≠ [] → y = i := fun i y h => by
    by_cases e : y = i
    · exact e
    · exact absurd (if_neg e) h
  have hone : ∀ i, (ch0 N).rep i i = idL N := fun i => if_pos rfl
  have hk : ∀ i, i < N → RepOK N (ch0 N) i := fun i hi => ⟨fun y hy => by
    obtain rfl := hrep i y hy
    rw [hone]; exact ⟨hi, pn_id h1 h2, fx_id (by omega), nx_id hi⟩, hone i⟩
  refine ⟨fun i _ hi => hk i hi, fun i _ _ g hg => (List.not_mem_nil hg).elim, fun i _ hi p => ⟨fun hs => ?_, fun hm => ?_⟩, fun i _ _ => Nat.zero_le _, rfl⟩
  · have : p = idL N := by
      clear hi
      induction hs with
      | top => rfl
      | @low i p hi hp hf hr _ ih =>
        have e := hrep i _ hr
        rw [e, hone, iv_id h1 h2, hp.idr] at ih
        exact ih (Nat.zero_le _)
    rw [this]; exact .one
  · rw [hm.none_]
    clear hm
    have : ∀ m i, i + m = N → Sv N (ch0 N) i (idL N) := fun m => by
      induction m with
      | zero => intro i e; obtain rfl : i = N := by omega
                exact .top
      | succ m ih =>
        intro i e
        exact (sv_down (hk i (by omega)) (by omega) (pn_id h1 h2) (fx_id (by omega)) (nx_id (by omega))).2 (ih (i + 1) (by omega))
    exact this (N - i) i (by omega)
/-- The chain is whole, and of what gs generate. -/
structure Whole (N : Nat) (gs : List (List Int)) (c : Ch) : Prop where
  up : UpTo N c 0
  mem : ∀ q, Mb (c.gen 0) N q ↔ Mb gs N q
theorem Whole.next {N : Nat} {gs : List (List Int)} {c c' : Ch} {p : List Int} (h1 : 1 ≤ N) (h2 : N ≤ 20) (hgs : ∀ g ∈ gs, Pn N g) (hp : Pn N p) (h : Whole N gs c) (ha : Ap N 0 c c' p) : Whole N (gs ++ [p]) c' := by
  have hgp : ∀ g ∈ c.gen 0, Pn N g := h.up.pn (Nat.le_refl _) (Nat.zero_le _)
  have a1 : ∀ g ∈ gs ++ [p], Pn N g := fun g hg => by
    rcases List.mem_append.1 hg with hg | hg
    · exact hgs g hg
    · obtain rfl := List.mem_singleton.1 hg; exact hp
  have a2 : ∀ g ∈ c.gen 0 ++ [p], Pn N g := fun g hg => by
    rcases List.mem_append.1 hg with hg | hg
    · exact hgp g hg
    · obtain rfl := List.mem_singleton.1 hg; exact hp
  refine ⟨ha.up, fun q => (ha.gen q).trans ⟨fun hq => hq.sub h1 h2 a1 fun g hg => ?_, fun hq => hq.sub h1 h2 a2 fun g hg => ?_⟩⟩
  · rcases List.mem_append.1 hg with hg | hg
    · exact ((h.mem g).1 (.of (hgp g hg) hg)).more fun g hg => List.mem_append_left _ hg
    · obtain rfl := List.mem_singleton.1 hg; exact .of hp (by simp)
  · rcases List.mem_append.1 hg with hg | hg
    · exact ((h.mem g).2 (.of (hgs g hg) hg)).more fun g hg => List.mem_append_left _ hg
    · obtain rfl := List.mem_singleton.1 hg; exact .of hp (by simp)

set_option maxHeartbeats 2000000 in
set_option maxRecDepth 100000 in
theorem specBuild (N n cc : Nat) (A : Option Addr) (vs : List SV) (gs : List (List Int)) (w : World) (hx : RR w w.heap.size A n vs gs) (hN1 : 1 ≤ N) (hN : N ≤ 20) (hn : n ≤ 8) (ok : Hid (∀ g ∈ gs, IsP g ∧ g.length = N)) :
    Calls Try.prog 54 #[.int .i64 (N : Nat), .slice A n cc] w fun e w' => ∃ g L c, e = .returned (.pointer (some ⟨g, 0, none⟩)) ∧ Cn w' w.heap.size g N c L ∧ Whole N gs c ∧ Below w.heap.size w w' := by
  have HX := Lib.hid hx
  have hlx : Hid (gs.length = n) := Lib.hid hx.lx
  clear hx
  go_enter Try.func54, Try.ntmps54
  go_wp2_with fail
  refine (specEmpty N w hN1 hN).mono ?_
  rintro e w1 ⟨g, L, rfl, hc1, b1⟩
  have C1 := Lib.hid hc1
  have B1 := Lib.hid b1
  have U0 := Lib.hid (upTo0 N hN1 hN)
  clear hc1 b1
  go_wp2_with fail
  go_loopw [6] (fun i wr => ∃ (j : Nat) (c : Ch) (L : LY), j ≤ n ∧ i = .int .i64 (j : Nat) ∧ Cn wr w.heap.size g N c L ∧ Whole N (gs.take j) c ∧ Below w.heap.size w wr) (fun i _ => n - (intOf i).toNat)
  case atStart => exact ⟨0, _, L, Nat.zero_le _, rfl, C1.out, ⟨U0.out, fun q => by rw [List.take_zero]; exact Iff.rfl⟩, B1.out⟩
  case round =>
    clear C1 B1 U0
    obtain ⟨j, c, L, hj, rfl, hc, hw, bel⟩ := hrel
    have C2 := Lib.hid hc
    have W2 := Lib.hid hw
    have Be := Lib.hid bel
    clear hc hw bel
    by_cases hlt : j < n
    · obtain ⟨b, off, A5, l, c5, y, rfl, hb, hv, ey, x1, ri, ly, hl5⟩ := (HX.out.up Be.out).at_ hlt
      have hyP := ok.out y (by rw [← ey]; exact getD_memL (by rw [hlx.out]; exact hlt))
      obtain rfl : l = N := by omega
      have Ri := Lib.hid ri
      have YP : Hid (Pn l y) := Lib.hid hyP
      obtain ⟨b5, off5, rfl, hb5, hc5⟩ := ri (by omega)
      have Ey := Lib.hid ey
      have q0 : (0 : Int) ≤ j := by omega
      have q1 : (j : Int) < n := by omega
      clear hv ey hb ri hb5 hc5 hyP
      go_wp2_with fail
      refine (copyRI b5 off5 l c5 y wr Ri.out (Lib.hid ly) (by omega)).mono ?_
      rintro e w2 ⟨A2, c2, rfl, s2, b2⟩
      have S2 : Hid (Slc w2 w.heap.size A2 l c2 y) := Lib.hid (s2.mono Be.out.size)
      have C3 := Lib.hid (C2.out.up b2)
      have Be2 : Hid (Below w.heap.size w w2) := Lib.hid (btr Be.out b2)
      have hz2 := Be2.out.size
      clear s2 b2
      go_wp2_with fail
      have K := specAddGen w.heap.size g l hN1 hN l 0 (by omega) c2 A2 c L y w2 C3.out S2.out YP.out Fx.zero W2.out.up
      refine K.mono ?_
      rintro e w3 ⟨c', L', rfl, hc3, hch, hmt, hap⟩
      have C4 := Lib.hid hc3
      have Be3 : Hid (Below w.heap.size w w3) := Lib.hid (Be2.out.trans (hch.below (fun k hk => (C3.out.mut hk).1) hz2))
      have W4 : Hid (Whole l (gs.take (j + 1)) c') := Lib.hid (by
        rw [List.take_succ_eq_append_getElem (by rw [hlx.out]; exact hlt)]
        have e1 : gs[j]'(by rw [hlx.out]; exact hlt) = y := by rw [← Ey.out, List.getD_eq_getElem?_getD, List.getElem?_eq_getElem (by rw [hlx.out]; exact hlt)]; rfl
        rw [e1]
        exact W2.out.next hN1 hN (fun g hg => ok.out g (List.mem_of_mem_take hg)) YP.out hap)
      clear K hc3 hch hmt hap
      go_wp2_with fail
      go_roundw
      case rel => exact ⟨j + 1, c', L', by omega, by go_num, C4.out, W4.out, Be3.out⟩
      case measure => simp [intOf]; omega
    · obtain rfl : j = n := by omega
      have W3 : Hid (Whole N gs c) := Lib.hid (by have := W2.out; rwa [List.take_of_length_le (by rw [hlx.out]; exact Nat.le_refl _)] at this)
      go_wp2_with fail
      go_ret
      exact ⟨g, L, c, rfl, C2.out, W3.out, Be.out⟩
end Go.Proofs.Ytooafmifbplbhaa
