/- Part 10 of the texts: SsT, EqI, SpG, WalkH7. No condition of its own: each text tells its own. -/
import Derived.Test.YtedfcljikgmpgaaMg9
import Derived.Test.YtedfcljikgmpgaaMg3
import Derived.Test.YtedfcljikgmpgaaMg7
import Derived.Test.YtedfcljikgmpgaaMg6
import Derived.Test.YtedfcljikgmpgaaMg2
import Derived.BigQuiet
import Derived.WalkSpells
set_option linter.unusedVariables false
set_option linter.unusedSimpArgs false

/- Slices of slices of slices: marked and read back. Conditions: at most 20 slices of at most 400 numbers. -/
namespace Go.Proofs.Ytedfcljikgmpgaa
open Go.RowKit

/-- The numbers of the first k. -/
def tot3 (vs : List SV) (wss : List (List SV)) : Nat → Nat
  | 0 => 0
  | k + 1 => tot3 vs wss k + tot (wss.getD k []) (vs.getD k sd0).2.1
theorem tot3_succ (vs : List SV) (wss : List (List SV)) (k : Nat) : tot3 vs wss (k + 1) = tot3 vs wss k + tot (wss.getD k []) (vs.getD k sd0).2.1 := rfl
theorem tot3_le {vs : List SV} {wss : List (List SV)} {n T : Nat} (h : ∀ i, i < n → tot (wss.getD i []) (vs.getD i sd0).2.1 ≤ T) : ∀ k, k ≤ n → tot3 vs wss k ≤ k * T
  | 0, _ => by simp [tot3]
  | k + 1, hk => by
    have h1 := tot3_le h k (by omega)
    have h2 := h k (by omega)
    rw [tot3_succ, Nat.succ_mul]; omega
def marks3 (vs : List SV) (wss : List (List SV)) (n : Nat) : List (List (List Int)) := (List.range n).map fun i => marks2 (wss.getD i []) (1 + tot3 vs wss i) (vs.getD i sd0).2.1
theorem marks3_getD {vs : List SV} {wss : List (List SV)} {n i : Nat} (h : i < n) : (marks3 vs wss n).getD i [] = marks2 (wss.getD i []) (1 + tot3 vs wss i) (vs.getD i sd0).2.1 := by
  rw [List.getD_eq_getElem?_getD, List.getElem?_eq_getElem (by simp [marks3, h])]; simp [marks3]

/-- Rows of the call's own are kept when older blocks turn. -/
theorem S3.only {w w' : World} {base n c : Nat} {A : Option Addr} {vs : List SV} {wss : List (List SV)} {rg : List (Nat × Nat)} {ls : List (List (List Int))} (h : S3 w base A n c vs wss rg ls) {us : List SV} {m : Nat} (ho : OnlyIn w w' us m)
    (hd : ∀ t, t < m → ∀ k, (sval (us.getD t sd0)).ownBlock = some k → k < base) : S3 w' base A n c vs wss rg ls := by
  refine ⟨ownsRow_only h.own ho fun b e t ht e2 => ?_, h.lv, h.lw, h.lg, h.lx, fun i hi => (h.row i hi).onlyT ho (fun b eb t ht e2 => ?_) (fun s hs' b eb t ht e2 => ?_), h.up, h.lo, h.ord, h.out⟩
  · have h1 := h.lt_ b e; have h2 := hd t ht b e2; omega
  · have h1 := (h.rg_le hi).1 b eb; have h2 := hd t ht b e2; have := h.lo i hi; omega
  · have h1 := (h.rg_le hi).2 s hs' b eb; have h2 := hd t ht b e2; have := h.lo i hi; omega

set_option maxHeartbeats 800000 in
/-- heldInt64SS, from a later mark on. -/
theorem heldSSk (S : Nat) (A : Option Addr) (n c bo bi : Nat) (vs : List SV) (w : World) (hx : SS w bo bi A n c vs (marks2 vs (1 + S) n)) (hn : n ≤ 1048576) (hlen : Hid (tot vs n ≤ 1048576)) (hS : S ≤ 1048576) :
    Calls Try.prog 21 #[.slice A n c, .int .i64 (1 + (S : Int))] w fun e w' => (∃ X, X ≤ 2097152 ∧ Hid (S + tot vs n = X) ∧ e = .returned (.int .i64 (1 + (X : Int)))) ∧ w = w' := by
  have HX := Lib.hid hx
  clear hx
  go_enter Try.func21, Try.ntmps21
  go_wp2
  go_loop [1, 5] (fun v i => ∃ (k T : Nat), k ≤ n ∧ Hid (S + tot vs k = T) ∧ i = .int .i64 (k : Nat) ∧ v = .int .i64 (1 + (T : Int))) (fun _ i => n - (intOf i).toNat)
  case atStart => exact ⟨0, S, Nat.zero_le _, Lib.hid rfl, rfl, rfl⟩
  case round =>
    obtain ⟨k, T, hk, hT, rfl, rfl⟩ := hrel
    have hT1 : T ≤ 2097152 := by have := tot_mono (vs := vs) hk; have := hT.out; have := hlen.out; omega
    by_cases hlt : k < n
    · obtain ⟨g, rfl, _, _, hc⟩ := HX.out.at_ (by omega)
      have c1 := hc k hlt
      have r1 := HX.out.row k hlt
      rw [marks2_getD hlt] at r1
      have hl : (vs.getD k sd0).2.1 ≤ 1048576 := Nat.le_trans (tot_row hlt) hlen.out
      have hT2 : Hid (S + tot vs (k + 1) = T + (vs.getD k sd0).2.1) := Lib.hid (by rw [tot_succ, ← hT.out]; omega)
      have hq : 1 + S + tot vs k = 1 + T := by rw [← hT.out]; omega
      obtain ⟨l, el⟩ : ∃ l, (vs.getD k sd0).2.1 = l := ⟨_, rfl⟩
      obtain ⟨A5, e5⟩ : ∃ A5, (vs.getD k sd0).1 = A5 := ⟨_, rfl⟩
      obtain ⟨c5, ec5⟩ : ∃ c5, (vs.getD k sd0).2.2 = c5 := ⟨_, rfl⟩
      rw [e5, el, ec5] at c1
      rw [e5, el, ec5, hq] at r1
      rw [el] at hl hT2
      have R1 := Lib.hid r1
      clear r1 e5 el ec5 hc hq
      go_wp2_with fail
      refine (heldK (1 + T) _ A5 l c5 _ w R1.out.ri_ R1.out.hid (by omega) (by omega) (Lib.hid rfl) (by omega)).mono ?_
      rintro e w2 ⟨rfl, rfl⟩
      go_wp2_with fail
      go_round
      case rel => exact ⟨k + 1, T + l, by omega, hT2, by go_num, by go_num⟩
      case measure => simp [intOf]; omega
    · have hkn : k = n := by omega
      subst hkn
      go_wp2
      go_ret
      exact ⟨⟨T, hT1, hT, rfl⟩, rfl⟩

set_option maxHeartbeats 800000 in
/-- markInt64SSS. -/
theorem markSSS (A : Option Addr) (n c base : Nat) (vs : List SV) (wss : List (List SV)) (rg : List (Nat × Nat)) (ls : List (List (List Int))) (w : World) (hx : S3 w base A n c vs wss rg ls) (hn : n ≤ 20) (hbw : base ≤ w.heap.size)
    (hlen : Hid (∀ i, i < n → (vs.getD i sd0).2.1 ≤ 20 ∧ tot (wss.getD i []) (vs.getD i sd0).2.1 ≤ 400)) :
    Calls Try.prog 31 #[.slice A n c, .int .i64 1] w fun e w' => (∃ X, X ≤ 8000 ∧ Hid (tot3 vs wss n = X) ∧ e = .returned (.int .i64 (1 + (X : Int)))) ∧ S3 w' base A n c vs wss rg (marks3 vs wss n) ∧ Below base w w' := by
  have HX := Lib.hid hx
  clear hx
  go_enter Try.func31, Try.ntmps31
  go_wp2
  go_loopw [1, 5] (fun v i wr => ∃ (k T : Nat) (zss : List (List (List Int))), k ≤ n ∧ Hid (tot3 vs wss k = T) ∧ i = .int .i64 (k : Nat) ∧ v = .int .i64 (1 + (T : Int)) ∧ S3 wr base A n c vs wss rg zss ∧ (∀ t, t < k → zss.getD t [] = marks2 (wss.getD t []) (1 + tot3 vs wss t) (vs.getD t sd0).2.1) ∧ Below base w wr) (fun _ i _ => n - (intOf i).toNat)
  case atStart => exact ⟨0, 0, _, Nat.zero_le _, Lib.hid rfl, rfl, by go_num, HX.out, fun j h => absurd h (by omega), Below.refl _ _⟩
  case round =>
    obtain ⟨k, T, zss, hk, hT, rfl, rfl, ss, hz, oi⟩ := hrel
    have Ss := Lib.hid ss
    have Hz := Lib.hid hz
    have Oi := Lib.hid oi
    have hT1 : T ≤ 8000 := by have := tot3_le (fun i hi => (hlen.out i hi).2) k hk; have := hT.out; omega
    clear ss hz oi
    by_cases hlt : k < n
    · obtain ⟨g, rfl, _, _, hc⟩ := Ss.out.at_ (by omega)
      have c1 := hc k hlt
      have r1 := Ss.out.row k hlt
      have hl : (vs.getD k sd0).2.1 ≤ 20 := (hlen.out k hlt).1
      have ht4 : Hid (tot (wss.getD k []) (vs.getD k sd0).2.1 ≤ 1048576) := Lib.hid (by have := (hlen.out k hlt).2; omega)
      have hT2 : Hid (∀ X, T + tot (wss.getD k []) (vs.getD k sd0).2.1 = X → tot3 vs wss (k + 1) = X) := Lib.hid (fun X e => by rw [tot3_succ, hT.out, e])
      have MK : Hid (∀ w2 ys, SS w2 (rg.getD k (0, 0)).1 (rg.getD k (0, 0)).1 (vs.getD k sd0).1 (vs.getD k sd0).2.1 (vs.getD k sd0).2.2 (wss.getD k []) ys → OnlyIn wr w2 (wss.getD k []) (vs.getD k sd0).2.1 → S3 w2 base (some ⟨g, 0, none⟩) n c vs wss rg (zss.set k ys) ∧ Below base w w2) :=
        Lib.hid fun w2 ys h1 h2 => ⟨Ss.out.marked hlt h1 h2, Oi.out.trans (h2.below (Nat.le_trans hbw Oi.out.size) fun t ht b e => by have := (Ss.out.rg_le hlt).2 t ht b e; have := Ss.out.lo k hlt; omega)⟩
      obtain ⟨l, el⟩ : ∃ l, (vs.getD k sd0).2.1 = l := ⟨_, rfl⟩
      obtain ⟨A5, e5⟩ : ∃ A5, (vs.getD k sd0).1 = A5 := ⟨_, rfl⟩
      obtain ⟨c5, ec5⟩ : ∃ c5, (vs.getD k sd0).2.2 = c5 := ⟨_, rfl⟩
      have El := Lib.hid el
      rw [e5, el, ec5] at c1 r1 MK
      rw [el] at hl hT2 ht4
      have R1 := Lib.hid r1
      clear r1 e5 el ec5 hc
      go_wp2_with fail
      refine (markSSk T A5 l c5 _ _ (wss.getD k []) _ wr R1.out (by omega) ht4 (by omega)).mono ?_
      rintro e w2 ⟨X, hX, eX, rfl, s2, g2⟩
      have M2 := Lib.hid (MK.out w2 _ s2 g2)
      have hX2 : Hid (tot3 vs wss (k + 1) = X) := Lib.hid (hT2.out X eX.out)
      have hX3 : X ≤ 8000 := by have := tot3_le (fun i hi => (hlen.out i hi).2) (k + 1) (by omega); have := hX2.out; omega
      clear s2 g2
      go_wp2_with fail
      go_roundw
      case rel =>
        refine ⟨k + 1, X, zss.set k (marks2 (wss.getD k []) (1 + T) l), by omega, hX2, by go_num, rfl, M2.out.1, fun t ht => ?_, M2.out.2⟩
        by_cases e : k = t
        · subst e
          rw [List.getD_eq_getElem?_getD, List.getElem?_set, if_pos rfl, if_pos (by rw [Ss.out.lx]; exact hlt), hT.out, El.out]; rfl
        · rw [List.getD_eq_getElem?_getD, List.getElem?_set, if_neg e, ← List.getD_eq_getElem?_getD]; exact Hz.out t (by omega)
      case measure => simp [intOf]; omega
    · have hkn : k = n := by omega
      subst hkn
      have Ez : Hid (zss = marks3 vs wss k) := Lib.hid (by
        apply List.ext_getElem (by rw [Ss.out.lx]; simp [marks3])
        intro i h1 h2
        have h3 : i < k := by rw [← Ss.out.lx]; exact h1
        have := Hz.out i h3
        rw [← marks3_getD h3, List.getD_eq_getElem?_getD, List.getD_eq_getElem?_getD, List.getElem?_eq_getElem h1, List.getElem?_eq_getElem h2] at this
        exact this)
      go_wp2
      go_ret
      exact ⟨⟨T, hT1, hT, rfl⟩, by rw [← Ez.out]; exact Ss.out, Oi.out⟩

set_option maxHeartbeats 800000 in
/-- heldInt64SSS. -/
theorem heldSSS (A : Option Addr) (n c base : Nat) (vs : List SV) (wss : List (List SV)) (rg : List (Nat × Nat)) (w : World) (hx : S3 w base A n c vs wss rg (marks3 vs wss n)) (hn : n ≤ 20)
    (hlen : Hid (∀ i, i < n → (vs.getD i sd0).2.1 ≤ 20 ∧ tot (wss.getD i []) (vs.getD i sd0).2.1 ≤ 400)) :
    Calls Try.prog 32 #[.slice A n c, .int .i64 1] w fun e w' => (∃ X, X ≤ 8000 ∧ Hid (tot3 vs wss n = X) ∧ e = .returned (.int .i64 (1 + (X : Int)))) ∧ w = w' := by
  have HX := Lib.hid hx
  clear hx
  go_enter Try.func32, Try.ntmps32
  go_wp2
  go_loop [1, 5] (fun v i => ∃ (k T : Nat), k ≤ n ∧ Hid (tot3 vs wss k = T) ∧ i = .int .i64 (k : Nat) ∧ v = .int .i64 (1 + (T : Int))) (fun _ i => n - (intOf i).toNat)
  case atStart => exact ⟨0, 0, Nat.zero_le _, Lib.hid rfl, rfl, by go_num⟩
  case round =>
    obtain ⟨k, T, hk, hT, rfl, rfl⟩ := hrel
    have hT1 : T ≤ 8000 := by have := tot3_le (fun i hi => (hlen.out i hi).2) k hk; have := hT.out; omega
    by_cases hlt : k < n
    · obtain ⟨g, rfl, _, _, hc⟩ := HX.out.at_ (by omega)
      have c1 := hc k hlt
      have r1 := HX.out.row k hlt
      rw [marks3_getD hlt, hT.out] at r1
      have hl : (vs.getD k sd0).2.1 ≤ 20 := (hlen.out k hlt).1
      have ht4 : Hid (tot (wss.getD k []) (vs.getD k sd0).2.1 ≤ 1048576) := Lib.hid (by have := (hlen.out k hlt).2; omega)
      have hT2 : Hid (∀ X, T + tot (wss.getD k []) (vs.getD k sd0).2.1 = X → tot3 vs wss (k + 1) = X) := Lib.hid (fun X e => by rw [tot3_succ, hT.out, e])
      obtain ⟨l, el⟩ : ∃ l, (vs.getD k sd0).2.1 = l := ⟨_, rfl⟩
      obtain ⟨A5, e5⟩ : ∃ A5, (vs.getD k sd0).1 = A5 := ⟨_, rfl⟩
      obtain ⟨c5, ec5⟩ : ∃ c5, (vs.getD k sd0).2.2 = c5 := ⟨_, rfl⟩
      rw [e5, el, ec5] at c1 r1
      rw [el] at hl hT2 ht4
      have R1 := Lib.hid r1
      clear r1 e5 el ec5 hc
      go_wp2_with fail
      refine (heldSSk T A5 l c5 _ _ (wss.getD k []) w R1.out (by omega) ht4 (by omega)).mono ?_
      rintro e w2 ⟨⟨X, hX, eX, rfl⟩, rfl⟩
      have hX2 : Hid (tot3 vs wss (k + 1) = X) := Lib.hid (hT2.out X eX.out)
      have hX3 : X ≤ 8000 := by have := tot3_le (fun i hi => (hlen.out i hi).2) (k + 1) (by omega); have := hX2.out; omega
      go_wp2_with fail
      go_round
      case rel => exact ⟨k + 1, X, by omega, hX2, by go_num, rfl⟩
      case measure => simp [intOf]; omega
    · have hkn : k = n := by omega
      subst hkn
      go_wp2
      go_ret
      exact ⟨⟨T, hT1, hT, rfl⟩, rfl⟩
end Go.Proofs.Ytedfcljikgmpgaa

/- equalInts of the model. No condition but lengths. -/
namespace Go.Proofs.Ytedfcljikgmpgaa
open Go.RowKit

set_option maxHeartbeats 400000 in
theorem eqIs2_core (A B : Option Addr) (c d n : Nat) (xs ys : List Int) (w : World) (hx : RI w w.heap.size A xs) (hy : RI w w.heap.size B ys) (lx : Hid (xs.length = n)) (ly : Hid (ys.length = n)) (hn : n ≤ 2097152) :
    Calls Try.prog 99 #[.slice A n c, .slice B n d] w fun e w' => e = .returned (.bool (decide (xs = ys))) ∧ ∃ m, w' = w.drewN m := by
  go_enter Try.func99, Try.ntmps99
  go_wp2
  go_loopw [5] (fun i wr => ∃ k : Nat, k ≤ n ∧ i = .int .i64 k ∧ (∀ j, j < k → xs.getD j 0 = ys.getD j 0) ∧ ∃ m, wr = w.drewN m) (fun i _ => n - (intOf i).toNat)
  case atStart => exact ⟨0, Nat.zero_le _, rfl, fun j h => absurd h (by omega), 0, rfl⟩
  case round =>
    obtain ⟨k, hk, rfl, heq, m, rfl⟩ := hrel
    have Heq := Lib.hid heq
    clear heq
    by_cases hlt : k < n
    · obtain ⟨b, off, rfl, hb, hc⟩ := hx (by rw [lx.out]; omega)
      obtain ⟨b', off', rfl, hb', hc'⟩ := hy (by rw [ly.out]; omega)
      have c1 := hc k (by rw [lx.out]; omega)
      have c2 := hc' k (by rw [ly.out]; omega)
      obtain ⟨x, ex⟩ : ∃ x, xs.getD k 0 = x := ⟨_, rfl⟩
      obtain ⟨y, ey⟩ : ∃ y, ys.getD k 0 = y := ⟨_, rfl⟩
      rw [ex] at c1
      rw [ey] at c2
      have Ex := Lib.hid ex
      have Ey := Lib.hid ey
      clear ex ey hc hc' hx hy
      have p1 : (0 : Int) ≤ k := by omega
      have p2 : (k : Int) < n := by omega
      by_cases hxy : x = y
      · subst hxy
        go_wp2
        go_quiet (fail)
        go_wp2
        go_roundw
        case rel => exact ⟨k + 1, by omega, by go_num, fun j hj => by
          by_cases e : j = k
          · subst e; rw [Ex.out, Ey.out]
          · exact Heq.out j (by omega), _, rfl⟩
        case measure => simp [intOf]; omega
      · have hd : (x != y) = true := by simpa using hxy
        have hd' : (x == y) = false := by simpa using hxy
        go_wp2
        go_quiet (fail)
        go_wp2
        go_ret
        refine ⟨ret_bool (Eq.symm (decide_eq_false fun e => hxy ?_)), _, World.drewN_drewN _ _ _⟩
        rw [← Ex.out, ← Ey.out, e]
    · go_wp2
      go_ret
      have : k = n := by omega
      subst this
      exact ⟨ret_bool (Eq.symm (decide_eq_true (ext_getD lx.out ly.out Heq.out))), _, rfl⟩
theorem eqIs2 (A B : Option Addr) (c d n m : Nat) (xs ys : List Int) (w : World) (hx : RI w w.heap.size A xs) (hy : RI w w.heap.size B ys) (lx : Hid (xs.length = n)) (ly : Hid (ys.length = m)) (hn : n ≤ 2097152) (hm : m ≤ 2097152) :
    Calls Try.prog 99 #[.slice A n c, .slice B m d] w fun e w' => e = .returned (.bool (decide (xs = ys))) ∧ ∃ m, w' = w.drewN m := by
  by_cases hl : n = m
  · subst hl
    exact eqIs2_core A B c d n xs ys w hx hy lx ly hn
  · have hd : ((n : Int) != (m : Int)) = true := by rw [bne_iff_ne]; omega
    have hd' : ((n : Int) == (m : Int)) = false := by rw [beq_eq_false_iff_ne]; omega
    go_enter Try.func99, Try.ntmps99
    go_wp2
    go_ret
    refine ⟨ret_bool (Eq.symm (decide_eq_false fun e => hl ?_)), 0, rfl⟩
    rw [← lx.out, ← ly.out, e]
end Go.Proofs.Ytedfcljikgmpgaa

/- equalPartitions and MinimalBlockSystems of the model. Conditions: at most 1048576 lists of at most 1048576 numbers. -/
namespace Go.Proofs.Ytedfcljikgmpgaa
open Go.RowKit

set_option maxHeartbeats 1600000 in
set_option maxRecDepth 100000 in
/-- equalPartitions. -/
theorem specEqP (A B : Option Addr) (n c m d : Nat) (vs us : List SV) (xss yss : List (List Int)) (w : World) (hx : RR w w.heap.size A n vs xss) (hy : RR w w.heap.size B m us yss) (hn : n ≤ 1000) (hm : m ≤ 1000) (hl1 : Hid (∀ i, i < n → (xss.getD i []).length ≤ 1000)) (hl2 : Hid (∀ i, i < m → (yss.getD i []).length ≤ 1000)) :
    Calls Try.prog 71 #[.slice A n c, .slice B m d] w fun e w' => e = .returned (.bool (decide (xss = yss))) ∧ Below w.heap.size w w' := by
  have HX := Lib.hid hx
  have HY := Lib.hid hy
  clear hx hy
  by_cases hnm : n = m
  · subst hnm
    have e0 : ((n : Int) != (n : Int)) = false := by simp
    go_enter Try.func71, Try.ntmps71
    go_wp2_with fail
    go_loopw [5] (fun i wr => ∃ k : Nat, k ≤ n ∧ i = .int .i64 (k : Nat) ∧ (∀ j, j < k → xss.getD j [] = yss.getD j []) ∧ Below w.heap.size w wr) (fun i _ => n - (intOf i).toNat)
    case atStart => exact ⟨0, Nat.zero_le _, rfl, fun j h => absurd h (Nat.not_lt_zero _), Below.refl _ _⟩
    case round =>
      obtain ⟨k, hk, rfl, hall, bel⟩ := hrel
      have All := Lib.hid hall
      have Be := Lib.hid bel
      clear hall bel
      by_cases hlt : k < n
      · obtain ⟨b, off, A5, l, c5, y, rfl, hb, ev, ey, x1, r1, ly1, hlc⟩ := (HX.out.up Be.out).at_ hlt
        obtain ⟨b', off', A6, l', c6, y', rfl, hb', ev', ey', x2, r2, ly2, hlc'⟩ := (HY.out.up Be.out).at_ hlt
        have h1 := hl1.out k hlt
        have h2 := hl2.out k hlt
        rw [ey, ly1] at h1
        rw [ey', ly2] at h2
        have R1 := Lib.hid r1
        have R2 := Lib.hid r2
        have L1 : Hid (y.length = l) := Lib.hid ly1
        have L2 : Hid (y'.length = l') := Lib.hid ly2
        have Ey := Lib.hid ey
        have Ey' := Lib.hid ey'
        have p1 : (0 : Int) ≤ k := by omega
        have p2 : (k : Int) < n := by omega
        have BD : Hid (∀ q, Below w.heap.size w (wr.drewN q)) := Lib.hid fun q => below_drewN Be.out q
        clear r1 r2 ly1 ly2 ev ey ev' ey' hb hb'
        by_cases e : y = y'
        · have KQ : Hid (∀ q, Calls Try.prog 99 #[.slice A5 l c5, .slice A6 l' c6] (wr.drewN q) fun e w' => e = .returned (.bool true) ∧ ∃ m, w' = (wr.drewN q).drewN m) := Lib.hid fun q => by
            have := eqIs2 A5 A6 c5 c6 l l' y y' (wr.drewN q) (R1.out.drewN q) (R2.out.drewN q) L1 L2 (by omega) (by omega)
            rwa [decide_eq_true e] at this
          have All2 : Hid (∀ j, j < k + 1 → xss.getD j [] = yss.getD j []) := Lib.hid fun j hj => by
            by_cases e2 : j = k
            · subst e2; rw [Ey.out, Ey'.out, e]
            · exact All.out j (by omega)
          clear e
          go_wp2_with fail
          go_quiet ((go_at_call 99; exact Calls.quiet_of (KQ.out _)))
          go_wp2_with fail
          go_roundw
          case rel => exact ⟨k + 1, by omega, by go_num, All2.out, BD.out _⟩
          case measure => simp [intOf]; omega
        · have KQ : Hid (∀ q, Calls Try.prog 99 #[.slice A5 l c5, .slice A6 l' c6] (wr.drewN q) fun e w' => e = .returned (.bool false) ∧ ∃ m, w' = (wr.drewN q).drewN m) := Lib.hid fun q => by
            have := eqIs2 A5 A6 c5 c6 l l' y y' (wr.drewN q) (R1.out.drewN q) (R2.out.drewN q) L1 L2 (by omega) (by omega)
            rwa [decide_eq_false e] at this
          have Fin : Hid (false = decide (xss = yss)) := Lib.hid (Eq.symm (decide_eq_false fun e2 => e (by rw [← Ey.out, ← Ey'.out, e2])))
          clear e
          go_wp2_with fail
          go_quiet ((go_at_call 99; exact Calls.quiet_of (KQ.out _)))
          go_wp2_with fail
          go_ret
          exact ⟨ret_bool Fin.out, BD.out _⟩
      · obtain rfl : k = n := by omega
        have Fin : Hid (true = decide (xss = yss)) := Lib.hid (Eq.symm (decide_eq_true (by
          apply List.ext_getElem (by rw [HX.out.lx, HY.out.lx])
          intro i h1 h2
          have := All.out i (by rw [← HX.out.lx]; exact h1)
          rw [getD_L h1, getD_L h2] at this
          exact this)))
        go_wp2_with fail
        go_ret
        exact ⟨ret_bool Fin.out, Be.out⟩
  · have e0 : ((n : Int) != (m : Int)) = true := by rw [bne_iff_ne]; omega
    have e1 : ((n : Int) == (m : Int)) = false := by rw [beq_eq_false_iff_ne]; omega
    have Fin : Hid (false = decide (xss = yss)) := Lib.hid (Eq.symm (decide_eq_false fun e2 => hnm (by rw [← HX.out.lx, ← HY.out.lx, e2])))
    go_enter Try.func71, Try.ntmps71
    go_wp2_with fail
    go_ret
    exact ⟨ret_bool Fin.out, Below.refl _ _⟩

set_option maxHeartbeats 4000000 in
set_option maxRecDepth 100000 in
/-- MinimalBlockSystems. -/
theorem specMsy (a : Int) (A : Option Addr) (n c : Nat) (vs : List SV) (xss : List (List Int)) (w : World) (g : GIn w A n vs xss) (ha : I64 a) :
    Calls Try.prog 28 #[.int .i64 a, .slice A n c] w fun e w' => ∃ A' m' c' us wss rg ls, e = .returned (.slice A' m' c') ∧ S3 w' w.heap.size A' m' c' us wss rg ls ∧ (∀ i, i < m' → (rg.getD i (0, 0)).2 ≤ w'.heap.size) ∧ IsMsy a xss ls ∧ Below w.heap.size w w' := by
  have HX := Lib.hid g.rr
  have hlx : Hid (xss.length = n) := Lib.hid g.rr.lx
  have hn := g.hn
  have hl := Lib.hid g.hl
  clear g
  have B0 : Hid (Below w.heap.size w (w.alloc (.cells #[] 22))) := Lib.hid ((Below.refl _ _).alloc (Nat.le_refl _) _)
  have S0 : Hid (S3 (w.alloc (.cells #[] 22)) w.heap.size (some ⟨w.heap.size, 0, none⟩) 0 0 [] [] [] []) := Lib.hid (S3.lit0 w _ (Nat.le_refl _))
  rcases hs : gB a xss with _ | _
  · have Fin : Hid (IsMsy a xss []) := Lib.hid (.inr ⟨hs, rfl⟩)
    have Hs := Lib.hid hs
    clear hs
    go_enter Try.func28, Try.ntmps28
    go_wp2_with fail
    go_loopw [5, 6] (fun v yv wr => v = .slice (some ⟨w.heap.size, 0, none⟩) 0 0 ∧ yv = .int .i64 1 ∧ wr = w.alloc (.cells #[] 22)) (fun _ _ _ => 0)
    case atStart => exact ⟨rfl, rfl, rfl⟩
    case round =>
      obtain ⟨rfl, rfl, rfl⟩ := hrel
      by_cases h1 : (1 : Int) < a
      · have d0 : decide ((1 : Int) < a) = true := decide_eq_true h1
        clear h1
        go_wp2_with (first
          | (go_at_call 39; refine (specGS a A n c vs xss _ (HX.out.up B0.out) hn hl ha).mono ?_; rintro e w1 ⟨rfl, b1⟩; rw [Hs.out]; have B1 : Hid (Below w.heap.size w w1) := Lib.hid (btr B0.out b1); have S1 := Lib.hid (S0.out.upB b1); clear b1)
          | go_in)
        go_ret
        exact ⟨_, _, _, _, _, _, _, rfl, S1.out, fun i h => absurd h (Nat.not_lt_zero _), Fin.out, B1.out⟩
      · have d0 : decide ((1 : Int) < a) = false := decide_eq_false h1
        clear h1
        go_wp2_with fail
        go_ret
        exact ⟨_, _, _, _, _, _, _, rfl, S0.out, fun i h => absurd h (Nat.not_lt_zero _), Fin.out, B0.out⟩
  · obtain ⟨N, rfl, hN1, hN2, hg8, hpm, hok⟩ := gB_pm hs
    have Hs := Lib.hid hs
    have Ok : Hid (∀ g ∈ xss, Pn N g) := Lib.hid hok
    have hn8 : n ≤ 8 := by rw [← hlx.out]; exact hg8
    obtain ⟨f, ef⟩ : ∃ f, mnS xss N = f := ⟨_, rfl⟩
    have Ef := Lib.hid ef
    have S1 : Hid (S3 (w.alloc (.cells #[] 22)) w.heap.size (some ⟨w.heap.size, 0, none⟩) 0 0 [] [] [] (sysL f 1)) := Lib.hid (by rw [sysL_start]; exact S0.out)
    clear hs hpm hok ef S0
    go_enter Try.func28, Try.ntmps28
    go_wp2_with fail
    go_loopw [5, 6] (fun v yv wr => ∃ (y k c' : Nat) (A' : Option Addr) (us : List SV) (wss : List (List SV)) (rg : List (Nat × Nat)), 1 ≤ y ∧ y ≤ N ∧ k ≤ 20 ∧ yv = .int .i64 (y : Nat) ∧ v = .slice A' k c' ∧ S3 wr w.heap.size A' k c' us wss rg (sysL f y) ∧ (∀ i, i < k → (rg.getD i (0, 0)).2 ≤ wr.heap.size) ∧ (∀ z, 1 ≤ z → z < y → ∃ r, LstM xss N 0 z r) ∧ Below w.heap.size w wr) (fun _ yv _ => N - (intOf yv).toNat)
    case atStart => exact ⟨1, 0, 0, _, [], [], [], Nat.le_refl _, hN1, by omega, rfl, rfl, S1.out, fun i h => absurd h (Nat.not_lt_zero _), fun z a b => absurd b (by omega), B0.out⟩
    case round =>
      clear S1 B0
      obtain ⟨y, k, c', A', us, wss, rg, hy1, hyN, hk20, rfl, rfl, h3, hrg, hex, bel⟩ := hrel
      have H3 := Lib.hid h3
      have Hrg := Lib.hid hrg
      have Hex := Lib.hid hex
      have Be := Lib.hid bel
      have hzr := bel.size
      clear h3 hrg hex bel
      by_cases hlt : y < N
      · have d0 : decide ((y : Int) < (N : Int)) = true := by simp; omega
        go_wp2_with (first
          | (go_at_call 39; refine (specGS N A n c vs xss wr (HX.out.up Be.out) hn hl ha).mono ?_; rintro e w1 ⟨rfl, b1⟩; rw [Hs.out]
             have Bg := Lib.hid b1
             clear b1)
          | (go_at_call 59; fail))
        have hzg := Bg.out.size
        have Bw1 : Hid (Below w.heap.size w w1) := Lib.hid (btr Be.out Bg.out)
        have K0 := specMinB N n c 0 y A vs xss w1 (HX.out.up Bw1.out) Ok hn8 hN1 hN2 (by omega) hlt
        refine Calls.mono (show Calls Try.prog 59 #[.int .i64 (N : Nat), .slice A n c, .int .i64 0, .int .i64 (y : Nat)] w1 _ from K0) ?_
        clear K0
        rintro e w2 ⟨A2, m2, c2, u2, r, rfl, hr, s2, b2⟩
        have efy : canon N r = f y := by rw [← Ef.out]; exact mnS_eq hr
        rw [efy] at s2
        have hpos : 1 ≤ m2 := by rw [← s2.lx, ← efy, canon_len]; exact cls_pos (x := 0) (by omega)
        have Hex2 : Hid (∀ z, 1 ≤ z → z < y + 1 → ∃ r, LstM xss N 0 z r) := Lib.hid fun z a b => by
          by_cases e : z = y
          · subst e; exact ⟨r, hr⟩
          · exact Hex.out z a (by omega)
        have hfl : (f y).length ≤ 20 ∧ ∀ p ∈ f y, p.length ≤ 20 := by rw [← efy]; exact prt_bound (canon_prt _ _) hN2
        have hm2 : m2 ≤ 20 := by rw [← s2.lx]; exact hfl.1
        have Lf : Hid ((f y).length = m2) := Lib.hid s2.lx
        have Hl2 : Hid (∀ i, i < m2 → ((f y).getD i []).length ≤ 1000) := Lib.hid fun i hi => by
          have := hfl.2 _ (getD_memL (show i < (f y).length by rw [s2.lx]; exact hi)); omega
        have hsl : ∀ p ∈ sysL f y, p.length ≤ 20 ∧ ∀ z ∈ p, z.length ≤ 20 := fun p hp => by
          obtain ⟨z, _, _, rfl, _⟩ := sysL_mem _ hp
          rw [← Ef.out]; exact prt_bound (canon_prt _ _) hN2
        have Hl1 : Hid (∀ i, i < k → ((sysL f y).getD i []).length ≤ 1000 ∧ ∀ t, t < ((sysL f y).getD i []).length → (((sysL f y).getD i []).getD t []).length ≤ 1000) := Lib.hid fun i hi => by
          have hm : (sysL f y).getD i [] ∈ sysL f y := by
            rw [List.getD_eq_getElem?_getD, List.getElem?_eq_getElem (by rw [H3.out.lx]; exact hi)]; exact List.getElem_mem _
          have h1 := hsl _ hm
          exact ⟨by omega, fun t ht => by have := h1.2 _ (getD_memL ht); omega⟩
        have S2 := Lib.hid s2
        have B2 : Hid (Below wr.heap.size wr w2) := Lib.hid (btr Bg.out b2)
        have hz2 := b2.size
        have U2 : Hid ((∀ k, (Value.slice A2 m2 c2).ownBlock = some k → k < w2.heap.size) ∧ ∀ t, t < m2 → ∀ k, (sval (u2.getD t sd0)).ownBlock = some k → k < w2.heap.size) := Lib.hid ⟨fun k e => (s2.lt_ k e).2, fun t ht k e => ((s2.row t ht).lt_ k e).2⟩
        obtain ⟨K0, eK0⟩ : ∃ b, ((m2 : Int) == 1) = b := ⟨_, rfl⟩
        have HK0 : Hid (((m2 : Int) == 1) = K0) := Lib.hid eK0
        have HrgL : Hid (∀ i, i < k → (rg.getD i (0, 0)).2 ≤ w1.heap.size) := Lib.hid fun i hi => Nat.le_trans (Hrg.out i hi) hzg
        have hOut : Hid (∀ q, (Value.slice A' k c').ownBlock = some q → q < w1.heap.size) := Lib.hid fun q hq => Nat.lt_of_lt_of_le (H3.out.lt_ q hq).2 hzg
        have KS : Hid (∀ W : World, Below w2.heap.size w2 W → S3 W w.heap.size A' k c' us wss rg (sysL f y) ∧ Below w.heap.size w W) := Lib.hid fun W hW => ⟨H3.out.upB (btr B2.out hW), btr Be.out (btr B2.out hW)⟩
        have hzw1 := Bw1.out.size
        clear s2 b2 hr efy hfl hsl
        go_wp2_with fail
        go_loopw [8, 9] (fun kv iv wr2 => ∃ (i : Nat) (b : Bool), i ≤ k ∧ iv = .int .i64 (i : Nat) ∧ kv = .bool b ∧ (b = true ↔ (m2 = 1 ∨ ∃ j, j < i ∧ (sysL f y).getD j [] = f y)) ∧ Below w2.heap.size w2 wr2) (fun _ iv _ => k - (intOf iv).toNat)
        case atStart => exact ⟨0, K0, Nat.zero_le _, rfl, rfl, by
          rw [← HK0.out, beq_iff_eq]
          constructor
          · intro h; exact .inl (by omega)
          · rintro (h | ⟨j, hj, _⟩)
            · omega
            · omega, Below.refl _ _⟩
        case round =>
          clear eK0 HK0
          obtain ⟨i, b, hi, rfl, rfl, hb, bel⟩ := hrel
          have Hb := Lib.hid hb
          have Bi := Lib.hid bel
          obtain ⟨hS3, hBw⟩ := KS.out _ bel
          have H5 := Lib.hid hS3
          have Bw := Lib.hid hBw
          have S5 := Lib.hid (S2.out.up bel)
          have hz5 := bel.size
          clear hb bel hS3 hBw
          by_cases hlt2 : i < k
          · obtain ⟨b5, o5, A5, l, c5, u5, y5, rfl, hb5, ev, ey, x1, r1⟩ := H5.out.rr.at_ hlt2
            have q0 : (0 : Int) ≤ i := by omega
            have q1 : (i : Int) < k := by omega
            have R1 := Lib.hid r1
            have Ey := Lib.hid ey
            have h1 := Hl1.out i hlt2
            rw [ey, r1.lx] at h1
            have hl5 := h1.1
            have Hl5 : Hid (∀ t, t < l → (y5.getD t []).length ≤ 1000) := Lib.hid h1.2
            clear ev ey r1 hb5 h1
            rcases b with _ | _
            · by_cases e : y5 = f y
              · have Hb2 : Hid ((true : Bool) = true ↔ (m2 = 1 ∨ ∃ j, j < i + 1 ∧ (sysL f y).getD j [] = f y)) := Lib.hid ⟨fun _ => .inr ⟨i, by omega, by rw [Ey.out, e]⟩, fun _ => rfl⟩
                have d1 : Hid (decide (y5 = f y) = true) := Lib.hid (decide_eq_true e)
                have Hb3 : Hid (m2 = 1 ∨ ∃ j, j < i + 1 ∧ (sysL f y).getD j [] = f y) := Lib.hid (.inr ⟨i, by omega, by rw [Ey.out, e]⟩)
                clear e Hb2
                go_wp2_with (go_at_call 71; fail)
                refine (specEqP A5 A2 l c5 m2 c2 u5 u2 y5 (f y) wr R1.out S5.out.rr (by omega) (by omega) Hl5 Hl2).mono ?_
                rintro e w6 ⟨rfl, b6⟩
                rw [d1.out]
                have B6 : Hid (Below w2.heap.size w2 w6) := Lib.hid (btr Bi.out b6)
                clear b6
                go_wp2_with fail
                go_roundw
                case rel => exact ⟨i + 1, true, by omega, by go_num, rfl, ⟨fun _ => Hb3.out, fun _ => rfl⟩, B6.out⟩
                case measure => simp [intOf]; omega
              · have d1 : Hid (decide (y5 = f y) = false) := Lib.hid (decide_eq_false e)
                have Hb3 : Hid (¬ (m2 = 1 ∨ ∃ j, j < i + 1 ∧ (sysL f y).getD j [] = f y)) := Lib.hid fun h => by
                  rcases h with h | ⟨j, hj, ej⟩
                  · have := Hb.out.2 (.inl h); cases this
                  · by_cases e2 : j = i
                    · subst e2; exact e (by rw [← Ey.out]; exact ej)
                    · have := Hb.out.2 (.inr ⟨j, by omega, ej⟩); cases this
                clear e
                go_wp2_with (go_at_call 71; fail)
                refine (specEqP A5 A2 l c5 m2 c2 u5 u2 y5 (f y) wr R1.out S5.out.rr (by omega) (by omega) Hl5 Hl2).mono ?_
                rintro e w6 ⟨rfl, b6⟩
                rw [d1.out]
                have B6 : Hid (Below w2.heap.size w2 w6) := Lib.hid (btr Bi.out b6)
                clear b6
                go_wp2_with fail
                go_roundw
                case rel => exact ⟨i + 1, false, by omega, by go_num, rfl, ⟨fun h => (by cases h), fun h => absurd h Hb3.out⟩, B6.out⟩
                case measure => simp [intOf]; omega
            · have Hb3 : Hid (m2 = 1 ∨ ∃ j, j < i + 1 ∧ (sysL f y).getD j [] = f y) := Lib.hid ((Hb.out.1 rfl).imp id fun ⟨j, hj, ej⟩ => ⟨j, by omega, ej⟩)
              go_wp2_with fail
              go_roundw
              case rel => exact ⟨i + 1, true, by omega, by go_num, rfl, ⟨fun _ => Hb3.out, fun _ => rfl⟩, Bi.out⟩
              case measure => simp [intOf]; omega
          · obtain rfl : i = k := by omega
            have Mem : Hid (f y ∈ sysL f y ↔ ∃ j, j < i ∧ (sysL f y).getD j [] = f y) := Lib.hid (by
              constructor
              · intro h
                obtain ⟨j, hj, e⟩ := List.mem_iff_getElem.1 h
                exact ⟨j, by rw [← H5.out.lx]; exact hj, by rw [List.getD_eq_getElem?_getD, List.getElem?_eq_getElem hj, e]; rfl⟩
              · rintro ⟨j, hj, e⟩
                rw [← e, List.getD_eq_getElem?_getD, List.getElem?_eq_getElem (by rw [H5.out.lx]; exact hj)]
                exact List.getElem_mem _)
            have Hrg5 : Hid (∀ j, j < i → (rg.getD j (0, 0)).2 ≤ wr.heap.size) := Lib.hid fun j hj => Nat.le_trans (HrgL.out j hj) (by omega)
            rcases b with _ | _
            · have hno : ¬ (m2 = 1 ∨ ∃ j, j < i ∧ (sysL f y).getD j [] = f y) := fun h => by have := Hb.out.2 h; cases this
              have Nx : Hid (sysL f (y + 1) = sysL f y ++ [f y]) := Lib.hid (sysL_yes hy1 (by rw [Lf.out]; have : m2 ≠ 1 := fun e => hno (.inl e); omega) (fun h => hno (.inr (Mem.out.1 h))))
              have hk19 : i + 1 ≤ 20 := by
                have h5 := sysL_len (f := f) (y + 1)
                rw [Nx.out, List.length_append, H5.out.lx] at h5
                simp at h5
                omega
              clear hno
              go_wp2_with (first | (at_builtin; go_must (refine wpList_app3_ rfl _ _ rfl rfl (H5.out.alloc _) wr.heap.size A2 m2 c2 w1.heap.size w2.heap.size u2 (f y) rfl (by rw [World.cell?_alloc_at _ _ _ _ rfl]; rfl) (S5.out.alloc _) U2.out.1 U2.out.2 hzw1 ⟨hz2, by simp; omega⟩ HrgL.out hOut.out (fun j hj => Nat.le_trans (Hrg5.out j hj) (by simp)) (by omega) ?_); intro A9 c9 w9 s9 g9) | go_in)
              have H9 : Hid (S3 w9 w.heap.size A9 (i + 1) c9 (us ++ [(A2, m2, c2)]) (wss ++ [u2]) (rg ++ [(w1.heap.size, w2.heap.size)]) (sysL f (y + 1))) := Lib.hid (by rw [Nx.out]; exact s9)
              have B9 : Hid (Below w.heap.size w w9) := Lib.hid ((Bw.out.alloc Bw.out.size _).grown g9 (by have := Bw.out.size; simp; omega) (fun q hq => (H5.out.lt_ q hq).1))
              have hz9 : wr.heap.size ≤ w9.heap.size := by have := g9.size; simp at this; omega
              have Hrg9 : Hid (∀ j, j < i + 1 → ((rg ++ [(w1.heap.size, w2.heap.size)]).getD j (0, 0)).2 ≤ w9.heap.size) := Lib.hid fun j hj => by
                by_cases e : j < i
                · rw [getD_app rg _ _ _ (by rw [H5.out.lg]; exact e)]; exact Nat.le_trans (Hrg5.out j e) hz9
                · obtain rfl : j = i := by omega
                  rw [getD_snoc rg _ _ _ H5.out.lg.symm]; show w2.heap.size ≤ _; omega
              clear s9 g9
              go_wp2_with fail
              go_roundw
              case rel => exact ⟨y + 1, i + 1, c9, A9, _, _, _, by omega, by omega, hk19, by go_num, rfl, H9.out, Hrg9.out, Hex2.out, B9.out⟩
              case measure => simp [intOf]; omega
            · have Nx : Hid (sysL f (y + 1) = sysL f y) := Lib.hid (by
                rcases Hb.out.1 rfl with h | h
                · exact sysL_one (by rw [Lf.out]; omega)
                · exact sysL_old (Mem.out.2 h))
              go_wp2_with fail
              go_roundw
              case rel => exact ⟨y + 1, i, c', A', us, wss, rg, by omega, by omega, hk20, by go_num, rfl, by rw [Nx.out]; exact H5.out, Hrg5.out, Hex2.out, Bw.out⟩
              case measure => simp [intOf]; omega
      · obtain rfl : y = N := by omega
        have d0 : decide ((y : Int) < (y : Int)) = false := by simp
        have Fin : Hid (IsMsy y xss (sysL f y)) := Lib.hid (.inl ⟨Hs.out, fun z a b => Hex.out z a (by rwa [Int.toNat_natCast] at b), by rw [Int.toNat_natCast, Ef.out]⟩)
        go_wp2_with fail
        go_ret
        exact ⟨_, _, _, us, wss, rg, _, rfl, H3.out, Hrg.out, Fin.out, Be.out⟩
end Go.Proofs.Ytedfcljikgmpgaa

/- The walk of the law FnExactMinimalBlockSystems: it returns true at every input, and writes nothing that was there. No condition. -/
namespace Go.Proofs.Ytedfcljikgmpgaa
open Go.RowKit

/-- What the bounds say of the rows in memory. -/
theorem S3.bound {w : World} {base n c : Nat} {A : Option Addr} {vs : List SV} {wss : List (List SV)} {rg : List (Nat × Nat)} {ls : List (List (List Int))} (h : S3 w base A n c vs wss rg ls) {a : Int} {gs : List (List Int)} (hm : IsMsy a gs ls) :
    n ≤ 20 ∧ (∀ i, i < n → (vs.getD i sd0).2.1 ≤ 20 ∧ tot (wss.getD i []) (vs.getD i sd0).2.1 ≤ 400) ∧ ∀ i, i < n → (ls.getD i []).length ≤ 1048576 ∧ ∀ t, t < (ls.getD i []).length → ((ls.getD i []).getD t []).length ≤ 1048576 := by
  have hl := hm.len
  have hmem : ∀ i, i < n → ls.getD i [] ∈ ls := fun i hi => by
    rw [List.getD_eq_getElem?_getD, List.getElem?_eq_getElem (by rw [h.lx]; exact hi)]; exact List.getElem_mem _
  have hin : ∀ i, i < n → ∀ t, t < (ls.getD i []).length → ((ls.getD i []).getD t []).length ≤ 20 := fun i hi t ht => by
    refine (hl.2 _ (hmem i hi)).2 _ ?_
    generalize ls.getD i [] = y at ht
    rw [List.getD_eq_getElem?_getD, List.getElem?_eq_getElem ht]; exact List.getElem_mem _
  refine ⟨by have := h.lx; omega, fun i hi => ?_, fun i hi => ⟨by have := (hl.2 _ (hmem i hi)).1; omega, fun t ht => by have := hin i hi t ht; omega⟩⟩
  have h1 : (vs.getD i sd0).2.1 ≤ 20 := by rw [← (h.row i hi).lx]; exact (hl.2 _ (hmem i hi)).1
  refine ⟨h1, ?_⟩
  have h2 : ∀ k, k ≤ (vs.getD i sd0).2.1 → tot (wss.getD i []) k ≤ k * 20 := by
    intro k
    induction k with
    | zero => intro _; simp [tot]
    | succ k ih =>
      intro hk
      have e1 : ((wss.getD i []).getD k sd0).2.1 ≤ 20 := by
        rw [← ((h.row i hi).row k (by omega)).1]
        exact hin i hi k (by rw [(h.row i hi).lx]; omega)
      have := ih (by omega)
      rw [tot_succ]; omega
  have := h2 _ (Nat.le_refl _)
  have : (vs.getD i sd0).2.1 * 20 ≤ 20 * 20 := Nat.mul_le_mul_right _ h1
  omega

set_option maxHeartbeats 4000000 in
set_option maxRecDepth 100000 in
/-- The law FnExactMinimalBlockSystems. -/
theorem lawMinimalBlockSystems (i0 : Int) (g1A : Option Addr) (g1n g1c : Nat) (g1v : List SV) (g1x : List (List Int)) (w : World) (wfi0 : I64 i0) (hg1 : RR w w.heap.size g1A g1n g1v g1x) (hmg1 : g1n ≤ maxLen) (hkg1 : Hid (∀ i, i < g1n → (g1v.getD i sd0).2.1 ≤ maxLen)) :
    Calls Try.prog 8 #[.int .i64 i0, .slice g1A g1n g1c] w fun e w' => e = .returned (.bool true) ∧ Below w.heap.size w w' := by
  have Hg1 := Lib.hid hg1
  have hlxg1 := Lib.hid hg1.lx
  have hllg1 := Lib.hid hg1.lens
  clear hg1
  by_cases hT0 : ((g1n + tot g1v g1n : Nat) : Int) ≤ (1048576 : Int)
  · skip
    have HT0 := Lib.hid hT0
    obtain ⟨LE, eLE⟩ : ∃ L : Int, (1048576 : Int) - ((g1n + tot g1v g1n : Nat) : Int) = L := ⟨_, rfl⟩
    have hLE : ¬ LE < 0 := by omega
    have dLE : decide (LE < 0) = false := by simp; omega
    have ELE := Lib.hid eLE
    clear eLE
    have hng1 : g1n ≤ 1048576 := by omega
    have KTg1 : Hid (tot g1v g1n ≤ 1048576) := Lib.hid (by omega)
    have hlg1 : Hid (∀ i, i < g1n → (g1v.getD i sd0).2.1 ≤ 1048576) := Lib.hid fun i hi => by have := tot_row (vs := g1v) hi; have := KTg1.out; omega
    have hylg1 : Hid (∀ i, i < g1n → (g1x.getD i []).length ≤ 1048576) := Lib.hid fun i hi => by rw [hllg1.out i hi]; exact hlg1.out i hi
    clear hT0
    go_enter Try.func8, Try.ntmps8
    go_wp2_with fail
    have K0 := szSS2 g1A g1n g1c 1048576 g1v g1x w Hg1.out hmg1 hkg1 (by decide) (by decide)
    refine K0.mono ?_
    rintro e w0 ⟨rfl, rfl⟩
    clear K0
    rw [if_pos HT0.out]
    rw [ELE.out]
    go_wp2_with fail
    refine (toSS g1A g1n g1c g1v g1x w Hg1.out hng1 hlg1).mono ?_
    rintro e w1 ⟨A1, c1, us1, rfl, s1, q1, b1⟩
    have B1 : Hid (Below w.heap.size w w1) := Lib.hid b1
    have hltg1 : Hid (∀ i, i < g1n → (us1.getD i sd0).2.1 ≤ 1048576) := Lib.hid fun i hi => by rw [q1 i hi]; exact hlg1.out i hi
    have S1 := Lib.hid s1
    clear s1 b1 q1
    go_wp2_with fail
    refine (specMsy i0 A1 g1n c1 us1 g1x w1 ⟨S1.out.rr, hng1, hltg1.out⟩ wfi0).mono ?_
    rintro e w2 ⟨A2, n2, c2, us2, ws2, rg2, z2, rfl, s2, _, r2, b2⟩
    have Bd := Lib.hid (s2.bound r2)
    have hn2 := (s2.bound r2).1
    have B2 : Hid (Below w.heap.size w w2) := Lib.hid (btr B1.out b2)
    have HR := Lib.hid r2
    have W2 := Lib.hid s2.rr
    have Lz : Hid (∀ i, i < n2 → (z2.getD i []).length ≤ 1048576 ∧ ∀ t, t < (z2.getD i []).length → ((z2.getD i []).getD t []).length ≤ 1048576) := Lib.hid (s2.bound r2).2.2
    clear s2 b2 r2 Bd
    go_wp2_with fail
    refine (toSS g1A g1n g1c g1v g1x w2 (Hg1.out.up B2.out) hng1 hlg1).mono ?_
    rintro e w3 ⟨A3, c3, us3, rfl, s3, q3, b3⟩
    have Z3 : Hid (w2.heap.size ≤ w3.heap.size) := Lib.hid b3.size
    have B3 : Hid (Below w.heap.size w w3) := Lib.hid (btr B2.out b3)
    have W3 := Lib.hid (W2.out.below b3 (Nat.le_refl _))
    have Ixg1 : Hid (∀ t, t < g1n → ∀ k, (sval (us3.getD t sd0)).ownBlock = some k → w2.heap.size ≤ k ∧ k < w3.heap.size) := Lib.hid fun t ht => (s3.row t ht).lt_
    have KTx : Hid (tot us3 g1n ≤ 1048576) := Lib.hid (by rw [tot_eq g1n q3]; exact KTg1.out)
    have hlxg1' : Hid (∀ i, i < g1n → (us3.getD i sd0).2.1 ≤ 1048576) := Lib.hid fun i hi => by rw [q3 i hi]; exact hlg1.out i hi
    have X3 := Lib.hid s3
    clear s3 b3 q3 W2
    go_wp2_with fail
    refine (implMsy i0 A3 g1n c3 us3 g1x w3 ⟨X3.out.rr, hng1, hlxg1'.out⟩).mono ?_
    rintro e w4 ⟨A4, n4, c4, us4, ws4, rg4, z4, rfl, s4, hr4, r4, b4⟩
    have e4 := HR.out.uniq r4
    subst e4
    have hn4 := (s4.bound r4).1
    have Z4 : Hid (w3.heap.size ≤ w4.heap.size) := Lib.hid b4.size
    have B4 : Hid (Below w.heap.size w w4) := Lib.hid (btr B3.out b4)
    have W4 := Lib.hid (W3.out.below b4 Z3.out)
    have X4 := Lib.hid (X3.out.up b4)
    have G4 := Lib.hid s4
    have L4 : Hid (∀ i, i < n4 → (us4.getD i sd0).2.1 ≤ 20 ∧ tot (ws4.getD i []) (us4.getD i sd0).2.1 ≤ 400) := Lib.hid (s4.bound r4).2.1
    have Lz4 : Hid (∀ i, i < n4 → (z2.getD i []).length ≤ 1048576 ∧ ∀ t, t < (z2.getD i []).length → ((z2.getD i []).getD t []).length ≤ 1048576) := Lib.hid (s4.bound r4).2.2
    clear s4 b4 r4 hr4 X3 W3
    go_wp2_with fail
    refine (eqR3_same A4 A2 n4 c4 n2 c2 us4 us2 ws4 ws2 z2 w4 G4.out.rr (W4.out.more (by have := Z3.out; have := Z4.out; omega)) (by omega) Lz4).mono ?_
    rintro e w5 ⟨rfl, b5⟩
    have Z5 : Hid (w4.heap.size ≤ w5.heap.size) := Lib.hid b5.size
    have B5 : Hid (Below w.heap.size w w5) := Lib.hid (btr B4.out b5)
    have W5 := Lib.hid (W4.out.below b5 (by have := Z3.out; have := Z4.out; omega))
    have X5 := Lib.hid (X4.out.up b5)
    have G5 := Lib.hid (G4.out.upB b5)
    clear b5 X4 G4 W4
    go_wp2_with fail
    refine (toSS g1A g1n g1c g1v g1x w5 (Hg1.out.up B5.out) hng1 hlg1).mono ?_
    rintro e w6 ⟨A6, c6, us6, rfl, s6, q6, b6⟩
    have Z6 : Hid (w5.heap.size ≤ w6.heap.size) := Lib.hid b6.size
    have B6 : Hid (Below w.heap.size w w6) := Lib.hid (btr B5.out b6)
    have W6 := Lib.hid (W5.out.below b6 (by have := Z3.out; have := Z4.out; have := Z5.out; omega))
    have X6 := Lib.hid (X5.out.up b6)
    have G6 := Lib.hid (G5.out.upB b6)
    have Y6 := Lib.hid s6
    clear b6 s6 q6 X5 G5 W5
    go_wp2_with fail
    refine (eqRR_same A3 A6 g1n c3 g1n c6 us3 us6 _ w6 X6.out.rr Y6.out.rr (by omega) hylg1).mono ?_
    rintro e w7 ⟨rfl, b7⟩
    have Z7 : Hid (w6.heap.size ≤ w7.heap.size) := Lib.hid b7.size
    have B7 : Hid (Below w.heap.size w w7) := Lib.hid (btr B6.out b7)
    have W7 := Lib.hid (W6.out.below b7 (by have := Z3.out; have := Z4.out; have := Z5.out; have := Z6.out; omega))
    have X7 := Lib.hid (X6.out.up b7)
    have G7 := Lib.hid (G6.out.upB b7)
    clear b7 X6 G6 W6 Y6
    go_wp2_with fail
    refine (markSS A3 g1n c3 _ _ us3 _ w7 X7.out (by omega) KTx).mono ?_
    rintro e w8 ⟨rfl, s8, o8⟩
    have Z8 : Hid (w7.heap.size ≤ w8.heap.size) := Lib.hid o8.size
    have b8 : Below w2.heap.size w7 w8 := o8.below (by have := Z3.out; have := Z4.out; have := Z5.out; have := Z6.out; have := Z7.out; omega) fun t ht k e => (Ixg1.out t ht k e).1
    have B8 : Hid (Below w.heap.size w w8) := Lib.hid (B7.out.trans (b8.mono B2.out.size))
    have W8 := Lib.hid (W7.out.below b8 (Nat.le_refl _))
    have G8 := Lib.hid (G7.out.only o8 fun t ht k e => (Ixg1.out t ht k e).2)
    obtain ⟨T, eT⟩ : ∃ T, tot us3 g1n = T := ⟨_, rfl⟩
    have hT9 : T ≤ 1048576 := by rw [← eT]; exact KTx.out
    rw [eT]
    clear s8 o8 b8 X7 G7 W7 eT
    go_wp2_with fail
    refine (eqR3_same A4 A2 n4 c4 n2 c2 us4 us2 ws4 ws2 z2 w8 G8.out.rr (W8.out.more (by have := Z3.out; have := Z4.out; have := Z5.out; have := Z6.out; have := Z7.out; have := Z8.out; omega)) (by omega) Lz4).mono ?_
    rintro e w9 ⟨rfl, b9⟩
    have Z9 : Hid (w8.heap.size ≤ w9.heap.size) := Lib.hid b9.size
    have B9 : Hid (Below w.heap.size w w9) := Lib.hid (btr B8.out b9)
    have Zq : Hid (w3.heap.size ≤ w9.heap.size ∧ w2.heap.size ≤ w8.heap.size) := Lib.hid (by have := Z3.out; have := Z4.out; have := Z5.out; have := Z6.out; have := Z7.out; have := Z8.out; have := Z9.out; omega)
    have W9 := Lib.hid (W8.out.below b9 Zq.out.2)
    have G9 := Lib.hid (G8.out.upB b9)
    clear b9 G8 W8
    go_wp2_with fail
    refine (markSSS A4 n4 c4 _ us4 ws4 rg4 z2 w9 G9.out (by omega) Zq.out.1 L4).mono ?_
    rintro e w10 ⟨⟨U, hU, eU, rfl⟩, s10, b10⟩
    have Z10 : Hid (w9.heap.size ≤ w10.heap.size) := Lib.hid b10.size
    have B10 : Hid (Below w.heap.size w w10) := Lib.hid (B9.out.trans (b10.mono B3.out.size))
    have W10 := Lib.hid (W9.out.below b10 Z3.out)
    have G10 := Lib.hid s10
    clear s10 b10 W9 G9
    go_wp2_with fail
    refine (heldSSS A4 n4 c4 _ us4 ws4 rg4 w10 G10.out (by omega) L4).mono ?_
    rintro e w' ⟨⟨U', hU', eU', rfl⟩, rfl⟩
    obtain rfl : U = U' := eU.out.symm.trans eU'.out
    go_wp2_with fail
    refine (toSS g1A g1n g1c g1v g1x w10 (Hg1.out.up B10.out) hng1 hlg1).mono ?_
    rintro e w11 ⟨A11, c11, us11, rfl, s11, q11, b11⟩
    have Z11 : Hid (w10.heap.size ≤ w11.heap.size) := Lib.hid b11.size
    have B11 : Hid (Below w.heap.size w w11) := Lib.hid (btr B10.out b11)
    have W11 := Lib.hid (W10.out.below b11 (by have := Z3.out; have := Z10.out; have := Zq.out; omega))
    have G11 := Lib.hid (G10.out.upB b11)
    have hlz : Hid (∀ i, i < g1n → (us11.getD i sd0).2.1 ≤ 1048576) := Lib.hid fun i hi => by rw [q11 i hi]; exact hlg1.out i hi
    have Y11 := Lib.hid s11
    clear s11 b11 q11 W10 G10
    go_wp2_with fail
    refine (implMsy i0 A11 g1n c11 us11 g1x w11 ⟨Y11.out.rr, hng1, hlz.out⟩).mono ?_
    rintro e w12 ⟨A12, n12, c12, us12, ws12, rg12, z12, rfl, s12, _, r12, b12⟩
    have e12 := HR.out.uniq r12
    subst e12
    have hn12 := (s12.bound r12).1
    have Z12 : Hid (w11.heap.size ≤ w12.heap.size) := Lib.hid b12.size
    have B12 : Hid (Below w.heap.size w w12) := Lib.hid (btr B11.out b12)
    have W12 := Lib.hid (W11.out.below b12 (by have := Z3.out; have := Z10.out; have := Z11.out; have := Zq.out; omega))
    have G12 := Lib.hid (G11.out.upB b12)
    have H12 := Lib.hid s12.rr
    have Lz12 : Hid (∀ i, i < n12 → (z2.getD i []).length ≤ 1048576 ∧ ∀ t, t < (z2.getD i []).length → ((z2.getD i []).getD t []).length ≤ 1048576) := Lib.hid (s12.bound r12).2.2
    clear s12 b12 r12 W11 G11
    go_wp2_with fail
    refine (eqR3_same A12 A2 n12 c12 n2 c2 us12 us2 ws12 ws2 z2 w12 H12.out (W12.out.more (by have := Z3.out; have := Z10.out; have := Z11.out; have := Z12.out; have := Zq.out; omega)) (by omega) Lz12).mono ?_
    rintro e w13 ⟨rfl, b13⟩
    have B13 : Hid (Below w.heap.size w w13) := Lib.hid (btr B12.out b13)
    have G13 := Lib.hid (G12.out.upB b13)
    clear b13 G12
    go_wp2_with fail
    refine (heldSSS A4 n4 c4 _ us4 ws4 rg4 w13 G13.out (by omega) L4).mono ?_
    rintro e w' ⟨⟨U', hU', eU', rfl⟩, rfl⟩
    obtain rfl : U = U' := eU.out.symm.trans eU'.out
    go_wp2_with fail
    go_ret
    exact ⟨rfl, B13.out⟩
  · skip
    have HT0 := Lib.hid hT0
    clear hT0
    go_enter Try.func8, Try.ntmps8
    go_wp2_with fail
    have K0 := szSS2 g1A g1n g1c 1048576 g1v g1x w Hg1.out hmg1 hkg1 (by decide) (by decide)
    refine K0.mono ?_
    rintro e w0 ⟨rfl, rfl⟩
    clear K0
    rw [if_neg (Int.not_le.2 HT0.out)]
    go_wp2
    go_ret
    exact ⟨rfl, Below.refl _ _⟩
end Go.Proofs.Ytedfcljikgmpgaa
