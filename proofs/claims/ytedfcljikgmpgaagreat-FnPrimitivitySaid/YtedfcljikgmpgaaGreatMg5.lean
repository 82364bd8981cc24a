/- Part 5 of the texts: Iter, Cnt, Msy, Orbs, SpE, SSk, Sss, EqI, SpG, GmA, GmB. No condition of its own: each text tells its own. -/
import Derived.Test.YtedfcljikgmpgaaGreatMg4
import Derived.Test.YtedfcljikgmpgaaGreatMg3
import Derived.Test.YtedfcljikgmpgaaGreatMg2
import Derived.RangeFuncNested
import Derived.RangeFuncBound
import Derived.RangeFuncCalls
import Derived.RangeFuncLeaves
import Derived.OwnWalkIn
import Derived.TacticsInMore
import Derived.LoopNIn
import Derived.LoopIn
import Derived.Shelf.Abstract
import Derived.Maps.AppendAt
import Derived.Deep.LoopGhost
import Derived.BigQuiet
import Derived.WalkSpells
import Derived.Maps.RangeWalk
set_option linter.unusedVariables false
set_option linter.unusedSimpArgs false

/- A range over the program's iterator of orbits: a law for a body that always goes on, and the iterator's contract. Conditions: at most 1000 points, at most 8 maps. -/
namespace Go.Proofs.YtedfcljikgmpgaaGreat
open Go.RowKit
attribute [local go_sem] Oper.semAt_some

/-- WHAT THE ITERATOR PROMISES: called at the yield of whatever loop, in a world W whose heap ends at r, it makes block r its own and hands the rounds the lists xss, one after the other, each in a new slice; between the rounds it turns block r alone; a round keeps the blocks of kp and block r. -/
def Its (gf : Nat) (lb : Array Value) (kp : Nat → Prop) (xss : List (List Int)) (w0 : World) : Prop :=
  ∀ (l : Nat) (J : Nat → World → Prop) (W : World), (∀ k, kp k → W.heap[k]? = w0.heap[k]?) → w0.heap.size ≤ W.heap.size →
    (∀ i A C, J i A → A.grownBy C (some W.heap.size) → J i C) →
    (∀ i S c n W1 W2, J i W1 → i < xss.length → W.heap.size < W1.heap.size → W1.grownBy W2 (some W.heap.size) → Slc W2 W1.heap.size S n c (xss.getD i []) →
      YieldAt Fence.wide 4 Tryz.prog l #[.slice S n c] W2 fun e W' => e = .returned (.bool true) ∧ J (i + 1) W' ∧ (∀ k, (kp k ∨ k = W.heap.size) → W'.heap[k]? = W2.heap[k]?) ∧ W2.heap.size ≤ W'.heap.size) →
    J 0 W →
    CallsIn Fence.wide 5 Tryz.prog gf (#[.func (.yield l) #[] #[]] ++ lb) W fun e W' => (∃ v, e = .returned v) ∧ J xss.length W'

set_option maxHeartbeats 1000000 in
/-- A RANGE OVER IT, whose body always goes on. -/
theorem rangeT {g : Operand} {p : Tmp} {assign body : Code} {Q : Exit → Act → World → Prop} {a : Act} {w w0 : World} {gf : Nat} {lb : Array Value} {kp : Nat → Prop} {xss : List (List Int)}
    (hg : a.eval g = .func (.func gf) #[] lb) (eg : ∀ args w, (callFunc gf args).run Tryz.prog w = .ok (.enter gf args) w)
    (hs : Its gf lb kp xss w0) (hk0 : ∀ k, kp k → k < w.heap.size ∧ w.heap[k]? = w0.heap[k]?) (hsz : w0.heap.size ≤ w.heap.size)
    (I : Nat → World → Prop) (hI : ∀ i A C, I i A → Xk w.heap.size A C → I i C) (h0 : I 0 w) (ax : Value → Act)
    (hassign : ∀ (l : Nat) (v : Value) (W : World) (K : Act → World → Prop), K (ax v) W → assign.wpIn (Fence.wide.inRound l) 4 Tryz.prog (Exit.then K (fun _ _ _ => False)) { tmps := a.tmps.setIfInBounds p v, defers := [] } W)
    (hbody : ∀ (l i : Nat) (S : Option Addr) (n c : Nat) (W1 W2 : World), I i W1 → i < xss.length → w.heap.size + 2 < W1.heap.size → Xk w.heap.size W1 W2 → Slc W2 W1.heap.size S n c (xss.getD i []) →
      body.wpIn (Fence.wide.inRound l) 4 Tryz.prog (Exit.then (fun _ W' => I (i + 1) W' ∧ (∀ k, (kp k ∨ (w.heap.size ≤ k ∧ k ≤ w.heap.size + 2)) → W'.heap[k]? = W2.heap[k]?) ∧ W2.heap.size ≤ W'.heap.size) (fun _ _ _ => False)) (ax (.slice S n c)) W2)
    (hdone : ∀ W, I xss.length W → W.heap[w.heap.size]? = some (.deferred (some [])) → Q .normal { a with defers := { target := .collected w.heap.size, args := #[] } :: a.defers } W) :
    (Code.rangeFunc g #[p] assign body).wpIn Fence.wide 6 Tryz.prog Q a w := by
  refine wpIn_rangeFunc ?_
  intro fn hfn
  obtain ⟨rc, hrc⟩ : ∃ rc : LoopState → Option Code → Loop, rc = fun st pe => { state := st, pending := pe, fn, tmps := a.tmps, params := #[p], assign, body, defers := w.heap.size } := ⟨_, rfl⟩
  obtain ⟨V, hV⟩ : ∃ V, (w.alloc (.deferred (some []))).alloc (.loop (rc .ready none)) = V := ⟨_, rfl⟩
  have hVs : V.heap.size = w.heap.size + 2 := by rw [← hV]; simp
  have hVl : V.heap[w.heap.size + 1]? = some (.loop (rc .ready none)) := by
    rw [← hV]; have := World.alloc_heap_new (w.alloc (.deferred (some []))) (.loop (rc .ready none)); rwa [World.size_alloc] at this
  have hVd : V.heap[w.heap.size]? = some (.deferred (some [])) := by
    rw [← hV]; exact (Below.heap_alloc _ _ _ (by simp)).trans (World.alloc_heap_new w _)
  have hVk : ∀ k, k < w.heap.size → V.heap[k]? = w.heap[k]? := fun k hk => by
    rw [← hV]; exact (Below.heap_alloc _ _ _ (by simp; omega)).trans (Below.heap_alloc _ _ _ hk)
  have hVx : Xk w.heap.size w V := by
    rw [← hV]; exact ⟨rfl, rfl, rfl, by simp; omega, fun k hk _ => (Below.heap_alloc _ _ _ (by simp; omega)).trans (Below.heap_alloc _ _ _ hk)⟩
  refine ⟨w.heap.size + 1, [{ target := .collected w.heap.size, args := #[] }], V, { target := .fn (.func gf) lb, args := #[.func (.yield (w.heap.size + 1)) #[] #[]] }, V, gf,
    #[.func (.yield (w.heap.size + 1)) #[] #[]] ++ lb, V, ?_, ?_, ?_, ?_, fun _ => by omega, ?_⟩
  · rw [← hV, hrc]; exact run_enterLoop_outer _ _ _ _ _
  · simp only [resolve, hg]
    simp [go_sem]
  · intro f' hf'; trivial
  · simp [invoke, go_sem, eg]
  · refine (hs (w.heap.size + 1) (fun i W => I i W ∧ W.heap[w.heap.size + 1]? = some (.loop (rc .ready none)) ∧ W.heap[w.heap.size]? = some (.deferred (some []))) V
      (fun k hk => (hVk k (hk0 k hk).1).trans (hk0 k hk).2) (by omega) ?_ ?_ ⟨hI 0 w V h0 hVx, hVl, hVd⟩).mono ?_
    · rintro i A C ⟨hi, hl, hd⟩ hgr
      rw [hVs] at hgr
      refine ⟨hI i A C hi (Xk.of_grown hgr (by omega)), ?_, ?_⟩
      · exact (hgr.block _ (Array.getElem?_eq_some_iff.1 hl).1 (fun e => by injection e with e; omega)).trans hl
      · exact (hgr.block _ (Array.getElem?_eq_some_iff.1 hd).1 (fun e => by injection e with e; omega)).trans hd
    · rintro i S c n W1 W2 ⟨hi, hl, hd⟩ hlt hsz1 hgr hsl
      rw [hVs] at hsz1 hgr
      have hl2 : W2.heap[w.heap.size + 1]? = some (.loop (rc .ready none)) := (hgr.block _ (Array.getElem?_eq_some_iff.1 hl).1 (fun e => by injection e with e; omega)).trans hl
      have hd2 : W2.heap[w.heap.size]? = some (.deferred (some [])) := (hgr.block _ (Array.getElem?_eq_some_iff.1 hd).1 (fun e => by injection e with e; omega)).trans hd
      have hlt2 : w.heap.size + 1 < W2.heap.size := (Array.getElem?_eq_some_iff.1 hl2).1
      have hy := run_yield (P := Tryz.prog) (args := #[.slice S n c]) hl2 (by rw [hrc]; rfl)
      rw [hrc] at hy
      have hy2 : (Instr.yield (w.heap.size + 1) #[.slice S n c]).run Tryz.prog W2 = .ok (.round (w.heap.size + 1) fn (a.tmps.setIfInBounds p (.slice S n c)) assign body) W2 := by simpa using hy
      refine ⟨fn, _, assign, body, hy2, roundIn_of_wpIn hfn (hassign _ (.slice S n c) W2 _ ?_)⟩
      refine ⟨_, run_beginRound hl2 (by rw [hrc]), ?_⟩
      have hX : Xk w.heap.size W1 (W2.putObj (w.heap.size + 1) (.loop { rc .ready none with state := .busy })) := (Xk.of_grown hgr (by omega)).trans (Xk.put _ _ (by omega))
      have hS3 : Slc (W2.putObj (w.heap.size + 1) (.loop { rc .ready none with state := .busy })) W1.heap.size S n c (xss.getD i []) := hsl.xk (Xk.put W2 _ (b := w.heap.size) (r := w.heap.size + 1) (by omega)) (fun k e => .inr (by have := (hsl.lt_ k e).1; omega))
      have hl3 : (W2.putObj (w.heap.size + 1) (.loop { rc .ready none with state := .busy })).heap[w.heap.size + 1]? = some (.loop { rc .ready none with state := .busy }) := World.putObj_heap_same hlt2
      have hd3 : (W2.putObj (w.heap.size + 1) (.loop { rc .ready none with state := .busy })).heap[w.heap.size]? = some (.deferred (some [])) := (World.putObj_heap_other (by omega)).trans hd2
      refine wpIn_mono (hbody _ i S n c W1 _ hi hlt (by omega) hX hS3) ?_
      rintro e a3 W3 hp
      cases e with
      | normal =>
        obtain ⟨hi3, hk3, hs3⟩ := hp
        have hl4 := (hk3 (w.heap.size + 1) (.inr (by omega))).trans hl3
        have hd4 := (hk3 w.heap.size (.inr (by omega))).trans hd3
        have hr := run_endRound (P := Tryz.prog) none hl4
        refine ⟨_, _, hr, ?_⟩
        rw [World.putObj_size] at hs3
        have h5 : (W3.putObj (w.heap.size + 1) (.loop (rc .ready none))).heap[w.heap.size + 1]? = some (.loop (rc .ready none)) := World.putObj_heap_same (Array.getElem?_eq_some_iff.1 hl4).1
        have e1 : (Loop.mk (if (none : Option Code).isNone then LoopState.ready else .done) none (rc .ready none).fn (rc .ready none).tmps (rc .ready none).params (rc .ready none).assign (rc .ready none).body (rc .ready none).defers) = rc .ready none := by rw [hrc]; rfl
        have e2 : ({ rc .ready none with state := LoopState.busy } : Loop).fn = (rc .ready none).fn := rfl
        refine ⟨rfl, ⟨hI _ _ _ hi3 (Xk.put _ _ (by omega)), ?_, (World.putObj_heap_other (by omega)).trans hd4⟩, ?_, by rw [World.putObj_size]; exact hs3⟩
        · rw [hrc]; rw [World.putObj_heap_same (Array.getElem?_eq_some_iff.1 hl4).1]; rfl
        · intro k hk
          have hne : k ≠ w.heap.size + 1 := by
            rcases hk with hk | hk
            · have := (hk0 k hk).1; omega
            · omega
          refine (World.putObj_heap_other hne).trans ((hk3 k ?_).trans (World.putObj_heap_other hne))
          rcases hk with hk | hk
          · exact .inl hk
          · exact .inr (by omega)
      | ret => exact hp.elim
      | exit id => exact hp.elim
      | goto t => exact hp.elim
      | panic ch => exact hp.elim
      | outgrown => exact hp.elim
    · rintro e W2 ⟨⟨v, rfl⟩, hi, hl, hd⟩
      refine ⟨none, _, by have := run_endLoop (P := Tryz.prog) hl (by rw [hrc]; simp); rw [hrc] at this; exact this, hdone _ (hI _ _ _ hi (Xk.put _ _ (by omega))) ((World.putObj_heap_other (by omega)).trans hd)⟩

/-- orbitsUnder: a closure over two boxes. -/
theorem implUnder (N : Nat) (A : Option Addr) (n c : Nat) (w : World) :
    Calls Tryz.prog 61 #[.int .i64 (N : Nat), .slice A n c] w fun e w' => e = .returned (.func (.func 72) #[] #[.pointer (some ⟨w.heap.size, 0, none⟩), .pointer (some ⟨w.heap.size + 1, 0, none⟩)]) ∧
      w' = (w.alloc (.cells #[.int .i64 (N : Nat)] 2)).alloc (.cells #[.slice A n c] 24) := by
  have hmf : ∀ (fn : Fn) (first cap : Array Value) (w : World), (Instr.makeFunc fn first cap).run Tryz.prog w = .ok (.func fn first cap) w := fun _ _ _ _ => rfl
  go_enter Tryz.func61, Tryz.ntmps61
  go_wp2
  go_ret
  exact ⟨rfl, rfl⟩


set_option maxHeartbeats 4000000 in
set_option maxRecDepth 100000 in
/-- THE ITERATOR's CONTRACT. -/
theorem itsUnder (N n c B c1 c2 : Nat) (A : Option Addr) (vs : List SV) (gs : List (List Int)) (w0 : World) (hx : RR w0 B A n vs gs) (hp : Hid (PMs N gs)) (hN1 : 1 ≤ N) (hN : N ≤ 1000) (hn : n ≤ 8)
    (hB : B ≤ w0.heap.size) (h1 : Blk w0 c1 2 #[.int .i64 (N : Nat)]) (h2 : Blk w0 c2 24 #[.slice A n c]) :
    Its 72 #[.pointer (some ⟨c1, 0, none⟩), .pointer (some ⟨c2, 0, none⟩)] (fun k => k < B ∨ k = c1 ∨ k = c2) (orbs gs N N) w0 := by
  intro l J W hW hsz hJ hY h0
  have HX := Lib.hid hx
  have HY := Lib.hid hY
  have HJ := Lib.hid hJ
  have k1 : W.cell? ⟨c1, 0, none⟩ = some (.int .i64 (N : Nat)) := ((show Blk W c1 2 _ from (hW c1 (.inr (.inl rfl))).trans h1).cell 0)
  have H1 : Hid (Blk W c1 2 #[.int .i64 (N : Nat)]) := Lib.hid ((hW c1 (.inr (.inl rfl))).trans h1)
  have H2 : Hid (Blk W c2 24 #[.slice A n c]) := Lib.hid ((hW c2 (.inr (.inr rfl))).trans h2)
  have hKW := Lib.hid hW
  have c1lt := H1.out.lt
  have c2lt := H2.out.lt
  obtain ⟨i0, hi, hz0, hz1, hz2⟩ := info_parts infoB
  clear hx hY hJ hW h1 h2
  refine callsIn_wide.2 ?_
  show Calls Tryz.prog 72 #[.func (.yield l) #[] #[], .pointer (some ⟨c1, 0, none⟩), .pointer (some ⟨c2, 0, none⟩)] W _
  go_enter Tryz.func72, Tryz.ntmps72
  go_wp2_with (first | (at_make; refine wpList_make_full _ rfl _ _ 87 rfl W.heap.size 4 i0 (.bool false) 1 Tryz.underlying87 hi hz0 hz1 .i64 .i64 _ _ N rfl rfl rfl rfl (by rw [hz2]; omega) (by unfold maxLen; omega) (Nat.le_refl _) ?_; intro V hown2 hgrow2; have k2 : V.cell? ⟨c1, 0, none⟩ = some (.int .i64 (N : Nat)) := ((H1.out.grown hgrow2 (by simp)).cell 0)))
  obtain ⟨cs0, blk0, bits0⟩ := made_bits hown2
  have J0 : Hid (J (orbs gs N 0).length V) := Lib.hid (HJ.out 0 W V h0 (grown_any hgrow2))
  have Bl0 := Lib.hid blk0
  have Bi0 : Hid (Bits N (sn gs N 0) cs0) := Lib.hid (bits0.congr fun z _ => sn_zero z)
  have Kp0 : Hid (∀ q, (q < B ∨ q = c1 ∨ q = c2) → V.heap[q]? = w0.heap[q]?) := Lib.hid fun q hq => by
    have e1 := hKW.out q hq
    refine (hgrow2.block q ?_ (by simp)).trans e1
    rcases hq with h | h | h
    · omega
    · subst h; exact c1lt
    · subst h; exact c2lt
  have hVlt : W.heap.size < V.heap.size := blk0.lt
  clear blk0 bits0 hown2 hgrow2 h0 k1 k2
  refine (wpIn_wide (n := 5)).1 ?_
  gi_loopw [9] (fun i wr => ∃ (k : Nat) (cs : Array Value), k ≤ N ∧ i = .int .i64 (k : Nat) ∧ J (orbs gs N k).length wr ∧ Blk wr W.heap.size 4 cs ∧ Bits N (sn gs N k) cs ∧ (∀ q, (q < B ∨ q = c1 ∨ q = c2) → wr.heap[q]? = w0.heap[q]?) ∧ W.heap.size < wr.heap.size) (fun i _ => N - (intOf i).toNat)
  case atStart => exact ⟨0, cs0, Nat.zero_le _, rfl, J0.out, Bl0.out, Bi0.out, Kp0.out, hVlt⟩
  case round =>
    clear J0 Bl0 Bi0 Kp0 hVlt
    obtain ⟨k, cs, hk, rfl, hj, blk, bits, hkp, hlt0⟩ := hrel
    have Hj := Lib.hid hj
    have Bk := Lib.hid blk
    have Bi := Lib.hid bits
    have Kp := Lib.hid hkp
    clear hj blk bits hkp
    by_cases hlt : k < N
    · have c3 : wr.cell? ⟨W.heap.size, k, none⟩ = some (.bool (sn gs N k k)) := (Bk.out.cell k).trans (Bi.out.2 k hlt)
      have c4 : wr.cell? ⟨c2, 0, none⟩ = some (.slice A n c) := ((show Blk wr c2 24 #[.slice A n c] from (Kp.out c2 (.inr (.inr rfl))).trans ((hKW.out c2 (.inr (.inr rfl))).symm.trans H2.out)).cell 0)
      rcases hs : sn gs N k k with _ | _
      · have Xr : Hid (RR wr B A n vs gs) := Lib.hid (HX.out.keep fun p hp => World.cell?_of_block (Kp.out p.block (.inl hp)))
        have hat := orbs_at hlt hs
        have Oat := Lib.hid hat.1
        have Olt := Lib.hid hat.2
        have Oyes : Hid ((orbs gs N (k + 1)).length = (orbs gs N k).length + 1) := Lib.hid (by rw [orbs_yes hs]; simp)
        have Hs := Lib.hid hs
        rw [hs] at c3
        clear hs hat
        gi_wp2
        refine ⟨trivial, ?_⟩
        refine (callsIn_wide.2 (implFrom k A n c N W.heap.size B vs gs (sn gs N k) cs wr Xr.out (by omega) hp hlt hN hn Bk.out Bi Hs (Lib.hid fun v hv h g hg => sn_out hp.out hk hv h hg))).mono ?_
        rintro e w2 ⟨S, m, c', rfl, s2, ⟨cs2, blk2, bits2⟩, g2⟩
        have Bk2 := Lib.hid blk2
        have Bi2 : Hid (Bits N (sn gs N (k + 1)) cs2) := Lib.hid (bits2.congr fun z _ => sn_succ k z)
        have Kp2 : Hid (∀ q, (q < B ∨ q = c1 ∨ q = c2) → w2.heap[q]? = w0.heap[q]?) := Lib.hid fun q hq => by
          have e1 := Kp.out q hq
          have hq2 : q < W.heap.size := by
            rcases hq with h | h | h
            · omega
            · subst h; exact c1lt
            · subst h; exact c2lt
          exact (g2.block q (by omega) (fun e => by injection e with e; omega)).trans e1
        have hz2 := g2.size
        obtain ⟨fn, tmps, assign, body, hy, hR⟩ := HY.out (orbs gs N k).length S c' m wr w2 Hj.out Olt.out hlt0 g2 (by rw [Oat.out]; exact s2)
        have HR := Lib.hid hR
        clear s2 blk2 bits2 g2 hR
        gi_wp2
        refine HR.out.mono ?_
        rintro e w3 ⟨rfl, hj3, hk3, hs3⟩
        have Hj3 : Hid (J (orbs gs N (k + 1)).length w3) := Lib.hid (by rw [Oyes.out]; exact hj3)
        have Bk3 : Hid (Blk w3 W.heap.size 4 cs2) := Lib.hid ((hk3 _ (.inr rfl)).trans Bk2.out)
        have Kp3 : Hid (∀ q, (q < B ∨ q = c1 ∨ q = c2) → w3.heap[q]? = w0.heap[q]?) := Lib.hid fun q hq => (hk3 q (.inl hq)).trans (Kp2.out q hq)
        clear hj3 hk3
        gi_wp2
        go_roundw
        case rel => exact ⟨k + 1, cs2, by omega, by go_num, Hj3.out, Bk3.out, Bi2.out, Kp3.out, by omega⟩
        case measure => simp [intOf]; omega
      · have Ono : Hid (orbs gs N (k + 1) = orbs gs N k) := Lib.hid (orbs_no hs)
        have Bi2 : Hid (Bits N (sn gs N (k + 1)) cs) := Lib.hid (Bi.out.congr fun z _ => sn_seen hp.out hlt hs z)
        rw [hs] at c3
        clear hs
        gi_wp2
        refine ⟨trivial, ?_⟩
        gi_wp2
        refine ⟨fun _ h => (by cases h), ?_⟩
        gi_wp2
        go_roundw
        case rel => exact ⟨k + 1, cs, by omega, by go_num, by rw [Ono.out]; exact Hj.out, Bk.out, Bi2.out, Kp.out, hlt0⟩
        case measure => simp [intOf]; omega
    · have hkN : k = N := by omega
      subst hkN
      gi_wp2
      go_end0
      exact ⟨⟨_, rfl⟩, Hj.out⟩
end Go.Proofs.YtedfcljikgmpgaaGreat

/- countOrbits; IsTransitive. Conditions: at most 1000 points, at most 8 maps. -/
namespace Go.Proofs.YtedfcljikgmpgaaGreat
open Go.RowKit Go.Shelf
attribute [local go_sem] Oper.semAt_some

set_option maxHeartbeats 2000000 in
set_option maxRecDepth 100000 in
/-- countOrbits. -/
theorem implCount (N n c : Nat) (A : Option Addr) (vs : List SV) (gs : List (List Int)) (w : World) (hx : RR w w.heap.size A n vs gs) (hp : Hid (PMs N gs)) (hN1 : 1 ≤ N) (hN : N ≤ 1000) (hn : n ≤ 8) :
    Calls Tryz.prog 45 #[.int .i64 (N : Nat), .slice A n c] w fun e w' => e = .returned (.int .i64 ((orbs gs N N).length : Nat)) ∧ Below w.heap.size w w' := by
  have HX := Lib.hid hx
  clear hx
  refine (callsIn_wide (n := 6)).1 ?_
  refine callsIn_of_wp_marks Tryz.func45 rfl trivial ?_ rfl
  simp only [Tryz.ntmps45, List.size_toArray, List.length_cons, List.length_nil, Nat.reduceAdd, Nat.reduceSub, Array.replicate_succ, Array.replicate_zero, List.push_toArray, List.append_toArray, List.nil_append, List.cons_append]
  gi_wp2
  refine ⟨trivial, ?_⟩
  refine (callsIn_wide.2 (implUnder N A n c _)).mono ?_
  rintro e w2 ⟨rfl, rfl⟩
  gi_wp2
  obtain ⟨V, hV⟩ : ∃ V, ((w.alloc (.cells #[.int .i64 0] 2)).alloc (.cells #[.int .i64 (N : Nat)] 2)).alloc (.cells #[.slice A n c] 24) = V := ⟨_, rfl⟩
  rw [hV]
  have hz : V.heap.size = w.heap.size + 3 := by rw [← hV]; simp
  have b0 : Blk V w.heap.size 2 #[.int .i64 ((0 : Nat) : Int)] := by rw [← hV]; exact ((Blk.new w _ _).alloc _).alloc _
  have b1 : Blk V (w.heap.size + 1) 2 #[.int .i64 (N : Nat)] := by
    rw [← hV]; have := (Blk.new (w.alloc (.cells #[.int .i64 0] 2)) 2 #[.int .i64 (N : Nat)]).alloc (.cells #[.slice A n c] 24)
    rw [World.size_alloc] at this; exact this
  have b2 : Blk V (w.heap.size + 1 + 1) 24 #[.slice A n c] := by
    rw [← hV]; have := Blk.new ((w.alloc (.cells #[.int .i64 0] 2)).alloc (.cells #[.int .i64 (N : Nat)] 2)) 24 #[.slice A n c]
    rw [World.size_alloc, World.size_alloc] at this; exact this
  have bel : Below w.heap.size w V := by
    rw [← hV]; exact (((Below.refl _ w).alloc (Nat.le_refl _) _).alloc (by simp) _).alloc (by simp; omega) _
  have hxV : RR V w.heap.size A n vs gs := HX.out.below bel (Nat.le_refl _)
  have hole : (orbs gs N N).length ≤ N := by rw [orbs_len]; exact starts_le N
  clear hV
  refine rangeT (gf := 72) (lb := #[.pointer (some ⟨w.heap.size + 1, 0, none⟩), .pointer (some ⟨w.heap.size + 1 + 1, 0, none⟩)]) rfl (enters_of Tryz.func72 (by kernel_rfl) rfl)
    (itsUnder N n c w.heap.size (w.heap.size + 1) (w.heap.size + 1 + 1) A vs gs V hxV hp hN1 hN hn (by omega) b1 b2)
    (fun k hk => ⟨by rcases hk with h | h | h <;> omega, rfl⟩) (Nat.le_refl _)
    (fun i W => Blk W w.heap.size 2 #[.int .i64 (i : Nat)] ∧ Below w.heap.size w W)
    (fun i A C h hk => ⟨(hk.block _ h.1.lt (.inl (by omega))).trans h.1, h.2.trans (hk.below (by omega) h.2.size)⟩) ⟨b0, bel⟩
    (fun v => { tmps := #[.int .i64 (N : Nat), .slice A n c, undef, undef, .int .i64 0, .pointer (some ⟨w.heap.size, 0, none⟩), .int .i64 (N : Nat), .slice A n c, .func (.func 72) #[] #[.pointer (some ⟨w.heap.size + 1, 0, none⟩), .pointer (some ⟨w.heap.size + 1 + 1, 0, none⟩)], v, undef, undef, undef], defers := [] }) ?assign ?body ?done
  case assign =>
    intro l v W K hK
    gi_wp2
    exact hK
  case body =>
    rintro l i S m d W1 W2 ⟨hb, hbl⟩ hlt hsz hk hsl
    have hb2 : Blk W2 w.heap.size 2 #[.int .i64 (i : Nat)] := (hk.block _ hb.lt (.inl (by omega))).trans hb
    have cc : W2.cell? ⟨w.heap.size, 0, none⟩ = some (.int .i64 (i : Nat)) := hb2.cell 0
    have ff := hb2.frozen 0
    have hbl2 := Lib.hid (hbl.trans (hk.below (by omega) hbl.size))
    have Hb := Lib.hid (hb2.set_ 0 (.int .i64 ((i : Int) + 1)))
    have hi2 : i < 1000 := by omega
    have hzz := hbl2.out.size
    clear hb hbl hb2 hk hsl
    gi_wp2
    refine ⟨⟨?_, hbl2.out.setCell (p := ⟨w.heap.size, 0, none⟩) (Nat.le_refl _) _⟩, fun k hk => Below.heap_setCell _ _ _ k (fun e => by simp only at e; rcases hk with (h | h | h) | h <;> omega), by simp [World.setCell]⟩
    rw [show ((i + 1 : Nat) : Int) = (i : Int) + 1 from by omega]
    exact Hb.out
  case done =>
    rintro W ⟨hb, hbl⟩ hd
    have cc : W.cell? ⟨w.heap.size, 0, none⟩ = some (.int .i64 ((orbs gs N N).length : Nat)) := hb.cell 0
    have Hbl := Lib.hid hbl
    clear hbl
    gi_wp2
    refine ⟨by simp, .inl ⟨_, _, rfl, run_takeDeferred hd, ?_⟩⟩
    exact ⟨_, results_tmp rfl _ _ _, rfl, Hbl.out.grown (grownBy_putObj' W _ _) Hbl.out.size (fun k e => by cases e; omega)⟩

/-- What IsTransitive answers. -/
def transB (n : Int) (gs : List (List Int)) : Bool := gB n gs && decide ((orbs gs n.toNat n.toNat).length = 1)

set_option maxHeartbeats 800000 in
set_option maxRecDepth 100000 in
/-- The program's IsTransitive. -/
theorem implIsTransitive (a : Int) (A : Option Addr) (n c : Nat) (vs : List SV) (xss : List (List Int)) (w : World) (hx : RR w w.heap.size A n vs xss) (hn : n ≤ 1048576) (hl : Hid (∀ i, i < n → (vs.getD i sd0).2.1 ≤ 1048576)) :
    Calls Tryz.prog 23 #[.int .i64 a, .slice A n c] w fun e w' => e = .returned (.bool (transB a xss)) ∧ Below w.heap.size w w' := by
  rcases hs : gB a xss with _ | _
  · have Fin : Hid (transB a xss = false) := Lib.hid (by unfold transB; rw [hs]; rfl)
    go_enter Tryz.func23, Tryz.ntmps23
    go_wp2_with fail
    have K0 := implGS a A n c vs xss w hx hn hl
    refine K0.mono ?_
    rintro e w1 ⟨rfl, b1⟩
    have B1 := Lib.hid b1
    clear b1 K0
    rw [hs]
    go_wp2_with fail
    go_ret
    exact ⟨ret_bool Fin.out.symm, B1.out⟩
  · obtain ⟨N, hN, hN1, hN2, hg8, hpm, hok⟩ := gB_pm hs
    subst hN
    have Fin : Hid (transB N xss = decide ((orbs xss N N).length = 1)) := Lib.hid (by unfold transB; rw [hs]; rfl)
    have Pm := Lib.hid hpm
    have HX := Lib.hid hx
    have hlx := hx.lx
    clear hok hpm
    go_enter Tryz.func23, Tryz.ntmps23
    go_wp2_with fail
    have K0 := implGS N A n c vs xss w hx hn hl
    refine K0.mono ?_
    rintro e w1 ⟨rfl, b1⟩
    have B1 := Lib.hid b1
    clear b1 hx K0
    rw [hs]
    clear hs
    go_wp2_with fail
    refine (implCount N n c A vs xss w1 (HX.out.up B1.out) Pm hN1 (by omega) (by omega)).mono ?_
    rintro e w2 ⟨rfl, b2⟩
    have B2 : Hid (Below w.heap.size w w2) := Lib.hid (btr B1.out b2)
    clear b2
    obtain ⟨M, hM⟩ : ∃ M, (orbs xss N N).length = M := ⟨_, rfl⟩
    rw [hM] at Fin ⊢
    by_cases h1 : M = 1
    · subst h1
      go_wp2
      go_ret
      exact ⟨by rw [Fin.out]; rfl, B2.out⟩
    · have d1 : ((M : Int) == 1) = false := by simp; omega
      have Fin2 : Hid (transB N xss = false) := Lib.hid (by rw [Fin.out]; simpa using h1)
      clear hM
      go_wp2
      go_ret
      exact ⟨ret_bool Fin2.out.symm, B2.out⟩
end Go.Proofs.YtedfcljikgmpgaaGreat

/- What MinimalBlockSystems and IsPrimitive answer. No Go in it. No condition. -/
namespace Go.Proofs.YtedfcljikgmpgaaGreat

/-- The systems of 1, .., k - 1 with more than one block, none twice. -/
def sysL (f : Nat → List (List Int)) : Nat → List (List (List Int))
  | 0 => []
  | k + 1 => if 1 ≤ k ∧ 1 < (f k).length ∧ f k ∉ sysL f k then sysL f k ++ [f k] else sysL f k
section
variable {f g : Nat → List (List Int)} {k N : Nat} {gs : List (List Int)} {a : Int} {out out' : List (List (List Int))}
theorem sysL_yes (h1 : 1 ≤ k) (h2 : 1 < (f k).length) (h3 : f k ∉ sysL f k) : sysL f (k + 1) = sysL f k ++ [f k] := by
  show (if _ then _ else _) = _
  rw [if_pos ⟨h1, h2, h3⟩]
theorem sysL_one (h : (f k).length ≤ 1) : sysL f (k + 1) = sysL f k := by
  show (if _ then _ else _) = _
  rw [if_neg (fun h' => by have := h'.2.1; omega)]
theorem sysL_old (h : f k ∈ sysL f k) : sysL f (k + 1) = sysL f k := by
  show (if _ then _ else _) = _
  rw [if_neg (fun h' => h'.2.2 h)]
theorem sysL_start : sysL f 1 = [] := by
  show (if _ then _ else _) = _
  rw [if_neg (fun h' => absurd h'.1 (by decide))]; rfl
theorem sysL_len : ∀ k, (sysL f k).length ≤ k := by
  intro k
  induction k with
  | zero => exact Nat.le_refl _
  | succ k ih =>
    show (if _ then _ else _ : List (List (List Int))).length ≤ _
    split
    · rw [List.length_append]; simp; omega
    · omega
theorem sysL_mem {p : List (List Int)} : ∀ k, p ∈ sysL f k → ∃ y, 1 ≤ y ∧ y < k ∧ p = f y ∧ 1 < (f y).length := by
  intro k
  induction k with
  | zero => intro h; cases h
  | succ k ih =>
    intro h
    have h : p ∈ (if _ then _ else _ : List (List (List Int))) := h
    split at h
    · rename_i hc
      rcases List.mem_append.1 h with h | h
      · obtain ⟨y, a, b, c⟩ := ih h; exact ⟨y, a, by omega, c⟩
      · exact ⟨k, hc.1, by omega, List.mem_singleton.1 h, hc.2.1⟩
    · obtain ⟨y, a, b, c⟩ := ih h; exact ⟨y, a, by omega, c⟩
theorem sysL_nil : ∀ k, sysL f k = [] ↔ ∀ y, 1 ≤ y → y < k → (f y).length ≤ 1 := by
  intro k
  induction k with
  | zero => exact ⟨fun _ y _ h => absurd h (Nat.not_lt_zero _), fun _ => rfl⟩
  | succ k ih =>
    constructor
    · intro h y h1 h2
      have hk : sysL f k = [] := by
        have h : (if _ then _ else _ : List (List (List Int))) = [] := h
        split at h
        · simp at h
        · exact h
      by_cases e : y = k
      · subst e
        refine Classical.byContradiction fun hn => ?_
        have := sysL_yes (f := f) h1 (by omega) (by rw [hk]; simp)
        rw [this] at h
        simp at h
      · exact ih.1 hk y h1 (by omega)
    · intro h
      have hk := ih.2 fun y h1 h2 => h y h1 (by omega)
      rcases Nat.eq_zero_or_pos k with e | e
      · subst e; exact sysL_start
      · rw [sysL_one (h k e (by omega))]; exact hk

open Classical in
/-- The labels of the minimal block system of 0 and y. -/
noncomputable def lstF (gs : List (List Int)) (N y : Nat) : Nat → Nat := if h : ∃ r, LstM gs N 0 y r then Classical.choose h else id
theorem lstF_spec {y : Nat} (h : ∃ r, LstM gs N 0 y r) : LstM gs N 0 y (lstF gs N y) := by
  unfold lstF
  rw [dif_pos h]
  exact Classical.choose_spec h
noncomputable def mnS (gs : List (List Int)) (N y : Nat) : List (List Int) := canon N (lstF gs N y)
theorem mnS_eq {y : Nat} {r : Nat → Nat} (h : LstM gs N 0 y r) : canon N r = mnS gs N y := h.canon (lstF_spec ⟨r, h⟩)
def IsMsy (a : Int) (gs : List (List Int)) (out : List (List (List Int))) : Prop := (gB a gs = true ∧ (∀ y, 1 ≤ y → y < a.toNat → ∃ r, LstM gs a.toNat 0 y r) ∧ out = sysL (mnS gs a.toNat) a.toNat) ∨ (gB a gs = false ∧ out = [])
def IsPri (a : Int) (gs : List (List Int)) (b : Bool) : Prop := b = true ↔ transB a gs = true ∧ ∀ y, 1 ≤ y → y < a.toNat → (mnS gs a.toNat y).length ≤ 1
theorem IsMsy.uniq (h : IsMsy a gs out) (h' : IsMsy a gs out') : out = out' := by
  rcases h with ⟨e, _, rfl⟩ | ⟨e, rfl⟩ <;> rcases h' with ⟨e', _, rfl⟩ | ⟨e', rfl⟩
  · rfl
  · rw [e] at e'; cases e'
  · rw [e] at e'; cases e'
  · rfl
theorem IsPri.uniq {b b' : Bool} (h : IsPri a gs b) (h' : IsPri a gs b') : b = b' := by unfold IsPri at h h'; rw [Bool.eq_iff_iff, h, h']
theorem IsMsy.len (h : IsMsy a gs out) : out.length ≤ 20 ∧ ∀ y ∈ out, y.length ≤ 20 ∧ ∀ z ∈ y, z.length ≤ 20 := by
  rcases h with ⟨e, _, rfl⟩ | ⟨_, rfl⟩
  · have hN : a.toNat ≤ 20 := by have := (gB_iff.1 e).2.1; omega
    refine ⟨Nat.le_trans (sysL_len _) hN, fun y hy => ?_⟩
    obtain ⟨k, _, _, rfl, _⟩ := sysL_mem _ hy
    exact prt_bound (canon_prt _ _) hN
  · exact ⟨by simp, fun y hy => by cases hy⟩
theorem transB_gB (h : transB a gs = true) : gB a gs = true := by
  unfold transB at h
  rw [Bool.and_eq_true] at h
  exact h.1
/-- A least partition is a block system. -/
theorem LstM.bs {x y : Nat} {r : Nat → Nat} (h : LstM gs N x y r) (hs : gB N gs = true) : BS N gs (Proofs.YtedfcljikgmpgaaGreat.canon N r) := by
  refine ⟨hs, by rw [Int.toNat_natCast]; exact canon_prt _ _, fun g hg => ?_⟩
  rw [Int.toNat_natCast]
  obtain ⟨N', e, _, _, _, _, ok⟩ := gB_pm hs
  obtain rfl : N = N' := by omega
  intro u v hu hv e
  have hgP : Pn N g := ok g hg
  refine (canon_bi (hgP.lt hu) (hgP.lt hv)).2 ?_
  exact h.1.2 g hg u v hu hv ((canon_bi hu hv).1 e)
end
end Go.Proofs.YtedfcljikgmpgaaGreat

/- Orbits and IsTransitive, of the program and of the model. Conditions: at most 1048576 lists of at most 1048576 numbers. -/
namespace Go.Proofs.YtedfcljikgmpgaaGreat
open Go.RowKit Go.Shelf
attribute [local go_sem] Oper.semAt_some

theorem hasB_dec (xs : List Int) (x : Int) : hasB xs x = decide (x ∈ xs) := by
  unfold hasB
  rw [Bool.eq_iff_iff]
  simp only [decide_eq_true_eq]
  constructor
  · rintro ⟨j, hj, e⟩
    rw [List.getD_eq_getElem?_getD, List.getElem?_eq_getElem hj] at e
    have e2 : xs[j] = x := by simpa using e
    rw [← e2]; exact List.getElem_mem hj
  · intro h
    obtain ⟨j, hj, e⟩ := List.mem_iff_getElem.1 h
    exact ⟨j, hj, by rw [List.getD_eq_getElem?_getD, List.getElem?_eq_getElem hj, e]; rfl⟩
theorem sn_starts {gs : List (List Int)} {N : Nat} (hp : PMs N gs) : ∀ k, k ≤ N → ∀ y, sn gs N k y = true ↔ ∃ z ∈ starts gs N k, y ∈ orb gs N z
  | 0, _, y => by simp [sn_zero, starts]
  | k + 1, hk, y => by
    have ih := sn_starts hp k (by omega) y
    rcases hs : sn gs N k k with _ | _
    · rw [sn_succ, starts_yes hs, Bool.or_eq_true, ih]
      constructor
      · rintro (⟨z, hz, h⟩ | h)
        · exact ⟨z, List.mem_append_left _ hz, h⟩
        · exact ⟨k, by simp, by simpa using h⟩
      · rintro ⟨z, hz, h⟩
        rcases List.mem_append.1 hz with hz | hz
        · exact .inl ⟨z, hz, h⟩
        · obtain rfl : z = k := by simpa using hz
          exact .inr (by simpa using h)
    · rw [sn_seen hp (by omega) hs, starts_no hs, ih]
/-- The numbers of the first orbits, one list. -/
theorem flat_has {gs : List (List Int)} {N k : Nat} (hp : PMs N gs) (hk : k ≤ N) {y : Nat} (hy : y < N) : hasB (orbs gs N k).flatten (y : Int) = sn gs N k y := by
  rw [hasB_dec, Bool.eq_iff_iff, decide_eq_true_eq, sn_starts hp k hk, List.mem_flatten]
  constructor
  · rintro ⟨l, hl, h⟩
    obtain ⟨z, hz, rfl⟩ := List.mem_map.1 hl
    obtain ⟨u, hu, e⟩ := List.mem_map.1 h
    have e2 : u = y := Int.ofNat.inj e
    subst e2
    exact ⟨z, hz, (mem_oN.1 hu).2⟩
  · rintro ⟨z, hz, h⟩
    exact ⟨oS gs N z, List.mem_map.2 ⟨z, hz, rfl⟩, List.mem_map.2 ⟨y, mem_oN.2 ⟨hy, h⟩, rfl⟩⟩
theorem oS_len (gs : List (List Int)) (N x : Nat) : (oS gs N x).length ≤ N := by
  unfold oS oN
  rw [List.length_map]
  have := List.length_filter_le (fun y => decide (y ∈ orb gs N x)) (List.range N)
  simpa using this
theorem flat_len (gs : List (List Int)) (N k : Nat) : (orbs gs N k).flatten.length ≤ k * N := by
  rw [List.length_flatten]
  have : ∀ l : List (List Int), (∀ y ∈ l, y.length ≤ N) → (l.map List.length).sum ≤ l.length * N := by
    intro l
    induction l with
    | nil => simp
    | cons a t ih =>
      intro h
      have h1 := ih fun y hy => h y (by simp [hy])
      have h2 := h a (by simp)
      rw [List.map_cons, List.sum_cons, List.length_cons, Nat.succ_mul]; omega
  refine Nat.le_trans (this _ fun y hy => ?_) (Nat.mul_le_mul_right N ?_)
  · obtain ⟨z, _, rfl⟩ := List.mem_map.1 hy
    exact oS_len gs N z
  · rw [orbs_len]; exact starts_le k

/-- append of a list of numbers; where the slice lies behind it. -/
theorem wpList_appN_at {w : World} {ops : Array Oper} {rest : List Oper} {o : Oper} {a : Act} {Q : Exit → Act → World → Prop} (hgd : o.guard = none) (s x : Operand)
    (ho : o.op = .call { callee := .builtin .append, args := #[s, x], argTypes := #[37, 37] })
    (base : Nat) (A : Option Addr) (n c : Nat) (xs : List Int) (hs : a.eval s = .slice A n c) (hown : Slc w base A n c xs) (g off m c2 : Nat) (ys : List Int) (hx : a.eval x = .slice (some ⟨g, off, none⟩) m c2)
    (hy : RI w w.heap.size (some ⟨g, off, none⟩) ys) (ly : ys.length = m) (hn : n + m ≤ 1000000000000) (hbase : base ≤ w.heap.size)
    (h : ∀ A' c' w', Slc w' base A' (n + m) c' (xs ++ ys) → w.grownBy w' (Value.slice A n c).ownBlock → ((Value.slice A' (n + m) c').ownBlock = (Value.slice A n c).ownBlock ∨ (Value.slice A' (n + m) c').ownBlock = some w.heap.size) → wpList Tryz.prog ops Q rest (a.put o.dst (.slice A' (n + m) c')) w') : wpList Tryz.prog ops Q (o :: rest) a w := by
  obtain ⟨i0, hi, hz0, hz1, hz2⟩ := info_parts infoI
  obtain ⟨hl, ho'⟩ := hown
  subst hl
  refine wpList_append_own_at w hgd s x 37 ho base 2 i0 (.int .i64 0) 1 8 Tryz.underlying37 hi hz0 hz1 hz2 rfl (by decide) _ xs.length _ hs ho' ⟨g, off, none⟩ m c2 (ys.map (Value.int .i64)) hx (by simp [ly]) ?_ ?_ ?_ (by omega) hbase ?_
  · intro j v hj
    have hjl : j < ys.length := by
      have := (List.getElem?_eq_some_iff.1 hj).1
      simpa using this
    have e : (⟨g, off, none⟩ : Addr).add j = ⟨g, off + j, none⟩ := by unfold Addr.add; split <;> simp_all
    rw [e, (hy.cellAt hjl).2]
    rw [List.getElem?_map, List.getElem?_eq_getElem hjl] at hj
    rw [← Option.some.inj hj, List.getD_eq_getElem?_getD, List.getElem?_eq_getElem hjl]; rfl
  · intro v hv; rw [List.mem_map] at hv; obtain ⟨u, _, rfl⟩ := hv; rfl
  · unfold maxLen; omega
  · intro v' w' hown' hg _ hat
    have hO : Own w' base v' (xs ++ ys) := by
      unfold Own
      rw [List.length_append, List.map_append, ly]
      exact hown'
    obtain ⟨A', c', rfl, hS⟩ := Slc.of_own (n := xs.length + m) hO (by simp [ly])
    exact h A' c' w' hS hg hat

theorem ne_sym {a b : Option Nat} (h : a = none ∨ a ≠ b) : b = none ∨ b ≠ a := by
  rcases h with rfl | h
  · rcases b with _ | q
    · exact .inl rfl
    · exact .inr (by simp)
  · exact .inr fun e => h e.symm

set_option maxHeartbeats 4000000 in
set_option maxRecDepth 100000 in
/-- allOrbits. -/
theorem specAllOrbs (N n c : Nat) (A : Option Addr) (vs : List SV) (gs : List (List Int)) (w : World) (hx : RR w w.heap.size A n vs gs) (hp : Hid (PMs N gs)) (hN : N ≤ 20) (hn : n ≤ 8) :
    Calls Tryz.prog 24 #[.int .i64 (N : Nat), .slice A n c] w fun e w' => ∃ A' m c' us, e = .returned (.slice A' m c') ∧ SS w' w.heap.size w.heap.size A' m c' us (orbs gs N N) ∧ Below w.heap.size w w' := by
  have HX := Lib.hid hx
  have S0 : Hid (SS ((w.alloc (.cells #[] 37)).alloc (.cells #[] 2)) w.heap.size w.heap.size (some ⟨w.heap.size, 0, none⟩) 0 0 [] []) := Lib.hid ((SS.lit0 w _ _ (Nat.le_refl _)).alloc _)
  have T0 : Hid (Slc ((w.alloc (.cells #[] 37)).alloc (.cells #[] 2)) w.heap.size (some ⟨w.heap.size + 1, 0, none⟩) 0 0 []) := Lib.hid (by
    have := Slc.lit0 (w.alloc (.cells #[] 37)) w.heap.size (by simp)
    rw [World.size_alloc] at this; exact this)
  have B0 : Hid (Below w.heap.size w ((w.alloc (.cells #[] 37)).alloc (.cells #[] 2))) := Lib.hid (((Below.refl _ _).alloc (Nat.le_refl _) _).alloc (by simp) _)
  clear hx
  go_enter Tryz.func24, Tryz.ntmps24
  go_wp2
  go_loopw [5, 6, 7] (fun o s i wr => ∃ k A1 m1 c1 us A2 n2 c2, k ≤ N ∧ i = .int .i64 (k : Nat) ∧ o = .slice A1 m1 c1 ∧ s = .slice A2 n2 c2 ∧ SS wr w.heap.size w.heap.size A1 m1 c1 us (orbs gs N k) ∧ Slc wr w.heap.size A2 n2 c2 (orbs gs N k).flatten ∧
    (∀ i, i < m1 → (sval (us.getD i sd0)).ownBlock = none ∨ (sval (us.getD i sd0)).ownBlock ≠ (Value.slice A2 n2 c2).ownBlock) ∧ Below w.heap.size w wr) (fun _ _ i _ => N - (intOf i).toNat)
  case atStart => exact ⟨0, _, _, _, [], _, _, _, Nat.zero_le _, rfl, rfl, rfl, S0.out, T0.out, fun i h => absurd h (by omega), B0.out⟩
  case round =>
    clear S0 T0 B0
    obtain ⟨k, A1, m1, c1, us, A2, n2, c2, hk, rfl, rfl, rfl, ss, sl, dj, bel⟩ := hrel
    have Ss := Lib.hid ss
    have Sl := Lib.hid sl
    have Dj := Lib.hid dj
    have Be := Lib.hid bel
    have hn2 : n2 ≤ 400 := by rw [← sl.1]; have := flat_len gs N k; have := Nat.mul_le_mul hk (Nat.le_refl N); have := Nat.mul_le_mul hN hN; omega
    have hm1 : m1 ≤ 20 := by rw [← ss.lx, orbs_len]; have := starts_le (gs := gs) (N := N) k; omega
    clear ss sl dj bel
    by_cases hlt : k < N
    · have Hb := Lib.hid (flat_has hp.out hk hlt)
      obtain ⟨b, hbv⟩ : ∃ b, sn gs N k k = b := ⟨_, rfl⟩
      rw [hbv] at Hb
      go_wp2_with fail
      refine (containsI_any A2 c2 n2 _ (k : Int) wr _ Sl.out.ri_ Sl.out.hid (by omega) b Hb).mono ?_
      rintro e w1 ⟨rfl, rfl⟩
      rcases b with _ | _
      · have Oy := Lib.hid (orbs_yes hbv)
        clear hbv Hb
        go_wp2_with fail
        refine (specOrbOf k A n c N vs gs wr (HX.out.up Be.out) hp hlt (by omega) hn).mono ?_
        rintro e w2 ⟨g2, d2, rfl, s2, b2⟩
        have S2 := Lib.hid s2
        have B2 := Lib.hid b2
        obtain ⟨M, hM⟩ : ∃ M, (orb gs N k).length = M := ⟨_, rfl⟩
        have hM20 : M ≤ 20 := by rw [← hM]; have := (orb_fd hp.out hlt).len; omega
        rw [hM] at S2 ⊢
        clear s2 b2 hM
        go_wp2_with fail
        refine (specSorted (some ⟨g2, 0, none⟩) M d2 ((orb gs N k).map Int.ofNat) w2 S2.out.ri_ S2.out.hid (Lib.hid ?_) (by omega)).mono ?_
        · exact ((orb_fd hp.out hlt).nd).map Int.ofNat (fun a b hab e => hab (Int.ofNat.inj e))
        rintro e w3 ⟨g3, c3, zs, rfl, s3, p3, st3, b3⟩
        have S3 : Hid (Slc w3 wr.heap.size (some ⟨g3, 0, none⟩) M c3 (oS gs N k)) := Lib.hid (by rw [← oS_of hp.out hlt p3 st3]; exact s3.mono B2.out.size)
        have B3 : Hid (Below wr.heap.size wr w3) := Lib.hid (btr B2.out b3)
        have Be3 : Hid (Below w.heap.size w w3) := Lib.hid (btr Be.out B3.out)
        have D3 := Lib.hid (lies_dis Ss.out S3.out.lies (Nat.le_refl _))
        have Ss3 := Lib.hid (Ss.out.up B3.out)
        have Sl3 := Lib.hid (Sl.out.up B3.out)
        have D4 : Hid ((Value.slice (some ⟨g3, 0, none⟩) M c3).ownBlock = none ∨ (Value.slice (some ⟨g3, 0, none⟩) M c3).ownBlock ≠ (Value.slice A2 n2 c2).ownBlock) := Lib.hid (S3.out.lies.apart Sl.out.lies (.inr (Nat.le_refl _)))
        have hz3 := Be3.out.size
        clear s3 p3 st3 b3
        go_wp2_with (first
          | (at_builtin; refine wpList_app2 rfl _ _ rfl rfl (Ss3.out.alloc _) w3.heap.size (some ⟨g3, 0, none⟩) M c3 _ rfl (by rw [World.cell?_alloc_at _ _ _ _ rfl]; rfl) ((S3.out.mono Be.out.size).alloc _) D3.out (by omega) (by simp; omega) ?_; intro A5 c5 w5 ss5 hg5
             have Ss5 := Lib.hid ss5
             have Sl5 : Hid (Slc w5 w.heap.size A2 n2 c2 (orbs gs N k).flatten) := Lib.hid ((Sl3.out.alloc (.cells #[.slice (some ⟨g3, 0, none⟩) M c3] 37)).kept hg5 (apart_types Sl3.out Ss3.out.own))
             have R5 : Hid (RI w5 w5.heap.size (some ⟨g3, 0, none⟩) (oS gs N k)) := Lib.hid (((S3.out.alloc (.cells #[.slice (some ⟨g3, 0, none⟩) M c3] 37)).kept hg5 (apart_types S3.out Ss3.out.own)).ri_)
             have Be5 : Hid (Below w.heap.size w w5) := Lib.hid ((Be3.out.alloc hz3 _).grown hg5 (by simp; omega) (fun j hj => (Ss3.out.lt_ j hj).1))
             clear ss5 hg5)
          | (at_builtin; refine wpList_appN_at rfl _ _ rfl w.heap.size A2 n2 c2 _ rfl Sl5.out g3 0 M c3 (oS gs N k) rfl R5.out S3.out.1 (by omega) Be5.out.size ?_; intro A6 c6 w6 s6 g6 h6))
        have Sl6 : Hid (Slc w6 w.heap.size A6 (n2 + M) c6 (orbs gs N (k + 1)).flatten) := Lib.hid (by rw [Oy.out, List.flatten_append]; simpa using s6)
        have hrow : ∀ i, i < m1 + 1 → (sval ((us ++ [((some ⟨g3, 0, none⟩, M, c3) : SV)]).getD i sd0)).ownBlock = none ∨ (sval ((us ++ [((some ⟨g3, 0, none⟩, M, c3) : SV)]).getD i sd0)).ownBlock ≠ (Value.slice A2 n2 c2).ownBlock := fun i hi => by
          by_cases e : i < m1
          · rw [getD_app _ _ _ _ (by rw [Ss.out.lv]; exact e)]; exact Dj.out i e
          · rw [getD_snoc _ _ _ _ (by rw [Ss.out.lv]; omega)]; exact D4.out
        have Ss6 : Hid (SS w6 w.heap.size w.heap.size A5 (m1 + 1) c5 (us ++ [((some ⟨g3, 0, none⟩, M, c3) : SV)]) (orbs gs N (k + 1))) := Lib.hid (by
          rw [Oy.out]
          exact Ss5.out.keptR g6 (ne_sym (apart_types Sl5.out Ss5.out.own)) hrow)
        have Dj6 : Hid (∀ i, i < m1 + 1 → (sval ((us ++ [((some ⟨g3, 0, none⟩, M, c3) : SV)]).getD i sd0)).ownBlock = none ∨ (sval ((us ++ [((some ⟨g3, 0, none⟩, M, c3) : SV)]).getD i sd0)).ownBlock ≠ (Value.slice A6 (n2 + M) c6).ownBlock) := Lib.hid fun i hi => by
          rcases h6 with e | e
          · rw [e]; exact hrow i hi
          · rw [e]
            rcases e2 : (sval ((us ++ [((some ⟨g3, 0, none⟩, M, c3) : SV)]).getD i sd0)).ownBlock with _ | q
            · exact .inl rfl
            · have := ((Ss5.out.row i hi).lt_ q e2).2
              exact .inr fun e3 => by have := Option.some.inj e3; omega
        have Be6 : Hid (Below w.heap.size w w6) := Lib.hid (Be5.out.grown g6 Be5.out.size (fun j hj => (Sl5.out.lt_ j hj).1))
        clear s6 g6 h6 hrow
        go_wp2
        go_roundw
        case rel => exact ⟨k + 1, _, _, _, _, _, _, _, by omega, by go_num, rfl, rfl, Ss6.out, Sl6.out, Dj6.out, Be6.out⟩
        case measure => simp [intOf]; omega
      · have On := Lib.hid (orbs_no hbv)
        clear hbv Hb
        go_wp2
        go_roundw
        case rel => exact ⟨k + 1, _, _, _, us, _, _, _, by omega, by go_num, rfl, rfl, by rw [On.out]; exact Ss.out, by rw [On.out]; exact Sl.out, Dj.out, Be.out⟩
        case measure => simp [intOf]; omega
    · have hkn : k = N := by omega
      subst hkn
      go_wp2
      go_ret
      exact ⟨_, _, _, _, rfl, Ss.out, Be.out⟩

/-- What Orbits answers. -/
def orbitsL (n : Int) (gs : List (List Int)) : List (List Int) := if gB n gs = true then orbs gs n.toNat n.toNat else []
theorem orbitsL_ok (n : Int) (gs : List (List Int)) : (orbitsL n gs).length ≤ 20 ∧ ∀ y ∈ orbitsL n gs, y.length ≤ 20 := by
  unfold orbitsL
  split
  · rename_i h
    obtain ⟨N, rfl, _, hN, _⟩ := gB_pm h
    refine ⟨by rw [orbs_len]; have := starts_le (gs := gs) (N := N) N; simp; omega, fun y hy => ?_⟩
    obtain ⟨z, _, rfl⟩ := List.mem_map.1 hy
    have := oS_len gs N z
    simp; omega
  · exact ⟨Nat.zero_le _, fun y hy => by cases hy⟩


set_option maxHeartbeats 1600000 in
set_option maxRecDepth 100000 in
/-- The model's IsTransitive. -/
theorem specIsTransitive (a : Int) (A : Option Addr) (n c : Nat) (vs : List SV) (xss : List (List Int)) (w : World) (hx : RR w w.heap.size A n vs xss) (hn : n ≤ 1048576) (hl : Hid (∀ i, i < n → (vs.getD i sd0).2.1 ≤ 1048576)) (ha : -9223372036854775808 ≤ a ∧ a ≤ 9223372036854775807) :
    Calls Tryz.prog 9 #[.int .i64 a, .slice A n c] w fun e w' => e = .returned (.bool (transB a xss)) ∧ Below w.heap.size w w' := by
  rcases hs : gB a xss with _ | _
  · have Fin : Hid (transB a xss = false) := Lib.hid (by unfold transB; rw [hs]; rfl)
    go_enter Tryz.func9, Tryz.ntmps9
    go_wp2_with fail
    have K0 := specGS a A n c vs xss w hx hn hl ha
    refine K0.mono ?_
    rintro e w1 ⟨rfl, b1⟩
    have B1 := Lib.hid b1
    clear b1 K0
    rw [hs]
    go_wp2_with fail
    go_ret
    exact ⟨ret_bool Fin.out.symm, B1.out⟩
  · obtain ⟨N, hN, hN1, hN2, hg8, hpm, hok⟩ := gB_pm hs
    subst hN
    have Fin : Hid (transB N xss = decide ((orbs xss N N).length = 1)) := Lib.hid (by unfold transB; rw [hs]; rfl)
    have Pm := Lib.hid hpm
    have HX := Lib.hid hx
    have hlx := hx.lx
    clear hok hpm
    go_enter Tryz.func9, Tryz.ntmps9
    go_wp2_with fail
    have K0 := specGS N A n c vs xss w hx hn hl ha
    refine K0.mono ?_
    rintro e w1 ⟨rfl, b1⟩
    have B1 := Lib.hid b1
    clear b1 hx K0
    rw [hs]
    clear hs
    go_wp2_with fail
    refine (specAllOrbs N n c A vs xss w1 (HX.out.up B1.out) Pm hN2 (by omega)).mono ?_
    rintro e w2 ⟨A2, m2, c2, us, rfl, s2, b2⟩
    have Hm : Hid ((orbs xss N N).length = m2) := Lib.hid s2.lx
    have B2 : Hid (Below w.heap.size w w2) := Lib.hid (btr B1.out b2)
    clear s2 b2
    by_cases h1 : m2 = 1
    · subst h1
      go_wp2
      go_ret
      exact ⟨by rw [Fin.out, Hm.out]; rfl, B2.out⟩
    · have d1 : ((m2 : Int) == 1) = false := by simp; omega
      have Fin2 : Hid (transB N xss = false) := Lib.hid (by rw [Fin.out, Hm.out]; simpa using h1)
      go_wp2
      go_ret
      exact ⟨ret_bool Fin2.out.symm, B2.out⟩
end Go.Proofs.YtedfcljikgmpgaaGreat

/- minimalBlocks, MinimalBlockSystem and IsPrimitive of the model. Conditions: at most 1048576 lists of at most 1048576 numbers. -/
namespace Go.Proofs.YtedfcljikgmpgaaGreat
open Go.RowKit

/-- What the search for the least keeps of its labels. -/
structure MI (gs : List (List Int)) (N x y : Nat) (ls : List Int) : Prop where
  lb : Lbl N ls
  eq : nx ls x = nx ls y
  least : ∀ q, CM gs N x y q → Rf N (nx ls) q
/-- The pairs that a pass has seen are closed. -/
def PD (gs : List (List Int)) (N : Nat) (ls : List Int) (k i j : Nat) : Prop := ∀ k' i' j', (k' < k ∨ (k' = k ∧ (i' < i ∨ (i' = i ∧ j' < j)))) → k' < gs.length → i' < N → j' < i' → nx ls i' = nx ls j' → nx ls (nx (gs.getD k' []) i') = nx ls (nx (gs.getD k' []) j')
section
variable {gs : List (List Int)} {N x y k i j : Nat} {ls : List Int}
theorem PD.zero : PD gs N ls 0 0 0 := fun k' i' j' h => by omega
theorem PD.nexti (h : PD gs N ls k i j) (hj : i ≤ j) : PD gs N ls k (i + 1) 0 := fun k' i' j' h1 h2 h3 h4 => h k' i' j' (by omega) h2 h3 h4
theorem PD.nextk (h : PD gs N ls k i j) (hi : N ≤ i) : PD gs N ls (k + 1) 0 0 := fun k' i' j' h1 h2 h3 h4 => h k' i' j' (by omega) h2 h3 h4
theorem PD.next (h : PD gs N ls k i j) (hp : nx ls i = nx ls j → nx ls (nx (gs.getD k []) i) = nx ls (nx (gs.getD k []) j)) : PD gs N ls k i (j + 1) := fun k' i' j' h1 h2 h3 h4 e => by
  by_cases e2 : k' = k ∧ i' = i ∧ j' = j
  · obtain ⟨rfl, rfl, rfl⟩ := e2
    exact hp e
  · exact h k' i' j' (by omega) h2 h3 h4 e
theorem PD.closed (h : PD gs N ls gs.length 0 0) : ∀ g ∈ gs, Rf N (nx ls) fun u => nx ls (nx g u) := fun g hg u v hu hv e => by
  obtain ⟨k', hk', rfl⟩ := List.mem_iff_getElem.1 hg
  show nx ls (nx gs[k'] u) = nx ls (nx gs[k'] v)
  rcases Nat.lt_trichotomy u v with hlt | rfl | hlt
  · have := h k' v u (.inl hk') hk' hv hlt e.symm
    rw [getD_L hk'] at this
    exact this.symm
  · rfl
  · have := h k' u v (.inl hk') hk' hu hlt e
    rw [getD_L hk'] at this
    exact this
theorem MI.start (hx : x < N) (hy : y < N) : MI gs N x y (mrgL (idL N) (x : Int) (y : Int)) := by
  have h1 := (lbl_id N).mrg (a := x) (b := y) hx
  have hm : Mg N (nx (idL N)) (nx (mrgL (idL N) (x : Int) (y : Int))) x y := mg_of hx hy fun u hu => by rw [h1.2 u hu, nx_id hu, nx_id hx, nx_id hy]
  exact ⟨h1.1, hm.eq, fun q hq => hm.least q (fun u v hu hv e => by rw [nx_id hu, nx_id hv] at e; rw [e]) hq.1⟩
theorem MI.step (h : MI gs N x y ls) (hg : ∀ g ∈ gs, Pn N g) {g : List Int} (hgm : g ∈ gs) (hx : x < N) (hy : y < N) (hi : i < N) (hj : j < N) (e : nx ls i = nx ls j) (hne : nx ls (nx g i) ≠ nx ls (nx g j)) :
    MI gs N x y (mrgL ls (nx ls (nx g i) : Nat) (nx ls (nx g j) : Nat)) ∧ cls N (nx (mrgL ls (nx ls (nx g i) : Nat) (nx ls (nx g j) : Nat))) < cls N (nx ls) := by
  have gi := (hg g hgm).lt hi
  have gj := (hg g hgm).lt hj
  have h1 := h.lb.mrg (a := nx ls (nx g i)) (b := nx ls (nx g j)) (h.lb.lt gi)
  have hm : Mg N (nx ls) (nx (mrgL ls (nx ls (nx g i) : Nat) (nx ls (nx g j) : Nat))) (nx g i) (nx g j) := mg_of gi gj h1.2
  refine ⟨⟨h1.1, hm.up x y hx hy h.eq, fun q hq => hm.least q (h.least q hq) (hq.2 g hgm i j hi hj (h.least q hq i j hi hj e))⟩, hm.cls gi gj hne⟩
theorem MI.lst (h : MI gs N x y ls) (hc : ∀ g ∈ gs, Rf N (nx ls) fun u => nx ls (nx g u)) : LstM gs N x y (nx ls) := ⟨⟨h.eq, hc⟩, h.least⟩
end

set_option maxHeartbeats 8000000 in
set_option maxRecDepth 100000 in
/-- minimalBlocks. -/
theorem specMinB (N n c X Y : Nat) (A : Option Addr) (vs : List SV) (gs : List (List Int)) (w : World) (hx : RR w w.heap.size A n vs gs) (Ok : Hid (∀ g ∈ gs, Pn N g)) (hn8 : n ≤ 8) (h1 : 1 ≤ N) (h2 : N ≤ 20) (hX : X < N) (hY : Y < N) :
    Calls Tryz.prog 21 #[.int .i64 (N : Nat), .slice A n c, .int .i64 (X : Nat), .int .i64 (Y : Nat)] w fun e w' => ∃ A' m' c' us r, e = .returned (.slice A' m' c') ∧ LstM gs N X Y r ∧ SS w' w.heap.size w.heap.size A' m' c' us (canon N r) ∧ Below w.heap.size w w' := by
  have HX := Lib.hid hx
  have hln : Hid (gs.length = n) := Lib.hid hx.lx
  clear hx
  go_enter Tryz.func21, Tryz.ntmps21
  go_wp2_with fail
  refine (specIdent N w (by omega)).mono ?_
  rintro e w1 ⟨A1, c1, rfl, s1, b1⟩
  have S1 := Lib.hid s1
  have B1 := Lib.hid b1
  clear s1 b1
  go_wp2_with fail
  refine (specMrg N c1 A1 (idL N) X Y w1 S1.out.ri_ (Lib.hid S1.out.1) h1 h2).mono ?_
  rintro e w2 ⟨A2, c2, rfl, s2, b2⟩
  have B2 : Hid (Below w.heap.size w w2) := Lib.hid (btr B1.out b2)
  have S2 : Hid (Slc w2 w.heap.size A2 N c2 (mrgL (idL N) X Y)) := Lib.hid (s2.mono B1.out.size)
  have M0 : Hid (MI gs N X Y (mrgL (idL N) X Y)) := Lib.hid (MI.start hX hY)
  clear s2 b2
  go_wp2_with fail
  go_loopg [9, 10] (2 * N + 1) (fun gg lv cv wr => ∃ (ch : Bool) (cl : Nat) (L : Option Addr) (ls : List Int), cv = .bool ch ∧ lv = .slice L N cl ∧ Slc wr w.heap.size L N cl ls ∧ MI gs N X Y ls ∧ (ch = false → ∀ g ∈ gs, Rf N (nx ls) fun u => nx ls (nx g u)) ∧ 2 * cls N (nx ls) + (if ch then 1 else 0) ≤ gg ∧ Below w.heap.size w wr)
  case atStart => exact ⟨true, c2, A2, _, rfl, rfl, S2.out, M0.out, fun h => (by cases h), by have := cls_le N (nx (mrgL (idL N) X Y)); simp; omega, B2.out⟩
  case round =>
    clear S2 M0 B2 S1 B1
    obtain ⟨ch, cl, L, ls, rfl, rfl, hs, hmi, hcl, hgg, bel⟩ := hrel
    have Sl := Lib.hid hs
    have Mi := Lib.hid hmi
    have Be := Lib.hid bel
    have hz := bel.size
    clear hs hmi bel
    rcases ch with _ | _
    · have Lm : Hid (LstM gs N X Y (nx ls)) := Lib.hid (Mi.out.lst (hcl rfl))
      clear hcl
      go_wp2_with (go_at_call 43; fail)
      refine (specL2B N cl L ls wr Sl.out.ri_ (Lib.hid Mi.out.lb) h1 h2).mono ?_
      rintro e w3 ⟨A3, n3, c3, us, rfl, s3, b3⟩
      have S3 : Hid (SS w3 w.heap.size w.heap.size A3 n3 c3 us (canon N (nx ls))) := Lib.hid (s3.mono hz hz)
      have B3 : Hid (Below w.heap.size w w3) := Lib.hid (btr Be.out b3)
      clear s3 b3
      go_wp2_with fail
      go_ret
      exact ⟨_, _, _, us, _, rfl, Lm.out, S3.out, B3.out⟩
    · obtain ⟨C0, eC0⟩ : ∃ C0, cls N (nx ls) = C0 := ⟨_, rfl⟩
      have hgg2 := hgg
      rw [eC0, if_pos rfl] at hgg2
      have Le0 : Hid (cls N (nx ls) ≤ C0) := Lib.hid (by omega)
      clear hcl hgg eC0
      go_wp2_with fail
      go_loopw [9, 10, 11] (fun lv cv kv wr2 => ∃ (k : Nat) (ch : Bool) (cl : Nat) (L : Option Addr) (ls : List Int), k ≤ n ∧ kv = .int .i64 (k : Nat) ∧ cv = .bool ch ∧ lv = .slice L N cl ∧ Slc wr2 w.heap.size L N cl ls ∧ MI gs N X Y ls ∧ ((ch = false ∧ PD gs N ls k 0 0 ∧ cls N (nx ls) ≤ C0) ∨ (ch = true ∧ cls N (nx ls) < C0)) ∧ Below w.heap.size w wr2) (fun _ _ kv _ => n - (intOf kv).toNat)
      case atStart => exact ⟨0, false, cl, L, ls, Nat.zero_le _, rfl, rfl, rfl, Sl.out, Mi.out, .inl ⟨rfl, .zero, Le0.out⟩, Be.out⟩
      case round =>
        clear Sl Mi Be Le0
        obtain ⟨k, ch, cl, L, ls, hk, rfl, rfl, rfl, hs, hmi, hst, bel⟩ := hrel
        have Sl := Lib.hid hs
        have Mi := Lib.hid hmi
        have St := Lib.hid hst
        have Be := Lib.hid bel
        clear hs hmi hst bel
        by_cases hlt : k < n
        · obtain ⟨g, eg⟩ : ∃ g, gs.getD k [] = g := ⟨_, rfl⟩
          have hgm : g ∈ gs := by rw [← eg]; exact getD_memL (by rw [hln.out]; exact hlt)
          have Gm := Lib.hid hgm
          have Gp : Hid (Pn N g) := Lib.hid (Ok.out g hgm)
          have Eg := Lib.hid eg
          have KX : Hid (∀ W : World, Below w.heap.size w W → ∃ b5 o5 A5 c5, A = some ⟨b5, o5, none⟩ ∧ W.cell? ⟨b5, o5 + k, none⟩ = some (.slice A5 N c5) ∧ RI W w.heap.size A5 g) := Lib.hid fun W hW => by
            obtain ⟨b', o', A', l', c', y', e', hb', ev', ey', x', r', ly', _⟩ := (HX.out.below hW (Nat.le_refl _)).at_ hlt
            rw [eg] at ey'
            subst ey'
            obtain rfl : l' = N := by have := (Ok.out g hgm).2; omega
            exact ⟨b', o', A', c', e', x', r'⟩
          have q0 : (0 : Int) ≤ k := by omega
          have q1 : (k : Int) < n := by omega
          have St0 : Hid ((ch = false ∧ PD gs N ls k 0 0 ∧ cls N (nx ls) ≤ C0) ∨ (ch = true ∧ cls N (nx ls) < C0)) := St
          clear hgm eg St
          go_wp2_with fail
          go_loopw [9, 10, 12] (fun lv cv iv wr2 => ∃ (i : Nat) (ch : Bool) (cl : Nat) (L : Option Addr) (ls : List Int), i ≤ N ∧ iv = .int .i64 (i : Nat) ∧ cv = .bool ch ∧ lv = .slice L N cl ∧ Slc wr2 w.heap.size L N cl ls ∧ MI gs N X Y ls ∧ ((ch = false ∧ PD gs N ls k i 0 ∧ cls N (nx ls) ≤ C0) ∨ (ch = true ∧ cls N (nx ls) < C0)) ∧ Below w.heap.size w wr2) (fun _ _ iv _ => N - (intOf iv).toNat)
          case atStart => exact ⟨0, ch, cl, L, ls, Nat.zero_le _, rfl, rfl, rfl, Sl.out, Mi.out, St0.out, Be.out⟩
          case round =>
            clear Sl Mi St0 Be
            obtain ⟨i, ch, cl, L, ls, hi, rfl, rfl, rfl, hs, hmi, hst, bel⟩ := hrel
            have Sl := Lib.hid hs
            have Mi := Lib.hid hmi
            have St := Lib.hid hst
            have Be := Lib.hid bel
            clear hs hmi hst bel
            by_cases hlti : i < N
            · go_wp2_with fail
              go_loopw [9, 10, 13] (fun lv cv jv wr2 => ∃ (j : Nat) (ch : Bool) (cl : Nat) (L : Option Addr) (ls : List Int), j ≤ i ∧ jv = .int .i64 (j : Nat) ∧ cv = .bool ch ∧ lv = .slice L N cl ∧ Slc wr2 w.heap.size L N cl ls ∧ MI gs N X Y ls ∧ ((ch = false ∧ PD gs N ls k i j ∧ cls N (nx ls) ≤ C0) ∨ (ch = true ∧ cls N (nx ls) < C0)) ∧ Below w.heap.size w wr2) (fun _ _ jv _ => i - (intOf jv).toNat)
              case atStart => exact ⟨0, ch, cl, L, ls, Nat.zero_le _, rfl, rfl, rfl, Sl.out, Mi.out, St.out, Be.out⟩
              case round =>
                clear Sl Mi St Be
                obtain ⟨j, ch, cl, L, ls, hj, rfl, rfl, rfl, hs, hmi, hst, bel⟩ := hrel
                have Sl := Lib.hid hs
                have Mi := Lib.hid hmi
                have St := Lib.hid hst
                have Be := Lib.hid bel
                have hz := bel.size
                clear hs hmi hst bel
                by_cases hltj : j < i
                · have hjN : j < N := by omega
                  obtain ⟨b5, o5, A5, c5, rfl, x5, r5⟩ := KX.out _ Be.out
                  obtain ⟨bg, og, rfl, hbg, hcg⟩ := r5 (by rw [Gp.out.2]; omega)
                  have gi := hcg i (by rw [Gp.out.2]; exact hlti)
                  have gj := hcg j (by rw [Gp.out.2]; exact hjN)
                  rw [nx_val Gp.out.1 (by rw [Gp.out.2]; exact hlti)] at gi
                  rw [nx_val Gp.out.1 (by rw [Gp.out.2]; exact hjN)] at gj
                  obtain ⟨I, eI⟩ : ∃ I, nx g i = I := ⟨_, rfl⟩
                  obtain ⟨J, eJ⟩ : ∃ J, nx g j = J := ⟨_, rfl⟩
                  have hI : I < N := by rw [← eI]; exact Gp.out.lt hlti
                  have hJ : J < N := by rw [← eJ]; exact Gp.out.lt hjN
                  rw [eI] at gi
                  rw [eJ] at gj
                  obtain ⟨bl, ol, rfl, hbl, hcl⟩ := Sl.out.ri_ (by rw [Mi.out.lb.len]; omega)
                  have lI := hcl I (by rw [Mi.out.lb.len]; exact hI)
                  have lJ := hcl J (by rw [Mi.out.lb.len]; exact hJ)
                  have li := hcl i (by rw [Mi.out.lb.len]; exact hlti)
                  have lj := hcl j (by rw [Mi.out.lb.len]; exact hjN)
                  rw [Mi.out.lb.val hI] at lI
                  rw [Mi.out.lb.val hJ] at lJ
                  rw [Mi.out.lb.val hlti] at li
                  rw [Mi.out.lb.val hjN] at lj
                  obtain ⟨a, ea⟩ : ∃ a, nx ls I = a := ⟨_, rfl⟩
                  obtain ⟨b, eb⟩ : ∃ b, nx ls J = b := ⟨_, rfl⟩
                  obtain ⟨p, ep⟩ : ∃ p, nx ls i = p := ⟨_, rfl⟩
                  obtain ⟨q, eq⟩ : ∃ q, nx ls j = q := ⟨_, rfl⟩
                  rw [ea] at lI
                  rw [eb] at lJ
                  rw [ep] at li
                  rw [eq] at lj
                  have EI := Lib.hid eI
                  have EJ := Lib.hid eJ
                  have Ea := Lib.hid ea
                  have Eb := Lib.hid eb
                  have Ep := Lib.hid ep
                  have Eq := Lib.hid eq
                  have r0 : (0 : Int) ≤ i := by omega
                  have r1 : (i : Int) < N := by omega
                  have r2 : (0 : Int) ≤ j := by omega
                  have r3 : (j : Int) < N := by omega
                  have r4 : (I : Int) < N := by omega
                  have r5' : (J : Int) < N := by omega
                  have BD : Hid (∀ t, Below w.heap.size w (wr.drewN t)) := Lib.hid fun t => below_drewN Be.out t
                  have SD : Hid (∀ t, Slc (wr.drewN t) w.heap.size (some ⟨bl, ol, none⟩) N cl ls) := Lib.hid fun t => Sl.out.drewN t
                  clear hcg hcl eI eJ ea eb ep eq hbg hbl r5
                  by_cases hpq : p = q
                  · have d0 : ((p : Int) == (q : Int)) = true := by rw [hpq]; simp
                    by_cases hab : a = b
                    · have d1 : ((a : Int) != (b : Int)) = false := by rw [hab]; simp
                      have d2 : ((a : Int) == (b : Int)) = true := by rw [hab]; simp
                      have St2 : Hid ((ch = false ∧ PD gs N ls k i (j + 1) ∧ cls N (nx ls) ≤ C0) ∨ (ch = true ∧ cls N (nx ls) < C0)) := Lib.hid (St.out.imp (fun ⟨u, v, z⟩ => ⟨u, v.next fun _ => by rw [Eg.out, EI.out, EJ.out, Ea.out, Eb.out, hab], z⟩) id)
                      clear hpq hab
                      go_wp2_with fail
                      go_quiet (fail)
                      go_wp2_with fail
                      go_roundw
                      case rel => exact ⟨j + 1, ch, cl, _, ls, by omega, by go_num, rfl, rfl, SD.out _, Mi.out, St2.out, BD.out _⟩
                      case measure => simp [intOf]; omega
                    · have d1 : ((a : Int) != (b : Int)) = true := by rw [bne_iff_ne]; omega
                      have d2 : ((a : Int) == (b : Int)) = false := by rw [beq_eq_false_iff_ne]; omega
                      have Ms := Mi.out.step Ok.out Gm.out hX hY hlti hjN (by rw [Ep.out, Eq.out, hpq]) (by rw [EI.out, EJ.out, Ea.out, Eb.out]; exact hab)
                      rw [EI.out, EJ.out, Ea.out, Eb.out] at Ms
                      have Mi2 := Lib.hid Ms.1
                      have Lt2 : Hid (cls N (nx (mrgL ls (a : Nat) (b : Nat))) < C0) := Lib.hid (by
                        have h7 := Ms.2
                        rcases St.out with ⟨_, _, h8⟩ | ⟨_, h8⟩ <;> omega)
                      clear hpq hab Ms
                      go_wp2_with fail
                      go_quiet (fail)
                      go_wp2_with (go_at_call 42; fail)
                      obtain ⟨w5, hw5⟩ : ∃ w5, wr.drewN nq = w5 := ⟨_, rfl⟩
                      have S5 := SD.out nq
                      have B5 := BD.out nq
                      rw [hw5] at S5 B5 ⊢
                      have Sl5 := Lib.hid S5
                      have Be5 := Lib.hid B5
                      have hz5 := B5.size
                      clear hw5 S5 B5
                      refine (specMrg N cl _ ls a b w5 Sl5.out.ri_ (Lib.hid Sl5.out.1) h1 h2).mono ?_
                      rintro e w6 ⟨A6, c6, rfl, s6, b6⟩
                      have S6 : Hid (Slc w6 w.heap.size A6 N c6 (mrgL ls (a : Nat) (b : Nat))) := Lib.hid (s6.mono hz5)
                      have B6 : Hid (Below w.heap.size w w6) := Lib.hid (btr Be5.out b6)
                      clear s6 b6
                      go_wp2_with fail
                      go_roundw
                      case rel => exact ⟨j + 1, true, c6, A6, _, by omega, by go_num, rfl, rfl, S6.out, Mi2.out, .inr ⟨rfl, Lt2.out⟩, B6.out⟩
                      case measure => simp [intOf]; omega
                  · have d0 : ((p : Int) == (q : Int)) = false := by rw [beq_eq_false_iff_ne]; omega
                    have St2 : Hid ((ch = false ∧ PD gs N ls k i (j + 1) ∧ cls N (nx ls) ≤ C0) ∨ (ch = true ∧ cls N (nx ls) < C0)) := Lib.hid (St.out.imp (fun ⟨u, v, z⟩ => ⟨u, v.next fun e => absurd (by rw [Ep.out, Eq.out] at e; exact e) hpq, z⟩) id)
                    clear hpq
                    go_wp2_with fail
                    go_quiet (fail)
                    go_wp2_with fail
                    go_roundw
                    case rel => exact ⟨j + 1, ch, cl, _, ls, by omega, by go_num, rfl, rfl, SD.out _, Mi.out, St2.out, BD.out _⟩
                    case measure => simp [intOf]; omega
                · obtain rfl : j = i := by omega
                  have St2 : Hid ((ch = false ∧ PD gs N ls k (j + 1) 0 ∧ cls N (nx ls) ≤ C0) ∨ (ch = true ∧ cls N (nx ls) < C0)) := Lib.hid (St.out.imp (fun ⟨u, v, z⟩ => ⟨u, v.nexti (Nat.le_refl _), z⟩) id)
                  go_wp2_with fail
                  go_roundw
                  case rel => exact ⟨j + 1, ch, cl, L, ls, by omega, by go_num, rfl, rfl, Sl.out, Mi.out, St2.out, Be.out⟩
                  case measure => simp [intOf]; omega
            · obtain rfl : i = N := by omega
              have St2 : Hid ((ch = false ∧ PD gs i ls (k + 1) 0 0 ∧ cls i (nx ls) ≤ C0) ∨ (ch = true ∧ cls i (nx ls) < C0)) := Lib.hid (St.out.imp (fun ⟨u, v, z⟩ => ⟨u, v.nextk (Nat.le_refl _), z⟩) id)
              go_wp2_with fail
              go_roundw
              case rel => exact ⟨k + 1, ch, cl, L, ls, by omega, by go_num, rfl, rfl, Sl.out, Mi.out, St2.out, Be.out⟩
              case measure => simp [intOf]; omega
        · obtain rfl : k = n := by omega
          have Fin : Hid ((ch = false → ∀ g ∈ gs, Rf N (nx ls) fun u => nx ls (nx g u)) ∧ 2 * cls N (nx ls) + (if ch then 1 else 0) ≤ 2 * C0) := Lib.hid (by
            rcases St.out with ⟨rfl, hpd, hle⟩ | ⟨rfl, hlt⟩
            · refine ⟨fun _ => PD.closed (by rw [hln.out]; exact hpd), ?_⟩
              simp; omega
            · refine ⟨fun h => (by cases h), ?_⟩
              simp; omega)
          go_wp2_with fail
          go_roundg (2 * C0)
          case rel => exact ⟨ch, cl, L, ls, rfl, rfl, Sl.out, Mi.out, Fin.out.1, Fin.out.2, Be.out⟩
          case measure => omega
end Go.Proofs.YtedfcljikgmpgaaGreat

/- markInt64SS from a later mark on: for laws over two slices of slices. Condition: at most 1048576 entries. -/
namespace Go.Proofs.YtedfcljikgmpgaaGreat
open Go.RowKit

end Go.Proofs.YtedfcljikgmpgaaGreat

/- Slices of slices of slices: what the call itself made, what can be read; the laws' helpers on them. Conditions: at most 1000 slices, 1048576 numbers in all. -/
namespace Go.Proofs.YtedfcljikgmpgaaGreat
open Go.RowKit

/-- '.slice A n _' reads as slices that read as the lists of lists ls. -/
structure R3 (w : World) (B : Nat) (A : Option Addr) (n : Nat) (vs : List SV) (wss : List (List SV)) (ls : List (List (List Int))) : Prop where
  lx : ls.length = n
  cells : 0 < n → ∃ b off, A = some ⟨b, off, none⟩ ∧ b < B ∧ ∀ j, j < n → w.cell? ⟨b, off + j, none⟩ = some (.slice (vs.getD j sd0).1 (vs.getD j sd0).2.1 (vs.getD j sd0).2.2)
  rows : ∀ j, j < n → RR w B (vs.getD j sd0).1 (vs.getD j sd0).2.1 (wss.getD j []) (ls.getD j [])
/-- A row of the call's own of n slices of slices, each of whose blocks lie in a range of their own. -/
structure S3 (w : World) (base : Nat) (A : Option Addr) (n c : Nat) (vs : List SV) (wss : List (List SV)) (rg : List (Nat × Nat)) (ls : List (List (List Int))) : Prop where
  own : w.ownsRow base 24 1 (.slice A n c) n (vs.map sval)
  lv : vs.length = n
  lw : wss.length = n
  lg : rg.length = n
  lx : ls.length = n
  row : ∀ i, i < n → SS w (rg.getD i (0, 0)).1 (rg.getD i (0, 0)).1 (vs.getD i sd0).1 (vs.getD i sd0).2.1 (vs.getD i sd0).2.2 (wss.getD i []) (ls.getD i [])
  up : ∀ i, i < n → (∀ k, (sval (vs.getD i sd0)).ownBlock = some k → k < (rg.getD i (0, 0)).2) ∧ ∀ t, t < (vs.getD i sd0).2.1 → ∀ k, (sval ((wss.getD i []).getD t sd0)).ownBlock = some k → k < (rg.getD i (0, 0)).2
  lo : ∀ i, i < n → base ≤ (rg.getD i (0, 0)).1
  ord : ∀ i j, i < j → j < n → (rg.getD i (0, 0)).2 ≤ (rg.getD j (0, 0)).1
  out : ∀ k, (Value.slice A n c).ownBlock = some k → ∀ i, i < n → k < (rg.getD i (0, 0)).1 ∨ (rg.getD i (0, 0)).2 ≤ k
theorem infoT : (Tryz.prog.info? 24).map (fun i => (i.zero, i.size, i.bytes)) = some (some (.slice none 0 0), 1, 24) := by kernel_rfl

section
variable {w w' : World} {base B B' n c : Nat} {A : Option Addr} {vs : List SV} {wss : List (List SV)} {rg : List (Nat × Nat)} {ls : List (List (List Int))}
theorem R3.keep (h : R3 w B A n vs wss ls) (hk : ∀ p : Addr, p.block < B → w'.cell? p = w.cell? p) : R3 w' B A n vs wss ls :=
  ⟨h.lx, fun hn => by obtain ⟨b, off, e, hb, hc⟩ := h.cells hn; exact ⟨b, off, e, hb, fun j hj => (hk ⟨b, off + j, none⟩ hb).trans (hc j hj)⟩, fun j hj => (h.rows j hj).keep hk⟩
theorem R3.more (h : R3 w B A n vs wss ls) (hB : B ≤ B') : R3 w B' A n vs wss ls :=
  ⟨h.lx, fun hn => by obtain ⟨b, off, e, hb, hc⟩ := h.cells hn; exact ⟨b, off, e, by omega, hc⟩, fun j hj => (h.rows j hj).more hB⟩
theorem R3.below (h : R3 w B A n vs wss ls) {B' : Nat} (hb : Below B' w w') (hB : B ≤ B') : R3 w' B A n vs wss ls := h.keep fun _ hp => hb.cell (by omega)
theorem R3.up (h : R3 w w.heap.size A n vs wss ls) (hb : Below w.heap.size w w') : R3 w' w'.heap.size A n vs wss ls := (h.below hb (Nat.le_refl _)).more hb.size
theorem R3.drewN (h : R3 w B A n vs wss ls) (k : Nat) : R3 (w.drewN k) B A n vs wss ls := h.keep fun _ _ => rfl
theorem R3.at_ (h : R3 w B A n vs wss ls) {k : Nat} (hk : k < n) : ∃ b off A5 l c5 us y, A = some ⟨b, off, none⟩ ∧ b < B ∧ vs.getD k sd0 = (A5, l, c5) ∧ ls.getD k [] = y ∧ w.cell? ⟨b, off + k, none⟩ = some (.slice A5 l c5) ∧ RR w B A5 l us y := by
  obtain ⟨b, off, e, hb, hc⟩ := h.cells (by omega)
  exact ⟨b, off, _, _, _, _, _, e, hb, rfl, rfl, hc k hk, h.rows k hk⟩
theorem S3.nil_ : S3 w base none 0 0 [] [] [] [] :=
  ⟨World.ownsRow_nil _ _ _ _, rfl, rfl, rfl, rfl, fun i h => absurd h (by omega), fun i h => absurd h (by omega), fun i h => absurd h (by omega), fun i j _ h => absurd h (by omega), fun k e => by cases e⟩
theorem S3.lit0 (w : World) (base : Nat) (hb : base ≤ w.heap.size) : S3 (w.alloc (.cells #[] 24)) base (some ⟨w.heap.size, 0, none⟩) 0 0 [] [] [] [] :=
  ⟨World.ownsRow_lit (size := 1) w #[] 0 hb (Nat.zero_le _) rfl, rfl, rfl, rfl, rfl, fun i h => absurd h (by omega), fun i h => absurd h (by omega), fun i h => absurd h (by omega), fun i j _ h => absurd h (by omega), fun k _ i h => absurd h (by omega)⟩
theorem S3.mono (h : S3 w base A n c vs wss rg ls) {base' : Nat} (hb : base' ≤ base) : S3 w base' A n c vs wss rg ls :=
  ⟨World.ownsRow.mono h.own hb, h.lv, h.lw, h.lg, h.lx, h.row, h.up, fun i hi => Nat.le_trans hb (h.lo i hi), h.ord, h.out⟩
theorem S3.upB (h : S3 w base A n c vs wss rg ls) (hb : Below w.heap.size w w') : S3 w' base A n c vs wss rg ls := by
  refine ⟨⟨h.own.1, ?_⟩, h.lv, h.lw, h.lg, h.lx, fun i hi => (h.row i hi).up hb, h.up, h.lo, h.ord, h.out⟩
  rcases h.own.2 with hn | ⟨g, cap, cur, e, hb', hg, rest⟩
  · exact .inl hn
  · exact .inr ⟨g, cap, cur, e, hb', by rw [hb.block g (Array.getElem?_eq_some_iff.1 hg).1]; exact hg, rest⟩
theorem S3.alloc (h : S3 w base A n c vs wss rg ls) (o : Obj) : S3 (w.alloc o) base A n c vs wss rg ls := h.upB ((Below.refl _ _).alloc (Nat.le_refl _) _)
theorem S3.lt_ (h : S3 w base A n c vs wss rg ls) : ∀ k, (Value.slice A n c).ownBlock = some k → base ≤ k ∧ k < w.heap.size := World.ownsRow.lt h.own
theorem S3.at_ (h : S3 w base A n c vs wss rg ls) (hn : 0 < n) : ∃ g, A = some ⟨g, 0, none⟩ ∧ base ≤ g ∧ g < w.heap.size ∧ ∀ i, i < n → w.cell? ⟨g, i, none⟩ = some (.slice (vs.getD i sd0).1 (vs.getD i sd0).2.1 (vs.getD i sd0).2.2) := by
  rcases h.own.2 with ⟨e, h0⟩ | ⟨g, cap, cur, e, hb, hg, rest⟩
  · omega
  · injection e with e1 e2 e3
    subst e1
    refine ⟨g, rfl, hb, (Array.getElem?_eq_some_iff.1 hg).1, fun i hi => ?_⟩
    rw [h.own.cellAt i (by omega), List.getElem?_map, List.getD_eq_getElem?_getD, List.getElem?_eq_getElem (by rw [h.lv]; exact hi)]
    rfl
theorem S3.rr (h : S3 w base A n c vs wss rg ls) : R3 w w.heap.size A n vs wss ls :=
  ⟨h.lx, fun hn => by obtain ⟨g, e, _, hg, hc⟩ := h.at_ hn; exact ⟨g, 0, e, hg, fun j hj => by rw [Nat.zero_add]; exact hc j hj⟩, fun j hj => (h.row j hj).rr⟩
/-- A system is of one block at least: its range is not empty. -/
theorem S3.rg_le (h : S3 w base A n c vs wss rg ls) {i : Nat} (hi : i < n) : (∀ k, (sval (vs.getD i sd0)).ownBlock = some k → (rg.getD i (0, 0)).1 ≤ k ∧ k < (rg.getD i (0, 0)).2) ∧ ∀ t, t < (vs.getD i sd0).2.1 → ∀ k, (sval ((wss.getD i []).getD t sd0)).ownBlock = some k → (rg.getD i (0, 0)).1 ≤ k ∧ k < (rg.getD i (0, 0)).2 :=
  ⟨fun k e => ⟨((h.row i hi).lt_ k e).1, (h.up i hi).1 k e⟩, fun t ht k e => ⟨(((h.row i hi).row t ht).lt_ k e).1, (h.up i hi).2 t ht k e⟩⟩
/-- append of one slice of slices onto a row of them. -/
theorem wpList_app3_ {ops : Array Oper} {rest : List Oper} {o : Oper} {a : Act} {Q : Exit → Act → World → Prop} (hgd : o.guard = none) (s x : Operand)
    (ho : o.op = .call { callee := .builtin .append, args := #[s, x], argTypes := #[27, 27] })
    (hs : a.eval s = .slice A n c) (hss : S3 w base A n c vs wss rg ls) (g : Nat) (dA : Option Addr) (dn dc lo hi : Nat) (us : List SV) (ys : List (List Int)) (hx : a.eval x = .slice (some ⟨g, 0, none⟩) 1 1)
    (hcell : w.cell? ⟨g, 0, none⟩ = some (.slice dA dn dc)) (hys : SS w lo lo dA dn dc us ys)
    (hl1 : ∀ k, (Value.slice dA dn dc).ownBlock = some k → k < hi) (hl2 : ∀ t, t < dn → ∀ k, (sval (us.getD t sd0)).ownBlock = some k → k < hi)
    (hb : base ≤ lo) (hhi : lo ≤ hi ∧ hi ≤ w.heap.size) (hb2 : ∀ i, i < n → (rg.getD i (0, 0)).2 ≤ lo) (ho2 : ∀ k, (Value.slice A n c).ownBlock = some k → k < lo) (hr2 : ∀ i, i < n → (rg.getD i (0, 0)).2 ≤ w.heap.size) (hn : n ≤ 1000000000)
    (h : ∀ A' c' w', S3 w' base A' (n + 1) c' (vs ++ [(dA, dn, dc)]) (wss ++ [us]) (rg ++ [(lo, hi)]) (ls ++ [ys]) → w.grownBy w' (Value.slice A n c).ownBlock → wpList Tryz.prog ops Q rest (a.put o.dst (.slice A' (n + 1) c')) w') : wpList Tryz.prog ops Q (o :: rest) a w := by
  obtain ⟨i0, hi0, hz0, hz1, hz2⟩ := info_parts infoT
  refine wpList_append_own_at w hgd s x 27 ho base 24 i0 (.slice none 0 0) 1 24 Tryz.underlying27 hi0 hz0 hz1 hz2 rfl (by decide) _ n _ hs hss.own ⟨g, 0, none⟩ 1 1 [.slice dA dn dc] hx rfl ?_ ?_ ?_ (by omega) (by omega) ?_
  · intro j v hj
    match j, hj with
    | 0, hj => simp at hj; subst hj; simpa [Addr.add] using hcell
    | j + 1, hj => simp at hj
  · intro v hv; simp at hv; subst hv; rfl
  · unfold maxLen; omega
  · intro v' w' hown' hg _ hat
    have hform : ∃ A' c', v' = .slice A' (n + 1) c' := by
      rcases hown'.2 with ⟨rfl, h0⟩ | ⟨g', cap, cur, rfl, _⟩
      · omega
      · exact ⟨_, _, rfl⟩
    obtain ⟨A', c', rfl⟩ := hform
    -- the outer row's old block lies in no system
    have kO : ∀ i, i < n → (∀ k, (sval (vs.getD i sd0)).ownBlock = some k → some k ≠ (Value.slice A n c).ownBlock) ∧ ∀ t, t < (vs.getD i sd0).2.1 → ∀ k, (sval ((wss.getD i []).getD t sd0)).ownBlock = some k → some k ≠ (Value.slice A n c).ownBlock := fun i hi' => by
      have h1 := hss.rg_le hi'
      exact ⟨fun k e e2 => by have := h1.1 k e; have := hss.out k e2.symm i hi'; omega, fun t ht k e e2 => by have := h1.2 t ht k e; have := hss.out k e2.symm i hi'; omega⟩
    have keepS : ∀ {bo bi k cc : Nat} {P : Option Addr} {zs : List SV} {xss : List (List Int)}, SS w bo bi P k cc zs xss → (∀ b, (Value.slice P k cc).ownBlock = some b → some b ≠ (Value.slice A n c).ownBlock) → (∀ t, t < k → ∀ b, (sval (zs.getD t sd0)).ownBlock = some b → some b ≠ (Value.slice A n c).ownBlock) → SS w' bo bi P k cc zs xss := fun {bo bi k cc P zs xss} hS d1 d2 =>
      ⟨World.ownsRow.kept hS.own hg (by
        rcases e : (Value.slice P k cc).ownBlock with _ | b
        · exact .inl rfl
        · exact .inr (d1 b e)), hS.lv, hS.lx, fun t ht => (hS.row t ht).kept hg (by
        rcases e : (Value.slice (zs.getD t sd0).1 (zs.getD t sd0).2.1 (zs.getD t sd0).2.2).ownBlock with _ | b
        · exact .inl rfl
        · exact .inr (d2 t ht b e)), hS.dis⟩
    refine h A' c' w' ⟨?_, by simp [hss.lv], by simp [hss.lw], by simp [hss.lg], by simp [hss.lx], fun i hi' => ?_, fun i hi' => ?_, fun i hi' => ?_, fun i j hij hj => ?_, fun k hk i hi' => ?_⟩ hg
    · rw [List.map_append]; exact hown'
    · by_cases e : i < n
      · rw [getD_app vs _ _ _ (by rw [hss.lv]; exact e), getD_app ls _ _ _ (by rw [hss.lx]; exact e), getD_app wss _ _ _ (by rw [hss.lw]; exact e), getD_app rg _ _ _ (by rw [hss.lg]; exact e)]
        exact keepS (hss.row i e) (kO i e).1 (kO i e).2
      · obtain rfl : i = n := by omega
        rw [getD_snoc vs _ _ _ hss.lv.symm, getD_snoc ls _ _ _ hss.lx.symm, getD_snoc wss _ _ _ hss.lw.symm, getD_snoc rg _ _ _ hss.lg.symm]
        exact keepS hys (fun b e e2 => by have := (hys.lt_ b e).1; have := ho2 b e2.symm; omega) (fun t ht b e e2 => by have := ((hys.row t ht).lt_ b e).1; have := ho2 b e2.symm; omega)
    · by_cases e : i < n
      · rw [getD_app vs _ _ _ (by rw [hss.lv]; exact e), getD_app wss _ _ _ (by rw [hss.lw]; exact e), getD_app rg _ _ _ (by rw [hss.lg]; exact e)]
        exact hss.up i e
      · obtain rfl : i = n := by omega
        rw [getD_snoc vs _ _ _ hss.lv.symm, getD_snoc wss _ _ _ hss.lw.symm, getD_snoc rg _ _ _ hss.lg.symm]
        exact ⟨hl1, hl2⟩
    · by_cases e : i < n
      · rw [getD_app rg _ _ _ (by rw [hss.lg]; exact e)]; exact hss.lo i e
      · obtain rfl : i = n := by omega
        rw [getD_snoc rg _ _ _ hss.lg.symm]; exact hb
    · rw [getD_app rg _ _ i (by rw [hss.lg]; omega)]
      by_cases e : j < n
      · rw [getD_app rg _ _ j (by rw [hss.lg]; exact e)]; exact hss.ord i j hij e
      · obtain rfl : j = n := by omega
        rw [getD_snoc rg _ _ _ hss.lg.symm]
        exact hb2 i hij
    · rcases hat with e1 | e1
      · rw [e1] at hk
        by_cases e : i < n
        · rw [getD_app rg _ _ _ (by rw [hss.lg]; exact e)]; exact hss.out k hk i e
        · obtain rfl : i = n := by omega
          rw [getD_snoc rg _ _ _ hss.lg.symm]
          exact .inl (ho2 k hk)
      · rw [e1] at hk
        injection hk with hk
        subst hk
        by_cases e : i < n
        · rw [getD_app rg _ _ _ (by rw [hss.lg]; exact e)]; exact .inr (hr2 i e)
        · obtain rfl : i = n := by omega
          rw [getD_snoc rg _ _ _ hss.lg.symm]
          exact .inr hhi.2
end

end Go.Proofs.YtedfcljikgmpgaaGreat

/- equalInts of the model. No condition but lengths. -/
namespace Go.Proofs.YtedfcljikgmpgaaGreat
open Go.RowKit

set_option maxHeartbeats 400000 in
theorem eqIs2_core (A B : Option Addr) (c d n : Nat) (xs ys : List Int) (w : World) (hx : RI w w.heap.size A xs) (hy : RI w w.heap.size B ys) (lx : Hid (xs.length = n)) (ly : Hid (ys.length = n)) (hn : n ≤ 2097152) :
    Calls Tryz.prog 44 #[.slice A n c, .slice B n d] w fun e w' => e = .returned (.bool (decide (xs = ys))) ∧ ∃ m, w' = w.drewN m := by
  go_enter Tryz.func44, Tryz.ntmps44
  go_wp2
  go_loopw [5] (fun i wr => ∃ k : Nat, k ≤ n ∧ i = .int .i64 k ∧ (∀ j, j < k → xs.getD j 0 = ys.getD j 0) ∧ ∃ m, wr = w.drewN m) (fun i _ => n - (intOf i).toNat)
  case atStart => exact ⟨0, Nat.zero_le _, rfl, fun j h => absurd h (by omega), 0, rfl⟩
  case round =>
    obtain ⟨k, hk, rfl, heq, m, rfl⟩ := hrel
    have Heq := Lib.hid heq
    clear heq
    by_cases hlt : k < n
    · obtain ⟨b, off, rfl, hb, hc⟩ := hx (by rw [lx.out]; omega)
      obtain ⟨b', off', rfl, hb', hc'⟩ := hy (by rw [ly.out]; omega)
      have c1 := hc k (by rw [lx.out]; omega)
      have c2 := hc' k (by rw [ly.out]; omega)
      obtain ⟨x, ex⟩ : ∃ x, xs.getD k 0 = x := ⟨_, rfl⟩
      obtain ⟨y, ey⟩ : ∃ y, ys.getD k 0 = y := ⟨_, rfl⟩
      rw [ex] at c1
      rw [ey] at c2
      have Ex := Lib.hid ex
      have Ey := Lib.hid ey
      clear ex ey hc hc' hx hy
      have p1 : (0 : Int) ≤ k := by omega
      have p2 : (k : Int) < n := by omega
      by_cases hxy : x = y
      · subst hxy
        go_wp2
        go_quiet (fail)
        go_wp2
        go_roundw
        case rel => exact ⟨k + 1, by omega, by go_num, fun j hj => by
          by_cases e : j = k
          · subst e; rw [Ex.out, Ey.out]
          · exact Heq.out j (by omega), _, rfl⟩
        case measure => simp [intOf]; omega
      · have hd : (x != y) = true := by simpa using hxy
        have hd' : (x == y) = false := by simpa using hxy
        go_wp2
        go_quiet (fail)
        go_wp2
        go_ret
        refine ⟨ret_bool (Eq.symm (decide_eq_false fun e => hxy ?_)), _, World.drewN_drewN _ _ _⟩
        rw [← Ex.out, ← Ey.out, e]
    · go_wp2
      go_ret
      have : k = n := by omega
      subst this
      exact ⟨ret_bool (Eq.symm (decide_eq_true (ext_getD lx.out ly.out Heq.out))), _, rfl⟩
theorem eqIs2 (A B : Option Addr) (c d n m : Nat) (xs ys : List Int) (w : World) (hx : RI w w.heap.size A xs) (hy : RI w w.heap.size B ys) (lx : Hid (xs.length = n)) (ly : Hid (ys.length = m)) (hn : n ≤ 2097152) (hm : m ≤ 2097152) :
    Calls Tryz.prog 44 #[.slice A n c, .slice B m d] w fun e w' => e = .returned (.bool (decide (xs = ys))) ∧ ∃ m, w' = w.drewN m := by
  by_cases hl : n = m
  · subst hl
    exact eqIs2_core A B c d n xs ys w hx hy lx ly hn
  · have hd : ((n : Int) != (m : Int)) = true := by rw [bne_iff_ne]; omega
    have hd' : ((n : Int) == (m : Int)) = false := by rw [beq_eq_false_iff_ne]; omega
    go_enter Tryz.func44, Tryz.ntmps44
    go_wp2
    go_ret
    refine ⟨ret_bool (Eq.symm (decide_eq_false fun e => hl ?_)), 0, rfl⟩
    rw [← lx.out, ← ly.out, e]
end Go.Proofs.YtedfcljikgmpgaaGreat

/- equalPartitions and MinimalBlockSystems of the model. Conditions: at most 1048576 lists of at most 1048576 numbers. -/
namespace Go.Proofs.YtedfcljikgmpgaaGreat
open Go.RowKit

set_option maxHeartbeats 1600000 in
set_option maxRecDepth 100000 in
/-- equalPartitions. -/
theorem specEqP (A B : Option Addr) (n c m d : Nat) (vs us : List SV) (xss yss : List (List Int)) (w : World) (hx : RR w w.heap.size A n vs xss) (hy : RR w w.heap.size B m us yss) (hn : n ≤ 1000) (hm : m ≤ 1000) (hl1 : Hid (∀ i, i < n → (xss.getD i []).length ≤ 1000)) (hl2 : Hid (∀ i, i < m → (yss.getD i []).length ≤ 1000)) :
    Calls Tryz.prog 22 #[.slice A n c, .slice B m d] w fun e w' => e = .returned (.bool (decide (xss = yss))) ∧ Below w.heap.size w w' := by
  have HX := Lib.hid hx
  have HY := Lib.hid hy
  clear hx hy
  by_cases hnm : n = m
  · subst hnm
    have e0 : ((n : Int) != (n : Int)) = false := by simp
    go_enter Tryz.func22, Tryz.ntmps22
    go_wp2_with fail
    go_loopw [5] (fun i wr => ∃ k : Nat, k ≤ n ∧ i = .int .i64 (k : Nat) ∧ (∀ j, j < k → xss.getD j [] = yss.getD j []) ∧ Below w.heap.size w wr) (fun i _ => n - (intOf i).toNat)
    case atStart => exact ⟨0, Nat.zero_le _, rfl, fun j h => absurd h (Nat.not_lt_zero _), Below.refl _ _⟩
    case round =>
      obtain ⟨k, hk, rfl, hall, bel⟩ := hrel
      have All := Lib.hid hall
      have Be := Lib.hid bel
      clear hall bel
      by_cases hlt : k < n
      · obtain ⟨b, off, A5, l, c5, y, rfl, hb, ev, ey, x1, r1, ly1, hlc⟩ := (HX.out.up Be.out).at_ hlt
        obtain ⟨b', off', A6, l', c6, y', rfl, hb', ev', ey', x2, r2, ly2, hlc'⟩ := (HY.out.up Be.out).at_ hlt
        have h1 := hl1.out k hlt
        have h2 := hl2.out k hlt
        rw [ey, ly1] at h1
        rw [ey', ly2] at h2
        have R1 := Lib.hid r1
        have R2 := Lib.hid r2
        have L1 : Hid (y.length = l) := Lib.hid ly1
        have L2 : Hid (y'.length = l') := Lib.hid ly2
        have Ey := Lib.hid ey
        have Ey' := Lib.hid ey'
        have p1 : (0 : Int) ≤ k := by omega
        have p2 : (k : Int) < n := by omega
        have BD : Hid (∀ q, Below w.heap.size w (wr.drewN q)) := Lib.hid fun q => below_drewN Be.out q
        clear r1 r2 ly1 ly2 ev ey ev' ey' hb hb'
        by_cases e : y = y'
        · have KQ : Hid (∀ q, Calls Tryz.prog 44 #[.slice A5 l c5, .slice A6 l' c6] (wr.drewN q) fun e w' => e = .returned (.bool true) ∧ ∃ m, w' = (wr.drewN q).drewN m) := Lib.hid fun q => by
            have := eqIs2 A5 A6 c5 c6 l l' y y' (wr.drewN q) (R1.out.drewN q) (R2.out.drewN q) L1 L2 (by omega) (by omega)
            rwa [decide_eq_true e] at this
          have All2 : Hid (∀ j, j < k + 1 → xss.getD j [] = yss.getD j []) := Lib.hid fun j hj => by
            by_cases e2 : j = k
            · subst e2; rw [Ey.out, Ey'.out, e]
            · exact All.out j (by omega)
          clear e
          go_wp2_with fail
          go_quiet ((go_at_call 44; exact Calls.quiet_of (KQ.out _)))
          go_wp2_with fail
          go_roundw
          case rel => exact ⟨k + 1, by omega, by go_num, All2.out, BD.out _⟩
          case measure => simp [intOf]; omega
        · have KQ : Hid (∀ q, Calls Tryz.prog 44 #[.slice A5 l c5, .slice A6 l' c6] (wr.drewN q) fun e w' => e = .returned (.bool false) ∧ ∃ m, w' = (wr.drewN q).drewN m) := Lib.hid fun q => by
            have := eqIs2 A5 A6 c5 c6 l l' y y' (wr.drewN q) (R1.out.drewN q) (R2.out.drewN q) L1 L2 (by omega) (by omega)
            rwa [decide_eq_false e] at this
          have Fin : Hid (false = decide (xss = yss)) := Lib.hid (Eq.symm (decide_eq_false fun e2 => e (by rw [← Ey.out, ← Ey'.out, e2])))
          clear e
          go_wp2_with fail
          go_quiet ((go_at_call 44; exact Calls.quiet_of (KQ.out _)))
          go_wp2_with fail
          go_ret
          exact ⟨ret_bool Fin.out, BD.out _⟩
      · obtain rfl : k = n := by omega
        have Fin : Hid (true = decide (xss = yss)) := Lib.hid (Eq.symm (decide_eq_true (by
          apply List.ext_getElem (by rw [HX.out.lx, HY.out.lx])
          intro i h1 h2
          have := All.out i (by rw [← HX.out.lx]; exact h1)
          rw [getD_L h1, getD_L h2] at this
          exact this)))
        go_wp2_with fail
        go_ret
        exact ⟨ret_bool Fin.out, Be.out⟩
  · have e0 : ((n : Int) != (m : Int)) = true := by rw [bne_iff_ne]; omega
    have e1 : ((n : Int) == (m : Int)) = false := by rw [beq_eq_false_iff_ne]; omega
    have Fin : Hid (false = decide (xss = yss)) := Lib.hid (Eq.symm (decide_eq_false fun e2 => hnm (by rw [← HX.out.lx, ← HY.out.lx, e2])))
    go_enter Tryz.func22, Tryz.ntmps22
    go_wp2_with fail
    go_ret
    exact ⟨ret_bool Fin.out, Below.refl _ _⟩

set_option maxHeartbeats 4000000 in
set_option maxRecDepth 100000 in
/-- MinimalBlockSystems. -/
theorem specMsy (a : Int) (A : Option Addr) (n c : Nat) (vs : List SV) (xss : List (List Int)) (w : World) (g : GIn w A n vs xss) (ha : I64 a) :
    Calls Tryz.prog 7 #[.int .i64 a, .slice A n c] w fun e w' => ∃ A' m' c' us wss rg ls, e = .returned (.slice A' m' c') ∧ S3 w' w.heap.size A' m' c' us wss rg ls ∧ (∀ i, i < m' → (rg.getD i (0, 0)).2 ≤ w'.heap.size) ∧ IsMsy a xss ls ∧ Below w.heap.size w w' := by
  have HX := Lib.hid g.rr
  have hlx : Hid (xss.length = n) := Lib.hid g.rr.lx
  have hn := g.hn
  have hl := Lib.hid g.hl
  clear g
  have B0 : Hid (Below w.heap.size w (w.alloc (.cells #[] 24))) := Lib.hid ((Below.refl _ _).alloc (Nat.le_refl _) _)
  have S0 : Hid (S3 (w.alloc (.cells #[] 24)) w.heap.size (some ⟨w.heap.size, 0, none⟩) 0 0 [] [] [] []) := Lib.hid (S3.lit0 w _ (Nat.le_refl _))
  rcases hs : gB a xss with _ | _
  · have Fin : Hid (IsMsy a xss []) := Lib.hid (.inr ⟨hs, rfl⟩)
    have Hs := Lib.hid hs
    clear hs
    go_enter Tryz.func7, Tryz.ntmps7
    go_wp2_with fail
    go_loopw [5, 6] (fun v yv wr => v = .slice (some ⟨w.heap.size, 0, none⟩) 0 0 ∧ yv = .int .i64 1 ∧ wr = w.alloc (.cells #[] 24)) (fun _ _ _ => 0)
    case atStart => exact ⟨rfl, rfl, rfl⟩
    case round =>
      obtain ⟨rfl, rfl, rfl⟩ := hrel
      by_cases h1 : (1 : Int) < a
      · have d0 : decide ((1 : Int) < a) = true := decide_eq_true h1
        clear h1
        go_wp2_with (first
          | (go_at_call 20; refine (specGS a A n c vs xss _ (HX.out.up B0.out) hn hl ha).mono ?_; rintro e w1 ⟨rfl, b1⟩; rw [Hs.out]; have B1 : Hid (Below w.heap.size w w1) := Lib.hid (btr B0.out b1); have S1 := Lib.hid (S0.out.upB b1); clear b1)
          | go_in)
        go_ret
        exact ⟨_, _, _, _, _, _, _, rfl, S1.out, fun i h => absurd h (Nat.not_lt_zero _), Fin.out, B1.out⟩
      · have d0 : decide ((1 : Int) < a) = false := decide_eq_false h1
        clear h1
        go_wp2_with fail
        go_ret
        exact ⟨_, _, _, _, _, _, _, rfl, S0.out, fun i h => absurd h (Nat.not_lt_zero _), Fin.out, B0.out⟩
  · obtain ⟨N, rfl, hN1, hN2, hg8, hpm, hok⟩ := gB_pm hs
    have Hs := Lib.hid hs
    have Ok : Hid (∀ g ∈ xss, Pn N g) := Lib.hid hok
    have hn8 : n ≤ 8 := by rw [← hlx.out]; exact hg8
    obtain ⟨f, ef⟩ : ∃ f, mnS xss N = f := ⟨_, rfl⟩
    have Ef := Lib.hid ef
    have S1 : Hid (S3 (w.alloc (.cells #[] 24)) w.heap.size (some ⟨w.heap.size, 0, none⟩) 0 0 [] [] [] (sysL f 1)) := Lib.hid (by rw [sysL_start]; exact S0.out)
    clear hs hpm hok ef S0
    go_enter Tryz.func7, Tryz.ntmps7
    go_wp2_with fail
    go_loopw [5, 6] (fun v yv wr => ∃ (y k c' : Nat) (A' : Option Addr) (us : List SV) (wss : List (List SV)) (rg : List (Nat × Nat)), 1 ≤ y ∧ y ≤ N ∧ k ≤ 20 ∧ yv = .int .i64 (y : Nat) ∧ v = .slice A' k c' ∧ S3 wr w.heap.size A' k c' us wss rg (sysL f y) ∧ (∀ i, i < k → (rg.getD i (0, 0)).2 ≤ wr.heap.size) ∧ (∀ z, 1 ≤ z → z < y → ∃ r, LstM xss N 0 z r) ∧ Below w.heap.size w wr) (fun _ yv _ => N - (intOf yv).toNat)
    case atStart => exact ⟨1, 0, 0, _, [], [], [], Nat.le_refl _, hN1, by omega, rfl, rfl, S1.out, fun i h => absurd h (Nat.not_lt_zero _), fun z a b => absurd b (by omega), B0.out⟩
    case round =>
      clear S1 B0
      obtain ⟨y, k, c', A', us, wss, rg, hy1, hyN, hk20, rfl, rfl, h3, hrg, hex, bel⟩ := hrel
      have H3 := Lib.hid h3
      have Hrg := Lib.hid hrg
      have Hex := Lib.hid hex
      have Be := Lib.hid bel
      have hzr := bel.size
      clear h3 hrg hex bel
      by_cases hlt : y < N
      · have d0 : decide ((y : Int) < (N : Int)) = true := by simp; omega
        go_wp2_with (first
          | (go_at_call 20; refine (specGS N A n c vs xss wr (HX.out.up Be.out) hn hl ha).mono ?_; rintro e w1 ⟨rfl, b1⟩; rw [Hs.out]
             have Bg := Lib.hid b1
             clear b1)
          | (go_at_call 21; fail))
        have hzg := Bg.out.size
        have Bw1 : Hid (Below w.heap.size w w1) := Lib.hid (btr Be.out Bg.out)
        have K0 := specMinB N n c 0 y A vs xss w1 (HX.out.up Bw1.out) Ok hn8 hN1 hN2 (by omega) hlt
        refine Calls.mono (show Calls Tryz.prog 21 #[.int .i64 (N : Nat), .slice A n c, .int .i64 0, .int .i64 (y : Nat)] w1 _ from K0) ?_
        clear K0
        rintro e w2 ⟨A2, m2, c2, u2, r, rfl, hr, s2, b2⟩
        have efy : canon N r = f y := by rw [← Ef.out]; exact mnS_eq hr
        rw [efy] at s2
        have hpos : 1 ≤ m2 := by rw [← s2.lx, ← efy, canon_len]; exact cls_pos (x := 0) (by omega)
        have Hex2 : Hid (∀ z, 1 ≤ z → z < y + 1 → ∃ r, LstM xss N 0 z r) := Lib.hid fun z a b => by
          by_cases e : z = y
          · subst e; exact ⟨r, hr⟩
          · exact Hex.out z a (by omega)
        have hfl : (f y).length ≤ 20 ∧ ∀ p ∈ f y, p.length ≤ 20 := by rw [← efy]; exact prt_bound (canon_prt _ _) hN2
        have hm2 : m2 ≤ 20 := by rw [← s2.lx]; exact hfl.1
        have Lf : Hid ((f y).length = m2) := Lib.hid s2.lx
        have Hl2 : Hid (∀ i, i < m2 → ((f y).getD i []).length ≤ 1000) := Lib.hid fun i hi => by
          have := hfl.2 _ (getD_memL (show i < (f y).length by rw [s2.lx]; exact hi)); omega
        have hsl : ∀ p ∈ sysL f y, p.length ≤ 20 ∧ ∀ z ∈ p, z.length ≤ 20 := fun p hp => by
          obtain ⟨z, _, _, rfl, _⟩ := sysL_mem _ hp
          rw [← Ef.out]; exact prt_bound (canon_prt _ _) hN2
        have Hl1 : Hid (∀ i, i < k → ((sysL f y).getD i []).length ≤ 1000 ∧ ∀ t, t < ((sysL f y).getD i []).length → (((sysL f y).getD i []).getD t []).length ≤ 1000) := Lib.hid fun i hi => by
          have hm : (sysL f y).getD i [] ∈ sysL f y := by
            rw [List.getD_eq_getElem?_getD, List.getElem?_eq_getElem (by rw [H3.out.lx]; exact hi)]; exact List.getElem_mem _
          have h1 := hsl _ hm
          exact ⟨by omega, fun t ht => by have := h1.2 _ (getD_memL ht); omega⟩
        have S2 := Lib.hid s2
        have B2 : Hid (Below wr.heap.size wr w2) := Lib.hid (btr Bg.out b2)
        have hz2 := b2.size
        have U2 : Hid ((∀ k, (Value.slice A2 m2 c2).ownBlock = some k → k < w2.heap.size) ∧ ∀ t, t < m2 → ∀ k, (sval (u2.getD t sd0)).ownBlock = some k → k < w2.heap.size) := Lib.hid ⟨fun k e => (s2.lt_ k e).2, fun t ht k e => ((s2.row t ht).lt_ k e).2⟩
        obtain ⟨K0, eK0⟩ : ∃ b, ((m2 : Int) == 1) = b := ⟨_, rfl⟩
        have HK0 : Hid (((m2 : Int) == 1) = K0) := Lib.hid eK0
        have HrgL : Hid (∀ i, i < k → (rg.getD i (0, 0)).2 ≤ w1.heap.size) := Lib.hid fun i hi => Nat.le_trans (Hrg.out i hi) hzg
        have hOut : Hid (∀ q, (Value.slice A' k c').ownBlock = some q → q < w1.heap.size) := Lib.hid fun q hq => Nat.lt_of_lt_of_le (H3.out.lt_ q hq).2 hzg
        have KS : Hid (∀ W : World, Below w2.heap.size w2 W → S3 W w.heap.size A' k c' us wss rg (sysL f y) ∧ Below w.heap.size w W) := Lib.hid fun W hW => ⟨H3.out.upB (btr B2.out hW), btr Be.out (btr B2.out hW)⟩
        have hzw1 := Bw1.out.size
        clear s2 b2 hr efy hfl hsl
        go_wp2_with fail
        go_loopw [8, 9] (fun kv iv wr2 => ∃ (i : Nat) (b : Bool), i ≤ k ∧ iv = .int .i64 (i : Nat) ∧ kv = .bool b ∧ (b = true ↔ (m2 = 1 ∨ ∃ j, j < i ∧ (sysL f y).getD j [] = f y)) ∧ Below w2.heap.size w2 wr2) (fun _ iv _ => k - (intOf iv).toNat)
        case atStart => exact ⟨0, K0, Nat.zero_le _, rfl, rfl, by
          rw [← HK0.out, beq_iff_eq]
          constructor
          · intro h; exact .inl (by omega)
          · rintro (h | ⟨j, hj, _⟩)
            · omega
            · omega, Below.refl _ _⟩
        case round =>
          clear eK0 HK0
          obtain ⟨i, b, hi, rfl, rfl, hb, bel⟩ := hrel
          have Hb := Lib.hid hb
          have Bi := Lib.hid bel
          obtain ⟨hS3, hBw⟩ := KS.out _ bel
          have H5 := Lib.hid hS3
          have Bw := Lib.hid hBw
          have S5 := Lib.hid (S2.out.up bel)
          have hz5 := bel.size
          clear hb bel hS3 hBw
          by_cases hlt2 : i < k
          · obtain ⟨b5, o5, A5, l, c5, u5, y5, rfl, hb5, ev, ey, x1, r1⟩ := H5.out.rr.at_ hlt2
            have q0 : (0 : Int) ≤ i := by omega
            have q1 : (i : Int) < k := by omega
            have R1 := Lib.hid r1
            have Ey := Lib.hid ey
            have h1 := Hl1.out i hlt2
            rw [ey, r1.lx] at h1
            have hl5 := h1.1
            have Hl5 : Hid (∀ t, t < l → (y5.getD t []).length ≤ 1000) := Lib.hid h1.2
            clear ev ey r1 hb5 h1
            rcases b with _ | _
            · by_cases e : y5 = f y
              · have Hb2 : Hid ((true : Bool) = true ↔ (m2 = 1 ∨ ∃ j, j < i + 1 ∧ (sysL f y).getD j [] = f y)) := Lib.hid ⟨fun _ => .inr ⟨i, by omega, by rw [Ey.out, e]⟩, fun _ => rfl⟩
                have d1 : Hid (decide (y5 = f y) = true) := Lib.hid (decide_eq_true e)
                have Hb3 : Hid (m2 = 1 ∨ ∃ j, j < i + 1 ∧ (sysL f y).getD j [] = f y) := Lib.hid (.inr ⟨i, by omega, by rw [Ey.out, e]⟩)
                clear e Hb2
                go_wp2_with (go_at_call 22; fail)
                refine (specEqP A5 A2 l c5 m2 c2 u5 u2 y5 (f y) wr R1.out S5.out.rr (by omega) (by omega) Hl5 Hl2).mono ?_
                rintro e w6 ⟨rfl, b6⟩
                rw [d1.out]
                have B6 : Hid (Below w2.heap.size w2 w6) := Lib.hid (btr Bi.out b6)
                clear b6
                go_wp2_with fail
                go_roundw
                case rel => exact ⟨i + 1, true, by omega, by go_num, rfl, ⟨fun _ => Hb3.out, fun _ => rfl⟩, B6.out⟩
                case measure => simp [intOf]; omega
              · have d1 : Hid (decide (y5 = f y) = false) := Lib.hid (decide_eq_false e)
                have Hb3 : Hid (¬ (m2 = 1 ∨ ∃ j, j < i + 1 ∧ (sysL f y).getD j [] = f y)) := Lib.hid fun h => by
                  rcases h with h | ⟨j, hj, ej⟩
                  · have := Hb.out.2 (.inl h); cases this
                  · by_cases e2 : j = i
                    · subst e2; exact e (by rw [← Ey.out]; exact ej)
                    · have := Hb.out.2 (.inr ⟨j, by omega, ej⟩); cases this
                clear e
                go_wp2_with (go_at_call 22; fail)
                refine (specEqP A5 A2 l c5 m2 c2 u5 u2 y5 (f y) wr R1.out S5.out.rr (by omega) (by omega) Hl5 Hl2).mono ?_
                rintro e w6 ⟨rfl, b6⟩
                rw [d1.out]
                have B6 : Hid (Below w2.heap.size w2 w6) := Lib.hid (btr Bi.out b6)
                clear b6
                go_wp2_with fail
                go_roundw
                case rel => exact ⟨i + 1, false, by omega, by go_num, rfl, ⟨fun h => (by cases h), fun h => absurd h Hb3.out⟩, B6.out⟩
                case measure => simp [intOf]; omega
            · have Hb3 : Hid (m2 = 1 ∨ ∃ j, j < i + 1 ∧ (sysL f y).getD j [] = f y) := Lib.hid ((Hb.out.1 rfl).imp id fun ⟨j, hj, ej⟩ => ⟨j, by omega, ej⟩)
              go_wp2_with fail
              go_roundw
              case rel => exact ⟨i + 1, true, by omega, by go_num, rfl, ⟨fun _ => Hb3.out, fun _ => rfl⟩, Bi.out⟩
              case measure => simp [intOf]; omega
          · obtain rfl : i = k := by omega
            have Mem : Hid (f y ∈ sysL f y ↔ ∃ j, j < i ∧ (sysL f y).getD j [] = f y) := Lib.hid (by
              constructor
              · intro h
                obtain ⟨j, hj, e⟩ := List.mem_iff_getElem.1 h
                exact ⟨j, by rw [← H5.out.lx]; exact hj, by rw [List.getD_eq_getElem?_getD, List.getElem?_eq_getElem hj, e]; rfl⟩
              · rintro ⟨j, hj, e⟩
                rw [← e, List.getD_eq_getElem?_getD, List.getElem?_eq_getElem (by rw [H5.out.lx]; exact hj)]
                exact List.getElem_mem _)
            have Hrg5 : Hid (∀ j, j < i → (rg.getD j (0, 0)).2 ≤ wr.heap.size) := Lib.hid fun j hj => Nat.le_trans (HrgL.out j hj) (by omega)
            rcases b with _ | _
            · have hno : ¬ (m2 = 1 ∨ ∃ j, j < i ∧ (sysL f y).getD j [] = f y) := fun h => by have := Hb.out.2 h; cases this
              have Nx : Hid (sysL f (y + 1) = sysL f y ++ [f y]) := Lib.hid (sysL_yes hy1 (by rw [Lf.out]; have : m2 ≠ 1 := fun e => hno (.inl e); omega) (fun h => hno (.inr (Mem.out.1 h))))
              have hk19 : i + 1 ≤ 20 := by
                have h5 := sysL_len (f := f) (y + 1)
                rw [Nx.out, List.length_append, H5.out.lx] at h5
                simp at h5
                omega
              clear hno
              go_wp2_with (first | (at_builtin; go_must (refine wpList_app3_ rfl _ _ rfl rfl (H5.out.alloc _) wr.heap.size A2 m2 c2 w1.heap.size w2.heap.size u2 (f y) rfl (by rw [World.cell?_alloc_at _ _ _ _ rfl]; rfl) (S5.out.alloc _) U2.out.1 U2.out.2 hzw1 ⟨hz2, by simp; omega⟩ HrgL.out hOut.out (fun j hj => Nat.le_trans (Hrg5.out j hj) (by simp)) (by omega) ?_); intro A9 c9 w9 s9 g9) | go_in)
              have H9 : Hid (S3 w9 w.heap.size A9 (i + 1) c9 (us ++ [(A2, m2, c2)]) (wss ++ [u2]) (rg ++ [(w1.heap.size, w2.heap.size)]) (sysL f (y + 1))) := Lib.hid (by rw [Nx.out]; exact s9)
              have B9 : Hid (Below w.heap.size w w9) := Lib.hid ((Bw.out.alloc Bw.out.size _).grown g9 (by have := Bw.out.size; simp; omega) (fun q hq => (H5.out.lt_ q hq).1))
              have hz9 : wr.heap.size ≤ w9.heap.size := by have := g9.size; simp at this; omega
              have Hrg9 : Hid (∀ j, j < i + 1 → ((rg ++ [(w1.heap.size, w2.heap.size)]).getD j (0, 0)).2 ≤ w9.heap.size) := Lib.hid fun j hj => by
                by_cases e : j < i
                · rw [getD_app rg _ _ _ (by rw [H5.out.lg]; exact e)]; exact Nat.le_trans (Hrg5.out j e) hz9
                · obtain rfl : j = i := by omega
                  rw [getD_snoc rg _ _ _ H5.out.lg.symm]; show w2.heap.size ≤ _; omega
              clear s9 g9
              go_wp2_with fail
              go_roundw
              case rel => exact ⟨y + 1, i + 1, c9, A9, _, _, _, by omega, by omega, hk19, by go_num, rfl, H9.out, Hrg9.out, Hex2.out, B9.out⟩
              case measure => simp [intOf]; omega
            · have Nx : Hid (sysL f (y + 1) = sysL f y) := Lib.hid (by
                rcases Hb.out.1 rfl with h | h
                · exact sysL_one (by rw [Lf.out]; omega)
                · exact sysL_old (Mem.out.2 h))
              go_wp2_with fail
              go_roundw
              case rel => exact ⟨y + 1, i, c', A', us, wss, rg, by omega, by omega, hk20, by go_num, rfl, by rw [Nx.out]; exact H5.out, Hrg5.out, Hex2.out, Bw.out⟩
              case measure => simp [intOf]; omega
      · obtain rfl : y = N := by omega
        have d0 : decide ((y : Int) < (y : Int)) = false := by simp
        have Fin : Hid (IsMsy y xss (sysL f y)) := Lib.hid (.inl ⟨Hs.out, fun z a b => Hex.out z a (by rwa [Int.toNat_natCast] at b), by rw [Int.toNat_natCast, Ef.out]⟩)
        go_wp2_with fail
        go_ret
        exact ⟨_, _, _, us, wss, rg, _, rfl, H3.out, Hrg.out, Fin.out, Be.out⟩
end Go.Proofs.YtedfcljikgmpgaaGreat

/- A map of rows, each under its first number; sets gathers such a map. Conditions: at most 20 points. -/
namespace Go.Proofs.YtedfcljikgmpgaaGreat
open Go.RowKit

/-- An element of the map reads as itself. -/
def Rx (v : Value) : Option (DataW Value × List MemPlace) := some (.held v, [])
/-- The first number. -/
def hdN (p : List Int) : Nat := (p.getD 0 0).toNat
/-- Rows that are not empty, with first numbers below N, no two alike. -/
structure Rws (N : Nat) (S : List Int → Prop) : Prop where
  ne : ∀ p, S p → p ≠ []
  lo : ∀ p, S p → 0 ≤ p.getD 0 0
  hi : ∀ p, S p → p.getD 0 0 < N
  len : ∀ p, S p → p.length ≤ N
  inj : ∀ p q, S p → S q → p.getD 0 0 = q.getD 0 0 → p = q
/-- Block b is a map of the rows that S tells of, each under its first number. -/
structure GM (w : World) (bs b N : Nat) (S : List Int → Prop) (D : DataW Value) : Prop where
  own : w.ownsMap Tryz.prog 2 Rx b (Maps.size D) D
  rs : Rws N S
  has : ∀ p, S p → Maps.has D (kI (hdN p)) = true
  key : ∀ kl, Maps.has D kl = true → ∃ p, S p ∧ kl = kI (hdN p)
  row : ∀ p, S p → ∃ (A : Option Addr) (cp : Nat), (∀ zd, D.atKey (kI (hdN p)) zd = .held (.slice A p.length cp)) ∧ Slc w bs A p.length cp p
theorem Rws.hdN {N : Nat} {S : List Int → Prop} (h : Rws N S) {p : List Int} (hp : S p) : hdN p < N ∧ (hdN p : Int) = p.getD 0 0 := by
  have h1 := h.lo p hp
  have h2 := h.hi p hp
  unfold Proofs.YtedfcljikgmpgaaGreat.hdN
  omega
theorem Rws.hinj {N : Nat} {S : List Int → Prop} (h : Rws N S) {p q : List Int} (hp : S p) (hq : S q) (e : Proofs.YtedfcljikgmpgaaGreat.hdN p = Proofs.YtedfcljikgmpgaaGreat.hdN q) : p = q :=
  h.inj p q hp hq (by rw [← (h.hdN hp).2, ← (h.hdN hq).2, e])
theorem Rws.pos {N : Nat} {S : List Int → Prop} (h : Rws N S) {p : List Int} (hp : S p) : 1 ≤ p.length := List.length_pos_iff.2 (h.ne p hp)
/-- Two rows in one block begin alike. -/
theorem slc_hd {w : World} {bs n n' c c' : Nat} {A A' : Option Addr} {p q : List Int} (hp : Slc w bs A n c p) (hq : Slc w bs A' n' c' q) (np : 1 ≤ p.length) (nq : 1 ≤ q.length) (e : (Value.slice A n c).ownBlock = (Value.slice A' n' c').ownBlock) : p.getD 0 0 = q.getD 0 0 := by
  rcases hp.at_ with ⟨_, e0, _⟩ | ⟨g, rfl, _⟩
  · rw [e0] at np; simp at np
  · rcases hq.at_ with ⟨_, e0, _⟩ | ⟨g', rfl, _⟩
    · rw [e0] at nq; simp at nq
    · have e1 : g = g' := by
        have e2 : (some g : Option Nat) = some g' := e
        injection e2
      subst e1
      obtain ⟨b, off, e2, _, h1⟩ := hp.ri_ np
      obtain ⟨b', off', e3, _, h2⟩ := hq.ri_ nq
      injection e2 with e2; injection e2 with e4 e5
      injection e3 with e3; injection e3 with e6 e7
      subst e4 e5 e6 e7
      have := (h1 0 np).symm.trans (h2 0 nq)
      injection this with this
      injection this
theorem slc_blk {w : World} {bs k n cp : Nat} {A : Option Addr} {p : List Int} (hs : Slc w bs A n cp p) (hb : ∀ cs t fr, w.heap[k]? ≠ some (.cells cs t fr)) : (Value.slice A n cp).ownBlock ≠ some k := by
  rcases hs.2.2 with ⟨e, _⟩ | ⟨g, cap, cur, e, _, hg, _⟩
  · rw [e]; exact fun h => by cases h
  · rw [e]
    intro h
    have h2 : g = k := by injection h
    rw [h2] at hg
    exact hb _ _ _ hg

section
variable {w w' w1 w2 : World} {bs b N : Nat} {S : List Int → Prop} {D : DataW Value}
theorem GM.lt (h : GM w bs b N S D) : b < w.heap.size := h.own.lt
theorem GM.size (h : GM w bs b N S D) : Maps.size D ≤ N := by
  have := sizeI_le h.own ((List.range N).map kI) fun kl hk => by
    obtain ⟨p, hp, rfl⟩ := h.key kl hk
    exact List.mem_map.2 ⟨hdN p, List.mem_range.2 (h.rs.hdN hp).1, rfl⟩
  simpa using this
theorem GM.noCells (h : GM w bs b N S D) : ∀ cs t fr, w.heap[b]? ≠ some (.cells cs t fr) := by
  obtain ⟨es, clock, hb, _⟩ := h.own
  intro cs t fr e
  rw [hb] at e
  cases e
theorem GM.kept (h : GM w bs b N S D) {row : Option Nat} (hg : w.grownBy w' row) (hne : some b ≠ row) (hr : ∀ A n cp p, Slc w bs A n cp p → (Value.slice A n cp).ownBlock = none ∨ (Value.slice A n cp).ownBlock ≠ row) : GM w' bs b N S D :=
  ⟨h.own.kept hg hne, h.rs, h.has, h.key, fun p hp => by
    obtain ⟨A, cp, h1, h2⟩ := h.row p hp
    exact ⟨A, cp, h1, h2.kept hg (hr A _ cp p h2)⟩⟩
theorem GM.gro0 (h : GM w bs b N S D) (hg : w.grownBy w' none) : GM w' bs b N S D :=
  h.kept hg (by simp) fun A n cp p hs => by
    cases hq : (Value.slice A n cp).ownBlock with
    | none => exact .inl rfl
    | some k => exact .inr (by simp)
theorem GM.up (h : GM w bs b N S D) (hb : Below w.heap.size w w') : GM w' bs b N S D := h.gro0 (grown_ofBelow hb)
theorem GM.mono (h : GM w bs b N S D) {bs' : Nat} (hb : bs' ≤ bs) : GM w bs' b N S D :=
  ⟨h.own, h.rs, h.has, h.key, fun p hp => by
    obtain ⟨A, cp, h1, h2⟩ := h.row p hp
    exact ⟨A, cp, h1, h2.mono hb⟩⟩
theorem GM.ext {S' : List Int → Prop} (h : GM w bs b N S D) (hS : ∀ p, S p ↔ S' p) : GM w bs b N S' D := by
  obtain rfl : S = S' := funext fun p => propext (hS p)
  exact h
theorem GM.made (w : World) (bs N : Nat) : GM (w.alloc (.map #[] 0)) bs w.heap.size N (fun _ => False) (.map []) :=
  ⟨World.ownsMap_made _ _ _ _, ⟨fun _ h => h.elim, fun _ h => h.elim, fun _ h => h.elim, fun _ h => h.elim, fun _ _ h => h.elim⟩, fun _ (h : False) => h.elim, fun _ h => (by cases h), fun _ (h : False) => h.elim⟩
/-- One more number behind row p. -/
theorem GM.more (h : GM w bs b N S D) (hN : N ≤ 20) {p : List Int} {x : Int} {A A' : Option Addr} {cp c' n : Nat} (hp : S p) (hl : p.length < N) (hA : ∀ zd, D.atKey (kI (hdN p)) zd = .held (.slice A p.length cp)) (hsp : Slc w bs A p.length cp p) (hs : Slc w1 bs A' (p.length + 1) c' (p ++ [x]))
    (hg1 : w.grownBy w1 (Value.slice A p.length cp).ownBlock) (hg2 : w1.grownBy w2 (some b)) (ho : w2.ownsMap Tryz.prog 2 Rx b n (D.put (kI (hdN p)) (.held (.slice A' (p.length + 1) c')))) :
    GM w2 bs b N (fun q => (S q ∧ q ≠ p) ∨ q = p ++ [x]) (D.put (kI (hdN p)) (.held (.slice A' (p.length + 1) c'))) := by
  have hM := h.own.isMap
  have hk := kI_key (x := hdN p) (by have := (h.rs.hdN hp).1; omega)
  have hp1 := h.rs.pos hp
  have e0 : (p ++ [x]).getD 0 0 = p.getD 0 0 := getD_app _ _ _ _ hp1
  have eh : hdN (p ++ [x]) = hdN p := by unfold hdN; rw [e0]
  have hb1 : ∀ cs t fr, w1.heap[b]? ≠ some (.cells cs t fr) := fun cs t fr e => by
    have hne : some b ≠ (Value.slice A p.length cp).ownBlock := fun e2 => slc_blk hsp h.noCells e2.symm
    rw [hg1.block b h.lt hne] at e
    exact h.noCells _ _ _ e
  have hlen : (p ++ [x]).length = p.length + 1 := by simp
  refine ⟨ownsMap_tightI ho, ⟨fun q hq => ?_, fun q hq => ?_, fun q hq => ?_, fun q hq => ?_, fun q q' hq hq' e => ?_⟩, fun q hq => ?_, fun kl hkl => ?_, fun q hq => ?_⟩
  · rcases hq with hq | rfl
    · exact h.rs.ne q hq.1
    · simp
  · rcases hq with hq | rfl
    · exact h.rs.lo q hq.1
    · rw [e0]; exact h.rs.lo p hp
  · rcases hq with hq | rfl
    · exact h.rs.hi q hq.1
    · rw [e0]; exact h.rs.hi p hp
  · rcases hq with hq | rfl
    · exact h.rs.len q hq.1
    · rw [hlen]; omega
  · rcases hq with hq | rfl <;> rcases hq' with hq' | rfl
    · exact h.rs.inj q q' hq.1 hq'.1 e
    · rw [e0] at e; exact absurd (h.rs.inj q p hq.1 hp e) hq.2
    · rw [e0] at e; exact absurd (h.rs.inj p q' hp hq'.1 e).symm hq'.2
    · rfl
  · rcases hq with hq | rfl
    · rw [Maps.has_put_other (fun he => hq.2 (h.rs.hinj hq.1 hp (kI_inj he)))]; exact h.has q hq.1
    · rw [eh]; exact Maps.has_put_same hM hk _
  · by_cases e : kl = kI (hdN p)
    · exact ⟨p ++ [x], .inr rfl, by rw [eh]; exact e⟩
    · rw [Maps.has_put_other e] at hkl
      obtain ⟨q, hq, rfl⟩ := h.key kl hkl
      exact ⟨q, .inl ⟨hq, fun e2 => e (by rw [e2])⟩, rfl⟩
  · rcases hq with hq | rfl
    · obtain ⟨Aq, cq, h1, h2⟩ := h.row q hq.1
      have hne : (Value.slice Aq q.length cq).ownBlock ≠ (Value.slice A p.length cp).ownBlock := fun e => hq.2 (h.rs.inj q p hq.1 hp (slc_hd h2 hsp (h.rs.pos hq.1) hp1 e))
      have h3 := h2.kept hg1 (.inr hne)
      refine ⟨Aq, cq, fun zd => ?_, h3.kept hg2 (.inr (slc_blk h3 hb1))⟩
      rw [Maps.atKey_put_other (fun he => hq.2 (h.rs.hinj hq.1 hp (kI_inj he)))]; exact h1 zd
    · refine ⟨A', c', fun zd => ?_, ?_⟩
      · rw [eh, hlen]; exact Maps.atKey_put_same hM hk _ zd
      · rw [hlen]; exact hs.kept hg2 (.inr (slc_blk hs hb1))
/-- A new row. -/
theorem GM.fresh (h : GM w bs b N S D) (hN : N ≤ 20) {x : Nat} {A' : Option Addr} {c' n : Nat} (hx : x < N) (hn : ∀ q, S q → hdN q ≠ x) (hs : Slc w1 bs A' 1 c' [(x : Int)])
    (hg1 : w.grownBy w1 none) (hg2 : w1.grownBy w2 (some b)) (ho : w2.ownsMap Tryz.prog 2 Rx b n (D.put (kI x) (.held (.slice A' 1 c')))) :
    GM w2 bs b N (fun q => S q ∨ q = [(x : Int)]) (D.put (kI x) (.held (.slice A' 1 c'))) := by
  have hM := h.own.isMap
  have hk := kI_key (x := x) (by omega)
  have eh : hdN [(x : Int)] = x := by unfold hdN; simp
  have hb1 : ∀ cs t fr, w1.heap[b]? ≠ some (.cells cs t fr) := fun cs t fr e => by
    rw [hg1.block b h.lt (by simp)] at e
    exact h.noCells _ _ _ e
  refine ⟨ownsMap_tightI ho, ⟨fun q hq => ?_, fun q hq => ?_, fun q hq => ?_, fun q hq => ?_, fun q q' hq hq' e => ?_⟩, fun q hq => ?_, fun kl hkl => ?_, fun q hq => ?_⟩
  · rcases hq with hq | rfl
    · exact h.rs.ne q hq
    · simp
  · rcases hq with hq | rfl
    · exact h.rs.lo q hq
    · simp
  · rcases hq with hq | rfl
    · exact h.rs.hi q hq
    · simp; omega
  · rcases hq with hq | rfl
    · exact h.rs.len q hq
    · simp; omega
  · rcases hq with hq | rfl <;> rcases hq' with hq' | rfl
    · exact h.rs.inj q q' hq hq' e
    · exact absurd (by unfold hdN; rw [e]; simp) (hn q hq)
    · exact absurd (by unfold hdN; rw [← e]; simp) (hn q' hq')
    · rfl
  · rcases hq with hq | rfl
    · rw [Maps.has_put_other (fun he => hn q hq (kI_inj he))]; exact h.has q hq
    · rw [eh]; exact Maps.has_put_same hM hk _
  · by_cases e : kl = kI x
    · exact ⟨[(x : Int)], .inr rfl, by rw [eh]; exact e⟩
    · rw [Maps.has_put_other e] at hkl
      obtain ⟨q, hq, rfl⟩ := h.key kl hkl
      exact ⟨q, .inl hq, rfl⟩
  · rcases hq with hq | rfl
    · obtain ⟨Aq, cq, h1, h2⟩ := h.row q hq
      have h3 := h2.kept hg1 (by
        cases hq' : (Value.slice Aq q.length cq).ownBlock with
        | none => exact .inl rfl
        | some k => exact .inr (by simp))
      refine ⟨Aq, cq, fun zd => ?_, h3.kept hg2 (.inr (slc_blk h3 hb1))⟩
      rw [Maps.atKey_put_other (fun he => hn q hq (kI_inj he))]; exact h1 zd
    · refine ⟨A', c', fun zd => ?_, hs.kept hg2 (.inr (slc_blk hs hb1))⟩
      rw [eh]; exact Maps.atKey_put_same hM hk _ zd

/-- The look-up of a row. -/
theorem wpList_gmLook {ops : Array Oper} {rest : List Oper} {o : Oper} {a : Act} {Q : Exit → Act → World → Prop} (hgd : o.guard = none) (m x : Operand) (ho : o.op = .lookup 70 m x false) (h : GM w bs b N S D)
    (hm : a.eval m = .map (some b)) (X : Nat) (hx : a.eval x = .int .i64 (X : Int)) (hX : X < N) (hN : N ≤ 20) (v : Value) (hv : D.atKey (kI X) (.held (.slice none 0 0)) = .held v) (hK : wpList Tryz.prog ops Q rest (a.put o.dst v) w) : wpList Tryz.prog ops Q (o :: rest) a w := by
  refine wpList_plain hgd fun K' hK' => ?_
  obtain ⟨v', ps, hrun, hv'⟩ := h.own.lookup lawI Tryz.underlying70 (Tryz.zeroValue37 w) (zd := .held (.slice none 0 0)) (zp := []) rfl (keyOf_I (x := X) (by omega))
  rw [hv] at hv'
  have e : v' = v := DataW.held.inj (congrArg Prod.fst (Option.some.inj hv'))
  rw [e] at hrun
  clear hv' e
  unfold Oper.wp
  simp only [execOp, ho, hm, hx, hrun, Sem.run_bind, Sem.run_pure, Result.andThen]
  exact hK' _ _ hK
end

/-! ### the sets, gathered -/
/-- The rows behind the points below t. -/
def Gth (N : Nat) (f : Nat → Option Nat) (t : Nat) (p : List Int) : Prop := ∃ l, l < N ∧ f l = none ∧ p = ptsL (fun y => decide (rt f y = l)) t ∧ p ≠ []
section
variable {N t : Nat} {f : Nat → Option Nat}
theorem gth_zero (p : List Int) : ¬ Gth N f 0 p := fun ⟨l, _, _, e, hn⟩ => hn (by rw [e]; rfl)
theorem gth_mem {l : Nat} {x : Int} : x ∈ ptsL (fun y => decide (rt f y = l)) t ↔ ∃ y : Nat, y < t ∧ x = (y : Int) ∧ rt f y = l := by
  rw [mem_ptsL]; simp
theorem gth_hd (h : Lnk N f) {l : Nat} (fl : f l = none) (hn : ptsL (fun y => decide (rt f y = l)) t ≠ []) : l < t ∧ (ptsL (fun y => decide (rt f y = l)) t).getD 0 0 = (l : Int) := by
  obtain ⟨x, hx⟩ := List.exists_mem_of_ne_nil _ hn
  obtain ⟨y, hy, rfl, e⟩ := gth_mem.1 hx
  have h1 := rt_le h y
  have hlt : l < t := by omega
  refine ⟨hlt, hd_sorted (ptsL_sorted _ _) (gth_mem.2 ⟨l, hlt, rfl, rt_none fl⟩) fun z hz => ?_⟩
  obtain ⟨y', _, rfl, e'⟩ := gth_mem.1 hz
  have := rt_le h y'
  omega
theorem gth_yes {l : Nat} (e : rt f t = l) : ptsL (fun y => decide (rt f y = l)) (t + 1) = ptsL (fun y => decide (rt f y = l)) t ++ [(t : Int)] := ptsL_yes (by simpa using e)
theorem gth_no {l : Nat} (e : rt f t ≠ l) : ptsL (fun y => decide (rt f y = l)) (t + 1) = ptsL (fun y => decide (rt f y = l)) t := ptsL_no (by simpa using e)
theorem gth_more (h : Lnk N f) (ht : t < N) (hn : ptsL (fun y => decide (rt f y = rt f t)) t ≠ []) (p : List Int) :
    ((Gth N f t p ∧ p ≠ ptsL (fun y => decide (rt f y = rt f t)) t) ∨ p = ptsL (fun y => decide (rt f y = rt f t)) t ++ [(t : Int)]) ↔ Gth N f (t + 1) p := by
  have hr := rt_root h t
  have hl := rt_le h t
  constructor
  · rintro (⟨⟨l, h1, h2, rfl, h4⟩, hne⟩ | rfl)
    · have hl' : rt f t ≠ l := fun e => hne (by rw [e])
      exact ⟨l, h1, h2, (gth_no hl').symm, h4⟩
    · exact ⟨rt f t, by omega, hr, (gth_yes rfl).symm, by simp⟩
  · rintro ⟨l, h1, h2, rfl, h4⟩
    by_cases e : rt f t = l
    · subst e
      exact .inr (gth_yes rfl)
    · rw [gth_no e] at h4 ⊢
      refine .inl ⟨⟨l, h1, h2, rfl, h4⟩, fun e2 => e ?_⟩
      have a1 := (gth_hd h h2 h4).2
      have a2 := (gth_hd h hr hn).2
      rw [e2] at a1
      omega
theorem gth_new (h : Lnk N f) (ht : t < N) (hn : ptsL (fun y => decide (rt f y = rt f t)) t = []) : rt f t = t ∧ ∀ p, (Gth N f t p ∨ p = [(t : Int)]) ↔ Gth N f (t + 1) p := by
  have hr := rt_root h t
  have hl := rt_le h t
  have e0 : rt f t = t := by
    refine Classical.byContradiction fun hne => ?_
    have : (rt f t : Int) ∈ ptsL (fun y => decide (rt f y = rt f t)) t := gth_mem.2 ⟨rt f t, by omega, rfl, rt_rt h t⟩
    rw [hn] at this; cases this
  refine ⟨e0, fun p => ?_⟩
  constructor
  · rintro (⟨l, h1, h2, rfl, h4⟩ | rfl)
    · have hl' : rt f t ≠ l := fun e => by
        rw [← e, hn] at h4; exact h4 rfl
      exact ⟨l, h1, h2, (gth_no hl').symm, h4⟩
    · exact ⟨rt f t, by omega, hr, by rw [gth_yes rfl, hn]; rfl, by simp⟩
  · rintro ⟨l, h1, h2, rfl, h4⟩
    by_cases e : rt f t = l
    · subst e
      exact .inr (by rw [gth_yes rfl, hn]; rfl)
    · rw [gth_no e] at h4 ⊢
      exact .inl ⟨l, h1, h2, rfl, h4⟩
theorem gth_all (h : Lnk N f) (p : List Int) : Gth N f N p ↔ p ∈ canon N (rt f) := by
  rw [mem_canon]
  constructor
  · rintro ⟨l, h1, h2, rfl, h4⟩
    exact ⟨l, h1, (rt_fst h).2 h2, by unfold blkL; rw [rt_none h2]⟩
  · rintro ⟨l, h1, h2, rfl⟩
    have h3 := (rt_fst h).1 h2
    refine ⟨l, h1, h3, by unfold blkL; rw [rt_none h3], fun e => ?_⟩
    have : (l : Int) ∈ blkL (rt f) N l := mem_blkL.2 ⟨l, h1, rfl, rfl⟩
    rw [e] at this; cases this
end
end Go.Proofs.YtedfcljikgmpgaaGreat

/- The values of a map of rows, collected: a range over the iterator that maps.Values makes. Conditions: at most 20 points. -/
namespace Go.Proofs.YtedfcljikgmpgaaGreat
open Go.RowKit
open Go.WideElems (rg_of rd_key)
attribute [local go_sem] Oper.semAt_some

theorem nodup_snocI {α : Type} {xs : List α} {x : α} (h : xs.Nodup) (hx : x ∉ xs) : (xs ++ [x]).Nodup := by
  rw [List.nodup_append]
  exact ⟨h, (by simp), fun a ha b hb => by rw [List.mem_singleton.1 hb]; rintro rfl; exact hx ha⟩
theorem Rws.few {N : Nat} {S : List Int → Prop} (h : Rws N S) {xs : List (List Int)} (hd : xs.Nodup) (hm : ∀ p, p ∈ xs → S p) : xs.length ≤ N := by
  have hn : (xs.map Proofs.YtedfcljikgmpgaaGreat.hdN).Nodup := by
    rw [List.Nodup, List.pairwise_map]
    exact List.Pairwise.imp_of_mem (fun {a b} ha hb hab e => hab (h.hinj (hm a ha) (hm b hb) e)) hd
  have := ndlen N _ hn fun y hy => by
    obtain ⟨p, hp, rfl⟩ := List.mem_map.1 hy
    exact (h.hdN (hm p hp)).1
  rw [List.length_map] at this
  exact this
theorem left_ofI {w : World} {b r n : Nat} {D : DataW Value} {left : Lit → Bool} {cnt : Nat} {kl : Lit} (h : w.ranges Tryz.prog 2 Rx b r n D left cnt) (hl : left kl = true) : Maps.has D kl = true := by
  obtain ⟨es, clock, since, seen, c0, _, F, _, rfl, _, _, _, _, hk, _⟩ := h
  obtain ⟨x, hx, rfl⟩ := hk kl hl
  obtain ⟨y, hy⟩ := F.reads x hx
  refine hasI_mem (mem_sorted.2 (List.mem_map.2 ⟨x, hx, rfl⟩)) ?_
  rw [rg_of hy]
  exact lawI.key (rd_key hy)
/-- What a round over a map of rows brings: a row. -/
theorem GM.entry {w : World} {bs b N : Nat} {S : List Int → Prop} {D y : DataW Value} {key v : Value} {kl : Lit} {ps : List MemPlace} (h : GM w bs b N S D) (hN : N ≤ 20) (hd : Maps.has D kl = true) (hkey : keyOf Tryz.prog 2 key = some kl)
    (hv : Rx v = some (y, ps)) (hat : ∀ zd, D.atKey kl zd = y) : ∃ (p : List Int) (A : Option Addr) (cp : Nat), S p ∧ kl = kI (hdN p) ∧ key = .int .i64 (hdN p : Nat) ∧ v = .slice A p.length cp ∧ Slc w bs A p.length cp p := by
  obtain ⟨p, hp, rfl⟩ := h.key kl hd
  obtain ⟨A, cp, hat2, hs⟩ := h.row p hp
  have e2 := (hat .nil).symm.trans (hat2 .nil)
  have e3 : (DataW.held v : DataW Value) = .held (.slice A p.length cp) := by rw [← e2]; exact congrArg Prod.fst (Option.some.inj hv)
  exact ⟨p, A, cp, hp, rfl, lawI.inj hkey (keyOf_I (by have := (h.rs.hdN hp).1; omega)), DataW.held.inj e3, hs⟩

/-- WHAT THE ITERATOR PROMISES: called at the yield of whatever loop, in a world W that begins as w0, it makes block W.heap.size its own and hands the rounds the rows of S, each once, in whatever order; between the rounds it turns that block alone; a round keeps the blocks of w0 and that block. -/
def ItsV (gf : Nat) (lb : Array Value) (w0 : World) (bi : Nat) (S : List Int → Prop) : Prop :=
  ∀ (l : Nat) (J : List (List Int) → World → Prop) (W : World), (∀ k, k < w0.heap.size → W.heap[k]? = w0.heap[k]?) → w0.heap.size ≤ W.heap.size →
    (∀ xs A C, J xs A → A.grownBy C (some W.heap.size) → J xs C) →
    (∀ xs Ap c p W1 W2, J xs W1 → S p → p ∉ xs → W.heap.size < W1.heap.size → W1.grownBy W2 (some W.heap.size) → Slc w0 bi Ap p.length c p →
      YieldAt Fence.wide 4 Tryz.prog l #[.slice Ap p.length c] W2 fun e W' => e = .returned (.bool true) ∧ J (xs ++ [p]) W' ∧ (∀ k, (k < w0.heap.size ∨ k = W.heap.size) → W'.heap[k]? = W2.heap[k]?) ∧ W2.heap.size ≤ W'.heap.size) →
    J [] W →
    CallsIn Fence.wide 5 Tryz.prog gf (#[.func (.yield l) #[] #[]] ++ lb) W fun e W' => (∃ v, e = .returned v) ∧ ∃ xs : List (List Int), xs.Nodup ∧ (∀ p, p ∈ xs ↔ S p) ∧ J xs W'

set_option maxHeartbeats 1000000 in
/-- A RANGE OVER IT, whose body always goes on. -/
theorem rangeV {g : Operand} {p : Tmp} {assign body : Code} {Q : Exit → Act → World → Prop} {a : Act} {w w0 : World} {gf : Nat} {lb : Array Value} {bi : Nat} {S : List Int → Prop}
    (hg : a.eval g = .func (.func gf) #[] lb) (eg : ∀ args w, (callFunc gf args).run Tryz.prog w = .ok (.enter gf args) w)
    (hs : ItsV gf lb w0 bi S) (hk0 : ∀ k, k < w0.heap.size → k < w.heap.size ∧ w.heap[k]? = w0.heap[k]?) (hsz : w0.heap.size ≤ w.heap.size)
    (I : List (List Int) → World → Prop) (hI : ∀ i A C, I i A → Xk w.heap.size A C → I i C) (h0 : I [] w) (ax : Value → Act)
    (hassign : ∀ (l : Nat) (v : Value) (W : World) (K : Act → World → Prop), K (ax v) W → assign.wpIn (Fence.wide.inRound l) 4 Tryz.prog (Exit.then K (fun _ _ _ => False)) { tmps := a.tmps.setIfInBounds p v, defers := [] } W)
    (hbody : ∀ (l : Nat) (i : List (List Int)) (Ap : Option Addr) (c : Nat) (q : List Int) (W1 W2 : World), I i W1 → S q → q ∉ i → w.heap.size + 2 < W1.heap.size → Xk w.heap.size W1 W2 → Slc w0 bi Ap q.length c q →
      body.wpIn (Fence.wide.inRound l) 4 Tryz.prog (Exit.then (fun _ W' => I (i ++ [q]) W' ∧ (∀ k, (k < w0.heap.size ∨ (w.heap.size ≤ k ∧ k ≤ w.heap.size + 2)) → W'.heap[k]? = W2.heap[k]?) ∧ W2.heap.size ≤ W'.heap.size) (fun _ _ _ => False)) (ax (.slice Ap q.length c)) W2)
    (hdone : ∀ W xs, xs.Nodup → (∀ p, p ∈ xs ↔ S p) → I xs W → W.heap[w.heap.size]? = some (.deferred (some [])) → Q .normal { a with defers := { target := .collected w.heap.size, args := #[] } :: a.defers } W) :
    (Code.rangeFunc g #[p] assign body).wpIn Fence.wide 6 Tryz.prog Q a w := by
  refine wpIn_rangeFunc ?_
  intro fn hfn
  obtain ⟨rc, hrc⟩ : ∃ rc : LoopState → Option Code → Loop, rc = fun st pe => { state := st, pending := pe, fn, tmps := a.tmps, params := #[p], assign, body, defers := w.heap.size } := ⟨_, rfl⟩
  obtain ⟨V, hV⟩ : ∃ V, (w.alloc (.deferred (some []))).alloc (.loop (rc .ready none)) = V := ⟨_, rfl⟩
  have hVs : V.heap.size = w.heap.size + 2 := by rw [← hV]; simp
  have hVl : V.heap[w.heap.size + 1]? = some (.loop (rc .ready none)) := by
    rw [← hV]; have := World.alloc_heap_new (w.alloc (.deferred (some []))) (.loop (rc .ready none)); rwa [World.size_alloc] at this
  have hVd : V.heap[w.heap.size]? = some (.deferred (some [])) := by
    rw [← hV]; exact (Below.heap_alloc _ _ _ (by simp)).trans (World.alloc_heap_new w _)
  have hVk : ∀ k, k < w.heap.size → V.heap[k]? = w.heap[k]? := fun k hk => by
    rw [← hV]; exact (Below.heap_alloc _ _ _ (by simp; omega)).trans (Below.heap_alloc _ _ _ hk)
  have hVx : Xk w.heap.size w V := by
    rw [← hV]; exact ⟨rfl, rfl, rfl, by simp; omega, fun k hk _ => (Below.heap_alloc _ _ _ (by simp; omega)).trans (Below.heap_alloc _ _ _ hk)⟩
  refine ⟨w.heap.size + 1, [{ target := .collected w.heap.size, args := #[] }], V, { target := .fn (.func gf) lb, args := #[.func (.yield (w.heap.size + 1)) #[] #[]] }, V, gf,
    #[.func (.yield (w.heap.size + 1)) #[] #[]] ++ lb, V, ?_, ?_, ?_, ?_, fun _ => by omega, ?_⟩
  · rw [← hV, hrc]; exact run_enterLoop_outer _ _ _ _ _
  · simp only [resolve, hg]
    simp [go_sem]
  · intro f' hf'; trivial
  · simp [invoke, go_sem, eg]
  · refine (hs (w.heap.size + 1) (fun i W => I i W ∧ W.heap[w.heap.size + 1]? = some (.loop (rc .ready none)) ∧ W.heap[w.heap.size]? = some (.deferred (some []))) V
      (fun k hk => (hVk k (hk0 k hk).1).trans (hk0 k hk).2) (by omega) ?_ ?_ ⟨hI [] w V h0 hVx, hVl, hVd⟩).mono ?_
    · rintro i A C ⟨hi, hl, hd⟩ hgr
      rw [hVs] at hgr
      refine ⟨hI i A C hi (Xk.of_grown hgr (by omega)), ?_, ?_⟩
      · exact (hgr.block _ (Array.getElem?_eq_some_iff.1 hl).1 (fun e => by injection e with e; omega)).trans hl
      · exact (hgr.block _ (Array.getElem?_eq_some_iff.1 hd).1 (fun e => by injection e with e; omega)).trans hd
    · rintro i Ap c q W1 W2 ⟨hi, hl, hd⟩ hlt hnx hsz1 hgr hsl
      rw [hVs] at hsz1 hgr
      have hl2 : W2.heap[w.heap.size + 1]? = some (.loop (rc .ready none)) := (hgr.block _ (Array.getElem?_eq_some_iff.1 hl).1 (fun e => by injection e with e; omega)).trans hl
      have hd2 : W2.heap[w.heap.size]? = some (.deferred (some [])) := (hgr.block _ (Array.getElem?_eq_some_iff.1 hd).1 (fun e => by injection e with e; omega)).trans hd
      have hlt2 : w.heap.size + 1 < W2.heap.size := (Array.getElem?_eq_some_iff.1 hl2).1
      have hy := run_yield (P := Tryz.prog) (args := #[.slice Ap q.length c]) hl2 (by rw [hrc]; rfl)
      rw [hrc] at hy
      have hy2 : (Instr.yield (w.heap.size + 1) #[.slice Ap q.length c]).run Tryz.prog W2 = .ok (.round (w.heap.size + 1) fn (a.tmps.setIfInBounds p (.slice Ap q.length c)) assign body) W2 := by simpa using hy
      refine ⟨fn, _, assign, body, hy2, roundIn_of_wpIn hfn (hassign _ (.slice Ap q.length c) W2 _ ?_)⟩
      refine ⟨_, run_beginRound hl2 (by rw [hrc]), ?_⟩
      have hX : Xk w.heap.size W1 (W2.putObj (w.heap.size + 1) (.loop { rc .ready none with state := .busy })) := (Xk.of_grown hgr (by omega)).trans (Xk.put _ _ (by omega))
      have hl3 : (W2.putObj (w.heap.size + 1) (.loop { rc .ready none with state := .busy })).heap[w.heap.size + 1]? = some (.loop { rc .ready none with state := .busy }) := World.putObj_heap_same hlt2
      have hd3 : (W2.putObj (w.heap.size + 1) (.loop { rc .ready none with state := .busy })).heap[w.heap.size]? = some (.deferred (some [])) := (World.putObj_heap_other (by omega)).trans hd2
      refine wpIn_mono (hbody _ i Ap c q W1 _ hi hlt hnx (by omega) hX hsl) ?_
      rintro e a3 W3 hp
      cases e with
      | normal =>
        obtain ⟨hi3, hk3, hs3⟩ := hp
        have hl4 := (hk3 (w.heap.size + 1) (.inr (by omega))).trans hl3
        have hd4 := (hk3 w.heap.size (.inr (by omega))).trans hd3
        have hr := run_endRound (P := Tryz.prog) none hl4
        refine ⟨_, _, hr, ?_⟩
        rw [World.putObj_size] at hs3
        have h5 : (W3.putObj (w.heap.size + 1) (.loop (rc .ready none))).heap[w.heap.size + 1]? = some (.loop (rc .ready none)) := World.putObj_heap_same (Array.getElem?_eq_some_iff.1 hl4).1
        have e1 : (Loop.mk (if (none : Option Code).isNone then LoopState.ready else .done) none (rc .ready none).fn (rc .ready none).tmps (rc .ready none).params (rc .ready none).assign (rc .ready none).body (rc .ready none).defers) = rc .ready none := by rw [hrc]; rfl
        have e2 : ({ rc .ready none with state := LoopState.busy } : Loop).fn = (rc .ready none).fn := rfl
        refine ⟨rfl, ⟨hI _ _ _ hi3 (Xk.put _ _ (by omega)), ?_, (World.putObj_heap_other (by omega)).trans hd4⟩, ?_, by rw [World.putObj_size]; exact hs3⟩
        · rw [hrc]; rw [World.putObj_heap_same (Array.getElem?_eq_some_iff.1 hl4).1]; rfl
        · intro k hk
          have hne : k ≠ w.heap.size + 1 := by
            rcases hk with hk | hk
            · have := (hk0 k hk).1; omega
            · omega
          refine (World.putObj_heap_other hne).trans ((hk3 k ?_).trans (World.putObj_heap_other hne))
          rcases hk with hk | hk
          · exact .inl hk
          · exact .inr (by omega)
      | ret => exact hp.elim
      | exit id => exact hp.elim
      | goto t => exact hp.elim
      | panic ch => exact hp.elim
      | outgrown => exact hp.elim
    · rintro e W2 ⟨⟨v, rfl⟩, xs, hnd, hxs, hi, hl, hd⟩
      refine ⟨none, _, by have := run_endLoop (P := Tryz.prog) hl (by rw [hrc]; simp); rw [hrc] at this; exact this, hdone _ xs hnd hxs (hI _ _ _ hi (Xk.put _ _ (by omega))) ((World.putObj_heap_other (by omega)).trans hd)⟩

theorem mapsValuesI (b : Nat) (w : World) :
    Calls Tryz.prog 58 #[.map (some b)] w fun e w' => e = .returned (.func (.func 70) #[] #[.pointer (some ⟨w.heap.size, 0, none⟩)]) ∧ w' = w.alloc (.cells #[.map (some b)] 70) := by
  have hmf : ∀ (fn : Fn) (first cap : Array Value) (w : World), (Instr.makeFunc fn first cap).run Tryz.prog w = .ok (.func fn first cap) w := fun _ _ _ _ => rfl
  go_enter Tryz.func58, Tryz.ntmps58
  go_wp2
  go_ret
  exact ⟨rfl, rfl⟩

set_option maxHeartbeats 4000000 in
set_option maxRecDepth 100000 in
/-- THE ITERATOR's CONTRACT. -/
theorem itsValsI (N bi b c1 : Nat) (hN : N ≤ 20) (S : List Int → Prop) (D : DataW Value) (w0 : World) (h : GM w0 bi b N S D) (h1 : Blk w0 c1 70 #[.map (some b)]) :
    ItsV 70 #[.pointer (some ⟨c1, 0, none⟩)] w0 bi S := by
  intro l J W hW hsz hJ hY h0
  have HC := Lib.hid h
  have HY := Lib.hid hY
  have HJ := Lib.hid hJ
  have HW := Lib.hid hW
  have c1lt := h1.lt
  have blt := h.lt
  have k1 : W.cell? ⟨c1, 0, none⟩ = some (.map (some b)) := ((show Blk W c1 70 _ from (hW c1 c1lt).trans h1).cell 0)
  have Ow : Hid (W.ownsMap Tryz.prog 2 Rx b (Maps.size D) D) := Lib.hid (by
    obtain ⟨es, clock, hb, r⟩ := h.own
    exact ⟨es, clock, (hW b blt).trans hb, r⟩)
  clear hY hJ hW h h1
  refine callsIn_wide.2 ?_
  show Calls Tryz.prog 70 #[.func (.yield l) #[] #[], .pointer (some ⟨c1, 0, none⟩)] W _
  go_enter Tryz.func70, Tryz.ntmps70
  go_wp2_with (first | (at_range; refine wpList_range_own _ rfl _ 70 rfl 2 37 lawI Tryz.underlying70 Rx b (Maps.size D) D rfl Ow.out ?_; intro V hrg0 hg0 hs0) | go_in)
  have R0 := Lib.hid hrg0
  have J0 : Hid (J [] V) := Lib.hid (HJ.out [] W V h0 (grown_any hg0))
  have K0 : Hid (∀ k, k < w0.heap.size → V.heap[k]? = w0.heap[k]?) := Lib.hid fun k hk => (hg0.block k (by omega) (by simp)).trans (HW.out k hk)
  have hVlt : W.heap.size < V.heap.size := by omega
  clear hrg0 hg0 hs0 h0 k1
  go_frame
  refine (wpIn_wide (n := 5)).1 ?_
  gi_loopw [4] (fun v wr => ∃ (xs : List (List Int)) (left : Lit → Bool) (cnt : Nat), wr.ranges Tryz.prog 2 Rx b W.heap.size (Maps.size D) D left cnt ∧ J xs wr ∧ xs.Nodup ∧ (∀ p, p ∈ xs ↔ S p ∧ left (kI (hdN p)) = false) ∧ (∀ k, k < w0.heap.size → wr.heap[k]? = w0.heap[k]?) ∧ W.heap.size < wr.heap.size) (fun v wr => wr.rangeLeft b W.heap.size)
  case atStart => exact ⟨[], Maps.has D, Maps.size D, R0.out, J0.out, List.nodup_nil, fun p => ⟨fun h => (by cases h), fun ⟨hp, hl⟩ => (by rw [HC.out.has p hp] at hl; cases hl)⟩, K0.out, hVlt⟩
  case round =>
    clear R0 J0 K0 hVlt
    obtain ⟨xs, left, cnt, hrg, hj, hnd, hmem, hkp, hlt0⟩ := hrel
    have Rg := Lib.hid hrg
    have Hj := Lib.hid hj
    have Nd := Lib.hid hnd
    have Hm := Lib.hid hmem
    have Kp := Lib.hid hkp
    clear hrg hj hnd hmem hkp
    rcases Rg.out.next lawI 0 with ⟨hc0, hl0, hrun⟩ | ⟨key, v, kl, y, w1, cnt1, hkey, hlk, hv, hat, hrun, hrg1, hlt, hg1, hs1, hen⟩
    · have Fin : Hid (∀ p, p ∈ xs ↔ S p) := Lib.hid fun p => by
        rw [Hm.out p]
        exact ⟨fun h => h.1, fun h => ⟨h, hl0 _⟩⟩
      clear hc0 hl0
      gi_wp2
      go_end0
      exact ⟨⟨_, rfl⟩, xs, Nd.out, Fin.out, Hj.out⟩
    · obtain ⟨y, py⟩ := y
      obtain ⟨p, Ap, cpp, hp, rfl, rfl, rfl, hs'⟩ := HC.out.entry hN (left_ofI Rg.out hlk) hkey hv hat
      have Hnot : Hid (p ∉ xs) := Lib.hid fun hx => by
        have := ((Hm.out p).1 hx).2
        rw [hlk] at this; cases this
      have PK : Hid (WideAt.IsKeyLit (kI (hdN p))) := Lib.hid (kI_key (by have := (HC.out.rs.hdN hp).1; omega))
      have Hp := Lib.hid hp
      have Hlt := Lib.hid hlt
      have R1 := Lib.hid hrg1
      have Sl := Lib.hid hs'
      have G1 := Lib.hid hg1
      have Kp1 : Hid (∀ k, k < w0.heap.size → w1.heap[k]? = w0.heap[k]?) := Lib.hid fun k hk => (hg1.block k (by omega) (fun e => by injection e with e; omega)).trans (Kp.out k hk)
      obtain ⟨fn, tmps, assign, body, hy, hR⟩ := HY.out xs Ap cpp p wr w1 Hj.out hp Hnot.out hlt0 hg1 hs'
      have HR := Lib.hid hR
      have hz1 := hg1.size
      clear hat hrg1 hp hlk hg1 hkey hv hlt hs' hR
      gi_wp2
      refine HR.out.mono ?_
      rintro e w3 ⟨rfl, hj3, hk3, hs3⟩
      have Hj3 := Lib.hid hj3
      have Kp3 : Hid (∀ k, k < w0.heap.size → w3.heap[k]? = w0.heap[k]?) := Lib.hid fun k hk => (hk3 k (.inl hk)).trans (Kp1.out k hk)
      have R3 : Hid (w3.ranges Tryz.prog 2 Rx b W.heap.size (Maps.size D) D (fun z => left z && !z.sameKey (kI (hdN p))) cnt1) := Lib.hid (by
        obtain ⟨es, clock, since, seen, c0, hb, F, hs, hD, hr, rest⟩ := R1.out
        exact ⟨es, clock, since, seen, c0, (hk3 b (.inl blt)).trans hb, F, hs, hD, (hk3 _ (.inr rfl)).trans hr, rest⟩)
      have Nd3 : Hid ((xs ++ [p]).Nodup) := Lib.hid (nodup_snocI Nd.out Hnot.out)
      have Fin : Hid (∀ m, m ∈ xs ++ [p] ↔ S m ∧ (left (kI (hdN m)) && !(kI (hdN m)).sameKey (kI (hdN p))) = false) := Lib.hid fun m => by
        rw [List.mem_append, Hm.out m, List.mem_singleton]
        constructor
        · rintro (⟨h, hl⟩ | rfl)
          · exact ⟨h, (by simp [hl])⟩
          · exact ⟨Hp.out, (by simp [WideAt.sameKey_self PK.out])⟩
        · rintro ⟨h, hl⟩
          rcases hlq : left (kI (hdN m)) with _ | _
          · exact .inl ⟨h, rfl⟩
          · exact .inr (HC.out.rs.hinj h Hp.out (kI_inj (WideAt.sameKey_eq (by simpa [hlq] using hl))))
      have E1 := Rg.out.left_eq
      have E3 := R3.out.left_eq
      clear hj3 hk3
      gi_wp2
      go_roundw
      case rel => exact ⟨xs ++ [p], _, cnt1, R3.out, Hj3.out, Nd3.out, Fin.out, Kp3.out, by omega⟩
      case measure => rw [E1, E3]; exact Hlt.out
theorem wpListIn_app3V {F : Fence} {nn : Nat} {w : World} {base n c : Nat} {A : Option Addr} {us : List SV} {ops : Array Oper} {rest : List Oper} {o : Oper} {a : Act} {Q : Exit → Act → World → Prop} (hgd : o.guard = none) (s x : Operand)
    (ho : o.op = .call { callee := .builtin .append, args := #[s, x], argTypes := #[24, 24] })
    (hs : a.eval s = .slice A n c) (hss : w.ownsRow base 37 1 (.slice A n c) n (us.map sval)) (g : Nat) (dA : Option Addr) (dn dc : Nat) (hx : a.eval x = .slice (some ⟨g, 0, none⟩) 1 1)
    (hcell : w.cell? ⟨g, 0, none⟩ = some (.slice dA dn dc)) (hn : n ≤ 1000000000) (hbase : base ≤ w.heap.size)
    (h : ∀ g' c' w', w'.ownsRow base 37 1 (.slice (some ⟨g', 0, none⟩) (n + 1) c') (n + 1) ((us ++ [(dA, dn, dc)]).map sval) → w.grownBy w' (Value.slice A n c).ownBlock → wpListIn F nn Tryz.prog ops Q rest (a.put o.dst (.slice (some ⟨g', 0, none⟩) (n + 1) c')) w') : wpListIn F nn Tryz.prog ops Q (o :: rest) a w := by
  obtain ⟨i0, hi, hz0, hz1, hz2⟩ := info_parts infoS
  refine wpListIn_append_own w hgd s x 24 ho base 37 i0 (.slice none 0 0) 1 24 Tryz.underlying24 hi hz0 hz1 hz2 rfl (by decide) _ n _ hs hss ⟨g, 0, none⟩ 1 1 [.slice dA dn dc] hx rfl ?_ ?_ ?_ (by omega) hbase ?_
  · intro j v hj
    match j, hj with
    | 0, hj => simp at hj; subst hj; simpa [Addr.add] using hcell
    | j + 1, hj => simp at hj
  · intro v hv; simp at hv; subst hv; rfl
  · unfold maxLen; omega
  · intro v' w' hown' hg _
    have hform : ∃ g' c', v' = .slice (some ⟨g', 0, none⟩) (n + 1) c' := by
      rcases hown'.2 with ⟨rfl, h0⟩ | ⟨g', cap, cur, rfl, _⟩
      · omega
      · exact ⟨_, _, rfl⟩
    obtain ⟨A', c', rfl⟩ := hform
    exact h A' c' w' (by rw [List.map_append]; exact hown') hg
theorem own_xkV {b bo n : Nat} {W C : World} {v : Value} {us : List Value} (h : W.ownsRow bo 37 1 v n us) (hk : Xk b W C) (h1 : b + 2 < bo) : C.ownsRow bo 37 1 v n us := by
  refine ⟨h.1, ?_⟩
  rcases h.2 with hn | ⟨g, cap, cur, e, hb', hg, rest⟩
  · exact .inl hn
  · exact .inr ⟨g, cap, cur, e, hb', by rw [hk.block g (Array.getElem?_eq_some_iff.1 hg).1 (.inr (by omega))]; exact hg, rest⟩
/-- The rows that lie in w0. -/
def Rw1 (w0 : World) (bi : Nat) (us : List SV) (xs : List (List Int)) : Prop := us.length = xs.length ∧ ∀ t, t < xs.length → (us.getD t sd0).2.1 = (xs.getD t []).length ∧ Slc w0 bi (us.getD t sd0).1 (xs.getD t []).length (us.getD t sd0).2.2 (xs.getD t [])
theorem Rw1.snoc {w0 : World} {bi c : Nat} {us : List SV} {xs : List (List Int)} {A : Option Addr} {p : List Int} (h : Rw1 w0 bi us xs) (hs : Slc w0 bi A p.length c p) : Rw1 w0 bi (us ++ [(A, p.length, c)]) (xs ++ [p]) := by
  refine ⟨by simp [h.1], fun t ht => ?_⟩
  by_cases e : t < xs.length
  · rw [getD_app _ _ _ _ (by rw [h.1]; exact e), getD_app _ _ _ _ e]
    exact h.2 t e
  · have e2 : t = xs.length := by simp at ht; omega
    subst e2
    rw [getD_snoc _ _ _ _ h.1.symm, getD_snoc _ _ _ _ rfl]
    exact ⟨rfl, hs⟩
theorem Slc.agreeV {w w' : World} {bi n c : Nat} {A : Option Addr} {xs : List Int} (h : Slc w bi A n c xs) (hk : ∀ k, k < w.heap.size → w'.heap[k]? = w.heap[k]?) : Slc w' bi A n c xs := by
  refine ⟨h.1, h.2.1, ?_⟩
  rcases h.2.2 with hn | ⟨g, cap, cur, e, hb', hg, rest⟩
  · exact .inl hn
  · exact .inr ⟨g, cap, cur, e, hb', by rw [hk g (Array.getElem?_eq_some_iff.1 hg).1]; exact hg, rest⟩
theorem Rw1.ss {w0 w : World} {bi bo c N : Nat} {us : List SV} {xs : List (List Int)} {A : Option Addr} {S : List Int → Prop} (h : Rw1 w0 bi us xs) (hk : ∀ k, k < w0.heap.size → w.heap[k]? = w0.heap[k]?) (ho : w.ownsRow bo 37 1 (.slice A xs.length c) xs.length (us.map sval)) (hd : xs.Nodup) (hR : Rws N S) (hS : ∀ p, p ∈ xs → S p) :
    SS w bo bi A xs.length c us xs := by
  refine ⟨ho, h.1, rfl, fun i hi => ?_, fun i j hij hj => ?_⟩
  · obtain ⟨e, hs⟩ := h.2 i hi
    rw [e]; exact hs.agreeV hk
  · obtain ⟨e1, h1⟩ := h.2 i (by omega)
    obtain ⟨e2, h2⟩ := h.2 j hj
    have s1 := hS _ (getD_memL (show i < xs.length by omega))
    have s2 := hS _ (getD_memL hj)
    refine .inr fun e => ?_
    have e4 : (Value.slice (us.getD i sd0).1 (xs.getD i []).length (us.getD i sd0).2.2).ownBlock = (Value.slice (us.getD j sd0).1 (xs.getD j []).length (us.getD j sd0).2.2).ownBlock := by
      unfold sval at e; rw [e1, e2] at e; exact e
    have e5 := hR.inj _ _ s1 s2 (slc_hd h1 h2 (hR.pos s1) (hR.pos s2) e4)
    rw [getD_L (show i < xs.length by omega), getD_L hj] at e5
    exact (List.pairwise_iff_getElem.1 hd) i j (by omega) hj hij e5

set_option maxHeartbeats 4000000 in
set_option maxRecDepth 100000 in
/-- slices.AppendSeq onto nil. -/
theorem appSeqV (N bi : Nat) (gf : Nat) (ef : ∀ args w, (callFunc gf args).run Tryz.prog w = .ok (.enter gf args) w) (lb : Array Value) (S : List Int → Prop) (w w0 : World) (hs : ItsV gf lb w0 bi S) (hk : ∀ k, k < w0.heap.size → w.heap[k]? = w0.heap[k]?) (hsz : w0.heap.size ≤ w.heap.size) (hN : N ≤ 20) (hR : Hid (Rws N S)) :
    Calls Tryz.prog 75 #[.slice none 0 0, .func (.func gf) #[] lb] w fun e w' => ∃ A' c' us xs, e = .returned (.slice A' xs.length c') ∧ xs.Nodup ∧ (∀ p, p ∈ xs ↔ S p) ∧ SS w' w.heap.size bi A' xs.length c' us xs ∧ Below w.heap.size w w' := by
  have HS := Lib.hid hs
  have HK := Lib.hid hk
  clear hs hk
  refine (callsIn_wide (n := 6)).1 ?_
  refine callsIn_of_wp_marks Tryz.func75 rfl trivial ?_ rfl
  simp only [Tryz.ntmps75, List.size_toArray, List.length_cons, List.length_nil, Nat.reduceAdd, Nat.reduceSub, Array.replicate_succ, Array.replicate_zero, List.push_toArray, List.append_toArray, List.nil_append, List.cons_append]
  gi_wp2
  obtain ⟨V, hV⟩ : ∃ V, w.alloc (.cells #[.slice none 0 0] 24) = V := ⟨_, rfl⟩
  rw [hV]
  have hz : V.heap.size = w.heap.size + 1 := by rw [← hV]; simp
  have b0 : Blk V w.heap.size 24 #[.slice none 0 0] := by rw [← hV]; exact Blk.new w _ _
  have bel : Below w.heap.size w V := by rw [← hV]; exact (Below.refl _ w).alloc (Nat.le_refl _) _
  have hkV : ∀ k, k < w0.heap.size → k < V.heap.size ∧ V.heap[k]? = w0.heap[k]? := fun k h => ⟨by omega, (bel.block k (by omega)).trans (HK.out k h)⟩
  clear hV
  refine rangeV (gf := gf) (lb := lb) rfl ef HS.out hkV (by omega)
    (fun xs W => ∃ S' c us, Blk W w.heap.size 24 #[.slice S' xs.length c] ∧ W.ownsRow (V.heap.size + 3) 37 1 (.slice S' xs.length c) xs.length (us.map sval) ∧ Rw1 w0 bi us xs ∧ xs.Nodup ∧ (∀ p, p ∈ xs → S p) ∧ Below w.heap.size w W)
    (fun i A C h hx => by
      obtain ⟨S', c, us, h1, h2, h4, h5, h6, h3⟩ := h
      exact ⟨S', c, us, (hx.block _ h1.lt (.inl (by omega))).trans h1, own_xkV h2 hx (by omega), h4, h5, h6, h3.trans (hx.below (by omega) h3.size)⟩) ⟨none, 0, [], b0, World.ownsRow_nil _ _ _ _, ⟨rfl, fun t ht => absurd ht (by simp)⟩, List.nodup_nil, fun p hp => (by cases hp), bel⟩
    (fun v => { tmps := #[.slice none 0 0, .func (.func gf) #[] lb, .pointer (some ⟨w.heap.size, 0, none⟩), undef, .slice none 0 0, v, .func (.func gf) #[] lb, v, undef, undef, undef, undef, undef], defers := [] }) ?assign ?body ?done
  case assign =>
    intro l v W K hK
    gi_wp2
    exact hK
  case body =>
    rintro l xs S' d p W1 W2 ⟨R, e, us, hb, hss, hrw, hnd, hmem, hbl⟩ hSp hnot hsz1 hx hsl
    have hb2 : Blk W2 w.heap.size 24 #[.slice R xs.length e] := (hx.block _ hb.lt (.inl (by omega))).trans hb
    have cc : W2.cell? ⟨w.heap.size, 0, none⟩ = some (.slice R xs.length e) := hb2.cell 0
    have ff := hb2.frozen 0
    have Ss2 := Lib.hid (own_xkV hss hx (by omega))
    obtain ⟨L, hL⟩ : ∃ L, p.length = L := ⟨_, rfl⟩
    have Rs : Hid (Rw1 w0 bi (us ++ [(S', L, d)]) (xs ++ [p])) := Lib.hid (by have := hrw.snoc hsl; rw [hL] at this; exact this)
    rw [hL]
    have Nd := Lib.hid (nodup_snocI hnd hnot)
    have Mm : Hid (∀ q, q ∈ xs ++ [p] → S q) := Lib.hid fun q hq => by
      rcases List.mem_append.1 hq with h | h
      · exact hmem q h
      · rw [List.mem_singleton.1 h]; exact hSp
    have Ln : Hid (xs.length ≤ 200) := Lib.hid (by have := hR.out.few hnd hmem; omega)
    have Bl2 := Lib.hid (hbl.trans (hx.below (by omega) hbl.size))
    have Hb2 := Lib.hid hb2
    have hz2 := hx.size
    have hzz : V.heap.size + 3 ≤ W2.heap.size := by omega
    have hcell : (W2.alloc (.cells #[.slice S' L d] 37)).cell? ⟨W2.heap.size, 0, none⟩ = some (.slice S' L d) := by rw [World.cell?_alloc_at _ _ _ _ rfl]; rfl
    have Hcell := Lib.hid hcell
    clear hcell hb hss hbl hx hsl hb2 hrw hnd hmem hSp hnot
    obtain ⟨m, hm⟩ : ∃ m, xs.length = m := ⟨_, rfl⟩
    rw [hm] at cc Ss2 Hb2 Ln
    have Hm := Lib.hid hm
    clear hm
    gi_wp2_with (first
      | (gi_at_builtin; refine wpListIn_app3V rfl _ _ rfl rfl (World.ownsRow.alloc Ss2.out _) W2.heap.size S' L d rfl Hcell.out (by have := Ln.out; omega) (by simp; omega) ?_; intro A5 c5 w5 ss5 hg5
         have Ss5 := Lib.hid ss5
         have Hb5 : Hid (Blk w5 w.heap.size 24 #[.slice R m e]) := Lib.hid ((Hb2.out.alloc (.cells #[.slice S' L d] 37)).grown hg5 ((Hb2.out.alloc (.cells #[.slice S' L d] 37)).not_outer (World.ownsRow.alloc Ss2.out _)))
         have cc5 : w5.cell? ⟨w.heap.size, 0, none⟩ = some (.slice R m e) := Hb5.out.cell 0
         have ff5 := Hb5.out.frozen 0
         have Hg5 := Lib.hid hg5
         clear ss5 hg5))
    have Hb6 := Lib.hid (Hb5.out.set_ 0 (.slice (some ⟨A5, 0, none⟩) (m + 1) c5))
    have hne : some w.heap.size ≠ (Value.slice (some ⟨A5, 0, none⟩) (m + 1) c5).ownBlock := Hb5.out.not_outer Ss5.out
    have Ss6 := Lib.hid (World.ownsRow.kept Ss5.out (grown_set (grown_refl w5 (some w.heap.size)) 0 (.slice (some ⟨A5, 0, none⟩) (m + 1) c5)) (.inr fun h => hne h.symm))
    have Bl5 : Hid (Below w.heap.size w w5) := Lib.hid ((Bl2.out.alloc Bl2.out.size _).grown Hg5.out (by have := Bl2.out.size; simp; omega) (fun j hj => by have := (World.ownsRow.lt Ss2.out j hj).1; omega))
    have e1 : (xs ++ [p]).length = m + 1 := by rw [List.length_append, Hm.out]; rfl
    refine ⟨⟨some ⟨A5, 0, none⟩, c5, us ++ [(S', L, d)], by rw [e1]; exact Hb6.out, by rw [e1]; exact Ss6.out, Rs.out, Nd.out, Mm.out, Bl5.out.setCell (p := ⟨w.heap.size, 0, none⟩) (Nat.le_refl _) _⟩, fun k hk => ?_, ?_⟩
    · have hkl : k ≠ w.heap.size := by omega
      have hkW2 : k < W2.heap.size := by omega
      refine (Below.heap_setCell _ _ _ k hkl).trans ((Hg5.out.block k (by simp; omega) fun e9 => ?_).trans (Below.heap_alloc _ _ _ hkW2))
      have := (World.ownsRow.lt Ss2.out k e9.symm).1
      omega
    · have := Hg5.out.size
      simp at this
      simp [World.setCell]; omega
  case done =>
    rintro W xs hnd hmem ⟨S', c, us, hb, hss, hrw, _, _, hbl⟩ hd
    have Hbl := Lib.hid hbl
    have Hss := Lib.hid hss
    have Rs := Lib.hid hrw
    have Nd := Lib.hid hnd
    have Mm := Lib.hid hmem
    obtain ⟨m, hm⟩ : ∃ m, xs.length = m := ⟨_, rfl⟩
    rw [hm] at hb Hss
    have Hm := Lib.hid hm
    have cc : W.cell? ⟨w.heap.size, 0, none⟩ = some (.slice S' m c) := hb.cell 0
    clear hbl hss hrw hnd hmem hm
    gi_wp2
    refine ⟨by simp, .inl ⟨_, _, rfl, run_takeDeferred hd, ?_⟩⟩
    have hfin := own_xkV Hss.out (Xk.put W (.deferred none) (b := V.heap.size) (r := V.heap.size) (by omega)) (by omega)
    have hbl2 : Below w.heap.size w (W.putObj V.heap.size (.deferred none)) := Hbl.out.grown (grownBy_putObj' W _ _) Hbl.out.size (fun k e => by cases e; omega)
    have hr := World.ownsRow.mono hfin (base' := w.heap.size) (by omega)
    rw [← Hm.out] at hr ⊢
    exact ⟨_, results_tmp rfl _ _ _, _, _, us, xs, rfl, Nd.out, Mm.out, Rs.out.ss (fun k hk => (hbl2.block k (by omega)).trans (HK.out k hk)) hr Nd.out hR.out (fun p hp => (Mm.out p).1 hp), hbl2⟩

set_option maxHeartbeats 800000 in
/-- slices.Collect. -/
theorem collectV (N bi : Nat) (gf : Nat) (ef : ∀ args w, (callFunc gf args).run Tryz.prog w = .ok (.enter gf args) w) (lb : Array Value) (S : List Int → Prop) (w w0 : World) (hs : ItsV gf lb w0 bi S) (hk : ∀ k, k < w0.heap.size → w.heap[k]? = w0.heap[k]?) (hsz : w0.heap.size ≤ w.heap.size) (hN : N ≤ 20) (hR : Hid (Rws N S)) :
    Calls Tryz.prog 68 #[.func (.func gf) #[] lb] w fun e w' => ∃ A' c' us xs, e = .returned (.slice A' xs.length c') ∧ xs.Nodup ∧ (∀ p, p ∈ xs ↔ S p) ∧ SS w' w.heap.size bi A' xs.length c' us xs ∧ Below w.heap.size w w' := by
  have HS := Lib.hid hs
  have HK := Lib.hid hk
  clear hs hk
  go_enter Tryz.func68, Tryz.ntmps68
  go_wp2_with fail
  refine (appSeqV N bi gf ef lb S w w0 HS.out HK.out hsz hN hR).mono ?_
  rintro e w1 ⟨A1, c1, us, xs, rfl, n1, m1, s1, b1⟩
  have N1 := Lib.hid n1
  have M1 := Lib.hid m1
  have S1 := Lib.hid s1
  have B1 := Lib.hid b1
  clear n1 m1 s1 b1
  go_wp2
  go_ret
  exact ⟨_, _, _, xs, rfl, N1.out, M1.out, S1.out, B1.out⟩
end Go.Proofs.YtedfcljikgmpgaaGreat
