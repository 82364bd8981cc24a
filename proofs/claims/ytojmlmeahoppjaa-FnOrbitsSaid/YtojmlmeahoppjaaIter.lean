/- A range over the program's iterator of orbits: a law for a body that always goes on, and the iterator's contract. Conditions: at most 1000 points, at most 8 maps. -/
import Derived.Test.YtojmlmeahoppjaaOrb1
import Derived.RangeFuncNested
import Derived.RangeFuncBound
import Derived.RangeFuncCalls
import Derived.RangeFuncLeaves
import Derived.OwnWalkIn
import Derived.TacticsInMore
import Derived.LoopNIn
import Derived.LoopIn
namespace Go.Proofs.Ytojmlmeahoppjaa
open Go.RowKit
attribute [local go_sem] Oper.semAt_some

/-- From A to C the blocks below b and beyond b + 2 lie as they lay. -/
structure Xk (b : Nat) (A C : World) : Prop where
  os : C.os = A.os
  tape : C.tape = A.tape
  output : C.output = A.output
  size : A.heap.size ≤ C.heap.size
  block : ∀ k, k < A.heap.size → (k < b ∨ b + 2 < k) → C.heap[k]? = A.heap[k]?
theorem Xk.of_grown {b r : Nat} {A C : World} (h : A.grownBy C (some r)) (hr : b ≤ r ∧ r ≤ b + 2) : Xk b A C :=
  ⟨h.os, h.tape, h.output, h.size, fun k hk hb => h.block k hk (fun e => by cases e; omega)⟩
theorem Xk.trans {b : Nat} {A C D : World} (h : Xk b A C) (k : Xk b C D) : Xk b A D :=
  ⟨k.os.trans h.os, k.tape.trans h.tape, k.output.trans h.output, Nat.le_trans h.size k.size, fun i hi hb => (k.block i (Nat.lt_of_lt_of_le hi h.size) hb).trans (h.block i hi hb)⟩
theorem Xk.put {b r : Nat} (A : World) (o : Obj) (hr : b ≤ r ∧ r ≤ b + 2) : Xk b A (A.putObj r o) := Xk.of_grown (grownBy_putObj' A r o) hr
theorem Xk.below {b B : Nat} {A C : World} (h : Xk b A C) (hB : B ≤ b) (hA : B ≤ A.heap.size) : Below B A C := ⟨h.os, h.tape, h.output, h.size, fun k hk => h.block k (by omega) (.inl (by omega))⟩
theorem Slc.xk {b base n c : Nat} {A C : World} {S : Option Addr} {xs : List Int} (h : Slc A base S n c xs) (hk : Xk b A C) (ho : ∀ k, (Value.slice S n c).ownBlock = some k → k < b ∨ b + 2 < k) : Slc C base S n c xs := by
  refine ⟨h.1, h.2.1, ?_⟩
  rcases h.2.2 with hn | ⟨g, cap, cur, e, hb', hg, rest⟩
  · exact .inl hn
  · exact .inr ⟨g, cap, cur, e, hb', by rw [hk.block g (Array.getElem?_eq_some_iff.1 hg).1 (ho g (by rw [e]; rfl))]; exact hg, rest⟩

/-- WHAT THE ITERATOR PROMISES: called at the yield of whatever loop, in a world W whose heap ends at r, it makes block r its own and hands the rounds the lists xss, one after the other, each in a new slice; between the rounds it turns block r alone; a round keeps the blocks of kp and block r. -/
def Its (gf : Nat) (lb : Array Value) (kp : Nat → Prop) (xss : List (List Int)) (w0 : World) : Prop :=
  ∀ (l : Nat) (J : Nat → World → Prop) (W : World), (∀ k, kp k → W.heap[k]? = w0.heap[k]?) → w0.heap.size ≤ W.heap.size →
    (∀ i A C, J i A → A.grownBy C (some W.heap.size) → J i C) →
    (∀ i S c n W1 W2, J i W1 → i < xss.length → W.heap.size < W1.heap.size → W1.grownBy W2 (some W.heap.size) → Slc W2 W1.heap.size S n c (xss.getD i []) →
      YieldAt Fence.wide 4 Try.prog l #[.slice S n c] W2 fun e W' => e = .returned (.bool true) ∧ J (i + 1) W' ∧ (∀ k, (kp k ∨ k = W.heap.size) → W'.heap[k]? = W2.heap[k]?) ∧ W2.heap.size ≤ W'.heap.size) →
    J 0 W →
    CallsIn Fence.wide 5 Try.prog gf (#[.func (.yield l) #[] #[]] ++ lb) W fun e W' => (∃ v, e = .returned v) ∧ J xss.length W'

set_option maxHeartbeats 1000000 in
/-- A RANGE OVER IT, whose body always goes on. -/
theorem rangeT {g : Operand} {p : Tmp} {assign body : Code} {Q : Exit → Act → World → Prop} {a : Act} {w w0 : World} {gf : Nat} {lb : Array Value} {kp : Nat → Prop} {xss : List (List Int)}
    (hg : a.eval g = .func (.func gf) #[] lb) (eg : ∀ args w, (callFunc gf args).run Try.prog w = .ok (.enter gf args) w)
    (hs : Its gf lb kp xss w0) (hk0 : ∀ k, kp k → k < w.heap.size ∧ w.heap[k]? = w0.heap[k]?) (hsz : w0.heap.size ≤ w.heap.size)
    (I : Nat → World → Prop) (hI : ∀ i A C, I i A → Xk w.heap.size A C → I i C) (h0 : I 0 w) (ax : Value → Act)
    (hassign : ∀ (l : Nat) (v : Value) (W : World) (K : Act → World → Prop), K (ax v) W → assign.wpIn (Fence.wide.inRound l) 4 Try.prog (Exit.then K (fun _ _ _ => False)) { tmps := a.tmps.setIfInBounds p v, defers := [] } W)
    (hbody : ∀ (l i : Nat) (S : Option Addr) (n c : Nat) (W1 W2 : World), I i W1 → i < xss.length → w.heap.size + 2 < W1.heap.size → Xk w.heap.size W1 W2 → Slc W2 W1.heap.size S n c (xss.getD i []) →
      body.wpIn (Fence.wide.inRound l) 4 Try.prog (Exit.then (fun _ W' => I (i + 1) W' ∧ (∀ k, (kp k ∨ (w.heap.size ≤ k ∧ k ≤ w.heap.size + 2)) → W'.heap[k]? = W2.heap[k]?) ∧ W2.heap.size ≤ W'.heap.size) (fun _ _ _ => False)) (ax (.slice S n c)) W2)
    (hdone : ∀ W, I xss.length W → W.heap[w.heap.size]? = some (.deferred (some [])) → Q .normal { a with defers := { target := .collected w.heap.size, args := #[] } :: a.defers } W) :
    (Code.rangeFunc g #[p] assign body).wpIn Fence.wide 6 Try.prog Q a w := by
  refine wpIn_rangeFunc ?_
  intro fn hfn
  obtain ⟨rc, hrc⟩ : ∃ rc : LoopState → Option Code → Loop, rc = fun st pe => { state := st, pending := pe, fn, tmps := a.tmps, params := #[p], assign, body, defers := w.heap.size } := ⟨_, rfl⟩
  obtain ⟨V, hV⟩ : ∃ V, (w.alloc (.deferred (some []))).alloc (.loop (rc .ready none)) = V := ⟨_, rfl⟩
  have hVs : V.heap.size = w.heap.size + 2 := by rw [← hV]; simp
  have hVl : V.heap[w.heap.size + 1]? = some (.loop (rc .ready none)) := by
    rw [← hV]; have := World.alloc_heap_new (w.alloc (.deferred (some []))) (.loop (rc .ready none)); rwa [World.size_alloc] at this
  have hVd : V.heap[w.heap.size]? = some (.deferred (some [])) := by
    rw [← hV]; exact (Below.heap_alloc _ _ _ (by simp)).trans (World.alloc_heap_new w _)
  have hVk : ∀ k, k < w.heap.size → V.heap[k]? = w.heap[k]? := fun k hk => by
    rw [← hV]; exact (Below.heap_alloc _ _ _ (by simp; omega)).trans (Below.heap_alloc _ _ _ hk)
  have hVx : Xk w.heap.size w V := by
    rw [← hV]; exact ⟨rfl, rfl, rfl, by simp; omega, fun k hk _ => (Below.heap_alloc _ _ _ (by simp; omega)).trans (Below.heap_alloc _ _ _ hk)⟩
  refine ⟨w.heap.size + 1, [{ target := .collected w.heap.size, args := #[] }], V, { target := .fn (.func gf) lb, args := #[.func (.yield (w.heap.size + 1)) #[] #[]] }, V, gf,
    #[.func (.yield (w.heap.size + 1)) #[] #[]] ++ lb, V, ?_, ?_, ?_, ?_, fun _ => by omega, ?_⟩
  · rw [← hV, hrc]; exact run_enterLoop_outer _ _ _ _ _
  · simp only [resolve, hg]
    simp [go_sem]
  · intro f' hf'; trivial
  · simp [invoke, go_sem, eg]
  · refine (hs (w.heap.size + 1) (fun i W => I i W ∧ W.heap[w.heap.size + 1]? = some (.loop (rc .ready none)) ∧ W.heap[w.heap.size]? = some (.deferred (some []))) V
      (fun k hk => (hVk k (hk0 k hk).1).trans (hk0 k hk).2) (by omega) ?_ ?_ ⟨hI 0 w V h0 hVx, hVl, hVd⟩).mono ?_
    · rintro i A C ⟨hi, hl, hd⟩ hgr
      rw [hVs] at hgr
      refine ⟨hI i A C hi (Xk.of_grown hgr (by omega)), ?_, ?_⟩
      · exact (hgr.block _ (Array.getElem?_eq_some_iff.1 hl).1 (fun e => by injection e with e; omega)).trans hl
      · exact (hgr.block _ (Array.getElem?_eq_some_iff.1 hd).1 (fun e => by injection e with e; omega)).trans hd
    · rintro i S c n W1 W2 ⟨hi, hl, hd⟩ hlt hsz1 hgr hsl
      rw [hVs] at hsz1 hgr
      have hl2 : W2.heap[w.heap.size + 1]? = some (.loop (rc .ready none)) := (hgr.block _ (Array.getElem?_eq_some_iff.1 hl).1 (fun e => by injection e with e; omega)).trans hl
      have hd2 : W2.heap[w.heap.size]? = some (.deferred (some [])) := (hgr.block _ (Array.getElem?_eq_some_iff.1 hd).1 (fun e => by injection e with e; omega)).trans hd
      have hlt2 : w.heap.size + 1 < W2.heap.size := (Array.getElem?_eq_some_iff.1 hl2).1
      have hy := run_yield (P := Try.prog) (args := #[.slice S n c]) hl2 (by rw [hrc]; rfl)
      rw [hrc] at hy
      have hy2 : (Instr.yield (w.heap.size + 1) #[.slice S n c]).run Try.prog W2 = .ok (.round (w.heap.size + 1) fn (a.tmps.setIfInBounds p (.slice S n c)) assign body) W2 := by simpa using hy
      refine ⟨fn, _, assign, body, hy2, roundIn_of_wpIn hfn (hassign _ (.slice S n c) W2 _ ?_)⟩
      refine ⟨_, run_beginRound hl2 (by rw [hrc]), ?_⟩
      have hX : Xk w.heap.size W1 (W2.putObj (w.heap.size + 1) (.loop { rc .ready none with state := .busy })) := (Xk.of_grown hgr (by omega)).trans (Xk.put _ _ (by omega))
      have hS3 : Slc (W2.putObj (w.heap.size + 1) (.loop { rc .ready none with state := .busy })) W1.heap.size S n c (xss.getD i []) := hsl.xk (Xk.put W2 _ (b := w.heap.size) (r := w.heap.size + 1) (by omega)) (fun k e => .inr (by have := (hsl.lt_ k e).1; omega))
      have hl3 : (W2.putObj (w.heap.size + 1) (.loop { rc .ready none with state := .busy })).heap[w.heap.size + 1]? = some (.loop { rc .ready none with state := .busy }) := World.putObj_heap_same hlt2
      have hd3 : (W2.putObj (w.heap.size + 1) (.loop { rc .ready none with state := .busy })).heap[w.heap.size]? = some (.deferred (some [])) := (World.putObj_heap_other (by omega)).trans hd2
      refine wpIn_mono (hbody _ i S n c W1 _ hi hlt (by omega) hX hS3) ?_
      rintro e a3 W3 hp
      cases e with
      | normal =>
        obtain ⟨hi3, hk3, hs3⟩ := hp
        have hl4 := (hk3 (w.heap.size + 1) (.inr (by omega))).trans hl3
        have hd4 := (hk3 w.heap.size (.inr (by omega))).trans hd3
        have hr := run_endRound (P := Try.prog) none hl4
        refine ⟨_, _, hr, ?_⟩
        rw [World.putObj_size] at hs3
        have h5 : (W3.putObj (w.heap.size + 1) (.loop (rc .ready none))).heap[w.heap.size + 1]? = some (.loop (rc .ready none)) := World.putObj_heap_same (Array.getElem?_eq_some_iff.1 hl4).1
        have e1 : (Loop.mk (if (none : Option Code).isNone then LoopState.ready else .done) none (rc .ready none).fn (rc .ready none).tmps (rc .ready none).params (rc .ready none).assign (rc .ready none).body (rc .ready none).defers) = rc .ready none := by rw [hrc]; rfl
        have e2 : ({ rc .ready none with state := LoopState.busy } : Loop).fn = (rc .ready none).fn := rfl
        refine ⟨rfl, ⟨hI _ _ _ hi3 (Xk.put _ _ (by omega)), ?_, (World.putObj_heap_other (by omega)).trans hd4⟩, ?_, by rw [World.putObj_size]; exact hs3⟩
        · rw [hrc]; rw [World.putObj_heap_same (Array.getElem?_eq_some_iff.1 hl4).1]; rfl
        · intro k hk
          have hne : k ≠ w.heap.size + 1 := by
            rcases hk with hk | hk
            · have := (hk0 k hk).1; omega
            · omega
          refine (World.putObj_heap_other hne).trans ((hk3 k ?_).trans (World.putObj_heap_other hne))
          rcases hk with hk | hk
          · exact .inl hk
          · exact .inr (by omega)
      | ret => exact hp.elim
      | exit id => exact hp.elim
      | goto t => exact hp.elim
      | panic ch => exact hp.elim
      | outgrown => exact hp.elim
    · rintro e W2 ⟨⟨v, rfl⟩, hi, hl, hd⟩
      refine ⟨none, _, by have := run_endLoop (P := Try.prog) hl (by rw [hrc]; simp); rw [hrc] at this; exact this, hdone _ (hI _ _ _ hi (Xk.put _ _ (by omega))) ((World.putObj_heap_other (by omega)).trans hd)⟩

/-- orbitsUnder: a closure over two boxes. -/
theorem implUnder (N : Nat) (A : Option Addr) (n c : Nat) (w : World) :
    Calls Try.prog 48 #[.int .i64 (N : Nat), .slice A n c] w fun e w' => e = .returned (.func (.func 80) #[] #[.pointer (some ⟨w.heap.size, 0, none⟩), .pointer (some ⟨w.heap.size + 1, 0, none⟩)]) ∧
      w' = (w.alloc (.cells #[.int .i64 (N : Nat)] 2)).alloc (.cells #[.slice A n c] 24) := by
  have hmf : ∀ (fn : Fn) (first cap : Array Value) (w : World), (Instr.makeFunc fn first cap).run Try.prog w = .ok (.func fn first cap) w := fun _ _ _ _ => rfl
  go_enter Try.func48, Try.ntmps48
  go_wp2
  go_ret
  exact ⟨rfl, rfl⟩

theorem grown_any {a b : World} {row : Option Nat} (h : a.grownBy b none) : a.grownBy b row := ⟨h.os, h.tape, h.output, h.size, fun k hk _ => h.block k hk (fun e => nomatch e)⟩

set_option maxHeartbeats 4000000 in
set_option maxRecDepth 100000 in
/-- THE ITERATOR's CONTRACT. -/
theorem itsUnder (N n c B c1 c2 : Nat) (A : Option Addr) (vs : List SV) (gs : List (List Int)) (w0 : World) (hx : RR w0 B A n vs gs) (hp : Hid (PMs N gs)) (hN1 : 1 ≤ N) (hN : N ≤ 1000) (hn : n ≤ 8)
    (hB : B ≤ w0.heap.size) (h1 : Blk w0 c1 2 #[.int .i64 (N : Nat)]) (h2 : Blk w0 c2 24 #[.slice A n c]) :
    Its 80 #[.pointer (some ⟨c1, 0, none⟩), .pointer (some ⟨c2, 0, none⟩)] (fun k => k < B ∨ k = c1 ∨ k = c2) (orbs gs N N) w0 := by
  intro l J W hW hsz hJ hY h0
  have HX := Lib.hid hx
  have HY := Lib.hid hY
  have HJ := Lib.hid hJ
  have k1 : W.cell? ⟨c1, 0, none⟩ = some (.int .i64 (N : Nat)) := ((show Blk W c1 2 _ from (hW c1 (.inr (.inl rfl))).trans h1).cell 0)
  have H1 : Hid (Blk W c1 2 #[.int .i64 (N : Nat)]) := Lib.hid ((hW c1 (.inr (.inl rfl))).trans h1)
  have H2 : Hid (Blk W c2 24 #[.slice A n c]) := Lib.hid ((hW c2 (.inr (.inr rfl))).trans h2)
  have hKW := Lib.hid hW
  have c1lt := H1.out.lt
  have c2lt := H2.out.lt
  obtain ⟨i0, hi, hz0, hz1, hz2⟩ := info_parts infoB
  clear hx hY hJ hW h1 h2
  refine callsIn_wide.2 ?_
  show Calls Try.prog 80 #[.func (.yield l) #[] #[], .pointer (some ⟨c1, 0, none⟩), .pointer (some ⟨c2, 0, none⟩)] W _
  go_enter Try.func80, Try.ntmps80
  go_wp2_with (first | (at_make; refine wpList_make_full _ rfl _ _ 61 rfl W.heap.size 4 i0 (.bool false) 1 Try.underlying61 hi hz0 hz1 .i64 .i64 _ _ N rfl rfl rfl rfl (by rw [hz2]; omega) (by unfold maxLen; omega) (Nat.le_refl _) ?_; intro V hown2 hgrow2; have k2 : V.cell? ⟨c1, 0, none⟩ = some (.int .i64 (N : Nat)) := ((H1.out.grown hgrow2 (by simp)).cell 0)))
  obtain ⟨cs0, blk0, bits0⟩ := made_bits hown2
  have J0 : Hid (J (orbs gs N 0).length V) := Lib.hid (HJ.out 0 W V h0 (grown_any hgrow2))
  have Bl0 := Lib.hid blk0
  have Bi0 : Hid (Bits N (sn gs N 0) cs0) := Lib.hid (bits0.congr fun z _ => sn_zero z)
  have Kp0 : Hid (∀ q, (q < B ∨ q = c1 ∨ q = c2) → V.heap[q]? = w0.heap[q]?) := Lib.hid fun q hq => by
    have e1 := hKW.out q hq
    refine (hgrow2.block q ?_ (by simp)).trans e1
    rcases hq with h | h | h
    · omega
    · subst h; exact c1lt
    · subst h; exact c2lt
  have hVlt : W.heap.size < V.heap.size := blk0.lt
  clear blk0 bits0 hown2 hgrow2 h0 k1 k2
  refine (wpIn_wide (n := 5)).1 ?_
  gi_loopw [9] (fun i wr => ∃ (k : Nat) (cs : Array Value), k ≤ N ∧ i = .int .i64 (k : Nat) ∧ J (orbs gs N k).length wr ∧ Blk wr W.heap.size 4 cs ∧ Bits N (sn gs N k) cs ∧ (∀ q, (q < B ∨ q = c1 ∨ q = c2) → wr.heap[q]? = w0.heap[q]?) ∧ W.heap.size < wr.heap.size) (fun i _ => N - (intOf i).toNat)
  case atStart => exact ⟨0, cs0, Nat.zero_le _, rfl, J0.out, Bl0.out, Bi0.out, Kp0.out, hVlt⟩
  case round =>
    clear J0 Bl0 Bi0 Kp0 hVlt
    obtain ⟨k, cs, hk, rfl, hj, blk, bits, hkp, hlt0⟩ := hrel
    have Hj := Lib.hid hj
    have Bk := Lib.hid blk
    have Bi := Lib.hid bits
    have Kp := Lib.hid hkp
    clear hj blk bits hkp
    by_cases hlt : k < N
    · have c3 : wr.cell? ⟨W.heap.size, k, none⟩ = some (.bool (sn gs N k k)) := (Bk.out.cell k).trans (Bi.out.2 k hlt)
      have c4 : wr.cell? ⟨c2, 0, none⟩ = some (.slice A n c) := ((show Blk wr c2 24 #[.slice A n c] from (Kp.out c2 (.inr (.inr rfl))).trans ((hKW.out c2 (.inr (.inr rfl))).symm.trans H2.out)).cell 0)
      rcases hs : sn gs N k k with _ | _
      · have Xr : Hid (RR wr B A n vs gs) := Lib.hid (HX.out.keep fun p hp => World.cell?_of_block (Kp.out p.block (.inl hp)))
        have hat := orbs_at hlt hs
        have Oat := Lib.hid hat.1
        have Olt := Lib.hid hat.2
        have Oyes : Hid ((orbs gs N (k + 1)).length = (orbs gs N k).length + 1) := Lib.hid (by rw [orbs_yes hs]; simp)
        have Hs := Lib.hid hs
        rw [hs] at c3
        clear hs hat
        gi_wp2
        refine ⟨trivial, ?_⟩
        refine (callsIn_wide.2 (implFrom k A n c N W.heap.size B vs gs (sn gs N k) cs wr Xr.out (by omega) hp hlt hN hn Bk.out Bi Hs (Lib.hid fun v hv h g hg => sn_out hp.out hk hv h hg))).mono ?_
        rintro e w2 ⟨S, m, c', rfl, s2, ⟨cs2, blk2, bits2⟩, g2⟩
        have Bk2 := Lib.hid blk2
        have Bi2 : Hid (Bits N (sn gs N (k + 1)) cs2) := Lib.hid (bits2.congr fun z _ => sn_succ k z)
        have Kp2 : Hid (∀ q, (q < B ∨ q = c1 ∨ q = c2) → w2.heap[q]? = w0.heap[q]?) := Lib.hid fun q hq => by
          have e1 := Kp.out q hq
          have hq2 : q < W.heap.size := by
            rcases hq with h | h | h
            · omega
            · subst h; exact c1lt
            · subst h; exact c2lt
          exact (g2.block q (by omega) (fun e => by injection e with e; omega)).trans e1
        have hz2 := g2.size
        obtain ⟨fn, tmps, assign, body, hy, hR⟩ := HY.out (orbs gs N k).length S c' m wr w2 Hj.out Olt.out hlt0 g2 (by rw [Oat.out]; exact s2)
        have HR := Lib.hid hR
        clear s2 blk2 bits2 g2 hR
        gi_wp2
        refine HR.out.mono ?_
        rintro e w3 ⟨rfl, hj3, hk3, hs3⟩
        have Hj3 : Hid (J (orbs gs N (k + 1)).length w3) := Lib.hid (by rw [Oyes.out]; exact hj3)
        have Bk3 : Hid (Blk w3 W.heap.size 4 cs2) := Lib.hid ((hk3 _ (.inr rfl)).trans Bk2.out)
        have Kp3 : Hid (∀ q, (q < B ∨ q = c1 ∨ q = c2) → w3.heap[q]? = w0.heap[q]?) := Lib.hid fun q hq => (hk3 q (.inl hq)).trans (Kp2.out q hq)
        clear hj3 hk3
        gi_wp2
        go_roundw
        case rel => exact ⟨k + 1, cs2, by omega, by go_num, Hj3.out, Bk3.out, Bi2.out, Kp3.out, by omega⟩
        case measure => simp [intOf]; omega
      · have Ono : Hid (orbs gs N (k + 1) = orbs gs N k) := Lib.hid (orbs_no hs)
        have Bi2 : Hid (Bits N (sn gs N (k + 1)) cs) := Lib.hid (Bi.out.congr fun z _ => sn_seen hp.out hlt hs z)
        rw [hs] at c3
        clear hs
        gi_wp2
        refine ⟨trivial, ?_⟩
        gi_wp2
        refine ⟨fun _ h => (by cases h), ?_⟩
        gi_wp2
        go_roundw
        case rel => exact ⟨k + 1, cs, by omega, by go_num, by rw [Ono.out]; exact Hj.out, Bk.out, Bi2.out, Kp.out, hlt0⟩
        case measure => simp [intOf]; omega
    · have hkN : k = N := by omega
      subst hkN
      gi_wp2
      go_end0
      exact ⟨⟨_, rfl⟩, Hj.out⟩
end Go.Proofs.Ytojmlmeahoppjaa
