/- The laws' dice and the permutations drawn by them. Conditions: at most 4096 bytes; degrees from 1 to 20. -/
import Derived.Test.YtonanelghnjhpabComp
import Derived.RegionTactic
namespace Go.Proofs.Ytonanelghnjhpab
open Go.RowKit

/-- The bytes at A can be read: len of them, in blocks below B. -/
def RB (w : World) (B : Nat) (A : Option Addr) (len : Nat) : Prop :=
  0 < len → ∃ b off, A = some ⟨b, off, none⟩ ∧ b < B ∧ ∀ j, j < len → ∃ z : Nat, z ≤ 255 ∧ w.cell? ⟨b, off + j, none⟩ = some (.int .u8 z)
theorem RB.keep {w w' : World} {B len : Nat} {A : Option Addr} (h : RB w B A len) (hk : ∀ p : Addr, p.block < B → w'.cell? p = w.cell? p) : RB w' B A len := fun hn => by
  obtain ⟨b, off, e, hb, hc⟩ := h hn
  exact ⟨b, off, e, hb, fun j hj => by obtain ⟨z, hz, c⟩ := hc j hj; exact ⟨z, hz, (hk ⟨b, off + j, none⟩ hb).trans c⟩⟩
theorem RB.below {w w' : World} {B B' len : Nat} {A : Option Addr} (h : RB w B A len) (hb : Below B' w w') (hB : B ≤ B') : RB w' B A len := h.keep fun _ hp => hb.cell (by omega)

/-- Block g is a dice over those bytes. -/
def Dice (w : World) (g : Nat) (A : Option Addr) (len cap : Nat) : Prop :=
  ∃ (i : Nat) (h : Int), i ≤ len ∧ 0 ≤ h ∧ h < 18446744073709551616 ∧ Blk w g 43 #[.slice A len cap, .int .i64 i, .int .u64 h]

theorem wrap_range (n : Int) : 0 ≤ IntKind.u64.wrap n ∧ IntKind.u64.wrap n < 18446744073709551616 := by
  have e : IntKind.u64.wrap n = n % 18446744073709551616 := by simp [IntKind.wrap, IntKind.bits, IntKind.signed]
  rw [e]
  exact ⟨Int.emod_nonneg _ (by decide), Int.emod_lt_of_pos _ (by decide)⟩
theorem and_small (a : Int) (h0 : 0 ≤ a) (h1 : a < 18446744073709551616) : ∃ X : Nat, X ≤ 16777215 ∧ bits BinOp.and IntKind.u64 a 16777215 = (X : Int) := by
  refine ⟨a.toNat &&& 16777215, Nat.and_le_right, ?_⟩
  have h := bits_and_u64_nat a.toNat 16777215 (by omega) (by omega)
  rw [Int.toNat_of_nonneg h0] at h
  exact h

set_option maxHeartbeats 400000 in
theorem diceBelow (g len cap N : Nat) (A : Option Addr) (B : Nat) (w : World) (hd : Dice w g A len cap) (hb : RB w B A len) (hl : len ≤ 4096) (hN : 1 ≤ N) (hN2 : N ≤ 100) (hB : B ≤ g) :
    Calls Try.prog 14 #[.pointer (some ⟨g, 0, none⟩), .int .i64 N] w fun e w' => ∃ r : Nat, r < N ∧ e = .returned (.int .i64 r) ∧ Dice w' g A len cap ∧ w.grownBy w' (some g) := by
  obtain ⟨i, h, hi, h0, h1, blk⟩ := hd
  have c0 : w.cell? ⟨g, 0, none⟩ = some (.slice A len cap) := blk.cell 0
  have c1 : w.cell? ⟨g, 1, none⟩ = some (.int .i64 i) := blk.cell 1
  have c2 : w.cell? ⟨g, 2, none⟩ = some (.int .u64 h) := blk.cell 2
  have f1 := blk.frozen 1
  have f2 := blk.frozen 2
  obtain ⟨H, eH⟩ : ∃ H, IntKind.u64.wrap (IntKind.u64.wrap (h * 6364136223846793005) + 1442695040888963407) = H := ⟨_, rfl⟩
  have hH := wrap_range (IntKind.u64.wrap (h * 6364136223846793005) + 1442695040888963407)
  rw [eH] at hH
  obtain ⟨X, hX, eX⟩ := and_small (H / 8589934592) (by omega) (by omega)
  have HH := Lib.hid hH
  have Blk' := Lib.hid blk
  have j0 : (0 : Int) ≤ i := by omega
  by_cases hlt : i < len
  · obtain ⟨b, off, rfl, hb', hc⟩ := hb (by omega)
    obtain ⟨z, hz, cz⟩ := hc i hlt
    have cz2 : (w.setCell ⟨g, 2, none⟩ (.int .u64 H)).cell? ⟨b, off + i, none⟩ = some (.int .u8 z) := (World.cell?_setCell_other _ _ _ _ (fun e => by injection e with e1; omega)).trans cz
    have j1 : (i : Int) < len := by omega
    have j2 : decide ((i : Int) < (len : Int)) = true := by simpa using hlt
    have Hb := Lib.hid hb'
    have Blk2 := Lib.hid ((Blk'.out.set_ 2 (.int .u64 H)).set_ 1 (.int .i64 ((i : Int) + 1)))
    clear hb hc blk hH h0 h1
    go_enter Try.func14, Try.ntmps14
    go_wp2_with fail
    go_quiet (fail)
    go_wp2_with fail
    go_quiet (fail)
    go_wp2_with fail
    go_ret
    refine ⟨(X + z) % N, Nat.mod_lt _ (by omega), ret_int (by rw [Int.natCast_emod, Int.natCast_add]), ⟨i + 1, H, by omega, HH.out.1, HH.out.2, ?_⟩, ?_⟩
    · exact Blk2.out
    · exact grown_set (grown_drewN (grown_set (grown_refl w _) 2 _) _) 1 _
  · have j2 : decide ((i : Int) < (len : Int)) = false := by simp; omega
    have Blk2 := Lib.hid (Blk'.out.set_ 2 (.int .u64 H))
    clear hb blk hH h0 h1
    go_enter Try.func14, Try.ntmps14
    go_wp2_with fail
    go_quiet (fail)
    go_wp2_with fail
    go_ret
    refine ⟨X % N, Nat.mod_lt _ (by omega), ret_int (by rw [Int.natCast_emod]), ⟨i, H, by omega, HH.out.1, HH.out.2, ?_⟩, ?_⟩
    · exact Blk2.out
    · exact grown_drewN (grown_set (grown_refl w _) 2 _) _

theorem diceBelowK (g len cap N : Nat) (K : Int) (A : Option Addr) (B : Nat) (w : World) (hd : Dice w g A len cap) (hb : RB w B A len) (hl : len ≤ 4096) (hN : 1 ≤ N) (hN2 : N ≤ 100) (hB : B ≤ g) (hK : K = (N : Int)) :
    Calls Try.prog 14 #[.pointer (some ⟨g, 0, none⟩), .int .i64 K] w fun e w' => ∃ r : Nat, r < N ∧ e = .returned (.int .i64 r) ∧ Dice w' g A len cap ∧ w.grownBy w' (some g) := by
  subst hK
  exact diceBelow g len cap N A B w hd hb hl hN hN2 hB
theorem grown_trans {a b c : World} {row : Option Nat} (h : a.grownBy b row) (k : b.grownBy c row) : a.grownBy c row :=
  ⟨k.os.trans h.os, k.tape.trans h.tape, k.output.trans h.output, Nat.le_trans h.size k.size, fun i hi hn => (k.block i (Nat.lt_of_lt_of_le hi h.size) hn).trans (h.block i hi hn)⟩
theorem RB.gro {w w' : World} {B len g : Nat} {A : Option Addr} (h : RB w B A len) (hg : w.grownBy w' (some g)) (hB : B ≤ g) (hg2 : g < w.heap.size) : RB w' B A len :=
  h.keep fun p hp => World.cell?_of_block (hg.block p.block (by omega) (by simp; omega))

set_option maxHeartbeats 800000 in
theorem rollDice (len cap : Nat) (S : Int) (A : Option Addr) (w : World) (hb : RB w w.heap.size A len) (hl : len ≤ 4096) (hS0 : 0 ≤ S) (hS1 : S ≤ 1000) :
    Calls Try.prog 12 #[.slice A len cap, .int .u64 S] w fun e w' => e = .returned (.pointer (some ⟨w.heap.size, 0, none⟩)) ∧ Dice w' w.heap.size A len cap ∧ Below w.heap.size w w' ∧ w.heap.size < w'.heap.size := by
  go_enter Try.func12, Try.ntmps12
  go_wp2_with fail
  go_loopw [6] (fun i wr => ∃ (k : Nat) (h : Int), k ≤ len ∧ i = .int .i64 (k : Nat) ∧ 0 ≤ h ∧ h < 18446744073709551616 ∧ Blk wr w.heap.size 43 #[.slice A len cap, .int .i64 0, .int .u64 h] ∧ Below w.heap.size w wr) (fun i _ => len - (intOf i).toNat)
  case atStart => exact ⟨0, _, Nat.zero_le _, rfl, by omega, by omega, Blk.new _ _ _, (Below.refl _ _).alloc (Nat.le_refl _) _⟩
  case round =>
    obtain ⟨k, h, hk, rfl, h0, h1, blk, bel⟩ := hrel
    by_cases hlt : k < len
    · obtain ⟨b, off, rfl, hb', hc⟩ := hb (by omega)
      obtain ⟨z, hz, cz0⟩ := hc k hlt
      have cz := (bel.cell (p := ⟨b, off + k, none⟩) hb').trans cz0
      have c2 : wr.cell? ⟨w.heap.size, 2, none⟩ = some (.int .u64 h) := blk.cell 2
      have f2 := blk.frozen 2
      obtain ⟨H, eH⟩ : ∃ H, IntKind.u64.wrap (IntKind.u64.wrap (IntKind.u64.wrap (h * 1099511628211) + z) + 3) = H := ⟨_, rfl⟩
      have hH := wrap_range (IntKind.u64.wrap (IntKind.u64.wrap (h * 1099511628211) + z) + 3)
      rw [eH] at hH
      have HH := Lib.hid hH
      have Blk2 := Lib.hid (blk.set_ 2 (.int .u64 H))
      have Bel2 := Lib.hid (bel.setCell (p := ⟨w.heap.size, 2, none⟩) (Nat.le_refl _) (.int .u64 H))
      have j1 : (k : Int) < len := by omega
      have j0 : (0 : Int) ≤ k := by omega
      clear blk bel hc hb cz0 hH h0 h1
      go_wp2_with fail
      go_region
      all_goals go_wp2_with fail
      all_goals go_roundw
      case rel => exact ⟨k + 1, H, by omega, by go_num, HH.out.1, HH.out.2, Blk2.out, Bel2.out.drew⟩
      case measure => simp [intOf]; omega
    · have hkn : k = len := by omega
      subst hkn
      have Blk' := Lib.hid blk
      have Bel := Lib.hid bel
      clear blk bel
      go_wp2
      go_ret
      exact ⟨rfl, ⟨0, h, Nat.zero_le _, h0, h1, Blk'.out⟩, Bel.out, Blk'.out.lt⟩

theorem isP_id {n : Nat} (h1 : 1 ≤ n) (h2 : n ≤ 20) : IsP (idL n) := by
  refine ⟨by rw [idL_length]; exact h1, by rw [idL_length]; exact h2, fun i hi => ?_, fun i hi => ?_, fun i j hi hj e => ?_⟩
  · rw [idL_length] at hi; rw [idL_getD hi]; omega
  · rw [idL_length] at hi ⊢; rw [idL_getD hi]; omega
  · rw [idL_length] at hi hj; rw [idL_getD hi, idL_getD hj] at e; omega
theorem isP_swap {p : List Int} (h : IsP p) {i k : Nat} (hi : i < p.length) (hk : k < p.length) : IsP ((p.set i (p.getD k 0)).set k (p.getD i 0)) := by
  have hl : ((p.set i (p.getD k 0)).set k (p.getD i 0)).length = p.length := by simp
  have hl1 : (p.set i (p.getD k 0)).length = p.length := by simp
  have hg : ∀ j, j < p.length → ((p.set i (p.getD k 0)).set k (p.getD i 0)).getD j 0 = if k = j then p.getD i 0 else if i = j then p.getD k 0 else p.getD j 0 := fun j hj => by
    rw [set_getD hl1 hj, set_getD rfl hj]
  refine ⟨by rw [hl]; exact h.pos, by rw [hl]; exact h.le, fun j hj => ?_, fun j hj => ?_, fun a b ha hb e => ?_⟩
  · rw [hl] at hj; rw [hg j hj]
    split
    · exact h.lo i hi
    · split
      · exact h.lo k hk
      · exact h.lo j hj
  · rw [hl] at hj ⊢; rw [hg j hj]
    split
    · exact h.hi i hi
    · split
      · exact h.hi k hk
      · exact h.hi j hj
  · rw [hl] at ha hb
    rw [hg a ha, hg b hb] at e
    have inj := h.inj
    split at e
    · split at e
      · omega
      · split at e
        · have := inj i k hi hk e; omega
        · have := inj i b hi hb e; omega
    · split at e
      · split at e
        · have := inj k i hk hi e; omega
        · split at e
          · omega
          · have := inj k b hk hb e; omega
      · split at e
        · have := inj a i ha hi e; omega
        · split at e
          · have := inj a k ha hk e; omega
          · exact inj a b ha hb e

set_option maxHeartbeats 1600000 in
/-- swapPermutation: some permutation. -/
theorem swapPerm (g len cap n : Nat) (A : Option Addr) (B : Nat) (w : World) (hd : Dice w g A len cap) (hb : RB w B A len) (hl : len ≤ 4096) (hn1 : 1 ≤ n) (hn : n ≤ 20) (hB : B ≤ g) (hg : g < w.heap.size) :
    Calls Try.prog 13 #[.pointer (some ⟨g, 0, none⟩), .int .i64 n] w fun e w' => ∃ A' c' xs, e = .returned (.slice A' n c') ∧ Slc w' w.heap.size A' n c' xs ∧ IsP xs ∧ Dice w' g A len cap ∧ w.grownBy w' (some g) := by
  have Hd := Lib.hid hd
  clear hd
  go_enter Try.func13, Try.ntmps13
  go_wp2
  go_loopw [5, 6] (fun v i wr => ∃ k A c, k ≤ n ∧ i = .int .i64 (k : Nat) ∧ v = .slice A k c ∧ Slc wr w.heap.size A k c (idL k) ∧ Below w.heap.size w wr) (fun _ i _ => n - (intOf i).toNat)
  case atStart => exact ⟨0, _, _, Nat.zero_le _, rfl, rfl, Slc.lit0 w _ (Nat.le_refl _), (Below.refl _ _).alloc (Nat.le_refl _) _⟩
  case round =>
    obtain ⟨k, A1, c1, hk, rfl, rfl, own, bel⟩ := hrel
    have Own' := Lib.hid own
    have Bel := Lib.hid bel
    clear own bel
    by_cases hlt : k < n
    · go_wp2_with (first | (at_builtin; refine wpList_app1 rfl _ _ rfl w.heap.size A1 k c1 (idL k) rfl (Own'.out.alloc _) wr.heap.size k rfl (by rw [World.cell?_alloc_at _ _ _ _ rfl]; rfl) (by omega) (by have := Bel.out.size; simp; omega) ?_; intro A' c' w1 own1 hg1))
      have Own1 := Lib.hid own1
      have Bel1 : Hid (Below w.heap.size w w1) := Lib.hid ((Bel.out.alloc Bel.out.size _).grown hg1 (by have := Bel.out.size; simp; omega) (fun j hj => (Own'.out.lt_ j hj).1))
      clear own1 hg1
      go_wp2
      go_roundw
      case rel => exact ⟨k + 1, A', c', by omega, by go_num, rfl, by rw [idL_succ]; exact Own1.out, Bel1.out⟩
      case measure => simp [intOf]; omega
    · have hkn : k = n := by omega
      subst hkn
      have R : ∃ q, A1 = some ⟨q, 0, none⟩ ∧ w.heap.size ≤ q ∧ q < wr.heap.size := by
        rcases Own'.out.at_ with ⟨_, _, h, _⟩ | h
        · omega
        · exact h
      obtain ⟨q, rfl, hq1, hq2⟩ := R
      have Ro : Hid (Row wr w.heap.size q k c1 (idL k)) := Lib.hid ⟨Own'.out.1, by have := Own'.out.2; unfold Own at this; rw [Own'.out.1] at this; exact this⟩
      have D1 : Hid (Dice wr g A len cap) := Lib.hid (by obtain ⟨i, h, h1, h2, h3, h4⟩ := Hd.out; exact ⟨i, h, h1, h2, h3, h4.below Bel.out hg⟩)
      have Gr : Hid (w.grownBy wr (some g)) := Lib.hid ⟨Bel.out.os, Bel.out.tape, Bel.out.output, Bel.out.size, fun b hb _ => Bel.out.block b hb⟩
      clear Own' Hd
      go_wp2_with fail
      obtain ⟨wo, rfl⟩ : ∃ wo : World, wo = wr := ⟨_, rfl⟩
      go_loopw [7, 8, 9] (fun i _ _ wr => ∃ (t : Nat) (ys : List Int), t + 1 ≤ k ∧ i = .int .i64 (t : Nat) ∧ Row wr w.heap.size q k c1 ys ∧ IsP ys ∧ Dice wr g A len cap ∧ w.grownBy wr (some g) ∧ wo.heap.size ≤ wr.heap.size) (fun i _ _ _ => (intOf i).toNat)
      case atStart => exact ⟨k - 1, _, by omega, by go_num, Ro.out, isP_id hn1 hn, D1.out, Gr.out, Nat.le_refl _⟩
      case round =>
        obtain ⟨t, ys, ht, rfl, row, ip, dice, gro, sz⟩ := hrel
        have Row' := Lib.hid row
        have Ip := Lib.hid ip
        have Di := Lib.hid dice
        have Gro := Lib.hid gro
        clear row ip dice gro
        by_cases h0 : 0 < t
        · have h0' : (0 : Int) < t := by omega
          go_wp2_with fail
          refine (diceBelowK g len cap (t + 1) _ A B wr Di.out (hb.gro Gro.out hB hg) hl (by omega) (by omega) hB (by omega)).mono ?_
          rintro e w2 ⟨r, hr, rfl, di2, gro2⟩
          have row2 := Row'.out.kept gro2 (by simp; omega)
          obtain ⟨a, ea⟩ : ∃ a, ys.getD t 0 = a := ⟨_, rfl⟩
          obtain ⟨b, eb⟩ : ∃ b, ys.getD r 0 = b := ⟨_, rfl⟩
          have ct := row2.cell (j := t) (by omega)
          have cr := row2.cell (j := r) (by omega)
          rw [ea] at ct
          rw [eb] at cr
          have ft := row2.free t
          have row3 := row2.store t b
          have cr' := row3.cell (j := r) (by omega)
          rw [set_getD row2.1 (by omega), eb, ite_self] at cr'
          have fr' := row3.free r
          have Row4 := Lib.hid (row3.store r a)
          have Ip4 : Hid (IsP ((ys.set t b).set r a)) := Lib.hid (by rw [← ea, ← eb]; exact isP_swap Ip.out (by rw [row2.1]; omega) (by rw [row2.1]; omega))
          have hqg : ∀ j v, ∀ W : World, Dice W g A len cap → Dice (W.setCell ⟨q, j, none⟩ v) g A len cap := fun j v W ⟨i, h, h1, h2, h3, h4⟩ => ⟨i, h, h1, h2, h3, h4.far (by simp; omega) _⟩
          have Di4 := Lib.hid (hqg r (.int .i64 a) _ (hqg t (.int .i64 b) _ di2))
          have Gr4 : Hid (w.grownBy ((w2.setCell ⟨q, t, none⟩ (.int .i64 b)).setCell ⟨q, r, none⟩ (.int .i64 a)) (some g)) := by
            have g0 := grown_trans Gro.out gro2
            exact Lib.hid ⟨g0.os, g0.tape, g0.output, by simpa [World.setCell] using g0.size, fun i hi hn => by
              rw [Below.heap_setCell _ _ _ _ (by simp; omega), Below.heap_setCell _ _ _ _ (by simp; omega)]; exact g0.block i hi hn⟩
          have Sz4 : Hid (wo.heap.size ≤ ((w2.setCell ⟨q, t, none⟩ (.int .i64 b)).setCell ⟨q, r, none⟩ (.int .i64 a)).heap.size) := Lib.hid (by have := gro2.size; simp [World.setCell]; omega)
          clear di2 gro2 row2 row3 ea eb hqg
          go_wp2_with fail
          go_roundw
          case rel => exact ⟨t - 1, _, by omega, by go_num, Row4.out, Ip4.out, Di4.out, Gr4.out, Sz4.out⟩
          case measure => simp [intOf]; omega
        · go_wp2_with fail
          go_ret
          exact ⟨_, _, _, rfl, Row'.out.slc, Ip.out, Di.out, Gro.out⟩
end Go.Proofs.Ytonanelghnjhpab
