/- The model's source of draws. Conditions: at most 4096 bytes; draws below at most 256. -/
import Derived.Test.YtooafmifbplbhaaComp
import Derived.RegionTactic
import Derived.BigQuiet
import Derived.Deep.LoopGhost
namespace Go.Proofs.Ytooafmifbplbhaa
open Go.RowKit

/-- The bytes at A can be read: len of them, in blocks below B. -/
def SB (w : World) (B : Nat) (A : Option Addr) (len : Nat) : Prop :=
  0 < len → ∃ b off, A = some ⟨b, off, none⟩ ∧ b < B ∧ ∀ j, j < len → ∃ z : Nat, z ≤ 255 ∧ w.cell? ⟨b, off + j, none⟩ = some (.int .u8 z)
theorem SB.keep {w w' : World} {B len : Nat} {A : Option Addr} (h : SB w B A len) (hk : ∀ p : Addr, p.block < B → w'.cell? p = w.cell? p) : SB w' B A len := fun hn => by
  obtain ⟨b, off, e, hb, hc⟩ := h hn
  exact ⟨b, off, e, hb, fun j hj => by obtain ⟨z, hz, c⟩ := hc j hj; exact ⟨z, hz, (hk ⟨b, off + j, none⟩ hb).trans c⟩⟩
theorem SB.up {w w' : World} {B B' len : Nat} {A : Option Addr} (h : SB w B A len) (hB : B ≤ B') : SB w B' A len := fun hn => by
  obtain ⟨b, off, e, hb, hc⟩ := h hn
  exact ⟨b, off, e, by omega, hc⟩
theorem SB.below {w w' : World} {B B' len : Nat} {A : Option Addr} (h : SB w B A len) (hb : Below B' w w') (hB : B ≤ B') : SB w' B A len := h.keep fun _ hp => hb.cell (by omega)

/-- Block g is a source. -/
def Src (w : World) (g : Nat) : Prop :=
  ∃ (A : Option Addr) (len cap k : Nat) (h : Int), k ≤ len ∧ len ≤ 4096 ∧ SB w g A len ∧ Blk w g 79 #[.slice A len cap, .int .i64 (k : Nat), .int .i64 h]
theorem Src.lt {w : World} {g : Nat} (h : Src w g) : g < w.heap.size := by
  obtain ⟨A, len, cap, k, x, h1, h2, h3, h4⟩ := h; exact h4.lt
theorem Src.below {B g : Nat} {w w' : World} (h : Src w g) (hb : Below B w w') (hg : g < B) : Src w' g := by
  obtain ⟨A, len, cap, k, x, h1, h2, h3, h4⟩ := h
  exact ⟨A, len, cap, k, x, h1, h2, h3.below hb (by omega), h4.below hb hg⟩
theorem Src.gro {g r : Nat} {w w' : World} (h : Src w g) (hb : w.grownBy w' (some r)) (hg : g < r) : Src w' g := by
  obtain ⟨A, len, cap, k, x, h1, h2, h3, h4⟩ := h
  refine ⟨A, len, cap, k, x, h1, h2, h3.keep fun p hp => World.cell?_of_block (hb.block p.block (by have := h4.lt; omega) (by simp; omega)), h4.grown hb (by simp; omega)⟩
theorem and255 (x : Int) : bits .and .i64 x 255 = x % 256 := by
  have h255 : (BitVec.ofInt 64 255).toNat = 2 ^ 8 - 1 := by decide
  have key : (BitVec.ofInt 64 x &&& BitVec.ofInt 64 255).toNat = (x % ((2 ^ 64 : Nat) : Int)).toNat % 2 ^ 8 := by
    rw [BitVec.toNat_and, BitVec.toNat_ofInt, h255, Nat.and_two_pow_sub_one_eq_mod]
  show IntKind.i64.wrap ((BitVec.ofInt 64 x &&& BitVec.ofInt 64 255).toNat : Nat) = x % 256
  rw [key, IntKind.wrap_i64]
  omega

set_option maxHeartbeats 1600000 in
theorem srcByte (g : Nat) (w : World) (hs : Src w g) :
    Calls Try.prog 104 #[.pointer (some ⟨g, 0, none⟩)] w fun e w' => ∃ r : Nat, r ≤ 255 ∧ e = .returned (.int .i64 r) ∧ Src w' g ∧ w.grownBy w' (some g) := by
  obtain ⟨A, len, cap, k, h, hk, hl, hb, blk⟩ := hs
  have c0 : w.cell? ⟨g, 0, none⟩ = some (.slice A len cap) := blk.cell 0
  have c1 : w.cell? ⟨g, 1, none⟩ = some (.int .i64 k) := blk.cell 1
  have c2 : w.cell? ⟨g, 2, none⟩ = some (.int .i64 h) := blk.cell 2
  have f1 := blk.frozen 1
  have f2 := blk.frozen 2
  obtain ⟨H, eH⟩ : ∃ H, wrap64 (wrap64 (h * 6364136223846793005) + 1442695040888963407) = H := ⟨_, rfl⟩
  obtain ⟨X, hX, eX⟩ : ∃ X : Nat, X ≤ 255 ∧ bits .xor .i64 (H / 8589934592) (H / 35184372088832) % 256 = (X : Int) := ⟨(bits .xor .i64 (H / 8589934592) (H / 35184372088832) % 256).toNat, by omega, by omega⟩
  have a255 := and255
  have Blk' := Lib.hid blk
  have j0 : (0 : Int) ≤ k := by omega
  by_cases hlt : k < len
  · obtain ⟨b, off, rfl, hb', hc⟩ := hb (by omega)
    obtain ⟨z, hz, cz⟩ := hc k hlt
    have cz2 : (w.setCell ⟨g, 2, none⟩ (.int .i64 H)).cell? ⟨b, off + k, none⟩ = some (.int .u8 z) := (World.cell?_setCell_other _ _ _ _ (fun e => by injection e with e1; omega)).trans cz
    have j1 : (k : Int) < len := by omega
    have j2 : decide ((k : Int) < (len : Int)) = true := by simpa using hlt
    have Hb := Lib.hid hb
    have Blk2 := Lib.hid ((Blk'.out.set_ 2 (.int .i64 H)).set_ 1 (.int .i64 ((k : Int) + 1)))
    clear hb hc blk
    go_enter Try.func104, Try.ntmps104
    go_wp2_with fail
    go_quiet (fail)
    go_wp2_with fail
    go_quiet (fail)
    go_wp2_with fail
    go_quiet (fail)
    go_wp2_with fail
    go_ret
    refine ⟨(X + z) % 256, by omega, ret_int (by rw [Int.natCast_emod, Int.natCast_add]; rfl), ⟨_, len, cap, k + 1, H, by omega, hl, ?_, Blk2.out⟩, ?_⟩
    · exact Hb.out.keep fun p hp => by
        refine (World.cell?_setCell_other _ _ _ _ (fun e => by subst e; simp at hp)).trans ?_
        exact (World.cell?_setCell_other _ _ _ _ (fun e => by subst e; simp at hp))
    · exact grown_set (grown_drewN (grown_set (grown_refl w _) 2 _) _) 1 _
  · have j2 : decide ((k : Int) < (len : Int)) = false := by simp; omega
    have Hb := Lib.hid hb
    have Blk2 := Lib.hid (Blk'.out.set_ 2 (.int .i64 H))
    clear hb blk
    go_enter Try.func104, Try.ntmps104
    go_wp2_with fail
    go_quiet (fail)
    go_wp2_with fail
    go_quiet (fail)
    go_wp2_with fail
    go_ret
    refine ⟨X, hX, rfl, ⟨A, len, cap, k, H, by omega, hl, ?_, Blk2.out⟩, ?_⟩
    · exact Hb.out.keep fun p hp => by
        exact (World.cell?_setCell_other _ _ _ _ (fun e => by subst e; simp at hp))
    · exact grown_drewN (grown_drewN (grown_set (grown_refl w _) 2 _) _) _

theorem grown_trans' {a b c : World} {row : Option Nat} (h : a.grownBy b row) (k : b.grownBy c row) : a.grownBy c row :=
  ⟨k.os.trans h.os, k.tape.trans h.tape, k.output.trans h.output, Nat.le_trans h.size k.size, fun i hi hn => (k.block i (Nat.lt_of_lt_of_le hi h.size) hn).trans (h.block i hi hn)⟩

set_option maxHeartbeats 800000 in
theorem srcBelow (g : Nat) (N : Int) (n : Nat) (w : World) (hs : Src w g) (hN : N = (n : Int)) (h1 : 1 ≤ n) (h2 : n ≤ 256) :
    Calls Try.prog 89 #[.pointer (some ⟨g, 0, none⟩), .int .i64 N] w fun e w' => ∃ r : Nat, r < n ∧ e = .returned (.int .i64 r) ∧ Src w' g ∧ w.grownBy w' (some g) := by
  subst hN
  have d1 : decide ((n : Int) ≤ 0) = false := by simp; omega
  have d2 : decide ((n : Int) ≤ 256) = true := by simp; omega
  go_enter Try.func89, Try.ntmps89
  go_wp2_with fail
  refine (srcByte g w hs).mono ?_
  rintro e w1 ⟨r, hr, rfl, s1, g1⟩
  have S1 := Lib.hid s1
  have G1 := Lib.hid g1
  clear s1 g1
  go_wp2_with fail
  go_ret
  exact ⟨r % n, Nat.mod_lt _ (by omega), ret_int (by rw [Int.natCast_emod]), S1.out, G1.out⟩

set_option maxHeartbeats 800000 in
theorem srcOne (g : Nat) (N : Int) (n : Nat) (w : World) (hs : Src w g) (hN : N = (n : Int)) (h1 : 1 ≤ n) (h2 : n ≤ 256) :
    Calls Try.prog 87 #[.pointer (some ⟨g, 0, none⟩), .int .i64 N] w fun e w' => ∃ b : Bool, e = .returned (.bool b) ∧ Src w' g ∧ w.grownBy w' (some g) := by
  subst hN
  go_enter Try.func87, Try.ntmps87
  go_wp2_with fail
  refine (srcBelow g _ n w hs rfl h1 h2).mono ?_
  rintro e w1 ⟨r, hr, rfl, s1, g1⟩
  have S1 := Lib.hid s1
  have G1 := Lib.hid g1
  clear s1 g1
  by_cases hr0 : r = 0
  · have e0 : ((r : Int) == 0) = true := by rw [beq_iff_eq]; omega
    clear hr0
    go_wp2_with fail
    go_ret
    exact ⟨true, rfl, S1.out, G1.out⟩
  · have e0 : ((r : Int) == 0) = false := by rw [beq_eq_false_iff_ne]; omega
    clear hr0
    go_wp2_with fail
    go_ret
    exact ⟨false, rfl, S1.out, G1.out⟩

theorem srcBetween (g lo hi : Nat) (w : World) (hs : Src w g) (h1 : lo ≤ hi) (h2 : hi ≤ 200) :
    Calls Try.prog 86 #[.pointer (some ⟨g, 0, none⟩), .int .i64 (lo : Int), .int .i64 (hi : Int)] w fun e w' => ∃ r : Nat, lo ≤ r ∧ r ≤ hi ∧ e = .returned (.int .i64 r) ∧ Src w' g ∧ w.grownBy w' (some g) := by
  go_enter Try.func86, Try.ntmps86
  go_wp2_with fail
  refine (srcBelow g _ (hi - lo + 1) w hs (by omega) (by omega) (by omega)).mono ?_
  rintro e w1 ⟨r, hr, rfl, s1, g1⟩
  have S1 := Lib.hid s1
  have G1 := Lib.hid g1
  clear s1 g1
  go_wp2_with fail
  go_ret
  exact ⟨lo + r, by omega, by omega, ret_int (by omega), S1.out, G1.out⟩

set_option maxHeartbeats 1600000 in
theorem newSrc (len cap : Nat) (A : Option Addr) (w : World) (hb : SB w w.heap.size A len) (hl : len ≤ 4096) :
    Calls Try.prog 45 #[.slice A len cap] w fun e w' => e = .returned (.pointer (some ⟨w.heap.size, 0, none⟩)) ∧ Src w' w.heap.size ∧ Below w.heap.size w w' := by
  go_enter Try.func45, Try.ntmps45
  go_wp2_with fail
  go_loopg [3, 4] len (fun gg h i wr => ∃ k x, k ≤ len ∧ len - k ≤ gg ∧ i = .int .i64 (k : Nat) ∧ h = .int .i64 x ∧ wr = w)
  case atStart => exact ⟨0, _, Nat.zero_le _, by omega, rfl, rfl, rfl⟩
  case round =>
    obtain ⟨k, x, hk, hg, rfl, rfl, rfl⟩ := hrel
    by_cases hlt : k < len
    · obtain ⟨b, off, rfl, hb', hc⟩ := hb (by omega)
      obtain ⟨z, hz, cz⟩ := hc k hlt
      have j1 : (k : Int) < len := by omega
      have j0 : (0 : Int) ≤ k := by omega
      clear hb hc
      go_wp2_with fail
      go_roundg (len - (k + 1))
      case rel => exact ⟨k + 1, _, by omega, Nat.le_refl _, by go_num, rfl, rfl⟩
      case measure => omega
    · have hkn : k = len := by omega
      subst hkn
      have Hb := Lib.hid hb
      clear hb
      go_wp2_with fail
      go_ret
      exact ⟨rfl, ⟨A, k, cap, 0, x, Nat.zero_le _, hl, (Hb.out.below ((Below.refl wr.heap.size wr).alloc (Nat.le_refl _) _) (Nat.le_refl _)), Blk.new _ _ _⟩, (Below.refl _ _).alloc (Nat.le_refl _) _⟩
end Go.Proofs.Ytooafmifbplbhaa
