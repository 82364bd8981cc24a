/- The program's functions at permutations. -/
import Derived.Test.YtonanelghnjhpabGrpM
import Derived.Test.YtonanelghnjhpabDice
namespace Go.Proofs.Ytonanelghnjhpab
open Go.RowKit

/-- Compose at two permutations of one degree. -/
theorem compT (A B : Option Addr) (c d n : Nat) (p q : List Int) (b1 b2 : Nat) (w : World) (hp : Slc w b1 A n c p) (hq : Slc w b2 B n d q) (ip : Hid (IsP p)) (iq : Hid (IsP q)) :
    Calls Try.prog 15 #[.slice A n c, .slice B n d] w fun e w' => ∃ A' c', e = .returned (.tuple #[.slice A' n c', .bool true]) ∧ Slc w' w.heap.size A' n c' (compL p q) ∧ Below w.heap.size w w' := by
  have hn : n ≤ 20 := by rw [← hp.1]; exact ip.out.le
  have hs : sameD p q = true := sameD_iff.2 ⟨hp.1.trans hq.1.symm, ip.out, iq.out⟩
  refine (implCompose A B c d n n p q w hp.ri_ hq.ri_ hp.hid hq.hid (by omega) (by omega)).mono ?_
  rintro e w' ⟨A', n', c', rfl, s, _, b⟩
  have hc : composeL p q = compL p q := if_pos hs
  rw [hc] at s
  have : n' = n := by rw [← s.1, compL_length, hp.1]
  subst this
  exact ⟨A', c', by rw [hs], s, b⟩
theorem invT (A : Option Addr) (c n : Nat) (p : List Int) (b1 : Nat) (w : World) (hp : Slc w b1 A n c p) (ip : Hid (IsP p)) :
    Calls Try.prog 21 #[.slice A n c] w fun e w' => ∃ A' c', e = .returned (.slice A' n c') ∧ Slc w' w.heap.size A' n c' (invL p n) ∧ Below w.heap.size w w' := by
  have hn : n ≤ 20 := by rw [← hp.1]; exact ip.out.le
  refine (implInverse A c n p w hp.ri_ hp.hid (by omega)).mono ?_
  rintro e w' ⟨A', n', c', rfl, s, _, b⟩
  have hc : inverseL p = invL p n := by unfold inverseL; rw [if_pos (isP_iff.2 ip.out), hp.1]
  rw [hc] at s
  have : n' = n := by rw [← s.1, invL_length, hp.1]
  subst this
  exact ⟨A', c', rfl, s, b⟩
theorem idT (K : Int) (n : Nat) (w : World) (hK : K = (n : Int)) (h1 : 1 ≤ n) (h2 : n ≤ 20) :
    Calls Try.prog 19 #[.int .i64 K] w fun e w' => ∃ A' c', e = .returned (.slice A' n c') ∧ Slc w' w.heap.size A' n c' (idL n) ∧ Below w.heap.size w w' := by
  subst hK
  exact implId_core n w h1 h2
theorem likeT {xs : List Int} (b1 b2 : Nat) (A B : Option Addr) (n c m d : Nat) (w : World) (hx : Slc w b1 A n c xs) (hy : Slc w b2 B m d xs) (hn : n ≤ 2097152) :
    Calls Try.prog 17 #[.slice A n c, .slice B m d] w fun e w' => e = .returned (.bool true) ∧ Below w.heap.size w w' :=
  (quiet_below (likeI_any A B c d n m _ _ w hx.ri_ hy.ri_ hx.hid hy.hid hn (by rw [← hy.1, hx.1]; exact hn))).mono fun e w' ⟨he, hb⟩ => ⟨he.trans (ret_bool (by simp)), hb⟩
theorem isPT (A : Option Addr) (c n : Nat) (p : List Int) (b1 : Nat) (w : World) (hp : Slc w b1 A n c p) (ip : Hid (IsP p)) :
    Calls Try.prog 24 #[.slice A n c] w fun e w' => e = .returned (.bool true) ∧ Below w.heap.size w w' := by
  have hn : n ≤ 20 := by rw [← hp.1]; exact ip.out.le
  exact (implIsP A c n p w hp.ri_ hp.hid (by omega)).mono fun e w' ⟨he, hb⟩ => ⟨he.trans (ret_bool (isP_iff.2 ip.out)), hb⟩
theorem bigT (A : Option Addr) (len cap : Nat) (w : World) (hl : len ≤ 4096) : Calls Try.prog 11 #[.slice A len cap] w fun e w' => e = .returned (.bool false) ∧ w = w' := by
  have d1 : decide ((4096 : Int) < len) = false := by simp; omega
  go_enter Try.func11, Try.ntmps11
  go_wp2
  go_ret
  exact ⟨rfl, rfl⟩
theorem bigF (A : Option Addr) (len cap : Nat) (w : World) (hl : 4096 < len) : Calls Try.prog 11 #[.slice A len cap] w fun e w' => e = .returned (.bool true) ∧ w = w' := by
  have d1 : decide ((4096 : Int) < len) = true := by simp; omega
  go_enter Try.func11, Try.ntmps11
  go_wp2
  go_ret
  exact ⟨rfl, rfl⟩
theorem swapT (g len cap n : Nat) (K : Int) (A : Option Addr) (B : Nat) (w : World) (hd : Dice w g A len cap) (hb : RB w B A len) (hl : len ≤ 4096) (hn1 : 1 ≤ n) (hn : n ≤ 20) (hB : B ≤ g) (hg : g < w.heap.size) (hK : K = (n : Int)) :
    Calls Try.prog 13 #[.pointer (some ⟨g, 0, none⟩), .int .i64 K] w fun e w' => ∃ A' c' xs, e = .returned (.slice A' n c') ∧ Slc w' w.heap.size A' n c' xs ∧ IsP xs ∧ Dice w' g A len cap ∧ w.grownBy w' (some g) := by
  subst hK
  exact swapPerm g len cap n A B w hd hb hl hn1 hn hB hg
theorem Slc.gro {w w' : World} {base n c g : Nat} {A : Option Addr} {xs : List Int} (h : Slc w base A n c xs) (hg : w.grownBy w' (some g)) (hb : g < base) : Slc w' base A n c xs :=
  h.kept hg (by
    rcases e : (Value.slice A n c).ownBlock with _ | k
    · exact .inl rfl
    · right; have := (h.lt_ k e).1; simp; omega)
theorem below_gro {w0 w w' : World} {g : Nat} (h : Below w0.heap.size w0 w) (hg : w.grownBy w' (some g)) (hB : w0.heap.size ≤ g) : Below w0.heap.size w0 w' := h.grown hg h.size (fun k e => by injection e with e; omega)
theorem RB.of_row {w : World} {a : Option Addr} {len cap : Nat} {zs : List Int}
    (h : (a = none ∧ len = 0 ∧ cap = 0 ∧ zs = []) ∨ ∃ x, a = some x ∧ len ≤ cap ∧ cap ≤ maxLen ∧ zs.length = cap ∧ (∀ i, i < zs.length → w.cell? (x.add i) = some (.int .u8 (zs.getD i 0))) ∧ ∀ n ∈ zs, (Lit.int .u8 n).wf = true)
    (hw : ∀ n : Int, (Lit.int .u8 n).wf = true → 0 ≤ n ∧ n ≤ 255) : RB w w.heap.size a len := by
  rcases h with ⟨rfl, rfl, rfl, rfl⟩ | ⟨⟨b, off, spot⟩, rfl, hl, hm, hz, hc, hwf⟩
  · exact fun h => absurd h (by omega)
  · intro hp
    have h0 := hc 0 (by omega)
    have hspot : spot = none := by simpa [Addr.add] using World.cell?_spot h0
    subst hspot
    refine ⟨b, off, rfl, ?_, fun j hj => ?_⟩
    · have := World.block_lt_of_cell? w _ h0
      simpa [Addr.add] using this
    · have hjz : j < zs.length := by omega
      have hr := hw (zs.getD j 0) (hwf _ (by rw [List.getD_eq_getElem?_getD, List.getElem?_eq_getElem hjz]; exact List.getElem_mem _))
      refine ⟨(zs.getD j 0).toNat, by omega, ?_⟩
      rw [Int.toNat_of_nonneg hr.1, ← hc j hjz]
      unfold Addr.add
      split <;> simp_all
end Go.Proofs.Ytonanelghnjhpab
