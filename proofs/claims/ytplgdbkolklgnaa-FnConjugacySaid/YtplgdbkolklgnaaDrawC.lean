/- The model's draw of two permutations for FindConjugator. Condition: at most 4096 bytes. -/
import Derived.Test.YtplgdbkolklgnaaSrcA
import Derived.Test.YtplgdbkolklgnaaFind
import Derived.Test.YtplgdbkolklgnaaConj
import Derived.Test.YtplgdbkolklgnaaHelp
namespace Go.Proofs.Ytplgdbkolklgnaa
open Go.RowKit

theorem bigT2 (A : Option Addr) (len cap : Nat) (w : World) (hl : len ≤ 4096) : Calls Try.prog 9 #[.slice A len cap] w fun e w' => e = .returned (.bool false) ∧ w = w' := by
  have d1 : decide ((4096 : Int) < len) = false := by simp; omega
  go_enter Try.func9, Try.ntmps9
  go_wp2
  go_ret
  exact ⟨rfl, rfl⟩
theorem bigF2 (A : Option Addr) (len cap : Nat) (w : World) (hl : 4096 < len) : Calls Try.prog 9 #[.slice A len cap] w fun e w' => e = .returned (.bool true) ∧ w = w' := by
  have d1 : decide ((4096 : Int) < len) = true := by simp; omega
  go_enter Try.func9, Try.ntmps9
  go_wp2
  go_ret
  exact ⟨rfl, rfl⟩
theorem SB.of_row {w : World} {a : Option Addr} {len cap : Nat} {zs : List Int}
    (h : (a = none ∧ len = 0 ∧ cap = 0 ∧ zs = []) ∨ ∃ x, a = some x ∧ len ≤ cap ∧ cap ≤ maxLen ∧ zs.length = cap ∧ (∀ i, i < zs.length → w.cell? (x.add i) = some (.int .u8 (zs.getD i 0))) ∧ ∀ n ∈ zs, (Lit.int .u8 n).wf = true)
    (hw : ∀ n : Int, (Lit.int .u8 n).wf = true → 0 ≤ n ∧ n ≤ 255) : SB w w.heap.size a len := by
  rcases h with ⟨rfl, rfl, rfl, rfl⟩ | ⟨⟨b, off, spot⟩, rfl, hl, hm, hz, hc, hwf⟩
  · exact fun h => absurd h (by omega)
  · intro hp
    have h0 := hc 0 (by omega)
    have hspot : spot = none := by simpa [Addr.add] using World.cell?_spot h0
    subst hspot
    refine ⟨b, off, rfl, ?_, fun j hj => ?_⟩
    · have := World.block_lt_of_cell? w _ h0
      simpa [Addr.add] using this
    · have hjz : j < zs.length := by omega
      have hr := hw (zs.getD j 0) (hwf _ (by rw [List.getD_eq_getElem?_getD, List.getElem?_eq_getElem hjz]; exact List.getElem_mem _))
      refine ⟨(zs.getD j 0).toNat, by omega, ?_⟩
      rw [Int.toNat_of_nonneg hr.1, ← hc j hjz]
      unfold Addr.add
      split <;> simp_all
theorem below_gro2 {w0 w w' : World} {g : Nat} (h : Below w0.heap.size w0 w) (hg : w.grownBy w' (some g)) (hB : w0.heap.size ≤ g) : Below w0.heap.size w0 w' := h.grown hg h.size (fun k e => by injection e with e; omega)
theorem Pm.hid {w : World} {base n c : Nat} {A : Option Addr} {xs : List Int} (h : Pm w base A n c xs) : Hid (xs.length = n) := Lib.hid h.1

set_option maxHeartbeats 2000000 in
theorem drawFC (len cap : Nat) (A : Option Addr) (w : World) (hb : SB w w.heap.size A len) (hl : len ≤ 4096) :
    Calls Try.prog 10 #[.slice A len cap] w fun e w' => ∃ P np cp p Q nq cq q, e = .returned (.tuple #[.slice P np cp, .slice Q nq cq]) ∧ Pm w' w.heap.size P np cp p ∧ Pm w' w.heap.size Q nq cq q ∧ np ≤ 21 ∧ nq ≤ 21 ∧ Below w.heap.size w w' := by
  go_enter Try.func10, Try.ntmps10
  go_wp2_with fail
  refine (newSrc len cap A w hb hl).mono ?_
  rintro e w1 ⟨rfl, s1, b1⟩
  have S1 := Lib.hid s1
  have B1 := Lib.hid b1
  have hg1 := s1.lt
  clear s1 b1
  go_wp2_with fail
  refine (srcBetween w.heap.size 1 5 w1 S1.out (by omega) (by omega)).mono ?_
  rintro e w2 ⟨n, hn1, hn5, rfl, s2, g2⟩
  have S2 := Lib.hid s2
  have B2 : Hid (Below w.heap.size w w2) := Lib.hid (below_gro2 B1.out g2 (Nat.le_refl _))
  have hg2 := s2.lt
  clear s2 g2
  go_wp2_with fail
  refine (drawAny w.heap.size n w2 S2.out (by omega) (by omega)).mono ?_
  rintro e w3 ⟨P, np, cp, p, rfl, p3, hnp, s3, g3⟩
  have S3 := Lib.hid s3
  have P3 := Lib.hid p3
  have B3 : Hid (Below w.heap.size w w3) := Lib.hid (below_gro2 B2.out g3 (Nat.le_refl _))
  have hg3 := s3.lt
  clear s3 g3 p3
  go_wp2_with fail
  refine (drawAny w.heap.size n w3 S3.out (by omega) (by omega)).mono ?_
  rintro e w4 ⟨Q, nq, cq, q, rfl, q4, hnq, s4, g4⟩
  have S4 := Lib.hid s4
  have P4 : Hid (Pm w4 (w.heap.size + 1) P np cp p) := Lib.hid ((P3.out.gro g4 hg2).mono (by omega))
  have Q4 : Hid (Pm w4 (w.heap.size + 1) Q nq cq q) := Lib.hid (q4.mono (by omega))
  have B4 : Hid (Below w.heap.size w w4) := Lib.hid (below_gro2 B3.out g4 (Nat.le_refl _))
  have hg4 := s4.lt
  clear s4 g4 q4
  go_wp2_with fail
  refine (specConjugate P Q cp cq np nq p q w4 P4.out.ri Q4.out.ri P4.out.hid Q4.out.hid (by omega) (by omega) P4.out.2.1 Q4.out.2.1).mono ?_
  rintro e w5 ⟨A5, n5, c5, rfl, s5, l5, b5⟩
  have S5 : Hid (Src w5 w.heap.size) := Lib.hid (S4.out.below b5 S4.out.lt)
  have P5 := Lib.hid (P4.out.up b5)
  have Q5 := Lib.hid (Q4.out.up b5)
  have B5 : Hid (Below w.heap.size w w5) := Lib.hid (btr B4.out b5)
  have R5 : Hid (Pm w5 (w.heap.size + 1) A5 n5 c5 (conjL p q)) := Lib.hid ((Pm.of_slc s5).mono (by omega))
  clear s5 b5
  rcases hs : sameD p q with _ | _
  · clear hs
    go_wp2_with fail
    go_ret2
    exact ⟨_, _, _, _, _, _, _, _, rfl, P5.out.mono (by omega), Q5.out.mono (by omega), hnp, hnq, B5.out⟩
  · clear hs
    go_wp2_with fail
    refine (srcOne w.heap.size _ 3 w5 S5.out rfl (by omega) (by omega)).mono ?_
    rintro e w6 ⟨b6, rfl, s6, g6⟩
    have P6 := Lib.hid (P5.out.gro g6 (by omega))
    have Q6 := Lib.hid (Q5.out.gro g6 (by omega))
    have R6 := Lib.hid (R5.out.gro g6 (by omega))
    have B6 : Hid (Below w.heap.size w w6) := Lib.hid (below_gro2 B5.out g6 (Nat.le_refl _))
    clear s6 g6
    cases b6
    · go_wp2_with fail
      go_ret2
      exact ⟨_, _, _, _, _, _, _, _, rfl, P6.out.mono (by omega), R6.out.mono (by omega), hnp, by omega, B6.out⟩
    · go_wp2_with fail
      go_ret2
      exact ⟨_, _, _, _, _, _, _, _, rfl, P6.out.mono (by omega), Q6.out.mono (by omega), hnp, hnq, B6.out⟩
end Go.Proofs.Ytplgdbkolklgnaa
