/- The model's draw of a degree and a text for ParseCycles. Condition: at most 4096 bytes; the contract of corrupt is handed in. -/
import Derived.Test.YtplgdbkolklgnaaDoorDrawT
import Derived.Test.YtplgdbkolklgnaaDoorTxM
namespace Go.Proofs.YtplgdbkolklgnaaDoor
open Go.RowKit

/-- What is asked of corrupt: some text, not much longer. -/
def Corr : Prop := ∀ (g : Nat) (s u : ByteArray) (w : World), Src w g → s.size ≤ 100 → u.size = 7 →
    Calls Tryd.prog 40 #[.pointer (some ⟨g, 0, none⟩), .string s, .string u] w fun e w' => ∃ t, e = .returned (.string t) ∧ t.size ≤ 200 ∧ Src w' g ∧ w.grownBy w' (some g)

set_option maxHeartbeats 2000000 in
theorem drawPC (hC : Corr) (len cap : Nat) (A : Option Addr) (w : World) (hb : SB w w.heap.size A len) (hl : len ≤ 4096) :
    Calls Tryd.prog 16 #[.slice A len cap] w fun e w' => ∃ (n : Int) (s : ByteArray), e = .returned (.tuple #[.int .i64 n, .string s]) ∧ s.size ≤ 200 ∧ Below w.heap.size w w' := by
  have HC := Lib.hid hC
  clear hC
  go_enter Tryd.func16, Tryd.ntmps16
  go_wp2_with fail
  refine (newSrc len cap A w hb hl).mono ?_
  rintro e w1 ⟨rfl, s1, b1⟩
  have S1 := Lib.hid s1
  have B1 := Lib.hid b1
  have hg1 := s1.lt
  clear s1 b1
  go_wp2_with fail
  refine (drawDeg w.heap.size w1 S1.out).mono ?_
  rintro e w2 ⟨n, h1, h2, rfl, s2, g2⟩
  have S2 := Lib.hid s2
  have B2 : Hid (Below w.heap.size w w2) := Lib.hid (below_gro2 B1.out g2 (Nat.le_refl _))
  have hg2 := s2.lt
  clear s2 g2
  go_wp2_with fail
  refine (drawAny w.heap.size n w2 S2.out h1 h2).mono ?_
  rintro e w3 ⟨P, np, cp, p, rfl, p3, hnp, s3, g3⟩
  have P3 := Lib.hid p3
  have S3 := Lib.hid s3
  have B3 : Hid (Below w.heap.size w w3) := Lib.hid (below_gro2 B2.out g3 (Nat.le_refl _))
  have hg3 := s3.lt
  clear s3 g3 p3
  go_wp2_with fail
  refine (specFormatCycles P cp np p w3 P3.out.ri P3.out.hid (by omega) P3.out.2.1).mono ?_
  rintro e w4 ⟨t, rfl, ht, b4⟩
  have S4 : Hid (Src w4 w.heap.size) := Lib.hid (S3.out.below b4 hg3)
  have B4 : Hid (Below w.heap.size w w4) := Lib.hid (btr B3.out b4)
  have hts : t.size ≤ 82 := by have h1 := len_toList t; rw [ht] at h1; have := fmtCyc_len p; omega
  clear b4 ht
  go_wp2_with fail
  refine (srcOne w.heap.size _ 10 w4 S4.out rfl (by omega) (by omega)).mono ?_
  rintro e w5 ⟨b5, rfl, s5, g5⟩
  have S5 := Lib.hid s5
  have B5 : Hid (Below w.heap.size w w5) := Lib.hid (below_gro2 B4.out g5 (Nat.le_refl _))
  clear s5 g5
  cases b5
  · go_wp2_with fail
    refine (srcOne w.heap.size _ 2 w5 S5.out rfl (by omega) (by omega)).mono ?_
    rintro e w6 ⟨b6, rfl, s6, g6⟩
    have S6 := Lib.hid s6
    have B6 : Hid (Below w.heap.size w w6) := Lib.hid (below_gro2 B5.out g6 (Nat.le_refl _))
    clear s6 g6
    cases b6
    · go_wp2_with fail
      refine (HC.out w.heap.size t _ w6 S6.out (by omega) rfl).mono ?_
      rintro e w7 ⟨u, rfl, hu, s7, g7⟩
      have B7 : Hid (Below w.heap.size w w7) := Lib.hid (below_gro2 B6.out g7 (Nat.le_refl _))
      clear s7 g7
      go_wp2_with fail
      go_ret2
      exact ⟨_, _, rfl, hu, B7.out⟩
    · go_wp2_with fail
      go_ret2
      exact ⟨_, _, rfl, by omega, B6.out⟩
  · go_wp2_with fail
    refine (srcNumber w.heap.size 20 w5 S5.out (by omega) (by omega)).mono ?_
    rintro e w8 ⟨z, rfl, s8, g8⟩
    have S8 := Lib.hid s8
    have B8 : Hid (Below w.heap.size w w8) := Lib.hid (below_gro2 B5.out g8 (Nat.le_refl _))
    clear s8 g8
    go_wp2_with fail
    refine (srcOne w.heap.size _ 2 w8 S8.out rfl (by omega) (by omega)).mono ?_
    rintro e w6 ⟨b6, rfl, s6, g6⟩
    have S6 := Lib.hid s6
    have B6 : Hid (Below w.heap.size w w6) := Lib.hid (below_gro2 B8.out g6 (Nat.le_refl _))
    clear s6 g6
    cases b6
    · go_wp2_with fail
      refine (HC.out w.heap.size t _ w6 S6.out (by omega) rfl).mono ?_
      rintro e w7 ⟨u, rfl, hu, s7, g7⟩
      have B7 : Hid (Below w.heap.size w w7) := Lib.hid (below_gro2 B6.out g7 (Nat.le_refl _))
      clear s7 g7
      go_wp2_with fail
      go_ret2
      exact ⟨_, _, rfl, hu, B7.out⟩
    · go_wp2_with fail
      go_ret2
      exact ⟨_, _, rfl, by omega, B6.out⟩
end Go.Proofs.YtplgdbkolklgnaaDoor
