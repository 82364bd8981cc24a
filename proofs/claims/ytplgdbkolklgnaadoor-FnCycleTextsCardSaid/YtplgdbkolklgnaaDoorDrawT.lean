/- The model's draws of a degree and of a permutation for the texts. Condition: at most 4096 bytes. -/
import Derived.Test.YtplgdbkolklgnaaDoorSrcA
import Derived.Test.YtplgdbkolklgnaaDoorHelp
namespace Go.Proofs.YtplgdbkolklgnaaDoor
open Go.RowKit

theorem bigT2 (A : Option Addr) (len cap : Nat) (w : World) (hl : len ≤ 4096) : Calls Tryd.prog 7 #[.slice A len cap] w fun e w' => e = .returned (.bool false) ∧ w = w' := by
  have d1 : decide ((4096 : Int) < len) = false := by simp; omega
  go_enter Tryd.func7, Tryd.ntmps7
  go_wp2
  go_ret
  exact ⟨rfl, rfl⟩
theorem bigF2 (A : Option Addr) (len cap : Nat) (w : World) (hl : 4096 < len) : Calls Tryd.prog 7 #[.slice A len cap] w fun e w' => e = .returned (.bool true) ∧ w = w' := by
  have d1 : decide ((4096 : Int) < len) = true := by simp; omega
  go_enter Tryd.func7, Tryd.ntmps7
  go_wp2
  go_ret
  exact ⟨rfl, rfl⟩
theorem SB.of_row {w : World} {a : Option Addr} {len cap : Nat} {zs : List Int}
    (h : (a = none ∧ len = 0 ∧ cap = 0 ∧ zs = []) ∨ ∃ x, a = some x ∧ len ≤ cap ∧ cap ≤ maxLen ∧ zs.length = cap ∧ (∀ i, i < zs.length → w.cell? (x.add i) = some (.int .u8 (zs.getD i 0))) ∧ ∀ n ∈ zs, (Lit.int .u8 n).wf = true)
    (hw : ∀ n : Int, (Lit.int .u8 n).wf = true → 0 ≤ n ∧ n ≤ 255) : SB w w.heap.size a len := by
  rcases h with ⟨rfl, rfl, rfl, rfl⟩ | ⟨⟨b, off, spot⟩, rfl, hl, hm, hz, hc, hwf⟩
  · exact fun h => absurd h (by omega)
  · intro hp
    have h0 := hc 0 (by omega)
    have hspot : spot = none := by simpa [Addr.add] using World.cell?_spot h0
    subst hspot
    refine ⟨b, off, rfl, ?_, fun j hj => ?_⟩
    · have := World.block_lt_of_cell? w _ h0
      simpa [Addr.add] using this
    · have hjz : j < zs.length := by omega
      have hr := hw (zs.getD j 0) (hwf _ (by rw [List.getD_eq_getElem?_getD, List.getElem?_eq_getElem hjz]; exact List.getElem_mem _))
      refine ⟨(zs.getD j 0).toNat, by omega, ?_⟩
      rw [Int.toNat_of_nonneg hr.1, ← hc j hjz]
      unfold Addr.add
      split <;> simp_all
theorem below_gro2 {w0 w w' : World} {g : Nat} (h : Below w0.heap.size w0 w) (hg : w.grownBy w' (some g)) (hB : w0.heap.size ≤ g) : Below w0.heap.size w0 w' := h.grown hg h.size (fun k e => by injection e with e; omega)
theorem Pm.hid {w : World} {base n c : Nat} {A : Option Addr} {xs : List Int} (h : Pm w base A n c xs) : Hid (xs.length = n) := Lib.hid h.1

set_option maxHeartbeats 800000 in
theorem drawDeg (g : Nat) (w : World) (hs : Src w g) :
    Calls Tryd.prog 24 #[.pointer (some ⟨g, 0, none⟩)] w fun e w' => ∃ n : Nat, 1 ≤ n ∧ n ≤ 20 ∧ e = .returned (.int .i64 n) ∧ Src w' g ∧ w.grownBy w' (some g) := by
  go_enter Tryd.func24, Tryd.ntmps24
  go_wp2_with fail
  refine (srcOne g _ 20 w hs rfl (by omega) (by omega)).mono ?_
  rintro e w1 ⟨b, rfl, s1, g1⟩
  have S1 := Lib.hid s1
  have G1 := Lib.hid g1
  clear s1 g1
  cases b
  · go_wp2_with fail
    refine (srcBetween g 1 7 w1 S1.out (by omega) (by omega)).mono ?_
    rintro e w2 ⟨n, h1, h2, rfl, s2, g2⟩
    have S2 := Lib.hid s2
    have G2 : Hid (w.grownBy w2 (some g)) := Lib.hid (grown_trans' G1.out g2)
    clear s2 g2
    go_wp2_with fail
    go_ret
    exact ⟨n, by omega, by omega, rfl, S2.out, G2.out⟩
  · go_wp2_with fail
    refine (srcBetween g 1 20 w1 S1.out (by omega) (by omega)).mono ?_
    rintro e w2 ⟨n, h1, h2, rfl, s2, g2⟩
    have S2 := Lib.hid s2
    have G2 : Hid (w.grownBy w2 (some g)) := Lib.hid (grown_trans' G1.out g2)
    clear s2 g2
    go_wp2_with fail
    go_ret
    exact ⟨n, by omega, by omega, rfl, S2.out, G2.out⟩

set_option maxHeartbeats 800000 in
theorem drawFmt (len cap : Nat) (A : Option Addr) (w : World) (hb : SB w w.heap.size A len) (hl : len ≤ 4096) :
    Calls Tryd.prog 8 #[.slice A len cap] w fun e w' => ∃ P np cp p, e = .returned (.slice P np cp) ∧ Pm w' w.heap.size P np cp p ∧ np ≤ 21 ∧ Below w.heap.size w w' := by
  go_enter Tryd.func8, Tryd.ntmps8
  go_wp2_with fail
  refine (newSrc len cap A w hb hl).mono ?_
  rintro e w1 ⟨rfl, s1, b1⟩
  have S1 := Lib.hid s1
  have B1 := Lib.hid b1
  clear s1 b1
  go_wp2_with fail
  refine (drawDeg w.heap.size w1 S1.out).mono ?_
  rintro e w2 ⟨n, h1, h2, rfl, s2, g2⟩
  have S2 := Lib.hid s2
  have B2 : Hid (Below w.heap.size w w2) := Lib.hid (below_gro2 B1.out g2 (Nat.le_refl _))
  clear s2 g2
  go_wp2_with fail
  refine (drawAny w.heap.size n w2 S2.out h1 h2).mono ?_
  rintro e w3 ⟨P, np, cp, p, rfl, p3, hnp, s3, g3⟩
  have P3 : Hid (Pm w3 w.heap.size P np cp p) := Lib.hid (p3.mono B2.out.size)
  have B3 : Hid (Below w.heap.size w w3) := Lib.hid (below_gro2 B2.out g3 (Nat.le_refl _))
  clear s3 g3 p3
  go_wp2_with fail
  go_ret
  exact ⟨_, _, _, _, rfl, P3.out, hnp, B3.out⟩
end Go.Proofs.YtplgdbkolklgnaaDoor
