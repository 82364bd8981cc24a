/- Part 10 of the texts: DrwB, DrwC, DrawZ, DrwD, ItG, ItB, WsC, WsD, WpC, WpI, WalkI9, RowB. No condition of its own: each text tells its own. -/
import Derived.Test.YtkjokchhffjidaaMg9
import Derived.Test.YtkjokchhffjidaaMg4
import Derived.Test.YtkjokchhffjidaaMg6
import Derived.Test.YtkjokchhffjidaaMg1
import Derived.Test.YtkjokchhffjidaaMg8
import Derived.Test.YtkjokchhffjidaaMg2
import Derived.Deep.RegionLaw
import Derived.RangeFuncNested
import Derived.RangeFuncBound
import Derived.RangeFuncCalls
import Derived.RangeFuncLeaves
import Derived.OwnWalkIn
import Derived.TacticsInMore
import Derived.LoopNIn
import Derived.LoopIn
import Derived.Shelf.Abstract
set_option linter.unusedVariables false
set_option linter.unusedSimpArgs false

/- The model's draw of any puzzle. Condition: the code's length. -/
namespace Go.Proofs.Ytkjokchhffjidaa
open Go.RowKit

theorem SS.away {w w' : World} {bo bi n c r : Nat} {A : Option Addr} {vs : List SV} {xss : List (List Int)} (h : SS w bo bi A n c vs xss) (hg : w.grownBy w' (some r))
    (h1 : ∀ b, (Value.slice A n c).ownBlock = some b → b ≠ r) (h2 : ∀ j, j < n → ∀ b, (sval (vs.getD j sd0)).ownBlock = some b → b ≠ r) : SS w' bo bi A n c vs xss :=
  h.farM (A' := some ⟨r, 0, none⟩) (n' := 0) (c' := 0) hg (fun k e1 e2 => h1 k e1 (by injection e2 with e2; exact e2.symm)) (fun s hs k e1 e2 => h2 s hs k e1 (by injection e2 with e2; exact e2.symm))

set_option maxHeartbeats 8000000 in
set_option maxRecDepth 100000 in
/-- drawAnyPuzzle. -/
theorem drawAPz (g : Nat) (w : World) (hs : Src w g) :
    Calls Try.prog 77 #[.pointer (some ⟨g, 0, none⟩)] w fun e w' => ∃ (z : Int) (s : ByteArray) (A : Option Addr) (m c : Nat) (vs : List SV) (gs : List (List Int)), e = .returned (.agg #[.int .i64 z, .string s, .slice A m c]) ∧ B64 z ∧ s.size ≤ 200 ∧ RX w' (w.heap.size + 1) A m vs gs ∧ m ≤ 9 ∧ (∀ i, i < m → (vs.getD i sd0).2.1 ≤ 21) ∧ Src w' g ∧ w.grownBy w' (some g) := by
  have hg := hs.lt
  have Sr0 : Hid (Src (w.alloc (.cells #[.int .i64 0, .string ⟨#[]⟩, .slice none 0 0] 26)) g) := Lib.hid (hs.below ((Below.refl w.heap.size w).alloc (Nat.le_refl _) _) hg)
  have P0 : Hid (Blk (w.alloc (.cells #[.int .i64 0, .string ⟨#[]⟩, .slice none 0 0] 26)) w.heap.size 26 #[.int .i64 0, .string ⟨#[]⟩, .slice none 0 0]) := Lib.hid (Blk.new w _ _)
  have G0 : Hid (w.grownBy (w.alloc (.cells #[.int .i64 0, .string ⟨#[]⟩, .slice none 0 0] 26)) (some g)) := Lib.hid (grown_alloc2 (grown_refl _ _) _)
  clear hs
  go_enter Try.func77, Try.ntmps77
  go_wp2_with fail
  refine (drawPz g _ Sr0.out).mono ?_
  rintro e w1 ⟨z, s, A, m, c, us, gs, rfl, ss1, hz1, hz2, hss, hm, ln1, s1, g1⟩
  obtain ⟨B, hB⟩ : ∃ B, w1.heap.size = B := ⟨_, rfl⟩
  have z1 : w.heap.size + 1 ≤ w1.heap.size := by have := g1.size; simpa using this
  have Sr1 : Hid (Src (w1.alloc (.cells #[.int .i64 z, .string s, .slice A m c] 26)) g) := Lib.hid (s1.below ((Below.refl w1.heap.size w1).alloc (Nat.le_refl _) _) s1.lt)
  have P1 : Hid (Blk (w1.alloc (.cells #[.int .i64 z, .string s, .slice A m c] 26)) w.heap.size 26 #[.int .i64 0, .string ⟨#[]⟩, .slice none 0 0]) := Lib.hid ((P0.out.grown g1 (fun e => by injection e with e; omega)).alloc _)
  have X1 : Hid (Blk (w1.alloc (.cells #[.int .i64 z, .string s, .slice A m c] 26)) B 26 #[.int .i64 z, .string s, .slice A m c]) := Lib.hid (by rw [← hB]; exact Blk.new w1 _ _)
  have G1 : Hid (w.grownBy (w1.alloc (.cells #[.int .i64 z, .string s, .slice A m c] 26)) (some g)) := Lib.hid (grown_alloc2 (grown_trans' G0.out g1) _)
  have e1 : (w.alloc (.cells #[.int .i64 0, .string ⟨#[]⟩, .slice none 0 0] 26)).heap.size = w.heap.size + 1 := by simp
  rw [e1] at ss1
  have LA1 : Hid (∀ b, (Value.slice A m c).ownBlock = some b → (w.heap.size + 1 ≤ b ∧ b ≠ B) ∧ b < (w1.alloc (.cells #[.int .i64 z, .string s, .slice A m c] 26)).heap.size) := Lib.hid fun b hb => by have := ss1.lt_ b hb; simp; omega
  have LI1 : Hid (∀ j, j < m → ∀ b, (sval (us.getD j sd0)).ownBlock = some b → (w.heap.size + 1 ≤ b ∧ b ≠ B) ∧ b < (w1.alloc (.cells #[.int .i64 z, .string s, .slice A m c] 26)).heap.size) := Lib.hid fun j hj b hb => by have := (ss1.row j hj).lt_ b hb; simp; omega
  have Ss1 : Hid (SS (w1.alloc (.cells #[.int .i64 z, .string s, .slice A m c] 26)) (w.heap.size + 1) (w.heap.size + 1) A m c us gs) := Lib.hid (ss1.up ((Below.refl _ w1).alloc (Nat.le_refl _) _))
  have Ln1 := Lib.hid ln1
  have hBw : B < (w1.alloc (.cells #[.int .i64 z, .string s, .slice A m c] 26)).heap.size := by simp; omega
  clear ss1 s1 g1 ln1 Sr0 P0 G0
  go_wp2_with fail
  try rw [hB]
  obtain ⟨V, hV⟩ : ∃ V, (w1.alloc (.cells #[.int .i64 z, .string s, .slice A m c] 26)) = V := ⟨_, rfl⟩
  rw [hV] at Sr1 P1 X1 G1 LA1 LI1 Ss1 hBw
  rw [hV]
  clear hV
  refine (srcOne g _ 20 V Sr1.out rfl (by omega) (by omega)).mono ?_
  rintro e w2 ⟨b, rfl, s2, g2⟩
  have Sr2 := Lib.hid s2
  have G2 : Hid (w.grownBy w2 (some g)) := Lib.hid (grown_trans' G1.out g2)
  have P2 := Lib.hid (P1.out.grown g2 (fun e => by injection e with e; omega))
  have X2 := Lib.hid (X1.out.grown g2 (fun e => by injection e with e; omega))
  have Ss2 := Lib.hid (Ss1.out.away g2 (fun b hb => by have := LA1.out b hb; omega) (fun t ht b hb => by have := LI1.out t ht b hb; omega))
  have LA2 : Hid (∀ b, (Value.slice A m c).ownBlock = some b → (w.heap.size + 1 ≤ b ∧ b ≠ B) ∧ b < w2.heap.size) := Lib.hid fun b hb => by have := LA1.out b hb; have := g2.size; omega
  have LI2 : Hid (∀ j, j < m → ∀ b, (sval (us.getD j sd0)).ownBlock = some b → (w.heap.size + 1 ≤ b ∧ b ≠ B) ∧ b < w2.heap.size) := Lib.hid fun j hj b hb => by have := LI1.out j hj b hb; have := g2.size; omega
  have hB2 : B < w2.heap.size := by have := g2.size; omega
  clear s2 g2 Sr1 G1 P1 X1 Ss1 LA1 LI1 hBw
  go_upto_if 7 with fail
  go_cut [] from 6 to 43 (fun wx => ∃ (z : Int) (s : ByteArray) (A : Option Addr) (m c : Nat) (us : List SV) (gs : List (List Int)), Blk wx B 26 #[.int .i64 z, .string s, .slice A m c] ∧ Blk wx w.heap.size 26 #[.int .i64 0, .string ⟨#[]⟩, .slice none 0 0] ∧ SS wx (w.heap.size + 1) (w.heap.size + 1) A m c us gs ∧ (∀ b, (Value.slice A m c).ownBlock = some b → (w.heap.size + 1 ≤ b ∧ b ≠ B) ∧ b < wx.heap.size) ∧ (∀ j, j < m → ∀ b, (sval (us.getD j sd0)).ownBlock = some b → (w.heap.size + 1 ≤ b ∧ b ≠ B) ∧ b < wx.heap.size) ∧ B64 z ∧ s.size ≤ 8 ∧ m ≤ 4 ∧ (∀ i, i < m → (us.getD i sd0).2.1 ≤ 20) ∧ Src wx g ∧ w.grownBy wx (some g) ∧ B < wx.heap.size)
  case first =>
    cases b
    · go_wp2_with fail
      go_meet
      exact ⟨z, s, A, m, c, us, gs, X2.out, P2.out, Ss2.out, LA2.out, LI2.out, by unfold B64; omega, hss, hm, Ln1.out, Sr2.out, G2.out, hB2⟩
    · go_wp2_with fail
      refine (srcBelow g _ 6 w2 Sr2.out rfl (by omega) (by omega)).mono ?_
      rintro e w3 ⟨r, hr, rfl, s3, g3⟩
      have Sr3 := Lib.hid s3
      have G3 : Hid (w.grownBy w3 (some g)) := Lib.hid (grown_trans' G2.out g3)
      have P3 := Lib.hid (P2.out.grown g3 (fun e => by injection e with e; omega))
      have X3 := Lib.hid (X2.out.grown g3 (fun e => by injection e with e; omega))
      have hB3 : B < w3.heap.size := by have := g3.size; omega
      clear s3 g3
      go_wp2_with fail
      refine (specKnownPuzzle (r : Int) w3).mono ?_
      rintro e w4 ⟨A4, m4, c4, us4, rfl, ss4, hm4, ln4, b4⟩
      have P4 := Lib.hid (P3.out.below b4 P3.out.lt)
      have X4 := Lib.hid (X3.out.below b4 X3.out.lt)
      have Sr4 := Lib.hid (Sr3.out.below b4 Sr3.out.lt)
      have G4 : Hid (w.grownBy w4 (some g)) := Lib.hid (grown_below2 G3.out b4)
      have Ss4 := Lib.hid ss4
      have Ln4 := Lib.hid ln4
      have z4 := b4.size
      clear ss4 ln4
      have x0 := X4.out.cell 0
      have f0 := X4.out.frozen 0
      have x1 := X4.out.cell 1
      have f1 := X4.out.frozen 1
      have x2 := X4.out.cell 2
      have f2 := X4.out.frozen 2
      go_wp2_with fail
      obtain ⟨W, eW, DW, GW⟩ := put3 X4.out (.int .i64 (knN r)) (.string (knS r)) (.slice A4 m4 c4)
      rw [← eW]
      clear eW
      have zW := GW.size
      go_meet
      have hk : B64 (knN r) ∧ (knS r).size ≤ 8 := by
        have hr6 : r = 0 ∨ r = 1 ∨ r = 2 ∨ r = 3 ∨ r = 4 ∨ r = 5 := by omega
        rcases hr6 with rfl | rfl | rfl | rfl | rfl | rfl <;> exact ⟨by unfold B64; decide, by decide⟩
      exact ⟨_, _, A4, m4, c4, us4, _, DW, P4.out.grown GW (fun e => by injection e with e; omega), (Ss4.out.away GW (fun b hb => by have := Ss4.out.lt_ b hb; omega) (fun t ht b hb => by have := (Ss4.out.row t ht).lt_ b hb; omega)).mono (by omega) (by omega), fun b hb => by have := Ss4.out.lt_ b hb; omega, fun t ht b hb => by have := (Ss4.out.row t ht).lt_ b hb; omega, hk.1, hk.2, hm4, Ln4.out, Sr4.out.gro2 GW (fun r e => by injection e with e; omega), grown_new2 G4.out GW (fun r e => by injection e with e; omega), by omega⟩
  case rest =>
    clear P2 X2 Ss2 LA2 LI2 Sr2 G2 Ln1
    obtain ⟨z5, s5, A5, m5, c5, us5, gs5, x5, p5, ss5, la5, li5, hB5, hs5, hm5, ln5, sr5, g5, hb5⟩ := hcut
    have X5 := Lib.hid x5
    have P5 := Lib.hid p5
    have Ss5 := Lib.hid ss5
    have LA5 := Lib.hid la5
    have LI5 := Lib.hid li5
    have Ln5 := Lib.hid ln5
    have Sr5 := Lib.hid sr5
    have G5 := Lib.hid g5
    clear x5 p5 ss5 la5 li5 ln5 sr5 g5
    go_wp2_with fail
    refine (srcOne g _ 15 wc Sr5.out rfl (by omega) (by omega)).mono ?_
    rintro e w6 ⟨b6, rfl, s6, g6⟩
    have Sr6 := Lib.hid s6
    have P6 := Lib.hid (P5.out.grown g6 (fun e => by injection e with e; omega))
    have X6 := Lib.hid (X5.out.grown g6 (fun e => by injection e with e; omega))
    have Ss6 := Lib.hid (Ss5.out.away g6 (fun b hb => by have := LA5.out b hb; omega) (fun t ht b hb => by have := LI5.out t ht b hb; omega))
    have LA6 : Hid (∀ b, (Value.slice A5 m5 c5).ownBlock = some b → (w.heap.size + 1 ≤ b ∧ b ≠ B) ∧ b < w6.heap.size) := Lib.hid fun b hb => by have := LA5.out b hb; have := g6.size; omega
    have LI6 : Hid (∀ j, j < m5 → ∀ b, (sval (us5.getD j sd0)).ownBlock = some b → (w.heap.size + 1 ≤ b ∧ b ≠ B) ∧ b < w6.heap.size) := Lib.hid fun j hj b hb => by have := LI5.out j hj b hb; have := g6.size; omega
    have hb6 : B < w6.heap.size := by have := g6.size; omega
    have G6 : Hid (w.grownBy w6 (some g)) := Lib.hid (grown_trans' G5.out g6)
    clear s6 g6 X5 P5 Ss5 LA5 LI5 Sr5
    cases b6
    · skip
      have x0 := X6.out.cell 0
      have f0 := X6.out.frozen 0
      have y0 := P6.out.cell 0
      have k0 := P6.out.frozen 0
      have x1 := X6.out.cell 1
      have f1 := X6.out.frozen 1
      have y1 := P6.out.cell 1
      have k1 := P6.out.frozen 1
      have x2 := X6.out.cell 2
      have f2 := X6.out.frozen 2
      have y2 := P6.out.cell 2
      have k2 := P6.out.frozen 2
      go_wp2_with fail
      obtain ⟨W9, eW9, D9, GW9⟩ := put3 P6.out (.int .i64 z5) (.string s5) (.slice A5 m5 c5)
      rw [← eW9]
      clear eW9
      have r0 := D9.cell 0
      have r1 := D9.cell 1
      have r2 := D9.cell 2
      exact bodyPost_ret (v := .agg #[.int .i64 z5, .string s5, .slice A5 m5 c5]) (by simp [results, Try.results77, r0, r1, r2, go_sem]) rfl ⟨z5, s5, A5, m5, c5, us5, gs5, rfl, hB5, by omega, (((RP.of_ss (S := (fun b => w.heap.size + 1 ≤ b ∧ b ≠ B)) Ss6.out (fun b hb => (LA6.out b hb).1) (fun t ht b hb => (LI6.out t ht b hb).1))).gro GW9 (fun h => by have := h.1; omega)).rx (fun b h => h.1), by omega, fun i hi => by have := Ln5.out i hi; omega, (Sr6.out).gro2 GW9 (fun r e => by injection e with e; omega), grown_new2 (G6.out) GW9 (fun r e => by injection e with e; omega)⟩
    · go_wp2_with fail
      refine (srcBelow g _ 4 w6 Sr6.out rfl (by omega) (by omega)).mono ?_
      rintro e w7 ⟨r7, hr7, rfl, s7, g7⟩
      have Sr7 := Lib.hid s7
      have P7 := Lib.hid (P6.out.grown g7 (fun e => by injection e with e; omega))
      have X7 := Lib.hid (X6.out.grown g7 (fun e => by injection e with e; omega))
      have Ss7 := Lib.hid (Ss6.out.away g7 (fun b hb => by have := LA6.out b hb; omega) (fun t ht b hb => by have := LI6.out t ht b hb; omega))
      have LA7 : Hid (∀ b, (Value.slice A5 m5 c5).ownBlock = some b → (w.heap.size + 1 ≤ b ∧ b ≠ B) ∧ b < w7.heap.size) := Lib.hid fun b hb => by have := LA6.out b hb; have := g7.size; omega
      have LI7 : Hid (∀ j, j < m5 → ∀ b, (sval (us5.getD j sd0)).ownBlock = some b → (w.heap.size + 1 ≤ b ∧ b ≠ B) ∧ b < w7.heap.size) := Lib.hid fun j hj b hb => by have := LI6.out j hj b hb; have := g7.size; omega
      have hb7 : B < w7.heap.size := by have := g7.size; omega
      have G7 : Hid (w.grownBy w7 (some g)) := Lib.hid (grown_trans' G6.out g7)
      clear s7 g7 X6 P6 Ss6 LA6 LI6 Sr6
      obtain rfl | rfl | rfl | rfl : r7 = 0 ∨ r7 = 1 ∨ r7 = 2 ∨ r7 = 3 := by omega
      · skip
        have x0 := X7.out.cell 0
        have f0 := X7.out.frozen 0
        have y0 := P7.out.cell 0
        have k0 := P7.out.frozen 0
        have x1 := X7.out.cell 1
        have f1 := X7.out.frozen 1
        have y1 := P7.out.cell 1
        have k1 := P7.out.frozen 1
        have x2 := X7.out.cell 2
        have f2 := X7.out.frozen 2
        have y2 := P7.out.cell 2
        have k2 := P7.out.frozen 2
        go_wp2_with fail
        refine (corrTU g s5 ⟨#[65, 66, 97]⟩ w7 Sr7.out (by omega) (by decide)).mono ?_
        rintro e w8 ⟨t8, rfl, ht8, s8, g8⟩
        have Sr8 := Lib.hid s8
        have P8 := Lib.hid (P7.out.grown g8 (fun e => by injection e with e; omega))
        have X8 := Lib.hid (X7.out.grown g8 (fun e => by injection e with e; omega))
        have Ss8 := Lib.hid (Ss7.out.away g8 (fun b hb => by have := LA7.out b hb; omega) (fun t ht b hb => by have := LI7.out t ht b hb; omega))
        have LA8 : Hid (∀ b, (Value.slice A5 m5 c5).ownBlock = some b → (w.heap.size + 1 ≤ b ∧ b ≠ B) ∧ b < w8.heap.size) := Lib.hid fun b hb => by have := LA7.out b hb; have := g8.size; omega
        have LI8 : Hid (∀ j, j < m5 → ∀ b, (sval (us5.getD j sd0)).ownBlock = some b → (w.heap.size + 1 ≤ b ∧ b ≠ B) ∧ b < w8.heap.size) := Lib.hid fun j hj b hb => by have := LI7.out j hj b hb; have := g8.size; omega
        have hb8 : B < w8.heap.size := by have := g8.size; omega
        have G8 : Hid (w.grownBy w8 (some g)) := Lib.hid (grown_trans' G7.out g8)
        clear s8 g8
        clear x0 f0 y0 k0 x1 f1 y1 k1 x2 f2 y2 k2
        obtain ⟨W, eW⟩ : ∃ W, w8.setCell ⟨B, 1, none⟩ (.string t8) = W := ⟨_, rfl⟩
        have GW : w8.grownBy W (some B) := by rw [← eW]; exact grown_set (grown_refl _ _) _ _
        have XW : Hid (Blk W B 26 #[.int .i64 z5, .string t8, .slice A5 m5 c5]) := Lib.hid (by rw [← eW]; exact X8.out.set_ 1 _)
        have PW := Lib.hid (P8.out.grown GW (fun e => by injection e with e; omega))
        have SrW := Lib.hid (Sr8.out.gro2 GW (fun r e => by injection e with e; omega))
        have GWw := Lib.hid (grown_new2 G8.out GW (fun r e => by injection e with e; omega))
        have zW := GW.size
        have x0 := X8.out.cell 0
        have f0 := X8.out.frozen 0
        have y0 := P8.out.cell 0
        have k0 := P8.out.frozen 0
        have x1 := X8.out.cell 1
        have f1 := X8.out.frozen 1
        have y1 := P8.out.cell 1
        have k1 := P8.out.frozen 1
        have x2 := X8.out.cell 2
        have f2 := X8.out.frozen 2
        have y2 := P8.out.cell 2
        have k2 := P8.out.frozen 2
        have xw0 := XW.out.cell 0
        have yw0 := PW.out.cell 0
        have kw0 := PW.out.frozen 0
        have xw1 := XW.out.cell 1
        have yw1 := PW.out.cell 1
        have kw1 := PW.out.frozen 1
        have xw2 := XW.out.cell 2
        have yw2 := PW.out.cell 2
        have kw2 := PW.out.frozen 2
        go_wp2_with fail
        try rw [eW]
        have x0 := XW.out.cell 0
        have f0 := XW.out.frozen 0
        have y0 := PW.out.cell 0
        have k0 := PW.out.frozen 0
        have x1 := XW.out.cell 1
        have f1 := XW.out.frozen 1
        have y1 := PW.out.cell 1
        have k1 := PW.out.frozen 1
        have x2 := XW.out.cell 2
        have f2 := XW.out.frozen 2
        have y2 := PW.out.cell 2
        have k2 := PW.out.frozen 2
        obtain ⟨W9, eW9, D9, GW9⟩ := put3 PW.out (.int .i64 z5) (.string t8) (.slice A5 m5 c5)
        rw [← eW9]
        clear eW9
        have r0 := D9.cell 0
        have r1 := D9.cell 1
        have r2 := D9.cell 2
        exact bodyPost_ret (v := .agg #[.int .i64 z5, .string t8, .slice A5 m5 c5]) (by simp [results, Try.results77, r0, r1, r2, go_sem]) rfl ⟨z5, t8, A5, m5, c5, us5, gs5, rfl, hB5, ht8, ((((RP.of_ss (S := (fun b => w.heap.size + 1 ≤ b ∧ b ≠ B)) Ss8.out (fun b hb => (LA8.out b hb).1) (fun t ht b hb => (LI8.out t ht b hb).1))).gro GW (fun h => h.2 rfl)).gro GW9 (fun h => by have := h.1; omega)).rx (fun b h => h.1), by omega, fun i hi => by have := Ln5.out i hi; omega, (SrW.out).gro2 GW9 (fun r e => by injection e with e; omega), grown_new2 (GWw.out) GW9 (fun r e => by injection e with e; omega)⟩
      · skip
        go_wp2_with fail
        refine (srcNumberB g 20 w7 Sr7.out (by omega) (by omega)).mono ?_
        rintro e w8 ⟨z8, rfl, hz8, s8, g8⟩
        have Sr8 := Lib.hid s8
        have P8 := Lib.hid (P7.out.grown g8 (fun e => by injection e with e; omega))
        have X8 := Lib.hid (X7.out.grown g8 (fun e => by injection e with e; omega))
        have Ss8 := Lib.hid (Ss7.out.away g8 (fun b hb => by have := LA7.out b hb; omega) (fun t ht b hb => by have := LI7.out t ht b hb; omega))
        have LA8 : Hid (∀ b, (Value.slice A5 m5 c5).ownBlock = some b → (w.heap.size + 1 ≤ b ∧ b ≠ B) ∧ b < w8.heap.size) := Lib.hid fun b hb => by have := LA7.out b hb; have := g8.size; omega
        have LI8 : Hid (∀ j, j < m5 → ∀ b, (sval (us5.getD j sd0)).ownBlock = some b → (w.heap.size + 1 ≤ b ∧ b ≠ B) ∧ b < w8.heap.size) := Lib.hid fun j hj b hb => by have := LI7.out j hj b hb; have := g8.size; omega
        have hb8 : B < w8.heap.size := by have := g8.size; omega
        have G8 : Hid (w.grownBy w8 (some g)) := Lib.hid (grown_trans' G7.out g8)
        clear s8 g8
        obtain ⟨W, eW⟩ : ∃ W, w8.setCell ⟨B, 0, none⟩ (.int .i64 z8) = W := ⟨_, rfl⟩
        have GW : w8.grownBy W (some B) := by rw [← eW]; exact grown_set (grown_refl _ _) _ _
        have XW : Hid (Blk W B 26 #[.int .i64 z8, .string s5, .slice A5 m5 c5]) := Lib.hid (by rw [← eW]; exact X8.out.set_ 0 _)
        have PW := Lib.hid (P8.out.grown GW (fun e => by injection e with e; omega))
        have SrW := Lib.hid (Sr8.out.gro2 GW (fun r e => by injection e with e; omega))
        have GWw := Lib.hid (grown_new2 G8.out GW (fun r e => by injection e with e; omega))
        have zW := GW.size
        have x0 := X8.out.cell 0
        have f0 := X8.out.frozen 0
        have y0 := P8.out.cell 0
        have k0 := P8.out.frozen 0
        have x1 := X8.out.cell 1
        have f1 := X8.out.frozen 1
        have y1 := P8.out.cell 1
        have k1 := P8.out.frozen 1
        have x2 := X8.out.cell 2
        have f2 := X8.out.frozen 2
        have y2 := P8.out.cell 2
        have k2 := P8.out.frozen 2
        have xw0 := XW.out.cell 0
        have yw0 := PW.out.cell 0
        have kw0 := PW.out.frozen 0
        have xw1 := XW.out.cell 1
        have yw1 := PW.out.cell 1
        have kw1 := PW.out.frozen 1
        have xw2 := XW.out.cell 2
        have yw2 := PW.out.cell 2
        have kw2 := PW.out.frozen 2
        go_wp2_with fail
        try rw [eW]
        have x0 := XW.out.cell 0
        have f0 := XW.out.frozen 0
        have y0 := PW.out.cell 0
        have k0 := PW.out.frozen 0
        have x1 := XW.out.cell 1
        have f1 := XW.out.frozen 1
        have y1 := PW.out.cell 1
        have k1 := PW.out.frozen 1
        have x2 := XW.out.cell 2
        have f2 := XW.out.frozen 2
        have y2 := PW.out.cell 2
        have k2 := PW.out.frozen 2
        obtain ⟨W9, eW9, D9, GW9⟩ := put3 PW.out (.int .i64 z8) (.string s5) (.slice A5 m5 c5)
        rw [← eW9]
        clear eW9
        have r0 := D9.cell 0
        have r1 := D9.cell 1
        have r2 := D9.cell 2
        exact bodyPost_ret (v := .agg #[.int .i64 z8, .string s5, .slice A5 m5 c5]) (by simp [results, Try.results77, r0, r1, r2, go_sem]) rfl ⟨z8, s5, A5, m5, c5, us5, gs5, rfl, hz8, by omega, ((((RP.of_ss (S := (fun b => w.heap.size + 1 ≤ b ∧ b ≠ B)) Ss8.out (fun b hb => (LA8.out b hb).1) (fun t ht b hb => (LI8.out t ht b hb).1))).gro GW (fun h => h.2 rfl)).gro GW9 (fun h => by have := h.1; omega)).rx (fun b h => h.1), by omega, fun i hi => by have := Ln5.out i hi; omega, (SrW.out).gro2 GW9 (fun r e => by injection e with e; omega), grown_new2 (GWw.out) GW9 (fun r e => by injection e with e; omega)⟩
      · skip
        obtain ⟨W, eW0, XW0, GW⟩ := put3 X7.out (.int .i64 0) (.string ⟨#[]⟩) (.slice none 0 0)
        have eW := eW0.symm
        clear eW0
        have XW := Lib.hid XW0
        have PW := Lib.hid (P7.out.grown GW (fun e => by injection e with e; omega))
        have SrW := Lib.hid (Sr7.out.gro2 GW (fun r e => by injection e with e; omega))
        have GWw := Lib.hid (grown_new2 G7.out GW (fun r e => by injection e with e; omega))
        have zW := GW.size
        have x0 := X7.out.cell 0
        have f0 := X7.out.frozen 0
        have y0 := P7.out.cell 0
        have k0 := P7.out.frozen 0
        have x1 := X7.out.cell 1
        have f1 := X7.out.frozen 1
        have y1 := P7.out.cell 1
        have k1 := P7.out.frozen 1
        have x2 := X7.out.cell 2
        have f2 := X7.out.frozen 2
        have y2 := P7.out.cell 2
        have k2 := P7.out.frozen 2
        have xw0 := XW.out.cell 0
        have yw0 := PW.out.cell 0
        have kw0 := PW.out.frozen 0
        have xw1 := XW.out.cell 1
        have yw1 := PW.out.cell 1
        have kw1 := PW.out.frozen 1
        have xw2 := XW.out.cell 2
        have yw2 := PW.out.cell 2
        have kw2 := PW.out.frozen 2
        go_wp2_with fail
        try rw [eW]
        have x0 := XW.out.cell 0
        have f0 := XW.out.frozen 0
        have y0 := PW.out.cell 0
        have k0 := PW.out.frozen 0
        have x1 := XW.out.cell 1
        have f1 := XW.out.frozen 1
        have y1 := PW.out.cell 1
        have k1 := PW.out.frozen 1
        have x2 := XW.out.cell 2
        have f2 := XW.out.frozen 2
        have y2 := PW.out.cell 2
        have k2 := PW.out.frozen 2
        obtain ⟨W9, eW9, D9, GW9⟩ := put3 PW.out (.int .i64 0) (.string (⟨#[]⟩ : ByteArray)) (.slice none 0 0)
        rw [← eW9]
        clear eW9
        have r0 := D9.cell 0
        have r1 := D9.cell 1
        have r2 := D9.cell 2
        exact bodyPost_ret (v := .agg #[.int .i64 0, .string (⟨#[]⟩ : ByteArray), .slice none 0 0]) (by simp [results, Try.results77, r0, r1, r2, go_sem]) rfl ⟨0, (⟨#[]⟩ : ByteArray), none, 0, 0, ([] : List SV), ([] : List (List Int)), rfl, by unfold B64; decide, by decide, (((RP.nil_ : RP W (fun b => w.heap.size + 1 ≤ b ∧ b ≠ B) none 0 [] [])).gro GW9 (fun h => by have := h.1; omega)).rx (fun b h => h.1), by decide, fun i hi => absurd hi (by omega), (SrW.out).gro2 GW9 (fun r e => by injection e with e; omega), grown_new2 (GWw.out) GW9 (fun r e => by injection e with e; omega)⟩
      · skip
        have Sd : Hid (Src w7.drew g) := Lib.hid (Sr7.out.below (below_drew1 (Below.refl w7.heap.size w7)) (by have := Sr7.out.lt; omega))
        have x0 := X7.out.cell 0
        have f0 := X7.out.frozen 0
        have y0 := P7.out.cell 0
        have k0 := P7.out.frozen 0
        have x1 := X7.out.cell 1
        have f1 := X7.out.frozen 1
        have y1 := P7.out.cell 1
        have k1 := P7.out.frozen 1
        have x2 := X7.out.cell 2
        have f2 := X7.out.frozen 2
        have y2 := P7.out.cell 2
        have k2 := P7.out.frozen 2
        go_wp2_with fail
        go_region_law (first
        | (refine step_app2P (w := w8.alloc (.cells #[.slice A8 m8 c8] 27)) rfl (.tmp 36) (.tmp 39) rfl (fun b => w.heap.size + 1 ≤ b ∧ b ≠ B) ?_ (Ss8.out.alloc _) (fun b hb => (LA8.out b hb).1) (fun t ht b hb => (LI8.out t ht b hb).1) w8.heap.size A8 m8 c8 w7.heap.size ys ?_ (by rw [World.cell?_alloc_at _ _ _ _ rfl]; rfl) Pm9.out (fun k hk => (LA7.out k hk).2) (fun k hk => by omega) (by omega) (by simp; omega) (by simp; omega) ?_
           (simp [Act.eval, Act.put])
           (simp [Act.eval, Act.put])
           intro A9 c9 w9 rp9 g9
           have X9 := Lib.hid ((X8.out.alloc (.cells #[.slice A8 m8 c8] 27)).grown g9 (fun e => by have := LA8.out _ e.symm; omega))
           have P9 := Lib.hid ((P8.out.alloc (.cells #[.slice A8 m8 c8] 27)).grown g9 (fun e => by have := LA8.out _ e.symm; omega))
           have Sr9 : Hid (Src w9 g) := Lib.hid ((Sr8.out.below ((Below.refl w8.heap.size w8).alloc (Nat.le_refl _) (.cells #[.slice A8 m8 c8] 27)) Sr8.out.lt).gro2 g9 (fun j hj => by have := LA8.out j hj; omega))
           have G9 : Hid (w.grownBy w9 (some g)) := Lib.hid (grown_new2 (grown_alloc2 G8.out (.cells #[.slice A8 m8 c8] 27)) g9 (fun j hj => by have := LA8.out j hj; omega))
           have Rp9 := Lib.hid rp9
           obtain ⟨W, eW⟩ : ∃ W, w9.setCell ⟨B, 2, none⟩ (.slice A9 (m5 + 1) c9) = W := ⟨_, rfl⟩
           have GW : w9.grownBy W (some B) := by rw [← eW]; exact grown_set (grown_refl _ _) _ _
           have XW : Hid (Blk W B 26 #[.int .i64 z5, .string s5, .slice A9 (m5 + 1) c9]) := Lib.hid (by rw [← eW]; exact X9.out.set_ 2 _)
           have PW := Lib.hid (P9.out.grown GW (fun e => by injection e with e; omega))
           have SrW := Lib.hid (Sr9.out.gro2 GW (fun r e => by injection e with e; omega))
           have GWw := Lib.hid (grown_new2 G9.out GW (fun r e => by injection e with e; omega))
           have xn0 := X9.out.cell 0
           have fn0 := X9.out.frozen 0
           have xn1 := X9.out.cell 1
           have fn1 := X9.out.frozen 1
           have xn2 := X9.out.cell 2
           have fn2 := X9.out.frozen 2
           clear rp9 g9)
        | (go_simp; go_wp2_with (first
            | (go_at_call 101; refine (drawAnyK g 4 4 w7.drew Sd.out rfl (by decide) (by decide)).mono ?_; rintro e w8 ⟨A8, m8, c8, ys, rfl, p8, hm8, s8, g8d⟩
               have g8 := grown_undrew g8d
               have Pm8 := Lib.hid p8
               have Sr8 := Lib.hid s8
               have P8 := Lib.hid (P7.out.grown g8 (fun e => by injection e with e; omega))
               have X8 := Lib.hid (X7.out.grown g8 (fun e => by injection e with e; omega))
               have Ss8 := Lib.hid (Ss7.out.away g8 (fun b hb => by have := LA7.out b hb; omega) (fun t ht b hb => by have := LI7.out t ht b hb; omega))
               have LA8 : Hid (∀ b, (Value.slice A5 m5 c5).ownBlock = some b → (w.heap.size + 1 ≤ b ∧ b ≠ B) ∧ b < w8.heap.size) := Lib.hid fun b hb => by have := LA7.out b hb; have := g8.size; omega
               have LI8 : Hid (∀ j, j < m5 → ∀ b, (sval (us5.getD j sd0)).ownBlock = some b → (w.heap.size + 1 ≤ b ∧ b ≠ B) ∧ b < w8.heap.size) := Lib.hid fun j hj b hb => by have := LI7.out j hj b hb; have := g8.size; omega
               have hb8 : B < w8.heap.size := by have := g8.size; omega
               have G8 : Hid (w.grownBy w8 (some g)) := Lib.hid (grown_trans' G7.out g8)
               have xe0 := X8.out.cell 0
               have xe1 := X8.out.cell 1
               have xe2 := X8.out.cell 2
               have z78 := g8.size
               have Pm9 : Hid (Pm (w8.alloc (.cells #[.slice A8 m8 c8] 27)) w7.heap.size A8 m8 c8 ys) := Lib.hid (Pm8.out.up ((Below.refl w8.heap.size w8).alloc (Nat.le_refl _) _))
               clear s8 g8 g8d p8))))
        all_goals
          have xw0 := XW.out.cell 0
          have yw0 := PW.out.cell 0
          have kw0 := PW.out.frozen 0
          have xw1 := XW.out.cell 1
          have yw1 := PW.out.cell 1
          have kw1 := PW.out.frozen 1
          have xw2 := XW.out.cell 2
          have yw2 := PW.out.cell 2
          have kw2 := PW.out.frozen 2
          go_wp2_with fail
          try rw [eW]
          have Ln9 : ∀ i, i < m5 + 1 → ((us5 ++ [((A8, m8, c8) : SV)]).getD i sd0).2.1 ≤ 21 := fun i hi => by
            by_cases e9 : i < m5
            · rw [getD_app _ _ _ _ (by rw [Ss7.out.lv]; exact e9)]; have := Ln5.out i e9; omega
            · rw [getD_snoc _ _ _ _ (by rw [Ss7.out.lv]; omega)]; exact hm8
          have x0 := XW.out.cell 0
          have f0 := XW.out.frozen 0
          have y0 := PW.out.cell 0
          have k0 := PW.out.frozen 0
          have x1 := XW.out.cell 1
          have f1 := XW.out.frozen 1
          have y1 := PW.out.cell 1
          have k1 := PW.out.frozen 1
          have x2 := XW.out.cell 2
          have f2 := XW.out.frozen 2
          have y2 := PW.out.cell 2
          have k2 := PW.out.frozen 2
          obtain ⟨W9, eW9, D9, GW9⟩ := put3 PW.out (.int .i64 z5) (.string s5) (.slice A9 (m5 + 1) c9)
          rw [← eW9]
          clear eW9
          have r0 := D9.cell 0
          have r1 := D9.cell 1
          have r2 := D9.cell 2
          exact bodyPost_ret (v := .agg #[.int .i64 z5, .string s5, .slice A9 (m5 + 1) c9]) (by simp [results, Try.results77, r0, r1, r2, go_sem]) rfl ⟨z5, s5, A9, (m5 + 1), c9, _, _, rfl, hB5, by omega, ((Rp9.out.gro GW (fun h => h.2 rfl)).gro GW9 (fun h => by have := h.1; omega)).rx (fun b h => h.1), by omega, Ln9, (SrW.out).gro2 GW9 (fun r e => by injection e with e; omega), grown_new2 (GWw.out) GW9 (fun r e => by injection e with e; omega)⟩
end Go.Proofs.Ytkjokchhffjidaa

/- The model's draws of a puzzle and a state. Condition: the code's length. -/
namespace Go.Proofs.Ytkjokchhffjidaa
open Go.RowKit

set_option maxHeartbeats 4000000 in
set_option maxRecDepth 100000 in
/-- drawState. -/
theorem drawSt (g lo : Nat) (z : Int) (s : ByteArray) (A : Option Addr) (m c : Nat) (vs : List SV) (xss : List (List Int)) (w : World) (hs : Src w g) (hB : B64 z) (rx : RX w lo A m vs xss) (hg : g < lo) (hm : m ≤ 9) (hln : ∀ i, i < m → (vs.getD i sd0).2.1 ≤ 21) :
    Calls Try.prog 78 #[.pointer (some ⟨g, 0, none⟩), .agg #[.int .i64 z, .string s, .slice A m c]] w fun e w' => ∃ (A' : Option Addr) (n' c' : Nat) (p : List Int), e = .returned (.slice A' n' c') ∧ Pm w' w.heap.size A' n' c' p ∧ n' ≤ 21 ∧ Src w' g ∧ w.grownBy w' (some g) := by
  have ba : Below w.heap.size w (w.alloc (.cells #[.int .i64 z, .string s, .slice A m c] 26)) := (Below.refl w.heap.size w).alloc (Nat.le_refl _) _
  have Sr0 := Lib.hid (hs.below ba hs.lt)
  have Rx0 := Lib.hid (rx.up ba)
  have X0 := Blk.new w 26 #[.int .i64 z, .string s, .slice A m c]
  have x0 := X0.cell 0
  have x1 := X0.cell 1
  have x2 := X0.cell 2
  have Ln := Lib.hid hln
  clear X0 hs rx hln ba
  go_enter Try.func78, Try.ntmps78
  go_wp2_with fail
  refine (drawMemberT g lo z A m c vs xss _ Sr0.out hB Rx0.out hg hm Ln.out).mono ?_
  rintro e w1 ⟨A1, n1, c1, p1, rfl, p, hn1, s1, g1⟩
  have G1 : w.grownBy w1 (some g) := grown_trans' (grown_alloc2 (grown_refl _ _) _) g1
  have P1 : Pm w1 w.heap.size A1 n1 c1 p1 := ⟨p.1, p.2.1, fun h0 => by obtain ⟨b, off, e, h1, h2, hc⟩ := p.2.2 h0; exact ⟨b, off, e, by simp at h1; omega, h2, hc⟩⟩
  go_wp2_with fail
  go_ret
  exact ⟨A1, n1, c1, p1, rfl, P1, hn1, s1, G1⟩
set_option maxHeartbeats 4000000 in
set_option maxRecDepth 100000 in
/-- drawPuzzleAndState. -/
theorem drawPzS (g : Nat) (w : World) (hs : Src w g) :
    Calls Try.prog 43 #[.pointer (some ⟨g, 0, none⟩)] w fun e w' => ∃ (z : Int) (s : ByteArray) (A : Option Addr) (m c : Nat) (vs : List SV) (gs : List (List Int)) (P : Option Addr) (np cp : Nat) (q : List Int), e = .returned (.tuple #[.agg #[.int .i64 z, .string s, .slice A m c], .slice P np cp]) ∧ B64 z ∧ s.size ≤ 200 ∧ RX w' (w.heap.size + 1) A m vs gs ∧ m ≤ 9 ∧ (∀ i, i < m → (vs.getD i sd0).2.1 ≤ 21) ∧ Pm w' (w.heap.size + 1) P np cp q ∧ np ≤ 21 ∧ Src w' g ∧ w.grownBy w' (some g) := by
  have hg := hs.lt
  have Sr0 : Hid (Src (w.alloc (.cells #[.int .i64 0, .string ⟨#[]⟩, .slice none 0 0] 26)) g) := Lib.hid (hs.below ((Below.refl w.heap.size w).alloc (Nat.le_refl _) _) hg)
  have P0 : Hid (Blk (w.alloc (.cells #[.int .i64 0, .string ⟨#[]⟩, .slice none 0 0] 26)) w.heap.size 26 #[.int .i64 0, .string ⟨#[]⟩, .slice none 0 0]) := Lib.hid (Blk.new w _ _)
  have G0 : Hid (w.grownBy (w.alloc (.cells #[.int .i64 0, .string ⟨#[]⟩, .slice none 0 0] 26)) (some g)) := Lib.hid (grown_alloc2 (grown_refl _ _) _)
  clear hs
  go_enter Try.func43, Try.ntmps43
  go_wp2_with fail
  refine (drawAPz g _ Sr0.out).mono ?_
  rintro e w1 ⟨z, s, A, m, c, vs, gs, rfl, hB, hz, rx, hm, ln, s1, g1⟩
  have z1 : w.heap.size + 1 ≤ w1.heap.size := by have := g1.size; simpa using this
  have ba : Below w1.heap.size w1 (w1.alloc (.cells #[.int .i64 z, .string s, .slice A m c] 26)) := (Below.refl w1.heap.size w1).alloc (Nat.le_refl _) _
  obtain ⟨V, hV⟩ : ∃ V, w1.alloc (.cells #[.int .i64 z, .string s, .slice A m c] 26) = V := ⟨_, rfl⟩
  have Sr1 : Hid (Src V g) := Lib.hid (hV ▸ s1.below ba s1.lt)
  have X1 : Hid (Blk V w1.heap.size 26 #[.int .i64 z, .string s, .slice A m c]) := Lib.hid (hV ▸ Blk.new w1 _ _)
  have P1 : Hid (Blk V w.heap.size 26 #[.int .i64 0, .string ⟨#[]⟩, .slice none 0 0]) := Lib.hid (hV ▸ (P0.out.grown g1 (fun e => by injection e with e; omega)).alloc _)
  have G1 : Hid (w.grownBy V (some g)) := Lib.hid (hV ▸ grown_alloc2 (grown_trans' G0.out g1) _)
  have Rx1 : Hid (RX V (w.heap.size + 1) A m vs gs) := Lib.hid (hV ▸ (by have := rx.up ba; exact ⟨this.rr, fun h0 b off e => by have := this.outer h0 b off e; simp at this; omega, fun j hj b off e hp => by have := this.inner j hj b off e hp; simp at this; omega⟩))
  have zV : w1.heap.size + 1 ≤ V.heap.size := by rw [← hV]; simp
  have HB := Lib.hid hB
  have Ln := Lib.hid ln
  have Sd : Hid (Src V.drew g) := Lib.hid (Sr1.out.below (below_drew1 (Below.refl V.heap.size V)) Sr1.out.lt)
  have Rd : Hid (RX V.drew (w.heap.size + 1) A m vs gs) := Lib.hid (Rx1.out.up (below_drew1 (Below.refl V.heap.size V)))
  clear s1 g1 rx ba hB ln
  have x0 := X1.out.cell 0
  have x1 := X1.out.cell 1
  have x2 := X1.out.cell 2
  go_wp2_with fail
  go_region_law (go_simp; go_wp2_with (first
    | (go_at_call 78; (first | refine (drawSt g (w.heap.size + 1) z s A m c vs gs V.drew Sd.out HB.out Rd.out (by omega) hm Ln.out).mono ?_ | refine (drawSt g (w.heap.size + 1) z s A m c vs gs V Sr1.out HB.out Rx1.out (by omega) hm Ln.out).mono ?_); rintro e w2 ⟨P, np, cp, q, rfl, pm2, hnp, s2, g2d⟩
       have g2 : V.grownBy w2 (some g) := ⟨g2d.os, g2d.tape, g2d.output, g2d.size, g2d.block⟩
       have Sr2 := Lib.hid s2
       have X2 := Lib.hid (X1.out.grown g2 (fun e => by injection e with e; omega))
       have P2 := Lib.hid (P1.out.grown g2 (fun e => by injection e with e; omega))
       have Rx2 := Lib.hid (Rx1.out.gro g2 (by omega))
       have G2 : Hid (w.grownBy w2 (some g)) := Lib.hid (grown_trans' G1.out g2)
       have Pm2 : Hid (Pm w2 (w.heap.size + 1) P np cp q) := Lib.hid (pm2.mono (by first | (show w.heap.size + 1 ≤ V.heap.size; omega) | omega))
       clear s2 g2 g2d pm2
       have u0 := X2.out.cell 0
       have u1 := X2.out.cell 1
       have u2 := X2.out.cell 2
       have y0 := P2.out.cell 0
       have y1 := P2.out.cell 1
       have y2 := P2.out.cell 2
       have f0 := P2.out.frozen 0
       have f1 := P2.out.frozen 1
       have f2 := P2.out.frozen 2)))
  all_goals
    go_wp2_with fail
    obtain ⟨W9, eW9, D9, GW9⟩ := put3 P2.out (.int .i64 z) (.string s) (.slice A m c)
    rw [← eW9]
    clear eW9
    have r0 := D9.cell 0
    have r1 := D9.cell 1
    have r2 := D9.cell 2
    exact bodyPost_ret (v := .tuple #[.agg #[.int .i64 z, .string s, .slice A m c], .slice P np cp]) (by simp [results, Try.results43, r0, r1, r2, go_sem]) rfl ⟨z, s, A, m, c, vs, gs, P, np, cp, q, rfl, HB.out, hz, Rx2.out.gro GW9 (by omega), hm, Ln.out, Pm2.out.gro GW9 (by omega), hnp, Sr2.out.gro2 GW9 (fun r e => by injection e with e; omega), grown_new2 G2.out GW9 (fun r e => by injection e with e; omega)⟩
end Go.Proofs.Ytkjokchhffjidaa

/- Draws of words. Condition: at most 4096 bytes. -/
namespace Go.Proofs.Ytkjokchhffjidaa
open Go.RowKit

theorem slc_gro {w w' : World} {base n c g : Nat} {A : Option Addr} {xs : List Int} (h : Slc w base A n c xs) (hg : w.grownBy w' (some g)) (hb : g < base) : Slc w' base A n c xs :=
  h.kept hg (by
    rcases e : (Value.slice A n c).ownBlock with _ | k
    · exact .inl rfl
    · exact .inr fun e2 => by injection e2 with e2; have := (h.lt_ k e).1; omega)

/-- A number between two, of either sign. -/
theorem srcBetweenZ (g : Nat) (lo hi : Int) (w : World) (hs : Src w g) (h0 : -1000 ≤ lo) (h1 : lo ≤ hi) (h2 : hi ≤ lo + 200) (h3 : hi ≤ 1000) :
    Calls Try.prog 81 #[.pointer (some ⟨g, 0, none⟩), .int .i64 lo, .int .i64 hi] w fun e w' => ∃ r : Int, lo ≤ r ∧ r ≤ hi ∧ e = .returned (.int .i64 r) ∧ Src w' g ∧ w.grownBy w' (some g) := by
  have w1 : IntKind.i64.wrap (hi - lo) = hi - lo := by rw [IntKind.wrap_i64]; omega
  have w2 : IntKind.i64.wrap (hi - lo + 1) = hi - lo + 1 := by rw [IntKind.wrap_i64]; omega
  go_enter Try.func81, Try.ntmps81
  go_wp2_with fail
  refine (srcBelow g _ (hi - lo + 1).toNat w hs (by omega) (by omega) (by omega)).mono ?_
  rintro e w1 ⟨r, hr, rfl, s1, g1⟩
  have S1 := Lib.hid s1
  have G1 := Lib.hid g1
  have w3 : IntKind.i64.wrap (lo + (r : Int)) = lo + (r : Int) := by rw [IntKind.wrap_i64]; omega
  have h4 : lo + (r : Int) ≤ hi := by omega
  clear s1 g1
  go_wp2_with fail
  go_ret
  exact ⟨lo + r, by omega, h4, rfl, S1.out, G1.out⟩

set_option maxHeartbeats 1600000 in
set_option maxRecDepth 100000 in
/-- drawWord. -/
theorem drawWordT (g G : Nat) (w : World) (hs : Src w g) (hG : G ≤ 100) :
    Calls Try.prog 46 #[.pointer (some ⟨g, 0, none⟩), .int .i64 (G : Nat)] w fun e w' => ∃ A m c xs, e = .returned (.slice A m c) ∧ Slc w' w.heap.size A m c xs ∧ VI xs ∧ m ≤ 6 ∧ Src w' g ∧ w.grownBy w' (some g) := by
  have hg := hs.lt
  have S0 : Hid (Slc (w.alloc (.cells #[] 2)) w.heap.size (some ⟨w.heap.size, 0, none⟩) 0 0 []) := Lib.hid (Slc.lit0 w _ (Nat.le_refl _))
  have Sr0 : Hid (Src (w.alloc (.cells #[] 2)) g) := Lib.hid (hs.below ((Below.refl w.heap.size w).alloc (Nat.le_refl _) _) hg)
  have G0 : Hid (w.grownBy (w.alloc (.cells #[] 2)) (some g)) := Lib.hid (grown_alloc2 (grown_refl _ _) _)
  clear hs
  go_enter Try.func46, Try.ntmps46
  go_wp2_with fail
  refine (srcBelow g _ 7 _ Sr0.out rfl (by omega) (by omega)).mono ?_
  rintro e w1 ⟨r, hr, rfl, s1, g1⟩
  have Sr1 := Lib.hid s1
  have S1 := Lib.hid (slc_gro S0.out g1 hg)
  have G1 : Hid (w.grownBy w1 (some g)) := Lib.hid (grown_trans' G0.out g1)
  clear s1 g1 S0 Sr0 G0
  go_wp2_with fail
  go_loopw [5, 6] (fun wv kv wr => ∃ (k m c : Nat) (A : Option Addr) (xs : List Int), k + m ≤ 6 ∧ wv = .slice A m c ∧ kv = .int .i64 (k : Nat) ∧ Slc wr w.heap.size A m c xs ∧ VI xs ∧ Src wr g ∧ w.grownBy wr (some g)) (fun _ kv _ => (intOf kv).toNat)
  case atStart => exact ⟨r, 0, 0, _, [], by omega, rfl, rfl, S1.out, VI.nil_, Sr1.out, G1.out⟩
  case round =>
    clear S1 Sr1 G1
    obtain ⟨k, m, c, A, xs, hk, rfl, rfl, sl, vi, src, grc⟩ := hrel
    have Sl := Lib.hid sl
    have Vx := Lib.hid vi
    have Sr := Lib.hid src
    have Gr := Lib.hid grc
    clear sl vi src grc
    by_cases hk0 : 0 < k
    · have dk : decide (0 < k) = true := decide_eq_true hk0
      by_cases hG0 : 0 < G
      · have dG : decide (0 < G) = true := decide_eq_true hG0
        go_wp2_with fail
        refine (srcBelow g _ G wr Sr.out rfl (by omega) (by omega)).mono ?_
        rintro e w2 ⟨z, hz, rfl, s2, g2⟩
        have Sr2 := Lib.hid s2
        have Sl2 := Lib.hid (slc_gro Sl.out g2 hg)
        have G2 : Hid (w.grownBy w2 (some g)) := Lib.hid (grown_trans' Gr.out g2)
        have wz : IntKind.i64.wrap (1 + (z : Int)) = 1 + (z : Int) := by rw [IntKind.wrap_i64]; omega
        clear s2 g2
        go_wp2_with fail
        refine (srcOne g _ 2 w2 Sr2.out rfl (by omega) (by omega)).mono ?_
        rintro e w3 ⟨b, rfl, s3, g3⟩
        have Sr3 := Lib.hid s3
        have Sl3 := Lib.hid (slc_gro Sl2.out g3 hg)
        have G3 : Hid (w.grownBy w3 (some g)) := Lib.hid (grown_trans' G2.out g3)
        have hz3 : w.heap.size ≤ w3.heap.size := G3.out.size
        have wk : IntKind.i64.wrap ((k : Int) - 1) = ((k - 1 : Nat) : Int) := by rw [IntKind.wrap_i64]; omega
        clear s3 g3
        cases b
        · obtain ⟨u, eu⟩ : ∃ u, 1 + (z : Int) = u := ⟨_, rfl⟩
          have hu : -9223372036854775808 ≤ u ∧ u ≤ 9223372036854775807 := by omega
          rw [eu]
          clear eu wz
          go_wp2_with (first | (at_builtin; refine wpList_app1 rfl _ _ rfl w.heap.size A m c xs rfl (Sl3.out.alloc _) w3.heap.size u rfl (by rw [World.cell?_alloc_at _ _ _ _ rfl]; rfl) (by omega) (by simp; omega) ?_; intro P6 c6 w6 s6 g6) | go_in)
          have S6 := Lib.hid s6
          have V6 : Hid (VI (xs ++ [u])) := Lib.hid (Vx.out.snoc hu)
          have Sr6 : Hid (Src w6 g) := Lib.hid ((Sr3.out.below ((Below.refl w3.heap.size w3).alloc (Nat.le_refl _) (.cells #[.int .i64 u] 2)) Sr3.out.lt).gro2 g6 (fun j hj => by have := (Sl3.out.lt_ j hj).1; omega))
          have G6 : Hid (w.grownBy w6 (some g)) := Lib.hid (grown_new2 (grown_alloc2 G3.out (.cells #[.int .i64 u] 2)) g6 (fun j hj => (Sl3.out.lt_ j hj).1))
          clear s6 g6
          go_wp2_with fail
          go_roundw
          case rel => exact ⟨k - 1, m + 1, c6, P6, _, by omega, rfl, by go_num, S6.out, V6.out, Sr6.out, G6.out⟩
          case measure => simp [intOf] <;> omega
        · have wz2 : IntKind.i64.wrap (-(1 + (z : Int))) = -(1 + (z : Int)) := by rw [IntKind.wrap_i64]; omega
          obtain ⟨y, ey⟩ : ∃ y, 1 + (z : Int) = y := ⟨_, rfl⟩
          rw [ey] at wz2 ⊢
          obtain ⟨u, eu⟩ : ∃ u, -y = u := ⟨_, rfl⟩
          have hu : -9223372036854775808 ≤ u ∧ u ≤ 9223372036854775807 := by omega
          rw [eu] at wz2
          clear ey wz
          go_wp2_with (first | (at_builtin; refine wpList_app1 rfl _ _ rfl w.heap.size A m c xs rfl (Sl3.out.alloc _) w3.heap.size u rfl (by rw [World.cell?_alloc_at _ _ _ _ rfl]; rfl) (by omega) (by simp; omega) ?_; intro P6 c6 w6 s6 g6) | go_in)
          have S6 := Lib.hid s6
          have V6 : Hid (VI (xs ++ [u])) := Lib.hid (Vx.out.snoc hu)
          have Sr6 : Hid (Src w6 g) := Lib.hid ((Sr3.out.below ((Below.refl w3.heap.size w3).alloc (Nat.le_refl _) (.cells #[.int .i64 u] 2)) Sr3.out.lt).gro2 g6 (fun j hj => by have := (Sl3.out.lt_ j hj).1; omega))
          have G6 : Hid (w.grownBy w6 (some g)) := Lib.hid (grown_new2 (grown_alloc2 G3.out (.cells #[.int .i64 u] 2)) g6 (fun j hj => (Sl3.out.lt_ j hj).1))
          clear s6 g6 eu
          go_wp2_with fail
          go_roundw
          case rel => exact ⟨k - 1, m + 1, c6, P6, _, by omega, rfl, by go_num, S6.out, V6.out, Sr6.out, G6.out⟩
          case measure => simp [intOf] <;> omega
      · have dG : decide (0 < G) = false := decide_eq_false hG0
        go_wp2_with fail
        go_ret
        exact ⟨A, m, c, xs, rfl, Sl.out, Vx.out, by omega, Sr.out, Gr.out⟩
    · have dk : decide (0 < k) = false := decide_eq_false hk0
      go_wp2_with fail
      go_ret
      exact ⟨A, m, c, xs, rfl, Sl.out, Vx.out, by omega, Sr.out, Gr.out⟩

set_option maxHeartbeats 1600000 in
set_option maxRecDepth 100000 in
/-- drawAnyWord. -/
theorem drawAnyW (g : Nat) (w : World) (hs : Src w g) :
    Calls Try.prog 45 #[.pointer (some ⟨g, 0, none⟩)] w fun e w' => ∃ A m c xs, e = .returned (.slice A m c) ∧ Slc w' w.heap.size A m c xs ∧ VI xs ∧ m ≤ 201 ∧ Src w' g ∧ w.grownBy w' (some g) := by
  have hg := hs.lt
  go_enter Try.func45, Try.ntmps45
  go_wp2_with fail
  refine (drawWordT g 3 w hs (by omega)).mono ?_
  rintro e w1 ⟨A, m, c, xs, rfl, s1, v1, hm, sr1, g1⟩
  have Sl1 := Lib.hid s1
  have V1 := Lib.hid v1
  have Sr1 := Lib.hid sr1
  have G1 := Lib.hid g1
  clear s1 v1 sr1 g1 hs
  go_wp2_with fail
  refine (srcOne g _ 12 w1 Sr1.out rfl (by omega) (by omega)).mono ?_
  rintro e w2 ⟨b, rfl, s2, g2⟩
  have Sr2 := Lib.hid s2
  have Sl2 := Lib.hid (slc_gro Sl1.out g2 hg)
  have G2 : Hid (w.grownBy w2 (some g)) := Lib.hid (grown_trans' G1.out g2)
  clear s2 g2 Sl1 Sr1 G1
  cases b
  · go_wp2_with fail
    go_ret
    exact ⟨A, m, c, xs, rfl, Sl2.out, V1.out, by omega, Sr2.out, G2.out⟩
  · go_wp2_with fail
    refine (srcBelow g _ 3 w2 Sr2.out rfl (by omega) (by omega)).mono ?_
    rintro e w3 ⟨r, hr, rfl, s3, g3⟩
    have Sr3 := Lib.hid s3
    have Sl3 := Lib.hid (slc_gro Sl2.out g3 hg)
    have G3 : Hid (w.grownBy w3 (some g)) := Lib.hid (grown_trans' G2.out g3)
    clear s3 g3 Sl2 Sr2 G2
    obtain rfl | rfl | rfl : r = 0 ∨ r = 1 ∨ r = 2 := by omega
    · go_wp2_with fail
      refine (srcExtremeB g w3 Sr3.out).mono ?_
      rintro e w4 ⟨u, rfl, hu, s4, g4⟩
      have Sr4 := Lib.hid s4
      have Sl4 := Lib.hid (slc_gro Sl3.out g4 hg)
      have G4 : Hid (w.grownBy w4 (some g)) := Lib.hid (grown_trans' G3.out g4)
      have hz4 : w.heap.size ≤ w4.heap.size := G4.out.size
      clear s4 g4
      go_wp2_with (first | (at_builtin; refine wpList_app1 rfl _ _ rfl w.heap.size A m c xs rfl (Sl4.out.alloc _) w4.heap.size u rfl (by rw [World.cell?_alloc_at _ _ _ _ rfl]; rfl) (by omega) (by simp; omega) ?_; intro P6 c6 w6 s6 g6) | go_in)
      have S6 := Lib.hid s6
      have V6 : Hid (VI (xs ++ [u])) := Lib.hid (V1.out.snoc hu)
      have Sr6 : Hid (Src w6 g) := Lib.hid ((Sr4.out.below ((Below.refl w4.heap.size w4).alloc (Nat.le_refl _) (.cells #[.int .i64 u] 2)) Sr4.out.lt).gro2 g6 (fun j hj => by have := (Sl4.out.lt_ j hj).1; omega))
      have G6 : Hid (w.grownBy w6 (some g)) := Lib.hid (grown_new2 (grown_alloc2 G4.out (.cells #[.int .i64 u] 2)) g6 (fun j hj => (Sl4.out.lt_ j hj).1))
      clear s6 g6
      go_wp2_with fail
      go_ret
      exact ⟨P6, m + 1, c6, _, rfl, S6.out, V6.out, by omega, Sr6.out, G6.out⟩
    · go_wp2_with fail
      refine (srcBetweenZ g (-9) 9 w3 Sr3.out (by omega) (by omega) (by omega) (by omega)).mono ?_
      rintro e w4 ⟨u, hu1, hu2, rfl, s4, g4⟩
      have Sr4 := Lib.hid s4
      have Sl4 := Lib.hid (slc_gro Sl3.out g4 hg)
      have G4 : Hid (w.grownBy w4 (some g)) := Lib.hid (grown_trans' G3.out g4)
      have hz4 : w.heap.size ≤ w4.heap.size := G4.out.size
      have hu : -9223372036854775808 ≤ u ∧ u ≤ 9223372036854775807 := by omega
      clear s4 g4
      go_wp2_with (first | (at_builtin; refine wpList_app1 rfl _ _ rfl w.heap.size A m c xs rfl (Sl4.out.alloc _) w4.heap.size u rfl (by rw [World.cell?_alloc_at _ _ _ _ rfl]; rfl) (by omega) (by simp; omega) ?_; intro P6 c6 w6 s6 g6) | go_in)
      have S6 := Lib.hid s6
      have V6 : Hid (VI (xs ++ [u])) := Lib.hid (V1.out.snoc hu)
      have Sr6 : Hid (Src w6 g) := Lib.hid ((Sr4.out.below ((Below.refl w4.heap.size w4).alloc (Nat.le_refl _) (.cells #[.int .i64 u] 2)) Sr4.out.lt).gro2 g6 (fun j hj => by have := (Sl4.out.lt_ j hj).1; omega))
      have G6 : Hid (w.grownBy w6 (some g)) := Lib.hid (grown_new2 (grown_alloc2 G4.out (.cells #[.int .i64 u] 2)) g6 (fun j hj => (Sl4.out.lt_ j hj).1))
      clear s6 g6
      go_wp2_with fail
      go_ret
      exact ⟨P6, m + 1, c6, _, rfl, S6.out, V6.out, by omega, Sr6.out, G6.out⟩
    · go_wp2_with fail
      go_loopw [3] (fun wv wr => ∃ (m c : Nat) (A : Option Addr) (xs : List Int), m ≤ 201 ∧ wv = .slice A m c ∧ Slc wr w.heap.size A m c xs ∧ VI xs ∧ Src wr g ∧ w.grownBy wr (some g)) (fun wv _ => 201 - (match wv with | .slice _ n _ => n | _ => 0))
      case atStart => exact ⟨m, c, A, xs, by omega, rfl, Sl3.out, V1.out, Sr3.out, G3.out⟩
      case round =>
        clear Sl3 Sr3 G3 V1 hm
        obtain ⟨m, c, A, xs, hm, rfl, sl, vi, src, grc⟩ := hrel
        have Sl := Lib.hid sl
        have Vx := Lib.hid vi
        have Sr := Lib.hid src
        have Gr := Lib.hid grc
        clear sl vi src grc
        go_wp2_with fail
        refine (srcBetweenZ g (-1) 1 wr Sr.out (by omega) (by omega) (by omega) (by omega)).mono ?_
        rintro e w2 ⟨r, hr1, hr2, rfl, s2, g2⟩
        have Sr2 := Lib.hid s2
        have Sl2 := Lib.hid (slc_gro Sl.out g2 hg)
        have G2 : Hid (w.grownBy w2 (some g)) := Lib.hid (grown_trans' Gr.out g2)
        have wz : IntKind.i64.wrap (200 + r) = 200 + r := by rw [IntKind.wrap_i64]; omega
        clear s2 g2
        by_cases hlt : (m : Int) < 200 + r
        · have dl : decide ((m : Int) < 200 + r) = true := decide_eq_true hlt
          go_wp2_with fail
          refine (srcBelow g _ 2 w2 Sr2.out rfl (by omega) (by omega)).mono ?_
          rintro e w3 ⟨z, hz, rfl, s3, g3⟩
          have Sr3 := Lib.hid s3
          have Sl3 := Lib.hid (slc_gro Sl2.out g3 hg)
          have G3 : Hid (w.grownBy w3 (some g)) := Lib.hid (grown_trans' G2.out g3)
          have hz3 : w.heap.size ≤ w3.heap.size := G3.out.size
          have wz2 : IntKind.i64.wrap (1 + (z : Int)) = 1 + (z : Int) := by rw [IntKind.wrap_i64]; omega
          clear s3 g3
          obtain ⟨u, eu⟩ : ∃ u, 1 + (z : Int) = u := ⟨_, rfl⟩
          have hu : -9223372036854775808 ≤ u ∧ u ≤ 9223372036854775807 := by omega
          rw [eu] at wz2
          clear wz dl
          go_wp2_with (first | (at_builtin; refine wpList_app1 rfl _ _ rfl w.heap.size A m c xs rfl (Sl3.out.alloc _) w3.heap.size u rfl (by rw [World.cell?_alloc_at _ _ _ _ rfl]; rfl) (by omega) (by simp; omega) ?_; intro P6 c6 w6 s6 g6) | go_in)
          have S6 := Lib.hid s6
          have V6 : Hid (VI (xs ++ [u])) := Lib.hid (Vx.out.snoc hu)
          have Sr6 : Hid (Src w6 g) := Lib.hid ((Sr3.out.below ((Below.refl w3.heap.size w3).alloc (Nat.le_refl _) (.cells #[.int .i64 u] 2)) Sr3.out.lt).gro2 g6 (fun j hj => by have := (Sl3.out.lt_ j hj).1; omega))
          have G6 : Hid (w.grownBy w6 (some g)) := Lib.hid (grown_new2 (grown_alloc2 G3.out (.cells #[.int .i64 u] 2)) g6 (fun j hj => (Sl3.out.lt_ j hj).1))
          clear s6 g6 eu
          go_wp2_with fail
          go_roundw
          case rel => exact ⟨m + 1, c6, P6, _, by omega, rfl, S6.out, V6.out, Sr6.out, G6.out⟩
          case measure => simp <;> omega
        · have dl : decide ((m : Int) < 200 + r) = false := decide_eq_false hlt
          go_wp2_with fail
          go_ret
          exact ⟨A, m, c, xs, rfl, Sl2.out, Vx.out, by omega, Sr2.out, G2.out⟩
end Go.Proofs.Ytkjokchhffjidaa

/- The model's draw for ApplyWord. Condition: at most 4096 bytes. -/
namespace Go.Proofs.Ytkjokchhffjidaa
open Go.RowKit

theorem below_gro9 {w a b : World} {g : Nat} (h : Below w.heap.size w a) (hg : a.grownBy b (some g)) (hl : w.heap.size ≤ g) : Below w.heap.size w b := h.grown hg h.size (fun k e => by injection e with e; omega)

set_option maxHeartbeats 4000000 in
set_option maxRecDepth 100000 in
/-- DrawApplyWord. -/
theorem drawAW (len cap : Nat) (C : Option Addr) (w : World) (hb : SB w w.heap.size C len) (hl : len ≤ 4096) :
    Calls Try.prog 13 #[.slice C len cap] w fun e w' => ∃ (z : Int) (s : ByteArray) (A : Option Addr) (m c : Nat) (vs : List SV) (gs : List (List Int)) (P : Option Addr) (np cp : Nat) (q : List Int) (D : Option Addr) (nd cd : Nat) (wd : List Int), e = .returned (.tuple #[.agg #[.int .i64 z, .string s, .slice A m c], .slice P np cp, .slice D nd cd]) ∧ PIn w' z s A m vs gs ∧ m ≤ 9 ∧ SIn w' P np cp q ∧ np ≤ 21 ∧ SIn w' D nd cd wd ∧ VI wd ∧ nd ≤ 201 ∧ ((D = none ∧ nd = 0 ∧ cd = 0) ∨ ∃ b, D = some ⟨b, 0, none⟩) ∧ Below w.heap.size w w' := by
  have ba : Below w.heap.size w (w.alloc (.cells #[.int .i64 0, .string ⟨#[]⟩, .slice none 0 0] 26)) := (Below.refl w.heap.size w).alloc (Nat.le_refl _) _
  obtain ⟨V, hV⟩ : ∃ V, w.alloc (.cells #[.int .i64 0, .string ⟨#[]⟩, .slice none 0 0] 26) = V := ⟨_, rfl⟩
  have hb0 : SB V V.heap.size C len := by rw [← hV]; exact SB.up (w' := w) (hb.below ba (Nat.le_refl _)) (by simp)
  have P0 : Hid (Blk V w.heap.size 26 #[.int .i64 0, .string ⟨#[]⟩, .slice none 0 0]) := Lib.hid (hV ▸ Blk.new w _ _)
  have B0 : Hid (Below w.heap.size w V) := Lib.hid (hV ▸ ba)
  have zV : V.heap.size = w.heap.size + 1 := by rw [← hV]; simp
  clear ba
  go_enter Try.func13, Try.ntmps13
  go_wp2_with fail
  try rw [hV]
  clear hV
  refine (newSrc len cap C V hb0 hl).mono ?_
  rintro e w1 ⟨rfl, s1, b1⟩
  rw [zV] at s1
  have Sr1 := Lib.hid s1
  have P1 := Lib.hid (P0.out.below b1 P0.out.lt)
  have B1 := Lib.hid (btr B0.out b1)
  have hg1 := s1.lt
  clear s1 b1 hb0
  go_wp2_with fail
  refine (drawPzS (w.heap.size + 1) w1 Sr1.out).mono ?_
  rintro e w2 ⟨z, s, A, m, c, vs, gs, P, np, cp, q, rfl, hB, hz, rx, hm, ln, pm, hnp, s2, g2⟩
  have z2 := g2.size
  have by2 : Below w2.heap.size w2 (w2.alloc (.cells #[.int .i64 z, .string s, .slice A m c] 26)) := (Below.refl w2.heap.size w2).alloc (Nat.le_refl _) _
  obtain ⟨Y, hY⟩ : ∃ Y, w2.alloc (.cells #[.int .i64 z, .string s, .slice A m c] 26) = Y := ⟨_, rfl⟩
  rw [hY] at by2
  have Sr2 : Hid (Src Y (w.heap.size + 1)) := Lib.hid (s2.below by2 s2.lt)
  have X2 : Hid (Blk Y w2.heap.size 26 #[.int .i64 z, .string s, .slice A m c]) := Lib.hid (hY ▸ Blk.new w2 _ _)
  have P2 := Lib.hid ((P1.out.grown g2 (fun e => by injection e with e; omega)).below by2 (by have := P1.out.lt; omega))
  have Rx2 := Lib.hid (rx.up by2)
  have Pm2 := Lib.hid (pm.up by2)
  have B2 := Lib.hid (btr (below_gro9 B1.out g2 (by omega)) by2)
  have zY : w2.heap.size + 1 ≤ Y.heap.size := by rw [← hY]; simp
  have HB : Hid (I64 z) := Lib.hid hB
  have Ln := Lib.hid ln
  clear rx pm s2 g2 by2 hB ln
  go_wp2_with fail
  try rw [hY]
  clear hY
  refine (srcOne (w.heap.size + 1) _ 4 Y Sr2.out rfl (by omega) (by omega)).mono ?_
  rintro e w4 ⟨b, rfl, s4, g4⟩
  have Sr4 := Lib.hid s4
  have X4 := Lib.hid (X2.out.grown g4 (fun e => by injection e with e; omega))
  have P4 := Lib.hid (P2.out.grown g4 (fun e => by injection e with e; omega))
  have Rx4 := Lib.hid (Rx2.out.gro g4 (by omega))
  have Pm4 := Lib.hid (Pm2.out.gro g4 (by omega))
  have B4 := Lib.hid (below_gro9 B2.out g4 (by omega))
  have z4 := g4.size
  have Sd : Hid (Src w4.drew (w.heap.size + 1)) := Lib.hid (s4.below (⟨rfl, rfl, rfl, Nat.le_refl _, fun _ _ => rfl⟩ : Below w4.heap.size w4 w4.drew) s4.lt)
  clear s4 g4
  have x0 := X4.out.cell 0
  have x1 := X4.out.cell 1
  have x2 := X4.out.cell 2
  cases b
  · skip
    go_wp2_with fail
    go_region_law (go_simp; go_wp2_with (first
      | (go_at_call 46; (first | with_reducible refine (drawWordT (w.heap.size + 1) m w4.drew Sd.out (by omega)).mono ?_ | with_reducible refine (drawWordT (w.heap.size + 1) m w4 Sr4.out (by omega)).mono ?_); rintro e w5 ⟨D, nd, cd, wd, rfl, sl5, v5, hnd, s5, g5d⟩
         have g5 : w4.grownBy w5 (some (w.heap.size + 1)) := ⟨g5d.os, g5d.tape, g5d.output, g5d.size, g5d.block⟩
         have X5 := Lib.hid (X4.out.grown g5 (fun e => by injection e with e; omega))
         have P5 := Lib.hid (P4.out.grown g5 (fun e => by injection e with e; omega))
         have Rx5 := Lib.hid (Rx4.out.gro g5 (by omega))
         have Pm5 := Lib.hid (Pm4.out.gro g5 (by omega))
         have B5 := Lib.hid (below_gro9 B4.out g5 (by omega))
         have z5 : w4.heap.size ≤ w5.heap.size := g5.size
         have Sl5 : Hid (Slc w5 (w.heap.size + 1) D nd cd wd) := Lib.hid (sl5.mono (by first | (show w.heap.size + 1 ≤ w4.heap.size; omega) | omega))
         have V5 := Lib.hid v5
         clear s5 g5 g5d sl5 v5
         have u0 := X5.out.cell 0
         have u1 := X5.out.cell 1
         have u2 := X5.out.cell 2
         have y0 := P5.out.cell 0
         have y1 := P5.out.cell 1
         have y2 := P5.out.cell 2
         have f0 := P5.out.frozen 0
         have f1 := P5.out.frozen 1
         have f2 := P5.out.frozen 2)))
    all_goals
      go_wp2_with fail
      obtain ⟨W9, eW9, D9, GW9⟩ := put3 P5.out (.int .i64 z) (.string s) (.slice A m c)
      rw [← eW9]
      clear eW9
      have r0 := D9.cell 0
      have r1 := D9.cell 1
      have r2 := D9.cell 2
      have Pm9 := Pm5.out.gro GW9 (by omega)
      have Sl9 := slc_gro Sl5.out GW9 (by omega)
      have Rx9 := Rx5.out.gro GW9 (by omega)
      have hnd2 : nd ≤ 201 := by omega
      have Ad : (D = none ∧ nd = 0 ∧ cd = 0) ∨ ∃ b, D = some ⟨b, 0, none⟩ := by rcases Sl9.at_ with ⟨h1, _, h2, h3⟩ | ⟨b, h, _⟩; exact .inl ⟨h1, h2, h3⟩; exact .inr ⟨b, h⟩
      exact bodyPost_ret (v := .tuple #[.agg #[.int .i64 z, .string s, .slice A m c], .slice P np cp, .slice D nd cd]) (by simp [results, Try.results13, r0, r1, r2, go_sem]) rfl ⟨z, s, A, m, c, vs, gs, P, np, cp, q, D, nd, cd, wd, rfl, ⟨⟨Rx9.rr, by omega, fun i hi => by have := Ln.out i hi; omega⟩, HB.out, by omega⟩, hm, ⟨Pm9.ri, Pm9.1, by omega, Pm9.2.1⟩, hnp, ⟨Sl9.ri_, Sl9.1, by omega, Sl9.le.1⟩, V5.out, hnd2, Ad, below_gro9 B5.out GW9 (Nat.le_refl _)⟩
  · skip
    go_wp2_with fail
    go_region_law (go_simp; go_wp2_with (first
      | (go_at_call 45; (first | with_reducible refine (drawAnyW (w.heap.size + 1) w4.drew Sd.out).mono ?_ | with_reducible refine (drawAnyW (w.heap.size + 1) w4 Sr4.out).mono ?_); rintro e w5 ⟨D, nd, cd, wd, rfl, sl5, v5, hnd, s5, g5d⟩
         have g5 : w4.grownBy w5 (some (w.heap.size + 1)) := ⟨g5d.os, g5d.tape, g5d.output, g5d.size, g5d.block⟩
         have X5 := Lib.hid (X4.out.grown g5 (fun e => by injection e with e; omega))
         have P5 := Lib.hid (P4.out.grown g5 (fun e => by injection e with e; omega))
         have Rx5 := Lib.hid (Rx4.out.gro g5 (by omega))
         have Pm5 := Lib.hid (Pm4.out.gro g5 (by omega))
         have B5 := Lib.hid (below_gro9 B4.out g5 (by omega))
         have z5 : w4.heap.size ≤ w5.heap.size := g5.size
         have Sl5 : Hid (Slc w5 (w.heap.size + 1) D nd cd wd) := Lib.hid (sl5.mono (by first | (show w.heap.size + 1 ≤ w4.heap.size; omega) | omega))
         have V5 := Lib.hid v5
         clear s5 g5 g5d sl5 v5
         have u0 := X5.out.cell 0
         have u1 := X5.out.cell 1
         have u2 := X5.out.cell 2
         have y0 := P5.out.cell 0
         have y1 := P5.out.cell 1
         have y2 := P5.out.cell 2
         have f0 := P5.out.frozen 0
         have f1 := P5.out.frozen 1
         have f2 := P5.out.frozen 2)))
    all_goals
      go_wp2_with fail
      obtain ⟨W9, eW9, D9, GW9⟩ := put3 P5.out (.int .i64 z) (.string s) (.slice A m c)
      rw [← eW9]
      clear eW9
      have r0 := D9.cell 0
      have r1 := D9.cell 1
      have r2 := D9.cell 2
      have Pm9 := Pm5.out.gro GW9 (by omega)
      have Sl9 := slc_gro Sl5.out GW9 (by omega)
      have Rx9 := Rx5.out.gro GW9 (by omega)
      have hnd2 : nd ≤ 201 := by omega
      have Ad : (D = none ∧ nd = 0 ∧ cd = 0) ∨ ∃ b, D = some ⟨b, 0, none⟩ := by rcases Sl9.at_ with ⟨h1, _, h2, h3⟩ | ⟨b, h, _⟩; exact .inl ⟨h1, h2, h3⟩; exact .inr ⟨b, h⟩
      exact bodyPost_ret (v := .tuple #[.agg #[.int .i64 z, .string s, .slice A m c], .slice P np cp, .slice D nd cd]) (by simp [results, Try.results13, r0, r1, r2, go_sem]) rfl ⟨z, s, A, m, c, vs, gs, P, np, cp, q, D, nd, cd, wd, rfl, ⟨⟨Rx9.rr, by omega, fun i hi => by have := Ln.out i hi; omega⟩, HB.out, by omega⟩, hm, ⟨Pm9.ri, Pm9.1, by omega, Pm9.2.1⟩, hnp, ⟨Sl9.ri_, Sl9.1, by omega, Sl9.le.1⟩, V5.out, hnd2, Ad, below_gro9 B5.out GW9 (Nat.le_refl _)⟩
end Go.Proofs.Ytkjokchhffjidaa

/- What an iterator's walk needs of blocks, of slices of slices, of append inside a round. No condition. -/
namespace Go.Proofs.Ytkjokchhffjidaa
open Go.RowKit
attribute [local go_sem] Oper.semAt_some

/-- From A to C the blocks below b and beyond b + 2 lie as they lay. -/
structure Xk (b : Nat) (A C : World) : Prop where
  os : C.os = A.os
  tape : C.tape = A.tape
  output : C.output = A.output
  size : A.heap.size ≤ C.heap.size
  block : ∀ k, k < A.heap.size → (k < b ∨ b + 2 < k) → C.heap[k]? = A.heap[k]?
theorem Xk.of_grown {b r : Nat} {A C : World} (h : A.grownBy C (some r)) (hr : b ≤ r ∧ r ≤ b + 2) : Xk b A C :=
  ⟨h.os, h.tape, h.output, h.size, fun k hk hb => h.block k hk (fun e => by cases e; omega)⟩
theorem Xk.trans {b : Nat} {A C D : World} (h : Xk b A C) (k : Xk b C D) : Xk b A D :=
  ⟨k.os.trans h.os, k.tape.trans h.tape, k.output.trans h.output, Nat.le_trans h.size k.size, fun i hi hb => (k.block i (Nat.lt_of_lt_of_le hi h.size) hb).trans (h.block i hi hb)⟩
theorem Xk.put {b r : Nat} (A : World) (o : Obj) (hr : b ≤ r ∧ r ≤ b + 2) : Xk b A (A.putObj r o) := Xk.of_grown (grownBy_putObj' A r o) hr
theorem Xk.below {b B : Nat} {A C : World} (h : Xk b A C) (hB : B ≤ b) (hA : B ≤ A.heap.size) : Below B A C := ⟨h.os, h.tape, h.output, h.size, fun k hk => h.block k (by omega) (.inl (by omega))⟩
theorem Slc.xk {b base n c : Nat} {A C : World} {S : Option Addr} {xs : List Int} (h : Slc A base S n c xs) (hk : Xk b A C) (ho : ∀ k, (Value.slice S n c).ownBlock = some k → k < b ∨ b + 2 < k) : Slc C base S n c xs := by
  refine ⟨h.1, h.2.1, ?_⟩
  rcases h.2.2 with hn | ⟨g, cap, cur, e, hb', hg, rest⟩
  · exact .inl hn
  · exact .inr ⟨g, cap, cur, e, hb', by rw [hk.block g (Array.getElem?_eq_some_iff.1 hg).1 (ho g (by rw [e]; rfl))]; exact hg, rest⟩

theorem SS.keptR {w w' : World} {bo bi n c : Nat} {A : Option Addr} {vs : List SV} {xss : List (List Int)} {row : Option Nat} (h : SS w bo bi A n c vs xss) (hg : w.grownBy w' row)
    (ho : (Value.slice A n c).ownBlock = none ∨ (Value.slice A n c).ownBlock ≠ row) (hr : ∀ i, i < n → (sval (vs.getD i sd0)).ownBlock = none ∨ (sval (vs.getD i sd0)).ownBlock ≠ row) : SS w' bo bi A n c vs xss :=
  ⟨World.ownsRow.kept h.own hg ho, h.lv, h.lx, fun i hi' => (h.row i hi').kept hg (hr i hi'), h.dis⟩
theorem SS.xk {b bo bi n c : Nat} {W C : World} {A : Option Addr} {vs : List SV} {xss : List (List Int)} (h : SS W bo bi A n c vs xss) (hk : Xk b W C) (h1 : b + 2 < bo) (h2 : b + 2 < bi) : SS C bo bi A n c vs xss := by
  refine ⟨⟨h.own.1, ?_⟩, h.lv, h.lx, fun i hi => (h.row i hi).xk hk (fun k e => .inr (by have := ((h.row i hi).lt_ k e).1; omega)), h.dis⟩
  rcases h.own.2 with hn | ⟨g, cap, cur, e, hb', hg, rest⟩
  · exact .inl hn
  · exact .inr ⟨g, cap, cur, e, hb', by rw [hk.block g (Array.getElem?_eq_some_iff.1 hg).1 (.inr (by omega))]; exact hg, rest⟩

/-- append of one slice onto a slice of slices of the call's own, inside a round. -/
theorem wpListIn_app2 {F : Fence} {nn : Nat} {w : World} {base bi n c : Nat} {A : Option Addr} {vs : List SV} {xss : List (List Int)} {ops : Array Oper} {rest : List Oper} {o : Oper} {a : Act} {Q : Exit → Act → World → Prop} (hgd : o.guard = none) (s x : Operand)
    (ho : o.op = .call { callee := .builtin .append, args := #[s, x], argTypes := #[24, 24] })
    (hs : a.eval s = .slice A n c) (hss : SS w base bi A n c vs xss) (g : Nat) (dA : Option Addr) (dn dc : Nat) (ys : List Int) (hx : a.eval x = .slice (some ⟨g, 0, none⟩) 1 1)
    (hcell : w.cell? ⟨g, 0, none⟩ = some (.slice dA dn dc)) (hys : Slc w bi dA dn dc ys)
    (hdis : ∀ i, i < n → (sval (vs.getD i sd0)).ownBlock = none ∨ (sval (vs.getD i sd0)).ownBlock ≠ (Value.slice dA dn dc).ownBlock) (hn : n ≤ 1000000000) (hbase : base ≤ w.heap.size)
    (h : ∀ g' c' w', SS w' base bi (some ⟨g', 0, none⟩) (n + 1) c' (vs ++ [(dA, dn, dc)]) (xss ++ [ys]) → w.grownBy w' (Value.slice A n c).ownBlock → wpListIn F nn Try.prog ops Q rest (a.put o.dst (.slice (some ⟨g', 0, none⟩) (n + 1) c')) w') : wpListIn F nn Try.prog ops Q (o :: rest) a w := by
  obtain ⟨i0, hi, hz0, hz1, hz2⟩ := info_parts infoS
  refine wpListIn_append_own w hgd s x 24 ho base 27 i0 (.slice none 0 0) 1 24 Try.underlying24 hi hz0 hz1 hz2 rfl (by decide) _ n _ hs hss.own ⟨g, 0, none⟩ 1 1 [.slice dA dn dc] hx rfl ?_ ?_ ?_ (by omega) hbase ?_
  · intro j v hj
    match j, hj with
    | 0, hj => simp at hj; subst hj; simpa [Addr.add] using hcell
    | j + 1, hj => simp at hj
  · intro v hv; simp at hv; subst hv; rfl
  · unfold maxLen; omega
  · intro v' w' hown' hg _
    have hform : ∃ g' c', v' = .slice (some ⟨g', 0, none⟩) (n + 1) c' := by
      rcases hown'.2 with ⟨rfl, h0⟩ | ⟨g', cap, cur, rfl, _⟩
      · omega
      · exact ⟨_, _, rfl⟩
    obtain ⟨A', c', rfl⟩ := hform
    refine h A' c' w' ⟨?_, by simp [hss.lv], by simp [hss.lx], fun i hi' => ?_, fun i j hij hj => ?_⟩ hg
    · rw [List.map_append]; exact hown'
    · by_cases e : i < n
      · rw [getD_app _ _ _ _ (by rw [hss.lv]; exact e), getD_app _ _ _ _ (by rw [hss.lx]; exact e)]
        exact (hss.row i e).kept hg (apart_types (hss.row i e) hss.own)
      · obtain rfl : i = n := by omega
        rw [getD_snoc _ _ _ _ hss.lv.symm, getD_snoc _ _ _ _ hss.lx.symm]
        exact hys.kept hg (apart_types hys hss.own)
    · rw [getD_app _ _ _ i (by rw [hss.lv]; omega)]
      by_cases e : j < n
      · rw [getD_app _ _ _ j (by rw [hss.lv]; exact e)]; exact hss.dis i j hij e
      · obtain rfl : j = n := by omega
        rw [getD_snoc _ _ _ _ hss.lv.symm]
        exact hdis i hij

theorem take_next {xss : List (List Int)} {i : Nat} (hi : i < xss.length) : xss.take (i + 1) = xss.take i ++ [xss.getD i []] := by
  rw [List.take_succ_eq_append_getElem hi, List.getD_eq_getElem?_getD, List.getElem?_eq_getElem hi]; rfl
/-- A box of another type is not the slice's row. -/
theorem Blk.not_outer {w : World} {b base n : Nat} {v : Value} {cs : Array Value} {ys : List Value} (h : Blk w b 24 cs) (ho : w.ownsRow base 27 1 v n ys) : some b ≠ v.ownBlock := by
  rcases ho.2 with ⟨rfl, _⟩ | ⟨g', cap', cur', rfl, hb', hg', _⟩
  · simp [Value.ownBlock]
  · intro e
    have e2 : b = g' := by simpa [Value.ownBlock] using e
    subst e2
    have := (show w.heap[b]? = _ from h).symm.trans hg'
    simp at this

theorem grown_any {a b : World} {row : Option Nat} (h : a.grownBy b none) : a.grownBy b row := ⟨h.os, h.tape, h.output, h.size, fun k hk _ => h.block k hk (fun e => nomatch e)⟩
end Go.Proofs.Ytkjokchhffjidaa

/- A range over an iterator that hands out two numbers a round, for a body that always goes on; slices.Backward. No condition but lengths. -/
namespace Go.Proofs.Ytkjokchhffjidaa
open Go.RowKit
attribute [local go_sem] Oper.semAt_some

/-- WHAT THE ITERATOR PROMISES: called at the yield of whatever loop, it hands the rounds av1 i and av2 i, one after the other, for i below n, and turns nothing itself; a round keeps the blocks of kp. -/
def ItB (gf : Nat) (lb : Array Value) (kp : Nat → Prop) (n : Nat) (av1 av2 : Nat → Value) (w0 : World) : Prop :=
  ∀ (l : Nat) (J : Nat → World → Prop) (W : World), (∀ k, kp k → W.heap[k]? = w0.heap[k]?) → w0.heap.size ≤ W.heap.size →
    (∀ i W1, J i W1 → i < n → YieldAt Fence.wide 4 Try.prog l #[av1 i, av2 i] W1 fun e W' => e = .returned (.bool true) ∧ J (i + 1) W' ∧ (∀ k, kp k → W'.heap[k]? = W1.heap[k]?) ∧ W1.heap.size ≤ W'.heap.size) →
    J 0 W →
    CallsIn Fence.wide 5 Try.prog gf (#[.func (.yield l) #[] #[]] ++ lb) W fun e W' => (∃ v, e = .returned v) ∧ J n W'

set_option maxHeartbeats 1000000 in
/-- A RANGE OVER IT, whose body always goes on. -/
theorem rangeB {g : Operand} {p1 p2 : Tmp} {assign body : Code} {Q : Exit → Act → World → Prop} {a : Act} {w w0 : World} {gf : Nat} {lb : Array Value} {kp : Nat → Prop} {n : Nat} {av1 av2 : Nat → Value}
    (hg : a.eval g = .func (.func gf) #[] lb) (eg : ∀ args w, (callFunc gf args).run Try.prog w = .ok (.enter gf args) w)
    (hs : ItB gf lb kp n av1 av2 w0) (hk0 : ∀ k, kp k → k < w.heap.size ∧ w.heap[k]? = w0.heap[k]?) (hsz : w0.heap.size ≤ w.heap.size)
    (I : Nat → World → Prop) (hI : ∀ i A C, I i A → Xk w.heap.size A C → I i C) (h0 : I 0 w) (ax : Value → Value → Act)
    (hassign : ∀ (l : Nat) (v1 v2 : Value) (W : World) (K : Act → World → Prop), K (ax v1 v2) W → assign.wpIn (Fence.wide.inRound l) 4 Try.prog (Exit.then K (fun _ _ _ => False)) { tmps := (a.tmps.setIfInBounds p1 v1).setIfInBounds p2 v2, defers := [] } W)
    (hbody : ∀ (l i : Nat) (W1 W2 : World), I i W1 → i < n → w.heap.size + 2 ≤ W1.heap.size → Xk w.heap.size W1 W2 →
      body.wpIn (Fence.wide.inRound l) 4 Try.prog (Exit.then (fun _ W' => I (i + 1) W' ∧ (∀ k, (kp k ∨ (w.heap.size ≤ k ∧ k ≤ w.heap.size + 1)) → W'.heap[k]? = W2.heap[k]?) ∧ W2.heap.size ≤ W'.heap.size) (fun _ _ _ => False)) (ax (av1 i) (av2 i)) W2)
    (hdone : ∀ W, I n W → W.heap[w.heap.size]? = some (.deferred (some [])) → Q .normal { a with defers := { target := .collected w.heap.size, args := #[] } :: a.defers } W) :
    (Code.rangeFunc g #[p1, p2] assign body).wpIn Fence.wide 6 Try.prog Q a w := by
  refine wpIn_rangeFunc ?_
  intro fn hfn
  obtain ⟨rc, hrc⟩ : ∃ rc : LoopState → Option Code → Loop, rc = fun st pe => { state := st, pending := pe, fn, tmps := a.tmps, params := #[p1, p2], assign, body, defers := w.heap.size } := ⟨_, rfl⟩
  obtain ⟨V, hV⟩ : ∃ V, (w.alloc (.deferred (some []))).alloc (.loop (rc .ready none)) = V := ⟨_, rfl⟩
  have hVs : V.heap.size = w.heap.size + 2 := by rw [← hV]; simp
  have hVl : V.heap[w.heap.size + 1]? = some (.loop (rc .ready none)) := by
    rw [← hV]; have := World.alloc_heap_new (w.alloc (.deferred (some []))) (.loop (rc .ready none)); rwa [World.size_alloc] at this
  have hVd : V.heap[w.heap.size]? = some (.deferred (some [])) := by
    rw [← hV]; exact (Below.heap_alloc _ _ _ (by simp)).trans (World.alloc_heap_new w _)
  have hVk : ∀ k, k < w.heap.size → V.heap[k]? = w.heap[k]? := fun k hk => by
    rw [← hV]; exact (Below.heap_alloc _ _ _ (by simp; omega)).trans (Below.heap_alloc _ _ _ hk)
  have hVx : Xk w.heap.size w V := by
    rw [← hV]; exact ⟨rfl, rfl, rfl, by simp; omega, fun k hk _ => (Below.heap_alloc _ _ _ (by simp; omega)).trans (Below.heap_alloc _ _ _ hk)⟩
  refine ⟨w.heap.size + 1, [{ target := .collected w.heap.size, args := #[] }], V, { target := .fn (.func gf) lb, args := #[.func (.yield (w.heap.size + 1)) #[] #[]] }, V, gf,
    #[.func (.yield (w.heap.size + 1)) #[] #[]] ++ lb, V, ?_, ?_, ?_, ?_, fun _ => by omega, ?_⟩
  · rw [← hV, hrc]; exact run_enterLoop_outer _ _ _ _ _
  · simp only [resolve, hg]
    simp [go_sem]
  · intro f' hf'; trivial
  · simp [invoke, go_sem, eg]
  · refine (hs (w.heap.size + 1) (fun i W => I i W ∧ W.heap[w.heap.size + 1]? = some (.loop (rc .ready none)) ∧ W.heap[w.heap.size]? = some (.deferred (some []))) V
      (fun k hk => (hVk k (hk0 k hk).1).trans (hk0 k hk).2) (by omega) ?_ ⟨hI 0 w V h0 hVx, hVl, hVd⟩).mono ?_
    · rintro i W2 ⟨hi, hl2, hd2⟩ hlt
      have hlt2 : w.heap.size + 1 < W2.heap.size := (Array.getElem?_eq_some_iff.1 hl2).1
      have hy := run_yield (P := Try.prog) (args := #[av1 i, av2 i]) hl2 (by rw [hrc]; rfl)
      rw [hrc] at hy
      have hy2 : (Instr.yield (w.heap.size + 1) #[av1 i, av2 i]).run Try.prog W2 = .ok (.round (w.heap.size + 1) fn ((a.tmps.setIfInBounds p1 (av1 i)).setIfInBounds p2 (av2 i)) assign body) W2 := by simpa using hy
      refine ⟨fn, _, assign, body, hy2, roundIn_of_wpIn hfn (hassign _ (av1 i) (av2 i) W2 _ ?_)⟩
      refine ⟨_, run_beginRound hl2 (by rw [hrc]), ?_⟩
      have hX : Xk w.heap.size W2 (W2.putObj (w.heap.size + 1) (.loop { rc .ready none with state := .busy })) := Xk.put _ _ (by omega)
      have hl3 : (W2.putObj (w.heap.size + 1) (.loop { rc .ready none with state := .busy })).heap[w.heap.size + 1]? = some (.loop { rc .ready none with state := .busy }) := World.putObj_heap_same hlt2
      have hd3 : (W2.putObj (w.heap.size + 1) (.loop { rc .ready none with state := .busy })).heap[w.heap.size]? = some (.deferred (some [])) := (World.putObj_heap_other (by omega)).trans hd2
      refine wpIn_mono (hbody _ i W2 _ hi hlt (by omega) hX) ?_
      rintro e a3 W3 hp
      cases e with
      | normal =>
        obtain ⟨hi3, hk3, hs3⟩ := hp
        have hl4 := (hk3 (w.heap.size + 1) (.inr (by omega))).trans hl3
        have hd4 := (hk3 w.heap.size (.inr (by omega))).trans hd3
        have hr := run_endRound (P := Try.prog) none hl4
        refine ⟨_, _, hr, ?_⟩
        rw [World.putObj_size] at hs3
        have h5 : (W3.putObj (w.heap.size + 1) (.loop (rc .ready none))).heap[w.heap.size + 1]? = some (.loop (rc .ready none)) := World.putObj_heap_same (Array.getElem?_eq_some_iff.1 hl4).1
        have e1 : (Loop.mk (if (none : Option Code).isNone then LoopState.ready else .done) none (rc .ready none).fn (rc .ready none).tmps (rc .ready none).params (rc .ready none).assign (rc .ready none).body (rc .ready none).defers) = rc .ready none := by rw [hrc]; rfl
        have e2 : ({ rc .ready none with state := LoopState.busy } : Loop).fn = (rc .ready none).fn := rfl
        refine ⟨rfl, ⟨hI _ _ _ hi3 (Xk.put _ _ (by omega)), ?_, (World.putObj_heap_other (by omega)).trans hd4⟩, ?_, by rw [World.putObj_size]; exact hs3⟩
        · rw [hrc]; rw [World.putObj_heap_same (Array.getElem?_eq_some_iff.1 hl4).1]; rfl
        · intro k hk
          have hne : k ≠ w.heap.size + 1 := by have := (hk0 k hk).1; omega
          exact (World.putObj_heap_other hne).trans ((hk3 k (.inl hk)).trans (World.putObj_heap_other hne))
      | ret => exact hp.elim
      | exit id => exact hp.elim
      | goto t => exact hp.elim
      | panic ch => exact hp.elim
      | outgrown => exact hp.elim
    · rintro e W2 ⟨⟨v, rfl⟩, hi, hl, hd⟩
      refine ⟨none, _, by have := run_endLoop (P := Try.prog) hl (by rw [hrc]; simp); rw [hrc] at this; exact this, hdone _ (hI _ _ _ hi (Xk.put _ _ (by omega))) ((World.putObj_heap_other (by omega)).trans hd)⟩


/-- slices.Backward: a closure over a box. -/
theorem implBack (A : Option Addr) (n c : Nat) (w : World) :
    Calls Try.prog 55 #[.slice A n c] w fun e w' => e = .returned (.func (.func 87) #[] #[.pointer (some ⟨w.heap.size, 0, none⟩)]) ∧ w' = w.alloc (.cells #[.slice A n c] 27) := by
  have hmf : ∀ (fn : Fn) (first cap : Array Value) (w : World), (Instr.makeFunc fn first cap).run Try.prog w = .ok (.func fn first cap) w := fun _ _ _ _ => rfl
  go_enter Try.func55, Try.ntmps55
  go_wp2
  go_ret
  exact ⟨rfl, rfl⟩

set_option maxHeartbeats 4000000 in
set_option maxRecDepth 100000 in
/-- The iterator's contract. -/
theorem itsBack (n c B c1 : Nat) (A : Option Addr) (xs : List Int) (w0 : World) (hx : RI w0 B A xs) (lx : Hid (xs.length = n)) (hn : n ≤ 2097152) (hB : B ≤ w0.heap.size) (h1 : Blk w0 c1 27 #[.slice A n c]) :
    ItB 87 #[.pointer (some ⟨c1, 0, none⟩)] (fun k => k < B ∨ k = c1) n (fun i => .int .i64 ((n : Int) - 1 - (i : Int))) (fun i => .int .i64 (xs.getD (n - 1 - i) 0)) w0 := by
  intro l J W hW hsz hY h0
  have HX := Lib.hid hx
  have HY := Lib.hid hY
  have H1 : Hid (Blk W c1 27 #[.slice A n c]) := Lib.hid ((hW c1 (.inr rfl)).trans h1)
  have k1 : W.cell? ⟨c1, 0, none⟩ = some (.slice A n c) := H1.out.cell 0
  have W1 : Hid (Blk w0 c1 27 #[.slice A n c]) := Lib.hid h1
  have hKW := Lib.hid hW
  have J0 : Hid (J 0 W) := Lib.hid h0
  have wn : IntKind.i64.wrap ((n : Int) - 1) = (n : Int) - 1 := by rw [IntKind.wrap_i64]; omega
  clear hx hY hW h1 h0
  refine callsIn_wide.2 ?_
  show Calls Try.prog 87 #[.func (.yield l) #[] #[], .pointer (some ⟨c1, 0, none⟩)] W _
  go_enter Try.func87, Try.ntmps87
  go_wp2_with fail
  refine (wpIn_wide (n := 5)).1 ?_
  gi_loopw [3] (fun iv wr => ∃ k : Nat, k ≤ n ∧ iv = .int .i64 ((n : Int) - 1 - (k : Int)) ∧ J k wr ∧ (∀ q, (q < B ∨ q = c1) → wr.heap[q]? = w0.heap[q]?)) (fun iv _ => (intOf iv + 1).toNat)
  case atStart => exact ⟨0, Nat.zero_le _, by go_num, J0.out, hKW.out⟩
  case round =>
    clear J0 k1 wn
    obtain ⟨k, hk, rfl, hj, hkp⟩ := hrel
    have Hj := Lib.hid hj
    have Kp := Lib.hid hkp
    clear hj hkp
    by_cases hlt : k < n
    · have Xr : Hid (RI wr B A xs) := Lib.hid (HX.out.keep fun p hp => World.cell?_of_block (Kp.out p.block (.inl hp)))
      obtain ⟨b, off, rfl, hb, hc⟩ := Xr.out (by rw [lx.out]; omega)
      have hy0 := HY.out k wr Hj.out hlt
      obtain ⟨I, hI⟩ : ∃ I : Nat, n - 1 - k = I := ⟨_, rfl⟩
      have eI : (n : Int) - 1 - k = (I : Int) := by omega
      rw [hI] at hy0
      have c1' := hc I (by rw [lx.out]; omega)
      obtain ⟨x, ex⟩ : ∃ x, xs.getD I 0 = x := ⟨_, rfl⟩
      rw [ex] at c1' hy0
      rw [eI] at hy0 ⊢
      have cc : wr.cell? ⟨c1, 0, none⟩ = some (.slice (some ⟨b, off, none⟩) n c) := ((show Blk wr c1 27 #[.slice (some ⟨b, off, none⟩) n c] from (Kp.out c1 (.inr rfl)).trans W1.out).cell 0)
      have p0 : (0 : Int) ≤ (I : Int) := by omega
      have p1 : (I : Int) < (n : Int) := by omega
      have wI : IntKind.i64.wrap ((I : Int) - 1) = (I : Int) - 1 := by rw [IntKind.wrap_i64]; omega
      obtain ⟨fn, tmps, assign, body, hy, hR⟩ := hy0
      have HR := Lib.hid hR
      clear hc hR ex
      gi_wp2
      refine HR.out.mono ?_
      rintro e w3 ⟨rfl, hj3, hk3, hs3⟩
      have Hj3 := Lib.hid hj3
      have Kp3 : Hid (∀ q, (q < B ∨ q = c1) → w3.heap[q]? = w0.heap[q]?) := Lib.hid fun q hq => (hk3 q hq).trans (Kp.out q hq)
      clear hj3 hk3
      gi_wp2
      go_roundw
      case rel => exact ⟨k + 1, by omega, by congr 1; omega, Hj3.out, Kp3.out⟩
      case measure => simp [intOf] <;> omega
    · obtain rfl : k = n := by omega
      have d0 : decide ((0 : Int) ≤ (k : Int) - 1 - k) = false := by simp; omega
      gi_wp2
      go_end0
      exact ⟨⟨_, rfl⟩, Hj.out⟩
end Go.Proofs.Ytkjokchhffjidaa

/- The model's free reduction. Condition: at most 200 letters, small ones. -/
namespace Go.Proofs.Ytkjokchhffjidaa
open Go.RowKit

end Go.Proofs.Ytkjokchhffjidaa

/- The model's FreeReduce and its word forms. Condition: at most 2097152 letters in a word. -/
namespace Go.Proofs.Ytkjokchhffjidaa
open Go.RowKit

theorem small_of {wd : List Int} {n : Nat} (hv : vW 8 wd = true) (lx : wd.length = n) : n ≤ 200 ∧ ∀ i, i < n → -8 ≤ wd.getD i 0 ∧ wd.getD i 0 ≤ 8 := by
  have h1 := vW_iff.1 hv
  refine ⟨by rw [← lx]; exact h1.1, fun i hi => ?_⟩
  have := h1.2 (wd.getD i 0) (by rw [List.getD_eq_getElem?_getD, List.getElem?_eq_getElem (by rw [lx]; exact hi)]; exact List.getElem_mem _)
  omega
/-- Two words, three, four. -/
def fF (xss : List (List Int)) (b : Bool) : List (List Int) := if b = true then xss else []
def comF (a b : List Int) : List (List Int) := [a, b, ivW a, ivW b]
def cjgF (a b : List Int) : List (List Int) := [a, b, ivW a]
theorem okF_no {xss : List (List Int)} {y : List Int} (hy : y ∈ xss) (h : vW 8 y = false) : okF xss = false := by
  obtain ⟨i, hi, rfl⟩ := List.mem_iff_getElem.1 hy
  exact okF_bad hi (by rw [List.getD_eq_getElem?_getD, List.getElem?_eq_getElem hi]; exact h)
theorem catF_no {xss : List (List Int)} (h : okF xss = false) : catF xss = [] := by unfold catF; rw [h]; rfl


end Go.Proofs.Ytkjokchhffjidaa

/- The program's concatenation of words. Condition: at most 2097152 letters in a word, numbers of 64 bits. -/
namespace Go.Proofs.Ytkjokchhffjidaa
open Go.RowKit

theorem flat_mono {xss : List (List Int)} : ∀ {i : Nat}, i ≤ xss.length → (xss.take i).flatten.length ≤ xss.flatten.length := fun {i} _ => by
  have e : xss.flatten = (xss.take i).flatten ++ (xss.drop i).flatten := by rw [← List.flatten_append, List.take_append_drop]
  rw [e, List.length_append]; omega
theorem okF_long {xss : List (List Int)} {i : Nat} (hi : i ≤ xss.length) (h : 200 < (xss.take i).flatten.length) : okF xss = false := by
  unfold okF
  have := flat_mono hi
  rw [decide_eq_false (by omega), Bool.and_false]

end Go.Proofs.Ytkjokchhffjidaa

/- The program's InvertWord. Condition: at most 2097152 letters, numbers of 64 bits. -/
namespace Go.Proofs.Ytkjokchhffjidaa
open Go.RowKit
attribute [local go_sem] Oper.semAt_some

/-- append of one number onto a row of the call's own, inside a round. -/
theorem wpListIn_appI {F : Fence} {nn : Nat} {w : World} {base n c : Nat} {A : Option Addr} {xs : List Int} {ops : Array Oper} {rest : List Oper} {o : Oper} {a : Act} {Q : Exit → Act → World → Prop} (hgd : o.guard = none) (s x : Operand)
    (ho : o.op = .call { callee := .builtin .append, args := #[s, x], argTypes := #[27, 27] })
    (hs : a.eval s = .slice A n c) (hown : Slc w base A n c xs) (g : Nat) (u : Int) (hx : a.eval x = .slice (some ⟨g, 0, none⟩) 1 1)
    (hcell : w.cell? ⟨g, 0, none⟩ = some (.int .i64 u)) (hn : n ≤ 1000000000) (hbase : base ≤ w.heap.size)
    (h : ∀ A' c' w', Slc w' base A' (n + 1) c' (xs ++ [u]) → w.grownBy w' (Value.slice A n c).ownBlock → wpListIn F nn Try.prog ops Q rest (a.put o.dst (.slice A' (n + 1) c')) w') : wpListIn F nn Try.prog ops Q (o :: rest) a w := by
  obtain ⟨i0, hi, hz0, hz1, hz2⟩ := info_parts infoI
  obtain ⟨hl, ho'⟩ := hown
  subst hl
  refine wpListIn_append_own w hgd s x 27 ho base 2 i0 (.int .i64 0) 1 8 Try.underlying27 hi hz0 hz1 hz2 rfl (by decide) _ xs.length _ hs ho' ⟨g, 0, none⟩ 1 1 [.int .i64 u] hx rfl ?_ ?_ ?_ (by omega) hbase ?_
  · intro j v hj
    match j, hj with
    | 0, hj => simp at hj; subst hj; simpa [Addr.add] using hcell
    | j + 1, hj => simp at hj
  · intro v hv; simp at hv; subst hv; rfl
  · unfold maxLen; omega
  · intro v' w' hown' hg _
    have hO : Own w' base v' (xs ++ [u]) := by
      unfold Own
      rw [List.length_append, List.map_append]
      exact hown'
    obtain ⟨A', c', rfl, hS⟩ := Slc.of_own (n := xs.length + 1) hO (by simp)
    exact h A' c' w' hS hg

theorem ivW_next {wd : List Int} {n i : Nat} (lx : wd.length = n) (hi : i < n) : (ivW wd).take (i + 1) = (ivW wd).take i ++ [-wd.getD (n - 1 - i) 0] := by
  have hkl : i < (ivW wd).length := by rw [ivW_len, lx]; exact hi
  have h1 : (ivW wd).getD i 0 = -wd.getD (n - 1 - i) 0 := by rw [ivW_getD (by rw [lx]; exact hi), lx]
  have h2 : (ivW wd)[i]'hkl = -wd.getD (n - 1 - i) 0 := by rw [← h1, List.getD_eq_getElem?_getD, List.getElem?_eq_getElem hkl]; rfl
  rw [List.take_succ_eq_append_getElem hkl, h2]
/-- A box of another type is not the row. -/
theorem Blk.not_row {w : World} {b base n c : Nat} {S : Option Addr} {cs : Array Value} {xs : List Int} (h : Blk w b 27 cs) (ho : Slc w base S n c xs) : some b ≠ (Value.slice S n c).ownBlock := by
  rcases ho.2.2 with ⟨e, _⟩ | ⟨g', cap', cur', e, hb', hg', _⟩
  · rw [e]; simp [Value.ownBlock]
  · rw [e]
    intro e2
    have e2 : b = g' := by simpa [Value.ownBlock] using e2
    subst e2
    have := (show w.heap[b]? = _ from h).symm.trans hg'
    simp at this

set_option maxHeartbeats 4000000 in
set_option maxRecDepth 100000 in
/-- InvertWord. -/
theorem implInvertWord (A : Option Addr) (n c : Nat) (wd : List Int) (w : World) (hx : RI w w.heap.size A wd) (lx : Hid (wd.length = n)) (hn : n ≤ 2097152) (vi : Hid (VI wd)) :
    Calls Try.prog 19 #[.slice A n c] w fun e w' => ∃ A' m c', e = .returned (.slice A' m c') ∧ Slc w' w.heap.size A' m c' (invF wd) ∧ m ≤ 200 ∧ Below w.heap.size w w' := by
  have HX := Lib.hid hx
  clear hx
  rcases hv : vW 8 wd with _ | _
  · have Hv := Lib.hid hv
    have Fin : Hid (invF wd = []) := Lib.hid (by unfold invF; rw [hv]; rfl)
    clear hv
    go_enter Try.func19, Try.ntmps19
    go_wp2_with fail
    refine (implIsWord A n c wd w HX.out lx hn vi).mono ?_
    rintro e w' ⟨rfl, rfl⟩
    rw [Hv.out]
    go_wp2_with fail
    go_ret
    exact ⟨none, 0, 0, rfl, by rw [Fin.out]; exact Slc.nil_, by omega, Below.refl _ _⟩
  · have Hv := Lib.hid hv
    have hs := small_of hv lx.out
    have hn2 := hs.1
    have Hl := Lib.hid hs.2
    have Fin : Hid (invF wd = ivW wd) := Lib.hid (by unfold invF; rw [if_pos hv])
    clear hv hs
    refine (callsIn_wide (n := 6)).1 ?_
    refine callsIn_of_wp_marks Try.func19 rfl trivial ?_ rfl
    simp only [Try.ntmps19, List.size_toArray, List.length_cons, List.length_nil, Nat.reduceAdd, Nat.reduceSub, Array.replicate_succ, Array.replicate_zero, List.push_toArray, List.append_toArray, List.nil_append, List.cons_append]
    gi_wp2
    refine ⟨trivial, ?_⟩
    refine (callsIn_wide.2 (implIsWord A n c wd w HX.out lx hn vi)).mono ?_
    rintro e w' ⟨rfl, rfl⟩
    rw [Hv.out]
    gi_wp2
    refine ⟨trivial, ?_⟩
    refine (callsIn_wide.2 (implBack A n c _)).mono ?_
    rintro e w' ⟨rfl, rfl⟩
    rw [World.size_alloc]
    obtain ⟨V, hV⟩ : ∃ V, (w.alloc (.cells #[.slice none 0 0] 27)).alloc (.cells #[.slice A n c] 27) = V := ⟨_, rfl⟩
    rw [hV]
    have hz : V.heap.size = w.heap.size + 2 := by rw [← hV]; simp
    have b0 : Blk V w.heap.size 27 #[.slice none 0 0] := by rw [← hV]; exact (Blk.new w _ _).alloc _
    have b1 : Blk V (w.heap.size + 1) 27 #[.slice A n c] := by
      rw [← hV]; have := Blk.new (w.alloc (.cells #[.slice none 0 0] 27)) 27 #[.slice A n c]
      rw [World.size_alloc] at this; exact this
    have bel : Below w.heap.size w V := by rw [← hV]; exact ((Below.refl _ w).alloc (Nat.le_refl _) _).alloc (by simp) _
    have hxV : RI V w.heap.size A wd := HX.out.below bel (Nat.le_refl _)
    have IT := itsBack n c w.heap.size (w.heap.size + 1) A wd V hxV lx hn (by omega) b1
    clear hV hxV
    gi_wp2
    refine rangeB (gf := 87) (lb := #[.pointer (some ⟨w.heap.size + 1, 0, none⟩)]) rfl (enters_of Try.func87 (by kernel_rfl) rfl) IT (fun k hk => ⟨by rcases hk with h | h <;> omega, rfl⟩) (Nat.le_refl _)
      (fun i W => ∃ S c, Blk W w.heap.size 27 #[.slice S i c] ∧ Slc W (V.heap.size + 3) S i c ((ivW wd).take i) ∧ Below w.heap.size w W)
      (fun i A C h hx => by
        obtain ⟨S, c, h1, h2, h3⟩ := h
        exact ⟨S, c, (hx.block _ h1.lt (.inl (by omega))).trans h1, h2.xk hx (fun k e => .inr (by have := (h2.lt_ k e).1; omega)), h3.trans (hx.below (by omega) h3.size)⟩) ⟨none, 0, b0, by simpa using Slc.nil_, bel⟩
      (fun v1 v2 => { tmps := #[.slice A n c, undef, .slice none 0 0, .pointer (some ⟨w.heap.size, 0, none⟩), undef, v2, .slice A n c, .bool true, .bool false, .slice A n c, .func (.func 87) #[] #[.pointer (some ⟨w.heap.size + 1, 0, none⟩)], v1, v2, undef, undef, undef, undef, undef, undef], defers := [] }) ?assign ?body ?done
    case assign =>
      intro l v1 v2 W K hK
      gi_wp2
      exact hK
    case body =>
      rintro l i W1 W2 ⟨R, e, hb, hss, hbl⟩ hlt hsz1 hx
      have hb2 : Blk W2 w.heap.size 27 #[.slice R i e] := (hx.block _ hb.lt (.inl (by omega))).trans hb
      have cc : W2.cell? ⟨w.heap.size, 0, none⟩ = some (.slice R i e) := hb2.cell 0
      have ff := hb2.frozen 0
      have Ss2 := Lib.hid (hss.xk hx (fun k e => .inr (by have := (hss.lt_ k e).1; omega)))
      have Bl2 := Lib.hid (hbl.trans (hx.below (by omega) hbl.size))
      have Hb2 := Lib.hid hb2
      have hz2 := hx.size
      have Nx := Lib.hid (ivW_next lx.out hlt)
      have hll := Hl.out (n - 1 - i) (by omega)
      obtain ⟨u, eu⟩ : ∃ u, wd.getD (n - 1 - i) 0 = u := ⟨_, rfl⟩
      rw [eu] at hll Nx ⊢
      have wu : IntKind.i64.wrap (-u) = -u := by rw [IntKind.wrap_i64]; omega
      have hcell : (W2.alloc (.cells #[.int .i64 (-u)] 2)).cell? ⟨W2.heap.size, 0, none⟩ = some (.int .i64 (-u)) := by rw [World.cell?_alloc_at _ _ _ _ rfl]; rfl
      have Hcell := Lib.hid hcell
      have hzz : V.heap.size + 3 ≤ W2.heap.size + 1 := by omega
      clear hcell hb hss hbl hx hb2 eu
      gi_wp2_with (first
        | (gi_at_builtin; refine wpListIn_appI rfl _ _ rfl rfl (Ss2.out.alloc _) W2.heap.size (-u) rfl Hcell.out (by omega) (by simp; omega) ?_; intro A5 c5 w5 ss5 hg5
           have Ss5 := Lib.hid ss5
           have Hb5 : Hid (Blk w5 w.heap.size 27 #[.slice R i e]) := Lib.hid ((Hb2.out.alloc (.cells #[.int .i64 (-u)] 2)).grown hg5 ((Hb2.out.alloc (.cells #[.int .i64 (-u)] 2)).not_row (Ss2.out.alloc _)))
           have cc5 : w5.cell? ⟨w.heap.size, 0, none⟩ = some (.slice R i e) := Hb5.out.cell 0
           have ff5 := Hb5.out.frozen 0
           have Hg5 := Lib.hid hg5
           clear ss5 hg5))
      have Hb6 := Lib.hid (Hb5.out.set_ 0 (.slice A5 (i + 1) c5))
      have hne : some w.heap.size ≠ (Value.slice A5 (i + 1) c5).ownBlock := Hb5.out.not_row Ss5.out
      have Ss6 : Hid (Slc (w5.setCell ⟨w.heap.size, 0, none⟩ (.slice A5 (i + 1) c5)) (V.heap.size + 3) A5 (i + 1) c5 ((ivW wd).take (i + 1))) := Lib.hid (by
        rw [Nx.out]
        exact Ss5.out.kept (grown_set (grown_refl _ _) 0 _) (.inr fun h => hne h.symm))
      have Bl5 : Hid (Below w.heap.size w w5) := Lib.hid ((Bl2.out.alloc Bl2.out.size _).grown Hg5.out (by have := Bl2.out.size; simp; omega) (fun j hj => by have := (Ss2.out.lt_ j hj).1; omega))
      refine ⟨⟨_, _, Hb6.out, Ss6.out, Bl5.out.setCell (p := ⟨w.heap.size, 0, none⟩) (Nat.le_refl _) _⟩, fun k hk => ?_, ?_⟩
      · have hkl : k ≠ w.heap.size := by
          rcases hk with (hk | hk) | hk <;> omega
        have hkW2 : k < W2.heap.size := by
          rcases hk with (hk | hk) | hk <;> omega
        refine (Below.heap_setCell _ _ _ k hkl).trans ((Hg5.out.block k (by simp; omega) fun e9 => ?_).trans (Below.heap_alloc _ _ _ hkW2))
        have := (Ss2.out.lt_ k e9.symm).1
        rcases hk with (hk | hk) | hk <;> omega
      · have := Hg5.out.size
        simp at this
        simp [World.setCell]; omega
    case done =>
      rintro W ⟨S, c, hb, hss, hbl⟩ hd
      have cc : W.cell? ⟨w.heap.size, 0, none⟩ = some (.slice S n c) := hb.cell 0
      have Hbl := Lib.hid hbl
      have Hss := Lib.hid hss
      clear hbl hss
      gi_wp2
      refine ⟨by simp, .inl ⟨_, _, rfl, run_takeDeferred hd, ?_⟩⟩
      have e1 : (ivW wd).take n = ivW wd := List.take_of_length_le (by rw [ivW_len, lx.out]; exact Nat.le_refl _)
      have hfin := Hss.out.xk (Xk.put W (.deferred none) (b := V.heap.size) (r := V.heap.size) (by omega)) (fun k e => .inr (by have := (Hss.out.lt_ k e).1; omega))
      rw [e1] at hfin
      exact ⟨_, results_tmp rfl _ _ _, _, _, _, rfl, by rw [Fin.out]; exact hfin.mono (by omega), hn2, Hbl.out.grown (grownBy_putObj' W _ _) Hbl.out.size (fun k e => by cases e; omega)⟩
end Go.Proofs.Ytkjokchhffjidaa

/- The walk of the law FnPuzzleStates: it returns true at every input, and writes nothing that was there. No condition. -/
namespace Go.Proofs.Ytkjokchhffjidaa
open Go.RowKit

set_option maxHeartbeats 8000000 in
set_option maxRecDepth 100000 in
theorem lawPuzzleStates (A : Option Addr) (cap len : Nat) (w : World) (hb : SB w w.heap.size A len) :
    Calls Try.prog 3 #[.slice A len cap] w fun e w' => e = .returned (.bool true) ∧ Below w.heap.size w w' := by
  by_cases hl : len ≤ 4096
  · go_enter Try.func3, Try.ntmps3
    go_wp2_with fail
    refine (bigF9 A len cap w hl).mono ?_
    rintro e w0 ⟨rfl, rfl⟩
    go_wp2_with fail
    refine (drawAW len cap A w hb hl).mono ?_
    rintro e w1 ⟨z, s, A0, m, c, vs, gs, P, np, cp, q, D, nd, cd, wd, rfl, x1, hm, t1, hnp, d1, hvi, hnd, _, b1⟩
    have B1 : Hid (Below w.heap.size w w1) := Lib.hid b1
    have Z1 : Hid (w.heap.size ≤ w1.heap.size) := Lib.hid b1.size
    have X1 := Lib.hid x1
    have S1 := Lib.hid t1
    have T1 := Lib.hid d1
    clear b1 x1 t1 d1
    have Vi : Hid (VI wd) := Lib.hid hvi
    clear hb hvi
    have Bk := Lib.hid (fun h => ps_back (z := z) (s := s) (gs := gs) (q := q) (wd := wd) h)
    have No := Lib.hid (fun h => ap_no (z := z) (s := s) (gs := gs) (q := q) (wd := wd) h)
    have iz : I64 z := X1.out.z
    have ba1 : Below w1.heap.size w1 (w1.alloc (.cells #[.int .i64 z, .string s, .slice A0 m c] 26)) := (Below.refl _ _).alloc (Nat.le_refl _) _
    obtain ⟨V1, hV1⟩ : ∃ V1, w1.alloc (.cells #[.int .i64 z, .string s, .slice A0 m c] 26) = V1 := ⟨_, rfl⟩
    rw [hV1] at ba1
    have zV1 : Hid (V1.heap.size = w1.heap.size + 1) := Lib.hid (by rw [← hV1]; simp)
    have Bpv : Hid (Blk V1 w1.heap.size 26 #[.int .i64 z, .string s, .slice A0 m c]) := Lib.hid (hV1 ▸ Blk.new w1 _ _)
    have Bp_n0 := Bpv.out.cell 0
    have Bp_n1 := Bpv.out.cell 1
    have Bp_n2 := Bpv.out.cell 2
    have Xv1 := Lib.hid (X1.out.up ba1)
    clear X1
    have Sv1 := Lib.hid (S1.out.up ba1)
    clear S1
    have Tv1 := Lib.hid (T1.out.up ba1)
    clear T1
    have BV1 : Hid (Below w.heap.size w V1) := Lib.hid (btr B1.out ba1)
    go_wp2_with fail
    try rw [hV1]
    clear hV1 ba1 Bp_n0 Bp_n1 Bp_n2
    refine (implApplyWord z s A0 m c vs gs P np cp q D nd cd wd _ Xv1.out Sv1.out Tv1.out Vi).mono ?_
    rintro e w2 ⟨A2, n2, c2, rfl, s2, hn2, b2⟩
    have B2 : Hid (Below w.heap.size w w2) := Lib.hid (btr BV1.out b2)
    have Z2 : Hid (V1.heap.size ≤ w2.heap.size) := Lib.hid b2.size
    have X2 := Lib.hid (Xv1.out.up b2)
    clear Xv1
    have S2 := Lib.hid (Sv1.out.up b2)
    clear Sv1
    have T2 := Lib.hid (Tv1.out.up b2)
    clear Tv1
    have Bp2 := Lib.hid (Bpv.out.up b2)
    clear Bpv
    clear b2
    have G2 : Hid (SIn w2 A2 n2 c2 (apF z s gs q wd)) := Lib.hid (SIn.of_slc s2 (by omega))
    clear s2
    have Bp_0 := Bp2.out.cell 0
    have Bp_1 := Bp2.out.cell 1
    have Bp_2 := Bp2.out.cell 2
    go_wp2_with fail
    refine (specApplyWord z s A0 m c vs gs P np cp q D nd cd wd _ X2.out S2.out T2.out).mono ?_
    rintro e w3 ⟨A3, n3, c3, rfl, s3, hn3, b3⟩
    clear Bp_0 Bp_1 Bp_2
    have B3 : Hid (Below w.heap.size w w3) := Lib.hid (btr B2.out b3)
    have Z3 : Hid (w2.heap.size ≤ w3.heap.size) := Lib.hid b3.size
    have X3 := Lib.hid (X2.out.up b3)
    clear X2
    have S3 := Lib.hid (S2.out.up b3)
    clear S2
    have T3 := Lib.hid (T2.out.up b3)
    clear T2
    have Bp3 := Lib.hid (Bp2.out.up b3)
    clear Bp2
    have G3 := Lib.hid (G2.out.up b3)
    clear G2
    clear b3
    have H3 : Hid (SIn w3 A3 n3 c3 (apF z s gs q wd)) := Lib.hid (SIn.of_slc s3 (by omega))
    clear s3
    obtain ⟨a, ea⟩ : ∃ a, apB z s gs q wd = a := ⟨_, rfl⟩
    obtain ⟨t, et⟩ : ∃ t, apF z s gs q wd = t := ⟨_, rfl⟩
    obtain ⟨y, ey⟩ : ∃ y, stB z s gs q = y := ⟨_, rfl⟩
    have Ey := Lib.hid ey
    have Ge := G3.out
    rw [et] at Ge
    have Gt := Lib.hid Ge
    clear Ge G3
    have He := H3.out
    rw [et] at He
    have Ht := Lib.hid He
    clear He H3
    rw [ea, et] at Bk
    rw [ea, et] at No
    rw [ea]
    clear ea et ey
    have ne0 : (a != a) = false := by simp
    have ne1 : (y != y) = false := by simp
    have eq0 : (a == a) = true := by simp
    have Bp_0 := Bp3.out.cell 0
    have Bp_1 := Bp3.out.cell 1
    have Bp_2 := Bp3.out.cell 2
    go_wp2_with fail
    go_cut [52] from 35 to 51 (fun v wx => (v = .bool false) ∧ Below w3.heap.size w3 wx)
    case first =>
      have bd : Below w3.heap.size w3 w3.drew := below_drew1 (Below.refl _ _)
      have Xdd4 := Lib.hid (X3.out.up bd)
      have Sdd4 := Lib.hid (S3.out.up bd)
      have Tdd4 := Lib.hid (T3.out.up bd)
      have Bpdd4 := Lib.hid (Bp3.out.up bd)
      have Gdd4 := Lib.hid (Gt.out.up bd)
      have Hdd4 := Lib.hid (Ht.out.up bd)
      clear bd
      go_region_law ((go_simp; go_wp2_with (first
      | (go_at_call 16; (first | with_reducible refine (likeS Gdd4.out Hdd4.out).mono ?_ | with_reducible refine (likeS Gt.out Ht.out).mono ?_); rintro e w4 ⟨rfl, b4d⟩
         have b4 : Below w3.heap.size w3 w4 := ⟨b4d.os, b4d.tape, b4d.output, b4d.size, b4d.block⟩
         have B4 : Hid (Below w.heap.size w w4) := Lib.hid (btr B3.out b4)
         have Z4 : Hid (w3.heap.size ≤ w4.heap.size) := Lib.hid b4.size
         have X4 := Lib.hid (X3.out.up b4)
         have S4 := Lib.hid (S3.out.up b4)
         have T4 := Lib.hid (T3.out.up b4)
         have Bp4 := Lib.hid (Bp3.out.up b4)
         have G4 := Lib.hid (Gt.out.up b4)
         have H4 := Lib.hid (Ht.out.up b4)
         have Bp_0_4 := Bp4.out.cell 0
         have Bp_1_4 := Bp4.out.cell 1
         have Bp_2_4 := Bp4.out.cell 2
         have bw4 := Lib.hid b4
         clear b4 b4d)
      | (go_at_call 17; with_reducible refine (implIsState z s A0 m c vs gs P np cp q _ X4.out S4.out).mono ?_; rintro e w5 ⟨rfl, b5d⟩
         have b5 : Below w4.heap.size w4 w5 := ⟨b5d.os, b5d.tape, b5d.output, b5d.size, b5d.block⟩
         have B5 : Hid (Below w.heap.size w w5) := Lib.hid (btr B4.out b5)
         have Z5 : Hid (w4.heap.size ≤ w5.heap.size) := Lib.hid b5.size
         have X5 := Lib.hid (X4.out.up b5)
         have S5 := Lib.hid (S4.out.up b5)
         have T5 := Lib.hid (T4.out.up b5)
         have Bp5 := Lib.hid (Bp4.out.up b5)
         have G5 := Lib.hid (G4.out.up b5)
         have Bp_0_5 := Bp5.out.cell 0
         have Bp_1_5 := Bp5.out.cell 1
         have Bp_2_5 := Bp5.out.cell 2
         have bw5 := Lib.hid b5
         rw [Ey.out]
         clear b5 b5d)
      | (go_at_call 18; with_reducible refine (specIsState z s A0 m c vs gs P np cp q _ X5.out S5.out).mono ?_; rintro e w6 ⟨rfl, b6d⟩
         have b6 : Below w5.heap.size w5 w6 := ⟨b6d.os, b6d.tape, b6d.output, b6d.size, b6d.block⟩
         have B6 : Hid (Below w.heap.size w w6) := Lib.hid (btr B5.out b6)
         have Z6 : Hid (w5.heap.size ≤ w6.heap.size) := Lib.hid b6.size
         have X6 := Lib.hid (X5.out.up b6)
         have S6 := Lib.hid (S5.out.up b6)
         have T6 := Lib.hid (T5.out.up b6)
         have Bp6 := Lib.hid (Bp5.out.up b6)
         have G6 := Lib.hid (G5.out.up b6)
         have Bp_0_6 := Bp6.out.cell 0
         have Bp_1_6 := Bp6.out.cell 1
         have Bp_2_6 := Bp6.out.cell 2
         have bw6 := Lib.hid b6
         rw [Ey.out]
         clear b6 b6d)
      )))
      all_goals try clear Xdd4 Sdd4 Tdd4 Bpdd4 Gdd4 Hdd4
      all_goals try clear Bp_0_4 Bp_1_4 Bp_2_4
      all_goals try clear Bp_0_5 Bp_1_5 Bp_2_5
      all_goals try clear Bp_0_6 Bp_1_6 Bp_2_6
      all_goals (go_wp2_with fail; go_meet; exact ⟨rfl, (btr (btr bw4.out bw5.out) bw6.out)⟩)
    case rest =>
      obtain ⟨rfl, bc⟩ := hcut
      clear Bp_0 Bp_1 Bp_2
      obtain ⟨w43, ew43⟩ : ∃ x, x = wc := ⟨_, rfl⟩
      subst ew43
      have Bc43 : Hid (Below w.heap.size w w43) := Lib.hid (btr B3.out bc)
      have Zc43 : Hid (w3.heap.size ≤ w43.heap.size) := Lib.hid bc.size
      have Xc43 := Lib.hid (X3.out.up bc)
      clear X3
      have Sc43 := Lib.hid (S3.out.up bc)
      clear S3
      have Tc43 := Lib.hid (T3.out.up bc)
      clear T3
      have Bpc43 := Lib.hid (Bp3.out.up bc)
      clear Bp3
      have Gc43 := Lib.hid (Gt.out.up bc)
      clear Gt
      have Hc43 := Lib.hid (Ht.out.up bc)
      clear Ht
      clear bc
      clear Hc43
      cases a
      · skip
        obtain rfl : n2 = 0 := by have := Gc43.out.lp; rw [No.out rfl] at this; exact this.symm
        have Bp_0 := Bpc43.out.cell 0
        have Bp_1 := Bpc43.out.cell 1
        have Bp_2 := Bpc43.out.cell 2
        go_wp2_with fail
        go_ret
        exact ⟨rfl, Bc43.out⟩
      · skip
        have F := Lib.hid (Bk.out rfl)
        clear Bk No
        have Vj : Hid (VI (invF wd)) := Lib.hid (VI.of_iv wd)
        have Bp_0 := Bpc43.out.cell 0
        have Bp_1 := Bpc43.out.cell 1
        have Bp_2 := Bpc43.out.cell 2
        go_wp2_with fail
        go_cut [10, 11] from 58 to 65 (fun v u wx => (∃ A' n' c', v = .slice A' n' c' ∧ u = .bool true ∧ SIn wx A' n' c' q) ∧ Below w43.heap.size w43 wx)
        case first =>
          have bd : Below w43.heap.size w43 w43.drew := below_drew1 (Below.refl _ _)
          have Xdd44 := Lib.hid (Xc43.out.up bd)
          have Sdd44 := Lib.hid (Sc43.out.up bd)
          have Tdd44 := Lib.hid (Tc43.out.up bd)
          have Bpdd44 := Lib.hid (Bpc43.out.up bd)
          have Gdd44 := Lib.hid (Gc43.out.up bd)
          clear bd
          go_region_law ((go_simp; go_wp2_with (first
          | (go_at_call 19; (first | with_reducible refine (implInvertWord D nd cd wd _ Tdd44.out.ri (Lib.hid Tdd44.out.lp) (by omega) Vi).mono ?_ | with_reducible refine (implInvertWord D nd cd wd _ Tc43.out.ri (Lib.hid Tc43.out.lp) (by omega) Vi).mono ?_); rintro e w44 ⟨A44, n44, c44, rfl, s44, hn44, b44d⟩
             have b44 : Below w43.heap.size w43 w44 := ⟨b44d.os, b44d.tape, b44d.output, b44d.size, b44d.block⟩
             have B44 : Hid (Below w.heap.size w w44) := Lib.hid (btr Bc43.out b44)
             have Z44 : Hid (w43.heap.size ≤ w44.heap.size) := Lib.hid b44.size
             have X44 := Lib.hid (Xc43.out.up b44)
             have S44 := Lib.hid (Sc43.out.up b44)
             have T44 := Lib.hid (Tc43.out.up b44)
             have Bp44 := Lib.hid (Bpc43.out.up b44)
             have G44 := Lib.hid (Gc43.out.up b44)
             have Bp_0_44 := Bp44.out.cell 0
             have Bp_1_44 := Bp44.out.cell 1
             have Bp_2_44 := Bp44.out.cell 2
             have bw44 := Lib.hid b44
             have I44 : Hid (SIn w44 A44 n44 c44 (invF wd)) := Lib.hid (SIn.of_slc s44 (by omega))
             clear s44
             clear b44 b44d)
          | (go_at_call 14; with_reducible refine (implApplyWord z s A0 m c vs gs A2 n2 c2 t A44 n44 c44 (invF wd) _ X44.out G44.out I44.out Vj).mono ?_; rintro e w45 ⟨A45, n45, c45, rfl, s45, hn45, b45d⟩
             have b45 : Below w44.heap.size w44 w45 := ⟨b45d.os, b45d.tape, b45d.output, b45d.size, b45d.block⟩
             have B45 : Hid (Below w.heap.size w w45) := Lib.hid (btr B44.out b45)
             have Z45 : Hid (w44.heap.size ≤ w45.heap.size) := Lib.hid b45.size
             have X45 := Lib.hid (X44.out.up b45)
             have S45 := Lib.hid (S44.out.up b45)
             have T45 := Lib.hid (T44.out.up b45)
             have Bp45 := Lib.hid (Bp44.out.up b45)
             have G45 := Lib.hid (G44.out.up b45)
             have I45 := Lib.hid (I44.out.up b45)
             have Bp_0_45 := Bp45.out.cell 0
             have Bp_1_45 := Bp45.out.cell 1
             have Bp_2_45 := Bp45.out.cell 2
             have bw45 := Lib.hid b45
             have J45 : Hid (SIn w45 A45 n45 c45 q) := Lib.hid (by have := SIn.of_slc s45 (by omega); rwa [F.out.2.2.2.1] at this)
             clear s45
             rw [F.out.2.2.1]
             clear b45 b45d)
          )))
          all_goals try clear Xdd44 Sdd44 Tdd44 Bpdd44 Gdd44
          all_goals try clear Bp_0_44 Bp_1_44 Bp_2_44
          all_goals try clear Bp_0_45 Bp_1_45 Bp_2_45
          all_goals (go_wp2_with fail; go_meet; exact ⟨⟨A45, n45, c45, rfl, rfl, J45.out⟩, (btr bw44.out bw45.out)⟩)
        case rest =>
          obtain ⟨⟨Aj, nj, cj, rfl, rfl, sj⟩, bc⟩ := hcut
          clear Bp_0 Bp_1 Bp_2
          obtain ⟨w83, ew83⟩ : ∃ x, x = wc := ⟨_, rfl⟩
          subst ew83
          have Bc83 : Hid (Below w.heap.size w w83) := Lib.hid (btr Bc43.out bc)
          have Zc83 : Hid (w43.heap.size ≤ w83.heap.size) := Lib.hid bc.size
          have Xc83 := Lib.hid (Xc43.out.up bc)
          clear Xc43
          have Sc83 := Lib.hid (Sc43.out.up bc)
          clear Sc43
          have Tc83 := Lib.hid (Tc43.out.up bc)
          clear Tc43
          have Bpc83 := Lib.hid (Bpc43.out.up bc)
          clear Bpc43
          have Gc83 := Lib.hid (Gc43.out.up bc)
          clear Gc43
          clear bc
          have Jj := Lib.hid sj
          clear sj
          have Bp_0 := Bpc83.out.cell 0
          have Bp_1 := Bpc83.out.cell 1
          have Bp_2 := Bpc83.out.cell 2
          go_wp2_with fail
          refine (implIsReachable z s A0 m c vs gs P np cp q _ Xc83.out Sc83.out).mono ?_
          rintro e w84 ⟨r84, rfl, rel84, b84⟩
          clear Bp_0 Bp_1 Bp_2
          have B84 : Hid (Below w.heap.size w w84) := Lib.hid (btr Bc83.out b84)
          have Z84 : Hid (w83.heap.size ≤ w84.heap.size) := Lib.hid b84.size
          have X84 := Lib.hid (Xc83.out.up b84)
          clear Xc83
          have S84 := Lib.hid (Sc83.out.up b84)
          clear Sc83
          have T84 := Lib.hid (Tc83.out.up b84)
          clear Tc83
          have Bp84 := Lib.hid (Bpc83.out.up b84)
          clear Bpc83
          have G84 := Lib.hid (Gc83.out.up b84)
          clear Gc83
          have J84 := Lib.hid (Jj.out.up b84)
          clear Jj
          clear b84
          have R1 := Lib.hid rel84
          clear rel84
          have Sl : Hid (slB z s gs q = decide (q = idL z.toNat)) := Lib.hid (by unfold slB; rw [F.out.1, Bool.true_and])
          obtain ⟨u, eu⟩ : ∃ u, decide (q = idL z.toNat) = u := ⟨_, rfl⟩
          have Eu := Lib.hid eu
          clear eu
          have eq2 : (u == u) = true := by simp
          have eq1 : (r84 == r84) = true := by simp
          have Bp_0 := Bp84.out.cell 0
          have Bp_1 := Bp84.out.cell 1
          have Bp_2 := Bp84.out.cell 2
          go_wp2_with fail
          have bd : Below w84.heap.size w84 w84.drew := below_drew1 (Below.refl _ _)
          have Xdd85 := Lib.hid (X84.out.up bd)
          have Sdd85 := Lib.hid (S84.out.up bd)
          have Tdd85 := Lib.hid (T84.out.up bd)
          have Bpdd85 := Lib.hid (Bp84.out.up bd)
          have Gdd85 := Lib.hid (G84.out.up bd)
          have Jdd85 := Lib.hid (J84.out.up bd)
          clear bd
          go_region_law ((go_simp; go_wp2_with (first
          | (go_at_call 16; (first | with_reducible refine (likeS Jdd85.out Sdd85.out).mono ?_ | with_reducible refine (likeS J84.out S84.out).mono ?_); rintro e w85 ⟨rfl, b85d⟩
             have b85 : Below w84.heap.size w84 w85 := ⟨b85d.os, b85d.tape, b85d.output, b85d.size, b85d.block⟩
             have B85 : Hid (Below w.heap.size w w85) := Lib.hid (btr B84.out b85)
             have Z85 : Hid (w84.heap.size ≤ w85.heap.size) := Lib.hid b85.size
             have X85 := Lib.hid (X84.out.up b85)
             have S85 := Lib.hid (S84.out.up b85)
             have T85 := Lib.hid (T84.out.up b85)
             have Bp85 := Lib.hid (Bp84.out.up b85)
             have G85 := Lib.hid (G84.out.up b85)
             have J85 := Lib.hid (J84.out.up b85)
             have Bp_0_85 := Bp85.out.cell 0
             have Bp_1_85 := Bp85.out.cell 1
             have Bp_2_85 := Bp85.out.cell 2
             clear b85 b85d)
          | (go_at_call 21; refine (implIsMember z A0 m c vs gs P np cp q _ X85.out.g S85.out iz).mono ?_; rintro e w86 ⟨r86, rfl, rel86, b86d⟩
             have b86 : Below w85.heap.size w85 w86 := ⟨b86d.os, b86d.tape, b86d.output, b86d.size, b86d.block⟩
             have B86 : Hid (Below w.heap.size w w86) := Lib.hid (btr B85.out b86)
             have Z86 : Hid (w85.heap.size ≤ w86.heap.size) := Lib.hid b86.size
             have X86 := Lib.hid (X85.out.up b86)
             have S86 := Lib.hid (S85.out.up b86)
             have T86 := Lib.hid (T85.out.up b86)
             have Bp86 := Lib.hid (Bp85.out.up b86)
             have G86 := Lib.hid (G85.out.up b86)
             have Bp_0_86 := Bp86.out.cell 0
             have Bp_1_86 := Bp86.out.cell 1
             have Bp_2_86 := Bp86.out.cell 2
             obtain rfl : r84 = r86 := rch_mem F.out.1 R1.out rel86
             clear rel86
             clear b86 b86d)
          | (go_at_call 20; with_reducible refine (implIsReachable z s A0 m c vs gs A2 n2 c2 t _ X86.out G86.out).mono ?_; rintro e w87 ⟨r87, rfl, rel87, b87d⟩
             have b87 : Below w86.heap.size w86 w87 := ⟨b87d.os, b87d.tape, b87d.output, b87d.size, b87d.block⟩
             have B87 : Hid (Below w.heap.size w w87) := Lib.hid (btr B86.out b87)
             have Z87 : Hid (w86.heap.size ≤ w87.heap.size) := Lib.hid b87.size
             have X87 := Lib.hid (X86.out.up b87)
             have S87 := Lib.hid (S86.out.up b87)
             have T87 := Lib.hid (T86.out.up b87)
             have Bp87 := Lib.hid (Bp86.out.up b87)
             have G87 := Lib.hid (G86.out.up b87)
             have Bp_0_87 := Bp87.out.cell 0
             have Bp_1_87 := Bp87.out.cell 1
             have Bp_2_87 := Bp87.out.cell 2
             obtain rfl : r84 = r87 := (rch_two F.out.1 F.out.2.1 R1.out rel87 F.out.2.2.2.2.1).symm
             clear rel87
             clear b87 b87d)
          | (go_at_call 22; with_reducible refine (implIsSolved z s A0 m c vs gs P np cp q _ X87.out S87.out).mono ?_; rintro e w88 ⟨rfl, b88d⟩
             have b88 : Below w87.heap.size w87 w88 := ⟨b88d.os, b88d.tape, b88d.output, b88d.size, b88d.block⟩
             have B88 : Hid (Below w.heap.size w w88) := Lib.hid (btr B87.out b88)
             have Z88 : Hid (w87.heap.size ≤ w88.heap.size) := Lib.hid b88.size
             have X88 := Lib.hid (X87.out.up b88)
             have S88 := Lib.hid (S87.out.up b88)
             have T88 := Lib.hid (T87.out.up b88)
             have Bp88 := Lib.hid (Bp87.out.up b88)
             have G88 := Lib.hid (G87.out.up b88)
             have Bp_0_88 := Bp88.out.cell 0
             have Bp_1_88 := Bp88.out.cell 1
             have Bp_2_88 := Bp88.out.cell 2
             rw [Sl.out, Eu.out]
             clear b88 b88d)
          | (go_at_call 23; with_reducible refine (specId z _).mono ?_; rintro e w89 ⟨A89, n89, c89, rfl, s89, hn89, b89d⟩
             have b89 : Below w88.heap.size w88 w89 := ⟨b89d.os, b89d.tape, b89d.output, b89d.size, b89d.block⟩
             have B89 : Hid (Below w.heap.size w w89) := Lib.hid (btr B88.out b89)
             have Z89 : Hid (w88.heap.size ≤ w89.heap.size) := Lib.hid b89.size
             have X89 := Lib.hid (X88.out.up b89)
             have S89 := Lib.hid (S88.out.up b89)
             have T89 := Lib.hid (T88.out.up b89)
             have Bp89 := Lib.hid (Bp88.out.up b89)
             have G89 := Lib.hid (G88.out.up b89)
             have Bp_0_89 := Bp89.out.cell 0
             have Bp_1_89 := Bp89.out.cell 1
             have Bp_2_89 := Bp89.out.cell 2
             have K89 : Hid (SIn w89 A89 n89 c89 (idL z.toNat)) := Lib.hid (by have := SIn.of_slc s89 (by omega); rwa [F.out.2.2.2.2.2] at this)
             clear s89
             clear b89 b89d)
          | (go_at_call 16; with_reducible refine (likeS2 S89.out K89.out).mono ?_; rintro e w90 ⟨rfl, b90d⟩
             have b90 : Below w89.heap.size w89 w90 := ⟨b90d.os, b90d.tape, b90d.output, b90d.size, b90d.block⟩
             have B90 : Hid (Below w.heap.size w w90) := Lib.hid (btr B89.out b90)
             have Z90 : Hid (w89.heap.size ≤ w90.heap.size) := Lib.hid b90.size
             have X90 := Lib.hid (X89.out.up b90)
             have S90 := Lib.hid (S89.out.up b90)
             have T90 := Lib.hid (T89.out.up b90)
             have Bp90 := Lib.hid (Bp89.out.up b90)
             have G90 := Lib.hid (G89.out.up b90)
             have K90 := Lib.hid (K89.out.up b90)
             have Bp_0_90 := Bp90.out.cell 0
             have Bp_1_90 := Bp90.out.cell 1
             have Bp_2_90 := Bp90.out.cell 2
             rw [Eu.out]
             clear b90 b90d)
          )))
          all_goals try clear Xdd85 Sdd85 Tdd85 Bpdd85 Gdd85 Jdd85
          all_goals try clear Bp_0_85 Bp_1_85 Bp_2_85
          all_goals try clear Bp_0_86 Bp_1_86 Bp_2_86
          all_goals try clear Bp_0_87 Bp_1_87 Bp_2_87
          all_goals try clear Bp_0_88 Bp_1_88 Bp_2_88
          all_goals try clear Bp_0_89 Bp_1_89 Bp_2_89
          all_goals try clear Bp_0_90 Bp_1_90 Bp_2_90
          clear Bp_0 Bp_1 Bp_2
          all_goals (go_wp2_with fail; go_ret; exact ⟨rfl, B90.out⟩)
  · go_enter Try.func3, Try.ntmps3
    go_wp2_with fail
    refine (bigT9 A len cap w (by omega)).mono ?_
    rintro e w0 ⟨rfl, rfl⟩
    go_wp2
    go_ret
    exact ⟨rfl, Below.refl _ _⟩
end Go.Proofs.Ytkjokchhffjidaa

/- What the frame of a proof knows of a slice of bytes that came in, in the words of the walks. No condition. -/
namespace Go.Proofs.Ytkjokchhffjidaa
open Go.RowKit

theorem SB.of_rowB {w : World} {a : Option Addr} {len cap : Nat} {zs : List Int}
    (h : (a = none ∧ len = 0 ∧ cap = 0 ∧ zs = []) ∨ ∃ x, a = some x ∧ len ≤ cap ∧ cap ≤ maxLen ∧ zs.length = cap ∧ (∀ i, i < zs.length → w.cell? (x.add i) = some (.int .u8 (zs.getD i 0))) ∧ ∀ n ∈ zs, (Lit.int .u8 n).wf = true)
    (hw : ∀ n : Int, (Lit.int .u8 n).wf = true → 0 ≤ n ∧ n ≤ 255) : SB w w.heap.size a len := by
  rcases h with ⟨rfl, rfl, rfl, rfl⟩ | ⟨⟨b, off, spot⟩, rfl, hl, hm, hz, hc, hwf⟩
  · exact fun h => absurd h (by omega)
  · intro hp
    have h0 := hc 0 (by omega)
    have hspot : spot = none := by simpa [Addr.add] using World.cell?_spot h0
    subst hspot
    refine ⟨b, off, rfl, ?_, fun j hj => ?_⟩
    · have := World.block_lt_of_cell? w _ h0
      simpa [Addr.add] using this
    · have hjz : j < zs.length := by omega
      have hr := hw (zs.getD j 0) (hwf _ (by rw [List.getD_eq_getElem?_getD, List.getElem?_eq_getElem hjz]; exact List.getElem_mem _))
      refine ⟨(zs.getD j 0).toNat, by omega, ?_⟩
      rw [Int.toNat_of_nonneg hr.1, ← hc j hjz]
      unfold Addr.add
      split <;> simp_all
end Go.Proofs.Ytkjokchhffjidaa
