/- Part 7 of the texts: WalkH9. No condition of its own: each text tells its own. -/
import Derived.Test.YtkjokchhffjidaaMg5
import Derived.Test.YtkjokchhffjidaaMg6
set_option linter.unusedVariables false
set_option linter.unusedSimpArgs false

/- The walk of the law FnExactApplyWord: it returns true at every input, and writes nothing that was there. No condition but the program's own contract. -/
namespace Go.Proofs.Ytkjokchhffjidaa
open Go.RowKit

set_option maxHeartbeats 8000000 in
set_option maxRecDepth 100000 in
/-- The law FnExactApplyWord. -/
theorem lawApplyWord (IM : ∀ (z : Int) (s : ByteArray) (A : Option Addr) (n c : Nat) (vs : List SV) (gs : List (List Int)) (P : Option Addr) (np cp : Nat) (x : List Int) (D : Option Addr) (nd cd : Nat) (wd : List Int) (w : World), PIn w z s A n vs gs → SIn w P np cp x → SIn w D nd cd wd → Hid (VI wd) → Calls Try.prog 14 #[.agg #[.int .i64 z, .string s, .slice A n c], .slice P np cp, .slice D nd cd] w fun e w' => ∃ A' m c', e = .returned (.tuple #[.slice A' m c', .bool (apB z s gs x wd)]) ∧ Slc w' w.heap.size A' m c' (apF z s gs x wd) ∧ m ≤ 20 ∧ Below w.heap.size w w') (z0 : Int) (s0 : ByteArray) (A0 : Option Addr) (n0 c0 : Nat) (vs0 : List SV) (gs0 : List (List Int)) (A1 : Option Addr) (n1 c1 : Nat) (x1 : List Int) (A2 : Option Addr) (n2 c2 : Nat) (x2 : List Int) (w : World) (wz0 : -9223372036854775808 ≤ z0 ∧ z0 ≤ 9223372036854775807) (hs0 : s0.size ≤ maxLen) (hx0 : RR w w.heap.size A0 n0 vs0 gs0) (hm0 : n0 ≤ maxLen) (hk0 : Hid (∀ i, i < n0 → (vs0.getD i sd0).2.1 ≤ maxLen)) (hx1 : RI w w.heap.size A1 x1) (lx1 : Hid (x1.length = n1)) (hx2 : RI w w.heap.size A2 x2) (lx2 : Hid (x2.length = n2)) (vi2 : Hid (VI x2)) :
    Calls Try.prog 7 #[.agg #[.int .i64 z0, .string s0, .slice A0 n0 c0], .slice A1 n1 c1, .slice A2 n2 c2] w fun e w' => e = .returned (.bool true) ∧ Below w.heap.size w w' := by
  have HX0 := Lib.hid hx0
  have hll0 := Lib.hid hx0.lens
  clear hx0
  have HX1 := Lib.hid hx1
  clear hx1
  have HX2 := Lib.hid hx2
  clear hx2
  have ba0 : Hid (Below w.heap.size w (w.alloc (.cells #[.int .i64 z0, .string s0, .slice A0 n0 c0] 37))) := Lib.hid ((Below.refl _ _).alloc (Nat.le_refl _) _)
  have B0_0 : Hid (Below w.heap.size w (w.alloc (.cells #[.int .i64 z0, .string s0, .slice A0 n0 c0] 37))) := Lib.hid ba0.out
  have bx0_0 : Hid (Blk (w.alloc (.cells #[.int .i64 z0, .string s0, .slice A0 n0 c0] 37)) (w.heap.size) 37 #[.int .i64 z0, .string s0, .slice A0 n0 c0]) := Lib.hid (Blk.new w _ _)
  by_cases hn1 : n1 ≤ 1048576
  · skip
    have dn1 : decide ((1048576 : Int) < (n1 : Int)) = false := by simp; omega
    by_cases hn2 : n2 ≤ 1048576
    · skip
      have dn2 : decide ((1048576 : Int) < (n2 : Int)) = false := by simp; omega
      obtain ⟨r0, hr0⟩ : ∃ r : Int, r = if ((s0.size + (n0 + tot vs0 n0) : Nat) : Int) ≤ (1048576 : Int) then (1048576 : Int) - ((s0.size + (n0 + tot vs0 n0) : Nat) : Int) else -1 := ⟨_, rfl⟩
      have Hr0 := Lib.hid hr0
      by_cases hT0 : ((s0.size + (n0 + tot vs0 n0) : Nat) : Int) ≤ (1048576 : Int)
      · skip
        rw [if_pos hT0] at hr0
        have hr00 : 0 ≤ r0 ∧ r0 ≤ 1048576 := by omega
        have dr0 : decide (r0 < 0) = false := by simp; omega
        have hn0 : n0 ≤ 1048576 := by omega
        have hss0 : s0.size ≤ 1048576 := by omega
        have KT0 : Hid (tot vs0 n0 ≤ 1048576) := Lib.hid (by omega)
        have hl0 : Hid (∀ i, i < n0 → (vs0.getD i sd0).2.1 ≤ 1048576) := Lib.hid fun i hi => by have := tot_row (vs := vs0) hi; have := KT0.out; omega
        have hyl0 : Hid (∀ i, i < n0 → (gs0.getD i []).length ≤ 1048576) := Lib.hid fun i hi => by rw [hll0.out i hi]; exact hl0.out i hi
        clear hr0 hT0
        go_enter Try.func7, Try.ntmps7
        have q0_0 := bx0_0.out.cell 0
        have q0_1 := bx0_0.out.cell 1
        have q0_2 := bx0_0.out.cell 2
        go_wp2_with fail
        refine (szPz z0 s0 A0 n0 c0 1048576 vs0 gs0 _ (HX0.out.up B0_0.out) hs0 hm0 hk0 (by decide) (by decide) r0 Hr0).mono ?_
        rintro e w1 ⟨rfl, b1⟩
        clear q0_0 q0_1 q0_2
        have Z1 : Hid (w.heap.size + 1 ≤ w1.heap.size) := Lib.hid (by have := b1.size; (try simp only [World.size_alloc] at this); omega)
        have B1 : Hid (Below w.heap.size w w1) := Lib.hid (btr B0_0.out b1)
        have bx0_1 := Lib.hid (bx0_0.out.below b1 bx0_0.out.lt)
        clear bx0_0
        clear b1
        have q0_0 := bx0_1.out.cell 0
        have q0_1 := bx0_1.out.cell 1
        have q0_2 := bx0_1.out.cell 2
        go_wp2_with fail
        refine (toPz z0 s0 A0 n0 c0 vs0 gs0 _ (HX0.out.up B1.out) hn0 hl0).mono ?_
        rintro e w2 ⟨C2, cc2, us2, rfl, s2, l2, b2⟩
        clear q0_0 q0_1 q0_2
        have Z2 : Hid (w1.heap.size ≤ w2.heap.size) := Lib.hid (by have := b2.size; (try simp only [World.size_alloc] at this); omega)
        have B2 : Hid (Below w.heap.size w w2) := Lib.hid (btr B1.out b2)
        have bx0_2 := Lib.hid (bx0_1.out.below b2 bx0_1.out.lt)
        clear bx0_1
        have t0_2 := Lib.hid s2
        have Pt0_2 : Hid (PIn w2 z0 s0 C2 n0 us2 gs0) := Lib.hid ⟨⟨s2.rr, hn0, fun i hi => by rw [l2 i hi]; exact hl0.out i hi⟩, wz0, hss0⟩
        have Qt0 := Lib.hid l2
        clear b2 s2 l2
        have q0_0 := bx0_2.out.cell 0
        have q0_1 := bx0_2.out.cell 1
        have q0_2 := bx0_2.out.cell 2
        go_wp2_with fail
        refine (toS_any A1 c1 n1 x1 _ (HX1.out.up B2.out) lx1 (by omega)).mono ?_
        rintro e w3 ⟨C3, cc3, rfl, s3, b3⟩
        clear q0_0 q0_1 q0_2
        have Z3 : Hid (w2.heap.size ≤ w3.heap.size) := Lib.hid (by have := b3.size; (try simp only [World.size_alloc] at this); omega)
        have B3 : Hid (Below w.heap.size w w3) := Lib.hid (btr B2.out b3)
        have bx0_3 := Lib.hid (bx0_2.out.below b3 bx0_2.out.lt)
        clear bx0_2
        have t0_3 := Lib.hid (t0_2.out.up b3)
        clear t0_2
        have Pt0_3 := Lib.hid (Pt0_2.out.up b3)
        clear Pt0_2
        have t1_3 := Lib.hid s3
        have let1 := s3.le.1
        have Lnt1 : Hid (Lies C3 n1 cc3 (w2.heap.size) w3.heap.size) := Lib.hid (fun k hk => by have := s3.lies k hk; (try simp only [World.size_alloc] at this); omega)
        clear b3 s3
        have q0_0 := bx0_3.out.cell 0
        have q0_1 := bx0_3.out.cell 1
        have q0_2 := bx0_3.out.cell 2
        go_wp2_with fail
        refine (toS_any A2 c2 n2 x2 _ (HX2.out.up B3.out) lx2 (by omega)).mono ?_
        rintro e w4 ⟨C4, cc4, rfl, s4, b4⟩
        clear q0_0 q0_1 q0_2
        have Z4 : Hid (w3.heap.size ≤ w4.heap.size) := Lib.hid (by have := b4.size; (try simp only [World.size_alloc] at this); omega)
        have B4 : Hid (Below w.heap.size w w4) := Lib.hid (btr B3.out b4)
        have bx0_4 := Lib.hid (bx0_3.out.below b4 bx0_3.out.lt)
        clear bx0_3
        have t0_4 := Lib.hid (t0_3.out.up b4)
        clear t0_3
        have Pt0_4 := Lib.hid (Pt0_3.out.up b4)
        clear Pt0_3
        have t1_4 := Lib.hid (t1_3.out.up b4)
        clear t1_3
        have t2_4 := Lib.hid s4
        have let2 := s4.le.1
        have Lnt2 : Hid (Lies C4 n2 cc4 (w3.heap.size) w4.heap.size) := Lib.hid (fun k hk => by have := s4.lies k hk; (try simp only [World.size_alloc] at this); omega)
        clear b4 s4
        have q0_0 := bx0_4.out.cell 0
        have q0_1 := bx0_4.out.cell 1
        have q0_2 := bx0_4.out.cell 2
        go_wp2_with fail
        refine (specApplyWord z0 s0 C2 n0 cc2 us2 gs0 C3 n1 cc3 x1 C4 n2 cc4 x2 _ Pt0_4.out ⟨t1_4.out.ri_, lx1.out, hn1, let1⟩ ⟨t2_4.out.ri_, lx2.out, hn2, let2⟩).mono ?_
        rintro e w5 ⟨C5, m5, cc5, rfl, s5, hm5, b5⟩
        clear q0_0 q0_1 q0_2
        have Z5 : Hid (w4.heap.size ≤ w5.heap.size) := Lib.hid (by have := b5.size; (try simp only [World.size_alloc] at this); omega)
        have B5 : Hid (Below w.heap.size w w5) := Lib.hid (btr B4.out b5)
        have bx0_5 := Lib.hid (bx0_4.out.below b5 bx0_4.out.lt)
        clear bx0_4
        have t0_5 := Lib.hid (t0_4.out.up b5)
        clear t0_4
        have Pt0_5 := Lib.hid (Pt0_4.out.up b5)
        clear Pt0_4
        have t1_5 := Lib.hid (t1_4.out.up b5)
        clear t1_4
        have t2_5 := Lib.hid (t2_4.out.up b5)
        clear t2_4
        have W_5 := Lib.hid s5
        have LnW : Hid (Lies C5 m5 cc5 (w4.heap.size) w5.heap.size) := Lib.hid (fun k hk => by have := s5.lies k hk; (try simp only [World.size_alloc] at this); omega)
        clear b5 s5
        clear t0_5
        clear Pt0_5
        clear t1_5
        clear t2_5
        have q0_0 := bx0_5.out.cell 0
        have q0_1 := bx0_5.out.cell 1
        have q0_2 := bx0_5.out.cell 2
        go_wp2_with fail
        refine (toPz z0 s0 A0 n0 c0 vs0 gs0 _ (HX0.out.up B5.out) hn0 hl0).mono ?_
        rintro e w6 ⟨C6, cc6, us6, rfl, s6, l6, b6⟩
        clear q0_0 q0_1 q0_2
        have Z6 : Hid (w5.heap.size ≤ w6.heap.size) := Lib.hid (by have := b6.size; (try simp only [World.size_alloc] at this); omega)
        have B6 : Hid (Below w.heap.size w w6) := Lib.hid (btr B5.out b6)
        have bx0_6 := Lib.hid (bx0_5.out.below b6 bx0_5.out.lt)
        clear bx0_5
        have W_6 := Lib.hid (W_5.out.up b6)
        clear W_5
        have x0_6 := Lib.hid s6
        have Px0_6 : Hid (PIn w6 z0 s0 C6 n0 us6 gs0) := Lib.hid ⟨⟨s6.rr, hn0, fun i hi => by rw [l6 i hi]; exact hl0.out i hi⟩, wz0, hss0⟩
        have Qx0 := Lib.hid l6
        have Inx0 : Hid (∀ t, t < n0 → ∀ k, (sval (us6.getD t sd0)).ownBlock = some k → w5.heap.size ≤ k ∧ k < w6.heap.size) := Lib.hid fun t ht k hk => by have := (s6.row t ht).lt_ k hk; (try simp only [World.size_alloc] at this); omega
        clear b6 s6 l6
        have bb6 : Hid (Below w6.heap.size w6 (w6.alloc (.cells #[.int .i64 z0, .string s0, .slice C6 n0 cc6] 26))) := Lib.hid ((Below.refl _ _).alloc (Nat.le_refl _) _)
        have BB6 : Hid (Below w.heap.size w (w6.alloc (.cells #[.int .i64 z0, .string s0, .slice C6 n0 cc6] 26))) := Lib.hid (btr B6.out bb6.out)
        have bx0_b6 := Lib.hid (bx0_6.out.below bb6.out bx0_6.out.lt)
        clear bx0_6
        have W_b6 := Lib.hid (W_6.out.up bb6.out)
        clear W_6
        have x0_b6 := Lib.hid (x0_6.out.up bb6.out)
        clear x0_6
        have Px0_b6 := Lib.hid (Px0_6.out.up bb6.out)
        clear Px0_6
        have xb0_6 : Hid (Blk (w6.alloc (.cells #[.int .i64 z0, .string s0, .slice C6 n0 cc6] 26)) w6.heap.size 26 #[.int .i64 z0, .string s0, .slice C6 n0 cc6]) := Lib.hid (Blk.new w6 _ _)
        have q0_0 := bx0_b6.out.cell 0
        have q0_1 := bx0_b6.out.cell 1
        have q0_2 := bx0_b6.out.cell 2
        have q4_0 := xb0_6.out.cell 0
        have q4_1 := xb0_6.out.cell 1
        have q4_2 := xb0_6.out.cell 2
        go_wp2_with fail
        refine (toS_any A1 c1 n1 x1 _ (HX1.out.up BB6.out) lx1 (by omega)).mono ?_
        rintro e w7 ⟨C7, cc7, rfl, s7, b7⟩
        clear q0_0 q0_1 q0_2 q4_0 q4_1 q4_2
        have Z7 : Hid (w6.heap.size + 1 ≤ w7.heap.size) := Lib.hid (by have := b7.size; (try simp only [World.size_alloc] at this); omega)
        have B7 : Hid (Below w.heap.size w w7) := Lib.hid (btr BB6.out b7)
        have bx0_7 := Lib.hid (bx0_b6.out.below b7 bx0_b6.out.lt)
        clear bx0_b6
        have W_7 := Lib.hid (W_b6.out.up b7)
        clear W_b6
        have x0_7 := Lib.hid (x0_b6.out.up b7)
        clear x0_b6
        have Px0_7 := Lib.hid (Px0_b6.out.up b7)
        clear Px0_b6
        have xb0_7 := Lib.hid (xb0_6.out.below b7 xb0_6.out.lt)
        clear xb0_6
        have x1_7 := Lib.hid s7
        have lex1 := s7.le.1
        have Lnx1 : Hid (Lies C7 n1 cc7 (w6.heap.size + 1) w7.heap.size) := Lib.hid (fun k hk => by have := s7.lies k hk; (try simp only [World.size_alloc] at this); omega)
        clear b7 s7
        have q0_0 := bx0_7.out.cell 0
        have q0_1 := bx0_7.out.cell 1
        have q0_2 := bx0_7.out.cell 2
        have q4_0 := xb0_7.out.cell 0
        have q4_1 := xb0_7.out.cell 1
        have q4_2 := xb0_7.out.cell 2
        go_wp2_with fail
        refine (toS_any A2 c2 n2 x2 _ (HX2.out.up B7.out) lx2 (by omega)).mono ?_
        rintro e w8 ⟨C8, cc8, rfl, s8, b8⟩
        clear q0_0 q0_1 q0_2 q4_0 q4_1 q4_2
        have Z8 : Hid (w7.heap.size ≤ w8.heap.size) := Lib.hid (by have := b8.size; (try simp only [World.size_alloc] at this); omega)
        have B8 : Hid (Below w.heap.size w w8) := Lib.hid (btr B7.out b8)
        have bx0_8 := Lib.hid (bx0_7.out.below b8 bx0_7.out.lt)
        clear bx0_7
        have W_8 := Lib.hid (W_7.out.up b8)
        clear W_7
        have x0_8 := Lib.hid (x0_7.out.up b8)
        clear x0_7
        have Px0_8 := Lib.hid (Px0_7.out.up b8)
        clear Px0_7
        have xb0_8 := Lib.hid (xb0_7.out.below b8 xb0_7.out.lt)
        clear xb0_7
        have x1_8 := Lib.hid (x1_7.out.up b8)
        clear x1_7
        have x2_8 := Lib.hid s8
        have lex2 := s8.le.1
        have Lnx2 : Hid (Lies C8 n2 cc8 (w7.heap.size) w8.heap.size) := Lib.hid (fun k hk => by have := s8.lies k hk; (try simp only [World.size_alloc] at this); omega)
        clear b8 s8
        have q0_0 := bx0_8.out.cell 0
        have q0_1 := bx0_8.out.cell 1
        have q0_2 := bx0_8.out.cell 2
        have q4_0 := xb0_8.out.cell 0
        have q4_1 := xb0_8.out.cell 1
        have q4_2 := xb0_8.out.cell 2
        go_wp2_with fail
        refine (IM z0 s0 C6 n0 cc6 us6 gs0 C7 n1 cc7 x1 C8 n2 cc8 x2 _ Px0_8.out ⟨x1_8.out.ri_, lx1.out, hn1, lex1⟩ ⟨x2_8.out.ri_, lx2.out, hn2, lex2⟩ vi2).mono ?_
        rintro e w9 ⟨C9, m9, cc9, rfl, s9, hm9, b9⟩
        clear q0_0 q0_1 q0_2 q4_0 q4_1 q4_2
        have Z9 : Hid (w8.heap.size ≤ w9.heap.size) := Lib.hid (by have := b9.size; (try simp only [World.size_alloc] at this); omega)
        have B9 : Hid (Below w.heap.size w w9) := Lib.hid (btr B8.out b9)
        have bx0_9 := Lib.hid (bx0_8.out.below b9 bx0_8.out.lt)
        clear bx0_8
        have W_9 := Lib.hid (W_8.out.up b9)
        clear W_8
        have x0_9 := Lib.hid (x0_8.out.up b9)
        clear x0_8
        have Px0_9 := Lib.hid (Px0_8.out.up b9)
        clear Px0_8
        have xb0_9 := Lib.hid (xb0_8.out.below b9 xb0_8.out.lt)
        clear xb0_8
        have x1_9 := Lib.hid (x1_8.out.up b9)
        clear x1_8
        have x2_9 := Lib.hid (x2_8.out.up b9)
        clear x2_8
        have G_9 := Lib.hid s9
        have LnG : Hid (Lies C9 m9 cc9 (w8.heap.size) w9.heap.size) := Lib.hid (fun k hk => by have := s9.lies k hk; (try simp only [World.size_alloc] at this); omega)
        clear b9 s9
        have ne0 : (apB z0 s0 gs0 x1 x2 != apB z0 s0 gs0 x1 x2) = false := by simp
        have q0_0 := bx0_9.out.cell 0
        have q0_1 := bx0_9.out.cell 1
        have q0_2 := bx0_9.out.cell 2
        have q4_0 := xb0_9.out.cell 0
        have q4_1 := xb0_9.out.cell 1
        have q4_2 := xb0_9.out.cell 2
        go_wp2_with fail
        refine (eqS_same _ _ C9 C5 m9 cc9 m5 cc5 _ G_9.out W_9.out (by omega)).mono ?_
        rintro e w10 ⟨rfl, b10⟩
        clear q0_0 q0_1 q0_2 q4_0 q4_1 q4_2
        have Z10 : Hid (w9.heap.size ≤ w10.heap.size) := Lib.hid (by have := b10.size; (try simp only [World.size_alloc] at this); omega)
        have B10 : Hid (Below w.heap.size w w10) := Lib.hid (btr B9.out b10)
        have bx0_10 := Lib.hid (bx0_9.out.below b10 bx0_9.out.lt)
        clear bx0_9
        have W_10 := Lib.hid (W_9.out.up b10)
        clear W_9
        have x0_10 := Lib.hid (x0_9.out.up b10)
        clear x0_9
        have Px0_10 := Lib.hid (Px0_9.out.up b10)
        clear Px0_9
        have xb0_10 := Lib.hid (xb0_9.out.below b10 xb0_9.out.lt)
        clear xb0_9
        have x1_10 := Lib.hid (x1_9.out.up b10)
        clear x1_9
        have x2_10 := Lib.hid (x2_9.out.up b10)
        clear x2_9
        have G_10 := Lib.hid (G_9.out.up b10)
        clear G_9
        clear b10
        have q0_0 := bx0_10.out.cell 0
        have q0_1 := bx0_10.out.cell 1
        have q0_2 := bx0_10.out.cell 2
        have q4_0 := xb0_10.out.cell 0
        have q4_1 := xb0_10.out.cell 1
        have q4_2 := xb0_10.out.cell 2
        go_wp2_with fail
        go_region_law ((go_simp; go_wp2_with (first
          | (go_at_call 26; refine (toPz z0 s0 A0 n0 c0 vs0 gs0 w10.drew ((HX0.out.up B10.out).keep fun _ _ => rfl) hn0 hl0).mono ?_; rintro e w11 ⟨C11, cc11, us11, rfl, s11, l11, b11d⟩
             have b11 : Below w10.heap.size w10 w11 := ⟨b11d.os, b11d.tape, b11d.output, b11d.size, b11d.block⟩
             have B11 := Lib.hid (btr B10.out b11)
             have Z11 : Hid (w10.heap.size ≤ w11.heap.size) := Lib.hid b11.size
             have bx0_11 := Lib.hid (bx0_10.out.below b11 bx0_10.out.lt)
             have y0_0 := bx0_11.out.cell 0
             have y0_1 := bx0_11.out.cell 1
             have y0_2 := bx0_11.out.cell 2
             have W_11 := Lib.hid (W_10.out.up b11)
             have x0_11 := Lib.hid (x0_10.out.up b11)
             have Px0_11 := Lib.hid (Px0_10.out.up b11)
             have xb0_11 := Lib.hid (xb0_10.out.below b11 xb0_10.out.lt)
             have y4_0 := xb0_11.out.cell 0
             have y4_1 := xb0_11.out.cell 1
             have y4_2 := xb0_11.out.cell 2
             have x1_11 := Lib.hid (x1_10.out.up b11)
             have x2_11 := Lib.hid (x2_10.out.up b11)
             have G_11 := Lib.hid (G_10.out.up b11)
             have T11 := Lib.hid s11
             clear b11d b11 s11 l11)
          | (go_at_call 28; (first | refine (eqPz z0 s0 C6 C11 n0 cc6 n0 cc11 us6 us11 gs0 w11 x0_11.out.rr T11.out.rr hn0 hyl0).mono ?_ | refine (eqPz z0 s0 C6 C11 n0 cc6 n0 cc11 us6 us11 gs0 w11.drew (x0_11.out.rr.keep fun _ _ => rfl) (T11.out.rr.keep fun _ _ => rfl) hn0 hyl0).mono ?_); rintro e w12 ⟨rfl, b12d⟩))))
        all_goals
          have b12 : Below w11.heap.size w11 w12 := ⟨b12d.os, b12d.tape, b12d.output, b12d.size, b12d.block⟩
          have B12 := Lib.hid (btr B11.out b12)
          have Z12 : Hid (w11.heap.size ≤ w12.heap.size) := Lib.hid (by have := b12.size; (try simp only [World.size_alloc] at this); omega)
          have bx0_12 := Lib.hid (bx0_11.out.below b12 bx0_11.out.lt)
          have W_12 := Lib.hid (W_11.out.up b12)
          have x0_12 := Lib.hid (x0_11.out.up b12)
          have Px0_12 := Lib.hid (Px0_11.out.up b12)
          have xb0_12 := Lib.hid (xb0_11.out.below b12 xb0_11.out.lt)
          have x1_12 := Lib.hid (x1_11.out.up b12)
          have x2_12 := Lib.hid (x2_11.out.up b12)
          have G_12 := Lib.hid (G_11.out.up b12)
          clear b12d b12
          have q0_0 := bx0_12.out.cell 0
          have q0_1 := bx0_12.out.cell 1
          have q0_2 := bx0_12.out.cell 2
          have q4_0 := xb0_12.out.cell 0
          have q4_1 := xb0_12.out.cell 1
          have q4_2 := xb0_12.out.cell 2
          go_wp2_with fail
          refine (toS_any A1 c1 n1 x1 _ (HX1.out.up B12.out) lx1 (by omega)).mono ?_
          rintro e w13 ⟨C13, cc13, rfl, s13, b13⟩
          clear q0_0 q0_1 q0_2 q4_0 q4_1 q4_2
          have Z13 : Hid (w12.heap.size ≤ w13.heap.size) := Lib.hid (by have := b13.size; (try simp only [World.size_alloc] at this); omega)
          have B13 : Hid (Below w.heap.size w w13) := Lib.hid (btr B12.out b13)
          have bx0_13 := Lib.hid (bx0_12.out.below b13 bx0_12.out.lt)
          clear bx0_12
          have W_13 := Lib.hid (W_12.out.up b13)
          clear W_12
          have x0_13 := Lib.hid (x0_12.out.up b13)
          clear x0_12
          have Px0_13 := Lib.hid (Px0_12.out.up b13)
          clear Px0_12
          have xb0_13 := Lib.hid (xb0_12.out.below b13 xb0_12.out.lt)
          clear xb0_12
          have x1_13 := Lib.hid (x1_12.out.up b13)
          clear x1_12
          have x2_13 := Lib.hid (x2_12.out.up b13)
          clear x2_12
          have G_13 := Lib.hid (G_12.out.up b13)
          clear G_12
          have y1_13 := Lib.hid s13
          have ley1 := s13.le.1
          have Lny1 : Hid (Lies C13 n1 cc13 (w12.heap.size) w13.heap.size) := Lib.hid (fun k hk => by have := s13.lies k hk; (try simp only [World.size_alloc] at this); omega)
          clear b13 s13
          have q0_0 := bx0_13.out.cell 0
          have q0_1 := bx0_13.out.cell 1
          have q0_2 := bx0_13.out.cell 2
          have q4_0 := xb0_13.out.cell 0
          have q4_1 := xb0_13.out.cell 1
          have q4_2 := xb0_13.out.cell 2
          go_wp2_with fail
          refine (eqS_same _ _ C7 C13 n1 cc7 n1 cc13 _ x1_13.out y1_13.out (by omega)).mono ?_
          rintro e w14 ⟨rfl, b14⟩
          clear q0_0 q0_1 q0_2 q4_0 q4_1 q4_2
          have Z14 : Hid (w13.heap.size ≤ w14.heap.size) := Lib.hid (by have := b14.size; (try simp only [World.size_alloc] at this); omega)
          have B14 : Hid (Below w.heap.size w w14) := Lib.hid (btr B13.out b14)
          have bx0_14 := Lib.hid (bx0_13.out.below b14 bx0_13.out.lt)
          clear bx0_13
          have W_14 := Lib.hid (W_13.out.up b14)
          clear W_13
          have x0_14 := Lib.hid (x0_13.out.up b14)
          clear x0_13
          have Px0_14 := Lib.hid (Px0_13.out.up b14)
          clear Px0_13
          have xb0_14 := Lib.hid (xb0_13.out.below b14 xb0_13.out.lt)
          clear xb0_13
          have x1_14 := Lib.hid (x1_13.out.up b14)
          clear x1_13
          have x2_14 := Lib.hid (x2_13.out.up b14)
          clear x2_13
          have G_14 := Lib.hid (G_13.out.up b14)
          clear G_13
          have y1_14 := Lib.hid (y1_13.out.up b14)
          clear y1_13
          clear b14
          clear y1_14
          have q0_0 := bx0_14.out.cell 0
          have q0_1 := bx0_14.out.cell 1
          have q0_2 := bx0_14.out.cell 2
          have q4_0 := xb0_14.out.cell 0
          have q4_1 := xb0_14.out.cell 1
          have q4_2 := xb0_14.out.cell 2
          go_wp2_with fail
          refine (toS_any A2 c2 n2 x2 _ (HX2.out.up B14.out) lx2 (by omega)).mono ?_
          rintro e w15 ⟨C15, cc15, rfl, s15, b15⟩
          clear q0_0 q0_1 q0_2 q4_0 q4_1 q4_2
          have Z15 : Hid (w14.heap.size ≤ w15.heap.size) := Lib.hid (by have := b15.size; (try simp only [World.size_alloc] at this); omega)
          have B15 : Hid (Below w.heap.size w w15) := Lib.hid (btr B14.out b15)
          have bx0_15 := Lib.hid (bx0_14.out.below b15 bx0_14.out.lt)
          clear bx0_14
          have W_15 := Lib.hid (W_14.out.up b15)
          clear W_14
          have x0_15 := Lib.hid (x0_14.out.up b15)
          clear x0_14
          have Px0_15 := Lib.hid (Px0_14.out.up b15)
          clear Px0_14
          have xb0_15 := Lib.hid (xb0_14.out.below b15 xb0_14.out.lt)
          clear xb0_14
          have x1_15 := Lib.hid (x1_14.out.up b15)
          clear x1_14
          have x2_15 := Lib.hid (x2_14.out.up b15)
          clear x2_14
          have G_15 := Lib.hid (G_14.out.up b15)
          clear G_14
          have y2_15 := Lib.hid s15
          have ley2 := s15.le.1
          have Lny2 : Hid (Lies C15 n2 cc15 (w14.heap.size) w15.heap.size) := Lib.hid (fun k hk => by have := s15.lies k hk; (try simp only [World.size_alloc] at this); omega)
          clear b15 s15
          have q0_0 := bx0_15.out.cell 0
          have q0_1 := bx0_15.out.cell 1
          have q0_2 := bx0_15.out.cell 2
          have q4_0 := xb0_15.out.cell 0
          have q4_1 := xb0_15.out.cell 1
          have q4_2 := xb0_15.out.cell 2
          go_wp2_with fail
          refine (eqS_same _ _ C8 C15 n2 cc8 n2 cc15 _ x2_15.out y2_15.out (by omega)).mono ?_
          rintro e w16 ⟨rfl, b16⟩
          clear q0_0 q0_1 q0_2 q4_0 q4_1 q4_2
          have Z16 : Hid (w15.heap.size ≤ w16.heap.size) := Lib.hid (by have := b16.size; (try simp only [World.size_alloc] at this); omega)
          have B16 : Hid (Below w.heap.size w w16) := Lib.hid (btr B15.out b16)
          have bx0_16 := Lib.hid (bx0_15.out.below b16 bx0_15.out.lt)
          clear bx0_15
          have W_16 := Lib.hid (W_15.out.up b16)
          clear W_15
          have x0_16 := Lib.hid (x0_15.out.up b16)
          clear x0_15
          have Px0_16 := Lib.hid (Px0_15.out.up b16)
          clear Px0_15
          have xb0_16 := Lib.hid (xb0_15.out.below b16 xb0_15.out.lt)
          clear xb0_15
          have x1_16 := Lib.hid (x1_15.out.up b16)
          clear x1_15
          have x2_16 := Lib.hid (x2_15.out.up b16)
          clear x2_15
          have G_16 := Lib.hid (G_15.out.up b16)
          clear G_15
          have y2_16 := Lib.hid (y2_15.out.up b16)
          clear y2_15
          clear b16
          clear y2_16
          have KTx0 : Hid (tot us6 n0 ≤ 1048576) := Lib.hid (by rw [tot_eq n0 Qx0.out]; exact KT0.out)
          have q0_0 := bx0_16.out.cell 0
          have q0_1 := bx0_16.out.cell 1
          have q0_2 := bx0_16.out.cell 2
          have q4_0 := xb0_16.out.cell 0
          have q4_1 := xb0_16.out.cell 1
          have q4_2 := xb0_16.out.cell 2
          go_wp2_with fail
          refine (markPz z0 s0 C6 n0 cc6 _ _ us6 gs0 w16 x0_16.out hn0 KTx0).mono ?_
          rintro e w17 ⟨rfl, s17, o17⟩
          clear q0_0 q0_1 q0_2 q4_0 q4_1 q4_2
          clear s17
          have Z17 : Hid (w16.heap.size ≤ w17.heap.size) := Lib.hid (by have := o17.size; (try simp only [World.size_alloc] at this); omega)
          have B17 : Hid (Below w.heap.size w w17) := Lib.hid (B16.out.trans (o17.below B16.out.size (fun t ht k e => by have h2 := Inx0.out t ht k e; have := Z1.out; have := Z2.out; have := Z3.out; have := Z4.out; have := Z5.out; have := Z6.out; have := Z7.out; have := Z8.out; have := Z9.out; have := Z10.out; have := Z11.out; have := Z12.out; have := Z13.out; have := Z14.out; have := Z15.out; have := Z16.out; have := Z17.out; omega)))
          clear x0_16
          clear Px0_16
          clear xb0_16
          have bx0_17 : Hid (Blk w17 _ _ _) := Lib.hid ((o17.block _ bx0_16.out.lt (fun t ht e => by have h2 := Inx0.out t ht _ e; have := Z1.out; have := Z2.out; have := Z3.out; have := Z4.out; have := Z5.out; have := Z6.out; have := Z7.out; have := Z8.out; have := Z9.out; have := Z10.out; have := Z11.out; have := Z12.out; have := Z13.out; have := Z14.out; have := Z15.out; have := Z16.out; have := Z17.out; omega)).trans bx0_16.out)
          clear bx0_16
          have W_17 := Lib.hid (W_16.out.only o17 (fun k hk t ht e => by have h1 := LnW.out k hk; have h2 := Inx0.out t ht k e; have := Z1.out; have := Z2.out; have := Z3.out; have := Z4.out; have := Z5.out; have := Z6.out; have := Z7.out; have := Z8.out; have := Z9.out; have := Z10.out; have := Z11.out; have := Z12.out; have := Z13.out; have := Z14.out; have := Z15.out; have := Z16.out; have := Z17.out; omega))
          clear W_16
          have x1_17 := Lib.hid (x1_16.out.only o17 (fun k hk t ht e => by have h1 := Lnx1.out k hk; have h2 := Inx0.out t ht k e; have := Z1.out; have := Z2.out; have := Z3.out; have := Z4.out; have := Z5.out; have := Z6.out; have := Z7.out; have := Z8.out; have := Z9.out; have := Z10.out; have := Z11.out; have := Z12.out; have := Z13.out; have := Z14.out; have := Z15.out; have := Z16.out; have := Z17.out; omega))
          clear x1_16
          have x2_17 := Lib.hid (x2_16.out.only o17 (fun k hk t ht e => by have h1 := Lnx2.out k hk; have h2 := Inx0.out t ht k e; have := Z1.out; have := Z2.out; have := Z3.out; have := Z4.out; have := Z5.out; have := Z6.out; have := Z7.out; have := Z8.out; have := Z9.out; have := Z10.out; have := Z11.out; have := Z12.out; have := Z13.out; have := Z14.out; have := Z15.out; have := Z16.out; have := Z17.out; omega))
          clear x2_16
          have G_17 := Lib.hid (G_16.out.only o17 (fun k hk t ht e => by have h1 := LnG.out k hk; have h2 := Inx0.out t ht k e; have := Z1.out; have := Z2.out; have := Z3.out; have := Z4.out; have := Z5.out; have := Z6.out; have := Z7.out; have := Z8.out; have := Z9.out; have := Z10.out; have := Z11.out; have := Z12.out; have := Z13.out; have := Z14.out; have := Z15.out; have := Z16.out; have := Z17.out; omega))
          clear G_16
          clear o17
          obtain ⟨T0, eT0⟩ : ∃ T, tot us6 n0 = T := ⟨_, rfl⟩
          have hT90 : T0 ≤ 1048576 := by rw [← eT0]; exact KTx0.out
          rw [eT0]
          clear eT0
          have q0_0 := bx0_17.out.cell 0
          have q0_1 := bx0_17.out.cell 1
          have q0_2 := bx0_17.out.cell 2
          go_wp2_with fail
          refine (markK _ (1 + T0) _ C7 n1 cc7 _ w17 x1_17.out (by omega) (by omega) (by omega)).mono ?_
          rintro e w18 ⟨rfl, s18, g18⟩
          clear q0_0 q0_1 q0_2
          have Z18 : Hid (w17.heap.size ≤ w18.heap.size) := Lib.hid (by have := g18.size; (try simp only [World.size_alloc] at this); omega)
          have B18 : Hid (Below w.heap.size w w18) := Lib.hid (B17.out.trans (below_mark g18 Lnx1.out (by have := Z1.out; have := Z2.out; have := Z3.out; have := Z4.out; have := Z5.out; have := Z6.out; have := Z7.out; have := Z8.out; have := Z9.out; have := Z10.out; have := Z11.out; have := Z12.out; have := Z13.out; have := Z14.out; have := Z15.out; have := Z16.out; have := Z17.out; have := Z18.out; omega) B17.out.size))
          have bx0_18 := Lib.hid (bx0_17.out.grown g18 (fun e => by have h2 := Lnx1.out _ e.symm; have := Z1.out; have := Z2.out; have := Z3.out; have := Z4.out; have := Z5.out; have := Z6.out; have := Z7.out; have := Z8.out; have := Z9.out; have := Z10.out; have := Z11.out; have := Z12.out; have := Z13.out; have := Z14.out; have := Z15.out; have := Z16.out; have := Z17.out; have := Z18.out; omega))
          clear bx0_17
          have W_18 := Lib.hid (W_17.out.far g18 LnW.out Lnx1.out (.inl (by have := Z1.out; have := Z2.out; have := Z3.out; have := Z4.out; have := Z5.out; have := Z6.out; have := Z7.out; have := Z8.out; have := Z9.out; have := Z10.out; have := Z11.out; have := Z12.out; have := Z13.out; have := Z14.out; have := Z15.out; have := Z16.out; have := Z17.out; have := Z18.out; omega)))
          clear W_17
          have x1_18 := Lib.hid s18
          clear x1_17
          have x2_18 := Lib.hid (x2_17.out.far g18 Lnx2.out Lnx1.out (.inr (by have := Z1.out; have := Z2.out; have := Z3.out; have := Z4.out; have := Z5.out; have := Z6.out; have := Z7.out; have := Z8.out; have := Z9.out; have := Z10.out; have := Z11.out; have := Z12.out; have := Z13.out; have := Z14.out; have := Z15.out; have := Z16.out; have := Z17.out; have := Z18.out; omega)))
          clear x2_17
          have G_18 := Lib.hid (G_17.out.far g18 LnG.out Lnx1.out (.inr (by have := Z1.out; have := Z2.out; have := Z3.out; have := Z4.out; have := Z5.out; have := Z6.out; have := Z7.out; have := Z8.out; have := Z9.out; have := Z10.out; have := Z11.out; have := Z12.out; have := Z13.out; have := Z14.out; have := Z15.out; have := Z16.out; have := Z17.out; have := Z18.out; omega)))
          clear G_17
          clear s18 g18
          clear x1_18
          have q0_0 := bx0_18.out.cell 0
          have q0_1 := bx0_18.out.cell 1
          have q0_2 := bx0_18.out.cell 2
          go_wp2_with fail
          refine (markK _ (1 + T0 + n1) _ C8 n2 cc8 _ w18 x2_18.out (by omega) (by omega) (by omega)).mono ?_
          rintro e w19 ⟨rfl, s19, g19⟩
          clear q0_0 q0_1 q0_2
          have Z19 : Hid (w18.heap.size ≤ w19.heap.size) := Lib.hid (by have := g19.size; (try simp only [World.size_alloc] at this); omega)
          have B19 : Hid (Below w.heap.size w w19) := Lib.hid (B18.out.trans (below_mark g19 Lnx2.out (by have := Z1.out; have := Z2.out; have := Z3.out; have := Z4.out; have := Z5.out; have := Z6.out; have := Z7.out; have := Z8.out; have := Z9.out; have := Z10.out; have := Z11.out; have := Z12.out; have := Z13.out; have := Z14.out; have := Z15.out; have := Z16.out; have := Z17.out; have := Z18.out; have := Z19.out; omega) B18.out.size))
          have bx0_19 := Lib.hid (bx0_18.out.grown g19 (fun e => by have h2 := Lnx2.out _ e.symm; have := Z1.out; have := Z2.out; have := Z3.out; have := Z4.out; have := Z5.out; have := Z6.out; have := Z7.out; have := Z8.out; have := Z9.out; have := Z10.out; have := Z11.out; have := Z12.out; have := Z13.out; have := Z14.out; have := Z15.out; have := Z16.out; have := Z17.out; have := Z18.out; have := Z19.out; omega))
          clear bx0_18
          have W_19 := Lib.hid (W_18.out.far g19 LnW.out Lnx2.out (.inl (by have := Z1.out; have := Z2.out; have := Z3.out; have := Z4.out; have := Z5.out; have := Z6.out; have := Z7.out; have := Z8.out; have := Z9.out; have := Z10.out; have := Z11.out; have := Z12.out; have := Z13.out; have := Z14.out; have := Z15.out; have := Z16.out; have := Z17.out; have := Z18.out; have := Z19.out; omega)))
          clear W_18
          have x2_19 := Lib.hid s19
          clear x2_18
          have G_19 := Lib.hid (G_18.out.far g19 LnG.out Lnx2.out (.inr (by have := Z1.out; have := Z2.out; have := Z3.out; have := Z4.out; have := Z5.out; have := Z6.out; have := Z7.out; have := Z8.out; have := Z9.out; have := Z10.out; have := Z11.out; have := Z12.out; have := Z13.out; have := Z14.out; have := Z15.out; have := Z16.out; have := Z17.out; have := Z18.out; have := Z19.out; omega)))
          clear G_18
          clear s19 g19
          clear x2_19
          have q0_0 := bx0_19.out.cell 0
          have q0_1 := bx0_19.out.cell 1
          have q0_2 := bx0_19.out.cell 2
          go_wp2_with fail
          refine (eqS_same _ _ C9 C5 m9 cc9 m5 cc5 _ G_19.out W_19.out (by omega)).mono ?_
          rintro e w20 ⟨rfl, b20⟩
          clear q0_0 q0_1 q0_2
          have Z20 : Hid (w19.heap.size ≤ w20.heap.size) := Lib.hid (by have := b20.size; (try simp only [World.size_alloc] at this); omega)
          have B20 : Hid (Below w.heap.size w w20) := Lib.hid (btr B19.out b20)
          have bx0_20 := Lib.hid (bx0_19.out.below b20 bx0_19.out.lt)
          clear bx0_19
          have W_20 := Lib.hid (W_19.out.up b20)
          clear W_19
          have G_20 := Lib.hid (G_19.out.up b20)
          clear G_19
          clear b20
          have q0_0 := bx0_20.out.cell 0
          have q0_1 := bx0_20.out.cell 1
          have q0_2 := bx0_20.out.cell 2
          go_wp2_with fail
          refine (mark1 _ C9 m9 cc9 _ w20 G_20.out (by omega)).mono ?_
          rintro e w21 ⟨rfl, s21, g21⟩
          clear q0_0 q0_1 q0_2
          have Z21 : Hid (w20.heap.size ≤ w21.heap.size) := Lib.hid (by have := g21.size; (try simp only [World.size_alloc] at this); omega)
          have B21 : Hid (Below w.heap.size w w21) := Lib.hid (B20.out.trans (below_mark g21 LnG.out (by have := Z1.out; have := Z2.out; have := Z3.out; have := Z4.out; have := Z5.out; have := Z6.out; have := Z7.out; have := Z8.out; have := Z9.out; have := Z10.out; have := Z11.out; have := Z12.out; have := Z13.out; have := Z14.out; have := Z15.out; have := Z16.out; have := Z17.out; have := Z18.out; have := Z19.out; have := Z20.out; have := Z21.out; omega) B20.out.size))
          have bx0_21 := Lib.hid (bx0_20.out.grown g21 (fun e => by have h2 := LnG.out _ e.symm; have := Z1.out; have := Z2.out; have := Z3.out; have := Z4.out; have := Z5.out; have := Z6.out; have := Z7.out; have := Z8.out; have := Z9.out; have := Z10.out; have := Z11.out; have := Z12.out; have := Z13.out; have := Z14.out; have := Z15.out; have := Z16.out; have := Z17.out; have := Z18.out; have := Z19.out; have := Z20.out; have := Z21.out; omega))
          clear bx0_20
          have W_21 := Lib.hid (W_20.out.far g21 LnW.out LnG.out (.inl (by have := Z1.out; have := Z2.out; have := Z3.out; have := Z4.out; have := Z5.out; have := Z6.out; have := Z7.out; have := Z8.out; have := Z9.out; have := Z10.out; have := Z11.out; have := Z12.out; have := Z13.out; have := Z14.out; have := Z15.out; have := Z16.out; have := Z17.out; have := Z18.out; have := Z19.out; have := Z20.out; have := Z21.out; omega)))
          clear W_20
          have G_21 := Lib.hid s21
          clear G_20
          clear s21 g21
          have q0_0 := bx0_21.out.cell 0
          have q0_1 := bx0_21.out.cell 1
          have q0_2 := bx0_21.out.cell 2
          go_wp2_with fail
          refine (held1 _ C9 m9 cc9 w21 G_21.out (by omega)).mono ?_
          rintro e w' ⟨rfl, rfl⟩
          clear q0_0 q0_1 q0_2
          have q0_0 := bx0_21.out.cell 0
          have q0_1 := bx0_21.out.cell 1
          have q0_2 := bx0_21.out.cell 2
          go_wp2_with fail
          refine (toPz z0 s0 A0 n0 c0 vs0 gs0 _ (HX0.out.up B21.out) hn0 hl0).mono ?_
          rintro e w22 ⟨C22, cc22, us22, rfl, s22, l22, b22⟩
          clear q0_0 q0_1 q0_2
          have Z22 : Hid (w21.heap.size ≤ w22.heap.size) := Lib.hid (by have := b22.size; (try simp only [World.size_alloc] at this); omega)
          have B22 : Hid (Below w.heap.size w w22) := Lib.hid (btr B21.out b22)
          have bx0_22 := Lib.hid (bx0_21.out.below b22 bx0_21.out.lt)
          clear bx0_21
          have W_22 := Lib.hid (W_21.out.up b22)
          clear W_21
          have G_22 := Lib.hid (G_21.out.up b22)
          clear G_21
          have z0_22 := Lib.hid s22
          have Pz0_22 : Hid (PIn w22 z0 s0 C22 n0 us22 gs0) := Lib.hid ⟨⟨s22.rr, hn0, fun i hi => by rw [l22 i hi]; exact hl0.out i hi⟩, wz0, hss0⟩
          have Qz0 := Lib.hid l22
          clear b22 s22 l22
          have q0_0 := bx0_22.out.cell 0
          have q0_1 := bx0_22.out.cell 1
          have q0_2 := bx0_22.out.cell 2
          go_wp2_with fail
          refine (toS_any A1 c1 n1 x1 _ (HX1.out.up B22.out) lx1 (by omega)).mono ?_
          rintro e w23 ⟨C23, cc23, rfl, s23, b23⟩
          clear q0_0 q0_1 q0_2
          have Z23 : Hid (w22.heap.size ≤ w23.heap.size) := Lib.hid (by have := b23.size; (try simp only [World.size_alloc] at this); omega)
          have B23 : Hid (Below w.heap.size w w23) := Lib.hid (btr B22.out b23)
          have bx0_23 := Lib.hid (bx0_22.out.below b23 bx0_22.out.lt)
          clear bx0_22
          have W_23 := Lib.hid (W_22.out.up b23)
          clear W_22
          have G_23 := Lib.hid (G_22.out.up b23)
          clear G_22
          have z0_23 := Lib.hid (z0_22.out.up b23)
          clear z0_22
          have Pz0_23 := Lib.hid (Pz0_22.out.up b23)
          clear Pz0_22
          have z1_23 := Lib.hid s23
          have lez1 := s23.le.1
          have Lnz1 : Hid (Lies C23 n1 cc23 (w22.heap.size) w23.heap.size) := Lib.hid (fun k hk => by have := s23.lies k hk; (try simp only [World.size_alloc] at this); omega)
          clear b23 s23
          have q0_0 := bx0_23.out.cell 0
          have q0_1 := bx0_23.out.cell 1
          have q0_2 := bx0_23.out.cell 2
          go_wp2_with fail
          refine (toS_any A2 c2 n2 x2 _ (HX2.out.up B23.out) lx2 (by omega)).mono ?_
          rintro e w24 ⟨C24, cc24, rfl, s24, b24⟩
          clear q0_0 q0_1 q0_2
          have Z24 : Hid (w23.heap.size ≤ w24.heap.size) := Lib.hid (by have := b24.size; (try simp only [World.size_alloc] at this); omega)
          have B24 : Hid (Below w.heap.size w w24) := Lib.hid (btr B23.out b24)
          have bx0_24 := Lib.hid (bx0_23.out.below b24 bx0_23.out.lt)
          clear bx0_23
          have W_24 := Lib.hid (W_23.out.up b24)
          clear W_23
          have G_24 := Lib.hid (G_23.out.up b24)
          clear G_23
          have z0_24 := Lib.hid (z0_23.out.up b24)
          clear z0_23
          have Pz0_24 := Lib.hid (Pz0_23.out.up b24)
          clear Pz0_23
          have z1_24 := Lib.hid (z1_23.out.up b24)
          clear z1_23
          have z2_24 := Lib.hid s24
          have lez2 := s24.le.1
          have Lnz2 : Hid (Lies C24 n2 cc24 (w23.heap.size) w24.heap.size) := Lib.hid (fun k hk => by have := s24.lies k hk; (try simp only [World.size_alloc] at this); omega)
          clear b24 s24
          have q0_0 := bx0_24.out.cell 0
          have q0_1 := bx0_24.out.cell 1
          have q0_2 := bx0_24.out.cell 2
          go_wp2_with fail
          refine (IM z0 s0 C22 n0 cc22 us22 gs0 C23 n1 cc23 x1 C24 n2 cc24 x2 _ Pz0_24.out ⟨z1_24.out.ri_, lx1.out, hn1, lez1⟩ ⟨z2_24.out.ri_, lx2.out, hn2, lez2⟩ vi2).mono ?_
          rintro e w25 ⟨C25, m25, cc25, rfl, s25, hm25, b25⟩
          clear q0_0 q0_1 q0_2
          have Z25 : Hid (w24.heap.size ≤ w25.heap.size) := Lib.hid (by have := b25.size; (try simp only [World.size_alloc] at this); omega)
          have B25 : Hid (Below w.heap.size w w25) := Lib.hid (btr B24.out b25)
          have bx0_25 := Lib.hid (bx0_24.out.below b25 bx0_24.out.lt)
          clear bx0_24
          have W_25 := Lib.hid (W_24.out.up b25)
          clear W_24
          have G_25 := Lib.hid (G_24.out.up b25)
          clear G_24
          have z0_25 := Lib.hid (z0_24.out.up b25)
          clear z0_24
          have Pz0_25 := Lib.hid (Pz0_24.out.up b25)
          clear Pz0_24
          have z1_25 := Lib.hid (z1_24.out.up b25)
          clear z1_24
          have z2_25 := Lib.hid (z2_24.out.up b25)
          clear z2_24
          have H_25 := Lib.hid s25
          have LnH : Hid (Lies C25 m25 cc25 (w24.heap.size) w25.heap.size) := Lib.hid (fun k hk => by have := s25.lies k hk; (try simp only [World.size_alloc] at this); omega)
          clear b25 s25
          clear z0_25
          clear Pz0_25
          clear z1_25
          clear z2_25
          have q0_0 := bx0_25.out.cell 0
          have q0_1 := bx0_25.out.cell 1
          have q0_2 := bx0_25.out.cell 2
          go_wp2_with fail
          refine (eqS_same _ _ C25 C5 m25 cc25 m5 cc5 _ H_25.out W_25.out (by omega)).mono ?_
          rintro e w26 ⟨rfl, b26⟩
          clear q0_0 q0_1 q0_2
          have Z26 : Hid (w25.heap.size ≤ w26.heap.size) := Lib.hid (by have := b26.size; (try simp only [World.size_alloc] at this); omega)
          have B26 : Hid (Below w.heap.size w w26) := Lib.hid (btr B25.out b26)
          have bx0_26 := Lib.hid (bx0_25.out.below b26 bx0_25.out.lt)
          clear bx0_25
          have W_26 := Lib.hid (W_25.out.up b26)
          clear W_25
          have G_26 := Lib.hid (G_25.out.up b26)
          clear G_25
          have H_26 := Lib.hid (H_25.out.up b26)
          clear H_25
          clear b26
          clear H_26
          have q0_0 := bx0_26.out.cell 0
          have q0_1 := bx0_26.out.cell 1
          have q0_2 := bx0_26.out.cell 2
          go_wp2_with fail
          refine (held1 _ C9 m9 cc9 w26 G_26.out (by omega)).mono ?_
          rintro e w' ⟨rfl, rfl⟩
          clear q0_0 q0_1 q0_2
          have q0_0 := bx0_26.out.cell 0
          have q0_1 := bx0_26.out.cell 1
          have q0_2 := bx0_26.out.cell 2
          go_wp2_with fail
          go_ret
          exact ⟨rfl, B26.out⟩
      · skip
        obtain rfl : r0 = -1 := by rw [hr0, if_neg hT0]
        clear hr0 hT0
        go_enter Try.func7, Try.ntmps7
        have q0_0 := bx0_0.out.cell 0
        have q0_1 := bx0_0.out.cell 1
        have q0_2 := bx0_0.out.cell 2
        go_wp2_with fail
        refine (szPz z0 s0 A0 n0 c0 1048576 vs0 gs0 _ (HX0.out.up B0_0.out) hs0 hm0 hk0 (by decide) (by decide) (-1) Hr0).mono ?_
        rintro e w1 ⟨rfl, b1⟩
        clear q0_0 q0_1 q0_2
        have Z1 : Hid (w.heap.size + 1 ≤ w1.heap.size) := Lib.hid (by have := b1.size; (try simp only [World.size_alloc] at this); omega)
        have B1 : Hid (Below w.heap.size w w1) := Lib.hid (btr B0_0.out b1)
        have bx0_1 := Lib.hid (bx0_0.out.below b1 bx0_0.out.lt)
        clear bx0_0
        clear b1
        have q0_0 := bx0_1.out.cell 0
        have q0_1 := bx0_1.out.cell 1
        have q0_2 := bx0_1.out.cell 2
        go_wp2_with fail
        go_ret
        exact ⟨rfl, B1.out⟩
    · skip
      have dn2 : decide ((1048576 : Int) < (n2 : Int)) = true := by simp; omega
      go_enter Try.func7, Try.ntmps7
      have q0_0 := bx0_0.out.cell 0
      have q0_1 := bx0_0.out.cell 1
      have q0_2 := bx0_0.out.cell 2
      go_wp2_with fail
      go_ret
      exact ⟨rfl, B0_0.out⟩
  · skip
    have dn1 : decide ((1048576 : Int) < (n1 : Int)) = true := by simp; omega
    go_enter Try.func7, Try.ntmps7
    have q0_0 := bx0_0.out.cell 0
    have q0_1 := bx0_0.out.cell 1
    have q0_2 := bx0_0.out.cell 2
    go_wp2_with fail
    go_ret
    exact ⟨rfl, B0_0.out⟩
end Go.Proofs.Ytkjokchhffjidaa
