/- The program's ParseCycles. Condition: at most 2097152 bytes. -/
import Derived.Test.YtplgdbkolklgnaaDoorPCyc
import Derived.Lib.SliceRun
namespace Go.Proofs.YtplgdbkolklgnaaDoor
open Go.RowKit

theorem cycO_out {n : Int} {s : ByteArray} (h : ¬ (1 ≤ n ∧ n ≤ 20 ∧ s.size ≤ 200)) : cycO n s = none := if_neg h
theorem pcI_end {f : Nat} {q : List Int} (hf : 0 < f) : pcI f q [] = some q := by
  cases f with
  | zero => omega
  | succ f => simp [pcI]
theorem pcI_none {f : Nat} {q : List Int} {l : List UInt8} (hl : l ≠ []) (h : cycP l = none) : pcI f q l = none := by
  cases f with
  | zero => rfl
  | succ f => rw [pcI, if_neg hl, h]
theorem pcI_step {f : Nat} {q : List Int} {l r : List UInt8} {xs : List Nat} (hl : l ≠ []) (h : cycP l = some (xs, r)) : pcI (f + 1) q l = if allLt q.length xs = true then pcI f (setAll q xs) r else none := by
  rw [pcI, if_neg hl, h]
theorem chk_yes {l : List UInt8} {q : List Int} (h : fmtCyc q = l) : chk l (some q) = some q := by unfold chk; simp [h]
theorem chk_no {l : List UInt8} {q : List Int} (h : fmtCyc q ≠ l) : chk l (some q) = none := by unfold chk; simp [h]

set_option maxHeartbeats 2000000 in
theorem implPC_core (n : Nat) (s : ByteArray) (w : World) (h1 : 1 ≤ n) (h2 : n ≤ 20) (h3 : s.size ≤ 200) (O : Option (List Int)) (hO : Hid (O = chk s.toList (pcI (s.size + 1) (idL n) s.toList))) :
    Calls Tryd.prog 13 #[.int .i64 (n : Int), .string s] w fun e w' => ∃ A m c, e = .returned (.tuple #[.slice A m c, .bool O.isSome]) ∧ Slc w' w.heap.size A m c (O.getD []) ∧ m ≤ 20 ∧ Below w.heap.size w w' := by
  have d3 : decide ((200 : Int) < s.size) = false := by simp; omega
  obtain ⟨RR, hRR⟩ : ∃ RR, pcI (s.size + 1) (idL n) s.toList = RR := ⟨_, rfl⟩
  rw [hRR] at hO
  have HR := Lib.hid hRR
  clear hRR
  have q24 : ∀ (w : World) (a : Option Addr) (n c n' c' : Nat), (binOp .eql 24 (.slice a n c) (.slice none n' c')).run Tryd.prog w = .ok (.bool a.isNone) w := fun w a n c n' c' => Lib.run_eql_slice_nil w _ _ a n c n' c' Tryd.underlying24
  go_enter Tryd.func13, Tryd.ntmps13
  go_wp2_with fail
  refine (implId_core n w h1 h2).mono ?_
  rintro e w1 ⟨A1, c1, rfl, s1, b1⟩
  obtain ⟨gp, rfl, hg1, hg2⟩ : ∃ gp, A1 = some ⟨gp, 0, none⟩ ∧ w.heap.size ≤ gp ∧ gp < w1.heap.size := by
    rcases s1.at_ with ⟨_, _, e0, _⟩ | ⟨gp, e0, e1, e2⟩
    · omega
    · exact ⟨gp, e0, e1, e2⟩
  have lid : (idL n).length = n := idL_length n
  have Q1 : Hid (Row w1 w.heap.size gp n c1 (idL n)) := Lib.hid (Row.of_own (by have := s1.2; rw [← s1.1] at this; rw [s1.1] at this; exact this))
  have B1 := Lib.hid b1
  have C1 : Hid (Cur (w1.alloc (.cells #[.string s, .int .i64 0] 54)) w1.heap.size s 0) := Lib.hid ⟨Nat.zero_le _, Blk.new w1 _ _⟩
  have Q1' : Hid (Row (w1.alloc (.cells #[.string s, .int .i64 0] 54)) w.heap.size gp n c1 (idL n)) := Lib.hid (Q1.out.alloc _)
  have B1' : Hid (Below w.heap.size w (w1.alloc (.cells #[.string s, .int .i64 0] 54))) := Lib.hid (B1.out.alloc b1.size _)
  clear s1 b1
  go_wp2_with fail
  go_loopg [8, 9] s.size (fun gg _ _ wr => ∃ j q f, (rest s j).length ≤ gg ∧ Cur wr w1.heap.size s j ∧ Row wr w.heap.size gp n c1 q ∧ (rest s j).length < f ∧ pcI f q (rest s j) = RR ∧ w1.heap.size < wr.heap.size ∧ Below w.heap.size w wr)
  case atStart => exact ⟨0, idL n, s.size + 1, by rw [rest_len]; omega, C1.out, Q1'.out, by rw [rest_len]; omega, HR.out, by simp, B1'.out⟩
  case round =>
    obtain ⟨j, q, f, hgg, cur, row, hf, hpc, zr, bel⟩ := hrel
    have Cu := Lib.hid cur
    have Rw := Lib.hid row
    have Pc := Lib.hid hpc
    have Bel := Lib.hid bel
    have lq := row.1
    have hjs := cur.1
    have hlen := rest_len s j
    clear cur row hpc bel
    by_cases hend : j = s.size
    · have E1 : Hid (decide (j = s.size) = true) := Lib.hid (by simpa using hend)
      have Rq : Hid (RR = some q) := Lib.hid (by rw [← Pc.out, rest_end s (by omega), pcI_end (by omega)])
      clear hend
      go_wp2_with fail
      refine (curEnd w1.heap.size j s wr Cu.out true E1).mono ?_
      rintro e w2 ⟨rfl, m2, rfl⟩
      have Rw2 : Hid (Row (wr.drewN m2) w.heap.size gp n c1 q) := Lib.hid (Rw.out.drewN _)
      have Bel2 : Hid (Below w.heap.size w (wr.drewN m2)) := Lib.hid (below_drewN Bel.out _)
      generalize wr.drewN m2 = w2 at Rw2 Bel2 ⊢
      go_wp2_with fail
      refine (implFormatCycles (some ⟨gp, 0, none⟩) c1 n q w2 Rw2.out.slc.ri_ Rw2.out.slc.hid (by omega)).mono ?_
      rintro e w3 ⟨t, rfl, ht, b3⟩
      have Bel3 : Hid (Below w.heap.size w w3) := Lib.hid (btr Bel2.out b3)
      have S3 := Lib.hid (Rw2.out.slc.up b3)
      clear b3
      by_cases he : fmtCyc q = s.toList
      · have O1 : Hid (O = some q) := Lib.hid (by rw [hO.out, Rq.out, chk_yes he])
        have te : (t.toList == s.toList) = true := by rw [ht, he]; simp
        clear ht he
        go_wp2_with fail
        go_ret2
        exact ⟨_, _, _, by rw [O1.out]; rfl, by rw [O1.out]; exact S3.out, h2, Bel3.out⟩
      · have O1 : Hid (O = none) := Lib.hid (by rw [hO.out, Rq.out, chk_no he])
        have te : (t.toList == s.toList) = false := by rw [ht]; simpa using he
        clear ht he
        go_wp2_with fail
        go_ret2
        exact ⟨_, _, _, by rw [O1.out]; rfl, by rw [O1.out]; exact Slc.nil_, Nat.zero_le _, Bel3.out⟩
    · have E1 : Hid (decide (j = s.size) = false) := Lib.hid (by simpa using hend)
      have hlt : j < s.size := by omega
      have hne : rest s j ≠ [] := by intro e; rw [e] at hlen; simp at hlen; omega
      have Ne := Lib.hid hne
      obtain ⟨N, hN⟩ : ∃ N, cycP (rest s j) = N := ⟨_, rfl⟩
      have HN : Hid (N = cycP (rest s j)) := Lib.hid hN.symm
      clear hend hne hN
      go_wp2_with fail
      refine (curEnd w1.heap.size j s wr Cu.out false E1).mono ?_
      rintro e w2 ⟨rfl, m2, rfl⟩
      have Rw2 : Hid (Row (wr.drewN m2) w.heap.size gp n c1 q) := Lib.hid (Rw.out.drewN _)
      have Cu2 : Hid (Cur (wr.drewN m2) w1.heap.size s j) := Lib.hid (Cu.out.drewN _)
      have Bel2 : Hid (Below w.heap.size w (wr.drewN m2)) := Lib.hid (below_drewN Bel.out _)
      have z2 : w1.heap.size < (wr.drewN m2).heap.size := zr
      generalize wr.drewN m2 = w2 at Rw2 Cu2 Bel2 z2 ⊢
      go_wp2_with fail
      refine (curCycle w1.heap.size j s w2 Cu2.out (by omega) N HN).mono ?_
      rintro e w3 ⟨g3, ⟨rfl, A3, n3, c3, rfl⟩ | ⟨xs, r, A3, n3, c3, j3, rfl, rfl, s3, cu3, hr3, hn3⟩⟩
      · have O1 : Hid (O = none) := Lib.hid (by rw [hO.out, ← Pc.out, pcI_none Ne.out HN.out.symm]; rfl)
        have Bel3 : Hid (Below w.heap.size w w3) := Lib.hid (Bel2.out.grown g3 Bel2.out.size (fun k e => by injection e with e; omega))
        clear g3
        go_wp2_with fail
        go_ret2
        exact ⟨_, _, _, by rw [O1.out]; rfl, by rw [O1.out]; exact Slc.nil_, Nat.zero_le _, Bel3.out⟩
      · have Bel3 : Hid (Below w.heap.size w w3) := Lib.hid (Bel2.out.grown g3 Bel2.out.size (fun k e => by injection e with e; omega))
        have Rw3 : Hid (Row w3 w.heap.size gp n c1 q) := Lib.hid (Rw2.out.kept g3 (fun e => by injection e with e; omega))
        have z3 := g3.size
        have Cu3 := Lib.hid cu3
        have S3 := Lib.hid s3
        have hlr : r.length < (rest s j).length := cycP_len HN.out.symm
        have Hr3 := Lib.hid hr3
        have lxs : Hid (xs.length = n3) := Lib.hid (by have := s3.1; rw [ofN_len] at this; exact this)
        have far : Hid (∀ b off, A3 = some ⟨b, off, none⟩ → 0 < n3 → b ≠ gp) := Lib.hid fun b off e _ => by
          rcases S3.out.at_ with ⟨e0, _⟩ | ⟨q3, e0, e1, e2⟩
          · rw [e0] at e; cases e
          · rw [e0] at e; injection e with e; injection e with e; omega
        obtain ⟨f, rfl⟩ : ∃ f', f = f' + 1 := ⟨f - 1, by omega⟩
        have Pc2 : Hid (RR = if allLt n xs = true then pcI f (setAll q xs) r else none) := Lib.hid (by rw [← Pc.out, pcI_step Ne.out HN.out.symm, lq])
        clear g3 cu3 s3 hr3
        go_wp2_with fail
        refine (implSet gp n c1 w.heap.size q A3 n3 c3 xs w3 Rw3.out S3.out.ri_ far.out lxs h2 (by omega)).mono ?_
        rintro e w4 ⟨he4, hrow, g4⟩
        have Bel4 : Hid (Below w.heap.size w w4) := Lib.hid (Bel3.out.grown g4 Bel3.out.size (fun k e => by injection e with e; omega))
        have Cu4 : Hid (Cur w4 w1.heap.size s j3) := Lib.hid (Cu3.out.kept g4 (fun e => by injection e with e; omega))
        have z4 := g4.size
        rcases ha : allLt n xs with _ | _
        · have O1 : Hid (O = none) := Lib.hid (by rw [hO.out, Pc2.out, ha]; rfl)
          rw [ha] at he4
          subst he4
          clear hrow g4
          go_wp2_with fail
          go_ret2
          exact ⟨_, _, _, by rw [O1.out]; rfl, by rw [O1.out]; exact Slc.nil_, Nat.zero_le _, Bel4.out⟩
        · have Rw4 := Lib.hid (hrow ha)
          have Pc3 : Hid (pcI f (setAll q xs) (rest s j3) = RR) := Lib.hid (by rw [Pc2.out, ha, if_pos rfl, Hr3.out])
          rw [ha] at he4
          subst he4
          clear hrow g4
          go_wp2_with fail
          go_roundg (rest s j3).length
          case rel => exact ⟨j3, setAll q xs, f, Nat.le_refl _, Cu4.out, Rw4.out, by rw [Hr3.out]; omega, Pc3.out, by omega, Bel4.out⟩
          case measure => rw [Hr3.out]; omega

/-- The program's ParseCycles. -/
theorem implParseCycles0 (n : Int) (s : ByteArray) (w : World) (_hs : s.size ≤ 2097152) :
    Calls Tryd.prog 13 #[.int .i64 n, .string s] w fun e w' => ∃ A m c, e = .returned (.tuple #[.slice A m c, .bool (cycO n s).isSome]) ∧ Slc w' w.heap.size A m c ((cycO n s).getD []) ∧ m ≤ 20 ∧ Below w.heap.size w w' := by
  by_cases hr : 1 ≤ n ∧ n ≤ 20
  · obtain ⟨m, rfl⟩ := Int.eq_ofNat_of_zero_le (show 0 ≤ n by omega)
    by_cases h3 : s.size ≤ 200
    · exact implPC_core m s w (by omega) (by omega) h3 (cycO (m : Int) s) (Lib.hid (if_pos ⟨hr.1, hr.2, h3⟩))
    · have d3 : decide ((200 : Int) < s.size) = true := by simp; omega
      have Fin : Hid (cycO (m : Int) s = none) := Lib.hid (cycO_out fun h => h3 h.2.2)
      have q24 : ∀ (w : World) (a : Option Addr) (n c n' c' : Nat), (binOp .eql 24 (.slice a n c) (.slice none n' c')).run Tryd.prog w = .ok (.bool a.isNone) w := fun w a n c n' c' => Lib.run_eql_slice_nil w _ _ a n c n' c' Tryd.underlying24
      go_enter Tryd.func13, Tryd.ntmps13
      go_wp2_with fail
      refine (implId_core m w (by omega) (by omega)).mono ?_
      rintro e w1 ⟨A1, c1, rfl, s1, b1⟩
      obtain ⟨gp, rfl⟩ : ∃ gp, A1 = some ⟨gp, 0, none⟩ := by
        rcases s1.at_ with ⟨_, _, e0, _⟩ | ⟨gp, e0, e1, e2⟩
        · omega
        · exact ⟨gp, e0⟩
      have B1 := Lib.hid b1
      clear s1 b1
      go_wp2_with fail
      go_ret2
      exact ⟨_, _, _, by rw [Fin.out]; rfl, by rw [Fin.out]; exact Slc.nil_, Nat.zero_le _, B1.out⟩
  · have Fin : Hid (cycO n s = none) := Lib.hid (cycO_out fun h => hr ⟨h.1, h.2.1⟩)
    have q24 : ∀ (w : World) (a : Option Addr) (n c n' c' : Nat), (binOp .eql 24 (.slice a n c) (.slice none n' c')).run Tryd.prog w = .ok (.bool a.isNone) w := fun w a n c n' c' => Lib.run_eql_slice_nil w _ _ a n c n' c' Tryd.underlying24
    go_enter Tryd.func13, Tryd.ntmps13
    go_wp2_with fail
    refine (idOut n w (by omega)).mono ?_
    rintro e w1 ⟨rfl, rfl⟩
    go_wp2_with fail
    go_ret2
    exact ⟨_, _, _, by rw [Fin.out]; rfl, by rw [Fin.out]; exact Slc.nil_, Nat.zero_le _, Below.refl _ _⟩
theorem implParseCycles (n : Int) (s : ByteArray) (w : World) (_hs : s.size ≤ 2097152) (_hn : -9223372036854775808 ≤ n ∧ n ≤ 9223372036854775807) :
    Calls Tryd.prog 13 #[.int .i64 n, .string s] w fun e w' => ∃ A m c, e = .returned (.tuple #[.slice A m c, .bool (cycO n s).isSome]) ∧ Slc w' w.heap.size A m c ((cycO n s).getD []) ∧ m ≤ 20 ∧ Below w.heap.size w w' := implParseCycles0 n s w _hs
end Go.Proofs.YtplgdbkolklgnaaDoor
