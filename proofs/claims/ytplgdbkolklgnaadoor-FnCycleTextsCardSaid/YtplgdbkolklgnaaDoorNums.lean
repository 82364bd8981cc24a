/- The program's reading of numbers, and of image lists. Condition: at most 1000 bytes. -/
import Derived.Test.YtplgdbkolklgnaaDoorCur
import Derived.Test.YtplgdbkolklgnaaDoorPerm
namespace Go.Proofs.YtplgdbkolklgnaaDoor
open Go.RowKit

theorem grown_below {w w1 w' : World} {row : Option Nat} (h : w.grownBy w1 row) (b : Below w1.heap.size w1 w') : w.grownBy w' row :=
  ⟨b.os.trans h.os, b.tape.trans h.tape, b.output.trans h.output, Nat.le_trans h.size b.size, fun i hi hne => (b.block i (Nat.lt_of_lt_of_le hi h.size)).trans (h.block i hi hne)⟩
theorem grown_past {w w1 w' : World} {row r2 : Option Nat} (h : w.grownBy w1 row) (b : w1.grownBy w' r2) (hr : ∀ k, r2 = some k → w.heap.size ≤ k) : w.grownBy w' row :=
  ⟨b.os.trans h.os, b.tape.trans h.tape, b.output.trans h.output, Nat.le_trans h.size b.size, fun i hi hne => (b.block i (Nat.lt_of_lt_of_le hi h.size) (fun e => by have := hr i e.symm; omega)).trans (h.block i hi hne)⟩
theorem grown_alloc {w w1 : World} {row : Option Nat} (h : w.grownBy w1 row) (o : Obj) : w.grownBy (w1.alloc o) row :=
  ⟨h.os, h.tape, h.output, by simp; have := h.size; omega, fun i hi hne => (Below.heap_alloc w1 o i (Nat.lt_of_lt_of_le hi h.size)).trans (h.block i hi hne)⟩
def ofN (xs : List Nat) : List Int := xs.map Int.ofNat
theorem ofN_snoc (xs : List Nat) (x : Nat) : ofN (xs ++ [x]) = ofN xs ++ [(x : Int)] := by simp [ofN]
theorem ofN_len (xs : List Nat) : (ofN xs).length = xs.length := by simp [ofN]

theorem numsP_step_none {l : List UInt8} {acc : List Nat} {R : Option (List Nat × List UInt8)} (h : R = (numsP l).map fun y => (acc ++ y.1, y.2)) (hp : pD (l.takeWhile isD) = none) : R = none := by rw [h, numsP_none hp]; rfl
theorem numsP_step_last {l : List UInt8} {acc : List Nat} {x : Nat} {R : Option (List Nat × List UInt8)} (h : R = (numsP l).map fun y => (acc ++ y.1, y.2)) (hp : pD (l.takeWhile isD) = some x) (h2 : (l.dropWhile isD).head? ≠ some 32) :
    R = some (acc ++ [x], l.dropWhile isD) := by rw [h, numsP_last hp h2]; rfl
theorem numsP_step_more {l r : List UInt8} {acc : List Nat} {x : Nat} {R : Option (List Nat × List UInt8)} (h : R = (numsP l).map fun y => (acc ++ y.1, y.2)) (hp : pD (l.takeWhile isD) = some x) (h2 : l.dropWhile isD = 32 :: r) :
    R = (numsP r).map fun y => ((acc ++ [x]) ++ y.1, y.2) := by
  rw [h, numsP_more hp (by rw [h2]; rfl), h2, Option.map_map]
  congr 1; funext y; simp

set_option maxHeartbeats 1000000 in
/-- numbers. -/
theorem curNumbers (g k : Nat) (s : ByteArray) (w : World) (h : Cur w g s k) (hs : s.size ≤ 1000) (R : Option (List Nat × List UInt8)) (hR : Hid (R = numsP (rest s k))) :
    Calls Tryd.prog 37 #[.pointer (some ⟨g, 0, none⟩)] w fun e w' => w.grownBy w' (some g) ∧
      ((R = none ∧ e = .returned (.tuple #[.slice none 0 0, .bool false]) ∧ ∃ k', Cur w' g s k') ∨ ∃ xs r A n c k', R = some (xs, r) ∧ e = .returned (.tuple #[.slice A n c, .bool true]) ∧ Slc w' w.heap.size A n c (ofN xs) ∧ Cur w' g s k' ∧ rest s k' = r ∧ k ≤ k' ∧ n ≤ 1001) := by
  have H := Lib.hid h
  have gw := h.lt
  clear h
  go_enter Tryd.func37, Tryd.ntmps37
  go_wp2
  go_loopg [4, 5, 6] s.size (fun gg v _ _ wr => ∃ j acc A n c, k ≤ j ∧ s.size - j ≤ gg ∧ v = .slice A n c ∧ n ≤ j ∧ Cur wr g s j ∧ Slc wr w.heap.size A n c (ofN acc) ∧ R = ((numsP (rest s j)).map fun y => (acc ++ y.1, y.2)) ∧ w.grownBy wr (some g))
  case atStart => exact ⟨k, [], _, _, _, Nat.le_refl _, by omega, rfl, Nat.zero_le _, H.out, Slc.nil_, by rw [hR.out]; cases numsP (rest s k) <;> rfl, grown_refl _ _⟩
  case round =>
    obtain ⟨j, acc, A, n, c, hkj, hg, rfl, hnj, cur, sl, hr, gro⟩ := hrel
    have Cu := Lib.hid cur
    have Sl := Lib.hid sl
    have Hr := Lib.hid hr
    have Gr := Lib.hid gro
    have hjs := cur.1
    clear cur sl hr gro
    rcases hp : pD ((rest s j).takeWhile isD) with _ | x
    · have Hp := Lib.hid hp
      have Rn : Hid (R = none) := Lib.hid (numsP_step_none Hr.out hp)
      clear hp
      go_wp2_with fail
      refine (curNumber g j s wr Cu.out hs none Hp).mono ?_
      rintro e w2 ⟨rfl, j2, w1, cu1, hj2, hrest, g1, b1⟩
      have G2 := Lib.hid (grown_below (grown_past Gr.out (r2 := none) (grown_refl _ _) (fun k e => nomatch e)) (Below.refl _ wr))
      have G3 : Hid (w.grownBy w2 (some g)) := Lib.hid (by
        have h1 := grown_below g1 b1
        exact ⟨h1.os.trans Gr.out.os, h1.tape.trans Gr.out.tape, h1.output.trans Gr.out.output, Nat.le_trans Gr.out.size h1.size, fun i hi hne => (h1.block i (Nat.lt_of_lt_of_le hi Gr.out.size) hne).trans (Gr.out.block i hi hne)⟩)
      have C2 := Lib.hid (cu1.below b1 cu1.lt)
      clear g1 b1 cu1 hrest
      go_wp2_with fail
      go_ret2
      exact ⟨G3.out, .inl ⟨Rn.out, rfl, _, C2.out⟩⟩
    · have Hp := Lib.hid hp
      clear hp
      go_wp2_with fail
      refine (curNumber g j s wr Cu.out hs (some x) Hp).mono ?_
      rintro e w2 ⟨rfl, j2, w1, cu1, hj2, hrest, g1, b1⟩
      have G3 : Hid (w.grownBy w2 (some g)) := Lib.hid (by
        have h1 := grown_below g1 b1
        exact ⟨h1.os.trans Gr.out.os, h1.tape.trans Gr.out.tape, h1.output.trans Gr.out.output, Nat.le_trans Gr.out.size h1.size, fun i hi hne => (h1.block i (Nat.lt_of_lt_of_le hi Gr.out.size) hne).trans (Gr.out.block i hi hne)⟩)
      have C2 := Lib.hid (cu1.below b1 cu1.lt)
      have S2 : Hid (Slc w2 w.heap.size A n c (ofN acc)) := Lib.hid (Sl.out.kept (grown_below g1 b1) (by
        rcases e : (Value.slice A n c).ownBlock with _ | q
        · exact .inl rfl
        · right; intro e2; have h1 := (Sl.out.lt_ q e).1; injection e2 with e2; omega))
      have Hrest := Lib.hid hrest
      have hj2s := cu1.1
      have Z2 := G3.out.size
      have CA : Hid (∀ o, Cur (w2.alloc o) g s j2) := Lib.hid fun o => ⟨cu1.1, (cu1.below b1 cu1.lt).2.alloc o⟩
      clear g1 b1 cu1 hrest
      go_wp2_with (first | (at_builtin; refine wpList_app1 rfl _ _ rfl w.heap.size A n c _ rfl (S2.out.alloc _) w2.heap.size (x : Int) rfl (by rw [World.cell?_alloc_at _ _ _ _ rfl]; rfl) (by omega) (by simp; omega) ?_; intro A3 c3 w3 s3 g3))
      have S3 : Hid (Slc w3 w.heap.size A3 (n + 1) c3 (ofN (acc ++ [x]))) := Lib.hid (by rw [ofN_snoc]; exact s3)
      have own : ∀ q, (Value.slice A n c).ownBlock = some q → w.heap.size ≤ q := fun q e => (S2.out.lt_ q e).1
      have C3 : Hid (Cur w3 g s j2) := Lib.hid ((CA.out _).kept g3 (fun e => by have := own g e.symm; omega))
      have G4 : Hid (w.grownBy w3 (some g)) := Lib.hid (grown_past (grown_alloc G3.out _) g3 own)
      clear s3 g3 own
      go_wp2_with fail
      by_cases hsp : ∃ hj : j2 < s.size, s[j2] = 32
      · obtain ⟨hj3, hb⟩ := hsp
        have Hr2 : Hid (R = (numsP (rest s (j2 + 1))).map fun y => ((acc ++ [x]) ++ y.1, y.2)) := Lib.hid (numsP_step_more Hr.out Hp.out (by rw [← Hrest.out, rest_cons s hj3, hb]))
        refine (curTake g j2 s 32 w3 C3.out hs hj3 hb).mono ?_
        rintro e w4 ⟨rfl, cu4, g4⟩
        have C4 := Lib.hid cu4
        have S4 : Hid (Slc w4 w.heap.size A3 (n + 1) c3 (ofN (acc ++ [x]))) := Lib.hid (S3.out.kept g4 (by
          rcases e : (Value.slice A3 (n + 1) c3).ownBlock with _ | q
          · exact .inl rfl
          · right; intro e2; have h1 := (S3.out.lt_ q e).1; injection e2 with e2; omega))
        have G5 : Hid (w.grownBy w4 (some g)) := Lib.hid ⟨g4.os.trans G4.out.os, g4.tape.trans G4.out.tape, g4.output.trans G4.out.output, Nat.le_trans G4.out.size g4.size, fun i hi hne => (g4.block i (Nat.lt_of_lt_of_le hi G4.out.size) hne).trans (G4.out.block i hi hne)⟩
        clear cu4 g4 hb
        go_wp2_with fail
        go_roundg (s.size - (j2 + 1))
        case rel => exact ⟨j2 + 1, acc ++ [x], A3, n + 1, c3, by omega, Nat.le_refl _, rfl, by omega, C4.out, S4.out, Hr2.out, G5.out⟩
        case measure => omega
      · have Rl : Hid (R = some (acc ++ [x], rest s j2)) := Lib.hid (by
          rw [numsP_step_last Hr.out Hp.out (by rw [← Hrest.out, Ne, rest_head s j2 32 hj2s]; exact hsp), Hrest.out])
        refine (curNot g j2 s 32 w3 C3.out (fun hk e => hsp ⟨hk, e⟩)).mono ?_
        rintro e w4 ⟨rfl, m4, rfl⟩
        clear hsp
        go_wp2_with fail
        go_ret2
        exact ⟨grown_drewN G4.out _, .inr ⟨_, _, A3, n + 1, c3, j2, Rl.out, rfl, S3.out.drewN _, C3.out.drewN _, rfl, by omega, by omega⟩⟩
end Go.Proofs.YtplgdbkolklgnaaDoor
