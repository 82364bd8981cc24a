/- Part 8 of the texts: PzM, FmtS, Nums, Split, Shelf, Fmt, FmtI, Cyc, All, Cycles, FmtC, PM, PCyc, PCyI, Img, PCyS, PCyP, KnM. No condition of its own: each text tells its own. -/
import Derived.Test.YtkjokchhffjidaaMg5
import Derived.Test.YtkjokchhffjidaaMg4
import Derived.Test.YtkjokchhffjidaaMg1
import Derived.Test.YtkjokchhffjidaaMg6
import Derived.WalkSpells
import Derived.Laws.BytesArg
import Derived.Deep.LoopGhost
import Derived.Shelf.Lays
import Derived.Test.YtkjokchhffjidaaProg
import Derived.Lib.SliceRun
import Derived.RegionTactic
set_option linter.unusedVariables false
set_option linter.unusedSimpArgs false

/- A word and its inverse on a state of a puzzle; what the named laws of chapter 9 hold. No condition. -/
namespace Go.Proofs.Ytkjokchhffjidaa
open Go.RowKit

theorem SIn.of_slc {w : World} {base n c : Nat} {A : Option Addr} {xs : List Int} (h : Slc w base A n c xs) (hn : n ≤ 1048576) : SIn w A n c xs := ⟨h.ri_, h.1, hn, h.le.1⟩
theorem VI.of_iv (w : List Int) : VI (invF w) := by
  unfold Go.Proofs.Ytkjokchhffjidaa.invF
  split
  · rename_i h
    exact fun x hx => by have := (vW_iff.1 (vW_iv h)).2 x hx; omega
  · exact VI.nil_
section
variable {N : Nat} {gs : List (List Int)}
theorem ltM_mb (ok : ∀ g ∈ gs, Pn N g) (h1 : 1 ≤ N) (h2 : N ≤ 20) {l : Int} (h : LtG gs l) : Mb gs N (ltM gs l) := by
  have h' := h
  obtain ⟨a, b, c⟩ := h'
  unfold ltM
  split
  · have hm : gs.getD (-l - 1).toNat [] ∈ gs := getD_memG (by omega)
    exact (Mb.of (ok _ hm) hm).inv ok h1 h2
  · have hm : gs.getD (l - 1).toNat [] ∈ gs := getD_memG (by omega)
    exact Mb.of (ok _ hm) hm
theorem fold_mb (ok : ∀ g ∈ gs, Pn N g) (h1 : 1 ≤ N) (h2 : N ≤ 20) : ∀ (w : List Int) (p : List Int), (∀ l ∈ w, LtG gs l) → Mb gs N p → Mb gs N (w.foldl (fun p l => compL p (ltM gs l)) p)
  | [], _, _, h => h
  | l :: w, p, hw, h => fold_mb ok h1 h2 w _ (fun x hx => hw x (by simp [hx])) (h.comp ok h1 h2 (ltM_mb ok h1 h2 (hw l (by simp))))
theorem evW_mb (ok : ∀ g ∈ gs, Pn N g) (h1 : 1 ≤ N) (h2 : N ≤ 20) {w : List Int} (hw : ∀ l ∈ w, LtG gs l) : Mb gs N (evW N gs w) := fold_mb ok h1 h2 w _ hw Mb.one
end
/-- A word that applies: its inverse leads back; what it leads to is a member where the state is. -/
theorem ps_back {z : Int} {s : ByteArray} {gs : List (List Int)} {q wd : List Int} (h : apB z s gs q wd = true) :
    stB z s gs q = true ∧ stB z s gs (apF z s gs q wd) = true ∧ apB z s gs (apF z s gs q wd) (invF wd) = true ∧ apF z s gs (apF z s gs q wd) (invF wd) = q ∧ (Memb z gs (apF z s gs q wd) ↔ Memb z gs q) ∧ identL z = idL z.toNat := by
  have h' := h
  unfold apB at h'
  rw [Bool.and_eq_true] at h'
  obtain ⟨hs, hv⟩ := h'
  obtain ⟨hp, hl, hq⟩ := stB_iff.1 hs
  obtain ⟨N, rfl, h1, h2, h8, ok, hg⟩ := pz_deg hp
  have Q : Pn N q := ⟨hq, by omega⟩
  have hw := vW_ltg hv
  have E : Pn N (evW N gs wd) := evW_pn ok h1 h2 hw
  have e0 : apF N s gs q wd = compL q (evW N gs wd) := by unfold apF; rw [if_pos h, Int.toNat_natCast]
  have v8 : vW 8 wd = true := vW_mono hv (by omega)
  have ei : invF wd = ivW wd := by unfold invF; rw [if_pos v8]
  have vi : vW (gs.length : Int) (ivW wd) = true := vW_iv hv
  have T : Pn N (compL q (evW N gs wd)) := Q.comp E
  have st : stB N s gs (compL q (evW N gs wd)) = true := stB_iff.2 ⟨hp, by rw [T.2], T.1⟩
  have a2 : apB N s gs (compL q (evW N gs wd)) (ivW wd) = true := by unfold apB; rw [st, vi]; rfl
  have e2 : apF N s gs (compL q (evW N gs wd)) (ivW wd) = q := by
    unfold apF
    rw [if_pos a2, Int.toNat_natCast, evW_inv ok h1 h2 hw, Q.assoc E, E.ci, Q.idr]
  have M := evW_mb ok h1 h2 hw
  refine ⟨hs, by rw [e0]; exact st, by rw [e0, ei]; exact a2, by rw [e0, ei]; exact e2, ?_, by unfold identL; rw [if_pos (by omega)]⟩
  rw [e0]
  unfold Memb
  rw [Int.toNat_natCast]
  constructor
  · rintro ⟨_, _, _, m⟩
    refine ⟨hg, hl, isP_iff.2 hq, ?_⟩
    have := m.comp ok h1 h2 (M.inv ok h1 h2)
    rwa [Q.assoc E, E.ci, Q.idr] at this
  · rintro ⟨_, _, _, m⟩
    exact ⟨hg, by rw [T.2], isP_iff.2 T.1, m.comp ok h1 h2 M⟩
theorem ap_no {z : Int} {s : ByteArray} {gs : List (List Int)} {q wd : List Int} (h : apB z s gs q wd = false) : apF z s gs q wd = [] := by unfold apF; rw [h]; rfl
/-- IsReachable and IsMember at a state. -/
theorem rch_mem {z : Int} {s : ByteArray} {gs : List (List Int)} {q : List Int} {a b : Bool} (hs : stB z s gs q = true) (h : IsRch z s gs q a) (k : b = true ↔ Memb z gs q) : a = b := by
  unfold IsRch at h
  rw [Bool.eq_iff_iff, h, k]
  exact ⟨fun e => e.2, fun e => ⟨hs, e⟩⟩
/-- IsReachable at two states that are members alike. -/
theorem rch_two {z : Int} {s : ByteArray} {gs : List (List Int)} {q t : List Int} {a b : Bool} (hs : stB z s gs q = true) (ht : stB z s gs t = true) (h : IsRch z s gs q a) (k : IsRch z s gs t b) (e : Memb z gs t ↔ Memb z gs q) : b = a := by
  unfold IsRch at h k
  rw [Bool.eq_iff_iff, h, k, hs, ht, e]
theorem likeS2 {w : World} {A B : Option Addr} {n c m d : Nat} {a b : List Int} (h : SIn w A n c a) (k : SIn w B m d b) : Calls Try.prog 16 #[.slice A n c, .slice B m d] w fun e w' => e = .returned (.bool (decide (a = b))) ∧ Below w.heap.size w w' :=
  quiet_below (likeI_any A B c d n m _ _ w h.ri k.ri (Lib.hid h.lp) (Lib.hid k.lp) (by have := h.hn; omega) (by have := k.hn; omega))
theorem likeS {w : World} {A B : Option Addr} {n c m d : Nat} {a : List Int} (h : SIn w A n c a) (k : SIn w B m d a) : Calls Try.prog 16 #[.slice A n c, .slice B m d] w fun e w' => e = .returned (.bool true) ∧ Below w.heap.size w w' :=
  (likeS2 h k).mono fun e w' ⟨he, hb⟩ => ⟨he.trans (ret_bool (by simp)), hb⟩
set_option maxHeartbeats 400000 in
theorem bigF9 (A : Option Addr) (len cap : Nat) (w : World) (hl : len ≤ 4096) : Calls Try.prog 12 #[.slice A len cap] w fun e w' => e = .returned (.bool false) ∧ w = w' := by
  have d : decide ((4096 : Int) < (len : Int)) = false := by simp; omega
  go_enter Try.func12, Try.ntmps12
  go_wp2
  go_ret
  exact ⟨rfl, rfl⟩
set_option maxHeartbeats 400000 in
theorem bigT9 (A : Option Addr) (len cap : Nat) (w : World) (hl : 4096 < len) : Calls Try.prog 12 #[.slice A len cap] w fun e w' => e = .returned (.bool true) ∧ w = w' := by
  have d : decide ((4096 : Int) < (len : Int)) = true := by simp; omega
  go_enter Try.func12, Try.ntmps12
  go_wp2
  go_ret
  exact ⟨rfl, rfl⟩
end Go.Proofs.Ytkjokchhffjidaa

/- The model's texts of numbers. Condition: points below 20. -/
namespace Go.Proofs.Ytkjokchhffjidaa
open Go.RowKit

theorem len_toList0 (s : ByteArray) : s.toList.length = s.size := by rw [ByteArray.toList_eq]; exact Array.length_toList
theorem toList_app (a b : ByteArray) : (a ++ b).toList = a.toList ++ b.toList := by
  simp [ByteArray.toList_eq]

theorem byteT (w : World) (V : Int) : (convert 22 9 (.slice (some ⟨w.heap.size, 0, none⟩) 1 1)).run Try.prog (w.alloc (.cells #[.int .u8 V] 5)) = .ok (.string (strOfNums [V])) (w.alloc (.cells #[.int .u8 V] 5)) :=
  run_convert_bytes_arg _ 22 5 Try.underlying22 Try.underlying5 w.heap.size 0 1 1 [V] rfl (fun i hi => by
    obtain rfl : i = 0 := by omega
    rw [World.cell?_alloc_at _ _ _ _ rfl]; rfl) 9 Try.underlying9

theorem specFmtInt (x : Nat) (w : World) (hx : x < 20) :
    Calls Try.prog 135 #[.int .i64 (x : Int)] w fun e w' => ∃ t, e = .returned (.string t) ∧ t.toList = dig x ∧ Below w.heap.size w w' := by
  have x0 : decide ((x : Int) < 0) = false := by simp
  go_enter Try.func135, Try.ntmps135
  go_wp2
  go_loopg [0, 3, 5] 3 (fun gg nv sv _ wr => ((2 ≤ gg ∧ nv = .int .i64 (x : Int) ∧ sv = .string ⟨#[]⟩) ∨ (1 ≤ gg ∧ nv = .int .i64 ((x / 10 : Nat) : Int) ∧ ∃ t, sv = .string t ∧ t.toList = [UInt8.ofNat (48 + x % 10)]) ∨ (10 ≤ x ∧ nv = .int .i64 0 ∧ ∃ t, sv = .string t ∧ t.toList = dig x)) ∧ Below w.heap.size w wr)
  case atStart => exact ⟨.inl ⟨by omega, rfl, rfl⟩, Below.refl _ _⟩
  case round =>
    obtain ⟨⟨hg, rfl, rfl⟩ | ⟨hg, rfl, t, rfl, ht⟩ | ⟨hx10, rfl, t, rfl, ht⟩, bel⟩ := hrel
    · have Bel := Lib.hid bel
      have hcv := byteT wr
      clear bel
      have q0 : (0 : Int) ≤ (x : Int) % 10 := by omega
      have q1 : (x : Int) % 10 ≤ 9 := by omega
      have d0 : decide ((x : Int) % 10 < 0) = false := by simp; omega
      have tl : Hid ((strOfNums [48 + (x : Int) % 10] ++ (⟨#[]⟩ : ByteArray)).toList = [UInt8.ofNat (48 + x % 10)]) := Lib.hid (by
        rw [toList_app, ByteArray.toList_eq, strOfNums_data, ByteArray.toList_eq]
        have : (48 + (x : Int) % 10).toNat = 48 + x % 10 := by omega
        simp [this])
      go_wp2
      go_roundg 1
      case rel => exact ⟨.inr (.inl ⟨Nat.le_refl _, by go_num, _, rfl, tl.out⟩), Bel.out.alloc Bel.out.size _⟩
      case measure => omega
    · have Bel := Lib.hid bel
      have hcv := byteT wr
      clear bel
      have te : t.toList.isEmpty = false := by rw [ht]; rfl
      by_cases h10 : x < 10
      · have e0 : x / 10 = 0 := by omega
        have T := Lib.hid ht
        have F : Hid (dig x = [UInt8.ofNat (48 + x % 10)]) := Lib.hid (by unfold dig; rw [if_pos h10, Nat.mod_eq_of_lt h10])
        rw [e0]
        clear ht e0
        go_wp2
        go_ret
        exact ⟨t, rfl, by rw [T.out, F.out], Bel.out⟩
      · have e0 : ((x / 10 : Nat) : Int) = 1 := by omega
        have tl : Hid ((strOfNums [49] ++ t).toList = dig x) := Lib.hid (by
          rw [toList_app, ht, ByteArray.toList_eq, strOfNums_data]
          unfold dig
          rw [if_neg h10, show x / 10 = 1 from by omega]; rfl)
        have sz : (strOfNums [49] ++ t).size = 2 := by
          have := congrArg List.length tl.out
          rw [← len_toList0]
          rw [this]; unfold dig; rw [if_neg h10]; rfl
        have sz2 : ¬ 9223372036854775807 < (strOfNums [49]).size + t.size := by
          have : (strOfNums [49] ++ t).size = (strOfNums [49]).size + t.size := ByteArray.size_append
          omega
        rw [e0]
        clear ht e0 sz
        go_wp2
        go_roundg 0
        case rel => exact ⟨.inr (.inr ⟨by omega, rfl, _, rfl, tl.out⟩), Bel.out.alloc Bel.out.size _⟩
        case measure => omega
    · have Bel := Lib.hid bel
      clear bel
      have te : t.toList.isEmpty = false := by rw [ht]; unfold dig; rw [if_neg (by omega)]; rfl
      have T := Lib.hid ht
      clear ht
      go_wp2
      go_ret
      exact ⟨t, rfl, T.out, Bel.out⟩
end Go.Proofs.Ytkjokchhffjidaa

/- The program's reading of numbers, and of image lists. Condition: at most 1000 bytes. -/
namespace Go.Proofs.Ytkjokchhffjidaa
open Go.RowKit

theorem grown_below {w w1 w' : World} {row : Option Nat} (h : w.grownBy w1 row) (b : Below w1.heap.size w1 w') : w.grownBy w' row :=
  ⟨b.os.trans h.os, b.tape.trans h.tape, b.output.trans h.output, Nat.le_trans h.size b.size, fun i hi hne => (b.block i (Nat.lt_of_lt_of_le hi h.size)).trans (h.block i hi hne)⟩
theorem grown_past {w w1 w' : World} {row r2 : Option Nat} (h : w.grownBy w1 row) (b : w1.grownBy w' r2) (hr : ∀ k, r2 = some k → w.heap.size ≤ k) : w.grownBy w' row :=
  ⟨b.os.trans h.os, b.tape.trans h.tape, b.output.trans h.output, Nat.le_trans h.size b.size, fun i hi hne => (b.block i (Nat.lt_of_lt_of_le hi h.size) (fun e => by have := hr i e.symm; omega)).trans (h.block i hi hne)⟩
theorem grown_alloc {w w1 : World} {row : Option Nat} (h : w.grownBy w1 row) (o : Obj) : w.grownBy (w1.alloc o) row :=
  ⟨h.os, h.tape, h.output, by simp; have := h.size; omega, fun i hi hne => (Below.heap_alloc w1 o i (Nat.lt_of_lt_of_le hi h.size)).trans (h.block i hi hne)⟩
def ofN (xs : List Nat) : List Int := xs.map Int.ofNat
theorem ofN_snoc (xs : List Nat) (x : Nat) : ofN (xs ++ [x]) = ofN xs ++ [(x : Int)] := by simp [ofN]
theorem ofN_len (xs : List Nat) : (ofN xs).length = xs.length := by simp [ofN]

theorem numsP_step_none {l : List UInt8} {acc : List Nat} {R : Option (List Nat × List UInt8)} (h : R = (numsP l).map fun y => (acc ++ y.1, y.2)) (hp : pD (l.takeWhile isD) = none) : R = none := by rw [h, numsP_none hp]; rfl
theorem numsP_step_last {l : List UInt8} {acc : List Nat} {x : Nat} {R : Option (List Nat × List UInt8)} (h : R = (numsP l).map fun y => (acc ++ y.1, y.2)) (hp : pD (l.takeWhile isD) = some x) (h2 : (l.dropWhile isD).head? ≠ some 32) :
    R = some (acc ++ [x], l.dropWhile isD) := by rw [h, numsP_last hp h2]; rfl
theorem numsP_step_more {l r : List UInt8} {acc : List Nat} {x : Nat} {R : Option (List Nat × List UInt8)} (h : R = (numsP l).map fun y => (acc ++ y.1, y.2)) (hp : pD (l.takeWhile isD) = some x) (h2 : l.dropWhile isD = 32 :: r) :
    R = (numsP r).map fun y => ((acc ++ [x]) ++ y.1, y.2) := by
  rw [h, numsP_more hp (by rw [h2]; rfl), h2, Option.map_map]
  congr 1; funext y; simp

end Go.Proofs.Ytkjokchhffjidaa

/- The model's reading of words and numbers. Condition: at most 1000 bytes. -/
namespace Go.Proofs.Ytkjokchhffjidaa
open Go.RowKit

/-- parseInt. -/
theorem specInt (s : ByteArray) (w : World) (hs : s.size ≤ 1000) (o : Option Nat) (ho : Hid (pW s.toList = o)) :
    Calls Try.prog 131 #[.string s] w fun e w' => e = .returned (.tuple #[.int .i64 (o.getD 0 : Nat), .bool o.isSome]) ∧ w = w' := by
  by_cases hz : s.size = 0
  · have z1 : decide ((s.size : Int) < 1) = true := by simp; omega
    obtain rfl : o = none := by rw [← ho.out]; unfold pW pD; rw [okD_toList, hz]; simp
    clear ho
    go_enter Try.func131, Try.ntmps131
    go_wp2
    go_ret2
    exact ⟨rfl, rfl⟩
  have z1 : decide ((s.size : Int) < 1) = false := by simp; omega
  by_cases h9 : 9 < s.size
  · have z2 : decide ((9 : Int) < s.size) = true := by simp; omega
    obtain rfl : o = none := by rw [← ho.out]; unfold pW pD; rw [okD_toList, decide_eq_false (show ¬ s.size ≤ 9 by omega)]; simp
    clear ho
    go_enter Try.func131, Try.ntmps131
    go_wp2
    go_ret2
    exact ⟨rfl, rfl⟩
  have z2 : decide ((9 : Int) < s.size) = false := by simp; omega
  have z4 : 0 < s.size := by omega
  have z5 : (0 : Int) < s.size := by omega
  by_cases z3 : s[0] = 48 ∧ 1 < s.size
  · have z6 : decide ((1 : Int) < s.size) = true := by simp; omega
    have hh : (((s[0]).toNat : Int) == 48) = true := by rw [z3.1]; rfl
    obtain rfl : o = none := by rw [← ho.out]; unfold pW pD; rw [okD_toList, head_toList s z4, z3.1, decide_eq_true z3.2]; simp
    clear ho z3
    go_enter Try.func131, Try.ntmps131
    go_wp2
    go_ret2
    exact ⟨rfl, rfl⟩
  have key : (((s[0]).toNat : Int) == 48) = false ∨ ((((s[0]).toNat : Int) == 48) = true ∧ decide ((1 : Int) < s.size) = false) := by
    by_cases e : s[0] = 48
    · exact .inr ⟨by rw [e]; rfl, by simp; have : ¬ 1 < s.size := fun h => z3 ⟨e, h⟩; omega⟩
    · left
      rw [beq_eq_false_iff_ne]
      exact fun e2 => e (UInt8.toNat_inj.1 (by have : (48 : UInt8).toNat = 48 := rfl; omega))
  have ok : Hid (okD s.toList = true) := Lib.hid (by
    rw [okD_toList, head_toList s z4, decide_eq_true (show 1 ≤ s.size by omega), decide_eq_true (show s.size ≤ 9 by omega)]
    by_cases e : s[0] = 48
    · rw [decide_eq_false (fun h => z3 ⟨e, h⟩)]; simp
    · have : (some s[0] == some (48 : UInt8)) = false := by simpa using e
      rw [this]; rfl)
  have Fin : Hid (s.toList.take s.size = s.toList) := Lib.hid (List.take_of_length_le (by rw [len_toList]; exact Nat.le_refl _))
  clear z3
  rcases key with hh | ⟨hh, z6⟩ <;> (
    go_enter Try.func131, Try.ntmps131
    go_wp2
    go_loopg [4, 5] s.size (fun gg a i wr => ∃ j, j ≤ s.size ∧ s.size - j ≤ gg ∧ i = .int .i64 (j : Nat) ∧ a = .int .i64 (dval (s.toList.take j) : Nat) ∧ (s.toList.take j).all isD = true ∧ wr = w)
    case atStart => exact ⟨0, Nat.zero_le _, by omega, rfl, rfl, rfl, rfl⟩
    case round =>
      obtain ⟨j, hj, hg, rfl, rfl, hall, rfl⟩ := hrel
      have Al := Lib.hid hall
      clear hall
      by_cases hlt : j < s.size
      · have hD : dval (s.toList.take j) < 100000000 := by
          have h2 := dval_lt (s.toList.take j) Al.out
          have h3 : (s.toList.take j).length ≤ 8 := by rw [List.length_take]; omega
          exact Nat.lt_of_lt_of_le h2 (Nat.le_trans (Nat.pow_le_pow_right (by omega) h3) (by decide))
        have k1 : (j : Int) < s.size := by omega
        have k0 : (0 : Int) ≤ j := by omega
        have Sn : Hid (dval (s.toList.take (j + 1)) = 10 * dval (s.toList.take j) + ((s[j]).toNat - 48)) := Lib.hid (by rw [take_toList s hlt, dval_snoc])
        have An : Hid ((s.toList.take (j + 1)).all isD = isD s[j]) := Lib.hid (by rw [take_toList s hlt, List.all_append, Al.out]; simp)
        obtain ⟨D, eD⟩ : ∃ D, dval (s.toList.take j) = D := ⟨_, rfl⟩
        rw [eD] at Sn hD ⊢
        clear eD
        rcases hd : isD s[j] with _ | _
        · have On : Hid (o = none) := Lib.hid (by
            rw [← ho.out]; unfold pW
            rw [if_neg]
            intro h
            have := List.all_eq_true.1 h (s.toList[j]'(by rw [len_toList]; exact hlt)) (List.getElem_mem _)
            rw [get_toList s hlt, hd] at this; cases this)
          by_cases hlo : s[j].toNat < 48
          · have d1 : decide (((s[j]).toNat : Int) < 48) = true := by simp; omega
            clear hd
            go_wp2
            go_ret2
            exact ⟨by rw [On.out]; rfl, rfl⟩
          · have d1 : decide (((s[j]).toNat : Int) < 48) = false := by simp; omega
            have d2 : decide ((57 : Int) < ((s[j]).toNat : Int)) = true := by unfold isD at hd; simp at hd; simp; omega
            clear hd
            go_wp2
            go_ret2
            exact ⟨by rw [On.out]; rfl, rfl⟩
        · have hb : 48 ≤ (s[j]).toNat ∧ (s[j]).toNat ≤ 57 := by unfold isD at hd; simp at hd; omega
          have d1 : decide (((s[j]).toNat : Int) < 48) = false := by simp; omega
          have d2 : decide ((57 : Int) < ((s[j]).toNat : Int)) = false := by simp; omega
          have An2 : Hid ((s.toList.take (j + 1)).all isD = true) := Lib.hid (An.out.trans hd)
          obtain ⟨hb1, hb2⟩ := hb
          clear hd An
          go_wp2
          go_roundg (s.size - (j + 1))
          case rel => exact ⟨j + 1, by omega, Nat.le_refl _, by go_num, by rw [Sn.out]; exact congrArg (Value.int .i64) (by omega), An2.out, rfl⟩
          case measure => omega
      · obtain rfl : j = s.size := by omega
        have On : Hid (o = some (dval s.toList)) := Lib.hid (by
          have := Al.out; rw [Fin.out] at this
          rw [← ho.out]; unfold pW pD; rw [if_pos this, if_pos ok.out])
        rw [Fin.out]
        go_wp2
        go_ret2
        exact ⟨by rw [On.out]; rfl, rfl⟩)

/-- A row of the call's own that holds the texts ws. -/
def Txs (w : World) (base : Nat) (A : Option Addr) (n c : Nat) (ws : List ByteArray) : Prop := ws.length = n ∧ w.ownsRow base 9 1 (.slice A n c) n (ws.map Value.string)
section
variable {w w' : World} {base B n c : Nat} {A : Option Addr} {ws : List ByteArray}
theorem Txs.lit0 (w : World) (base : Nat) (hb : base ≤ w.heap.size) : Txs (w.alloc (.cells #[] 9)) base (some ⟨w.heap.size, 0, none⟩) 0 0 [] :=
  ⟨rfl, World.ownsRow_lit (size := 1) w #[] 0 hb (Nat.zero_le _) rfl⟩
theorem Txs.alloc (h : Txs w base A n c ws) (o : Obj) : Txs (w.alloc o) base A n c ws := ⟨h.1, World.ownsRow.alloc h.2 o⟩
theorem Txs.drewN (h : Txs w base A n c ws) (k : Nat) : Txs (w.drewN k) base A n c ws := h
theorem Txs.lt_ (h : Txs w base A n c ws) : ∀ k, (Value.slice A n c).ownBlock = some k → base ≤ k ∧ k < w.heap.size := World.ownsRow.lt h.2
theorem Txs.kept (h : Txs w base A n c ws) {row : Option Nat} (hg : w.grownBy w' row) (hne : (Value.slice A n c).ownBlock = none ∨ (Value.slice A n c).ownBlock ≠ row) : Txs w' base A n c ws := ⟨h.1, World.ownsRow.kept h.2 hg hne⟩
theorem Txs.mono (h : Txs w base A n c ws) {base' : Nat} (hb : base' ≤ base) : Txs w base' A n c ws := by
  refine ⟨h.1, h.2.1, ?_⟩
  rcases h.2.2 with hn | ⟨g, cap, cur, e, hb', rest⟩
  · exact .inl hn
  · exact .inr ⟨g, cap, cur, e, by omega, rest⟩
theorem Txs.up (h : Txs w base A n c ws) (hb : Below w.heap.size w w') : Txs w' base A n c ws := by
  refine ⟨h.1, h.2.1, ?_⟩
  rcases h.2.2 with hn | ⟨g, cap, cur, e, hb', hg, rest⟩
  · exact .inl hn
  · exact .inr ⟨g, cap, cur, e, hb', by rw [hb.block g (Array.getElem?_eq_some_iff.1 hg).1]; exact hg, rest⟩
theorem Txs.at_ (h : Txs w base A n c ws) (hn : 0 < n) : ∃ g, A = some ⟨g, 0, none⟩ ∧ base ≤ g ∧ g < w.heap.size ∧ ∀ i (hi : i < ws.length), w.cell? ⟨g, i, none⟩ = some (.string ws[i]) := by
  rcases h.2.2 with ⟨e, h0⟩ | ⟨g, cap, cur, e, hb, hg, rest⟩
  · omega
  · injection e with e1 e2 e3
    subst e1
    refine ⟨g, rfl, hb, (Array.getElem?_eq_some_iff.1 hg).1, fun i hi => ?_⟩
    rw [h.2.cellAt i (by have := h.1; omega), List.getElem?_map, List.getElem?_eq_getElem hi]
    rfl
end
theorem infoT : (Try.prog.info? 9).map (fun i => (i.zero, i.size, i.bytes)) = some (some (.string ⟨#[]⟩), 1, 16) := by kernel_rfl
/-- append of one text onto a row of texts of the call's own. -/
theorem wpList_appT {w : World} {ops : Array Oper} {rest : List Oper} {o : Oper} {a : Act} {Q : Exit → Act → World → Prop} (hgd : o.guard = none) (s x : Operand)
    (ho : o.op = .call { callee := .builtin .append, args := #[s, x], argTypes := #[129, 129] })
    (base : Nat) (A : Option Addr) (n c : Nat) (ws : List ByteArray) (hs : a.eval s = .slice A n c) (hown : Txs w base A n c ws) (g : Nat) (u : ByteArray) (hx : a.eval x = .slice (some ⟨g, 0, none⟩) 1 1)
    (hcell : w.cell? ⟨g, 0, none⟩ = some (.string u)) (hn : n ≤ 1000000000000) (hbase : base ≤ w.heap.size)
    (h : ∀ A' c' w', Txs w' base A' (n + 1) c' (ws ++ [u]) → w.grownBy w' (Value.slice A n c).ownBlock → wpList Try.prog ops Q rest (a.put o.dst (.slice A' (n + 1) c')) w') : wpList Try.prog ops Q (o :: rest) a w := by
  obtain ⟨i0, hi, hz0, hz1, hz2⟩ := info_parts infoT
  obtain ⟨hl, ho'⟩ := hown
  refine wpList_append_own w hgd s x 129 ho base 9 i0 (.string ⟨#[]⟩) 1 16 Try.underlying129 hi hz0 hz1 hz2 rfl (by decide) _ n _ hs ho' ⟨g, 0, none⟩ 1 1 [.string u] hx rfl ?_ ?_ ?_ (by omega) hbase ?_
  · intro j v hj
    match j, hj with
    | 0, hj => simp at hj; subst hj; simpa [Addr.add] using hcell
    | j + 1, hj => simp at hj
  · intro v hv; simp at hv; subst hv; rfl
  · unfold maxLen; omega
  · intro v' w' hown' hg _
    have hform : ∃ A' c', v' = .slice A' (n + 1) c' := by
      rcases hown'.2 with ⟨rfl, h0⟩ | ⟨g', cap, cur, rfl, _⟩
      · omega
      · exact ⟨_, _, rfl⟩
    obtain ⟨A', c', rfl⟩ := hform
    exact h A' c' w' ⟨by simp [hl], by rw [List.map_append]; exact hown'⟩ hg
theorem splitB_take {b : UInt8} {l : List UInt8} {m : Nat} (hm : m < l.length) (he : l[m] = b) (hn : ∀ j (hj : j < l.length), j < m → l[j] ≠ b) : splitB b l = l.take m :: splitB b (l.drop (m + 1)) := by
  have e : l = l.take m ++ b :: l.drop (m + 1) := by
    rw [← he, ← List.drop_eq_getElem_cons hm, List.take_append_drop]
  conv => lhs; rw [e]
  refine splitB_sep b _ _ fun x hx => ?_
  obtain ⟨j, hj, rfl⟩ := List.getElem_of_mem hx
  rw [List.length_take] at hj
  rw [List.getElem_take]
  exact hn j (by omega) (by omega)

theorem rest_len (s : ByteArray) (f : Nat) : (rest s f).length = s.size - f := by show (s.toList.drop f).length = _; rw [List.length_drop, len_toList]
theorem rest_get (s : ByteArray) (f i : Nat) (h : i < (rest s f).length) (h2 : f + i < s.size) : (rest s f)[i] = s[f + i] := by
  have e : (rest s f)[i]? = some s[f + i] := by
    unfold rest
    rw [List.getElem?_drop, List.getElem?_eq_getElem (by rw [len_toList]; exact h2), get_toList s h2]
  exact Option.some.inj ((List.getElem?_eq_getElem h).symm.trans e)
theorem rest_get' (s : ByteArray) (f j : Nat) (hf : f ≤ j) (h : j - f < (rest s f).length) (h2 : j < s.size) : (rest s f)[j - f] = s[j] := by
  rw [rest_get s f (j - f) h (by omega)]
  congr 1; omega

set_option maxHeartbeats 1000000 in
/-- splitText. -/
theorem specSplit (s : ByteArray) (b : UInt8) (w : World) (hs : s.size ≤ 1000) :
    Calls Try.prog 128 #[.string s, .int .u8 (b.toNat : Int)] w fun e w' => ∃ A n c ws, e = .returned (.slice A n c) ∧ Txs w' w.heap.size A n c ws ∧ ws.map ByteArray.toList = splitB b s.toList ∧ 1 ≤ n ∧ n ≤ 1001 ∧ (∀ u ∈ ws, u.size ≤ s.size) ∧ Below w.heap.size w w' := by
  go_enter Try.func128, Try.ntmps128
  go_wp2
  go_loopg [5, 6, 7] (s.size + 1) (fun gg v fr i wr => ∃ j f A n c ws, j ≤ s.size + 1 ∧ f ≤ j ∧ s.size + 1 - j ≤ gg ∧ i = .int .i64 (j : Nat) ∧ fr = .int .i64 (f : Nat) ∧ v = .slice A n c ∧ n ≤ f ∧ Txs wr w.heap.size A n c ws ∧ Below w.heap.size w wr ∧ (∀ u ∈ ws, u.size ≤ s.size) ∧
    (j ≤ s.size → ws.map ByteArray.toList ++ splitB b (rest s f) = splitB b s.toList) ∧ (j ≤ s.size → f ≤ s.size) ∧ (s.size < j → ws.map ByteArray.toList = splitB b s.toList) ∧ (∀ i (hi : i < s.size), f ≤ i → i < j → s[i] ≠ b))
  case atStart => exact ⟨0, 0, _, _, _, [], Nat.zero_le _, Nat.le_refl _, by omega, rfl, rfl, rfl, Nat.le_refl _, Txs.lit0 w _ (Nat.le_refl _), (Below.refl _ _).alloc (Nat.le_refl _) _, fun u h => (nomatch h), fun _ => rfl, fun _ => Nat.zero_le _, fun h => absurd h (by omega), fun i _ _ h => absurd h (by omega)⟩
  case round =>
    obtain ⟨j, f, A, n, c, ws, hj, hfj, hg, rfl, rfl, rfl, hnf, tx, bel, hsz, hcat, hfs, hend, hno⟩ := hrel
    have Tx := Lib.hid tx
    have Bel := Lib.hid bel
    have Sz := Lib.hid hsz
    have Cat := Lib.hid hcat
    have Fs := Lib.hid hfs
    have En := Lib.hid hend
    have No := Lib.hid hno
    clear tx bel hsz hcat hfs hend hno
    by_cases hle : j ≤ s.size
    · have hf := Fs.out hle
      have q0 : (0 : Int) ≤ f := by omega
      have q1 : (f : Int) ≤ j := by omega
      have q2 : (j : Int) ≤ s.size := by omega
      have p0 : (0 : Int) ≤ j := by omega
      by_cases hjs : j = s.size
      · have e1 : ((j : Int) == (s.size : Int)) = true := by rw [beq_iff_eq]; omega
        have ex : Hid ((s.extract f j).toList = rest s f) := Lib.hid (by
          rw [extract_toList]; unfold rest; rw [hjs]
          exact List.take_of_length_le (by rw [List.length_drop, len_toList]; exact Nat.le_refl _))
        have wd : Hid (splitB b (rest s f) = [rest s f]) := Lib.hid (splitB_word b _ fun x hx => by
          obtain ⟨i, hi, rfl⟩ := List.getElem_of_mem hx
          have hi2 := hi
          rw [rest_len] at hi2
          rw [rest_get s f i hi (by omega)]
          exact No.out (f + i) (by omega) (by omega) (by omega))
        have Hjs := Lib.hid hjs
        clear hjs
        go_wp2_with (first | (at_builtin; refine wpList_appT rfl _ _ rfl w.heap.size A n c _ rfl (Tx.out.alloc _) wr.heap.size (s.extract f j) rfl (by rw [World.cell?_alloc_at _ _ _ _ rfl]; rfl) (by omega) (by have := Bel.out.size; simp; omega) ?_; intro A3 c3 w3 s3 g3))
        have S3 := Lib.hid s3
        have Bel3 : Hid (Below w.heap.size w w3) := Lib.hid ((Bel.out.alloc Bel.out.size _).grown g3 (by have := Bel.out.size; simp; omega) (fun k e => (Tx.out.lt_ k e).1))
        clear s3 g3
        go_wp2
        go_roundg (s.size + 1 - (j + 1))
        case rel =>
          have hjs := Hjs.out
          refine ⟨j + 1, j + 1, A3, n + 1, c3, _, by omega, Nat.le_refl _, Nat.le_refl _, by go_num, by go_num, rfl, by omega, S3.out, Bel3.out, ?_, fun h => absurd h (by omega), fun h => absurd h (by omega), fun _ => ?_, fun i _ h1 h2 => absurd h2 (by omega)⟩
          · intro u hu
            rw [List.mem_append] at hu
            rcases hu with hu | hu
            · exact Sz.out u hu
            · simp at hu; subst hu; rw [ByteArray.size_extract]; omega
          · rw [List.map_append, ← Cat.out hle, wd.out]
            show _ ++ [(s.extract f j).toList] = _
            rw [ex.out]
        case measure => omega
      · have hlt : j < s.size := by omega
        have e1 : ((j : Int) == (s.size : Int)) = false := by rw [beq_eq_false_iff_ne]; omega
        have k1 : (j : Int) < s.size := by omega
        by_cases hb : s[j] = b
        · have t1 : (((s[j]).toNat : Int) == (b.toNat : Int)) = true := by rw [hb]; simp
          have ex : Hid ((s.extract f j).toList = (rest s f).take (j - f)) := Lib.hid (by rw [extract_toList]; rfl)
          have wd : Hid (splitB b (rest s f) = (rest s f).take (j - f) :: splitB b (rest s (j + 1))) := Lib.hid (by
            have h1 : j - f < (rest s f).length := by rw [rest_len]; omega
            have h2 := splitB_take (b := b) (l := rest s f) (m := j - f) h1 (by rw [rest_get' s f j hfj h1 hlt, hb]) (fun i hi h => by
                have hi2 := hi
                rw [rest_len] at hi2
                rw [rest_get s f i hi (by omega)]
                exact No.out (f + i) (by omega) (by omega) (by omega))
            rw [h2]
            congr 2
            unfold rest
            rw [List.drop_drop]
            congr 1; omega)
          clear hb
          go_wp2_with (first | (at_builtin; refine wpList_appT rfl _ _ rfl w.heap.size A n c _ rfl (Tx.out.alloc _) wr.heap.size (s.extract f j) rfl (by rw [World.cell?_alloc_at _ _ _ _ rfl]; rfl) (by omega) (by have := Bel.out.size; simp; omega) ?_; intro A3 c3 w3 s3 g3))
          have S3 := Lib.hid s3
          have Bel3 : Hid (Below w.heap.size w w3) := Lib.hid ((Bel.out.alloc Bel.out.size _).grown g3 (by have := Bel.out.size; simp; omega) (fun k e => (Tx.out.lt_ k e).1))
          clear s3 g3
          go_wp2
          go_roundg (s.size + 1 - (j + 1))
          case rel =>
            refine ⟨j + 1, j + 1, A3, n + 1, c3, _, by omega, Nat.le_refl _, Nat.le_refl _, by go_num, by go_num, rfl, by omega, S3.out, Bel3.out, ?_, fun h => ?_, fun h => by omega, fun h => absurd h (by omega), fun i _ h1 h2 => absurd h2 (by omega)⟩
            · intro u hu
              rw [List.mem_append] at hu
              rcases hu with hu | hu
              · exact Sz.out u hu
              · simp at hu; subst hu; rw [ByteArray.size_extract]; omega
            · rw [List.map_append, ← Cat.out hle, wd.out, List.append_assoc]
              show _ ++ ([(s.extract f j).toList] ++ _) = _
              rw [ex.out]; rfl
          case measure => omega
        · have t1 : (((s[j]).toNat : Int) == (b.toNat : Int)) = false := by
            rw [beq_eq_false_iff_ne]; exact fun e => hb (UInt8.toNat_inj.1 (by omega))
          have No2 : Hid (∀ i (hi : i < s.size), f ≤ i → i < j + 1 → s[i] ≠ b) := Lib.hid fun i hi h1 h2 => by
            by_cases e : i = j
            · subst e; exact hb
            · exact No.out i hi h1 (by omega)
          clear hb
          go_wp2
          go_roundg (s.size + 1 - (j + 1))
          case rel => exact ⟨j + 1, f, A, n, c, ws, by omega, by omega, Nat.le_refl _, by go_num, rfl, rfl, hnf, Tx.out, Bel.out, Sz.out, fun _ => Cat.out hle, fun _ => hf, fun h => absurd h (by omega), No2.out⟩
          case measure => omega
    · have Ee := Lib.hid (En.out (by omega))
      have n1 : 1 ≤ n := by
        have := congrArg List.length Ee.out
        rw [List.length_map, Tx.out.1] at this
        have h2 := splitB_ne b s.toList
        cases e : splitB b s.toList with
        | nil => exact absurd e h2
        | cons x y => rw [e] at this; simp at this; omega
      go_wp2
      go_ret
      exact ⟨_, _, _, ws, rfl, Tx.out, Ee.out, n1, by omega, Sz.out, Bel.out⟩
end Go.Proofs.Ytkjokchhffjidaa

/- Nothing of the shelf is wanted here. No condition. -/
namespace Go.Proofs.Ytkjokchhffjidaa
end Go.Proofs.Ytkjokchhffjidaa

/- FormatImages, of the program and of the model. No condition but lengths. -/
namespace Go.Proofs.Ytkjokchhffjidaa
open Go.RowKit

theorem Txs.store {w : World} {base g n c : Nat} {ws : List ByteArray} (h : Txs w base (some ⟨g, 0, none⟩) n c ws) (j : Nat) (u : ByteArray) : Txs (w.setCell ⟨g, j, none⟩ (.string u)) base (some ⟨g, 0, none⟩) n c (ws.set j u) := by
  refine ⟨by rw [List.length_set]; exact h.1, ?_⟩
  rw [List.map_set]
  exact (h.2.stored j _).1
theorem Txs.free {w : World} {base g n c : Nat} {ws : List ByteArray} (h : Txs w base (some ⟨g, 0, none⟩) n c ws) (j : Nat) : w.frozen? ⟨g, j, none⟩ = false := h.2.frozenAt j
theorem Txs.cell {w : World} {base g n c : Nat} {ws : List ByteArray} (h : Txs w base (some ⟨g, 0, none⟩) n c ws) {j : Nat} (hj : j < n) : w.cell? ⟨g, j, none⟩ = some (.string (ws[j]'(by rw [h.1]; exact hj))) := by
  rw [h.2.cellAt j (by omega), List.getElem?_map, List.getElem?_eq_getElem (by rw [h.1]; exact hj)]; rfl
theorem Txs.made {w : World} {base g n c : Nat} (h : w.ownsRow base 9 1 (.slice (some ⟨g, 0, none⟩) n c) n (madeCells (Value.string ⟨#[]⟩).cells (n * 1)).toList) : Txs w base (some ⟨g, 0, none⟩) n c (List.replicate n ⟨#[]⟩) := by
  refine ⟨by simp, ?_⟩
  have e : (madeCells (Value.string ⟨#[]⟩).cells (n * 1)).toList = (List.replicate n (⟨#[]⟩ : ByteArray)).map Value.string := by
    show (madeCells #[Value.string ⟨#[]⟩] (n * 1)).toList = _
    rw [toList_madeCells_one]; simp
  rw [← e]; exact h
theorem Txs.le {w : World} {base n c : Nat} {A : Option Addr} {ws : List ByteArray} (h : Txs w base A n c ws) : n ≤ c := by
  rcases h.2.2 with ⟨e, h0⟩ | ⟨g, cap, cur, e, _, _, hn, _⟩
  · omega
  · injection e with e1 e2 e3; subst e3; exact hn
/-- The digits of the numbers, as far as k. -/
def digs (xs : List Int) (k : Nat) : List (List UInt8) := (xs.take k).map fun x => dig x.toNat
theorem digs_succ {xs : List Int} {k x : Nat} (hk : k < xs.length) (e : xs.getD k 0 = (x : Int)) : digs xs (k + 1) = digs xs k ++ [dig x] := by
  unfold digs
  rw [List.take_succ_eq_append_getElem hk, List.map_append]
  rw [getD_eq hk] at e
  rw [e]; rfl
theorem digs_all (xs : List Int) : jn 32 (digs xs xs.length) = fmtI xs := by unfold digs fmtI; rw [List.take_of_length_le (Nat.le_refl _)]
theorem digs_len (xs : List Int) (k : Nat) (hk : k ≤ xs.length) : (digs xs k).length = k := by simp [digs]; omega
theorem jn_len (b : UInt8) : ∀ ls : List (List UInt8), (∀ l ∈ ls, l.length ≤ 2) → (jn b ls).length ≤ 3 * ls.length
  | [], _ => Nat.le_refl _
  | [w], h => by have := h w (by simp); simp [jn]; omega
  | w :: v :: r, h => by
    have h1 := h w (by simp)
    have h2 := jn_len b (v :: r) fun l hl => h l (by simp [hl])
    rw [jn_cons b w (by simp)]
    simp at h2 ⊢; omega
theorem fmtI_len {xs : List Int} (h : Pts xs) : (fmtI xs).length ≤ 3 * xs.length := by
  have := jn_len 32 (xs.map fun x => dig x.toNat) (fun l hl => by
    rw [List.mem_map] at hl
    obtain ⟨x, hx, rfl⟩ := hl
    have := h x hx
    exact (dig_facts x.toNat (by omega)).2.2.2.2.1)
  rw [List.length_map] at this
  exact this
theorem isP_pts {p : List Int} (h : IsP p) : Pts p := fun x hx => by
  obtain ⟨i, hi, rfl⟩ := List.getElem_of_mem hx
  have h1 := h.lo i hi
  have h2 := h.hi i hi
  have h3 := h.le
  rw [getD_eq hi] at h1 h2
  omega
theorem pts_at {xs : List Int} (h : Pts xs) {k : Nat} (hk : k < xs.length) : ∃ x : Nat, x < 20 ∧ xs.getD k 0 = (x : Int) := by
  have := h xs[k] (List.getElem_mem hk)
  exact ⟨xs[k].toNat, by omega, by rw [getD_eq hk]; omega⟩

end Go.Proofs.Ytkjokchhffjidaa

/- The model's texts of lists; FormatImages of both. No condition but lengths. -/
namespace Go.Proofs.Ytkjokchhffjidaa
open Go.RowKit

theorem empty_toList : (⟨#[]⟩ : ByteArray).toList = [] := by rw [ByteArray.toList_eq]

set_option maxHeartbeats 1000000 in
/-- joinText, of at least one and at most 20 short texts. -/
theorem specJoin (A : Option Addr) (c n base : Nat) (ws : List ByteArray) (w : World) (h : Txs w base A n c ws) (h1 : 1 ≤ n) (hn : n ≤ 20) (hs : ∀ u ∈ ws, u.size ≤ 2) :
    Calls Try.prog 136 #[.slice A n c, .string ⟨#[32]⟩] w fun e w' => ∃ t, e = .returned (.string t) ∧ t.toList = jn 32 (ws.map ByteArray.toList) ∧ w' = w := by
  have H := Lib.hid h
  have Hs := Lib.hid hs
  have lw := h.1
  obtain ⟨g, rfl, hA, hB, hC⟩ := h.at_ (by omega)
  clear h hs hC
  go_enter Try.func136, Try.ntmps136
  go_wp2
  go_loopg [5, 6] n (fun gg sv i wr => ∃ k t, k ≤ n ∧ n - k ≤ gg ∧ i = .int .i64 (k : Nat) ∧ sv = .string t ∧ t.toList = jn 32 ((ws.take k).map ByteArray.toList) ∧ t.size ≤ 3 * k ∧ wr = w)
  case atStart => exact ⟨0, _, Nat.zero_le _, by omega, rfl, rfl, empty_toList, Nat.zero_le _, rfl⟩
  case round =>
    obtain ⟨k, t, hk, hg, rfl, rfl, ht, hsz, rfl⟩ := hrel
    have T := Lib.hid ht
    clear ht
    by_cases hlt : k < n
    · have c0 := H.out.cell hlt
      obtain ⟨u, eu⟩ : ∃ u, ws[k]'(by omega) = u := ⟨_, rfl⟩
      have hu : u.size ≤ 2 := by rw [← eu]; exact Hs.out _ (List.getElem_mem _)
      have Tk : Hid ((ws.take (k + 1)).map ByteArray.toList = (ws.take k).map ByteArray.toList ++ [u.toList]) := Lib.hid (by rw [List.take_succ_eq_append_getElem (by omega), List.map_append, eu]; rfl)
      rw [eu] at c0
      by_cases hk0 : k = 0
      · subst hk0
        have sz1 : ¬ 9223372036854775807 < t.size + u.size := by omega
        have tl : Hid ((t ++ u).toList = jn 32 ((ws.take (0 + 1)).map ByteArray.toList)) := Lib.hid (by rw [toList_app, T.out, Tk.out]; rfl)
        have ts : (t ++ u).size ≤ 3 := by rw [ByteArray.size_append]; omega
        clear eu
        go_wp2
        go_roundg (n - 1)
        case rel => exact ⟨1, _, by omega, Nat.le_refl _, by go_num, rfl, tl.out, ts, rfl⟩
        case measure => omega
      · have d1 : decide (0 < k) = true := by simp; omega
        have sz0 : ¬ 9223372036854775807 < t.size + (⟨#[32]⟩ : ByteArray).size := by have : (⟨#[32]⟩ : ByteArray).size = 1 := rfl; omega
        have sz1 : ¬ 9223372036854775807 < t.size + (⟨#[32]⟩ : ByteArray).size + u.size := by have : (⟨#[32]⟩ : ByteArray).size = 1 := rfl; omega
        have tl : Hid ((t ++ (⟨#[32]⟩ : ByteArray) ++ u).toList = jn 32 ((ws.take (k + 1)).map ByteArray.toList)) := Lib.hid (by
          rw [toList_app, toList_app, T.out, Tk.out, jn_snoc 32 _ _ (by
            intro e
            have := congrArg List.length e
            rw [List.length_map, List.length_take, lw] at this
            have e0 : min k n = 0 := this
            omega)]
          have : (⟨#[32]⟩ : ByteArray).toList = [32] := by rw [ByteArray.toList_eq]
          rw [this]; simp)
        have ts : (t ++ (⟨#[32]⟩ : ByteArray) ++ u).size ≤ 3 * (k + 1) := by rw [ByteArray.size_append, ByteArray.size_append]; have : (⟨#[32]⟩ : ByteArray).size = 1 := rfl; omega
        have sz2 : ¬ 9223372036854775807 < t.size + 1 := by omega
        have sz3 : ¬ 9223372036854775807 < t.size + 1 + u.size := by omega
        clear eu hk0
        go_wp2
        go_roundg (n - (k + 1))
        case rel => exact ⟨k + 1, _, by omega, Nat.le_refl _, by go_num, rfl, tl.out, ts, rfl⟩
        case measure => omega
    · have hkn : k = n := by omega
      subst hkn
      have F : Hid (t.toList = jn 32 (ws.map ByteArray.toList)) := Lib.hid (by rw [T.out, List.take_of_length_le (by omega)])
      go_wp2
      go_ret
      exact ⟨t, rfl, F.out, rfl⟩

set_option maxHeartbeats 1000000 in
/-- formatInts. -/
theorem specFmt (A : Option Addr) (c n : Nat) (xs : List Int) (w : World) (hx : RI w w.heap.size A xs) (lx : Hid (xs.length = n)) (px : Hid (Pts xs)) (h1 : 1 ≤ n) (hn : n ≤ 20) :
    Calls Try.prog 133 #[.slice A n c] w fun e w' => ∃ t, e = .returned (.string t) ∧ t.toList = fmtI xs ∧ Below w.heap.size w w' := by
  go_enter Try.func133, Try.ntmps133
  go_wp2
  go_loopg [3, 4] n (fun gg v i wr => ∃ k A' c' ws, k ≤ n ∧ n - k ≤ gg ∧ i = .int .i64 (k : Nat) ∧ v = .slice A' k c' ∧ Txs wr w.heap.size A' k c' ws ∧ ws.map ByteArray.toList = digs xs k ∧ Below w.heap.size w wr)
  case atStart => exact ⟨0, _, _, [], Nat.zero_le _, by omega, rfl, rfl, Txs.lit0 w _ (Nat.le_refl _), rfl, (Below.refl _ _).alloc (Nat.le_refl _) _⟩
  case round =>
    obtain ⟨k, A', c', ws, hk, hg, rfl, rfl, tx, heq, bel⟩ := hrel
    have Tx := Lib.hid tx
    have Eq := Lib.hid heq
    have Bel := Lib.hid bel
    clear tx heq bel
    by_cases hlt : k < n
    · obtain ⟨b, off, rfl, hb, hc⟩ := hx (by rw [lx.out]; omega)
      obtain ⟨x, hx20, ex⟩ := pts_at px.out (k := k) (by rw [lx.out]; exact hlt)
      have c1 := (Bel.out.cell (p := ⟨b, off + k, none⟩) hb).trans (hc k (by rw [lx.out]; omega))
      rw [ex] at c1
      have Ds := Lib.hid (digs_succ (xs := xs) (by rw [lx.out]; exact hlt) ex)
      clear hc ex
      go_wp2_with fail
      refine (specFmtInt x wr hx20).mono ?_
      rintro e w2 ⟨u, rfl, hu, b2⟩
      have Hu := Lib.hid hu
      have Bel2 : Hid (Below w.heap.size w w2) := Lib.hid (btr Bel.out b2)
      have Tx2 := Lib.hid (Tx.out.up b2)
      clear hu b2
      go_wp2_with (first | (at_builtin; refine wpList_appT rfl _ _ rfl w.heap.size A' k c' _ rfl (Tx2.out.alloc _) w2.heap.size u rfl (by rw [World.cell?_alloc_at _ _ _ _ rfl]; rfl) (by omega) (by have := Bel2.out.size; simp; omega) ?_; intro A3 c3 w3 s3 g3))
      have S3 := Lib.hid s3
      have Eq3 : Hid ((ws ++ [u]).map ByteArray.toList = digs xs (k + 1)) := Lib.hid (by rw [Ds.out, List.map_append, Eq.out]; simp [Hu.out])
      have Bel3 : Hid (Below w.heap.size w w3) := Lib.hid ((Bel2.out.alloc Bel2.out.size _).grown g3 (by have := Bel2.out.size; simp; omega) (fun j e => (Tx2.out.lt_ j e).1))
      clear s3 g3
      go_wp2
      go_roundg (n - (k + 1))
      case rel => exact ⟨k + 1, A3, c3, _, by omega, Nat.le_refl _, by go_num, rfl, S3.out, Eq3.out, Bel3.out⟩
      case measure => omega
    · have hkn : k = n := by omega
      subst hkn
      have Fin : Hid (jn 32 (ws.map ByteArray.toList) = fmtI xs) := Lib.hid (by rw [Eq.out, ← lx.out, digs_all])
      have Sz : Hid (∀ u ∈ ws, u.size ≤ 2) := Lib.hid fun u hu => by
        have hm : u.toList ∈ digs xs k := by rw [← Eq.out]; exact List.mem_map_of_mem hu
        unfold digs at hm
        rw [List.mem_map] at hm
        obtain ⟨x, hx, e⟩ := hm
        have hp := px.out x (List.mem_of_mem_take hx)
        rw [← len_toList0, ← e]
        exact (dig_facts x.toNat (by omega)).2.2.2.2.1
      go_wp2_with fail
      refine (specJoin A' c' k w.heap.size ws wr Tx.out h1 hn Sz.out).mono ?_
      rintro e w2 ⟨t, rfl, ht, rfl⟩
      have F : Hid (t.toList = fmtI xs) := Lib.hid (ht.trans Fin.out)
      clear ht
      go_wp2_with fail
      go_ret
      exact ⟨t, rfl, F.out, Bel.out⟩

/-- What FormatImages writes. -/
def fmtImg (p : List Int) : List UInt8 := if isP p = true then fmtI p else []

end Go.Proofs.Ytkjokchhffjidaa

/- Cycles, point by point: cycleFrom and startsCycle of the program, cycleOf and isSmallest of the model. Condition: the list is a permutation. -/
namespace Go.Proofs.Ytkjokchhffjidaa
open Go.RowKit

def lenV : Value → Nat | .slice _ n _ => n | _ => 0
/-- The first k points from x on. -/
def cycTo (p : List Int) (x k : Nat) : List Int := (List.range k).map fun j => (it p j x : Int)
theorem cycTo_succ (p : List Int) (x k : Nat) : cycTo p x (k + 1) = cycTo p x k ++ [(it p k x : Int)] := by simp [cycTo, List.range_succ]
theorem cycTo_one (p : List Int) (x : Nat) : cycTo p x 1 = [(x : Int)] := rfl
theorem cyc_eq (p : List Int) (x : Nat) : cyc p x = cycTo p x (per p x) := rfl
theorem cyc_getD {p : List Int} {x j : Nat} (h : j < per p x) : (cyc p x).getD j 0 = (it p j x : Int) := by
  rw [List.getD_eq_getElem?_getD, List.getElem?_eq_getElem (by rw [cyc_length]; exact h)]; simp [cyc]

set_option maxHeartbeats 400000 in
/-- cycleOf. -/
theorem specCycleOf (A : Option Addr) (c n x : Nat) (p : List Int) (w : World) (hp : RI w w.heap.size A p) (lp : Hid (p.length = n)) (ip : Hid (IsP p)) (hx : x < n) (hn : n ≤ 20) :
    Calls Try.prog 137 #[.slice A n c, .int .i64 x] w fun e w' => ∃ A' m c', e = .returned (.slice A' m c') ∧ Slc w' w.heap.size A' m c' (cyc p x) ∧ m ≤ 20 ∧ Below w.heap.size w w' := by
  obtain ⟨b, off, rfl, hb, hc⟩ := hp (by rw [lp.out]; omega)
  have C : Hid (∀ j, j < n → w.cell? ⟨b, off + j, none⟩ = some (.int .i64 (nx p j : Int))) := Lib.hid fun j hj => by rw [← nx_val ip.out (by rw [lp.out]; exact hj)]; exact hc j (by rw [lp.out]; exact hj)
  have PS := Lib.hid (per_spec ip.out (x := x) (by rw [lp.out]; exact hx))
  have hper : per p x ≤ n := by rw [← lp.out]; exact PS.out.2.1
  clear hc
  have c0 := C.out x hx
  rw [World.cell?_alloc_lt w (.cells #[.int .i64 x] 2) ⟨b, off + x, none⟩ hb |>.symm] at c0
  go_enter Try.func137, Try.ntmps137
  go_wp2
  go_loopw [5, 6] (fun v y wr => ∃ k A' c', 1 ≤ k ∧ k ≤ per p x ∧ v = .slice A' k c' ∧ y = .int .i64 (it p k x : Nat) ∧ Slc wr w.heap.size A' k c' (cycTo p x k) ∧ Below w.heap.size w wr) (fun v _ _ => per p x - lenV v)
  case atStart => exact ⟨1, _, _, Nat.le_refl _, PS.out.1, rfl, rfl, Slc.lit1 w _ x (Nat.le_refl _), (Below.refl _ _).alloc (Nat.le_refl _) _⟩
  case round =>
    clear c0
    obtain ⟨k, A', c', hk1, hk, rfl, rfl, own, bel⟩ := hrel
    have Own' := Lib.hid own
    have Bel := Lib.hid bel
    clear own bel
    by_cases hlt : k < per p x
    · have hne := PS.out.2.2.2 k hk1 hlt
      obtain ⟨y, ey⟩ : ∃ y, it p k x = y := ⟨_, rfl⟩
      have hy : y < n := by rw [← ey, ← lp.out]; exact it_lt ip.out (by rw [lp.out]; exact hx) k
      rw [ey] at hne ⊢
      have Ey := Lib.hid ey
      have hd : ((y : Int) != (x : Int)) = true := by rw [bne_iff_ne]; omega
      have hd' : ((y : Int) == (x : Int)) = false := by rw [beq_eq_false_iff_ne]; omega
      clear ey hne
      go_wp2_with (first | (at_builtin; refine wpList_app1 rfl _ _ rfl w.heap.size A' k c' _ rfl (Own'.out.alloc _) wr.heap.size y rfl (by rw [World.cell?_alloc_at _ _ _ _ rfl]; rfl) (by omega) (by have := Bel.out.size; simp; omega) ?_; intro A1 c1' w1 own1 hg1; have Own1 := Lib.hid own1; have Bel1 : Hid (Below w.heap.size w w1) := Lib.hid ((Bel.out.alloc Bel.out.size _).grown hg1 (by have := Bel.out.size; simp; omega) (fun j hj => (Own'.out.lt_ j hj).1)); clear own1 hg1; have c1 := (Bel1.out.cell (p := ⟨b, off + y, none⟩) hb).trans (C.out y hy)))
      go_roundw
      case rel => exact ⟨k + 1, A1, c1', by omega, by omega, rfl, by show Value.int .i64 (nx p y : Int) = .int .i64 ((nx p (it p k x) : Nat) : Int); rw [Ey.out], by rw [cycTo_succ, Ey.out]; exact Own1.out, Bel1.out⟩
      case measure => simp [lenV]; omega
    · have hkn : k = per p x := by omega
      have hx' := PS.out.2.2.1
      subst hkn
      rw [hx']
      have hd : ((x : Int) != (x : Int)) = false := by simp
      clear hx'
      go_wp2
      go_ret
      exact ⟨_, _, _, rfl, by rw [cyc_eq]; exact Own'.out, by omega, Bel.out⟩

theorem st_true {p : List Int} {x : Nat} (h : ∀ j, j < per p x → x ≤ it p j x) : st p x = true := by
  unfold st; rw [List.all_eq_true]; intro j hj; rw [decide_eq_true_eq]; exact h j (List.mem_range.1 hj)
theorem st_false {p : List Int} {x j : Nat} (hj : j < per p x) (h : it p j x < x) : st p x = false := by
  unfold st; rw [List.all_eq_false]; exact ⟨j, List.mem_range.2 hj, by simp; omega⟩


set_option maxHeartbeats 400000 in
/-- isSmallest, at the points that follow x. -/
theorem specSmallest (A : Option Addr) (c m x : Nat) (p : List Int) (w : World) (hp : RI w w.heap.size A (cyc p x)) (lm : Hid (per p x = m)) (hm1 : 1 ≤ m) (hm : m ≤ 20) (ans : Bool) (ha : Hid (st p x = ans)) :
    Calls Try.prog 138 #[.slice A m c] w fun e w' => e = .returned (.bool ans) ∧ Below w.heap.size w w' := by
  obtain ⟨b, off, rfl, hb, hc⟩ := hp (by rw [cyc_length, lm.out]; omega)
  have C : Hid (∀ j, j < m → w.cell? ⟨b, off + j, none⟩ = some (.int .i64 (it p j x : Int))) := Lib.hid fun j hj => by
    rw [← cyc_getD (p := p) (x := x) (j := j) (by rw [lm.out]; exact hj)]; exact hc j (by rw [cyc_length, lm.out]; exact hj)
  clear hc
  refine quiet_below ?_
  have c0 := C.out 0 (by omega)
  rw [Nat.add_zero] at c0
  have c0' : w.cell? ⟨b, off, none⟩ = some (.int .i64 (x : Int)) := c0
  clear c0
  go_enter Try.func138, Try.ntmps138
  go_wp2
  go_loopw [3] (fun i wr => ∃ k : Nat, 1 ≤ k ∧ k ≤ m ∧ i = .int .i64 (k : Nat) ∧ (∀ j, j < k → x ≤ it p j x) ∧ ∃ q, wr = w.drewN q) (fun i _ => m - (intOf i).toNat)
  case atStart => exact ⟨1, Nat.le_refl _, hm1, rfl, fun j h => by rw [show j = 0 from by omega]; exact Nat.le_refl _, 0, rfl⟩
  case round =>
    obtain ⟨k, hk1, hk, rfl, hall, q, rfl⟩ := hrel
    have Hall := Lib.hid hall
    clear hall
    by_cases hlt : k < m
    · obtain ⟨y, ey⟩ : ∃ y, it p k x = y := ⟨_, rfl⟩
      have c1 := C.out k hlt
      rw [ey] at c1
      have Ey := Lib.hid ey
      clear ey
      have p1 : (0 : Int) ≤ k := by omega
      have p2 : (k : Int) < m := by omega
      have p3 : (0 : Int) < m := by omega
      by_cases hyx : y < x
      · have hd : decide ((y : Int) < (x : Int)) = true := by simpa using hyx
        have Fin : Hid (ans = false) := Lib.hid (by rw [← ha.out]; exact st_false (by rw [lm.out]; exact hlt) (by rw [Ey.out]; exact hyx))
        go_wp2
        go_quiet (fail)
        go_wp2
        go_ret
        exact ⟨ret_bool Fin.out.symm, _, World.drewN_drewN _ _ _⟩
      · have hd : decide ((y : Int) < (x : Int)) = false := by simp; omega
        go_wp2
        go_quiet (fail)
        go_wp2
        go_roundw
        case rel => exact ⟨k + 1, by omega, by omega, by go_num, fun j hj => by
          by_cases e : j = k
          · subst e; rw [Ey.out]; omega
          · exact Hall.out j (by omega), _, rfl⟩
        case measure => simp [intOf]; omega
    · have hkm : k = m := by omega
      subst hkm
      have Fin : Hid (ans = true) := Lib.hid (by rw [← ha.out]; exact st_true (by rw [lm.out]; exact Hall.out))
      go_wp2
      go_ret
      exact ⟨ret_bool Fin.out.symm, _, rfl⟩


end Go.Proofs.Ytkjokchhffjidaa

/- All cycles of a permutation, of the program and of the model. Condition: the list is a permutation. -/
namespace Go.Proofs.Ytkjokchhffjidaa
open Go.RowKit

/-- The smallest points of the cycles, as far as k. -/
def heads (p : List Int) (k : Nat) : List Nat := (List.range k).filter (st p)
theorem heads_yes {p : List Int} {k : Nat} (h : st p k = true) : heads p (k + 1) = heads p k ++ [k] := by simp [heads, List.range_succ, List.filter_append, h]
theorem heads_no {p : List Int} {k : Nat} (h : st p k = false) : heads p (k + 1) = heads p k := by simp [heads, List.range_succ, List.filter_append, h]
theorem cycs_heads (p : List Int) : cycs p = (heads p p.length).map (cyc p) := rfl
theorem heads_le (p : List Int) (k : Nat) : (heads p k).length ≤ k := Nat.le_trans (List.length_filter_le _ _) (by simp)
theorem pts_heads (p : List Int) (k : Nat) : ptsL (st p) k = (heads p k).map Int.ofNat := rfl
theorem heads_lt {p : List Int} {n k x : Nat} (hk : k < (heads p n).length) (e : (heads p n).getD k 0 = x) : x < n := by
  have : x ∈ heads p n := by rw [← e, List.getD_eq_getElem?_getD, List.getElem?_eq_getElem hk]; exact List.getElem_mem hk
  exact List.mem_range.1 (List.mem_filter.1 this).1


set_option maxHeartbeats 800000 in
/-- The model's allCycles. -/
theorem specAll (A : Option Addr) (c n : Nat) (p : List Int) (w : World) (hp : RI w w.heap.size A p) (lp : Hid (p.length = n)) (ip : Hid (IsP p)) (hn : n ≤ 20) :
    Calls Try.prog 134 #[.slice A n c] w fun e w' => ∃ A' m c' vs, e = .returned (.slice A' m c') ∧ SS w' w.heap.size w.heap.size A' m c' vs (cycs p) ∧ m ≤ n ∧ Below w.heap.size w w' := by
  go_enter Try.func134, Try.ntmps134
  go_wp2
  go_loopw [3, 4, 5] (fun v i _ wr => ∃ k A' m c' vs, k ≤ n ∧ m ≤ k ∧ i = .int .i64 (k : Nat) ∧ v = .slice A' m c' ∧ SS wr w.heap.size w.heap.size A' m c' vs ((heads p k).map (cyc p)) ∧ Below w.heap.size w wr) (fun _ i _ _ => n - (intOf i).toNat)
  case atStart => exact ⟨0, _, _, _, _, Nat.zero_le _, Nat.le_refl _, rfl, rfl, SS.lit0 w _ _ (Nat.le_refl _), (Below.refl _ _).alloc (Nat.le_refl _) _⟩
  case round =>
    obtain ⟨k, A', m, c', vs, hk, hmk, rfl, rfl, ss, bel⟩ := hrel
    have Ss := Lib.hid ss
    have Bel := Lib.hid bel
    clear ss bel
    by_cases hlt : k < n
    · have Per := Lib.hid (per_spec ip.out (x := k) (by rw [lp.out]; exact hlt))
      have hp1 := Per.out.1
      have hp2 : per p k ≤ 20 := by have := Per.out.2.1; have := lp.out; omega
      rcases hst : st p k with _ | _
      · have Hst := Lib.hid hst
        clear hst
        go_wp2_with fail
        refine (specCycleOf A c n k p wr (hp.up Bel.out) lp ip hlt hn).mono ?_
        rintro e w2 ⟨A2, m2, c2, rfl, s2, hm2, b2⟩
        have S2 := Lib.hid s2
        have Bel2 : Hid (Below w.heap.size w w2) := Lib.hid (btr Bel.out b2)
        have Ss2 := Lib.hid (Ss.out.up b2)
        have lm2 : Hid (per p k = m2) := Lib.hid (by rw [← s2.1, cyc_length])
        have h1m2 : 1 ≤ m2 := by rw [← lm2.out]; exact hp1
        clear s2 b2
        go_wp2_with fail
        refine (specSmallest A2 c2 m2 k p w2 S2.out.ri_ lm2 h1m2 hm2 false Hst).mono ?_
        rintro e w3 ⟨rfl, b3⟩
        have Bel3 : Hid (Below w.heap.size w w3) := Lib.hid (btr Bel2.out b3)
        have Ss3 := Lib.hid (Ss2.out.up b3)
        clear b3
        go_wp2_with fail
        go_roundw
        case rel => exact ⟨k + 1, A', m, c', vs, by omega, by omega, by go_num, rfl, by rw [heads_no Hst.out]; exact Ss3.out, Bel3.out⟩
        case measure => simp [intOf]; omega
      · have Hst := Lib.hid hst
        clear hst
        go_wp2_with fail
        refine (specCycleOf A c n k p wr (hp.up Bel.out) lp ip hlt hn).mono ?_
        rintro e w2 ⟨A2, m2, c2, rfl, s2, hm2, b2⟩
        have S2 := Lib.hid s2
        have Bel2 : Hid (Below w.heap.size w w2) := Lib.hid (btr Bel.out b2)
        have Ss2 := Lib.hid (Ss.out.up b2)
        have D2 := Lib.hid (lies_dis Ss.out s2.lies (Nat.le_refl _))
        have lm2 : Hid (per p k = m2) := Lib.hid (by rw [← s2.1, cyc_length])
        have h1m2 : 1 ≤ m2 := by rw [← lm2.out]; exact hp1
        clear s2 b2
        go_wp2_with fail
        refine (specSmallest A2 c2 m2 k p w2 S2.out.ri_ lm2 h1m2 hm2 true Hst).mono ?_
        rintro e w3 ⟨rfl, b3⟩
        have Bel3 : Hid (Below w.heap.size w w3) := Lib.hid (btr Bel2.out b3)
        have Ss3 := Lib.hid (Ss2.out.up b3)
        have S3 := Lib.hid (S2.out.up b3)
        clear b3
        go_wp2_with (first | (at_builtin; refine wpList_app2 rfl _ _ rfl rfl (Ss3.out.alloc _) w3.heap.size A2 m2 c2 _ rfl (by rw [World.cell?_alloc_at _ _ _ _ rfl]; rfl) ((S3.out.mono Bel.out.size).alloc _) D2.out (by omega) (by have := Bel3.out.size; simp; omega) ?_; intro A4 c4 w4 ss4 hg4))
        have Ss4 := Lib.hid ss4
        have Bel4 : Hid (Below w.heap.size w w4) := Lib.hid ((Bel3.out.alloc Bel3.out.size _).grown hg4 (by have := Bel3.out.size; simp; omega) (fun j hj => (Ss.out.lt_ j hj).1))
        clear ss4 hg4
        go_wp2
        go_roundw
        case rel => exact ⟨k + 1, A4, m + 1, c4, _, by omega, by omega, by go_num, rfl, by rw [heads_yes Hst.out, List.map_append]; exact Ss4.out, Bel4.out⟩
        case measure => simp [intOf]; omega
    · have hkn : k = n := by omega
      subst hkn
      have Fin : Hid ((heads p k).map (cyc p) = cycs p) := Lib.hid (by rw [cycs_heads, lp.out])
      go_wp2
      go_ret
      exact ⟨_, _, _, _, rfl, by rw [← Fin.out]; exact Ss.out, hmk, Bel.out⟩
end Go.Proofs.Ytkjokchhffjidaa

/- Cycles, of the program and of the model; the helpers on slices of slices. Condition: at most 2097152 entries. -/
namespace Go.Proofs.Ytkjokchhffjidaa
open Go.RowKit

/-- What Cycles answers. -/
def cyclesL (p : List Int) : List (List Int) := if isP p = true then cycl p else []
def longC (c : List Int) : Bool := decide (1 < c.length)
theorem cycl_eq (p : List Int) : cycl p = (cycs p).filter longC := rfl
theorem fil_yes {l : List (List Int)} {k : Nat} {y : List Int} (hk : k < l.length) (e : l.getD k [] = y) (h : longC y = true) : (l.take (k + 1)).filter longC = (l.take k).filter longC ++ [y] := by
  rw [List.getD_eq_getElem?_getD, List.getElem?_eq_getElem hk] at e
  have e' : l[k] = y := e
  rw [List.take_succ_eq_append_getElem hk, List.filter_append, e']
  simp [h]
theorem fil_no {l : List (List Int)} {k : Nat} {y : List Int} (hk : k < l.length) (e : l.getD k [] = y) (h : longC y = false) : (l.take (k + 1)).filter longC = (l.take k).filter longC := by
  rw [List.getD_eq_getElem?_getD, List.getElem?_eq_getElem hk] at e
  have e' : l[k] = y := e
  rw [List.take_succ_eq_append_getElem hk, List.filter_append, e']
  simp [h]


set_option maxHeartbeats 800000 in
/-- The model's Cycles. -/
theorem specCycles (A : Option Addr) (c n : Nat) (p : List Int) (w : World) (hp : RI w w.heap.size A p) (lp : Hid (p.length = n)) (hn : n ≤ 2097152) (hc : n ≤ c) :
    Calls Try.prog 132 #[.slice A n c] w fun e w' => ∃ A' m c' vs, e = .returned (.slice A' m c') ∧ SS w' w.heap.size w.heap.size A' m c' vs (cyclesL p) ∧ m ≤ 20 ∧ Below w.heap.size w w' := by
  have hp1 : RI (w.alloc (.cells #[] 27)) (w.alloc (.cells #[] 27)).heap.size A p := (hp.alloc (Nat.le_refl _) _).more (by simp)
  rcases hs : isP p with _ | _
  · have Fin : Hid (cyclesL p = []) := Lib.hid (if_neg (by rw [hs]; decide))
    have HP1 := Lib.hid hp1
    clear hp1
    go_enter Try.func132, Try.ntmps132
    go_wp2_with fail
    refine (quiet_below (specIsP A c n p _ HP1.out lp hn hc)).mono ?_
    rintro e w1 ⟨rfl, b1⟩
    have B1 : Hid (Below w.heap.size w w1) := Lib.hid (((Below.refl _ _).alloc (Nat.le_refl _) _).trans (b1.mono (by simp)))
    have S1 : Hid (SS w1 w.heap.size w.heap.size (some ⟨w.heap.size, 0, none⟩) 0 0 [] []) := Lib.hid ((SS.lit0 w _ _ (Nat.le_refl _)).up b1)
    clear b1
    go_wp2_with fail
    go_ret
    exact ⟨_, _, _, _, rfl, by rw [Fin.out]; exact S1.out, Nat.zero_le _, B1.out⟩
  · have Ip := Lib.hid (isP_iff.1 hs)
    have Fin : Hid (cyclesL p = (cycs p).filter longC) := Lib.hid (if_pos hs)
    have hn20 : n ≤ 20 := by rw [← lp.out]; exact Ip.out.le
    have HP1 := Lib.hid hp1
    clear hp1
    go_enter Try.func132, Try.ntmps132
    go_wp2_with fail
    refine (quiet_below (specIsP A c n p _ HP1.out lp hn hc)).mono ?_
    rintro e w0 ⟨rfl, b0⟩
    have B0 : Hid (Below w.heap.size w w0) := Lib.hid (((Below.refl _ _).alloc (Nat.le_refl _) _).trans (b0.mono (by simp)))
    have S0 : Hid (SS w0 w.heap.size w.heap.size (some ⟨w.heap.size, 0, none⟩) 0 0 [] []) := Lib.hid ((SS.lit0 w _ _ (Nat.le_refl _)).up b0)
    have Z0 : w.heap.size + 1 ≤ w0.heap.size := by have := b0.size; simpa using this
    clear b0
    go_wp2_with fail
    refine (specAll A c n p w0 (hp.up B0.out) lp Ip hn20).mono ?_
    rintro e w1 ⟨A1, M, c1, vs, rfl, s1, hm, b1⟩
    have S1 := Lib.hid s1
    have B1 : Hid (Below w.heap.size w w1) := Lib.hid (btr B0.out b1)
    have S0' := Lib.hid (S0.out.up b1)
    clear s1 b1
    go_wp2_with fail
    clear hs
    go_loopw [3, 5] (fun v i wr => ∃ k m A' c' vs', k ≤ M ∧ m ≤ k ∧ i = .int .i64 (k : Nat) ∧ v = .slice A' m c' ∧ SS wr w.heap.size w.heap.size A' m c' vs' (((cycs p).take k).filter longC) ∧
      (∀ i, i < m → ∃ j, j < k ∧ vs'.getD i sd0 = vs.getD j sd0) ∧ (∀ b, (Value.slice A' m c').ownBlock = some b → b < w0.heap.size ∨ w1.heap.size ≤ b) ∧ (∀ b, w0.heap.size ≤ b → b < w1.heap.size → wr.heap[b]? = w1.heap[b]?) ∧ w1.heap.size ≤ wr.heap.size ∧ Below w.heap.size w wr) (fun _ i _ => M - (intOf i).toNat)
    case atStart => exact ⟨0, 0, _, _, [], Nat.zero_le _, Nat.le_refl _, rfl, rfl, S0'.out, fun i h => absurd h (by omega), fun b hb => by simp [Value.ownBlock] at hb; left; omega, fun b _ _ => rfl, Nat.le_refl _, B1.out⟩
    case round =>
      obtain ⟨k, m, A', c', vs', hk, hmk, rfl, rfl, ss, sel, ob, md, sz, bel⟩ := hrel
      have Ss := Lib.hid ss
      have Sel := Lib.hid sel
      have Ob := Lib.hid ob
      have Md := Lib.hid md
      have Bel := Lib.hid bel
      have Sr := Lib.hid (S1.out.mid md (Nat.le_refl _) (Nat.le_refl _))
      clear ss sel bel ob md
      by_cases hlt : k < M
      · obtain ⟨g, rfl, hg1, hg2, hc⟩ := Sr.out.at_ (by omega)
        have c0 := hc k hlt
        obtain ⟨y, ey⟩ : ∃ y, (cycs p).getD k [] = y := ⟨_, rfl⟩
        have hrow := (Sr.out.row k hlt).mono B0.out.size
        rw [ey] at hrow
        have hdis : ∀ i, i < m → (sval (vs'.getD i sd0)).ownBlock = none ∨ (sval (vs'.getD i sd0)).ownBlock ≠ (Value.slice (vs.getD k sd0).1 (vs.getD k sd0).2.1 (vs.getD k sd0).2.2).ownBlock := fun i hi => by
          obtain ⟨j, hj, e⟩ := Sel.out i hi
          rw [e]
          exact Sr.out.dis j k hj hlt
        have Sel2 : Hid (∀ i, i < m + 1 → ∃ j, j < k + 1 ∧ (vs' ++ [((vs.getD k sd0).1, (vs.getD k sd0).2.1, (vs.getD k sd0).2.2)]).getD i sd0 = vs.getD j sd0) := Lib.hid fun i hi => by
          by_cases e : i < m
          · obtain ⟨j, hj, e2⟩ := Sel.out i e
            exact ⟨j, by omega, by rw [getD_app _ _ _ _ (by rw [Ss.out.lv]; exact e)]; exact e2⟩
          · exact ⟨k, by omega, by rw [getD_snoc _ _ _ _ (by rw [Ss.out.lv]; omega)]⟩
        have Sel1 : Hid (∀ i, i < m → ∃ j, j < k + 1 ∧ vs'.getD i sd0 = vs.getD j sd0) := Lib.hid fun i hi => by
          obtain ⟨j, hj, e2⟩ := Sel.out i hi
          exact ⟨j, by omega, e2⟩
        obtain ⟨l, el⟩ : ∃ l, (vs.getD k sd0).2.1 = l := ⟨_, rfl⟩
        obtain ⟨A5, e5⟩ : ∃ A5, (vs.getD k sd0).1 = A5 := ⟨_, rfl⟩
        obtain ⟨c5, ec5⟩ : ∃ c5, (vs.getD k sd0).2.2 = c5 := ⟨_, rfl⟩
        rw [e5, el, ec5] at c0 hrow hdis Sel2
        have Ey := Lib.hid ey
        have Row5 := Lib.hid hrow
        have Dis := Lib.hid hdis
        have hll := (Row5.out.le).2
        unfold maxLen at hll
        clear hrow hdis ey el e5 ec5 hc
        by_cases hl : 1 < l
        · have hlong : Hid (longC y = true) := Lib.hid (decide_eq_true (by rw [Row5.out.1]; exact hl))
          have c0' : (wr.alloc (.cells #[.slice A5 l c5] 27)).cell? ⟨g, k, none⟩ = some (.slice A5 l c5) := (World.cell?_alloc_lt wr _ ⟨g, k, none⟩ hg2).trans c0
          go_wp2_with (first | (at_builtin; refine wpList_app2_at rfl _ _ rfl rfl (Ss.out.alloc _) wr.heap.size A5 l c5 _ rfl (by rw [World.cell?_alloc_at _ _ _ _ rfl]; rfl) (Row5.out.alloc _) Dis.out (by omega) (by have := Bel.out.size; simp; omega) ?_; intro A3 c3 w3 ss3 hg3 hat3))
          have Ss3 := Lib.hid ss3
          have Bel3 : Hid (Below w.heap.size w w3) := Lib.hid ((Bel.out.alloc Bel.out.size _).grown hg3 (by have := Bel.out.size; simp; omega) (fun j hj => (Ss.out.lt_ j hj).1))
          have Hg3 := Lib.hid hg3
          have Hat3 := Lib.hid hat3
          have Sz3 : w1.heap.size ≤ w3.heap.size := by have := hg3.size; simp at this; omega
          clear ss3 hg3 hat3
          go_wp2
          go_roundw
          case rel =>
            refine ⟨k + 1, m + 1, A3, c3, _, by omega, by omega, by go_num, rfl, by rw [fil_yes (by rw [S1.out.lx]; exact hlt) Ey.out hlong.out]; exact Ss3.out, Sel2.out, fun b hb => ?_, fun b hb1 hb2 => ?_, Sz3, Bel3.out⟩
            · rcases Hat3.out with e | e
              · exact Ob.out b (by rw [← e]; exact hb)
              · rw [e] at hb; injection hb with hb; simp at hb; right; omega
            · rw [Hg3.out.block b (by simp; omega) (fun e => by have := Ob.out b e.symm; omega), Below.heap_alloc _ _ _ (by omega)]
              exact Md.out b hb1 hb2
          case measure => simp [intOf]; omega
        · have hlong : Hid (longC y = false) := Lib.hid (decide_eq_false (by rw [Row5.out.1]; exact hl))
          go_wp2
          go_roundw
          case rel => exact ⟨k + 1, m, A', c', vs', by omega, by omega, by go_num, rfl, by rw [fil_no (by rw [S1.out.lx]; exact hlt) Ey.out hlong.out]; exact Ss.out, Sel1.out, Ob.out, Md.out, sz, Bel.out⟩
          case measure => simp [intOf]; omega
      · have hkm : k = M := by omega
        subst hkm
        have Fq : Hid (((cycs p).take k).filter longC = cyclesL p) := Lib.hid (by rw [Fin.out, List.take_of_length_le (by rw [S1.out.lx]; exact Nat.le_refl _)])
        go_wp2
        go_ret
        exact ⟨_, _, _, _, rfl, by rw [← Fq.out]; exact Ss.out, by omega, Bel.out⟩
end Go.Proofs.Ytkjokchhffjidaa

/- FormatCycles, of the program and of the model. No condition but lengths. -/
namespace Go.Proofs.Ytkjokchhffjidaa
open Go.RowKit Go.Shelf


/-- Cycles, each in brackets. -/
def fmtCs (cs : List (List Int)) : List UInt8 := (cs.map fun c => 40 :: (fmtI c ++ [41])).flatten
theorem fmtCs_snoc (cs : List (List Int)) (c : List Int) : fmtCs (cs ++ [c]) = fmtCs cs ++ (40 :: (fmtI c ++ [41])) := by simp [fmtCs]
theorem fmtCs_take {cs : List (List Int)} {k : Nat} {y : List Int} (hk : k < cs.length) (e : cs.getD k [] = y) : fmtCs (cs.take (k + 1)) = fmtCs (cs.take k) ++ (40 :: (fmtI y ++ [41])) := by
  rw [List.take_succ_eq_append_getElem hk, fmtCs_snoc]
  rw [List.getD_eq_getElem?_getD, List.getElem?_eq_getElem hk] at e
  have e' : cs[k] = y := e
  rw [e']
theorem fmtCs_len (cs : List (List Int)) (h : ∀ c ∈ cs, Pts c ∧ c.length ≤ 20) : (fmtCs cs).length ≤ 62 * cs.length := by
  induction cs with
  | nil => exact Nat.le_refl _
  | cons c t ih =>
    have h1 := ih fun x hx => h x (by simp [hx])
    have h2 := h c (by simp)
    have h3 := fmtI_len h2.1
    have e : fmtCs (c :: t) = (40 :: (fmtI c ++ [41])) ++ fmtCs t := by simp [fmtCs]
    rw [e]
    simp; omega
/-- What FormatCycles writes. -/
def fmtCyc (p : List Int) : List UInt8 := if isP p = true then (if (cycl p).length = 0 then [40, 41] else fmtCs (cycl p)) else []
theorem cyc_pts {p : List Int} (h : IsP p) : ∀ c ∈ cycl p, Pts c ∧ 1 ≤ c.length ∧ c.length ≤ 20 := by
  intro c hc
  unfold cycl at hc
  rw [List.mem_filter] at hc
  obtain ⟨hc, _⟩ := hc
  rw [cycs_heads, List.mem_map] at hc
  obtain ⟨x, hx, rfl⟩ := hc
  have hxl : x < p.length := List.mem_range.1 (List.mem_filter.1 hx).1
  have hs := per_spec h hxl
  have hle := h.le
  rw [cyc_length]
  refine ⟨?_, hs.1, by omega⟩
  intro z hz
  unfold cyc at hz
  rw [List.mem_map] at hz
  obtain ⟨k, _, rfl⟩ := hz
  have := it_lt h hxl k
  omega
theorem cyc_at {p : List Int} (h : IsP p) {k : Nat} (hk : k < (cycl p).length) : Pts ((cycl p).getD k []) ∧ 1 ≤ ((cycl p).getD k []).length ∧ ((cycl p).getD k []).length ≤ 20 := by
  refine cyc_pts h _ ?_
  rw [List.getD_eq_getElem?_getD, List.getElem?_eq_getElem hk]
  exact List.getElem_mem hk
theorem br_toList (t : ByteArray) : ((⟨#[40]⟩ : ByteArray) ++ t ++ (⟨#[41]⟩ : ByteArray)).toList = 40 :: (t.toList ++ [41]) := by
  rw [toList_app, toList_app]
  have e1 : (⟨#[40]⟩ : ByteArray).toList = [40] := by rw [ByteArray.toList_eq]
  have e2 : (⟨#[41]⟩ : ByteArray).toList = [41] := by rw [ByteArray.toList_eq]
  rw [e1, e2]; simp


theorem fmtCs_zero {cs : List (List Int)} : fmtCs cs = [] ↔ cs.length = 0 := by
  cases cs with
  | nil => simp [fmtCs]
  | cons a t => simp [fmtCs]

set_option maxHeartbeats 1000000 in
/-- The model's FormatCycles. -/
theorem specFormatCycles (A : Option Addr) (c n : Nat) (p : List Int) (w : World) (hp : RI w w.heap.size A p) (lp : Hid (p.length = n)) (hn : n ≤ 2097152) (hc : n ≤ c) :
    Calls Try.prog 130 #[.slice A n c] w fun e w' => ∃ t, e = .returned (.string t) ∧ t.toList = fmtCyc p ∧ Below w.heap.size w w' := by
  rcases hs : isP p with _ | _
  · have Fin : Hid (fmtCyc p = []) := Lib.hid (if_neg (by rw [hs]; decide))
    go_enter Try.func130, Try.ntmps130
    go_wp2_with fail
    refine (quiet_below (specIsP A c n p w hp lp hn hc)).mono ?_
    rintro e w1 ⟨he, b1⟩
    rw [hs] at he
    subst he
    have B1 := Lib.hid b1
    clear b1
    go_wp2_with fail
    go_ret
    exact ⟨_, rfl, by rw [Fin.out]; exact empty_toList, B1.out⟩
  · have Ip := Lib.hid (isP_iff.1 hs)
    have Cl : Hid (cyclesL p = cycl p) := Lib.hid (if_pos hs)
    have Fin : Hid (fmtCyc p = if (cycl p).length = 0 then [40, 41] else fmtCs (cycl p)) := Lib.hid (if_pos hs)
    go_enter Try.func130, Try.ntmps130
    go_wp2_with fail
    refine (quiet_below (specIsP A c n p w hp lp hn hc)).mono ?_
    rintro e w1 ⟨he, b1⟩
    rw [hs] at he
    subst he
    have B1 := Lib.hid b1
    clear b1
    go_wp2_with fail
    refine (specCycles A c n p w1 (hp.up B1.out) lp hn hc).mono ?_
    rintro e w2 ⟨A2, m, c2, vs, rfl, s2, hm, b2⟩
    rw [Cl.out] at s2
    have S2 := Lib.hid s2
    have B2 : Hid (Below w.heap.size w w2) := Lib.hid (btr B1.out b2)
    have Lm := Lib.hid s2.lx
    clear s2 b2 hs
    go_wp2_with fail
    go_loopg [4, 5] m (fun gg sv i wr => ∃ k t, k ≤ m ∧ m - k ≤ gg ∧ i = .int .i64 (k : Nat) ∧ sv = .string t ∧ t.toList = fmtCs ((cycl p).take k) ∧ Below w2.heap.size w2 wr)
    case atStart => exact ⟨0, _, Nat.zero_le _, by omega, rfl, rfl, empty_toList, Below.refl _ _⟩
    case round =>
      obtain ⟨k, t, hk, hgg, rfl, rfl, ht, bel⟩ := hrel
      have T := Lib.hid ht
      have Bel := Lib.hid bel
      have Bw : Hid (Below w.heap.size w wr) := Lib.hid (btr B2.out bel)
      have Len : t.size ≤ 1240 := by
        have := fmtCs_len ((cycl p).take k) (fun c hc => by have := cyc_pts Ip.out c (List.mem_of_mem_take hc); exact ⟨this.1, this.2.2⟩)
        rw [List.length_take, ← ht, len_toList0] at this
        omega
      clear ht bel
      by_cases hlt : k < m
      · obtain ⟨g, rfl, hg1, hg2, hcel⟩ := S2.out.at_ (by omega)
        have c0 := (Bel.out.cell (p := ⟨g, k, none⟩) hg2).trans (hcel k hlt)
        obtain ⟨y, ey⟩ : ∃ y, (cycl p).getD k [] = y := ⟨_, rfl⟩
        have hy := cyc_at Ip.out (k := k) (by rw [Lm.out]; exact hlt)
        have hrow := (S2.out.row k hlt).up Bel.out
        rw [ey] at hrow hy
        obtain ⟨l, el⟩ : ∃ l, (vs.getD k sd0).2.1 = l := ⟨_, rfl⟩
        obtain ⟨A5, e5⟩ : ∃ A5, (vs.getD k sd0).1 = A5 := ⟨_, rfl⟩
        obtain ⟨c5, ec5⟩ : ∃ c5, (vs.getD k sd0).2.2 = c5 := ⟨_, rfl⟩
        rw [e5, el, ec5] at c0 hrow
        have Tk := Lib.hid (fmtCs_take (cs := cycl p) (by rw [Lm.out]; exact hlt) ey)
        have Row := Lib.hid hrow
        have Py := Lib.hid hy.1
        have hl1 : 1 ≤ l := by rw [← hrow.1]; exact hy.2.1
        have hl20 : l ≤ 20 := by rw [← hrow.1]; exact hy.2.2
        have sz0 : ¬ 9223372036854775807 < t.size + 1 := by omega
        clear hrow hy ey el e5 ec5 hcel
        go_wp2_with fail
        refine (specFmt A5 c5 l y wr Row.out.ri_ Row.out.hid Py hl1 hl20).mono ?_
        rintro e w4 ⟨u, rfl, hu, b4⟩
        have Hu := Lib.hid hu
        have ts : u.size ≤ 60 := by
          have := fmtI_len Py.out
          rw [← hu, len_toList0, Row.out.1] at this
          omega
        have Bel4 : Hid (Below w2.heap.size w2 w4) := Lib.hid (btr Bel.out b4)
        have sz1 : ¬ 9223372036854775807 < t.size + 1 + u.size := by omega
        have sz2 : ¬ 9223372036854775807 < t.size + 1 + u.size + 1 := by omega
        have tl : Hid ((t ++ (⟨#[40]⟩ : ByteArray) ++ u ++ (⟨#[41]⟩ : ByteArray)).toList = fmtCs ((cycl p).take (k + 1))) := Lib.hid (by
          rw [Tk.out, toList_app, toList_app, toList_app, T.out, Hu.out]
          have e1 : (⟨#[40]⟩ : ByteArray).toList = [40] := by rw [ByteArray.toList_eq]
          have e2 : (⟨#[41]⟩ : ByteArray).toList = [41] := by rw [ByteArray.toList_eq]
          rw [e1, e2]; simp)
        clear hu b4
        go_wp2_with fail
        go_roundg (m - (k + 1))
        case rel => exact ⟨k + 1, _, by omega, Nat.le_refl _, by go_num, rfl, tl.out, Bel4.out⟩
        case measure => omega
      · have hkm : k = m := by omega
        subst hkm
        have T2 : Hid (t.toList = fmtCs (cycl p)) := Lib.hid (by rw [T.out, List.take_of_length_le (by rw [Lm.out]; exact Nat.le_refl _)])
        by_cases h0 : k = 0
        · have F : Hid (fmtCyc p = [40, 41]) := Lib.hid (by rw [Fin.out, if_pos (by rw [Lm.out]; exact h0)])
          have te : t.toList.isEmpty = true := by rw [T2.out, List.isEmpty_iff, fmtCs_zero, Lm.out]; exact h0
          clear h0
          go_wp2_with fail
          go_ret
          exact ⟨_, rfl, by rw [F.out, ByteArray.toList_eq], Bw.out⟩
        · have F : Hid (fmtCyc p = fmtCs (cycl p)) := Lib.hid (by rw [Fin.out, if_neg (by rw [Lm.out]; exact h0)])
          have te : t.toList.isEmpty = false := by
            rw [Bool.eq_false_iff]; intro e; rw [List.isEmpty_iff, T2.out, fmtCs_zero, Lm.out] at e; exact h0 e
          clear h0
          go_wp2_with fail
          go_ret
          exact ⟨t, rfl, by rw [T2.out, F.out], Bw.out⟩
end Go.Proofs.Ytkjokchhffjidaa

/- Plain facts: a text of cycles reads back as the permutation, by the program's way and by the model's. No Go in it. -/
namespace Go.Proofs.Ytkjokchhffjidaa

/-- The first k points of a cycle set, each to the next one. -/
def setK (q : List Int) (xs : List Nat) : Nat → List Int
  | 0 => q
  | k + 1 => (setK q xs k).set (xs.getD k 0) (xs.getD ((k + 1) % xs.length) 0 : Nat)
def setAll (q : List Int) (xs : List Nat) : List Int := setK q xs xs.length
def allLt (n : Nat) (xs : List Nat) : Bool := xs.all fun x => decide (x < n)
theorem setK_len (q : List Int) (xs : List Nat) (k : Nat) : (setK q xs k).length = q.length := by
  induction k with
  | zero => rfl
  | succ k ih => rw [setK, List.length_set, ih]
theorem setAll_len (q : List Int) (xs : List Nat) : (setAll q xs).length = q.length := setK_len _ _ _
theorem set_D {x : List Int} {i j : Nat} (hj : j < x.length) (u : Int) : (x.set i u).getD j 0 = if i = j then u else x.getD j 0 := by
  rw [List.getD_eq_getElem?_getD, List.getElem?_set]
  by_cases e : i = j
  · subst e; rw [if_pos rfl, if_pos hj, if_pos rfl]; rfl
  · rw [if_neg e, if_neg e, ← List.getD_eq_getElem?_getD]
theorem setK_get {q : List Int} {xs : List Nat} (f : Nat → Nat) (hv : ∀ i, i < xs.length → xs.getD ((i + 1) % xs.length) 0 = f (xs.getD i 0)) {j : Nat} (hj : j < q.length) :
    ∀ k, k ≤ xs.length → (setK q xs k).getD j 0 = if j ∈ xs.take k then (f j : Int) else q.getD j 0 := by
  intro k
  induction k with
  | zero => intro _; simp [setK]
  | succ k ih =>
    intro hk
    rw [setK, set_D (by rw [setK_len]; exact hj), ih (by omega), hv k (by omega), List.take_succ_eq_append_getElem (by omega)]
    have e : xs.getD k 0 = xs[k] := by rw [List.getD_eq_getElem?_getD, List.getElem?_eq_getElem (by omega)]; rfl
    rw [e]
    by_cases h : xs[k] = j
    · rw [if_pos h, if_pos (by simp [h]), h]
    · rw [if_neg h]
      by_cases h2 : j ∈ xs.take k
      · rw [if_pos h2, if_pos (List.mem_append.2 (.inl h2))]
      · rw [if_neg h2, if_neg (by simp only [List.mem_append, List.mem_singleton, not_or]; exact ⟨h2, fun e => h e.symm⟩)]
def foldC (q : List Int) (cs : List (List Nat)) : List Int := cs.foldl setAll q
theorem foldC_len (cs : List (List Nat)) : ∀ q, (foldC q cs).length = q.length := by
  induction cs with
  | nil => intro q; rfl
  | cons c t ih => intro q; show (foldC (setAll q c) t).length = _; rw [ih, setAll_len]
theorem foldC_get (f : Nat → Nat) (cs : List (List Nat)) (hv : ∀ c ∈ cs, ∀ i, i < c.length → c.getD ((i + 1) % c.length) 0 = f (c.getD i 0)) {j : Nat} :
    ∀ q : List Int, j < q.length → (foldC q cs).getD j 0 = if ∃ c ∈ cs, j ∈ c then (f j : Int) else q.getD j 0 := by
  induction cs with
  | nil => intro q hj; simp [foldC]
  | cons c t ih =>
    intro q hj
    show (foldC (setAll q c) t).getD j 0 = _
    rw [ih (fun d hd => hv d (by simp [hd])) _ (by rw [setAll_len]; exact hj)]
    unfold setAll
    rw [setK_get f (hv c (by simp)) hj _ (Nat.le_refl _), List.take_of_length_le (Nat.le_refl _)]
    by_cases h1 : ∃ d ∈ t, j ∈ d
    · rw [if_pos h1]
      obtain ⟨d, hd, hm⟩ := h1
      rw [if_pos ⟨d, by simp [hd], hm⟩]
    · rw [if_neg h1]
      by_cases h2 : j ∈ c
      · rw [if_pos h2, if_pos ⟨c, by simp, h2⟩]
      · rw [if_neg h2, if_neg]
        rintro ⟨d, hd, hm⟩
        rw [List.mem_cons] at hd
        rcases hd with rfl | hd
        · exact h2 hm
        · exact h1 ⟨d, hd, hm⟩
/-- The cycles of two points and more, as numbers. -/
def cyN (p : List Int) : List (List Nat) := (cycl p).map fun c => c.map Int.toNat
theorem cyN_mem {p : List Int} {c : List Nat} (h : c ∈ cyN p) : ∃ x, x < p.length ∧ 1 < per p x ∧ c = (List.range (per p x)).map fun k => it p k x := by
  unfold cyN at h
  rw [List.mem_map] at h
  obtain ⟨d, hd, rfl⟩ := h
  unfold cycl at hd
  rw [List.mem_filter] at hd
  obtain ⟨hd, hl⟩ := hd
  rw [cycs_heads, List.mem_map] at hd
  obtain ⟨x, hx, rfl⟩ := hd
  refine ⟨x, List.mem_range.1 (List.mem_filter.1 hx).1, by simpa [cyc_length] using hl, ?_⟩
  unfold cyc
  rw [List.map_map]
  rfl
theorem rmap_getD (n : Nat) (f : Nat → Nat) {i : Nat} (h : i < n) : ((List.range n).map f).getD i 0 = f i := by
  rw [List.getD_eq_getElem?_getD, List.getElem?_map, List.getElem?_range h]; rfl
theorem fold_cycl {p : List Int} (hp : IsP p) : foldC (idL p.length) (cyN p) = p := by
  refine ext_getD (n := p.length) ((foldC_len _ _).trans (idL_length _)) rfl fun j hj => ?_
  rw [foldC_get (nx p) _ ?_ _ (by rw [idL_length]; exact hj)]
  · by_cases h : ∃ c ∈ cyN p, j ∈ c
    · rw [if_pos h, nx_val hp hj]
    · rw [if_neg h, idL_getD hj]
      obtain ⟨c, k, hc, hst, hk, e⟩ := min_ex hp hj
      have h1 : ¬ 1 < per p c := fun hl => h ⟨(cyc p c).map Int.toNat, List.mem_map_of_mem (by
        unfold cycl
        rw [List.mem_filter]
        refine ⟨?_, by simpa [cyc_length] using hl⟩
        rw [cycs_heads]
        exact List.mem_map_of_mem (List.mem_filter.2 ⟨List.mem_range.2 hc, hst⟩)), by
          unfold cyc
          rw [List.map_map, List.mem_map]
          exact ⟨k, List.mem_range.2 hk, by rw [← e]; rfl⟩⟩
      have hs := per_spec hp hc
      have h0 : k = 0 := by omega
      subst h0
      have hper : per p c = 1 := by omega
      have e2 : nx p c = c := by have := hs.2.2.1; rw [hper] at this; exact this
      have e3 : c = j := e
      rw [nx_val hp hj, ← e3, e2]
  · intro c hc i hi
    obtain ⟨x, hx, hl, rfl⟩ := cyN_mem hc
    rw [List.length_map, List.length_range] at hi ⊢
    have hm := Nat.mod_lt (i + 1) (show 0 < per p x by omega)
    rw [rmap_getD _ _ hm, rmap_getD _ _ hi, ← it_mod hp hx (i + 1)]
    rfl
theorem cyN_lt {p : List Int} (hp : IsP p) : ∀ c ∈ cyN p, allLt p.length c = true := by
  intro c hc
  obtain ⟨x, hx, _, rfl⟩ := cyN_mem hc
  unfold allLt
  rw [List.all_eq_true]
  intro y hy
  rw [List.mem_map] at hy
  obtain ⟨k, _, rfl⟩ := hy
  exact decide_eq_true (it_lt hp hx k)

/-- A cycle from the head of a text, the program's way. -/
def cycP (l : List UInt8) : Option (List Nat × List UInt8) :=
  if l.head? = some 40 then
    if l.tail.head? = some 41 then some ([], l.tail.tail)
    else match numsP l.tail with
      | none => none
      | some y => if y.2.head? = some 41 then some (y.1, y.2.tail) else none
  else none
theorem numsP_len : ∀ (n : Nat) (l : List UInt8), l.length ≤ n → ∀ y, numsP l = some y → y.2.length ≤ l.length := by
  intro n
  induction n with
  | zero =>
    intro l hl y h
    obtain rfl : l = [] := List.eq_nil_of_length_eq_zero (by omega)
    rw [numsP_none (by decide)] at h; cases h
  | succ n ih =>
    intro l hl y h
    have hdw : (l.dropWhile isD).length ≤ l.length := (List.dropWhile_sublist _).length_le
    cases hp : pD (l.takeWhile isD) with
    | none => rw [numsP_none hp] at h; cases h
    | some x =>
      by_cases h2 : (l.dropWhile isD).head? = some 32
      · rw [numsP_more hp h2] at h
        cases hr : l.dropWhile isD with
        | nil => rw [hr] at h2; cases h2
        | cons a t =>
          rw [hr] at h hdw
          simp at hdw
          cases h3 : numsP t with
          | none => rw [List.tail_cons, h3] at h; cases h
          | some z =>
            rw [List.tail_cons, h3] at h
            have h4 := ih t (by omega) z h3
            have h5 : y = (x :: z.1, z.2) := by simpa using h.symm
            rw [h5]
            show z.2.length ≤ _
            omega
      · rw [numsP_last hp h2] at h
        have h5 : y = ([x], l.dropWhile isD) := by simpa using h.symm
        rw [h5]; exact hdw
theorem cycP_len {l r : List UInt8} {xs : List Nat} (h : cycP l = some (xs, r)) : r.length < l.length := by
  unfold cycP at h
  cases l with
  | nil => simp at h
  | cons a t =>
    by_cases h0 : (a :: t).head? = some 40
    · rw [if_pos h0, List.tail_cons] at h
      by_cases h1 : t.head? = some 41
      · rw [if_pos h1] at h
        have e : t.tail = r := by simpa using (congrArg (fun o => o.map Prod.snd) h)
        rw [← e]
        simp; omega
      · rw [if_neg h1] at h
        cases h3 : numsP t with
        | none => rw [h3] at h; cases h
        | some y =>
          rw [h3] at h
          have hl := numsP_len _ t (Nat.le_refl _) y h3
          by_cases h4 : y.2.head? = some 41
          · simp only [if_pos h4] at h
            have e : y.2.tail = r := by simpa using (congrArg (fun o => o.map Prod.snd) h)
            rw [← e]
            simp; omega
          · simp only [if_neg h4] at h; cases h
    · rw [if_neg h0] at h; cases h
/-- All cycles of a text, the program's way. -/
def pcI : Nat → List Int → List UInt8 → Option (List Int)
  | 0, _, _ => none
  | f + 1, q, l => if l = [] then some q else match cycP l with
    | none => none
    | some y => if allLt q.length y.1 = true then pcI f (setAll q y.1) y.2 else none
theorem toNat_pts {c : List Int} (h : Pts c) : Pts c ∧ ofN (c.map Int.toNat) = c := by
  refine ⟨h, ?_⟩
  unfold ofN
  rw [List.map_map]
  conv => rhs; rw [← List.map_id c]
  exact List.map_congr_left fun x hx => by have := h x hx; show ((x.toNat : Nat) : Int) = x; omega
theorem fmtI_ne {c : List Int} (hp : Pts c) (hc : c ≠ []) : ∃ b t, fmtI c = b :: t ∧ isD b = true := by
  cases c with
  | nil => exact absurd rfl hc
  | cons x r =>
    have hx := hp x (by simp)
    obtain ⟨d1, d2, d3, d4, d5, d6⟩ := dig_facts x.toNat (by omega)
    have hd : ∃ b t, dig x.toNat = b :: t ∧ isD b = true := by
      cases e : dig x.toNat with
      | nil => exact absurd e d6
      | cons b t => rw [e, List.all_cons, Bool.and_eq_true] at d1; exact ⟨b, t, rfl, d1.1⟩
    obtain ⟨b, t, e, hb⟩ := hd
    by_cases hr : r = []
    · subst hr; exact ⟨b, t, e, hb⟩
    · rw [fmtI_cons x hr, e]; exact ⟨b, _, rfl, hb⟩
theorem cycP_yes {t r : List UInt8} {xs : List Nat} (h : t.head? ≠ some 41) (hn : numsP t = some (xs, 41 :: r)) : cycP (40 :: t) = some (xs, r) := by
  unfold cycP
  simp [h, hn]
theorem cycP_fmt {c : List Int} (hp : Pts c) (hc : c ≠ []) (r : List UInt8) : cycP (40 :: (fmtI c ++ [41]) ++ r) = some (c.map Int.toNat, r) := by
  obtain ⟨b, t, e, hb⟩ := fmtI_ne hp hc
  have h1 : (fmtI c ++ [41] ++ r).head? ≠ some 41 := by
    rw [e]; simp
    intro e2; subst e2; exact absurd hb (by decide)
  rw [List.cons_append]
  refine cycP_yes h1 ?_
  rw [List.append_assoc]
  exact numsP_fmt c ([41] ++ r) hp hc (by intro b hb; simp at hb; subst hb; decide)
theorem fmtCs_cons (c : List Int) (cs : List (List Int)) : fmtCs (c :: cs) = 40 :: (fmtI c ++ [41]) ++ fmtCs cs := by simp [fmtCs]
theorem pcI_fmt : ∀ (cs : List (List Int)) (q : List Int) (f : Nat), (∀ c ∈ cs, Pts c ∧ c ≠ [] ∧ allLt q.length (c.map Int.toNat) = true) → (fmtCs cs).length < f → pcI f q (fmtCs cs) = some (foldC q (cs.map fun c => c.map Int.toNat)) := by
  intro cs
  induction cs with
  | nil =>
    intro q f _ hf
    cases f with
    | zero => simp at hf
    | succ f => simp [pcI, fmtCs, foldC]
  | cons c t ih =>
    intro q f h hf
    cases f with
    | zero => simp at hf
    | succ f =>
      obtain ⟨h1, h2, h3⟩ := h c (by simp)
      rw [fmtCs_cons, pcI, if_neg (by simp), cycP_fmt h1 h2]
      simp only [h3, if_true]
      rw [ih (setAll q (c.map Int.toNat)) f (fun d hd => by have := h d (by simp [hd]); rw [setAll_len]; exact this) (by rw [fmtCs_cons] at hf; simp at hf; omega)]
      rfl
theorem cycl_all {p : List Int} (hp : IsP p) : ∀ c ∈ cycl p, Pts c ∧ c ≠ [] ∧ allLt p.length (c.map Int.toNat) = true := by
  intro c hc
  have h1 := cyc_pts hp c hc
  exact ⟨h1.1, fun e => by rw [e] at h1; simp at h1, cyN_lt hp _ (List.mem_map_of_mem hc)⟩
theorem pcI_id (n f : Nat) (hf : 2 < f) : pcI f (idL n) [40, 41] = some (idL n) := by
  obtain ⟨g, rfl⟩ : ∃ g, f = g + 2 := ⟨f - 2, by omega⟩
  rw [pcI, if_neg (by simp)]
  have : cycP [40, 41] = some ([], []) := rfl
  rw [this]
  simp [allLt, pcI, setAll, setK]
theorem cyN_nil {p : List Int} (h : (cycl p).length = 0) : cyN p = [] := by unfold cyN; rw [List.eq_nil_of_length_eq_zero h]; rfl
/-- The program's reading of a permutation's text gives the permutation. -/
theorem pcI_back {p : List Int} (hp : IsP p) (f : Nat) (hf : (fmtCyc p).length < f) : pcI f (idL p.length) (fmtCyc p) = some p := by
  have hi := isP_iff.2 hp
  unfold fmtCyc at hf ⊢
  rw [if_pos hi] at hf ⊢
  by_cases h0 : (cycl p).length = 0
  · rw [if_pos h0] at hf ⊢
    rw [pcI_id _ _ (by simpa using hf)]
    have := fold_cycl hp
    rw [cyN_nil h0] at this
    rw [show idL p.length = p from this]
  · rw [if_neg h0] at hf ⊢
    rw [pcI_fmt (cycl p) (idL p.length) f (by rw [idL_length]; exact cycl_all hp) hf]
    exact congrArg some (fold_cycl hp)
theorem pcI_len : ∀ (f : Nat) (q : List Int) (l : List UInt8) (p : List Int), pcI f q l = some p → p.length = q.length := by
  intro f
  induction f with
  | zero => intro q l p h; cases h
  | succ f ih =>
    intro q l p h
    rw [pcI] at h
    by_cases hl : l = []
    · rw [if_pos hl] at h; rw [← Option.some.inj h]
    · rw [if_neg hl] at h
      cases hc : cycP l with
      | none => rw [hc] at h; cases h
      | some y =>
        rw [hc] at h
        by_cases ha : allLt q.length y.1 = true
        · simp only [if_pos ha] at h
          rw [ih _ _ _ h, setAll_len]
        · simp only [if_neg ha] at h; cases h
/-- p is the permutation of degree n that the text l writes. -/
def Wr (n : Nat) (l : List UInt8) (p : List Int) : Prop := IsP p ∧ p.length = n ∧ fmtCyc p = l
def chk (l : List UInt8) (o : Option (List Int)) : Option (List Int) := match o with
  | none => none
  | some p => if fmtCyc p = l then some p else none
theorem id_isP {n : Nat} (h1 : 1 ≤ n) (h2 : n ≤ 20) : IsP (idL n) := by
  refine ⟨by rw [idL_length]; exact h1, by rw [idL_length]; exact h2, fun i hi => ?_, fun i hi => ?_, fun i j hi hj e => ?_⟩
  · rw [idL_length] at hi; rw [idL_getD hi]; omega
  · rw [idL_length] at hi ⊢; rw [idL_getD hi]; omega
  · rw [idL_length] at hi hj; rw [idL_getD hi, idL_getD hj] at e; omega
theorem fmtCyc_ne {p : List Int} (h : fmtCyc p ≠ []) : IsP p := by
  rw [← isP_iff]
  cases hs : isP p with
  | true => rfl
  | false => exact absurd (if_neg (by rw [hs]; decide)) h
/-- What the program reads is just what is written. -/
theorem chk_pcI {n : Nat} (h1 : 1 ≤ n) (h2 : n ≤ 20) {l : List UInt8} {f : Nat} (hf : l.length < f) (p : List Int) : chk l (pcI f (idL n) l) = some p ↔ Wr n l p := by
  constructor
  · intro h
    cases ho : pcI f (idL n) l with
    | none => rw [ho] at h; cases h
    | some q =>
      rw [ho] at h
      unfold chk at h
      by_cases e : fmtCyc q = l
      · simp only [if_pos e] at h
        obtain rfl := Option.some.inj h
        have hl : q.length = n := by rw [pcI_len _ _ _ _ ho, idL_length]
        refine ⟨?_, hl, e⟩
        by_cases hn : l = []
        · subst hn
          cases f with
          | zero => cases ho
          | succ f =>
            rw [pcI, if_pos rfl] at ho
            rw [← Option.some.inj ho]
            exact id_isP h1 h2
        · exact fmtCyc_ne (by rw [e]; exact hn)
      · simp only [if_neg e] at h; cases h
  · rintro ⟨hp, hl, e⟩
    have := pcI_back hp f (by rw [e]; exact hf)
    rw [hl, e] at this
    rw [this]
    unfold chk
    simp [e]

/-- The model's way: the pieces between the closing brackets. -/
def pcS : Bool → List Int → List (List UInt8) → Option (List Int)
  | _, q, [] => some q
  | first, q, part :: ps =>
    match (if first = true then some part else if part.head? = some 40 then some part.tail else none) with
    | none => none
    | some b => match wordsP 32 b with
      | none => none
      | some xs => if allLt q.length xs = true then pcS false (setAll q xs) ps else none
def pcM (n : Nat) (l : List UInt8) : Option (List Int) :=
  if l = [40, 41] then some (idL n) else if 2 ≤ l.length ∧ l.head? = some 40 ∧ l.getLast? = some 41 then pcS true (idL n) (splitB 41 ((l.drop 1).take (l.length - 2))) else none
theorem pcS_first (q : List Int) (part : List UInt8) (ps : List (List UInt8)) : pcS true q (part :: ps) = match wordsP 32 part with
      | none => none
      | some xs => if allLt q.length xs = true then pcS false (setAll q xs) ps else none := by simp only [pcS, if_true]
theorem pcS_next (q : List Int) (t : List UInt8) (ps : List (List UInt8)) : pcS false q ((40 :: t) :: ps) = match wordsP 32 t with
      | none => none
      | some xs => if allLt q.length xs = true then pcS false (setAll q xs) ps else none := by simp [pcS]
theorem pcS_bad (q : List Int) (part : List UInt8) (ps : List (List UInt8)) (h : part.head? ≠ some 40) : pcS false q (part :: ps) = none := by simp [pcS, h]
theorem pcS_fmt : ∀ (cs : List (List Int)) (q : List Int), (∀ c ∈ cs, Pts c ∧ c ≠ [] ∧ allLt q.length (c.map Int.toNat) = true) → pcS false q (cs.map fun c => 40 :: fmtI c) = some (foldC q (cs.map fun c => c.map Int.toNat)) := by
  intro cs
  induction cs with
  | nil => intro q _; rfl
  | cons c t ih =>
    intro q h
    obtain ⟨h1, h2, h3⟩ := h c (by simp)
    rw [List.map_cons, pcS_next, wordsP_fmt h1 h2]
    simp only [h3, if_true]
    rw [ih _ fun d hd => by have := h d (by simp [hd]); rw [setAll_len]; exact this]
    rfl
theorem fmtI_no41 {c : List Int} (h : Pts c) : ∀ x ∈ fmtI c, x ≠ 41 := by
  induction c with
  | nil => intro x hx; cases hx
  | cons a t ih =>
    intro x hx
    have ha := h a (by simp)
    have hd := (dig_facts a.toNat (by omega)).1
    by_cases e : t = []
    · subst e
      exact all_isD_ne hd 41 (by decide) x hx
    · rw [fmtI_cons a e, List.mem_append] at hx
      rcases hx with hx | hx
      · exact all_isD_ne hd 41 (by decide) x hx
      · rw [List.mem_cons] at hx
        rcases hx with rfl | hx
        · decide
        · exact ih h.tail x hx
theorem inner_jn : ∀ (c : List Int) (cs : List (List Int)), fmtCs (c :: cs) = 40 :: (jn 41 (fmtI c :: cs.map fun d => 40 :: fmtI d) ++ [41]) := by
  intro c cs
  induction cs generalizing c with
  | nil => simp [fmtCs, jn]
  | cons d t ih =>
    rw [fmtCs_cons, ih d, List.map_cons, jn_cons 41 (fmtI c) (by simp)]
    have : ∀ (a : List UInt8) r, jn 41 ((40 :: a) :: r) = 40 :: jn 41 (a :: r) := by
      intro a r
      cases r with
      | nil => rfl
      | cons x y => rfl
    rw [this]
    simp
theorem pcM_back {p : List Int} (hp : IsP p) : pcM p.length (fmtCyc p) = some p := by
  have hi := isP_iff.2 hp
  unfold fmtCyc
  rw [if_pos hi]
  by_cases h0 : (cycl p).length = 0
  · rw [if_pos h0]
    unfold pcM
    rw [if_pos rfl]
    have := fold_cycl hp
    rw [cyN_nil h0] at this
    exact congrArg some this
  · rw [if_neg h0]
    have hf := fold_cycl hp
    have hall := cycl_all hp
    unfold cyN at hf
    cases hc : cycl p with
    | nil => rw [hc] at h0; simp at h0
    | cons c cs =>
      rw [hc] at hf hall
      obtain ⟨h1, h2, h3⟩ := hall c (by simp)
      obtain ⟨b, t, eb, hb⟩ := fmtI_ne h1 h2
      have hj := inner_jn c cs
      have hno : ∀ w ∈ fmtI c :: cs.map (fun d => 40 :: fmtI d), ∀ x ∈ w, x ≠ 41 := by
        intro w hw
        rw [List.mem_cons] at hw
        rcases hw with rfl | hw
        · exact fmtI_no41 h1
        · rw [List.mem_map] at hw
          obtain ⟨d, hd, rfl⟩ := hw
          intro x hx
          rw [List.mem_cons] at hx
          rcases hx with rfl | hx
          · decide
          · exact fmtI_no41 (hall d (by simp [hd])).1 x hx
      have hsp := splitB_jn 41 _ (by simp) hno
      generalize hJ : jn 41 (fmtI c :: cs.map fun d => 40 :: fmtI d) = J at hj hsp
      have hne : fmtCs (c :: cs) ≠ [40, 41] := by
        rw [fmtCs_cons, eb]
        intro e
        simp at e
      unfold pcM
      have c1 : 2 ≤ (40 :: (J ++ [41])).length := by rw [List.length_cons, List.length_append]; simp
      have c3 : (40 :: (J ++ [41])).getLast? = some 41 := by rw [← List.cons_append]; exact List.getLast?_concat
      rw [if_neg hne, hj, if_pos ⟨c1, rfl, c3⟩]
      have ei : ((40 :: (J ++ [41])).drop 1).take ((40 :: (J ++ [41])).length - 2) = J := by
        rw [List.drop_succ_cons, List.drop_zero]
        have : (40 :: (J ++ [41])).length - 2 = J.length := by simp
        rw [this, List.take_left' rfl]
      rw [ei, hsp, pcS_first, wordsP_fmt h1 h2, idL_length]
      simp only [h3, if_true]
      rw [pcS_fmt cs _ fun d hd => by have := hall d (by simp [hd]); rw [setAll_len, idL_length]; exact this]
      exact congrArg some hf
theorem pcS_len : ∀ (ps : List (List UInt8)) (b : Bool) (q p : List Int), pcS b q ps = some p → p.length = q.length := by
  intro ps
  induction ps with
  | nil => intro b q p h; rw [pcS] at h; rw [← Option.some.inj h]
  | cons part t ih =>
    intro b q p h
    rw [pcS] at h
    split at h
    · cases h
    · split at h
      · cases h
      · split at h
        · rw [ih _ _ _ h, setAll_len]
        · cases h
theorem chk_pcM {n : Nat} (h1 : 1 ≤ n) (h2 : n ≤ 20) {l : List UInt8} (p : List Int) : chk l (pcM n l) = some p ↔ Wr n l p := by
  constructor
  · intro h
    cases ho : pcM n l with
    | none => rw [ho] at h; cases h
    | some q =>
      rw [ho] at h
      unfold chk at h
      by_cases e : fmtCyc q = l
      · simp only [if_pos e] at h
        obtain rfl := Option.some.inj h
        have hne : l ≠ [] := by
          intro e2; subst e2
          unfold pcM at ho
          rw [if_neg (by simp), if_neg (by simp)] at ho
          cases ho
        refine ⟨fmtCyc_ne (by rw [e]; exact hne), ?_, e⟩
        unfold pcM at ho
        split at ho
        · rw [← Option.some.inj ho, idL_length]
        · split at ho
          · rw [pcS_len _ _ _ _ ho, idL_length]
          · cases ho
      · simp only [if_neg e] at h; cases h
  · rintro ⟨hp, hl, e⟩
    have := pcM_back hp
    rw [hl, e] at this
    rw [this]
    unfold chk
    simp [e]
/-- What ParseCycles reads. -/
def cycO (n : Int) (s : ByteArray) : Option (List Int) := if 1 ≤ n ∧ n ≤ 20 ∧ s.size ≤ 200 then chk s.toList (pcI (s.size + 1) (idL n.toNat) s.toList) else none
theorem cycO_model {n : Int} {s : ByteArray} (h : 1 ≤ n ∧ n ≤ 20 ∧ s.size ≤ 200) : cycO n s = chk s.toList (pcM n.toNat s.toList) := by
  rw [cycO, if_pos h]
  have a := chk_pcI (n := n.toNat) (by omega) (by omega) (l := s.toList) (f := s.size + 1) (by rw [len_toList0]; omega)
  have b := chk_pcM (n := n.toNat) (by omega) (by omega) (l := s.toList)
  cases hx : chk s.toList (pcI (s.size + 1) (idL n.toNat) s.toList) with
  | some p => exact ((b p).2 ((a p).1 hx)).symm
  | none =>
    cases hy : chk s.toList (pcM n.toNat s.toList) with
    | none => rfl
    | some q => rw [(a q).2 ((b q).1 hy)] at hx; cases hx
theorem cycO_wr {n : Int} {s : ByteArray} (h : 1 ≤ n ∧ n ≤ 20 ∧ s.size ≤ 200) (p : List Int) : cycO n s = some p ↔ Wr n.toNat s.toList p := by
  rw [cycO, if_pos h]
  exact chk_pcI (by omega) (by omega) (by rw [len_toList0]; omega) p
end Go.Proofs.Ytkjokchhffjidaa

/- ParseCycles, of the program and of the model. Condition: at most 2097152 bytes. -/
namespace Go.Proofs.Ytkjokchhffjidaa
open Go.RowKit

theorem idOut (n : Int) (w : World) (h : n < 1 ∨ 20 < n) : Calls Try.prog 60 #[.int .i64 n] w fun e w' => e = .returned (.slice none 0 0) ∧ w' = w := by
  by_cases h1 : n < 1
  · have d1 : decide ((n : Int) < 1) = true := by simp; omega
    go_enter Try.func60, Try.ntmps60
    go_wp2
    go_ret
    exact ⟨rfl, rfl⟩
  · have d1 : decide ((n : Int) < 1) = false := by simp; omega
    have d2 : decide ((20 : Int) < n) = true := by simp; omega
    go_enter Try.func60, Try.ntmps60
    go_wp2
    go_ret
    exact ⟨rfl, rfl⟩

theorem grown_join {w w1 w' : World} {row : Option Nat} (h : w.grownBy w1 row) (b : w1.grownBy w' row) : w.grownBy w' row :=
  ⟨b.os.trans h.os, b.tape.trans h.tape, b.output.trans h.output, Nat.le_trans h.size b.size, fun i hi hne => (b.block i (Nat.lt_of_lt_of_le hi h.size) hne).trans (h.block i hi hne)⟩

theorem cycP_no {l : List UInt8} (h : l.head? ≠ some 40) : cycP l = none := if_neg h
theorem cycP_empty {l r : List UInt8} (h : l = 40 :: 41 :: r) : cycP l = some ([], r) := by subst h; rfl
theorem cycP_nums {l t : List UInt8} (h : l = 40 :: t) (h2 : t.head? ≠ some 41) : cycP l = match numsP t with
      | none => none
      | some y => if y.2.head? = some 41 then some (y.1, y.2.tail) else none := by
  subst h; unfold cycP; simp [h2]
  try (cases numsP t <;> rfl)


end Go.Proofs.Ytkjokchhffjidaa

/- The program's ParseCycles. Condition: at most 2097152 bytes. -/
namespace Go.Proofs.Ytkjokchhffjidaa
open Go.RowKit

theorem cycO_out {n : Int} {s : ByteArray} (h : ¬ (1 ≤ n ∧ n ≤ 20 ∧ s.size ≤ 200)) : cycO n s = none := if_neg h
theorem pcI_end {f : Nat} {q : List Int} (hf : 0 < f) : pcI f q [] = some q := by
  cases f with
  | zero => omega
  | succ f => simp [pcI]
theorem pcI_none {f : Nat} {q : List Int} {l : List UInt8} (hl : l ≠ []) (h : cycP l = none) : pcI f q l = none := by
  cases f with
  | zero => rfl
  | succ f => rw [pcI, if_neg hl, h]
theorem pcI_step {f : Nat} {q : List Int} {l r : List UInt8} {xs : List Nat} (hl : l ≠ []) (h : cycP l = some (xs, r)) : pcI (f + 1) q l = if allLt q.length xs = true then pcI f (setAll q xs) r else none := by
  rw [pcI, if_neg hl, h]
theorem chk_yes {l : List UInt8} {q : List Int} (h : fmtCyc q = l) : chk l (some q) = some q := by unfold chk; simp [h]
theorem chk_no {l : List UInt8} {q : List Int} (h : fmtCyc q ≠ l) : chk l (some q) = none := by unfold chk; simp [h]


end Go.Proofs.Ytkjokchhffjidaa

/- ParseImages, of the program and of the model. Condition: at most 2097152 bytes. -/
namespace Go.Proofs.Ytkjokchhffjidaa
open Go.RowKit

/-- The permutation that a list of numbers is, if it is one. -/
def permO (o : Option (List Nat)) : Option (List Int) := match o with
  | none => none
  | some xs => if isP (ofN xs) = true then some (ofN xs) else none
/-- What ParseImages reads. -/
def imgO (s : ByteArray) : Option (List Int) := if s.size ≤ 200 then permO (wordsP 32 s.toList) else none
theorem imgO_big {s : ByteArray} (h : ¬ s.size ≤ 200) : imgO s = none := if_neg h
theorem imgO_nums {s : ByteArray} (h : s.size ≤ 200) : imgO s = permO (match numsP s.toList with | some (xs, []) => some xs | _ => none) := by
  rw [imgO, if_pos h]
  exact congrArg permO (nums_words _ _ (Nat.le_refl _)).symm
theorem rest_zero (s : ByteArray) : rest s 0 = s.toList := rfl
theorem rest_nil_iff (s : ByteArray) {k : Nat} (h : k ≤ s.size) : rest s k = [] ↔ k = s.size := by
  constructor
  · intro e
    have := rest_len s k
    rw [e] at this
    simp at this
    omega
  · intro e; exact rest_end s (by omega)


theorem mapM_append_ {α β : Type} (f : α → Option β) (l l' : List α) : (l ++ l').mapM f = (l.mapM f).bind fun x => (l'.mapM f).map (x ++ ·) := by
  induction l with
  | nil => rw [List.nil_append, show ([] : List α).mapM f = some [] from rfl]; cases h : l'.mapM f <;> simp [h]
  | cons a t ih =>
    rw [List.cons_append, mapM_cons_, mapM_cons_, ih]
    cases f a with
    | none => rfl
    | some x => cases t.mapM f with
      | none => rfl
      | some y => cases l'.mapM f <;> simp
theorem take_succ_map {ws : List ByteArray} {k : Nat} (hk : k < ws.length) : (ws.map ByteArray.toList).take (k + 1) = (ws.map ByteArray.toList).take k ++ [ws[k].toList] := by
  rw [List.take_succ_eq_append_getElem (by simpa using hk)]; simp
theorem mapM_take_none {ls : List (List UInt8)} {k : Nat} {v : List UInt8} (h : ls.take (k + 1) = ls.take k ++ [v]) (hn : pW v = none) : ls.mapM pW = none := by
  rw [← List.take_append_drop (k + 1) ls, mapM_append_, h, mapM_append_, mapM_cons_, hn]
  cases (ls.take k).mapM pW <;> rfl
theorem mapM_take_some {ls : List (List UInt8)} {k x : Nat} {xs : List Nat} {v : List UInt8} (h : ls.take (k + 1) = ls.take k ++ [v]) (hx : (ls.take k).mapM pW = some xs) (hn : pW v = some x) : (ls.take (k + 1)).mapM pW = some (xs ++ [x]) := by
  rw [h, mapM_append_, hx, mapM_cons_, hn]; rfl

end Go.Proofs.Ytkjokchhffjidaa

/- The model's parseCycle. Conditions: at most 1000 bytes; a permutation's row of at most 20. -/
namespace Go.Proofs.Ytkjokchhffjidaa
open Go.RowKit

/-- Whether a cycle is read: numbers, all below n. -/
def okC (n : Nat) (R : Option (List Nat)) : Bool := match R with
  | some xs => allLt n xs
  | none => false
theorem okC_some {n : Nat} {R : Option (List Nat)} {xs : List Nat} (h : R = some xs) : okC n R = allLt n xs := by subst h; rfl
theorem okC_none {n : Nat} {R : Option (List Nat)} (h : R = none) : okC n R = false := by subst h; rfl
theorem grown_drew1 {a w : World} {row : Option Nat} (h : a.grownBy w row) : a.grownBy w.drew row := ⟨h.os, h.tape, h.output, h.size, h.block⟩
theorem mapM_mem : ∀ (l : List (List UInt8)) (ys : List Nat), l.mapM pW = some ys → ∀ v ∈ l, ∀ x, pW v = some x → x ∈ ys := by
  intro l
  induction l with
  | nil => intro ys _ v hv; cases hv
  | cons a l ih =>
    intro ys h v hv x hx
    rw [mapM_cons_] at h
    cases ha : pW a with
    | none => rw [ha] at h; cases h
    | some y =>
      rw [ha] at h
      cases hl : l.mapM pW with
      | none => rw [hl] at h; cases h
      | some zs =>
        rw [hl] at h
        simp at h
        subst h
        rcases List.mem_cons.1 hv with rfl | hv
        · rw [ha] at hx; injection hx with hx; subst hx; exact List.mem_cons_self
        · exact List.mem_cons_of_mem _ (ih zs hl v hv x hx)
theorem take_mem {ls : List (List UInt8)} {k : Nat} {v : List UInt8} (h : ls.take (k + 1) = ls.take k ++ [v]) : v ∈ ls := List.mem_of_mem_take (i := k + 1) (by rw [h]; simp)
theorem allLt_snoc {n x : Nat} {xs : List Nat} (h : allLt n xs = true) (hx : x < n) : allLt n (xs ++ [x]) = true := by
  unfold allLt at h ⊢; rw [List.all_append, h]; simpa using hx
theorem okC_out {n x : Nat} {ls : List (List UInt8)} {v : List UInt8} (hm : v ∈ ls) (hp : pW v = some x) (hx : ¬ x < n) : okC n (ls.mapM pW) = false := by
  cases h : ls.mapM pW with
  | none => rfl
  | some ys =>
    show allLt n ys = false
    rw [Bool.eq_false_iff]
    intro ha
    unfold allLt at ha
    rw [List.all_eq_true] at ha
    have := ha x (mapM_mem ls ys h v hm x hp)
    simp at this
    omega

set_option maxHeartbeats 1600000 in
theorem specPC (g n c base : Nat) (q : List Int) (s : ByteArray) (w : World) (hq : Row w base g n c q) (hs : s.size ≤ 1000) (hn : n ≤ 20) (R : Option (List Nat)) (hR : Hid (R = wordsP 32 s.toList)) :
    Calls Try.prog 129 #[.slice (some ⟨g, 0, none⟩) n c, .string s] w fun e w' => e = .returned (.bool (okC n R)) ∧ (∀ xs, R = some xs → allLt n xs = true → Row w' base g n c (setAll q xs)) ∧ w.grownBy w' (some g) := by
  have Q := Lib.hid hq
  have hgw := hq.lt_.2
  clear hq
  go_enter Try.func129, Try.ntmps129
  go_wp2_with fail
  refine (specSplit s 32 w (by omega)).mono ?_
  rintro e w1 ⟨A1, n1, c1, ws, rfl, t1, hw, h1n, hn1, hsz, b1⟩
  have T1 := Lib.hid t1
  have Q1 : Hid (Row w1 base g n c q) := Lib.hid (Q.out.below b1 hgw)
  have G1 : Hid (w.grownBy w1 (some g)) := Lib.hid (grown_below (grown_refl _ _) b1)
  have Hw := Lib.hid hw
  have Sz := Lib.hid hsz
  have lw := t1.1
  have z1 : w.heap.size ≤ w1.heap.size := b1.size
  clear t1 b1 hw hsz
  go_wp2_with fail
  go_loopg [6, 7, 8, 9] n1 (fun gg v i _ _ wr => ∃ k A c xs, k ≤ n1 ∧ n1 - k ≤ gg ∧ i = .int .i64 (k : Nat) ∧ v = .slice A k c ∧ Slc wr w1.heap.size A k c (ofN xs) ∧ ((splitB 32 s.toList).take k).mapM pW = some xs ∧ allLt n xs = true ∧ Below w1.heap.size w1 wr)
  case atStart => exact ⟨0, _, _, [], Nat.zero_le _, by omega, rfl, rfl, Slc.lit0 w1 _ (Nat.le_refl _), rfl, rfl, (Below.refl _ _).alloc (Nat.le_refl _) _⟩
  case round =>
    obtain ⟨k, A, ca, xs, hk, hg, rfl, rfl, sl, hm, hal, bel⟩ := hrel
    have Sl := Lib.hid sl
    have Hm := Lib.hid hm
    have Al := Lib.hid hal
    have Bel := Lib.hid bel
    have Rw : Hid (Row wr base g n c q) := Lib.hid (Q1.out.below bel (by omega))
    have Gr : Hid (w.grownBy wr (some g)) := Lib.hid (grown_past G1.out (grown_below (grown_refl _ none) bel) (by intro k e; cases e))
    clear sl hm hal bel
    by_cases hlt : k < n1
    · obtain ⟨g2, rfl, hg1, hg2, hc⟩ := T1.out.at_ (by omega)
      have c0 := (Bel.out.cell (p := ⟨g2, k, none⟩) hg2).trans (hc k (by omega))
      obtain ⟨u, eu⟩ : ∃ u, ws[k]'(by omega) = u := ⟨_, rfl⟩
      have hu : u.size ≤ s.size := by rw [← eu]; exact Sz.out _ (List.getElem_mem _)
      have Tk : Hid ((splitB 32 s.toList).take (k + 1) = (splitB 32 s.toList).take k ++ [u.toList]) := Lib.hid (by rw [← Hw.out, take_succ_map (by omega), eu])
      rw [eu] at c0
      clear eu hc
      rcases hp : pW u.toList with _ | x
      · have Hp := Lib.hid hp
        have Fin : Hid (R = none) := Lib.hid (by rw [hR.out, wordsP, mapM_take_none Tk.out hp])
        clear hp
        go_wp2_with fail
        refine (specInt u wr (by omega) none Hp).mono ?_
        rintro e w2 ⟨rfl, rfl⟩
        go_wp2_with fail
        go_ret
        exact ⟨by rw [okC_none Fin.out]; rfl, fun xs h => (by rw [Fin.out] at h; cases h), Gr.out⟩
      · have Hp := Lib.hid hp
        have Hm2 := Lib.hid (mapM_take_some Tk.out Hm.out hp)
        by_cases hxn : x < n
        · have d1 : decide ((n : Int) ≤ (x : Int)) = false := by simp; omega
          have Al2 := Lib.hid (allLt_snoc Al.out hxn)
          clear hp
          go_wp2_with fail
          refine (specInt u wr (by omega) (some x) Hp).mono ?_
          rintro e w2 ⟨rfl, rfl⟩
          go_wp2_with (first | (at_builtin; refine wpList_app1 rfl _ _ rfl w1.heap.size A k ca _ rfl (Sl.out.alloc _) wr.heap.size (x : Int) rfl (by rw [World.cell?_alloc_at _ _ _ _ rfl]; rfl) (by omega) (by have := Bel.out.size; simp; omega) ?_; intro A3 c3 w3 s3 g3))
          have S3 : Hid (Slc w3 w1.heap.size A3 (k + 1) c3 (ofN (xs ++ [x]))) := Lib.hid (by rw [ofN_snoc]; exact s3)
          have Bel3 : Hid (Below w1.heap.size w1 w3) := Lib.hid ((Bel.out.alloc Bel.out.size _).grown g3 (by have := Bel.out.size; simp; omega) (fun j hj => (Sl.out.lt_ j hj).1))
          clear s3 g3
          go_wp2
          go_roundg (n1 - (k + 1))
          case rel => exact ⟨k + 1, A3, c3, _, by omega, Nat.le_refl _, by go_num, rfl, S3.out, Hm2.out, Al2.out, Bel3.out⟩
          case measure => omega
        · have d1 : decide ((n : Int) ≤ (x : Int)) = true := by simp; omega
          have Fin : Hid (okC n R = false) := Lib.hid (by rw [hR.out, wordsP]; exact okC_out (take_mem Tk.out) hp hxn)
          clear hp
          go_wp2_with fail
          refine (specInt u wr (by omega) (some x) Hp).mono ?_
          rintro e w2 ⟨rfl, rfl⟩
          go_wp2_with fail
          go_ret
          exact ⟨by rw [Fin.out]; rfl, fun ys h ha => (by have := Fin.out; rw [okC_some h, ha] at this; cases this), Gr.out⟩
    · have hkn : k = n1 := by omega
      subst hkn
      have Fin : Hid (R = some xs) := Lib.hid (by
        have := Hm.out
        rw [List.take_of_length_le (by rw [← Hw.out, List.length_map, lw]; exact Nat.le_refl _)] at this
        rw [hR.out, wordsP, this])
      have lx : xs.length = k := by have := Sl.out.1; rw [ofN_len] at this; exact this
      have Lx := Lib.hid lx
      clear lx
      obtain ⟨wl, rfl⟩ : ∃ wl, wl = wr := ⟨_, rfl⟩
      go_wp2_with fail
      go_loopg [10] k (fun gg i wr2 => ∃ j, j ≤ k ∧ k - j ≤ gg ∧ i = .int .i64 (j : Nat) ∧ Row wr2 base g n c (setK q xs j) ∧ wl.grownBy wr2 (some g))
      case atStart => exact ⟨0, Nat.zero_le _, by omega, rfl, Rw.out, grown_refl _ _⟩
      case round =>
        obtain ⟨j, hj, hgj, rfl, row, gro⟩ := hrel
        have Rw2 := Lib.hid row
        have Gr2 := Lib.hid gro
        clear row gro
        by_cases hjl : j < k
        · obtain ⟨b, off, rfl, hb, hc⟩ := Sl.out.ri_ (by rw [Sl.out.1]; omega)
          have hbg : b ≠ g := by
            rcases Sl.out.at_ with ⟨_, _, e0, _⟩ | ⟨q3, e0, e1, e2⟩
            · omega
            · injection e0 with e0; injection e0 with e0; omega
          have hm2 := Nat.mod_lt (j + 1) (show 0 < k by omega)
          have cellAt : ∀ i, i < k → wr.cell? ⟨b, off + i, none⟩ = some (.int .i64 ((xs.getD i 0 : Nat) : Int)) := fun i hi => by
            rw [World.cell?_of_block (Gr2.out.block b hb (fun e => hbg (by injection e))), hc i (by rw [ofN_len, Lx.out]; exact hi)]
            have : (ofN xs).getD i 0 = ((xs.getD i 0 : Nat) : Int) := by
              unfold ofN
              rw [List.getD_eq_getElem?_getD, List.getElem?_map, List.getD_eq_getElem?_getD, List.getElem?_eq_getElem (by rw [Lx.out]; exact hi)]; rfl
            rw [this]
          have c1' := cellAt j hjl
          have c2' := cellAt ((j + 1) % k) hm2
          obtain ⟨x, ex⟩ : ∃ x, xs.getD j 0 = x := ⟨_, rfl⟩
          obtain ⟨y, ey⟩ : ∃ y, xs.getD ((j + 1) % k) 0 = y := ⟨_, rfl⟩
          have Sk : Hid (setK q xs (j + 1) = (setK q xs j).set x (y : Int)) := Lib.hid (by rw [setK, Lx.out, ex, ey])
          have hxn : x < n := by
            have ha := Al.out
            unfold allLt at ha
            rw [List.all_eq_true] at ha
            have hmem : x ∈ xs := by
              rw [← ex, List.getD_eq_getElem?_getD, List.getElem?_eq_getElem (by rw [Lx.out]; exact hjl)]
              exact List.getElem_mem _
            have := ha x hmem
            simpa using this
          obtain ⟨z, ez⟩ : ∃ z, (j + 1) % k = z := ⟨_, rfl⟩
          have eint : (((j : Int) + 1) % (k : Int)) = (z : Int) := by rw [← ez]; exact_mod_cast rfl
          rw [ex] at c1'
          rw [ey, ez] at c2'
          rw [ez] at hm2
          have c3 := Rw2.out.cell hxn
          have f3 := Rw2.out.free x
          have Rw3 := Lib.hid (Rw2.out.store x (y : Int))
          have Gr3 := Lib.hid (grown_set Gr2.out x (.int .i64 (y : Int)))
          clear cellAt hc ex ey ez
          go_wp2_with fail
          go_region
          all_goals go_wp2_with fail
          all_goals go_roundg (k - (j + 1))
          case rel => exact ⟨j + 1, by omega, Nat.le_refl _, by go_num, by rw [Sk.out]; exact Rw3.out.drew, grown_drew1 Gr3.out⟩
          case measure => omega
        · have hjk : j = k := by omega
          subst hjk
          have Sf : Hid (setK q xs j = setAll q xs) := Lib.hid (by unfold setAll; rw [Lx.out])
          have G2 : Hid (w.grownBy wr (some g)) := Lib.hid (grown_join Gr.out Gr2.out)
          go_wp2_with fail
          go_ret
          exact ⟨by rw [okC_some Fin.out, Al.out]; rfl, fun ys h _ => (by rw [Fin.out] at h; injection h with h; subst h; rw [← Sf.out]; exact Rw2.out), G2.out⟩
end Go.Proofs.Ytkjokchhffjidaa

/- The model's ParseCycles. Condition: at most 2097152 bytes. -/
namespace Go.Proofs.Ytkjokchhffjidaa
open Go.RowKit

theorem pcM_bad {n : Nat} {l : List UInt8} (h : ¬ (2 ≤ l.length ∧ l.head? = some 40 ∧ l.getLast? = some 41)) : pcM n l = none := by
  unfold pcM
  rw [if_neg (fun e => h (by subst e; exact ⟨by decide, rfl, rfl⟩)), if_neg h]
theorem cycO_bad {n : Int} {s : ByteArray} (h : ¬ (2 ≤ s.toList.length ∧ s.toList.head? = some 40 ∧ s.toList.getLast? = some 41)) : cycO n s = none := by
  by_cases hr : 1 ≤ n ∧ n ≤ 20 ∧ s.size ≤ 200
  · rw [cycO_model hr, pcM_bad h]; rfl
  · exact cycO_out hr
/-- Where the model's way stands before part k. -/
def pcInv (l inner : List UInt8) (RR : Option (List Int)) (k : Nat) (q : List Int) : Prop :=
  (l = [40, 41] → RR = some q) ∧ (l ≠ [40, 41] → pcS (decide (k = 0)) q ((splitB 41 inner).drop k) = RR)
theorem pcInv_start {n : Nat} {l inner : List UInt8} (h : 2 ≤ l.length ∧ l.head? = some 40 ∧ l.getLast? = some 41) (hi : inner = (l.drop 1).take (l.length - 2)) : pcInv l inner (pcM n l) 0 (idL n) := by
  refine ⟨fun e => ?_, fun e => ?_⟩
  · unfold pcM; rw [if_pos e]
  · unfold pcM; rw [if_neg e, if_pos h, hi]; rfl
theorem pcInv_end {l inner : List UInt8} {RR : Option (List Int)} {k : Nat} {q : List Int} (h : pcInv l inner RR k q) (he : (splitB 41 inner).length ≤ k ∨ l = [40, 41]) : RR = some q := by
  by_cases e : l = [40, 41]
  · exact h.1 e
  · rcases he with he | he
    · rw [← h.2 e, List.drop_eq_nil_of_le he, pcS]
    · exact absurd he e
/-- What a part's numbers lead to. -/
def stepR (n : Nat) (q : List Int) (ps : List (List UInt8)) (R : Option (List Nat)) : Option (List Int) := match R with
      | none => none
      | some xs => if allLt n xs = true then pcS false (setAll q xs) ps else none
theorem stepR_no {n : Nat} {q : List Int} {ps : List (List UInt8)} {R : Option (List Nat)} (h : okC n R = false) : stepR n q ps R = none := by
  cases R with
  | none => rfl
  | some xs => have h : allLt n xs = false := h; unfold stepR; simp [h]
theorem stepR_yes {n : Nat} {q : List Int} {ps : List (List UInt8)} {R : Option (List Nat)} (h : okC n R = true) : ∃ xs, R = some xs ∧ allLt n xs = true ∧ stepR n q ps R = pcS false (setAll q xs) ps := by
  cases R with
  | none => cases h
  | some xs => have h : allLt n xs = true := h; exact ⟨xs, rfl, h, by unfold stepR; simp [h]⟩
theorem pcInv_first {l inner : List UInt8} {RR : Option (List Int)} {k n : Nat} {q : List Int} {v : List UInt8} (h : pcInv l inner RR k q) (hl : l ≠ [40, 41]) (hk : k = 0) (lq : q.length = n) (hd : (splitB 41 inner).drop k = v :: (splitB 41 inner).drop (k + 1)) : RR = stepR n q ((splitB 41 inner).drop (k + 1)) (wordsP 32 v) := by
  rw [← h.2 hl, hd, decide_eq_true hk, pcS_first, lq]; rfl
theorem pcInv_next {l inner : List UInt8} {RR : Option (List Int)} {k n : Nat} {q : List Int} {v t : List UInt8} (h : pcInv l inner RR k q) (hl : l ≠ [40, 41]) (hk : k ≠ 0) (lq : q.length = n) (hd : (splitB 41 inner).drop k = v :: (splitB 41 inner).drop (k + 1)) (hv : v = 40 :: t) : RR = stepR n q ((splitB 41 inner).drop (k + 1)) (wordsP 32 t) := by
  subst hv; rw [← h.2 hl, hd, decide_eq_false hk, pcS_next, lq]; rfl
theorem pcInv_bad {l inner : List UInt8} {RR : Option (List Int)} {k : Nat} {q : List Int} {v : List UInt8} (h : pcInv l inner RR k q) (hl : l ≠ [40, 41]) (hk : k ≠ 0) (hd : (splitB 41 inner).drop k = v :: (splitB 41 inner).drop (k + 1)) (hv : v.head? ≠ some 40) : RR = none := by
  rw [← h.2 hl, hd, decide_eq_false hk, pcS_bad _ _ _ hv]
theorem pcInv_go {l inner : List UInt8} {RR : Option (List Int)} {k : Nat} {q : List Int} (hl : l ≠ [40, 41]) (h : pcS false q ((splitB 41 inner).drop (k + 1)) = RR) : pcInv l inner RR (k + 1) q := ⟨fun e => absurd e hl, fun _ => h⟩
theorem last_toList (s : ByteArray) {t : Nat} (h : t + 1 = s.size) : s.toList.getLast? = some (s[t]'(by omega)) := by
  have e : s.size - 1 = t := by omega
  rw [List.getLast?_eq_getElem?, len_toList, e]
  rw [List.getElem?_eq_getElem (by rw [len_toList]; omega)]
  have := rest_get s 0 t (by rw [rest_len]; omega) (by omega)
  simp only [Nat.zero_add] at this
  rw [← this]
  rfl
theorem drop_map {ws : List ByteArray} {k : Nat} (hk : k < ws.length) : (ws.map ByteArray.toList).drop k = ws[k].toList :: (ws.map ByteArray.toList).drop (k + 1) := by
  rw [List.drop_eq_getElem_cons (by rw [List.length_map]; exact hk), List.getElem_map]
theorem bne40 {x : UInt8} {b : UInt8} (h : x ≠ b) : ((x.toNat : Int) != (b.toNat : Int)) = true := by
  rw [bne_iff_ne]; exact fun e => h (UInt8.toNat_inj.1 (by omega))

set_option maxHeartbeats 2000000 in
theorem specPC_core (n : Nat) (s : ByteArray) (w : World) (h1 : 1 ≤ n) (h2 : n ≤ 20) (h3 : s.size ≤ 200) (t : Nat) (ht : Hid (t + 1 = s.size)) (t1 : 1 ≤ t) (z0 : 0 < s.size) (b0 : s[0] = 40) (bt : ∀ h : t < s.size, s[t] = 41) (O : Option (List Int)) (hO : Hid (O = chk s.toList (pcM n s.toList))) :
    Calls Try.prog 127 #[.int .i64 (n : Int), .string s] w fun e w' => ∃ A m c, e = .returned (.tuple #[.slice A m c, .bool O.isSome]) ∧ Slc w' w.heap.size A m c (O.getD []) ∧ m ≤ 20 ∧ Below w.heap.size w w' := by
  have hts : t < s.size := by have := ht.out; omega
  have d1 : decide ((s.size : Int) < 2) = false := by have := ht.out; simp; omega
  have d3 : decide ((200 : Int) < s.size) = false := by simp; omega
  have f0 : (((s[0]).toNat : Int) != 40) = false := by rw [b0]; rfl
  have ft : (((s[t]).toNat : Int) != 41) = false := by rw [bt hts]; rfl
  have et : (s.size : Int) - 1 = (t : Int) := by have := ht.out; omega
  have p1 : (1 : Int) ≤ t := by omega
  have p2 : (t : Int) ≤ s.size := by omega
  have p3 : (0 : Int) < s.size := by omega
  have p4 : (t : Int) < s.size := by omega
  have p5 : (0 : Int) ≤ t := by omega
  obtain ⟨inner, hin⟩ : ∃ l, (s.extract 1 t).toList = l := ⟨_, rfl⟩
  have Inn := Lib.hid hin
  clear hin
  obtain ⟨RR, hRR⟩ : ∃ RR, pcM n s.toList = RR := ⟨_, rfl⟩
  have Start : Hid (pcInv s.toList inner RR 0 (idL n)) := Lib.hid (by
    rw [← hRR]
    refine pcInv_start ⟨by rw [len_toList]; omega, by rw [head_toList s z0, b0], by rw [last_toList s ht.out, bt hts]⟩ ?_
    rw [← Inn.out, extract_toList, len_toList]
    have := ht.out
    rw [show s.size - 2 = t - 1 by omega])
  rw [hRR] at hO
  clear hRR b0 bt
  go_enter Try.func127, Try.ntmps127
  go_wp2_with (first | (go_at_call 61; refine (inR_true _ _ _ _ (by omega) (by omega)).mono ?_; rintro e w' ⟨rfl, rfl⟩) | (go_at_call 62; refine (specIdent n w (by omega)).mono ?_; rintro e w1 ⟨A1, c1, rfl, s1, b1⟩))
  obtain ⟨gp, rfl, hg1, hg2⟩ : ∃ gp, A1 = some ⟨gp, 0, none⟩ ∧ w.heap.size ≤ gp ∧ gp < w1.heap.size := by
    rcases s1.at_ with ⟨_, _, e0, _⟩ | ⟨gp, e0, e1, e2⟩
    · omega
    · exact ⟨gp, e0, e1, e2⟩
  have Q1 : Hid (Row w1 w.heap.size gp n c1 (idL n)) := Lib.hid (Row.of_own (by have := s1.2; rw [← s1.1] at this; rw [s1.1] at this; exact this))
  have B1 := Lib.hid b1
  have z1 := b1.size
  have hnc := s1.le.1
  clear s1 b1
  go_wp2_with fail
  refine (specSplit (s.extract 1 t) 41 w1 (by rw [ByteArray.size_extract]; omega)).mono ?_
  rintro e w2 ⟨A2, n2, c2, ws, rfl, t2, hw, h1n, hn1, hsz, b2⟩
  have T2 := Lib.hid t2
  have Q2 : Hid (Row w2 w.heap.size gp n c1 (idL n)) := Lib.hid (Q1.out.below b2 hg2)
  have B2 : Hid (Below w.heap.size w w2) := Lib.hid (btr B1.out b2)
  have Hw : Hid (ws.map ByteArray.toList = splitB 41 inner) := Lib.hid (by rw [hw, Inn.out])
  have Sz : Hid (∀ u ∈ ws, u.size ≤ 200) := Lib.hid fun u hu => by have := hsz u hu; rw [ByteArray.size_extract] at this; omega
  have lw := t2.1
  have z2 := b2.size
  clear t2 b2 hw hsz
  go_wp2_with fail
  go_loopg [8, 9] n2 (fun gg i _ wr => ∃ k q, k ≤ n2 ∧ n2 - k ≤ gg ∧ i = .int .i64 (k : Nat) ∧ Row wr w.heap.size gp n c1 q ∧ pcInv s.toList inner RR k q ∧ w2.grownBy wr (some gp) ∧ Below w.heap.size w wr)
  case atStart => exact ⟨0, idL n, Nat.zero_le _, by omega, rfl, Q2.out, Start.out, grown_refl _ _, B2.out⟩
  case round =>
    obtain ⟨k, q, hk, hg, rfl, row, inv, gro, bel⟩ := hrel
    have Rw := Lib.hid row
    have Inv := Lib.hid inv
    have Gr := Lib.hid gro
    have Bel := Lib.hid bel
    have lq := row.1
    clear row inv gro bel
    by_cases hgo : k < n2 ∧ s.toList ≠ [40, 41]
    · have hlt := hgo.1
      have Hne := Lib.hid hgo.2
      have te : (s.toList == [40, 41]) = false := by simpa using hgo.2
      obtain ⟨g2, rfl, hg3, hg4, hc⟩ := (T2.out.kept Gr.out (by
        right
        intro e
        have := (T2.out.lt_ _ e).1
        omega)).at_ (by omega)
      have c0 := hc k (by omega)
      obtain ⟨u, eu⟩ : ∃ u, ws[k]'(by omega) = u := ⟨_, rfl⟩
      have hu : u.size ≤ 200 := by rw [← eu]; exact Sz.out _ (List.getElem_mem _)
      have Dk : Hid ((splitB 41 inner).drop k = u.toList :: (splitB 41 inner).drop (k + 1)) := Lib.hid (by rw [← Hw.out, drop_map (by omega), eu])
      rw [eu] at c0
      clear eu hc hgo
      by_cases hk0 : k = 0
      · have dk : decide (0 < k) = false := by simp; omega
        have St : Hid (RR = stepR n q ((splitB 41 inner).drop (k + 1)) (wordsP 32 u.toList)) := Lib.hid (pcInv_first Inv.out Hne.out hk0 lq Dk.out)
        clear hk0
        go_wp2_with fail
        refine (specPC gp n c1 w.heap.size q u wr Rw.out (by omega) h2 (wordsP 32 u.toList) (Lib.hid rfl)).mono ?_
        rintro e w4 ⟨he4, hrow, g4⟩
        have Bel4 : Hid (Below w.heap.size w w4) := Lib.hid (Bel.out.grown g4 Bel.out.size (fun k e => by injection e with e; omega))
        have Gr4 : Hid (w2.grownBy w4 (some gp)) := Lib.hid (grown_join Gr.out g4)
        rcases ha : okC n (wordsP 32 u.toList) with _ | _
        · have O1 : Hid (O = none) := Lib.hid (by rw [hO.out, St.out, stepR_no ha]; rfl)
          rw [ha] at he4
          subst he4
          clear hrow g4 ha
          go_wp2_with fail
          go_ret2
          exact ⟨_, _, _, by rw [O1.out]; rfl, by rw [O1.out]; exact Slc.lit0 w4 _ Bel4.out.size, Nat.zero_le _, Bel4.out.alloc Bel4.out.size _⟩
        · obtain ⟨xs, e1, e2, e3⟩ := stepR_yes (q := q) (ps := (splitB 41 inner).drop (k + 1)) ha
          have Rw4 := Lib.hid (hrow xs e1 e2)
          have Inv4 : Hid (pcInv s.toList inner RR (k + 1) (setAll q xs)) := Lib.hid (pcInv_go Hne.out (by rw [St.out, e3]))
          rw [ha] at he4
          subst he4
          clear hrow g4 ha e1 e2 e3
          go_wp2_with fail
          go_roundg (n2 - (k + 1))
          case rel => exact ⟨k + 1, setAll q xs, by omega, Nat.le_refl _, by go_num, Rw4.out, Inv4.out, Gr4.out, Bel4.out⟩
          case measure => omega
      · have dk : decide (0 < k) = true := by simp; omega
        have kp : 0 < k := by omega
        by_cases hu0 : u.size = 0
        · have e0 : ((u.size : Int) == 0) = true := by rw [beq_iff_eq]; omega
          have O1 : Hid (O = none) := Lib.hid (by
            rw [hO.out, pcInv_bad Inv.out Hne.out hk0 Dk.out (by rw [List.head?_eq_getElem?, List.getElem?_eq_none (by rw [len_toList]; omega)]; simp)]; rfl)
          clear hk0 hu0
          go_wp2_with fail
          go_ret2
          exact ⟨_, _, _, by rw [O1.out]; rfl, by rw [O1.out]; exact Slc.lit0 wr _ Bel.out.size, Nat.zero_le _, Bel.out.alloc Bel.out.size _⟩
        · have e0 : ((u.size : Int) == 0) = false := by rw [beq_eq_false_iff_ne]; omega
          have u0 : 0 < u.size := by omega
          have v0 : (0 : Int) < u.size := by omega
          have v1 : (1 : Int) ≤ u.size := by omega
          by_cases hb : u[0] = 40
          · have fb : (((u[0]).toNat : Int) != 40) = false := by rw [hb]; rfl
            obtain ⟨b, eb⟩ : ∃ b, u.extract 1 u.size = b := ⟨_, rfl⟩
            have sb : b.size ≤ 200 := by rw [← eb, ByteArray.size_extract]; omega
            have Sp : Hid (u.toList = 40 :: b.toList) := Lib.hid (by
              rw [← eb, extract_toList]
              have hh := head_toList u u0
              have hl := len_toList u
              cases hx : u.toList with
              | nil => rw [hx] at hl; simp at hl; omega
              | cons a r =>
                rw [hx] at hh hl
                simp at hh hl
                rw [hh, hb]
                show _ = 40 :: List.take _ r
                rw [List.take_of_length_le (by omega)])
            have St : Hid (RR = stepR n q ((splitB 41 inner).drop (k + 1)) (wordsP 32 b.toList)) := Lib.hid (pcInv_next Inv.out Hne.out hk0 lq Dk.out Sp.out)
            clear hk0 hu0 hb
            go_wp2_with fail
            refine (specPC gp n c1 w.heap.size q b wr Rw.out (by omega) h2 (wordsP 32 b.toList) (Lib.hid rfl)).mono ?_
            rintro e w4 ⟨he4, hrow, g4⟩
            have Bel4 : Hid (Below w.heap.size w w4) := Lib.hid (Bel.out.grown g4 Bel.out.size (fun k e => by injection e with e; omega))
            have Gr4 : Hid (w2.grownBy w4 (some gp)) := Lib.hid (grown_join Gr.out g4)
            rcases ha : okC n (wordsP 32 b.toList) with _ | _
            · have O1 : Hid (O = none) := Lib.hid (by rw [hO.out, St.out, stepR_no ha]; rfl)
              rw [ha] at he4
              subst he4
              clear hrow g4 ha
              go_wp2_with fail
              go_ret2
              exact ⟨_, _, _, by rw [O1.out]; rfl, by rw [O1.out]; exact Slc.lit0 w4 _ Bel4.out.size, Nat.zero_le _, Bel4.out.alloc Bel4.out.size _⟩
            · obtain ⟨xs, e1, e2, e3⟩ := stepR_yes (q := q) (ps := (splitB 41 inner).drop (k + 1)) ha
              have Rw4 := Lib.hid (hrow xs e1 e2)
              have Inv4 : Hid (pcInv s.toList inner RR (k + 1) (setAll q xs)) := Lib.hid (pcInv_go Hne.out (by rw [St.out, e3]))
              rw [ha] at he4
              subst he4
              clear hrow g4 ha e1 e2 e3
              go_wp2_with fail
              go_roundg (n2 - (k + 1))
              case rel => exact ⟨k + 1, setAll q xs, by omega, Nat.le_refl _, by go_num, Rw4.out, Inv4.out, Gr4.out, Bel4.out⟩
              case measure => omega
          · have fb : (((u[0]).toNat : Int) != 40) = true := bne40 (b := 40) hb
            have O1 : Hid (O = none) := Lib.hid (by
              rw [hO.out, pcInv_bad Inv.out Hne.out hk0 Dk.out (by rw [head_toList u u0]; intro e; injection e with e; exact hb e)]; rfl)
            clear hk0 hu0 hb
            go_wp2_with fail
            go_ret2
            exact ⟨_, _, _, by rw [O1.out]; rfl, by rw [O1.out]; exact Slc.lit0 wr _ Bel.out.size, Nat.zero_le _, Bel.out.alloc Bel.out.size _⟩
    · have Rq : Hid (RR = some q) := Lib.hid (pcInv_end Inv.out (by
        rw [← Hw.out, List.length_map, lw]
        by_cases hl : s.toList = [40, 41]
        · exact .inr hl
        · exact .inl (by have : ¬ k < n2 := fun h => hgo ⟨h, hl⟩; omega)))
      have key : ¬ k < n2 ∨ (k < n2 ∧ (s.toList == [40, 41]) = true) := by
        by_cases hl : k < n2
        · refine .inr ⟨hl, ?_⟩
          have : s.toList = [40, 41] := Decidable.byContradiction fun h => hgo ⟨hl, h⟩
          rw [this]; rfl
        · exact .inl hl
      clear hgo
      rcases key with dl | ⟨dl, te⟩
      all_goals
        go_wp2_with fail
        refine (specFormatCycles (some ⟨gp, 0, none⟩) c1 n q wr Rw.out.slc.ri_ Rw.out.slc.hid (by omega) hnc).mono ?_
        rintro e w3 ⟨tt, rfl, htt, b3⟩
        have Bel3 : Hid (Below w.heap.size w w3) := Lib.hid (btr Bel.out b3)
        have S3 := Lib.hid (Rw.out.slc.up b3)
        clear b3
        by_cases he : fmtCyc q = s.toList
        · have O1 : Hid (O = some q) := Lib.hid (by rw [hO.out, Rq.out, chk_yes he])
          have te2 : (tt.toList == s.toList) = true := by rw [htt, he]; simp
          clear htt he
          go_wp2_with fail
          go_ret2
          exact ⟨_, _, _, by rw [O1.out]; rfl, by rw [O1.out]; exact S3.out, h2, Bel3.out⟩
        · have O1 : Hid (O = none) := Lib.hid (by rw [hO.out, Rq.out, chk_no he])
          have te2 : (tt.toList == s.toList) = false := by rw [htt]; simpa using he
          clear htt he
          go_wp2_with fail
          go_ret2
          exact ⟨_, _, _, by rw [O1.out]; rfl, by rw [O1.out]; exact Slc.lit0 w3 _ Bel3.out.size, Nat.zero_le _, Bel3.out.alloc Bel3.out.size _⟩

/-- The model's ParseCycles. -/
theorem specParseCycles0 (n : Int) (s : ByteArray) (w : World) (hs : s.size ≤ 2097152) :
    Calls Try.prog 127 #[.int .i64 n, .string s] w fun e w' => ∃ A m c, e = .returned (.tuple #[.slice A m c, .bool (cycO n s).isSome]) ∧ Slc w' w.heap.size A m c ((cycO n s).getD []) ∧ m ≤ 20 ∧ Below w.heap.size w w' := by
  by_cases hr : 1 ≤ n ∧ n ≤ 20
  · by_cases d1 : s.size < 2
    · have d1' : decide ((s.size : Int) < 2) = true := by simp; omega
      have Fin : Hid (cycO n s = none) := Lib.hid (cycO_bad fun h => by have := h.1; rw [len_toList] at this; omega)
      go_enter Try.func127, Try.ntmps127
      go_wp2_with (go_at_call 61; refine (inR_true _ _ _ _ hr.1 hr.2).mono ?_; rintro e w' ⟨rfl, rfl⟩)
      go_ret2
      exact ⟨_, _, _, by rw [Fin.out]; rfl, by rw [Fin.out]; exact Slc.lit0 w _ (Nat.le_refl _), Nat.zero_le _, (Below.refl _ _).alloc (Nat.le_refl _) _⟩
    have d1' : decide ((s.size : Int) < 2) = false := by simp; omega
    by_cases h3 : s.size ≤ 200
    · have d3 : decide ((200 : Int) < s.size) = false := by simp; omega
      have z0 : 0 < s.size := by omega
      have p3 : (0 : Int) < s.size := by omega
      by_cases hb : s[0] = 40
      · obtain ⟨t, ht⟩ : ∃ t, t + 1 = s.size := ⟨s.size - 1, by omega⟩
        by_cases hb2 : s[t] = 41
        · obtain ⟨m, rfl⟩ := Int.eq_ofNat_of_zero_le (show 0 ≤ n by omega)
          exact specPC_core m s w (by omega) (by omega) h3 t (Lib.hid ht) (by omega) z0 hb (fun _ => hb2) _ (Lib.hid (cycO_model ⟨hr.1, hr.2, h3⟩))
        · have Fin : Hid (cycO n s = none) := Lib.hid (cycO_bad fun h => by
            have := h.2.2; rw [last_toList s ht] at this; injection this with this; exact hb2 this)
          have hts : t < s.size := by omega
          have f0 : (((s[0]).toNat : Int) != 40) = false := by rw [hb]; rfl
          have ft : (((s[t]).toNat : Int) != 41) = true := bne40 (b := 41) hb2
          have et : (s.size : Int) - 1 = (t : Int) := by omega
          have p4 : (t : Int) < s.size := by omega
          have p5 : (0 : Int) ≤ t := by omega
          clear ht hb hb2
          go_enter Try.func127, Try.ntmps127
          go_wp2_with (go_at_call 61; refine (inR_true _ _ _ _ hr.1 hr.2).mono ?_; rintro e w' ⟨rfl, rfl⟩)
          go_ret2
          exact ⟨_, _, _, by rw [Fin.out]; rfl, by rw [Fin.out]; exact Slc.lit0 w _ (Nat.le_refl _), Nat.zero_le _, (Below.refl _ _).alloc (Nat.le_refl _) _⟩
      · have Fin : Hid (cycO n s = none) := Lib.hid (cycO_bad fun h => by
          have := h.2.1; rw [head_toList s z0] at this; injection this with this; exact hb this)
        have f0 : (((s[0]).toNat : Int) != 40) = true := bne40 (b := 40) hb
        clear hb
        go_enter Try.func127, Try.ntmps127
        go_wp2_with (go_at_call 61; refine (inR_true _ _ _ _ hr.1 hr.2).mono ?_; rintro e w' ⟨rfl, rfl⟩)
        go_ret2
        exact ⟨_, _, _, by rw [Fin.out]; rfl, by rw [Fin.out]; exact Slc.lit0 w _ (Nat.le_refl _), Nat.zero_le _, (Below.refl _ _).alloc (Nat.le_refl _) _⟩
    · have d3 : decide ((200 : Int) < s.size) = true := by simp; omega
      have Fin : Hid (cycO n s = none) := Lib.hid (cycO_out fun h => h3 h.2.2)
      go_enter Try.func127, Try.ntmps127
      go_wp2_with (go_at_call 61; refine (inR_true _ _ _ _ hr.1 hr.2).mono ?_; rintro e w' ⟨rfl, rfl⟩)
      go_ret2
      exact ⟨_, _, _, by rw [Fin.out]; rfl, by rw [Fin.out]; exact Slc.lit0 w _ (Nat.le_refl _), Nat.zero_le _, (Below.refl _ _).alloc (Nat.le_refl _) _⟩
  · have Fin : Hid (cycO n s = none) := Lib.hid (cycO_out fun h => hr ⟨h.1, h.2.1⟩)
    have H1 : Hid (n < 1 ∨ 20 < n) := Lib.hid (by omega)
    go_enter Try.func127, Try.ntmps127
    go_wp2_with (go_at_call 61; refine (inR_false _ _ _ _ H1.out).mono ?_; rintro e w' ⟨rfl, rfl⟩)
    go_ret2
    exact ⟨_, _, _, by rw [Fin.out]; rfl, by rw [Fin.out]; exact Slc.lit0 w _ (Nat.le_refl _), Nat.zero_le _, (Below.refl _ _).alloc (Nat.le_refl _) _⟩
theorem specParseCycles (n : Int) (s : ByteArray) (w : World) (hs : s.size ≤ 2097152) (_hn : -9223372036854775808 ≤ n ∧ n ≤ 9223372036854775807) :
    Calls Try.prog 127 #[.int .i64 n, .string s] w fun e w' => ∃ A m c, e = .returned (.tuple #[.slice A m c, .bool (cycO n s).isSome]) ∧ Slc w' w.heap.size A m c ((cycO n s).getD []) ∧ m ≤ 20 ∧ Below w.heap.size w w' := specParseCycles0 n s w hs
end Go.Proofs.Ytkjokchhffjidaa

/- The known puzzles: what their texts read, and the table. -/
namespace Go.Proofs.Ytkjokchhffjidaa
open Go.RowKit

theorem isP_of {p : List Int} (h : 1 ≤ p.length ∧ p.length ≤ 20 ∧ (∀ i, i < p.length → 0 ≤ p.getD i 0 ∧ p.getD i 0 < p.length) ∧ ∀ i, i < p.length → ∀ j, j < p.length → p.getD i 0 = p.getD j 0 → i = j) : IsP p :=
  ⟨h.1, h.2.1, fun i hi => (h.2.2.1 i hi).1, fun i hi => (h.2.2.1 i hi).2, fun i j hi hj e => h.2.2.2 i hi j hj e⟩
theorem cycO_lit (n : Int) (s : ByteArray) (l : List UInt8) (p : List Int) (hs : s.data.toList = l) (h : 1 ≤ n ∧ n ≤ 20 ∧ s.size ≤ 200) (hp : IsP p) (hl : p.length = n.toNat) (hf : fmtCyc p = l) : cycO n s = some p :=
  (cycO_wr h p).2 ⟨hp, hl, by rw [hf, ByteArray.toList_eq, hs]⟩
theorem kn0_0 : cycO 4 ⟨#[40, 48, 32, 49, 41]⟩ = some [1, 0, 2, 3] := cycO_lit _ _ _ _ rfl (by decide) (isP_of (by decide)) rfl (by decide)
theorem kn0_1 : cycO 4 ⟨#[40, 49, 32, 50, 41]⟩ = some [0, 2, 1, 3] := cycO_lit _ _ _ _ rfl (by decide) (isP_of (by decide)) rfl (by decide)
theorem kn0_2 : cycO 4 ⟨#[40, 50, 32, 51, 41]⟩ = some [0, 1, 3, 2] := cycO_lit _ _ _ _ rfl (by decide) (isP_of (by decide)) rfl (by decide)
theorem kn1_0 : cycO 6 ⟨#[40, 48, 32, 49, 32, 50, 32, 51, 32, 52, 32, 53, 41]⟩ = some [1, 2, 3, 4, 5, 0] := cycO_lit _ _ _ _ rfl (by decide) (isP_of (by decide)) rfl (by decide)
theorem kn1_1 : cycO 6 ⟨#[40, 48, 32, 50, 41]⟩ = some [2, 1, 0, 3, 4, 5] := cycO_lit _ _ _ _ rfl (by decide) (isP_of (by decide)) rfl (by decide)
theorem kn2_0 : cycO 6 ⟨#[40, 48, 32, 49, 32, 50, 32, 51, 41]⟩ = some [1, 2, 3, 0, 4, 5] := cycO_lit _ _ _ _ rfl (by decide) (isP_of (by decide)) rfl (by decide)
theorem kn2_1 : cycO 6 ⟨#[40, 50, 32, 51, 32, 52, 32, 53, 41]⟩ = some [0, 1, 3, 4, 5, 2] := cycO_lit _ _ _ _ rfl (by decide) (isP_of (by decide)) rfl (by decide)
theorem kn3_0 : cycO 7 ⟨#[40, 48, 32, 49, 32, 50, 32, 51, 41]⟩ = some [1, 2, 3, 0, 4, 5, 6] := cycO_lit _ _ _ _ rfl (by decide) (isP_of (by decide)) rfl (by decide)
theorem kn3_1 : cycO 7 ⟨#[40, 49, 32, 50, 32, 54, 32, 53, 41]⟩ = some [0, 2, 6, 3, 4, 1, 5] := cycO_lit _ _ _ _ rfl (by decide) (isP_of (by decide)) rfl (by decide)
theorem kn3_2 : cycO 7 ⟨#[40, 48, 32, 52, 32, 53, 32, 49, 41]⟩ = some [4, 0, 2, 3, 5, 1, 6] := cycO_lit _ _ _ _ rfl (by decide) (isP_of (by decide)) rfl (by decide)
theorem kn4_0 : cycO 12 ⟨#[40, 48, 32, 49, 41, 40, 52, 32, 53, 41]⟩ = some [1, 0, 2, 3, 5, 4, 6, 7, 8, 9, 10, 11] := cycO_lit _ _ _ _ rfl (by decide) (isP_of (by decide)) rfl (by decide)
theorem kn4_1 : cycO 12 ⟨#[40, 49, 32, 50, 41, 40, 54, 32, 55, 41]⟩ = some [0, 2, 1, 3, 4, 5, 7, 6, 8, 9, 10, 11] := cycO_lit _ _ _ _ rfl (by decide) (isP_of (by decide)) rfl (by decide)
theorem kn4_2 : cycO 12 ⟨#[40, 50, 32, 51, 41, 40, 56, 32, 57, 41]⟩ = some [0, 1, 3, 2, 4, 5, 6, 7, 9, 8, 10, 11] := cycO_lit _ _ _ _ rfl (by decide) (isP_of (by decide)) rfl (by decide)
theorem kn4_3 : cycO 12 ⟨#[40, 48, 32, 51, 41, 40, 49, 48, 32, 49, 49, 41]⟩ = some [3, 1, 2, 0, 4, 5, 6, 7, 8, 9, 11, 10] := cycO_lit _ _ _ _ rfl (by decide) (isP_of (by decide)) rfl (by decide)
theorem kn5_0 : cycO 12 ⟨#[40, 48, 32, 49, 32, 50, 41, 40, 51, 32, 54, 32, 57, 41]⟩ = some [1, 2, 0, 6, 4, 5, 9, 7, 8, 3, 10, 11] := cycO_lit _ _ _ _ rfl (by decide) (isP_of (by decide)) rfl (by decide)
theorem kn5_1 : cycO 12 ⟨#[40, 48, 32, 55, 32, 49, 48, 41, 40, 51, 32, 52, 32, 53, 41]⟩ = some [7, 1, 2, 4, 5, 3, 6, 10, 8, 9, 0, 11] := cycO_lit _ _ _ _ rfl (by decide) (isP_of (by decide)) rfl (by decide)
theorem kn5_2 : cycO 12 ⟨#[40, 49, 32, 52, 32, 49, 49, 41, 40, 54, 32, 55, 32, 56, 41]⟩ = some [0, 4, 2, 3, 11, 5, 7, 8, 6, 9, 10, 1] := cycO_lit _ _ _ _ rfl (by decide) (isP_of (by decide)) rfl (by decide)
theorem kn5_3 : cycO 12 ⟨#[40, 50, 32, 53, 32, 56, 41, 40, 57, 32, 49, 48, 32, 49, 49, 41]⟩ = some [0, 1, 5, 3, 4, 8, 6, 7, 2, 10, 11, 9] := cycO_lit _ _ _ _ rfl (by decide) (isP_of (by decide)) rfl (by decide)
/-- The degree of a known puzzle. -/
def knN (k : Int) : Int := if k = 0 then 4 else if k = 1 then 6 else if k = 2 then 6 else if k = 3 then 7 else if k = 4 then 12 else if k = 5 then 12 else 0
/-- Its names. -/
def knS (k : Int) : ByteArray := if k = 0 then ⟨#[65, 66, 67]⟩ else if k = 1 then ⟨#[65, 66]⟩ else if k = 2 then ⟨#[65, 66]⟩ else if k = 3 then ⟨#[65, 66, 67]⟩ else if k = 4 then ⟨#[65, 66, 67, 68]⟩ else if k = 5 then ⟨#[65, 66, 67, 68]⟩ else ⟨#[]⟩
/-- Its moves. -/
def knG (k : Int) : List (List Int) := if k = 0 then [[1, 0, 2, 3], [0, 2, 1, 3], [0, 1, 3, 2]] else if k = 1 then [[1, 2, 3, 4, 5, 0], [2, 1, 0, 3, 4, 5]] else if k = 2 then [[1, 2, 3, 0, 4, 5], [0, 1, 3, 4, 5, 2]] else if k = 3 then [[1, 2, 3, 0, 4, 5, 6], [0, 2, 6, 3, 4, 1, 5], [4, 0, 2, 3, 5, 1, 6]] else if k = 4 then [[1, 0, 2, 3, 5, 4, 6, 7, 8, 9, 10, 11], [0, 2, 1, 3, 4, 5, 7, 6, 8, 9, 10, 11], [0, 1, 3, 2, 4, 5, 6, 7, 9, 8, 10, 11], [3, 1, 2, 0, 4, 5, 6, 7, 8, 9, 11, 10]] else if k = 5 then [[1, 2, 0, 6, 4, 5, 9, 7, 8, 3, 10, 11], [7, 1, 2, 4, 5, 3, 6, 10, 8, 9, 0, 11], [0, 4, 2, 3, 11, 5, 7, 8, 6, 9, 10, 1], [0, 1, 5, 3, 4, 8, 6, 7, 2, 10, 11, 9]] else []
/-- Whether there is one. -/
def knB (k : Int) : Bool := decide (0 ≤ k) && decide (k ≤ 5)
/-- The texts as they are read. -/
def rdC (n : Int) (ss : List ByteArray) : List (List Int) := ss.map fun s => (cycO n s).getD []
theorem rd0 : rdC 4 [⟨#[40, 48, 32, 49, 41]⟩, ⟨#[40, 49, 32, 50, 41]⟩, ⟨#[40, 50, 32, 51, 41]⟩] = [[1, 0, 2, 3], [0, 2, 1, 3], [0, 1, 3, 2]] := by simp only [rdC, List.map_cons, List.map_nil, kn0_0, kn0_1, kn0_2, Option.getD_some]
theorem rd1 : rdC 6 [⟨#[40, 48, 32, 49, 32, 50, 32, 51, 32, 52, 32, 53, 41]⟩, ⟨#[40, 48, 32, 50, 41]⟩] = [[1, 2, 3, 4, 5, 0], [2, 1, 0, 3, 4, 5]] := by simp only [rdC, List.map_cons, List.map_nil, kn1_0, kn1_1, Option.getD_some]
theorem rd2 : rdC 6 [⟨#[40, 48, 32, 49, 32, 50, 32, 51, 41]⟩, ⟨#[40, 50, 32, 51, 32, 52, 32, 53, 41]⟩] = [[1, 2, 3, 0, 4, 5], [0, 1, 3, 4, 5, 2]] := by simp only [rdC, List.map_cons, List.map_nil, kn2_0, kn2_1, Option.getD_some]
theorem rd3 : rdC 7 [⟨#[40, 48, 32, 49, 32, 50, 32, 51, 41]⟩, ⟨#[40, 49, 32, 50, 32, 54, 32, 53, 41]⟩, ⟨#[40, 48, 32, 52, 32, 53, 32, 49, 41]⟩] = [[1, 2, 3, 0, 4, 5, 6], [0, 2, 6, 3, 4, 1, 5], [4, 0, 2, 3, 5, 1, 6]] := by simp only [rdC, List.map_cons, List.map_nil, kn3_0, kn3_1, kn3_2, Option.getD_some]
theorem rd4 : rdC 12 [⟨#[40, 48, 32, 49, 41, 40, 52, 32, 53, 41]⟩, ⟨#[40, 49, 32, 50, 41, 40, 54, 32, 55, 41]⟩, ⟨#[40, 50, 32, 51, 41, 40, 56, 32, 57, 41]⟩, ⟨#[40, 48, 32, 51, 41, 40, 49, 48, 32, 49, 49, 41]⟩] = [[1, 0, 2, 3, 5, 4, 6, 7, 8, 9, 10, 11], [0, 2, 1, 3, 4, 5, 7, 6, 8, 9, 10, 11], [0, 1, 3, 2, 4, 5, 6, 7, 9, 8, 10, 11], [3, 1, 2, 0, 4, 5, 6, 7, 8, 9, 11, 10]] := by simp only [rdC, List.map_cons, List.map_nil, kn4_0, kn4_1, kn4_2, kn4_3, Option.getD_some]
theorem rd5 : rdC 12 [⟨#[40, 48, 32, 49, 32, 50, 41, 40, 51, 32, 54, 32, 57, 41]⟩, ⟨#[40, 48, 32, 55, 32, 49, 48, 41, 40, 51, 32, 52, 32, 53, 41]⟩, ⟨#[40, 49, 32, 52, 32, 49, 49, 41, 40, 54, 32, 55, 32, 56, 41]⟩, ⟨#[40, 50, 32, 53, 32, 56, 41, 40, 57, 32, 49, 48, 32, 49, 49, 41]⟩] = [[1, 2, 0, 6, 4, 5, 9, 7, 8, 3, 10, 11], [7, 1, 2, 4, 5, 3, 6, 10, 8, 9, 0, 11], [0, 4, 2, 3, 11, 5, 7, 8, 6, 9, 10, 1], [0, 1, 5, 3, 4, 8, 6, 7, 2, 10, 11, 9]] := by simp only [rdC, List.map_cons, List.map_nil, kn5_0, kn5_1, kn5_2, kn5_3, Option.getD_some]
end Go.Proofs.Ytkjokchhffjidaa
