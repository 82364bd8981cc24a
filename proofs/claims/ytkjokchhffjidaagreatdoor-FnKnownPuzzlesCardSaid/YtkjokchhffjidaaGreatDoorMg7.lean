/- Part 7 of the texts: WsB, WsL, PzA, PgA, PzB, EqI, PzC, SEq, PgB, EqP, PzD, Vi, WpA, WpE, PgC, KnD, Dice, PzM, WalkJ9, RowB. No condition of its own: each text tells its own. -/
import Derived.Test.YtkjokchhffjidaaGreatDoorMg5
import Derived.Test.YtkjokchhffjidaaGreatDoorMg6
import Derived.Test.YtkjokchhffjidaaGreatDoorMg2
import Derived.Test.YtkjokchhffjidaaGreatDoorMg4
import Derived.Test.YtkjokchhffjidaaGreatDoorMg1
import Derived.Test.YtkjokchhffjidaaGreatDoorMg3
import Derived.Lib.Bytealg
import Derived.BigQuiet
import Derived.Deep.QuietTactic
import Derived.WalkSpells
import Derived.Deep.RegionWith
import Derived.Lib.ConvBytes
import Derived.Deep.LoopGhost
import Derived.OpenShut
import Derived.Laws.Small
import Derived.RegionTactic
import Derived.Deep.RegionHeld3
set_option linter.unusedVariables false
set_option linter.unusedSimpArgs false

/- The model's inverse words and concatenations. Condition: at most 2097152 letters in a word. -/
namespace Go.Proofs.YtkjokchhffjidaaGreatDoor
open Go.RowKit

def invF (wd : List Int) : List Int := if vW 8 wd = true then ivW wd else []
def redF (wd : List Int) : List Int := if vW 8 wd = true then redW wd else []
/-- Whether words can be written one after the other, and what they make. -/
def okF (xss : List (List Int)) : Bool := xss.all (vW 8) && decide (xss.flatten.length ≤ 200)
def catF (xss : List (List Int)) : List Int := if okF xss = true then xss.flatten else []
theorem catF_len (xss : List (List Int)) : (catF xss).length ≤ 200 := by
  unfold catF
  split
  · rename_i h
    unfold okF at h
    rw [Bool.and_eq_true, decide_eq_true_eq] at h
    exact h.2
  · simp
theorem okF_bad {xss : List (List Int)} {i : Nat} (hi : i < xss.length) (h : vW 8 (xss.getD i []) = false) : okF xss = false := by
  unfold okF
  have : xss.all (vW 8) = false := by
    rw [List.all_eq_false]
    refine ⟨xss.getD i [], ?_, by rw [h]; simp⟩
    rw [List.getD_eq_getElem?_getD, List.getElem?_eq_getElem hi]; exact List.getElem_mem _
  rw [this, Bool.false_and]
theorem okF_all {xss : List (List Int)} (h : ∀ i, i < xss.length → vW 8 (xss.getD i []) = true) : okF xss = decide (xss.flatten.length ≤ 200) := by
  unfold okF
  have : xss.all (vW 8) = true := by
    rw [List.all_eq_true]
    intro y hy
    obtain ⟨i, hi, rfl⟩ := List.mem_iff_getElem.1 hy
    have := h i hi
    rwa [List.getD_eq_getElem?_getD, List.getElem?_eq_getElem hi] at this
  rw [this, Bool.true_and]
theorem flat_take {xss : List (List Int)} {k : Nat} (hk : k < xss.length) : (xss.take (k + 1)).flatten = (xss.take k).flatten ++ xss.getD k [] := by
  rw [List.take_succ_eq_append_getElem hk, List.flatten_append, List.getD_eq_getElem?_getD, List.getElem?_eq_getElem hk]
  simp
theorem flat_len {xss : List (List Int)} (h : ∀ i, i < xss.length → (xss.getD i []).length ≤ 200) : ∀ k, k ≤ xss.length → (xss.take k).flatten.length ≤ 200 * k
  | 0, _ => by simp
  | k + 1, hk => by
    rw [flat_take hk, List.length_append]
    have h1 := flat_len h k (by omega)
    have h2 := h k hk
    omega

/-- A row that a call's dots make. -/
theorem rrLit (w : World) (t : TypeId) (vs : List SV) (xss : List (List Int)) (hl : xss.length = vs.length) (hr : ∀ j, j < vs.length → RI w w.heap.size (vs.getD j sd0).1 (xss.getD j [])) (hn : ∀ j, j < vs.length → (xss.getD j []).length = (vs.getD j sd0).2.1) (hc : ∀ j, j < vs.length → (vs.getD j sd0).2.1 ≤ (vs.getD j sd0).2.2) :
    RR (w.alloc (.cells (vs.map sval).toArray t)) (w.alloc (.cells (vs.map sval).toArray t)).heap.size (some ⟨w.heap.size, 0, none⟩) vs.length vs xss := by
  refine ⟨rfl, hl, fun _ => ⟨w.heap.size, 0, rfl, by simp, fun j hj => ?_⟩, fun j hj => (hr j hj).up ((Below.refl _ _).alloc (Nat.le_refl _) _), hn, hc⟩
  rw [World.cell?_alloc_at _ _ _ _ rfl, Nat.zero_add, List.getD_eq_getElem?_getD, List.getElem?_eq_getElem hj]
  simp [sval, hj]


end Go.Proofs.YtkjokchhffjidaaGreatDoor

/- The model's evaluation of words. Conditions: at most 2097152 letters in a word. -/
namespace Go.Proofs.YtkjokchhffjidaaGreatDoor
open Go.RowKit



/-- What EvaluateWord answers. -/
def evB (a : Int) (gs : List (List Int)) (wd : List Int) : Bool := gB a gs && vW (gs.length : Int) wd
def evF (a : Int) (gs : List (List Int)) (wd : List Int) : List Int := if evB a gs wd = true then evW a.toNat gs wd else []
theorem evF_len {a : Int} {gs : List (List Int)} {wd : List Int} : (evF a gs wd).length ≤ 20 := by
  unfold evF
  split
  · rename_i h
    unfold evB at h
    rw [Bool.and_eq_true] at h
    obtain ⟨N, rfl, h1, h2, _, _, ok⟩ := gB_pm h.1
    rw [Int.toNat_natCast, (evW_pn (N := N) ok h1 h2 (vW_ltg h.2)).2]; exact h2
  · simp

abbrev IsEvw (a : Int) (gs : List (List Int)) (wd out : List Int) (ok : Bool) : Prop := out = evF a gs wd ∧ ok = evB a gs wd
theorem IsEvw.uniq {a : Int} {gs : List (List Int)} {wd o o' : List Int} {b b' : Bool} (h : IsEvw a gs wd o b) (k : IsEvw a gs wd o' b') : o = o' ∧ b = b' := ⟨h.1.trans k.1.symm, h.2.trans k.2.symm⟩
theorem IsEvw.len {a : Int} {gs : List (List Int)} {wd o : List Int} {b : Bool} (h : IsEvw a gs wd o b) : o.length ≤ 20 := by rw [h.1]; exact evF_len

end Go.Proofs.YtkjokchhffjidaaGreatDoor

/- Puzzles: names, validity, what their functions answer. No condition. -/
namespace Go.Proofs.YtkjokchhffjidaaGreatDoor
open Go.RowKit

/-- A byte of a text, as a number. -/
def byt (s : ByteArray) (i : Nat) : Nat := (s.data.toList.getD i 0).toNat
theorem byt_eq (s : ByteArray) {i : Nat} (h : i < s.size) : (s[i]).toNat = byt s i := by
  unfold byt
  rw [List.getD_eq_getElem?_getD, List.getElem?_eq_getElem (by simpa using h)]; rfl
theorem byt_le (s : ByteArray) (i : Nat) : byt s i ≤ 255 := by
  unfold byt; have := (s.data.toList.getD i 0).toNat_lt; omega
/-- The i-th name is a capital letter that none before it is. -/
def nm1B (s : ByteArray) (i : Nat) : Bool := decide (65 ≤ byt s i ∧ byt s i ≤ 90 ∧ ∀ k, k < i → byt s k ≠ byt s i)
def nmB (s : ByteArray) : Bool := decide (∀ i, i < s.size → nm1B s i = true)
def pzB (z : Int) (s : ByteArray) (gs : List (List Int)) : Bool := decide (1 ≤ gs.length ∧ s.size = gs.length) && gB z gs && nmB s
theorem nm1B_iff {s : ByteArray} {i : Nat} : nm1B s i = true ↔ 65 ≤ byt s i ∧ byt s i ≤ 90 ∧ ∀ k, k < i → byt s k ≠ byt s i := by unfold nm1B; rw [decide_eq_true_eq]
theorem nmB_iff {s : ByteArray} : nmB s = true ↔ ∀ i, i < s.size → nm1B s i = true := by unfold nmB; rw [decide_eq_true_eq]
theorem pzB_iff {z : Int} {s : ByteArray} {gs : List (List Int)} : pzB z s gs = true ↔ 1 ≤ gs.length ∧ s.size = gs.length ∧ gB z gs = true ∧ nmB s = true := by
  unfold pzB
  rw [Bool.and_eq_true, Bool.and_eq_true, decide_eq_true_eq]
  exact ⟨fun ⟨⟨⟨a, b⟩, c⟩, d⟩ => ⟨a, b, c, d⟩, fun ⟨a, b, c, d⟩ => ⟨⟨⟨a, b⟩, c⟩, d⟩⟩
theorem nmB_bad {s : ByteArray} {i : Nat} (hi : i < s.size) (h : nm1B s i = false) : nmB s = false := by
  rcases e : nmB s with _ | _
  · rfl
  · have := nmB_iff.1 e i hi
    rw [h] at this; cases this
/-- A state of a puzzle. -/
def stB (z : Int) (s : ByteArray) (gs : List (List Int)) (x : List Int) : Bool := pzB z s gs && (decide ((x.length : Int) = z) && isP x)
/-- ApplyWord, IsSolved. -/
def apB (z : Int) (s : ByteArray) (gs : List (List Int)) (x wd : List Int) : Bool := stB z s gs x && vW (gs.length : Int) wd
def apF (z : Int) (s : ByteArray) (gs : List (List Int)) (x wd : List Int) : List Int := if apB z s gs x wd = true then compL x (evW z.toNat gs wd) else []
def slB (z : Int) (s : ByteArray) (gs : List (List Int)) (x : List Int) : Bool := stB z s gs x && decide (x = idL z.toNat)
/-- The first name that is nm. -/
def mvI (s nm : ByteArray) : Option Nat := (List.range s.size).find? fun i => decide (nm.size = 1 ∧ byt nm 0 = byt s i)
def mvF (z : Int) (s : ByteArray) (gs : List (List Int)) (nm : ByteArray) : Int := if pzB z s gs = true then (match mvI s nm with | some i => (i : Int) | none => -1) else -1
theorem stB_iff {z : Int} {s : ByteArray} {gs : List (List Int)} {x : List Int} : stB z s gs x = true ↔ pzB z s gs = true ∧ (x.length : Int) = z ∧ IsP x := by
  unfold stB
  rw [Bool.and_eq_true, Bool.and_eq_true, decide_eq_true_eq, isP_iff]
theorem mvI_some {s nm : ByteArray} {i : Nat} (hi : i < s.size) (h : nm.size = 1 ∧ byt nm 0 = byt s i) (hn : ∀ j, j < i → ¬ (nm.size = 1 ∧ byt nm 0 = byt s j)) : mvI s nm = some i := by
  unfold mvI
  rw [List.find?_eq_some_iff_getElem]
  exact ⟨decide_eq_true h, i, by simpa using hi, by simp, fun j hj => by rw [List.getElem_range, decide_eq_false (hn j hj)]; rfl⟩
theorem mvI_none {s nm : ByteArray} (hn : ∀ j, j < s.size → ¬ (nm.size = 1 ∧ byt nm 0 = byt s j)) : mvI s nm = none := by
  unfold mvI
  rw [List.find?_eq_none]
  intro j hj
  simpa using hn j (by simpa using hj)
end Go.Proofs.YtkjokchhffjidaaGreatDoor

/- strings.IndexByte, strings.Index of one letter. Condition: none. -/
namespace Go.Proofs.YtkjokchhffjidaaGreatDoor
open Go.RowKit

/-- The first place of a byte, or -1. -/
def ixF (s : ByteArray) (b : Nat) : Int := match (List.range s.size).find? (fun i => decide (byt s i = b)) with
  | some i => (i : Int)
  | none => -1
theorem ixF_idx (s : ByteArray) (b : Nat) (hb : b ≤ 255) : firstIdx s ((b : Int)).toNat.toUInt8 = ixF s b := by
  unfold firstIdx ixF
  have e : (List.range s.size).find? (fun i => s[i]! == ((b : Int)).toNat.toUInt8) = (List.range s.size).find? (fun i => decide (byt s i = b)) := by
    apply Lib.find_congr
    intro i hi
    have hi' : i < s.size := List.mem_range.1 hi
    have e1 : s[i]! = s[i] := getElem!_pos s i hi'
    have e2 : (UInt8.ofNat b).toNat = b := by rw [UInt8.toNat_ofNat']; omega
    rw [e1, ← byt_eq s hi', Int.toNat_natCast, Bool.eq_iff_iff, beq_iff_eq, decide_eq_true_eq]
    constructor
    · intro h; rw [h]; exact e2
    · intro h; apply UInt8.toNat_inj.1; rw [h]; exact e2.symm
  rw [e]
  cases List.find? (fun i => decide (byt s i = b)) (List.range s.size) <;> rfl
theorem ixF_some {s : ByteArray} {b i : Nat} (hi : i < s.size) (h : byt s i = b) (hn : ∀ j, j < i → byt s j ≠ b) : ixF s b = (i : Int) := by
  unfold ixF
  have e : (List.range s.size).find? (fun i => decide (byt s i = b)) = some i := by
    rw [List.find?_eq_some_iff_getElem]
    exact ⟨decide_eq_true h, i, by simpa using hi, by simp, fun j hj => by rw [List.getElem_range, decide_eq_false (hn j hj)]; rfl⟩
  rw [e]
theorem ixF_none {s : ByteArray} {b : Nat} (hn : ∀ j, j < s.size → byt s j ≠ b) : ixF s b = -1 := by
  unfold ixF
  have e : (List.range s.size).find? (fun i => decide (byt s i = b)) = none := by
    rw [List.find?_eq_none]
    intro j hj
    simpa using hn j (by simpa using hj)
  rw [e]
theorem ixF_less {s : ByteArray} {b k : Nat} (hk : k < s.size) (h : byt s k = b) : ixF s b ≤ (k : Int) := by
  unfold ixF
  split
  · rename_i i e
    rw [List.find?_eq_some_iff_getElem] at e
    obtain ⟨_, j, hj, ej, hm⟩ := e
    rw [List.getElem_range] at ej
    subst ej
    by_cases hlt : k < j
    · have := hm k hlt
      rw [List.getElem_range, decide_eq_true h] at this
      cases this
    · omega
  · omega
/-- The test of a name. -/
theorem nm1_test {s : ByteArray} {i : Nat} (hi : i < s.size) : decide (ixF s (byt s i) < (i : Int)) = false ↔ ∀ k, k < i → byt s k ≠ byt s i := by
  rw [decide_eq_false_iff_not]
  constructor
  · intro h k hk e
    have := ixF_less (by omega) e
    omega
  · intro h
    rw [ixF_some hi rfl h]
    omega
/-- The place of the name, in MoveIndex. -/
theorem mvI_ix {s nm : ByteArray} (h1 : nm.size = 1) : (match mvI s nm with | some i => (i : Int) | none => -1) = ixF s (byt nm 0) := by
  unfold mvI ixF
  have e : (List.range s.size).find? (fun i => decide (nm.size = 1 ∧ byt nm 0 = byt s i)) = (List.range s.size).find? (fun i => decide (byt s i = byt nm 0)) := by
    apply Lib.find_congr
    intro i _
    rw [decide_eq_decide]
    exact ⟨fun h => h.2.symm, fun h => ⟨h1, h.symm⟩⟩
  rw [e]

set_option maxHeartbeats 1000000 in
set_option maxRecDepth 100000 in
/-- internal/stringslite.IndexByte. -/
theorem slIxB (s : ByteArray) (b : Nat) (hb : b ≤ 255) (w : World) :
    Calls Tryz.prog 47 #[.string s, .int .u8 (b : Int)] w fun e w' => e = .returned (.int .i64 (ixF s b)) ∧ w = w' := by
  go_enter Tryz.func47, Tryz.ntmps47
  go_wp2_with fail
  rw [run_callFunc_extern Tryz.func62 (by kernel_rfl) (by kernel_rfl) (by kernel_rfl) (e := Extern.BytealgIndexByte.indexByte) (by kernel_rfl), run_indexByte_string, ixF_idx s b hb]
  simp only [Result.andThen]
  rw [Oper.upon_value]
  go_wp2_with fail
  go_ret
  exact ⟨rfl, rfl⟩
set_option maxHeartbeats 1000000 in
set_option maxRecDepth 100000 in
/-- strings.IndexByte. -/
theorem sIxB (s : ByteArray) (b : Nat) (hb : b ≤ 255) (w : World) :
    Calls Tryz.prog 34 #[.string s, .int .u8 (b : Int)] w fun e w' => e = .returned (.int .i64 (ixF s b)) ∧ w = w' := by
  go_enter Tryz.func34, Tryz.ntmps34
  go_wp2_with fail
  refine (slIxB s b hb w).mono ?_
  rintro e w' ⟨rfl, rfl⟩
  go_wp2_with fail
  go_ret
  exact ⟨rfl, rfl⟩
set_option maxHeartbeats 1000000 in
set_option maxRecDepth 100000 in
/-- internal/stringslite.Index of one letter. -/
theorem slIx1 (s t : ByteArray) (h1 : t.size = 1) (w : World) :
    Calls Tryz.prog 38 #[.string s, .string t] w fun e w' => e = .returned (.int .i64 (ixF s (byt t 0))) ∧ ∃ q, w' = w.drewN q := by
  have hb := byt_le t 0
  have d0 : ((t.size : Int) == 0) = false := by rw [h1]; rfl
  have d1 : ((t.size : Int) == 1) = true := by rw [h1]; rfl
  have p0 : (0 : Int) < t.size := by omega
  have p1 : 0 < t.size := by omega
  have eb := byt_eq t p1
  obtain ⟨b, ebb⟩ : ∃ b, byt t 0 = b := ⟨_, rfl⟩
  rw [ebb] at eb hb
  have Eb := Lib.hid ebb
  by_cases hst : t = s
  · have te : (t.toList == s.toList) = true := by rw [hst]; simp
    have te' : (s.toList == t.toList) = true := by rw [hst]; simp
    have Fin : Hid (ixF s (byt t 0) = 0) := Lib.hid (by rw [ixF_some (i := 0) (by rw [← hst]; exact p1) (by rw [hst]) (fun j hj => absurd hj (Nat.not_lt_zero _))]; rfl)
    clear hst ebb eb
    go_enter Tryz.func38, Tryz.ntmps38
    go_wp2_with fail
    go_ret
    exact ⟨by rw [Fin.out]; try rfl, 0, rfl⟩
  · have te : (t.toList == s.toList) = false := by rw [beq_eq_false_iff_ne]; exact fun e => hst (by rw [ByteArray.toList_eq, ByteArray.toList_eq] at e; cases t; cases s; congr 1; exact Array.ext' e)
    have te' : (s.toList == t.toList) = false := by rw [beq_eq_false_iff_ne]; exact fun e => hst (by rw [ByteArray.toList_eq, ByteArray.toList_eq] at e; cases t; cases s; congr 1; exact (Array.ext' e).symm)
    rw [ebb]
    clear hst ebb
    go_enter Tryz.func38, Tryz.ntmps38
    go_wp2_with fail
    refine (slIxB s b hb _).mono ?_
    rintro e w' ⟨rfl, rfl⟩
    go_wp2_with fail
    go_ret
    exact ⟨rfl, 0, rfl⟩
set_option maxHeartbeats 1000000 in
set_option maxRecDepth 100000 in
/-- strings.Index of one letter. -/
theorem sIx1 (s t : ByteArray) (h1 : t.size = 1) (w : World) :
    Calls Tryz.prog 28 #[.string s, .string t] w fun e w' => e = .returned (.int .i64 (ixF s (byt t 0))) ∧ ∃ q, w' = w.drewN q := by
  go_enter Tryz.func28, Tryz.ntmps28
  go_wp2_with fail
  refine (slIx1 s t h1 w).mono ?_
  rintro e w' ⟨rfl, q, rfl⟩
  go_wp2_with fail
  go_ret
  exact ⟨rfl, q, rfl⟩
end Go.Proofs.YtkjokchhffjidaaGreatDoor

/- The model's puzzles: names, IsValidPuzzle. Conditions: at most 1048576 moves, points each, names. -/
namespace Go.Proofs.YtkjokchhffjidaaGreatDoor
open Go.RowKit

/-- A puzzle that can be read. -/
structure PIn (w : World) (z : Int) (s : ByteArray) (A : Option Addr) (n : Nat) (vs : List SV) (gs : List (List Int)) : Prop where
  g : GIn w A n vs gs
  z : I64 z
  s : s.size ≤ 1048576
theorem PIn.up {w w' : World} {z : Int} {s : ByteArray} {A : Option Addr} {n : Nat} {vs : List SV} {gs : List (List Int)} (h : PIn w z s A n vs gs) (hb : Below w.heap.size w w') : PIn w' z s A n vs gs := ⟨h.g.up hb, h.z, h.s⟩

set_option maxHeartbeats 1600000 in
set_option maxRecDepth 100000 in
/-- isMoveName. -/
theorem specMoveName (s : ByteArray) (i : Nat) (w : World) (hi : i < s.size) (hs : s.size ≤ 1048576) :
    Calls Tryz.prog 36 #[.string s, .int .i64 (i : Nat)] w fun e w' => e = .returned (.bool (nm1B s i)) ∧ ∃ q, w' = w.drewN q := by
  have p0 : (0 : Int) ≤ i := by omega
  have p1 : (i : Int) < s.size := by omega
  have eb := byt_eq s hi
  obtain ⟨b, ebb⟩ : ∃ b, byt s i = b := ⟨_, rfl⟩
  rw [ebb] at eb
  have E : Hid (nm1B s i = decide (65 ≤ b ∧ b ≤ 90 ∧ ∀ k, k < i → byt s k ≠ b)) := Lib.hid (by unfold nm1B; rw [ebb])
  clear ebb
  by_cases h1 : 65 ≤ b
  · have d1 : decide ((b : Int) < 65) = false := by simp; omega
    by_cases h2 : b ≤ 90
    · have d2 : decide ((90 : Int) < (b : Int)) = false := by simp; omega
      go_enter Tryz.func36, Tryz.ntmps36
      go_wp2_with fail
      go_loopw [5] (fun kv wr => ∃ k : Nat, k ≤ i ∧ kv = .int .i64 (k : Nat) ∧ (∀ j, j < k → byt s j ≠ b) ∧ ∃ q, wr = w.drewN q) (fun kv _ => i - (intOf kv).toNat)
      case atStart => exact ⟨0, Nat.zero_le _, rfl, fun j h => absurd h (Nat.not_lt_zero _), 0, rfl⟩
      case round =>
        obtain ⟨k, hk, rfl, hno, q, rfl⟩ := hrel
        have Hno := Lib.hid hno
        clear hno
        by_cases hlt : k < i
        · have p2 : (0 : Int) ≤ k := by omega
          have p3 : (k : Int) < i := by omega
          have p4 : (k : Int) < s.size := by omega
          have hks : k < s.size := by omega
          have ec := byt_eq s hks
          obtain ⟨c, ecc⟩ : ∃ c, byt s k = c := ⟨_, rfl⟩
          rw [ecc] at ec
          have Ec := Lib.hid ecc
          clear ecc
          by_cases hcb : c = b
          · have de : ((c : Int) == (b : Int)) = true := by rw [beq_iff_eq]; omega
            have Fin : Hid (nm1B s i = false) := Lib.hid (by rw [E.out, decide_eq_false_iff_not]; intro h; exact h.2.2 k hlt (by rw [Ec.out]; exact hcb))
            clear hcb
            go_wp2_with fail
            go_quiet (fail)
            go_wp2_with fail
            go_ret
            exact ⟨ret_bool Fin.out.symm, _, World.drewN_drewN _ _ _⟩
          · have de : ((c : Int) == (b : Int)) = false := by rw [beq_eq_false_iff_ne]; omega
            have Nx : Hid (byt s k ≠ b) := Lib.hid (by rw [Ec.out]; exact hcb)
            clear hcb
            go_wp2_with fail
            go_quiet (fail)
            go_wp2_with fail
            go_roundw
            case rel => exact ⟨k + 1, by omega, by go_num, fun j hj => by
              by_cases e : j = k
              · subst e; exact Nx.out
              · exact Hno.out j (by omega), _, rfl⟩
            case measure => simp [intOf]; omega
        · obtain rfl : k = i := by omega
          have Fin : Hid (nm1B s k = true) := Lib.hid (by rw [E.out]; exact decide_eq_true ⟨h1, h2, Hno.out⟩)
          go_wp2_with fail
          go_ret
          exact ⟨ret_bool Fin.out.symm, _, rfl⟩
    · have d2 : decide ((90 : Int) < (b : Int)) = true := by simp; omega
      have Fin : Hid (nm1B s i = false) := Lib.hid (by rw [E.out, decide_eq_false_iff_not]; intro h; exact h2 h.2.1)
      go_enter Tryz.func36, Tryz.ntmps36
      go_wp2_with fail
      go_ret
      exact ⟨ret_bool Fin.out.symm, 0, rfl⟩
  · have d1 : decide ((b : Int) < 65) = true := by simp; omega
    have Fin : Hid (nm1B s i = false) := Lib.hid (by rw [E.out, decide_eq_false_iff_not]; intro h; exact h1 h.1)
    go_enter Tryz.func36, Tryz.ntmps36
    go_wp2_with fail
    go_ret
    exact ⟨ret_bool Fin.out.symm, 0, rfl⟩

set_option maxHeartbeats 1600000 in
set_option maxRecDepth 100000 in
/-- IsValidPuzzle. -/
theorem specIsValidPuzzle (z : Int) (s : ByteArray) (A : Option Addr) (n c : Nat) (vs : List SV) (gs : List (List Int)) (w : World) (h : PIn w z s A n vs gs) :
    Calls Tryz.prog 24 #[.agg #[.int .i64 z, .string s, .slice A n c]] w fun e w' => e = .returned (.bool (pzB z s gs)) ∧ Below w.heap.size w w' := by
  have hlx : Hid (gs.length = n) := Lib.hid h.g.rr.lx
  have H := Lib.hid h
  have hs := h.s
  have bV : Hid (Blk (w.alloc (.cells #[.int .i64 z, .string s, .slice A n c] 30)) w.heap.size 30 #[.int .i64 z, .string s, .slice A n c]) := Lib.hid (Blk.new w _ _)
  have BV : Hid (Below w.heap.size w (w.alloc (.cells #[.int .i64 z, .string s, .slice A n c] 30))) := Lib.hid ((Below.refl _ w).alloc (Nat.le_refl _) _)
  have HV := Lib.hid (h.up BV.out)
  clear h
  by_cases hn0 : n = 0
  · have d0 : ((n : Int) == 0) = true := by rw [beq_iff_eq]; omega
    have Fin : Hid (pzB z s gs = false) := Lib.hid (by
      rcases e : pzB z s gs with _ | _
      · rfl
      · have := (pzB_iff.1 e).1; have := hlx.out; omega)
    go_enter Tryz.func24, Tryz.ntmps24
    go_wp2_with fail
    go_ret
    exact ⟨ret_bool Fin.out.symm, (Below.refl _ w).alloc (Nat.le_refl _) _⟩
  · have d0 : ((n : Int) == 0) = false := by rw [beq_eq_false_iff_ne]; omega
    by_cases hsn : s.size = n
    · have d1 : ((s.size : Int) != (n : Int)) = false := by rw [bne_eq_false_iff_eq]; omega
      have K := specGS z A n c vs gs _ HV.out.g.rr HV.out.g.hn (Lib.hid HV.out.g.hl) H.out.z
      rcases hg : gB z gs with _ | _
      · have Fin : Hid (pzB z s gs = false) := Lib.hid (by unfold pzB; rw [hg]; simp)
        rw [hg] at K
        go_enter Tryz.func24, Tryz.ntmps24
        go_wp2_with fail
        refine K.mono ?_
        rintro e w1 ⟨rfl, b1⟩
        have B1 : Hid (Below w.heap.size w w1) := Lib.hid (btr BV.out b1)
        clear K b1
        go_wp2_with fail
        go_ret
        exact ⟨ret_bool Fin.out.symm, B1.out⟩
      · rw [hg] at K
        have Ok : Hid (nmB s = true → pzB z s gs = true) := Lib.hid fun hm => pzB_iff.2 ⟨by have := hlx.out; omega, by rw [hlx.out]; exact hsn, hg, hm⟩
        have No : Hid (nmB s = false → pzB z s gs = false) := Lib.hid fun hm => by unfold pzB; rw [hm, Bool.and_false]
        clear hg
        go_enter Tryz.func24, Tryz.ntmps24
        go_wp2_with fail
        refine K.mono ?_
        rintro e w1 ⟨rfl, b1⟩
        have B1 : Hid (Below w.heap.size w w1) := Lib.hid (btr BV.out b1)
        have bx1 : Hid (Blk w1 w.heap.size 30 #[.int .i64 z, .string s, .slice A n c]) := Lib.hid (bV.out.below b1 bV.out.lt)
        clear K b1
        go_wp2_with fail
        go_loopw [3] (fun iv wr => ∃ i : Nat, i ≤ s.size ∧ iv = .int .i64 (i : Nat) ∧ (∀ j, j < i → nm1B s j = true) ∧ ∃ q, wr = w1.drewN q) (fun iv _ => s.size - (intOf iv).toNat)
        case atStart => exact ⟨0, Nat.zero_le _, rfl, fun j h => absurd h (Nat.not_lt_zero _), 0, rfl⟩
        case round =>
          obtain ⟨i, hi, rfl, hok, q, rfl⟩ := hrel
          have Hok := Lib.hid hok
          clear hok
          have e1 : (w1.drewN q).cell? ⟨w.heap.size, 1, none⟩ = some (.string s) := bx1.out.cell 1
          by_cases hlt : i < s.size
          · have K2 := specMoveName s i (w1.drewN q) hlt hs
            rcases hm : nm1B s i with _ | _
            · have Fin : Hid (pzB z s gs = false) := Lib.hid (No.out (nmB_bad hlt hm))
              rw [hm] at K2
              have Be : Hid (∀ q2, Below w.heap.size w (w1.drewN q2)) := Lib.hid fun q2 => below_drewN B1.out _
              go_wp2_with fail
              refine K2.mono ?_
              rintro e w2 ⟨rfl, q2, rfl⟩
              clear K2
              go_wp2_with fail
              go_ret
              exact ⟨ret_bool Fin.out.symm, Be.out _⟩
            · rw [hm] at K2
              have Nx := Lib.hid hm
              go_wp2_with fail
              refine K2.mono ?_
              rintro e w2 ⟨rfl, q2, rfl⟩
              clear K2
              go_wp2_with fail
              go_roundw
              case rel => exact ⟨i + 1, by omega, by go_num, fun j hj => by
                by_cases e : j = i
                · subst e; exact Nx.out
                · exact Hok.out j (by omega), _, rfl⟩
              case measure => simp [intOf]; omega
          · obtain hie : i = s.size := by omega
            subst hie
            have Fin : Hid (pzB z s gs = true) := Lib.hid (Ok.out (nmB_iff.2 Hok.out))
            have Be : Hid (Below w.heap.size w (w1.drewN q)) := Lib.hid (below_drewN B1.out q)
            go_wp2_with fail
            go_ret
            exact ⟨ret_bool Fin.out.symm, Be.out⟩
    · have d1 : ((s.size : Int) != (n : Int)) = true := by rw [bne_iff_ne]; omega
      have Fin : Hid (pzB z s gs = false) := Lib.hid (by
        rcases e : pzB z s gs with _ | _
        · rfl
        · have := (pzB_iff.1 e).2.1; have := hlx.out; omega)
      go_enter Tryz.func24, Tryz.ntmps24
      go_wp2_with fail
      go_ret
      exact ⟨ret_bool Fin.out.symm, BV.out⟩
end Go.Proofs.YtkjokchhffjidaaGreatDoor

/- equalInts of the model. No condition but lengths. -/
namespace Go.Proofs.YtkjokchhffjidaaGreatDoor
open Go.RowKit

set_option maxHeartbeats 400000 in
theorem eqIs2_core (A B : Option Addr) (c d n : Nat) (xs ys : List Int) (w : World) (hx : RI w w.heap.size A xs) (hy : RI w w.heap.size B ys) (lx : Hid (xs.length = n)) (ly : Hid (ys.length = n)) (hn : n ≤ 2097152) :
    Calls Tryz.prog 37 #[.slice A n c, .slice B n d] w fun e w' => e = .returned (.bool (decide (xs = ys))) ∧ ∃ m, w' = w.drewN m := by
  go_enter Tryz.func37, Tryz.ntmps37
  go_wp2
  go_loopw [5] (fun i wr => ∃ k : Nat, k ≤ n ∧ i = .int .i64 k ∧ (∀ j, j < k → xs.getD j 0 = ys.getD j 0) ∧ ∃ m, wr = w.drewN m) (fun i _ => n - (intOf i).toNat)
  case atStart => exact ⟨0, Nat.zero_le _, rfl, fun j h => absurd h (by omega), 0, rfl⟩
  case round =>
    obtain ⟨k, hk, rfl, heq, m, rfl⟩ := hrel
    have Heq := Lib.hid heq
    clear heq
    by_cases hlt : k < n
    · obtain ⟨b, off, rfl, hb, hc⟩ := hx (by rw [lx.out]; omega)
      obtain ⟨b', off', rfl, hb', hc'⟩ := hy (by rw [ly.out]; omega)
      have c1 := hc k (by rw [lx.out]; omega)
      have c2 := hc' k (by rw [ly.out]; omega)
      obtain ⟨x, ex⟩ : ∃ x, xs.getD k 0 = x := ⟨_, rfl⟩
      obtain ⟨y, ey⟩ : ∃ y, ys.getD k 0 = y := ⟨_, rfl⟩
      rw [ex] at c1
      rw [ey] at c2
      have Ex := Lib.hid ex
      have Ey := Lib.hid ey
      clear ex ey hc hc' hx hy
      have p1 : (0 : Int) ≤ k := by omega
      have p2 : (k : Int) < n := by omega
      by_cases hxy : x = y
      · subst hxy
        go_wp2
        go_quiet (fail)
        go_wp2
        go_roundw
        case rel => exact ⟨k + 1, by omega, by go_num, fun j hj => by
          by_cases e : j = k
          · subst e; rw [Ex.out, Ey.out]
          · exact Heq.out j (by omega), _, rfl⟩
        case measure => simp [intOf]; omega
      · have hd : (x != y) = true := by simpa using hxy
        have hd' : (x == y) = false := by simpa using hxy
        go_wp2
        go_quiet (fail)
        go_wp2
        go_ret
        refine ⟨ret_bool (Eq.symm (decide_eq_false fun e => hxy ?_)), _, World.drewN_drewN _ _ _⟩
        rw [← Ex.out, ← Ey.out, e]
    · go_wp2
      go_ret
      have : k = n := by omega
      subst this
      exact ⟨ret_bool (Eq.symm (decide_eq_true (ext_getD lx.out ly.out Heq.out))), _, rfl⟩
theorem eqIs2 (A B : Option Addr) (c d n m : Nat) (xs ys : List Int) (w : World) (hx : RI w w.heap.size A xs) (hy : RI w w.heap.size B ys) (lx : Hid (xs.length = n)) (ly : Hid (ys.length = m)) (hn : n ≤ 2097152) (hm : m ≤ 2097152) :
    Calls Tryz.prog 37 #[.slice A n c, .slice B m d] w fun e w' => e = .returned (.bool (decide (xs = ys))) ∧ ∃ m, w' = w.drewN m := by
  by_cases hl : n = m
  · subst hl
    exact eqIs2_core A B c d n xs ys w hx hy lx ly hn
  · have hd : ((n : Int) != (m : Int)) = true := by rw [bne_iff_ne]; omega
    have hd' : ((n : Int) == (m : Int)) = false := by rw [beq_eq_false_iff_ne]; omega
    go_enter Tryz.func37, Tryz.ntmps37
    go_wp2
    go_ret
    refine ⟨ret_bool (Eq.symm (decide_eq_false fun e => hl ?_)), 0, rfl⟩
    rw [← lx.out, ← ly.out, e]
end Go.Proofs.YtkjokchhffjidaaGreatDoor

/- The model's states of puzzles: IsState, IsSolved, StateCount, IsReachable, ApplyWord. Conditions: those of PIn, SIn. -/
namespace Go.Proofs.YtkjokchhffjidaaGreatDoor
open Go.RowKit

def IsStc (z : Int) (s : ByteArray) (gs : List (List Int)) (v : Int) : Prop := (pzB z s gs = true ∧ IsOrd z gs v) ∨ (pzB z s gs = false ∧ v = 0)
theorem IsStc.uniq {z v v' : Int} {s : ByteArray} {gs : List (List Int)} (h : IsStc z s gs v) (k : IsStc z s gs v') : v = v' := by
  rcases h with ⟨a, h⟩ | ⟨a, rfl⟩ <;> rcases k with ⟨b, k⟩ | ⟨b, rfl⟩
  · exact h.uniq k
  · rw [a] at b; cases b
  · rw [a] at b; cases b
  · rfl
def IsRch (z : Int) (s : ByteArray) (gs : List (List Int)) (x : List Int) (b : Bool) : Prop := b = true ↔ (stB z s gs x = true ∧ Memb z gs x)
theorem IsRch.uniq {z : Int} {s : ByteArray} {gs : List (List Int)} {x : List Int} {b b' : Bool} (h : IsRch z s gs x b) (k : IsRch z s gs x b') : b = b' := by
  unfold IsRch at h k; rw [Bool.eq_iff_iff, h, k]
theorem stB_no {z : Int} {s : ByteArray} {gs : List (List Int)} {x : List Int} (h : pzB z s gs = false) : stB z s gs x = false := by unfold stB; rw [h, Bool.false_and]
theorem pz_deg {z : Int} {s : ByteArray} {gs : List (List Int)} (h : pzB z s gs = true) : ∃ N : Nat, z = (N : Int) ∧ 1 ≤ N ∧ N ≤ 20 ∧ gs.length ≤ 8 ∧ (∀ g ∈ gs, Pn N g) ∧ gB z gs = true := by
  obtain ⟨N, e, a, b, c, _, ok⟩ := gB_pm (pzB_iff.1 h).2.2.1
  exact ⟨N, e, a, b, c, ok, (pzB_iff.1 h).2.2.1⟩





end Go.Proofs.YtkjokchhffjidaaGreatDoor

/- slices.Equal of what can be read. Conditions: at most 2097152 numbers. -/
namespace Go.Proofs.YtkjokchhffjidaaGreatDoor
open Go.RowKit

set_option maxHeartbeats 400000 in
/-- slices.Equal of two lists that can be read. -/
theorem sEq_core (A B : Option Addr) (c d n : Nat) (xs ys : List Int) (w : World) (hx : RI w w.heap.size A xs) (hy : RI w w.heap.size B ys) (lx : Hid (xs.length = n)) (ly : Hid (ys.length = n)) (hn : n ≤ 2097152) :
    Calls Tryz.prog 27 #[.slice A n c, .slice B n d] w fun e w' => e = .returned (.bool (decide (xs = ys))) ∧ ∃ m, w' = w.drewN m := by
  go_enter Tryz.func27, Tryz.ntmps27
  go_wp2
  go_loopw [5, 13] (fun _ i wr => ∃ k : Nat, k ≤ n ∧ i = .int .i64 k ∧ (∀ j, j < k → xs.getD j 0 = ys.getD j 0) ∧ ∃ m, wr = w.drewN m) (fun _ i _ => n - (intOf i).toNat)
  case atStart => exact ⟨0, Nat.zero_le _, rfl, fun j h => absurd h (by omega), 0, rfl⟩
  case round =>
    obtain ⟨k, hk, rfl, heq, m, rfl⟩ := hrel
    have Heq := Lib.hid heq
    clear heq
    by_cases hlt : k < n
    · obtain ⟨b, off, rfl, hb, hc⟩ := hx (by rw [lx.out]; omega)
      obtain ⟨b', off', rfl, hb', hc'⟩ := hy (by rw [ly.out]; omega)
      have c1 := hc k (by rw [lx.out]; omega)
      have c2 := hc' k (by rw [ly.out]; omega)
      obtain ⟨x, ex⟩ : ∃ x, xs.getD k 0 = x := ⟨_, rfl⟩
      obtain ⟨y, ey⟩ : ∃ y, ys.getD k 0 = y := ⟨_, rfl⟩
      rw [ex] at c1
      rw [ey] at c2
      have Ex := Lib.hid ex
      have Ey := Lib.hid ey
      clear ex ey hc hc' hx hy
      have p1 : (0 : Int) ≤ k := by omega
      have p2 : (k : Int) < n := by omega
      by_cases hxy : x = y
      · subst hxy
        go_wp2
        go_quiet (fail)
        go_wp2
        go_roundw
        case rel => exact ⟨k + 1, by omega, by go_num, fun j hj => by
          by_cases e : j = k
          · subst e; rw [Ex.out, Ey.out]
          · exact Heq.out j (by omega), _, rfl⟩
        case measure => simp [intOf]; omega
      · have hd : (x != y) = true := by simpa using hxy
        have hd' : (x == y) = false := by simpa using hxy
        go_wp2
        go_quiet (fail)
        go_wp2
        go_ret
        refine ⟨ret_bool (Eq.symm (decide_eq_false fun e => hxy ?_)), _, World.drewN_drewN _ _ _⟩
        rw [← Ex.out, ← Ey.out, e]
    · go_wp2
      go_ret
      have : k = n := by omega
      subst this
      exact ⟨ret_bool (Eq.symm (decide_eq_true (ext_getD lx.out ly.out Heq.out))), _, rfl⟩
theorem sEq (A B : Option Addr) (c d n m : Nat) (xs ys : List Int) (w : World) (hx : RI w w.heap.size A xs) (hy : RI w w.heap.size B ys) (lx : Hid (xs.length = n)) (ly : Hid (ys.length = m)) (hn : n ≤ 2097152) (hm : m ≤ 2097152) :
    Calls Tryz.prog 27 #[.slice A n c, .slice B m d] w fun e w' => e = .returned (.bool (decide (xs = ys))) ∧ ∃ m, w' = w.drewN m := by
  by_cases hl : n = m
  · subst hl
    exact sEq_core A B c d n xs ys w hx hy lx ly hn
  · have hd : ((n : Int) != (m : Int)) = true := by rw [bne_iff_ne]; omega
    have hd' : ((n : Int) == (m : Int)) = false := by rw [beq_eq_false_iff_ne]; omega
    go_enter Tryz.func27, Tryz.ntmps27
    go_wp2
    go_ret
    refine ⟨ret_bool (Eq.symm (decide_eq_false fun e => hl ?_)), 0, rfl⟩
    rw [← lx.out, ← ly.out, e]

end Go.Proofs.YtkjokchhffjidaaGreatDoor

/- The program's puzzles: names, IsValidPuzzle, IsState, IsSolved, StateCount, IsReachable. Conditions: those of PIn, SIn. -/

namespace Go.Proofs.YtkjokchhffjidaaGreatDoor
open Go.RowKit

set_option maxHeartbeats 4000000 in
set_option maxRecDepth 100000 in
/-- areDistinctLetters. -/
theorem implADL (s : ByteArray) (w : World) (hs : s.size ≤ 1048576) :
    Calls Tryz.prog 23 #[.string s] w fun e w' => e = .returned (.bool (nmB s)) ∧ Below w.heap.size w w' := by
  have hcv := Lib.run_convert_string_bytes (P := Tryz.prog) w 9 22 5 s (u := .string) Tryz.underlying9 Tryz.underlying22 Tryz.underlying5
  obtain ⟨C, eC⟩ : ∃ C, grownCap w s.size 0 5 = C := ⟨_, rfl⟩
  obtain ⟨W1, eW⟩ : ∃ W1, Lib.bytesWorld w 5 s = W1 := ⟨_, rfl⟩
  rw [eC, eW] at hcv
  have hcell : Hid (∀ j (hj : j < s.size), W1.cell? ⟨w.heap.size, j, none⟩ = some (.int .u8 (s[j]).toNat)) := Lib.hid fun j hj => by rw [← eW, Lib.bytesWorld_cell w _ s j hj, getD_toList s hj]
  have B1 : Hid (Below w.heap.size w W1) := Lib.hid (by
    rw [← eW]
    exact ⟨rfl, rfl, rfl, by rw [Lib.bytesWorld_size]; omega, fun i hi => Lib.bytesWorld_at_old w _ s i hi⟩)
  clear eC eW
  go_enter Tryz.func23, Tryz.ntmps23
  go_wp2_with fail
  go_loopw [8] (fun iv wr => ∃ i : Nat, i ≤ s.size ∧ iv = .int .i64 (i : Nat) ∧ (∀ j, j < i → nm1B s j = true) ∧ ∃ q, wr = W1.drewN q) (fun iv _ => s.size - (intOf iv).toNat)
  case atStart => exact ⟨0, Nat.zero_le _, rfl, fun j h => absurd h (Nat.not_lt_zero _), 0, rfl⟩
  case round =>
    obtain ⟨i, hi, rfl, hok, q, rfl⟩ := hrel
    have Hok := Lib.hid hok
    have Be : Hid (∀ q, Below w.heap.size w (W1.drewN q)) := Lib.hid fun q => below_drewN B1.out q
    clear hok
    by_cases hlt : i < s.size
    · have c1 : (W1.drewN q).cell? ⟨w.heap.size, i, none⟩ = some (.int .u8 (byt s i : Int)) := by rw [← byt_eq s hlt]; exact hcell.out i hlt
      have hb := byt_le s i
      have Tst := Lib.hid (nm1_test hlt)
      have E1 := Lib.hid (nm1B_iff (s := s) (i := i))
      obtain ⟨b, eb⟩ : ∃ b, byt s i = b := ⟨_, rfl⟩
      rw [eb] at c1 hb Tst E1
      have p0 : (0 : Int) ≤ i := by omega
      have p1 : (i : Int) < s.size := by omega
      have K := fun w => sIxB s b hb w
      obtain ⟨r, er⟩ : ∃ r, ixF s b = r := ⟨_, rfl⟩
      rw [er] at K Tst
      clear eb er
      by_cases h1 : 65 ≤ b
      · have d1 : decide ((b : Int) < 65) = false := by simp; omega
        by_cases h2 : b ≤ 90
        · have d2 : decide ((90 : Int) < (b : Int)) = false := by simp; omega
          by_cases h3 : r < (i : Int)
          · have d3 : decide (r < (i : Int)) = true := decide_eq_true h3
            have Fin : Hid (nmB s = false) := Lib.hid (nmB_bad hlt (by
              rcases e : nm1B s i with _ | _
              · rfl
              · have := Tst.out.2 (E1.out.1 e).2.2
                rw [d3] at this; cases this))
            clear h3
            go_wp2_with fail
            refine (K _).mono ?_
            rintro e w' ⟨rfl, rfl⟩
            clear K
            go_wp2_with fail
            go_ret
            exact ⟨ret_bool Fin.out.symm, Be.out _⟩
          · have d3 : decide (r < (i : Int)) = false := decide_eq_false h3
            have Nx : Hid (nm1B s i = true) := Lib.hid (E1.out.2 ⟨h1, h2, Tst.out.1 d3⟩)
            clear h3
            go_wp2_with fail
            refine (K _).mono ?_
            rintro e w' ⟨rfl, rfl⟩
            clear K
            go_wp2_with fail
            go_roundw
            case rel => exact ⟨i + 1, by omega, by go_num, fun j hj => by
              by_cases e : j = i
              · subst e; exact Nx.out
              · exact Hok.out j (by omega), _, rfl⟩
            case measure => simp [intOf]; omega
        · have d2 : decide ((90 : Int) < (b : Int)) = true := by simp; omega
          have Fin : Hid (nmB s = false) := Lib.hid (nmB_bad hlt (by
            rcases e : nm1B s i with _ | _
            · rfl
            · exact absurd (E1.out.1 e).2.1 h2))
          clear K
          go_wp2_with fail
          go_ret
          exact ⟨ret_bool Fin.out.symm, Be.out _⟩
      · have d1 : decide ((b : Int) < 65) = true := by simp; omega
        have Fin : Hid (nmB s = false) := Lib.hid (nmB_bad hlt (by
          rcases e : nm1B s i with _ | _
          · rfl
          · exact absurd (E1.out.1 e).1 h1))
        clear K
        go_wp2_with fail
        go_ret
        exact ⟨ret_bool Fin.out.symm, Be.out _⟩
    · obtain hie : i = s.size := by omega
      subst hie
      have Fin : Hid (nmB s = true) := Lib.hid (nmB_iff.2 Hok.out)
      go_wp2_with fail
      go_ret
      exact ⟨ret_bool Fin.out.symm, Be.out _⟩
set_option maxHeartbeats 1600000 in
set_option maxRecDepth 100000 in
/-- IsValidPuzzle. -/
theorem implIsValidPuzzle (z : Int) (s : ByteArray) (A : Option Addr) (n c : Nat) (vs : List SV) (gs : List (List Int)) (w : World) (h : PIn w z s A n vs gs) :
    Calls Tryz.prog 9 #[.agg #[.int .i64 z, .string s, .slice A n c]] w fun e w' => e = .returned (.bool (pzB z s gs)) ∧ Below w.heap.size w w' := by
  have hlx : Hid (gs.length = n) := Lib.hid h.g.rr.lx
  have hs := h.s
  have bV : Hid (Blk (w.alloc (.cells #[.int .i64 z, .string s, .slice A n c] 30)) w.heap.size 30 #[.int .i64 z, .string s, .slice A n c]) := Lib.hid (Blk.new w _ _)
  have BV : Hid (Below w.heap.size w (w.alloc (.cells #[.int .i64 z, .string s, .slice A n c] 30))) := Lib.hid ((Below.refl _ w).alloc (Nat.le_refl _) _)
  have HV := Lib.hid (h.up BV.out)
  clear h
  by_cases hn0 : n = 0
  · have d0 : decide ((0 : Int) < (n : Int)) = false := by simp; omega
    have d0' : decide (0 < n) = false := by simp; omega
    have Fin : Hid (pzB z s gs = false) := Lib.hid (by
      rcases e : pzB z s gs with _ | _
      · rfl
      · have := (pzB_iff.1 e).1; have := hlx.out; omega)
    have BE := BV
    clear BV
    go_enter Tryz.func9, Tryz.ntmps9
    go_wp2_with fail
    go_ret
    exact ⟨ret_bool Fin.out.symm, by simpa [hn0] using BE.out⟩
  · have d0 : decide ((0 : Int) < (n : Int)) = true := by simp; omega
    have d0' : decide (0 < n) = true := by simp; omega
    have K := implGS z A n c vs gs _ HV.out.g.rr HV.out.g.hn (Lib.hid HV.out.g.hl)
    rcases hg : gB z gs with _ | _
    · have Fin : Hid (pzB z s gs = false) := Lib.hid (by unfold pzB; rw [hg]; simp)
      rw [hg] at K
      go_enter Tryz.func9, Tryz.ntmps9
      go_wp2_with fail
      refine K.mono ?_
      rintro e w1 ⟨rfl, b1⟩
      have B1 : Hid (Below w.heap.size w w1) := Lib.hid (btr BV.out b1)
      clear K b1
      go_wp2_with fail
      go_ret
      exact ⟨ret_bool Fin.out.symm, B1.out⟩
    · rw [hg] at K
      by_cases hsn : s.size = n
      · have d1 : ((s.size : Int) == (n : Int)) = true := by rw [beq_iff_eq]; omega
        have E : Hid (nmB s = pzB z s gs) := Lib.hid (by
          unfold pzB; rw [hg, decide_eq_true (by have := hlx.out; omega)]; rfl)
        clear hg
        go_enter Tryz.func9, Tryz.ntmps9
        go_wp2_with fail
        refine K.mono ?_
        rintro e w1 ⟨rfl, b1⟩
        have B1 : Hid (Below w.heap.size w w1) := Lib.hid (btr BV.out b1)
        have bx1 := bV.out.below b1 bV.out.lt
        have e1 : w1.cell? ⟨w.heap.size, 1, none⟩ = some (.string s) := bx1.cell 1
        have e2 : w1.cell? ⟨w.heap.size, 2, none⟩ = some (.slice A n c) := bx1.cell 2
        clear K b1 bx1
        go_wp2_with fail
        refine (implADL s w1 hs).mono ?_
        rintro e w2 ⟨rfl, b2⟩
        have B2 : Hid (Below w.heap.size w w2) := Lib.hid (btr B1.out b2)
        clear b2
        go_wp2_with fail
        go_ret
        exact ⟨ret_bool E.out, B2.out⟩
      · have d1 : ((s.size : Int) == (n : Int)) = false := by rw [beq_eq_false_iff_ne]; omega
        have Fin : Hid (pzB z s gs = false) := Lib.hid (by
          rcases e : pzB z s gs with _ | _
          · rfl
          · have := (pzB_iff.1 e).2.1; have := hlx.out; omega)
        go_enter Tryz.func9, Tryz.ntmps9
        go_wp2_with fail
        refine K.mono ?_
        rintro e w1 ⟨rfl, b1⟩
        have B1 : Hid (Below w.heap.size w w1) := Lib.hid (btr BV.out b1)
        have bx1 := bV.out.below b1 bV.out.lt
        have e1 : w1.cell? ⟨w.heap.size, 1, none⟩ = some (.string s) := bx1.cell 1
        have e2 : w1.cell? ⟨w.heap.size, 2, none⟩ = some (.slice A n c) := bx1.cell 2
        clear K b1 bx1
        go_wp2_with fail
        go_ret
        exact ⟨ret_bool Fin.out.symm, B1.out⟩
set_option maxHeartbeats 1600000 in
/-- StateCount. -/
theorem implStateCount (z : Int) (s : ByteArray) (A : Option Addr) (n c : Nat) (vs : List SV) (gs : List (List Int)) (w : World) (h : PIn w z s A n vs gs) :
    Calls Tryz.prog 13 #[.agg #[.int .i64 z, .string s, .slice A n c]] w fun e w' => ∃ v, e = .returned (.int .i64 v) ∧ IsStc z s gs v ∧ Below w.heap.size w w' := by
  have bV : Hid (Blk (w.alloc (.cells #[.int .i64 z, .string s, .slice A n c] 30)) w.heap.size 30 #[.int .i64 z, .string s, .slice A n c]) := Lib.hid (Blk.new w _ _)
  have BV : Hid (Below w.heap.size w (w.alloc (.cells #[.int .i64 z, .string s, .slice A n c] 30))) := Lib.hid ((Below.refl _ w).alloc (Nat.le_refl _) _)
  have HV := Lib.hid (h.up BV.out)
  have K := implIsValidPuzzle z s A n c vs gs _ HV.out
  have HZ := Lib.hid h.z
  clear h
  rcases hp : pzB z s gs with _ | _
  · have Fin : Hid (IsStc z s gs 0) := Lib.hid (.inr ⟨hp, rfl⟩)
    rw [hp] at K
    go_enter Tryz.func13, Tryz.ntmps13
    go_wp2_with fail
    refine K.mono ?_
    rintro e w1 ⟨rfl, b1⟩
    have B1 : Hid (Below w.heap.size w w1) := Lib.hid (btr BV.out b1)
    clear K b1
    go_wp2_with fail
    go_ret
    exact ⟨0, rfl, Fin.out, B1.out⟩
  · have Hp := Lib.hid hp
    rw [hp] at K
    clear hp
    go_enter Tryz.func13, Tryz.ntmps13
    go_wp2_with fail
    refine K.mono ?_
    rintro e w1 ⟨rfl, b1⟩
    have B1 : Hid (Below w.heap.size w w1) := Lib.hid (btr BV.out b1)
    have bx : Blk w1 w.heap.size 30 #[.int .i64 z, .string s, .slice A n c] := bV.out.below b1 bV.out.lt
    have c0 : w1.cell? ⟨w.heap.size, 0, none⟩ = some (.int .i64 z) := bx.cell 0
    have c2 : w1.cell? ⟨w.heap.size, 2, none⟩ = some (.slice A n c) := bx.cell 2
    have G1 := Lib.hid (HV.out.g.up b1)
    clear K b1 bx
    go_wp2_with fail
    refine (implGroupOrder z A n c vs gs w1 G1.out HZ.out).mono ?_
    rintro e w2 ⟨v, rfl, r2, b2⟩
    have B2 : Hid (Below w.heap.size w w2) := Lib.hid (btr B1.out b2)
    have R2 : Hid (IsStc z s gs v) := Lib.hid (.inl ⟨Hp.out, r2⟩)
    clear b2 r2
    go_wp2_with fail
    go_ret
    exact ⟨v, rfl, R2.out, B2.out⟩
end Go.Proofs.YtkjokchhffjidaaGreatDoor

/- equalPartitions of the model. Conditions: at most 1000 lists of at most 1000 numbers. -/
namespace Go.Proofs.YtkjokchhffjidaaGreatDoor
open Go.RowKit

theorem getD_LP {l : List (List Int)} {i : Nat} (h : i < l.length) : l.getD i [] = l[i] := by
  rw [List.getD_eq_getElem?_getD, List.getElem?_eq_getElem h]; rfl
set_option maxHeartbeats 1600000 in
set_option maxRecDepth 100000 in
/-- equalPartitions. -/
theorem specEqP (A B : Option Addr) (n c m d : Nat) (vs us : List SV) (xss yss : List (List Int)) (w : World) (hx : RR w w.heap.size A n vs xss) (hy : RR w w.heap.size B m us yss) (hn : n ≤ 1000) (hm : m ≤ 1000) (hl1 : Hid (∀ i, i < n → (xss.getD i []).length ≤ 1000)) (hl2 : Hid (∀ i, i < m → (yss.getD i []).length ≤ 1000)) :
    Calls Tryz.prog 25 #[.slice A n c, .slice B m d] w fun e w' => e = .returned (.bool (decide (xss = yss))) ∧ Below w.heap.size w w' := by
  have HX := Lib.hid hx
  have HY := Lib.hid hy
  clear hx hy
  by_cases hnm : n = m
  · subst hnm
    have e0 : ((n : Int) != (n : Int)) = false := by simp
    go_enter Tryz.func25, Tryz.ntmps25
    go_wp2_with fail
    go_loopw [5] (fun i wr => ∃ k : Nat, k ≤ n ∧ i = .int .i64 (k : Nat) ∧ (∀ j, j < k → xss.getD j [] = yss.getD j []) ∧ Below w.heap.size w wr) (fun i _ => n - (intOf i).toNat)
    case atStart => exact ⟨0, Nat.zero_le _, rfl, fun j h => absurd h (Nat.not_lt_zero _), Below.refl _ _⟩
    case round =>
      obtain ⟨k, hk, rfl, hall, bel⟩ := hrel
      have All := Lib.hid hall
      have Be := Lib.hid bel
      clear hall bel
      by_cases hlt : k < n
      · obtain ⟨b, off, A5, l, c5, y, rfl, hb, ev, ey, x1, r1, ly1, hlc⟩ := (HX.out.up Be.out).at_ hlt
        obtain ⟨b', off', A6, l', c6, y', rfl, hb', ev', ey', x2, r2, ly2, hlc'⟩ := (HY.out.up Be.out).at_ hlt
        have h1 := hl1.out k hlt
        have h2 := hl2.out k hlt
        rw [ey, ly1] at h1
        rw [ey', ly2] at h2
        have R1 := Lib.hid r1
        have R2 := Lib.hid r2
        have L1 : Hid (y.length = l) := Lib.hid ly1
        have L2 : Hid (y'.length = l') := Lib.hid ly2
        have Ey := Lib.hid ey
        have Ey' := Lib.hid ey'
        have p1 : (0 : Int) ≤ k := by omega
        have p2 : (k : Int) < n := by omega
        have BD : Hid (∀ q, Below w.heap.size w (wr.drewN q)) := Lib.hid fun q => below_drewN Be.out q
        clear r1 r2 ly1 ly2 ev ey ev' ey' hb hb'
        by_cases e : y = y'
        · have KQ : Hid (∀ q, Calls Tryz.prog 37 #[.slice A5 l c5, .slice A6 l' c6] (wr.drewN q) fun e w' => e = .returned (.bool true) ∧ ∃ m, w' = (wr.drewN q).drewN m) := Lib.hid fun q => by
            have := eqIs2 A5 A6 c5 c6 l l' y y' (wr.drewN q) (R1.out.drewN q) (R2.out.drewN q) L1 L2 (by omega) (by omega)
            rwa [decide_eq_true e] at this
          have All2 : Hid (∀ j, j < k + 1 → xss.getD j [] = yss.getD j []) := Lib.hid fun j hj => by
            by_cases e2 : j = k
            · subst e2; rw [Ey.out, Ey'.out, e]
            · exact All.out j (by omega)
          clear e
          go_wp2_with fail
          go_quiet ((go_at_call 37; exact Calls.quiet_of (KQ.out _)))
          go_wp2_with fail
          go_roundw
          case rel => exact ⟨k + 1, by omega, by go_num, All2.out, BD.out _⟩
          case measure => simp [intOf]; omega
        · have KQ : Hid (∀ q, Calls Tryz.prog 37 #[.slice A5 l c5, .slice A6 l' c6] (wr.drewN q) fun e w' => e = .returned (.bool false) ∧ ∃ m, w' = (wr.drewN q).drewN m) := Lib.hid fun q => by
            have := eqIs2 A5 A6 c5 c6 l l' y y' (wr.drewN q) (R1.out.drewN q) (R2.out.drewN q) L1 L2 (by omega) (by omega)
            rwa [decide_eq_false e] at this
          have Fin : Hid (false = decide (xss = yss)) := Lib.hid (Eq.symm (decide_eq_false fun e2 => e (by rw [← Ey.out, ← Ey'.out, e2])))
          clear e
          go_wp2_with fail
          go_quiet ((go_at_call 37; exact Calls.quiet_of (KQ.out _)))
          go_wp2_with fail
          go_ret
          exact ⟨ret_bool Fin.out, BD.out _⟩
      · obtain rfl : k = n := by omega
        have Fin : Hid (true = decide (xss = yss)) := Lib.hid (Eq.symm (decide_eq_true (by
          apply List.ext_getElem (by rw [HX.out.lx, HY.out.lx])
          intro i h1 h2
          have := All.out i (by rw [← HX.out.lx]; exact h1)
          rw [getD_LP h1, getD_LP h2] at this
          exact this)))
        go_wp2_with fail
        go_ret
        exact ⟨ret_bool Fin.out, Be.out⟩
  · have e0 : ((n : Int) != (m : Int)) = true := by rw [bne_iff_ne]; omega
    have e1 : ((n : Int) == (m : Int)) = false := by rw [beq_eq_false_iff_ne]; omega
    have Fin : Hid (false = decide (xss = yss)) := Lib.hid (Eq.symm (decide_eq_false fun e2 => hnm (by rw [← HX.out.lx, ← HY.out.lx, e2])))
    go_enter Tryz.func25, Tryz.ntmps25
    go_wp2_with fail
    go_ret
    exact ⟨ret_bool Fin.out, Below.refl _ _⟩
end Go.Proofs.YtkjokchhffjidaaGreatDoor

/- The model's SamePuzzle, MoveIndex. Conditions: those of PIn. -/
namespace Go.Proofs.YtkjokchhffjidaaGreatDoor
open Go.RowKit

def smB (z : Int) (s : ByteArray) (gs : List (List Int)) (z' : Int) (s' : ByteArray) (gs' : List (List Int)) : Bool := pzB z s gs && pzB z' s' gs' && decide (z = z') && decide (s = s') && decide (gs = gs')
theorem smB_iff {z z' : Int} {s s' : ByteArray} {gs gs' : List (List Int)} : smB z s gs z' s' gs' = true ↔ pzB z s gs = true ∧ pzB z' s' gs' = true ∧ z = z' ∧ s = s' ∧ gs = gs' := by
  unfold smB
  simp only [Bool.and_eq_true, decide_eq_true_eq]
  exact ⟨fun ⟨⟨⟨⟨a, b⟩, c⟩, d⟩, e⟩ => ⟨a, b, c, d, e⟩, fun ⟨a, b, c, d, e⟩ => ⟨⟨⟨⟨a, b⟩, c⟩, d⟩, e⟩⟩
theorem smB_no {z z' : Int} {s s' : ByteArray} {gs gs' : List (List Int)} (h : ¬ (pzB z s gs = true ∧ pzB z' s' gs' = true ∧ z = z' ∧ s = s' ∧ gs = gs')) : smB z s gs z' s' gs' = false := by
  rcases e : smB z s gs z' s' gs' with _ | _
  · rfl
  · exact absurd (smB_iff.1 e) h
theorem pz_lens {z : Int} {s : ByteArray} {gs : List (List Int)} (h : pzB z s gs = true) : ∀ i, i < gs.length → (gs.getD i []).length ≤ 1000 := fun i hi => by
  obtain ⟨N, _, _, h2, _, ok, _⟩ := pz_deg h
  have := (ok _ (getD_memG hi)).2
  omega

theorem tl_inj {s s' : ByteArray} (h : s.toList = s'.toList) : s = s' := by
  rw [ByteArray.toList_eq, ByteArray.toList_eq] at h
  cases s; cases s'
  congr 1
  exact Array.ext' h

set_option maxHeartbeats 1600000 in
/-- SamePuzzle. -/
theorem specSamePuzzle (z : Int) (s : ByteArray) (A : Option Addr) (n c : Nat) (vs : List SV) (gs : List (List Int)) (z' : Int) (s' : ByteArray) (A' : Option Addr) (n' c' : Nat) (vs' : List SV) (gs' : List (List Int)) (w : World) (h : PIn w z s A n vs gs) (h' : PIn w z' s' A' n' vs' gs') :
    Calls Tryz.prog 10 #[.agg #[.int .i64 z, .string s, .slice A n c], .agg #[.int .i64 z', .string s', .slice A' n' c']] w fun e w' => e = .returned (.bool (smB z s gs z' s' gs')) ∧ Below w.heap.size w w' := by
  obtain ⟨V, hV⟩ : ∃ V, (w.alloc (.cells #[.int .i64 z, .string s, .slice A n c] 30)).alloc (.cells #[.int .i64 z', .string s', .slice A' n' c'] 30) = V := ⟨_, rfl⟩
  have bV : Hid (Blk V w.heap.size 30 #[.int .i64 z, .string s, .slice A n c]) := Lib.hid (by rw [← hV]; exact (Blk.new w _ _).alloc _)
  have bV' : Hid (Blk V (w.heap.size + 1) 30 #[.int .i64 z', .string s', .slice A' n' c']) := Lib.hid (by
    rw [← hV]; have := Blk.new (w.alloc (.cells #[.int .i64 z, .string s, .slice A n c] 30)) 30 #[.int .i64 z', .string s', .slice A' n' c']
    rw [World.size_alloc] at this; exact this)
  have BV : Hid (Below w.heap.size w V) := Lib.hid (by rw [← hV]; exact ((Below.refl _ w).alloc (Nat.le_refl _) _).alloc (by simp) _)
  have HV := Lib.hid (h.up BV.out)
  have HV' := Lib.hid (h'.up BV.out)
  have hlx : Hid (gs.length = n) := Lib.hid h.g.rr.lx
  have hlx' : Hid (gs'.length = n') := Lib.hid h'.g.rr.lx
  have K := specIsValidPuzzle z s A n c vs gs V HV.out
  have x0 := bV.out.cell 0
  have x1 := bV.out.cell 1
  have x2 := bV.out.cell 2
  have y0 := bV'.out.cell 0
  have y1 := bV'.out.cell 1
  have y2 := bV'.out.cell 2
  clear h h'
  rcases hp : pzB z s gs with _ | _
  · have Fin : Hid (smB z s gs z' s' gs' = false) := Lib.hid (smB_no fun h => by rw [hp] at h; cases h.1)
    rw [hp] at K
    go_enter Tryz.func10, Tryz.ntmps10
    go_wp2_with fail
    refine K.mono ?_
    rintro e w1 ⟨rfl, b1⟩
    have B1 : Hid (Below w.heap.size w w1) := Lib.hid (btr BV.out b1)
    clear K b1
    go_wp2_with fail
    go_ret
    exact ⟨ret_bool Fin.out.symm, B1.out⟩
  · rw [hp] at K
    have Hp := Lib.hid hp
    clear hp
    go_enter Tryz.func10, Tryz.ntmps10
    go_wp2_with fail
    refine K.mono ?_
    rintro e w1 ⟨rfl, b1⟩
    have B1 : Hid (Below w.heap.size w w1) := Lib.hid (btr BV.out b1)
    have bx1 := Lib.hid (bV.out.below b1 bV.out.lt)
    have bx1' := Lib.hid (bV'.out.below b1 bV'.out.lt)
    have H1 := Lib.hid (HV.out.up b1)
    have H1' := Lib.hid (HV'.out.up b1)
    have u0 := bx1'.out.cell 0
    have u1 := bx1'.out.cell 1
    have u2 := bx1'.out.cell 2
    have K2 := specIsValidPuzzle z' s' A' n' c' vs' gs' w1 H1'.out
    clear K b1 x0 x1 x2 y0 y1 y2 hV
    rcases hp' : pzB z' s' gs' with _ | _
    · have Fin : Hid (smB z s gs z' s' gs' = false) := Lib.hid (smB_no fun h => by rw [hp'] at h; cases h.2.1)
      rw [hp'] at K2
      go_wp2_with fail
      refine K2.mono ?_
      rintro e w2 ⟨rfl, b2⟩
      have B2 : Hid (Below w.heap.size w w2) := Lib.hid (btr B1.out b2)
      clear K2 b2
      go_wp2_with fail
      go_ret
      exact ⟨ret_bool Fin.out.symm, B2.out⟩
    · rw [hp'] at K2
      have Hp' := Lib.hid hp'
      clear hp'
      go_wp2_with fail
      refine K2.mono ?_
      rintro e w2 ⟨rfl, b2⟩
      have B2 : Hid (Below w.heap.size w w2) := Lib.hid (btr B1.out b2)
      have bx2 := bx1.out.below b2 bx1.out.lt
      have bx2' := bx1'.out.below b2 bx1'.out.lt
      have H2 := Lib.hid (H1.out.up b2)
      have H2' := Lib.hid (H1'.out.up b2)
      have x0 := bx2.cell 0
      have x1 := bx2.cell 1
      have x2 := bx2.cell 2
      have y0 := bx2'.cell 0
      have y1 := bx2'.cell 1
      have y2 := bx2'.cell 2
      clear K2 b2 bx2 bx2' u0 u1 u2
      by_cases hz : z = z'
      · have d0 : (z == z') = true := by rw [beq_iff_eq]; exact hz
        by_cases hs : s = s'
        · have d1 : (s.toList == s'.toList) = true := by rw [hs]; simp
          have E : Hid (smB z s gs z' s' gs' = decide (gs = gs')) := Lib.hid (by
            unfold smB; rw [Hp.out, Hp'.out, decide_eq_true hz, decide_eq_true hs]; rfl)
          have n8 : n ≤ 1000 := by obtain ⟨_, _, _, _, h8, _⟩ := pz_deg Hp.out; have := hlx.out; omega
          have n8' : n' ≤ 1000 := by obtain ⟨_, _, _, _, h8, _⟩ := pz_deg Hp'.out; have := hlx'.out; omega
          have L1 : Hid (∀ i, i < n → (gs.getD i []).length ≤ 1000) := Lib.hid fun i hi => pz_lens Hp.out i (by rw [hlx.out]; exact hi)
          have L2 : Hid (∀ i, i < n' → (gs'.getD i []).length ≤ 1000) := Lib.hid fun i hi => pz_lens Hp'.out i (by rw [hlx'.out]; exact hi)
          clear hz hs
          go_wp2_with fail
          refine (specEqP A A' n c n' c' vs vs' gs gs' w2 H2.out.g.rr H2'.out.g.rr n8 n8' L1 L2).mono ?_
          rintro e w3 ⟨rfl, b3⟩
          have B3 : Hid (Below w.heap.size w w3) := Lib.hid (btr B2.out b3)
          clear b3
          rw [← E.out]
          go_wp2_with fail
          go_ret
          exact ⟨rfl, B3.out⟩
        · have d1 : (s.toList == s'.toList) = false := by rw [beq_eq_false_iff_ne]; exact fun e => hs (tl_inj e)
          have Fin : Hid (smB z s gs z' s' gs' = false) := Lib.hid (smB_no fun h => hs h.2.2.2.1)
          clear hs
          go_wp2_with fail
          go_ret
          exact ⟨ret_bool Fin.out.symm, B2.out⟩
      · have d0 : (z == z') = false := by rw [beq_eq_false_iff_ne]; exact hz
        have Fin : Hid (smB z s gs z' s' gs' = false) := Lib.hid (smB_no fun h => hz h.2.2.1)
        clear hz
        go_wp2_with fail
        go_ret
        exact ⟨ret_bool Fin.out.symm, B2.out⟩

theorem ext1 (s nm : ByteArray) {i : Nat} (hi : i < s.size) : (s.extract i (i + 1) = nm) ↔ (nm.size = 1 ∧ byt nm 0 = byt s i) := by
  have hsz : (s.extract i (i + 1)).size = 1 := by rw [ByteArray.size_extract]; omega
  have hb : byt (s.extract i (i + 1)) 0 = byt s i := by
    rw [← byt_eq _ (by omega), ← byt_eq s hi]
    congr 1
    simp [ByteArray.getElem_extract]
  constructor
  · rintro rfl; exact ⟨hsz, hb⟩
  · rintro ⟨h1, h2⟩
    have h3 : ∀ k (hk : k < (s.extract i (i + 1)).size) (hk' : k < nm.size), (s.extract i (i + 1))[k] = nm[k] := fun k hk hk' => by
      obtain rfl : k = 0 := by omega
      apply UInt8.toNat_inj.1
      rw [byt_eq _ hk, byt_eq _ hk', hb, h2]
    exact ByteArray.ext_getElem (by omega) h3
end Go.Proofs.YtkjokchhffjidaaGreatDoor

/- Numbers of 64 bits in a row. No condition. -/
namespace Go.Proofs.YtkjokchhffjidaaGreatDoor
open Go.RowKit

def VI (xs : List Int) : Prop := ∀ x ∈ xs, -9223372036854775808 ≤ x ∧ x ≤ 9223372036854775807
theorem VI.at_ {xs : List Int} (h : VI xs) {i : Nat} (hi : i < xs.length) : -9223372036854775808 ≤ xs.getD i 0 ∧ xs.getD i 0 ≤ 9223372036854775807 :=
  h _ (by rw [List.getD_eq_getElem?_getD, List.getElem?_eq_getElem hi]; exact List.getElem_mem _)
theorem VI.nil_ : VI [] := fun x h => by cases h
theorem VI.snoc {xs : List Int} {x : Int} (h : VI xs) (hx : -9223372036854775808 ≤ x ∧ x ≤ 9223372036854775807) : VI (xs ++ [x]) := fun y hy => by
  rcases List.mem_append.1 hy with hy | hy
  · exact h y hy
  · rw [List.mem_singleton.1 hy]; exact hx
/-- As RI.of_row, and the numbers are of 64 bits. -/
theorem RI.of_rowV {w : World} {a : Option Addr} {len cap : Nat} {zs : List Int}
    (h : (a = none ∧ len = 0 ∧ cap = 0 ∧ zs = []) ∨ ∃ x, a = some x ∧ len ≤ cap ∧ cap ≤ maxLen ∧ zs.length = cap ∧ (∀ i, i < zs.length → w.cell? (x.add i) = some (.int .i64 (zs.getD i 0))) ∧ ∀ n ∈ zs, (Lit.int .i64 n).wf = true) :
    ∃ xs : List Int, Hid (xs.length = len) ∧ RI w w.heap.size a xs ∧ Hid (VI xs) := by
  rcases h with ⟨rfl, rfl, rfl, rfl⟩ | ⟨⟨b, off, spot⟩, rfl, hl, hm, hz, hc, hw⟩
  · exact ⟨[], Lib.hid rfl, RI.nil_, Lib.hid VI.nil_⟩
  · refine ⟨zs.take len, Lib.hid (by rw [List.length_take]; omega), fun hp => ?_, Lib.hid fun x hx => bounds_i64 (hw x (List.mem_of_mem_take hx))⟩
    rw [List.length_take] at hp
    have h0 := hc 0 (by omega)
    have hspot : spot = none := by simpa [Addr.add] using World.cell?_spot h0
    subst hspot
    refine ⟨b, off, rfl, ?_, fun j hj => ?_⟩
    · have := World.block_lt_of_cell? w _ h0
      simpa [Addr.add] using this
    · rw [List.length_take] at hj
      rw [List.getD_eq_getElem?_getD, List.getElem?_take, if_pos (by omega), ← List.getD_eq_getElem?_getD, ← hc j (by omega)]
      unfold Addr.add
      split <;> simp_all
end Go.Proofs.YtkjokchhffjidaaGreatDoor

/- The program's letters and valid words. Condition: at most 2097152 letters, numbers of 64 bits. -/
namespace Go.Proofs.YtkjokchhffjidaaGreatDoor
open Go.RowKit

/-- A letter without its sign. -/
def gnL (l : Int) : Int := if l = -9223372036854775808 then l else if 0 ≤ l then l else -l
theorem gnL_pos {l : Int} (h : 0 ≤ l) : gnL l = l := by unfold gnL; rw [if_neg (by omega), if_pos h]
theorem gnL_neg {l : Int} (h : l < 0) (h2 : l ≠ -9223372036854775808) : gnL l = -l := by unfold gnL; rw [if_neg h2, if_neg (by omega)]
theorem okL_gn {g l : Int} (h : -9223372036854775808 ≤ l ∧ l ≤ 9223372036854775807) : okL g l = decide (1 ≤ gnL l ∧ gnL l ≤ g ∧ gnL l ≤ 8) := by
  unfold okL
  rw [Bool.eq_iff_iff, decide_eq_true_eq, decide_eq_true_eq]
  by_cases h1 : l = -9223372036854775808
  · subst h1; unfold gnL; rw [if_pos rfl]; omega
  · by_cases h2 : 0 ≤ l
    · rw [gnL_pos h2]; omega
    · rw [gnL_neg (by omega) h1]; omega




end Go.Proofs.YtkjokchhffjidaaGreatDoor

/- The program's EvaluateWord. Conditions: numbers of 64 bits in the word. -/
namespace Go.Proofs.YtkjokchhffjidaaGreatDoor
open Go.RowKit

/-- As CtImsP, the list's numbers of 64 bits. -/
def CtImvP (F : Nat) (R : Int → List (List Int) → List Int → List Int → Bool → Prop) : Prop := ∀ (a : Int) (A : Option Addr) (n c : Nat) (vs : List SV) (xss : List (List Int)) (P : Option Addr) (np cp : Nat) (p : List Int) (w : World), GIn w A n vs xss → SIn w P np cp p → I64 a → Hid (VI p) →
  Calls Tryz.prog F #[.int .i64 a, .slice A n c, .slice P np cp] w fun e w' => ∃ A' m c' zs ok, e = .returned (.tuple #[.slice A' m c', .bool ok]) ∧ Slc w' w.heap.size A' m c' zs ∧ R a xss p zs ok ∧ Below w.heap.size w w'


end Go.Proofs.YtkjokchhffjidaaGreatDoor

/- The program's ApplyWord, SamePuzzle, MoveIndex. Conditions: those of PIn, SIn; a word's numbers are of 64 bits. -/
namespace Go.Proofs.YtkjokchhffjidaaGreatDoor
open Go.RowKit

set_option maxHeartbeats 4000000 in
set_option maxRecDepth 100000 in
/-- slices.EqualFunc of two lists of lists by slices.Equal. -/
theorem implEqF (A B : Option Addr) (n c m d : Nat) (vs us : List SV) (xss yss : List (List Int)) (w : World) (hx : RR w w.heap.size A n vs xss) (hy : RR w w.heap.size B m us yss) (hl1 : Hid (∀ i, i < n → (vs.getD i sd0).2.1 ≤ 1048576)) (hl2 : Hid (∀ i, i < m → (us.getD i sd0).2.1 ≤ 1048576)) (hn : n ≤ 1048576) :
    Calls Tryz.prog 26 #[.slice A n c, .slice B m d, .func (.func 27) #[] #[]] w fun e w' => e = .returned (.bool (decide (xss = yss))) ∧ ∃ q, w' = w.drewN q := by
  have HX := Lib.hid hx
  have HY := Lib.hid hy
  clear hx hy
  by_cases hnm : n = m
  · subst hnm
    have e0 : ((n : Int) != (n : Int)) = false := by simp
    go_enter Tryz.func26, Tryz.ntmps26
    go_wp2_with fail
    go_loopw [17] (fun i wr => ∃ k : Nat, k ≤ n ∧ i = .int .i64 (k : Nat) ∧ (∀ j, j < k → xss.getD j [] = yss.getD j []) ∧ ∃ q, wr = w.drewN q) (fun i _ => n - (intOf i).toNat)
    case atStart => exact ⟨0, Nat.zero_le _, rfl, fun j h => absurd h (Nat.not_lt_zero _), 0, rfl⟩
    case round =>
      obtain ⟨k, hk, rfl, hall, q, rfl⟩ := hrel
      have All := Lib.hid hall
      clear hall
      by_cases hlt : k < n
      · obtain ⟨b, off, A5, l, c5, y, rfl, hb, ev, ey, x1, r1, ly1, hlc⟩ := (HX.out.drewN q).at_ hlt
        obtain ⟨b', off', A6, l', c6, y', rfl, hb', ev', ey', x2, r2, ly2, hlc'⟩ := (HY.out.drewN q).at_ hlt
        have h1 := hl1.out k hlt
        have h2 := hl2.out k hlt
        rw [ev] at h1
        rw [ev'] at h2
        have h1' : l ≤ 2097152 := by simp only at h1; omega
        have h2' : l' ≤ 2097152 := by simp only at h2; omega
        have K := sEq A5 A6 c5 c6 l l' y y' (w.drewN q) r1 r2 (Lib.hid ly1) (Lib.hid ly2) h1' h2'
        have Ey := Lib.hid ey
        have Ey' := Lib.hid ey'
        have p1 : (0 : Int) ≤ k := by omega
        have p2 : (k : Int) < n := by omega
        clear r1 r2 ly1 ly2 ev ey ev' ey' hb hb' h1 h2
        by_cases e : y = y'
        · have All2 : Hid (∀ j, j < k + 1 → xss.getD j [] = yss.getD j []) := Lib.hid fun j hj => by
            by_cases e2 : j = k
            · subst e2; rw [Ey.out, Ey'.out, e]
            · exact All.out j (by omega)
          rw [decide_eq_true e] at K
          clear e
          go_wp2_with fail
          refine K.mono ?_
          rintro e w' ⟨rfl, q2, rfl⟩
          clear K
          go_wp2_with fail
          go_roundw
          case rel => exact ⟨k + 1, by omega, by go_num, All2.out, _, rfl⟩
          case measure => simp [intOf]; omega
        · have Fin : Hid (false = decide (xss = yss)) := Lib.hid (Eq.symm (decide_eq_false fun e2 => e (by rw [← Ey.out, ← Ey'.out, e2])))
          rw [decide_eq_false e] at K
          clear e
          go_wp2_with fail
          refine K.mono ?_
          rintro e w' ⟨rfl, q2, rfl⟩
          clear K
          go_wp2_with fail
          go_ret
          exact ⟨ret_bool Fin.out, _, rfl⟩
      · obtain rfl : k = n := by omega
        have Fin : Hid (true = decide (xss = yss)) := Lib.hid (Eq.symm (decide_eq_true (by
          apply List.ext_getElem (by rw [HX.out.lx, HY.out.lx])
          intro i h1 h2
          have := All.out i (by rw [← HX.out.lx]; exact h1)
          rw [getD_LP h1, getD_LP h2] at this
          exact this)))
        go_wp2_with fail
        go_ret
        exact ⟨ret_bool Fin.out, q, rfl⟩
  · have e0 : ((n : Int) != (m : Int)) = true := by rw [bne_iff_ne]; omega
    have e1 : ((n : Int) == (m : Int)) = false := by rw [beq_eq_false_iff_ne]; omega
    have Fin : Hid (false = decide (xss = yss)) := Lib.hid (Eq.symm (decide_eq_false fun e2 => hnm (by rw [← HX.out.lx, ← HY.out.lx, e2])))
    go_enter Tryz.func26, Tryz.ntmps26
    go_wp2_with fail
    go_ret
    exact ⟨ret_bool Fin.out, 0, rfl⟩
set_option maxHeartbeats 1600000 in
set_option maxRecDepth 100000 in
/-- SamePuzzle. -/
theorem implSamePuzzle (z : Int) (s : ByteArray) (A : Option Addr) (n c : Nat) (vs : List SV) (gs : List (List Int)) (z' : Int) (s' : ByteArray) (A' : Option Addr) (n' c' : Nat) (vs' : List SV) (gs' : List (List Int)) (w : World) (h : PIn w z s A n vs gs) (h' : PIn w z' s' A' n' vs' gs') :
    Calls Tryz.prog 11 #[.agg #[.int .i64 z, .string s, .slice A n c], .agg #[.int .i64 z', .string s', .slice A' n' c']] w fun e w' => e = .returned (.bool (smB z s gs z' s' gs')) ∧ Below w.heap.size w w' := by
  obtain ⟨V, hV⟩ : ∃ V, (w.alloc (.cells #[.int .i64 z, .string s, .slice A n c] 30)).alloc (.cells #[.int .i64 z', .string s', .slice A' n' c'] 30) = V := ⟨_, rfl⟩
  have bV : Hid (Blk V w.heap.size 30 #[.int .i64 z, .string s, .slice A n c]) := Lib.hid (by rw [← hV]; exact (Blk.new w _ _).alloc _)
  have bV' : Hid (Blk V (w.heap.size + 1) 30 #[.int .i64 z', .string s', .slice A' n' c']) := Lib.hid (by
    rw [← hV]; have := Blk.new (w.alloc (.cells #[.int .i64 z, .string s, .slice A n c] 30)) 30 #[.int .i64 z', .string s', .slice A' n' c']
    rw [World.size_alloc] at this; exact this)
  have BV : Hid (Below w.heap.size w V) := Lib.hid (by rw [← hV]; exact ((Below.refl _ w).alloc (Nat.le_refl _) _).alloc (by simp) _)
  have HV := Lib.hid (h.up BV.out)
  have HV' := Lib.hid (h'.up BV.out)
  have K := implIsValidPuzzle z s A n c vs gs V HV.out
  have x0 := bV.out.cell 0
  have x1 := bV.out.cell 1
  have x2 := bV.out.cell 2
  clear h h'
  rcases hp : pzB z s gs with _ | _
  · have Fin : Hid (smB z s gs z' s' gs' = false) := Lib.hid (smB_no fun h => by rw [hp] at h; cases h.1)
    rw [hp] at K
    go_enter Tryz.func11, Tryz.ntmps11
    go_wp2_with fail
    refine K.mono ?_
    rintro e w1 ⟨rfl, b1⟩
    have B1 : Hid (Below w.heap.size w w1) := Lib.hid (btr BV.out b1)
    clear K b1
    go_wp2_with fail
    go_ret
    exact ⟨ret_bool Fin.out.symm, B1.out⟩
  · rw [hp] at K
    have Hp := Lib.hid hp
    clear hp
    go_enter Tryz.func11, Tryz.ntmps11
    go_wp2_with fail
    refine K.mono ?_
    rintro e w1 ⟨rfl, b1⟩
    have B1 : Hid (Below w.heap.size w w1) := Lib.hid (btr BV.out b1)
    have bx1 := bV.out.below b1 bV.out.lt
    have bx1' := bV'.out.below b1 bV'.out.lt
    have H1 := Lib.hid (HV.out.up b1)
    have H1' := Lib.hid (HV'.out.up b1)
    clear K b1 x0 x1 x2 hV
    have x0 := bx1.cell 0
    have x1 := bx1.cell 1
    have x2 := bx1.cell 2
    have y0 := bx1'.cell 0
    have y1 := bx1'.cell 1
    have y2 := bx1'.cell 2
    clear bx1 bx1'
    by_cases hz : z = z'
    · have d0 : (z == z') = true := by rw [beq_iff_eq]; exact hz
      by_cases hs : s = s'
      · have d1 : (s.toList == s'.toList) = true := by rw [hs]; simp
        have E : Hid (smB z s gs z' s' gs' = decide (gs = gs')) := Lib.hid (by
          by_cases e : gs = gs'
          · rw [decide_eq_true e]
            exact smB_iff.2 ⟨Hp.out, by rw [← hz, ← hs, ← e]; exact Hp.out, hz, hs, e⟩
          · rw [decide_eq_false e]
            exact smB_no fun h => e h.2.2.2.2)
        clear hz hs
        go_wp2_with fail
        refine (quiet_below (implEqF A A' n c n' c' vs vs' gs gs' w1 H1.out.g.rr H1'.out.g.rr (Lib.hid H1.out.g.hl) (Lib.hid H1'.out.g.hl) H1.out.g.hn)).mono ?_
        rintro e w3 ⟨rfl, b3⟩
        have B3 : Hid (Below w.heap.size w w3) := Lib.hid (btr B1.out b3)
        clear b3
        rw [← E.out]
        go_wp2_with fail
        go_ret
        exact ⟨rfl, B3.out⟩
      · have d1 : (s.toList == s'.toList) = false := by rw [beq_eq_false_iff_ne]; exact fun e => hs (tl_inj e)
        have Fin : Hid (smB z s gs z' s' gs' = false) := Lib.hid (smB_no fun h => hs h.2.2.2.1)
        clear hs
        go_wp2_with fail
        go_ret
        exact ⟨ret_bool Fin.out.symm, B1.out⟩
    · have d0 : (z == z') = false := by rw [beq_eq_false_iff_ne]; exact hz
      have Fin : Hid (smB z s gs z' s' gs' = false) := Lib.hid (smB_no fun h => hz h.2.2.1)
      clear hz
      go_wp2_with fail
      go_ret
      exact ⟨ret_bool Fin.out.symm, B1.out⟩
set_option maxHeartbeats 1600000 in
set_option maxRecDepth 100000 in
/-- MoveIndex. -/
theorem implMoveIndex (z : Int) (s : ByteArray) (A : Option Addr) (n c : Nat) (vs : List SV) (gs : List (List Int)) (nm : ByteArray) (w : World) (h : PIn w z s A n vs gs) :
    Calls Tryz.prog 12 #[.agg #[.int .i64 z, .string s, .slice A n c], .string nm] w fun e w' => e = .returned (.int .i64 (mvF z s gs nm)) ∧ Below w.heap.size w w' := by
  have bV : Hid (Blk (w.alloc (.cells #[.int .i64 z, .string s, .slice A n c] 30)) w.heap.size 30 #[.int .i64 z, .string s, .slice A n c]) := Lib.hid (Blk.new w _ _)
  have BV : Hid (Below w.heap.size w (w.alloc (.cells #[.int .i64 z, .string s, .slice A n c] 30))) := Lib.hid ((Below.refl _ w).alloc (Nat.le_refl _) _)
  have HV := Lib.hid (h.up BV.out)
  have K := implIsValidPuzzle z s A n c vs gs _ HV.out
  clear h
  rcases hp : pzB z s gs with _ | _
  · have Fin : Hid (mvF z s gs nm = -1) := Lib.hid (by unfold mvF; rw [hp]; rfl)
    rw [hp] at K
    go_enter Tryz.func12, Tryz.ntmps12
    go_wp2_with fail
    refine K.mono ?_
    rintro e w1 ⟨rfl, b1⟩
    have B1 : Hid (Below w.heap.size w w1) := Lib.hid (btr BV.out b1)
    clear K b1
    go_wp2_with fail
    go_ret
    exact ⟨by rw [Fin.out]; try rfl, B1.out⟩
  · rw [hp] at K
    by_cases h1 : nm.size = 1
    · have d1 : ((nm.size : Int) != 1) = false := by rw [h1]; rfl
      have Fin : Hid (ixF s (byt nm 0) = mvF z s gs nm) := Lib.hid (by unfold mvF; rw [if_pos hp, ← mvI_ix h1]; try (cases mvI s nm <;> rfl))
      clear hp
      go_enter Tryz.func12, Tryz.ntmps12
      go_wp2_with fail
      refine K.mono ?_
      rintro e w1 ⟨rfl, b1⟩
      have B1 : Hid (Below w.heap.size w w1) := Lib.hid (btr BV.out b1)
      have bx : Blk w1 w.heap.size 30 #[.int .i64 z, .string s, .slice A n c] := bV.out.below b1 bV.out.lt
      have c1 : w1.cell? ⟨w.heap.size, 1, none⟩ = some (.string s) := bx.cell 1
      clear K b1 bx
      go_wp2_with fail
      refine (sIx1 s nm h1 w1).mono ?_
      rintro e w' ⟨rfl, q, rfl⟩
      have B2 : Hid (Below w.heap.size w (w1.drewN q)) := Lib.hid (below_drewN B1.out q)
      rw [Fin.out]
      go_wp2_with fail
      go_ret
      exact ⟨rfl, B2.out⟩
    · have d1 : ((nm.size : Int) != 1) = true := by rw [bne_iff_ne]; omega
      have Fin : Hid (mvF z s gs nm = -1) := Lib.hid (by
        unfold mvF
        rw [mvI_none fun j hj h => h1 h.1]
        split <;> rfl)
      go_enter Tryz.func12, Tryz.ntmps12
      go_wp2_with fail
      refine K.mono ?_
      rintro e w1 ⟨rfl, b1⟩
      have B1 : Hid (Below w.heap.size w w1) := Lib.hid (btr BV.out b1)
      clear K b1
      go_wp2_with fail
      go_ret
      exact ⟨by rw [Fin.out]; try rfl, B1.out⟩
end Go.Proofs.YtkjokchhffjidaaGreatDoor

/- The known puzzles are valid; their names lead to their moves. No condition. -/
namespace Go.Proofs.YtkjokchhffjidaaGreatDoor
open Go.RowKit

theorem knv0 : pzB 4 ⟨#[65, 66, 67]⟩ [[1, 0, 2, 3], [0, 2, 1, 3], [0, 1, 3, 2]] = true := pzB_iff.2 ⟨by decide, rfl, gB_iff.2 ⟨by decide, by decide, by decide, fun g hg => by
  simp only [List.mem_cons, List.not_mem_nil, or_false] at hg
  rcases hg with rfl | rfl | rfl <;> exact ⟨rfl, isP_iff.2 (isP_of (by decide))⟩⟩, nmB_iff.2 (by decide)⟩
theorem knz0 : mvI ⟨#[65, 66, 67]⟩ ⟨#[90]⟩ = none := mvI_none (by decide)
theorem knv1 : pzB 6 ⟨#[65, 66]⟩ [[1, 2, 3, 4, 5, 0], [2, 1, 0, 3, 4, 5]] = true := pzB_iff.2 ⟨by decide, rfl, gB_iff.2 ⟨by decide, by decide, by decide, fun g hg => by
  simp only [List.mem_cons, List.not_mem_nil, or_false] at hg
  rcases hg with rfl | rfl <;> exact ⟨rfl, isP_iff.2 (isP_of (by decide))⟩⟩, nmB_iff.2 (by decide)⟩
theorem knz1 : mvI ⟨#[65, 66]⟩ ⟨#[90]⟩ = none := mvI_none (by decide)
theorem knv2 : pzB 6 ⟨#[65, 66]⟩ [[1, 2, 3, 0, 4, 5], [0, 1, 3, 4, 5, 2]] = true := pzB_iff.2 ⟨by decide, rfl, gB_iff.2 ⟨by decide, by decide, by decide, fun g hg => by
  simp only [List.mem_cons, List.not_mem_nil, or_false] at hg
  rcases hg with rfl | rfl <;> exact ⟨rfl, isP_iff.2 (isP_of (by decide))⟩⟩, nmB_iff.2 (by decide)⟩
theorem knz2 : mvI ⟨#[65, 66]⟩ ⟨#[90]⟩ = none := mvI_none (by decide)
theorem knv3 : pzB 7 ⟨#[65, 66, 67]⟩ [[1, 2, 3, 0, 4, 5, 6], [0, 2, 6, 3, 4, 1, 5], [4, 0, 2, 3, 5, 1, 6]] = true := pzB_iff.2 ⟨by decide, rfl, gB_iff.2 ⟨by decide, by decide, by decide, fun g hg => by
  simp only [List.mem_cons, List.not_mem_nil, or_false] at hg
  rcases hg with rfl | rfl | rfl <;> exact ⟨rfl, isP_iff.2 (isP_of (by decide))⟩⟩, nmB_iff.2 (by decide)⟩
theorem knz3 : mvI ⟨#[65, 66, 67]⟩ ⟨#[90]⟩ = none := mvI_none (by decide)
theorem knv4 : pzB 12 ⟨#[65, 66, 67, 68]⟩ [[1, 0, 2, 3, 5, 4, 6, 7, 8, 9, 10, 11], [0, 2, 1, 3, 4, 5, 7, 6, 8, 9, 10, 11], [0, 1, 3, 2, 4, 5, 6, 7, 9, 8, 10, 11], [3, 1, 2, 0, 4, 5, 6, 7, 8, 9, 11, 10]] = true := pzB_iff.2 ⟨by decide, rfl, gB_iff.2 ⟨by decide, by decide, by decide, fun g hg => by
  simp only [List.mem_cons, List.not_mem_nil, or_false] at hg
  rcases hg with rfl | rfl | rfl | rfl <;> exact ⟨rfl, isP_iff.2 (isP_of (by decide))⟩⟩, nmB_iff.2 (by decide)⟩
theorem knz4 : mvI ⟨#[65, 66, 67, 68]⟩ ⟨#[90]⟩ = none := mvI_none (by decide)
theorem knv5 : pzB 12 ⟨#[65, 66, 67, 68]⟩ [[1, 2, 0, 6, 4, 5, 9, 7, 8, 3, 10, 11], [7, 1, 2, 4, 5, 3, 6, 10, 8, 9, 0, 11], [0, 4, 2, 3, 11, 5, 7, 8, 6, 9, 10, 1], [0, 1, 5, 3, 4, 8, 6, 7, 2, 10, 11, 9]] = true := pzB_iff.2 ⟨by decide, rfl, gB_iff.2 ⟨by decide, by decide, by decide, fun g hg => by
  simp only [List.mem_cons, List.not_mem_nil, or_false] at hg
  rcases hg with rfl | rfl | rfl | rfl <;> exact ⟨rfl, isP_iff.2 (isP_of (by decide))⟩⟩, nmB_iff.2 (by decide)⟩
theorem knz5 : mvI ⟨#[65, 66, 67, 68]⟩ ⟨#[90]⟩ = none := mvI_none (by decide)
theorem mv_self {z : Int} {s : ByteArray} {gs : List (List Int)} (hp : pzB z s gs = true) {i : Nat} (hi : i < s.size) : mvF z s gs (s.extract i (i + 1)) = (i : Int) := by
  have e := (ext1 s _ hi).1 rfl
  unfold mvF
  rw [if_pos hp, mvI_some hi e fun j hj h => (nm1B_iff.1 (nmB_iff.1 (pzB_iff.1 hp).2.2.2 i hi)).2.2 j hj (by rw [← h.2, e.2])]
theorem stc_ord {z v v' : Int} {s : ByteArray} {gs : List (List Int)} (hp : pzB z s gs = true) (h : IsStc z s gs v) (k : IsOrd z gs v') : v = v' := by
  rcases h with ⟨_, h⟩ | ⟨a, _⟩
  · exact h.uniq k
  · rw [hp] at a; cases a
theorem PIn.of_ss {w : World} {b b' m c : Nat} {A : Option Addr} {us : List SV} {gs : List (List Int)} {z : Int} {s : ByteArray} (h : SS w b b' A m c us gs) (hm : m ≤ 4) (l : ∀ i, i < m → (us.getD i sd0).2.1 ≤ 20) (hz : I64 z) (hs : s.size ≤ 1048576) : PIn w z s A m us gs :=
  ⟨⟨h.rr, by omega, fun i hi => by have := l i hi; omega⟩, hz, hs⟩
theorem kn_ok (r : Nat) (hr : r < 6) : pzB (knN r) (knS r) (knG r) = true ∧ mvI (knS r) ⟨#[90]⟩ = none ∧ knB r = true := by
  obtain rfl | rfl | rfl | rfl | rfl | rfl : r = 0 ∨ r = 1 ∨ r = 2 ∨ r = 3 ∨ r = 4 ∨ r = 5 := by omega
  · exact ⟨knv0, knz0, rfl⟩
  · exact ⟨knv1, knz1, rfl⟩
  · exact ⟨knv2, knz2, rfl⟩
  · exact ⟨knv3, knz3, rfl⟩
  · exact ⟨knv4, knz4, rfl⟩
  · exact ⟨knv5, knz5, rfl⟩
theorem kn_pack (r : Nat) (hr : r < 6) : ∃ (z : Int) (s : ByteArray) (gs : List (List Int)), (∀ w : World, Calls Tryz.prog 8 #[.int .i64 (r : Nat)] w fun e w' => ∃ A m c us, e = .returned (.tuple #[.agg #[.int .i64 z, .string s, .slice A m c], .bool true]) ∧ PIn w' z s A m us gs ∧ Below w.heap.size w w') ∧ (∀ w : World, Calls Tryz.prog 7 #[.int .i64 (r : Nat)] w fun e w' => ∃ A m c us, e = .returned (.tuple #[.agg #[.int .i64 z, .string s, .slice A m c], .bool true]) ∧ PIn w' z s A m us gs ∧ Below w.heap.size w w') ∧ pzB z s gs = true ∧ mvF z s gs ⟨#[90]⟩ = -1 ∧ I64 z ∧ s.size ≤ 1048576 := by
  obtain ⟨hp, hz, hb⟩ := kn_ok r hr
  obtain ⟨N, eN, h1, h2, h8, _, _⟩ := pz_deg hp
  have iz : I64 (knN r) := by constructor <;> omega
  have is : (knS r).size ≤ 1048576 := by have := (pzB_iff.1 hp).2.1; omega
  refine ⟨knN r, knS r, knG r, fun w => (specKnownPuzzle r w).mono fun e w' ⟨A, m, c, us, he, hs, hm, hl, bl⟩ => ⟨A, m, c, us, by rw [he, hb], PIn.of_ss hs hm hl iz is, bl⟩, fun w => (implKnownPuzzle r w).mono fun e w' ⟨A, m, c, us, he, hs, hm, hl, bl⟩ => ⟨A, m, c, us, by rw [he, hb], PIn.of_ss hs hm hl iz is, bl⟩, hp, ?_, iz, is⟩
  unfold mvF
  rw [if_pos hp, hz]
theorem kn_six (w : World) : Calls Tryz.prog 7 #[.int .i64 6] w fun e w' => ∃ A m c, e = .returned (.tuple #[.agg #[.int .i64 0, .string ⟨#[]⟩, .slice A m c], .bool false]) ∧ Below w.heap.size w w' :=
  (implKnownPuzzle 6 w).mono fun e w' ⟨A, m, c, us, he, hs, hm, hl, bl⟩ => ⟨A, m, c, by rw [he]; rfl, bl⟩
end Go.Proofs.YtkjokchhffjidaaGreatDoor

/- The laws' dice and the permutations drawn by them. Conditions: at most 4096 bytes; degrees from 1 to 20. -/
namespace Go.Proofs.YtkjokchhffjidaaGreatDoor
open Go.RowKit

/-- The bytes at A can be read: len of them, in blocks below B. -/
def RB (w : World) (B : Nat) (A : Option Addr) (len : Nat) : Prop :=
  0 < len → ∃ b off, A = some ⟨b, off, none⟩ ∧ b < B ∧ ∀ j, j < len → ∃ z : Nat, z ≤ 255 ∧ w.cell? ⟨b, off + j, none⟩ = some (.int .u8 z)
theorem RB.keep {w w' : World} {B len : Nat} {A : Option Addr} (h : RB w B A len) (hk : ∀ p : Addr, p.block < B → w'.cell? p = w.cell? p) : RB w' B A len := fun hn => by
  obtain ⟨b, off, e, hb, hc⟩ := h hn
  exact ⟨b, off, e, hb, fun j hj => by obtain ⟨z, hz, c⟩ := hc j hj; exact ⟨z, hz, (hk ⟨b, off + j, none⟩ hb).trans c⟩⟩
theorem RB.below {w w' : World} {B B' len : Nat} {A : Option Addr} (h : RB w B A len) (hb : Below B' w w') (hB : B ≤ B') : RB w' B A len := h.keep fun _ hp => hb.cell (by omega)

/-- Block g is a dice over those bytes. -/
def Dice (w : World) (g : Nat) (A : Option Addr) (len cap : Nat) : Prop :=
  ∃ (i : Nat) (h : Int), i ≤ len ∧ 0 ≤ h ∧ h < 18446744073709551616 ∧ Blk w g 39 #[.slice A len cap, .int .i64 i, .int .u64 h]

theorem wrap_range (n : Int) : 0 ≤ IntKind.u64.wrap n ∧ IntKind.u64.wrap n < 18446744073709551616 := by
  have e : IntKind.u64.wrap n = n % 18446744073709551616 := by simp [IntKind.wrap, IntKind.bits, IntKind.signed]
  rw [e]
  exact ⟨Int.emod_nonneg _ (by decide), Int.emod_lt_of_pos _ (by decide)⟩
theorem and_small (a : Int) (h0 : 0 ≤ a) (h1 : a < 18446744073709551616) : ∃ X : Nat, X ≤ 16777215 ∧ bits BinOp.and IntKind.u64 a 16777215 = (X : Int) := by
  refine ⟨a.toNat &&& 16777215, Nat.and_le_right, ?_⟩
  have h := bits_and_u64_nat a.toNat 16777215 (by omega) (by omega)
  rw [Int.toNat_of_nonneg h0] at h
  exact h

set_option maxHeartbeats 400000 in
theorem diceBelow (g len cap N : Nat) (A : Option Addr) (B : Nat) (w : World) (hd : Dice w g A len cap) (hb : RB w B A len) (hl : len ≤ 4096) (hN : 1 ≤ N) (hN2 : N ≤ 100) (hB : B ≤ g) :
    Calls Tryz.prog 6 #[.pointer (some ⟨g, 0, none⟩), .int .i64 N] w fun e w' => ∃ r : Nat, r < N ∧ e = .returned (.int .i64 r) ∧ Dice w' g A len cap ∧ w.grownBy w' (some g) := by
  obtain ⟨i, h, hi, h0, h1, blk⟩ := hd
  have c0 : w.cell? ⟨g, 0, none⟩ = some (.slice A len cap) := blk.cell 0
  have c1 : w.cell? ⟨g, 1, none⟩ = some (.int .i64 i) := blk.cell 1
  have c2 : w.cell? ⟨g, 2, none⟩ = some (.int .u64 h) := blk.cell 2
  have f1 := blk.frozen 1
  have f2 := blk.frozen 2
  obtain ⟨H, eH⟩ : ∃ H, IntKind.u64.wrap (IntKind.u64.wrap (h * 6364136223846793005) + 1442695040888963407) = H := ⟨_, rfl⟩
  have hH := wrap_range (IntKind.u64.wrap (h * 6364136223846793005) + 1442695040888963407)
  rw [eH] at hH
  obtain ⟨X, hX, eX⟩ := and_small (H / 8589934592) (by omega) (by omega)
  have HH := Lib.hid hH
  have Blk' := Lib.hid blk
  have j0 : (0 : Int) ≤ i := by omega
  by_cases hlt : i < len
  · obtain ⟨b, off, rfl, hb', hc⟩ := hb (by omega)
    obtain ⟨z, hz, cz⟩ := hc i hlt
    have cz2 : (w.setCell ⟨g, 2, none⟩ (.int .u64 H)).cell? ⟨b, off + i, none⟩ = some (.int .u8 z) := (World.cell?_setCell_other _ _ _ _ (fun e => by injection e with e1; omega)).trans cz
    have j1 : (i : Int) < len := by omega
    have j2 : decide ((i : Int) < (len : Int)) = true := by simpa using hlt
    have Hb := Lib.hid hb'
    have Blk2 := Lib.hid ((Blk'.out.set_ 2 (.int .u64 H)).set_ 1 (.int .i64 ((i : Int) + 1)))
    clear hb hc blk hH h0 h1
    go_enter Tryz.func6, Tryz.ntmps6
    go_wp2_with fail
    go_quiet (fail)
    go_wp2_with fail
    go_quiet (fail)
    go_wp2_with fail
    go_ret
    refine ⟨(X + z) % N, Nat.mod_lt _ (by omega), ret_int (by rw [Int.natCast_emod, Int.natCast_add]), ⟨i + 1, H, by omega, HH.out.1, HH.out.2, ?_⟩, ?_⟩
    · exact Blk2.out
    · exact grown_set (grown_drewN (grown_set (grown_refl w _) 2 _) _) 1 _
  · have j2 : decide ((i : Int) < (len : Int)) = false := by simp; omega
    have Blk2 := Lib.hid (Blk'.out.set_ 2 (.int .u64 H))
    clear hb blk hH h0 h1
    go_enter Tryz.func6, Tryz.ntmps6
    go_wp2_with fail
    go_quiet (fail)
    go_wp2_with fail
    go_ret
    refine ⟨X % N, Nat.mod_lt _ (by omega), ret_int (by rw [Int.natCast_emod]), ⟨i, H, by omega, HH.out.1, HH.out.2, ?_⟩, ?_⟩
    · exact Blk2.out
    · exact grown_drewN (grown_set (grown_refl w _) 2 _) _

theorem diceBelowK (g len cap N : Nat) (K : Int) (A : Option Addr) (B : Nat) (w : World) (hd : Dice w g A len cap) (hb : RB w B A len) (hl : len ≤ 4096) (hN : 1 ≤ N) (hN2 : N ≤ 100) (hB : B ≤ g) (hK : K = (N : Int)) :
    Calls Tryz.prog 6 #[.pointer (some ⟨g, 0, none⟩), .int .i64 K] w fun e w' => ∃ r : Nat, r < N ∧ e = .returned (.int .i64 r) ∧ Dice w' g A len cap ∧ w.grownBy w' (some g) := by
  subst hK
  exact diceBelow g len cap N A B w hd hb hl hN hN2 hB
theorem grown_trans {a b c : World} {row : Option Nat} (h : a.grownBy b row) (k : b.grownBy c row) : a.grownBy c row :=
  ⟨k.os.trans h.os, k.tape.trans h.tape, k.output.trans h.output, Nat.le_trans h.size k.size, fun i hi hn => (k.block i (Nat.lt_of_lt_of_le hi h.size) hn).trans (h.block i hi hn)⟩
theorem RB.gro {w w' : World} {B len g : Nat} {A : Option Addr} (h : RB w B A len) (hg : w.grownBy w' (some g)) (hB : B ≤ g) (hg2 : g < w.heap.size) : RB w' B A len :=
  h.keep fun p hp => World.cell?_of_block (hg.block p.block (by omega) (by simp; omega))

set_option maxHeartbeats 800000 in
theorem rollDice (len cap : Nat) (S : Int) (A : Option Addr) (w : World) (hb : RB w w.heap.size A len) (hl : len ≤ 4096) (hS0 : 0 ≤ S) (hS1 : S ≤ 1000) :
    Calls Tryz.prog 5 #[.slice A len cap, .int .u64 S] w fun e w' => e = .returned (.pointer (some ⟨w.heap.size, 0, none⟩)) ∧ Dice w' w.heap.size A len cap ∧ Below w.heap.size w w' ∧ w.heap.size < w'.heap.size := by
  go_enter Tryz.func5, Tryz.ntmps5
  go_wp2_with fail
  go_loopw [6] (fun i wr => ∃ (k : Nat) (h : Int), k ≤ len ∧ i = .int .i64 (k : Nat) ∧ 0 ≤ h ∧ h < 18446744073709551616 ∧ Blk wr w.heap.size 39 #[.slice A len cap, .int .i64 0, .int .u64 h] ∧ Below w.heap.size w wr) (fun i _ => len - (intOf i).toNat)
  case atStart => exact ⟨0, _, Nat.zero_le _, rfl, by omega, by omega, Blk.new _ _ _, (Below.refl _ _).alloc (Nat.le_refl _) _⟩
  case round =>
    obtain ⟨k, h, hk, rfl, h0, h1, blk, bel⟩ := hrel
    by_cases hlt : k < len
    · obtain ⟨b, off, rfl, hb', hc⟩ := hb (by omega)
      obtain ⟨z, hz, cz0⟩ := hc k hlt
      have cz := (bel.cell (p := ⟨b, off + k, none⟩) hb').trans cz0
      have c2 : wr.cell? ⟨w.heap.size, 2, none⟩ = some (.int .u64 h) := blk.cell 2
      have f2 := blk.frozen 2
      obtain ⟨H, eH⟩ : ∃ H, IntKind.u64.wrap (IntKind.u64.wrap (IntKind.u64.wrap (h * 1099511628211) + z) + 3) = H := ⟨_, rfl⟩
      have hH := wrap_range (IntKind.u64.wrap (IntKind.u64.wrap (h * 1099511628211) + z) + 3)
      rw [eH] at hH
      have HH := Lib.hid hH
      have Blk2 := Lib.hid (blk.set_ 2 (.int .u64 H))
      have Bel2 := Lib.hid (bel.setCell (p := ⟨w.heap.size, 2, none⟩) (Nat.le_refl _) (.int .u64 H))
      have j1 : (k : Int) < len := by omega
      have j0 : (0 : Int) ≤ k := by omega
      clear blk bel hc hb cz0 hH h0 h1
      go_wp2_with fail
      go_region
      all_goals go_wp2_with fail
      all_goals go_roundw
      case rel => exact ⟨k + 1, H, by omega, by go_num, HH.out.1, HH.out.2, Blk2.out, Bel2.out.drew⟩
      case measure => simp [intOf]; omega
    · have hkn : k = len := by omega
      subst hkn
      have Blk' := Lib.hid blk
      have Bel := Lib.hid bel
      clear blk bel
      go_wp2
      go_ret
      exact ⟨rfl, ⟨0, h, Nat.zero_le _, h0, h1, Blk'.out⟩, Bel.out, Blk'.out.lt⟩

theorem isP_id {n : Nat} (h1 : 1 ≤ n) (h2 : n ≤ 20) : IsP (idL n) := by
  refine ⟨by rw [idL_length]; exact h1, by rw [idL_length]; exact h2, fun i hi => ?_, fun i hi => ?_, fun i j hi hj e => ?_⟩
  · rw [idL_length] at hi; rw [idL_getD hi]; omega
  · rw [idL_length] at hi ⊢; rw [idL_getD hi]; omega
  · rw [idL_length] at hi hj; rw [idL_getD hi, idL_getD hj] at e; omega
theorem isP_swap {p : List Int} (h : IsP p) {i k : Nat} (hi : i < p.length) (hk : k < p.length) : IsP ((p.set i (p.getD k 0)).set k (p.getD i 0)) := by
  have hl : ((p.set i (p.getD k 0)).set k (p.getD i 0)).length = p.length := by simp
  have hl1 : (p.set i (p.getD k 0)).length = p.length := by simp
  have hg : ∀ j, j < p.length → ((p.set i (p.getD k 0)).set k (p.getD i 0)).getD j 0 = if k = j then p.getD i 0 else if i = j then p.getD k 0 else p.getD j 0 := fun j hj => by
    rw [set_getD hl1 hj, set_getD rfl hj]
  refine ⟨by rw [hl]; exact h.pos, by rw [hl]; exact h.le, fun j hj => ?_, fun j hj => ?_, fun a b ha hb e => ?_⟩
  · rw [hl] at hj; rw [hg j hj]
    split
    · exact h.lo i hi
    · split
      · exact h.lo k hk
      · exact h.lo j hj
  · rw [hl] at hj ⊢; rw [hg j hj]
    split
    · exact h.hi i hi
    · split
      · exact h.hi k hk
      · exact h.hi j hj
  · rw [hl] at ha hb
    rw [hg a ha, hg b hb] at e
    have inj := h.inj
    split at e
    · split at e
      · omega
      · split at e
        · have := inj i k hi hk e; omega
        · have := inj i b hi hb e; omega
    · split at e
      · split at e
        · have := inj k i hk hi e; omega
        · split at e
          · omega
          · have := inj k b hk hb e; omega
      · split at e
        · have := inj a i ha hi e; omega
        · split at e
          · have := inj a k ha hk e; omega
          · exact inj a b ha hb e

end Go.Proofs.YtkjokchhffjidaaGreatDoor

/- A word and its inverse on a state of a puzzle; what the named laws of chapter 9 hold. No condition. -/
namespace Go.Proofs.YtkjokchhffjidaaGreatDoor
open Go.RowKit

theorem below_drew9 (w : World) : Below w.heap.size w w.drew := ⟨rfl, rfl, rfl, Nat.le_refl _, fun _ _ => rfl⟩
theorem SIn.of_slc {w : World} {base n c : Nat} {A : Option Addr} {xs : List Int} (h : Slc w base A n c xs) (hn : n ≤ 1048576) : SIn w A n c xs := ⟨h.ri_, h.1, hn, h.le.1⟩
theorem VI.of_iv (w : List Int) : VI (invF w) := by
  unfold Go.Proofs.YtkjokchhffjidaaGreatDoor.invF
  split
  · rename_i h
    exact fun x hx => by have := (vW_iff.1 (vW_iv h)).2 x hx; omega
  · exact VI.nil_
section
variable {N : Nat} {gs : List (List Int)}
theorem ltM_mb (ok : ∀ g ∈ gs, Pn N g) (h1 : 1 ≤ N) (h2 : N ≤ 20) {l : Int} (h : LtG gs l) : Mb gs N (ltM gs l) := by
  have h' := h
  obtain ⟨a, b, c⟩ := h'
  unfold ltM
  split
  · have hm : gs.getD (-l - 1).toNat [] ∈ gs := getD_memG (by omega)
    exact (Mb.of (ok _ hm) hm).inv ok h1 h2
  · have hm : gs.getD (l - 1).toNat [] ∈ gs := getD_memG (by omega)
    exact Mb.of (ok _ hm) hm
theorem fold_mb (ok : ∀ g ∈ gs, Pn N g) (h1 : 1 ≤ N) (h2 : N ≤ 20) : ∀ (w : List Int) (p : List Int), (∀ l ∈ w, LtG gs l) → Mb gs N p → Mb gs N (w.foldl (fun p l => compL p (ltM gs l)) p)
  | [], _, _, h => h
  | l :: w, p, hw, h => fold_mb ok h1 h2 w _ (fun x hx => hw x (by simp [hx])) (h.comp ok h1 h2 (ltM_mb ok h1 h2 (hw l (by simp))))
theorem evW_mb (ok : ∀ g ∈ gs, Pn N g) (h1 : 1 ≤ N) (h2 : N ≤ 20) {w : List Int} (hw : ∀ l ∈ w, LtG gs l) : Mb gs N (evW N gs w) := fold_mb ok h1 h2 w _ hw Mb.one
end
/-- A word that applies: its inverse leads back; what it leads to is a member where the state is. -/
theorem ps_back {z : Int} {s : ByteArray} {gs : List (List Int)} {q wd : List Int} (h : apB z s gs q wd = true) :
    stB z s gs q = true ∧ stB z s gs (apF z s gs q wd) = true ∧ apB z s gs (apF z s gs q wd) (invF wd) = true ∧ apF z s gs (apF z s gs q wd) (invF wd) = q ∧ (Memb z gs (apF z s gs q wd) ↔ Memb z gs q) ∧ identL z = idL z.toNat := by
  have h' := h
  unfold apB at h'
  rw [Bool.and_eq_true] at h'
  obtain ⟨hs, hv⟩ := h'
  obtain ⟨hp, hl, hq⟩ := stB_iff.1 hs
  obtain ⟨N, rfl, h1, h2, h8, ok, hg⟩ := pz_deg hp
  have Q : Pn N q := ⟨hq, by omega⟩
  have hw := vW_ltg hv
  have E : Pn N (evW N gs wd) := evW_pn ok h1 h2 hw
  have e0 : apF N s gs q wd = compL q (evW N gs wd) := by unfold apF; rw [if_pos h, Int.toNat_natCast]
  have v8 : vW 8 wd = true := vW_mono hv (by omega)
  have ei : invF wd = ivW wd := by unfold invF; rw [if_pos v8]
  have vi : vW (gs.length : Int) (ivW wd) = true := vW_iv hv
  have T : Pn N (compL q (evW N gs wd)) := Q.comp E
  have st : stB N s gs (compL q (evW N gs wd)) = true := stB_iff.2 ⟨hp, by rw [T.2], T.1⟩
  have a2 : apB N s gs (compL q (evW N gs wd)) (ivW wd) = true := by unfold apB; rw [st, vi]; rfl
  have e2 : apF N s gs (compL q (evW N gs wd)) (ivW wd) = q := by
    unfold apF
    rw [if_pos a2, Int.toNat_natCast, evW_inv ok h1 h2 hw, Q.assoc E, E.ci, Q.idr]
  have M := evW_mb ok h1 h2 hw
  refine ⟨hs, by rw [e0]; exact st, by rw [e0, ei]; exact a2, by rw [e0, ei]; exact e2, ?_, by unfold identL; rw [if_pos (by omega)]⟩
  rw [e0]
  unfold Memb
  rw [Int.toNat_natCast]
  constructor
  · rintro ⟨_, _, _, m⟩
    refine ⟨hg, hl, isP_iff.2 hq, ?_⟩
    have := m.comp ok h1 h2 (M.inv ok h1 h2)
    rwa [Q.assoc E, E.ci, Q.idr] at this
  · rintro ⟨_, _, _, m⟩
    exact ⟨hg, by rw [T.2], isP_iff.2 T.1, m.comp ok h1 h2 M⟩
theorem ap_no {z : Int} {s : ByteArray} {gs : List (List Int)} {q wd : List Int} (h : apB z s gs q wd = false) : apF z s gs q wd = [] := by unfold apF; rw [h]; rfl
/-- IsReachable and IsMember at a state. -/
theorem rch_mem {z : Int} {s : ByteArray} {gs : List (List Int)} {q : List Int} {a b : Bool} (hs : stB z s gs q = true) (h : IsRch z s gs q a) (k : b = true ↔ Memb z gs q) : a = b := by
  unfold IsRch at h
  rw [Bool.eq_iff_iff, h, k]
  exact ⟨fun e => e.2, fun e => ⟨hs, e⟩⟩
/-- IsReachable at two states that are members alike. -/
theorem rch_two {z : Int} {s : ByteArray} {gs : List (List Int)} {q t : List Int} {a b : Bool} (hs : stB z s gs q = true) (ht : stB z s gs t = true) (h : IsRch z s gs q a) (k : IsRch z s gs t b) (e : Memb z gs t ↔ Memb z gs q) : b = a := by
  unfold IsRch at h k
  rw [Bool.eq_iff_iff, h, k, hs, ht, e]
set_option maxHeartbeats 400000 in
theorem bigF9 (A : Option Addr) (len cap : Nat) (w : World) (hl : len ≤ 4096) : Calls Tryz.prog 4 #[.slice A len cap] w fun e w' => e = .returned (.bool false) ∧ w = w' := by
  have d : decide ((4096 : Int) < (len : Int)) = false := by simp; omega
  go_enter Tryz.func4, Tryz.ntmps4
  go_wp2
  go_ret
  exact ⟨rfl, rfl⟩
set_option maxHeartbeats 400000 in
theorem bigT9 (A : Option Addr) (len cap : Nat) (w : World) (hl : 4096 < len) : Calls Tryz.prog 4 #[.slice A len cap] w fun e w' => e = .returned (.bool true) ∧ w = w' := by
  have d : decide ((4096 : Int) < (len : Int)) = true := by simp; omega
  go_enter Tryz.func4, Tryz.ntmps4
  go_wp2
  go_ret
  exact ⟨rfl, rfl⟩
end Go.Proofs.YtkjokchhffjidaaGreatDoor

/- The walk of the law FnKnownPuzzles: it returns true at every input, and writes nothing that was there. No condition. -/
namespace Go.Proofs.YtkjokchhffjidaaGreatDoor
open Go.RowKit

set_option maxHeartbeats 8000000 in
set_option maxRecDepth 100000 in
theorem lawKnownPuzzles (A : Option Addr) (cap len : Nat) (w : World) (hb : RB w w.heap.size A len) :
    Calls Tryz.prog 3 #[.slice A len cap] w fun e w' => e = .returned (.bool true) ∧ Below w.heap.size w w' := by
  by_cases hl : len ≤ 4096
  · go_enter Tryz.func3, Tryz.ntmps3
    go_wp2_with fail
    refine (bigF9 A len cap w hl).mono ?_
    rintro e w0 ⟨rfl, rfl⟩
    go_wp2_with fail
    refine (rollDice len cap 906 A w hb hl (by omega) (by omega)).mono ?_
    rintro e w1 ⟨rfl, di1, b1, sz1⟩
    have D1 := Lib.hid di1
    have B1 : Hid (Below w.heap.size w w1) := Lib.hid b1
    have HB := Lib.hid hb
    have Z1 : Hid (w.heap.size < w1.heap.size) := Lib.hid sz1
    clear di1 b1 hb sz1
    go_wp2_with fail
    refine (diceBelowK w.heap.size len cap 6 _ A w.heap.size w1 D1.out (HB.out.below B1.out (Nat.le_refl _)) hl (by omega) (by omega) (Nat.le_refl _) (by omega)).mono ?_
    rintro e w2 ⟨r, hr, rfl, di2, g2⟩
    have B2 : Hid (Below w.heap.size w w2) := Lib.hid (B1.out.grown g2 B1.out.size (fun k e => by injection e with e; omega))
    clear di2 g2 D1 HB
    obtain ⟨z, s, gs, KS, KI, hp, hz9, iz, is⟩ := kn_pack r hr
    have Hp := Lib.hid hp
    have Hz := Lib.hid hz9
    have Sm : Hid (smB z s gs z s gs = true) := Lib.hid (smB_iff.2 ⟨hp, hp, rfl, rfl, rfl⟩)
    have Ms : Hid (∀ i, i < s.size → mvF z s gs (s.extract i (i + 1)) = (i : Int)) := Lib.hid fun i hi => mv_self hp hi
    clear hp hz9
    go_wp2_with fail
    refine (KI w2).mono ?_
    rintro e w3 ⟨A3, m3, c3, us3, rfl, x3, b3⟩
    have B3 : Hid (Below w.heap.size w w3) := Lib.hid (btr B2.out b3)
    have Z3 : Hid (w2.heap.size ≤ w3.heap.size) := Lib.hid b3.size
    have X3 := Lib.hid x3
    clear b3 x3
    have ba1 : Below w3.heap.size w3 (w3.alloc (.cells #[.int .i64 z, .string s, .slice A3 m3 c3] 30)) := (Below.refl _ _).alloc (Nat.le_refl _) _
    obtain ⟨V1, hV1⟩ : ∃ V1, w3.alloc (.cells #[.int .i64 z, .string s, .slice A3 m3 c3] 30) = V1 := ⟨_, rfl⟩
    rw [hV1] at ba1
    have zV1 : Hid (V1.heap.size = w3.heap.size + 1) := Lib.hid (by rw [← hV1]; simp)
    have Bpv : Hid (Blk V1 w3.heap.size 30 #[.int .i64 z, .string s, .slice A3 m3 c3]) := Lib.hid (hV1 ▸ Blk.new w3 _ _)
    have Bp_n0 := Bpv.out.cell 0
    have Bp_n1 := Bpv.out.cell 1
    have Bp_n2 := Bpv.out.cell 2
    have Xv1 := Lib.hid (X3.out.up ba1)
    clear X3
    have BV1 : Hid (Below w.heap.size w V1) := Lib.hid (btr B3.out ba1)
    go_wp2_with fail
    try rw [hV1]
    clear hV1 ba1 Bp_n0 Bp_n1 Bp_n2
    refine (KS V1).mono ?_
    rintro e w4 ⟨A4, m4, c4, us4, rfl, x4, b4⟩
    have B4 : Hid (Below w.heap.size w w4) := Lib.hid (btr BV1.out b4)
    have Z4 : Hid (V1.heap.size ≤ w4.heap.size) := Lib.hid b4.size
    have X4 := Lib.hid (Xv1.out.up b4)
    clear Xv1
    have Bp4 := Lib.hid (Bpv.out.up b4)
    clear Bpv
    have Y4 := Lib.hid x4
    clear b4 x4
    have ba2 : Below w4.heap.size w4 (w4.alloc (.cells #[.int .i64 z, .string s, .slice A4 m4 c4] 30)) := (Below.refl _ _).alloc (Nat.le_refl _) _
    obtain ⟨V2, hV2⟩ : ∃ V2, w4.alloc (.cells #[.int .i64 z, .string s, .slice A4 m4 c4] 30) = V2 := ⟨_, rfl⟩
    rw [hV2] at ba2
    have zV2 : Hid (V2.heap.size = w4.heap.size + 1) := Lib.hid (by rw [← hV2]; simp)
    have Bqv : Hid (Blk V2 w4.heap.size 30 #[.int .i64 z, .string s, .slice A4 m4 c4]) := Lib.hid (hV2 ▸ Blk.new w4 _ _)
    have Bq_n0 := Bqv.out.cell 0
    have Bq_n1 := Bqv.out.cell 1
    have Bq_n2 := Bqv.out.cell 2
    have Xv2 := Lib.hid (X4.out.up ba2)
    clear X4
    have Bpv2 := Lib.hid (Bp4.out.up ba2)
    clear Bp4
    have Yv2 := Lib.hid (Y4.out.up ba2)
    clear Y4
    have BV2 : Hid (Below w.heap.size w V2) := Lib.hid (btr B4.out ba2)
    have Bp_n0 := Bpv2.out.cell 0
    have Bp_n1 := Bpv2.out.cell 1
    have Bp_n2 := Bpv2.out.cell 2
    go_wp2_with fail
    try rw [hV2]
    clear hV2 ba2 Bq_n0 Bq_n1 Bq_n2 Bp_n0 Bp_n1 Bp_n2
    refine (implIsValidPuzzle z s A3 m3 c3 us3 gs V2 Xv2.out).mono ?_
    rintro e w5 ⟨rfl, b5⟩
    have B5 : Hid (Below w.heap.size w w5) := Lib.hid (btr BV2.out b5)
    have Z5 : Hid (V2.heap.size ≤ w5.heap.size) := Lib.hid b5.size
    have X5 := Lib.hid (Xv2.out.up b5)
    clear Xv2
    have Bp5 := Lib.hid (Bpv2.out.up b5)
    clear Bpv2
    have Y5 := Lib.hid (Yv2.out.up b5)
    clear Yv2
    have Bq5 := Lib.hid (Bqv.out.up b5)
    clear Bqv
    clear b5
    rw [Hp.out]
    have Bp_0 := Bp5.out.cell 0
    have Bp_1 := Bp5.out.cell 1
    have Bp_2 := Bp5.out.cell 2
    have Bq_0 := Bq5.out.cell 0
    have Bq_1 := Bq5.out.cell 1
    have Bq_2 := Bq5.out.cell 2
    go_wp2_with fail
    refine (specSamePuzzle z s A3 m3 c3 us3 gs z s A4 m4 c4 us4 gs w5 X5.out Y5.out).mono ?_
    rintro e w6 ⟨rfl, b6⟩
    clear Bp_0 Bp_1 Bp_2
    clear Bq_0 Bq_1 Bq_2
    have B6 : Hid (Below w.heap.size w w6) := Lib.hid (btr B5.out b6)
    have Z6 : Hid (w5.heap.size ≤ w6.heap.size) := Lib.hid b6.size
    have X6 := Lib.hid (X5.out.up b6)
    clear X5
    have Bp6 := Lib.hid (Bp5.out.up b6)
    clear Bp5
    have Y6 := Lib.hid (Y5.out.up b6)
    clear Y5
    have Bq6 := Lib.hid (Bq5.out.up b6)
    clear Bq5
    clear b6
    rw [Sm.out]
    have Bp_0 := Bp6.out.cell 0
    have Bp_1 := Bp6.out.cell 1
    have Bp_2 := Bp6.out.cell 2
    have Bq_0 := Bq6.out.cell 0
    have Bq_1 := Bq6.out.cell 1
    have Bq_2 := Bq6.out.cell 2
    go_wp2_with fail
    refine (implSamePuzzle z s A3 m3 c3 us3 gs z s A4 m4 c4 us4 gs w6 X6.out Y6.out).mono ?_
    rintro e w7 ⟨rfl, b7⟩
    clear Bp_0 Bp_1 Bp_2
    clear Bq_0 Bq_1 Bq_2
    have B7 : Hid (Below w.heap.size w w7) := Lib.hid (btr B6.out b7)
    have Z7 : Hid (w6.heap.size ≤ w7.heap.size) := Lib.hid b7.size
    have X7 := Lib.hid (X6.out.up b7)
    clear X6
    have Bp7 := Lib.hid (Bp6.out.up b7)
    clear Bp6
    have Y7 := Lib.hid (Y6.out.up b7)
    clear Y6
    have Bq7 := Lib.hid (Bq6.out.up b7)
    clear Bq6
    clear b7
    rw [Sm.out]
    clear Y7
    clear Bq7
    have Bp_0 := Bp7.out.cell 0
    have Bp_1 := Bp7.out.cell 1
    have Bp_2 := Bp7.out.cell 2
    go_wp2_with fail
    clear Bp_0 Bp_1 Bp_2
    go_loopw [9] (fun iv wr => ∃ i : Nat, i ≤ s.size ∧ iv = .int .i64 (i : Nat) ∧ Below w7.heap.size w7 wr) (fun iv _ => s.size - (intOf iv).toNat)
    case atStart => exact ⟨0, Nat.zero_le _, rfl, Below.refl _ _⟩
    case round =>
      obtain ⟨i, hi, rfl, bel⟩ := hrel
      have Bl := Lib.hid bel
      have Be : Hid (Below w.heap.size w wr) := Lib.hid (btr B7.out bel)
      have Xr := Lib.hid (X7.out.up bel)
      clear X7
      have Bpr := Lib.hid (Bp7.out.up bel)
      clear Bp7
      clear bel
      by_cases hlt : i < s.size
      · skip
        have p0 : (0 : Int) ≤ i := by omega
        have p1 : (i : Int) < s.size := by omega
        have p2 : (i : Int) + 1 ≤ s.size := by omega
        have p3 : (i : Int) ≤ (i : Int) + 1 := by omega
        have wi : IntKind.i64.wrap ((i : Int) + 1) = ((i + 1 : Nat) : Int) := by rw [IntKind.wrap_i64]; omega
        have M := Lib.hid (Ms.out i hlt)
        obtain ⟨t, et⟩ : ∃ t, s.extract i (i + 1) = t := ⟨_, rfl⟩
        rw [et] at M
        have d9 : ((i : Int) != (i : Int)) = false := by simp
        have Bp_0 := Bpr.out.cell 0
        have Bp_1 := Bpr.out.cell 1
        have Bp_2 := Bpr.out.cell 2
        go_wp2_with fail
        go_cut [63] from 54 to 62 (fun v wx => (v = .bool false) ∧ Below wr.heap.size wr wx)
        case first =>
          have bd : Below wr.heap.size wr wr.drew := below_drew9 _
          have Xdd41 := Lib.hid (Xr.out.up bd)
          have Bpdd41 := Lib.hid (Bpr.out.up bd)
          clear bd
          go_region_law ((go_simp; go_wp2_with (first
          | (go_at_call 12; (first | with_reducible refine (implMoveIndex z s A3 m3 c3 us3 gs t _ Xdd41.out).mono ?_ | with_reducible refine (implMoveIndex z s A3 m3 c3 us3 gs t _ Xr.out).mono ?_); rintro e w41 ⟨rfl, b41d⟩
             have b41 : Below wr.heap.size wr w41 := ⟨b41d.os, b41d.tape, b41d.output, b41d.size, b41d.block⟩
             have B41 : Hid (Below w.heap.size w w41) := Lib.hid (btr Be.out b41)
             have Z41 : Hid (wr.heap.size ≤ w41.heap.size) := Lib.hid b41.size
             have X41 := Lib.hid (Xr.out.up b41)
             have Bp41 := Lib.hid (Bpr.out.up b41)
             have Bp_0_41 := Bp41.out.cell 0
             have Bp_1_41 := Bp41.out.cell 1
             have Bp_2_41 := Bp41.out.cell 2
             have bw41 := Lib.hid b41
             rw [M.out]
             clear b41 b41d)
          )))
          all_goals try clear Xdd41 Bpdd41
          all_goals try clear Bp_0_41 Bp_1_41 Bp_2_41
          all_goals (go_wp2_with fail; go_meet; exact ⟨rfl, bw41.out⟩)
        case rest =>
          obtain ⟨rfl, bc⟩ := hcut
          clear Bp_0 Bp_1 Bp_2
          obtain ⟨w80, ew80⟩ : ∃ x, x = wc := ⟨_, rfl⟩
          subst ew80
          have Bc80 : Hid (Below w.heap.size w w80) := Lib.hid (btr Be.out bc)
          have Zc80 : Hid (wr.heap.size ≤ w80.heap.size) := Lib.hid bc.size
          have Xc80 := Lib.hid (Xr.out.up bc)
          clear Xr
          have Bpc80 := Lib.hid (Bpr.out.up bc)
          clear Bpr
          have Bcw80 := Lib.hid bc
          clear bc
          go_wp2_with fail
          go_roundw
          case rel => exact ⟨i + 1, by omega, by go_num, btr Bl.out (by first | exact Bcw80.out | assumption)⟩
          case measure => simp [intOf]; omega
      · skip
        obtain rfl : i = s.size := by omega
        have Bp_0 := Bpr.out.cell 0
        have Bp_1 := Bpr.out.cell 1
        have Bp_2 := Bpr.out.cell 2
        go_wp2_with fail
        refine (kn_six wr).mono ?_
        rintro e w61 ⟨A61, m61, c61, rfl, b61⟩
        clear Bp_0 Bp_1 Bp_2
        have B61 : Hid (Below w.heap.size w w61) := Lib.hid (btr Be.out b61)
        have Z61 : Hid (wr.heap.size ≤ w61.heap.size) := Lib.hid b61.size
        have X61 := Lib.hid (Xr.out.up b61)
        clear Xr
        have Bp61 := Lib.hid (Bpr.out.up b61)
        clear Bpr
        clear b61
        have ba3 : Below w61.heap.size w61 (w61.alloc (.cells #[.int .i64 0, .string ⟨#[]⟩, .slice A61 m61 c61] 30)) := (Below.refl _ _).alloc (Nat.le_refl _) _
        obtain ⟨V3, hV3⟩ : ∃ V3, w61.alloc (.cells #[.int .i64 0, .string ⟨#[]⟩, .slice A61 m61 c61] 30) = V3 := ⟨_, rfl⟩
        rw [hV3] at ba3
        have zV3 : Hid (V3.heap.size = w61.heap.size + 1) := Lib.hid (by rw [← hV3]; simp)
        have B6v : Hid (Blk V3 w61.heap.size 30 #[.int .i64 0, .string ⟨#[]⟩, .slice A61 m61 c61]) := Lib.hid (hV3 ▸ Blk.new w61 _ _)
        have B6_n0 := B6v.out.cell 0
        have B6_n1 := B6v.out.cell 1
        have B6_n2 := B6v.out.cell 2
        have Xv3 := Lib.hid (X61.out.up ba3)
        clear X61
        have Bpv3 := Lib.hid (Bp61.out.up ba3)
        clear Bp61
        have BV3 : Hid (Below w.heap.size w V3) := Lib.hid (btr B61.out ba3)
        have Bp_n0 := Bpv3.out.cell 0
        have Bp_n1 := Bpv3.out.cell 1
        have Bp_n2 := Bpv3.out.cell 2
        go_wp2_with fail
        try rw [hV3]
        clear hV3 ba3 B6_n0 B6_n1 B6_n2 Bp_n0 Bp_n1 Bp_n2
        clear B6v
        have Bp_0 := Bpv3.out.cell 0
        have Bp_1 := Bpv3.out.cell 1
        have Bp_2 := Bpv3.out.cell 2
        have bd : Below V3.heap.size V3 V3.drew := below_drew9 _
        have Xdd62 := Lib.hid (Xv3.out.up bd)
        have Bpdd62 := Lib.hid (Bpv3.out.up bd)
        clear bd
        have hS0 : V3.cell? ⟨w3.heap.size, 0, none⟩ = some (.int .i64 z) ∧ V3.cell? ⟨w3.heap.size, 1, none⟩ = some (.string s) ∧ V3.cell? ⟨w3.heap.size, 2, none⟩ = some (.slice A3 m3 c3) := ⟨Bpv3.out.cell 0, Bpv3.out.cell 1, Bpv3.out.cell 2⟩
        go_region_held3 (fun w' => w'.cell? ⟨w3.heap.size, 0, none⟩ = some (.int .i64 z) ∧ w'.cell? ⟨w3.heap.size, 1, none⟩ = some (.string s) ∧ w'.cell? ⟨w3.heap.size, 2, none⟩ = some (.slice A3 m3 c3)) (first | exact hS0 | exact hS62 | exact hS63 | exact hS64 | go_keep) (first
        | (go_at_call 13; (first | with_reducible refine (implStateCount z s A3 m3 c3 us3 gs _ Xdd62.out).mono ?_ | with_reducible refine (implStateCount z s A3 m3 c3 us3 gs _ Xv3.out).mono ?_); rintro e w62 ⟨v62, rfl, st62, b62d⟩
           have b62 : Below V3.heap.size V3 w62 := ⟨b62d.os, b62d.tape, b62d.output, b62d.size, b62d.block⟩
           have B62 : Hid (Below w.heap.size w w62) := Lib.hid (btr BV3.out b62)
           have Z62 : Hid (V3.heap.size ≤ w62.heap.size) := Lib.hid b62.size
           have X62 := Lib.hid (Xv3.out.up b62)
           have Bp62 := Lib.hid (Bpv3.out.up b62)
           have Bp_0_62 := Bp62.out.cell 0
           have Bp_1_62 := Bp62.out.cell 1
           have Bp_2_62 := Bp62.out.cell 2
           have hS62 : w62.cell? ⟨w3.heap.size, 0, none⟩ = some (.int .i64 z) ∧ w62.cell? ⟨w3.heap.size, 1, none⟩ = some (.string s) ∧ w62.cell? ⟨w3.heap.size, 2, none⟩ = some (.slice A3 m3 c3) := ⟨Bp62.out.cell 0, Bp62.out.cell 1, Bp62.out.cell 2⟩
           have R1 := Lib.hid st62
           clear st62
           clear b62 b62d)
        | (go_at_call 14; refine (implGroupOrder z A3 m3 c3 us3 gs _ X62.out.g iz).mono ?_; rintro e w63 ⟨v63, rfl, or63, b63d⟩
           have b63 : Below w62.heap.size w62 w63 := ⟨b63d.os, b63d.tape, b63d.output, b63d.size, b63d.block⟩
           have B63 : Hid (Below w.heap.size w w63) := Lib.hid (btr B62.out b63)
           have Z63 : Hid (w62.heap.size ≤ w63.heap.size) := Lib.hid b63.size
           have X63 := Lib.hid (X62.out.up b63)
           have Bp63 := Lib.hid (Bp62.out.up b63)
           have Bp_0_63 := Bp63.out.cell 0
           have Bp_1_63 := Bp63.out.cell 1
           have Bp_2_63 := Bp63.out.cell 2
           have hS63 : w63.cell? ⟨w3.heap.size, 0, none⟩ = some (.int .i64 z) ∧ w63.cell? ⟨w3.heap.size, 1, none⟩ = some (.string s) ∧ w63.cell? ⟨w3.heap.size, 2, none⟩ = some (.slice A3 m3 c3) := ⟨Bp63.out.cell 0, Bp63.out.cell 1, Bp63.out.cell 2⟩
           obtain rfl : v62 = v63 := stc_ord Hp.out R1.out or63
           clear or63
           have eqv : (v62 == v62) = true := by simp
           clear b63 b63d)
        | (go_at_call 12; with_reducible refine (implMoveIndex z s A3 m3 c3 us3 gs ⟨#[90]⟩ _ X63.out).mono ?_; rintro e w64 ⟨rfl, b64d⟩
           have b64 : Below w63.heap.size w63 w64 := ⟨b64d.os, b64d.tape, b64d.output, b64d.size, b64d.block⟩
           have B64 : Hid (Below w.heap.size w w64) := Lib.hid (btr B63.out b64)
           have Z64 : Hid (w63.heap.size ≤ w64.heap.size) := Lib.hid b64.size
           have X64 := Lib.hid (X63.out.up b64)
           have Bp64 := Lib.hid (Bp63.out.up b64)
           have Bp_0_64 := Bp64.out.cell 0
           have Bp_1_64 := Bp64.out.cell 1
           have Bp_2_64 := Bp64.out.cell 2
           have hS64 : w64.cell? ⟨w3.heap.size, 0, none⟩ = some (.int .i64 z) ∧ w64.cell? ⟨w3.heap.size, 1, none⟩ = some (.string s) ∧ w64.cell? ⟨w3.heap.size, 2, none⟩ = some (.slice A3 m3 c3) := ⟨Bp64.out.cell 0, Bp64.out.cell 1, Bp64.out.cell 2⟩
           rw [Hz.out]
           clear b64 b64d)
        )
        all_goals try clear Xdd62 Bpdd62
        all_goals try clear Bp_0_62 Bp_1_62 Bp_2_62
        all_goals try clear Bp_0_63 Bp_1_63 Bp_2_63
        all_goals try clear Bp_0_64 Bp_1_64 Bp_2_64
        clear Bp_0 Bp_1 Bp_2
        all_goals (go_wp2_with fail; go_ret; exact ⟨rfl, B64.out⟩)
  · go_enter Tryz.func3, Tryz.ntmps3
    go_wp2_with fail
    refine (bigT9 A len cap w (by omega)).mono ?_
    rintro e w0 ⟨rfl, rfl⟩
    go_wp2
    go_ret
    exact ⟨rfl, Below.refl _ _⟩
end Go.Proofs.YtkjokchhffjidaaGreatDoor

/- What the frame of a proof knows of a slice of bytes that came in, in the words of the walks. No condition. -/
namespace Go.Proofs.YtkjokchhffjidaaGreatDoor
open Go.RowKit

theorem SB.of_rowB {w : World} {a : Option Addr} {len cap : Nat} {zs : List Int}
    (h : (a = none ∧ len = 0 ∧ cap = 0 ∧ zs = []) ∨ ∃ x, a = some x ∧ len ≤ cap ∧ cap ≤ maxLen ∧ zs.length = cap ∧ (∀ i, i < zs.length → w.cell? (x.add i) = some (.int .u8 (zs.getD i 0))) ∧ ∀ n ∈ zs, (Lit.int .u8 n).wf = true)
    (hw : ∀ n : Int, (Lit.int .u8 n).wf = true → 0 ≤ n ∧ n ≤ 255) : SB w w.heap.size a len := by
  rcases h with ⟨rfl, rfl, rfl, rfl⟩ | ⟨⟨b, off, spot⟩, rfl, hl, hm, hz, hc, hwf⟩
  · exact fun h => absurd h (by omega)
  · intro hp
    have h0 := hc 0 (by omega)
    have hspot : spot = none := by simpa [Addr.add] using World.cell?_spot h0
    subst hspot
    refine ⟨b, off, rfl, ?_, fun j hj => ?_⟩
    · have := World.block_lt_of_cell? w _ h0
      simpa [Addr.add] using this
    · have hjz : j < zs.length := by omega
      have hr := hw (zs.getD j 0) (hwf _ (by rw [List.getD_eq_getElem?_getD, List.getElem?_eq_getElem hjz]; exact List.getElem_mem _))
      refine ⟨(zs.getD j 0).toNat, by omega, ?_⟩
      rw [Int.toNat_of_nonneg hr.1, ← hc j hjz]
      unfold Addr.add
      split <;> simp_all
end Go.Proofs.YtkjokchhffjidaaGreatDoor
