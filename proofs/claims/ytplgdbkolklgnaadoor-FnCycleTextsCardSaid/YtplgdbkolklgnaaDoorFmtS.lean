/- The model's texts of numbers. Condition: points below 20. -/
import Derived.Test.YtplgdbkolklgnaaDoorTxt
import Derived.Test.YtplgdbkolklgnaaDoorBase
import Derived.WalkSpells
import Derived.Laws.BytesArg
import Derived.Deep.LoopGhost
namespace Go.Proofs.YtplgdbkolklgnaaDoor
open Go.RowKit

theorem len_toList0 (s : ByteArray) : s.toList.length = s.size := by rw [ByteArray.toList_eq]; exact Array.length_toList
theorem toList_app (a b : ByteArray) : (a ++ b).toList = a.toList ++ b.toList := by
  simp [ByteArray.toList_eq]

theorem byteT (w : World) (V : Int) : (convert 22 9 (.slice (some ⟨w.heap.size, 0, none⟩) 1 1)).run Tryd.prog (w.alloc (.cells #[.int .u8 V] 5)) = .ok (.string (strOfNums [V])) (w.alloc (.cells #[.int .u8 V] 5)) :=
  run_convert_bytes_arg _ 22 5 Tryd.underlying22 Tryd.underlying5 w.heap.size 0 1 1 [V] rfl (fun i hi => by
    obtain rfl : i = 0 := by omega
    rw [World.cell?_alloc_at _ _ _ _ rfl]; rfl) 9 Tryd.underlying9

theorem specFmtInt (x : Nat) (w : World) (hx : x < 20) :
    Calls Tryd.prog 54 #[.int .i64 (x : Int)] w fun e w' => ∃ t, e = .returned (.string t) ∧ t.toList = dig x ∧ Below w.heap.size w w' := by
  have x0 : decide ((x : Int) < 0) = false := by simp
  go_enter Tryd.func54, Tryd.ntmps54
  go_wp2
  go_loopg [0, 3, 5] 3 (fun gg nv sv _ wr => ((2 ≤ gg ∧ nv = .int .i64 (x : Int) ∧ sv = .string ⟨#[]⟩) ∨ (1 ≤ gg ∧ nv = .int .i64 ((x / 10 : Nat) : Int) ∧ ∃ t, sv = .string t ∧ t.toList = [UInt8.ofNat (48 + x % 10)]) ∨ (10 ≤ x ∧ nv = .int .i64 0 ∧ ∃ t, sv = .string t ∧ t.toList = dig x)) ∧ Below w.heap.size w wr)
  case atStart => exact ⟨.inl ⟨by omega, rfl, rfl⟩, Below.refl _ _⟩
  case round =>
    obtain ⟨⟨hg, rfl, rfl⟩ | ⟨hg, rfl, t, rfl, ht⟩ | ⟨hx10, rfl, t, rfl, ht⟩, bel⟩ := hrel
    · have Bel := Lib.hid bel
      have hcv := byteT wr
      clear bel
      have q0 : (0 : Int) ≤ (x : Int) % 10 := by omega
      have q1 : (x : Int) % 10 ≤ 9 := by omega
      have d0 : decide ((x : Int) % 10 < 0) = false := by simp; omega
      have tl : Hid ((strOfNums [48 + (x : Int) % 10] ++ (⟨#[]⟩ : ByteArray)).toList = [UInt8.ofNat (48 + x % 10)]) := Lib.hid (by
        rw [toList_app, ByteArray.toList_eq, strOfNums_data, ByteArray.toList_eq]
        have : (48 + (x : Int) % 10).toNat = 48 + x % 10 := by omega
        simp [this])
      go_wp2
      go_roundg 1
      case rel => exact ⟨.inr (.inl ⟨Nat.le_refl _, by go_num, _, rfl, tl.out⟩), Bel.out.alloc Bel.out.size _⟩
      case measure => omega
    · have Bel := Lib.hid bel
      have hcv := byteT wr
      clear bel
      have te : t.toList.isEmpty = false := by rw [ht]; rfl
      by_cases h10 : x < 10
      · have e0 : x / 10 = 0 := by omega
        have T := Lib.hid ht
        have F : Hid (dig x = [UInt8.ofNat (48 + x % 10)]) := Lib.hid (by unfold dig; rw [if_pos h10, Nat.mod_eq_of_lt h10])
        rw [e0]
        clear ht e0
        go_wp2
        go_ret
        exact ⟨t, rfl, by rw [T.out, F.out], Bel.out⟩
      · have e0 : ((x / 10 : Nat) : Int) = 1 := by omega
        have tl : Hid ((strOfNums [49] ++ t).toList = dig x) := Lib.hid (by
          rw [toList_app, ht, ByteArray.toList_eq, strOfNums_data]
          unfold dig
          rw [if_neg h10, show x / 10 = 1 from by omega]; rfl)
        have sz : (strOfNums [49] ++ t).size = 2 := by
          have := congrArg List.length tl.out
          rw [← len_toList0]
          rw [this]; unfold dig; rw [if_neg h10]; rfl
        have sz2 : ¬ 9223372036854775807 < (strOfNums [49]).size + t.size := by
          have : (strOfNums [49] ++ t).size = (strOfNums [49]).size + t.size := ByteArray.size_append
          omega
        rw [e0]
        clear ht e0 sz
        go_wp2
        go_roundg 0
        case rel => exact ⟨.inr (.inr ⟨by omega, rfl, _, rfl, tl.out⟩), Bel.out.alloc Bel.out.size _⟩
        case measure => omega
    · have Bel := Lib.hid bel
      clear bel
      have te : t.toList.isEmpty = false := by rw [ht]; unfold dig; rw [if_neg (by omega)]; rfl
      have T := Lib.hid ht
      clear ht
      go_wp2
      go_ret
      exact ⟨t, rfl, T.out, Bel.out⟩
end Go.Proofs.YtplgdbkolklgnaaDoor
