/- The size of a slice of slices against whatever is left. No condition. -/
import Derived.Test.YtooafmifbplbhaaSSx
namespace Go.Proofs.Ytooafmifbplbhaa
open Go.RowKit

set_option maxHeartbeats 1000000 in
theorem szSS2 (A : Option Addr) (n c : Nat) (left : Int) (vs : List SV) (xss : List (List Int)) (w : World) (hx : RR w w.heap.size A n vs xss) (hn : n ≤ maxLen) (hl : Hid (∀ i, i < n → (vs.getD i sd0).2.1 ≤ maxLen)) (h0 : 0 ≤ left) (h1 : left ≤ 1048576) :
    Calls Try.prog 31 #[.slice A n c, .int .i64 left] w fun e w' => e = .returned (.int .i64 (if ((n + tot vs n : Nat) : Int) ≤ left then left - ((n + tot vs n : Nat) : Int) else -1)) ∧ w = w' := by
  have HX := Lib.hid hx
  clear hx
  have hn' := hn
  unfold maxLen at hn'
  obtain ⟨r, er⟩ : ∃ r : Int, (if ((n + tot vs n : Nat) : Int) ≤ left then left - ((n + tot vs n : Nat) : Int) else -1) = r := ⟨_, rfl⟩
  rw [er]
  have Er := Lib.hid er
  clear er
  by_cases h : (n : Int) ≤ left
  · have d : decide (left - (n : Int) < 0) = false := by simp; omega
    have hwl : IntKind.i64.wrap (left - (n : Int)) = left - (n : Int) := by rw [IntKind.wrap_i64]; omega
    go_enter Try.func31, Try.ntmps31
    go_wp2
    go_loop [1, 5] (fun v i => ∃ (k T : Nat), k ≤ n ∧ Hid (tot vs k = T) ∧ ((n + T : Nat) : Int) ≤ left ∧ i = .int .i64 (k : Nat) ∧ v = .int .i64 (left - ((n + T : Nat) : Int))) (fun _ i => n - (intOf i).toNat)
    case atStart => exact ⟨0, 0, Nat.zero_le _, Lib.hid rfl, by omega, rfl, by go_num⟩
    case round =>
      obtain ⟨k, T, hk, hT, hT1, rfl, rfl⟩ := hrel
      clear hwl
      by_cases hlt : k < n
      · obtain ⟨b, off, A5, l, c5, y, rfl, hb, ev, ey, hc, hr, hy, hlc⟩ := HX.out.at_ hlt
        have hl1 := hl.out k hlt
        have hT2 : Hid (tot vs (k + 1) = T + l) := Lib.hid (by rw [tot_succ, hT.out, ev])
        have hm : Hid (tot vs (k + 1) ≤ tot vs n) := Lib.hid (tot_mono hlt)
        rw [ev] at hl1
        clear ev ey hr
        by_cases hfit : ((n + T + l : Nat) : Int) ≤ left
        · have d2 : decide (left - ((n + T : Nat) : Int) - (l : Int) < 0) = false := by simp; omega
          go_wp2_with fail
          refine (szS A5 l c5 _ w (by omega) (by omega) hl1).mono ?_
          rintro e w1 ⟨rfl, rfl⟩
          rw [if_pos (by omega)]
          go_wp2
          go_round
          case rel => exact ⟨k + 1, T + l, by omega, hT2, by omega, by go_num, by go_num⟩
          case measure => simp [intOf]; omega
        · go_wp2_with fail
          refine (szS A5 l c5 _ w (by omega) (by omega) hl1).mono ?_
          rintro e w1 ⟨rfl, rfl⟩
          rw [if_neg (by omega)]
          go_wp2
          go_ret
          exact ⟨by rw [← Er.out, if_neg (by have := hm.out; rw [hT2.out] at this; omega)]; rfl, rfl⟩
      · have hkn : k = n := by omega
        subst hkn
        go_wp2
        go_ret
        exact ⟨by rw [← Er.out, hT.out, if_pos hT1]; go_num, rfl⟩
  · have d : decide (left - (n : Int) < 0) = true := by simp; omega
    have er2 : r = -1 := by rw [← Er.out, if_neg (by omega)]
    have hwl : IntKind.i64.wrap (left - (n : Int)) = left - (n : Int) := by rw [IntKind.wrap_i64]; omega
    subst er2
    go_enter Try.func31, Try.ntmps31
    go_wp2
    go_ret
    exact ⟨rfl, rfl⟩
end Go.Proofs.Ytooafmifbplbhaa
