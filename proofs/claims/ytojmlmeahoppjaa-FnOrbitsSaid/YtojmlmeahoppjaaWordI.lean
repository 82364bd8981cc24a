/- ShortestWordTo of the program. Conditions: at most 1048576 lists of at most 1048576 numbers. -/
import Derived.Test.YtojmlmeahoppjaaStep
import Derived.Test.YtojmlmeahoppjaaWordS
import Derived.Deep.RegionLaw
namespace Go.Proofs.Ytojmlmeahoppjaa
open Go.RowKit

theorem meas_next {k n : Nat} (h : k < n) : n - (intOf (Value.int .i64 ((k : Int) + 1))).toNat < n - (intOf (Value.int .i64 (k : Int))).toNat := by simp [intOf]; omega
theorem wrap_neg1 (k : Nat) (h : k ≤ 1000) : IntKind.i64.wrap (-((k : Int) + 1)) = -((k : Int) + 1) := by rw [IntKind.wrap_i64]; omega
theorem wrap_pos1 (k : Nat) (h : k ≤ 1000) : IntKind.i64.wrap ((k : Int) + 1) = (k : Int) + 1 := by rw [IntKind.wrap_i64]; omega
theorem stps_next {gs : List (List Int)} {k l : Nat} {y : List Int} (ey : gs.getD k [] = y) (hy : y.length = l) : stps gs (k + 1) = stps gs k ++ [((k : Int) + 1, y), (-((k : Int) + 1), invL y l)] := by
  subst ey; subst hy; rfl

set_option maxHeartbeats 2000000 in
set_option maxRecDepth 100000 in
/-- stepsOf. -/
theorem implSteps (A : Option Addr) (n c N : Nat) (vs : List SV) (gs : List (List Int)) (w : World) (hx : RR w w.heap.size A n vs gs) (ok : Hid (∀ g ∈ gs, IsP g ∧ g.length = N)) (hN : N ≤ 20) (hn : n ≤ 8) :
    Calls Try.prog 60 #[.slice A n c] w fun e w' => ∃ A' m c' ds, e = .returned (.slice A' m c') ∧ m = 2 * n ∧ TT w' w'.heap.size A' m ds (stps gs n) ∧ Below w.heap.size w w' := by
  have HX := Lib.hid hx
  have hlx := hx.lx
  clear hx
  go_enter Try.func60, Try.ntmps60
  go_wp2
  go_loopw [3, 10] (fun v i wr => ∃ k m A' c' ds, k ≤ n ∧ m = 2 * k ∧ i = .int .i64 (k : Nat) ∧ v = .slice A' m c' ∧ TO wr w.heap.size w.heap.size A' m c' ds (stps gs k) ∧ Below w.heap.size w wr) (fun _ i _ => n - (intOf i).toNat)
  case atStart => exact ⟨0, 0, _, _, [], Nat.zero_le _, rfl, rfl, rfl, TO.nil_, Below.refl _ _⟩
  case round =>
    obtain ⟨k, m, A', c', ds, hk, hm, rfl, rfl, ss, bel⟩ := hrel
    have Ss := Lib.hid ss
    have Be := Lib.hid bel
    have Hm := Lib.hid hm
    have hm16 : m ≤ 16 := by omega
    have hwr := bel.size
    clear ss bel hm
    by_cases hlt : k < n
    · obtain ⟨b, off, A5, l, c5, y, rfl, hb, ev, ey, hc0, hr0, hy, hlc⟩ := HX.out.at_ hlt
      have hok := ok.out y (by rw [← ey]; exact getD_memL (by rw [hlx]; exact hlt))
      have hl : l = N := by rw [← hy]; exact hok.2
      subst hl
      have Ip := Lib.hid hok.1
      have Hy : Hid (y.length = l) := Lib.hid hy
      have c1 := (Be.out.cell (p := ⟨b, off + k, none⟩) hb).trans hc0
      have R0 := Lib.hid (hr0.below Be.out (Nat.le_refl _))
      have Sn : Hid (stps gs (k + 1) = stps gs k ++ [((k : Int) + 1, y), (-((k : Int) + 1), invL y l)]) := Lib.hid (stps_next ey hy)
      have wk := wrap_pos1 k (by omega)
      have wk2 := wrap_neg1 k (by omega)
      clear ev ey hc0 hr0 hy hok
      go_wp2_with fail
      refine (implInv A5 c5 l y wr (R0.out.more hwr) Hy Ip hN).mono ?_
      rintro e w3 ⟨A3, c3, rfl, s3, b3⟩
      have S3 := Lib.hid (s3.mono hwr)
      have Ss3 := Lib.hid (Ss.out.up b3 hwr)
      have Be3 : Hid (Below w.heap.size w w3) := Lib.hid (btr Be.out b3)
      have R3 := Lib.hid (R0.out.below b3 hwr)
      have hz3 := Be3.out.size
      clear s3 b3
      obtain ⟨W4, hW4⟩ : ∃ W4, w3.alloc (.cells #[.int .i64 ((k : Int) + 1), .slice A5 l c5, .int .i64 (-((k : Int) + 1)), .slice A3 l c3] 89) = W4 := ⟨_, rfl⟩
      have HW4 := Lib.hid hW4
      have b4 : Below w3.heap.size w3 W4 := by rw [← hW4]; exact (Below.refl _ w3).alloc (Nat.le_refl _) _
      have Hc4 : Hid (∀ j, j < 4 → W4.cell? ⟨w3.heap.size, j, none⟩ = (fl [((k : Int) + 1, ((A5, l, c5) : SV)), (-((k : Int) + 1), ((A3, l, c3) : SV))])[j]?) := Lib.hid fun j hj => by
        rw [← hW4, (Blk.new w3 _ _).cell j]; simp [fl, sval]
      have Hf4 : Hid (∀ j, j < 2 → (([((k : Int) + 1, ((A5, l, c5) : SV)), (-((k : Int) + 1), ((A3, l, c3) : SV))] : List PV).getD j pd0).1 = (([((k : Int) + 1, y), (-((k : Int) + 1), invL y l)] : List Stp).getD j (0, [])).1) := Lib.hid fun j hj => by
        match j, hj with
        | 0, _ => rfl
        | 1, _ => rfl
      have Hr4 : Hid (∀ j, j < 2 → RK W4 w.heap.size w.heap.size (([((k : Int) + 1, ((A5, l, c5) : SV)), (-((k : Int) + 1), ((A3, l, c3) : SV))] : List PV).getD j pd0).2 (([((k : Int) + 1, y), (-((k : Int) + 1), invL y l)] : List Stp).getD j (0, [])).2) := Lib.hid fun j hj => by
        match j, hj with
        | 0, _ => exact ⟨Hy.out, .inl (R3.out.below b4 hz3)⟩
        | 1, _ => exact ⟨S3.out.1, .inr (S3.out.up b4)⟩
      have Ss4 := Lib.hid (Ss3.out.up b4 hz3)
      have Be4 : Hid (Below w.heap.size w W4) := Lib.hid (btr Be3.out b4)
      have hz4 := Be4.out.size
      clear b4 hW4
      go_wp2_with (at_builtin; go_must (rw [HW4.out]; refine wpList_appT rfl (.tmp 18) (.tmp 27) rfl rfl Ss4.out w3.heap.size [((k : Int) + 1, ((A5, l, c5) : SV)), (-((k : Int) + 1), ((A3, l, c3) : SV))] [((k : Int) + 1, y), (-((k : Int) + 1), invL y l)] rfl rfl rfl Hc4.out Hf4.out Hr4.out (Nat.le_refl _) (by omega) hz4 ?_; intro A5' c5' w5 s5 g5))
      have S5 : Hid (TO w5 w.heap.size w.heap.size A5' (m + 2) c5' (ds ++ [((k : Int) + 1, ((A5, l, c5) : SV)), (-((k : Int) + 1), ((A3, l, c3) : SV))]) (stps gs (k + 1))) := Lib.hid (by rw [Sn.out]; exact s5)
      have B5 : Hid (Below w.heap.size w w5) := Lib.hid (Be4.out.grown g5 hz4 (fun q hq => (World.ownsRow.lt Ss4.out.own q hq).1))
      have Hm2 : Hid (m + 2 = 2 * (k + 1)) := Lib.hid (by rw [Hm.out, Nat.mul_succ])
      clear s5 g5
      go_wp2_with fail
      refine ⟨⟨k + 1, m + 2, _, _, _, hlt, Hm2.out, by go_num, rfl, S5.out, B5.out⟩, ?_⟩
      exact meas_next hlt
    · have hkn : k = n := by omega
      subst hkn
      go_wp2
      go_ret
      exact ⟨_, _, _, _, rfl, Hm.out, Ss.out.tt hwr, Be.out⟩
end Go.Proofs.Ytojmlmeahoppjaa
