/- Part 4 of the texts: ChY, RkB, RkA, Stb, StbS, RkL, Supp, Cyc, All, TypM, CycS, RkT, RkN, RkR, Sz2, Hel4. No condition of its own: each text tells its own. -/
import Derived.Test.YtonanelghnjhpaaMg3
import Derived.Test.YtonanelghnjhpaaMg1
import Derived.Test.YtonanelghnjhpaaMg2
import Derived.Deep.Upon
import Derived.Deep.LoopGhost
set_option linter.unusedVariables false
set_option linter.unusedSimpArgs false

/- IsMember, LongestMemberPrefix and SameGroup of the model: what they answer. Conditions: at most 1048576 lists of at most 1048576 numbers. -/
namespace Go.Proofs.Ytonanelghnjhpaa
open Go.RowKit

/-- p's first k entries are those of a member, and no more of them are. -/
def LmpOK (N : Nat) (gs : List (List Int)) (p : List Int) (k : Nat) : Prop := k ≤ N ∧ (∃ q, Mb gs N q ∧ ∀ t, t < k → nx q t = nx p t) ∧ (k < N → ¬ ∃ q, Mb gs N q ∧ ∀ t, t ≤ k → nx q t = nx p t)
theorem LmpOK.uniq {N k k' : Nat} {gs : List (List Int)} {p : List Int} (h : LmpOK N gs p k) (h' : LmpOK N gs p k') : k = k' := by
  obtain ⟨a, ⟨q, hq, hq2⟩, b⟩ := h
  obtain ⟨a', ⟨q', hq', hq2'⟩, b'⟩ := h'
  rcases Nat.lt_trichotomy k k' with hl | hl | hl
  · exact absurd ⟨q', hq', fun t ht => hq2' t (by omega)⟩ (b (by omega))
  · exact hl
  · exact absurd ⟨q, hq, fun t ht => hq2 t (by omega)⟩ (b' (by omega))
/-- What LongestMemberPrefix answers. -/
def IsLmp (a : Int) (gs : List (List Int)) (p : List Int) (v : Int) : Prop :=
  (gB a gs = true ∧ (p.length : Int) = a ∧ isP p = true ∧ ∃ k : Nat, v = k ∧ LmpOK a.toNat gs p k) ∨ (¬ (gB a gs = true ∧ (p.length : Int) = a ∧ isP p = true) ∧ v = -1)
theorem IsLmp.uniq {a v v' : Int} {gs : List (List Int)} {p : List Int} (h : IsLmp a gs p v) (h' : IsLmp a gs p v') : v = v' := by
  rcases h with ⟨e1, e2, e3, k, rfl, h⟩ | ⟨e, rfl⟩ <;> rcases h' with ⟨e1', e2', e3', k', rfl, h'⟩ | ⟨e', rfl⟩
  · rw [h.uniq h']
  · exact absurd ⟨e1, e2, e3⟩ e'
  · exact absurd ⟨e1', e2', e3'⟩ e
  · rfl
/-- The two lists generate the same group. -/
def SameG (a : Int) (xs ys : List (List Int)) : Prop := gB a xs = true ∧ gB a ys = true ∧ (∀ g ∈ ys, Mb xs a.toNat g) ∧ ∀ g ∈ xs, Mb ys a.toNat g

theorem bool_of (P : Prop) : ∃ b : Bool, b = true ↔ P := by
  rcases Classical.em P with h | h
  · exact ⟨true, fun _ => h, fun _ => rfl⟩
  · exact ⟨false, fun e => (by cases e), fun e => absurd e h⟩
section
variable (a : Int) (A : Option Addr) (n c : Nat) (vs : List SV) (xss : List (List Int)) (w : World)
theorem specIsPB (N : Nat) (xs : List Int) (ans : Bool) (hx : RI w w.heap.size A xs) (lx : Hid (xs.length = n)) (hn : n ≤ 2097152) (hnc : n ≤ c) (ha : Hid (isP xs = ans)) :
    Calls Try.prog 90 #[.slice A n c] w fun e w' => e = .returned (.bool ans) ∧ Below w.heap.size w w' :=
  (quiet_below (specIsP A c n xs w hx lx hn hnc)).mono fun e w' ⟨he, hb⟩ => ⟨he.trans (ret_bool ha.out), hb⟩
set_option maxHeartbeats 1000000 in
theorem specIsPOf (N : Nat) (xs : List Int) (ans : Bool) (hx : RI w w.heap.size A xs) (lx : Hid (xs.length = n)) (hn : n ≤ 2097152) (hnc : n ≤ c) (ha : Hid ((decide (n = N) && isP xs) = ans)) :
    Calls Try.prog 92 #[.int .i64 (N : Nat), .slice A n c] w fun e w' => e = .returned (.bool ans) ∧ Below w.heap.size w w' := by
  have HX := Lib.hid hx
  clear hx
  by_cases e1 : n = N
  · subst e1
    have e0 : ((n : Int) == (n : Int)) = true := by simp
    have h1 : Hid (isP xs = ans) := Lib.hid (by rw [← ha.out]; simp)
    go_enter Try.func92, Try.ntmps92
    go_wp2_with (first | (go_at_call 90; refine (specIsPB A n c w n xs ans HX.out lx hn hnc h1).mono ?_; rintro e w1 ⟨rfl, b1⟩))
    go_ret
    exact ⟨rfl, b1⟩
  · have e0 : ((n : Int) == (N : Int)) = false := by simp; omega
    have h1 : Hid (ans = false) := Lib.hid (by rw [← ha.out]; simp [e1])
    go_enter Try.func92, Try.ntmps92
    go_wp2_with fail
    go_ret
    exact ⟨ret_bool h1.out.symm, Below.refl _ _⟩

end
end Go.Proofs.Ytonanelghnjhpaa

/- countBelow of the model: how many members precede a permutation. Conditions: at most 20 points, 8 generators. -/
namespace Go.Proofs.Ytonanelghnjhpaa
open Go.RowKit

theorem first_ge (zs : List Int) (v : Int) : ∃ K, K ≤ zs.length ∧ (∀ j, j < K → zs.getD j 0 < v) ∧ (K < zs.length → v ≤ zs.getD K 0) := by
  have h : ∀ n, n ≤ zs.length → (∀ j, j < n → zs.getD j 0 < v) ∨ ∃ K, K < n ∧ (∀ j, j < K → zs.getD j 0 < v) ∧ v ≤ zs.getD K 0 := fun n => by
    induction n with
    | zero => exact fun _ => .inl fun j h => absurd h (Nat.not_lt_zero _)
    | succ n ih =>
      intro hn
      rcases ih (by omega) with h | ⟨K, a, b, d⟩
      · by_cases e : zs.getD n 0 < v
        · exact .inl fun j hj => by
            by_cases e2 : j = n
            · subst e2; exact e
            · exact h j (by omega)
        · exact .inr ⟨n, by omega, h, by omega⟩
      · exact .inr ⟨K, by omega, b, d⟩
  rcases h zs.length (Nat.le_refl _) with h | ⟨K, a, b, d⟩
  · exact ⟨zs.length, Nat.le_refl _, h, fun h => absurd h (Nat.lt_irrefl _)⟩
  · exact ⟨K, by omega, b, fun _ => d⟩
/-- The order of a group of at most 20 points. -/
theorem IsOS.ordB {N : Nat} {gs : List (List Int)} {xs : List Int} (h : IsOS N gs xs) (hg : ∀ g ∈ gs, Pn N g) (h1 : 1 ≤ N) (h2 : N ≤ 20) : ∃ V, Crd (Mb gs N) V ∧ prodL xs = (V : Int) ∧ V ≤ 2432902008176640000 := by
  obtain ⟨V, hV, e⟩ := h.order hg h1 h2
  have := h.pr_le hg h1 h2 0 N (by omega)
  have hf := facts_le h2 (0 + N) (by omega)
  rw [prodL_pr, h.1] at e
  exact ⟨V, hV, by rw [prodL_pr, h.1]; exact e, by omega⟩

set_option maxHeartbeats 8000000 in
set_option maxRecDepth 100000 in
theorem specCountBelow (base g N cp : Nat) (P : Option Addr) (c : Ch) (L : LY) (gs : List (List Int)) (p : List Int) (w : World) (hc : Cn w base g N c L) (hw : Whole N gs c) (hg : Hid (∀ g ∈ gs, Pn N g)) (hp : RI w w.heap.size P p) (hP : Hid (Pn N p)) (hN1 : 1 ≤ N) (hN : N ≤ 20) :
    Calls Try.prog 93 #[.pointer (some ⟨g, 0, none⟩), .slice P N cp] w fun e w' => ∃ (T : Nat) (ok : Bool), e = .returned (.tuple #[.int .i64 (T : Nat), .bool ok]) ∧ Rk N gs p T ∧ (ok = true ↔ Mb gs N p) ∧ Below w.heap.size w w' := by
  have HC := Lib.hid hc
  have HW := Lib.hid hw
  have HP := Lib.hid hp
  have Os := Lib.hid (hw.os hN1 hN)
  obtain ⟨V, hV, _, hVb⟩ := (hw.os hN1 hN).ordB hg.out hN1 hN
  rename_i hVe
  clear hVe
  have HV := Lib.hid hV
  have x0 := hc.c0
  clear hc hw hp hV x0
  go_enter Try.func93, Try.ntmps93
  go_wp2_with fail
  refine (specMpc base g N c L gs w HC.out HW.out hg hN1 hN).mono ?_
  rintro e w1 ⟨A1, c1, cs, rfl, s1, hcs, b1⟩
  have S1 := Lib.hid s1
  have Cs := Lib.hid hcs
  have C1 := Lib.hid (HC.out.up b1)
  have P1 := Lib.hid (HP.out.up b1)
  have B1 := Lib.hid b1
  have x0 := C1.out.c0
  clear s1 hcs b1
  go_wp2_with fail
  refine (specIdent N w1 (by omega)).mono ?_
  rintro e w2 ⟨A2, c2, rfl, s2, b2⟩
  have S2 := Lib.hid s2
  have B2 := Lib.hid b2
  clear s2 b2 x0
  go_wp2_with fail
  go_loopw [7, 8, 9] (fun v t i wr => ∃ (k cc T : Nat) (M : Option Addr) (m : List Int), k ≤ N ∧ i = .int .i64 (k : Nat) ∧ v = .slice M N cc ∧ t = .int .i64 (T : Nat) ∧ Slc wr w1.heap.size M N cc m ∧ Mb gs N m ∧ Ag k m p ∧ Crd (fun q => Mb gs N q ∧ LxI k q p) T ∧ Below w1.heap.size w1 wr) (fun _ _ i _ => N - (intOf i).toNat)
  case atStart => exact ⟨0, _, 0, _, _, Nat.zero_le _, rfl, rfl, rfl, S2.out, .one, fun t ht => absurd ht (by omega), crd_none fun x h => (by obtain ⟨_, t, ht, _⟩ := h; exact absurd ht (Nat.not_lt_zero _)), B2.out⟩
  case round =>
    clear S2 B2
    obtain ⟨k, cc, T, M, m, hk, rfl, rfl, rfl, hs, hmb, hag, hT, bel⟩ := hrel
    have Ss := Lib.hid hs
    have Mb1 := Lib.hid hmb
    have Ag1 := Lib.hid hag
    have HT := Lib.hid hT
    have Be := Lib.hid bel
    have C5 := Lib.hid (C1.out.up bel)
    have x0 := C5.out.c0
    have MP : Hid (Pn N m) := Lib.hid (hmb.pn hg.out hN1 hN)
    clear hs hmb hag hT bel
    by_cases hlt : k < N
    · obtain ⟨b, off, rfl, hb, hcell⟩ := P1.out (by rw [hP.out.2]; omega)
      have x6 := hcell k (by rw [hP.out.2]; exact hlt)
      rw [nx_val hP.out.1 (by rw [hP.out.2]; exact hlt)] at x6
      obtain ⟨v, ev⟩ : ∃ v, nx p k = v := ⟨_, rfl⟩
      rw [ev] at x6
      have Ev := Lib.hid ev
      have q1 : (0 : Int) ≤ k := by omega
      have q2 : (k : Int) < N := by omega
      have Hb := Lib.hid hb
      have X6 := Lib.hid x6
      clear hb hcell ev x6
      go_wp2_with fail
      refine (specChoices base g N k cc M c L gs m wr C5.out HW.out Ss.out.ri_ MP hlt).mono ?_
      rintro e w5 ⟨g2, m2, c2, zs, rfl, s5, p5, o5, b5⟩
      have Chl : Hid (ChL N gs m k zs) := Lib.hid (chL_ok HW.out hN1 hN hg.out hlt Mb1.out p5 o5)
      have Lz : Hid (zs.length = m2) := Lib.hid s5.1
      have S5 := Lib.hid s5
      have Ss5 := Lib.hid (Ss.out.up b5)
      have Be5 : Hid (Below w1.heap.size w1 w5) := Lib.hid (btr Be.out b5)
      have hm2 : m2 ≤ 20 := by rw [← s5.1, p5.length_eq]; have := chL_len c k m N; omega
      clear s5 p5 o5 b5 x0
      obtain ⟨K, hK1, hK2, hK3⟩ := first_ge zs (v : Int)
      obtain ⟨cn, hcn, hT2⟩ := rank_step Chl.out Os.out hg.out hN1 hN hlt Mb1.out Ag1.out hK1 (by rw [Ev.out]; exact hK2) (by rw [Ev.out]; exact hK3) HT.out
      have hTV : T + K * cn ≤ V := crd_sub hT2 HV.out fun x hx => hx.1
      have HT2 := Lib.hid hT2
      have HK2 := Lib.hid hK2
      have HK3 := Lib.hid hK3
      have xc := (C1.out.up Be5.out).c0
      obtain ⟨cb, co, rfl, hcb, hcc⟩ := S1.out.ri_ (by rw [S1.out.1]; omega)
      have xcn := hcc k (by rw [S1.out.1]; exact hlt)
      rw [Cs.out k hlt, hcn] at xcn
      have x7 : w5.cell? ⟨b, off + k, none⟩ = some (.int .i64 (v : Nat)) := (Be5.out.cell (p := ⟨b, off + k, none⟩) Hb.out).trans X6.out
      have x8 : w5.cell? ⟨cb, co + k, none⟩ = some (.int .i64 (cn : Nat)) := (Be5.out.cell (p := ⟨cb, co + k, none⟩) hcb).trans xcn
      have Xc := Lib.hid xc
      rw [Lz.out] at hK1
      clear hT2 hK2 hK3 hcn hcb hcc xcn xc
      go_wp2_with fail
      obtain ⟨wl, rfl⟩ : ∃ wl, wl = wr := ⟨_, rfl⟩
      go_loopg [8, 11] K (fun gg t j wr => ∃ (kk d : Nat), kk ≤ K ∧ K - kk ≤ gg ∧ j = .int .i64 (kk : Nat) ∧ t = .int .i64 ((T + kk * cn : Nat)) ∧ wr = w5.drewN d)
      case atStart => exact ⟨0, 0, Nat.zero_le _, by omega, rfl, by rw [Nat.zero_mul, Nat.add_zero], rfl⟩
      case round =>
        obtain ⟨kk, d, hkk, hgk, rfl, rfl, rfl⟩ := hrel
        have z0 : (0 : Int) ≤ kk := by omega
        by_cases hl : kk < K
        · obtain ⟨s, hs⟩ : ∃ s, T + kk * cn = s := ⟨_, rfl⟩
          have h7 : T + (kk + 1) * cn = s + cn := by rw [Nat.succ_mul, ← hs]; omega
          have h8 : T + (kk + 1) * cn ≤ T + K * cn := Nat.add_le_add_left (Nat.mul_le_mul_right cn hl) T
          have hws : IntKind.i64.wrap ((s : Int) + (cn : Int)) = ((s + cn : Nat) : Int) := by rw [IntKind.wrap_i64]; omega
          obtain ⟨zb, zo, ez, hzb, hzc⟩ := S5.out.ri_ (by rw [Lz.out]; omega)
          have x9 := hzc kk (by rw [Lz.out]; omega)
          have ez2 : (some ⟨g2, 0, none⟩ : Option Addr) = some ⟨zb, zo, none⟩ := ez
          injection ez2 with ez2
          injection ez2 with e1 e2 _
          subst e1 e2
          rw [Nat.zero_add] at x9
          have hz := HK2.out kk hl
          obtain ⟨y, hy⟩ : ∃ y, zs.getD kk 0 = y := ⟨_, rfl⟩
          rw [hy] at x9 hz
          have d1 : decide ((kk : Int) < (m2 : Int)) = true := by simp; omega
          have d2 : decide (kk < m2) = true := by simp; omega
          have d3 : decide (y < (v : Int)) = true := decide_eq_true hz
          have z1 : (kk : Int) < m2 := by omega
          have H7 := Lib.hid h7
          rw [hs]
          clear hy hzb hzc ez hz hs h8 h7
          go_wp2
          go_quiet (fail)
          go_wp2
          go_roundg (K - (kk + 1))
          case rel => exact ⟨kk + 1, _, by omega, by omega, by go_num, by rw [H7.out]; simp, rfl⟩
          case measure => omega
        · obtain rfl : kk = K := by omega
          clear hl hkk
          obtain ⟨tot, htot⟩ : ∃ t, T + kk * cn = t := ⟨_, rfl⟩
          rw [htot]
          have Rt : Hid (Crd (fun q => Mb gs N q ∧ LxI (k + 1) q p) tot) := Lib.hid (by rw [← htot]; exact HT2.out)
          have C6 := Lib.hid (C1.out.up Be5.out)
          have B5 : Hid (Below w.heap.size w w5) := Lib.hid (btr B1.out Be5.out)
          obtain ⟨ans, hans⟩ : ∃ ans, hasB zs (v : Int) = ans := ⟨_, rfl⟩
          have Ha := Lib.hid hans
          have Hin : Hid (ans = true ↔ (v : Int) ∈ zs) := Lib.hid (by rw [← hans, hasB_in, decide_eq_true_eq])
          clear htot hans hgk
          rcases ans with _ | _
          · skip
            by_cases hKm : kk < m2
            case' pos =>
              obtain ⟨zb, zo, ez, hzb, hzc⟩ := S5.out.ri_ (by rw [Lz.out]; omega)
              have x9 := hzc kk (by rw [Lz.out]; omega)
              have ez2 : (some ⟨g2, 0, none⟩ : Option Addr) = some ⟨zb, zo, none⟩ := ez
              injection ez2 with ez2
              injection ez2 with e1 e2 _
              subst e1 e2
              rw [Nat.zero_add] at x9
              have hz := HK3.out (by rw [Lz.out]; exact hKm)
              obtain ⟨y, hy⟩ : ∃ y, zs.getD kk 0 = y := ⟨_, rfl⟩
              rw [hy] at x9 hz
              have d1 : decide ((kk : Int) < (m2 : Int)) = true := by simp; omega
              have d2 : decide (kk < m2) = true := by simp; omega
              have d3 : decide (y < (v : Int)) = false := decide_eq_false (by omega)
              have z1 : (kk : Int) < m2 := by omega
              clear hy hzb hzc ez hz hKm
              go_wp2
              go_quiet (fail)
              go_wp2_with (first | (go_at_call 120; refine (containsI_any _ c2 m2 zs (v : Int) _ w5.heap.size (RI.drewN S5.out.ri_ _) Lz (by omega) false Ha).mono ?_; rintro e w' ⟨rfl, rfl⟩))
            case' neg =>
              have d1 : decide ((kk : Int) < (m2 : Int)) = false := by simp; omega
              have d2 : decide (kk < m2) = false := by simp; omega
              clear hKm
              go_wp2
              go_quiet (fail)
              go_wp2_with (first | (go_at_call 120; refine (containsI_any _ c2 m2 zs (v : Int) _ w5.heap.size (RI.drewN S5.out.ri_ _) Lz (by omega) false Ha).mono ?_; rintro e w' ⟨rfl, rfl⟩))
            all_goals
              have hno : ¬ (v : Int) ∈ zs := fun h => by have := Hin.out.2 h; cases this
              have Fin : Hid (Rk N gs p tot) := Lib.hid (rank_stop Chl.out hlt Ag1.out (by rw [Ev.out]; exact hno) Rt.out)
              have Nm : Hid (¬ Mb gs N p) := Lib.hid fun hm => hno ((Chl.out.2 _).2 ⟨p, hm, Ag1.out.symm, by rw [Ev.out]⟩)
              clear hno
              go_wp2_with fail
              go_ret2
              exact ⟨tot, false, rfl, Fin.out, ⟨fun h => (by cases h), fun h => absurd h Nm.out⟩, bdr B5.out _⟩
          · skip
            by_cases hKm : kk < m2
            case' pos =>
              obtain ⟨zb, zo, ez, hzb, hzc⟩ := S5.out.ri_ (by rw [Lz.out]; omega)
              have x9 := hzc kk (by rw [Lz.out]; omega)
              have ez2 : (some ⟨g2, 0, none⟩ : Option Addr) = some ⟨zb, zo, none⟩ := ez
              injection ez2 with ez2
              injection ez2 with e1 e2 _
              subst e1 e2
              rw [Nat.zero_add] at x9
              have hz := HK3.out (by rw [Lz.out]; exact hKm)
              obtain ⟨y, hy⟩ : ∃ y, zs.getD kk 0 = y := ⟨_, rfl⟩
              rw [hy] at x9 hz
              have d1 : decide ((kk : Int) < (m2 : Int)) = true := by simp; omega
              have d2 : decide (kk < m2) = true := by simp; omega
              have d3 : decide (y < (v : Int)) = false := decide_eq_false (by omega)
              have z1 : (kk : Int) < m2 := by omega
              clear hy hzb hzc ez hz hKm
              go_wp2
              go_quiet (fail)
              go_wp2_with (first | (go_at_call 120; refine (containsI_any _ c2 m2 zs (v : Int) _ w5.heap.size (RI.drewN S5.out.ri_ _) Lz (by omega) true Ha).mono ?_; rintro e w' ⟨rfl, rfl⟩))
            case' neg =>
              have d1 : decide ((kk : Int) < (m2 : Int)) = false := by simp; omega
              have d2 : decide (kk < m2) = false := by simp; omega
              clear hKm
              go_wp2
              go_quiet (fail)
              go_wp2_with (first | (go_at_call 120; refine (containsI_any _ c2 m2 zs (v : Int) _ w5.heap.size (RI.drewN S5.out.ri_ _) Lz (by omega) true Ha).mono ?_; rintro e w' ⟨rfl, rfl⟩))
            all_goals
              obtain ⟨q, hq, hqa, hqv⟩ := (Chl.out.2 _).1 (Hin.out.1 (by trivial))
              obtain ⟨y, hy, hr, hmy⟩ := chL_mem.1 ((HW.out.choice hN1 hN hg.out hlt Mb1.out).2 ⟨q, hq, hqa, hqv⟩)
              have hmy2 : nx m y = v := by omega
              obtain ⟨a1, a2, a3, _⟩ := HW.out.rep_mb hN1 hN hlt hr
              have Rp : Hid (Pn N (c.rep k y)) := Lib.hid (a1.pn hg.out hN1 hN)
              have Hmy := Lib.hid hmy2
              have Mb2 : Hid (Mb gs N (compL (c.rep k y) m)) := Lib.hid (a1.comp hg.out hN1 hN Mb1.out)
              have Ag2 : Hid (Ag (k + 1) (compL (c.rep k y) m) p) := Lib.hid fun t ht => by
                rw [Rp.out.nxc (by omega)]
                rcases Nat.lt_or_ge t k with hl | hl
                · rw [a2 t hl, Ag1.out t hl]
                · obtain rfl : t = k := by omega
                  rw [a3, Hmy.out, Ev.out]
              clear hr hmy hmy2 a1 a2 a3 hq hqa hqv
              go_wp2_with fail
              refine (specWithEntry base g N k v y cc M c L m _ (C6.out.up (drewN_below _ _)) (RI.drewN Ss5.out.ri_ _) MP hlt hy Hmy Rp).mono ?_
              rintro e w6 ⟨A6, c6, rfl, s6, b6⟩
              have S6 : Hid (Slc w6 w1.heap.size A6 N c6 (compL (c.rep k y) m)) := Lib.hid (s6.mono Be5.out.size)
              have B6 : Hid (Below w1.heap.size w1 w6) := Lib.hid (btr (bdr Be5.out _) b6)
              clear s6 b6
              go_wp2_with fail
              go_roundw
              case rel => exact ⟨k + 1, _, tot, _, _, by omega, by go_num, rfl, rfl, S6.out, Mb2.out, Ag2.out, Rt.out, B6.out⟩
              case measure => simp [intOf]; omega
    · obtain rfl : k = N := by omega
      have Ep : Hid (m = p) := Lib.hid (MP.out.ext hP.out fun x hx => Ag1.out x hx)
      have B6 : Hid (Below w.heap.size w wr) := Lib.hid (btr B1.out Be.out)
      go_wp2_with fail
      go_ret2
      exact ⟨T, true, rfl, HT.out, ⟨fun _ => Ep.out ▸ Mb1.out, fun _ => rfl⟩, B6.out⟩
end Go.Proofs.Ytonanelghnjhpaa

/- MemberAt, Rank, NextMember, CountMembersBelow and FirstNonIdentity of the model. Conditions: at most 1048576 lists of at most 1048576 numbers. -/
namespace Go.Proofs.Ytonanelghnjhpaa
open Go.RowKit

theorem sorted_lo {zs : List Int} (h : zs.Pairwise (· < ·)) {i j : Nat} (hij : i < j) (hj : j < zs.length) : zs.getD i 0 < zs.getD j 0 := by
  have := List.pairwise_iff_getElem.1 h i j (by omega) hj hij
  rw [gdx' (by omega), gdx' hj]; exact this

set_option maxHeartbeats 4000000 in
set_option maxRecDepth 100000 in
theorem ctMat : CtImiP 28 IsMat := by
  intro a A n c vs xss k w hG ha hk64
  have HG := Lib.hid hG
  have hlx : Hid (xss.length = n) := Lib.hid hG.rr.lx
  clear hG
  go_enter Try.func28, Try.ntmps28
  go_wp2_with fail
  refine (specGS a A n c vs xss w HG.out.rr HG.out.hn (Lib.hid HG.out.hl) ha).mono ?_
  rintro e w1 ⟨rfl, b1⟩
  have B1 := Lib.hid b1
  have G1 := Lib.hid (HG.out.up b1)
  have hz1 := b1.size
  have S0 := Lib.hid (Slc.lit0 w1 w.heap.size hz1)
  clear b1
  rcases hs : gB a xss with _ | _
  · have Fin : Hid (IsMat a xss k [] false) := Lib.hid (.inr ⟨rfl, rfl, fun h => by rw [hs] at h; cases h⟩)
    clear hs
    go_wp2_with fail
    go_ret2
    exact ⟨_, _, _, _, _, rfl, S0.out, Fin.out, B1.out.alloc hz1 _⟩
  · obtain ⟨N, rfl, hN1, hN2, hg8, hpm, hok⟩ := gB_pm hs
    have Hs := Lib.hid hs
    have Ok : Hid (∀ g ∈ xss, Pn N g) := Lib.hid hok
    have hn8 : n ≤ 8 := by rw [← hlx.out]; exact hg8
    clear hs hpm hok hg8 S0
    go_wp2_with fail
    refine (specBuild N n c A vs xss w1 G1.out.rr hN1 hN2 hn8 Ok).mono ?_
    rintro e w2 ⟨g, L, ch, rfl, hc2, hw2, b2⟩
    have C2 := Lib.hid hc2
    have W2 := Lib.hid hw2
    have Os := Lib.hid (hw2.os hN1 hN2)
    have B2 : Hid (Below w.heap.size w w2) := Lib.hid (btr B1.out b2)
    obtain ⟨V, hV, eV, hVb⟩ := (hw2.os hN1 hN2).ordB Ok.out hN1 hN2
    have HV := Lib.hid hV
    have hV1 : 1 ≤ V := by
      have := crd_sub (crd_one (idL N)) hV fun x hx => by subst hx; exact .one
      exact this
    clear hc2 hw2 b2 hV
    go_wp2_with fail
    refine (specOrder w1.heap.size g N ch L xss w2 C2.out W2.out hN1 hN2).mono ?_
    rintro e w3 ⟨rfl, b3⟩
    have C3 := Lib.hid (C2.out.up b3)
    have B3 : Hid (Below w.heap.size w w3) := Lib.hid (btr B2.out b3)
    have hz3 := B3.out.size
    have S0 := Lib.hid (Slc.lit0 w3 w.heap.size hz3)
    rw [eV]
    have Ev := Lib.hid eV
    have hwV : IntKind.i64.wrap ((V : Int) - 1) = (V : Int) - 1 := by rw [IntKind.wrap_i64]; omega
    clear b3 eV
    by_cases hk : 0 ≤ k ∧ k ≤ (V : Int) - 1
    · obtain ⟨k0, rfl⟩ : ∃ k0 : Nat, k = (k0 : Int) := ⟨k.toNat, by omega⟩
      have hk0 : k0 < V := by omega
      clear hk S0
      go_wp2_with fail
      refine (inR_true _ _ _ _ (by omega) (by omega)).mono ?_
      rintro e w' ⟨rfl, rfl⟩
      clear hwV
      go_wp2_with fail
      refine (specMpc w1.heap.size g N ch L xss w3 C3.out W2.out Ok hN1 hN2).mono ?_
      rintro e w4 ⟨A4, c4, cs, rfl, s4, hcs, b4⟩
      have S4 := Lib.hid s4
      have Cs := Lib.hid hcs
      have C4 := Lib.hid (C3.out.up b4)
      have B4 : Hid (Below w.heap.size w w4) := Lib.hid (btr B3.out b4)
      clear s4 hcs b4
      go_wp2_with fail
      refine (specIdent N w4 (by omega)).mono ?_
      rintro e w5 ⟨A5, c5, rfl, s5, b5⟩
      have S5 := Lib.hid s5
      have B5 := Lib.hid b5
      have hk1 : (k0 : Int) < pr (osL N ch N) 0 (N - 0) := by
        have := Ev.out
        rw [prodL_pr, osL_len] at this
        rw [Nat.sub_zero, this]; omega
      clear s5 b5
      go_wp2_with fail
      go_loopw [2, 10, 11] (fun q v i wr => ∃ (i' cc kk T : Nat) (M : Option Addr) (m : List Int), i' ≤ N ∧ i = .int .i64 (i' : Nat) ∧ v = .slice M N cc ∧ q = .int .i64 (kk : Nat) ∧ Slc wr w4.heap.size M N cc m ∧ Mb xss N m ∧ Crd (fun q => Mb xss N q ∧ LxI i' q m) T ∧ T + kk = k0 ∧ (kk : Int) < pr (osL N ch N) i' (N - i') ∧ Below w4.heap.size w4 wr) (fun _ _ i _ => N - (intOf i).toNat)
      case atStart => exact ⟨0, _, k0, 0, _, _, Nat.zero_le _, rfl, rfl, rfl, S5.out, .one, crd_none fun x h => (by obtain ⟨_, t, ht, _⟩ := h; exact absurd ht (Nat.not_lt_zero _)), by omega, hk1, B5.out⟩
      case round =>
        clear S5 B5 hk1
        obtain ⟨i, cc, kk, T, M, m, hi, rfl, rfl, rfl, hsl, hmb, hT, hTk, hkp, bel⟩ := hrel
        have Ss := Lib.hid hsl
        have Mb1 := Lib.hid hmb
        have HT := Lib.hid hT
        have Be := Lib.hid bel
        have C6 := Lib.hid (C4.out.up bel)
        have MP : Hid (Pn N m) := Lib.hid (hmb.pn Ok.out hN1 hN2)
        have HTk := Lib.hid hTk
        have Hkp := Lib.hid hkp
        clear hsl hmb hT bel hTk hkp
        by_cases hlt : i < N
        · have q1 : (0 : Int) ≤ i := by omega
          have q2 : (i : Int) < N := by omega
          go_wp2_with fail
          refine (specChoices w1.heap.size g N i cc M ch L xss m wr C6.out W2.out Ss.out.ri_ MP hlt).mono ?_
          rintro e w7 ⟨g2, m2, c2, zs, rfl, s7, p7, o7, b7⟩
          have chl : ChL N xss m i zs := chL_ok W2.out hN1 hN2 Ok.out hlt Mb1.out p7 o7
          have Chl := Lib.hid chl
          have Lz : Hid (zs.length = m2) := Lib.hid s7.1
          have S7 := Lib.hid s7
          have Ss7 := Lib.hid (Ss.out.up b7)
          have C7 := Lib.hid (C6.out.up b7)
          have Be7 : Hid (Below w4.heap.size w4 w7) := Lib.hid (btr Be.out b7)
          clear s7 p7 o7 b7
          obtain ⟨cn, _, hcn⟩ := agree_card Os.out Ok.out hN1 hN2 (i := i + 1) (by omega) Mb1.out
          have hbd := (Os.out.pr_le Ok.out hN1 hN2 (i + 1) (N - (i + 1)) (by omega)).1
          have hbu := (Os.out.pr_le Ok.out hN1 hN2 (i + 1) (N - (i + 1)) (by omega)).2
          have hbf := facts_le hN2 (i + 1 + (N - (i + 1))) (by omega)
          have hlen := chl.len Os.out Ok.out hN1 hN2 hlt Mb1.out
          have hfr : pr (osL N ch N) i (N - i) = (osL N ch N).getD i 0 * pr (osL N ch N) (i + 1) (N - (i + 1)) := by
            rw [show N - i = N - (i + 1) + 1 by omega, pr_front]
          rw [hcn] at hbd hfr hbu
          rw [← hlen, Lz.out] at hfr
          have hkm : kk < m2 * cn := by
            have := Hkp.out
            rw [hfr, ← Int.natCast_mul] at this
            omega
          obtain ⟨j, hj⟩ : ∃ j, kk / cn = j := ⟨_, rfl⟩
          obtain ⟨r, hr⟩ : ∃ r, kk % cn = r := ⟨_, rfl⟩
          have hcn1 : 1 ≤ cn := by omega
          have hjm : j < m2 := by rw [← hj]; exact (Nat.div_lt_iff_lt_mul (by omega)).2 hkm
          have hrc : r < cn := by rw [← hr]; exact Nat.mod_lt _ (by omega)
          have hjr : j * cn + r = kk := by rw [← hj, ← hr, Nat.mul_comm]; exact Nat.div_add_mod kk cn
          have hkb : kk < 2432902008176640000 := by have := HTk.out; omega
          have hjb : j ≤ kk := by rw [← hj]; exact Nat.div_le_self _ _
          have e1 : (kk : Int).tdiv (cn : Int) = (j : Int) := by rw [← hj]; exact (Int.ofNat_tdiv kk cn).symm
          have e2 : (kk : Int).tmod (cn : Int) = (r : Int) := by rw [← hr]; exact (Int.ofNat_tmod kk cn).symm
          have w1' : IntKind.i64.wrap (j : Int) = (j : Int) := by rw [IntKind.wrap_i64]; omega
          have w2' : IntKind.i64.wrap (r : Int) = (r : Int) := by rw [IntKind.wrap_i64]; omega
          have hc0 : ¬ ((cn : Int) = 0) := by omega
          -- the entry
          obtain ⟨zb, zo, ez, hzb, hzc⟩ := S7.out.ri_ (by rw [Lz.out]; omega)
          have x9 := hzc j (by rw [Lz.out]; omega)
          have ez2 : (some ⟨g2, 0, none⟩ : Option Addr) = some ⟨zb, zo, none⟩ := ez
          injection ez2 with ez2
          injection ez2 with f1 f2 _
          subst f1 f2
          rw [Nat.zero_add] at x9
          have hzm : zs.getD j 0 ∈ zs := by rw [gdx' (by rw [Lz.out]; exact hjm)]; exact List.getElem_mem _
          obtain ⟨q, hq, hqa, hqv⟩ := (chl.2 _).1 hzm
          obtain ⟨v, hv⟩ : ∃ v, nx q i = v := ⟨_, rfl⟩
          rw [hv] at hqv
          obtain ⟨y, hy, hry, hmy⟩ := chL_mem.1 ((W2.out.choice hN1 hN2 Ok.out hlt Mb1.out).2 ⟨q, hq, hqa, rfl⟩)
          have hmy2 : nx m y = v := by omega
          obtain ⟨a1, a2, a3, _⟩ := W2.out.rep_mb hN1 hN2 hlt hry
          have Rp : Hid (Pn N (ch.rep i y)) := Lib.hid (a1.pn Ok.out hN1 hN2)
          have Hmy := Lib.hid hmy2
          have Mb2 : Hid (Mb xss N (compL (ch.rep i y) m)) := Lib.hid (a1.comp Ok.out hN1 hN2 Mb1.out)
          have hAg : Ag i (compL (ch.rep i y) m) m := fun t ht => by rw [Rp.out.nxc (by omega), a2 t ht]
          have hnv : nx (compL (ch.rep i y) m) i = v := by rw [Rp.out.nxc hlt, a3, Hmy.out]
          obtain ⟨cn', hcn', hT2⟩ := rank_step (K := j) (T := T) chl Os.out Ok.out hN1 hN2 hlt Mb1.out hAg.symm (by rw [Lz.out]; omega)
            (fun t ht => by rw [hnv, hqv]; exact sorted_lo chl.1 ht (by rw [Lz.out]; exact hjm)) (fun _ => by rw [hnv, hqv]; exact Int.le_refl _)
            (HT.out.congr fun q => by rw [lxi_ag hAg.symm])
          obtain rfl : cn' = cn := by omega
          have HT2 := Lib.hid hT2
          have Hfin : Hid (T + j * cn' + r = k0) := Lib.hid (by have := HTk.out; omega)
          have Hrc : Hid ((r : Int) < pr (osL N ch N) (i + 1) (N - (i + 1))) := Lib.hid (by rw [hcn]; omega)
          rw [← hqv] at x9
          obtain ⟨cb, co, rfl, hcb, hcc⟩ := S4.out.ri_ (by rw [S4.out.1]; omega)
          have xcn := hcc i (by rw [S4.out.1]; exact hlt)
          rw [Cs.out i hlt, hcn] at xcn
          have x8 : w7.cell? ⟨cb, co + i, none⟩ = some (.int .i64 (cn' : Nat)) := (Be7.out.cell (p := ⟨cb, co + i, none⟩) hcb).trans xcn
          have Hcb := Lib.hid hcb
          have Xcn := Lib.hid xcn
          have z0 : (0 : Int) ≤ j := by omega
          have z1 : (j : Int) < m2 := by omega
          clear hbd hbu hbf hlen hfr hkm hj hr hjr hkb hjb ez hzb hzc hzm hq hqa hqv hv hry hmy hmy2 a1 a2 a3 hAg hnv hT2 hcb hcc xcn hcn hcn' chl
          go_wp2_with fail
          refine (specWithEntry w1.heap.size g N i v y cc M ch L m w7 C7.out Ss7.out.ri_ MP hlt hy Hmy Rp).mono ?_
          rintro e w8 ⟨A8, c8, rfl, s8, b8⟩
          have S8 : Hid (Slc w8 w4.heap.size A8 N c8 (compL (ch.rep i y) m)) := Lib.hid (s8.mono Be7.out.size)
          have Be8 : Hid (Below w4.heap.size w4 w8) := Lib.hid (btr Be7.out b8)
          have x10 : w8.cell? ⟨cb, co + i, none⟩ = some (.int .i64 (cn' : Nat)) := (Be8.out.cell (p := ⟨cb, co + i, none⟩) Hcb.out).trans Xcn.out
          clear s8 b8
          go_wp2_with fail
          go_roundw
          case rel => exact ⟨i + 1, _, r, _, _, _, by omega, by go_num, rfl, rfl, S8.out, Mb2.out, HT2.out, Hfin.out, Hrc.out, Be8.out⟩
          case measure => simp [intOf]; omega
        · obtain rfl : i = N := by omega
          have Fin : Hid (IsMat (i : Int) xss (k0 : Int) m true) := Lib.hid (by
            have hk := Hkp.out
            rw [Nat.sub_self] at hk
            have hk' : (kk : Int) < 1 := hk
            have := HTk.out
            obtain rfl : T = k0 := by omega
            exact .inl ⟨Hs.out, rfl, by rw [Int.toNat_natCast]; exact Mb1.out, T, by rw [Int.toNat_natCast]; exact HT.out, rfl⟩)
          have B6 : Hid (Below w.heap.size w wr) := Lib.hid (btr B4.out Be.out)
          have S6 : Hid (Slc wr w.heap.size M i cc m) := Lib.hid (Ss.out.mono B4.out.size)
          go_wp2_with fail
          go_ret2
          exact ⟨_, _, _, _, _, rfl, S6.out, Fin.out, B6.out⟩
    · have Fin : Hid (IsMat (N : Int) xss k [] false) := Lib.hid (.inr ⟨rfl, rfl, fun _ q hq c hc => by
        rw [Int.toNat_natCast] at hq hc
        have := rk_ord hc HV.out hq
        omega⟩)
      go_wp2_with fail
      refine (inR_false _ _ _ _ (by omega)).mono ?_
      rintro e w' ⟨rfl, rfl⟩
      clear hwV
      go_wp2_with fail
      go_ret2
      exact ⟨_, _, _, _, _, rfl, S0.out, Fin.out, B3.out.alloc hz3 _⟩
end Go.Proofs.Ytonanelghnjhpaa

/- What StabilizerOrder answers; isPointSet and moveToFront of the model. Conditions: at most 20 points; lists of at most 1048576 numbers. -/
namespace Go.Proofs.Ytonanelghnjhpaa
open Go.RowKit

/-- A strictly increasing list of points. -/
def PtS (N : Nat) (pts : List Int) : Prop := pts.length ≤ N ∧ ∀ i, i < pts.length → 0 ≤ pts.getD i 0 ∧ pts.getD i 0 < N ∧ (0 < i → pts.getD (i - 1) 0 < pts.getD i 0)
/-- What StabilizerOrder answers: how many members fix the points. -/
def IsStb (a : Int) (gs : List (List Int)) (pts : List Int) (v : Int) : Prop :=
  (gB a gs = true ∧ PtS a.toNat pts ∧ ∃ c : Nat, Crd (fun p => Mb gs a.toNat p ∧ Fxs pts p) c ∧ v = (c : Int)) ∨ (¬ (gB a gs = true ∧ PtS a.toNat pts) ∧ v = 0)
theorem IsStb.uniq {a v v' : Int} {gs : List (List Int)} {pts : List Int} (h : IsStb a gs pts v) (h' : IsStb a gs pts v') : v = v' := by
  rcases h with ⟨e, f, c, hc, rfl⟩ | ⟨e, rfl⟩ <;> rcases h' with ⟨e', f', c', hc', rfl⟩ | ⟨e', rfl⟩
  · rw [hc.uniq hc']
  · exact absurd ⟨e, f⟩ e'
  · exact absurd ⟨e', f'⟩ e
  · rfl
section
variable {N : Nat} {pts : List Int}
theorem PtS.lt (h : PtS N pts) {i : Nat} : ∀ j, i < j → j < pts.length → pts.getD i 0 < pts.getD j 0
  | 0, hij, _ => absurd hij (Nat.not_lt_zero _)
  | j + 1, hij, hj => by
    have h1 := (h.2 (j + 1) hj).2.2 (Nat.succ_pos j)
    rw [Nat.add_sub_cancel] at h1
    by_cases e : i = j
    · rw [e]; exact h1
    · have := h.lt (i := i) j (by omega) (by omega)
      omega
theorem gdx {l : List Int} {i : Nat} (h : i < l.length) : l.getD i 0 = l[i] := by
  rw [List.getD_eq_getElem?_getD, List.getElem?_eq_getElem h]; rfl
theorem PtS.nodup (h : PtS N pts) : pts.Nodup := List.pairwise_iff_getElem.2 fun i j hi hj hij => by
  have := h.lt j hij hj
  rw [gdx hi, gdx hj] at this
  exact fun e => by rw [e] at this; omega
theorem PtS.mem (h : PtS N pts) {x : Int} (hx : x ∈ pts) : 0 ≤ x ∧ x < N := by
  obtain ⟨i, hi, rfl⟩ := List.mem_iff_getElem.1 hx
  have := h.2 i hi
  rw [gdx hi] at this
  exact ⟨this.1, this.2.1⟩
theorem hasB_mem {l : List Int} {x : Int} : hasB l x = true ↔ x ∈ l := by
  unfold hasB
  rw [decide_eq_true_eq, List.mem_iff_getElem]
  exact ⟨fun ⟨j, hj, e⟩ => ⟨j, hj, by rw [← gdx hj, e]⟩, fun ⟨j, hj, e⟩ => ⟨j, hj, by rw [gdx hj, e]⟩⟩
/-- The points in a new order: those of the list, then the others. -/
def mtf (pts : List Int) (k : Nat) : List Int := pts ++ ((List.range k).map Int.ofNat).filter fun x => !hasB pts x
theorem mtf_zero : mtf pts 0 = pts := by simp [mtf]
theorem mtf_yes {k : Nat} (h : hasB pts (k : Int) = true) : mtf pts (k + 1) = mtf pts k := by
  unfold mtf
  rw [List.range_succ, List.map_append, List.filter_append]
  simp [h]
theorem mtf_no {k : Nat} (h : hasB pts (k : Int) = false) : mtf pts (k + 1) = mtf pts k ++ [(k : Int)] := by
  unfold mtf
  rw [List.range_succ, List.map_append, List.filter_append]
  simp [h]
theorem mtf_le (k : Nat) : (mtf pts k).length ≤ pts.length + k := by
  unfold mtf
  rw [List.length_append]
  have := List.length_filter_le (fun x => !hasB pts x) ((List.range k).map Int.ofNat)
  simp at this ⊢; omega
theorem mtf_pre (k : Nat) {j : Nat} (hj : j < pts.length) : (mtf pts k).getD j 0 = pts.getD j 0 := getD_app _ _ _ _ hj
theorem PtS.mtf_mem (h : PtS N pts) (x : Int) : x ∈ mtf pts N ↔ 0 ≤ x ∧ x < N := by
  unfold mtf
  rw [List.mem_append, List.mem_filter, List.mem_map]
  constructor
  · rintro (hx | ⟨⟨i, hi, rfl⟩, _⟩)
    · exact h.mem hx
    · have := List.mem_range.1 hi
      exact ⟨Int.natCast_nonneg _, by show (i : Int) < N; omega⟩
  · rintro ⟨h0, h1⟩
    by_cases hx : x ∈ pts
    · exact .inl hx
    · refine .inr ⟨⟨x.toNat, List.mem_range.2 (by omega), by show ((x.toNat : Nat) : Int) = x; omega⟩, ?_⟩
      rw [Bool.not_eq_true', ← Bool.not_eq_true, hasB_mem]; exact hx
theorem PtS.mtf_nd (h : PtS N pts) : (mtf pts N).Nodup := by
  unfold mtf
  refine List.nodup_append.2 ⟨h.nodup, (nd_mapA List.nodup_range fun x _ y _ e => Int.ofNat.inj e).filter _, fun a ha b hb e => ?_⟩
  subst e
  have h2 := (List.mem_filter.1 hb).2
  rw [Bool.not_eq_true', ← Bool.not_eq_true, hasB_mem] at h2
  exact h2 ha
theorem PtS.mtf_pn (h : PtS N pts) (h1 : 1 ≤ N) (h2 : N ≤ 20) : Pn N (mtf pts N) := by
  have hr : ((List.range N).map Int.ofNat).Nodup := nd_mapA List.nodup_range fun x _ y _ e => Int.ofNat.inj e
  have hl : (mtf pts N).length = N := by
    have a := nd_subA (l := (List.range N).map Int.ofNat) h.mtf_nd fun x hx => by
      have := (h.mtf_mem x).1 hx
      exact List.mem_map.2 ⟨x.toNat, List.mem_range.2 (by omega), by show ((x.toNat : Nat) : Int) = x; omega⟩
    have b := nd_subA (l := mtf pts N) hr fun x hx => by
      obtain ⟨i, hi, rfl⟩ := List.mem_map.1 hx
      have := List.mem_range.1 hi
      exact (h.mtf_mem _).2 ⟨Int.natCast_nonneg _, by show (i : Int) < N; omega⟩
    simp at a b; omega
  have hm : ∀ i, i < (mtf pts N).length → 0 ≤ (mtf pts N).getD i 0 ∧ (mtf pts N).getD i 0 < N := fun i hi => by
    rw [gdx hi]; exact (h.mtf_mem _).1 (List.getElem_mem hi)
  refine ⟨⟨by omega, by omega, fun i hi => (hm i hi).1, fun i hi => by have := (hm i hi).2; omega, fun i j hi hj e => ?_⟩, hl⟩
  rw [gdx hi, gdx hj] at e
  have hp := List.pairwise_iff_getElem.1 h.mtf_nd
  rcases Nat.lt_trichotomy i j with hl | hl | hl
  · exact absurd e (hp i j hi hj hl)
  · exact hl
  · exact absurd e.symm (hp j i hj hi hl)
end

/-- append of nothing. -/
theorem wpList_app0 {w : World} {ops : Array Oper} {rest : List Oper} {o : Oper} {a : Act} {Q : Exit → Act → World → Prop} (hgd : o.guard = none) (s x : Operand)
    (ho : o.op = .call { callee := .builtin .append, args := #[s, x], argTypes := #[28, 28] })
    (b : Option Addr) (sl sc : Nat) (hle : sl ≤ sc) (hs : a.eval s = .slice b sl sc) (A : Option Addr) (c : Nat) (hx : a.eval x = .slice A 0 c)
    (h : wpList Try.prog ops Q rest (a.put o.dst (.slice b sl sc)) w) : wpList Try.prog ops Q (o :: rest) a w := by
  obtain ⟨i0, hi, hz0, hz1, hz2⟩ := info_parts infoI
  refine wpList_plain hgd fun _ hK => ?_
  have hr := run_append_nothing (P := Try.prog) w 28 28 o.type 2 i0 Try.underlying28 hi b sl sc hle (.slice A 0 c)
    ⟨.inl ⟨_, Try.underlying28⟩, fun w' => by cases A <;> rfl, by cases A <;> simp [Builtin.firstCells, loadCells, loadCellsFrom], by cases A <;> simp [Builtin.firstCells, loadCells, loadCellsFrom], by simp, fun u hu => by cases hu⟩
  unfold Oper.wp execOp
  simp only [ho, resolve, invoke, builtin, Sem.run_bind, Sem.run_pure, Result.andThen_ok, List.map_toArray, List.map_cons, List.map_nil, hs, hx, hr]
  exact hK _ _ h

/-- copyInts of whatever can be read. -/
theorem copyAny (A : Option Addr) (n c : Nat) (xs : List Int) (w : World) (h : RI w w.heap.size A xs) (lx : Hid (xs.length = n)) (hn : n ≤ 1000000) :
    Calls Try.prog 105 #[.slice A n c] w fun e w' => ∃ A' c', e = .returned (.slice A' n c') ∧ Slc w' w.heap.size A' n c' xs ∧ Below w.heap.size w w' := by
  by_cases h0 : 0 < n
  · obtain ⟨b, off, rfl, hb, hc⟩ := h (by rw [lx.out]; exact h0)
    exact copyRI b off n c xs w h lx.out hn
  · obtain rfl : n = 0 := by omega
    obtain rfl : xs = [] := List.length_eq_zero_iff.1 lx.out
    have H0 := Lib.hid (Slc.lit0 w w.heap.size (Nat.le_refl _))
    have B0 : Hid (Below w.heap.size w (w.alloc (.cells #[] 2))) := Lib.hid ((Below.refl _ w).alloc (Nat.le_refl _) _)
    clear h lx
    go_enter Try.func105, Try.ntmps105
    go_wp2_with (first | (at_builtin; refine wpList_app0 rfl _ _ rfl _ 0 0 (Nat.le_refl _) rfl A c rfl ?_))
    go_ret
    exact ⟨_, _, rfl, H0.out, B0.out⟩



end Go.Proofs.Ytonanelghnjhpaa

/- StabilizerOrder of the model. Conditions: at most 1048576 lists of at most 1048576 numbers. -/
namespace Go.Proofs.Ytonanelghnjhpaa
open Go.RowKit

theorem Whole.pr_le {N : Nat} {gs : List (List Int)} {c : Ch} (h : Whole N gs c) (h1 : 1 ≤ N) (k : Nat) : ∀ m, k + m ≤ N → 1 ≤ pr (osL N c N) k m ∧ pr (osL N c N) k m ≤ (facts N (k + m) : Int)
  | 0, hm => by
    have := facts_pos (N := N) (m := k) (by omega)
    exact ⟨Int.le_refl _, by show (1 : Int) ≤ (facts N (k + 0) : Int); rw [Nat.add_zero]; omega⟩
  | m + 1, hm => by
    obtain ⟨a, b⟩ := h.pr_le h1 k m (by omega)
    obtain ⟨d, e⟩ := h.nr_pos h1 (i := k + m) (by omega)
    have ex : pr (osL N c N) k (m + 1) = pr (osL N c N) k m * (nr N c (k + m) N : Int) := by
      show _ * (osL N c N).getD (k + m) 0 = _
      rw [osL_at (by omega)]
    rw [ex]
    refine ⟨?_, ?_⟩
    · have := Int.mul_le_mul a (show (1 : Int) ≤ (nr N c (k + m) N : Int) by omega) (by omega) (by omega)
      simpa using this
    · have := Int.mul_le_mul b (show (nr N c (k + m) N : Int) ≤ ((N - (k + m) : Nat) : Int) by omega) (by omega) (by omega)
      show _ ≤ ((facts N (k + m) * (N - (k + m)) : Nat) : Int)
      rw [Int.natCast_mul]; exact this
theorem take_cj {gs : List (List Int)} {o : List Int} {k : Nat} {y : List Int} (hk : k < gs.length) (ey : gs.getD k [] = y) : (gs.take (k + 1)).map (cj o) = (gs.take k).map (cj o) ++ [cj o y] := by
  rw [List.getD_eq_getElem?_getD, List.getElem?_eq_getElem hk] at ey
  have e' : gs[k] = y := ey
  rw [List.take_succ_eq_append_getElem hk, List.map_append, e']; rfl

/-- One slice more on a slice of slices of the call's own. -/
theorem SS.snocV {w w' : World} {base bi n c : Nat} {A : Option Addr} {vs : List SV} {xss : List (List Int)} {A' : Option Addr} {c' : Nat} {d : SV} {ys : List Int} (hss : SS w base bi A n c vs xss) (hys : Slc w bi d.1 d.2.1 d.2.2 ys)
    (hdis : ∀ i, i < n → (sval (vs.getD i sd0)).ownBlock = none ∨ (sval (vs.getD i sd0)).ownBlock ≠ (sval d).ownBlock) (hown : w'.ownsRow base 28 1 (.slice A' (n + 1) c') (n + 1) (vs.map sval ++ [sval d])) (hg : w.grownBy w' (Value.slice A n c).ownBlock) :
    SS w' base bi A' (n + 1) c' (vs ++ [d]) (xss ++ [ys]) := by
  refine ⟨?_, by simp [hss.lv], by simp [hss.lx], fun i hi' => ?_, fun i j hij hj => ?_⟩
  · rw [List.map_append]; exact hown
  · by_cases e : i < n
    · rw [getD_app _ _ _ _ (by rw [hss.lv]; exact e), getD_app _ _ _ _ (by rw [hss.lx]; exact e)]
      exact (hss.row i e).kept hg (apart_types (hss.row i e) hss.own)
    · obtain rfl : i = n := by omega
      rw [getD_snoc _ _ _ _ hss.lv.symm, getD_snoc _ _ _ _ hss.lx.symm]
      exact hys.kept hg (apart_types hys hss.own)
  · rw [getD_app _ _ _ i (by rw [hss.lv]; omega)]
    by_cases e : j < n
    · rw [getD_app _ _ _ j (by rw [hss.lv]; exact e)]; exact hss.dis i j hij e
    · obtain rfl : j = n := by omega
      rw [getD_snoc _ _ _ _ hss.lv.symm]
      exact hdis i hij
end Go.Proofs.Ytonanelghnjhpaa

/- All members, level by level, and Members of the model. Conditions: at most 1048576 lists of at most 1048576 numbers. -/
namespace Go.Proofs.Ytonanelghnjhpaa
open Go.RowKit

/-! ### levels -/
/-- One member for each way to begin with i entries, in order. -/
structure Lv (N : Nat) (gs : List (List Int)) (i : Nat) (l : List (List Int)) : Prop where
  srt : l.Pairwise (LxI i)
  mem : ∀ m ∈ l, Mb gs N m
  all : ∀ q, Mb gs N q → ∃ m ∈ l, Ag i q m
/-- What is there of the next level behind the first k of this one and the first j entries zs that the next one of it allows. -/
structure Pj (N : Nat) (gs : List (List Int)) (i : Nat) (l : List (List Int)) (k : Nat) (zs : List Int) (j : Nat) (L : List (List Int)) : Prop where
  srt : L.Pairwise (LxI (i + 1))
  mem : ∀ x ∈ L, Mb gs N x ∧ ((∃ t, t < k ∧ Ag i x (l.getD t [])) ∨ (Ag i x (l.getD k []) ∧ ∃ u, u < j ∧ (nx x i : Int) = zs.getD u 0))
  all : ∀ t, t < k → ∀ q, Mb gs N q → Ag i q (l.getD t []) → ∃ x ∈ L, Ag (i + 1) q x
  now : ∀ u, u < j → ∀ q, Mb gs N q → Ag i q (l.getD k []) → (nx q i : Int) = zs.getD u 0 → ∃ x ∈ L, Ag (i + 1) q x
section
variable {N i k j : Nat} {gs l L : List (List Int)} {zs : List Int} {x : List Int}
theorem Lv.zero : Lv N gs 0 [idL N] := ⟨List.pairwise_singleton _ _, fun m hm => by rw [List.mem_singleton.1 hm]; exact .one, fun q _ => ⟨idL N, by simp, fun t ht => absurd ht (Nat.not_lt_zero _)⟩⟩
theorem Lv.lt (h : Lv N gs i l) {a b : Nat} (hab : a < b) (hb : b < l.length) : LxI i (l.getD a []) (l.getD b []) := by
  have := List.pairwise_iff_getElem.1 h.srt a b (by omega) hb hab
  rw [List.getD_eq_getElem?_getD, List.getD_eq_getElem?_getD, List.getElem?_eq_getElem hb, List.getElem?_eq_getElem (by omega)]; exact this
theorem Pj.zero : Pj N gs i l 0 zs 0 [] := ⟨.nil, fun x hx => (by cases hx), fun t ht => absurd ht (Nat.not_lt_zero _), fun u hu => absurd hu (Nat.not_lt_zero _)⟩
/-- The next entry's member. -/
theorem Pj.snoc (h : Pj N gs i l k zs j L) (hl : Lv N gs i l) (hk : k < l.length) (hz : zs.Pairwise (· < ·)) (hj : j < zs.length) (hx : Mb gs N x) (ha : Ag i x (l.getD k [])) (hv : (nx x i : Int) = zs.getD j 0) : Pj N gs i l k zs (j + 1) (L ++ [x]) := by
  refine ⟨List.pairwise_append.2 ⟨h.srt, List.pairwise_singleton _ _, fun y hy z hz' => ?_⟩, fun y hy => ?_, fun t ht q hq hqa => ?_, fun u hu q hq hqa hqv => ?_⟩
  · obtain rfl := List.mem_singleton.1 hz'
    rcases (h.mem y hy).2 with ⟨t, ht, ya⟩ | ⟨ya, u, hu, yv⟩
    · have h1 := hl.lt ht hk
      exact lxi_succ.2 (.inl ((lxi_ag ha).2 (by
        obtain ⟨s, hs, a, b⟩ := h1
        exact ⟨s, hs, (ya.mono (by omega)).trans a, by rw [ya s hs]; exact b⟩)))
    · refine lxi_succ.2 (.inr ⟨ya.trans ha.symm, ?_⟩)
      have := sorted_lo hz hu hj
      omega
  · rcases List.mem_append.1 hy with hy | hy
    · obtain ⟨a, b⟩ := h.mem y hy
      refine ⟨a, b.imp id fun ⟨c, u, hu, e⟩ => ⟨c, u, by omega, e⟩⟩
    · obtain rfl := List.mem_singleton.1 hy
      exact ⟨hx, .inr ⟨ha, j, by omega, hv⟩⟩
  · obtain ⟨y, hy, e⟩ := h.all t ht q hq hqa
    exact ⟨y, List.mem_append_left _ hy, e⟩
  · by_cases e : u = j
    · subst e
      exact ⟨x, by simp, ag_succ.2 ⟨hqa.trans ha.symm, by omega⟩⟩
    · obtain ⟨y, hy, e⟩ := h.now u (by omega) q hq hqa hqv
      exact ⟨y, List.mem_append_left _ hy, e⟩
/-- All entries of one more. -/
theorem Pj.next {ys : List Int} (h : Pj N gs i l k zs zs.length L) (hc : ChL N gs (l.getD k []) i zs) : Pj N gs i l (k + 1) ys 0 L := by
  refine ⟨h.srt, fun x hx => ?_, fun t ht q hq hqa => ?_, fun u hu => absurd hu (Nat.not_lt_zero _)⟩
  · obtain ⟨a, b⟩ := h.mem x hx
    refine ⟨a, .inl ?_⟩
    rcases b with ⟨t, ht, e⟩ | ⟨e, _⟩
    · exact ⟨t, by omega, e⟩
    · exact ⟨k, by omega, e⟩
  · by_cases e : t = k
    · subst e
      have hm := (hc.2 (nx q i : Int)).2 ⟨q, hq, hqa, rfl⟩
      obtain ⟨u, hu, eu⟩ := List.mem_iff_getElem.1 hm
      exact h.now u hu q hq hqa (by rw [gdx' hu]; exact eu.symm)
    · exact h.all t (by omega) q hq hqa
theorem Pj.lv (h : Pj N gs i l l.length zs 0 L) (hl : Lv N gs i l) : Lv N gs (i + 1) L := by
  refine ⟨h.srt, fun m hm => (h.mem m hm).1, fun q hq => ?_⟩
  obtain ⟨m, hm, ha⟩ := hl.all q hq
  obtain ⟨t, ht, e⟩ := List.mem_iff_getElem.1 hm
  exact h.all t ht q hq (by rw [List.getD_eq_getElem?_getD, List.getElem?_eq_getElem ht]; show Ag i q l[t]; rw [e]; exact ha)
/-- No more than there are members. -/
theorem Pj.len {V : Nat} (h : Pj N gs i l k zs j L) (hV : Crd (Mb gs N) V) : L.length ≤ V :=
  crd_sub ⟨L, lx_nodup h.srt, fun _ => Iff.rfl, rfl⟩ hV fun x hx => (h.mem x hx).1
theorem Lv.len {V : Nat} (h : Lv N gs i l) (hV : Crd (Mb gs N) V) : l.length ≤ V :=
  crd_sub ⟨l, lx_nodup h.srt, fun _ => Iff.rfl, rfl⟩ hV fun x hx => h.mem x hx
theorem Lv.top (h : Lv N gs N l) (hg : ∀ g ∈ gs, Pn N g) (h1 : 1 ≤ N) (h2 : N ≤ 20) (p : List Int) : p ∈ l ↔ Mb gs N p := by
  refine ⟨h.mem p, fun hp => ?_⟩
  obtain ⟨m, hm, ha⟩ := h.all p hp
  have : p = m := (hp.pn hg h1 h2).ext ((h.mem m hm).pn hg h1 h2) fun x hx => ha x hx
  exact this ▸ hm
end
/-- A slice literal of one slice. -/
theorem SS.litOne {w : World} {base bi : Nat} {A : Option Addr} {n c : Nat} {ys : List Int} (h : Slc w bi A n c ys) (hb : base ≤ w.heap.size) : SS (w.alloc (.cells #[.slice A n c] 28)) base bi (some ⟨w.heap.size, 0, none⟩) 1 1 [(A, n, c)] [ys] :=
  ⟨World.ownsRow_lit (size := 1) w #[.slice A n c] 1 hb (by unfold maxLen; omega) rfl, rfl, rfl, fun i hi => by
    obtain rfl : i = 0 := by omega
    exact h.alloc _, fun i j h1 h2 => by omega⟩
theorem getD_of {l : List (List Int)} {k : Nat} {y : List Int} (hk : k < l.length) (e : l.getD k [] = y) : y ∈ l := by
  rw [← e, List.getD_eq_getElem?_getD, List.getElem?_eq_getElem hk]; exact List.getElem_mem _

set_option maxHeartbeats 8000000 in
set_option maxRecDepth 100000 in
theorem specAllM (N n cc : Nat) (A : Option Addr) (vs : List SV) (gs : List (List Int)) (w : World) (hx : RR w w.heap.size A n vs gs) (hN1 : 1 ≤ N) (hN2 : N ≤ 20) (hn : n ≤ 8) (ok : Hid (∀ g ∈ gs, Pn N g)) (hgB : Hid (gB (N : Int) gs = true)) :
    Calls Try.prog 63 #[.int .i64 (N : Nat), .slice A n cc] w fun e w' => ∃ A' m c' us l, e = .returned (.slice A' m c') ∧ SS w' w.heap.size w.heap.size A' m c' us l ∧ IsMbs (N : Int) gs l ∧ Below w.heap.size w w' := by
  have HX := Lib.hid hx
  clear hx
  go_enter Try.func63, Try.ntmps63
  go_wp2_with fail
  refine (specBuild N n cc A vs gs w HX.out hN1 hN2 hn ok).mono ?_
  rintro e w2 ⟨g, L, ch, rfl, hc2, hw2, b2⟩
  have C2 := Lib.hid hc2
  have W2 := Lib.hid hw2
  have B2 := Lib.hid b2
  obtain ⟨V, hV, eV, hVb⟩ := (hw2.os hN1 hN2).ordB ok.out hN1 hN2
  have HV := Lib.hid hV
  clear hc2 hw2 b2 hV
  go_wp2_with fail
  refine (specOrder w.heap.size g N ch L gs w2 C2.out W2.out hN1 hN2).mono ?_
  rintro e w3 ⟨rfl, b3⟩
  have C3 := Lib.hid (C2.out.up b3)
  have B3 : Hid (Below w.heap.size w w3) := Lib.hid (btr B2.out b3)
  have hz3 := B3.out.size
  rw [eV]
  clear b3 eV C2 B2
  by_cases hV3 : V ≤ 3000
  · have d0 : decide ((3000 : Int) < (V : Int)) = false := by simp; omega
    have Few0 : Hid (Few (N : Int) gs) := Lib.hid ⟨hgB.out, V, by rw [Int.toNat_natCast]; exact HV.out, hV3⟩
    go_wp2_with fail
    refine (specIdent N w3 (by omega)).mono ?_
    rintro e w4 ⟨A4, c4, rfl, s4, b4⟩
    have C4 := Lib.hid (C3.out.up b4)
    have B4 : Hid (Below w.heap.size w w4) := Lib.hid (btr B3.out b4)
    have hz4 := B4.out.size
    have S4 : Hid (SS (w4.alloc (.cells #[.slice A4 N c4] 28)) w.heap.size w.heap.size (some ⟨w4.heap.size, 0, none⟩) 1 1 [(A4, N, c4)] [idL N]) := Lib.hid (SS.litOne (s4.mono hz3) hz4)
    clear s4 b4
    go_wp2_with fail
    go_loopw [6, 7] (fun v i wr => ∃ (i' m cc : Nat) (M : Option Addr) (us : List SV) (l : List (List Int)), i' ≤ N ∧ i = .int .i64 (i' : Nat) ∧ v = .slice M m cc ∧ SS wr w.heap.size w.heap.size M m cc us l ∧ Lv N gs i' l ∧ Below w4.heap.size w4 wr) (fun _ i _ => N - (intOf i).toNat)
    case atStart => exact ⟨0, _, _, _, _, _, Nat.zero_le _, rfl, rfl, S4.out, Lv.zero, (Below.refl _ _).alloc (Nat.le_refl _) _⟩
    case round =>
      clear S4
      obtain ⟨i, m, cc, M, us, l, hi, rfl, rfl, hs, hlv, bel⟩ := hrel
      have So := Lib.hid hs
      have Lv0 := Lib.hid hlv
      have Be := Lib.hid bel
      have C5 := Lib.hid (C4.out.up bel)
      have Lm : Hid (l.length = m) := Lib.hid hs.lx
      have hm3 : m ≤ 3000 := by rw [← hs.lx]; exact Nat.le_trans (hlv.len HV.out) hV3
      have Bw : Hid (Below w.heap.size w wr) := Lib.hid (btr B4.out bel)
      have hzw := Bw.out.size
      clear hs hlv bel
      by_cases hlt : i < N
      · have q1 : (0 : Int) ≤ i := by omega
        have q2 : (i : Int) < N := by omega
        obtain ⟨wL, rfl⟩ : ∃ wL, wL = wr := ⟨_, rfl⟩
        have P0 := Lib.hid (SS.lit0 wL wL.heap.size wL.heap.size (Nat.le_refl _))
        go_wp2_with fail
        go_loopg [8, 9] m (fun gg v j wr => ∃ (k m' c' : Nat) (A' : Option Addr) (us' : List SV) (L' : List (List Int)), k ≤ m ∧ m - k ≤ gg ∧ j = .int .i64 (k : Nat) ∧ v = .slice A' m' c' ∧ SS wr wL.heap.size wL.heap.size A' m' c' us' L' ∧ Pj N gs i l k [] 0 L' ∧ Below wL.heap.size wL wr)
        case atStart => exact ⟨0, _, _, _, _, _, Nat.zero_le _, by omega, rfl, rfl, P0.out, Pj.zero, (Below.refl _ _).alloc (Nat.le_refl _) _⟩
        case round =>
          clear P0
          obtain ⟨k, m', c', A', us', L', hk, hgk, rfl, rfl, hs', hpj, bel'⟩ := hrel
          have Ss := Lib.hid hs'
          have Pj0 := Lib.hid hpj
          have Be' := Lib.hid bel'
          have C6 := Lib.hid (C5.out.up bel')
          have hzL := bel'.size
          clear hs' hpj bel'
          by_cases hkm : k < m
          · obtain ⟨b, off, A5, lz, c5, y, rfl, hb, ev, ey, hc0, hr0, hy, hlc⟩ := So.out.rr.at_ hkm
            have hyl : y ∈ l := getD_of (by rw [Lm.out]; exact hkm) ey
            have hyM := Lv0.out.mem y hyl
            have hyP := hyM.pn ok.out hN1 hN2
            obtain rfl : lz = N := by have := hyP.2; omega
            have Yp := Lib.hid hyP
            have Ym := Lib.hid hyM
            have Ey := Lib.hid ey
            have Ry := Lib.hid hr0
            have R5 := Lib.hid (hr0.up Be'.out)
            have Hb := Lib.hid hb
            have Hc := Lib.hid hc0
            have x1 := (Be'.out.cell (p := ⟨b, off + k, none⟩) hb).trans hc0
            have z0 : (0 : Int) ≤ k := by omega
            have z1 : (k : Int) < m := by omega
            clear ev ey hr0 hy hyP hyM hyl hb hlc hc0
            go_wp2_with fail
            refine (specChoices w.heap.size g lz i c5 A5 ch L gs y wr C6.out W2.out R5.out Yp hlt).mono ?_
            rintro e w7 ⟨g2, m2, c2, zs, rfl, s7, p7, o7, b7⟩
            have Chl : Hid (ChL lz gs y i zs) := Lib.hid (chL_ok W2.out hN1 hN2 ok.out hlt Ym.out p7 o7)
            have Lz : Hid (zs.length = m2) := Lib.hid s7.1
            have hm2 : m2 ≤ 20 := by rw [← s7.1, p7.length_eq]; have := chL_len ch i y lz; omega
            have Z7 : Hid (Slc w7 wr.heap.size (some ⟨g2, 0, none⟩) m2 c2 zs) := Lib.hid s7
            have hg2 : wr.heap.size ≤ g2 ∧ g2 < w7.heap.size := s7.lt_ g2 rfl
            have Ss7 := Lib.hid (Ss.out.up b7)
            have Be7 : Hid (Below wL.heap.size wL w7) := Lib.hid (btr Be'.out b7)
            have Ne7 : Hid (∀ q, (Value.slice A' m' c').ownBlock = some q → q ≠ g2) := Lib.hid fun q hq => by have := (Ss.out.lt_ q hq).2; omega
            have Pj1 : Hid (Pj lz gs i l k zs 0 L') := Lib.hid ⟨Pj0.out.srt, fun x hx => by
              obtain ⟨a, b⟩ := Pj0.out.mem x hx
              rcases b with b | ⟨_, u, hu, _⟩
              · exact ⟨a, .inl b⟩
              · exact absurd hu (Nat.not_lt_zero _), Pj0.out.all, fun u hu => absurd hu (Nat.not_lt_zero _)⟩
            clear s7 p7 o7 b7 Pj0
            go_wp2_with fail
            obtain ⟨wM, rfl⟩ : ∃ wM, wM = wr := ⟨_, rfl⟩
            go_loopg [8, 11] m2 (fun gg v j wr => ∃ (jj m' c' : Nat) (A' : Option Addr) (us' : List SV) (L' : List (List Int)), jj ≤ m2 ∧ m2 - jj ≤ gg ∧ j = .int .i64 (jj : Nat) ∧ v = .slice A' m' c' ∧ SS wr wL.heap.size wL.heap.size A' m' c' us' L' ∧ Pj lz gs i l k zs jj L' ∧ Slc wr wM.heap.size (some ⟨g2, 0, none⟩) m2 c2 zs ∧ (∀ q, (Value.slice A' m' c').ownBlock = some q → q ≠ g2) ∧ Below wL.heap.size wL wr)
            case atStart => exact ⟨0, _, _, _, _, _, Nat.zero_le _, by omega, rfl, rfl, Ss7.out, Pj1.out, Z7.out, Ne7.out, Be7.out⟩
            case round =>
              clear Ss7 Pj1 Z7 Ne7 Be7
              obtain ⟨jj, m', c', A', us', L', hj, hgj, rfl, rfl, hs', hpj, hz', hne, bel'⟩ := hrel
              have Ss := Lib.hid hs'
              have Pj0 := Lib.hid hpj
              have Zs := Lib.hid hz'
              have Ne := Lib.hid hne
              have Be' := Lib.hid bel'
              have C8 := Lib.hid (C5.out.up bel')
              have hm' : m' ≤ 3000 := by rw [← hs'.lx]; exact Nat.le_trans (hpj.len HV.out) hV3
              have hzL := bel'.size
              clear hs' hpj hz' hne bel'
              by_cases hjm : jj < m2
              · obtain ⟨zb, zo, ez, hzb, hzc⟩ := Zs.out.ri_ (by rw [Zs.out.1]; omega)
                have x9 := hzc jj (by rw [Zs.out.1]; exact hjm)
                have ez2 : (some ⟨g2, 0, none⟩ : Option Addr) = some ⟨zb, zo, none⟩ := ez
                injection ez2 with ez2
                injection ez2 with f1 f2 _
                subst f1 f2
                rw [Nat.zero_add] at x9
                have hzm : zs.getD jj 0 ∈ zs := by rw [gdx' (by rw [Lz.out]; exact hjm)]; exact List.getElem_mem _
                obtain ⟨q, hq, hqa, hqv⟩ := (Chl.out.2 _).1 hzm
                obtain ⟨v, hv⟩ : ∃ v, nx q i = v := ⟨_, rfl⟩
                rw [hv] at hqv
                obtain ⟨yy, hyy, hry, hmy⟩ := chL_mem.1 ((W2.out.choice hN1 hN2 ok.out hlt Ym.out).2 ⟨q, hq, hqa, rfl⟩)
                have hmy2 : nx y yy = v := by omega
                obtain ⟨a1, a2, a3, _⟩ := W2.out.rep_mb hN1 hN2 hlt hry
                have Rp : Hid (Pn lz (ch.rep i yy)) := Lib.hid (a1.pn ok.out hN1 hN2)
                have Hmy := Lib.hid hmy2
                obtain ⟨nw, hnw⟩ : ∃ nw, compL (ch.rep i yy) y = nw := ⟨_, rfl⟩
                have Mb2 : Hid (Mb gs lz nw) := Lib.hid (by rw [← hnw]; exact a1.comp ok.out hN1 hN2 Ym.out)
                have hAg : Ag i nw y := fun t ht => by rw [← hnw, Rp.out.nxc (by omega), a2 t ht]
                have hnv : (nx nw i : Int) = zs.getD jj 0 := by rw [← hnw, Rp.out.nxc hlt, a3, Hmy.out, hqv]
                have Pj2 : Hid (Pj lz gs i l k zs (jj + 1) (L' ++ [nw])) := Lib.hid (Pj0.out.snoc Lv0.out (by rw [Lm.out]; exact hkm) Chl.out.1 (by rw [Lz.out]; exact hjm) Mb2.out (by rw [Ey.out]; exact hAg) hnv)
                have Nw := Lib.hid hnw
                rw [← hqv] at x9
                have x8 := (Be'.out.cell (p := ⟨b, off + k, none⟩) Hb.out).trans Hc.out
                have z2 : (0 : Int) ≤ jj := by omega
                have z3 : (jj : Int) < m2 := by omega
                have C8d : Hid (Cn wr.drew w.heap.size g lz ch L) := Lib.hid (C8.out.up ⟨rfl, rfl, rfl, Nat.le_refl _, fun _ _ => rfl⟩)
                have Ry8 : Hid (RI wr wr.heap.size A5 y) := Lib.hid (Ry.out.up Be'.out)
                clear ez hzb hzc hzm hq hqa hqv hv hry hmy hmy2 a1 a2 a3 hAg hnv hnw Pj0
                go_wp2_with fail
                go_region_law (first
                  | (refine step_appV rfl (.tmp 47) (.tmp 59) rfl wL.heap.size (.slice A' m' c') m' (us'.map sval) ?_ ((Ss9.out.alloc (.cells #[.slice A9 lz c9] 28)).own) w9.heap.size (A9, lz, c9) ?_ ((Blk.new w9 _ _).cell 0) ?_ ?_ ?_; (simp [Act.eval, Act.put]); (simp [Act.eval, Act.put]); (omega); (have hz := B9.out.size; simp; omega); (intro A10 c10 w10 o10 g10 h10))
                  | (go_simp; go_wp2_with (first
                    | (go_at_call 73; (first
                        | (refine (specWithEntry w.heap.size g lz i v yy c5 A5 ch L y wr C8.out Ry8.out Yp hlt hyy Hmy Rp).mono ?_; rintro e w9 ⟨A9, c9, rfl, s9, b9⟩)
                        | (refine (specWithEntry w.heap.size g lz i v yy c5 A5 ch L y wr.drew C8d.out Ry8.out Yp hlt hyy Hmy Rp).mono ?_; rintro e w9 ⟨A9, c9, rfl, s9, b90⟩; have b9 : Below wr.heap.size wr w9 := below_undrew b90; clear b90))
                       have B9 : Hid (Below wr.heap.size wr w9) := Lib.hid b9
                       have S9 : Hid (Slc w9 wr.heap.size A9 lz c9 nw) := Lib.hid (by rw [← Nw.out]; exact s9)
                       have Ss9 := Lib.hid (Ss.out.up b9)
                       have Zs9 := Lib.hid (Zs.out.up b9)
                       clear s9 b9))))
                all_goals
                  have D9 : ∀ t, t < m' → (sval (us'.getD t sd0)).ownBlock = none ∨ (sval (us'.getD t sd0)).ownBlock ≠ (sval (A9, lz, c9)).ownBlock := lies_dis (w := wr) Ss.out S9.out.lies (Nat.le_refl _)
                  have Ss10 : Hid (SS w10 wL.heap.size wL.heap.size A10 (m' + 1) c10 (us' ++ [(A9, lz, c9)]) (L' ++ [nw])) := Lib.hid ((Ss9.out.alloc _).snocV (d := (A9, lz, c9)) ((S9.out.mono hzL).alloc _) D9 o10 g10)
                  have B10 : Hid (Below wL.heap.size wL w10) := Lib.hid (((btr Be'.out B9.out).alloc (btr Be'.out B9.out).size _).grown g10 (by have := (btr Be'.out B9.out).size; simp; omega) (fun j hj => (Ss.out.lt_ j hj).1))
                  have Zs10 : Hid (Slc w10 wM.heap.size (some ⟨g2, 0, none⟩) m2 c2 zs) := Lib.hid ((Zs9.out.alloc _).kept g10 (.inr fun e => Ne.out g2 e.symm rfl))
                  have Ne10 : Hid (∀ q, (Value.slice A10 (m' + 1) c10).ownBlock = some q → q ≠ g2) := Lib.hid fun q hq => by
                    rcases h10 with e | e
                    · exact Ne.out q (e ▸ hq)
                    · have h1 := (Zs9.out.lt_ g2 rfl).2
                      rw [e] at hq
                      injection hq with hq
                      simp at hq; omega
                  clear o10 g10 h10 D9
                  go_wp2_with fail
                  go_roundg (m2 - (jj + 1))
                  case rel => exact ⟨jj + 1, _, _, A10, _, _, by omega, by omega, by go_num, rfl, Ss10.out, Pj2.out, Zs10.out, Ne10.out, B10.out⟩
                  case measure => omega
              · obtain rfl : jj = m2 := by omega
                have Pj2 : Hid (Pj lz gs i l (k + 1) [] 0 L') := Lib.hid (by
                  have := Pj0.out
                  rw [← Lz.out] at this
                  exact this.next (by rw [Ey.out]; exact Chl.out))
                go_wp2_with fail
                go_roundg (m - (k + 1))
                case rel => exact ⟨k + 1, _, _, _, _, _, by omega, by omega, by go_num, rfl, Ss.out, Pj2.out, Be'.out⟩
                case measure => omega
          · obtain rfl : k = m := by omega
            have Lv2 : Hid (Lv N gs (i + 1) L') := Lib.hid (by
              have := Pj0.out
              rw [← Lm.out] at this
              exact this.lv Lv0.out)
            have Ss2 : Hid (SS wr w.heap.size w.heap.size A' m' c' us' L') := Lib.hid (Ss.out.mono hzw hzw)
            have Be2 : Hid (Below w4.heap.size w4 wr) := Lib.hid (btr Be.out Be'.out)
            go_wp2_with fail
            go_roundw
            case rel => exact ⟨i + 1, _, _, _, _, _, by omega, by go_num, rfl, Ss2.out, Lv2.out, Be2.out⟩
            case measure => simp [intOf]; omega
      · obtain rfl : i = N := by omega
        have Fin : Hid (IsMbs (i : Int) gs l) := Lib.hid (.inl ⟨Few0.out, by rw [Int.toNat_natCast]; exact Lv0.out.srt, fun p => by rw [Int.toNat_natCast]; exact Lv0.out.top ok.out hN1 hN2 p⟩)
        go_wp2_with fail
        go_ret
        exact ⟨_, _, _, _, _, rfl, So.out, Fin.out, Bw.out⟩
  · have d0 : decide ((3000 : Int) < (V : Int)) = true := by simp; omega
    have Fin : Hid (IsMbs (N : Int) gs []) := Lib.hid (.inr ⟨fun ⟨_, V', h, h'⟩ => (by rw [Int.toNat_natCast] at h; have := h.uniq HV.out; omega), rfl⟩)
    have S0 := Lib.hid (SS.lit0 w3 w.heap.size w.heap.size hz3)
    go_wp2_with fail
    go_ret
    exact ⟨_, _, _, _, _, rfl, S0.out, Fin.out, B3.out.alloc hz3 _⟩
end Go.Proofs.Ytonanelghnjhpaa

/- Support, of the program and of the model, and the program's search for points. Condition: at most 2097152 entries. -/
namespace Go.Proofs.Ytonanelghnjhpaa
open Go.RowKit

def ptsL (f : Nat → Bool) (k : Nat) : List Int := ((List.range k).filter f).map Int.ofNat
theorem ptsL_yes {f : Nat → Bool} {k : Nat} (h : f k = true) : ptsL f (k + 1) = ptsL f k ++ [(k : Int)] := by simp [ptsL, List.range_succ, List.filter_append, h]
theorem ptsL_no {f : Nat → Bool} {k : Nat} (h : f k = false) : ptsL f (k + 1) = ptsL f k := by simp [ptsL, List.range_succ, List.filter_append, h]
theorem ptsL_le (f : Nat → Bool) (k : Nat) : (ptsL f k).length ≤ k := by
  unfold ptsL; rw [List.length_map]; exact Nat.le_trans (List.length_filter_le _ _) (by simp)
def movesB (p : List Int) (x : Nat) : Bool := p.getD x 0 != (x : Int)
theorem supp_eq (p : List Int) : supp p = ptsL (movesB p) p.length := rfl
def suppL (p : List Int) : List Int := if isP p = true then supp p else []

end Go.Proofs.Ytonanelghnjhpaa

/- Cycles, point by point: cycleFrom and startsCycle of the program, cycleOf and isSmallest of the model. Condition: the list is a permutation. -/
namespace Go.Proofs.Ytonanelghnjhpaa
open Go.RowKit

def lenV : Value → Nat | .slice _ n _ => n | _ => 0
/-- The first k points from x on. -/
def cycTo (p : List Int) (x k : Nat) : List Int := (List.range k).map fun j => (it p j x : Int)
theorem cycTo_succ (p : List Int) (x k : Nat) : cycTo p x (k + 1) = cycTo p x k ++ [(it p k x : Int)] := by simp [cycTo, List.range_succ]
theorem cycTo_one (p : List Int) (x : Nat) : cycTo p x 1 = [(x : Int)] := rfl
theorem cyc_eq (p : List Int) (x : Nat) : cyc p x = cycTo p x (per p x) := rfl
theorem cyc_getD {p : List Int} {x j : Nat} (h : j < per p x) : (cyc p x).getD j 0 = (it p j x : Int) := by
  rw [List.getD_eq_getElem?_getD, List.getElem?_eq_getElem (by rw [cyc_length]; exact h)]; simp [cyc]

set_option maxHeartbeats 400000 in
/-- cycleFrom. -/
theorem implCycleFrom (A : Option Addr) (c n x : Nat) (p : List Int) (w : World) (hp : RI w w.heap.size A p) (lp : Hid (p.length = n)) (ip : Hid (IsP p)) (hx : x < n) (hn : n ≤ 20) :
    Calls Try.prog 133 #[.slice A n c, .int .i64 x] w fun e w' => ∃ A' m c', e = .returned (.slice A' m c') ∧ Slc w' w.heap.size A' m c' (cyc p x) ∧ m ≤ 20 ∧ Below w.heap.size w w' := by
  obtain ⟨b, off, rfl, hb, hc⟩ := hp (by rw [lp.out]; omega)
  have C : Hid (∀ j, j < n → w.cell? ⟨b, off + j, none⟩ = some (.int .i64 (nx p j : Int))) := Lib.hid fun j hj => by rw [← nx_val ip.out (by rw [lp.out]; exact hj)]; exact hc j (by rw [lp.out]; exact hj)
  have PS := Lib.hid (per_spec ip.out (x := x) (by rw [lp.out]; exact hx))
  have hper : per p x ≤ n := by rw [← lp.out]; exact PS.out.2.1
  clear hc
  have c0 := C.out x hx
  rw [World.cell?_alloc_lt w (.cells #[.int .i64 x] 2) ⟨b, off + x, none⟩ hb |>.symm] at c0
  go_enter Try.func133, Try.ntmps133
  go_wp2
  go_loopw [5, 6] (fun v y wr => ∃ k A' c', 1 ≤ k ∧ k ≤ per p x ∧ v = .slice A' k c' ∧ y = .int .i64 (it p k x : Nat) ∧ Slc wr w.heap.size A' k c' (cycTo p x k) ∧ Below w.heap.size w wr) (fun v _ _ => per p x - lenV v)
  case atStart => exact ⟨1, _, _, Nat.le_refl _, PS.out.1, rfl, rfl, Slc.lit1 w _ x (Nat.le_refl _), (Below.refl _ _).alloc (Nat.le_refl _) _⟩
  case round =>
    clear c0
    obtain ⟨k, A', c', hk1, hk, rfl, rfl, own, bel⟩ := hrel
    have Own' := Lib.hid own
    have Bel := Lib.hid bel
    clear own bel
    by_cases hlt : k < per p x
    · have hne := PS.out.2.2.2 k hk1 hlt
      obtain ⟨y, ey⟩ : ∃ y, it p k x = y := ⟨_, rfl⟩
      have hy : y < n := by rw [← ey, ← lp.out]; exact it_lt ip.out (by rw [lp.out]; exact hx) k
      rw [ey] at hne ⊢
      have Ey := Lib.hid ey
      have hd : ((y : Int) != (x : Int)) = true := by rw [bne_iff_ne]; omega
      have hd' : ((y : Int) == (x : Int)) = false := by rw [beq_eq_false_iff_ne]; omega
      clear ey hne
      go_wp2_with (first | (at_builtin; refine wpList_app1 rfl _ _ rfl w.heap.size A' k c' _ rfl (Own'.out.alloc _) wr.heap.size y rfl (by rw [World.cell?_alloc_at _ _ _ _ rfl]; rfl) (by omega) (by have := Bel.out.size; simp; omega) ?_; intro A1 c1' w1 own1 hg1; have Own1 := Lib.hid own1; have Bel1 : Hid (Below w.heap.size w w1) := Lib.hid ((Bel.out.alloc Bel.out.size _).grown hg1 (by have := Bel.out.size; simp; omega) (fun j hj => (Own'.out.lt_ j hj).1)); clear own1 hg1; have c1 := (Bel1.out.cell (p := ⟨b, off + y, none⟩) hb).trans (C.out y hy)))
      go_roundw
      case rel => exact ⟨k + 1, A1, c1', by omega, by omega, rfl, by show Value.int .i64 (nx p y : Int) = .int .i64 ((nx p (it p k x) : Nat) : Int); rw [Ey.out], by rw [cycTo_succ, Ey.out]; exact Own1.out, Bel1.out⟩
      case measure => simp [lenV]; omega
    · have hkn : k = per p x := by omega
      have hx' := PS.out.2.2.1
      subst hkn
      rw [hx']
      have hd : ((x : Int) != (x : Int)) = false := by simp
      clear hx'
      go_wp2
      go_ret
      exact ⟨_, _, _, rfl, by rw [cyc_eq]; exact Own'.out, by omega, Bel.out⟩
set_option maxHeartbeats 400000 in
/-- cycleOf. -/
theorem specCycleOf (A : Option Addr) (c n x : Nat) (p : List Int) (w : World) (hp : RI w w.heap.size A p) (lp : Hid (p.length = n)) (ip : Hid (IsP p)) (hx : x < n) (hn : n ≤ 20) :
    Calls Try.prog 129 #[.slice A n c, .int .i64 x] w fun e w' => ∃ A' m c', e = .returned (.slice A' m c') ∧ Slc w' w.heap.size A' m c' (cyc p x) ∧ m ≤ 20 ∧ Below w.heap.size w w' := by
  obtain ⟨b, off, rfl, hb, hc⟩ := hp (by rw [lp.out]; omega)
  have C : Hid (∀ j, j < n → w.cell? ⟨b, off + j, none⟩ = some (.int .i64 (nx p j : Int))) := Lib.hid fun j hj => by rw [← nx_val ip.out (by rw [lp.out]; exact hj)]; exact hc j (by rw [lp.out]; exact hj)
  have PS := Lib.hid (per_spec ip.out (x := x) (by rw [lp.out]; exact hx))
  have hper : per p x ≤ n := by rw [← lp.out]; exact PS.out.2.1
  clear hc
  have c0 := C.out x hx
  rw [World.cell?_alloc_lt w (.cells #[.int .i64 x] 2) ⟨b, off + x, none⟩ hb |>.symm] at c0
  go_enter Try.func129, Try.ntmps129
  go_wp2
  go_loopw [5, 6] (fun v y wr => ∃ k A' c', 1 ≤ k ∧ k ≤ per p x ∧ v = .slice A' k c' ∧ y = .int .i64 (it p k x : Nat) ∧ Slc wr w.heap.size A' k c' (cycTo p x k) ∧ Below w.heap.size w wr) (fun v _ _ => per p x - lenV v)
  case atStart => exact ⟨1, _, _, Nat.le_refl _, PS.out.1, rfl, rfl, Slc.lit1 w _ x (Nat.le_refl _), (Below.refl _ _).alloc (Nat.le_refl _) _⟩
  case round =>
    clear c0
    obtain ⟨k, A', c', hk1, hk, rfl, rfl, own, bel⟩ := hrel
    have Own' := Lib.hid own
    have Bel := Lib.hid bel
    clear own bel
    by_cases hlt : k < per p x
    · have hne := PS.out.2.2.2 k hk1 hlt
      obtain ⟨y, ey⟩ : ∃ y, it p k x = y := ⟨_, rfl⟩
      have hy : y < n := by rw [← ey, ← lp.out]; exact it_lt ip.out (by rw [lp.out]; exact hx) k
      rw [ey] at hne ⊢
      have Ey := Lib.hid ey
      have hd : ((y : Int) != (x : Int)) = true := by rw [bne_iff_ne]; omega
      have hd' : ((y : Int) == (x : Int)) = false := by rw [beq_eq_false_iff_ne]; omega
      clear ey hne
      go_wp2_with (first | (at_builtin; refine wpList_app1 rfl _ _ rfl w.heap.size A' k c' _ rfl (Own'.out.alloc _) wr.heap.size y rfl (by rw [World.cell?_alloc_at _ _ _ _ rfl]; rfl) (by omega) (by have := Bel.out.size; simp; omega) ?_; intro A1 c1' w1 own1 hg1; have Own1 := Lib.hid own1; have Bel1 : Hid (Below w.heap.size w w1) := Lib.hid ((Bel.out.alloc Bel.out.size _).grown hg1 (by have := Bel.out.size; simp; omega) (fun j hj => (Own'.out.lt_ j hj).1)); clear own1 hg1; have c1 := (Bel1.out.cell (p := ⟨b, off + y, none⟩) hb).trans (C.out y hy)))
      go_roundw
      case rel => exact ⟨k + 1, A1, c1', by omega, by omega, rfl, by show Value.int .i64 (nx p y : Int) = .int .i64 ((nx p (it p k x) : Nat) : Int); rw [Ey.out], by rw [cycTo_succ, Ey.out]; exact Own1.out, Bel1.out⟩
      case measure => simp [lenV]; omega
    · have hkn : k = per p x := by omega
      have hx' := PS.out.2.2.1
      subst hkn
      rw [hx']
      have hd : ((x : Int) != (x : Int)) = false := by simp
      clear hx'
      go_wp2
      go_ret
      exact ⟨_, _, _, rfl, by rw [cyc_eq]; exact Own'.out, by omega, Bel.out⟩

theorem st_true {p : List Int} {x : Nat} (h : ∀ j, j < per p x → x ≤ it p j x) : st p x = true := by
  unfold st; rw [List.all_eq_true]; intro j hj; rw [decide_eq_true_eq]; exact h j (List.mem_range.1 hj)
theorem st_false {p : List Int} {x j : Nat} (hj : j < per p x) (h : it p j x < x) : st p x = false := by
  unfold st; rw [List.all_eq_false]; exact ⟨j, List.mem_range.2 hj, by simp; omega⟩

set_option maxHeartbeats 400000 in
/-- startsCycle. -/
theorem implStarts (A : Option Addr) (c n x : Nat) (p : List Int) (w : World) (B : Nat) (hp : RI w B A p) (lp : Hid (p.length = n)) (ip : Hid (IsP p)) (hx : x < n) (hn : n ≤ 20) (ans : Bool) (ha : Hid (st p x = ans)) :
    Calls Try.prog 132 #[.slice A n c, .int .i64 x] w fun e w' => e = .returned (.bool ans) ∧ w = w' := by
  obtain ⟨b, off, rfl, hb, hc⟩ := hp (by rw [lp.out]; omega)
  have C : Hid (∀ j, j < n → w.cell? ⟨b, off + j, none⟩ = some (.int .i64 (nx p j : Int))) := Lib.hid fun j hj => by rw [← nx_val ip.out (by rw [lp.out]; exact hj)]; exact hc j (by rw [lp.out]; exact hj)
  have PS := Lib.hid (per_spec ip.out (x := x) (by rw [lp.out]; exact hx))
  have hper : per p x ≤ n := by rw [← lp.out]; exact PS.out.2.1
  clear hc
  have c0 := C.out x hx
  go_enter Try.func132, Try.ntmps132
  go_wp2
  go_loopg [5] (per p x) (fun g y wr => ∃ k, 1 ≤ k ∧ k + g = per p x + 1 ∧ 1 ≤ g ∧ y = .int .i64 (it p k x : Nat) ∧ (∀ j, 1 ≤ j → j < k → x < it p j x) ∧ w = wr)
  case atStart => exact ⟨1, Nat.le_refl _, by omega, PS.out.1, rfl, fun j h1 h2 => absurd h2 (by omega), rfl⟩
  case round =>
    clear c0
    obtain ⟨k, hk1, hkg, hg1, rfl, hall, rfl⟩ := hrel
    have Hall := Lib.hid hall
    have Hkg := Lib.hid hkg
    have hkle : k ≤ per p x := by omega
    clear hall hkg
    obtain ⟨y, ey⟩ : ∃ y, it p k x = y := ⟨_, rfl⟩
    have hy : y < n := by rw [← ey, ← lp.out]; exact it_lt ip.out (by rw [lp.out]; exact hx) k
    rw [ey]
    have Ey := Lib.hid ey
    clear ey
    by_cases hgt : x < y
    · have hd : decide ((x : Int) < (y : Int)) = true := by simpa using hgt
      have c1 := C.out y hy
      have hlt : k < per p x := by
        have h1 := PS.out.2.2.1
        have h2 := Ey.out
        rcases Nat.lt_or_ge k (per p x) with h | h
        · exact h
        · have : k = per p x := by omega
          rw [this, h1] at h2; omega
      go_wp2
      go_roundg (gk - 1)
      case measure => omega
      case rel =>
        have := Hkg.out
        exact ⟨k + 1, by omega, by omega, by omega, by show Value.int .i64 (nx p y : Int) = .int .i64 ((nx p (it p k x) : Nat) : Int); rw [Ey.out], fun j h1 h2 => by
          by_cases e : j = k
          · subst e; rw [Ey.out]; exact hgt
          · exact Hall.out j h1 (by omega), rfl⟩
    · have hd : decide ((x : Int) < (y : Int)) = false := by simp; omega
      have Fin : Hid (((y : Int) == (x : Int)) = ans) := by
        apply Lib.hid
        rw [← ha.out]
        by_cases e : y = x
        · have hkp : k = per p x := by
            rcases Nat.lt_or_ge k (per p x) with h | h
            · exact absurd (Ey.out.trans e) (PS.out.2.2.2 k hk1 h)
            · omega
          rw [st_true (fun j hj => by
            by_cases h0 : j = 0
            · subst h0; exact Nat.le_refl _
            · exact Nat.le_of_lt (Hall.out j (by omega) (by omega)))]
          rw [beq_iff_eq]; omega
        · have hlt : k < per p x := by
            rcases Nat.lt_or_ge k (per p x) with h | h
            · exact h
            · have h3 : k = per p x := by omega
              have h2 := Ey.out
              rw [h3, PS.out.2.2.1] at h2; omega
          rw [st_false hlt (by rw [Ey.out]; omega)]
          rw [beq_eq_false_iff_ne]; omega
      go_wp2
      go_ret
      exact ⟨ret_bool Fin.out, rfl⟩

set_option maxHeartbeats 400000 in
/-- isSmallest, at the points that follow x. -/
theorem specSmallest (A : Option Addr) (c m x : Nat) (p : List Int) (w : World) (hp : RI w w.heap.size A (cyc p x)) (lm : Hid (per p x = m)) (hm1 : 1 ≤ m) (hm : m ≤ 20) (ans : Bool) (ha : Hid (st p x = ans)) :
    Calls Try.prog 130 #[.slice A m c] w fun e w' => e = .returned (.bool ans) ∧ Below w.heap.size w w' := by
  obtain ⟨b, off, rfl, hb, hc⟩ := hp (by rw [cyc_length, lm.out]; omega)
  have C : Hid (∀ j, j < m → w.cell? ⟨b, off + j, none⟩ = some (.int .i64 (it p j x : Int))) := Lib.hid fun j hj => by
    rw [← cyc_getD (p := p) (x := x) (j := j) (by rw [lm.out]; exact hj)]; exact hc j (by rw [cyc_length, lm.out]; exact hj)
  clear hc
  refine quiet_below ?_
  have c0 := C.out 0 (by omega)
  rw [Nat.add_zero] at c0
  have c0' : w.cell? ⟨b, off, none⟩ = some (.int .i64 (x : Int)) := c0
  clear c0
  go_enter Try.func130, Try.ntmps130
  go_wp2
  go_loopw [3] (fun i wr => ∃ k : Nat, 1 ≤ k ∧ k ≤ m ∧ i = .int .i64 (k : Nat) ∧ (∀ j, j < k → x ≤ it p j x) ∧ ∃ q, wr = w.drewN q) (fun i _ => m - (intOf i).toNat)
  case atStart => exact ⟨1, Nat.le_refl _, hm1, rfl, fun j h => by rw [show j = 0 from by omega]; exact Nat.le_refl _, 0, rfl⟩
  case round =>
    obtain ⟨k, hk1, hk, rfl, hall, q, rfl⟩ := hrel
    have Hall := Lib.hid hall
    clear hall
    by_cases hlt : k < m
    · obtain ⟨y, ey⟩ : ∃ y, it p k x = y := ⟨_, rfl⟩
      have c1 := C.out k hlt
      rw [ey] at c1
      have Ey := Lib.hid ey
      clear ey
      have p1 : (0 : Int) ≤ k := by omega
      have p2 : (k : Int) < m := by omega
      have p3 : (0 : Int) < m := by omega
      by_cases hyx : y < x
      · have hd : decide ((y : Int) < (x : Int)) = true := by simpa using hyx
        have Fin : Hid (ans = false) := Lib.hid (by rw [← ha.out]; exact st_false (by rw [lm.out]; exact hlt) (by rw [Ey.out]; exact hyx))
        go_wp2
        go_quiet (fail)
        go_wp2
        go_ret
        exact ⟨ret_bool Fin.out.symm, _, World.drewN_drewN _ _ _⟩
      · have hd : decide ((y : Int) < (x : Int)) = false := by simp; omega
        go_wp2
        go_quiet (fail)
        go_wp2
        go_roundw
        case rel => exact ⟨k + 1, by omega, by omega, by go_num, fun j hj => by
          by_cases e : j = k
          · subst e; rw [Ey.out]; omega
          · exact Hall.out j (by omega), _, rfl⟩
        case measure => simp [intOf]; omega
    · have hkm : k = m := by omega
      subst hkm
      have Fin : Hid (ans = true) := Lib.hid (by rw [← ha.out]; exact st_true (by rw [lm.out]; exact Hall.out))
      go_wp2
      go_ret
      exact ⟨ret_bool Fin.out.symm, _, rfl⟩

set_option maxHeartbeats 400000 in
/-- pointsWhere at a method value: the smallest points of the cycles. -/
theorem pwStarts (A : Option Addr) (c n : Nat) (p : List Int) (w : World) (hp : RI w w.heap.size A p) (lp : Hid (p.length = n)) (ip : Hid (IsP p)) (hn : n ≤ 20) :
    Calls Try.prog 131 #[.int .i64 n, .func (.func 132) #[.slice A n c] #[]] w fun e w' => ∃ A' n' c', e = .returned (.slice A' n' c') ∧ Slc w' w.heap.size A' n' c' (ptsL (st p) n) ∧ n' ≤ n ∧ Below w.heap.size w w' := by
  go_enter Try.func131, Try.ntmps131
  go_wp2
  go_loopw [5, 6, 8] (fun v _ i wr => ∃ k A' m c', k ≤ n ∧ m ≤ k ∧ i = .int .i64 (k : Nat) ∧ v = .slice A' m c' ∧ Slc wr w.heap.size A' m c' (ptsL (st p) k) ∧ Below w.heap.size w wr) (fun _ _ i _ => n - (intOf i).toNat)
  case atStart => exact ⟨0, _, _, _, Nat.zero_le _, Nat.le_refl _, rfl, rfl, Slc.nil_, Below.refl _ _⟩
  case round =>
    obtain ⟨k, A', m, c', hk, hmk, rfl, rfl, own, bel⟩ := hrel
    have Own' := Lib.hid own
    have Bel := Lib.hid bel
    clear own bel
    by_cases hlt : k < n
    · rcases hmv : st p k with _ | _
      · have Hm := Lib.hid hmv
        clear hmv
        go_wp2_with fail
        refine (implStarts A c n k p wr _ (hp.below Bel.out (Nat.le_refl _)) lp ip hlt hn false Hm).mono ?_
        rintro e w1 ⟨rfl, rfl⟩
        go_wp2_with fail
        go_roundw
        case rel => exact ⟨k + 1, A', m, c', by omega, by omega, by go_num, rfl, by rw [ptsL_no Hm.out]; exact Own'.out, Bel.out⟩
        case measure => simp [intOf]; omega
      · have Hm := Lib.hid hmv
        clear hmv
        go_wp2_with fail
        refine (implStarts A c n k p wr _ (hp.below Bel.out (Nat.le_refl _)) lp ip hlt hn true Hm).mono ?_
        rintro e w1 ⟨rfl, rfl⟩
        go_wp2_with (first | (at_builtin; refine wpList_app1 rfl _ _ rfl w.heap.size A' m c' _ rfl (Own'.out.alloc _) wr.heap.size k rfl (by rw [World.cell?_alloc_at _ _ _ _ rfl]; rfl) (by omega) (by have := Bel.out.size; simp; omega) ?_; intro A1 c1' w1 own1 hg1))
        have Own1 := Lib.hid own1
        have Bel1 : Hid (Below w.heap.size w w1) := Lib.hid ((Bel.out.alloc Bel.out.size _).grown hg1 (by have := Bel.out.size; simp; omega) (fun j hj => (Own'.out.lt_ j hj).1))
        clear own1 hg1
        go_wp2
        go_roundw
        case rel => exact ⟨k + 1, A1, m + 1, c1', by omega, by omega, by go_num, rfl, by rw [ptsL_yes Hm.out]; exact Own1.out, Bel1.out⟩
        case measure => simp [intOf]; omega
    · have hkn : k = n := by omega
      subst hkn
      go_wp2
      go_ret
      exact ⟨_, _, _, rfl, Own'.out, hmk, Bel.out⟩

end Go.Proofs.Ytonanelghnjhpaa

/- All cycles of a permutation, of the program and of the model. Condition: the list is a permutation. -/
namespace Go.Proofs.Ytonanelghnjhpaa
open Go.RowKit

/-- The smallest points of the cycles, as far as k. -/
def heads (p : List Int) (k : Nat) : List Nat := (List.range k).filter (st p)
theorem heads_yes {p : List Int} {k : Nat} (h : st p k = true) : heads p (k + 1) = heads p k ++ [k] := by simp [heads, List.range_succ, List.filter_append, h]
theorem heads_no {p : List Int} {k : Nat} (h : st p k = false) : heads p (k + 1) = heads p k := by simp [heads, List.range_succ, List.filter_append, h]
theorem cycs_heads (p : List Int) : cycs p = (heads p p.length).map (cyc p) := rfl
theorem heads_le (p : List Int) (k : Nat) : (heads p k).length ≤ k := Nat.le_trans (List.length_filter_le _ _) (by simp)
theorem pts_heads (p : List Int) (k : Nat) : ptsL (st p) k = (heads p k).map Int.ofNat := rfl
theorem heads_lt {p : List Int} {n k x : Nat} (hk : k < (heads p n).length) (e : (heads p n).getD k 0 = x) : x < n := by
  have : x ∈ heads p n := by rw [← e, List.getD_eq_getElem?_getD, List.getElem?_eq_getElem hk]; exact List.getElem_mem hk
  exact List.mem_range.1 (List.mem_filter.1 this).1

set_option maxHeartbeats 800000 in
/-- allCycles. -/
theorem implAll (A : Option Addr) (c n : Nat) (p : List Int) (w : World) (hp : RI w w.heap.size A p) (lp : Hid (p.length = n)) (ip : Hid (IsP p)) (hn : n ≤ 20) :
    Calls Try.prog 117 #[.slice A n c] w fun e w' => ∃ A' m c' vs, e = .returned (.slice A' m c') ∧ SS w' w.heap.size w.heap.size A' m c' vs (cycs p) ∧ m ≤ n ∧ Below w.heap.size w w' := by
  have hmf : ∀ (fn : Fn) (first cap : Array Value) (w : World), (Instr.makeFunc fn first cap).run Try.prog w = .ok (.func fn first cap) w := fun _ _ _ _ => rfl
  go_enter Try.func117, Try.ntmps117
  go_wp2_with fail
  refine (pwStarts A c n p w hp lp ip hn).mono ?_
  rintro e w1 ⟨A1, m, c1, rfl, s1, hm, b1⟩
  have S1 := Lib.hid s1
  have B1 := Lib.hid b1
  have lm : Hid ((heads p n).length = m) := Lib.hid (by rw [← s1.1, pts_heads, List.length_map])
  clear s1 b1
  go_wp2_with fail
  go_loopw [3, 5, 12] (fun v _ i wr => ∃ k A' c' vs, k ≤ m ∧ i = .int .i64 (k : Nat) ∧ v = .slice A' k c' ∧ SS wr w1.heap.size w1.heap.size A' k c' vs (((heads p n).take k).map (cyc p)) ∧ Below w1.heap.size w1 wr) (fun _ _ i _ => m - (intOf i).toNat)
  case atStart => exact ⟨0, _, _, _, Nat.zero_le _, rfl, rfl, SS.nil_, Below.refl _ _⟩
  case round =>
    obtain ⟨k, A', c', vs, hk, rfl, rfl, ss, bel⟩ := hrel
    have Ss := Lib.hid ss
    have Bel := Lib.hid bel
    have Bw : Hid (Below w.heap.size w wr) := Lib.hid (btr B1.out bel)
    clear ss bel
    by_cases hlt : k < m
    · obtain ⟨x, ex⟩ : ∃ x, (heads p n).getD k 0 = x := ⟨_, rfl⟩
      have hx : x < n := heads_lt (by rw [lm.out]; exact hlt) ex
      have R1 := S1.out.ri_.below Bel.out (Nat.le_refl _)
      obtain ⟨b, off, rfl, hb, hc⟩ := R1 (by rw [S1.out.1]; omega)
      have c0 := hc k (by rw [S1.out.1]; exact hlt)
      have ev : (ptsL (st p) n).getD k 0 = (x : Int) := by
        rw [pts_heads, List.getD_eq_getElem?_getD, List.getElem?_map, ← ex, List.getD_eq_getElem?_getD, List.getElem?_eq_getElem (by rw [lm.out]; exact hlt)]; rfl
      rw [ev] at c0
      have Ex := Lib.hid ex
      clear ex ev hc R1
      go_wp2_with fail
      refine (implCycleFrom A c n x p wr (hp.up Bw.out) lp ip hx hn).mono ?_
      rintro e w2 ⟨A2, m2, c2, rfl, s2, hm2, b2⟩
      have S2 := Lib.hid s2
      have B2 := Lib.hid b2
      have Bel2 : Hid (Below w1.heap.size w1 w2) := Lib.hid (btr Bel.out b2)
      have Ss2 := Lib.hid (Ss.out.up b2)
      have D2 := Lib.hid (lies_dis Ss.out s2.lies (Nat.le_refl _))
      clear s2 b2 c0
      go_wp2_with (first | (at_builtin; refine wpList_app2 rfl _ _ rfl rfl (Ss2.out.alloc _) w2.heap.size A2 m2 c2 _ rfl (by rw [World.cell?_alloc_at _ _ _ _ rfl]; rfl) ((S2.out.mono Bel.out.size).alloc _) D2.out (by omega) (by have := Bel2.out.size; simp; omega) ?_; intro A3 c3 w3 ss3 hg3))
      have Ss3 := Lib.hid ss3
      have Bel3 : Hid (Below w1.heap.size w1 w3) := Lib.hid ((Bel2.out.alloc Bel2.out.size _).grown hg3 (by have := Bel2.out.size; simp; omega) (fun j hj => (Ss.out.lt_ j hj).1))
      clear ss3 hg3
      go_wp2
      go_roundw
      case rel =>
        refine ⟨k + 1, A3, c3, vs ++ [(A2, m2, c2)], by omega, by go_num, rfl, ?_, Bel3.out⟩
        rw [List.take_succ_eq_append_getElem (by rw [lm.out]; exact hlt), List.map_append]
        have e2 : (heads p n)[k]'(by rw [lm.out]; exact hlt) = x := by rw [← Ex.out, List.getD_eq_getElem?_getD, List.getElem?_eq_getElem (by rw [lm.out]; exact hlt)]; rfl
        rw [e2]
        exact Ss3.out
      case measure => simp [intOf]; omega
    · have hkm : k = m := by omega
      subst hkm
      have Fin : Hid ((((heads p n).take k).map (cyc p)) = cycs p) := Lib.hid (by rw [List.take_of_length_le (by rw [lm.out]; exact Nat.le_refl _), cycs_heads, lp.out])
      go_wp2
      go_ret
      exact ⟨_, _, _, _, rfl, by rw [← Fin.out]; exact Ss.out.mono B1.out.size B1.out.size, hm, Bw.out⟩

set_option maxHeartbeats 800000 in
/-- The model's allCycles. -/
theorem specAll (A : Option Addr) (c n : Nat) (p : List Int) (w : World) (hp : RI w w.heap.size A p) (lp : Hid (p.length = n)) (ip : Hid (IsP p)) (hn : n ≤ 20) :
    Calls Try.prog 116 #[.slice A n c] w fun e w' => ∃ A' m c' vs, e = .returned (.slice A' m c') ∧ SS w' w.heap.size w.heap.size A' m c' vs (cycs p) ∧ m ≤ n ∧ Below w.heap.size w w' := by
  go_enter Try.func116, Try.ntmps116
  go_wp2
  go_loopw [3, 4, 5] (fun v i _ wr => ∃ k A' m c' vs, k ≤ n ∧ m ≤ k ∧ i = .int .i64 (k : Nat) ∧ v = .slice A' m c' ∧ SS wr w.heap.size w.heap.size A' m c' vs ((heads p k).map (cyc p)) ∧ Below w.heap.size w wr) (fun _ i _ _ => n - (intOf i).toNat)
  case atStart => exact ⟨0, _, _, _, _, Nat.zero_le _, Nat.le_refl _, rfl, rfl, SS.lit0 w _ _ (Nat.le_refl _), (Below.refl _ _).alloc (Nat.le_refl _) _⟩
  case round =>
    obtain ⟨k, A', m, c', vs, hk, hmk, rfl, rfl, ss, bel⟩ := hrel
    have Ss := Lib.hid ss
    have Bel := Lib.hid bel
    clear ss bel
    by_cases hlt : k < n
    · have Per := Lib.hid (per_spec ip.out (x := k) (by rw [lp.out]; exact hlt))
      have hp1 := Per.out.1
      have hp2 : per p k ≤ 20 := by have := Per.out.2.1; have := lp.out; omega
      rcases hst : st p k with _ | _
      · have Hst := Lib.hid hst
        clear hst
        go_wp2_with fail
        refine (specCycleOf A c n k p wr (hp.up Bel.out) lp ip hlt hn).mono ?_
        rintro e w2 ⟨A2, m2, c2, rfl, s2, hm2, b2⟩
        have S2 := Lib.hid s2
        have Bel2 : Hid (Below w.heap.size w w2) := Lib.hid (btr Bel.out b2)
        have Ss2 := Lib.hid (Ss.out.up b2)
        have lm2 : Hid (per p k = m2) := Lib.hid (by rw [← s2.1, cyc_length])
        have h1m2 : 1 ≤ m2 := by rw [← lm2.out]; exact hp1
        clear s2 b2
        go_wp2_with fail
        refine (specSmallest A2 c2 m2 k p w2 S2.out.ri_ lm2 h1m2 hm2 false Hst).mono ?_
        rintro e w3 ⟨rfl, b3⟩
        have Bel3 : Hid (Below w.heap.size w w3) := Lib.hid (btr Bel2.out b3)
        have Ss3 := Lib.hid (Ss2.out.up b3)
        clear b3
        go_wp2_with fail
        go_roundw
        case rel => exact ⟨k + 1, A', m, c', vs, by omega, by omega, by go_num, rfl, by rw [heads_no Hst.out]; exact Ss3.out, Bel3.out⟩
        case measure => simp [intOf]; omega
      · have Hst := Lib.hid hst
        clear hst
        go_wp2_with fail
        refine (specCycleOf A c n k p wr (hp.up Bel.out) lp ip hlt hn).mono ?_
        rintro e w2 ⟨A2, m2, c2, rfl, s2, hm2, b2⟩
        have S2 := Lib.hid s2
        have Bel2 : Hid (Below w.heap.size w w2) := Lib.hid (btr Bel.out b2)
        have Ss2 := Lib.hid (Ss.out.up b2)
        have D2 := Lib.hid (lies_dis Ss.out s2.lies (Nat.le_refl _))
        have lm2 : Hid (per p k = m2) := Lib.hid (by rw [← s2.1, cyc_length])
        have h1m2 : 1 ≤ m2 := by rw [← lm2.out]; exact hp1
        clear s2 b2
        go_wp2_with fail
        refine (specSmallest A2 c2 m2 k p w2 S2.out.ri_ lm2 h1m2 hm2 true Hst).mono ?_
        rintro e w3 ⟨rfl, b3⟩
        have Bel3 : Hid (Below w.heap.size w w3) := Lib.hid (btr Bel2.out b3)
        have Ss3 := Lib.hid (Ss2.out.up b3)
        have S3 := Lib.hid (S2.out.up b3)
        clear b3
        go_wp2_with (first | (at_builtin; refine wpList_app2 rfl _ _ rfl rfl (Ss3.out.alloc _) w3.heap.size A2 m2 c2 _ rfl (by rw [World.cell?_alloc_at _ _ _ _ rfl]; rfl) ((S3.out.mono Bel.out.size).alloc _) D2.out (by omega) (by have := Bel3.out.size; simp; omega) ?_; intro A4 c4 w4 ss4 hg4))
        have Ss4 := Lib.hid ss4
        have Bel4 : Hid (Below w.heap.size w w4) := Lib.hid ((Bel3.out.alloc Bel3.out.size _).grown hg4 (by have := Bel3.out.size; simp; omega) (fun j hj => (Ss.out.lt_ j hj).1))
        clear ss4 hg4
        go_wp2
        go_roundw
        case rel => exact ⟨k + 1, A4, m + 1, c4, _, by omega, by omega, by go_num, rfl, by rw [heads_yes Hst.out, List.map_append]; exact Ss4.out, Bel4.out⟩
        case measure => simp [intOf]; omega
    · have hkn : k = n := by omega
      subst hkn
      have Fin : Hid ((heads p k).map (cyc p) = cycs p) := Lib.hid (by rw [cycs_heads, lp.out])
      go_wp2
      go_ret
      exact ⟨_, _, _, _, rfl, by rw [← Fin.out]; exact Ss.out, hmk, Bel.out⟩
end Go.Proofs.Ytonanelghnjhpaa

/- Plain facts on cycle types: the lengths of all cycles, in descending order. No Go in it. No condition. -/
namespace Go.Proofs.Ytonanelghnjhpaa

def lens (p : List Int) : List Nat := (cycs p).map List.length
/-- Those of the numbers that are at most n, and at least 1, in descending order. -/
def desc : Nat → List Nat → List Int
  | 0, _ => []
  | n + 1, l => List.replicate (l.count (n + 1)) (((n + 1 : Nat) : Int)) ++ desc n l
def ctype (p : List Int) : List Int := desc p.length (lens p)
def ctypeL (p : List Int) : List Int := if isP p = true then ctype p else []
theorem desc_count (n : Nat) (l : List Nat) (x : Int) : (desc n l).count x = if 1 ≤ x ∧ x ≤ n then l.count x.toNat else 0 := by
  induction n with
  | zero => rw [if_neg (by omega)]; rfl
  | succ n ih =>
    rw [desc, List.count_append, ih, List.count_replicate]
    by_cases e : x = ((n + 1 : Nat) : Int)
    · subst e
      rw [if_pos (by simp), if_neg (by omega), if_pos (by omega)]; simp
    · rw [if_neg (by simpa using Ne.symm e)]
      by_cases h : 1 ≤ x ∧ x ≤ n
      · rw [if_pos h, if_pos (by omega)]; omega
      · rw [if_neg h, if_neg (by omega)]
theorem desc_mem (n : Nat) (l : List Nat) {x : Int} (h : x ∈ desc n l) : 1 ≤ x ∧ x ≤ n := by
  have := List.count_pos_iff.2 h
  rw [desc_count] at this
  split at this
  · assumption
  · omega
theorem desc_sorted (n : Nat) (l : List Nat) : (desc n l).Pairwise fun a b => b ≤ a := by
  induction n with
  | zero => exact List.Pairwise.nil
  | succ n ih =>
    rw [desc, List.pairwise_append]
    refine ⟨List.pairwise_replicate.2 (.inr (Int.le_refl _)), ih, fun a ha b hb => ?_⟩
    rw [List.mem_replicate] at ha
    have := desc_mem n l hb
    omega
theorem sort_desc (n : Nat) (l : List Nat) (h : ∀ x ∈ l, 1 ≤ x ∧ x ≤ n) : ((l.map Int.ofNat).mergeSort fun x y => decide (x ≤ y)).reverse = desc n l := by
  apply List.Perm.eq_of_pairwise (le := fun (a b : Int) => b ≤ a)
  · intro a b _ _ h1 h2; omega
  · rw [List.pairwise_reverse]
    have := List.pairwise_mergeSort (le := fun (x y : Int) => decide (x ≤ y)) (fun a b c h1 h2 => by simp at *; omega) (fun a b => by simp; omega) (l.map Int.ofNat)
    exact this.imp fun h => by simpa using h
  · exact desc_sorted n l
  · refine (List.reverse_perm _).trans ((List.mergeSort_perm _ _).trans ?_)
    rw [List.perm_iff_count]
    intro x
    rw [desc_count]
    by_cases hx : 0 ≤ x
    · have e1 : (l.map Int.ofNat).count x = l.count x.toNat := by
        clear h
        induction l with
        | nil => rfl
        | cons a t ih =>
          rw [List.map_cons, List.count_cons, List.count_cons, ih]
          by_cases e : a = x.toNat
          · have e2 : Int.ofNat a = x := by rw [e]; simp; omega
            rw [if_pos (by simpa using e2), if_pos (by simpa using e)]
          · have e2 : Int.ofNat a ≠ x := by intro e3; apply e; rw [← e3]; rfl
            have : ¬ ((a : Int) = x) := e2
            simp [e, this]
      rw [e1]
      split
      · rfl
      · rename_i hn
        rw [List.count_eq_zero]
        intro hm
        have := h _ hm
        omega
    · rw [if_neg (by omega), List.count_eq_zero]
      intro hm
      rw [List.mem_map] at hm
      obtain ⟨a, _, e⟩ := hm
      have : (a : Int) = x := e
      omega
theorem lens_heads (p : List Int) : lens p = (heads p p.length).map (per p) := by
  unfold lens; rw [cycs_heads, List.map_map]; congr 1; funext x; simp [cyc_length]
theorem lens_mem {p : List Int} (h : IsP p) : ∀ x ∈ lens p, 1 ≤ x ∧ x ≤ p.length := by
  intro x hx
  rw [lens_heads, List.mem_map] at hx
  obtain ⟨a, ha, rfl⟩ := hx
  have ha' : a < p.length := List.mem_range.1 (List.mem_filter.1 ha).1
  have := per_spec h ha'
  exact ⟨this.1, this.2.1⟩
theorem ctype_sort {p : List Int} (h : IsP p) : (((lens p).map Int.ofNat).mergeSort fun x y => decide (x ≤ y)).reverse = ctype p := sort_desc _ _ (lens_mem h)
theorem lens_len (p : List Int) : (lens p).length = (cycs p).length := by simp [lens]
theorem cycs_pos {p : List Int} (h : IsP p) : 1 ≤ (cycs p).length := by
  obtain ⟨c, j, hc, hs, _⟩ := min_ex h (x := 0) (by have := h.pos; omega)
  rw [cycs_heads, List.length_map]
  have : c ∈ heads p p.length := List.mem_filter.2 ⟨List.mem_range.2 hc, hs⟩
  cases e : heads p p.length with
  | nil => rw [e] at this; cases this
  | cons => simp
theorem ctype_len {p : List Int} (h : IsP p) : (ctype p).length = (cycs p).length := by rw [← ctype_sort h, List.length_reverse, List.length_mergeSort, List.length_map, lens_len]
/-- The lengths of the first k cycles. -/
def lensI (p : List Int) (k : Nat) : List Int := ((lens p).take k).map Int.ofNat
theorem lensI_succ {p : List Int} {k l : Nat} (hk : k < (lens p).length) (e : (lens p)[k] = l) : lensI p (k + 1) = lensI p k ++ [(l : Int)] := by
  unfold lensI; rw [List.take_succ_eq_append_getElem hk, List.map_append, e]; rfl
theorem count_take {l : List Nat} {k x y : Nat} (hk : k < l.length) (e : l[k] = y) : (l.take (k + 1)).count x = (l.take k).count x + if y = x then 1 else 0 := by
  rw [List.take_succ_eq_append_getElem hk, List.count_append, e, List.count_singleton]
  simp
end Go.Proofs.Ytonanelghnjhpaa

/- CycleType of the model; lists held against each other. No condition but lengths. -/
namespace Go.Proofs.Ytonanelghnjhpaa
open Go.RowKit

/-- append of one number, with the place of what comes back. -/
theorem wpList_app1_at {w : World} {ops : Array Oper} {rest : List Oper} {o : Oper} {a : Act} {Q : Exit → Act → World → Prop} (hgd : o.guard = none) (s x : Operand)
    (ho : o.op = .call { callee := .builtin .append, args := #[s, x], argTypes := #[28, 28] })
    (base : Nat) (A : Option Addr) (n c : Nat) (xs : List Int) (hs : a.eval s = .slice A n c) (hown : Slc w base A n c xs) (g : Nat) (u : Int) (hx : a.eval x = .slice (some ⟨g, 0, none⟩) 1 1)
    (hcell : w.cell? ⟨g, 0, none⟩ = some (.int .i64 u)) (hn : n ≤ 1000000000000) (hbase : base ≤ w.heap.size)
    (h : ∀ A' c' w', Slc w' base A' (n + 1) c' (xs ++ [u]) → w.grownBy w' (Value.slice A n c).ownBlock → ((Value.slice A' (n + 1) c').ownBlock = (Value.slice A n c).ownBlock ∨ (Value.slice A' (n + 1) c').ownBlock = some w.heap.size) → wpList Try.prog ops Q rest (a.put o.dst (.slice A' (n + 1) c')) w') : wpList Try.prog ops Q (o :: rest) a w := by
  obtain ⟨i0, hi, hz0, hz1, hz2⟩ := info_parts infoI
  obtain ⟨hl, ho'⟩ := hown
  subst hl
  refine wpList_append_own_at w hgd s x 28 ho base 2 i0 (.int .i64 0) 1 8 Try.underlying28 hi hz0 hz1 hz2 rfl (by decide) _ xs.length _ hs ho' ⟨g, 0, none⟩ 1 1 [.int .i64 u] hx rfl ?_ ?_ ?_ (by omega) hbase ?_
  · intro j v hj
    match j, hj with
    | 0, hj => simp at hj; subst hj; simpa [Addr.add] using hcell
    | j + 1, hj => simp at hj
  · intro v hv; simp at hv; subst hv; rfl
  · unfold maxLen; omega
  · intro v' w' hown' hg _ hat
    have hO : Own w' base v' (xs ++ [u]) := by
      unfold Own
      rw [List.length_append, List.map_append]
      exact hown'
    obtain ⟨A', c', rfl, hS⟩ := Slc.of_own (n := xs.length + 1) hO (by simp)
    exact h A' c' w' hS hg hat


set_option maxHeartbeats 1600000 in
/-- The model's CycleType. -/
theorem specCycleType (A : Option Addr) (c n : Nat) (p : List Int) (w : World) (hp : RI w w.heap.size A p) (lp : Hid (p.length = n)) (hn : n ≤ 2097152) (hc : n ≤ c) :
    Calls Try.prog 85 #[.slice A n c] w fun e w' => ∃ A' n' c', e = .returned (.slice A' n' c') ∧ Slc w' w.heap.size A' n' c' (ctypeL p) ∧ n' ≤ 20 ∧ Below w.heap.size w w' := by
  have hp1 : RI (w.alloc (.cells #[] 2)) (w.alloc (.cells #[] 2)).heap.size A p := (hp.alloc (Nat.le_refl _) _).more (by simp)
  rcases hs : isP p with _ | _
  · have Fin : Hid (ctypeL p = []) := Lib.hid (if_neg (by rw [hs]; decide))
    have HP1 := Lib.hid hp1
    clear hp1
    go_enter Try.func85, Try.ntmps85
    go_wp2_with fail
    refine (quiet_below (specIsP A c n p _ HP1.out lp hn hc)).mono ?_
    rintro e w1 ⟨rfl, b1⟩
    have B1 : Hid (Below w.heap.size w w1) := Lib.hid (((Below.refl _ _).alloc (Nat.le_refl _) _).trans (b1.mono (by simp)))
    have S1 : Hid (Slc w1 w.heap.size (some ⟨w.heap.size, 0, none⟩) 0 0 []) := Lib.hid ((Slc.lit0 w _ (Nat.le_refl _)).up b1)
    clear b1
    go_wp2_with fail
    go_ret
    exact ⟨_, _, _, rfl, by rw [Fin.out]; exact S1.out, Nat.zero_le _, B1.out⟩
  · have Ip := Lib.hid (isP_iff.1 hs)
    have Fin : Hid (ctypeL p = desc n (lens p)) := Lib.hid ((if_pos hs).trans (by unfold ctype; rw [lp.out]))
    have hn20 : n ≤ 20 := by rw [← lp.out]; exact Ip.out.le
    have HP1 := Lib.hid hp1
    clear hp1
    go_enter Try.func85, Try.ntmps85
    go_wp2_with fail
    refine (quiet_below (specIsP A c n p _ HP1.out lp hn hc)).mono ?_
    rintro e w0 ⟨rfl, b0⟩
    have B0 : Hid (Below w.heap.size w w0) := Lib.hid (((Below.refl _ _).alloc (Nat.le_refl _) _).trans (b0.mono (by simp)))
    have S0 : Hid (Slc w0 w.heap.size (some ⟨w.heap.size, 0, none⟩) 0 0 []) := Lib.hid ((Slc.lit0 w _ (Nat.le_refl _)).up b0)
    have Z0 : w.heap.size + 1 ≤ w0.heap.size := by have := b0.size; simpa using this
    clear b0
    go_wp2_with fail
    refine (specAll A c n p w0 (hp.up B0.out) lp Ip hn20).mono ?_
    rintro e w1 ⟨A1, M, c1, vs, rfl, s1, hm, b1⟩
    have S1 := Lib.hid s1
    have B1 : Hid (Below w.heap.size w w1) := Lib.hid (btr B0.out b1)
    have S0' := Lib.hid (S0.out.up b1)
    have LM : Hid ((lens p).length = M) := Lib.hid ((lens_len p).trans s1.lx)
    have Lc : Hid ((desc n (lens p)).length ≤ 20) := Lib.hid (by
      have := ctype_len Ip.out
      unfold ctype at this
      rw [lp.out] at this
      rw [this, s1.lx]; omega)
    clear s1 b1
    go_wp2_with fail
    clear hs
    go_loopg [3, 5, 6] n (fun gg v nn _ wr => ∃ k m A' c' xs, k ≤ n ∧ k ≤ gg ∧ nn = .int .i64 (k : Nat) ∧ v = .slice A' m c' ∧ Slc wr w.heap.size A' m c' xs ∧ xs ++ desc k (lens p) = desc n (lens p) ∧
      (∀ b, (Value.slice A' m c').ownBlock = some b → b < w0.heap.size ∨ w1.heap.size ≤ b) ∧ (∀ b, w0.heap.size ≤ b → b < w1.heap.size → wr.heap[b]? = w1.heap[b]?) ∧ w1.heap.size ≤ wr.heap.size ∧ Below w.heap.size w wr)
    case atStart => exact ⟨n, 0, _, _, [], Nat.le_refl _, Nat.le_refl _, rfl, rfl, S0'.out, rfl, fun b hb => by simp [Value.ownBlock] at hb; left; omega, fun b _ _ => rfl, Nat.le_refl _, B1.out⟩
    case round =>
      obtain ⟨k, m, A', c', xs, hk, hgk, rfl, rfl, ss, hcat, ob, md, sz, bel⟩ := hrel
      have hm4 : m ≤ 20 := by have h1 := congrArg List.length hcat; rw [List.length_append, ss.1] at h1; have := Lc.out; omega
      have Ss := Lib.hid ss
      have Cat := Lib.hid hcat
      have Ob := Lib.hid ob
      have Md := Lib.hid md
      have Bel := Lib.hid bel
      clear ss bel ob md hcat
      by_cases hlt : 0 < k
      · obtain ⟨k, rfl⟩ : ∃ j, k = j + 1 := ⟨k - 1, by omega⟩
        go_wp2
        go_loopg [3, 6] M (fun gg v i wr2 => ∃ j m2 A2 c2, j ≤ M ∧ M - j ≤ gg ∧ m2 ≤ m + j ∧ i = .int .i64 (j : Nat) ∧ v = .slice A2 m2 c2 ∧ Slc wr2 w.heap.size A2 m2 c2 (xs ++ List.replicate (((lens p).take j).count (k + 1)) ((k + 1 : Nat) : Int)) ∧
          (∀ b, (Value.slice A2 m2 c2).ownBlock = some b → b < w0.heap.size ∨ w1.heap.size ≤ b) ∧ (∀ b, w0.heap.size ≤ b → b < w1.heap.size → wr2.heap[b]? = w1.heap[b]?) ∧ w1.heap.size ≤ wr2.heap.size ∧ Below w.heap.size w wr2)
        case atStart => exact ⟨0, m, _, _, Nat.zero_le _, by omega, by omega, rfl, rfl, by simpa using Ss.out, Ob.out, Md.out, sz, Bel.out⟩
        case round =>
          obtain ⟨j, m2, A2, c2, hj, hgj, hm2, rfl, rfl, ss2, ob2, md2, sz2, bel2⟩ := hrel
          have Ss2 := Lib.hid ss2
          have Ob2 := Lib.hid ob2
          have Md2 := Lib.hid md2
          have Bel2 := Lib.hid bel2
          have Sr := Lib.hid (S1.out.mid md2 (Nat.le_refl _) (Nat.le_refl _))
          clear ss2 ob2 md2 bel2
          by_cases hjl : j < M
          · obtain ⟨g, rfl, hg1, hg2, hcc⟩ := Sr.out.at_ (by omega)
            have c0 := hcc j hjl
            have hrow := S1.out.row j hjl
            obtain ⟨l, el⟩ : ∃ l, (vs.getD j sd0).2.1 = l := ⟨_, rfl⟩
            obtain ⟨A5, e5⟩ : ∃ A5, (vs.getD j sd0).1 = A5 := ⟨_, rfl⟩
            obtain ⟨c5, ec5⟩ : ∃ c5, (vs.getD j sd0).2.2 = c5 := ⟨_, rfl⟩
            rw [e5, el, ec5] at c0 hrow
            have Lj : Hid ((lens p)[j]'(by rw [LM.out]; exact hjl) = l) := Lib.hid (by
              have := hrow.1
              rw [List.getD_eq_getElem?_getD, List.getElem?_eq_getElem (by rw [S1.out.lx]; exact hjl)] at this
              rw [← this]; simp [lens])
            have hll := (hrow.le).2
            unfold maxLen at hll
            clear hrow el e5 ec5 hcc
            by_cases hle : l = k + 1
            · subst hle
              have Nx : Hid (List.replicate (((lens p).take (j + 1)).count (k + 1)) ((k + 1 : Nat) : Int) = List.replicate (((lens p).take j).count (k + 1)) ((k + 1 : Nat) : Int) ++ [((k + 1 : Nat) : Int)]) := Lib.hid (by
                rw [count_take (by rw [LM.out]; exact hjl) Lj.out, if_pos rfl, List.replicate_succ']; )
              clear Lj
              go_wp2_with (first | (at_builtin; refine wpList_app1_at rfl _ _ rfl w.heap.size A2 m2 c2 _ rfl (Ss2.out.alloc _) wr.heap.size (((k + 1 : Nat) : Int)) rfl (by rw [World.cell?_alloc_at _ _ _ _ rfl]; rfl) (by omega) (by have := Bel2.out.size; simp; omega) ?_; intro A3 c3 w3 ss3 hg3 hat3))
              have Ss3 := Lib.hid ss3
              have Bel3 : Hid (Below w.heap.size w w3) := Lib.hid ((Bel2.out.alloc Bel2.out.size _).grown hg3 (by have := Bel2.out.size; simp; omega) (fun j hj => (Ss2.out.lt_ j hj).1))
              have Hg3 := Lib.hid hg3
              have Hat3 := Lib.hid hat3
              have Sz3 : w1.heap.size ≤ w3.heap.size := by have := hg3.size; simp at this; omega
              clear ss3 hg3 hat3
              go_wp2
              go_roundg (M - (j + 1))
              case rel =>
                refine ⟨j + 1, m2 + 1, A3, c3, by omega, by omega, by omega, by go_num, rfl, by rw [Nx.out, ← List.append_assoc]; exact Ss3.out, fun b hb => ?_, fun b hb1 hb2 => ?_, Sz3, Bel3.out⟩
                · rcases Hat3.out with e | e
                  · exact Ob2.out b (by rw [← e]; exact hb)
                  · rw [e] at hb; injection hb with hb; simp at hb; right; omega
                · rw [Hg3.out.block b (by simp; omega) (fun e => by have := Ob2.out b e.symm; omega), Below.heap_alloc _ _ _ (by omega)]
                  exact Md2.out b hb1 hb2
              case measure => omega
            · have Nx : Hid (((lens p).take (j + 1)).count (k + 1) = ((lens p).take j).count (k + 1)) := Lib.hid (by
                rw [count_take (by rw [LM.out]; exact hjl) Lj.out, if_neg hle]; rfl)
              clear Lj
              have hne : ((l : Int) == ((k + 1 : Nat) : Int)) = false := by rw [beq_eq_false_iff_ne]; omega
              go_wp2
              go_roundg (M - (j + 1))
              case rel => exact ⟨j + 1, m2, A2, c2, by omega, by omega, by omega, by go_num, rfl, by rw [Nx.out]; exact Ss2.out, Ob2.out, Md2.out, sz2, Bel2.out⟩
              case measure => omega
          · have hjM : j = M := by omega
            subst hjM
            have Fk : Hid ((lens p).take j = lens p) := Lib.hid (List.take_of_length_le (by rw [LM.out]; exact Nat.le_refl _))
            go_wp2
            go_roundg k
            case rel => exact ⟨k, m2, A2, c2, _, by omega, Nat.le_refl _, by go_num, rfl, Ss2.out, by rw [Fk.out, List.append_assoc]; exact Cat.out, Ob2.out, Md2.out, sz2, Bel2.out⟩
            case measure => omega
      · obtain rfl : k = 0 := by omega
        have Fq : Hid (xs = ctypeL p) := Lib.hid (by have := Cat.out; rw [desc, List.append_nil] at this; rw [this, Fin.out])
        go_wp2
        go_ret
        exact ⟨_, _, _, rfl, by rw [← Fq.out]; exact Ss.out, hm4, Bel.out⟩

set_option maxHeartbeats 400000 in
theorem equalIs_core (A B : Option Addr) (c d n : Nat) (xs ys : List Int) (w : World) (hx : RI w w.heap.size A xs) (hy : RI w w.heap.size B ys) (lx : Hid (xs.length = n)) (ly : Hid (ys.length = n)) (hn : n ≤ 2097152) :
    Calls Try.prog 89 #[.slice A n c, .slice B n d] w fun e w' => e = .returned (.bool (decide (xs = ys))) ∧ ∃ m, w' = w.drewN m := by
  go_enter Try.func89, Try.ntmps89
  go_wp2
  go_loopw [5] (fun i wr => ∃ k : Nat, k ≤ n ∧ i = .int .i64 k ∧ (∀ j, j < k → xs.getD j 0 = ys.getD j 0) ∧ ∃ m, wr = w.drewN m) (fun i _ => n - (intOf i).toNat)
  case atStart => exact ⟨0, Nat.zero_le _, rfl, fun j h => absurd h (by omega), 0, rfl⟩
  case round =>
    obtain ⟨k, hk, rfl, heq, m, rfl⟩ := hrel
    have Heq := Lib.hid heq
    clear heq
    by_cases hlt : k < n
    · obtain ⟨b, off, rfl, hb, hc⟩ := hx (by rw [lx.out]; omega)
      obtain ⟨b', off', rfl, hb', hc'⟩ := hy (by rw [ly.out]; omega)
      have c1 := hc k (by rw [lx.out]; omega)
      have c2 := hc' k (by rw [ly.out]; omega)
      obtain ⟨x, ex⟩ : ∃ x, xs.getD k 0 = x := ⟨_, rfl⟩
      obtain ⟨y, ey⟩ : ∃ y, ys.getD k 0 = y := ⟨_, rfl⟩
      rw [ex] at c1
      rw [ey] at c2
      have Ex := Lib.hid ex
      have Ey := Lib.hid ey
      clear ex ey hc hc' hx hy
      have p1 : (0 : Int) ≤ k := by omega
      have p2 : (k : Int) < n := by omega
      by_cases hxy : x = y
      · subst hxy
        go_wp2
        go_quiet (fail)
        go_wp2
        go_roundw
        case rel => exact ⟨k + 1, by omega, by go_num, fun j hj => by
          by_cases e : j = k
          · subst e; rw [Ex.out, Ey.out]
          · exact Heq.out j (by omega), _, rfl⟩
        case measure => simp [intOf]; omega
      · have hd : (x != y) = true := by simpa using hxy
        have hd' : (x == y) = false := by simpa using hxy
        go_wp2
        go_quiet (fail)
        go_wp2
        go_ret
        refine ⟨ret_bool (Eq.symm (decide_eq_false fun e => hxy ?_)), _, World.drewN_drewN _ _ _⟩
        rw [← Ex.out, ← Ey.out, e]
    · go_wp2
      go_ret
      have : k = n := by omega
      subst this
      exact ⟨ret_bool (Eq.symm (decide_eq_true (ext_getD lx.out ly.out Heq.out))), _, rfl⟩
theorem equalIs (A B : Option Addr) (c d n m : Nat) (xs ys : List Int) (w : World) (hx : RI w w.heap.size A xs) (hy : RI w w.heap.size B ys) (lx : Hid (xs.length = n)) (ly : Hid (ys.length = m)) (hn : n ≤ 2097152) (hm : m ≤ 2097152) :
    Calls Try.prog 89 #[.slice A n c, .slice B m d] w fun e w' => e = .returned (.bool (decide (xs = ys))) ∧ ∃ m, w' = w.drewN m := by
  by_cases hl : n = m
  · subst hl
    exact equalIs_core A B c d n xs ys w hx hy lx ly hn
  · have hd : ((n : Int) != (m : Int)) = true := by rw [bne_iff_ne]; omega
    have hd' : ((n : Int) == (m : Int)) = false := by rw [beq_eq_false_iff_ne]; omega
    go_enter Try.func89, Try.ntmps89
    go_wp2
    go_ret
    refine ⟨ret_bool (Eq.symm (decide_eq_false fun e => hl ?_)), 0, rfl⟩
    rw [← lx.out, ← ly.out, e]


end Go.Proofs.Ytonanelghnjhpaa

/- Members and CountMembersOfType of the model. Conditions: at most 1048576 lists of at most 1048576 numbers. -/
namespace Go.Proofs.Ytonanelghnjhpaa
open Go.RowKit

/-- What CountMembersOfType answers. -/
def IsCty (a : Int) (gs : List (List Int)) (kd : List Int) (v : Int) : Prop := (Few a gs ∧ ∃ c : Nat, Crd (fun q => Mb gs a.toNat q ∧ ctypeL q = kd) c ∧ v = (c : Int)) ∨ (¬ Few a gs ∧ v = -1)
theorem IsCty.uniq {a v v' : Int} {gs : List (List Int)} {kd : List Int} (h : IsCty a gs kd v) (h' : IsCty a gs kd v') : v = v' := by
  rcases h with ⟨e, c, h, rfl⟩ | ⟨e, rfl⟩ <;> rcases h' with ⟨e', c', h', rfl⟩ | ⟨e', rfl⟩
  · rw [Crd.uniq h h']
  · exact absurd e e'
  · exact absurd e' e
  · rfl
/-- How many of the first k have the cycle type. -/
def cty (kd : List Int) (l : List (List Int)) (k : Nat) : Nat := (l.take k).countP fun q => decide (ctypeL q = kd)
theorem cty_succ {kd : List Int} {l : List (List Int)} {k : Nat} {y : List Int} (hk : k < l.length) (ey : l.getD k [] = y) : cty kd l (k + 1) = cty kd l k + if decide (ctypeL y = kd) = true then 1 else 0 := by
  rw [List.getD_eq_getElem?_getD, List.getElem?_eq_getElem hk] at ey
  have e' : l[k] = y := ey
  unfold cty
  rw [List.take_succ_eq_append_getElem hk, List.countP_append, e']
  simp [List.countP_cons]
theorem cty_le (kd : List Int) (l : List (List Int)) (k : Nat) : cty kd l k ≤ l.length := Nat.le_trans List.countP_le_length (by rw [List.length_take]; omega)
theorem IsMbs.cty {a : Int} {gs l : List (List Int)} {kd : List Int} (h : IsMbs a gs l) (hf : Few a gs) : IsCty a gs kd (cty kd l l.length : Nat) := by
  rcases h with ⟨_, hs, hm⟩ | ⟨hn, _⟩
  · refine .inl ⟨hf, _, ⟨l.filter fun q => decide (ctypeL q = kd), (lx_nodup hs).filter _, fun p => ?_, ?_⟩, rfl⟩
    · rw [List.mem_filter, hm, decide_eq_true_eq]
    · unfold Proofs.Ytonanelghnjhpaa.cty; rw [List.take_length, List.countP_eq_length_filter]
  · exact absurd hf hn

set_option maxHeartbeats 1000000 in
set_option maxRecDepth 100000 in
theorem ctMbs : CtImM 23 IsMbs := by
  intro a A n c vs xss w hG ha
  have HG := Lib.hid hG
  have hlx : Hid (xss.length = n) := Lib.hid hG.rr.lx
  clear hG
  go_enter Try.func23, Try.ntmps23
  go_wp2_with fail
  refine (specGS a A n c vs xss w HG.out.rr HG.out.hn (Lib.hid HG.out.hl) ha).mono ?_
  rintro e w1 ⟨rfl, b1⟩
  have B1 := Lib.hid b1
  have G1 := Lib.hid (HG.out.up b1)
  have hz1 := b1.size
  clear b1
  rcases hs : gB a xss with _ | _
  · have Fin : Hid (IsMbs a xss []) := Lib.hid (.inr ⟨fun h => (by have := h.1; rw [hs] at this; cases this), rfl⟩)
    have S0 := Lib.hid (SS.lit0 w1 w.heap.size w.heap.size hz1)
    clear hs
    go_wp2_with fail
    go_ret
    exact ⟨_, _, _, _, _, rfl, S0.out, Fin.out, B1.out.alloc hz1 _⟩
  · obtain ⟨N, rfl, hN1, hN2, hg8, hpm, hok⟩ := gB_pm hs
    have Hs := Lib.hid hs
    have Ok : Hid (∀ g ∈ xss, Pn N g) := Lib.hid hok
    have hn8 : n ≤ 8 := by rw [← hlx.out]; exact hg8
    clear hs hpm hok hg8
    go_wp2_with fail
    refine (specAllM N n c A vs xss w1 G1.out.rr hN1 hN2 hn8 Ok Hs).mono ?_
    rintro e w2 ⟨A2, m2, c2, us, l, rfl, s2, r2, b2⟩
    have S2 := Lib.hid (s2.mono hz1 hz1)
    have R2 := Lib.hid r2
    have B2 : Hid (Below w.heap.size w w2) := Lib.hid (btr B1.out b2)
    clear s2 r2 b2
    go_wp2_with fail
    go_ret
    exact ⟨_, _, _, _, _, rfl, S2.out, R2.out, B2.out⟩

set_option maxHeartbeats 4000000 in
set_option maxRecDepth 100000 in
theorem ctCty : CtImsI 39 IsCty := by
  intro a A n c vs xss P np cp p w hG hS ha
  have HG := Lib.hid hG
  have HS := Lib.hid hS
  have lp : Hid (p.length = np) := Lib.hid hS.lp
  have hnp := hS.hn
  have hlx : Hid (xss.length = n) := Lib.hid hG.rr.lx
  clear hG hS
  go_enter Try.func39, Try.ntmps39
  go_wp2_with fail
  refine (specGS a A n c vs xss w HG.out.rr HG.out.hn (Lib.hid HG.out.hl) ha).mono ?_
  rintro e w1 ⟨rfl, b1⟩
  have B1 := Lib.hid b1
  have G1 := Lib.hid (HG.out.up b1)
  have P1 := Lib.hid (HS.out.ri.up b1)
  clear b1
  rcases hs : gB a xss with _ | _
  · have Fin : Hid (IsCty a xss p (-1)) := Lib.hid (.inr ⟨fun h => (by have := h.1; rw [hs] at this; cases this), rfl⟩)
    clear hs
    go_wp2_with fail
    go_ret
    exact ⟨_, rfl, Fin.out, B1.out⟩
  · obtain ⟨N, rfl, hN1, hN2, hg8, hpm, hok⟩ := gB_pm hs
    have Hs := Lib.hid hs
    have Ok : Hid (∀ g ∈ xss, Pn N g) := Lib.hid hok
    have hn8 : n ≤ 8 := by rw [← hlx.out]; exact hg8
    clear hs hpm hok hg8
    go_wp2_with fail
    refine (specAllM N n c A vs xss w1 G1.out.rr hN1 hN2 hn8 Ok Hs).mono ?_
    rintro e w2 ⟨A2, m2, c2, us, l, rfl, s2, r2, b2⟩
    have R2 := Lib.hid r2
    have L2 : Hid (l.length = m2) := Lib.hid s2.lx
    have hm3 : m2 ≤ 3000 := by rw [← s2.lx]; exact r2.len.1
    have S2 := Lib.hid s2.rr
    have P2 := Lib.hid (P1.out.up b2)
    have B2 : Hid (Below w.heap.size w w2) := Lib.hid (btr B1.out b2)
    clear s2 r2 b2
    by_cases hm0 : m2 = 0
    · subst hm0
      have Fin : Hid (IsCty (N : Int) xss p (-1)) := Lib.hid (.inr ⟨fun hf => by
        rcases R2.out with ⟨_, _, hm⟩ | ⟨hn, _⟩
        · have := (hm (idL N)).2 (by rw [Int.toNat_natCast]; exact .one)
          have h0 := List.length_pos_of_mem this
          rw [L2.out] at h0; omega
        · exact hn hf, rfl⟩)
      go_wp2_with fail
      go_ret
      exact ⟨_, rfl, Fin.out, B2.out⟩
    · have hf : Few (N : Int) xss := by
        rcases R2.out with ⟨hf, _⟩ | ⟨_, e⟩
        · exact hf
        · exact absurd (by rw [← L2.out, e]; rfl) hm0
      have Fin : Hid (IsCty (N : Int) xss p (cty p l l.length : Nat)) := Lib.hid (R2.out.cty hf)
      have d0 : ((m2 : Int) == 0) = false := by rw [beq_eq_false_iff_ne]; omega
      clear hf
      go_wp2_with fail
      go_loopw [8, 9] (fun v i wr => ∃ k : Nat, k ≤ m2 ∧ i = .int .i64 (k : Nat) ∧ v = .int .i64 (cty p l k : Nat) ∧ Below w2.heap.size w2 wr) (fun _ i _ => m2 - (intOf i).toNat)
      case atStart => exact ⟨0, Nat.zero_le _, rfl, rfl, Below.refl _ _⟩
      case round =>
        obtain ⟨k, hk, rfl, rfl, bel⟩ := hrel
        have Be := Lib.hid bel
        clear bel
        by_cases hlt : k < m2
        · obtain ⟨b, off, A5, lz, c5, y, rfl, hb, ev, ey, hc0, hr0, hy, hlc⟩ := S2.out.at_ hlt
          have hyl : y.length ≤ 20 := R2.out.len.2 y (getD_of (by rw [L2.out]; exact hlt) ey)
          have Cs := Lib.hid (cty_succ (kd := p) (by rw [L2.out]; exact hlt) ey)
          have x1 := (Be.out.cell (p := ⟨b, off + k, none⟩) hb).trans hc0
          have Ry := Lib.hid (hr0.up Be.out)
          have Hy : Hid (y.length = lz) := Lib.hid hy
          have z0 : (0 : Int) ≤ k := by omega
          have z1 : (k : Int) < m2 := by omega
          have hcl := cty_le p l k
          rw [L2.out] at hcl
          clear ev ey hr0 hb hc0
          go_wp2_with fail
          refine (specCycleType A5 c5 lz y wr Ry.out Hy (by omega) hlc).mono ?_
          rintro e w3 ⟨A3, m3, c3, rfl, s3, hm3', b3⟩
          have S3 := Lib.hid s3
          have P3 := Lib.hid ((P2.out.up Be.out).up b3)
          have B3 : Hid (Below w2.heap.size w2 w3) := Lib.hid (btr Be.out b3)
          clear s3 b3
          obtain ⟨t, ht⟩ : ∃ t, decide (ctypeL y = p) = t := ⟨_, rfl⟩
          rw [ht] at Cs
          have K := (quiet_below (equalIs A3 P c3 cp m3 np (ctypeL y) p w3 S3.out.ri_ P3.out S3.out.hid lp (by omega) (by omega)))
          rw [ht] at K
          go_wp2_with fail
          refine K.mono ?_
          rintro e w4 ⟨rfl, b4⟩
          have B4 : Hid (Below w2.heap.size w2 w4) := Lib.hid (btr B3.out b4)
          clear K b4 ht
          go_wp2_with fail
          refine (specB2I t w4).mono ?_
          rintro e w' ⟨rfl, rfl⟩
          obtain ⟨s, hs⟩ : ∃ s, cty p l k = s := ⟨_, rfl⟩
          rw [hs] at hcl Cs ⊢
          rcases t with _ | _
          · have C2 : Hid (cty p l (k + 1) = s) := Lib.hid (by rw [Cs.out]; simp)
            have hw1 : IntKind.i64.wrap ((s : Int) + 0) = (s : Int) := by rw [IntKind.wrap_i64]; omega
            have hw2 : IntKind.i64.wrap (s : Int) = (s : Int) := by rw [IntKind.wrap_i64]; omega
            go_wp2_with fail
            go_roundw
            case rel => exact ⟨k + 1, by omega, by go_num, by rw [C2.out], B4.out⟩
            case measure => simp [intOf]; omega
          · have C2 : Hid (cty p l (k + 1) = s + 1) := Lib.hid (by rw [Cs.out]; simp)
            have hw1 : IntKind.i64.wrap ((s : Int) + 1) = (s : Int) + 1 := by rw [IntKind.wrap_i64]; omega
            go_wp2_with fail
            go_roundw
            case rel => exact ⟨k + 1, by omega, by go_num, by rw [C2.out]; go_num, B4.out⟩
            case measure => simp [intOf]; omega
        · obtain rfl : k = m2 := by omega
          have B3 : Hid (Below w.heap.size w wr) := Lib.hid (btr B2.out Be.out)
          go_wp2_with fail
          go_ret
          exact ⟨_, rfl, by have := Fin.out; rwa [L2.out] at this, B3.out⟩
end Go.Proofs.Ytonanelghnjhpaa

/- Rank, NextMember, CountMembersBelow and FirstNonIdentity of the model. Conditions: at most 1048576 lists of at most 1048576 numbers. -/
namespace Go.Proofs.Ytonanelghnjhpaa
open Go.RowKit

set_option maxHeartbeats 2000000 in
set_option maxRecDepth 100000 in
theorem ctCmb : CtImsI 52 IsCmb := by
  intro a A n c vs xss P np cp p w hG hS ha
  have HG := Lib.hid hG
  have HS := Lib.hid hS
  have lp : Hid (p.length = np) := Lib.hid hS.lp
  have hnp := hS.hn
  have hpc := hS.hc
  have hlx : Hid (xss.length = n) := Lib.hid hG.rr.lx
  clear hG hS
  go_enter Try.func52, Try.ntmps52
  go_wp2_with fail
  refine (specGS a A n c vs xss w HG.out.rr HG.out.hn (Lib.hid HG.out.hl) ha).mono ?_
  rintro e w1 ⟨rfl, b1⟩
  have B1 := Lib.hid b1
  have G1 := Lib.hid (HG.out.up b1)
  have P1 := Lib.hid (HS.out.ri.up b1)
  have hz1 := b1.size
  have S0 := Lib.hid (Slc.lit0 w1 w.heap.size hz1)
  clear b1
  rcases hs : gB a xss with _ | _
  · have Fin : Hid (IsCmb a xss p (-1)) := Lib.hid (.inr ⟨(fun h => by have := h.1; rw [hs] at this; cases this), rfl⟩)
    clear hs
    go_wp2_with fail
    go_ret
    exact ⟨_, rfl, Fin.out, B1.out⟩
  · obtain ⟨N, rfl, hN1, hN2, hg8, hpm, hok⟩ := gB_pm hs
    have Hs := Lib.hid hs
    have Ok : Hid (∀ g ∈ xss, Pn N g) := Lib.hid hok
    have hn8 : n ≤ 8 := by rw [← hlx.out]; exact hg8
    clear hs hpm hok hg8 S0
    obtain ⟨ans, hans⟩ : ∃ ans, (decide (np = N) && isP p) = ans := ⟨_, rfl⟩
    have Ha := Lib.hid hans
    go_wp2_with fail
    refine (specIsPOf P np cp w1 N p ans P1.out lp (by omega) hpc Ha).mono ?_
    rintro e w2 ⟨rfl, b2⟩
    have G2 := Lib.hid (G1.out.up b2)
    have P2 := Lib.hid (P1.out.up b2)
    have B2 : Hid (Below w.heap.size w w2) := Lib.hid (btr B1.out b2)
    have hz2 := B2.out.size
    have S2 := Lib.hid (Slc.lit0 w2 w.heap.size hz2)
    clear b2
    rcases ans with _ | _
    · have Fin : Hid (IsCmb N xss p (-1)) := Lib.hid (.inr ⟨(fun h => by
        have h1 := h.2.1
        rw [lp.out] at h1
        have h2 : np = N := by omega
        have h3 := h.2.2
        rw [h2, h3] at hans; simp at hans), rfl⟩)
      clear hans
      go_wp2_with fail
      go_ret
      exact ⟨_, rfl, Fin.out, B2.out⟩
    · rw [Bool.and_eq_true, decide_eq_true_eq] at hans
      obtain ⟨rfl, hq⟩ := hans
      have PP : Hid (Pn np p) := Lib.hid ⟨isP_iff.1 hq, lp.out⟩
      have Hq := Lib.hid hq
      have Vl : Hid (Vld (np : Int) xss p) := Lib.hid ⟨Hs.out, by rw [lp.out], hq⟩
      clear hq S2
      go_wp2_with fail
      refine (specBuild np n c A vs xss w2 G2.out.rr hN1 hN2 hn8 Ok).mono ?_
      rintro e w3 ⟨g, L, ch, rfl, hc3, hw3, b3⟩
      have C3 := Lib.hid hc3
      have W3 := Lib.hid hw3
      have P3 := Lib.hid (P2.out.up b3)
      have G3 := Lib.hid (G2.out.up b3)
      have B3 : Hid (Below w.heap.size w w3) := Lib.hid (btr B2.out b3)
      have Os := Lib.hid (hw3.os hN1 hN2)
      clear hc3 hw3 b3
      go_wp2_with fail
      refine (specCountBelow w2.heap.size g np cp P ch L xss p w3 C3.out W3.out Ok P3.out PP hN1 hN2).mono ?_
      rintro e w4 ⟨T, ok, rfl, hT, hok, b4⟩
      have HT := Lib.hid hT
      have Hok := Lib.hid hok
      have B4 : Hid (Below w.heap.size w w4) := Lib.hid (btr B3.out b4)
      have G4 := Lib.hid (G3.out.up b4)
      clear hT hok b4
      have Fin : Hid (IsCmb (np : Int) xss p (T : Nat)) := Lib.hid (.inl ⟨Vl.out, T, by rw [Int.toNat_natCast]; exact HT.out, rfl⟩)
      go_wp2_with fail
      go_ret
      exact ⟨_, rfl, Fin.out, B4.out⟩
set_option maxHeartbeats 2000000 in
set_option maxRecDepth 100000 in
theorem ctRnk : CtImsI 48 IsRnk := by
  intro a A n c vs xss P np cp p w hG hS ha
  have HG := Lib.hid hG
  have HS := Lib.hid hS
  have lp : Hid (p.length = np) := Lib.hid hS.lp
  have hnp := hS.hn
  have hpc := hS.hc
  have hlx : Hid (xss.length = n) := Lib.hid hG.rr.lx
  clear hG hS
  go_enter Try.func48, Try.ntmps48
  go_wp2_with fail
  refine (specGS a A n c vs xss w HG.out.rr HG.out.hn (Lib.hid HG.out.hl) ha).mono ?_
  rintro e w1 ⟨rfl, b1⟩
  have B1 := Lib.hid b1
  have G1 := Lib.hid (HG.out.up b1)
  have P1 := Lib.hid (HS.out.ri.up b1)
  have hz1 := b1.size
  have S0 := Lib.hid (Slc.lit0 w1 w.heap.size hz1)
  clear b1
  rcases hs : gB a xss with _ | _
  · have Fin : Hid (IsRnk a xss p (-1)) := Lib.hid (.inr ⟨(fun h => by have := h.1; rw [hs] at this; cases this), rfl⟩)
    clear hs
    go_wp2_with fail
    go_ret
    exact ⟨_, rfl, Fin.out, B1.out⟩
  · obtain ⟨N, rfl, hN1, hN2, hg8, hpm, hok⟩ := gB_pm hs
    have Hs := Lib.hid hs
    have Ok : Hid (∀ g ∈ xss, Pn N g) := Lib.hid hok
    have hn8 : n ≤ 8 := by rw [← hlx.out]; exact hg8
    clear hs hpm hok hg8 S0
    obtain ⟨ans, hans⟩ : ∃ ans, (decide (np = N) && isP p) = ans := ⟨_, rfl⟩
    have Ha := Lib.hid hans
    go_wp2_with fail
    refine (specIsPOf P np cp w1 N p ans P1.out lp (by omega) hpc Ha).mono ?_
    rintro e w2 ⟨rfl, b2⟩
    have G2 := Lib.hid (G1.out.up b2)
    have P2 := Lib.hid (P1.out.up b2)
    have B2 : Hid (Below w.heap.size w w2) := Lib.hid (btr B1.out b2)
    have hz2 := B2.out.size
    have S2 := Lib.hid (Slc.lit0 w2 w.heap.size hz2)
    clear b2
    rcases ans with _ | _
    · have Fin : Hid (IsRnk N xss p (-1)) := Lib.hid (.inr ⟨(fun h => by
        have h1 := h.2.1
        rw [lp.out] at h1
        have h2 : np = N := by omega
        have h3 := h.2.2
        rw [h2, h3.1] at hans; simp at hans), rfl⟩)
      clear hans
      go_wp2_with fail
      go_ret
      exact ⟨_, rfl, Fin.out, B2.out⟩
    · rw [Bool.and_eq_true, decide_eq_true_eq] at hans
      obtain ⟨rfl, hq⟩ := hans
      have PP : Hid (Pn np p) := Lib.hid ⟨isP_iff.1 hq, lp.out⟩
      have Hq := Lib.hid hq
      have Vl : Hid (Vld (np : Int) xss p) := Lib.hid ⟨Hs.out, by rw [lp.out], hq⟩
      clear hq S2
      go_wp2_with fail
      refine (specBuild np n c A vs xss w2 G2.out.rr hN1 hN2 hn8 Ok).mono ?_
      rintro e w3 ⟨g, L, ch, rfl, hc3, hw3, b3⟩
      have C3 := Lib.hid hc3
      have W3 := Lib.hid hw3
      have P3 := Lib.hid (P2.out.up b3)
      have G3 := Lib.hid (G2.out.up b3)
      have B3 : Hid (Below w.heap.size w w3) := Lib.hid (btr B2.out b3)
      have Os := Lib.hid (hw3.os hN1 hN2)
      clear hc3 hw3 b3
      go_wp2_with fail
      refine (specCountBelow w2.heap.size g np cp P ch L xss p w3 C3.out W3.out Ok P3.out PP hN1 hN2).mono ?_
      rintro e w4 ⟨T, ok, rfl, hT, hok, b4⟩
      have HT := Lib.hid hT
      have Hok := Lib.hid hok
      have B4 : Hid (Below w.heap.size w w4) := Lib.hid (btr B3.out b4)
      have G4 := Lib.hid (G3.out.up b4)
      clear hT hok b4
      have Hm : Hid (ok = true ↔ Memb (np : Int) xss p) := Lib.hid (Hok.out.trans ⟨fun h => ⟨Hs.out, by rw [lp.out], Hq.out, by rw [Int.toNat_natCast]; exact h⟩, fun h => by have := h.2.2.2; rwa [Int.toNat_natCast] at this⟩)
      rcases ok with _ | _
      · have Fin : Hid (IsRnk (np : Int) xss p (-1)) := Lib.hid (.inr ⟨fun h => (by have := Hm.out.2 h; cases this), rfl⟩)
        go_wp2_with fail
        go_ret
        exact ⟨_, rfl, Fin.out, B4.out⟩
      · have Fin : Hid (IsRnk (np : Int) xss p (T : Nat)) := Lib.hid (.inl ⟨Hm.out.1 rfl, T, by rw [Int.toNat_natCast]; exact HT.out, rfl⟩)
        go_wp2_with fail
        go_ret
        exact ⟨_, rfl, Fin.out, B4.out⟩
set_option maxHeartbeats 2000000 in
set_option maxRecDepth 100000 in
theorem ctNxt : CtImsP 50 IsNxt := by
  intro a A n c vs xss P np cp p w hG hS ha
  have HG := Lib.hid hG
  have HS := Lib.hid hS
  have lp : Hid (p.length = np) := Lib.hid hS.lp
  have hnp := hS.hn
  have hpc := hS.hc
  have hlx : Hid (xss.length = n) := Lib.hid hG.rr.lx
  clear hG hS
  go_enter Try.func50, Try.ntmps50
  go_wp2_with fail
  refine (specGS a A n c vs xss w HG.out.rr HG.out.hn (Lib.hid HG.out.hl) ha).mono ?_
  rintro e w1 ⟨rfl, b1⟩
  have B1 := Lib.hid b1
  have G1 := Lib.hid (HG.out.up b1)
  have P1 := Lib.hid (HS.out.ri.up b1)
  have hz1 := b1.size
  have S0 := Lib.hid (Slc.lit0 w1 w.heap.size hz1)
  clear b1
  rcases hs : gB a xss with _ | _
  · have Fin : Hid (IsNxt a xss p [] false) := Lib.hid (.inr ⟨(fun h => by have := h.1; rw [hs] at this; cases this), rfl, rfl⟩)
    clear hs
    go_wp2_with fail
    go_ret2
    exact ⟨_, _, _, _, _, rfl, S0.out, Fin.out, B1.out.alloc hz1 _⟩
  · obtain ⟨N, rfl, hN1, hN2, hg8, hpm, hok⟩ := gB_pm hs
    have Hs := Lib.hid hs
    have Ok : Hid (∀ g ∈ xss, Pn N g) := Lib.hid hok
    have hn8 : n ≤ 8 := by rw [← hlx.out]; exact hg8
    clear hs hpm hok hg8 S0
    obtain ⟨ans, hans⟩ : ∃ ans, (decide (np = N) && isP p) = ans := ⟨_, rfl⟩
    have Ha := Lib.hid hans
    go_wp2_with fail
    refine (specIsPOf P np cp w1 N p ans P1.out lp (by omega) hpc Ha).mono ?_
    rintro e w2 ⟨rfl, b2⟩
    have G2 := Lib.hid (G1.out.up b2)
    have P2 := Lib.hid (P1.out.up b2)
    have B2 : Hid (Below w.heap.size w w2) := Lib.hid (btr B1.out b2)
    have hz2 := B2.out.size
    have S2 := Lib.hid (Slc.lit0 w2 w.heap.size hz2)
    clear b2
    rcases ans with _ | _
    · have Fin : Hid (IsNxt N xss p [] false) := Lib.hid (.inr ⟨(fun h => by
        have h1 := h.2.1
        rw [lp.out] at h1
        have h2 : np = N := by omega
        have h3 := h.2.2
        rw [h2, h3] at hans; simp at hans), rfl, rfl⟩)
      clear hans
      go_wp2_with fail
      go_ret2
      exact ⟨_, _, _, _, _, rfl, S2.out, Fin.out, B2.out.alloc hz2 _⟩
    · rw [Bool.and_eq_true, decide_eq_true_eq] at hans
      obtain ⟨rfl, hq⟩ := hans
      have PP : Hid (Pn np p) := Lib.hid ⟨isP_iff.1 hq, lp.out⟩
      have Hq := Lib.hid hq
      have Vl : Hid (Vld (np : Int) xss p) := Lib.hid ⟨Hs.out, by rw [lp.out], hq⟩
      clear hq S2
      go_wp2_with fail
      refine (specBuild np n c A vs xss w2 G2.out.rr hN1 hN2 hn8 Ok).mono ?_
      rintro e w3 ⟨g, L, ch, rfl, hc3, hw3, b3⟩
      have C3 := Lib.hid hc3
      have W3 := Lib.hid hw3
      have P3 := Lib.hid (P2.out.up b3)
      have G3 := Lib.hid (G2.out.up b3)
      have B3 : Hid (Below w.heap.size w w3) := Lib.hid (btr B2.out b3)
      have Os := Lib.hid (hw3.os hN1 hN2)
      clear hc3 hw3 b3
      go_wp2_with fail
      refine (specCountBelow w2.heap.size g np cp P ch L xss p w3 C3.out W3.out Ok P3.out PP hN1 hN2).mono ?_
      rintro e w4 ⟨T, ok, rfl, hT, hok, b4⟩
      have HT := Lib.hid hT
      have Hok := Lib.hid hok
      have B4 : Hid (Below w.heap.size w w4) := Lib.hid (btr B3.out b4)
      have G4 := Lib.hid (G3.out.up b4)
      clear hT hok b4
      have Hm : Hid (ok = true ↔ Memb (np : Int) xss p) := Lib.hid (Hok.out.trans ⟨fun h => ⟨Hs.out, by rw [lp.out], Hq.out, by rw [Int.toNat_natCast]; exact h⟩, fun h => by have := h.2.2.2; rwa [Int.toNat_natCast] at this⟩)
      obtain ⟨V, hV, _, hVb⟩ := Os.out.ordB Ok.out hN1 hN2
      rename_i hVe
      have hTV : T ≤ V := crd_sub HT.out hV fun x hx => hx.1
      clear hVe hV
      have hwT : IntKind.i64.wrap ((T : Int) + (if ok = true then 1 else 0)) = (T : Int) + (if ok = true then 1 else 0) := by rw [IntKind.wrap_i64]; split <;> omega
      obtain ⟨k, hk⟩ : ∃ k : Int, (T : Int) + (if ok = true then 1 else 0) = k := ⟨_, rfl⟩
      have hkb : I64 k := by rw [← hk]; unfold I64; split <;> omega
      have Hk := Lib.hid hk
      rw [hk] at hwT
      clear hk
      go_wp2_with fail
      refine (specB2I ok w4).mono ?_
      rintro e w' ⟨rfl, rfl⟩
      rw [show (if ok = true then (1 : Int) else 0) = k - T by rw [← Hk.out]; omega]
      have hwk : IntKind.i64.wrap ((T : Int) + (k - (T : Int))) = k := by rw [show (T : Int) + (k - T) = k by omega]; exact hwT
      clear hwT
      go_wp2_with fail
      refine (ctMat np A n c vs xss k w4 G4.out ha hkb).mono ?_
      rintro e w5 ⟨A5, m5, c5, zs, ok5, rfl, s5, r5, b5⟩
      have Fin : Hid (IsNxt (np : Int) xss p zs ok5) := Lib.hid (.inl ⟨Vl.out, T, ok, by rw [Int.toNat_natCast]; exact HT.out, Hm.out, by rw [Hk.out]; exact r5⟩)
      have S5 : Hid (Slc w5 w.heap.size A5 m5 c5 zs) := Lib.hid (s5.mono B4.out.size)
      have B5 : Hid (Below w.heap.size w w5) := Lib.hid (btr B4.out b5)
      clear s5 r5 b5
      go_wp2_with fail
      go_ret2
      exact ⟨_, _, _, _, _, rfl, S5.out, Fin.out, B5.out⟩
set_option maxHeartbeats 2000000 in
set_option maxRecDepth 100000 in
theorem ctFst : CtImP 53 IsFst := by
  intro a A n c vs xss w hG ha
  have HG := Lib.hid hG
  clear hG
  go_enter Try.func53, Try.ntmps53
  go_wp2_with fail
  refine (specGS a A n c vs xss w HG.out.rr HG.out.hn (Lib.hid HG.out.hl) ha).mono ?_
  rintro e w1 ⟨rfl, b1⟩
  have B1 := Lib.hid b1
  have G1 := Lib.hid (HG.out.up b1)
  have hz1 := b1.size
  have S0 := Lib.hid (Slc.lit0 w1 w.heap.size hz1)
  clear b1
  rcases hs : gB a xss with _ | _
  · have Fin : Hid (IsFst a xss [] false) := Lib.hid (.inr ⟨rfl, rfl, fun h => by rw [hs] at h; cases h⟩)
    clear hs
    go_wp2_with fail
    go_ret2
    exact ⟨_, _, _, _, _, rfl, S0.out, Fin.out, B1.out.alloc hz1 _⟩
  · clear hs
    go_wp2_with fail
    refine (ctMat a A n c vs xss 1 w1 G1.out ha (by unfold I64; omega)).mono ?_
    rintro e w5 ⟨A5, m5, c5, zs, ok5, rfl, s5, r5, b5⟩
    have Fin : Hid (IsFst a xss zs ok5) := Lib.hid r5
    have S5 : Hid (Slc w5 w.heap.size A5 m5 c5 zs) := Lib.hid (s5.mono B1.out.size)
    have B5 : Hid (Below w.heap.size w w5) := Lib.hid (btr B1.out b5)
    clear s5 r5 b5
    go_wp2_with fail
    go_ret2
    exact ⟨_, _, _, _, _, rfl, S5.out, Fin.out, B5.out⟩
end Go.Proofs.Ytonanelghnjhpaa

/- RandomMember of the model. Conditions: at most 1048576 lists of at most 1048576 numbers. -/
namespace Go.Proofs.Ytonanelghnjhpaa
open Go.RowKit

theorem tmod_b (x : Int) : -999999937 < x.tmod 999999937 ∧ x.tmod 999999937 < 999999937 := ⟨Int.lt_tmod_of_pos _ (by decide), Int.tmod_lt_of_pos _ (by decide)⟩
theorem tmod_p {x : Int} (h : 0 ≤ x) : 0 ≤ x.tmod 999999937 ∧ x.tmod 999999937 < 999999937 := ⟨Int.tmod_nonneg _ h, (tmod_b x).2⟩
theorem stt_b (s : Int) : ∀ i, 0 ≤ stt s i ∧ stt s i < 999999937
  | 0 => tmod_p (by have := (tmod_b s).1; omega)
  | i + 1 => tmod_p (by have := (stt_b s i).1; omega)

set_option maxHeartbeats 400000 in
theorem specFst (s : Int) (w : World) : Calls Try.prog 82 #[.int .i64 s] w fun e w' => e = .returned (.int .i64 (stt s 0)) ∧ w = w' := by
  show Calls Try.prog 82 #[.int .i64 s] w fun e w' => e = .returned (.int .i64 ((s.tmod 999999937 + 999999937).tmod 999999937)) ∧ w = w'
  obtain ⟨x, hx⟩ : ∃ x, s.tmod 999999937 = x := ⟨_, rfl⟩
  have hb := tmod_b s
  rw [hx] at hb ⊢
  obtain ⟨y, hy⟩ : ∃ y, (x + 999999937).tmod 999999937 = y := ⟨_, rfl⟩
  have hb2 := tmod_b (x + 999999937)
  rw [hy] at hb2 ⊢
  have w1 : IntKind.i64.wrap x = x := by rw [IntKind.wrap_i64]; omega
  have w2 : IntKind.i64.wrap (x + 999999937) = x + 999999937 := by rw [IntKind.wrap_i64]; omega
  have w3 : IntKind.i64.wrap y = y := by rw [IntKind.wrap_i64]; omega
  go_enter Try.func82, Try.ntmps82
  go_wp2
  go_ret
  exact ⟨rfl, rfl⟩
set_option maxHeartbeats 400000 in
theorem specNxS (s : Int) (i : Nat) (w : World) : Calls Try.prog 83 #[.int .i64 (stt s i)] w fun e w' => e = .returned (.int .i64 (stt s (i + 1))) ∧ w = w' := by
  show Calls Try.prog 83 #[.int .i64 (stt s i)] w fun e w' => e = .returned (.int .i64 ((stt s i * 48271 + 11).tmod 999999937)) ∧ w = w'
  have hb := stt_b s i
  obtain ⟨x, hx⟩ : ∃ x, stt s i = x := ⟨_, rfl⟩
  rw [hx] at hb ⊢
  obtain ⟨y, hy⟩ : ∃ y, (x * 48271 + 11).tmod 999999937 = y := ⟨_, rfl⟩
  have hb2 := tmod_b (x * 48271 + 11)
  rw [hy] at hb2 ⊢
  have w1 : IntKind.i64.wrap (x * 48271) = x * 48271 := by rw [IntKind.wrap_i64]; omega
  have w2 : IntKind.i64.wrap (x * 48271 + 11) = x * 48271 + 11 := by rw [IntKind.wrap_i64]; omega
  have w3 : IntKind.i64.wrap y = y := by rw [IntKind.wrap_i64]; omega
  go_enter Try.func83, Try.ntmps83
  go_wp2
  go_ret
  exact ⟨rfl, rfl⟩

/-- The first i entries are chosen by the states. -/
def Sel (N : Nat) (gs : List (List Int)) (s : Int) (m : List Int) (i : Nat) : Prop := ∀ t, t < i → ∀ zs, ChL N gs m t zs → (nx m t : Int) = zs.getD (((stt s (t + 1)).tmod (zs.length : Int)).toNat) 0

set_option maxHeartbeats 4000000 in
set_option maxRecDepth 100000 in
theorem ctRnd : CtImiP 35 IsRnd := by
  intro a A n c vs xss sd w hG ha hk64
  have HG := Lib.hid hG
  have hlx : Hid (xss.length = n) := Lib.hid hG.rr.lx
  clear hG
  go_enter Try.func35, Try.ntmps35
  go_wp2_with fail
  refine (specGS a A n c vs xss w HG.out.rr HG.out.hn (Lib.hid HG.out.hl) ha).mono ?_
  rintro e w1 ⟨rfl, b1⟩
  have B1 := Lib.hid b1
  have G1 := Lib.hid (HG.out.up b1)
  have hz1 := b1.size
  have S0 := Lib.hid (Slc.lit0 w1 w.heap.size hz1)
  clear b1
  rcases hs : gB a xss with _ | _
  · have Fin : Hid (IsRnd a xss sd [] false) := Lib.hid (.inr ⟨hs, rfl, rfl⟩)
    clear hs
    go_wp2_with fail
    go_ret2
    exact ⟨_, _, _, _, _, rfl, S0.out, Fin.out, B1.out.alloc hz1 _⟩
  · obtain ⟨N, rfl, hN1, hN2, hg8, hpm, hok⟩ := gB_pm hs
    have Hs := Lib.hid hs
    have Ok : Hid (∀ g ∈ xss, Pn N g) := Lib.hid hok
    have hn8 : n ≤ 8 := by rw [← hlx.out]; exact hg8
    clear hs hpm hok hg8 S0
    go_wp2_with fail
    refine (specBuild N n c A vs xss w1 G1.out.rr hN1 hN2 hn8 Ok).mono ?_
    rintro e w2 ⟨g, L, ch, rfl, hc2, hw2, b2⟩
    have C2 := Lib.hid hc2
    have W2 := Lib.hid hw2
    have B2 : Hid (Below w.heap.size w w2) := Lib.hid (btr B1.out b2)
    clear hc2 hw2 b2
    go_wp2_with fail
    refine (specFst sd w2).mono ?_
    rintro e w' ⟨rfl, rfl⟩
    go_wp2_with fail
    refine (specIdent N w2 (by omega)).mono ?_
    rintro e w5 ⟨A5, c5, rfl, s5, b5⟩
    have S5 := Lib.hid s5
    have B5 := Lib.hid b5
    clear s5 b5
    go_wp2_with fail
    go_loopw [9, 10, 11] (fun q v i wr => ∃ (i' cc : Nat) (M : Option Addr) (m : List Int), i' ≤ N ∧ i = .int .i64 (i' : Nat) ∧ v = .slice M N cc ∧ q = .int .i64 (stt sd i') ∧ Slc wr w2.heap.size M N cc m ∧ Mb xss N m ∧ Sel N xss sd m i' ∧ Below w2.heap.size w2 wr) (fun _ _ i _ => N - (intOf i).toNat)
    case atStart => exact ⟨0, _, _, _, Nat.zero_le _, rfl, rfl, rfl, S5.out, .one, fun t ht => absurd ht (Nat.not_lt_zero _), B5.out⟩
    case round =>
      clear S5 B5
      obtain ⟨i, cc, M, m, hi, rfl, rfl, rfl, hsl, hmb, hse, bel⟩ := hrel
      have Ss := Lib.hid hsl
      have Mb1 := Lib.hid hmb
      have Se := Lib.hid hse
      have Be := Lib.hid bel
      have C6 := Lib.hid (C2.out.up bel)
      have MP : Hid (Pn N m) := Lib.hid (hmb.pn Ok.out hN1 hN2)
      clear hsl hmb hse bel
      by_cases hlt : i < N
      · have q1 : (0 : Int) ≤ i := by omega
        have q2 : (i : Int) < N := by omega
        go_wp2_with fail
        refine (specNxS sd i wr).mono ?_
        rintro e w' ⟨rfl, rfl⟩
        obtain ⟨st, hst⟩ : ∃ st : Nat, stt sd (i + 1) = (st : Int) := ⟨(stt sd (i + 1)).toNat, by have := (stt_b sd (i + 1)).1; omega⟩
        have hstb : st < 999999937 := by have := (stt_b sd (i + 1)).2; omega
        have Hst := Lib.hid hst
        rw [hst]
        clear hst
        go_wp2_with fail
        refine (specChoices w1.heap.size g N i cc M ch L xss m wr C6.out W2.out Ss.out.ri_ MP hlt).mono ?_
        rintro e w7 ⟨g2, m2, c2, zs, rfl, s7, p7, o7, b7⟩
        have chl : ChL N xss m i zs := chL_ok W2.out hN1 hN2 Ok.out hlt Mb1.out p7 o7
        have Chl := Lib.hid chl
        have Lz : Hid (zs.length = m2) := Lib.hid s7.1
        have S7 := Lib.hid s7
        have Ss7 := Lib.hid (Ss.out.up b7)
        have C7 := Lib.hid (C6.out.up b7)
        have Be7 : Hid (Below w2.heap.size w2 w7) := Lib.hid (btr Be.out b7)
        clear s7 p7 o7 b7
        have hm2 : 0 < m2 := by
          rw [← Lz.out]
          exact List.length_pos_of_mem ((chl.2 _).2 ⟨m, Mb1.out, Ag.refl _ _, rfl⟩)
        obtain ⟨j, hj⟩ : ∃ j, st % m2 = j := ⟨_, rfl⟩
        have hjm : j < m2 := by rw [← hj]; exact Nat.mod_lt _ hm2
        have hjs : j ≤ st := by rw [← hj]; exact Nat.mod_le _ _
        have e2 : (st : Int).tmod (m2 : Int) = (j : Int) := by rw [← hj]; exact (Int.ofNat_tmod st m2).symm
        have w2' : IntKind.i64.wrap (j : Int) = (j : Int) := by rw [IntKind.wrap_i64]; omega
        have hc0 : ¬ ((m2 : Int) = 0) := by omega
        obtain ⟨zb, zo, ez, hzb, hzc⟩ := S7.out.ri_ (by rw [Lz.out]; omega)
        have x9 := hzc j (by rw [Lz.out]; omega)
        have ez2 : (some ⟨g2, 0, none⟩ : Option Addr) = some ⟨zb, zo, none⟩ := ez
        injection ez2 with ez2
        injection ez2 with f1 f2 _
        subst f1 f2
        rw [Nat.zero_add] at x9
        have hzm : zs.getD j 0 ∈ zs := by rw [gdx' (by rw [Lz.out]; exact hjm)]; exact List.getElem_mem _
        obtain ⟨q, hq, hqa, hqv⟩ := (chl.2 _).1 hzm
        obtain ⟨v, hv⟩ : ∃ v, nx q i = v := ⟨_, rfl⟩
        rw [hv] at hqv
        obtain ⟨y, hy, hry, hmy⟩ := chL_mem.1 ((W2.out.choice hN1 hN2 Ok.out hlt Mb1.out).2 ⟨q, hq, hqa, rfl⟩)
        have hmy2 : nx m y = v := by omega
        obtain ⟨a1, a2, a3, _⟩ := W2.out.rep_mb hN1 hN2 hlt hry
        have Rp : Hid (Pn N (ch.rep i y)) := Lib.hid (a1.pn Ok.out hN1 hN2)
        have Hmy := Lib.hid hmy2
        have Mb2 : Hid (Mb xss N (compL (ch.rep i y) m)) := Lib.hid (a1.comp Ok.out hN1 hN2 Mb1.out)
        have hAg : Ag i (compL (ch.rep i y) m) m := fun t ht => by rw [Rp.out.nxc (by omega), a2 t ht]
        have hnv : nx (compL (ch.rep i y) m) i = v := by rw [Rp.out.nxc hlt, a3, Hmy.out]
        have Se2 : Hid (Sel N xss sd (compL (ch.rep i y) m) (i + 1)) := Lib.hid fun t ht ys hys => by
          by_cases e : t = i
          · subst e
            obtain rfl : ys = zs := (hys.ag hAg).uniq chl
            rw [hnv, hqv, Hst.out, Lz.out, e2, Int.toNat_natCast]
          · rw [hAg t (by omega)]
            exact Se.out t (by omega) ys (hys.ag (hAg.mono (by omega)))
        rw [← hqv] at x9
        have z0 : (0 : Int) ≤ j := by omega
        have z1 : (j : Int) < m2 := by omega
        clear hj hjs ez hzb hzc hzm hq hqa hqv hv hry hmy hmy2 a1 a2 a3 hAg hnv chl
        go_wp2_with fail
        refine (specWithEntry w1.heap.size g N i v y cc M ch L m w7 C7.out Ss7.out.ri_ MP hlt hy Hmy Rp).mono ?_
        rintro e w8 ⟨A8, c8, rfl, s8, b8⟩
        have S8 : Hid (Slc w8 w2.heap.size A8 N c8 (compL (ch.rep i y) m)) := Lib.hid (s8.mono Be7.out.size)
        have Be8 : Hid (Below w2.heap.size w2 w8) := Lib.hid (btr Be7.out b8)
        clear s8 b8
        go_wp2_with fail
        go_roundw
        case rel => exact ⟨i + 1, _, _, _, by omega, by go_num, rfl, by rw [Hst.out], S8.out, Mb2.out, Se2.out, Be8.out⟩
        case measure => simp [intOf]; omega
      · obtain rfl : i = N := by omega
        have Fin : Hid (IsRnd (i : Int) xss sd m true) := Lib.hid (.inl ⟨Hs.out, rfl, by rw [Int.toNat_natCast]; exact Mb1.out, by rw [Int.toNat_natCast]; exact Se.out⟩)
        have B6 : Hid (Below w.heap.size w wr) := Lib.hid (btr B2.out Be.out)
        have S6 : Hid (Slc wr w.heap.size M i cc m) := Lib.hid (Ss.out.mono B2.out.size)
        go_wp2_with fail
        go_ret2
        exact ⟨_, _, _, _, _, rfl, S6.out, Fin.out, B6.out⟩
end Go.Proofs.Ytonanelghnjhpaa

/- The size of a slice of slices against whatever is left. No condition. -/
namespace Go.Proofs.Ytonanelghnjhpaa
open Go.RowKit

set_option maxHeartbeats 1000000 in
theorem szSS2 (A : Option Addr) (n c : Nat) (left : Int) (vs : List SV) (xss : List (List Int)) (w : World) (hx : RR w w.heap.size A n vs xss) (hn : n ≤ maxLen) (hl : Hid (∀ i, i < n → (vs.getD i sd0).2.1 ≤ maxLen)) (h0 : 0 ≤ left) (h1 : left ≤ 1048576) :
    Calls Try.prog 41 #[.slice A n c, .int .i64 left] w fun e w' => e = .returned (.int .i64 (if ((n + tot vs n : Nat) : Int) ≤ left then left - ((n + tot vs n : Nat) : Int) else -1)) ∧ w = w' := by
  have HX := Lib.hid hx
  clear hx
  have hn' := hn
  unfold maxLen at hn'
  obtain ⟨r, er⟩ : ∃ r : Int, (if ((n + tot vs n : Nat) : Int) ≤ left then left - ((n + tot vs n : Nat) : Int) else -1) = r := ⟨_, rfl⟩
  rw [er]
  have Er := Lib.hid er
  clear er
  by_cases h : (n : Int) ≤ left
  · have d : decide (left - (n : Int) < 0) = false := by simp; omega
    have hwl : IntKind.i64.wrap (left - (n : Int)) = left - (n : Int) := by rw [IntKind.wrap_i64]; omega
    go_enter Try.func41, Try.ntmps41
    go_wp2
    go_loop [1, 5] (fun v i => ∃ (k T : Nat), k ≤ n ∧ Hid (tot vs k = T) ∧ ((n + T : Nat) : Int) ≤ left ∧ i = .int .i64 (k : Nat) ∧ v = .int .i64 (left - ((n + T : Nat) : Int))) (fun _ i => n - (intOf i).toNat)
    case atStart => exact ⟨0, 0, Nat.zero_le _, Lib.hid rfl, by omega, rfl, by go_num⟩
    case round =>
      obtain ⟨k, T, hk, hT, hT1, rfl, rfl⟩ := hrel
      clear hwl
      by_cases hlt : k < n
      · obtain ⟨b, off, A5, l, c5, y, rfl, hb, ev, ey, hc, hr, hy, hlc⟩ := HX.out.at_ hlt
        have hl1 := hl.out k hlt
        have hT2 : Hid (tot vs (k + 1) = T + l) := Lib.hid (by rw [tot_succ, hT.out, ev])
        have hm : Hid (tot vs (k + 1) ≤ tot vs n) := Lib.hid (tot_mono hlt)
        rw [ev] at hl1
        clear ev ey hr
        by_cases hfit : ((n + T + l : Nat) : Int) ≤ left
        · have d2 : decide (left - ((n + T : Nat) : Int) - (l : Int) < 0) = false := by simp; omega
          go_wp2_with fail
          refine (szS A5 l c5 _ w (by omega) (by omega) hl1).mono ?_
          rintro e w1 ⟨rfl, rfl⟩
          rw [if_pos (by omega)]
          go_wp2
          go_round
          case rel => exact ⟨k + 1, T + l, by omega, hT2, by omega, by go_num, by go_num⟩
          case measure => simp [intOf]; omega
        · go_wp2_with fail
          refine (szS A5 l c5 _ w (by omega) (by omega) hl1).mono ?_
          rintro e w1 ⟨rfl, rfl⟩
          rw [if_neg (by omega)]
          go_wp2
          go_ret
          exact ⟨by rw [← Er.out, if_neg (by have := hm.out; rw [hT2.out] at this; omega)]; rfl, rfl⟩
      · have hkn : k = n := by omega
        subst hkn
        go_wp2
        go_ret
        exact ⟨by rw [← Er.out, hT.out, if_pos hT1]; go_num, rfl⟩
  · have d : decide (left - (n : Int) < 0) = true := by simp; omega
    have er2 : r = -1 := by rw [← Er.out, if_neg (by omega)]
    have hwl : IntKind.i64.wrap (left - (n : Int)) = left - (n : Int) := by rw [IntKind.wrap_i64]; omega
    subst er2
    go_enter Try.func41, Try.ntmps41
    go_wp2
    go_ret
    exact ⟨rfl, rfl⟩
end Go.Proofs.Ytonanelghnjhpaa

/- Slices of slices where a row elsewhere has turned. No condition. -/
namespace Go.Proofs.Ytonanelghnjhpaa
open Go.RowKit

theorem SS.farM {w w' : World} {bo bi n c n' c' : Nat} {A A' : Option Addr} {vs : List SV} {xss : List (List Int)} (h : SS w bo bi A n c vs xss) (hg : w.grownBy w' (Value.slice A' n' c').ownBlock)
    (hd : ∀ k, (Value.slice A n c).ownBlock = some k → (Value.slice A' n' c').ownBlock = some k → False)
    (hd2 : ∀ s, s < n → ∀ k, (sval (vs.getD s sd0)).ownBlock = some k → (Value.slice A' n' c').ownBlock = some k → False) : SS w' bo bi A n c vs xss := by
  have ap : ∀ v : Value, (∀ k, v.ownBlock = some k → (Value.slice A' n' c').ownBlock = some k → False) → v.ownBlock = none ∨ v.ownBlock ≠ (Value.slice A' n' c').ownBlock := fun v hv => by
    rcases e : v.ownBlock with _ | k
    · exact .inl rfl
    · exact .inr fun e2 => hv k e e2.symm
  refine ⟨h.own.kept hg (ap _ hd), h.lv, h.lx, fun i hi => (h.row i hi).kept hg (ap _ (hd2 i hi)), h.dis⟩
end Go.Proofs.Ytonanelghnjhpaa
