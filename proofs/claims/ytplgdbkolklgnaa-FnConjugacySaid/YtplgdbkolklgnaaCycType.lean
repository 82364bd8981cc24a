/- CycleType and SameCycleType, of the program and of the model. No condition but lengths. -/
import Derived.Test.YtplgdbkolklgnaaTypM
import Derived.Test.YtplgdbkolklgnaaRow
import Derived.Test.YtplgdbkolklgnaaComp
namespace Go.Proofs.Ytplgdbkolklgnaa
open Go.RowKit

/-- append of one number, with the place of what comes back. -/
theorem wpList_app1_at {w : World} {ops : Array Oper} {rest : List Oper} {o : Oper} {a : Act} {Q : Exit → Act → World → Prop} (hgd : o.guard = none) (s x : Operand)
    (ho : o.op = .call { callee := .builtin .append, args := #[s, x], argTypes := #[24, 24] })
    (base : Nat) (A : Option Addr) (n c : Nat) (xs : List Int) (hs : a.eval s = .slice A n c) (hown : Slc w base A n c xs) (g : Nat) (u : Int) (hx : a.eval x = .slice (some ⟨g, 0, none⟩) 1 1)
    (hcell : w.cell? ⟨g, 0, none⟩ = some (.int .i64 u)) (hn : n ≤ 1000000000000) (hbase : base ≤ w.heap.size)
    (h : ∀ A' c' w', Slc w' base A' (n + 1) c' (xs ++ [u]) → w.grownBy w' (Value.slice A n c).ownBlock → ((Value.slice A' (n + 1) c').ownBlock = (Value.slice A n c).ownBlock ∨ (Value.slice A' (n + 1) c').ownBlock = some w.heap.size) → wpList Try.prog ops Q rest (a.put o.dst (.slice A' (n + 1) c')) w') : wpList Try.prog ops Q (o :: rest) a w := by
  obtain ⟨i0, hi, hz0, hz1, hz2⟩ := info_parts infoI
  obtain ⟨hl, ho'⟩ := hown
  subst hl
  refine wpList_append_own_at w hgd s x 24 ho base 2 i0 (.int .i64 0) 1 8 Try.underlying24 hi hz0 hz1 hz2 rfl (by decide) _ xs.length _ hs ho' ⟨g, 0, none⟩ 1 1 [.int .i64 u] hx rfl ?_ ?_ ?_ (by omega) hbase ?_
  · intro j v hj
    match j, hj with
    | 0, hj => simp at hj; subst hj; simpa [Addr.add] using hcell
    | j + 1, hj => simp at hj
  · intro v hv; simp at hv; subst hv; rfl
  · unfold maxLen; omega
  · intro v' w' hown' hg _ hat
    have hO : Own w' base v' (xs ++ [u]) := by
      unfold Own
      rw [List.length_append, List.map_append]
      exact hown'
    obtain ⟨A', c', rfl, hS⟩ := Slc.of_own (n := xs.length + 1) hO (by simp)
    exact h A' c' w' hS hg hat

set_option maxHeartbeats 800000 in
/-- The program's CycleType. -/
theorem implCycleType (A : Option Addr) (c n : Nat) (p : List Int) (w : World) (hp : RI w w.heap.size A p) (lp : Hid (p.length = n)) (hn : n ≤ 2097152) :
    Calls Try.prog 18 #[.slice A n c] w fun e w' => ∃ A' n' c', e = .returned (.slice A' n' c') ∧ Slc w' w.heap.size A' n' c' (ctypeL p) ∧ n' ≤ 20 ∧ Below w.heap.size w w' := by
  rcases hs : isP p with _ | _
  · have Fin : Hid (ctypeL p = []) := Lib.hid (if_neg (by rw [hs]; decide))
    go_enter Try.func18, Try.ntmps18
    go_wp2_with fail
    refine (implIsP A c n p w hp lp hn).mono ?_
    rintro e w1 ⟨rfl, b1⟩
    have B1 := Lib.hid b1
    clear b1
    go_wp2_with fail
    go_ret
    exact ⟨_, _, _, rfl, by rw [Fin.out]; exact Slc.nil_, Nat.zero_le _, B1.out⟩
  · have Ip := Lib.hid (isP_iff.1 hs)
    have Fin : Hid (ctypeL p = (((lens p).map Int.ofNat).mergeSort fun x y => decide (x ≤ y)).reverse) := Lib.hid ((if_pos hs).trans (ctype_sort Ip.out).symm)
    have hn20 : n ≤ 20 := by rw [← lp.out]; exact Ip.out.le
    go_enter Try.func18, Try.ntmps18
    go_wp2_with fail
    refine (implIsP A c n p w hp lp hn).mono ?_
    rintro e w0 ⟨rfl, b0⟩
    have B0 := Lib.hid b0
    clear b0
    go_wp2_with fail
    refine (implAll A c n p w0 (hp.up B0.out) lp Ip hn20).mono ?_
    rintro e w1 ⟨A1, M, c1, vs, rfl, s1, hm, b1⟩
    have S1 := Lib.hid s1
    have B1 : Hid (Below w.heap.size w w1) := Lib.hid (btr B0.out b1)
    have LM : Hid ((lens p).length = M) := Lib.hid ((lens_len p).trans s1.lx)
    have h1M : 1 ≤ M := by have := cycs_pos Ip.out; rw [s1.lx] at this; exact this
    clear s1 b1
    go_wp2_with fail
    clear hs
    go_loopw [3, 5, 12] (fun v _ i wr => ∃ k A' c', k ≤ M ∧ i = .int .i64 (k : Nat) ∧ v = .slice A' k c' ∧ Slc wr w1.heap.size A' k c' (lensI p k) ∧ Below w1.heap.size w1 wr) (fun _ _ i _ => M - (intOf i).toNat)
    case atStart => exact ⟨0, _, _, Nat.zero_le _, rfl, rfl, Slc.nil_, Below.refl _ _⟩
    case round =>
      obtain ⟨k, A', c', hk, rfl, rfl, ss, bel⟩ := hrel
      have Ss := Lib.hid ss
      have Bel := Lib.hid bel
      clear ss bel
      by_cases hlt : k < M
      · obtain ⟨g, rfl, hg1, hg2, hc⟩ := S1.out.at_ (by omega)
        have c0 := (Bel.out.cell (p := ⟨g, k, none⟩) hg2).trans (hc k hlt)
        have hrow := S1.out.row k hlt
        obtain ⟨l, el⟩ : ∃ l, (vs.getD k sd0).2.1 = l := ⟨_, rfl⟩
        obtain ⟨A5, e5⟩ : ∃ A5, (vs.getD k sd0).1 = A5 := ⟨_, rfl⟩
        obtain ⟨c5, ec5⟩ : ∃ c5, (vs.getD k sd0).2.2 = c5 := ⟨_, rfl⟩
        rw [e5, el, ec5] at c0 hrow
        have Lk : Hid (lensI p (k + 1) = lensI p k ++ [(l : Int)]) := Lib.hid (lensI_succ (by rw [LM.out]; exact hlt) (by
          have := hrow.1
          rw [List.getD_eq_getElem?_getD, List.getElem?_eq_getElem (by rw [S1.out.lx]; exact hlt)] at this
          rw [← this]; simp [lens]))
        have hll := (hrow.le).2
        unfold maxLen at hll
        clear hrow el e5 ec5 hc
        go_wp2_with (first | (at_builtin; refine wpList_app1 rfl _ _ rfl w1.heap.size A' k c' _ rfl (Ss.out.alloc _) wr.heap.size (l : Int) rfl (by rw [World.cell?_alloc_at _ _ _ _ rfl]; rfl) (by omega) (by have := Bel.out.size; simp; omega) ?_; intro A3 c3 w3 ss3 hg3))
        have Ss3 := Lib.hid ss3
        have Bel3 : Hid (Below w1.heap.size w1 w3) := Lib.hid ((Bel.out.alloc Bel.out.size _).grown hg3 (by have := Bel.out.size; simp; omega) (fun j hj => (Ss.out.lt_ j hj).1))
        clear ss3 hg3
        go_wp2
        go_roundw
        case rel => exact ⟨k + 1, A3, c3, by omega, by go_num, rfl, by rw [Lk.out]; exact Ss3.out, Bel3.out⟩
        case measure => simp [intOf]; omega
      · have hkm : k = M := by omega
        subst hkm
        have Fq : Hid (lensI p k = (lens p).map Int.ofNat) := Lib.hid (by unfold lensI; rw [List.take_of_length_le (by rw [LM.out]; exact Nat.le_refl _)])
        go_wp2_with fail
        refine (sortT w1.heap.size A' k c' _ wr Ss.out h1M (by omega)).mono ?_
        rintro e w4 ⟨rfl, s4, g4⟩
        have S4 := Lib.hid s4
        have Bel4 : Hid (Below w1.heap.size w1 w4) := Lib.hid (Bel.out.grown g4 Bel.out.size (fun j hj => (Ss.out.lt_ j hj).1))
        clear s4 g4
        go_wp2_with fail
        refine (revT w1.heap.size A' k c' _ w4 S4.out h1M (by omega)).mono ?_
        rintro e w5 ⟨rfl, s5, g5⟩
        have S5 := Lib.hid s5
        have Bel5 : Hid (Below w.heap.size w w5) := Lib.hid (btr B1.out (Bel4.out.grown g5 Bel4.out.size (fun j hj => (S4.out.lt_ j hj).1)))
        clear s5 g5
        go_wp2_with fail
        go_ret
        exact ⟨_, _, _, rfl, by rw [Fin.out, ← Fq.out]; exact S5.out.mono B1.out.size, by omega, Bel5.out⟩

set_option maxHeartbeats 1600000 in
/-- The model's CycleType. -/
theorem specCycleType (A : Option Addr) (c n : Nat) (p : List Int) (w : World) (hp : RI w w.heap.size A p) (lp : Hid (p.length = n)) (hn : n ≤ 2097152) (hc : n ≤ c) :
    Calls Try.prog 24 #[.slice A n c] w fun e w' => ∃ A' n' c', e = .returned (.slice A' n' c') ∧ Slc w' w.heap.size A' n' c' (ctypeL p) ∧ n' ≤ 20 ∧ Below w.heap.size w w' := by
  have hp1 : RI (w.alloc (.cells #[] 2)) (w.alloc (.cells #[] 2)).heap.size A p := (hp.alloc (Nat.le_refl _) _).more (by simp)
  rcases hs : isP p with _ | _
  · have Fin : Hid (ctypeL p = []) := Lib.hid (if_neg (by rw [hs]; decide))
    have HP1 := Lib.hid hp1
    clear hp1
    go_enter Try.func24, Try.ntmps24
    go_wp2_with fail
    refine (quiet_below (specIsP A c n p _ HP1.out lp hn hc)).mono ?_
    rintro e w1 ⟨rfl, b1⟩
    have B1 : Hid (Below w.heap.size w w1) := Lib.hid (((Below.refl _ _).alloc (Nat.le_refl _) _).trans (b1.mono (by simp)))
    have S1 : Hid (Slc w1 w.heap.size (some ⟨w.heap.size, 0, none⟩) 0 0 []) := Lib.hid ((Slc.lit0 w _ (Nat.le_refl _)).up b1)
    clear b1
    go_wp2_with fail
    go_ret
    exact ⟨_, _, _, rfl, by rw [Fin.out]; exact S1.out, Nat.zero_le _, B1.out⟩
  · have Ip := Lib.hid (isP_iff.1 hs)
    have Fin : Hid (ctypeL p = desc n (lens p)) := Lib.hid ((if_pos hs).trans (by unfold ctype; rw [lp.out]))
    have hn20 : n ≤ 20 := by rw [← lp.out]; exact Ip.out.le
    have HP1 := Lib.hid hp1
    clear hp1
    go_enter Try.func24, Try.ntmps24
    go_wp2_with fail
    refine (quiet_below (specIsP A c n p _ HP1.out lp hn hc)).mono ?_
    rintro e w0 ⟨rfl, b0⟩
    have B0 : Hid (Below w.heap.size w w0) := Lib.hid (((Below.refl _ _).alloc (Nat.le_refl _) _).trans (b0.mono (by simp)))
    have S0 : Hid (Slc w0 w.heap.size (some ⟨w.heap.size, 0, none⟩) 0 0 []) := Lib.hid ((Slc.lit0 w _ (Nat.le_refl _)).up b0)
    have Z0 : w.heap.size + 1 ≤ w0.heap.size := by have := b0.size; simpa using this
    clear b0
    go_wp2_with fail
    refine (specAll A c n p w0 (hp.up B0.out) lp Ip hn20).mono ?_
    rintro e w1 ⟨A1, M, c1, vs, rfl, s1, hm, b1⟩
    have S1 := Lib.hid s1
    have B1 : Hid (Below w.heap.size w w1) := Lib.hid (btr B0.out b1)
    have S0' := Lib.hid (S0.out.up b1)
    have LM : Hid ((lens p).length = M) := Lib.hid ((lens_len p).trans s1.lx)
    have Lc : Hid ((desc n (lens p)).length ≤ 20) := Lib.hid (by
      have := ctype_len Ip.out
      unfold ctype at this
      rw [lp.out] at this
      rw [this, s1.lx]; omega)
    clear s1 b1
    go_wp2_with fail
    clear hs
    go_loopg [3, 5, 6] n (fun gg v nn _ wr => ∃ k m A' c' xs, k ≤ n ∧ k ≤ gg ∧ nn = .int .i64 (k : Nat) ∧ v = .slice A' m c' ∧ Slc wr w.heap.size A' m c' xs ∧ xs ++ desc k (lens p) = desc n (lens p) ∧
      (∀ b, (Value.slice A' m c').ownBlock = some b → b < w0.heap.size ∨ w1.heap.size ≤ b) ∧ (∀ b, w0.heap.size ≤ b → b < w1.heap.size → wr.heap[b]? = w1.heap[b]?) ∧ w1.heap.size ≤ wr.heap.size ∧ Below w.heap.size w wr)
    case atStart => exact ⟨n, 0, _, _, [], Nat.le_refl _, Nat.le_refl _, rfl, rfl, S0'.out, rfl, fun b hb => by simp [Value.ownBlock] at hb; left; omega, fun b _ _ => rfl, Nat.le_refl _, B1.out⟩
    case round =>
      obtain ⟨k, m, A', c', xs, hk, hgk, rfl, rfl, ss, hcat, ob, md, sz, bel⟩ := hrel
      have hm4 : m ≤ 20 := by have h1 := congrArg List.length hcat; rw [List.length_append, ss.1] at h1; have := Lc.out; omega
      have Ss := Lib.hid ss
      have Cat := Lib.hid hcat
      have Ob := Lib.hid ob
      have Md := Lib.hid md
      have Bel := Lib.hid bel
      clear ss bel ob md hcat
      by_cases hlt : 0 < k
      · obtain ⟨k, rfl⟩ : ∃ j, k = j + 1 := ⟨k - 1, by omega⟩
        go_wp2
        go_loopg [3, 6] M (fun gg v i wr2 => ∃ j m2 A2 c2, j ≤ M ∧ M - j ≤ gg ∧ m2 ≤ m + j ∧ i = .int .i64 (j : Nat) ∧ v = .slice A2 m2 c2 ∧ Slc wr2 w.heap.size A2 m2 c2 (xs ++ List.replicate (((lens p).take j).count (k + 1)) ((k + 1 : Nat) : Int)) ∧
          (∀ b, (Value.slice A2 m2 c2).ownBlock = some b → b < w0.heap.size ∨ w1.heap.size ≤ b) ∧ (∀ b, w0.heap.size ≤ b → b < w1.heap.size → wr2.heap[b]? = w1.heap[b]?) ∧ w1.heap.size ≤ wr2.heap.size ∧ Below w.heap.size w wr2)
        case atStart => exact ⟨0, m, _, _, Nat.zero_le _, by omega, by omega, rfl, rfl, by simpa using Ss.out, Ob.out, Md.out, sz, Bel.out⟩
        case round =>
          obtain ⟨j, m2, A2, c2, hj, hgj, hm2, rfl, rfl, ss2, ob2, md2, sz2, bel2⟩ := hrel
          have Ss2 := Lib.hid ss2
          have Ob2 := Lib.hid ob2
          have Md2 := Lib.hid md2
          have Bel2 := Lib.hid bel2
          have Sr := Lib.hid (S1.out.mid md2 (Nat.le_refl _) (Nat.le_refl _))
          clear ss2 ob2 md2 bel2
          by_cases hjl : j < M
          · obtain ⟨g, rfl, hg1, hg2, hcc⟩ := Sr.out.at_ (by omega)
            have c0 := hcc j hjl
            have hrow := S1.out.row j hjl
            obtain ⟨l, el⟩ : ∃ l, (vs.getD j sd0).2.1 = l := ⟨_, rfl⟩
            obtain ⟨A5, e5⟩ : ∃ A5, (vs.getD j sd0).1 = A5 := ⟨_, rfl⟩
            obtain ⟨c5, ec5⟩ : ∃ c5, (vs.getD j sd0).2.2 = c5 := ⟨_, rfl⟩
            rw [e5, el, ec5] at c0 hrow
            have Lj : Hid ((lens p)[j]'(by rw [LM.out]; exact hjl) = l) := Lib.hid (by
              have := hrow.1
              rw [List.getD_eq_getElem?_getD, List.getElem?_eq_getElem (by rw [S1.out.lx]; exact hjl)] at this
              rw [← this]; simp [lens])
            have hll := (hrow.le).2
            unfold maxLen at hll
            clear hrow el e5 ec5 hcc
            by_cases hle : l = k + 1
            · subst hle
              have Nx : Hid (List.replicate (((lens p).take (j + 1)).count (k + 1)) ((k + 1 : Nat) : Int) = List.replicate (((lens p).take j).count (k + 1)) ((k + 1 : Nat) : Int) ++ [((k + 1 : Nat) : Int)]) := Lib.hid (by
                rw [count_take (by rw [LM.out]; exact hjl) Lj.out, if_pos rfl, List.replicate_succ']; )
              clear Lj
              go_wp2_with (first | (at_builtin; refine wpList_app1_at rfl _ _ rfl w.heap.size A2 m2 c2 _ rfl (Ss2.out.alloc _) wr.heap.size (((k + 1 : Nat) : Int)) rfl (by rw [World.cell?_alloc_at _ _ _ _ rfl]; rfl) (by omega) (by have := Bel2.out.size; simp; omega) ?_; intro A3 c3 w3 ss3 hg3 hat3))
              have Ss3 := Lib.hid ss3
              have Bel3 : Hid (Below w.heap.size w w3) := Lib.hid ((Bel2.out.alloc Bel2.out.size _).grown hg3 (by have := Bel2.out.size; simp; omega) (fun j hj => (Ss2.out.lt_ j hj).1))
              have Hg3 := Lib.hid hg3
              have Hat3 := Lib.hid hat3
              have Sz3 : w1.heap.size ≤ w3.heap.size := by have := hg3.size; simp at this; omega
              clear ss3 hg3 hat3
              go_wp2
              go_roundg (M - (j + 1))
              case rel =>
                refine ⟨j + 1, m2 + 1, A3, c3, by omega, by omega, by omega, by go_num, rfl, by rw [Nx.out, ← List.append_assoc]; exact Ss3.out, fun b hb => ?_, fun b hb1 hb2 => ?_, Sz3, Bel3.out⟩
                · rcases Hat3.out with e | e
                  · exact Ob2.out b (by rw [← e]; exact hb)
                  · rw [e] at hb; injection hb with hb; simp at hb; right; omega
                · rw [Hg3.out.block b (by simp; omega) (fun e => by have := Ob2.out b e.symm; omega), Below.heap_alloc _ _ _ (by omega)]
                  exact Md2.out b hb1 hb2
              case measure => omega
            · have Nx : Hid (((lens p).take (j + 1)).count (k + 1) = ((lens p).take j).count (k + 1)) := Lib.hid (by
                rw [count_take (by rw [LM.out]; exact hjl) Lj.out, if_neg hle]; rfl)
              clear Lj
              have hne : ((l : Int) == ((k + 1 : Nat) : Int)) = false := by rw [beq_eq_false_iff_ne]; omega
              go_wp2
              go_roundg (M - (j + 1))
              case rel => exact ⟨j + 1, m2, A2, c2, by omega, by omega, by omega, by go_num, rfl, by rw [Nx.out]; exact Ss2.out, Ob2.out, Md2.out, sz2, Bel2.out⟩
              case measure => omega
          · have hjM : j = M := by omega
            subst hjM
            have Fk : Hid ((lens p).take j = lens p) := Lib.hid (List.take_of_length_le (by rw [LM.out]; exact Nat.le_refl _))
            go_wp2
            go_roundg k
            case rel => exact ⟨k, m2, A2, c2, _, by omega, Nat.le_refl _, by go_num, rfl, Ss2.out, by rw [Fk.out, List.append_assoc]; exact Cat.out, Ob2.out, Md2.out, sz2, Bel2.out⟩
            case measure => omega
      · obtain rfl : k = 0 := by omega
        have Fq : Hid (xs = ctypeL p) := Lib.hid (by have := Cat.out; rw [desc, List.append_nil] at this; rw [this, Fin.out])
        go_wp2
        go_ret
        exact ⟨_, _, _, rfl, by rw [← Fq.out]; exact Ss.out, hm4, Bel.out⟩
end Go.Proofs.Ytplgdbkolklgnaa
