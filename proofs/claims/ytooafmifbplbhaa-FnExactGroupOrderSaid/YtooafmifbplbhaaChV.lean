/- StrongGeneratingSet of the model. Conditions: at most 1048576 lists of at most 1048576 numbers. -/
import Derived.Test.YtooafmifbplbhaaChZ
namespace Go.Proofs.Ytooafmifbplbhaa
open Go.RowKit

theorem ownsRow_mid {w w' : World} {base n size lo : Nat} {e : TypeId} {v : Value} {xs : List Value} (h : w.ownsRow base e size v n xs) (hm : ∀ k, lo ≤ k → k < w.heap.size → w'.heap[k]? = w.heap[k]?) (hl : lo ≤ base) : w'.ownsRow base e size v n xs := by
  refine ⟨h.1, ?_⟩
  rcases h.2 with h0 | ⟨g, cap, cur, e2, hb, hg, rest⟩
  · exact .inl h0
  · exact .inr ⟨g, cap, cur, e2, hb, by rw [hm g (by omega) (Array.getElem?_eq_some_iff.1 hg).1]; exact hg, rest⟩
/-- The chain lies where its blocks lie. -/
theorem Cn.mid {w w' : World} {base g N lo : Nat} {c : Ch} {L : LY} (h : Cn w base g N c L) (hm : ∀ k, lo ≤ k → k < w.heap.size → w'.heap[k]? = w.heap[k]?) (hl : lo ≤ base) : Cn w' base g N c L :=
  ⟨(hm g (Nat.le_trans hl h.hg) h.blk.lt).trans h.blk, h.hg, ownsRow_mid h.own1 hm hl, fun i hi => ownsRow_mid (h.row1 i hi) hm hl, h.len1, fun i hi y hy => (h.ent1 i hi y hy).mid hm hl,
    ownsRow_mid h.own2 hm hl, fun i hi => ownsRow_mid (h.row2 i hi) hm hl, h.len2, fun i hi y hy => (h.ent2 i hi y hy).mid hm hl, h.dRG, h.dro, h.drg, h.dgv⟩

set_option maxHeartbeats 4000000 in
set_option maxRecDepth 100000 in
theorem specSgs (a : Int) (A : Option Addr) (n c : Nat) (vs : List SV) (xss : List (List Int)) (w : World) (hx : RR w w.heap.size A n vs xss) (hn : n ≤ 1048576) (hl : Hid (∀ i, i < n → (vs.getD i sd0).2.1 ≤ 1048576)) (ha : -9223372036854775808 ≤ a ∧ a ≤ 9223372036854775807) :
    Calls Try.prog 25 #[.int .i64 a, .slice A n c] w fun e w' => ∃ A' m c' us l, e = .returned (.slice A' m c') ∧ SS w' w.heap.size w.heap.size A' m c' us l ∧ IsSgs a xss l ∧ Below w.heap.size w w' := by
  have HX := Lib.hid hx
  have hlx : Hid (xss.length = n) := Lib.hid hx.lx
  have S0 := Lib.hid (SS.lit0 w w.heap.size w.heap.size (Nat.le_refl _))
  have B0 : Hid (Below w.heap.size w (w.alloc (.cells #[] 25))) := Lib.hid ((Below.refl _ _).alloc (Nat.le_refl _) _)
  obtain ⟨w0, hw0⟩ : ∃ w0, w.alloc (.cells #[] 25) = w0 := ⟨_, rfl⟩
  have z0 : w0.heap.size = w.heap.size + 1 := by rw [← hw0]; simp
  clear hx
  go_enter Try.func25, Try.ntmps25
  go_wp2_with fail
  rw [hw0] at S0 B0
  have X0 := Lib.hid (HX.out.up B0.out)
  refine (specGS a A n c vs xss w0 X0.out hn hl ha).mono ?_
  rintro e w1 ⟨rfl, b1⟩
  have B1 : Hid (Below w.heap.size w w1) := Lib.hid (btr B0.out b1)
  have X1 := Lib.hid (X0.out.up b1)
  have S1 := Lib.hid (S0.out.up b1)
  have z1 := b1.size
  clear b1 hw0 S0 B0
  rcases hs : gB a xss with _ | _
  · have Fin : Hid (IsSgs a xss []) := Lib.hid (.inr ⟨hs, rfl⟩)
    clear hs
    go_wp2_with fail
    go_ret
    exact ⟨_, _, _, _, _, rfl, S1.out, Fin.out, B1.out⟩
  · obtain ⟨N, rfl, hN1, hN2, hg8, hpm, hok⟩ := gB_pm hs
    have Hs := Lib.hid hs
    have Ok := Lib.hid hok
    have hn8 : n ≤ 8 := by rw [← hlx.out]; exact hg8
    clear hs hpm hok hg8
    go_wp2_with fail
    refine (specBuild N n c A vs xss w1 X1.out hN1 hN2 hn8 Ok).mono ?_
    rintro e w3 ⟨g, L, ch, rfl, hc3, hw3, b3⟩
    have C3 := Lib.hid hc3
    have W3 := Lib.hid hw3
    have S3 := Lib.hid (S1.out.up b3)
    have B3 : Hid (Below w.heap.size w w3) := Lib.hid (btr B1.out b3)
    have z3 := b3.size
    clear hc3 hw3 b3 S1 B1
    go_wp2_with fail
    go_loopg [5, 7] N (fun gg o i wr => ∃ (k : Nat) (A1 : Option Addr) (m1 c1 : Nat) (us : List SV) (l : List (List Int)), k ≤ N ∧ N - k ≤ gg ∧ i = .int .i64 (k : Nat) ∧ o = .slice A1 m1 c1 ∧ SS wr w.heap.size w.heap.size A1 m1 c1 us l ∧ Sgs N xss (prs N k) l ∧
      (∀ b, (Value.slice A1 m1 c1).ownBlock = some b → b < w1.heap.size ∨ w3.heap.size ≤ b) ∧ (∀ b, w1.heap.size ≤ b → b < w3.heap.size → wr.heap[b]? = w3.heap[b]?) ∧ w3.heap.size ≤ wr.heap.size ∧ Below w.heap.size w wr)
    case atStart => exact ⟨0, _, _, _, [], [], Nat.zero_le _, by omega, rfl, rfl, S3.out, rfl, fun b hb => .inl (by have := Option.some.inj hb; simp at this; omega), fun b _ _ => rfl, Nat.le_refl _, B3.out⟩
    case round =>
      clear S3 B3
      obtain ⟨k, A1, m1, c1, us, l, hk, hgg, rfl, rfl, hs, hsg, hob, hmid, hsz, bel⟩ := hrel
      have Ss := Lib.hid hs
      have Sg := Lib.hid hsg
      have Ob := Lib.hid hob
      have Mi := Lib.hid hmid
      have Be := Lib.hid bel
      clear hs hsg hob hmid bel
      by_cases hlt : k < N
      · go_wp2_with fail
        obtain ⟨wl, rfl⟩ : ∃ wl, wl = wr := ⟨_, rfl⟩
        go_loopg [5, 8] N (fun gg o i wr2 => ∃ (j : Nat) (A1 : Option Addr) (m1 c1 : Nat) (us : List SV) (l : List (List Int)), k + 1 + j ≤ N ∧ N - (k + 1 + j) ≤ gg ∧ i = .int .i64 ((k + 1 + j : Nat) : Int) ∧ o = .slice A1 m1 c1 ∧ SS wr2 w.heap.size w.heap.size A1 m1 c1 us l ∧ Sgs N xss (prs N k ++ prsI N k j) l ∧
          (∀ b, (Value.slice A1 m1 c1).ownBlock = some b → b < w1.heap.size ∨ w3.heap.size ≤ b) ∧ (∀ b, w1.heap.size ≤ b → b < w3.heap.size → wr2.heap[b]? = w3.heap[b]?) ∧ w3.heap.size ≤ wr2.heap.size ∧ Below w.heap.size w wr2)
        case atStart => exact ⟨0, _, _, _, us, l, by omega, by omega, by go_num, rfl, Ss.out, by simpa [prsI] using Sg.out, Ob.out, Mi.out, hsz, Be.out⟩
        case round =>
          clear Ss Sg Ob Mi Be hsz
          obtain ⟨j, A1, m1, c1, us, l, hj, hg2, rfl, rfl, hs, hsg, hob, hmid, hsz, bel⟩ := hrel
          have Ss := Lib.hid hs
          have Sg := Lib.hid hsg
          have Ob := Lib.hid hob
          have Mi := Lib.hid hmid
          have Be := Lib.hid bel
          have Ok2 := Lib.hid (hsg.ok hN1 hN2 Ok.out)
          have hm1 : m1 ≤ 800 := by
            rw [← hs.lx]
            have h1 := Ok2.out.1
            have h2 := prs_len N k
            have h3 : (prsI N k j).length = j := by simp [prsI]
            have h4 := Nat.mul_le_mul (show k ≤ 20 by omega) hN2
            rw [List.length_append, h3] at h1
            omega
          have Cr := Lib.hid (C3.out.mid hmid (Nat.le_refl _))
          clear hs hsg hob hmid bel
          by_cases hjt : k + 1 + j < N
          · go_wp2_with fail
            refine (specIdent k wr (by omega)).mono ?_
            rintro e w5 ⟨A5, c5, rfl, s5, b5⟩
            have S5 := Lib.hid s5
            have B5 := Lib.hid b5
            have z5 := b5.size
            clear s5 b5
            go_wp2_with (at_builtin; refine wpList_app1 rfl _ _ rfl wr.heap.size A5 k c5 _ rfl (S5.out.alloc _) w5.heap.size ((k + 1 + j : Nat) : Int) rfl (by rw [World.cell?_alloc_at _ _ _ _ rfl]; rfl) (by omega) (by simp; omega) ?_; intro A6 c6 w6 s6 g6)
            have S6 := Lib.hid s6
            have B6 : Hid (Below wr.heap.size wr w6) := Lib.hid ((B5.out.alloc z5 _).grown g6 (by simp; omega) (fun q hq => (S5.out.lt_ q hq).1))
            have z6 := B6.out.size
            have C6 := Lib.hid (Cr.out.up B6.out)
            have lpre : Hid ((preOf (k, k + 1 + j)).length = k + 1) := Lib.hid (by unfold preOf; rw [List.length_append, idL_length]; rfl)
            clear s6 g6
            go_wp2_with fail
            refine (specMwp w1.heap.size g N (k + 1) c6 A6 ch L xss (preOf (k, k + 1 + j)) w6 C6.out W3.out S6.out.ri_ lpre (by omega) hN1 hN2 Ok).mono ?_
            rintro e w7 ⟨A7, n7, c7, m, ok, rfl, s7, hm7, b7⟩
            have S7 := Lib.hid s7
            have M7 := Lib.hid hm7
            have B7 : Hid (Below wr.heap.size wr w7) := Lib.hid (btr B6.out b7)
            have Ss7 := Lib.hid (Ss.out.up B7.out)
            have Mi7 : Hid (∀ b, w1.heap.size ≤ b → b < w3.heap.size → w7.heap[b]? = w3.heap[b]?) := Lib.hid fun b h1 h2 => (B7.out.block b (by omega)).trans (Mi.out b h1 h2)
            have Be7 : Hid (Below w.heap.size w w7) := Lib.hid (btr Be.out B7.out)
            have z7 := B7.out.size
            have Di := Lib.hid (lies_dis Ss.out S7.out.lies (by omega))
            have Sg7 := Lib.hid (Sg.out.snoc hm7)
            clear s7 hm7 b7
            rcases ok with _ | _
            · go_wp2_with fail
              go_roundg (N - (k + 1 + (j + 1)))
              case rel => exact ⟨j + 1, A1, m1, c1, us, l, by omega, by omega, by go_num, rfl, Ss7.out, by
                have := Sg7.out
                rw [prsI_succ, ← List.append_assoc]; simpa using this, Ob.out, Mi7.out, by omega, Be7.out⟩
              case measure => omega
            · have zb : w.heap.size ≤ w6.heap.size := by have := Be.out.size; omega
              go_wp2_with (at_builtin; refine wpList_app2_at rfl _ _ rfl rfl (Ss7.out.alloc _) w7.heap.size A7 n7 c7 m rfl (by rw [World.cell?_alloc_at _ _ _ _ rfl]; rfl) ((S7.out.mono zb).alloc _) Di.out (by omega) (by simp; omega) ?_; intro A8 c8 w8 s8 g8 h8)
              have S8 := Lib.hid s8
              have Ob8 : Hid (∀ b, (Value.slice A8 (m1 + 1) c8).ownBlock = some b → b < w1.heap.size ∨ w3.heap.size ≤ b) := Lib.hid fun b hb => by
                rcases h8 with e | e
                · rw [e] at hb; exact Ob.out b hb
                · rw [e] at hb
                  have := Option.some.inj hb
                  simp at this
                  exact .inr (by omega)
              have Mi8 : Hid (∀ b, w1.heap.size ≤ b → b < w3.heap.size → w8.heap[b]? = w3.heap[b]?) := Lib.hid fun b h1 h2 => by
                refine (g8.block b (by simp; omega) (fun e => ?_)).trans ((Below.heap_alloc w7 _ b (by omega)).trans (Mi7.out b h1 h2))
                have := Ob.out b e.symm
                omega
              have z8 := g8.size
              have Be8 : Hid (Below w.heap.size w w8) := Lib.hid ((Be7.out.alloc (by have := Be.out.size; omega) _).grown g8 (by simp; have := Be.out.size; omega) (fun q hq => (Ss7.out.lt_ q hq).1))
              simp only [World.size_alloc] at z8
              clear s8 g8 h8
              go_wp2_with fail
              go_roundg (N - (k + 1 + (j + 1)))
              case rel => exact ⟨j + 1, A8, m1 + 1, c8, _, _, by omega, by omega, by go_num, rfl, S8.out, by
                have := Sg7.out
                rw [prsI_succ, ← List.append_assoc]; simpa using this, Ob8.out, Mi8.out, by omega, Be8.out⟩
              case measure => omega
          · have hj2 : j = N - (k + 1) := by omega
            have Sg2 : Hid (Sgs N xss (prs N (k + 1)) l) := Lib.hid (by rw [hj2] at Sg; exact Sg.out)
            go_wp2_with fail
            go_roundg (N - (k + 1))
            case rel => exact ⟨k + 1, A1, m1, c1, us, l, by omega, by omega, by go_num, rfl, Ss.out, Sg2.out, Ob.out, Mi.out, by omega, Be.out⟩
            case measure => omega
      · obtain rfl : k = N := by omega
        have Fin : Hid (IsSgs k xss l) := Lib.hid (.inl ⟨Hs.out, by rw [Int.toNat_natCast]; exact Sg.out⟩)
        go_wp2_with fail
        go_ret
        exact ⟨_, _, _, us, l, rfl, Ss.out, Fin.out, Be.out⟩
end Go.Proofs.Ytooafmifbplbhaa
