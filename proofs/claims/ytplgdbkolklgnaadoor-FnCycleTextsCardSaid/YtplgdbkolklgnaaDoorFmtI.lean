/- The model's texts of lists; FormatImages of both. No condition but lengths. -/
import Derived.Test.YtplgdbkolklgnaaDoorFmt
namespace Go.Proofs.YtplgdbkolklgnaaDoor
open Go.RowKit

theorem empty_toList : (⟨#[]⟩ : ByteArray).toList = [] := by rw [ByteArray.toList_eq]

set_option maxHeartbeats 1000000 in
/-- joinText, of at least one and at most 20 short texts. -/
theorem specJoin (A : Option Addr) (c n base : Nat) (ws : List ByteArray) (w : World) (h : Txs w base A n c ws) (h1 : 1 ≤ n) (hn : n ≤ 20) (hs : ∀ u ∈ ws, u.size ≤ 2) :
    Calls Tryd.prog 55 #[.slice A n c, .string ⟨#[32]⟩] w fun e w' => ∃ t, e = .returned (.string t) ∧ t.toList = jn 32 (ws.map ByteArray.toList) ∧ w' = w := by
  have H := Lib.hid h
  have Hs := Lib.hid hs
  have lw := h.1
  obtain ⟨g, rfl, hA, hB, hC⟩ := h.at_ (by omega)
  clear h hs hC
  go_enter Tryd.func55, Tryd.ntmps55
  go_wp2
  go_loopg [5, 6] n (fun gg sv i wr => ∃ k t, k ≤ n ∧ n - k ≤ gg ∧ i = .int .i64 (k : Nat) ∧ sv = .string t ∧ t.toList = jn 32 ((ws.take k).map ByteArray.toList) ∧ t.size ≤ 3 * k ∧ wr = w)
  case atStart => exact ⟨0, _, Nat.zero_le _, by omega, rfl, rfl, empty_toList, Nat.zero_le _, rfl⟩
  case round =>
    obtain ⟨k, t, hk, hg, rfl, rfl, ht, hsz, rfl⟩ := hrel
    have T := Lib.hid ht
    clear ht
    by_cases hlt : k < n
    · have c0 := H.out.cell hlt
      obtain ⟨u, eu⟩ : ∃ u, ws[k]'(by omega) = u := ⟨_, rfl⟩
      have hu : u.size ≤ 2 := by rw [← eu]; exact Hs.out _ (List.getElem_mem _)
      have Tk : Hid ((ws.take (k + 1)).map ByteArray.toList = (ws.take k).map ByteArray.toList ++ [u.toList]) := Lib.hid (by rw [List.take_succ_eq_append_getElem (by omega), List.map_append, eu]; rfl)
      rw [eu] at c0
      by_cases hk0 : k = 0
      · subst hk0
        have sz1 : ¬ 9223372036854775807 < t.size + u.size := by omega
        have tl : Hid ((t ++ u).toList = jn 32 ((ws.take (0 + 1)).map ByteArray.toList)) := Lib.hid (by rw [toList_app, T.out, Tk.out]; rfl)
        have ts : (t ++ u).size ≤ 3 := by rw [ByteArray.size_append]; omega
        clear eu
        go_wp2
        go_roundg (n - 1)
        case rel => exact ⟨1, _, by omega, Nat.le_refl _, by go_num, rfl, tl.out, ts, rfl⟩
        case measure => omega
      · have d1 : decide (0 < k) = true := by simp; omega
        have sz0 : ¬ 9223372036854775807 < t.size + (⟨#[32]⟩ : ByteArray).size := by have : (⟨#[32]⟩ : ByteArray).size = 1 := rfl; omega
        have sz1 : ¬ 9223372036854775807 < t.size + (⟨#[32]⟩ : ByteArray).size + u.size := by have : (⟨#[32]⟩ : ByteArray).size = 1 := rfl; omega
        have tl : Hid ((t ++ (⟨#[32]⟩ : ByteArray) ++ u).toList = jn 32 ((ws.take (k + 1)).map ByteArray.toList)) := Lib.hid (by
          rw [toList_app, toList_app, T.out, Tk.out, jn_snoc 32 _ _ (by
            intro e
            have := congrArg List.length e
            rw [List.length_map, List.length_take, lw] at this
            have e0 : min k n = 0 := this
            omega)]
          have : (⟨#[32]⟩ : ByteArray).toList = [32] := by rw [ByteArray.toList_eq]
          rw [this]; simp)
        have ts : (t ++ (⟨#[32]⟩ : ByteArray) ++ u).size ≤ 3 * (k + 1) := by rw [ByteArray.size_append, ByteArray.size_append]; have : (⟨#[32]⟩ : ByteArray).size = 1 := rfl; omega
        have sz2 : ¬ 9223372036854775807 < t.size + 1 := by omega
        have sz3 : ¬ 9223372036854775807 < t.size + 1 + u.size := by omega
        clear eu hk0
        go_wp2
        go_roundg (n - (k + 1))
        case rel => exact ⟨k + 1, _, by omega, Nat.le_refl _, by go_num, rfl, tl.out, ts, rfl⟩
        case measure => omega
    · have hkn : k = n := by omega
      subst hkn
      have F : Hid (t.toList = jn 32 (ws.map ByteArray.toList)) := Lib.hid (by rw [T.out, List.take_of_length_le (by omega)])
      go_wp2
      go_ret
      exact ⟨t, rfl, F.out, rfl⟩

set_option maxHeartbeats 1000000 in
/-- formatInts. -/
theorem specFmt (A : Option Addr) (c n : Nat) (xs : List Int) (w : World) (hx : RI w w.heap.size A xs) (lx : Hid (xs.length = n)) (px : Hid (Pts xs)) (h1 : 1 ≤ n) (hn : n ≤ 20) :
    Calls Tryd.prog 32 #[.slice A n c] w fun e w' => ∃ t, e = .returned (.string t) ∧ t.toList = fmtI xs ∧ Below w.heap.size w w' := by
  go_enter Tryd.func32, Tryd.ntmps32
  go_wp2
  go_loopg [3, 4] n (fun gg v i wr => ∃ k A' c' ws, k ≤ n ∧ n - k ≤ gg ∧ i = .int .i64 (k : Nat) ∧ v = .slice A' k c' ∧ Txs wr w.heap.size A' k c' ws ∧ ws.map ByteArray.toList = digs xs k ∧ Below w.heap.size w wr)
  case atStart => exact ⟨0, _, _, [], Nat.zero_le _, by omega, rfl, rfl, Txs.lit0 w _ (Nat.le_refl _), rfl, (Below.refl _ _).alloc (Nat.le_refl _) _⟩
  case round =>
    obtain ⟨k, A', c', ws, hk, hg, rfl, rfl, tx, heq, bel⟩ := hrel
    have Tx := Lib.hid tx
    have Eq := Lib.hid heq
    have Bel := Lib.hid bel
    clear tx heq bel
    by_cases hlt : k < n
    · obtain ⟨b, off, rfl, hb, hc⟩ := hx (by rw [lx.out]; omega)
      obtain ⟨x, hx20, ex⟩ := pts_at px.out (k := k) (by rw [lx.out]; exact hlt)
      have c1 := (Bel.out.cell (p := ⟨b, off + k, none⟩) hb).trans (hc k (by rw [lx.out]; omega))
      rw [ex] at c1
      have Ds := Lib.hid (digs_succ (xs := xs) (by rw [lx.out]; exact hlt) ex)
      clear hc ex
      go_wp2_with fail
      refine (specFmtInt x wr hx20).mono ?_
      rintro e w2 ⟨u, rfl, hu, b2⟩
      have Hu := Lib.hid hu
      have Bel2 : Hid (Below w.heap.size w w2) := Lib.hid (btr Bel.out b2)
      have Tx2 := Lib.hid (Tx.out.up b2)
      clear hu b2
      go_wp2_with (first | (at_builtin; refine wpList_appT rfl _ _ rfl w.heap.size A' k c' _ rfl (Tx2.out.alloc _) w2.heap.size u rfl (by rw [World.cell?_alloc_at _ _ _ _ rfl]; rfl) (by omega) (by have := Bel2.out.size; simp; omega) ?_; intro A3 c3 w3 s3 g3))
      have S3 := Lib.hid s3
      have Eq3 : Hid ((ws ++ [u]).map ByteArray.toList = digs xs (k + 1)) := Lib.hid (by rw [Ds.out, List.map_append, Eq.out]; simp [Hu.out])
      have Bel3 : Hid (Below w.heap.size w w3) := Lib.hid ((Bel2.out.alloc Bel2.out.size _).grown g3 (by have := Bel2.out.size; simp; omega) (fun j e => (Tx2.out.lt_ j e).1))
      clear s3 g3
      go_wp2
      go_roundg (n - (k + 1))
      case rel => exact ⟨k + 1, A3, c3, _, by omega, Nat.le_refl _, by go_num, rfl, S3.out, Eq3.out, Bel3.out⟩
      case measure => omega
    · have hkn : k = n := by omega
      subst hkn
      have Fin : Hid (jn 32 (ws.map ByteArray.toList) = fmtI xs) := Lib.hid (by rw [Eq.out, ← lx.out, digs_all])
      have Sz : Hid (∀ u ∈ ws, u.size ≤ 2) := Lib.hid fun u hu => by
        have hm : u.toList ∈ digs xs k := by rw [← Eq.out]; exact List.mem_map_of_mem hu
        unfold digs at hm
        rw [List.mem_map] at hm
        obtain ⟨x, hx, e⟩ := hm
        have hp := px.out x (List.mem_of_mem_take hx)
        rw [← len_toList0, ← e]
        exact (dig_facts x.toNat (by omega)).2.2.2.2.1
      go_wp2_with fail
      refine (specJoin A' c' k w.heap.size ws wr Tx.out h1 hn Sz.out).mono ?_
      rintro e w2 ⟨t, rfl, ht, rfl⟩
      have F : Hid (t.toList = fmtI xs) := Lib.hid (ht.trans Fin.out)
      clear ht
      go_wp2_with fail
      go_ret
      exact ⟨t, rfl, F.out, Bel.out⟩

/-- What FormatImages writes. -/
def fmtImg (p : List Int) : List UInt8 := if isP p = true then fmtI p else []

/-- The program's FormatImages. -/
theorem implFormatImages (A : Option Addr) (c n : Nat) (p : List Int) (w : World) (hp : RI w w.heap.size A p) (lp : Hid (p.length = n)) (hn : n ≤ 2097152) :
    Calls Tryd.prog 10 #[.slice A n c] w fun e w' => ∃ t, e = .returned (.string t) ∧ t.toList = fmtImg p ∧ Below w.heap.size w w' := by
  rcases hs : isP p with _ | _
  · have Fin : Hid (fmtImg p = []) := Lib.hid (if_neg (by rw [hs]; decide))
    go_enter Tryd.func10, Tryd.ntmps10
    go_wp2_with fail
    refine (implIsP A c n p w hp lp hn).mono ?_
    rintro e w1 ⟨he, b1⟩
    rw [hs] at he
    subst he
    have B1 := Lib.hid b1
    clear b1
    go_wp2_with fail
    go_ret
    exact ⟨_, rfl, by rw [Fin.out]; exact empty_toList, B1.out⟩
  · have Ip := Lib.hid (isP_iff.1 hs)
    have Fin : Hid (fmtImg p = fmtI p) := Lib.hid (if_pos hs)
    have hn20 : n ≤ 20 := by rw [← lp.out]; exact Ip.out.le
    have hn1 : 1 ≤ n := by rw [← lp.out]; exact Ip.out.pos
    go_enter Tryd.func10, Tryd.ntmps10
    go_wp2_with fail
    refine (implIsP A c n p w hp lp hn).mono ?_
    rintro e w1 ⟨he, b1⟩
    rw [hs] at he
    subst he
    have B1 := Lib.hid b1
    clear b1
    go_wp2_with fail
    refine (implJoin A c n p w1 (hp.up B1.out) lp (Lib.hid (isP_pts Ip.out)) hn1 hn20).mono ?_
    rintro e w2 ⟨t, rfl, ht, b2⟩
    have F : Hid (t.toList = fmtImg p) := Lib.hid (by rw [ht, Fin.out])
    have B2 : Hid (Below w.heap.size w w2) := Lib.hid (btr B1.out b2)
    clear b2 ht
    go_wp2_with fail
    go_ret
    exact ⟨t, rfl, F.out, B2.out⟩
/-- The model's FormatImages. -/
theorem specFormatImages (A : Option Addr) (c n : Nat) (p : List Int) (w : World) (hp : RI w w.heap.size A p) (lp : Hid (p.length = n)) (hn : n ≤ 2097152) (hc : n ≤ c) :
    Calls Tryd.prog 12 #[.slice A n c] w fun e w' => ∃ t, e = .returned (.string t) ∧ t.toList = fmtImg p ∧ Below w.heap.size w w' := by
  rcases hs : isP p with _ | _
  · have Fin : Hid (fmtImg p = []) := Lib.hid (if_neg (by rw [hs]; decide))
    go_enter Tryd.func12, Tryd.ntmps12
    go_wp2_with fail
    refine (quiet_below (specIsP A c n p w hp lp hn hc)).mono ?_
    rintro e w1 ⟨he, b1⟩
    rw [hs] at he
    subst he
    have B1 := Lib.hid b1
    clear b1
    go_wp2_with fail
    go_ret
    exact ⟨_, rfl, by rw [Fin.out]; exact empty_toList, B1.out⟩
  · have Ip := Lib.hid (isP_iff.1 hs)
    have Fin : Hid (fmtImg p = fmtI p) := Lib.hid (if_pos hs)
    have hn20 : n ≤ 20 := by rw [← lp.out]; exact Ip.out.le
    have hn1 : 1 ≤ n := by rw [← lp.out]; exact Ip.out.pos
    go_enter Tryd.func12, Tryd.ntmps12
    go_wp2_with fail
    refine (quiet_below (specIsP A c n p w hp lp hn hc)).mono ?_
    rintro e w1 ⟨he, b1⟩
    rw [hs] at he
    subst he
    have B1 := Lib.hid b1
    clear b1
    go_wp2_with fail
    refine (specFmt A c n p w1 (hp.up B1.out) lp (Lib.hid (isP_pts Ip.out)) hn1 hn20).mono ?_
    rintro e w2 ⟨t, rfl, ht, b2⟩
    have F : Hid (t.toList = fmtImg p) := Lib.hid (by rw [ht, Fin.out])
    have B2 : Hid (Below w.heap.size w w2) := Lib.hid (btr B1.out b2)
    clear b2 ht
    go_wp2_with fail
    go_ret
    exact ⟨t, rfl, F.out, B2.out⟩
end Go.Proofs.YtplgdbkolklgnaaDoor
