/- FormatImages, of the program and of the model. No condition but lengths. -/
import Derived.Test.YtplgdbkolklgnaaDoorFmtS
import Derived.Test.YtplgdbkolklgnaaDoorSplit
import Derived.Test.YtplgdbkolklgnaaDoorShelf
namespace Go.Proofs.YtplgdbkolklgnaaDoor
open Go.RowKit

theorem Txs.store {w : World} {base g n c : Nat} {ws : List ByteArray} (h : Txs w base (some ⟨g, 0, none⟩) n c ws) (j : Nat) (u : ByteArray) : Txs (w.setCell ⟨g, j, none⟩ (.string u)) base (some ⟨g, 0, none⟩) n c (ws.set j u) := by
  refine ⟨by rw [List.length_set]; exact h.1, ?_⟩
  rw [List.map_set]
  exact (h.2.stored j _).1
theorem Txs.free {w : World} {base g n c : Nat} {ws : List ByteArray} (h : Txs w base (some ⟨g, 0, none⟩) n c ws) (j : Nat) : w.frozen? ⟨g, j, none⟩ = false := h.2.frozenAt j
theorem Txs.cell {w : World} {base g n c : Nat} {ws : List ByteArray} (h : Txs w base (some ⟨g, 0, none⟩) n c ws) {j : Nat} (hj : j < n) : w.cell? ⟨g, j, none⟩ = some (.string (ws[j]'(by rw [h.1]; exact hj))) := by
  rw [h.2.cellAt j (by omega), List.getElem?_map, List.getElem?_eq_getElem (by rw [h.1]; exact hj)]; rfl
theorem Txs.made {w : World} {base g n c : Nat} (h : w.ownsRow base 9 1 (.slice (some ⟨g, 0, none⟩) n c) n (madeCells (Value.string ⟨#[]⟩).cells (n * 1)).toList) : Txs w base (some ⟨g, 0, none⟩) n c (List.replicate n ⟨#[]⟩) := by
  refine ⟨by simp, ?_⟩
  have e : (madeCells (Value.string ⟨#[]⟩).cells (n * 1)).toList = (List.replicate n (⟨#[]⟩ : ByteArray)).map Value.string := by
    show (madeCells #[Value.string ⟨#[]⟩] (n * 1)).toList = _
    rw [toList_madeCells_one]; simp
  rw [← e]; exact h
theorem Txs.le {w : World} {base n c : Nat} {A : Option Addr} {ws : List ByteArray} (h : Txs w base A n c ws) : n ≤ c := by
  rcases h.2.2 with ⟨e, h0⟩ | ⟨g, cap, cur, e, _, _, hn, _⟩
  · omega
  · injection e with e1 e2 e3; subst e3; exact hn
/-- The digits of the numbers, as far as k. -/
def digs (xs : List Int) (k : Nat) : List (List UInt8) := (xs.take k).map fun x => dig x.toNat
theorem digs_succ {xs : List Int} {k x : Nat} (hk : k < xs.length) (e : xs.getD k 0 = (x : Int)) : digs xs (k + 1) = digs xs k ++ [dig x] := by
  unfold digs
  rw [List.take_succ_eq_append_getElem hk, List.map_append]
  rw [getD_eq hk] at e
  rw [e]; rfl
theorem digs_all (xs : List Int) : jn 32 (digs xs xs.length) = fmtI xs := by unfold digs fmtI; rw [List.take_of_length_le (Nat.le_refl _)]
theorem digs_len (xs : List Int) (k : Nat) (hk : k ≤ xs.length) : (digs xs k).length = k := by simp [digs]; omega
theorem join_jn : ∀ ls : List (List UInt8), Lib.join ls [32] = jn 32 ls
  | [] => rfl
  | [w] => by rw [Lib.join_one]; rfl
  | w :: v :: r => by
    rw [jn_cons 32 w (by simp), ← join_jn (v :: r), Lib.join_cons, Lib.join_cons]
    simp [Lib.joinTail]
theorem dig_dec : ∀ x, x < 20 → Lib.decDigits x = dig x := by
  intro x hx
  by_cases h : x < 10
  · rw [Lib.decDigits, dif_pos h, dig, if_pos h]
  · rw [Lib.decDigits, dif_neg h, Lib.decDigits, dif_pos (by omega), dig, if_neg h]; rfl
theorem jn_len (b : UInt8) : ∀ ls : List (List UInt8), (∀ l ∈ ls, l.length ≤ 2) → (jn b ls).length ≤ 3 * ls.length
  | [], _ => Nat.le_refl _
  | [w], h => by have := h w (by simp); simp [jn]; omega
  | w :: v :: r, h => by
    have h1 := h w (by simp)
    have h2 := jn_len b (v :: r) fun l hl => h l (by simp [hl])
    rw [jn_cons b w (by simp)]
    simp at h2 ⊢; omega
theorem fmtI_len {xs : List Int} (h : Pts xs) : (fmtI xs).length ≤ 3 * xs.length := by
  have := jn_len 32 (xs.map fun x => dig x.toNat) (fun l hl => by
    rw [List.mem_map] at hl
    obtain ⟨x, hx, rfl⟩ := hl
    have := h x hx
    exact (dig_facts x.toNat (by omega)).2.2.2.2.1)
  rw [List.length_map] at this
  exact this
theorem isP_pts {p : List Int} (h : IsP p) : Pts p := fun x hx => by
  obtain ⟨i, hi, rfl⟩ := List.getElem_of_mem hx
  have h1 := h.lo i hi
  have h2 := h.hi i hi
  have h3 := h.le
  rw [getD_eq hi] at h1 h2
  omega
theorem pts_at {xs : List Int} (h : Pts xs) {k : Nat} (hk : k < xs.length) : ∃ x : Nat, x < 20 ∧ xs.getD k 0 = (x : Int) := by
  have := h xs[k] (List.getElem_mem hk)
  exact ⟨xs[k].toNat, by omega, by rw [getD_eq hk]; omega⟩

set_option maxHeartbeats 1000000 in
/-- joinNumbers. -/
theorem implJoin (A : Option Addr) (c n : Nat) (xs : List Int) (w : World) (hx : RI w w.heap.size A xs) (lx : Hid (xs.length = n)) (px : Hid (Pts xs)) (h1 : 1 ≤ n) (hn : n ≤ 20) :
    Calls Tryd.prog 28 #[.slice A n c] w fun e w' => ∃ t, e = .returned (.string t) ∧ t.toList = fmtI xs ∧ Below w.heap.size w w' := by
  obtain ⟨i0, hi, hz0, hz1, hz2⟩ := info_parts infoT
  go_enter Tryd.func28, Tryd.ntmps28
  go_wp2_with (first | (at_make; refine wpList_make_full _ rfl _ _ 62 rfl w.heap.size 9 i0 (.string ⟨#[]⟩) 1 Tryd.underlying62 hi hz0 hz1 .i64 .i64 _ _ n rfl rfl rfl rfl (by rw [hz2]; omega) (by unfold maxLen; omega) (Nat.le_refl _) ?_; intro w1 hown1 hgrow1))
  have T1 := Lib.hid (Txs.made hown1)
  have B1 : Hid (Below w.heap.size w w1) := Lib.hid ((Below.refl _ _).grown hgrow1 (Nat.le_refl _) (fun k e => nomatch e))
  have Z1 : w.heap.size < w1.heap.size := ((Txs.made hown1).lt_ w.heap.size rfl).2
  clear hown1 hgrow1
  go_loopg [4, 5, 11] n (fun gg _ _ i wr => ∃ k ws, k ≤ n ∧ n - k ≤ gg ∧ i = .int .i64 (k : Nat) ∧ Txs wr w.heap.size (some ⟨w.heap.size, 0, none⟩) n n ws ∧ (ws.take k).map ByteArray.toList = digs xs k ∧ w.heap.size < wr.heap.size ∧ Below w.heap.size w wr)
  case atStart => exact ⟨0, _, Nat.zero_le _, by omega, rfl, T1.out, rfl, Z1, B1.out⟩
  case round =>
    obtain ⟨k, ws, hk, hg, rfl, tx, heq, zr, bel⟩ := hrel
    have Tx := Lib.hid tx
    have Eq := Lib.hid heq
    have Bel := Lib.hid bel
    have lw := tx.1
    clear tx heq bel
    by_cases hlt : k < n
    · obtain ⟨b, off, rfl, hb, hc⟩ := hx (by rw [lx.out]; omega)
      obtain ⟨x, hx20, ex⟩ := pts_at px.out (k := k) (by rw [lx.out]; exact hlt)
      have c1 := (Bel.out.cell (p := ⟨b, off + k, none⟩) hb).trans (hc k (by rw [lx.out]; omega))
      rw [ex] at c1
      have c2 := Tx.out.cell hlt
      have f2 := Tx.out.free k
      have Ds := Lib.hid (digs_succ (xs := xs) (by rw [lx.out]; exact hlt) ex)
      obtain ⟨u, eu⟩ : ∃ u : ByteArray, (⟨(Lib.decDigits x).toArray⟩ : ByteArray) = u := ⟨_, rfl⟩
      have Tu : Hid (u.toList = dig x) := Lib.hid (by rw [← eu, ByteArray.toList_mk, dig_dec x hx20])
      have Tx2 := Lib.hid (Tx.out.store k u)
      have Bel2 := Lib.hid (Bel.out.setCell (p := ⟨w.heap.size, k, none⟩) (Nat.le_refl _) (.string u))
      have Eq2 : Hid (((ws.set k u).take (k + 1)).map ByteArray.toList = digs xs (k + 1)) := Lib.hid (by
        rw [Ds.out, List.take_succ_eq_append_getElem (by rw [List.length_set, lw]; exact hlt), List.map_append, ← Eq.out, List.getElem_set_self]
        rw [List.take_set_of_le (Nat.le_refl _)]
        simp [Tu.out])
      have hf := Tryd.strconv_FormatInt_10_small x (by omega) wr
      rw [eu] at hf
      clear hc ex eu
      go_wp2_with fail
      refine hf.mono ?_
      rintro e w2 ⟨rfl, rfl⟩
      clear hf
      go_wp2
      go_roundg (n - (k + 1))
      case rel => exact ⟨k + 1, _, by omega, Nat.le_refl _, by go_num, Tx2.out, Eq2.out, by simpa [World.setCell] using zr, Bel2.out⟩
      case measure => omega
    · have hkn : k = n := by omega
      subst hkn
      have hj := Tryd.strings_Join w.heap.size 0 k ws ⟨#[32]⟩ wr (fun j x hj => by
        have hjl := (List.getElem?_eq_some_iff.1 hj).1
        rw [Nat.zero_add, Tx.out.cell (by omega)]
        rw [List.getElem?_eq_getElem hjl] at hj
        rw [← Option.some.inj hj]) zr (by omega) (by omega)
      have E2 : ws.map (·.data.toList) = digs xs k := by
        have := Eq.out
        rw [List.take_of_length_le (by omega)] at this
        rw [← this]
        exact List.map_congr_left fun a _ => (ByteArray.toList_eq a).symm
      rw [E2, lw] at hj
      have e32 : (⟨#[32]⟩ : ByteArray).data.toList = [32] := rfl
      have ej : Lib.join (digs xs k) [32] = fmtI xs := by rw [join_jn, ← lx.out, digs_all]
      rw [e32, ej] at hj
      have hj2 := hj (by have := fmtI_len px.out; rw [lx.out] at this; omega)
      clear hj E2 e32 ej
      go_wp2_with fail
      refine hj2.mono ?_
      rintro e w2 ⟨rfl, b2⟩
      have B2 : Hid (Below w.heap.size w w2) := Lib.hid (btr Bel.out b2)
      clear b2 hj2
      go_wp2_with fail
      go_ret
      exact ⟨_, rfl, ByteArray.toList_mk _, B2.out⟩
end Go.Proofs.YtplgdbkolklgnaaDoor
