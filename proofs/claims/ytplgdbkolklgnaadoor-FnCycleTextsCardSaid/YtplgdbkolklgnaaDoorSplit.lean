/- The model's reading of words and numbers. Condition: at most 1000 bytes. -/
import Derived.Test.YtplgdbkolklgnaaDoorNums
namespace Go.Proofs.YtplgdbkolklgnaaDoor
open Go.RowKit

/-- parseInt. -/
theorem specInt (s : ByteArray) (w : World) (hs : s.size ≤ 1000) (o : Option Nat) (ho : Hid (pW s.toList = o)) :
    Calls Tryd.prog 59 #[.string s] w fun e w' => e = .returned (.tuple #[.int .i64 (o.getD 0 : Nat), .bool o.isSome]) ∧ w = w' := by
  by_cases hz : s.size = 0
  · have z1 : decide ((s.size : Int) < 1) = true := by simp; omega
    obtain rfl : o = none := by rw [← ho.out]; unfold pW pD; rw [okD_toList, hz]; simp
    clear ho
    go_enter Tryd.func59, Tryd.ntmps59
    go_wp2
    go_ret2
    exact ⟨rfl, rfl⟩
  have z1 : decide ((s.size : Int) < 1) = false := by simp; omega
  by_cases h9 : 9 < s.size
  · have z2 : decide ((9 : Int) < s.size) = true := by simp; omega
    obtain rfl : o = none := by rw [← ho.out]; unfold pW pD; rw [okD_toList, decide_eq_false (show ¬ s.size ≤ 9 by omega)]; simp
    clear ho
    go_enter Tryd.func59, Tryd.ntmps59
    go_wp2
    go_ret2
    exact ⟨rfl, rfl⟩
  have z2 : decide ((9 : Int) < s.size) = false := by simp; omega
  have z4 : 0 < s.size := by omega
  have z5 : (0 : Int) < s.size := by omega
  by_cases z3 : s[0] = 48 ∧ 1 < s.size
  · have z6 : decide ((1 : Int) < s.size) = true := by simp; omega
    have hh : (((s[0]).toNat : Int) == 48) = true := by rw [z3.1]; rfl
    obtain rfl : o = none := by rw [← ho.out]; unfold pW pD; rw [okD_toList, head_toList s z4, z3.1, decide_eq_true z3.2]; simp
    clear ho z3
    go_enter Tryd.func59, Tryd.ntmps59
    go_wp2
    go_ret2
    exact ⟨rfl, rfl⟩
  have key : (((s[0]).toNat : Int) == 48) = false ∨ ((((s[0]).toNat : Int) == 48) = true ∧ decide ((1 : Int) < s.size) = false) := by
    by_cases e : s[0] = 48
    · exact .inr ⟨by rw [e]; rfl, by simp; have : ¬ 1 < s.size := fun h => z3 ⟨e, h⟩; omega⟩
    · left
      rw [beq_eq_false_iff_ne]
      exact fun e2 => e (UInt8.toNat_inj.1 (by have : (48 : UInt8).toNat = 48 := rfl; omega))
  have ok : Hid (okD s.toList = true) := Lib.hid (by
    rw [okD_toList, head_toList s z4, decide_eq_true (show 1 ≤ s.size by omega), decide_eq_true (show s.size ≤ 9 by omega)]
    by_cases e : s[0] = 48
    · rw [decide_eq_false (fun h => z3 ⟨e, h⟩)]; simp
    · have : (some s[0] == some (48 : UInt8)) = false := by simpa using e
      rw [this]; rfl)
  have Fin : Hid (s.toList.take s.size = s.toList) := Lib.hid (List.take_of_length_le (by rw [len_toList]; exact Nat.le_refl _))
  clear z3
  rcases key with hh | ⟨hh, z6⟩ <;> (
    go_enter Tryd.func59, Tryd.ntmps59
    go_wp2
    go_loopg [4, 5] s.size (fun gg a i wr => ∃ j, j ≤ s.size ∧ s.size - j ≤ gg ∧ i = .int .i64 (j : Nat) ∧ a = .int .i64 (dval (s.toList.take j) : Nat) ∧ (s.toList.take j).all isD = true ∧ wr = w)
    case atStart => exact ⟨0, Nat.zero_le _, by omega, rfl, rfl, rfl, rfl⟩
    case round =>
      obtain ⟨j, hj, hg, rfl, rfl, hall, rfl⟩ := hrel
      have Al := Lib.hid hall
      clear hall
      by_cases hlt : j < s.size
      · have hD : dval (s.toList.take j) < 100000000 := by
          have h2 := dval_lt (s.toList.take j) Al.out
          have h3 : (s.toList.take j).length ≤ 8 := by rw [List.length_take]; omega
          exact Nat.lt_of_lt_of_le h2 (Nat.le_trans (Nat.pow_le_pow_right (by omega) h3) (by decide))
        have k1 : (j : Int) < s.size := by omega
        have k0 : (0 : Int) ≤ j := by omega
        have Sn : Hid (dval (s.toList.take (j + 1)) = 10 * dval (s.toList.take j) + ((s[j]).toNat - 48)) := Lib.hid (by rw [take_toList s hlt, dval_snoc])
        have An : Hid ((s.toList.take (j + 1)).all isD = isD s[j]) := Lib.hid (by rw [take_toList s hlt, List.all_append, Al.out]; simp)
        obtain ⟨D, eD⟩ : ∃ D, dval (s.toList.take j) = D := ⟨_, rfl⟩
        rw [eD] at Sn hD ⊢
        clear eD
        rcases hd : isD s[j] with _ | _
        · have On : Hid (o = none) := Lib.hid (by
            rw [← ho.out]; unfold pW
            rw [if_neg]
            intro h
            have := List.all_eq_true.1 h (s.toList[j]'(by rw [len_toList]; exact hlt)) (List.getElem_mem _)
            rw [get_toList s hlt, hd] at this; cases this)
          by_cases hlo : s[j].toNat < 48
          · have d1 : decide (((s[j]).toNat : Int) < 48) = true := by simp; omega
            clear hd
            go_wp2
            go_ret2
            exact ⟨by rw [On.out]; rfl, rfl⟩
          · have d1 : decide (((s[j]).toNat : Int) < 48) = false := by simp; omega
            have d2 : decide ((57 : Int) < ((s[j]).toNat : Int)) = true := by unfold isD at hd; simp at hd; simp; omega
            clear hd
            go_wp2
            go_ret2
            exact ⟨by rw [On.out]; rfl, rfl⟩
        · have hb : 48 ≤ (s[j]).toNat ∧ (s[j]).toNat ≤ 57 := by unfold isD at hd; simp at hd; omega
          have d1 : decide (((s[j]).toNat : Int) < 48) = false := by simp; omega
          have d2 : decide ((57 : Int) < ((s[j]).toNat : Int)) = false := by simp; omega
          have An2 : Hid ((s.toList.take (j + 1)).all isD = true) := Lib.hid (An.out.trans hd)
          obtain ⟨hb1, hb2⟩ := hb
          clear hd An
          go_wp2
          go_roundg (s.size - (j + 1))
          case rel => exact ⟨j + 1, by omega, Nat.le_refl _, by go_num, by rw [Sn.out]; exact congrArg (Value.int .i64) (by omega), An2.out, rfl⟩
          case measure => omega
      · obtain rfl : j = s.size := by omega
        have On : Hid (o = some (dval s.toList)) := Lib.hid (by
          have := Al.out; rw [Fin.out] at this
          rw [← ho.out]; unfold pW pD; rw [if_pos this, if_pos ok.out])
        rw [Fin.out]
        go_wp2
        go_ret2
        exact ⟨by rw [On.out]; rfl, rfl⟩)

/-- A row of the call's own that holds the texts ws. -/
def Txs (w : World) (base : Nat) (A : Option Addr) (n c : Nat) (ws : List ByteArray) : Prop := ws.length = n ∧ w.ownsRow base 9 1 (.slice A n c) n (ws.map Value.string)
section
variable {w w' : World} {base B n c : Nat} {A : Option Addr} {ws : List ByteArray}
theorem Txs.lit0 (w : World) (base : Nat) (hb : base ≤ w.heap.size) : Txs (w.alloc (.cells #[] 9)) base (some ⟨w.heap.size, 0, none⟩) 0 0 [] :=
  ⟨rfl, World.ownsRow_lit (size := 1) w #[] 0 hb (Nat.zero_le _) rfl⟩
theorem Txs.alloc (h : Txs w base A n c ws) (o : Obj) : Txs (w.alloc o) base A n c ws := ⟨h.1, World.ownsRow.alloc h.2 o⟩
theorem Txs.drewN (h : Txs w base A n c ws) (k : Nat) : Txs (w.drewN k) base A n c ws := h
theorem Txs.lt_ (h : Txs w base A n c ws) : ∀ k, (Value.slice A n c).ownBlock = some k → base ≤ k ∧ k < w.heap.size := World.ownsRow.lt h.2
theorem Txs.kept (h : Txs w base A n c ws) {row : Option Nat} (hg : w.grownBy w' row) (hne : (Value.slice A n c).ownBlock = none ∨ (Value.slice A n c).ownBlock ≠ row) : Txs w' base A n c ws := ⟨h.1, World.ownsRow.kept h.2 hg hne⟩
theorem Txs.mono (h : Txs w base A n c ws) {base' : Nat} (hb : base' ≤ base) : Txs w base' A n c ws := by
  refine ⟨h.1, h.2.1, ?_⟩
  rcases h.2.2 with hn | ⟨g, cap, cur, e, hb', rest⟩
  · exact .inl hn
  · exact .inr ⟨g, cap, cur, e, by omega, rest⟩
theorem Txs.up (h : Txs w base A n c ws) (hb : Below w.heap.size w w') : Txs w' base A n c ws := by
  refine ⟨h.1, h.2.1, ?_⟩
  rcases h.2.2 with hn | ⟨g, cap, cur, e, hb', hg, rest⟩
  · exact .inl hn
  · exact .inr ⟨g, cap, cur, e, hb', by rw [hb.block g (Array.getElem?_eq_some_iff.1 hg).1]; exact hg, rest⟩
theorem Txs.at_ (h : Txs w base A n c ws) (hn : 0 < n) : ∃ g, A = some ⟨g, 0, none⟩ ∧ base ≤ g ∧ g < w.heap.size ∧ ∀ i (hi : i < ws.length), w.cell? ⟨g, i, none⟩ = some (.string ws[i]) := by
  rcases h.2.2 with ⟨e, h0⟩ | ⟨g, cap, cur, e, hb, hg, rest⟩
  · omega
  · injection e with e1 e2 e3
    subst e1
    refine ⟨g, rfl, hb, (Array.getElem?_eq_some_iff.1 hg).1, fun i hi => ?_⟩
    rw [h.2.cellAt i (by have := h.1; omega), List.getElem?_map, List.getElem?_eq_getElem hi]
    rfl
end
theorem infoT : (Tryd.prog.info? 9).map (fun i => (i.zero, i.size, i.bytes)) = some (some (.string ⟨#[]⟩), 1, 16) := by kernel_rfl
/-- append of one text onto a row of texts of the call's own. -/
theorem wpList_appT {w : World} {ops : Array Oper} {rest : List Oper} {o : Oper} {a : Act} {Q : Exit → Act → World → Prop} (hgd : o.guard = none) (s x : Operand)
    (ho : o.op = .call { callee := .builtin .append, args := #[s, x], argTypes := #[62, 62] })
    (base : Nat) (A : Option Addr) (n c : Nat) (ws : List ByteArray) (hs : a.eval s = .slice A n c) (hown : Txs w base A n c ws) (g : Nat) (u : ByteArray) (hx : a.eval x = .slice (some ⟨g, 0, none⟩) 1 1)
    (hcell : w.cell? ⟨g, 0, none⟩ = some (.string u)) (hn : n ≤ 1000000000000) (hbase : base ≤ w.heap.size)
    (h : ∀ A' c' w', Txs w' base A' (n + 1) c' (ws ++ [u]) → w.grownBy w' (Value.slice A n c).ownBlock → wpList Tryd.prog ops Q rest (a.put o.dst (.slice A' (n + 1) c')) w') : wpList Tryd.prog ops Q (o :: rest) a w := by
  obtain ⟨i0, hi, hz0, hz1, hz2⟩ := info_parts infoT
  obtain ⟨hl, ho'⟩ := hown
  refine wpList_append_own w hgd s x 62 ho base 9 i0 (.string ⟨#[]⟩) 1 16 Tryd.underlying62 hi hz0 hz1 hz2 rfl (by decide) _ n _ hs ho' ⟨g, 0, none⟩ 1 1 [.string u] hx rfl ?_ ?_ ?_ (by omega) hbase ?_
  · intro j v hj
    match j, hj with
    | 0, hj => simp at hj; subst hj; simpa [Addr.add] using hcell
    | j + 1, hj => simp at hj
  · intro v hv; simp at hv; subst hv; rfl
  · unfold maxLen; omega
  · intro v' w' hown' hg _
    have hform : ∃ A' c', v' = .slice A' (n + 1) c' := by
      rcases hown'.2 with ⟨rfl, h0⟩ | ⟨g', cap, cur, rfl, _⟩
      · omega
      · exact ⟨_, _, rfl⟩
    obtain ⟨A', c', rfl⟩ := hform
    exact h A' c' w' ⟨by simp [hl], by rw [List.map_append]; exact hown'⟩ hg
theorem splitB_take {b : UInt8} {l : List UInt8} {m : Nat} (hm : m < l.length) (he : l[m] = b) (hn : ∀ j (hj : j < l.length), j < m → l[j] ≠ b) : splitB b l = l.take m :: splitB b (l.drop (m + 1)) := by
  have e : l = l.take m ++ b :: l.drop (m + 1) := by
    rw [← he, ← List.drop_eq_getElem_cons hm, List.take_append_drop]
  conv => lhs; rw [e]
  refine splitB_sep b _ _ fun x hx => ?_
  obtain ⟨j, hj, rfl⟩ := List.getElem_of_mem hx
  rw [List.length_take] at hj
  rw [List.getElem_take]
  exact hn j (by omega) (by omega)

theorem rest_len (s : ByteArray) (f : Nat) : (rest s f).length = s.size - f := by show (s.toList.drop f).length = _; rw [List.length_drop, len_toList]
theorem rest_get (s : ByteArray) (f i : Nat) (h : i < (rest s f).length) (h2 : f + i < s.size) : (rest s f)[i] = s[f + i] := by
  have e : (rest s f)[i]? = some s[f + i] := by
    unfold rest
    rw [List.getElem?_drop, List.getElem?_eq_getElem (by rw [len_toList]; exact h2), get_toList s h2]
  exact Option.some.inj ((List.getElem?_eq_getElem h).symm.trans e)
theorem rest_get' (s : ByteArray) (f j : Nat) (hf : f ≤ j) (h : j - f < (rest s f).length) (h2 : j < s.size) : (rest s f)[j - f] = s[j] := by
  rw [rest_get s f (j - f) h (by omega)]
  congr 1; omega

set_option maxHeartbeats 1000000 in
/-- splitText. -/
theorem specSplit (s : ByteArray) (b : UInt8) (w : World) (hs : s.size ≤ 1000) :
    Calls Tryd.prog 43 #[.string s, .int .u8 (b.toNat : Int)] w fun e w' => ∃ A n c ws, e = .returned (.slice A n c) ∧ Txs w' w.heap.size A n c ws ∧ ws.map ByteArray.toList = splitB b s.toList ∧ 1 ≤ n ∧ n ≤ 1001 ∧ (∀ u ∈ ws, u.size ≤ s.size) ∧ Below w.heap.size w w' := by
  go_enter Tryd.func43, Tryd.ntmps43
  go_wp2
  go_loopg [5, 6, 7] (s.size + 1) (fun gg v fr i wr => ∃ j f A n c ws, j ≤ s.size + 1 ∧ f ≤ j ∧ s.size + 1 - j ≤ gg ∧ i = .int .i64 (j : Nat) ∧ fr = .int .i64 (f : Nat) ∧ v = .slice A n c ∧ n ≤ f ∧ Txs wr w.heap.size A n c ws ∧ Below w.heap.size w wr ∧ (∀ u ∈ ws, u.size ≤ s.size) ∧
    (j ≤ s.size → ws.map ByteArray.toList ++ splitB b (rest s f) = splitB b s.toList) ∧ (j ≤ s.size → f ≤ s.size) ∧ (s.size < j → ws.map ByteArray.toList = splitB b s.toList) ∧ (∀ i (hi : i < s.size), f ≤ i → i < j → s[i] ≠ b))
  case atStart => exact ⟨0, 0, _, _, _, [], Nat.zero_le _, Nat.le_refl _, by omega, rfl, rfl, rfl, Nat.le_refl _, Txs.lit0 w _ (Nat.le_refl _), (Below.refl _ _).alloc (Nat.le_refl _) _, fun u h => (nomatch h), fun _ => rfl, fun _ => Nat.zero_le _, fun h => absurd h (by omega), fun i _ _ h => absurd h (by omega)⟩
  case round =>
    obtain ⟨j, f, A, n, c, ws, hj, hfj, hg, rfl, rfl, rfl, hnf, tx, bel, hsz, hcat, hfs, hend, hno⟩ := hrel
    have Tx := Lib.hid tx
    have Bel := Lib.hid bel
    have Sz := Lib.hid hsz
    have Cat := Lib.hid hcat
    have Fs := Lib.hid hfs
    have En := Lib.hid hend
    have No := Lib.hid hno
    clear tx bel hsz hcat hfs hend hno
    by_cases hle : j ≤ s.size
    · have hf := Fs.out hle
      have q0 : (0 : Int) ≤ f := by omega
      have q1 : (f : Int) ≤ j := by omega
      have q2 : (j : Int) ≤ s.size := by omega
      have p0 : (0 : Int) ≤ j := by omega
      by_cases hjs : j = s.size
      · have e1 : ((j : Int) == (s.size : Int)) = true := by rw [beq_iff_eq]; omega
        have ex : Hid ((s.extract f j).toList = rest s f) := Lib.hid (by
          rw [extract_toList]; unfold rest; rw [hjs]
          exact List.take_of_length_le (by rw [List.length_drop, len_toList]; exact Nat.le_refl _))
        have wd : Hid (splitB b (rest s f) = [rest s f]) := Lib.hid (splitB_word b _ fun x hx => by
          obtain ⟨i, hi, rfl⟩ := List.getElem_of_mem hx
          have hi2 := hi
          rw [rest_len] at hi2
          rw [rest_get s f i hi (by omega)]
          exact No.out (f + i) (by omega) (by omega) (by omega))
        have Hjs := Lib.hid hjs
        clear hjs
        go_wp2_with (first | (at_builtin; refine wpList_appT rfl _ _ rfl w.heap.size A n c _ rfl (Tx.out.alloc _) wr.heap.size (s.extract f j) rfl (by rw [World.cell?_alloc_at _ _ _ _ rfl]; rfl) (by omega) (by have := Bel.out.size; simp; omega) ?_; intro A3 c3 w3 s3 g3))
        have S3 := Lib.hid s3
        have Bel3 : Hid (Below w.heap.size w w3) := Lib.hid ((Bel.out.alloc Bel.out.size _).grown g3 (by have := Bel.out.size; simp; omega) (fun k e => (Tx.out.lt_ k e).1))
        clear s3 g3
        go_wp2
        go_roundg (s.size + 1 - (j + 1))
        case rel =>
          have hjs := Hjs.out
          refine ⟨j + 1, j + 1, A3, n + 1, c3, _, by omega, Nat.le_refl _, Nat.le_refl _, by go_num, by go_num, rfl, by omega, S3.out, Bel3.out, ?_, fun h => absurd h (by omega), fun h => absurd h (by omega), fun _ => ?_, fun i _ h1 h2 => absurd h2 (by omega)⟩
          · intro u hu
            rw [List.mem_append] at hu
            rcases hu with hu | hu
            · exact Sz.out u hu
            · simp at hu; subst hu; rw [ByteArray.size_extract]; omega
          · rw [List.map_append, ← Cat.out hle, wd.out]
            show _ ++ [(s.extract f j).toList] = _
            rw [ex.out]
        case measure => omega
      · have hlt : j < s.size := by omega
        have e1 : ((j : Int) == (s.size : Int)) = false := by rw [beq_eq_false_iff_ne]; omega
        have k1 : (j : Int) < s.size := by omega
        by_cases hb : s[j] = b
        · have t1 : (((s[j]).toNat : Int) == (b.toNat : Int)) = true := by rw [hb]; simp
          have ex : Hid ((s.extract f j).toList = (rest s f).take (j - f)) := Lib.hid (by rw [extract_toList]; rfl)
          have wd : Hid (splitB b (rest s f) = (rest s f).take (j - f) :: splitB b (rest s (j + 1))) := Lib.hid (by
            have h1 : j - f < (rest s f).length := by rw [rest_len]; omega
            have h2 := splitB_take (b := b) (l := rest s f) (m := j - f) h1 (by rw [rest_get' s f j hfj h1 hlt, hb]) (fun i hi h => by
                have hi2 := hi
                rw [rest_len] at hi2
                rw [rest_get s f i hi (by omega)]
                exact No.out (f + i) (by omega) (by omega) (by omega))
            rw [h2]
            congr 2
            unfold rest
            rw [List.drop_drop]
            congr 1; omega)
          clear hb
          go_wp2_with (first | (at_builtin; refine wpList_appT rfl _ _ rfl w.heap.size A n c _ rfl (Tx.out.alloc _) wr.heap.size (s.extract f j) rfl (by rw [World.cell?_alloc_at _ _ _ _ rfl]; rfl) (by omega) (by have := Bel.out.size; simp; omega) ?_; intro A3 c3 w3 s3 g3))
          have S3 := Lib.hid s3
          have Bel3 : Hid (Below w.heap.size w w3) := Lib.hid ((Bel.out.alloc Bel.out.size _).grown g3 (by have := Bel.out.size; simp; omega) (fun k e => (Tx.out.lt_ k e).1))
          clear s3 g3
          go_wp2
          go_roundg (s.size + 1 - (j + 1))
          case rel =>
            refine ⟨j + 1, j + 1, A3, n + 1, c3, _, by omega, Nat.le_refl _, Nat.le_refl _, by go_num, by go_num, rfl, by omega, S3.out, Bel3.out, ?_, fun h => ?_, fun h => by omega, fun h => absurd h (by omega), fun i _ h1 h2 => absurd h2 (by omega)⟩
            · intro u hu
              rw [List.mem_append] at hu
              rcases hu with hu | hu
              · exact Sz.out u hu
              · simp at hu; subst hu; rw [ByteArray.size_extract]; omega
            · rw [List.map_append, ← Cat.out hle, wd.out, List.append_assoc]
              show _ ++ ([(s.extract f j).toList] ++ _) = _
              rw [ex.out]; rfl
          case measure => omega
        · have t1 : (((s[j]).toNat : Int) == (b.toNat : Int)) = false := by
            rw [beq_eq_false_iff_ne]; exact fun e => hb (UInt8.toNat_inj.1 (by omega))
          have No2 : Hid (∀ i (hi : i < s.size), f ≤ i → i < j + 1 → s[i] ≠ b) := Lib.hid fun i hi h1 h2 => by
            by_cases e : i = j
            · subst e; exact hb
            · exact No.out i hi h1 (by omega)
          clear hb
          go_wp2
          go_roundg (s.size + 1 - (j + 1))
          case rel => exact ⟨j + 1, f, A, n, c, ws, by omega, by omega, Nat.le_refl _, by go_num, rfl, rfl, hnf, Tx.out, Bel.out, Sz.out, fun _ => Cat.out hle, fun _ => hf, fun h => absurd h (by omega), No2.out⟩
          case measure => omega
    · have Ee := Lib.hid (En.out (by omega))
      have n1 : 1 ≤ n := by
        have := congrArg List.length Ee.out
        rw [List.length_map, Tx.out.1] at this
        have h2 := splitB_ne b s.toList
        cases e : splitB b s.toList with
        | nil => exact absurd e h2
        | cons x y => rw [e] at this; simp at this; omega
      go_wp2
      go_ret
      exact ⟨_, _, _, ws, rfl, Tx.out, Ee.out, n1, by omega, Sz.out, Bel.out⟩
end Go.Proofs.YtplgdbkolklgnaaDoor
