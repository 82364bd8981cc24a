/- Slices of slices of int64 that are only read, and the laws' helpers on them. Conditions: at most 1048576 slices, numbers in all. -/
import Derived.Test.YtooafmifbplbhaaSS
namespace Go.Proofs.Ytooafmifbplbhaa
open Go.RowKit

/-- '.slice A n _' reads as the slices vs, which read as the lists xss, all in blocks below B. -/
structure RR (w : World) (B : Nat) (A : Option Addr) (n : Nat) (vs : List SV) (xss : List (List Int)) : Prop where
  lv : vs.length = n
  lx : xss.length = n
  cells : 0 < n → ∃ b off, A = some ⟨b, off, none⟩ ∧ b < B ∧ ∀ j, j < n → w.cell? ⟨b, off + j, none⟩ = some (.slice (vs.getD j sd0).1 (vs.getD j sd0).2.1 (vs.getD j sd0).2.2)
  rows : ∀ j, j < n → RI w B (vs.getD j sd0).1 (xss.getD j [])
  lens : ∀ j, j < n → (xss.getD j []).length = (vs.getD j sd0).2.1
  caps : ∀ j, j < n → (vs.getD j sd0).2.1 ≤ (vs.getD j sd0).2.2

section
variable {w w' : World} {B B' n : Nat} {A : Option Addr} {vs : List SV} {xss : List (List Int)}
theorem RR.keep (h : RR w B A n vs xss) (hk : ∀ p : Addr, p.block < B → w'.cell? p = w.cell? p) : RR w' B A n vs xss :=
  ⟨h.lv, h.lx, fun hn => by obtain ⟨b, off, e, hb, hc⟩ := h.cells hn; exact ⟨b, off, e, hb, fun j hj => (hk ⟨b, off + j, none⟩ hb).trans (hc j hj)⟩, fun j hj => (h.rows j hj).keep hk, h.lens, h.caps⟩
theorem RR.more (h : RR w B A n vs xss) (hB : B ≤ B') : RR w B' A n vs xss :=
  ⟨h.lv, h.lx, fun hn => by obtain ⟨b, off, e, hb, hc⟩ := h.cells hn; exact ⟨b, off, e, by omega, hc⟩, fun j hj => (h.rows j hj).more hB, h.lens, h.caps⟩
theorem RR.below (h : RR w B A n vs xss) {B' : Nat} (hb : Below B' w w') (hB : B ≤ B') : RR w' B A n vs xss := h.keep fun _ hp => hb.cell (by omega)
theorem RR.up (h : RR w w.heap.size A n vs xss) (hb : Below w.heap.size w w') : RR w' w'.heap.size A n vs xss := (h.below hb (Nat.le_refl _)).more hb.size
theorem RR.drewN (h : RR w B A n vs xss) (k : Nat) : RR (w.drewN k) B A n vs xss := h.keep fun _ _ => rfl
theorem RR.alloc (h : RR w B A n vs xss) (hB : B ≤ w.heap.size) (o : Obj) : RR (w.alloc o) B A n vs xss := h.keep fun p hp => World.cell?_alloc_lt w o p (by omega)
theorem RR.grown (h : RR w B A n vs xss) {row : Option Nat} (hg : w.grownBy w' row) (hB : B ≤ w.heap.size) (hr : ∀ g, row = some g → B ≤ g) : RR w' B A n vs xss :=
  h.keep fun p hp => World.cell?_of_block (hg.block p.block (by omega) (fun e => by have := hr _ e.symm; omega))
theorem RR.setCell (h : RR w B A n vs xss) {p : Addr} (hB : B ≤ p.block) (u : Value) : RR (w.setCell p u) B A n vs xss :=
  h.keep fun q hq => World.cell?_setCell_other w p q u (fun e => by subst e; omega)
theorem RR.nil_ : RR w B A 0 [] [] := ⟨rfl, rfl, fun h => absurd h (by omega), fun j h => absurd h (by omega), fun j h => absurd h (by omega), fun j h => absurd h (by omega)⟩
/-- What the k-th slice is. -/
theorem RR.at_ (h : RR w B A n vs xss) {k : Nat} (hk : k < n) : ∃ b off A5 l c5 y, A = some ⟨b, off, none⟩ ∧ b < B ∧ vs.getD k sd0 = (A5, l, c5) ∧ xss.getD k [] = y ∧
    w.cell? ⟨b, off + k, none⟩ = some (.slice A5 l c5) ∧ RI w B A5 y ∧ y.length = l ∧ l ≤ c5 := by
  obtain ⟨b, off, e, hb, hc⟩ := h.cells (by omega)
  exact ⟨b, off, _, _, _, _, e, hb, rfl, rfl, hc k hk, h.rows k hk, h.lens k hk, h.caps k hk⟩
theorem SS.rr {bo bi c : Nat} (h : SS w bo bi A n c vs xss) : RR w w.heap.size A n vs xss :=
  ⟨h.lv, h.lx, fun hn => by obtain ⟨g, e, _, hg, hc⟩ := h.at_ hn; exact ⟨g, 0, e, hg, fun j hj => by rw [Nat.zero_add]; exact hc j hj⟩, fun j hj => (h.row j hj).ri_, fun j hj => (h.row j hj).1, fun j hj => (h.row j hj).le.1⟩
end

/-- The sum of the first k lengths. -/
def tot : List SV → Nat → Nat
  | _, 0 => 0
  | vs, k + 1 => tot vs k + (vs.getD k sd0).2.1
theorem tot_succ (vs : List SV) (k : Nat) : tot vs (k + 1) = tot vs k + (vs.getD k sd0).2.1 := rfl
theorem tot_mono {vs : List SV} {a b : Nat} (h : a ≤ b) : tot vs a ≤ tot vs b := by
  induction b with
  | zero => obtain rfl : a = 0 := by omega
            exact Nat.le_refl _
  | succ b ih =>
    by_cases e : a = b + 1
    · subst e; exact Nat.le_refl _
    · have := ih (by omega); rw [tot_succ]; omega
theorem tot_row {vs : List SV} {k n : Nat} (h : k < n) : (vs.getD k sd0).2.1 ≤ tot vs n := by
  have := tot_mono (vs := vs) (show k + 1 ≤ n from h)
  rw [tot_succ] at this; omega
theorem tot_eq {vs us : List SV} : ∀ n, (∀ i, i < n → (vs.getD i sd0).2.1 = (us.getD i sd0).2.1) → tot vs n = tot us n
  | 0, _ => rfl
  | n + 1, h => by rw [tot_succ, tot_succ, tot_eq n (fun i hi => h i (by omega)), h n (by omega)]
theorem tot_le_mul {vs : List SV} {n m : Nat} (h : ∀ i, i < n → (vs.getD i sd0).2.1 ≤ m) : tot vs n ≤ n * m := by
  induction n with
  | zero => exact Nat.zero_le _
  | succ n ih => have := ih (fun i hi => h i (by omega)); have := h n (by omega); rw [tot_succ, Nat.succ_mul]; omega

/-- szInt64S. -/
theorem szS (A : Option Addr) (n c : Nat) (left : Int) (w : World) (h0 : 0 ≤ left) (h1 : left ≤ 1048576) (hn : n ≤ maxLen) :
    Calls Try.prog 71 #[.slice A n c, .int .i64 left] w fun e w' => e = .returned (.int .i64 (if (n : Int) ≤ left then left - n else -1)) ∧ w = w' := by
  unfold maxLen at hn
  by_cases h : (n : Int) ≤ left
  · have d : decide (left - (n : Int) < 0) = false := by simp; omega
    rw [if_pos h]
    go_enter Try.func71, Try.ntmps71
    go_wp2
    go_ret
    exact ⟨rfl, rfl⟩
  · have d : decide (left - (n : Int) < 0) = true := by simp; omega
    rw [if_neg h]
    go_enter Try.func71, Try.ntmps71
    go_wp2
    go_ret
    exact ⟨rfl, rfl⟩

set_option maxHeartbeats 800000 in
/-- szInt64SS at a slice of slices. -/
theorem szSS (A : Option Addr) (n c : Nat) (vs : List SV) (xss : List (List Int)) (w : World) (hx : RR w w.heap.size A n vs xss) (hn : n ≤ maxLen) (hl : Hid (∀ i, i < n → (vs.getD i sd0).2.1 ≤ maxLen)) :
    Calls Try.prog 31 #[.slice A n c, .int .i64 1048576] w fun e w' => e = .returned (.int .i64 (if n + tot vs n ≤ 1048576 then 1048576 - ((n + tot vs n : Nat) : Int) else -1)) ∧ w = w' := by
  have HX := Lib.hid hx
  clear hx
  have hn' := hn
  unfold maxLen at hn'
  obtain ⟨r, er⟩ : ∃ r : Int, (if n + tot vs n ≤ 1048576 then 1048576 - ((n + tot vs n : Nat) : Int) else -1) = r := ⟨_, rfl⟩
  rw [er]
  have Er := Lib.hid er
  clear er
  by_cases h : n ≤ 1048576
  · have d : decide ((1048576 : Int) - (n : Int) < 0) = false := by simp; omega
    go_enter Try.func31, Try.ntmps31
    go_wp2
    go_loop [1, 5] (fun v i => ∃ (k T : Nat), k ≤ n ∧ Hid (tot vs k = T) ∧ n + T ≤ 1048576 ∧ i = .int .i64 (k : Nat) ∧ v = .int .i64 (1048576 - ((n + T : Nat) : Int))) (fun _ i => n - (intOf i).toNat)
    case atStart => exact ⟨0, 0, Nat.zero_le _, Lib.hid rfl, by omega, rfl, by go_num⟩
    case round =>
      obtain ⟨k, T, hk, hT, hT1, rfl, rfl⟩ := hrel
      by_cases hlt : k < n
      · obtain ⟨b, off, A5, l, c5, y, rfl, hb, ev, ey, hc, hr, hy, hlc⟩ := HX.out.at_ hlt
        have hl1 := hl.out k hlt
        have hT2 : Hid (tot vs (k + 1) = T + l) := Lib.hid (by rw [tot_succ, hT.out, ev])
        have hm : Hid (tot vs (k + 1) ≤ tot vs n) := Lib.hid (tot_mono hlt)
        rw [ev] at hl1
        clear ev ey hr
        by_cases hfit : n + T + l ≤ 1048576
        · have d2 : decide ((1048576 : Int) - ((n + T : Nat) : Int) - (l : Int) < 0) = false := by simp; omega
          go_wp2_with fail
          refine (szS A5 l c5 _ w (by omega) (by omega) hl1).mono ?_
          rintro e w1 ⟨rfl, rfl⟩
          rw [if_pos (by omega)]
          go_wp2
          go_round
          case rel => exact ⟨k + 1, T + l, by omega, hT2, by omega, by go_num, by go_num⟩
          case measure => simp [intOf]; omega
        · go_wp2_with fail
          refine (szS A5 l c5 _ w (by omega) (by omega) hl1).mono ?_
          rintro e w1 ⟨rfl, rfl⟩
          rw [if_neg (by omega)]
          go_wp2
          go_ret
          exact ⟨by rw [← Er.out, if_neg (by have := hm.out; rw [hT2.out] at this; omega)]; rfl, rfl⟩
      · have hkn : k = n := by omega
        subst hkn
        go_wp2
        go_ret
        exact ⟨by rw [← Er.out, hT.out, if_pos hT1]; go_num, rfl⟩
  · have d : decide ((1048576 : Int) - (n : Int) < 0) = true := by simp; omega
    have er2 : r = -1 := by rw [← Er.out, if_neg (by omega)]
    subst er2
    go_enter Try.func31, Try.ntmps31
    go_wp2
    go_ret
    exact ⟨rfl, rfl⟩

theorem getD_set_ne {α : Type} {l : List α} {i j : Nat} {x d : α} (h : i ≠ j) : (l.set i x).getD j d = l.getD j d := by
  rw [List.getD_eq_getElem?_getD, List.getElem?_set, if_neg h, ← List.getD_eq_getElem?_getD]
theorem getD_set_eq {α : Type} {l : List α} {i : Nat} {x d : α} (h : i < l.length) : (l.set i x).getD i d = x := by
  rw [List.getD_eq_getElem?_getD, List.getElem?_set, if_pos rfl, if_pos h]; rfl
theorem getD_rep {α : Type} {n i : Nat} {d : α} : (List.replicate n d).getD i d = d := by
  rw [List.getD_eq_getElem?_getD, List.getElem?_replicate]; split <;> rfl
/-- 'make([][]int64, n)': a row of nil slices. -/
theorem SS.made {w : World} {base bi g n : Nat} (h : w.ownsRow base 25 1 (.slice (some ⟨g, 0, none⟩) n n) n (madeCells (Value.slice none 0 0).cells (n * 1)).toList) : SS w base bi (some ⟨g, 0, none⟩) n n (List.replicate n sd0) (List.replicate n []) := by
  refine ⟨?_, by simp, by simp, fun i _ => ?_, fun i j _ _ => ?_⟩
  · have e : (madeCells (Value.slice none 0 0).cells (n * 1)).toList = (List.replicate n sd0).map sval := by
      show (madeCells #[Value.slice none 0 0] (n * 1)).toList = _
      rw [toList_madeCells_one]; simp [sval, sd0]
    rw [← e]; exact h
  · rw [getD_rep, getD_rep]; exact Slc.nil_
  · rw [getD_rep]; exact .inl rfl
/-- Where cell j of the outer row takes another slice. -/
theorem SS.store {w : World} {base bi g n c j dn dc : Nat} {dA : Option Addr} {vs : List SV} {xss : List (List Int)} {ys : List Int} (h : SS w base bi (some ⟨g, 0, none⟩) n c vs xss) (hj : j < n) (hs : Slc w bi dA dn dc ys)
    (hd : ∀ i, i < n → i ≠ j → (sval (vs.getD i sd0)).ownBlock = none ∨ (sval (vs.getD i sd0)).ownBlock ≠ (Value.slice dA dn dc).ownBlock) :
    SS (w.setCell ⟨g, j, none⟩ (.slice dA dn dc)) base bi (some ⟨g, 0, none⟩) n c (vs.set j (dA, dn, dc)) (xss.set j ys) ∧ w.grownBy (w.setCell ⟨g, j, none⟩ (.slice dA dn dc)) (some g) := by
  obtain ⟨hown, hgr⟩ := h.own.stored j (.slice dA dn dc)
  refine ⟨⟨by rw [List.map_set]; exact hown, by rw [List.length_set]; exact h.lv, by rw [List.length_set]; exact h.lx, fun i hi => ?_, fun a b hab hb => ?_⟩, hgr⟩
  · by_cases e : j = i
    · subst e
      rw [getD_set_eq (by rw [h.lv]; exact hj), getD_set_eq (by rw [h.lx]; exact hj)]
      exact hs.kept hgr (apart_types hs h.own)
    · rw [getD_set_ne e, getD_set_ne e]
      exact (h.row i hi).kept hgr (apart_types (h.row i hi) h.own)
  · by_cases ea : j = a
    · subst ea
      rw [getD_set_eq (by rw [h.lv]; exact hj), getD_set_ne (by omega)]
      rcases hd b hb (by omega) with e | e
      · rw [e]
        rcases (sval (dA, dn, dc)).ownBlock with _ | q
        · exact .inl rfl
        · exact .inr (by simp)
      · exact .inr fun e2 => e e2.symm
    · rw [getD_set_ne ea]
      by_cases eb : j = b
      · subst eb
        rw [getD_set_eq (by rw [h.lv]; exact hj)]
        exact hd a (by omega) (by omega)
      · rw [getD_set_ne eb]; exact h.dis a b hab hb

set_option maxHeartbeats 1600000 in
/-- toInt64SS: a copy of the call's own. -/
theorem toSS (A : Option Addr) (n c : Nat) (vs : List SV) (xss : List (List Int)) (w : World) (hx : RR w w.heap.size A n vs xss) (hn : n ≤ 1048576) (hl : Hid (∀ i, i < n → (vs.getD i sd0).2.1 ≤ 1048576)) :
    Calls Try.prog 32 #[.slice A n c] w fun e w' => ∃ A' c' vs', e = .returned (.slice A' n c') ∧ SS w' w.heap.size w.heap.size A' n c' vs' xss ∧ (∀ i, i < n → (vs'.getD i sd0).2.1 = (vs.getD i sd0).2.1) ∧ Below w.heap.size w w' := by
  obtain ⟨i0, hi, hz0, hz1, hz2⟩ := info_parts infoS
  have HX := Lib.hid hx
  clear hx
  go_enter Try.func32, Try.ntmps32
  go_wp2_with (first | (at_make; refine wpList_make_full _ rfl _ _ 24 rfl w.heap.size 25 i0 (.slice none 0 0) 1 Try.underlying24 hi hz0 hz1 .i64 .i64 _ _ n rfl rfl rfl rfl (by rw [hz2]; omega) (by unfold maxLen; omega) (Nat.le_refl _) ?_; intro w1 hown1 hgrow1))
  have S1 : Hid (SS w1 w.heap.size w.heap.size (some ⟨w.heap.size, 0, none⟩) n n (List.replicate n sd0) (List.replicate n [])) := Lib.hid (SS.made hown1)
  have bel1 : Below w.heap.size w w1 := (Below.refl _ _).grown hgrow1 (Nat.le_refl _) (fun k e => nomatch e)
  clear hown1 hgrow1
  go_loopw [4] (fun i wr => ∃ k us zss, k ≤ n ∧ i = .int .i64 (k : Nat) ∧ SS wr w.heap.size w.heap.size (some ⟨w.heap.size, 0, none⟩) n n us zss ∧
    (∀ j, j < k → zss.getD j [] = xss.getD j []) ∧ (∀ j, j < k → (us.getD j sd0).2.1 = (vs.getD j sd0).2.1) ∧ Below w.heap.size w wr) (fun i _ => n - (intOf i).toNat)
  case atStart => exact ⟨0, _, _, Nat.zero_le _, rfl, S1.out, fun j h => absurd h (by omega), fun j h => absurd h (by omega), bel1⟩
  case round =>
    clear S1 bel1
    obtain ⟨k, us, zss, hk, rfl, ss, hz, hu, bel⟩ := hrel
    have Ss := Lib.hid ss
    have Hz := Lib.hid hz
    have Hu := Lib.hid hu
    have Be := Lib.hid bel
    clear ss hz hu bel
    by_cases hlt : k < n
    · obtain ⟨b, off, A5, l, c5, y, rfl, hb, ev, ey, hc0, hr0, hy, hlc⟩ := HX.out.at_ hlt
      have hl1 := hl.out k hlt
      rw [ev] at hl1
      have hc := (Be.out.cell (p := ⟨b, off + k, none⟩) hb).trans hc0
      have hr := Lib.hid ((hr0.below Be.out (Nat.le_refl _)).more Be.out.size)
      have Ev := Lib.hid ev
      have Ey := Lib.hid ey
      clear ev ey hc0 hr0
      go_wp2_with fail
      refine (toS_any A5 c5 l y wr hr.out (Lib.hid hy) (by omega)).mono ?_
      rintro e w3 ⟨A3, c3, rfl, s3, b3⟩
      have hd : ∀ i, i < n → i ≠ k → (sval (us.getD i sd0)).ownBlock = none ∨ (sval (us.getD i sd0)).ownBlock ≠ (Value.slice A3 l c3).ownBlock := fun i hi _ => lies_dis Ss.out s3.lies (Nat.le_refl _) i hi
      have ss3 := (Ss.out.up b3).store hlt (s3.mono Be.out.size) hd
      obtain ⟨g, eg, hg1, hg2, hcc⟩ := (Ss.out.up b3).at_ (by omega)
      have eg2 : g = w.heap.size := by simpa using eg.symm
      rw [eg2] at hcc
      have c2 := hcc k hlt
      have f2 := (Ss.out.up b3).own.frozenAt k
      have Ss3 := Lib.hid ss3.1
      have Be3 : Hid (Below w.heap.size w (w3.setCell ⟨w.heap.size, k, none⟩ (.slice A3 l c3))) := Lib.hid ((btr Be.out b3).setCell (p := ⟨w.heap.size, k, none⟩) (Nat.le_refl _) _)
      clear ss3 hd s3 b3 hcc eg
      obtain ⟨o1, o2, o3, hu5⟩ : ∃ o1 o2 o3, us.getD k sd0 = (o1, o2, o3) := ⟨_, _, _, rfl⟩
      rw [hu5] at c2
      clear hu5
      go_wp2
      go_roundw
      case rel =>
        refine ⟨k + 1, _, _, by omega, by go_num, Ss3.out, fun j hj => ?_, fun j hj => ?_, Be3.out⟩
        · by_cases e : k = j
          · subst e; rw [getD_set_eq (by rw [Ss.out.lx]; exact hlt), Ey.out]
          · rw [getD_set_ne e]; exact Hz.out j (by omega)
        · by_cases e : k = j
          · subst e; rw [getD_set_eq (by rw [Ss.out.lv]; exact hlt), Ev.out]
          · rw [getD_set_ne e]; exact Hu.out j (by omega)
      case measure => simp [intOf]; omega
    · have hkn : k = n := by omega
      subst hkn
      have Ez : Hid (zss = xss) := Lib.hid (by
        apply List.ext_getElem (by rw [Ss.out.lx, HX.out.lx])
        intro i h1 h2
        have := Hz.out i (by rw [← Ss.out.lx]; exact h1)
        rw [List.getD_eq_getElem?_getD, List.getD_eq_getElem?_getD, List.getElem?_eq_getElem h1, List.getElem?_eq_getElem h2] at this
        exact this)
      go_wp2
      go_ret
      exact ⟨_, _, _, rfl, by rw [← Ez.out]; exact Ss.out, Hu.out, Be.out⟩
end Go.Proofs.Ytooafmifbplbhaa
