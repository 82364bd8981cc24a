/- Part 6 of the texts: Less, GmC, PbD, SEq, PbE, RkM, RkB, SbA, PbB, PbC, WalkK7, Nmp7. No condition of its own: each text tells its own. -/
import Derived.Test.YtedfcljikgmpgaaGreatMg1
import Derived.Test.YtedfcljikgmpgaaGreatMg5
import Derived.Test.YtedfcljikgmpgaaGreatMg4
import Derived.Test.YtedfcljikgmpgaaGreatMg3
import Derived.Shelf.SlSortCmp.Insertion
import Derived.Shelf.SlSortCmp.Whole1
import Derived.BigQuiet
import Derived.WalkSpells
set_option linter.unusedVariables false
set_option linter.unusedSimpArgs false

/- PermutationLess, of the program (by slices.Compare) and of the model. Condition: at most 2097152 entries. -/
namespace Go.Proofs.YtedfcljikgmpgaaGreat
open Go.RowKit

/-- p comes first: at the first place where they differ p is smaller. -/
def lessI (p q : List Int) (n : Nat) : Bool := decide (∃ k, k < n ∧ (∀ j, j < k → p.getD j 0 = q.getD j 0) ∧ p.getD k 0 < q.getD k 0)
theorem lessI_at {p q : List Int} {n k : Nat} (hk : k < n) (he : ∀ j, j < k → p.getD j 0 = q.getD j 0) (hne : p.getD k 0 ≠ q.getD k 0) : lessI p q n = decide (p.getD k 0 < q.getD k 0) := by
  unfold lessI
  rw [Bool.eq_iff_iff, decide_eq_true_eq, decide_eq_true_eq]
  constructor
  · rintro ⟨i, hi, h1, h2⟩
    rcases Nat.lt_trichotomy i k with h | h | h
    · have := he i h; omega
    · subst h; exact h2
    · exact absurd (h1 k h) hne
  · intro h; exact ⟨k, hk, he, h⟩
theorem lessI_end {p q : List Int} {n : Nat} (he : ∀ j, j < n → p.getD j 0 = q.getD j 0) : lessI p q n = false := by
  unfold lessI
  rw [decide_eq_false_iff_not]
  rintro ⟨k, hk, _, h⟩
  have := he k hk; omega
def lessP (p q : List Int) : Bool := sameD p q && lessI p q p.length

def sgnI (x y : Int) : Int := if x < y then -1 else if y < x then 1 else 0
theorem cmpI (x y : Int) (w : World) : Calls Tryz.prog 71 #[.int .i64 x, .int .i64 y] w fun e w' => e = .returned (.int .i64 (sgnI x y)) ∧ w = w' := by
  have hx : (x != x) = false := by simp
  have hy : (y != y) = false := by simp
  by_cases h1 : x < y
  · have Fin : Hid (sgnI x y = -1) := Lib.hid (if_pos h1)
    have d1 : decide (x < y) = true := by simpa using h1
    go_enter Tryz.func71, Tryz.ntmps71
    go_wp2
    go_ret
    exact ⟨ret_int Fin.out.symm, rfl⟩
  · by_cases h2 : y < x
    · have Fin : Hid (sgnI x y = 1) := Lib.hid (by unfold sgnI; rw [if_neg h1, if_pos h2])
      have d1 : decide (x < y) = false := by simpa using h1
      have d2 : decide (y < x) = true := by simpa using h2
      go_enter Tryz.func71, Tryz.ntmps71
      go_wp2
      go_ret
      exact ⟨ret_int Fin.out.symm, rfl⟩
    · have Fin : Hid (sgnI x y = 0) := Lib.hid (by unfold sgnI; rw [if_neg h1, if_neg h2])
      have d1 : decide (x < y) = false := by simpa using h1
      have d2 : decide (y < x) = false := by simpa using h2
      go_enter Tryz.func71, Tryz.ntmps71
      go_wp2
      go_ret
      exact ⟨ret_int Fin.out.symm, rfl⟩

set_option maxHeartbeats 400000 in
/-- slices.Compare at two lists of one length. -/
theorem sCmp (A B : Option Addr) (c d n : Nat) (p q : List Int) (w : World) (hp : RI w w.heap.size A p) (hq : RI w w.heap.size B q) (lp : Hid (p.length = n)) (lq : Hid (q.length = n)) (hn : n ≤ 20) :
    Calls Tryz.prog 59 #[.slice A n c, .slice B n d] w fun e w' => ∃ r, e = .returned (.int .i64 r) ∧ Hid (decide (r < 0) = lessI p q n) ∧ w = w' := by
  go_enter Tryz.func59, Tryz.ntmps59
  go_wp2
  go_loop [5, 6, 7, 8, 11] (fun _ _ _ _ i => ∃ k : Nat, k ≤ n ∧ i = .int .i64 (k : Nat) ∧ (∀ j, j < k → p.getD j 0 = q.getD j 0)) (fun _ _ _ _ i => n - (intOf i).toNat)
  case atStart => exact ⟨0, Nat.zero_le _, rfl, fun j h => absurd h (by omega)⟩
  case round =>
    obtain ⟨k, hk, rfl, heq⟩ := hrel
    have Heq := Lib.hid heq
    clear heq
    by_cases hlt : k < n
    · obtain ⟨b, off, rfl, hb, hc⟩ := hp (by rw [lp.out]; omega)
      obtain ⟨b', off', rfl, hb', hc'⟩ := hq (by rw [lq.out]; omega)
      have c1 := hc k (by rw [lp.out]; omega)
      have c2 := hc' k (by rw [lq.out]; omega)
      obtain ⟨x, ex⟩ : ∃ x, p.getD k 0 = x := ⟨_, rfl⟩
      obtain ⟨y, ey⟩ : ∃ y, q.getD k 0 = y := ⟨_, rfl⟩
      rw [ex] at c1
      rw [ey] at c2
      have Ex := Lib.hid ex
      have Ey := Lib.hid ey
      clear ex ey hc hc' hp hq
      by_cases hxy : x = y
      · have Z : Hid (sgnI x y = 0) := Lib.hid (by subst hxy; unfold sgnI; simp)
        have Hxy := Lib.hid hxy
        clear hxy
        go_wp2_with fail
        refine (cmpI x y w).mono ?_
        rintro e w1 ⟨rfl, rfl⟩
        rw [Z.out]
        go_wp2
        go_round
        case rel => exact ⟨k + 1, by omega, by go_num, fun j hj => by
          by_cases e : j = k
          · subst e; rw [Ex.out, Ey.out, Hxy.out]
          · exact Heq.out j (by omega)⟩
        case measure => simp [intOf]; omega
      · have Fin : Hid (decide (sgnI x y < 0) = lessI p q n) := Lib.hid (by
          rw [lessI_at hlt Heq.out (by rw [Ex.out, Ey.out]; exact hxy), Ex.out, Ey.out]
          unfold sgnI
          by_cases h1 : x < y
          · rw [if_pos h1, decide_eq_true h1]; rfl
          · rw [if_neg h1, if_pos (by omega), decide_eq_false h1]; rfl)
        have hne : (sgnI x y != 0) = true := by
          rw [bne_iff_ne]; unfold sgnI; split
          · decide
          · rw [if_pos (by omega)]; decide
        have hne' : (sgnI x y == 0) = false := by
          rw [beq_eq_false_iff_ne]; exact bne_iff_ne.1 hne
        clear hxy
        go_wp2_with fail
        refine (cmpI x y w).mono ?_
        rintro e w1 ⟨rfl, rfl⟩
        go_wp2
        go_ret
        exact ⟨_, rfl, Fin, rfl⟩
    · have hkn : k = n := by omega
      subst hkn
      have Fin : Hid (decide ((0 : Int) < 0) = lessI p q k) := Lib.hid (by rw [lessI_end Heq.out]; rfl)
      go_wp2
      go_ret
      exact ⟨_, rfl, Fin, rfl⟩


end Go.Proofs.YtedfcljikgmpgaaGreat

/- slices.SortFunc of rows by slices.Compare, where no two begin alike; SortedFunc; sets. Conditions: at most 20 points. -/
namespace Go.Proofs.YtedfcljikgmpgaaGreat
open Go.RowKit Go.Sort Go.Shelf
attribute [local go_sem] Oper.semAt_some

def cmpH (p q : List Int) : Int := sgnI (p.getD 0 0) (q.getD 0 0)
set_option maxHeartbeats 1000000 in
set_option maxRecDepth 100000 in
/-- slices.Compare of two lists that are one or begin otherwise. -/
theorem sCmpV (A B : Option Addr) (c d n m : Nat) (p q : List Int) (w : World) (hp : RI w w.heap.size A p) (hq : RI w w.heap.size B q) (lp : Hid (p.length = n)) (lq : Hid (q.length = m)) (hn : 1 ≤ n ∧ n ≤ 20) (hm : 1 ≤ m ∧ m ≤ 20) (hpq : p.getD 0 0 = q.getD 0 0 → p = q) :
    Calls Tryz.prog 59 #[.slice A n c, .slice B m d] w fun e w' => e = .returned (.int .i64 (cmpH p q)) ∧ w = w' := by
  by_cases he : p.getD 0 0 = q.getD 0 0
  · obtain rfl := hpq he
    obtain rfl : n = m := by rw [← lp.out, lq.out]
    have Z : Hid ((0 : Int) = cmpH p p) := Lib.hid (by unfold cmpH sgnI; simp)
    clear he hpq
    go_enter Tryz.func59, Tryz.ntmps59
    go_wp2
    go_loop [5, 6, 7, 8, 11] (fun _ _ _ _ i => ∃ k : Nat, k ≤ n ∧ i = .int .i64 (k : Nat)) (fun _ _ _ _ i => n - (intOf i).toNat)
    case atStart => exact ⟨0, Nat.zero_le _, rfl⟩
    case round =>
      obtain ⟨k, hk, rfl⟩ := hrel
      by_cases hlt : k < n
      · obtain ⟨b, off, rfl, hb, hc⟩ := hp (by rw [lp.out]; omega)
        obtain ⟨b', off', rfl, hb', hc'⟩ := hq (by rw [lp.out]; omega)
        have c1 := hc k (by rw [lp.out]; omega)
        have c2 := hc' k (by rw [lp.out]; omega)
        obtain ⟨x, ex⟩ : ∃ x, p.getD k 0 = x := ⟨_, rfl⟩
        rw [ex] at c1 c2
        have Z2 : Hid (sgnI x x = 0) := Lib.hid (by unfold sgnI; simp)
        clear ex hc hc' hp hq
        go_wp2_with fail
        refine (cmpI x x w).mono ?_
        rintro e w1 ⟨rfl, rfl⟩
        rw [Z2.out]
        go_wp2
        go_round
        case rel => exact ⟨k + 1, by omega, by go_num⟩
        case measure => simp [intOf]; omega
      · obtain rfl : k = n := by omega
        go_wp2
        go_ret
        exact ⟨ret_int Z.out, rfl⟩
  · obtain ⟨b, off, rfl, hb, hc⟩ := hp (by rw [lp.out]; omega)
    obtain ⟨b', off', rfl, hb', hc'⟩ := hq (by rw [lq.out]; omega)
    have c1 := hc 0 (by rw [lp.out]; omega)
    have c2 := hc' 0 (by rw [lq.out]; omega)
    obtain ⟨x, ex⟩ : ∃ x, p.getD 0 0 = x := ⟨_, rfl⟩
    obtain ⟨y, ey⟩ : ∃ y, q.getD 0 0 = y := ⟨_, rfl⟩
    rw [ex] at c1 he
    rw [ey] at c2 he
    rw [Nat.add_zero] at c1 c2
    have Fin : Hid (sgnI x y = cmpH p q) := Lib.hid (by unfold cmpH; rw [ex, ey])
    have hne : (sgnI x y != 0) = true := by
      rw [bne_iff_ne]; unfold sgnI; split
      · decide
      · rw [if_pos (by omega)]; decide
    have hne' : (sgnI x y == 0) = false := by
      rw [beq_eq_false_iff_ne]; exact bne_iff_ne.1 hne
    clear ex ey hc hc' hp hq he hpq
    go_enter Tryz.func59, Tryz.ntmps59
    go_wp2
    go_loop [5, 6, 7, 8, 11] (fun _ _ _ _ i => i = .int .i64 0) (fun _ _ _ _ _ => 0)
    case atStart => rfl
    case round =>
      obtain rfl := hrel
      have q1 : (0 : Int) < n := by omega
      have q2 : (0 : Int) < m := by omega
      have q3 : ¬ (m : Int) ≤ 0 := by omega
      go_wp2_with fail
      refine (cmpI x y w).mono ?_
      rintro e w1 ⟨rfl, rfl⟩
      go_wp2
      go_ret
      exact ⟨ret_int Fin.out, rfl⟩

/-- A row of w, with the numbers that it holds. -/
def RV (w : World) (bi : Nat) (S : List Int → Prop) : Type := {x : SV × List Int // x.1.2.1 = x.2.length ∧ Slc w bi x.1.1 x.2.length x.1.2.2 x.2 ∧ S x.2}
def RV.enc {w : World} {bi : Nat} {S : List Int → Prop} (x : RV w bi S) : Value := sval x.1.1
def RV.sv {w : World} {bi : Nat} {S : List Int → Prop} (x : RV w bi S) : SV := x.1.1
def RV.per {w : World} {bi : Nat} {S : List Int → Prop} (x : RV w bi S) : List Int := x.1.2
def RV.cf {w : World} {bi : Nat} {S : List Int → Prop} (x y : RV w bi S) : Int := cmpH x.per y.per
theorem rv_lt {w : World} {bi : Nat} {S : List Int → Prop} (x y : RV w bi S) : ltOf RV.cf x y = true ↔ x.per.getD 0 0 < y.per.getD 0 0 := by
  unfold ltOf RV.cf cmpH sgnI
  rw [decide_eq_true_eq]
  generalize x.per.getD 0 0 = a
  generalize y.per.getD 0 0 = b
  split
  · constructor <;> intro _ <;> omega
  · split <;> constructor <;> intro _ <;> omega
theorem rv_ltF {w : World} {bi : Nat} {S : List Int → Prop} (x y : RV w bi S) : ltOf RV.cf x y = false ↔ ¬ x.per.getD 0 0 < y.per.getD 0 0 := by
  rw [← rv_lt]; cases ltOf RV.cf x y <;> simp
theorem rv_swo {w : World} {bi : Nat} {S : List Int → Prop} : SWO (ltOf (RV.cf (w := w) (bi := bi) (S := S))) where
  irrefl x := (rv_ltF x x).2 (by omega)
  trans x y z h1 h2 := (rv_lt x z).2 (by have := (rv_lt x y).1 h1; have := (rv_lt y z).1 h2; omega)
  ntrans x y z h1 h2 := (rv_ltF x z).2 (by have := (rv_ltF x y).1 h1; have := (rv_ltF y z).1 h2; omega)
theorem rv_list {w : World} {bi : Nat} {S : List Int → Prop} : ∀ (us : List SV) (xs : List (List Int)), us.length = xs.length → (∀ t, t < xs.length → (us.getD t sd0).2.1 = (xs.getD t []).length ∧ Slc w bi (us.getD t sd0).1 (xs.getD t []).length (us.getD t sd0).2.2 (xs.getD t []) ∧ S (xs.getD t [])) →
    ∃ l : List (RV w bi S), l.map RV.sv = us ∧ l.map RV.per = xs
  | [], [], _, _ => ⟨[], rfl, rfl⟩
  | [], _ :: _, h, _ => by simp at h
  | _ :: _, [], h, _ => by simp at h
  | u :: us, x :: xs, h, hr => by
    obtain ⟨l, e1, e2⟩ := rv_list us xs (by simpa using h) fun t ht => by
      exact hr (t + 1) (by simp; omega)
    have h0 := hr 0 (by simp)
    exact ⟨⟨(u, x), h0⟩ :: l, congrArg (u :: ·) e1, congrArg (x :: ·) e2⟩
theorem rv_sorted {w : World} {bi N : Nat} {S : List Int → Prop} (hR : Rws N S) {d' : Array (RV w bi S)} [Inhabited (RV w bi S)] {xs : List (List Int)} (hs : SortedIn (ltOf RV.cf) 0 d'.size d') (hm : (d'.toList.map RV.per).Perm xs) (hd : xs.Nodup) :
    (d'.toList.map RV.per).Pairwise fun p q => p.getD 0 0 < q.getD 0 0 := by
  have hnd := hm.symm.nodup hd
  rw [List.pairwise_iff_getElem]
  intro i j hi hj hij
  have hi2 : i < d'.size := by simpa using hi
  have hj2 : j < d'.size := by simpa using hj
  have h1 := (rv_ltF _ _).1 (hs i j (Nat.zero_le _) hij hj2)
  rw [getElem!_pos d' i hi2, getElem!_pos d' j hj2] at h1
  have e1 : (d'.toList.map RV.per)[i] = (d'[i]).per := by simp
  have e2 : (d'.toList.map RV.per)[j] = (d'[j]).per := by simp
  have hne := (List.pairwise_iff_getElem.1 hnd) i j hi hj hij
  rw [e1, e2] at hne ⊢
  have : (d'[i]).per.getD 0 0 ≠ (d'[j]).per.getD 0 0 := fun e => hne (hR.inj _ _ (d'[i]).2.2.2 (d'[j]).2.2.2 e)
  omega

set_option maxHeartbeats 1000000 in
theorem sortRowsV (N bi base n c g : Nat) (S : List Int → Prop) (us : List SV) (xs : List (List Int)) (w : World) (h : SS w base bi (some ⟨g, 0, none⟩) n c us xs) (hR : Rws N S) (hP : ∀ p, p ∈ xs → S p) (hd : xs.Nodup) (h0 : 0 < n) (hn : n ≤ 200) (h2 : N ≤ 20) :
    Calls Tryz.prog 69 #[.slice (some ⟨g, 0, none⟩) n c, .func (.func 59) #[] #[]] w fun e w' =>
      e = .returned (.tuple #[]) ∧ ∃ us' xs', SS w' base bi (some ⟨g, 0, none⟩) n c us' xs' ∧ (xs'.Pairwise fun p q => p.getD 0 0 < q.getD 0 0) ∧ (∀ p, p ∈ xs' ↔ p ∈ xs) ∧ w.grownBy w' (some g) := by
  obtain ⟨l, e1, e2⟩ := rv_list (w := w) (bi := bi) (S := S) us xs (by rw [h.lv, h.lx]) fun t ht => by
    have hp : S (xs.getD t []) := hP _ (getD_memL ht)
    have hr := h.row t (by rw [← h.lx]; exact ht)
    have e := hr.1
    rw [← e] at hr
    exact ⟨e.symm, hr, hp⟩
  have hl : l.length = n := by rw [← h.lv, ← e1, List.length_map]
  haveI : Inhabited (RV w bi S) := ⟨l[0]'(by omega)⟩
  have eg : ∀ args w, (callFunc 59 args).run Tryz.prog w = .ok (.enter 59 args) w := enters_of Tryz.func59 (by kernel_rfl) rfl
  have ho : w.ownsRow base 37 1 (.slice (some ⟨g, 0, none⟩) l.length c) l.length (l.map RV.enc) := by
    have := h.own
    rw [← e1, List.map_map] at this
    rw [hl]; exact this
  have hH := holds_own RV.enc ho
  have hap : ∀ x : RV w bi S, (Value.slice x.1.1.1 x.1.2.length x.1.1.2.2).ownBlock = none ∨ (Value.slice x.1.1.1 x.1.2.length x.1.1.2.2).ownBlock ≠ some g := fun x => apart_types x.2.2.1 h.own
  have hcmp : CmpLays1 Tryz.prog 59 #[] RV.enc RV.cf g 0 l.toArray.size w := fun m os dk hs x y => by
    have hx := (x.2.2.1.kept (grown_put RV.enc w m g dk os) (hap x)).ri_
    have hy := (y.2.2.1.kept (grown_put RV.enc w m g dk os) (hap y)).ri_
    have ex : x.enc = .slice x.1.1.1 x.1.2.length x.1.1.2.2 := by have := x.2.1; unfold RV.enc sval; rw [this]
    have ey : y.enc = .slice y.1.1.1 y.1.2.length y.1.1.2.2 := by have := y.2.1; unfold RV.enc sval; rw [this]
    rw [ex, ey]
    have sx := x.2.2.2
    have sy := y.2.2.2
    refine (sCmpV x.1.1.1 y.1.1.1 x.1.1.2.2 y.1.1.2.2 x.1.2.length y.1.2.length x.per y.per _ hx hy (Lib.hid rfl) (Lib.hid rfl) ⟨hR.pos sx, Nat.le_trans (hR.len _ sx) h2⟩ ⟨hR.pos sy, Nat.le_trans (hR.len _ sy) h2⟩ (hR.inj _ _ sx sy)).mono ?_
    rintro e w' ⟨rfl, rfl⟩
    exact ⟨rfl, 0, #[], (by rw [grow_empty]; rfl)⟩
  have hblk : g < w.heap.size := (World.ownsRow.lt h.own g rfl).2
  have hsz : l.toArray.size = n := by simp [hl]
  have K := Any.slices_SortFunc laySortF RV.enc (fun _ => rfl) RV.cf rv_swo 59 #[] g 0 c l.toArray w eg hcmp hH hblk (by omega)
  rw [hsz] at K
  refine Calls.mono K ?_
  rintro e w' ⟨rfl, d', m, os, hpm, hso, rfl⟩
  have hd' : d'.size = n := by rw [hpm.1, hsz]
  have hperm : d'.toList.Perm l := by
    have := hpm.2.2
    have a1 : d'.extract 0 n = d' := by rw [← hd']; simp
    have a2 : l.toArray.extract 0 n = l.toArray := by rw [← hsz]; simp
    rw [a1, a2] at this
    simpa using this
  have hpx : (d'.toList.map RV.per).Perm xs := by rw [← e2]; exact hperm.map _
  have hso2 := rv_sorted hR (d' := d') (by rw [hd']; exact hso) hpx hd
  have hown := own_put RV.enc (ts := d'.toList) (n := l.length) ho (by simp [hd', hl]) (Nat.le_refl _) m os
  have hgr := grown_put RV.enc w m g d' os
  refine ⟨rfl, d'.toList.map RV.sv, d'.toList.map RV.per, ?_, hso2, fun p => hpx.mem_iff, hgr⟩
  have hlen : (d'.toList.map RV.per).length = n := by simp [hd']
  have hrw : Rw1 (sortWorld RV.enc w g 0 m d' os) bi (d'.toList.map RV.sv) (d'.toList.map RV.per) := ⟨by simp, fun t ht => by
    have ht2 : t < d'.toList.length := by simpa using ht
    have a1 : (d'.toList.map RV.sv).getD t sd0 = (d'.toList[t]).sv := by rw [List.getD_eq_getElem?_getD, List.getElem?_map, List.getElem?_eq_getElem ht2]; rfl
    have a2 : (d'.toList.map RV.per).getD t [] = (d'.toList[t]).per := by rw [List.getD_eq_getElem?_getD, List.getElem?_map, List.getElem?_eq_getElem ht2]; rfl
    rw [a1, a2]
    exact ⟨(d'.toList[t]).2.1, (d'.toList[t]).2.2.1.kept hgr (hap _)⟩⟩
  have hfin := hrw.ss (bo := base) (c := c) (A := some ⟨g, 0, none⟩) (fun _ _ => rfl) (by
    rw [hlen, List.map_map]
    rw [hl] at hown
    rw [List.take_of_length_le (by simp [hd'])] at hown
    exact hown) (hpx.symm.nodup hd) hR (fun p hp => hP p (hpx.mem_iff.1 hp))
  rw [hlen] at hfin
  exact hfin

set_option maxHeartbeats 1600000 in
set_option maxRecDepth 100000 in
/-- slices.SortedFunc over an iterator of rows. -/
theorem sortedV (N bi : Nat) (gf : Nat) (ef : ∀ args w, (callFunc gf args).run Tryz.prog w = .ok (.enter gf args) w) (lb : Array Value) (S : List Int → Prop) (w w0 : World) (hs : ItsV gf lb w0 bi S) (hk : ∀ k, k < w0.heap.size → w.heap[k]? = w0.heap[k]?) (hsz : w0.heap.size ≤ w.heap.size) (hN2 : N ≤ 20) (hR : Hid (Rws N S)) (hne : Hid (∃ p, S p)) :
    Calls Tryz.prog 57 #[.func (.func gf) #[] lb, .func (.func 59) #[] #[]] w fun e w' => ∃ A' n' c' us xs, e = .returned (.slice A' n' c') ∧ SS w' w.heap.size bi A' n' c' us xs ∧ (xs.Pairwise fun p q => p.getD 0 0 < q.getD 0 0) ∧ (∀ p, p ∈ xs ↔ S p) ∧ Below w.heap.size w w' := by
  have HS := Lib.hid hs
  have HK := Lib.hid hk
  clear hs hk
  go_enter Tryz.func57, Tryz.ntmps57
  go_wp2_with (go_at_call 68; fail)
  refine (collectV N bi gf ef lb S w w0 HS.out HK.out hsz hN2 hR).mono ?_
  rintro e w1 ⟨A1, c1, us, xs, rfl, n1, m1, s1, b1⟩
  have N1 := Lib.hid n1
  have M1 := Lib.hid m1
  have B1 := Lib.hid b1
  have hpos : 0 < xs.length := by
    obtain ⟨p, hp⟩ := hne.out
    have := (m1 p).2 hp
    cases xs with
    | nil => cases this
    | cons a t => simp
  have hle : xs.length ≤ 200 := by have := hR.out.few n1 (fun p hp => (m1 p).1 hp); omega
  obtain ⟨g, rfl, hg⟩ : ∃ g, A1 = some ⟨g, 0, none⟩ ∧ w.heap.size ≤ g := by
    rcases s1.own.2 with ⟨e, h0⟩ | ⟨g, cap, cur, e, hb, _⟩
    · omega
    · injection e with e1 e2 e3; exact ⟨g, e1, hb⟩
  have S1 := Lib.hid s1
  clear n1 m1 s1 b1
  go_wp2_with (go_at_call 69; fail)
  refine (sortRowsV N bi w.heap.size xs.length c1 g S us xs w1 S1.out hR.out (fun p hp => (M1.out p).1 hp) N1.out hpos hle hN2).mono ?_
  rintro e w2 ⟨rfl, us', xs', s2, p2, m2, g2⟩
  have S2 := Lib.hid s2
  have P2 := Lib.hid p2
  have M2 : Hid (∀ p, p ∈ xs' ↔ S p) := Lib.hid fun p => (m2 p).trans (M1.out p)
  have B2 : Hid (Below w.heap.size w w2) := Lib.hid (B1.out.grown g2 B1.out.size (fun k e => by injection e with e; omega))
  clear s2 p2 m2 g2
  go_wp2_with fail
  go_ret
  exact ⟨_, _, _, us', xs', rfl, S2.out, P2.out, M2.out, B2.out⟩

set_option maxHeartbeats 4000000 in
set_option maxRecDepth 100000 in
/-- sets: the partition by the smallest ones. -/
theorem ufSets (b N cp : Nat) (f : Nat → Option Nat) (D : DataW Value) (A : Option Addr) (w : World) (h : UF w b N f D) (hA : RI w w.heap.size A (idL N)) (h1 : 1 ≤ N) (hN : N ≤ 20) :
    Calls Tryz.prog 37 #[.map (some b), .slice A N cp] w fun e w' => ∃ A' n' c' us, e = .returned (.slice A' n' c') ∧ SS w' w.heap.size w.heap.size A' n' c' us (canon N (rt f)) ∧ Below w.heap.size w w' := by
  have H := Lib.hid h
  have L := Lib.hid h.lk
  have HA := Lib.hid hA
  have ef : ∀ args w, (callFunc 70 args).run Tryz.prog w = .ok (.enter 70 args) w := enters_of Tryz.func70 (by kernel_rfl) rfl
  clear h hA
  have hmm := @run_makeMap Tryz.prog
  go_enter Tryz.func37, Tryz.ntmps37
  have E0 : Hid (GM (w.alloc (.map #[] 0)) w.heap.size w.heap.size N (Gth N f 0) (.map [])) := Lib.hid ((GM.made w w.heap.size N).ext fun p => ⟨fun h => h.elim, fun h => gth_zero p h⟩)
  have B0 : Hid (Below w.heap.size w (w.alloc (.map #[] 0))) := Lib.hid ((Below.refl _ w).alloc (Nat.le_refl _) _)
  go_wp2_with fail
  go_loopw [12] (fun iv wr => ∃ (t : Nat) (D' : DataW Value), t ≤ N ∧ iv = .int .i64 (t : Nat) ∧ GM wr w.heap.size w.heap.size N (Gth N f t) D' ∧ Below w.heap.size w wr) (fun iv _ => N - (intOf iv).toNat)
  case atStart => exact ⟨0, _, Nat.zero_le _, rfl, E0.out, B0.out⟩
  case round =>
    clear E0 B0
    obtain ⟨t, D', ht, rfl, hgm, bel⟩ := hrel
    have Gm := Lib.hid hgm
    have Be := Lib.hid bel
    clear hgm bel
    by_cases hlt : t < N
    · obtain ⟨bz, oz, rfl, hbz, hc⟩ := (HA.out.up Be.out) (by rw [idL_length]; omega)
      have z0 := hc t (by rw [idL_length]; exact hlt)
      rw [idL_getD hlt] at z0
      obtain ⟨l, el⟩ : ∃ l, rt f t = l := ⟨_, rfl⟩
      have hl : l < N := by have := rt_le L.out t; omega
      have El := Lib.hid el
      clear hc el hbz
      go_wp2_with fail
      refine (ufSmallest b N t f D wr (H.out.up Be.out) hlt hN).mono ?_
      rintro e w1 ⟨rfl, rfl⟩
      rw [El.out]
      have Hsz : Hid (Maps.size D' < maxLen) := Lib.hid (by have := Gm.out.size; unfold maxLen; omega)
      by_cases hn : ptsL (fun y => decide (rt f y = rt f t)) t = []
      · obtain ⟨e0, hS⟩ := gth_new L.out hlt hn
        obtain rfl : l = t := by rw [← El.out, e0]
        have Hnk : Hid (∀ q, Gth N f l q → hdN q ≠ l) := Lib.hid fun q ⟨l', a1, a2, a3, a4⟩ e => by
          subst a3
          have a5 := gth_hd L.out a2 a4
          have a6 : hdN (ptsL (fun y => decide (rt f y = l')) l) = l' := by unfold hdN; rw [a5.2]; rfl
          omega
        have Hat : Hid (D'.atKey (kI l) (.held (.slice none 0 0)) = .held (.slice none 0 0)) := Lib.hid (Maps.atKey_of_not_has (by
          rcases hh : Maps.has D' (kI l) with _ | _
          · rfl
          · obtain ⟨q, hq, e⟩ := Gm.out.key _ hh
            exact absurd (kI_inj e).symm (Hnk.out q hq)) _)
        have HS := Lib.hid hS
        clear hS hn e0
        go_wp2_with (first
          | (at_lookup; refine wpList_gmLook rfl _ _ rfl Gm.out rfl l rfl hl hN (.slice none 0 0) Hat.out ?_)
          | (at_builtin; refine wpList_app1 rfl _ _ rfl w.heap.size none 0 0 [] rfl Slc.nil_ _ (l : Int) rfl (by rw [World.cell?_alloc_at _ _ _ _ rfl]; rfl) (by omega) (by have := Be.out.size; simp; omega) ?_; intro A3 c3 w3 s3 g3
             have S3 := Lib.hid s3
             have G3 := Lib.hid g3
             clear s3 g3)
          | (at_mapUpdate; refine wpList_mapUpdate_own _ rfl _ _ _ 70 rfl 2 37 lawI Tryz.underlying70 Rx w.heap.size (Maps.size D') D' rfl ((Gm.out.own.alloc _).kept G3.out (by simp [Value.ownBlock])) Hsz.out _ _ (kI l) rfl rfl (keyOf_I (by omega)) (.held (.slice A3 1 c3)) [] rfl ?_; intro w4 ho4 hg4)
          | go_in)
        have Ga : Hid (wr.grownBy w3 none) := Lib.hid ((World.grownBy_alloc wr _ none).trans G3.out)
        have Gm4 := Lib.hid ((Gm.out.fresh hN hl Hnk.out S3.out Ga.out hg4 ho4).ext HS.out)
        have Be4 : Hid (Below w.heap.size w w4) := Lib.hid ((Be.out.grown Ga.out Be.out.size (by simp)).grown hg4 (by have := Be.out.size; have := Ga.out.size; omega) (fun k e => by injection e with e; omega))
        clear ho4 hg4
        go_wp2_with fail
        go_roundw
        case rel => exact ⟨l + 1, _, by omega, by go_num, Gm4.out, Be4.out⟩
        case measure => simp [intOf]; omega
      · have hr := rt_root L.out t
        obtain ⟨hlt2, hhd⟩ := gth_hd L.out hr hn
        obtain ⟨p, ep⟩ : ∃ p, ptsL (fun y => decide (rt f y = rt f t)) t = p := ⟨_, rfl⟩
        have hmore := gth_more L.out hlt hn
        rw [ep] at hhd hn hmore
        have hp : Gth N f t p := ⟨rt f t, by rw [El.out]; exact hl, hr, ep.symm, hn⟩
        have hdp : hdN p = l := by unfold hdN; rw [hhd, El.out]; rfl
        have hplt : p.length < N := by have := ptsL_le (fun y => decide (rt f y = rt f t)) t; rw [ep] at this; omega
        obtain ⟨Ap, cpp, hat, hsp⟩ := Gm.out.row p hp
        obtain ⟨m, em⟩ : ∃ m, p.length = m := ⟨_, rfl⟩
        have Em := Lib.hid em
        have Hp := Lib.hid hp
        have Hsp := Lib.hid hsp
        have Hat := Lib.hid hat
        have Hat0 : Hid (D'.atKey (kI l) (.held (.slice none 0 0)) = .held (.slice Ap m cpp)) := Lib.hid (by rw [← hdp, ← em]; exact hat _)
        have Hdp := Lib.hid hdp
        have Hm := Lib.hid hmore
        have Hsp2 : Hid (Slc wr w.heap.size Ap m cpp p) := Lib.hid (by rw [← em]; exact hsp)
        have Hob : Hid (some w.heap.size ≠ (Value.slice Ap m cpp).ownBlock) := Lib.hid (by rw [← em]; exact fun e => slc_blk hsp Gm.out.noCells e.symm)
        have hmN : m < N := by omega
        clear hhd hn hmore hp hsp hat hr ep em hdp hplt hlt2
        go_wp2_with (first
          | (at_lookup; refine wpList_gmLook rfl _ _ rfl Gm.out rfl l rfl hl hN (.slice Ap m cpp) Hat0.out ?_)
          | (at_builtin; refine wpList_app1 rfl _ _ rfl w.heap.size Ap m cpp p rfl (Hsp2.out.alloc _) _ (t : Int) rfl (by rw [World.cell?_alloc_at _ _ _ _ rfl]; rfl) (by omega) (by have := Be.out.size; simp; omega) ?_; intro A3 c3 w3 s3 g3
             have S3 := Lib.hid s3
             have G3 := Lib.hid g3
             clear s3 g3)
          | (at_mapUpdate; refine wpList_mapUpdate_own _ rfl _ _ _ 70 rfl 2 37 lawI Tryz.underlying70 Rx w.heap.size (Maps.size D') D' rfl ((Gm.out.own.alloc _).kept G3.out Hob.out) Hsz.out _ _ (kI l) rfl rfl (keyOf_I (by omega)) (.held (.slice A3 (m + 1) c3)) [] rfl ?_; intro w4 ho4 hg4)
          | go_in)
        have Ga : Hid (wr.grownBy w3 (Value.slice Ap m cpp).ownBlock) := Lib.hid ((World.grownBy_alloc wr _ _).trans G3.out)
        have Gm4 : Hid (∃ D4, GM w4 w.heap.size w.heap.size N (Gth N f (t + 1)) D4) := Lib.hid ⟨_, (Gm.out.more hN Hp.out (x := (t : Int)) (by rw [Em.out]; omega) Hat.out Hsp.out (by rw [Em.out]; exact S3.out) (by rw [Em.out]; exact Ga.out) hg4 (by rw [Hdp.out, Em.out]; exact ho4)).ext Hm.out⟩
        have Be4 : Hid (Below w.heap.size w w4) := Lib.hid ((Be.out.grown Ga.out Be.out.size (fun k e => (Hsp2.out.lt_ k e).1)).grown hg4 (by have := Be.out.size; have := Ga.out.size; omega) (fun k e => by injection e with e; omega))
        clear ho4 hg4
        obtain ⟨D4, hgm4⟩ := Gm4.out
        have Gm5 := Lib.hid hgm4
        clear hgm4 Gm4
        go_wp2_with fail
        go_roundw
        case rel => exact ⟨t + 1, D4, by omega, by go_num, Gm5.out, Be4.out⟩
        case measure => simp [intOf]; omega
    · obtain rfl : t = N := by omega
      have hsz := Be.out.size
      go_wp2_with (first
        | (go_at_call 58; refine (mapsValuesI w.heap.size wr).mono ?_; rintro e w4 ⟨rfl, e4⟩
           have B4 : Hid (Below wr.heap.size wr w4) := Lib.hid (by rw [e4]; exact (Below.refl _ _).alloc (Nat.le_refl _) _)
           have I4 : Hid (ItsV 70 #[.pointer (some ⟨wr.heap.size, 0, none⟩)] w4 w.heap.size (Gth t f t)) := Lib.hid (itsValsI t w.heap.size w.heap.size wr.heap.size hN _ D' w4 (Gm.out.up B4.out) (by rw [e4]; exact Blk.new _ _ _))
           clear e4)
        | (go_at_call 57; refine (sortedV t w.heap.size _ ef _ _ w4 w4 I4.out (fun _ _ => rfl) (Nat.le_refl _) hN (Lib.hid Gm.out.rs) (Lib.hid ⟨_, (gth_all L.out _).2 (mem_canon.2 ⟨0, by omega, fstB_iff.2 fun y hy => absurd hy (Nat.not_lt_zero _), rfl⟩)⟩)).mono ?_; rintro e w5 ⟨A5, n5, c5, us, xs, rfl, s5, p5, m5, b5⟩
           have B5 : Hid (Below w.heap.size w w5) := Lib.hid (btr (btr Be.out B4.out) b5)
           have S5 : Hid (SS w5 w.heap.size w.heap.size A5 n5 c5 us (canon t (rt f))) := Lib.hid (by
             have ex : xs = canon t (rt f) := hd_uniq p5 canon_hd fun p => (m5 p).trans (gth_all L.out p)
             rw [← ex]
             exact s5.mono (by have := B4.out.size; omega) (Nat.le_refl _))
           clear s5 p5 m5 b5)
        | go_in)
      go_ret
      exact ⟨_, _, _, us, rfl, S5.out, B5.out⟩
end Go.Proofs.YtedfcljikgmpgaaGreat

/- The program's MinimalBlockSystem and JoinBlockSystems. Conditions: at most 1048576 lists of at most 1048576 numbers. -/
namespace Go.Proofs.YtedfcljikgmpgaaGreat
open Go.RowKit

theorem rf_empty {N : Nat} {q : Nat → Nat} : Rf N (rt fun _ => none) q := fun u v _ _ e => by rw [rt_empty, rt_empty] at e; rw [e]
theorem lst_empty {gs : List (List Int)} {N x y : Nat} {r : Nat → Nat} (h : UI gs N (rt fun _ => none) r x y) : LstM gs N x y r :=
  ⟨⟨h.eq, h.img r (Rf.refl _ _) fun _ _ => rf_empty⟩, fun q hq => h.least q rf_empty hq.1 hq.2⟩

set_option maxHeartbeats 4000000 in
set_option maxRecDepth 100000 in
/-- MinimalBlockSystem, at points of a generator set. -/
theorem implMinP (N n c X Y : Nat) (A : Option Addr) (vs : List SV) (xss : List (List Int)) (w : World) (g : GIn w A n vs xss) (hs : Hid (gB N xss = true)) (hX : X < N) (hY : Y < N) :
    Calls Tryz.prog 15 #[.int .i64 (N : Nat), .slice A n c, .int .i64 (X : Nat), .int .i64 (Y : Nat)] w fun e w' => ∃ A' m' c' us r, e = .returned (.slice A' m' c') ∧ LstM xss N X Y r ∧ SS w' w.heap.size w.heap.size A' m' c' us (canon N r) ∧ Below w.heap.size w w' := by
  have hmm := @run_makeMap Tryz.prog
  have G := Lib.hid g
  have HX := Lib.hid g.rr
  have hlx : Hid (xss.length = n) := Lib.hid g.rr.lx
  have hn := g.hn
  have hl := Lib.hid g.hl
  obtain ⟨N', eN, hN1, hN2, hg8, hpm, hok⟩ := gB_pm hs.out
  obtain rfl : N = N' := by omega
  have Ok : Hid (∀ g ∈ xss, Pn N g) := Lib.hid hok
  have hn8 : n ≤ 8 := by rw [← hlx.out]; exact hg8
  have dX : decide (0 ≤ (X : Int) ∧ (X : Int) < (N : Int)) = true := by simp; omega
  have dY : decide (0 ≤ (Y : Int) ∧ (Y : Int) < (N : Int)) = true := by simp; omega
  clear g hpm hok hg8 eN
  go_enter Tryz.func15, Tryz.ntmps15
  go_wp2_with (first
    | (go_at_call 14; refine (implGS N A n c vs xss w HX.out hn hl).mono ?_; rintro e w1 ⟨rfl, b1⟩; rw [hs.out]; have B1 := Lib.hid b1; clear b1)
    | (go_at_call_of 35 (Value.int .i64 (X : Int)); refine (implPt N X w1).mono ?_; rintro e w2 ⟨rfl, rfl⟩; rw [dX])
    | (go_at_call_of 35 (Value.int .i64 (Y : Int)); refine (implPt N Y w1).mono ?_; rintro e w2 ⟨rfl, rfl⟩; rw [dY])
    | (go_at_call 36; fail))
  have hz1 := B1.out.size
  have U0 := Lib.hid (UF.made w1 N)
  have X0 : Hid (RR (w1.alloc (.map #[] 0)) w1.heap.size A n vs xss) := Lib.hid ((HX.out.up B1.out).alloc (Nat.le_refl _) _)
  have Bm : Hid (Below w.heap.size w (w1.alloc (.map #[] 0))) := Lib.hid (B1.out.alloc hz1 _)
  refine (ufImages N w1.heap.size n c w1.heap.size A vs xss (Nat.le_refl _) Ok hn8 hN2 N (fun _ => none) _ X Y _ (cls_le N _) U0.out X0.out hX hY).mono ?_
  rintro e w3 ⟨f, D, rfl, u3, m3, g3⟩
  have U3 := Lib.hid u3
  have M3 := Lib.hid (lst_empty m3)
  have B3 : Hid (Below w.heap.size w w3) := Lib.hid (Bm.out.grown g3 (by simp; omega) (fun k e => by injection e with e; omega))
  have hz3 := B3.out.size
  generalize w1.heap.size = b at U3 hz1 ⊢
  clear u3 m3 g3 U0 X0 Bm
  go_wp2_with (first
    | (go_at_call 38; refine (implId_core N w3 hN1 hN2).mono ?_; rintro e w4 ⟨A4, c4, rfl, s4, b4⟩
       have S4 := Lib.hid s4
       have U4 := Lib.hid (U3.out.up b4)
       have B4 : Hid (Below w.heap.size w w4) := Lib.hid (btr B3.out b4)
       clear s4 b4)
    | (go_at_call 37; refine (ufSets b N c4 f D A4 w4 U4.out S4.out.ri_ hN1 hN2).mono ?_; rintro e w5 ⟨A5, n5, c5, us, rfl, s5, b5⟩
       have B5 : Hid (Below w.heap.size w w5) := Lib.hid (btr B4.out b5)
       have S5 : Hid (SS w5 w.heap.size w.heap.size A5 n5 c5 us (canon N (rt f))) := Lib.hid (s5.mono B4.out.size B4.out.size)
       clear s5 b5)
    | go_in)
  go_ret
  exact ⟨_, _, _, us, rt f, rfl, M3.out, S5.out, B5.out⟩
set_option maxHeartbeats 4000000 in
set_option maxRecDepth 100000 in
/-- MinimalBlockSystem. -/
theorem implMinimalBlockSystem : CtImiiM 15 IsMin := by
  intro a A n c vs xss x y w g _ _ _
  have HX := Lib.hid g.rr
  have hn := g.hn
  have hl := Lib.hid g.hl
  rcases hs : gB a xss with _ | _
  · have Fin : Hid (IsMin a xss x y []) := Lib.hid (.inr ⟨fun h => (by have := h.1; rw [hs] at this; cases this), rfl⟩)
    have Hs := Lib.hid hs
    clear hs g
    go_enter Tryz.func15, Tryz.ntmps15
    go_wp2_with (first
      | (go_at_call 14; refine (implGS a A n c vs xss w HX.out hn hl).mono ?_; rintro e w1 ⟨rfl, b1⟩; rw [Hs.out]; have B1 := Lib.hid b1; clear b1))
    go_ret
    exact ⟨_, _, _, _, _, rfl, SS.nil_, Fin.out, B1.out⟩
  · have Hs := Lib.hid hs
    by_cases hx : 0 ≤ x ∧ x < a
    · by_cases hy : 0 ≤ y ∧ y < a
      · obtain ⟨N, rfl, hN1, hN2, _, _, _⟩ := gB_pm hs
        obtain ⟨X, rfl⟩ : ∃ X : Nat, x = (X : Int) := ⟨x.toNat, by omega⟩
        obtain ⟨Y, rfl⟩ : ∃ Y : Nat, y = (Y : Int) := ⟨y.toNat, by omega⟩
        refine (implMinP N n c X Y A vs xss w g Hs (by omega) (by omega)).mono ?_
        rintro e w1 ⟨A1, m1, c1, us1, r, rfl, hr, s1, b1⟩
        exact ⟨_, _, _, us1, _, rfl, s1, .inl ⟨⟨Hs.out, hx, hy⟩, r, by rw [Int.toNat_natCast, Int.toNat_natCast, Int.toNat_natCast]; exact hr, by rw [Int.toNat_natCast]⟩, b1⟩
      · have Fin : Hid (IsMin a xss x y []) := Lib.hid (.inr ⟨fun h => hy h.2.2, rfl⟩)
        have dX : decide (0 ≤ x ∧ x < a) = true := decide_eq_true hx
        have dY : decide (0 ≤ y ∧ y < a) = false := decide_eq_false hy
        clear hs g hx
        go_enter Tryz.func15, Tryz.ntmps15
        by_cases exy : x = y
        · subst exy; rw [dX] at dY; cases dY
        · clear hy
          go_wp2_with (first
            | (go_at_call 14; refine (implGS a A n c vs xss w HX.out hn hl).mono ?_; rintro e w1 ⟨rfl, b1⟩; rw [Hs.out]; have B1 := Lib.hid b1; clear b1)
            | (go_at_call_of 35 (Value.int .i64 x); refine (implPt a x w1).mono ?_; rintro e w2 ⟨rfl, rfl⟩; rw [dX])
            | (go_at_call_of 35 (Value.int .i64 y); refine (implPt a y w1).mono ?_; rintro e w2 ⟨rfl, rfl⟩; rw [dY]))
          go_ret
          exact ⟨_, _, _, _, _, rfl, SS.nil_, Fin.out, B1.out⟩
    · have Fin : Hid (IsMin a xss x y []) := Lib.hid (.inr ⟨fun h => hx h.2.1, rfl⟩)
      have dX : decide (0 ≤ x ∧ x < a) = false := decide_eq_false hx
      clear hs g hx
      go_enter Tryz.func15, Tryz.ntmps15
      go_wp2_with (first
        | (go_at_call 14; refine (implGS a A n c vs xss w HX.out hn hl).mono ?_; rintro e w1 ⟨rfl, b1⟩; rw [Hs.out]; have B1 := Lib.hid b1; clear b1)
        | (go_at_call 35; refine (implPt a x w1).mono ?_; rintro e w2 ⟨rfl, rfl⟩; rw [dX]))
      go_ret
      exact ⟨_, _, _, _, _, rfl, SS.nil_, Fin.out, B1.out⟩

end Go.Proofs.YtedfcljikgmpgaaGreat

/- slices.Equal of what can be read. Conditions: at most 2097152 numbers. -/
namespace Go.Proofs.YtedfcljikgmpgaaGreat
open Go.RowKit

set_option maxHeartbeats 400000 in
/-- slices.Equal of two lists that can be read. -/
theorem sEq_core (A B : Option Addr) (c d n : Nat) (xs ys : List Int) (w : World) (hx : RI w w.heap.size A xs) (hy : RI w w.heap.size B ys) (lx : Hid (xs.length = n)) (ly : Hid (ys.length = n)) (hn : n ≤ 2097152) :
    Calls Tryz.prog 18 #[.slice A n c, .slice B n d] w fun e w' => e = .returned (.bool (decide (xs = ys))) ∧ ∃ m, w' = w.drewN m := by
  go_enter Tryz.func18, Tryz.ntmps18
  go_wp2
  go_loopw [5, 13] (fun _ i wr => ∃ k : Nat, k ≤ n ∧ i = .int .i64 k ∧ (∀ j, j < k → xs.getD j 0 = ys.getD j 0) ∧ ∃ m, wr = w.drewN m) (fun _ i _ => n - (intOf i).toNat)
  case atStart => exact ⟨0, Nat.zero_le _, rfl, fun j h => absurd h (by omega), 0, rfl⟩
  case round =>
    obtain ⟨k, hk, rfl, heq, m, rfl⟩ := hrel
    have Heq := Lib.hid heq
    clear heq
    by_cases hlt : k < n
    · obtain ⟨b, off, rfl, hb, hc⟩ := hx (by rw [lx.out]; omega)
      obtain ⟨b', off', rfl, hb', hc'⟩ := hy (by rw [ly.out]; omega)
      have c1 := hc k (by rw [lx.out]; omega)
      have c2 := hc' k (by rw [ly.out]; omega)
      obtain ⟨x, ex⟩ : ∃ x, xs.getD k 0 = x := ⟨_, rfl⟩
      obtain ⟨y, ey⟩ : ∃ y, ys.getD k 0 = y := ⟨_, rfl⟩
      rw [ex] at c1
      rw [ey] at c2
      have Ex := Lib.hid ex
      have Ey := Lib.hid ey
      clear ex ey hc hc' hx hy
      have p1 : (0 : Int) ≤ k := by omega
      have p2 : (k : Int) < n := by omega
      by_cases hxy : x = y
      · subst hxy
        go_wp2
        go_quiet (fail)
        go_wp2
        go_roundw
        case rel => exact ⟨k + 1, by omega, by go_num, fun j hj => by
          by_cases e : j = k
          · subst e; rw [Ex.out, Ey.out]
          · exact Heq.out j (by omega), _, rfl⟩
        case measure => simp [intOf]; omega
      · have hd : (x != y) = true := by simpa using hxy
        have hd' : (x == y) = false := by simpa using hxy
        go_wp2
        go_quiet (fail)
        go_wp2
        go_ret
        refine ⟨ret_bool (Eq.symm (decide_eq_false fun e => hxy ?_)), _, World.drewN_drewN _ _ _⟩
        rw [← Ex.out, ← Ey.out, e]
    · go_wp2
      go_ret
      have : k = n := by omega
      subst this
      exact ⟨ret_bool (Eq.symm (decide_eq_true (ext_getD lx.out ly.out Heq.out))), _, rfl⟩
theorem sEq (A B : Option Addr) (c d n m : Nat) (xs ys : List Int) (w : World) (hx : RI w w.heap.size A xs) (hy : RI w w.heap.size B ys) (lx : Hid (xs.length = n)) (ly : Hid (ys.length = m)) (hn : n ≤ 2097152) (hm : m ≤ 2097152) :
    Calls Tryz.prog 18 #[.slice A n c, .slice B m d] w fun e w' => e = .returned (.bool (decide (xs = ys))) ∧ ∃ m, w' = w.drewN m := by
  by_cases hl : n = m
  · subst hl
    exact sEq_core A B c d n xs ys w hx hy lx ly hn
  · have hd : ((n : Int) != (m : Int)) = true := by rw [bne_iff_ne]; omega
    have hd' : ((n : Int) == (m : Int)) = false := by rw [beq_eq_false_iff_ne]; omega
    go_enter Tryz.func18, Tryz.ntmps18
    go_wp2
    go_ret
    refine ⟨ret_bool (Eq.symm (decide_eq_false fun e => hl ?_)), 0, rfl⟩
    rw [← lx.out, ← ly.out, e]

end Go.Proofs.YtedfcljikgmpgaaGreat

/- The program's MinimalBlockSystems and IsPrimitive. Conditions: at most 1048576 lists of at most 1048576 numbers. -/
namespace Go.Proofs.YtedfcljikgmpgaaGreat
open Go.RowKit

set_option maxHeartbeats 1600000 in
set_option maxRecDepth 100000 in
/-- slices.EqualFunc by slices.Equal. -/
theorem eqFuncT (A B : Option Addr) (n c m d : Nat) (vs us : List SV) (xss yss : List (List Int)) (w : World) (hx : RR w w.heap.size A n vs xss) (hy : RR w w.heap.size B m us yss) (hn : n ≤ 1000) (hm : m ≤ 1000) (hl1 : Hid (∀ i, i < n → (xss.getD i []).length ≤ 1000)) (hl2 : Hid (∀ i, i < m → (yss.getD i []).length ≤ 1000)) :
    Calls Tryz.prog 17 #[.slice A n c, .slice B m d, .func (.func 18) #[] #[]] w fun e w' => e = .returned (.bool (decide (xss = yss))) ∧ Below w.heap.size w w' := by
  have HX := Lib.hid hx
  have HY := Lib.hid hy
  clear hx hy
  by_cases hnm : n = m
  · subst hnm
    have e0 : ((n : Int) != (n : Int)) = false := by simp
    go_enter Tryz.func17, Tryz.ntmps17
    go_wp2_with fail
    go_loopw [17] (fun i wr => ∃ k : Nat, k ≤ n ∧ i = .int .i64 (k : Nat) ∧ (∀ j, j < k → xss.getD j [] = yss.getD j []) ∧ Below w.heap.size w wr) (fun i _ => n - (intOf i).toNat)
    case atStart => exact ⟨0, Nat.zero_le _, rfl, fun j h => absurd h (Nat.not_lt_zero _), Below.refl _ _⟩
    case round =>
      obtain ⟨k, hk, rfl, hall, bel⟩ := hrel
      have All := Lib.hid hall
      have Be := Lib.hid bel
      clear hall bel
      by_cases hlt : k < n
      · obtain ⟨b, off, A5, l, c5, y, rfl, hb, ev, ey, x1, r1, ly1, hlc⟩ := (HX.out.up Be.out).at_ hlt
        obtain ⟨b', off', A6, l', c6, y', rfl, hb', ev', ey', x2, r2, ly2, hlc'⟩ := (HY.out.up Be.out).at_ hlt
        have h1 := hl1.out k hlt
        have h2 := hl2.out k hlt
        rw [ey, ly1] at h1
        rw [ey', ly2] at h2
        have R1 := Lib.hid r1
        have R2 := Lib.hid r2
        have L1 : Hid (y.length = l) := Lib.hid ly1
        have L2 : Hid (y'.length = l') := Lib.hid ly2
        have Ey := Lib.hid ey
        have Ey' := Lib.hid ey'
        have p1 : (0 : Int) ≤ k := by omega
        have p2 : (k : Int) < n := by omega
        clear r1 r2 ly1 ly2 ev ey ev' ey' hb hb'
        by_cases e : y = y'
        · have ans : Hid (decide (y = y') = true) := Lib.hid (by simpa using e)
          have All2 : Hid (∀ j, j < k + 1 → xss.getD j [] = yss.getD j []) := Lib.hid fun j hj => by
            by_cases e2 : j = k
            · subst e2; rw [Ey.out, Ey'.out, e]
            · exact All.out j (by omega)
          clear e
          go_wp2_with fail
          refine (quiet_below (sEq A5 A6 c5 c6 l l' y y' wr R1.out R2.out L1 L2 (by omega) (by omega))).mono ?_
          rintro e w1 ⟨rfl, b1⟩
          rw [ans.out]
          have B1 : Hid (Below w.heap.size w w1) := Lib.hid (btr Be.out b1)
          clear b1
          go_wp2_with fail
          go_roundw
          case rel => exact ⟨k + 1, by omega, by go_num, All2.out, B1.out⟩
          case measure => simp [intOf]; omega
        · have ans : Hid (decide (y = y') = false) := Lib.hid (by simpa using e)
          have Fin : Hid (false = decide (xss = yss)) := Lib.hid (Eq.symm (decide_eq_false fun e2 => e (by rw [← Ey.out, ← Ey'.out, e2])))
          clear e
          go_wp2_with fail
          refine (quiet_below (sEq A5 A6 c5 c6 l l' y y' wr R1.out R2.out L1 L2 (by omega) (by omega))).mono ?_
          rintro e w1 ⟨rfl, b1⟩
          rw [ans.out]
          have B1 : Hid (Below w.heap.size w w1) := Lib.hid (btr Be.out b1)
          clear b1
          go_wp2_with fail
          go_ret
          exact ⟨ret_bool Fin.out, B1.out⟩
      · obtain rfl : k = n := by omega
        have Fin : Hid (true = decide (xss = yss)) := Lib.hid (Eq.symm (decide_eq_true (by
          apply List.ext_getElem (by rw [HX.out.lx, HY.out.lx])
          intro i h1 h2
          have := All.out i (by rw [← HX.out.lx]; exact h1)
          rw [getD_L h1, getD_L h2] at this
          exact this)))
        go_wp2_with fail
        go_ret
        exact ⟨ret_bool Fin.out, Be.out⟩
  · have e0 : ((n : Int) != (m : Int)) = true := by rw [bne_iff_ne]; omega
    have e1 : ((n : Int) == (m : Int)) = false := by rw [beq_eq_false_iff_ne]; omega
    have Fin : Hid (false = decide (xss = yss)) := Lib.hid (Eq.symm (decide_eq_false fun e2 => hnm (by rw [← HX.out.lx, ← HY.out.lx, e2])))
    go_enter Tryz.func17, Tryz.ntmps17
    go_wp2_with fail
    go_ret
    exact ⟨ret_bool Fin.out, Below.refl _ _⟩

set_option maxHeartbeats 1000000 in
/-- The function literal of MinimalBlockSystems. -/
theorem isSameT (bx : Nat) (A B : Option Addr) (n c m d : Nat) (vs us : List SV) (xss yss : List (List Int)) (w : World) (hb : Blk w bx 24 #[.slice B m d]) (hx : RR w w.heap.size A n vs xss) (hy : RR w w.heap.size B m us yss) (hn : n ≤ 1000) (hm : m ≤ 1000) (hl1 : Hid (∀ i, i < n → (xss.getD i []).length ≤ 1000)) (hl2 : Hid (∀ i, i < m → (yss.getD i []).length ≤ 1000)) (ans : Bool) (ha : Hid (decide (xss = yss) = ans)) :
    Calls Tryz.prog 16 #[.slice A n c, .pointer (some ⟨bx, 0, none⟩)] w fun e w' => e = .returned (.bool ans) ∧ Below w.heap.size w w' := by
  have HX := Lib.hid hx
  have HY := Lib.hid hy
  have c0 : w.cell? ⟨bx, 0, none⟩ = some (.slice B m d) := hb.cell 0
  clear hx hy hb
  go_enter Tryz.func16, Tryz.ntmps16
  go_wp2_with (first
    | (go_at_call 17; refine (eqFuncT A B n c m d vs us xss yss w HX.out HY.out hn hm hl1 hl2).mono ?_; rintro e w1 ⟨rfl, b1⟩; rw [ha.out]; have B1 := Lib.hid b1; clear b1))
  go_ret
  exact ⟨rfl, B1.out⟩

set_option maxHeartbeats 1600000 in
set_option maxRecDepth 100000 in
/-- slices.IndexFunc at that literal. -/
theorem idxSys (bx : Nat) (A B : Option Addr) (n c m d : Nat) (vs us : List SV) (wss : List (List SV)) (ls : List (List (List Int))) (yss : List (List Int)) (w : World) (hb : Blk w bx 24 #[.slice B m d]) (hx : R3 w w.heap.size A n vs wss ls) (hy : RR w w.heap.size B m us yss) (hn : n ≤ 1000) (hm : m ≤ 1000)
    (hl1 : Hid (∀ i, i < n → (ls.getD i []).length ≤ 1000 ∧ ∀ t, t < (ls.getD i []).length → ((ls.getD i []).getD t []).length ≤ 1000)) (hl2 : Hid (∀ i, i < m → (yss.getD i []).length ≤ 1000)) (ans : Bool) (ha : Hid (decide (yss ∈ ls) = ans)) :
    Calls Tryz.prog 39 #[.slice A n c, .func (.func 16) #[] #[.pointer (some ⟨bx, 0, none⟩)]] w fun e w' => ∃ r : Int, e = .returned (.int .i64 r) ∧ Hid (decide (0 ≤ r) = ans) ∧ Below w.heap.size w w' := by
  have HX := Lib.hid hx
  have HY := Lib.hid hy
  have HB := Lib.hid hb
  clear hx hy hb
  go_enter Tryz.func39, Tryz.ntmps39
  go_wp2_with fail
  go_loopw [8] (fun i wr => ∃ k : Nat, k ≤ n ∧ i = .int .i64 (k : Nat) ∧ (∀ j, j < k → ls.getD j [] ≠ yss) ∧ Below w.heap.size w wr) (fun i _ => n - (intOf i).toNat)
  case atStart => exact ⟨0, Nat.zero_le _, rfl, fun j h => absurd h (Nat.not_lt_zero _), Below.refl _ _⟩
  case round =>
    obtain ⟨k, hk, rfl, hall, bel⟩ := hrel
    have All := Lib.hid hall
    have Be := Lib.hid bel
    clear hall bel
    by_cases hlt : k < n
    · obtain ⟨b, off, A5, l, c5, u5, y, rfl, hb, ev, ey, x1, r1⟩ := (HX.out.up Be.out).at_ hlt
      have h1 := hl1.out k hlt
      rw [ey, r1.lx] at h1
      have hl5 := h1.1
      have Hl : Hid (∀ i, i < l → (y.getD i []).length ≤ 1000) := Lib.hid h1.2
      have R1 := Lib.hid r1
      have Ey := Lib.hid ey
      have Bk := Lib.hid (HB.out.below Be.out HB.out.lt)
      have p1 : (0 : Int) ≤ k := by omega
      have p2 : (k : Int) < n := by omega
      clear r1 ev ey hb h1
      by_cases e : y = yss
      · have Fin : Hid (decide (0 ≤ (k : Int)) = ans) := Lib.hid (by
          rw [← ha.out, decide_eq_true (by omega : 0 ≤ (k : Int))]
          refine Eq.symm (decide_eq_true ?_)
          rw [← e, ← Ey.out, List.getD_eq_getElem?_getD, List.getElem?_eq_getElem (by rw [HX.out.lx]; exact hlt)]
          exact List.getElem_mem _)
        have d0 : Hid (decide (y = yss) = true) := Lib.hid (by simpa using e)
        clear e
        go_wp2_with fail
        refine (isSameT bx A5 B l c5 m d u5 us y yss wr Bk.out R1.out (HY.out.up Be.out) hl5 hm Hl hl2 true d0).mono ?_
        rintro e w1 ⟨rfl, b1⟩
        have B1 : Hid (Below w.heap.size w w1) := Lib.hid (btr Be.out b1)
        clear b1
        go_wp2_with fail
        go_ret
        exact ⟨_, rfl, Fin, B1.out⟩
      · have d0 : Hid (decide (y = yss) = false) := Lib.hid (by simpa using e)
        have All2 : Hid (∀ j, j < k + 1 → ls.getD j [] ≠ yss) := Lib.hid fun j hj => by
          by_cases e2 : j = k
          · subst e2; rw [Ey.out]; exact e
          · exact All.out j (by omega)
        clear e
        go_wp2_with fail
        refine (isSameT bx A5 B l c5 m d u5 us y yss wr Bk.out R1.out (HY.out.up Be.out) hl5 hm Hl hl2 false d0).mono ?_
        rintro e w1 ⟨rfl, b1⟩
        have B1 : Hid (Below w.heap.size w w1) := Lib.hid (btr Be.out b1)
        clear b1
        go_wp2_with fail
        go_roundw
        case rel => exact ⟨k + 1, by omega, by go_num, All2.out, B1.out⟩
        case measure => simp [intOf]; omega
    · obtain rfl : k = n := by omega
      have Fin : Hid (decide (0 ≤ (-1 : Int)) = ans) := Lib.hid (by
        rw [← ha.out]
        refine Eq.trans (by decide) (Eq.symm (decide_eq_false fun hm => ?_))
        obtain ⟨i, hi, e⟩ := List.mem_iff_getElem.1 hm
        refine All.out i (by rw [← HX.out.lx]; exact hi) ?_
        rw [List.getD_eq_getElem?_getD, List.getElem?_eq_getElem hi, ← e]; rfl)
      go_wp2_with fail
      go_ret
      exact ⟨_, rfl, Fin, Be.out⟩

set_option maxHeartbeats 1000000 in
/-- slices.ContainsFunc at that literal. -/
theorem hasSys (bx : Nat) (A B : Option Addr) (n c m d : Nat) (vs us : List SV) (wss : List (List SV)) (ls : List (List (List Int))) (yss : List (List Int)) (w : World) (hb : Blk w bx 24 #[.slice B m d]) (hx : R3 w w.heap.size A n vs wss ls) (hy : RR w w.heap.size B m us yss) (hn : n ≤ 1000) (hm : m ≤ 1000)
    (hl1 : Hid (∀ i, i < n → (ls.getD i []).length ≤ 1000 ∧ ∀ t, t < (ls.getD i []).length → ((ls.getD i []).getD t []).length ≤ 1000)) (hl2 : Hid (∀ i, i < m → (yss.getD i []).length ≤ 1000)) (ans : Bool) (ha : Hid (decide (yss ∈ ls) = ans)) :
    Calls Tryz.prog 19 #[.slice A n c, .func (.func 16) #[] #[.pointer (some ⟨bx, 0, none⟩)]] w fun e w' => e = .returned (.bool ans) ∧ Below w.heap.size w w' := by
  have HX := Lib.hid hx
  have HY := Lib.hid hy
  have HB := Lib.hid hb
  clear hx hy hb
  go_enter Tryz.func19, Tryz.ntmps19
  go_wp2_with (go_at_call 39; fail)
  refine (idxSys bx A B n c m d vs us wss ls yss w HB.out HX.out HY.out hn hm hl1 hl2 ans ha).mono ?_
  rintro e w1 ⟨r, rfl, hr, b1⟩
  have B1 := Lib.hid b1
  have d0 := hr.out
  clear b1
  go_wp2_with fail
  go_ret
  exact ⟨rfl, B1.out⟩

set_option maxHeartbeats 4000000 in
set_option maxRecDepth 100000 in
/-- MinimalBlockSystems. -/
theorem implMsy (a : Int) (A : Option Addr) (n c : Nat) (vs : List SV) (xss : List (List Int)) (w : World) (g : GIn w A n vs xss) :
    Calls Tryz.prog 6 #[.int .i64 a, .slice A n c] w fun e w' => ∃ A' m' c' us wss rg ls, e = .returned (.slice A' m' c') ∧ S3 w' w.heap.size A' m' c' us wss rg ls ∧ (∀ i, i < m' → (rg.getD i (0, 0)).2 ≤ w'.heap.size) ∧ IsMsy a xss ls ∧ Below w.heap.size w w' := by
  have hmf : ∀ (fn : Fn) (first cap : Array Value) (w : World), (Instr.makeFunc fn first cap).run Tryz.prog w = .ok (.func fn first cap) w := fun _ _ _ _ => rfl
  have G := Lib.hid g
  have HX := Lib.hid g.rr
  have hn := g.hn
  have hl := Lib.hid g.hl
  clear g
  go_enter Tryz.func6, Tryz.ntmps6
  go_wp2_with fail
  refine (implGS a A n c vs xss w HX.out hn hl).mono ?_
  rintro e w1 ⟨rfl, b1⟩
  have B1 := Lib.hid b1
  clear b1
  rcases hs : gB a xss with _ | _
  · have Fin : Hid (IsMsy a xss []) := Lib.hid (.inr ⟨hs, rfl⟩)
    clear hs
    go_wp2_with fail
    go_ret
    exact ⟨_, _, _, _, _, _, _, rfl, S3.nil_, fun i h => absurd h (Nat.not_lt_zero _), Fin.out, B1.out⟩
  · obtain ⟨N, rfl, hN1, hN2, _, _, _⟩ := gB_pm hs
    have Hs := Lib.hid hs
    obtain ⟨f, ef⟩ : ∃ f, mnS xss N = f := ⟨_, rfl⟩
    have Ef := Lib.hid ef
    have S0 : Hid (S3 w1 w1.heap.size none 0 0 [] [] [] (sysL f 1)) := Lib.hid (by rw [sysL_start]; exact S3.nil_)
    clear hs ef
    go_wp2_with fail
    go_loopw [5, 6] (fun v yv wr => ∃ (y k c' : Nat) (A' : Option Addr) (us : List SV) (wss : List (List SV)) (rg : List (Nat × Nat)), 1 ≤ y ∧ y ≤ N ∧ k ≤ 20 ∧ yv = .int .i64 (y : Nat) ∧ v = .slice A' k c' ∧ S3 wr w1.heap.size A' k c' us wss rg (sysL f y) ∧ (∀ i, i < k → (rg.getD i (0, 0)).2 ≤ wr.heap.size) ∧ (∀ z, 1 ≤ z → z < y → ∃ r, LstM xss N 0 z r) ∧ Below w1.heap.size w1 wr) (fun _ yv _ => N - (intOf yv).toNat)
    case atStart => exact ⟨1, 0, 0, none, [], [], [], Nat.le_refl _, hN1, by omega, rfl, rfl, S0.out, fun i h => absurd h (Nat.not_lt_zero _), fun z a b => absurd b (by omega), Below.refl _ _⟩
    case round =>
      clear S0
      obtain ⟨y, k, c', A', us, wss, rg, hy1, hyN, hk20, rfl, rfl, h3, hrg, hex, bel⟩ := hrel
      have H3 := Lib.hid h3
      have Hrg := Lib.hid hrg
      have Hex := Lib.hid hex
      have Be := Lib.hid bel
      have hzr := bel.size
      clear h3 hrg hex bel
      by_cases hlt : y < N
      · have Bw : Hid (Below w.heap.size w wr) := Lib.hid (btr B1.out Be.out)
        go_wp2_with fail
        have K0 := implMinP N n c 0 y A vs xss wr (G.out.up Bw.out) Hs (by omega) hlt
        refine Calls.mono (show Calls Tryz.prog 15 #[.int .i64 (N : Nat), .slice A n c, .int .i64 0, .int .i64 (y : Nat)] wr _ from K0) ?_
        clear K0
        rintro e w2 ⟨A2, m2, c2, u2, r, rfl, hr, s2, b2⟩
        have efy : canon N r = f y := by rw [← Ef.out]; exact mnS_eq hr
        rw [efy] at s2
        have Hex2 : Hid (∀ z, 1 ≤ z → z < y + 1 → ∃ r, LstM xss N 0 z r) := Lib.hid fun z a b => by
          by_cases e : z = y
          · subst e; exact ⟨r, hr⟩
          · exact Hex.out z a (by omega)
        have hfl : (f y).length ≤ 20 ∧ ∀ p ∈ f y, p.length ≤ 20 := by rw [← efy]; exact prt_bound (canon_prt _ _) hN2
        have hm2 : m2 ≤ 20 := by rw [← s2.lx]; exact hfl.1
        have Lf : Hid ((f y).length = m2) := Lib.hid s2.lx
        have Hl2 : Hid (∀ i, i < m2 → ((f y).getD i []).length ≤ 1000) := Lib.hid fun i hi => by
          have := hfl.2 _ (getD_memL (show i < (f y).length by rw [s2.lx]; exact hi)); omega
        have hsl : ∀ p ∈ sysL f y, p.length ≤ 20 ∧ ∀ z ∈ p, z.length ≤ 20 := fun p hp => by
          obtain ⟨z, _, _, rfl, _⟩ := sysL_mem _ hp
          rw [← Ef.out]; exact prt_bound (canon_prt _ _) hN2
        have Hl1 : Hid (∀ i, i < k → ((sysL f y).getD i []).length ≤ 1000 ∧ ∀ t, t < ((sysL f y).getD i []).length → (((sysL f y).getD i []).getD t []).length ≤ 1000) := Lib.hid fun i hi => by
          have hm : (sysL f y).getD i [] ∈ sysL f y := by
            rw [List.getD_eq_getElem?_getD, List.getElem?_eq_getElem (by rw [H3.out.lx]; exact hi)]; exact List.getElem_mem _
          have h1 := hsl _ hm
          exact ⟨by omega, fun t ht => by have := h1.2 _ (getD_memL ht); omega⟩
        have S2 := Lib.hid s2
        have B2 := Lib.hid b2
        have hz2 := b2.size
        have U2 : Hid ((∀ k, (Value.slice A2 m2 c2).ownBlock = some k → k < w2.heap.size) ∧ ∀ t, t < m2 → ∀ k, (sval (u2.getD t sd0)).ownBlock = some k → k < w2.heap.size) := Lib.hid ⟨fun k e => (s2.lt_ k e).2, fun t ht k e => ((s2.row t ht).lt_ k e).2⟩
        have Bk3 : Hid (Blk (w2.alloc (.cells #[.slice A2 m2 c2] 24)) w2.heap.size 24 #[.slice A2 m2 c2]) := Lib.hid (Blk.new w2 _ _)
        have B3 : Hid (Below wr.heap.size wr (w2.alloc (.cells #[.slice A2 m2 c2] 24))) := Lib.hid (b2.alloc hz2 _)
        have S3' : Hid (SS (w2.alloc (.cells #[.slice A2 m2 c2] 24)) wr.heap.size wr.heap.size A2 m2 c2 u2 (f y)) := Lib.hid (s2.alloc _)
        clear s2 b2 hr efy hfl hsl
        by_cases h1m : m2 ≤ 1
        · have Nx : Hid (sysL f (y + 1) = sysL f y) := Lib.hid (sysL_one (by rw [Lf.out]; exact h1m))
          have d0 : decide ((1 : Int) < m2) = false := by simp; omega
          have H5 := Lib.hid (H3.out.upB B3.out)
          have B5 : Hid (Below w1.heap.size w1 (w2.alloc (.cells #[.slice A2 m2 c2] 24))) := Lib.hid (btr Be.out B3.out)
          have Hrg5 : Hid (∀ i, i < k → (rg.getD i (0, 0)).2 ≤ (w2.alloc (.cells #[.slice A2 m2 c2] 24)).heap.size) := Lib.hid fun i hi => Nat.le_trans (Hrg.out i hi) (Nat.le_trans hz2 (by simp))
          have cc : (w2.alloc (.cells #[.slice A2 m2 c2] 24)).cell? ⟨w2.heap.size, 0, none⟩ = some (.slice A2 m2 c2) := Bk3.out.cell 0
          clear h1m
          go_wp2_with fail
          go_roundw
          case rel => exact ⟨y + 1, k, c', A', us, wss, rg, by omega, by omega, hk20, by go_num, rfl, by rw [Nx.out]; exact H5.out, Hrg5.out, Hex2.out, B5.out⟩
          case measure => simp [intOf]; omega
        · have d0 : decide ((1 : Int) < m2) = true := by simp; omega
          have h1f : 1 < (f y).length := by rw [Lf.out]; omega
          have cc : (w2.alloc (.cells #[.slice A2 m2 c2] 24)).cell? ⟨w2.heap.size, 0, none⟩ = some (.slice A2 m2 c2) := Bk3.out.cell 0
          have H5 := Lib.hid (H3.out.upB B3.out)
          obtain ⟨ans, eans⟩ : ∃ ans, decide (f y ∈ sysL f y) = ans := ⟨_, rfl⟩
          have Ea := Lib.hid eans
          clear eans
          go_wp2_with (go_at_call 19; fail)
          have hz3 : w2.heap.size + 1 = (w2.alloc (.cells #[.slice A2 m2 c2] 24)).heap.size := by simp
          obtain ⟨W3, hW3⟩ : ∃ W3, w2.alloc (.cells #[.slice A2 m2 c2] 24) = W3 := ⟨_, rfl⟩
          rw [hW3] at B3 S3' H5 Bk3 hz3 ⊢
          obtain ⟨bx, hbx⟩ : ∃ bx, w2.heap.size = bx := ⟨_, rfl⟩
          have hlob : wr.heap.size ≤ bx := by rw [← hbx]; exact hz2
          rw [hbx] at Bk3 U2 hz3 ⊢
          refine (hasSys bx A' A2 k c' m2 c2 us u2 wss (sysL f y) (f y) W3 Bk3.out H5.out.rr S3'.out.rr (by omega) (by omega) Hl1 Hl2 ans Ea).mono ?_
          rintro e w4 ⟨rfl, b4⟩
          have B4 : Hid (Below wr.heap.size wr w4) := Lib.hid (btr B3.out b4)
          have Bk4 := Lib.hid (Bk3.out.below b4 Bk3.out.lt)
          have c4 : w4.cell? ⟨bx, 0, none⟩ = some (.slice A2 m2 c2) := Bk4.out.cell 0
          have H6 := Lib.hid (H3.out.upB B4.out)
          have S6 : Hid (SS w4 wr.heap.size wr.heap.size A2 m2 c2 u2 (f y)) := Lib.hid (S3'.out.up b4)
          have B4w : Hid (Below w1.heap.size w1 w4) := Lib.hid (btr Be.out B4.out)
          have hz4 := b4.size
          clear b4 cc Bk3 B3 S3' H5 hW3 hbx h1m
          rcases ans with _ | _
          · have Nx : Hid (sysL f (y + 1) = sysL f y ++ [f y]) := Lib.hid (sysL_yes hy1 h1f (of_decide_eq_false Ea.out))
            have hOut : Hid (∀ q, (Value.slice A' k c').ownBlock = some q → q < wr.heap.size) := Lib.hid fun q hq => (H3.out.lt_ q hq).2
            have hRg : Hid (∀ i, i < k → (rg.getD i (0, 0)).2 ≤ wr.heap.size) := Hrg
            have hk19 : k + 1 ≤ 20 := by
              have h5 := sysL_len (f := f) (y + 1)
              rw [Nx.out, List.length_append, H3.out.lx] at h5
              simp at h5
              omega
            go_wp2_with (first | (at_builtin; go_must (refine wpList_app3_ rfl _ _ rfl rfl (H6.out.alloc _) w4.heap.size A2 m2 c2 wr.heap.size bx u2 (f y) rfl (by rw [World.cell?_alloc_at _ _ _ _ rfl]; rfl) (S6.out.alloc _) U2.out.1 U2.out.2 hzr ⟨hlob, by simp; omega⟩ hRg.out hOut.out (fun i hi => Nat.le_trans (hRg.out i hi) (by simp; omega)) (by omega) ?_); intro A9 c9 w9 s9 g9) | go_in)
            have H9 : Hid (S3 w9 w1.heap.size A9 (k + 1) c9 (us ++ [(A2, m2, c2)]) (wss ++ [u2]) (rg ++ [(wr.heap.size, bx)]) (sysL f (y + 1))) := Lib.hid (by rw [Nx.out]; exact s9)
            have B9 : Hid (Below w1.heap.size w1 w9) := Lib.hid ((B4w.out.alloc (by omega) _).grown g9 (by simp; omega) (fun q hq => (H6.out.lt_ q hq).1))
            have hz9 : w4.heap.size ≤ w9.heap.size := by have := g9.size; simp at this; omega
            have Hrg9 : Hid (∀ i, i < k + 1 → ((rg ++ [(wr.heap.size, bx)]).getD i (0, 0)).2 ≤ w9.heap.size) := Lib.hid fun i hi => by
              by_cases e : i < k
              · rw [getD_app rg _ _ _ (by rw [H3.out.lg]; exact e)]; exact Nat.le_trans (hRg.out i e) (by omega)
              · obtain rfl : i = k := by omega
                rw [getD_snoc rg _ _ _ H3.out.lg.symm]; show bx ≤ _; omega
            clear s9 g9
            go_wp2_with fail
            go_roundw
            case rel => exact ⟨y + 1, k + 1, c9, A9, _, _, _, by omega, by omega, hk19, by go_num, rfl, H9.out, Hrg9.out, Hex2.out, B9.out⟩
            case measure => simp [intOf]; omega
          · have Nx : Hid (sysL f (y + 1) = sysL f y) := Lib.hid (sysL_old (of_decide_eq_true Ea.out))
            have Hrg5 : Hid (∀ i, i < k → (rg.getD i (0, 0)).2 ≤ w4.heap.size) := Lib.hid fun i hi => Nat.le_trans (Hrg.out i hi) (by omega)
            go_wp2_with fail
            go_roundw
            case rel => exact ⟨y + 1, k, c', A', us, wss, rg, by omega, by omega, hk20, by go_num, rfl, by rw [Nx.out]; exact H6.out, Hrg5.out, Hex2.out, B4w.out⟩
            case measure => simp [intOf]; omega
      · obtain rfl : y = N := by omega
        have Fin : Hid (IsMsy y xss (sysL f y)) := Lib.hid (.inl ⟨Hs.out, fun z a b => Hex.out z a (by rwa [Int.toNat_natCast] at b), by rw [Int.toNat_natCast, Ef.out]⟩)
        have Bw : Hid (Below w.heap.size w wr) := Lib.hid (btr B1.out Be.out)
        have H5 := Lib.hid (H3.out.mono B1.out.size)
        go_wp2_with fail
        go_ret
        exact ⟨_, _, _, us, wss, rg, _, rfl, H5.out, Hrg.out, Fin.out, Bw.out⟩

set_option maxHeartbeats 1600000 in
/-- IsPrimitive. -/
theorem implIsPrimitive : CtImB 8 IsPri := by
  intro a A n c vs xss w g _
  have G := Lib.hid g
  clear g
  go_enter Tryz.func8, Tryz.ntmps8
  rcases ht : transB a xss with _ | _
  · have Fin : Hid (IsPri a xss false) := Lib.hid ⟨fun h => (by cases h), fun h => (by have := h.1; rw [ht] at this; cases this)⟩
    have Ht := Lib.hid ht
    clear ht
    go_wp2_with (first
      | (go_at_call 23; refine (implIsTransitive a A n c vs xss w G.out.rr G.out.hn (Lib.hid G.out.hl)).mono ?_; rintro e w1 ⟨rfl, b1⟩; rw [Ht.out]; have B1 := Lib.hid b1; clear b1))
    go_ret
    exact ⟨_, rfl, Fin.out, B1.out⟩
  · have Ht := Lib.hid ht
    have hg := transB_gB ht
    clear ht
    go_wp2_with (first
      | (go_at_call 23; refine (implIsTransitive a A n c vs xss w G.out.rr G.out.hn (Lib.hid G.out.hl)).mono ?_; rintro e w1 ⟨rfl, b1⟩; rw [Ht.out]; have B1 := Lib.hid b1; clear b1)
      | (go_at_call 6; fail))
    refine (implMsy a A n c vs xss w1 (G.out.up B1.out)).mono ?_
    rintro e w2 ⟨A2, m2, c2, us, wss, rg, ls, rfl, s2, _, r2, b2⟩
    have B2 : Hid (Below w.heap.size w w2) := Lib.hid (btr B1.out b2)
    obtain ⟨ans, eans⟩ : ∃ ans, ((m2 : Int) == 0) = ans := ⟨_, rfl⟩
    have hls : ls = [] ↔ ∀ y, 1 ≤ y → y < a.toNat → (mnS xss a.toNat y).length ≤ 1 := by
      rcases r2 with ⟨_, _, e⟩ | ⟨e, _⟩
      · rw [e]; exact sysL_nil _
      · rw [hg] at e; cases e
    have Fin : Hid (IsPri a xss ans) := Lib.hid (by
      unfold IsPri
      rw [← hls, ← eans, beq_iff_eq]
      constructor
      · intro h; exact ⟨Ht.out, List.eq_nil_of_length_eq_zero (by rw [s2.lx]; omega)⟩
      · intro h; have := s2.lx; rw [h.2] at this; simp at this; omega)
    clear s2 r2 b2 hls
    go_wp2_with fail
    go_ret
    exact ⟨ans, rfl, Fin.out, B2.out⟩
end Go.Proofs.YtedfcljikgmpgaaGreat

/- How many members each choice of the model's chain has; the entries there are, of the model. Conditions: at most 20 points, 8 generators. -/
namespace Go.Proofs.YtedfcljikgmpgaaGreat
open Go.RowKit

/-- What choicesAt answers, in the words of ranks. -/
theorem chL_ok {N i : Nat} {gs : List (List Int)} {c : Ch} {m : List Int} {zs : List Int} (hw : Whole N gs c) (h1 : 1 ≤ N) (h2 : N ≤ 20) (hg : ∀ g ∈ gs, Pn N g) (hi : i < N) (hm : Mb gs N m) (hp : zs.Perm (chL c i m N)) (ho : zs.Pairwise (· ≤ ·)) : ChL N gs m i zs := by
  have hmp := hm.pn hg h1 h2
  have hn : (chL c i m N).Nodup := nd_mapA (List.nodup_range.filter _) fun x hx y hy e => hmp.inj (List.mem_range.1 (List.mem_filter.1 hx).1) (List.mem_range.1 (List.mem_filter.1 hy).1) (by omega)
  have hz : zs.Nodup := hp.nodup_iff.2 hn
  refine ⟨List.Pairwise.imp (S := fun a b => a < b) (fun {a b} hab => by have := hab.1; have := hab.2; omega) (ho.and hz), fun v => ?_⟩
  rw [hp.mem_iff, hw.choice h1 h2 hg hi hm]
  exact Iff.rfl

end Go.Proofs.YtedfcljikgmpgaaGreat

/- countBelow of the model: how many members precede a permutation. Conditions: at most 20 points, 8 generators. -/
namespace Go.Proofs.YtedfcljikgmpgaaGreat
open Go.RowKit

theorem first_ge (zs : List Int) (v : Int) : ∃ K, K ≤ zs.length ∧ (∀ j, j < K → zs.getD j 0 < v) ∧ (K < zs.length → v ≤ zs.getD K 0) := by
  have h : ∀ n, n ≤ zs.length → (∀ j, j < n → zs.getD j 0 < v) ∨ ∃ K, K < n ∧ (∀ j, j < K → zs.getD j 0 < v) ∧ v ≤ zs.getD K 0 := fun n => by
    induction n with
    | zero => exact fun _ => .inl fun j h => absurd h (Nat.not_lt_zero _)
    | succ n ih =>
      intro hn
      rcases ih (by omega) with h | ⟨K, a, b, d⟩
      · by_cases e : zs.getD n 0 < v
        · exact .inl fun j hj => by
            by_cases e2 : j = n
            · subst e2; exact e
            · exact h j (by omega)
        · exact .inr ⟨n, by omega, h, by omega⟩
      · exact .inr ⟨K, by omega, b, d⟩
  rcases h zs.length (Nat.le_refl _) with h | ⟨K, a, b, d⟩
  · exact ⟨zs.length, Nat.le_refl _, h, fun h => absurd h (Nat.lt_irrefl _)⟩
  · exact ⟨K, by omega, b, fun _ => d⟩
/-- The order of a group of at most 20 points. -/
theorem IsOS.ordB {N : Nat} {gs : List (List Int)} {xs : List Int} (h : IsOS N gs xs) (hg : ∀ g ∈ gs, Pn N g) (h1 : 1 ≤ N) (h2 : N ≤ 20) : ∃ V, Crd (Mb gs N) V ∧ prodL xs = (V : Int) ∧ V ≤ 2432902008176640000 := by
  obtain ⟨V, hV, e⟩ := h.order hg h1 h2
  have := h.pr_le hg h1 h2 0 N (by omega)
  have hf := facts_le h2 (0 + N) (by omega)
  rw [prodL_pr, h.1] at e
  exact ⟨V, hV, by rw [prodL_pr, h.1]; exact e, by omega⟩

end Go.Proofs.YtedfcljikgmpgaaGreat

/- IsSubgroup, SubgroupIndex and SameCoset of the model: what they answer. Conditions: at most 1048576 lists of at most 1048576 numbers. -/
namespace Go.Proofs.YtedfcljikgmpgaaGreat
open Go.RowKit


/-! ### what the orders tell of the index -/
section
variable {a va vb : Int} {xa xb : List (List Int)}
theorem ord_nat (h : IsOrd a xa va) (hs : gB a xa = true) : ∃ V : Nat, va = (V : Int) ∧ Crd (Mb xa a.toNat) V ∧ 1 ≤ V ∧ V ≤ 2432902008176640000 := by
  rcases h with ⟨_, xs, h, rfl⟩ | ⟨e, _⟩
  · obtain ⟨N, rfl, h1, h2, _, _, ok⟩ := gB_pm hs
    rw [Int.toNat_natCast] at h ⊢
    obtain ⟨V, hV, e, hb⟩ := h.ordB ok h1 h2
    have : 1 ≤ V := crd_sub (crd_one (idL N)) hV fun x hx => by subst hx; exact .one
    exact ⟨V, e, hV, this, hb⟩
  · rw [hs] at e; cases e
theorem ord_idx (hs : SubG a xa xb) (ha : IsOrd a xa va) (hb : IsOrd a xb vb) : ∃ Va Vb : Nat, va = (Va : Int) ∧ vb = (Vb : Int) ∧ 1 ≤ Va ∧ Vb ≤ 2432902008176640000 ∧ IsIdx a xa xb ((Vb / Va : Nat) : Int) := by
  obtain ⟨Va, e1, c1, l1, _⟩ := ord_nat ha hs.1
  obtain ⟨Vb, e2, c2, _, l2⟩ := ord_nat hb hs.2.1
  obtain ⟨k, hk, e⟩ := idx_ord hs c1 c2
  refine ⟨Va, Vb, e1, e2, l1, l2, .inl ⟨hs, k, hk, ?_⟩⟩
  rw [e, Nat.mul_div_cancel _ (by omega)]
end


end Go.Proofs.YtedfcljikgmpgaaGreat

/- The program's blockImages, BlockAction, IsBlockSystem, BlockActionOrder, BlockKernelOrder. Conditions: at most 1048576 lists of at most 1048576 numbers. -/
namespace Go.Proofs.YtedfcljikgmpgaaGreat
open Go.RowKit

section
variable {N : Nat} {bl : List (List Int)} {f : Nat → Option Nat} {g : List Int}
/-- Behind uniteEach the smallest of a point's set is the head of its block. -/
theorem each_head (hP : Prt N bl) (h : Lnk N f) (h1 : Rf N (bi bl) (rt f)) (h2 : Rf N (rt f) (bi bl)) {u : Nat} (hu : u < N) : (rt f u : Int) = (bl.getD (bi bl u) []).getD 0 0 := by
  have hl := hP.bi_lt hu
  have hh := hP.head hl
  have hb := hP.head_bi hl
  obtain ⟨m, em⟩ : ∃ m : Nat, (bl.getD (bi bl u) []).getD 0 0 = (m : Int) := ⟨((bl.getD (bi bl u) []).getD 0 0).toNat, by omega⟩
  rw [em] at hh hb ⊢
  have hm : m < N := by omega
  have e1 : rt f u = rt f m := h1 u m hu hm hb.symm
  have h3 := rt_le h m
  have hru : rt f u < N := by omega
  have e2 : bi bl (rt f u) = bi bl u := h2 _ _ hru hu (rt_rt h u)
  have h4 := hP.bi_mem hru
  rw [e2] at h4
  have hs := hP.1 _ hl
  obtain ⟨k, hk, ek⟩ := List.mem_iff_getElem.1 h4
  have : (m : Int) ≤ (rt f u : Int) := by
    rw [← em, ← ek, getD_eq (by omega : 0 < (bl.getD (bi bl u) []).length)]
    rcases Nat.eq_zero_or_pos k with rfl | hk0
    · exact Int.le_refl _
    · have := PtS.lt hs.2.1 k hk0 hk
      rw [getD_eq (by omega : 0 < (bl.getD (bi bl u) []).length), getD_eq hk] at this
      omega
  omega
/-- The entries of block i that g maps into one block. -/
theorem rsp_of (hP : Prt N bl) (hg : Pn N g) (h1 : Rf N (bi bl) (rt f)) (h2 : Rf N (rt f) (bi bl)) (h : ∀ i, i < bl.length → ∀ k, k < (bl.getD i []).length → rt f (nx g ((bl.getD i []).getD k 0).toNat) = rt f (nx g ((bl.getD i []).getD 0 0).toNat)) : Rsp N bl g := by
  intro u v hu hv e
  show bi bl (nx g u) = bi bl (nx g v)
  have key : ∀ z, z < N → rt f (nx g z) = rt f (nx g ((bl.getD (bi bl z) []).getD 0 0).toNat) := fun z hz => by
    have hl := hP.bi_lt hz
    obtain ⟨k, hk, ek⟩ := List.mem_iff_getElem.1 (hP.bi_mem hz)
    have := h _ hl k hk
    rw [getD_eq hk, ek] at this
    exact this
  refine h2 _ _ (hg.lt hu) (hg.lt hv) ?_
  rw [key u hu, key v hv, e]
theorem rsp_to (hP : Prt N bl) (hg : Pn N g) (h1 : Rf N (bi bl) (rt f)) (h : Rsp N bl g) {i k : Nat} (hi : i < bl.length) (hk : k < (bl.getD i []).length) : rt f (nx g ((bl.getD i []).getD k 0).toNat) = rt f (nx g ((bl.getD i []).getD 0 0).toNat) := by
  have e1 := hP.ent hi (k := 0) (by omega)
  have e2 := hP.ent hi hk
  refine h1 _ _ (hg.lt (by omega)) (hg.lt (by omega)) (h _ _ (by omega) (by omega) (e2.2.2.trans e1.2.2.symm))
theorem actL_len : (actL bl g).length = bl.length := by unfold actL; rw [List.length_map]
theorem actL_take {i : Nat} (hi : i < bl.length) : (actL bl g).take (i + 1) = (actL bl g).take i ++ [((bi bl (nx g ((bl.getD i []).getD 0 0).toNat) : Nat) : Int)] := by
  rw [List.take_succ_eq_append_getElem (by rw [actL_len]; exact hi)]
  unfold actL
  rw [List.getElem_map, getD_L hi]
end

set_option maxHeartbeats 1000000 in
/-- The function literal of blockImages: the block that begins with a number. -/
theorem predHd (bx l c5 : Nat) (F : Int) (A5 : Option Addr) (y : List Int) (w : World) (hb : Blk w bx 2 #[.int .i64 F]) (hy : RI w w.heap.size A5 y) (ly : Hid (y.length = l)) (hl : 0 < l) (ans : Bool) (ha : Hid ((y.getD 0 0 == F) = ans)) :
    Calls Tryz.prog 67 #[.slice A5 l c5, .pointer (some ⟨bx, 0, none⟩)] w fun e w' => e = .returned (.bool ans) ∧ Below w.heap.size w w' := by
  obtain ⟨bz, oz, rfl, hbz, hc⟩ := hy (by rw [ly.out]; exact hl)
  have z0 := hc 0 (by rw [ly.out]; exact hl)
  obtain ⟨x, ex⟩ : ∃ x, y.getD 0 0 = x := ⟨_, rfl⟩
  rw [ex, Nat.add_zero] at z0
  have c0 : w.cell? ⟨bx, 0, none⟩ = some (.int .i64 F) := hb.cell 0
  have Fin : Hid ((x == F) = ans) := Lib.hid (by rw [← ha.out, ex])
  have q0 : (0 : Int) < l := by omega
  clear hc ex hbz hb ha
  go_enter Tryz.func67, Tryz.ntmps67
  go_wp2_with fail
  go_quiet (fail)
  go_wp2_with fail
  go_ret
  exact ⟨ret_bool Fin.out, pcDrewBelow _ _⟩
set_option maxHeartbeats 1000000 in
set_option maxRecDepth 100000 in
/-- slices.IndexFunc at that literal. -/
theorem idxHead (bx n c k : Nat) (F : Int) (A : Option Addr) (vs : List SV) (bl : List (List Int)) (w : World) (hx : RR w w.heap.size A n vs bl) (hb : Blk w bx 2 #[.int .i64 F]) (hn : n ≤ 1048576) (hk : k < n) (hne : Hid (∀ i, i < n → bl.getD i [] ≠ [])) (h1 : Hid ((bl.getD k []).getD 0 0 = F)) (h2 : Hid (∀ j, j < k → (bl.getD j []).getD 0 0 ≠ F)) :
    Calls Tryz.prog 66 #[.slice A n c, .func (.func 67) #[] #[.pointer (some ⟨bx, 0, none⟩)]] w fun e w' => e = .returned (.int .i64 (k : Nat)) ∧ Below w.heap.size w w' := by
  have HX := Lib.hid hx
  have HB := Lib.hid hb
  clear hx hb
  go_enter Tryz.func66, Tryz.ntmps66
  go_wp2_with fail
  go_loopw [8] (fun i wr => ∃ j : Nat, j ≤ k ∧ i = .int .i64 (j : Nat) ∧ Below w.heap.size w wr) (fun i _ => n - (intOf i).toNat)
  case atStart => exact ⟨0, Nat.zero_le _, rfl, Below.refl _ _⟩
  case round =>
    obtain ⟨j, hj, rfl, bel⟩ := hrel
    have Be := Lib.hid bel
    clear bel
    have hlt : j < n := by omega
    obtain ⟨b5, o5, A5, l, c5, y, rfl, hb5, ev, ey, x1, ri, ly, hlc⟩ := (HX.out.up Be.out).at_ hlt
    have hl0 : 0 < l := by rw [← ly]; have := hne.out j hlt; rw [ey] at this; exact List.length_pos_iff.2 this
    have Bk := Lib.hid (HB.out.below Be.out HB.out.lt)
    have Ri := Lib.hid ri
    have Ly : Hid (y.length = l) := Lib.hid ly
    have Ey := Lib.hid ey
    have q0 : (0 : Int) ≤ j := by omega
    have q1 : (j : Int) < n := by omega
    clear ev ey ri ly hb5
    by_cases e : j = k
    · subst e
      go_wp2_with fail
      refine (predHd bx l c5 F A5 y wr Bk.out Ri.out Ly hl0 true (Lib.hid (by rw [← Ey.out, h1.out]; simp))).mono ?_
      rintro e w1 ⟨rfl, b1⟩
      have B1 : Hid (Below w.heap.size w w1) := Lib.hid (btr Be.out b1)
      clear b1
      go_wp2_with fail
      go_ret
      exact ⟨rfl, B1.out⟩
    · have hne2 : Hid ((y.getD 0 0 == F) = false) := Lib.hid (by rw [← Ey.out, beq_eq_false_iff_ne]; exact h2.out j (by omega))
      go_wp2_with fail
      refine (predHd bx l c5 F A5 y wr Bk.out Ri.out Ly hl0 false hne2).mono ?_
      rintro e w1 ⟨rfl, b1⟩
      have B1 : Hid (Below w.heap.size w w1) := Lib.hid (btr Be.out b1)
      clear b1
      go_wp2_with fail
      go_roundw
      case rel => exact ⟨j + 1, by omega, by go_num, B1.out⟩
      case measure => simp [intOf]; omega

set_option maxHeartbeats 4000000 in
set_option maxRecDepth 100000 in
/-- blockImages. -/
theorem implImages (b N n c cg : Nat) (f : Nat → Option Nat) (D : DataW Value) (G A : Option Addr) (vs : List SV) (bl : List (List Int)) (g : List Int) (w : World) (h : UF w b N f D) (hG : RI w w.heap.size G g) (hg : Hid (Pn N g)) (hA : RR w w.heap.size A n vs bl) (hP : Hid (Prt N bl)) (h1 : Hid (Rf N (bi bl) (rt f))) (h2 : Hid (Rf N (rt f) (bi bl))) :
    Calls Tryz.prog 51 #[.slice G N cg, .slice A n c, .map (some b)] w fun e w' => ∃ A' n' c' zs ok, e = .returned (.tuple #[.slice A' n' c', .bool ok]) ∧ Slc w' w.heap.size A' n' c' zs ∧ ((ok = true ∧ Rsp N bl g ∧ zs = actL bl g) ∨ (ok = false ∧ ¬ Rsp N bl g ∧ zs = [])) ∧ Below w.heap.size w w' := by
  have hmf : ∀ (fn : Fn) (first cap : Array Value) (w : World), (Instr.makeFunc fn first cap).run Tryz.prog w = .ok (.func fn first cap) w := fun _ _ _ _ => rfl
  have H := Lib.hid h
  have HG := Lib.hid hG
  have HA := Lib.hid hA
  have hln : Hid (bl.length = n) := Lib.hid hA.lx
  have hN20 := hg.out.pos.2
  have hn20 : n ≤ 20 := by have := hP.out.len_le; rw [hln.out] at this; omega
  have Hne : Hid (∀ i, i < n → bl.getD i [] ≠ []) := Lib.hid fun i hi => (hP.out.1 i (by rw [hln.out]; exact hi)).1
  have Hd : Hid (∀ u, u < N → (rt f u : Int) = (bl.getD (bi bl u) []).getD 0 0) := Lib.hid fun u hu => each_head hP.out h.lk h1.out h2.out hu
  clear h hG hA
  go_enter Tryz.func51, Tryz.ntmps51
  go_wp2_with fail
  go_loopw [8, 17] (fun v iv wr => ∃ (i ci : Nat) (I : Option Addr), i ≤ n ∧ iv = .int .i64 (i : Nat) ∧ v = .slice I i ci ∧ Slc wr w.heap.size I i ci ((actL bl g).take i) ∧ (∀ j, j < i → ∀ k, k < (bl.getD j []).length → rt f (nx g ((bl.getD j []).getD k 0).toNat) = rt f (nx g ((bl.getD j []).getD 0 0).toNat)) ∧ Below w.heap.size w wr) (fun _ iv _ => n - (intOf iv).toNat)
  case atStart => exact ⟨0, _, _, Nat.zero_le _, rfl, rfl, by rw [List.take_zero]; exact Slc.nil_, fun j h => absurd h (Nat.not_lt_zero _), Below.refl _ _⟩
  case round =>
    obtain ⟨i, ci, I, hi, rfl, rfl, hs, hdone, bel⟩ := hrel
    have Ss := Lib.hid hs
    have Dn := Lib.hid hdone
    have Be := Lib.hid bel
    clear hs hdone bel
    by_cases hlt : i < n
    · obtain ⟨b5, o5, A5, l, c5, y, rfl, hb5, ev, ey, x1, ri, ly, hlc⟩ := (HA.out.up Be.out).at_ hlt
      have hi2 : i < bl.length := by rw [hln.out]; exact hlt
      have hl0 : 0 < l := by rw [← ly]; have := Hne.out i hlt; rw [ey] at this; exact List.length_pos_iff.2 this
      have Ey := Lib.hid ey
      have Ly : Hid (y.length = l) := Lib.hid ly
      have Ri := Lib.hid ri
      have hl20 : l ≤ 20 := by have := (hP.out.1 i hi2).2.1.1; rw [ey, ly] at this; omega
      obtain ⟨bz, oz, rfl, hbz, hc⟩ := ri (by rw [ly]; exact hl0)
      have z0 := hc 0 (by rw [ly]; exact hl0)
      have e0 := hP.out.ent hi2 (k := 0) (by rw [ey, ly]; exact hl0)
      rw [ey] at e0
      obtain ⟨X, eX⟩ : ∃ X : Nat, y.getD 0 0 = (X : Int) := ⟨(y.getD 0 0).toNat, by omega⟩
      rw [eX, Nat.add_zero] at z0
      rw [eX] at e0
      have hX : X < N := by omega
      have hbX : bi bl X = i := e0.2.2
      obtain ⟨bg, og, rfl, hbg, hcg⟩ := (HG.out.up Be.out) (by rw [hg.out.2]; omega)
      have y0 := hcg X (by rw [hg.out.2]; exact hX)
      rw [nx_val hg.out.1 (by rw [hg.out.2]; exact hX)] at y0
      obtain ⟨Y, eY⟩ : ∃ Y, nx g X = Y := ⟨_, rfl⟩
      have hY : Y < N := by rw [← eY]; exact hg.out.lt hX
      rw [eY] at y0
      have EX := Lib.hid eX
      have EY := Lib.hid eY
      have HbX := Lib.hid hbX
      have qX : (X : Int) < N := by omega
      have ql0 : (0 : Int) < l := by omega
      have KA9 : Hid (∀ W : World, Below w.heap.size w W → (vs.getD i sd0).1 = some ⟨bz, oz, none⟩) := Lib.hid fun W _ => by rw [ev]
      clear ev ey ri ly hc e0 eX hbX hcg eY hb5 hbz hbg
      go_wp2_with fail
      refine (ufSmallest b N Y f D wr (H.out.up Be.out) hY hN20).mono ?_
      rintro e w1 ⟨rfl, rfl⟩
      obtain ⟨F, eF⟩ : ∃ F, rt f Y = F := ⟨_, rfl⟩
      rw [eF]
      have EF := Lib.hid eF
      have B1 : Hid (Below wr.heap.size wr (wr.alloc (.cells #[.int .i64 (F : Nat)] 2))) := Lib.hid ((Below.refl _ _).alloc (Nat.le_refl _) _)
      have Bk1 : Hid (Blk (wr.alloc (.cells #[.int .i64 (F : Nat)] 2)) wr.heap.size 2 #[.int .i64 (F : Nat)]) := Lib.hid (Blk.new wr _ _)
      have hzr := Be.out.size
      clear eF z0 y0 x1
      go_wp2_with fail
      obtain ⟨W1, hW1⟩ : ∃ W1, wr.alloc (.cells #[.int .i64 (F : Nat)] 2) = W1 := ⟨_, rfl⟩
      obtain ⟨bx, hbx⟩ : ∃ bx, wr.heap.size = bx := ⟨_, rfl⟩
      rw [hW1] at B1 Bk1 ⊢
      rw [hbx] at Bk1 ⊢
      have Bw1 : Hid (Below w.heap.size w W1) := Lib.hid (btr Be.out B1.out)
      have Ss1 := Lib.hid (Ss.out.up B1.out)
      clear hW1 hbx B1 Ss Be
      go_loopw [31] (fun kv wr2 => ∃ k : Nat, k ≤ l ∧ kv = .int .i64 (k : Nat) ∧ (∀ k', k' < k → rt f (nx g (y.getD k' 0).toNat) = F) ∧ Below W1.heap.size W1 wr2) (fun kv _ => l - (intOf kv).toNat)
      case atStart => exact ⟨0, Nat.zero_le _, rfl, fun k' h => absurd h (Nat.not_lt_zero _), Below.refl _ _⟩
      case round =>
        obtain ⟨k, hk, rfl, hall, bel⟩ := hrel
        have All := Lib.hid hall
        have Be1 := Lib.hid bel
        have Be2 : Hid (Below w.heap.size w wr) := Lib.hid (btr Bw1.out bel)
        have Bk2 := Lib.hid (Bk1.out.below bel Bk1.out.lt)
        have c0 : wr.cell? ⟨bx, 0, none⟩ = some (.int .i64 (F : Nat)) := Bk2.out.cell 0
        have Rh : Hid (bl.getD i [] = y) := Ey
        clear hall bel
        by_cases hlt2 : k < l
        · have ri2 := (HA.out.up Be2.out).rows i hlt
          have len2 := (HA.out.up Be2.out).lens i hlt
          obtain ⟨bq, oq, eq, hbq, hcq⟩ := ri2 (by rw [Ey.out, Ly.out]; omega)
          obtain ⟨b6, o6, A6, l6, c6, y6, eA6, hb6, ev6, ey6, x6, ri6, ly6, hlc6⟩ := (HA.out.up Be2.out).at_ hlt
          have zk := hcq k (by rw [Ey.out, Ly.out]; exact hlt2)
          rw [Ey.out] at zk
          have e1 := hP.out.ent hi2 (k := k) (by rw [Ey.out, Ly.out]; exact hlt2)
          rw [Ey.out] at e1
          obtain ⟨Z, eZ⟩ : ∃ Z : Nat, y.getD k 0 = (Z : Int) := ⟨(y.getD k 0).toNat, by omega⟩
          rw [eZ] at zk e1
          have hZ : Z < N := by omega
          have EZ := Lib.hid eZ
          obtain ⟨bg2, og2, eg2, hbg2, hcg2⟩ := (HG.out.up Be2.out) (by rw [hg.out.2]; omega)
          injection eg2 with eg2; injection eg2 with eg3 eg4
          subst eg3 eg4
          have yk := hcg2 Z (by rw [hg.out.2]; exact hZ)
          rw [nx_val hg.out.1 (by rw [hg.out.2]; exact hZ)] at yk
          obtain ⟨V, eV⟩ : ∃ V, nx g Z = V := ⟨_, rfl⟩
          have hV : V < N := by rw [← eV]; exact hg.out.lt hZ
          rw [eV] at yk
          have EV := Lib.hid eV
          obtain ⟨R, eR⟩ : ∃ R, rt f V = R := ⟨_, rfl⟩
          have ER := Lib.hid eR
          have qZ : (Z : Int) < N := by omega
          have KQ : Hid (∀ q, Calls Tryz.prog 56 #[.map (some b), .int .i64 (V : Nat)] (wr.drewN q) fun e w' => e = .returned (.int .i64 (R : Nat)) ∧ w' = wr.drewN q) := Lib.hid fun q => by
            refine (ufSmallest b N V f D (wr.drewN q) ((H.out.up Be2.out).drewN q) hV hN20).mono ?_
            rintro e w' ⟨rfl, rfl⟩
            exact ⟨by rw [ER.out], rfl⟩
          have Rz : Hid (bq = bz ∧ oq = oz) := Lib.hid (by
            have h9 := KA9.out wr Be2.out
            rw [eq] at h9
            injection h9 with h9; injection h9 with h10 h11
            exact ⟨h10, h11⟩)
          obtain ⟨e10, e11⟩ := Rz.out
          subst e10 e11
          clear ri2 len2 eq hcq e1 eZ hcg2 eV eR hbq hbg2 eA6 hb6 ev6 ey6 x6 ri6 ly6 hlc6 Rz
          by_cases hRF : R = F
          · have d3 : ((R : Int) != (F : Int)) = false := by rw [hRF]; simp
            have All2 : Hid (∀ k', k' < k + 1 → rt f (nx g (y.getD k' 0).toNat) = F) := Lib.hid fun k' hk' => by
              by_cases e : k' = k
              · subst e; rw [EZ.out, Int.toNat_natCast, EV.out, ER.out, hRF]
              · exact All.out k' (by omega)
            clear hRF
            go_wp2_with fail
            go_quiet ((go_at_call 56; exact Calls.quiet_of_same (KQ.out _)))
            have Be3 : Hid (∀ q, Below W1.heap.size W1 (wr.drewN q)) := Lib.hid fun q => below_drewN Be1.out q
            go_wp2_with fail
            go_roundw
            case rel => exact ⟨k + 1, by omega, by go_num, All2.out, Be3.out _⟩
            case measure => simp [intOf]; omega
          · have d3 : ((R : Int) != (F : Int)) = true := by rw [bne_iff_ne]; omega
            have No : Hid (¬ Rsp N bl g) := Lib.hid fun hr => hRF (by
              have := rsp_to hP.out hg.out h1.out hr hi2 (k := k) (by rw [Ey.out, Ly.out]; exact hlt2)
              rw [Ey.out, EZ.out, EX.out, Int.toNat_natCast, Int.toNat_natCast, EV.out, EY.out, ER.out, EF.out] at this
              exact this)
            clear hRF
            go_wp2_with fail
            go_quiet ((go_at_call 56; exact Calls.quiet_of_same (KQ.out _)))
            have Be3 : Hid (∀ q, Below w.heap.size w (wr.drewN q)) := Lib.hid fun q => below_drewN Be2.out q
            go_wp2_with fail
            go_ret2
            exact ⟨_, _, _, [], false, rfl, Slc.nil_, .inr ⟨rfl, No.out, rfl⟩, Be3.out _⟩
        · obtain rfl : k = l := by omega
          have Dn2 : Hid (∀ j, j < i + 1 → ∀ k, k < (bl.getD j []).length → rt f (nx g ((bl.getD j []).getD k 0).toNat) = rt f (nx g ((bl.getD j []).getD 0 0).toNat)) := Lib.hid fun j hj k' hk' => by
            by_cases e : j = i
            · subst e
              rw [Ey.out] at hk' ⊢
              rw [All.out k' (by rw [← Ly.out]; exact hk'), All.out 0 hl0]
            · exact Dn.out j (by omega) k' hk'
          have hYl : bi bl Y < n := by rw [← hln.out]; exact hP.out.bi_lt hY
          obtain ⟨K, eK⟩ : ∃ K, bi bl Y = K := ⟨_, rfl⟩
          rw [eK] at hYl
          have h11 : Hid ((bl.getD K []).getD 0 0 = (F : Int)) := Lib.hid (by rw [← eK, ← Hd.out Y hY, EF.out])
          have h12 : Hid (∀ j, j < K → (bl.getD j []).getD 0 0 ≠ (F : Int)) := Lib.hid fun j hj e => by
            have := hP.out.hd_lt K hj (by rw [hln.out]; exact hYl)
            rw [e, h11.out] at this
            omega
          have Tk : Hid ((actL bl g).take (i + 1) = (actL bl g).take i ++ [(K : Int)]) := Lib.hid (by rw [actL_take hi2, Ey.out, EX.out, Int.toNat_natCast, EY.out, eK])
          have Ss2 := Lib.hid (Ss1.out.up Be1.out)
          clear eK c0
          go_wp2_with (go_at_call 66; fail)
          refine (idxHead bx n c K F _ vs bl wr (HA.out.up Be2.out) Bk2.out (by omega) hYl Hne h11 h12).mono ?_
          rintro e w5 ⟨rfl, b5'⟩
          have B5 : Hid (Below w.heap.size w w5) := Lib.hid (btr Be2.out b5')
          have Ss5 := Lib.hid (Ss2.out.up b5')
          have hz5 := B5.out.size
          clear b5'
          go_wp2_with (first | (at_builtin; refine wpList_app1 rfl _ _ rfl w.heap.size I i ci _ rfl (Ss5.out.alloc _) w5.heap.size K rfl (by rw [World.cell?_alloc_at _ _ _ _ rfl]; rfl) (by omega) (by simp; omega) ?_; intro A6 c6 w6 s6 g6))
          have S6 : Hid (Slc w6 w.heap.size A6 (i + 1) c6 ((actL bl g).take (i + 1))) := Lib.hid (by rw [Tk.out]; exact s6)
          have B6 : Hid (Below w.heap.size w w6) := Lib.hid ((B5.out.alloc hz5 _).grown g6 (by simp; omega) (fun j hj => (Ss5.out.lt_ j hj).1))
          clear s6 g6
          go_wp2_with fail
          go_roundw
          case rel => exact ⟨i + 1, c6, A6, by omega, by go_num, rfl, S6.out, Dn2.out, B6.out⟩
          case measure => simp [intOf]; omega
    · obtain rfl : i = n := by omega
      have Rs : Hid (Rsp N bl g) := Lib.hid (rsp_of hP.out hg.out h1.out h2.out fun j hj => Dn.out j (by rw [← hln.out]; exact hj))
      have St : Hid (Slc wr w.heap.size I i ci (actL bl g)) := Lib.hid (by
        have := Ss.out
        rwa [List.take_of_length_le (by rw [actL_len, hln.out]; exact Nat.le_refl _)] at this)
      go_wp2_with fail
      go_ret2
      exact ⟨_, _, _, _, true, rfl, St.out, .inl ⟨rfl, Rs.out, rfl⟩, Be.out⟩
end Go.Proofs.YtedfcljikgmpgaaGreat

/- The program's BlockAction, IsBlockSystem, BlockActionOrder, BlockKernelOrder. Conditions: at most 1048576 lists of at most 1048576 numbers. -/
namespace Go.Proofs.YtedfcljikgmpgaaGreat
open Go.RowKit

set_option maxHeartbeats 4000000 in
set_option maxRecDepth 100000 in
/-- BlockAction. -/
theorem implBlockAction : CtImmMB 26 IsAct := by
  intro a A n c vs xss M m cm us yss w g s _
  have hmm := @run_makeMap Tryz.prog
  have G := Lib.hid g
  have S := Lib.hid s
  have HX := Lib.hid g.rr
  have HY := Lib.hid s.rr
  have hlx : Hid (xss.length = n) := Lib.hid g.rr.lx
  have hn := g.hn
  have hl := Lib.hid g.hl
  clear g s
  go_enter Tryz.func26, Tryz.ntmps26
  rcases hs : gB a xss with _ | _
  · have Fin : Hid (IsAct a xss yss [] false) := Lib.hid (.inr ⟨fun h => (by have := h.1; rw [hs] at this; cases this), rfl, rfl⟩)
    have Hs := Lib.hid hs
    clear hs
    go_wp2_with (first
      | (go_at_call 14; refine (implGS a A n c vs xss w HX.out hn hl).mono ?_; rintro e w1 ⟨rfl, b1⟩; rw [Hs.out]; have B1 := Lib.hid b1; clear b1))
    go_ret2
    exact ⟨_, _, _, _, _, _, rfl, SS.nil_, Fin.out, B1.out⟩
  · obtain ⟨N, rfl, hN1, hN2, hg8, hpm, hok⟩ := gB_pm hs
    have Hs := Lib.hid hs
    have Ok : Hid (∀ g ∈ xss, Pn N g) := Lib.hid hok
    clear hs hpm hok
    go_wp2_with (first
      | (go_at_call 14; refine (implGS N A n c vs xss w HX.out hn hl).mono ?_; rintro e w1 ⟨rfl, b1⟩; rw [Hs.out]; have B1 := Lib.hid b1; clear b1)
      | (go_at_call 49; fail))
    refine (implPart N M m cm us yss w1 (S.out.up B1.out)).mono ?_
    rintro e w2 ⟨ans, rfl, hans, b2⟩
    have B2 : Hid (Below w.heap.size w w2) := Lib.hid (btr B1.out b2)
    have hz2 := B2.out.size
    clear b2
    rcases ans with _ | _
    · have Fin : Hid (IsAct N xss yss [] false) := Lib.hid (.inr ⟨fun h => (by have := hans.2 ⟨by omega, h.2.1⟩; cases this), rfl, rfl⟩)
      clear hans
      go_wp2_with fail
      go_ret2
      exact ⟨_, _, _, _, _, _, rfl, SS.nil_, Fin.out, B2.out⟩
    · have HP : Hid (Prt N yss) := Lib.hid (by have := (hans.1 rfl).2; rwa [Int.toNat_natCast] at this)
      have U0 := Lib.hid (UF.made w2 N)
      have Y0 : Hid (RR (w2.alloc (.map #[] 0)) w2.heap.size M m us yss) := Lib.hid ((HY.out.up B2.out).alloc (Nat.le_refl _) _)
      have Bm : Hid (Below w.heap.size w (w2.alloc (.map #[] 0))) := Lib.hid (B2.out.alloc hz2 _)
      clear hans
      go_wp2_with fail
      refine (ufEach w2.heap.size N w2.heap.size m cm _ _ M us yss _ U0.out Y0.out (Nat.le_refl _) HP hN2).mono ?_
      rintro e w3 ⟨f, D, rfl, u3, ⟨_, h1, h3⟩, g3⟩
      have U3 := Lib.hid u3
      have R1 : Hid (Rf N (bi yss) (rt f)) := Lib.hid h1
      have R2 : Hid (Rf N (rt f) (bi yss)) := Lib.hid (h3 _ (fun u v _ _ e => by rw [rt_empty, rt_empty] at e; rw [e]) (Rf.refl _ _))
      have B3 : Hid (Below w.heap.size w w3) := Lib.hid (Bm.out.grown g3 (by simp; omega) (fun k e => by injection e with e; omega))
      have hz3 := B3.out.size
      generalize w2.heap.size = b at U3 hz2 ⊢
      clear u3 h1 h3 g3 U0 Y0 Bm
      go_wp2_with fail
      go_loopw [9, 30] (fun v iv wr => ∃ (i c' : Nat) (A' : Option Addr) (us' : List SV), i ≤ n ∧ iv = .int .i64 (i : Nat) ∧ v = .slice A' i c' ∧ SS wr w3.heap.size w3.heap.size A' i c' us' ((xss.map (actL yss)).take i) ∧ (∀ j, j < i → Rsp N yss (xss.getD j [])) ∧ Below w3.heap.size w3 wr) (fun _ iv _ => n - (intOf iv).toNat)
      case atStart => exact ⟨0, _, _, [], Nat.zero_le _, rfl, rfl, by rw [List.take_zero]; exact SS.nil_, fun j h => absurd h (Nat.not_lt_zero _), Below.refl _ _⟩
      case round =>
        obtain ⟨i, c', A', us', hi, rfl, rfl, hss, hrs, bel⟩ := hrel
        have Ss := Lib.hid hss
        have Rs := Lib.hid hrs
        have Be := Lib.hid bel
        have Bw : Hid (Below w.heap.size w wr) := Lib.hid (btr B3.out bel)
        have hz4 := bel.size
        clear hss hrs bel
        by_cases hlt : i < n
        · obtain ⟨b5, o5, A5, l, c5, y, rfl, hb5, ev, ey, x1, ri, ly, hlc⟩ := (HX.out.up Bw.out).at_ hlt
          have hyP := Ok.out y (by rw [← ey]; exact getD_memL (by rw [hlx.out]; exact hlt))
          obtain rfl : l = N := by have := hyP.2; omega
          have Ri := Lib.hid ri
          have Ey := Lib.hid ey
          have Yp : Hid (Pn l y) := Lib.hid hyP
          have Tk : Hid ((xss.map (actL yss)).take (i + 1) = (xss.map (actL yss)).take i ++ [actL yss y]) := Lib.hid (by rw [getD_mapL (by rw [hlx.out]; exact hlt), ey])
          have q0 : (0 : Int) ≤ i := by omega
          have q1 : (i : Int) < n := by omega
          clear ev ey ri ly hyP hb5
          go_wp2_with fail
          refine (implImages b l m cm c5 f D A5 M us yss y wr (U3.out.up Be.out) Ri.out Yp (HY.out.up Bw.out) HP R1 R2).mono ?_
          rintro e w6 ⟨A6, n6, c6, zs, ok, rfl, s6, hcase, b6⟩
          have S6 := Lib.hid s6
          have B6 : Hid (Below w3.heap.size w3 w6) := Lib.hid (btr Be.out b6)
          have Ss6 := Lib.hid (Ss.out.up b6)
          have D6 := Lib.hid (lies_dis (w := wr) Ss.out s6.lies (Nat.le_refl _))
          have hz6 := B6.out.size
          clear s6 b6
          rcases hcase with ⟨rfl, hr, rfl⟩ | ⟨rfl, hr, rfl⟩
          · have Rs6 : Hid (∀ j, j < i + 1 → Rsp l yss (xss.getD j [])) := Lib.hid fun j hj => by
              by_cases e : j = i
              · subst e; rw [Ey.out]; exact hr
              · exact Rs.out j (by omega)
            clear hr
            go_wp2_with (at_builtin; go_must (refine wpList_app2_at rfl _ _ rfl rfl (Ss6.out.alloc _) w6.heap.size A6 n6 c6 (actL yss y) rfl (by rw [World.cell?_alloc_at _ _ _ _ rfl]; rfl) ((S6.out.mono hz4).alloc _) D6.out (by omega) (by simp; omega) ?_); intro A9 c9 w9 s9 g9 h9)
            have S9 : Hid (SS w9 w3.heap.size w3.heap.size A9 (i + 1) c9 (us' ++ [(A6, n6, c6)]) ((xss.map (actL yss)).take (i + 1))) := Lib.hid (by rw [Tk.out]; exact s9)
            have B9 : Hid (Below w3.heap.size w3 w9) := Lib.hid ((B6.out.alloc (by omega) _).grown g9 (by simp; omega) (fun q hq => (Ss6.out.lt_ q hq).1))
            clear s9 g9 h9
            go_wp2_with fail
            go_roundw
            case rel => exact ⟨i + 1, c9, A9, _, by omega, by go_num, rfl, S9.out, Rs6.out, B9.out⟩
            case measure => simp [intOf]; omega
          · have Fin : Hid (IsAct l xss yss [] false) := Lib.hid (.inr ⟨fun h => hr (by
              have := h.2.2 y (by rw [← Ey.out]; exact getD_memL (by rw [hlx.out]; exact hlt))
              rwa [Int.toNat_natCast] at this), rfl, rfl⟩)
            have Bf : Hid (Below w.heap.size w w6) := Lib.hid (btr B3.out B6.out)
            clear hr
            go_wp2_with fail
            go_ret2
            exact ⟨_, _, _, _, _, _, rfl, SS.nil_, Fin.out, Bf.out⟩
        · obtain rfl : i = n := by omega
          have Fin : Hid (IsAct N xss yss (xss.map (actL yss)) true) := Lib.hid (.inl ⟨⟨Hs.out, by rw [Int.toNat_natCast]; exact HP.out, fun g hg => by
            rw [Int.toNat_natCast]
            obtain ⟨j, hj, e⟩ := List.mem_iff_getElem.1 hg
            have := Rs.out j (by rw [← hlx.out]; exact hj)
            rw [getD_L hj, e] at this
            exact this⟩, rfl, rfl⟩)
          have Sm : Hid (SS wr w.heap.size w.heap.size A' i c' us' (xss.map (actL yss))) := Lib.hid (by
            have h3 := Ss.out.mono hz3 hz3
            rwa [List.take_of_length_le (by rw [List.length_map, hlx.out]; exact Nat.le_refl _)] at h3)
          go_wp2_with fail
          go_ret2
          exact ⟨_, _, _, us', _, _, rfl, Sm.out, Fin.out, Bw.out⟩

set_option maxHeartbeats 1000000 in
/-- IsBlockSystem. -/
theorem implIsBlockSystem : CtImmB 11 IsBsy := by
  intro a A n c vs xss M m cm us yss w g s ha
  have G := Lib.hid g
  have S := Lib.hid s
  clear g s
  go_enter Tryz.func11, Tryz.ntmps11
  go_wp2_with fail
  refine (implBlockAction a A n c vs xss M m cm us yss w G.out S.out ha).mono ?_
  rintro e w1 ⟨A1, m1, c1, us1, l1, ok, rfl, s1, r1, b1⟩
  have B1 := Lib.hid b1
  have Fin : Hid (IsBsy a xss yss ok) := Lib.hid (by
    rcases r1 with ⟨h, _, rfl⟩ | ⟨h, _, rfl⟩
    · exact ⟨fun _ => h, fun _ => rfl⟩
    · exact ⟨fun e => (by cases e), fun e => absurd e h⟩)
  clear s1 r1 b1
  go_wp2_with fail
  go_ret
  exact ⟨_, rfl, Fin.out, B1.out⟩


end Go.Proofs.YtedfcljikgmpgaaGreat

/- The walk of the law FnPrimitivity: it returns true at every input, and writes nothing that was there. No condition. -/
namespace Go.Proofs.YtedfcljikgmpgaaGreat
open Go.RowKit

section
variable {w : World} {base n c : Nat} {A : Option Addr} {vs : List SV} {wss : List (List SV)} {rg : List (Nat × Nat)} {ls : List (List (List Int))} {a : Int} {gs : List (List Int)}
/-- What the bounds say of the rows in memory. -/
theorem S3.bndM (h : S3 w base A n c vs wss rg ls) (hm : IsMsy a gs ls) :
    n ≤ 20 ∧ ∀ i, i < n → (ls.getD i []).length ≤ 20 ∧ ∀ t, t < (ls.getD i []).length → ((ls.getD i []).getD t []).length ≤ 20 := by
  have hl := hm.len
  have hmem : ∀ i, i < n → ls.getD i [] ∈ ls := fun i hi => by
    rw [List.getD_eq_getElem?_getD, List.getElem?_eq_getElem (by rw [h.lx]; exact hi)]; exact List.getElem_mem _
  refine ⟨by have := h.lx; omega, fun i hi => ⟨(hl.2 _ (hmem i hi)).1, fun t ht => (hl.2 _ (hmem i hi)).2 _ ?_⟩⟩
  generalize ls.getD i [] = y at ht
  rw [List.getD_eq_getElem?_getD, List.getElem?_eq_getElem ht]; exact List.getElem_mem _
/-- Each minimal block system is a block system. -/
theorem IsMsy.bs (hm : IsMsy a gs ls) {y : List (List Int)} (hy : y ∈ ls) : BS a gs y := by
  rcases hm with ⟨hg, hex, rfl⟩ | ⟨_, rfl⟩
  · obtain ⟨k, h1, h2, rfl, _⟩ := sysL_mem _ hy
    obtain ⟨N, rfl, _⟩ := gB_pm hg
    rw [Int.toNat_natCast] at hex h2 ⊢
    obtain ⟨r, hr⟩ := hex k h1 h2
    rw [← mnS_eq hr]
    exact hr.bs hg
  · cases hy
/-- Primitive: transitive and with no minimal block system. -/
theorem IsMsy.pri (hm : IsMsy a gs ls) {b : Bool} (hb : IsPri a gs b) : b = (transB a gs && decide (ls.length = 0)) := by
  unfold IsPri at hb
  rw [Bool.eq_iff_iff, hb, Bool.and_eq_true, decide_eq_true_eq]
  constructor
  · rintro ⟨ht, h⟩
    refine ⟨ht, ?_⟩
    rcases hm with ⟨_, _, rfl⟩ | ⟨_, rfl⟩
    · rw [(sysL_nil _).2 h]; rfl
    · rfl
  · rintro ⟨ht, h⟩
    refine ⟨ht, ?_⟩
    rcases hm with ⟨_, _, rfl⟩ | ⟨e, _⟩
    · exact (sysL_nil _).1 (List.length_eq_zero_iff.1 h)
    · rw [transB_gB ht] at e; cases e
end

set_option maxHeartbeats 8000000 in
set_option maxRecDepth 100000 in
theorem lawPrimitivity (A : Option Addr) (cap len : Nat) (w : World) (hb : SB w w.heap.size A len) :
    Calls Tryz.prog 3 #[.slice A len cap] w fun e w' => e = .returned (.bool true) ∧ Below w.heap.size w w' := by
  by_cases hl : len ≤ 4096
  · go_enter Tryz.func3, Tryz.ntmps3
    go_wp2_with fail
    refine (bigF4 A len cap w hl).mono ?_
    rintro e w0 ⟨rfl, rfl⟩
    go_wp2_with fail
    refine (drawPri len cap A w hb hl).mono ?_
    rintro e w1 ⟨z, A1, m, c, vs, xss, rfl, hB, gi, b1⟩
    have G1 := Lib.hid gi
    have HB := Lib.hid hB
    have B1 := Lib.hid b1
    clear gi hB b1 hb
    go_wp2_with fail
    refine (implMsy z A1 m c vs xss w1 G1.out).mono ?_
    rintro e w2 ⟨A2, n2, c2, us2, ws2, rg2, z2, rfl, s2, _, r2, b2⟩
    have hn2 := (s2.bndM r2).1
    have Bd := Lib.hid (s2.bndM r2).2
    have S2 := Lib.hid s2.rr
    have R2 := Lib.hid r2
    have G2 := Lib.hid (G1.out.up b2)
    have B2 : Hid (Below w.heap.size w w2) := Lib.hid (btr B1.out b2)
    clear s2 r2 b2 G1
    go_wp2_with fail
    refine (specMsy z A1 m c vs xss w2 G2.out HB.out).mono ?_
    rintro e w3 ⟨A3, n3, c3, us3, ws3, rg3, z3, rfl, s3, _, r3, b3⟩
    have e3 := R2.out.uniq r3
    subst e3
    obtain rfl : n2 = n3 := by rw [← S2.out.lx, ← s3.lx]
    have S3_ := Lib.hid s3.rr
    have S2' := Lib.hid (S2.out.up b3)
    have G3 := Lib.hid (G2.out.up b3)
    have B3 : Hid (Below w.heap.size w w3) := Lib.hid (btr B2.out b3)
    have Ln : Hid (z2.length = n2) := Lib.hid s3.lx
    clear s3 r3 b3 G2 S2
    go_wp2_with fail
    refine (implIsPrimitive z A1 m c vs xss w3 G3.out HB.out).mono ?_
    rintro e w4 ⟨b, rfl, r4, b4⟩
    have Eb := Lib.hid (R2.out.pri r4)
    have G4 := Lib.hid (G3.out.up b4)
    have I4 := Lib.hid (S2'.out.up b4)
    have W4 := Lib.hid (S3_.out.up b4)
    have B4 : Hid (Below w.heap.size w w4) := Lib.hid (btr B3.out b4)
    clear r4 b4 G3 S2' S3_
    go_wp2_with fail
    refine (specIsTransitive z A1 m c vs xss w4 G4.out.rr G4.out.hn (Lib.hid G4.out.hl) HB.out).mono ?_
    rintro e w5 ⟨rfl, b5⟩
    have G5 := Lib.hid (G4.out.up b5)
    have I5 := Lib.hid (I4.out.up b5)
    have W5 := Lib.hid (W4.out.up b5)
    have B5 : Hid (Below w.heap.size w w5) := Lib.hid (btr B4.out b5)
    clear b5 G4 I4 W4
    obtain ⟨tb, etb⟩ : ∃ tb, transB z xss = tb := ⟨_, rfl⟩
    have Eb2 : Hid (b = (tb && decide ((n2 : Int) = 0))) := Lib.hid (by rw [Eb.out, etb, Ln.out]; congr 1; simp)
    rw [etb]
    clear etb Eb
    have hne : ((n2 : Int) != (n2 : Int)) = false := by simp
    have Sys : Hid (∀ i, i < n2 → BS z xss (z2.getD i [])) := Lib.hid fun i hi => R2.out.bs (by
      rw [List.getD_eq_getElem?_getD, List.getElem?_eq_getElem (by rw [Ln.out]; exact hi)]; exact List.getElem_mem _)
    have Cs : tb = false ∧ b = false ∨ tb = true ∧ b = true ∧ ((n2 : Int) == 0) = true ∨ tb = true ∧ b = false ∧ ((n2 : Int) == 0) = false := by
      rw [Eb2.out]
      have e : decide ((n2 : Int) = 0) = ((n2 : Int) == 0) := by rw [Bool.eq_iff_iff, decide_eq_true_eq, beq_iff_eq]
      rw [e]; cases tb <;> cases ((n2 : Int) == 0) <;> simp
    clear Eb2
    rcases Cs with ⟨rfl, rfl⟩ | ⟨rfl, rfl, hz0⟩ | ⟨rfl, rfl, hz0⟩
    all_goals
      go_wp2_with fail
      go_loopw [7] (fun i wr => ∃ k : Nat, k ≤ n2 ∧ i = .int .i64 (k : Nat) ∧ Below w5.heap.size w5 wr) (fun i _ => n2 - (intOf i).toNat)
      case atStart => exact ⟨0, Nat.zero_le _, rfl, Below.refl _ _⟩
      case round =>
        obtain ⟨k, hk, rfl, bel⟩ := hrel
        have Bw := Lib.hid bel
        clear bel
        by_cases hlt : k < n2
        · obtain ⟨b, off, A6, l6, c6, u6, y6, rfl, hb6, ev6, ey6, x6, r6⟩ := (I5.out.up Bw.out).at_ hlt
          obtain ⟨b', off', A7, l7, c7, u7, y7, rfl, hb7, ev7, ey7, x7, r7⟩ := (W5.out.up Bw.out).at_ hlt
          obtain rfl : y6 = y7 := ey6.symm.trans ey7
          have hl6 := Bd.out k hlt
          have hS6 := Sys.out k hlt
          rw [ey6, r6.lx] at hl6
          rw [ey6] at hS6
          have K1 : Hid (∀ W, Below wr.heap.size wr W → Calls Tryz.prog 10 #[.slice A6 l6 c6, .slice A7 l7 c7] W fun e w' => e = .returned (.bool true) ∧ Below W.heap.size W w') := Lib.hid fun W bW =>
            likeRR_same A6 A7 l6 c6 l7 c7 u6 u7 y6 W (r6.up bW) (r7.up bW) (by omega) (Lib.hid fun i hi => Nat.le_trans (hl6.2 i hi) (by decide))
          have K2 : Hid (∀ W, Below wr.heap.size wr W → Calls Tryz.prog 11 #[.int .i64 z, .slice A1 m c, .slice A6 l6 c6] W fun e w' => e = .returned (.bool true) ∧ Below W.heap.size W w') := Lib.hid fun W bW =>
            (implIsBlockSystem z A1 m c vs xss A6 l6 c6 u6 y6 W ((G5.out.up Bw.out).up bW) ⟨r6.up bW, by omega, fun i hi => by rw [← r6.lens i hi]; exact Nat.le_trans (hl6.2 i hi) (by decide)⟩ HB.out).mono fun e w' ⟨v, he, hv, hb⟩ => ⟨by rw [he, hv.2 hS6], hb⟩
          have hb6' := Lib.hid hb6
          clear ev6 ey6 r6 ev7 ey7 r7 hl6 hS6 hb6
          have p1 : (0 : Int) ≤ k := by omega
          have p2 : (k : Int) < n2 := by omega
          go_wp2_with fail
          go_cut [65] from 46 to 65 (fun v wx => v = .bool false ∧ Below wr.heap.size wr wx)
          case first =>
            go_region_law ((go_simp; go_wp2_with (first
              | (go_at_call 10; (first | refine (K1.out wr.drew ⟨rfl, rfl, rfl, Nat.le_refl _, fun _ _ => rfl⟩).mono ?_ | refine (K1.out wr (Below.refl _ _)).mono ?_); rintro e w8 ⟨rfl, b8⟩
                 have b8' : Below wr.heap.size wr w8 := ⟨b8.os, b8.tape, b8.output, b8.size, b8.block⟩
                 have x8 : w8.cell? ⟨b, off + k, none⟩ = some (.slice A6 l6 c6) := (b8'.cell (p := ⟨b, off + k, none⟩) hb6'.out).trans x6
                 have B8 := Lib.hid b8'
                 clear b8 b8')
              | (go_at_call 11; (first | refine (K2.out w8 B8.out).mono ?_ | refine (K2.out w8.drew (below_drew1 B8.out)).mono ?_); rintro e w9 ⟨rfl, b9⟩))))
            all_goals (go_wp2_with fail; go_meet; exact ⟨rfl, (by first | exact btr B8.out b9 | exact btr (below_drew1 B8.out) b9)⟩)
          case rest =>
            obtain ⟨rfl, bx⟩ := hcut
            have Bx : Hid (Below w5.heap.size w5 wc) := Lib.hid (btr Bw.out bx)
            clear bx
            go_wp2_with fail
            go_roundw
            case rel => exact ⟨k + 1, by omega, by go_num, Bx.out⟩
            case measure => simp [intOf]; omega
        · have hkn : k = n2 := by omega
          subst hkn
          go_wp2_with fail
          go_ret
          exact ⟨rfl, btr B5.out Bw.out⟩
  · go_enter Tryz.func3, Tryz.ntmps3
    go_wp2_with fail
    refine (bigT4 A len cap w (by omega)).mono ?_
    rintro e w0 ⟨rfl, rfl⟩
    go_wp2_with fail
    go_ret
    exact ⟨rfl, Below.refl _ _⟩
end Go.Proofs.YtedfcljikgmpgaaGreat

/- The law FnPrimitivity and what its frame says of the bytes. Conditions: none beyond those of the texts imported. -/
namespace Go.Proofs.YtedfcljikgmpgaaGreat
open Go.RowKit
theorem nmdPrimitivity (A : Option Addr) (cap len : Nat) (w : World) (hb : SB w w.heap.size A len) :
    Calls Tryz.prog 3 #[.slice A len cap] w fun e w' => e = .returned (.bool true) ∧ Below w.heap.size w w' :=
  lawPrimitivity A cap len w hb
end Go.Proofs.YtedfcljikgmpgaaGreat
