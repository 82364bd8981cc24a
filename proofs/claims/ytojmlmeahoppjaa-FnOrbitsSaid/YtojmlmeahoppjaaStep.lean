/- Rows of pairs of a number and a slice: the program's steps and arrivals. No condition. -/
import Derived.Test.YtojmlmeahoppjaaWordM
import Derived.Test.YtojmlmeahoppjaaSSx
import Derived.Maps.AppendAt
namespace Go.Proofs.Ytojmlmeahoppjaa
open Go.RowKit

abbrev PV := Int × SV
def pd0 : PV := (0, sd0)
/-- The cells of a list of pairs. -/
def fl : List PV → List Value
  | [] => []
  | d :: ds => .int .i64 d.1 :: sval d.2 :: fl ds
theorem fl_len (ds : List PV) : (fl ds).length = 2 * ds.length := by
  induction ds with
  | nil => rfl
  | cons d ds ih => simp [fl, ih]; omega
theorem fl_app (ds es : List PV) : fl (ds ++ es) = fl ds ++ fl es := by
  induction ds with
  | nil => rfl
  | cons d ds ih => simp [fl, ih]
theorem fl_fst : ∀ (ds : List PV) (j : Nat), j < ds.length → (fl ds)[2 * j]? = some (.int .i64 (ds.getD j pd0).1)
  | [], j, h => by simp at h
  | d :: ds, 0, h => rfl
  | d :: ds, j + 1, h => by
    have := fl_fst ds j (by simpa using h)
    rw [show 2 * (j + 1) = 2 * j + 1 + 1 from by omega]
    simpa [fl] using this
theorem fl_snd : ∀ (ds : List PV) (j : Nat), j < ds.length → (fl ds)[2 * j + 1]? = some (sval (ds.getD j pd0).2)
  | [], j, h => by simp at h
  | d :: ds, 0, h => rfl
  | d :: ds, j + 1, h => by
    have := fl_snd ds j (by simpa using h)
    rw [show 2 * (j + 1) + 1 = 2 * j + 1 + 1 + 1 from by omega]
    simpa [fl] using this
theorem fl_one (ds : List PV) : ∀ u ∈ fl ds, u.oneCell' = true := by
  induction ds with
  | nil => intro u h; cases h
  | cons d ds ih =>
    intro u h
    rcases List.mem_cons.1 h with rfl | h
    · rfl
    · rcases List.mem_cons.1 h with rfl | h
      · rfl
      · exact ih u h

theorem infoT : (Try.prog.info? 89).map (fun i => (i.zero, i.size, i.bytes)) = some (some (.agg #[.int .i64 0, .slice none 0 0]), 2, 32) := by kernel_rfl
theorem infoA : (Try.prog.info? 86).map (fun i => (i.zero, i.size, i.bytes)) = some (some (.agg #[.int .i64 0, .slice none 0 0]), 2, 32) := by kernel_rfl

/-- A row of numbers and slices that is only read; the slices read as lists. -/
structure TT (w : World) (B : Nat) (A : Option Addr) (n : Nat) (ds : List PV) (ps : List Stp) : Prop where
  ld : ds.length = n
  lp : ps.length = n
  cells : 0 < n → ∃ b off, A = some ⟨b, off, none⟩ ∧ b < B ∧ ∀ j, j < n → w.cell? ⟨b, off + 2 * j, none⟩ = some (.int .i64 (ds.getD j pd0).1) ∧ w.cell? ⟨b, off + 2 * j + 1, none⟩ = some (sval (ds.getD j pd0).2)
  fst : ∀ j, j < n → (ds.getD j pd0).1 = (ps.getD j (0, [])).1
  rows : ∀ j, j < n → RI w B (ds.getD j pd0).2.1 (ps.getD j (0, [])).2
  lens : ∀ j, j < n → (ps.getD j (0, [])).2.length = (ds.getD j pd0).2.2.1
theorem TT.keep {w w' : World} {B n : Nat} {A : Option Addr} {ds : List PV} {ps : List Stp} (h : TT w B A n ds ps) (hk : ∀ p : Addr, p.block < B → w'.cell? p = w.cell? p) : TT w' B A n ds ps :=
  ⟨h.ld, h.lp, fun hn => by
    obtain ⟨b, off, e, hb, hc⟩ := h.cells hn
    exact ⟨b, off, e, hb, fun j hj => ⟨(hk ⟨b, off + 2 * j, none⟩ hb).trans (hc j hj).1, (hk ⟨b, off + 2 * j + 1, none⟩ hb).trans (hc j hj).2⟩⟩, h.fst, fun j hj => (h.rows j hj).keep hk, h.lens⟩
theorem TT.below {w w' : World} {B B' n : Nat} {A : Option Addr} {ds : List PV} {ps : List Stp} (h : TT w B A n ds ps) (hb : Below B' w w') (hB : B ≤ B') : TT w' B A n ds ps := h.keep fun _ hp => hb.cell (by omega)

/-- A slice that reads as a list: of blocks below B, or of the call's own. -/
def RK (w : World) (B base : Nat) (d : SV) (xs : List Int) : Prop := xs.length = d.2.1 ∧ (RI w B d.1 xs ∨ Slc w base d.1 d.2.1 d.2.2 xs)
/-- The steps while they are made. -/
structure TO (w : World) (B base : Nat) (A : Option Addr) (n c : Nat) (ds : List PV) (ps : List Stp) : Prop where
  own : w.ownsRow base 89 2 (.slice A n c) n (fl ds)
  ld : ds.length = n
  lp : ps.length = n
  fst : ∀ j, j < n → (ds.getD j pd0).1 = (ps.getD j (0, [])).1
  row : ∀ j, j < n → RK w B base (ds.getD j pd0).2 (ps.getD j (0, [])).2
section
variable {w w' : World} {B base n c : Nat} {A : Option Addr} {ds : List PV} {ps : List Stp} {d : SV} {xs : List Int}
theorem RK.up (h : RK w B base d xs) (hb : Below w.heap.size w w') (hB : B ≤ w.heap.size) : RK w' B base d xs := by
  refine ⟨h.1, ?_⟩
  rcases h.2 with h | h
  · exact .inl (h.below hb hB)
  · exact .inr (h.below hb (Nat.le_refl _))
/-- An int64's row never lies in a row of steps. -/
theorem apart_step {a n' c' : Nat} {A' : Option Addr} {base' : Nat} {v : Value} {ys : List Value} (h : Slc w base' A' n' c' xs) (ho : w.ownsRow base 89 2 v a ys) :
    (Value.slice A' n' c').ownBlock = none ∨ (Value.slice A' n' c').ownBlock ≠ v.ownBlock := by
  rcases h.2.2 with ⟨e, _⟩ | ⟨g, cap, cur, e, hb, hg, _⟩
  · left; rw [e]; rfl
  · right
    rw [e]
    rcases ho.2 with ⟨rfl, _⟩ | ⟨g', cap', cur', rfl, hb', hg', _⟩
    · simp [Value.ownBlock]
    · simp only [Value.ownBlock]
      intro e2
      injection e2 with e2
      subst e2
      rw [hg] at hg'
      injection hg' with hg'
      injection hg' with _ ht
      exact absurd ht (by decide)
theorem apart_arr {a n' c' : Nat} {A' : Option Addr} {base' : Nat} {v : Value} {ys : List Value} (h : Slc w base' A' n' c' xs) (ho : w.ownsRow base 86 2 v a ys) :
    (Value.slice A' n' c').ownBlock = none ∨ (Value.slice A' n' c').ownBlock ≠ v.ownBlock := by
  rcases h.2.2 with ⟨e, _⟩ | ⟨g, cap, cur, e, hb, hg, _⟩
  · left; rw [e]; rfl
  · right
    rw [e]
    rcases ho.2 with ⟨rfl, _⟩ | ⟨g', cap', cur', rfl, hb', hg', _⟩
    · simp [Value.ownBlock]
    · simp only [Value.ownBlock]
      intro e2
      injection e2 with e2
      subst e2
      rw [hg] at hg'
      injection hg' with hg'
      injection hg' with _ ht
      exact absurd ht (by decide)
theorem TO.nil_ : TO w B base none 0 0 [] [] := ⟨World.ownsRow_nil _ _ _ _, rfl, rfl, fun j h => absurd h (by omega), fun j h => absurd h (by omega)⟩
theorem owns_up {e : TypeId} {size : Nat} {v : Value} {k : Nat} {ys : List Value} (h : w.ownsRow base e size v k ys) (hb : Below w.heap.size w w') : w'.ownsRow base e size v k ys := by
  refine ⟨h.1, ?_⟩
  rcases h.2 with hn | ⟨g, cap, cur, e1, hb', hg, rest⟩
  · exact .inl hn
  · exact .inr ⟨g, cap, cur, e1, hb', by rw [hb.block g (Array.getElem?_eq_some_iff.1 hg).1]; exact hg, rest⟩
theorem TO.up (h : TO w B base A n c ds ps) (hb : Below w.heap.size w w') (hB : B ≤ w.heap.size) : TO w' B base A n c ds ps :=
  ⟨owns_up h.own hb, h.ld, h.lp, h.fst, fun j hj => (h.row j hj).up hb hB⟩
theorem getD_app' {α : Type} (l l' : List α) (d : α) (i : Nat) (h : i < l.length) : (l ++ l').getD i d = l.getD i d := getD_app l l' d i h
theorem getD_app2 {α : Type} (l l' : List α) (d : α) (i : Nat) (h : l.length ≤ i) : (l ++ l').getD i d = l'.getD (i - l.length) d := by
  rw [List.getD_eq_getElem?_getD, List.getElem?_append_right h, ← List.getD_eq_getElem?_getD]
theorem TO.tt (h : TO w B base A n c ds ps) (hB : B ≤ w.heap.size) : TT w w.heap.size A n ds ps := by
  refine ⟨h.ld, h.lp, fun hn => ?_, h.fst, fun j hj => ?_, fun j hj => (h.row j hj).1⟩
  · rcases h.own.2 with ⟨e, h0⟩ | ⟨g, cap, cur, e, hb, hg, _⟩
    · omega
    · injection e with e1 e2 e3
      subst e1
      refine ⟨g, 0, rfl, (Array.getElem?_eq_some_iff.1 hg).1, fun j hj => ⟨?_, ?_⟩⟩
      · rw [Nat.zero_add, h.own.cellAt _ (by omega)]
        exact fl_fst ds j (by rw [h.ld]; exact hj)
      · rw [Nat.zero_add, h.own.cellAt _ (by omega)]
        exact fl_snd ds j (by rw [h.ld]; exact hj)
  · rcases (h.row j hj).2 with h1 | h1
    · exact h1.more hB
    · exact h1.ri_
end

/-- append of two steps onto a row of the call's own. -/
theorem wpList_appT {w : World} {B base n c : Nat} {A : Option Addr} {ds : List PV} {ps : List Stp} {ops : Array Oper} {rest : List Oper} {o : Oper} {a : Act} {Q : Exit → Act → World → Prop} (hgd : o.guard = none) (s x : Operand)
    (ho : o.op = .call { callee := .builtin .append, args := #[s, x], argTypes := #[65, 65] })
    (hs : a.eval s = .slice A n c) (hto : TO w B base A n c ds ps) (g : Nat) (es : List PV) (qs : List Stp) (hx : a.eval x = .slice (some ⟨g, 0, none⟩) 2 2) (he : es.length = 2) (hq : qs.length = 2)
    (hcell : ∀ j, j < 4 → w.cell? ⟨g, j, none⟩ = (fl es)[j]?) (hfst : ∀ j, j < 2 → (es.getD j pd0).1 = (qs.getD j (0, [])).1) (hrow : ∀ j, j < 2 → RK w B base (es.getD j pd0).2 (qs.getD j (0, [])).2) (hBb : B ≤ base) (hn : n ≤ 1000000) (hbase : base ≤ w.heap.size)
    (h : ∀ A' c' w', TO w' B base A' (n + 2) c' (ds ++ es) (ps ++ qs) → w.grownBy w' (Value.slice A n c).ownBlock → wpList Try.prog ops Q rest (a.put o.dst (.slice A' (n + 2) c')) w') : wpList Try.prog ops Q (o :: rest) a w := by
  obtain ⟨i0, hi, hz0, hz1, hz2⟩ := info_parts infoT
  refine wpList_append_own (w := w) hgd s x 65 ho base 89 i0 _ 2 32 Try.underlying65 hi hz0 hz1 hz2 rfl (by decide) _ n _ hs hto.own ⟨g, 0, none⟩ 2 2 (fl es) hx (by rw [fl_len, he]) ?_ (fl_one es) ?_ (by omega) hbase ?_
  · intro j u hj
    have hj4 : j < 4 := by
      have := (List.getElem?_eq_some_iff.1 hj).1
      rw [fl_len, he] at this; exact this
    have e : (⟨g, 0, none⟩ : Addr).add j = ⟨g, j, none⟩ := by unfold Addr.add; split <;> simp_all
    rw [e, hcell j hj4]; exact hj
  · unfold maxLen; omega
  · intro v' w' hown' hg _
    have hform : ∃ A' c', v' = .slice A' (n + 2) c' := by
      rcases hown'.2 with ⟨rfl, h0⟩ | ⟨g', cap, cur, rfl, _⟩
      · omega
      · exact ⟨_, _, rfl⟩
    obtain ⟨A', c', rfl⟩ := hform
    have keep : ∀ d xs, RK w B base d xs → RK w' B base d xs := fun d xs hr => by
      refine ⟨hr.1, ?_⟩
      rcases hr.2 with h1 | h1
      · refine .inl (h1.grown hg (by omega) fun g' hg' => ?_)
        have := (World.ownsRow.lt hto.own g' hg').1
        omega
      · exact .inr (h1.kept hg (apart_step h1 hto.own))
    refine h A' c' w' ⟨by rw [fl_app]; exact hown', by rw [List.length_append, hto.ld, he], by rw [List.length_append, hto.lp, hq], fun j hj => ?_, fun j hj => ?_⟩ hg
    · by_cases e : j < n
      · rw [getD_app _ _ _ _ (by rw [hto.ld]; exact e), getD_app _ _ _ _ (by rw [hto.lp]; exact e)]; exact hto.fst j e
      · rw [getD_app2 _ _ _ _ (by rw [hto.ld]; omega), getD_app2 _ _ _ _ (by rw [hto.lp]; omega), hto.ld, hto.lp]; exact hfst _ (by omega)
    · by_cases e : j < n
      · rw [getD_app _ _ _ _ (by rw [hto.ld]; exact e), getD_app _ _ _ _ (by rw [hto.lp]; exact e)]; exact keep _ _ (hto.row j e)
      · rw [getD_app2 _ _ _ _ (by rw [hto.ld]; omega), getD_app2 _ _ _ _ (by rw [hto.lp]; omega), hto.ld, hto.lp]; exact keep _ _ (hrow _ (by omega))

/-- The arrivals: a row of the call's own of numbers and slices of the call's own. -/
structure AR (w : World) (base : Nat) (A : Option Addr) (n c : Nat) (ds : List PV) (f : List Arr) : Prop where
  own : w.ownsRow base 86 2 (.slice A n c) n (fl ds)
  ld : ds.length = n
  lf : f.length = n
  fst : ∀ j, j < n → (ds.getD j pd0).1 = ((f.getD j ar0).1 : Int)
  row : ∀ j, j < n → Slc w base (ds.getD j pd0).2.1 (ds.getD j pd0).2.2.1 (ds.getD j pd0).2.2.2 (f.getD j ar0).2
section
variable {w w' : World} {base n c : Nat} {A : Option Addr} {ds : List PV} {f : List Arr}
theorem AR.up (h : AR w base A n c ds f) (hb : Below w.heap.size w w') : AR w' base A n c ds f :=
  ⟨owns_up h.own hb, h.ld, h.lf, h.fst, fun j hj => (h.row j hj).below hb (Nat.le_refl _)⟩
theorem AR.at_ (h : AR w base A n c ds f) {i : Nat} (hi : i < n) : ∃ g, A = some ⟨g, 0, none⟩ ∧ base ≤ g ∧ g < w.heap.size ∧ w.cell? ⟨g, 2 * i, none⟩ = some (.int .i64 ((f.getD i ar0).1 : Nat)) ∧ w.cell? ⟨g, 2 * i + 1, none⟩ = some (sval (ds.getD i pd0).2) := by
  rcases h.own.2 with ⟨e, h0⟩ | ⟨g, cap, cur, e, hb, hg, _⟩
  · omega
  · injection e with e1 e2 e3
    subst e1
    refine ⟨g, rfl, hb, (Array.getElem?_eq_some_iff.1 hg).1, ?_, ?_⟩
    · rw [h.own.cellAt _ (by omega), ← h.fst i hi]
      exact fl_fst ds i (by rw [h.ld]; exact hi)
    · rw [h.own.cellAt _ (by omega)]
      exact fl_snd ds i (by rw [h.ld]; exact hi)
/-- A block that is no row of arrivals: any block of other elements. -/
theorem AR.lt_ (h : AR w base A n c ds f) : ∀ k, (Value.slice A n c).ownBlock = some k → base ≤ k ∧ k < w.heap.size := World.ownsRow.lt h.own
/-- Kept where a block turned that is none of its own. -/
theorem AR.kept {row : Option Nat} (h : AR w base A n c ds f) (hg : w.grownBy w' row) (hr : ∀ g, row = some g → g < base) : AR w' base A n c ds f := by
  have ne : ∀ (v : Value), (∀ k, v.ownBlock = some k → base ≤ k) → v.ownBlock = none ∨ v.ownBlock ≠ row := fun v hv => by
    rcases e : v.ownBlock with _ | k
    · exact .inl rfl
    · exact .inr fun e2 => by have := hv k e; have := hr k e2.symm; omega
  exact ⟨World.ownsRow.kept h.own hg (ne _ fun k e => (h.lt_ k e).1), h.ld, h.lf, h.fst, fun j hj => (h.row j hj).kept hg (ne _ fun k e => ((h.row j hj).lt_ k e).1)⟩
theorem AR.drewN (h : AR w base A n c ds f) (k : Nat) : AR (w.drewN k) base A n c ds f := ⟨h.own, h.ld, h.lf, h.fst, fun j hj => (h.row j hj).drewN k⟩
theorem AR.alloc (h : AR w base A n c ds f) (o : Obj) : AR (w.alloc o) base A n c ds f := ⟨World.ownsRow.alloc h.own o, h.ld, h.lf, h.fst, fun j hj => (h.row j hj).alloc o⟩
theorem AR.lit1 (w : World) (base : Nat) (x : Nat) (hb : base ≤ w.heap.size) : AR (w.alloc (.cells #[.int .i64 (x : Nat), .slice none 0 0] 86)) base (some ⟨w.heap.size, 0, none⟩) 1 1 [((x : Int), (none, 0, 0))] [(x, [])] :=
  ⟨World.ownsRow_lit (size := 2) w #[.int .i64 (x : Nat), .slice none 0 0] 1 hb (by unfold maxLen; omega) rfl, rfl, rfl, fun j hj => by
    obtain rfl : j = 0 := by omega
    rfl, fun j hj => by
    obtain rfl : j = 0 := by omega
    exact Slc.nil_⟩
end
/-- append of one arrival, as one step of a region that draws. -/
theorem step_appA {w : World} {base n c : Nat} {A : Option Addr} {ds : List PV} {f : List Arr} {ops : Array Oper} {o : Oper} {a : Act} {K : Act → World → Prop} {Q : Exit → Act → World → Prop} {E : Prop} (hgd : o.guard = none) (s x : Operand)
    (ho : o.op = .call { callee := .builtin .append, args := #[s, x], argTypes := #[87, 87] })
    (hs : a.eval s = .slice A n c) (har : AR w base A n c ds f) (g v : Nat) (d : SV) (ws : List Int) (hx : a.eval x = .slice (some ⟨g, 0, none⟩) 1 1)
    (hc0 : w.cell? ⟨g, 0, none⟩ = some (.int .i64 (v : Nat))) (hc1 : w.cell? ⟨g, 1, none⟩ = some (sval d)) (hrow : Slc w base d.1 d.2.1 d.2.2 ws) (hn : n ≤ 1000000) (hbase : base ≤ w.heap.size)
    (h : ∀ A' c' w', AR w' base A' (n + 1) c' (ds ++ [((v : Int), d)]) (f ++ [(v, ws)]) → w.grownBy w' (Value.slice A n c).ownBlock → ((Value.slice A' (n + 1) c').ownBlock = (Value.slice A n c).ownBlock ∨ (Value.slice A' (n + 1) c').ownBlock = some w.heap.size) → K (a.put o.dst (.slice A' (n + 1) c')) w') : if Region.wanted o (yielded ops a.tmps) = true then Oper.wp Try.prog o a w K Q else E := by
  have hw : Region.wanted o (yielded ops a.tmps) = true := by simp [Region.wanted, hgd]
  rw [if_pos hw]
  obtain ⟨i0, hi, hz0, hz1, hz2⟩ := info_parts infoA
  obtain ⟨v', w', hr, hown', hg, _, hat⟩ := run_append_own_at (P := Try.prog) (w := w) base 87 o.type 86 i0 _ 2 32 Try.underlying87 hi hz0 hz1 hz2 rfl (by decide) _ n _ har.own ⟨g, 0, none⟩ 1 1 (fl [((v : Int), d)]) rfl (by
    intro j u hj
    have e : (⟨g, 0, none⟩ : Addr).add j = ⟨g, j, none⟩ := by unfold Addr.add; split <;> simp_all
    rw [e]
    match j, hj with
    | 0, hj => simp [fl] at hj; subst hj; exact hc0
    | 1, hj => simp [fl] at hj; subst hj; exact hc1
    | j + 2, hj => simp [fl] at hj) (fl_one _) (by unfold maxLen; omega) (by omega) hbase
  unfold Oper.wp execOp
  simp only [ho, resolve, invoke, builtin, Sem.run_bind, Sem.run_pure, Result.andThen_ok, List.map_toArray, List.map_cons, List.map_nil, hs, hx, hr]
  · skip
    have hform : ∃ A' c', v' = .slice A' (n + 1) c' := by
      rcases hown'.2 with ⟨rfl, h0⟩ | ⟨g', cap, cur, rfl, _⟩
      · omega
      · exact ⟨_, _, rfl⟩
    obtain ⟨A', c', rfl⟩ := hform
    refine h A' c' w' ⟨by rw [fl_app]; exact hown', by rw [List.length_append, har.ld]; rfl, by rw [List.length_append, har.lf]; rfl, fun j hj => ?_, fun j hj => ?_⟩ hg hat
    · by_cases e : j < n
      · rw [getD_app _ _ _ _ (by rw [har.ld]; exact e), getD_app _ _ _ _ (by rw [har.lf]; exact e)]; exact har.fst j e
      · rw [getD_snoc _ _ _ _ (by rw [har.ld]; omega), getD_snoc _ _ _ _ (by rw [har.lf]; omega)]
    · by_cases e : j < n
      · rw [getD_app _ _ _ _ (by rw [har.ld]; exact e), getD_app _ _ _ _ (by rw [har.lf]; exact e)]
        exact (har.row j e).kept hg (apart_arr (har.row j e) har.own)
      · rw [getD_snoc _ _ _ _ (by rw [har.ld]; omega), getD_snoc _ _ _ _ (by rw [har.lf]; omega)]
        exact hrow.kept hg (apart_arr hrow har.own)
end Go.Proofs.Ytojmlmeahoppjaa
