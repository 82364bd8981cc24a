/- Plain facts: a text of cycles reads back as the permutation, by the program's way and by the model's. No Go in it. -/
import Derived.Test.YtplgdbkolklgnaaDoorFmtC
namespace Go.Proofs.YtplgdbkolklgnaaDoor

/-- The first k points of a cycle set, each to the next one. -/
def setK (q : List Int) (xs : List Nat) : Nat → List Int
  | 0 => q
  | k + 1 => (setK q xs k).set (xs.getD k 0) (xs.getD ((k + 1) % xs.length) 0 : Nat)
def setAll (q : List Int) (xs : List Nat) : List Int := setK q xs xs.length
def allLt (n : Nat) (xs : List Nat) : Bool := xs.all fun x => decide (x < n)
theorem setK_len (q : List Int) (xs : List Nat) (k : Nat) : (setK q xs k).length = q.length := by
  induction k with
  | zero => rfl
  | succ k ih => rw [setK, List.length_set, ih]
theorem setAll_len (q : List Int) (xs : List Nat) : (setAll q xs).length = q.length := setK_len _ _ _
theorem set_D {x : List Int} {i j : Nat} (hj : j < x.length) (u : Int) : (x.set i u).getD j 0 = if i = j then u else x.getD j 0 := by
  rw [List.getD_eq_getElem?_getD, List.getElem?_set]
  by_cases e : i = j
  · subst e; rw [if_pos rfl, if_pos hj, if_pos rfl]; rfl
  · rw [if_neg e, if_neg e, ← List.getD_eq_getElem?_getD]
theorem setK_get {q : List Int} {xs : List Nat} (f : Nat → Nat) (hv : ∀ i, i < xs.length → xs.getD ((i + 1) % xs.length) 0 = f (xs.getD i 0)) {j : Nat} (hj : j < q.length) :
    ∀ k, k ≤ xs.length → (setK q xs k).getD j 0 = if j ∈ xs.take k then (f j : Int) else q.getD j 0 := by
  intro k
  induction k with
  | zero => intro _; simp [setK]
  | succ k ih =>
    intro hk
    rw [setK, set_D (by rw [setK_len]; exact hj), ih (by omega), hv k (by omega), List.take_succ_eq_append_getElem (by omega)]
    have e : xs.getD k 0 = xs[k] := by rw [List.getD_eq_getElem?_getD, List.getElem?_eq_getElem (by omega)]; rfl
    rw [e]
    by_cases h : xs[k] = j
    · rw [if_pos h, if_pos (by simp [h]), h]
    · rw [if_neg h]
      by_cases h2 : j ∈ xs.take k
      · rw [if_pos h2, if_pos (List.mem_append.2 (.inl h2))]
      · rw [if_neg h2, if_neg (by simp only [List.mem_append, List.mem_singleton, not_or]; exact ⟨h2, fun e => h e.symm⟩)]
def foldC (q : List Int) (cs : List (List Nat)) : List Int := cs.foldl setAll q
theorem foldC_len (cs : List (List Nat)) : ∀ q, (foldC q cs).length = q.length := by
  induction cs with
  | nil => intro q; rfl
  | cons c t ih => intro q; show (foldC (setAll q c) t).length = _; rw [ih, setAll_len]
theorem foldC_get (f : Nat → Nat) (cs : List (List Nat)) (hv : ∀ c ∈ cs, ∀ i, i < c.length → c.getD ((i + 1) % c.length) 0 = f (c.getD i 0)) {j : Nat} :
    ∀ q : List Int, j < q.length → (foldC q cs).getD j 0 = if ∃ c ∈ cs, j ∈ c then (f j : Int) else q.getD j 0 := by
  induction cs with
  | nil => intro q hj; simp [foldC]
  | cons c t ih =>
    intro q hj
    show (foldC (setAll q c) t).getD j 0 = _
    rw [ih (fun d hd => hv d (by simp [hd])) _ (by rw [setAll_len]; exact hj)]
    unfold setAll
    rw [setK_get f (hv c (by simp)) hj _ (Nat.le_refl _), List.take_of_length_le (Nat.le_refl _)]
    by_cases h1 : ∃ d ∈ t, j ∈ d
    · rw [if_pos h1]
      obtain ⟨d, hd, hm⟩ := h1
      rw [if_pos ⟨d, by simp [hd], hm⟩]
    · rw [if_neg h1]
      by_cases h2 : j ∈ c
      · rw [if_pos h2, if_pos ⟨c, by simp, h2⟩]
      · rw [if_neg h2, if_neg]
        rintro ⟨d, hd, hm⟩
        rw [List.mem_cons] at hd
        rcases hd with rfl | hd
        · exact h2 hm
        · exact h1 ⟨d, hd, hm⟩
/-- The cycles of two points and more, as numbers. -/
def cyN (p : List Int) : List (List Nat) := (cycl p).map fun c => c.map Int.toNat
theorem cyN_mem {p : List Int} {c : List Nat} (h : c ∈ cyN p) : ∃ x, x < p.length ∧ 1 < per p x ∧ c = (List.range (per p x)).map fun k => it p k x := by
  unfold cyN at h
  rw [List.mem_map] at h
  obtain ⟨d, hd, rfl⟩ := h
  unfold cycl at hd
  rw [List.mem_filter] at hd
  obtain ⟨hd, hl⟩ := hd
  rw [cycs_heads, List.mem_map] at hd
  obtain ⟨x, hx, rfl⟩ := hd
  refine ⟨x, List.mem_range.1 (List.mem_filter.1 hx).1, by simpa [cyc_length] using hl, ?_⟩
  unfold cyc
  rw [List.map_map]
  rfl
theorem rmap_getD (n : Nat) (f : Nat → Nat) {i : Nat} (h : i < n) : ((List.range n).map f).getD i 0 = f i := by
  rw [List.getD_eq_getElem?_getD, List.getElem?_map, List.getElem?_range h]; rfl
theorem fold_cycl {p : List Int} (hp : IsP p) : foldC (idL p.length) (cyN p) = p := by
  refine ext_getD (n := p.length) ((foldC_len _ _).trans (idL_length _)) rfl fun j hj => ?_
  rw [foldC_get (nx p) _ ?_ _ (by rw [idL_length]; exact hj)]
  · by_cases h : ∃ c ∈ cyN p, j ∈ c
    · rw [if_pos h, nx_val hp hj]
    · rw [if_neg h, idL_getD hj]
      obtain ⟨c, k, hc, hst, hk, e⟩ := min_ex hp hj
      have h1 : ¬ 1 < per p c := fun hl => h ⟨(cyc p c).map Int.toNat, List.mem_map_of_mem (by
        unfold cycl
        rw [List.mem_filter]
        refine ⟨?_, by simpa [cyc_length] using hl⟩
        rw [cycs_heads]
        exact List.mem_map_of_mem (List.mem_filter.2 ⟨List.mem_range.2 hc, hst⟩)), by
          unfold cyc
          rw [List.map_map, List.mem_map]
          exact ⟨k, List.mem_range.2 hk, by rw [← e]; rfl⟩⟩
      have hs := per_spec hp hc
      have h0 : k = 0 := by omega
      subst h0
      have hper : per p c = 1 := by omega
      have e2 : nx p c = c := by have := hs.2.2.1; rw [hper] at this; exact this
      have e3 : c = j := e
      rw [nx_val hp hj, ← e3, e2]
  · intro c hc i hi
    obtain ⟨x, hx, hl, rfl⟩ := cyN_mem hc
    rw [List.length_map, List.length_range] at hi ⊢
    have hm := Nat.mod_lt (i + 1) (show 0 < per p x by omega)
    rw [rmap_getD _ _ hm, rmap_getD _ _ hi, ← it_mod hp hx (i + 1)]
    rfl
theorem cyN_lt {p : List Int} (hp : IsP p) : ∀ c ∈ cyN p, allLt p.length c = true := by
  intro c hc
  obtain ⟨x, hx, _, rfl⟩ := cyN_mem hc
  unfold allLt
  rw [List.all_eq_true]
  intro y hy
  rw [List.mem_map] at hy
  obtain ⟨k, _, rfl⟩ := hy
  exact decide_eq_true (it_lt hp hx k)

/-- A cycle from the head of a text, the program's way. -/
def cycP (l : List UInt8) : Option (List Nat × List UInt8) :=
  if l.head? = some 40 then
    if l.tail.head? = some 41 then some ([], l.tail.tail)
    else match numsP l.tail with
      | none => none
      | some y => if y.2.head? = some 41 then some (y.1, y.2.tail) else none
  else none
theorem numsP_len : ∀ (n : Nat) (l : List UInt8), l.length ≤ n → ∀ y, numsP l = some y → y.2.length ≤ l.length := by
  intro n
  induction n with
  | zero =>
    intro l hl y h
    obtain rfl : l = [] := List.eq_nil_of_length_eq_zero (by omega)
    rw [numsP_none (by decide)] at h; cases h
  | succ n ih =>
    intro l hl y h
    have hdw : (l.dropWhile isD).length ≤ l.length := (List.dropWhile_sublist _).length_le
    cases hp : pD (l.takeWhile isD) with
    | none => rw [numsP_none hp] at h; cases h
    | some x =>
      by_cases h2 : (l.dropWhile isD).head? = some 32
      · rw [numsP_more hp h2] at h
        cases hr : l.dropWhile isD with
        | nil => rw [hr] at h2; cases h2
        | cons a t =>
          rw [hr] at h hdw
          simp at hdw
          cases h3 : numsP t with
          | none => rw [List.tail_cons, h3] at h; cases h
          | some z =>
            rw [List.tail_cons, h3] at h
            have h4 := ih t (by omega) z h3
            have h5 : y = (x :: z.1, z.2) := by simpa using h.symm
            rw [h5]
            show z.2.length ≤ _
            omega
      · rw [numsP_last hp h2] at h
        have h5 : y = ([x], l.dropWhile isD) := by simpa using h.symm
        rw [h5]; exact hdw
theorem cycP_len {l r : List UInt8} {xs : List Nat} (h : cycP l = some (xs, r)) : r.length < l.length := by
  unfold cycP at h
  cases l with
  | nil => simp at h
  | cons a t =>
    by_cases h0 : (a :: t).head? = some 40
    · rw [if_pos h0, List.tail_cons] at h
      by_cases h1 : t.head? = some 41
      · rw [if_pos h1] at h
        have e : t.tail = r := by simpa using (congrArg (fun o => o.map Prod.snd) h)
        rw [← e]
        simp; omega
      · rw [if_neg h1] at h
        cases h3 : numsP t with
        | none => rw [h3] at h; cases h
        | some y =>
          rw [h3] at h
          have hl := numsP_len _ t (Nat.le_refl _) y h3
          by_cases h4 : y.2.head? = some 41
          · simp only [if_pos h4] at h
            have e : y.2.tail = r := by simpa using (congrArg (fun o => o.map Prod.snd) h)
            rw [← e]
            simp; omega
          · simp only [if_neg h4] at h; cases h
    · rw [if_neg h0] at h; cases h
/-- All cycles of a text, the program's way. -/
def pcI : Nat → List Int → List UInt8 → Option (List Int)
  | 0, _, _ => none
  | f + 1, q, l => if l = [] then some q else match cycP l with
    | none => none
    | some y => if allLt q.length y.1 = true then pcI f (setAll q y.1) y.2 else none
theorem toNat_pts {c : List Int} (h : Pts c) : Pts c ∧ ofN (c.map Int.toNat) = c := by
  refine ⟨h, ?_⟩
  unfold ofN
  rw [List.map_map]
  conv => rhs; rw [← List.map_id c]
  exact List.map_congr_left fun x hx => by have := h x hx; show ((x.toNat : Nat) : Int) = x; omega
theorem fmtI_ne {c : List Int} (hp : Pts c) (hc : c ≠ []) : ∃ b t, fmtI c = b :: t ∧ isD b = true := by
  cases c with
  | nil => exact absurd rfl hc
  | cons x r =>
    have hx := hp x (by simp)
    obtain ⟨d1, d2, d3, d4, d5, d6⟩ := dig_facts x.toNat (by omega)
    have hd : ∃ b t, dig x.toNat = b :: t ∧ isD b = true := by
      cases e : dig x.toNat with
      | nil => exact absurd e d6
      | cons b t => rw [e, List.all_cons, Bool.and_eq_true] at d1; exact ⟨b, t, rfl, d1.1⟩
    obtain ⟨b, t, e, hb⟩ := hd
    by_cases hr : r = []
    · subst hr; exact ⟨b, t, e, hb⟩
    · rw [fmtI_cons x hr, e]; exact ⟨b, _, rfl, hb⟩
theorem cycP_yes {t r : List UInt8} {xs : List Nat} (h : t.head? ≠ some 41) (hn : numsP t = some (xs, 41 :: r)) : cycP (40 :: t) = some (xs, r) := by
  unfold cycP
  simp [h, hn]
theorem cycP_fmt {c : List Int} (hp : Pts c) (hc : c ≠ []) (r : List UInt8) : cycP (40 :: (fmtI c ++ [41]) ++ r) = some (c.map Int.toNat, r) := by
  obtain ⟨b, t, e, hb⟩ := fmtI_ne hp hc
  have h1 : (fmtI c ++ [41] ++ r).head? ≠ some 41 := by
    rw [e]; simp
    intro e2; subst e2; exact absurd hb (by decide)
  rw [List.cons_append]
  refine cycP_yes h1 ?_
  rw [List.append_assoc]
  exact numsP_fmt c ([41] ++ r) hp hc (by intro b hb; simp at hb; subst hb; decide)
theorem fmtCs_cons (c : List Int) (cs : List (List Int)) : fmtCs (c :: cs) = 40 :: (fmtI c ++ [41]) ++ fmtCs cs := by simp [fmtCs]
theorem pcI_fmt : ∀ (cs : List (List Int)) (q : List Int) (f : Nat), (∀ c ∈ cs, Pts c ∧ c ≠ [] ∧ allLt q.length (c.map Int.toNat) = true) → (fmtCs cs).length < f → pcI f q (fmtCs cs) = some (foldC q (cs.map fun c => c.map Int.toNat)) := by
  intro cs
  induction cs with
  | nil =>
    intro q f _ hf
    cases f with
    | zero => simp at hf
    | succ f => simp [pcI, fmtCs, foldC]
  | cons c t ih =>
    intro q f h hf
    cases f with
    | zero => simp at hf
    | succ f =>
      obtain ⟨h1, h2, h3⟩ := h c (by simp)
      rw [fmtCs_cons, pcI, if_neg (by simp), cycP_fmt h1 h2]
      simp only [h3, if_true]
      rw [ih (setAll q (c.map Int.toNat)) f (fun d hd => by have := h d (by simp [hd]); rw [setAll_len]; exact this) (by rw [fmtCs_cons] at hf; simp at hf; omega)]
      rfl
theorem cycl_all {p : List Int} (hp : IsP p) : ∀ c ∈ cycl p, Pts c ∧ c ≠ [] ∧ allLt p.length (c.map Int.toNat) = true := by
  intro c hc
  have h1 := cyc_pts hp c hc
  exact ⟨h1.1, fun e => by rw [e] at h1; simp at h1, cyN_lt hp _ (List.mem_map_of_mem hc)⟩
theorem pcI_id (n f : Nat) (hf : 2 < f) : pcI f (idL n) [40, 41] = some (idL n) := by
  obtain ⟨g, rfl⟩ : ∃ g, f = g + 2 := ⟨f - 2, by omega⟩
  rw [pcI, if_neg (by simp)]
  have : cycP [40, 41] = some ([], []) := rfl
  rw [this]
  simp [allLt, pcI, setAll, setK]
theorem cyN_nil {p : List Int} (h : (cycl p).length = 0) : cyN p = [] := by unfold cyN; rw [List.eq_nil_of_length_eq_zero h]; rfl
/-- The program's reading of a permutation's text gives the permutation. -/
theorem pcI_back {p : List Int} (hp : IsP p) (f : Nat) (hf : (fmtCyc p).length < f) : pcI f (idL p.length) (fmtCyc p) = some p := by
  have hi := isP_iff.2 hp
  unfold fmtCyc at hf ⊢
  rw [if_pos hi] at hf ⊢
  by_cases h0 : (cycl p).length = 0
  · rw [if_pos h0] at hf ⊢
    rw [pcI_id _ _ (by simpa using hf)]
    have := fold_cycl hp
    rw [cyN_nil h0] at this
    rw [show idL p.length = p from this]
  · rw [if_neg h0] at hf ⊢
    rw [pcI_fmt (cycl p) (idL p.length) f (by rw [idL_length]; exact cycl_all hp) hf]
    exact congrArg some (fold_cycl hp)
theorem pcI_len : ∀ (f : Nat) (q : List Int) (l : List UInt8) (p : List Int), pcI f q l = some p → p.length = q.length := by
  intro f
  induction f with
  | zero => intro q l p h; cases h
  | succ f ih =>
    intro q l p h
    rw [pcI] at h
    by_cases hl : l = []
    · rw [if_pos hl] at h; rw [← Option.some.inj h]
    · rw [if_neg hl] at h
      cases hc : cycP l with
      | none => rw [hc] at h; cases h
      | some y =>
        rw [hc] at h
        by_cases ha : allLt q.length y.1 = true
        · simp only [if_pos ha] at h
          rw [ih _ _ _ h, setAll_len]
        · simp only [if_neg ha] at h; cases h
/-- p is the permutation of degree n that the text l writes. -/
def Wr (n : Nat) (l : List UInt8) (p : List Int) : Prop := IsP p ∧ p.length = n ∧ fmtCyc p = l
def chk (l : List UInt8) (o : Option (List Int)) : Option (List Int) := match o with
  | none => none
  | some p => if fmtCyc p = l then some p else none
theorem id_isP {n : Nat} (h1 : 1 ≤ n) (h2 : n ≤ 20) : IsP (idL n) := by
  refine ⟨by rw [idL_length]; exact h1, by rw [idL_length]; exact h2, fun i hi => ?_, fun i hi => ?_, fun i j hi hj e => ?_⟩
  · rw [idL_length] at hi; rw [idL_getD hi]; omega
  · rw [idL_length] at hi ⊢; rw [idL_getD hi]; omega
  · rw [idL_length] at hi hj; rw [idL_getD hi, idL_getD hj] at e; omega
theorem fmtCyc_ne {p : List Int} (h : fmtCyc p ≠ []) : IsP p := by
  rw [← isP_iff]
  cases hs : isP p with
  | true => rfl
  | false => exact absurd (if_neg (by rw [hs]; decide)) h
/-- What the program reads is just what is written. -/
theorem chk_pcI {n : Nat} (h1 : 1 ≤ n) (h2 : n ≤ 20) {l : List UInt8} {f : Nat} (hf : l.length < f) (p : List Int) : chk l (pcI f (idL n) l) = some p ↔ Wr n l p := by
  constructor
  · intro h
    cases ho : pcI f (idL n) l with
    | none => rw [ho] at h; cases h
    | some q =>
      rw [ho] at h
      unfold chk at h
      by_cases e : fmtCyc q = l
      · simp only [if_pos e] at h
        obtain rfl := Option.some.inj h
        have hl : q.length = n := by rw [pcI_len _ _ _ _ ho, idL_length]
        refine ⟨?_, hl, e⟩
        by_cases hn : l = []
        · subst hn
          cases f with
          | zero => cases ho
          | succ f =>
            rw [pcI, if_pos rfl] at ho
            rw [← Option.some.inj ho]
            exact id_isP h1 h2
        · exact fmtCyc_ne (by rw [e]; exact hn)
      · simp only [if_neg e] at h; cases h
  · rintro ⟨hp, hl, e⟩
    have := pcI_back hp f (by rw [e]; exact hf)
    rw [hl, e] at this
    rw [this]
    unfold chk
    simp [e]

/-- The model's way: the pieces between the closing brackets. -/
def pcS : Bool → List Int → List (List UInt8) → Option (List Int)
  | _, q, [] => some q
  | first, q, part :: ps =>
    match (if first = true then some part else if part.head? = some 40 then some part.tail else none) with
    | none => none
    | some b => match wordsP 32 b with
      | none => none
      | some xs => if allLt q.length xs = true then pcS false (setAll q xs) ps else none
def pcM (n : Nat) (l : List UInt8) : Option (List Int) :=
  if l = [40, 41] then some (idL n) else if 2 ≤ l.length ∧ l.head? = some 40 ∧ l.getLast? = some 41 then pcS true (idL n) (splitB 41 ((l.drop 1).take (l.length - 2))) else none
theorem pcS_first (q : List Int) (part : List UInt8) (ps : List (List UInt8)) : pcS true q (part :: ps) = match wordsP 32 part with
      | none => none
      | some xs => if allLt q.length xs = true then pcS false (setAll q xs) ps else none := by simp only [pcS, if_true]
theorem pcS_next (q : List Int) (t : List UInt8) (ps : List (List UInt8)) : pcS false q ((40 :: t) :: ps) = match wordsP 32 t with
      | none => none
      | some xs => if allLt q.length xs = true then pcS false (setAll q xs) ps else none := by simp [pcS]
theorem pcS_bad (q : List Int) (part : List UInt8) (ps : List (List UInt8)) (h : part.head? ≠ some 40) : pcS false q (part :: ps) = none := by simp [pcS, h]
theorem pcS_fmt : ∀ (cs : List (List Int)) (q : List Int), (∀ c ∈ cs, Pts c ∧ c ≠ [] ∧ allLt q.length (c.map Int.toNat) = true) → pcS false q (cs.map fun c => 40 :: fmtI c) = some (foldC q (cs.map fun c => c.map Int.toNat)) := by
  intro cs
  induction cs with
  | nil => intro q _; rfl
  | cons c t ih =>
    intro q h
    obtain ⟨h1, h2, h3⟩ := h c (by simp)
    rw [List.map_cons, pcS_next, wordsP_fmt h1 h2]
    simp only [h3, if_true]
    rw [ih _ fun d hd => by have := h d (by simp [hd]); rw [setAll_len]; exact this]
    rfl
theorem fmtI_no41 {c : List Int} (h : Pts c) : ∀ x ∈ fmtI c, x ≠ 41 := by
  induction c with
  | nil => intro x hx; cases hx
  | cons a t ih =>
    intro x hx
    have ha := h a (by simp)
    have hd := (dig_facts a.toNat (by omega)).1
    by_cases e : t = []
    · subst e
      exact all_isD_ne hd 41 (by decide) x hx
    · rw [fmtI_cons a e, List.mem_append] at hx
      rcases hx with hx | hx
      · exact all_isD_ne hd 41 (by decide) x hx
      · rw [List.mem_cons] at hx
        rcases hx with rfl | hx
        · decide
        · exact ih h.tail x hx
theorem inner_jn : ∀ (c : List Int) (cs : List (List Int)), fmtCs (c :: cs) = 40 :: (jn 41 (fmtI c :: cs.map fun d => 40 :: fmtI d) ++ [41]) := by
  intro c cs
  induction cs generalizing c with
  | nil => simp [fmtCs, jn]
  | cons d t ih =>
    rw [fmtCs_cons, ih d, List.map_cons, jn_cons 41 (fmtI c) (by simp)]
    have : ∀ (a : List UInt8) r, jn 41 ((40 :: a) :: r) = 40 :: jn 41 (a :: r) := by
      intro a r
      cases r with
      | nil => rfl
      | cons x y => rfl
    rw [this]
    simp
theorem pcM_back {p : List Int} (hp : IsP p) : pcM p.length (fmtCyc p) = some p := by
  have hi := isP_iff.2 hp
  unfold fmtCyc
  rw [if_pos hi]
  by_cases h0 : (cycl p).length = 0
  · rw [if_pos h0]
    unfold pcM
    rw [if_pos rfl]
    have := fold_cycl hp
    rw [cyN_nil h0] at this
    exact congrArg some this
  · rw [if_neg h0]
    have hf := fold_cycl hp
    have hall := cycl_all hp
    unfold cyN at hf
    cases hc : cycl p with
    | nil => rw [hc] at h0; simp at h0
    | cons c cs =>
      rw [hc] at hf hall
      obtain ⟨h1, h2, h3⟩ := hall c (by simp)
      obtain ⟨b, t, eb, hb⟩ := fmtI_ne h1 h2
      have hj := inner_jn c cs
      have hno : ∀ w ∈ fmtI c :: cs.map (fun d => 40 :: fmtI d), ∀ x ∈ w, x ≠ 41 := by
        intro w hw
        rw [List.mem_cons] at hw
        rcases hw with rfl | hw
        · exact fmtI_no41 h1
        · rw [List.mem_map] at hw
          obtain ⟨d, hd, rfl⟩ := hw
          intro x hx
          rw [List.mem_cons] at hx
          rcases hx with rfl | hx
          · decide
          · exact fmtI_no41 (hall d (by simp [hd])).1 x hx
      have hsp := splitB_jn 41 _ (by simp) hno
      generalize hJ : jn 41 (fmtI c :: cs.map fun d => 40 :: fmtI d) = J at hj hsp
      have hne : fmtCs (c :: cs) ≠ [40, 41] := by
        rw [fmtCs_cons, eb]
        intro e
        simp at e
      unfold pcM
      have c1 : 2 ≤ (40 :: (J ++ [41])).length := by rw [List.length_cons, List.length_append]; simp
      have c3 : (40 :: (J ++ [41])).getLast? = some 41 := by rw [← List.cons_append]; exact List.getLast?_concat
      rw [if_neg hne, hj, if_pos ⟨c1, rfl, c3⟩]
      have ei : ((40 :: (J ++ [41])).drop 1).take ((40 :: (J ++ [41])).length - 2) = J := by
        rw [List.drop_succ_cons, List.drop_zero]
        have : (40 :: (J ++ [41])).length - 2 = J.length := by simp
        rw [this, List.take_left' rfl]
      rw [ei, hsp, pcS_first, wordsP_fmt h1 h2, idL_length]
      simp only [h3, if_true]
      rw [pcS_fmt cs _ fun d hd => by have := hall d (by simp [hd]); rw [setAll_len, idL_length]; exact this]
      exact congrArg some hf
theorem pcS_len : ∀ (ps : List (List UInt8)) (b : Bool) (q p : List Int), pcS b q ps = some p → p.length = q.length := by
  intro ps
  induction ps with
  | nil => intro b q p h; rw [pcS] at h; rw [← Option.some.inj h]
  | cons part t ih =>
    intro b q p h
    rw [pcS] at h
    split at h
    · cases h
    · split at h
      · cases h
      · split at h
        · rw [ih _ _ _ h, setAll_len]
        · cases h
theorem chk_pcM {n : Nat} (h1 : 1 ≤ n) (h2 : n ≤ 20) {l : List UInt8} (p : List Int) : chk l (pcM n l) = some p ↔ Wr n l p := by
  constructor
  · intro h
    cases ho : pcM n l with
    | none => rw [ho] at h; cases h
    | some q =>
      rw [ho] at h
      unfold chk at h
      by_cases e : fmtCyc q = l
      · simp only [if_pos e] at h
        obtain rfl := Option.some.inj h
        have hne : l ≠ [] := by
          intro e2; subst e2
          unfold pcM at ho
          rw [if_neg (by simp), if_neg (by simp)] at ho
          cases ho
        refine ⟨fmtCyc_ne (by rw [e]; exact hne), ?_, e⟩
        unfold pcM at ho
        split at ho
        · rw [← Option.some.inj ho, idL_length]
        · split at ho
          · rw [pcS_len _ _ _ _ ho, idL_length]
          · cases ho
      · simp only [if_neg e] at h; cases h
  · rintro ⟨hp, hl, e⟩
    have := pcM_back hp
    rw [hl, e] at this
    rw [this]
    unfold chk
    simp [e]
/-- What ParseCycles reads. -/
def cycO (n : Int) (s : ByteArray) : Option (List Int) := if 1 ≤ n ∧ n ≤ 20 ∧ s.size ≤ 200 then chk s.toList (pcI (s.size + 1) (idL n.toNat) s.toList) else none
theorem cycO_model {n : Int} {s : ByteArray} (h : 1 ≤ n ∧ n ≤ 20 ∧ s.size ≤ 200) : cycO n s = chk s.toList (pcM n.toNat s.toList) := by
  rw [cycO, if_pos h]
  have a := chk_pcI (n := n.toNat) (by omega) (by omega) (l := s.toList) (f := s.size + 1) (by rw [len_toList0]; omega)
  have b := chk_pcM (n := n.toNat) (by omega) (by omega) (l := s.toList)
  cases hx : chk s.toList (pcI (s.size + 1) (idL n.toNat) s.toList) with
  | some p => exact ((b p).2 ((a p).1 hx)).symm
  | none =>
    cases hy : chk s.toList (pcM n.toNat s.toList) with
    | none => rfl
    | some q => rw [(a q).2 ((b q).1 hy)] at hx; cases hx
theorem cycO_wr {n : Int} {s : ByteArray} (h : 1 ≤ n ∧ n ≤ 20 ∧ s.size ≤ 200) (p : List Int) : cycO n s = some p ↔ Wr n.toNat s.toList p := by
  rw [cycO, if_pos h]
  exact chk_pcI (by omega) (by omega) (by rw [len_toList0]; omega) p
end Go.Proofs.YtplgdbkolklgnaaDoor
