/- Plain facts on texts: numbers in decimal, joined by a sign, and how they are read again. No Go in it. No condition. -/
import Derived.Test.YtplgdbkolklgnaaDoorMath
namespace Go.Proofs.YtplgdbkolklgnaaDoor

/-- The decimal digits of a number below 100. -/
def dig (x : Nat) : List UInt8 := if x < 10 then [UInt8.ofNat (48 + x)] else [UInt8.ofNat (48 + x / 10), UInt8.ofNat (48 + x % 10)]
def isD (b : UInt8) : Bool := decide (48 ≤ b.toNat) && decide (b.toNat ≤ 57)
def dval (l : List UInt8) : Nat := l.foldl (fun a b => 10 * a + (b.toNat - 48)) 0
/-- Not empty, at most nine signs, no 0 ahead of others. -/
def okD (l : List UInt8) : Bool := decide (1 ≤ l.length) && decide (l.length ≤ 9) && !(l.head? == some 48 && decide (1 < l.length))
def pD (l : List UInt8) : Option Nat := if okD l = true then some (dval l) else none
def pW (l : List UInt8) : Option Nat := if l.all isD = true then pD l else none

theorem dval_snoc (l : List UInt8) (b : UInt8) : dval (l ++ [b]) = 10 * dval l + (b.toNat - 48) := by simp [dval]
theorem dval_lt (l : List UInt8) (h : l.all isD = true) : dval l < 10 ^ l.length := by
  have : ∀ r : List UInt8, r.all isD = true → dval r.reverse < 10 ^ r.length := by
    intro r
    induction r with
    | nil => intro _; decide
    | cons b t ih =>
      intro hr
      rw [List.all_cons, Bool.and_eq_true] at hr
      have h1 := ih hr.2
      have h2 : b.toNat ≤ 57 := by have := hr.1; unfold isD at this; simp at this; omega
      rw [List.reverse_cons, dval_snoc, List.length_cons, Nat.pow_succ]
      omega
  have h2 := this l.reverse (by rw [List.all_reverse]; exact h)
  rw [List.reverse_reverse, List.length_reverse] at h2
  exact h2
theorem dig_facts : ∀ x, x < 20 → (dig x).all isD = true ∧ okD (dig x) = true ∧ dval (dig x) = x ∧ 1 ≤ (dig x).length ∧ (dig x).length ≤ 2 ∧ dig x ≠ [] := by decide

/-- Joined, with the sign b between. -/
def jn (b : UInt8) : List (List UInt8) → List UInt8
  | [] => []
  | [w] => w
  | w :: v :: r => w ++ b :: jn b (v :: r)
theorem jn_cons (b : UInt8) (w : List UInt8) {r : List (List UInt8)} (h : r ≠ []) : jn b (w :: r) = w ++ b :: jn b r := by
  cases r with
  | nil => exact absurd rfl h
  | cons v r => rfl
theorem jn_snoc (b : UInt8) (ws : List (List UInt8)) (w : List UInt8) (h : ws ≠ []) : jn b (ws ++ [w]) = jn b ws ++ b :: w := by
  induction ws with
  | nil => exact absurd rfl h
  | cons v r ih =>
    by_cases e : r = []
    · subst e; rfl
    · rw [List.cons_append, jn_cons b v (by simp), ih e, jn_cons b v e]; simp

/-- The pieces between the signs b. -/
def splitB (b : UInt8) : List UInt8 → List (List UInt8)
  | [] => [[]]
  | x :: r => if x = b then [] :: splitB b r else (x :: (splitB b r).headD []) :: (splitB b r).tail
theorem splitB_ne (b : UInt8) (l : List UInt8) : splitB b l ≠ [] := by
  cases l with
  | nil => simp [splitB]
  | cons x r => unfold splitB; split <;> simp
theorem splitB_word (b : UInt8) (w : List UInt8) (h : ∀ x ∈ w, x ≠ b) : splitB b w = [w] := by
  induction w with
  | nil => rfl
  | cons x r ih =>
    have := ih fun y hy => h y (by simp [hy])
    rw [splitB, if_neg (h x (by simp)), this]; rfl
theorem splitB_sep (b : UInt8) (w r : List UInt8) (h : ∀ x ∈ w, x ≠ b) : splitB b (w ++ b :: r) = w :: splitB b r := by
  induction w with
  | nil => simp [splitB]
  | cons x t ih =>
    have := ih fun y hy => h y (by simp [hy])
    rw [List.cons_append, splitB, if_neg (h x (by simp)), this]; rfl
theorem splitB_jn (b : UInt8) (ws : List (List UInt8)) (hne : ws ≠ []) (h : ∀ w ∈ ws, ∀ x ∈ w, x ≠ b) : splitB b (jn b ws) = ws := by
  induction ws with
  | nil => exact absurd rfl hne
  | cons w r ih =>
    by_cases e : r = []
    · subst e; exact splitB_word b w (h w (by simp))
    · rw [jn_cons b w e, splitB_sep b w _ (h w (by simp)), ih e fun v hv => h v (by simp [hv])]
theorem splitB_length (b : UInt8) (l : List UInt8) : (splitB b l).length ≤ l.length + 1 := by
  induction l with
  | nil => simp [splitB]
  | cons x r ih =>
    have h1 : 1 ≤ (splitB b r).length := by
      have := splitB_ne b r
      cases e : splitB b r with
      | nil => exact absurd e this
      | cons => simp
    unfold splitB
    split
    · simp; omega
    · simp; omega

/-- Numbers with single blanks between, from the head of a text: the numbers and what is left. -/
def numsP (l : List UInt8) : Option (List Nat × List UInt8) :=
  match pD (l.takeWhile isD) with
  | none => none
  | some x =>
    if h : (l.dropWhile isD).head? = some 32 then (numsP (l.dropWhile isD).tail).map fun y => (x :: y.1, y.2)
    else some ([x], l.dropWhile isD)
termination_by l.length
decreasing_by
  have h1 : (l.dropWhile isD).length ≤ l.length := (List.dropWhile_sublist _).length_le
  cases e : l.dropWhile isD with
  | nil => rw [e] at h; cases h
  | cons a t => rw [e] at h1; simp at h1 ⊢; omega

theorem numsP_none {l : List UInt8} (h : pD (l.takeWhile isD) = none) : numsP l = none := by rw [numsP, h]
theorem numsP_last {l : List UInt8} {x : Nat} (h : pD (l.takeWhile isD) = some x) (h2 : (l.dropWhile isD).head? ≠ some 32) : numsP l = some ([x], l.dropWhile isD) := by
  rw [numsP, h]; simp only [dif_neg h2]
theorem numsP_more {l : List UInt8} {x : Nat} (h : pD (l.takeWhile isD) = some x) (h2 : (l.dropWhile isD).head? = some 32) : numsP l = (numsP (l.dropWhile isD).tail).map fun y => (x :: y.1, y.2) := by
  rw [numsP, h]; simp only [dif_pos h2]

theorem takeWhile_app {w r : List UInt8} (h : w.all isD = true) (hr : ∀ b, r.head? = some b → isD b = false) : (w ++ r).takeWhile isD = w ∧ (w ++ r).dropWhile isD = r := by
  induction w with
  | nil =>
    cases r with
    | nil => exact ⟨rfl, rfl⟩
    | cons a t => have := hr a rfl; simp [this]
  | cons a t ih =>
    rw [List.all_cons, Bool.and_eq_true] at h
    have := ih h.2
    simp [h.1, this]

/-- Points in decimal, blanks between. -/
def fmtI (l : List Int) : List UInt8 := jn 32 (l.map fun x => dig x.toNat)
def Pts (l : List Int) : Prop := ∀ x ∈ l, 0 ≤ x ∧ x < 20
theorem Pts.tail {x : Int} {l : List Int} (h : Pts (x :: l)) : Pts l := fun y hy => h y (by simp [hy])
theorem fmtI_cons (x : Int) {l : List Int} (h : l ≠ []) : fmtI (x :: l) = dig x.toNat ++ 32 :: fmtI l := by
  unfold fmtI; rw [List.map_cons, jn_cons 32 _ (by simpa using h)]
theorem numsP_fmt : ∀ (l : List Int) (r : List UInt8), Pts l → l ≠ [] → (∀ b, r.head? = some b → isD b = false ∧ b ≠ 32) → numsP (fmtI l ++ r) = some (l.map Int.toNat, r) := by
  intro l
  induction l with
  | nil => intro r _ h; exact absurd rfl h
  | cons x t ih =>
    intro r hp _ hr
    have hx := hp x (by simp)
    obtain ⟨d1, d2, d3, d4, d5, d6⟩ := dig_facts x.toNat (by omega)
    by_cases e : t = []
    · subst e
      obtain ⟨t1, t2⟩ := takeWhile_app (w := dig x.toNat) (r := r) d1 fun b hb => (hr b hb).1
      have hpd : pD ((dig x.toNat ++ r).takeWhile isD) = some x.toNat := by rw [t1]; unfold pD; rw [if_pos d2, d3]
      show numsP (dig x.toNat ++ r) = _
      rw [numsP_last hpd (by rw [t2]; intro h; exact (hr _ h).2 rfl), t2]; rfl
    · rw [fmtI_cons x e, List.append_assoc, List.cons_append]
      obtain ⟨t1, t2⟩ := takeWhile_app (w := dig x.toNat) (r := 32 :: (fmtI t ++ r)) d1 fun b hb => by simp at hb; subst hb; decide
      have hpd : pD ((dig x.toNat ++ 32 :: (fmtI t ++ r)).takeWhile isD) = some x.toNat := by rw [t1]; unfold pD; rw [if_pos d2, d3]
      rw [numsP_more hpd (by rw [t2]; rfl), t2]
      show (numsP (fmtI t ++ r)).map _ = _
      rw [ih r hp.tail e hr]; rfl

/-- The model's reading of a list of words. -/
def wordsP (b : UInt8) (l : List UInt8) : Option (List Nat) := (splitB b l).mapM pW
theorem mapM_cons_ {α β : Type} (f : α → Option β) (a : α) (l : List α) : (a :: l).mapM f = (f a).bind fun x => (l.mapM f).map (x :: ·) := by
  rw [List.mapM_cons]
  cases f a with
  | none => rfl
  | some x => cases h : l.mapM f <;> simp [h]
theorem not_isD_32 {x : UInt8} (h : isD x = true) : x ≠ 32 := by intro e; subst e; exact absurd h (by decide)
theorem all_isD_ne {w : List UInt8} (h : w.all isD = true) (b : UInt8) (hb : isD b = false) : ∀ x ∈ w, x ≠ b := fun x hx e => by
  have := List.all_eq_true.1 h x hx
  rw [e, hb] at this; cases this

theorem twdw (l : List UInt8) : l = l.takeWhile isD ++ l.dropWhile isD := (List.takeWhile_append_dropWhile ..).symm
theorem tw_all (l : List UInt8) : (l.takeWhile isD).all isD = true := by
  induction l with
  | nil => rfl
  | cons a t ih =>
    rw [List.takeWhile_cons]
    split
    · rename_i h; rw [List.all_cons, h, ih]; rfl
    · rfl
theorem dw_head (l : List UInt8) : ∀ b, (l.dropWhile isD).head? = some b → isD b = false := by
  induction l with
  | nil => intro b h; cases h
  | cons a t ih =>
    intro b h
    rw [List.dropWhile_cons] at h
    split at h
    · exact ih b h
    · rename_i h2; simp at h; subst h; simpa using h2

/-- A text read as numbers to its end: the two ways agree. -/
theorem nums_words : ∀ (n : Nat) (l : List UInt8), l.length ≤ n → (match numsP l with | some (xs, []) => some xs | _ => none) = wordsP 32 l := by
  intro n
  induction n with
  | zero =>
    intro l hl
    obtain rfl : l = [] := List.eq_nil_of_length_eq_zero (by omega)
    rw [numsP_none (by decide)]; rfl
  | succ n ih =>
    intro l hl
    have e0 := twdw l
    have ha := tw_all l
    have hh := dw_head l
    have hw := all_isD_ne ha 32 (by decide)
    unfold wordsP
    rcases hr : l.dropWhile isD with _ | ⟨c, r⟩
    · have el : l = l.takeWhile isD := by rw [hr, List.append_nil] at e0; exact e0
      have es : splitB 32 l = [l.takeWhile isD] := by
        conv => lhs; rw [el]
        exact splitB_word 32 _ hw
      rw [es, mapM_cons_]
      have hp : pW (l.takeWhile isD) = pD (l.takeWhile isD) := if_pos ha
      rw [hp]
      cases hd : pD (l.takeWhile isD) with
      | none => rw [numsP_none hd]; rfl
      | some x => rw [numsP_last hd (by rw [hr]; simp), hr]; rfl
    · have hc := hh c (by rw [hr]; rfl)
      by_cases h32 : c = 32
      · subst h32
        have es : splitB 32 l = l.takeWhile isD :: splitB 32 r := by
          conv => lhs; rw [e0, hr]
          exact splitB_sep 32 _ r hw
        rw [es, mapM_cons_]
        have hp : pW (l.takeWhile isD) = pD (l.takeWhile isD) := if_pos ha
        rw [hp]
        have hlen : r.length ≤ n := by
          have h1 : (l.dropWhile isD).length ≤ l.length := (List.dropWhile_sublist _).length_le
          rw [hr] at h1; simp at h1; omega
        have hi := ih r hlen
        unfold wordsP at hi
        cases hd : pD (l.takeWhile isD) with
        | none => rw [numsP_none hd]; rfl
        | some x =>
          rw [numsP_more hd (by rw [hr]; rfl), hr]
          show (match (numsP r).map (fun y => (x :: y.1, y.2)) with | some (xs, []) => some xs | _ => none) = ((splitB 32 r).mapM pW).map (x :: ·)
          rw [← hi]
          rcases numsP r with _ | ⟨xs, _ | ⟨a, t⟩⟩ <;> rfl
      · have hn : (match numsP l with | some (xs, []) => some xs | _ => none) = (none : Option (List Nat)) := by
          cases hd : pD (l.takeWhile isD) with
          | none => rw [numsP_none hd]
          | some x => rw [numsP_last hd (by rw [hr]; simpa using h32), hr]
        rw [hn]
        have hs : ∃ t ts, splitB 32 l = (l.takeWhile isD ++ c :: t) :: ts := by
          rw [e0, hr]
          have : ∀ w : List UInt8, (∀ x ∈ w, x ≠ 32) → ∃ t ts, splitB 32 (w ++ c :: r) = (w ++ c :: t) :: ts := by
            intro w
            induction w with
            | nil => intro _; exact ⟨(splitB 32 r).headD [], (splitB 32 r).tail, by rw [List.nil_append, splitB, if_neg h32]; rfl⟩
            | cons a w ihw =>
              intro h
              obtain ⟨t, ts, e⟩ := ihw fun x hx => h x (by simp [hx])
              exact ⟨t, ts, by rw [List.cons_append, splitB, if_neg (h a (by simp)), e]; rfl⟩
          have := this _ hw
          rw [← hr, ← e0] at this ⊢
          exact this
        obtain ⟨t, ts, es⟩ := hs
        rw [es, mapM_cons_]
        have hpw : pW (l.takeWhile isD ++ c :: t) = none := by
          unfold pW
          rw [if_neg]
          rw [List.all_append, List.all_cons, hc]; simp
        rw [hpw]; rfl

theorem wordsP_fmt {l : List Int} (h : Pts l) (hne : l ≠ []) : wordsP 32 (fmtI l) = some (l.map Int.toNat) := by
  rw [← nums_words _ _ (Nat.le_refl _)]
  have := numsP_fmt l [] h hne (by simp)
  rw [List.append_nil] at this
  rw [this]
end Go.Proofs.YtplgdbkolklgnaaDoor
