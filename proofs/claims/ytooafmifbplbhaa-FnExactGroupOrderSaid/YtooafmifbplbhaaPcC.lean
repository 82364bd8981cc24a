/- The program's chainOf: a chain whole from link 0 on, of what the generators generate. Conditions: at most 20 points, 8 generators. -/
import Derived.Test.YtooafmifbplbhaaPcA
import Derived.Test.YtooafmifbplbhaaChB
namespace Go.Proofs.Ytooafmifbplbhaa
open Go.RowKit

/-- One link more, ahead of the others, in blocks of its own. -/
theorem ck_cons {w w' : World} {base N k : Nat} {M : Nat → Prop} {c : Ch} {L : Nat → LK} {l : LK} (h : Ck w base N (k + 1) M c L) (hb : Below w.heap.size w w') (hbs : base ≤ w.heap.size)
    (hl : Lk w' base N k (fun b => M b ∨ ∃ t, t < 4 ∧ mu l t = some b) (c.rep k) (c.gen k) (ptr N L (k + 1)) l)
    (hf : ∀ t b, t < 4 → mu l t = some b → w.heap.size ≤ b ∧ b < w'.heap.size) (hd : ∀ t t' b, t < 4 → t' < 4 → mu l t = some b → mu l t' = some b → t = t') :
    Ck w' base N k (fun b => M b ∨ ∃ t, t < 4 ∧ mu l t = some b) c (upd L k l) := by
  have hp : ∀ i, k ≤ i → ptr N (upd L k l) (i + 1) = ptr N L (i + 1) := fun i hi => by unfold ptr; rw [upd_ne (by omega)]
  have hx : ∀ i t t' b, k < i → i < N → t < 4 → t' < 4 → mu (L i) t = some b → mu l t' = some b → False := fun i t t' b a1 a2 a3 a4 e e' => by
    have := (h.mlt b (h.mm i t b a1 a2 a3 e)).2
    have := (hf t' b a4 e').1
    omega
  refine ⟨fun i a b => ?_, fun i t b a1 a2 a3 e => ?_, fun b e => ?_, fun i t i' t' b a1 a2 a3 a4 a5 a6 e e' => ?_⟩
  · rw [hp i a]
    by_cases ei : i = k
    · subst ei; rw [upd_at]; exact hl
    · rw [upd_ne ei]
      exact (h.lk i (by omega) b).keep (S := fun _ => False) (.of_below hb) (fun _ _ _ _ e => e) (fun _ e => e.elim) fun b e => by
        rcases e with e | ⟨t, a, e⟩
        · exact .inl e
        · exact .inr (hf t b a e).1
  · by_cases ei : i = k
    · subst ei; rw [upd_at] at e; exact .inr ⟨t, a3, e⟩
    · rw [upd_ne ei] at e; exact .inl (h.mm i t b (by omega) a2 a3 e)
  · have := hb.size
    rcases e with e | ⟨t, a, e⟩
    · have := h.mlt b e; omega
    · have := hf t b a e; omega
  · by_cases ei : i = k <;> by_cases ei' : i' = k
    · subst ei; subst ei'
      rw [upd_at] at e e'
      exact ⟨rfl, hd t t' b a3 a6 e e'⟩
    · subst ei
      rw [upd_at] at e
      rw [upd_ne ei'] at e'
      exact (hx i' t' t b (by omega) a5 a6 a3 e' e).elim
    · subst ei'
      rw [upd_at] at e'
      rw [upd_ne ei] at e
      exact (hx i t t' b (by omega) a2 a3 a6 e e').elim
    · rw [upd_ne ei] at e
      rw [upd_ne ei'] at e'
      exact h.dis i t i' t' b (by omega) a2 a3 (by omega) a5 a6 e e'
theorem orb0 {N k : Nat} (h1 : 1 ≤ N) : Orb (ch0 N) k [k] := by
  refine ⟨by simp, fun y => ?_⟩
  rw [List.mem_singleton]
  show y = k ↔ (if y = k then idL N else []) ≠ []
  by_cases e : y = k
  · rw [if_pos e]; exact ⟨fun _ e2 => by have := idL_length N; rw [e2] at this; simp at this; omega, fun _ => e⟩
  · rw [if_neg e]; exact ⟨fun h => absurd h e, fun h => absurd rfl h⟩
def lk0 : LK := ⟨0, sd0, [], sd0, 0, [], []⟩
/-- The rows of a new link. -/
theorem madeP {w : World} {base g n : Nat} (h : w.ownsRow base 53 1 (.slice (some ⟨g, 0, none⟩) n n) n (madeCells (Value.slice none 0 0).cells (n * 1)).toList) : w.ownsRow base 53 1 (.slice (some ⟨g, 0, none⟩) n n) n ((List.replicate n sd0).map sval) := by
  have e : (madeCells (Value.slice none 0 0).cells (n * 1)).toList = (List.replicate n sd0).map sval := by
    show (madeCells #[Value.slice none 0 0] (n * 1)).toList = _
    rw [toList_madeCells_one]; simp [sval, sd0]
  rw [← e]; exact h

theorem ck_new {wr wA : World} {base N k B1 c2 : Nat} {M : Nat → Prop} {L : Nat → LK} {po : Option Addr} {A2 : Option Addr} (h : Ck wr base N (k + 1) M (ch0 N) L) (hk : k < N) (hpo : ptr N L (k + 1) = .pointer po) (BA : Below wr.heap.size wr wA)
    (RA : wA.ownsRow base 53 1 (.slice (some ⟨wr.heap.size, 0, none⟩) N N) N (((List.replicate N sd0).set k (A2, N, c2)).map sval)) (hB1 : wr.heap.size < B1) (SA : Slc wA B1 A2 N c2 (idL N)) (hbs : base ≤ wr.heap.size) :
    ∃ (L' : Nat → LK) (M' : Nat → Prop), Ck ((wA.alloc (.cells #[.int .i64 (k : Nat)] 2)).alloc (.cells #[.int .i64 (k : Nat), .slice none 0 0, .slice (some ⟨wA.heap.size, 0, none⟩) 1 1, .slice (some ⟨wr.heap.size, 0, none⟩) N N, .pointer po] 58)) base N k M' (ch0 N) L' ∧
      (L' k).B = wA.heap.size + 1 ∧ (∀ i, k < i → L' i = L i) ∧ (L' k).orb = [k] := by
  obtain ⟨l, hl⟩ : ∃ l : LK, l = ⟨wA.heap.size + 1, sd0, [], (some ⟨wA.heap.size, 0, none⟩, 1, 1), wr.heap.size, (List.replicate N sd0).set k (A2, N, c2), [k]⟩ := ⟨_, rfl⟩
  obtain ⟨W, hW⟩ : ∃ W, (wA.alloc (.cells #[.int .i64 (k : Nat)] 2)).alloc (.cells #[.int .i64 (k : Nat), .slice none 0 0, .slice (some ⟨wA.heap.size, 0, none⟩) 1 1, .slice (some ⟨wr.heap.size, 0, none⟩) N N, .pointer po] 58) = W := ⟨_, rfl⟩
  have hz : W.heap.size = wA.heap.size + 2 := by rw [← hW]; simp
  have bAW : Below wA.heap.size wA W := by rw [← hW]; exact ((Below.refl _ _).alloc (Nat.le_refl _) _).alloc (by simp) _
  have hzA := BA.size
  have hA0 : wr.heap.size < wA.heap.size := (World.ownsRow.lt RA wr.heap.size rfl).2
  have hmu : ∀ t b, t < 4 → mu l t = some b → b = wA.heap.size + 1 ∨ b = wA.heap.size ∨ b = wr.heap.size := fun t b ht e => by
    subst hl
    rcases t with _ | _ | _ | t
    · injection e with e; exact .inl e.symm
    · cases e
    · injection e with e; exact .inr (.inl e.symm)
    · injection e with e; exact .inr (.inr e.symm)
  rw [hW]
  refine ⟨upd L k l, fun b => M b ∨ ∃ t, t < 4 ∧ mu l t = some b, ck_cons h (BA.trans (bAW.mono hzA)) hbs ?_ (fun t b ht e => ?_) (fun t t' b a1 a2 e e' => ?_), by rw [upd_at, hl], fun i hi => upd_ne (by omega), by rw [upd_at, hl]⟩
  · have hM : ∀ b, (M b ∨ ∃ t, t < 4 ∧ mu l t = some b) → b < wr.heap.size ∨ b = wA.heap.size + 1 ∨ b = wA.heap.size ∨ b = wr.heap.size := fun b e => by
      rcases e with e | ⟨t, a, e⟩
      · exact .inl (h.mlt b e).2
      · exact .inr (hmu t b a e)
    refine ⟨?_, by subst hl; show base ≤ wA.heap.size + 1; omega, ?_, by subst hl; rfl, fun y hy => absurd hy (by show ¬ y < 0; omega), ?_, ?_, by subst hl; simp, fun y hy => ?_⟩
    · rw [hpo, ← hW]
      have := Blk.new (wA.alloc (.cells #[.int .i64 (k : Nat)] 2)) 58 #[.int .i64 (k : Nat), .slice none 0 0, .slice (some ⟨wA.heap.size, 0, none⟩) 1 1, .slice (some ⟨wr.heap.size, 0, none⟩) N N, .pointer po]
      rw [World.size_alloc] at this
      subst hl; exact this
    · subst hl; exact World.ownsRow_nil _ _ _ _
    · subst hl
      show Slc W base (some ⟨wA.heap.size, 0, none⟩) 1 1 (ofP [k])
      have h1 : (wA.alloc (.cells #[.int .i64 (k : Nat)] 2)).ownsRow base 2 1 (.slice (some ⟨wA.heap.size, 0, none⟩) 1 1) 1 [.int .i64 (k : Nat)] := World.ownsRow_lit (size := 1) wA #[.int .i64 (k : Nat)] 1 (by omega) (by decide) rfl
      rw [← hW]
      exact ⟨rfl, World.ownsRow.alloc h1 _⟩
    · subst hl
      rw [← hW]
      exact World.ownsRow.alloc (World.ownsRow.alloc RA _) _
    · subst hl
      show ((if y = k then idL N else []) = [] → ((List.replicate N sd0).set k (A2, N, c2)).getD y sd0 = sd0) ∧ ((if y = k then idL N else []) ≠ [] → Rd W _ (((List.replicate N sd0).set k (A2, N, c2)).getD y sd0) (if y = k then idL N else []))
      by_cases e : y = k
      · subst e
        rw [if_pos rfl, getD_set_eq (by simp; exact hy)]
        refine ⟨fun e => ?_, fun _ => ?_⟩
        · have := idL_length N; rw [e] at this; simp at this; omega
        · refine ⟨SA.1, SA.le.1, fun hp => ?_⟩
          obtain ⟨b, off, e, hb, hc⟩ := SA.ri_ hp
          have e : A2 = some ⟨b, off, none⟩ := e
          have hlo : B1 ≤ b := by
            rcases SA.at_ with ⟨e0, _⟩ | ⟨g, e0, h1, _⟩
            · rw [e0] at e; cases e
            · rw [e0] at e; injection e with e; injection e with e _; omega
          refine ⟨b, off, e, by omega, fun hm => ?_, fun j hj => (bAW.cell (p := ⟨b, off + j, none⟩) hb).trans (hc j hj)⟩
          have := hM b hm
          omega
      · rw [if_neg e, getD_set_ne (fun e2 => e e2.symm), getD_rep]
        exact ⟨fun _ => rfl, fun h => absurd rfl h⟩
  · have := hmu t b ht e
    omega
  · subst hl
    have hx : ∀ t, t < 4 → mu (⟨wA.heap.size + 1, sd0, [], (some ⟨wA.heap.size, 0, none⟩, 1, 1), wr.heap.size, (List.replicate N sd0).set k (A2, N, c2), [k]⟩ : LK) t = some b → (t = 0 ∧ b = wA.heap.size + 1) ∨ (t = 2 ∧ b = wA.heap.size) ∨ (t = 3 ∧ b = wr.heap.size) := fun t ht e => by
      rcases t with _ | _ | _ | t
      · injection e with e; exact .inl ⟨rfl, e.symm⟩
      · cases e
      · injection e with e; exact .inr (.inl ⟨rfl, e.symm⟩)
      · injection e with e; exact .inr (.inr ⟨by omega, e.symm⟩)
    have h3 := hx t a1 e
    have h4 := hx t' a2 e'
    omega

set_option maxHeartbeats 8000000 in
set_option maxRecDepth 100000 in
theorem implChainOf (N n cc : Nat) (A : Option Addr) (vs : List SV) (gs : List (List Int)) (w : World) (hx : RR w w.heap.size A n vs gs) (hN1 : 1 ≤ N) (hN : N ≤ 20) (hn : n ≤ 8) (ok : Hid (∀ g ∈ gs, IsP g ∧ g.length = N)) :
    Calls Try.prog 49 #[.int .i64 (N : Nat), .slice A n cc] w fun e w' => ∃ (c : Ch) (L : Nat → LK) (M : Nat → Prop), e = .returned (.pointer (some ⟨(L 0).B, 0, none⟩)) ∧ Ck w' w.heap.size N 0 M c L ∧ Orbs N 0 c L ∧ Whole N gs c ∧ Below w.heap.size w w' := by
  obtain ⟨i0, hi, hz0, hz1, hz2⟩ := info_parts infoP
  have HX := Lib.hid hx
  have hlx : Hid (gs.length = n) := Lib.hid hx.lx
  clear hx
  go_enter Try.func49, Try.ntmps49
  go_wp2_with fail
  go_loopg [5, 6, 7] N (fun gg ch bv _ wr => ∃ (m : Nat) (L : Nat → LK) (M : Nat → Prop), m ≤ N ∧ m ≤ gg ∧ bv = .int .i64 ((m : Int) - 1) ∧ ch = ptr N L m ∧ Ck wr w.heap.size N m M (ch0 N) L ∧ Orbs N m (ch0 N) L ∧ Below w.heap.size w wr)
  case atStart => exact ⟨N, fun _ => lk0, fun _ => False, Nat.le_refl _, Nat.le_refl _, by go_num, (if_neg (by omega)).symm, ⟨fun i a b => absurd b (by omega), fun i _ _ a b => absurd b (by omega), fun _ e => e.elim, fun i _ _ _ _ a b => absurd b (by omega)⟩, fun i a b => absurd b (by omega), Below.refl _ _⟩
  case round =>
    obtain ⟨m, L, M, hm, hgg, rfl, rfl, hc, ho, bel⟩ := hrel
    have C1 := Lib.hid hc
    have O1 := Lib.hid ho
    have Be := Lib.hid bel
    have hzr := bel.size
    clear hc ho bel
    rcases m with _ | k
    · have ep : ptr N L 0 = .pointer (some ⟨(L 0).B, 0, none⟩) := if_pos (by omega)
      rw [ep]
      have d0 : decide ((((0 : Nat) : Int) - 1) ≥ 0) = false := by decide
      have U0 := Lib.hid (upTo0 N hN1 hN)
      clear ep
      go_wp2_with fail
      go_loopg [9, 32] n (fun gg _ jv wr => ∃ (j : Nat) (c : Ch) (L' : Nat → LK) (M : Nat → Prop), j ≤ n ∧ n - j ≤ gg ∧ jv = .int .i64 (j : Nat) ∧ (L' 0).B = (L 0).B ∧ Ck wr w.heap.size N 0 M c L' ∧ Orbs N 0 c L' ∧ Whole N (gs.take j) c ∧ Below w.heap.size w wr)
      case atStart => exact ⟨0, ch0 N, L, M, Nat.zero_le _, by omega, rfl, rfl, C1.out, O1.out, ⟨U0.out, fun q => by rw [List.take_zero]; exact Iff.rfl⟩, Be.out⟩
      case round =>
        clear C1 O1 U0 Be
        obtain ⟨j, c, L', M, hj, hg2, rfl, hB, hc, ho, hw, bel⟩ := hrel
        have C2 := Lib.hid hc
        have O2 := Lib.hid ho
        have W2 := Lib.hid hw
        have HB := Lib.hid hB
        have Be := Lib.hid bel
        clear hc ho hw hB
        by_cases hlt : j < n
        · obtain ⟨b, off, A5, l, c5, y, rfl, hb, hv, ey, x1, ri, ly, hl5⟩ := (HX.out.up Be.out).at_ hlt
          have ri0 : RI w w.heap.size A5 y := by
            have := HX.out.rows j hlt
            rw [hv, ey] at this; exact this
          have hyP := ok.out y (by rw [← ey]; exact getD_memL (by rw [hlx.out]; exact hlt))
          obtain rfl : l = N := by omega
          have Rdy : Hid (Rd wr M (A5, l, c5) y) := Lib.hid (.of_ri (ri0.below Be.out (Nat.le_refl _)) ly hl5 Be.out.size fun b e => (C2.out.mlt b e).1)
          have YP : Hid (Pn l y) := Lib.hid hyP
          have Ey := Lib.hid ey
          have q0 : (0 : Int) ≤ j := by omega
          have q1 : (j : Int) < n := by omega
          clear hv ey hb ri ri0 hyP bel
          go_wp2_with fail
          have K := implAdd w.heap.size l hN (l - 1) 0 (by omega) M c L' A5 c5 y wr C2.out O2.out Rdy.out YP.out Fx.zero W2.out.up
          rw [HB.out] at K
          refine K.mono ?_
          rintro e w3 ⟨c', L3, M', rfl, hc3, ho3, hg3, hap⟩
          have C4 := Lib.hid hc3
          have O4 := Lib.hid ho3
          have B4 : Hid ((L3 0).B = (L 0).B) := Lib.hid ((hg3.ptr 0).trans HB.out)
          have Be3 : Hid (Below w.heap.size w w3) := Lib.hid (Be.out.trans (hg3.chg.below (fun k hk => (C2.out.mlt k (C2.out.muM k hk)).1) Be.out.size))
          have W4 : Hid (Whole l (gs.take (j + 1)) c') := Lib.hid (by
            rw [List.take_succ_eq_append_getElem (by rw [hlx.out]; exact hlt)]
            have e1 : gs[j]'(by rw [hlx.out]; exact hlt) = y := by rw [← Ey.out, List.getD_eq_getElem?_getD, List.getElem?_eq_getElem (by rw [hlx.out]; exact hlt)]; rfl
            rw [e1]
            exact W2.out.next hN1 hN (fun g hg => ok.out g (List.mem_of_mem_take hg)) YP.out hap)
          clear K hc3 ho3 hg3 hap
          go_wp2_with fail
          go_roundg (n - (j + 1))
          case rel => exact ⟨j + 1, c', L3, M', by omega, by omega, by go_num, B4.out, C4.out, O4.out, W4.out, Be3.out⟩
          case measure => omega
        · obtain rfl : j = n := by omega
          have W3 : Hid (Whole N gs c) := Lib.hid (by have := W2.out; rwa [List.take_of_length_le (by rw [hlx.out]; exact Nat.le_refl _)] at this)
          go_wp2_with fail
          go_ret
          exact ⟨c, L', M, by rw [HB.out]; rfl, C2.out, O2.out, W3.out, Be.out⟩
    · obtain ⟨po, hpo⟩ : ∃ po, ptr N L (k + 1) = .pointer po := by
        unfold ptr
        by_cases h : k + 1 < N
        · exact ⟨_, if_pos h⟩
        · exact ⟨_, if_neg h⟩
      have Hpo := Lib.hid hpo
      rw [hpo]
      clear hpo
      have ek : (((k + 1 : Nat) : Int) - 1) = (k : Int) := by omega
      rw [ek]
      have p0 : (0 : Int) ≤ k := by omega
      have p1 : (k : Int) < N := by omega
      have d0 : decide ((k : Int) ≥ 0) = true := by simp
      clear ek
      go_wp2_with (first | (at_make; go_must (refine wpList_make_full _ rfl _ _ 56 rfl w.heap.size 53 i0 (.slice none 0 0) 1 Try.underlying56 hi hz0 hz1 .i64 .i64 _ _ N rfl rfl rfl rfl (by rw [hz2]; omega) (by unfold maxLen; omega) (by omega) ?_); intro w1 hown1 hgrow1))
      have b1 : Below wr.heap.size wr w1 := (Below.refl _ _).grown hgrow1 (Nat.le_refl _) (fun k e => nomatch e)
      have r1 := madeP hown1
      have R1 := Lib.hid r1
      have B1 := Lib.hid b1
      clear hown1 hgrow1 r1 b1
      go_wp2_with fail
      refine (implId_core N w1 hN1 hN).mono ?_
      rintro e w2 ⟨A2, c2, rfl, s2, b2⟩
      have S2 := Lib.hid s2
      have B2 := Lib.hid b2
      have hr2 := ownsRow_chg R1.out (.of_below (M := fun _ => False) b2) fun _ _ e => e
      have R2 := Lib.hid hr2
      have y1 := hr2.cellAt k (by omega)
      have ey : ((List.replicate N sd0).map sval)[k]? = some (Value.slice none 0 0) := by
        rw [List.getElem?_map, List.getElem?_replicate, if_pos (by omega)]; rfl
      rw [ey] at y1
      have fz := hr2.frozenAt k
      clear s2 b2 hr2 ey
      obtain ⟨wA, hwA⟩ : ∃ wA, w2.setCell ⟨wr.heap.size, k, none⟩ (.slice A2 N c2) = wA := ⟨_, rfl⟩
      have zA : Hid (wA.heap.size = w2.heap.size) := Lib.hid (by rw [← hwA]; simp)
      have St := R2.out.stored k (.slice A2 N c2)
      rw [hwA] at St
      have SA : Hid (Slc wA w1.heap.size A2 N c2 (idL N)) := Lib.hid (S2.out.chgS (.of_grown St.2 (M := fun b => b = wr.heap.size) (by intro b e; injection e with e; exact e.symm)) fun b e e2 => by
        have h1 := (S2.out.lt_ b e).1
        have h2 := (World.ownsRow.lt R1.out wr.heap.size rfl).2
        omega)
      have RA : Hid (wA.ownsRow w.heap.size 53 1 (.slice (some ⟨wr.heap.size, 0, none⟩) N N) N (((List.replicate N sd0).set k (A2, N, c2)).map sval)) := Lib.hid (by rw [List.map_set]; exact St.1)
      have Bw1 : Hid (wr.heap.size < w1.heap.size) := Lib.hid (World.ownsRow.lt R1.out wr.heap.size rfl).2
      have BA : Hid (Below wr.heap.size wr wA) := Lib.hid ((B1.out.trans (B2.out.mono B1.out.size)).grown St.2 (Nat.le_trans B1.out.size B2.out.size) (by intro b e; injection e with e; omega))
      have NW := Lib.hid (ck_new C1.out (by omega) Hpo.out BA.out RA.out Bw1.out SA.out hzr)
      clear St R1 R2 S2
      go_wp2_with fail
      obtain ⟨L', M', K1, K2, K3, K4⟩ := NW.out
      go_roundg k
      case rel =>
        refine ⟨k, L', M', by omega, by omega, rfl, ?_, K1, fun i a b => ?_, ?_⟩
        · have e1 : ptr N L' k = .pointer (some ⟨(L' k).B, 0, none⟩) := if_pos (by omega)
          rw [e1, K2]
        · by_cases ei : i = k
          · subst ei; rw [K4]; exact orb0 hN1
          · rw [K3 i (by omega)]; exact O1.out i (by omega) b
        · exact (Be.out.trans (BA.out.mono hzr)).trans ((((Below.refl wA.heap.size wA).alloc (Nat.le_refl _) _).alloc (by simp) _).mono (by have := BA.out.size; omega))
      case measure => omega
end Go.Proofs.Ytooafmifbplbhaa
