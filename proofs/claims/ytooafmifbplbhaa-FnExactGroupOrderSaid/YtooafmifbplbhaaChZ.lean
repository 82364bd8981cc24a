/- LongestMemberPrefix and StrongGeneratingSet of the model: what they answer. Conditions: at most 1048576 lists of at most 1048576 numbers. -/
import Derived.Test.YtooafmifbplbhaaChY
namespace Go.Proofs.Ytooafmifbplbhaa
open Go.RowKit

section
variable (a : Int) (A : Option Addr) (n c : Nat) (vs : List SV) (xss : List (List Int)) (w : World)
set_option maxHeartbeats 4000000 in
set_option maxRecDepth 100000 in
theorem specLmp (P : Option Addr) (np cp : Nat) (p : List Int) (hx : RR w w.heap.size A n vs xss) (hn : n ≤ 1048576) (hl : Hid (∀ i, i < n → (vs.getD i sd0).2.1 ≤ 1048576)) (hp : RI w w.heap.size P p) (lp : Hid (p.length = np)) (hnp : np ≤ 1048576) (hpc : np ≤ cp) (ha : -9223372036854775808 ≤ a ∧ a ≤ 9223372036854775807) :
    Calls Try.prog 18 #[.int .i64 a, .slice A n c, .slice P np cp] w fun e w' => ∃ v, e = .returned (.int .i64 v) ∧ IsLmp a xss p v ∧ Below w.heap.size w w' := by
  have HX := Lib.hid hx
  have HP := Lib.hid hp
  have hlx : Hid (xss.length = n) := Lib.hid hx.lx
  clear hx hp
  go_enter Try.func18, Try.ntmps18
  go_wp2_with fail
  refine (specGS a A n c vs xss w HX.out hn hl ha).mono ?_
  rintro e w1 ⟨rfl, b1⟩
  have B1 := Lib.hid b1
  have X1 := Lib.hid (HX.out.up b1)
  have P1 := Lib.hid (HP.out.up b1)
  clear b1
  rcases hs : gB a xss with _ | _
  · have Fin : Hid (IsLmp a xss p (-1)) := Lib.hid (.inr ⟨fun h => (by have := h.1; rw [hs] at this; cases this), rfl⟩)
    clear hs
    go_wp2_with fail
    go_ret
    exact ⟨_, rfl, Fin.out, B1.out⟩
  · obtain ⟨N, rfl, hN1, hN2, hg8, hpm, hok⟩ := gB_pm hs
    have Hs := Lib.hid hs
    have Ok := Lib.hid hok
    have hn8 : n ≤ 8 := by rw [← hlx.out]; exact hg8
    clear hs hpm hok hg8
    obtain ⟨ans, hans⟩ : ∃ ans, (decide (np = N) && isP p) = ans := ⟨_, rfl⟩
    have Ha := Lib.hid hans
    go_wp2_with fail
    refine (specIsPOf P np cp w1 N p ans P1.out lp (by omega) hpc Ha).mono ?_
    rintro e w2 ⟨rfl, b2⟩
    have X2 := Lib.hid (X1.out.up b2)
    have P2 := Lib.hid (P1.out.up b2)
    have B2 : Hid (Below w.heap.size w w2) := Lib.hid (btr B1.out b2)
    clear b2
    rcases ans with _ | _
    · have Fin : Hid (IsLmp N xss p (-1)) := Lib.hid (.inr ⟨(fun h => by
        have h1 := h.2.1
        rw [lp.out] at h1
        have h2 : np = N := by omega
        rw [h2, h.2.2] at hans; simp at hans), rfl⟩)
      clear hans
      go_wp2_with fail
      go_ret
      exact ⟨_, rfl, Fin.out, B2.out⟩
    · rw [Bool.and_eq_true, decide_eq_true_eq] at hans
      obtain ⟨rfl, hq⟩ := hans
      have PP : Hid (Pn np p) := Lib.hid ⟨isP_iff.1 hq, lp.out⟩
      have Hq := Lib.hid hq
      clear hq
      go_wp2_with fail
      refine (specBuild np n c A vs xss w2 X2.out hN1 hN2 hn8 Ok).mono ?_
      rintro e w3 ⟨g, L, ch, rfl, hc3, hw3, b3⟩
      have C3 := Lib.hid hc3
      have W3 := Lib.hid hw3
      have P3 := Lib.hid (P2.out.up b3)
      have B3 : Hid (Below w.heap.size w w3) := Lib.hid (btr B2.out b3)
      clear hc3 hw3 b3
      go_wp2_with fail
      refine (specIdent np w3 (by omega)).mono ?_
      rintro e w4 ⟨A4, c4, rfl, s4, b4⟩
      have S4 : Hid (Slc w4 w3.heap.size A4 np c4 (idL np)) := Lib.hid s4
      have C4 := Lib.hid (C3.out.up b4)
      have P4 := Lib.hid (P3.out.up b4)
      have B4 := Lib.hid b4
      clear s4 b4
      go_wp2_with fail
      go_loopw [8, 9] (fun v i wr => ∃ (k cc : Nat) (M : Option Addr) (m : List Int), k ≤ np ∧ i = .int .i64 (k : Nat) ∧ v = .slice M np cc ∧ Slc wr w3.heap.size M np cc m ∧ Mb xss np m ∧ (∀ t, t < k → nx m t = nx p t) ∧ Below w3.heap.size w3 wr) (fun _ i _ => np - (intOf i).toNat)
      case atStart => exact ⟨0, _, _, _, Nat.zero_le _, rfl, rfl, S4.out, .one, fun t ht => absurd ht (by omega), B4.out⟩
      case round =>
        clear S4 C4 P4 B4
        obtain ⟨k, cc, M, m, hk, rfl, rfl, hs, hmb, hag, bel⟩ := hrel
        have Ss := Lib.hid hs
        have Mb1 := Lib.hid hmb
        have Ag := Lib.hid hag
        have Be := Lib.hid bel
        have C5 := Lib.hid (C3.out.up bel)
        have P5 := Lib.hid (P3.out.up bel)
        have MP : Hid (Pn np m) := Lib.hid (hmb.pn Ok.out hN1 hN2)
        clear hs hmb hag bel
        by_cases hlt : k < np
        · obtain ⟨b, off, rfl, hb, hcell⟩ := P5.out (by rw [lp.out]; omega)
          have x6 := hcell k (by rw [lp.out]; exact hlt)
          rw [nx_val PP.out.1 (by rw [lp.out]; exact hlt)] at x6
          obtain ⟨v, ev⟩ : ∃ v, nx p k = v := ⟨_, rfl⟩
          rw [ev] at x6
          have Ev := Lib.hid ev
          have hvN : v < np := by rw [← ev]; exact PP.out.lt hlt
          have q1 : (0 : Int) ≤ k := by omega
          have q2 : (k : Int) < np := by omega
          have Hb := Lib.hid hb
          clear hb hcell ev
          obtain ⟨ans, hans⟩ : ∃ ans : Bool, ans = true ↔ (v : Int) ∈ chL ch k m np := bool_of _
          have Ha := Lib.hid hans
          clear hans
          have C5d : Hid (Cn wr.drew w2.heap.size g np ch L) := Lib.hid (C5.out.up ⟨rfl, rfl, rfl, Nat.le_refl _, fun _ _ => rfl⟩)
          go_wp2_with fail
          go_cut [39] from 30 to 39 (fun z wx => z = .bool (!ans) ∧ Below wr.heap.size wr wx)
          case first =>
            go_region_law ((go_simp; go_wp2_with (first
              | (go_at_call 58; refine (specChoices w2.heap.size g np k cc M ch L xss m wr.drew C5d.out W3.out Ss.out.ri_ MP hlt).mono ?_; rintro e w5 ⟨g2, m2, c2, zs, rfl, s2, p2, o2, b2⟩
                 have b2' : Below wr.heap.size wr w5 := ⟨b2.os, b2.tape, b2.output, b2.size, b2.block⟩
                 have x6' : w5.cell? ⟨b, off + k, none⟩ = some (.int .i64 (v : Nat)) := (b2'.cell (p := ⟨b, off + k, none⟩) Hb.out).trans x6
                 have HA : Hid (hasB zs (v : Int) = ans) := Lib.hid (by rw [hasB_in, Bool.eq_iff_iff, decide_eq_true_eq, p2.mem_iff]; exact Ha.out.symm)
                 have hm2 : m2 ≤ 20 := by rw [← s2.1, p2.length_eq]; have := chL_len ch k m np; omega
                 have S2 := Lib.hid s2
                 have Bw5 := Lib.hid b2'
                 clear s2 p2 o2 b2 b2')
              | (go_at_call 57; (first | refine (containsI_any (some ⟨g2, 0, none⟩) c2 m2 zs (v : Int) w5 _ S2.out.ri_ S2.out.hid (by omega) ans HA).mono ?_ | refine (containsI_any (some ⟨g2, 0, none⟩) c2 m2 zs (v : Int) w5.drew _ S2.out.ri_ S2.out.hid (by omega) ans HA).mono ?_); rintro e w' ⟨rfl, rfl⟩))))
            all_goals (go_wp2_with fail; go_meet; exact ⟨rfl, Bw5.out⟩)
          case rest =>
            obtain ⟨rfl, bc⟩ := hcut
            have Cc := Lib.hid (C5.out.up bc)
            have Sc := Lib.hid (Ss.out.up bc)
            have x7 : wc.cell? ⟨b, off + k, none⟩ = some (.int .i64 (v : Nat)) := (bc.cell (p := ⟨b, off + k, none⟩) Hb.out).trans x6
            have Bc : Hid (Below w3.heap.size w3 wc) := Lib.hid (btr Be.out bc)
            clear x6 bc
            rcases ans with _ | _
            · have Fin : Hid (IsLmp np xss p (k : Nat)) := Lib.hid (.inl ⟨Hs.out, by rw [lp.out], Hq.out, k, rfl, by
                rw [Int.toNat_natCast]
                refine ⟨by omega, ⟨m, Mb1.out, Ag.out⟩, fun _ => ?_⟩
                rintro ⟨q, hq, hqa⟩
                have := Ha.out.2 ((W3.out.choice hN1 hN2 Ok.out hlt Mb1.out).2 ⟨q, hq, fun t ht => (hqa t (by omega)).trans (Ag.out t ht).symm, by rw [hqa k (Nat.le_refl _), Ev.out]⟩)
                cases this⟩)
              have B6 : Hid (Below w.heap.size w wc) := Lib.hid (btr B3.out Bc.out)
              go_wp2_with fail
              go_ret
              exact ⟨_, rfl, Fin.out, B6.out⟩
            · obtain ⟨y, hy, hr, hmy⟩ := chL_mem.1 (Ha.out.1 rfl)
              have hmy2 : nx m y = v := by omega
              obtain ⟨a1, a2, a3, _⟩ := W3.out.rep_mb hN1 hN2 hlt hr
              have Rp : Hid (Pn np (ch.rep k y)) := Lib.hid (a1.pn Ok.out hN1 hN2)
              have Hmy := Lib.hid hmy2
              have Mb2 : Hid (Mb xss np (compL (ch.rep k y) m)) := Lib.hid (a1.comp Ok.out hN1 hN2 Mb1.out)
              have Ag2 : Hid (∀ t, t < k + 1 → nx (compL (ch.rep k y) m) t = nx p t) := Lib.hid fun t ht => by
                rw [Rp.out.nxc (by omega)]
                rcases Nat.lt_or_ge t k with hl | hl
                · rw [a2 t hl, Ag.out t hl]
                · obtain rfl : t = k := by omega
                  rw [a3, Hmy.out, Ev.out]
              clear hr hmy hmy2 a1 a2 a3
              go_wp2_with fail
              refine (specWithEntry w2.heap.size g np k v y cc M ch L m wc Cc.out Sc.out.ri_ MP hlt hy Hmy Rp).mono ?_
              rintro e w6 ⟨A6, c6, rfl, s6, b6⟩
              have S6 : Hid (Slc w6 w3.heap.size A6 np c6 (compL (ch.rep k y) m)) := Lib.hid (s6.mono Bc.out.size)
              have B6 : Hid (Below w3.heap.size w3 w6) := Lib.hid (btr Bc.out b6)
              clear s6 b6
              go_wp2_with fail
              go_roundw
              case rel => exact ⟨k + 1, _, _, _, by omega, by go_num, rfl, S6.out, Mb2.out, Ag2.out, B6.out⟩
              case measure => simp [intOf]; omega
        · obtain rfl : k = np := by omega
          have Fin : Hid (IsLmp k xss p (k : Nat)) := Lib.hid (.inl ⟨Hs.out, by rw [lp.out], Hq.out, k, rfl, by
            rw [Int.toNat_natCast]
            exact ⟨Nat.le_refl _, ⟨m, Mb1.out, Ag.out⟩, fun h => absurd h (by omega)⟩⟩)
          have B6 : Hid (Below w.heap.size w wr) := Lib.hid (btr B3.out Be.out)
          go_wp2_with fail
          go_ret
          exact ⟨_, rfl, Fin.out, B6.out⟩

/-! ### StrongGeneratingSet -/
end
/-- The prefix for level i and point y. -/
def preOf (pr : Nat × Nat) : List Int := idL pr.1 ++ [(pr.2 : Int)]
/-- The smallest members for a list of levels and points, where there are any. -/
def Sgs (N : Nat) (gs : List (List Int)) : List (Nat × Nat) → List (List Int) → Prop
  | [], l => l = []
  | pr :: ps, l => ∃ m ok rest, IsMwp N gs (preOf pr) m ok ∧ Sgs N gs ps rest ∧ l = (if ok = true then [m] else []) ++ rest
theorem Sgs.snoc {N : Nat} {gs : List (List Int)} {m : List Int} {ok : Bool} {pr : Nat × Nat} (hm : IsMwp N gs (preOf pr) m ok) : ∀ {ps : List (Nat × Nat)} {l : List (List Int)}, Sgs N gs ps l → Sgs N gs (ps ++ [pr]) (l ++ if ok = true then [m] else [])
  | [], l, h => by
    obtain rfl : l = [] := h
    exact ⟨m, ok, [], hm, rfl, by simp⟩
  | p :: ps, l, h => by
    obtain ⟨m', ok', rest, h1, h2, rfl⟩ := h
    exact ⟨m', ok', _, h1, h2.snoc hm, by rw [List.append_assoc]⟩
theorem Sgs.uniq {N : Nat} {gs : List (List Int)} (h1 : 1 ≤ N) (h2 : N ≤ 20) (hg : ∀ g ∈ gs, Pn N g) : ∀ {ps : List (Nat × Nat)} {l l' : List (List Int)}, (∀ pr ∈ ps, pr.1 < N) → Sgs N gs ps l → Sgs N gs ps l' → l = l'
  | [], l, l', _, h, h' => by rw [show l = [] from h, show l' = [] from h']
  | p :: ps, l, l', hp, h, h' => by
    obtain ⟨m, ok, rest, a1, a2, rfl⟩ := h
    obtain ⟨m', ok', rest', b1, b2, rfl⟩ := h'
    have hl : (preOf p).length ≤ N := by
      have := hp p (by simp)
      unfold preOf; rw [List.length_append, idL_length]; simp; omega
    obtain ⟨e1, e2⟩ := a1.uniq h1 h2 hg hl b1
    rw [e1, e2, Sgs.uniq h1 h2 hg (fun pr hpr => hp pr (by simp [hpr])) a2 b2]
theorem Sgs.ok {N : Nat} {gs : List (List Int)} (h1 : 1 ≤ N) (h2 : N ≤ 20) (hg : ∀ g ∈ gs, Pn N g) : ∀ {ps : List (Nat × Nat)} {l : List (List Int)}, Sgs N gs ps l → l.length ≤ ps.length ∧ ∀ y ∈ l, Mb gs N y ∧ y.length = N
  | [], l, h => by rw [show l = [] from h]; simp
  | p :: ps, l, h => by
    obtain ⟨m, ok, rest, a1, a2, rfl⟩ := h
    obtain ⟨b1, b2⟩ := a2.ok h1 h2 hg
    rcases a1 with ⟨rfl, a1⟩ | ⟨rfl, _, _⟩
    · refine ⟨by simp; omega, fun y hy => ?_⟩
      simp at hy
      rcases hy with rfl | hy
      · exact ⟨a1.1, (a1.1.pn hg h1 h2).2⟩
      · exact b2 y hy
    · refine ⟨by simp; omega, fun y hy => b2 y (by simpa using hy)⟩
/-- The levels below k, and the points behind each. -/
def prsI (N i m : Nat) : List (Nat × Nat) := (List.range m).map fun t => (i, i + 1 + t)
def prs (N : Nat) : Nat → List (Nat × Nat)
  | 0 => []
  | k + 1 => prs N k ++ prsI N k (N - (k + 1))
theorem prsI_succ (N i m : Nat) : prsI N i (m + 1) = prsI N i m ++ [(i, i + 1 + m)] := by simp [prsI, List.range_succ]
theorem prs_lt (N : Nat) : ∀ k, k ≤ N → ∀ pr ∈ prs N k, pr.1 < N
  | 0, _, pr, h => by simp [prs] at h
  | k + 1, hk, pr, h => by
    rcases List.mem_append.1 h with h | h
    · exact prs_lt N k (by omega) pr h
    · simp only [prsI, List.mem_map] at h
      obtain ⟨t, _, rfl⟩ := h
      exact hk
theorem prs_len (N : Nat) : ∀ k, (prs N k).length ≤ k * N
  | 0 => by simp [prs]
  | k + 1 => by
    have := prs_len N k
    simp only [prs, prsI, List.length_append, List.length_map, List.length_range, Nat.add_mul, Nat.one_mul]
    omega
/-- What StrongGeneratingSet answers. -/
def IsSgs (a : Int) (gs l : List (List Int)) : Prop := (gB a gs = true ∧ Sgs a.toNat gs (prs a.toNat a.toNat) l) ∨ (gB a gs = false ∧ l = [])
theorem IsSgs.uniq {a : Int} {gs l l' : List (List Int)} (h : IsSgs a gs l) (h' : IsSgs a gs l') : l = l' := by
  rcases h with ⟨e, h⟩ | ⟨e, rfl⟩ <;> rcases h' with ⟨e', h'⟩ | ⟨e', rfl⟩
  · obtain ⟨N, rfl, h1, hN, _, _, ok⟩ := gB_pm e
    rw [Int.toNat_natCast] at h h'
    exact h.uniq h1 hN ok (prs_lt N N (Nat.le_refl _)) h'
  · rw [e] at e'; cases e'
  · rw [e] at e'; cases e'
  · rfl
end Go.Proofs.Ytooafmifbplbhaa
