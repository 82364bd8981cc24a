/- The model's orbit of a point: found in the order of discovery, then sorted by insertion. Conditions: at most 1000 points, at most 8 maps. -/
import Derived.Test.YtojmlmeahoppjaaOrF
import Derived.Test.YtojmlmeahoppjaaSrcP
namespace Go.Proofs.Ytojmlmeahoppjaa
open Go.RowKit

theorem hasB_nat {f : List Nat} {v : Nat} : hasB (f.map Int.ofNat) (v : Int) = decide (v ∈ f) := by
  unfold hasB
  rw [Bool.eq_iff_iff]
  simp only [decide_eq_true_eq, List.length_map]
  constructor
  · rintro ⟨j, hj, e⟩
    rw [List.getD_eq_getElem?_getD, List.getElem?_map, List.getElem?_eq_getElem hj] at e
    have e2 : f[j] = v := Int.ofNat.inj (by simpa using e)
    rw [← e2]; exact List.getElem_mem hj
  · intro h
    obtain ⟨j, hj, e⟩ := List.mem_iff_getElem.1 h
    exact ⟨j, hj, by rw [List.getD_eq_getElem?_getD, List.getElem?_map, List.getElem?_eq_getElem hj, e]; rfl⟩

/-- The sorted list with v put in at k. -/
def putIn (ys : List Int) (k : Nat) (v : Int) : List Int := ys.take k ++ [v] ++ ys.drop k
theorem putIn_perm (ys : List Int) (k : Nat) (v : Int) : (putIn ys k v).Perm (v :: ys) := by
  unfold putIn
  have h : (ys.take k ++ [v]).Perm (v :: ys.take k) := List.perm_append_comm
  have := h.append_right (ys.drop k)
  rw [List.cons_append, List.take_append_drop] at this
  exact this
theorem putIn_sorted {ys : List Int} {k : Nat} {v : Int} (hs : ys.Pairwise (· ≤ ·)) (h1 : ∀ j, j < k → ys.getD j 0 < v) (h2 : k < ys.length → v ≤ ys.getD k 0) : (putIn ys k v).Pairwise (· ≤ ·) := by
  unfold putIn
  have hd : ∀ b ∈ ys.drop k, v ≤ b := fun b hb => by
    obtain ⟨j, hj, e⟩ := List.mem_iff_getElem.1 hb
    rw [List.length_drop] at hj
    rw [List.getElem_drop] at e
    have h3 := h2 (by omega)
    rw [List.getD_eq_getElem?_getD, List.getElem?_eq_getElem (by omega : k < ys.length)] at h3
    rw [List.pairwise_iff_getElem] at hs
    rw [← e]
    by_cases e0 : j = 0
    · subst e0; simpa using h3
    · have := hs k (k + j) (by omega) (by omega) (by omega)
      have h3' : v ≤ ys[k] := by simpa using h3
      omega
  have ht : ∀ a ∈ ys.take k, a < v := fun a ha => by
    obtain ⟨j, hj, e⟩ := List.mem_iff_getElem.1 ha
    rw [List.length_take] at hj
    rw [List.getElem_take] at e
    have := h1 j (by omega)
    rw [List.getD_eq_getElem?_getD, List.getElem?_eq_getElem (by omega)] at this
    rw [← e]; simpa using this
  rw [List.append_assoc, List.pairwise_append]
  refine ⟨hs.sublist (List.take_sublist _ _), ?_, fun a ha b hb => ?_⟩
  · rw [List.singleton_append, List.pairwise_cons]
    exact ⟨hd, hs.sublist (List.drop_sublist _ _)⟩
  · have := ht a ha
    rcases List.mem_append.1 hb with hb | hb
    · obtain rfl : b = v := by simpa using hb
      omega
    · have := hd b hb; omega

set_option maxHeartbeats 2000000 in
set_option maxRecDepth 100000 in
/-- insertSorted, of a number that the list lacks. -/
theorem specIns (g n c base : Nat) (ys : List Int) (v : Int) (w : World) (h : Slc w base (some ⟨g, 0, none⟩) n c ys) (hv : Hid (v ∉ ys)) (hn : n ≤ 1000) :
    Calls Try.prog 82 #[.slice (some ⟨g, 0, none⟩) n c, .int .i64 v] w fun e w' => ∃ g' c' zs, e = .returned (.slice (some ⟨g', 0, none⟩) (n + 1) c') ∧ Slc w' w.heap.size (some ⟨g', 0, none⟩) (n + 1) c' zs ∧ zs.Perm (v :: ys) ∧ (ys.Pairwise (· ≤ ·) → zs.Pairwise (· ≤ ·)) ∧ Below w.heap.size w w' := by
  have H := Lib.hid h
  have lx := h.1
  have hnc := h.le.1
  have ri := Lib.hid h.ri_
  clear h
  go_enter Try.func82, Try.ntmps82
  go_wp2
  go_loop [5] (fun i => ∃ k : Nat, k ≤ n ∧ i = .int .i64 (k : Nat) ∧ ∀ j, j < k → ys.getD j 0 < v) (fun i => n - (intOf i).toNat)
  case atStart => exact ⟨0, Nat.zero_le _, rfl, fun j h => absurd h (by omega)⟩
  case round =>
    obtain ⟨k, hk, rfl, hz⟩ := hrel
    have Hz := Lib.hid hz
    clear hz
    have EndIt : Hid (∀ (hge : k < n → v ≤ ys.getD k 0), (putIn ys k v).Perm (v :: ys) ∧ (ys.Pairwise (· ≤ ·) → (putIn ys k v).Pairwise (· ≤ ·))) := Lib.hid fun hge => ⟨putIn_perm _ _ _, fun hs => putIn_sorted hs Hz.out (fun h => hge (by rw [← lx]; exact h))⟩
    have RIt : Hid (RI w w.heap.size (some ⟨g, 0, none⟩) (ys.take k)) := Lib.hid (takeRI ri.out k)
    have ltk : Hid ((ys.take k).length = k) := Lib.hid (by rw [List.length_take]; omega)
    have ldr : Hid ((ys.drop k).length = n - k) := Lib.hid (by rw [List.length_drop]; omega)
    have DrX : Hid (∀ w3 : World, Below w.heap.size w w3 → RI w3 w3.heap.size (some ⟨g, k, none⟩) (ys.drop k)) := Lib.hid fun w3 hb => dropRI H.out hb fun _ => rfl
    have ld0 : Hid (c = k → (ys.drop k).length = 0) := Lib.hid fun e => by have := ldr.out; omega
    have Dr0 : Hid (c = k → ∀ w3 : World, Below w.heap.size w w3 → RI w3 w3.heap.size (some ⟨g, 0, none⟩) (ys.drop k)) := Lib.hid fun e w3 hb => dropRI H.out hb fun h => by omega
    have p1 : (k : Int) ≤ c := by omega
    by_cases hlt : k < n
    · obtain ⟨b, off, e1, hb, hc⟩ := ri.out (by rw [lx]; omega)
      have c1 := hc k (by rw [lx]; exact hlt)
      obtain ⟨rfl, rfl⟩ : g = b ∧ 0 = off := by injection e1 with e1; injection e1 with e1 e2; exact ⟨e1, e2⟩
      rw [Nat.zero_add] at c1
      have hne : ys.getD k 0 ≠ v := fun e => hv.out (by rw [← e]; exact (by rw [List.getD_eq_getElem?_getD, List.getElem?_eq_getElem (by omega)]; exact List.getElem_mem _))
      obtain ⟨u, eu⟩ : ∃ u, ys.getD k 0 = u := ⟨_, rfl⟩
      rw [eu] at c1 hne
      have Eu := Lib.hid eu
      clear eu hc e1
      by_cases hlv : u < v
      · go_wp2
        go_round
        case rel => exact ⟨k + 1, by omega, by go_num, fun j hj => by
          by_cases e : j = k
          · subst e; rw [Eu.out]; exact hlv
          · exact Hz.out j (by omega)⟩
        case measure => simp [intOf]; omega
      · have Z := Lib.hid (EndIt.out (fun _ => by rw [Eu.out]; omega))
        have hck : ¬ c = k := by omega
        clear EndIt
        go_wp2_with fail
        refine (copyRI g 0 k _ (ys.take k) w RIt.out ltk.out (by omega)).mono ?_
        rintro e w2 ⟨A2, c2, rfl, s2, b2⟩
        have S2 := Lib.hid s2
        have B2 := Lib.hid b2
        have Z2 := b2.size
        clear s2 b2
        go_wp2_with (first
            | (at_builtin; refine wpList_app1 rfl _ _ rfl w.heap.size A2 k c2 _ rfl (S2.out.alloc _) w2.heap.size v rfl (by rw [World.cell?_alloc_at _ _ _ _ rfl]; rfl) (by omega) (by simp; omega) ?_; intro A3 c3 w3 s3 g3; have B3 : Hid (Below w.heap.size w w3) := Lib.hid ((B2.out.alloc B2.out.size _).grown g3 (by simp; omega) (fun j hj => (S2.out.lt_ j hj).1)); have S3 := Lib.hid s3; clear s3 g3)
            | (at_builtin; refine wpList_appN rfl _ _ rfl w.heap.size A3 (k + 1) c3 _ rfl S3.out g k (n - k) (c - k) (ys.drop k) rfl (DrX.out _ B3.out) ldr.out (by omega) B3.out.size ?_; intro A4 c4 w4 s4 g4))
        have S4 : Hid (Slc w4 w.heap.size A4 (n + 1) c4 (putIn ys k v)) := Lib.hid (by
          have := s4
          rw [show k + 1 + (n - k) = n + 1 from by omega] at this
          exact this)
        have B4 : Hid (Below w.heap.size w w4) := Lib.hid (B3.out.grown g4 B3.out.size (fun j hj => (S3.out.lt_ j hj).1))
        rw [show k + 1 + (n - k) = n + 1 from by omega]
        clear s4 g4
        obtain ⟨q4, rfl⟩ : ∃ q4, A4 = some ⟨q4, 0, none⟩ := by
          rcases S4.out.at_ with ⟨_, _, e0, _⟩ | ⟨q4, e0, _, _⟩
          · omega
          · exact ⟨q4, e0⟩
        go_wp2
        go_ret
        exact ⟨_, _, _, rfl, S4.out, Z.out.1, Z.out.2, B4.out⟩
    · have hkn : k = n := by omega
      have Z := Lib.hid (EndIt.out (fun h => absurd h hlt))
      subst hkn
      clear EndIt
      by_cases hck : c = k
      · subst hck
        go_wp2_with fail
        refine (copyRI g 0 c _ (ys.take c) w RIt.out ltk.out (by omega)).mono ?_
        rintro e w2 ⟨A2, c2, rfl, s2, b2⟩
        have S2 := Lib.hid s2
        have B2 := Lib.hid b2
        have Z2 := b2.size
        clear s2 b2
        go_wp2_with (first
            | (at_builtin; refine wpList_app1 rfl _ _ rfl w.heap.size A2 c c2 _ rfl (S2.out.alloc _) w2.heap.size v rfl (by rw [World.cell?_alloc_at _ _ _ _ rfl]; rfl) (by omega) (by simp; omega) ?_; intro A3 c3 w3 s3 g3; have B3 : Hid (Below w.heap.size w w3) := Lib.hid ((B2.out.alloc B2.out.size _).grown g3 (by simp; omega) (fun j hj => (S2.out.lt_ j hj).1)); have S3 := Lib.hid s3; clear s3 g3)
            | (at_builtin; refine wpList_appN rfl _ _ rfl w.heap.size A3 (c + 1) c3 _ rfl S3.out g 0 0 0 (ys.drop c) rfl (Dr0.out trivial _ B3.out) (ld0.out trivial) (by omega) B3.out.size ?_; intro A4 c4 w4 s4 g4))
        have S4 : Hid (Slc w4 w.heap.size A4 (c + 1) c4 (putIn ys c v)) := Lib.hid s4
        have B4 : Hid (Below w.heap.size w w4) := Lib.hid (B3.out.grown g4 B3.out.size (fun j hj => (S3.out.lt_ j hj).1))
        clear s4 g4
        obtain ⟨q4, rfl⟩ : ∃ q4, A4 = some ⟨q4, 0, none⟩ := by
          rcases S4.out.at_ with ⟨_, _, e0, _⟩ | ⟨q4, e0, _, _⟩
          · omega
          · exact ⟨q4, e0⟩
        go_wp2
        go_ret
        exact ⟨_, _, _, rfl, S4.out, Z.out.1, Z.out.2, B4.out⟩
      · have ld1 : Hid ((ys.drop k).length = k - k) := ldr
        go_wp2_with fail
        refine (copyRI g 0 k _ (ys.take k) w RIt.out ltk.out (by omega)).mono ?_
        rintro e w2 ⟨A2, c2, rfl, s2, b2⟩
        have S2 := Lib.hid s2
        have B2 := Lib.hid b2
        have Z2 := b2.size
        clear s2 b2
        go_wp2_with (first
            | (at_builtin; refine wpList_app1 rfl _ _ rfl w.heap.size A2 k c2 _ rfl (S2.out.alloc _) w2.heap.size v rfl (by rw [World.cell?_alloc_at _ _ _ _ rfl]; rfl) (by omega) (by simp; omega) ?_; intro A3 c3 w3 s3 g3; have B3 : Hid (Below w.heap.size w w3) := Lib.hid ((B2.out.alloc B2.out.size _).grown g3 (by simp; omega) (fun j hj => (S2.out.lt_ j hj).1)); have S3 := Lib.hid s3; clear s3 g3)
            | (at_builtin; refine wpList_appN rfl _ _ rfl w.heap.size A3 (k + 1) c3 _ rfl S3.out g k 0 (c - k) (ys.drop k) rfl (DrX.out _ B3.out) (by rw [ld1.out]; omega) (by omega) B3.out.size ?_; intro A4 c4 w4 s4 g4))
        have S4 : Hid (Slc w4 w.heap.size A4 (k + 1) c4 (putIn ys k v)) := Lib.hid s4
        have B4 : Hid (Below w.heap.size w w4) := Lib.hid (B3.out.grown g4 B3.out.size (fun j hj => (S3.out.lt_ j hj).1))
        clear s4 g4
        obtain ⟨q4, rfl⟩ : ∃ q4, A4 = some ⟨q4, 0, none⟩ := by
          rcases S4.out.at_ with ⟨_, _, e0, _⟩ | ⟨q4, e0, _, _⟩
          · omega
          · exact ⟨q4, e0⟩
        go_wp2
        go_ret
        exact ⟨_, _, _, rfl, S4.out, Z.out.1, Z.out.2, B4.out⟩

set_option maxHeartbeats 800000 in
/-- sortedInts of different numbers. -/
theorem specSorted (A : Option Addr) (n c : Nat) (xs : List Int) (w : World) (hx : RI w w.heap.size A xs) (lx : Hid (xs.length = n)) (hd : Hid xs.Nodup) (hn : n ≤ 1000) :
    Calls Try.prog 57 #[.slice A n c] w fun e w' => ∃ g' c' zs, e = .returned (.slice (some ⟨g', 0, none⟩) n c') ∧ Slc w' w.heap.size (some ⟨g', 0, none⟩) n c' zs ∧ zs.Perm xs ∧ zs.Pairwise (· ≤ ·) ∧ Below w.heap.size w w' := by
  have HX := Lib.hid hx
  clear hx
  go_enter Try.func57, Try.ntmps57
  go_wp2
  go_loopw [3, 4] (fun v i wr => ∃ k g' c' zs, k ≤ n ∧ i = .int .i64 (k : Nat) ∧ v = .slice (some ⟨g', 0, none⟩) k c' ∧ Slc wr w.heap.size (some ⟨g', 0, none⟩) k c' zs ∧ zs.Perm (xs.take k) ∧ zs.Pairwise (· ≤ ·) ∧ Below w.heap.size w wr) (fun _ i _ => n - (intOf i).toNat)
  case atStart => exact ⟨0, _, _, [], Nat.zero_le _, rfl, rfl, Slc.lit0 w _ (Nat.le_refl _), by simp, List.Pairwise.nil, (Below.refl _ _).alloc (Nat.le_refl _) _⟩
  case round =>
    obtain ⟨k, g', c', zs, hk, rfl, rfl, ss, hpm, hst, bel⟩ := hrel
    have Ss := Lib.hid ss
    have Pm := Lib.hid hpm
    have St := Lib.hid hst
    have Be := Lib.hid bel
    clear ss hpm hst bel
    by_cases hlt : k < n
    · obtain ⟨b, off, rfl, hb, hc⟩ := (HX.out.below Be.out (Nat.le_refl _)) (by rw [lx.out]; omega)
      have c1 := hc k (by rw [lx.out]; exact hlt)
      obtain ⟨u, eu⟩ : ∃ u, xs.getD k 0 = u := ⟨_, rfl⟩
      rw [eu] at c1
      have Tk : Hid (xs.take (k + 1) = xs.take k ++ [u]) := Lib.hid (by
        rw [List.getD_eq_getElem?_getD, List.getElem?_eq_getElem (by rw [lx.out]; exact hlt)] at eu
        have e2 : xs[k]'(by rw [lx.out]; exact hlt) = u := by simpa using eu
        rw [List.take_succ_eq_append_getElem (by rw [lx.out]; exact hlt), e2])
      have Nu : Hid (u ∉ zs) := Lib.hid fun h => by
        have h1 := Pm.out.mem_iff.1 h
        have h2 := hd.out.sublist (List.take_sublist (k + 1) xs)
        rw [Tk.out, List.nodup_append] at h2
        exact h2.2.2 u h1 u (by simp) rfl
      clear eu hc
      go_wp2_with fail
      refine (specIns g' k c' w.heap.size zs u wr Ss.out Nu (by omega)).mono ?_
      rintro e w2 ⟨g2, c2, ys, rfl, s2, p2, st2, b2⟩
      have S2 := Lib.hid (s2.mono Be.out.size)
      have P2 : Hid (ys.Perm (xs.take (k + 1))) := Lib.hid (by
        rw [Tk.out]
        exact p2.trans ((Pm.out.cons u).trans (List.perm_append_comm (l₁ := [u]))))
      have St2 := Lib.hid (st2 St.out)
      have B2 : Hid (Below w.heap.size w w2) := Lib.hid (btr Be.out b2)
      clear s2 p2 st2 b2
      go_wp2
      go_roundw
      case rel => exact ⟨k + 1, _, _, ys, by omega, by go_num, rfl, S2.out, P2.out, St2.out, B2.out⟩
      case measure => simp [intOf]; omega
    · have hkn : k = n := by omega
      subst hkn
      have P2 : Hid (zs.Perm xs) := Lib.hid (by have := Pm.out; rwa [List.take_of_length_le (by rw [lx.out]; exact Nat.le_refl _)] at this)
      go_wp2
      go_ret
      exact ⟨_, _, _, rfl, Ss.out, P2.out, St.out, Be.out⟩

set_option maxHeartbeats 4000000 in
set_option maxRecDepth 100000 in
/-- orbitOf. -/
theorem specOrbOf (x : Nat) (A : Option Addr) (n c N : Nat) (vs : List SV) (gs : List (List Int)) (w : World) (hx : RR w w.heap.size A n vs gs) (hp : Hid (PMs N gs)) (hxN : x < N) (hN : N ≤ 1000) (hn : n ≤ 8) :
    Calls Try.prog 58 #[.slice A n c, .int .i64 (x : Nat)] w fun e w' => ∃ g' c', e = .returned (.slice (some ⟨g', 0, none⟩) (orb gs N x).length c') ∧ Slc w' w.heap.size (some ⟨g', 0, none⟩) (orb gs N x).length c' ((orb gs N x).map Int.ofNat) ∧ Below w.heap.size w w' := by
  have HX := Lib.hid hx
  have hlx := hx.lx
  have S0 := Lib.hid (Slc.lit1 w w.heap.size (x : Int) (Nat.le_refl _))
  have B0 : Hid (Below w.heap.size w (w.alloc (.cells #[.int .i64 (x : Int)] 2))) := Lib.hid ((Below.refl _ _).alloc (Nat.le_refl _) _)
  clear hx
  go_enter Try.func58, Try.ntmps58
  go_wp2
  go_loopg [5, 6] (N + 1) (fun gg v i wr => ∃ (k : Nat) (f : List Nat) (g' : Nat) (c' : Nat), k ≤ f.length ∧ N + 1 - k ≤ gg ∧ i = .int .i64 (k : Nat) ∧ v = .slice (some ⟨g', 0, none⟩) f.length c' ∧ Slc wr w.heap.size (some ⟨g', 0, none⟩) f.length c' (f.map Int.ofNat) ∧
    Fd gs N x f ∧ bfs gs (N + 1 - k) k f = orb gs N x ∧ Below w.heap.size w wr)
  case atStart => exact ⟨0, [x], _, _, Nat.zero_le _, Nat.le_refl _, rfl, rfl, S0.out, Fd.one hxN, rfl, B0.out⟩
  case round =>
    clear S0 B0
    obtain ⟨k, f, g', c', hk, hgk, rfl, rfl, ss, fd, hbf, gro⟩ := hrel
    have Ss := Lib.hid ss
    have Fq := Lib.hid fd
    have Hbf := Lib.hid hbf
    have Gr := Lib.hid gro
    have hfN := fd.len
    clear ss fd hbf gro
    by_cases hlt : k < f.length
    · obtain ⟨u, hu⟩ : ∃ u, f.getD k 0 = u := ⟨_, rfl⟩
      have huf : Hid (u ∈ f) := Lib.hid (by rw [← hu]; exact getD_memN hlt)
      have Hu := Lib.hid hu
      have huN : u < N := Fq.out.lt u huf.out
      clear hu
      go_wp2
      obtain ⟨wl, rfl⟩ : ∃ wl, wl = wr := ⟨_, rfl⟩
      go_loopg [5, 7] n (fun gg v i wr2 => ∃ (j : Nat) (f2 : List Nat) (g2 : Nat) (c2 : Nat), j ≤ n ∧ n - j ≤ gg ∧ i = .int .i64 (j : Nat) ∧ v = .slice (some ⟨g2, 0, none⟩) f2.length c2 ∧ Slc wr2 w.heap.size (some ⟨g2, 0, none⟩) f2.length c2 (f2.map Int.ofNat) ∧
        f2 = expk gs j u f ∧ Below w.heap.size w wr2)
      case atStart => exact ⟨0, f, _, _, Nat.zero_le _, Nat.le_refl _, rfl, rfl, Ss.out, expk_zero.symm, Gr.out⟩
      case round =>
        obtain ⟨j, f2, g2, c2, hj, hgj, rfl, rfl, ss2, ef2, gro2⟩ := hrel
        have Ss2 := Lib.hid ss2
        have Ef := Lib.hid ef2
        have Gr2 := Lib.hid gro2
        have fd2 : Hid (Fd gs N x f2) := Lib.hid (by rw [ef2]; exact expk_fd hp.out Fq.out huf.out)
        have hf2N := fd2.out.len
        have hpre : k < f2.length ∧ f2.getD k 0 = u := by
          obtain ⟨t, et⟩ := expk_pre (gs := gs) (k := j) (u := u) (f := f)
          rw [ef2, et]
          exact ⟨by rw [List.length_append]; omega, by rw [getD_preN hlt]; exact Hu.out⟩
        have hk2 := hpre.1
        have Hu2 := Lib.hid hpre.2
        clear ss2 ef2 gro2 hpre
        by_cases hjl : j < n
        · obtain ⟨b, off, A5, l, c5, y, rfl, hbB, ev, ey, hc0, hr0, hy, hlc⟩ := (HX.out.below Gr2.out (Nat.le_refl _)).at_ hjl
          have hyp : PM N y := hp.out y (by rw [← ey]; exact getD_memL (by rw [hlx]; exact hjl))
          obtain ⟨b2, off2, rfl, hb2, hc2⟩ := hr0 (by rw [hyp.len]; omega)
          have c2' := hc2 u (by rw [hyp.len]; exact huN)
          rw [hyp.nx_val huN] at c2'
          have hvN := hyp.nx_lt huN
          have Nx := Lib.hid (expk_succ (u := u) (f := f) (by rw [hlx]; exact hjl) ey)
          have c3 := Ss2.out.cellN hk2
          rw [Hu2.out] at c3
          obtain ⟨v, ev2⟩ : ∃ v, nx y u = v := ⟨_, rfl⟩
          rw [ev2] at c2' hvN
          have Ev := Lib.hid ev2
          have hl' : l = N := by rw [← hy]; exact hyp.len
          have q1 : (0 : Int) ≤ j := by omega
          have q2 : (j : Int) < n := by omega
          have q3 : (0 : Int) ≤ k := by omega
          have q4 : (k : Int) < f2.length := by omega
          have q5 : (0 : Int) ≤ u := by omega
          have q6 : (u : Int) < l := by omega
          subst hl'
          clear ev ey hr0 hy hyp hc2 ev2
          go_wp2
          go_quiet (fail)
          have c5' : ∀ q, (wr.drewN q).cell? = wr.cell? := fun q => rfl
          go_wp2_with fail
          refine (containsI_any (some ⟨g2, 0, none⟩) c2 f2.length _ (v : Int) _ _ (Ss2.out.ri_.drewN _) (Lib.hid (by simp)) (by omega) (decide (v ∈ f2)) (Lib.hid hasB_nat)).mono ?_
          rintro e w5 ⟨rfl, rfl⟩
          by_cases hm : v ∈ f2
          · have Nx2 : Hid (expk gs (j + 1) u f = f2) := Lib.hid (by rw [Nx.out, ← Ef.out, Ev.out, addN_yes hm])
            rw [decide_eq_true hm]
            clear hm
            go_wp2
            go_roundg (n - (j + 1))
            case rel => exact ⟨j + 1, f2, _, _, by omega, by omega, by go_num, rfl, Ss2.out.drewN _, Nx2.out.symm, below_drewN Gr2.out _⟩
            case measure => omega
          · have Nx2 : Hid (expk gs (j + 1) u f = f2 ++ [v]) := Lib.hid (by rw [Nx.out, ← Ef.out, Ev.out, addN_no hm])
            rw [decide_eq_false hm]
            clear hm
            have hz3 := Gr2.out.size
            have hc9 : ∀ q, ((wr.drewN q).alloc (.cells #[.int .i64 ((v : Nat) : Int)] 2)).cell? ⟨wr.heap.size, 0, none⟩ = some (.int .i64 ((v : Nat) : Int)) := fun q => by
              rw [show wr.heap.size = (wr.drewN q).heap.size from rfl, World.cell?_alloc_at _ _ _ _ rfl]; rfl
            have HC9 := Lib.hid hc9
            have hz9 : ∀ q, w.heap.size ≤ ((wr.drewN q).alloc (.cells #[.int .i64 ((v : Nat) : Int)] 2)).heap.size := fun q => by rw [World.size_alloc]; exact Nat.le_succ_of_le hz3
            have HZ9 := Lib.hid hz9
            clear hc9 hz9
            go_wp2_with (first | (at_builtin; refine wpList_app1 rfl _ _ rfl w.heap.size (some ⟨g2, 0, none⟩) f2.length c2 _ rfl ((Ss2.out.drewN _).alloc _) wr.heap.size ((v : Nat) : Int) rfl (HC9.out _) (by omega) (HZ9.out _) ?_; intro A3 c3 w3 ss3 hg3))
            have Ss4 : Hid (Slc w3 w.heap.size A3 (f2 ++ [v]).length c3 ((f2 ++ [v]).map Int.ofNat)) := Lib.hid (by
              rw [List.length_append, List.map_append]; exact ss3)
            have Gr4 : Hid (Below w.heap.size w w3) := Lib.hid (((below_drewN Gr2.out _).alloc hz3 _).grown hg3 (HZ9.out _) (fun i hi => (Ss2.out.lt_ i hi).1))
            obtain ⟨g4, rfl⟩ : ∃ q4, A3 = some ⟨q4, 0, none⟩ := by
              rcases Ss4.out.at_ with ⟨_, _, e0, _⟩ | ⟨q4, e0, _, _⟩
              · rw [List.length_append] at e0; simp at e0
              · exact ⟨q4, e0⟩
            clear ss3 hg3
            go_wp2
            go_roundg (n - (j + 1))
            case rel => exact ⟨j + 1, f2 ++ [v], _, _, by omega, by omega, by go_num, by simp, Ss4.out, Nx2.out.symm, Gr4.out⟩
            case measure => omega
        · have hjn : j = n := by omega
          subst hjn
          have Ee : Hid (f2 = expd gs u f) := Lib.hid (by rw [Ef.out, ← hlx, expk_all])
          have Hb2 : Hid (bfs gs (N + 1 - (k + 1)) (k + 1) f2 = orb gs N x) := Lib.hid (by rw [Ee.out, ← Hu.out, ← bfs_go hlt hfN]; exact Hbf.out)
          go_wp2
          go_roundg (N + 1 - (k + 1))
          case rel => exact ⟨k + 1, f2, _, _, by omega, by omega, by go_num, rfl, Ss2.out, fd2.out, Hb2.out, Gr2.out⟩
          case measure => omega
    · have hkl : k = f.length := by omega
      have Eo : Hid (f = orb gs N x) := Lib.hid (by rw [← Hbf.out, bfs_end (by omega)])
      go_wp2
      go_ret
      exact ⟨_, _, by rw [← Eo.out]; rfl, by rw [← Eo.out]; exact Ss.out, Gr.out⟩
end Go.Proofs.Ytojmlmeahoppjaa
