/- Part 8 of the texts: WalkJ4, Nmd4. No condition of its own: each text tells its own. -/
import Derived.Test.YtooafmifbplbhaaMg7
import Derived.Test.YtooafmifbplbhaaMg2
import Derived.Test.YtooafmifbplbhaaMg6
set_option linter.unusedVariables false
set_option linter.unusedSimpArgs false

/- The walk of the law FnStrongGenerators: it returns true at every input, and writes nothing that was there. No condition but the program's own contracts. -/
namespace Go.Proofs.Ytooafmifbplbhaa
open Go.RowKit

/-! ### the orbit sizes and the stabilizers of the first points -/
section
variable {N : Nat} {gs : List (List Int)} {xs : List Int}
theorem fxs_id {k : Nat} {p : List Int} : Fxs (idL k) p ↔ Fx k p := by
  unfold Fxs
  rw [idL_length]
  exact ⟨fun h j hj => by have := h j hj; rwa [nx_id hj] at this, fun h j hj => by rw [nx_id hj]; exact h j hj⟩
theorem pts_id {k : Nat} (hk : k ≤ N) : PtS N (idL k) := by
  refine ⟨by rw [idL_length]; exact hk, fun i hi => ?_⟩
  rw [idL_length] at hi
  rw [idL_getD hi]
  exact ⟨by omega, by omega, fun h => by rw [idL_getD (by omega)]; omega⟩
theorem stb_id {k : Nat} {v : Int} (h : IsOS N gs xs) (hgB : gB (N : Int) gs = true) (hg : ∀ g ∈ gs, Pn N g) (h1 : 1 ≤ N) (h2 : N ≤ 20) (hk : k ≤ N) (hs : IsStb (N : Int) gs (idL k) v) : v = pr xs k (N - k) := by
  rcases hs with ⟨_, _, c, hc, rfl⟩ | ⟨hn, _⟩
  · rw [Int.toNat_natCast] at hc
    obtain ⟨c', hc', e⟩ := h.card hg h1 h2 (N - k) k (by omega)
    rw [e, hc.uniq (hc'.congr fun p => by rw [fxs_id])]
  · exact absurd ⟨hgB, by rw [Int.toNat_natCast]; exact pts_id hk⟩ hn
theorem pr_div (h : IsOS N gs xs) (hg : ∀ g ∈ gs, Pn N g) (h1 : 1 ≤ N) (h2 : N ≤ 20) {k : Nat} (hk : k < N) : (pr xs k (N - k)).tdiv (xs.getD k 0) = pr xs (k + 1) (N - (k + 1)) := by
  have hb := h.bnd hg h1 h2 hk
  rw [show N - k = N - (k + 1) + 1 by omega, pr_front, Int.mul_comm, Int.mul_tdiv_cancel _ (by omega)]

/-! ### the strong generating set generates -/
theorem Sgs.has {ps : List (Nat × Nat)} {l : List (List Int)} (h : Sgs N gs ps l) : ∀ q ∈ ps, ∃ m ok, IsMwp N gs (preOf q) m ok ∧ (ok = true → m ∈ l) := by
  induction ps generalizing l with
  | nil => intro q hq; cases hq
  | cons p ps ih =>
    obtain ⟨m, ok, rest, a1, a2, rfl⟩ := h
    intro q hq
    rcases List.mem_cons.1 hq with rfl | hq
    · exact ⟨m, ok, a1, fun e => by rw [if_pos e]; simp⟩
    · obtain ⟨m', ok', b1, b2⟩ := ih a2 q hq
      exact ⟨m', ok', b1, fun e => List.mem_append_right _ (b2 e)⟩
theorem prs_mem {i y : Nat} (hy : i < y) (hyN : y < N) : ∀ k, i < k → k ≤ N → (i, y) ∈ prs N k
  | 0, h, _ => absurd h (Nat.not_lt_zero _)
  | k + 1, h, hk => by
    show (i, y) ∈ prs N k ++ prsI N k (N - (k + 1))
    by_cases e : i = k
    · subst e
      refine List.mem_append_right _ (List.mem_map.2 ⟨y - (i + 1), List.mem_range.2 (by omega), ?_⟩)
      rw [show i + 1 + (y - (i + 1)) = y by omega]
    · exact List.mem_append_left _ (prs_mem hy hyN k (by omega) (by omega))
theorem preOf_nx {i y : Nat} {q : List Int} : (∀ t, t < (preOf (i, y)).length → (nx q t : Int) = (preOf (i, y)).getD t 0) ↔ Fx i q ∧ nx q i = y := by
  have hlen : (preOf (i, y)).length = i + 1 := by unfold preOf; rw [List.length_append, idL_length]; rfl
  have h1 : ∀ t, t < i → (preOf (i, y)).getD t 0 = (t : Int) := fun t ht => by
    unfold preOf; rw [getD_app _ _ _ _ (by rw [idL_length]; exact ht), idL_getD ht]
  have h2 : (preOf (i, y)).getD i 0 = (y : Int) := by unfold preOf; rw [getD_snoc _ _ _ _ (by rw [idL_length])]
  rw [hlen]
  constructor
  · intro h
    exact ⟨fun t ht => by have := h t (by omega); rw [h1 t ht] at this; omega, by have := h i (by omega); rw [h2] at this; omega⟩
  · rintro ⟨a, b⟩ t ht
    by_cases e : t = i
    · subst e; rw [h2, b]
    · rw [h1 t (by omega), a t (by omega)]
theorem sgs_gen {l : List (List Int)} (h : Sgs N gs (prs N N) l) (hg : ∀ g ∈ gs, Pn N g) (h1 : 1 ≤ N) (h2 : N ≤ 20) : ∀ m i, i + m = N → ∀ p, Mb gs N p → Fx i p → Mb l N p := by
  have hlp : ∀ g ∈ l, Pn N g := fun g hg' => ((h.ok h1 h2 hg).2 g hg').1.pn hg h1 h2
  intro m
  induction m with
  | zero =>
    intro i e p hp hf
    obtain rfl : i = N := by omega
    rw [hf.all (hp.pn hg h1 h2)]; exact .one
  | succ m ih =>
    intro i e p hp hf
    have hpp := hp.pn hg h1 h2
    have hi : i < N := by omega
    by_cases hy : nx p i = i
    · exact ih (i + 1) (by omega) p hp (hf.succ hy)
    · have hge := hf.ge hpp hi
      have hlt := hpp.lt hi
      obtain ⟨r, ok, hr, hm⟩ := h.has (i, nx p i) (prs_mem (by omega) hlt N hi (Nat.le_refl _))
      rcases hr with ⟨rfl, gr⟩ | ⟨_, _, hn⟩
      · have hrl := hm rfl
        have hrp := hlp r hrl
        have hpre := preOf_nx.1 fun t ht => (gr.2 t (by
          have hlen : (preOf (i, nx p i)).length = i + 1 := by unfold preOf; rw [List.length_append, idL_length]; rfl
          rw [hlen] at ht; omega)).1 ht
        have hq := ih (i + 1) (by omega) (compL p (iv r)) (hp.comp hg h1 h2 (gr.1.inv hg h1 h2)) (Fx.succ (hf.comp hpp (hpre.1.iv hrp (by omega)) (by omega)) (by
          rw [hpp.nxc hi]
          have := hrp.nxi (x := i) hi
          rw [hpre.2] at this; exact this))
        have := Mb.mul hq hrl
        rwa [hpp.assoc hrp.iv, hrp.ic, hpp.idr] at this
      · exact absurd (preOf_nx.2 ⟨hf, rfl⟩) (hn p hp)
theorem sgs_same {l : List (List Int)} (hgB : gB (N : Int) gs = true) (h : Sgs N gs (prs N N) l) (hg : ∀ g ∈ gs, Pn N g) (h1 : 1 ≤ N) (h2 : N ≤ 20) (hl : l.length ≤ 8) : SameG (N : Int) gs l := by
  have hok := (h.ok h1 h2 hg).2
  refine ⟨hgB, gB_iff.2 ⟨by omega, by omega, hl, fun y hy => ⟨by rw [(hok y hy).2], isP_iff.2 ((hok y hy).1.pn hg h1 h2).1⟩⟩, fun y hy => ?_, fun y hy => ?_⟩
  · rw [Int.toNat_natCast]; exact (hok y hy).1
  · rw [Int.toNat_natCast]; exact sgs_gen h hg h1 h2 N 0 (by omega) y (.of (hg y hy) hy) Fx.zero
end

set_option maxHeartbeats 1000000 in
theorem drawSG (len cap : Nat) (A : Option Addr) (w : World) (hb : SB w w.heap.size A len) (hl : len ≤ 4096) :
    Calls Try.prog 22 #[.slice A len cap] w fun e w' => ∃ (z : Int) (A : Option Addr) (m c : Nat) (vs : List SV) (xss : List (List Int)), e = .returned (.tuple #[.int .i64 z, .slice A m c]) ∧ I64 z ∧ GIn w' A m vs xss ∧ Below w.heap.size w w' := by
  go_enter Try.func22, Try.ntmps22
  go_wp2_with fail
  refine (newSrc len cap A w hb hl).mono ?_
  rintro e w1 ⟨rfl, s1, b1⟩
  have S1 := Lib.hid s1
  have B1 := Lib.hid b1
  clear s1 b1
  go_wp2_with fail
  refine (drawGroupX w.heap.size w1 S1.out).mono ?_
  rintro e w2 ⟨z, A2, m, c, vs, xss, rfl, hB, rx, hm, hln, s2, g2⟩
  have HB := Lib.hid hB
  have Gi : Hid (GIn w2 A2 m vs xss) := Lib.hid ⟨rx.rr, by omega, fun i hi => by have := hln i hi; omega⟩
  have B2 : Hid (Below w.heap.size w w2) := Lib.hid (below_gro4 B1.out g2 (Nat.le_refl _))
  clear hB rx hln s2 g2
  go_wp2_with fail
  go_ret2
  exact ⟨_, _, _, _, vs, xss, rfl, HB.out, Gi.out, B2.out⟩

set_option maxHeartbeats 8000000 in
set_option maxRecDepth 100000 in
theorem lawStrongGenerators (IG : CtImM 23 IsSgs) (IS : CtImsI 29 IsStb) (IM : CtImsB 15 IsMem) (IE : CtImmB 30 IsSam) (A : Option Addr) (cap len : Nat) (w : World) (hb : SB w w.heap.size A len) :
    Calls Try.prog 4 #[.slice A len cap] w fun e w' => e = .returned (.bool true) ∧ Below w.heap.size w w' := by
  by_cases hl : len ≤ 4096
  · go_enter Try.func4, Try.ntmps4
    go_wp2_with fail
    refine (bigF4 A len cap w hl).mono ?_
    rintro e w0 ⟨rfl, rfl⟩
    go_wp2_with fail
    refine (drawSG len cap A w hb hl).mono ?_
    rintro e w1 ⟨z, A1, m, c, vs, xss, rfl, hB, gi, b1⟩
    have G1 := Lib.hid gi
    have HB := Lib.hid hB
    have B1 := Lib.hid b1
    clear gi b1 hB hb
    go_wp2_with fail
    refine (IG z A1 m c vs xss w1 G1.out HB.out).mono ?_
    rintro e w2 ⟨A2, m2, c2, us2, l2, rfl, s2, r2, b2⟩
    have R2 := Lib.hid r2
    have bd := boundSgs r2
    have hm2 : m2 ≤ 1048576 := by rw [← s2.lx]; exact bd.1
    have L2 : Hid (∀ i, i < m2 → (l2.getD i []).length ≤ 1048576) := Lib.hid fun i hi => bd.2.1 i (by rw [s2.lx]; exact hi)
    have O2 : Hid (RR w2 w2.heap.size A2 m2 us2 l2) := Lib.hid s2.rr
    have G2 := Lib.hid (G1.out.up b2)
    have B2 : Hid (Below w.heap.size w w2) := Lib.hid (btr B1.out b2)
    clear r2 s2 b2 bd
    go_wp2_with fail
    refine (ctSgs z A1 m c vs xss w2 G2.out HB.out).mono ?_
    rintro e w3 ⟨A3, m3, c3, us3, l3, rfl, s3, r3, b3⟩
    obtain rfl : l3 = l2 := r3.uniq R2.out
    have O3 := Lib.hid (O2.out.up b3)
    have J3 : Hid (RR w3 w3.heap.size A3 m3 us3 l3) := Lib.hid s3.rr
    have G3 := Lib.hid (G2.out.up b3)
    have B3 : Hid (Below w.heap.size w w3) := Lib.hid (btr B2.out b3)
    clear r3 s3 b3
    go_wp2_with fail
    refine (likeRR_same A2 A3 m2 c2 m3 c3 us2 us3 _ w3 O3.out J3.out hm2 L2).mono ?_
    rintro e w4 ⟨rfl, b4⟩
    have O4 := Lib.hid (O3.out.up b4)
    have G4 := Lib.hid (G3.out.up b4)
    have B4 : Hid (Below w.heap.size w w4) := Lib.hid (btr B3.out b4)
    clear b4 J3
    go_wp2_with fail
    refine (specGS z A1 m c vs xss w4 G4.out.rr G4.out.hn (Lib.hid G4.out.hl) HB.out).mono ?_
    rintro e w5 ⟨rfl, b5⟩
    have O5 := Lib.hid (O4.out.up b5)
    have G5 := Lib.hid (G4.out.up b5)
    have B5 : Hid (Below w.heap.size w w5) := Lib.hid (btr B4.out b5)
    clear b5
    rcases hq : gB z xss with _ | _
    · have e0 : l3 = [] := by
        rcases R2.out with ⟨e, _⟩ | ⟨_, e⟩
        · rw [hq] at e; cases e
        · exact e
      obtain rfl : m2 = 0 := by rw [← O5.out.lx, e0]; rfl
      clear hq e0
      go_wp2_with fail
      go_ret
      exact ⟨rfl, B5.out⟩
    · obtain ⟨N, rfl, hN1, hN2, hg8, hpm, hok⟩ := gB_pm hq
      have Ok : Hid (∀ g ∈ xss, Pn N g) := Lib.hid hok
      have Hq := Lib.hid hq
      have Sg : Hid (Sgs N xss (prs N N) l3) := Lib.hid (by
        rcases R2.out with ⟨_, h⟩ | ⟨e, _⟩
        · rw [Int.toNat_natCast] at h; exact h
        · rw [hq] at e; cases e)
      clear hq hpm hok
      go_wp2_with fail
      refine (ctSiz N A1 m c vs xss w5 G5.out HB.out).mono ?_
      rintro e w6 ⟨A6, n6, c6, xs, rfl, s6, r6, b6⟩
      have os : IsOS N xss xs := by
        rcases r6 with ⟨_, h⟩ | ⟨e, _⟩
        · rw [Int.toNat_natCast] at h; exact h
        · have := Hq.out; rw [this] at e; cases e
      have Os := Lib.hid os
      obtain rfl : n6 = N := by rw [← s6.1]; exact os.1
      have X6 : Hid (RI w6 w6.heap.size A6 xs) := Lib.hid s6.ri_
      have O6 := Lib.hid (O5.out.up b6)
      have G6 := Lib.hid (G5.out.up b6)
      have B6 : Hid (Below w.heap.size w w6) := Lib.hid (btr B5.out b6)
      clear r6 s6 b6 os
      go_wp2_with fail
      refine (ctOrd n6 A1 m c vs xss w6 G6.out HB.out).mono ?_
      rintro e w7 ⟨v7, rfl, r7, b7⟩
      obtain rfl : v7 = pr xs 0 (n6 - 0) := by
        rcases r7 with ⟨_, ys, h, e⟩ | ⟨e, _⟩
        · rw [Int.toNat_natCast] at h
          rw [e, h.uniq Os.out, prodL_pr, Os.out.1]; rfl
        · have := Hq.out; rw [this] at e; cases e
      have X7 := Lib.hid (X6.out.up b7)
      have O7 := Lib.hid (O6.out.up b7)
      have G7 := Lib.hid (G6.out.up b7)
      have B7 : Hid (Below w.heap.size w w7) := Lib.hid (btr B6.out b7)
      have P0 := Lib.hid (Slc.lit0 w7 w7.heap.size (Nat.le_refl _))
      have hz7 := B7.out.size
      clear r7 b7
      go_wp2_with fail
      go_loopw [7, 8, 9] (fun o v i wr => ∃ (k cc : Nat) (A' : Option Addr), k ≤ n6 ∧ i = .int .i64 (k : Nat) ∧ v = .slice A' k cc ∧ o = .int .i64 (pr xs k (n6 - k)) ∧ Slc wr w7.heap.size A' k cc (idL k) ∧ Below w7.heap.size w7 wr) (fun _ _ i _ => n6 - (intOf i).toNat)
      case atStart => exact ⟨0, _, _, Nat.zero_le _, rfl, rfl, rfl, P0.out, (Below.refl _ _).alloc (Nat.le_refl _) _⟩
      case round =>
        clear P0
        obtain ⟨k, cc, A', hk, rfl, rfl, rfl, hp, bel⟩ := hrel
        have P8 := Lib.hid hp
        have G8 := Lib.hid (G7.out.up bel)
        have Be := Lib.hid bel
        have hz8 := bel.size
        have Sp : Hid (SIn wr A' k cc (idL k)) := Lib.hid ⟨hp.ri_, hp.1, by omega, hp.le.1⟩
        clear hp bel
        by_cases hlt : k < n6
        · go_wp2_with fail
          refine (IS n6 A1 m c vs xss A' k cc (idL k) wr G8.out Sp.out HB.out).mono ?_
          rintro e w9 ⟨v9, rfl, r9, b9⟩
          obtain rfl : v9 = pr xs k (n6 - k) := stb_id Os.out Hq.out Ok.out hN1 hN2 hk r9
          have P9 := Lib.hid (P8.out.up b9)
          have B9 : Hid (Below w7.heap.size w7 w9) := Lib.hid (btr Be.out b9)
          have ne1 : (pr xs k (n6 - k) != pr xs k (n6 - k)) = false := by simp
          clear r9 b9
          obtain ⟨b, off, rfl, hb, hc⟩ := X7.out (by rw [Os.out.1]; omega)
          have x1 := hc k (by rw [Os.out.1]; exact hlt)
          have hbd := Os.out.bnd Ok.out hN1 hN2 hlt
          have hdv := pr_div Os.out Ok.out hN1 hN2 hlt
          obtain ⟨y, hy⟩ : ∃ y, xs.getD k 0 = y := ⟨_, rfl⟩
          rw [hy] at x1 hbd hdv
          have hpb := Os.out.pr_le Ok.out hN1 hN2 (k + 1) (n6 - (k + 1)) (by omega)
          have hfb := facts_le hN2 (k + 1 + (n6 - (k + 1))) (by omega)
          obtain ⟨q1, hq1⟩ : ∃ q, pr xs (k + 1) (n6 - (k + 1)) = q := ⟨_, rfl⟩
          obtain ⟨q0, hq0⟩ : ∃ q, pr xs k (n6 - k) = q := ⟨_, rfl⟩
          rw [hq1] at hdv hpb
          rw [hq0] at hdv ne1 ⊢
          have Hq1 := Lib.hid hq1
          have wq : IntKind.i64.wrap q1 = q1 := by rw [IntKind.wrap_i64]; omega
          have y0 : ¬ (y = 0) := by omega
          have z0 : (0 : Int) ≤ k := by omega
          have z1 : (k : Int) < n6 := by omega
          have Hb := Lib.hid hb
          have Hc := Lib.hid x1
          clear hb hc hy hbd hpb hfb hq1 hq0 x1
          go_wp2_with (first | (at_builtin; refine wpList_app1 rfl _ _ rfl w7.heap.size A' k cc _ rfl (P9.out.alloc _) w9.heap.size (k : Int) rfl (by rw [World.cell?_alloc_at _ _ _ _ rfl]; rfl) (by omega) (by have := B9.out.size; simp; omega) ?_; intro A10 c10 w10 s10 g10
                                have b10 : Below w7.heap.size w7 w10 := (B9.out.alloc B9.out.size _).grown g10 (by have := B9.out.size; simp; omega) (fun j hj => (P9.out.lt_ j hj).1)
                                have x10 : w10.cell? ⟨b, off + k, none⟩ = some (.int .i64 y) := (b10.cell (p := ⟨b, off + k, none⟩) Hb.out).trans Hc.out
                                have B10 := Lib.hid b10
                                have P10 : Hid (Slc w10 w7.heap.size A10 (k + 1) c10 (idL (k + 1))) := Lib.hid (by rw [idL_succ]; exact s10)
                                clear b10 s10 g10))
          go_roundw
          case rel => exact ⟨k + 1, _, _, by omega, by go_num, rfl, by rw [Hq1.out], P10.out, B10.out⟩
          case measure => simp [intOf]; omega
        · obtain rfl : k = n6 := by omega
          obtain ⟨vv, hvv⟩ : ∃ v, pr xs k (k - k) = v := ⟨_, rfl⟩
          rw [hvv]
          clear hvv
          have O8 := Lib.hid (O7.out.up Be.out)
          go_wp2_with fail
          obtain ⟨wl, rfl⟩ : ∃ wl, wl = wr := ⟨_, rfl⟩
          go_loopg [10] m2 (fun gg i wr => ∃ j : Nat, j ≤ m2 ∧ m2 - j ≤ gg ∧ i = .int .i64 (j : Nat) ∧ Below wl.heap.size wl wr)
          case atStart => exact ⟨0, Nat.zero_le _, by omega, rfl, Below.refl _ _⟩
          case round =>
            obtain ⟨j, hj, hgj, rfl, bel⟩ := hrel
            have Bj := Lib.hid bel
            have G9 := Lib.hid (G8.out.up bel)
            have O9 := Lib.hid (O8.out.up bel)
            clear bel
            by_cases hjm : j < m2
            · obtain ⟨b, off, A5, l, c5, y, rfl, hb, hv, ey, x1, ri, ly, hl5⟩ := O9.out.at_ hjm
              have hym : y ∈ l3 := by rw [← ey]; exact getD_memL (by rw [O9.out.lx]; exact hjm)
              have hok := (Sg.out.ok hN1 hN2 Ok.out).2 y hym
              have hcl : l ≤ c5 := by have := O9.out.caps j hjm; rw [hv] at this; exact this
              obtain rfl : l = k := by omega
              have Yp : Hid (Pn l y) := Lib.hid (hok.1.pn Ok.out hN1 hN2)
              have Ym := Lib.hid hok.1
              have Sy : Hid (SIn wr A5 l c5 y) := Lib.hid ⟨ri, hok.2, by omega, hcl⟩
              have q2 : (0 : Int) ≤ j := by omega
              have q3 : (j : Int) < m2 := by omega
              clear hb hv ey ri ly hl5 hok hym
              go_wp2_with fail
              refine (IM l A1 m c vs xss A5 l c5 y wr G9.out Sy.out HB.out).mono ?_
              rintro e w10 ⟨b10, rfl, rb10, bb10⟩
              obtain rfl : b10 = true := rb10.2 ⟨Hq.out, by rw [Yp.out.2], isP_iff.2 Yp.out.1, by rw [Int.toNat_natCast]; exact Ym.out⟩
              have B10 : Hid (Below wl.heap.size wl w10) := Lib.hid (btr Bj.out bb10)
              clear rb10 bb10
              go_wp2_with fail
              go_roundg (m2 - (j + 1))
              case rel => exact ⟨j + 1, by omega, by omega, by go_num, B10.out⟩
              case measure => omega
            · obtain rfl : j = m2 := by omega
              have S9 := Lib.hid (Sp.out.up Bj.out)
              go_wp2_with fail
              refine (IS k A1 m c vs xss A' k cc (idL k) wr G9.out S9.out HB.out).mono ?_
              rintro e w10 ⟨v10, rfl, r10, b10⟩
              obtain rfl : v10 = 1 := by
                have := stb_id Os.out Hq.out Ok.out hN1 hN2 (Nat.le_refl _) r10
                rw [Nat.sub_self] at this; exact this
              have O10 := Lib.hid (O9.out.up b10)
              have G10 := Lib.hid (G9.out.up b10)
              have B10 : Hid (Below w.heap.size w w10) := Lib.hid (btr (btr B7.out (Be.out.trans (Bj.out.mono hz8))) b10)
              clear r10 b10
              by_cases h8 : 8 < j
              · have d8 : decide ((8 : Int) < (j : Int)) = true := by simp; omega
                go_wp2_with fail
                go_ret
                exact ⟨rfl, B10.out⟩
              · have d8 : decide ((8 : Int) < (j : Int)) = false := by simp; omega
                have Gs : Hid (GIn w10 A2 j us2 l3) := Lib.hid ⟨O10.out, hm2, fun i hi => by rw [← O10.out.lens i hi]; exact L2.out i hi⟩
                go_wp2_with fail
                refine (IE k A1 m c vs xss A2 j c2 us2 l3 w10 G10.out Gs.out HB.out).mono ?_
                rintro e w11 ⟨b11, rfl, r11, bb11⟩
                obtain rfl : b11 = true := r11.2 (sgs_same Hq.out Sg.out Ok.out hN1 hN2 (by rw [O10.out.lx]; omega))
                have B11 : Hid (Below w.heap.size w w11) := Lib.hid (btr B10.out bb11)
                clear r11 bb11
                go_wp2_with fail
                go_ret
                exact ⟨rfl, B11.out⟩
  · clear hb
    go_enter Try.func4, Try.ntmps4
    go_wp2_with fail
    refine (bigT4 A len cap w (by omega)).mono ?_
    rintro e w0 ⟨rfl, rfl⟩
    go_wp2_with fail
    go_ret
    exact ⟨rfl, Below.refl _ _⟩
end Go.Proofs.Ytooafmifbplbhaa

/- The two named laws of chapter 4, with the program's contracts put in. Conditions: none beyond those of the texts imported. -/
namespace Go.Proofs.Ytooafmifbplbhaa
open Go.RowKit
theorem nmdMembership (A : Option Addr) (cap len : Nat) (w : World) (hb : SB w w.heap.size A len) :
    Calls Try.prog 3 #[.slice A len cap] w fun e w' => e = .returned (.bool true) ∧ Below w.heap.size w w' :=
  lawMembership implIsMember implLongestMemberPrefix implMemberWithPrefix A cap len w hb
theorem nmdStrongGenerators (A : Option Addr) (cap len : Nat) (w : World) (hb : SB w w.heap.size A len) :
    Calls Try.prog 4 #[.slice A len cap] w fun e w' => e = .returned (.bool true) ∧ Below w.heap.size w w' :=
  lawStrongGenerators implStrongGeneratingSet implStabilizerOrder implIsMember implSameGroup A cap len w hb
end Go.Proofs.Ytooafmifbplbhaa
