/- Part 7 of the texts: WalkJ4, PcT, PcU, Nmd4. No condition of its own: each text tells its own. -/
import Derived.Test.YtcjcmhoalomjfabMg6
import Derived.Test.YtcjcmhoalomjfabMg4
import Derived.Test.YtcjcmhoalomjfabMg5
import Derived.Test.YtcjcmhoalomjfabMg2
import Derived.Lib.AppendZerosOnto
import Derived.Lib.AppendZeros
set_option linter.unusedVariables false
set_option linter.unusedSimpArgs false

/- The walk of the law FnStrongGenerators: it returns true at every input, and writes nothing that was there. No condition but the program's own contracts. -/
namespace Go.Proofs.Ytcjcmhoalomjfab
open Go.RowKit

/-! ### the orbit sizes and the stabilizers of the first points -/
section
variable {N : Nat} {gs : List (List Int)} {xs : List Int}
theorem fxs_id {k : Nat} {p : List Int} : Fxs (idL k) p ↔ Fx k p := by
  unfold Fxs
  rw [idL_length]
  exact ⟨fun h j hj => by have := h j hj; rwa [nx_id hj] at this, fun h j hj => by rw [nx_id hj]; exact h j hj⟩
theorem pts_id {k : Nat} (hk : k ≤ N) : PtS N (idL k) := by
  refine ⟨by rw [idL_length]; exact hk, fun i hi => ?_⟩
  rw [idL_length] at hi
  rw [idL_getD hi]
  exact ⟨by omega, by omega, fun h => by rw [idL_getD (by omega)]; omega⟩
theorem stb_id {k : Nat} {v : Int} (h : IsOS N gs xs) (hgB : gB (N : Int) gs = true) (hg : ∀ g ∈ gs, Pn N g) (h1 : 1 ≤ N) (h2 : N ≤ 20) (hk : k ≤ N) (hs : IsStb (N : Int) gs (idL k) v) : v = pr xs k (N - k) := by
  rcases hs with ⟨_, _, c, hc, rfl⟩ | ⟨hn, _⟩
  · rw [Int.toNat_natCast] at hc
    obtain ⟨c', hc', e⟩ := h.card hg h1 h2 (N - k) k (by omega)
    rw [e, hc.uniq (hc'.congr fun p => by rw [fxs_id])]
  · exact absurd ⟨hgB, by rw [Int.toNat_natCast]; exact pts_id hk⟩ hn
theorem pr_div (h : IsOS N gs xs) (hg : ∀ g ∈ gs, Pn N g) (h1 : 1 ≤ N) (h2 : N ≤ 20) {k : Nat} (hk : k < N) : (pr xs k (N - k)).tdiv (xs.getD k 0) = pr xs (k + 1) (N - (k + 1)) := by
  have hb := h.bnd hg h1 h2 hk
  rw [show N - k = N - (k + 1) + 1 by omega, pr_front, Int.mul_comm, Int.mul_tdiv_cancel _ (by omega)]

/-! ### the strong generating set generates -/
theorem Sgs.has {ps : List (Nat × Nat)} {l : List (List Int)} (h : Sgs N gs ps l) : ∀ q ∈ ps, ∃ m ok, IsMwp N gs (preOf q) m ok ∧ (ok = true → m ∈ l) := by
  induction ps generalizing l with
  | nil => intro q hq; cases hq
  | cons p ps ih =>
    obtain ⟨m, ok, rest, a1, a2, rfl⟩ := h
    intro q hq
    rcases List.mem_cons.1 hq with rfl | hq
    · exact ⟨m, ok, a1, fun e => by rw [if_pos e]; simp⟩
    · obtain ⟨m', ok', b1, b2⟩ := ih a2 q hq
      exact ⟨m', ok', b1, fun e => List.mem_append_right _ (b2 e)⟩
theorem prs_mem {i y : Nat} (hy : i < y) (hyN : y < N) : ∀ k, i < k → k ≤ N → (i, y) ∈ prs N k
  | 0, h, _ => absurd h (Nat.not_lt_zero _)
  | k + 1, h, hk => by
    show (i, y) ∈ prs N k ++ prsI N k (N - (k + 1))
    by_cases e : i = k
    · subst e
      refine List.mem_append_right _ (List.mem_map.2 ⟨y - (i + 1), List.mem_range.2 (by omega), ?_⟩)
      rw [show i + 1 + (y - (i + 1)) = y by omega]
    · exact List.mem_append_left _ (prs_mem hy hyN k (by omega) (by omega))
theorem preOf_nx {i y : Nat} {q : List Int} : (∀ t, t < (preOf (i, y)).length → (nx q t : Int) = (preOf (i, y)).getD t 0) ↔ Fx i q ∧ nx q i = y := by
  have hlen : (preOf (i, y)).length = i + 1 := by unfold preOf; rw [List.length_append, idL_length]; rfl
  have h1 : ∀ t, t < i → (preOf (i, y)).getD t 0 = (t : Int) := fun t ht => by
    unfold preOf; rw [getD_app _ _ _ _ (by rw [idL_length]; exact ht), idL_getD ht]
  have h2 : (preOf (i, y)).getD i 0 = (y : Int) := by unfold preOf; rw [getD_snoc _ _ _ _ (by rw [idL_length])]
  rw [hlen]
  constructor
  · intro h
    exact ⟨fun t ht => by have := h t (by omega); rw [h1 t ht] at this; omega, by have := h i (by omega); rw [h2] at this; omega⟩
  · rintro ⟨a, b⟩ t ht
    by_cases e : t = i
    · subst e; rw [h2, b]
    · rw [h1 t (by omega), a t (by omega)]
theorem sgs_gen {l : List (List Int)} (h : Sgs N gs (prs N N) l) (hg : ∀ g ∈ gs, Pn N g) (h1 : 1 ≤ N) (h2 : N ≤ 20) : ∀ m i, i + m = N → ∀ p, Mb gs N p → Fx i p → Mb l N p := by
  have hlp : ∀ g ∈ l, Pn N g := fun g hg' => ((h.ok h1 h2 hg).2 g hg').1.pn hg h1 h2
  intro m
  induction m with
  | zero =>
    intro i e p hp hf
    obtain rfl : i = N := by omega
    rw [hf.all (hp.pn hg h1 h2)]; exact .one
  | succ m ih =>
    intro i e p hp hf
    have hpp := hp.pn hg h1 h2
    have hi : i < N := by omega
    by_cases hy : nx p i = i
    · exact ih (i + 1) (by omega) p hp (hf.succ hy)
    · have hge := hf.ge hpp hi
      have hlt := hpp.lt hi
      obtain ⟨r, ok, hr, hm⟩ := h.has (i, nx p i) (prs_mem (by omega) hlt N hi (Nat.le_refl _))
      rcases hr with ⟨rfl, gr⟩ | ⟨_, _, hn⟩
      · have hrl := hm rfl
        have hrp := hlp r hrl
        have hpre := preOf_nx.1 fun t ht => (gr.2 t (by
          have hlen : (preOf (i, nx p i)).length = i + 1 := by unfold preOf; rw [List.length_append, idL_length]; rfl
          rw [hlen] at ht; omega)).1 ht
        have hq := ih (i + 1) (by omega) (compL p (iv r)) (hp.comp hg h1 h2 (gr.1.inv hg h1 h2)) (Fx.succ (hf.comp hpp (hpre.1.iv hrp (by omega)) (by omega)) (by
          rw [hpp.nxc hi]
          have := hrp.nxi (x := i) hi
          rw [hpre.2] at this; exact this))
        have := Mb.mul hq hrl
        rwa [hpp.assoc hrp.iv, hrp.ic, hpp.idr] at this
      · exact absurd (preOf_nx.2 ⟨hf, rfl⟩) (hn p hp)
theorem sgs_same {l : List (List Int)} (hgB : gB (N : Int) gs = true) (h : Sgs N gs (prs N N) l) (hg : ∀ g ∈ gs, Pn N g) (h1 : 1 ≤ N) (h2 : N ≤ 20) (hl : l.length ≤ 8) : SameG (N : Int) gs l := by
  have hok := (h.ok h1 h2 hg).2
  refine ⟨hgB, gB_iff.2 ⟨by omega, by omega, hl, fun y hy => ⟨by rw [(hok y hy).2], isP_iff.2 ((hok y hy).1.pn hg h1 h2).1⟩⟩, fun y hy => ?_, fun y hy => ?_⟩
  · rw [Int.toNat_natCast]; exact (hok y hy).1
  · rw [Int.toNat_natCast]; exact sgs_gen h hg h1 h2 N 0 (by omega) y (.of (hg y hy) hy) Fx.zero
end

set_option maxHeartbeats 1000000 in
theorem drawSG (len cap : Nat) (A : Option Addr) (w : World) (hb : SB w w.heap.size A len) (hl : len ≤ 4096) :
    Calls Try.prog 27 #[.slice A len cap] w fun e w' => ∃ (z : Int) (A : Option Addr) (m c : Nat) (vs : List SV) (xss : List (List Int)), e = .returned (.tuple #[.int .i64 z, .slice A m c]) ∧ I64 z ∧ GIn w' A m vs xss ∧ Below w.heap.size w w' := by
  go_enter Try.func27, Try.ntmps27
  go_wp2_with fail
  refine (newSrc len cap A w hb hl).mono ?_
  rintro e w1 ⟨rfl, s1, b1⟩
  have S1 := Lib.hid s1
  have B1 := Lib.hid b1
  clear s1 b1
  go_wp2_with fail
  refine (drawGroupX w.heap.size w1 S1.out).mono ?_
  rintro e w2 ⟨z, A2, m, c, vs, xss, rfl, hB, rx, hm, hln, s2, g2⟩
  have HB := Lib.hid hB
  have Gi : Hid (GIn w2 A2 m vs xss) := Lib.hid ⟨rx.rr, by omega, fun i hi => by have := hln i hi; omega⟩
  have B2 : Hid (Below w.heap.size w w2) := Lib.hid (below_gro4 B1.out g2 (Nat.le_refl _))
  clear hB rx hln s2 g2
  go_wp2_with fail
  go_ret2
  exact ⟨_, _, _, _, vs, xss, rfl, HB.out, Gi.out, B2.out⟩

set_option maxHeartbeats 8000000 in
set_option maxRecDepth 100000 in
theorem lawStrongGenerators (IG : CtImM 28 IsSgs) (IS : CtImsI 34 IsStb) (IM : CtImsB 35 IsMem) (IE : CtImmB 16 IsSam) (A : Option Addr) (cap len : Nat) (w : World) (hb : SB w w.heap.size A len) :
    Calls Try.prog 6 #[.slice A len cap] w fun e w' => e = .returned (.bool true) ∧ Below w.heap.size w w' := by
  by_cases hl : len ≤ 4096
  · go_enter Try.func6, Try.ntmps6
    go_wp2_with fail
    refine (bigF4 A len cap w hl).mono ?_
    rintro e w0 ⟨rfl, rfl⟩
    go_wp2_with fail
    refine (drawSG len cap A w hb hl).mono ?_
    rintro e w1 ⟨z, A1, m, c, vs, xss, rfl, hB, gi, b1⟩
    have G1 := Lib.hid gi
    have HB := Lib.hid hB
    have B1 := Lib.hid b1
    clear gi b1 hB hb
    go_wp2_with fail
    refine (IG z A1 m c vs xss w1 G1.out HB.out).mono ?_
    rintro e w2 ⟨A2, m2, c2, us2, l2, rfl, s2, r2, b2⟩
    have R2 := Lib.hid r2
    have bd := boundSgs r2
    have hm2 : m2 ≤ 1048576 := by rw [← s2.lx]; exact bd.1
    have L2 : Hid (∀ i, i < m2 → (l2.getD i []).length ≤ 1048576) := Lib.hid fun i hi => bd.2.1 i (by rw [s2.lx]; exact hi)
    have O2 : Hid (RR w2 w2.heap.size A2 m2 us2 l2) := Lib.hid s2.rr
    have G2 := Lib.hid (G1.out.up b2)
    have B2 : Hid (Below w.heap.size w w2) := Lib.hid (btr B1.out b2)
    clear r2 s2 b2 bd
    go_wp2_with fail
    refine (ctSgs z A1 m c vs xss w2 G2.out HB.out).mono ?_
    rintro e w3 ⟨A3, m3, c3, us3, l3, rfl, s3, r3, b3⟩
    obtain rfl : l3 = l2 := r3.uniq R2.out
    have O3 := Lib.hid (O2.out.up b3)
    have J3 : Hid (RR w3 w3.heap.size A3 m3 us3 l3) := Lib.hid s3.rr
    have G3 := Lib.hid (G2.out.up b3)
    have B3 : Hid (Below w.heap.size w w3) := Lib.hid (btr B2.out b3)
    clear r3 s3 b3
    go_wp2_with fail
    refine (likeRR_same A2 A3 m2 c2 m3 c3 us2 us3 _ w3 O3.out J3.out hm2 L2).mono ?_
    rintro e w4 ⟨rfl, b4⟩
    have O4 := Lib.hid (O3.out.up b4)
    have G4 := Lib.hid (G3.out.up b4)
    have B4 : Hid (Below w.heap.size w w4) := Lib.hid (btr B3.out b4)
    clear b4 J3
    go_wp2_with fail
    refine (specGS z A1 m c vs xss w4 G4.out.rr G4.out.hn (Lib.hid G4.out.hl) HB.out).mono ?_
    rintro e w5 ⟨rfl, b5⟩
    have O5 := Lib.hid (O4.out.up b5)
    have G5 := Lib.hid (G4.out.up b5)
    have B5 : Hid (Below w.heap.size w w5) := Lib.hid (btr B4.out b5)
    clear b5
    rcases hq : gB z xss with _ | _
    · have e0 : l3 = [] := by
        rcases R2.out with ⟨e, _⟩ | ⟨_, e⟩
        · rw [hq] at e; cases e
        · exact e
      obtain rfl : m2 = 0 := by rw [← O5.out.lx, e0]; rfl
      clear hq e0
      go_wp2_with fail
      go_ret
      exact ⟨rfl, B5.out⟩
    · obtain ⟨N, rfl, hN1, hN2, hg8, hpm, hok⟩ := gB_pm hq
      have Ok : Hid (∀ g ∈ xss, Pn N g) := Lib.hid hok
      have Hq := Lib.hid hq
      have Sg : Hid (Sgs N xss (prs N N) l3) := Lib.hid (by
        rcases R2.out with ⟨_, h⟩ | ⟨e, _⟩
        · rw [Int.toNat_natCast] at h; exact h
        · rw [hq] at e; cases e)
      clear hq hpm hok
      go_wp2_with fail
      refine (ctSiz N A1 m c vs xss w5 G5.out HB.out).mono ?_
      rintro e w6 ⟨A6, n6, c6, xs, rfl, s6, r6, b6⟩
      have os : IsOS N xss xs := by
        rcases r6 with ⟨_, h⟩ | ⟨e, _⟩
        · rw [Int.toNat_natCast] at h; exact h
        · have := Hq.out; rw [this] at e; cases e
      have Os := Lib.hid os
      obtain rfl : n6 = N := by rw [← s6.1]; exact os.1
      have X6 : Hid (RI w6 w6.heap.size A6 xs) := Lib.hid s6.ri_
      have O6 := Lib.hid (O5.out.up b6)
      have G6 := Lib.hid (G5.out.up b6)
      have B6 : Hid (Below w.heap.size w w6) := Lib.hid (btr B5.out b6)
      clear r6 s6 b6 os
      go_wp2_with fail
      refine (ctOrd n6 A1 m c vs xss w6 G6.out HB.out).mono ?_
      rintro e w7 ⟨v7, rfl, r7, b7⟩
      obtain rfl : v7 = pr xs 0 (n6 - 0) := by
        rcases r7 with ⟨_, ys, h, e⟩ | ⟨e, _⟩
        · rw [Int.toNat_natCast] at h
          rw [e, h.uniq Os.out, prodL_pr, Os.out.1]; rfl
        · have := Hq.out; rw [this] at e; cases e
      have X7 := Lib.hid (X6.out.up b7)
      have O7 := Lib.hid (O6.out.up b7)
      have G7 := Lib.hid (G6.out.up b7)
      have B7 : Hid (Below w.heap.size w w7) := Lib.hid (btr B6.out b7)
      have P0 := Lib.hid (Slc.lit0 w7 w7.heap.size (Nat.le_refl _))
      have hz7 := B7.out.size
      clear r7 b7
      go_wp2_with fail
      go_loopw [7, 8, 9] (fun o v i wr => ∃ (k cc : Nat) (A' : Option Addr), k ≤ n6 ∧ i = .int .i64 (k : Nat) ∧ v = .slice A' k cc ∧ o = .int .i64 (pr xs k (n6 - k)) ∧ Slc wr w7.heap.size A' k cc (idL k) ∧ Below w7.heap.size w7 wr) (fun _ _ i _ => n6 - (intOf i).toNat)
      case atStart => exact ⟨0, _, _, Nat.zero_le _, rfl, rfl, rfl, P0.out, (Below.refl _ _).alloc (Nat.le_refl _) _⟩
      case round =>
        clear P0
        obtain ⟨k, cc, A', hk, rfl, rfl, rfl, hp, bel⟩ := hrel
        have P8 := Lib.hid hp
        have G8 := Lib.hid (G7.out.up bel)
        have Be := Lib.hid bel
        have hz8 := bel.size
        have Sp : Hid (SIn wr A' k cc (idL k)) := Lib.hid ⟨hp.ri_, hp.1, by omega, hp.le.1⟩
        clear hp bel
        by_cases hlt : k < n6
        · go_wp2_with fail
          refine (IS n6 A1 m c vs xss A' k cc (idL k) wr G8.out Sp.out HB.out).mono ?_
          rintro e w9 ⟨v9, rfl, r9, b9⟩
          obtain rfl : v9 = pr xs k (n6 - k) := stb_id Os.out Hq.out Ok.out hN1 hN2 hk r9
          have P9 := Lib.hid (P8.out.up b9)
          have B9 : Hid (Below w7.heap.size w7 w9) := Lib.hid (btr Be.out b9)
          have ne1 : (pr xs k (n6 - k) != pr xs k (n6 - k)) = false := by simp
          clear r9 b9
          obtain ⟨b, off, rfl, hb, hc⟩ := X7.out (by rw [Os.out.1]; omega)
          have x1 := hc k (by rw [Os.out.1]; exact hlt)
          have hbd := Os.out.bnd Ok.out hN1 hN2 hlt
          have hdv := pr_div Os.out Ok.out hN1 hN2 hlt
          obtain ⟨y, hy⟩ : ∃ y, xs.getD k 0 = y := ⟨_, rfl⟩
          rw [hy] at x1 hbd hdv
          have hpb := Os.out.pr_le Ok.out hN1 hN2 (k + 1) (n6 - (k + 1)) (by omega)
          have hfb := facts_le hN2 (k + 1 + (n6 - (k + 1))) (by omega)
          obtain ⟨q1, hq1⟩ : ∃ q, pr xs (k + 1) (n6 - (k + 1)) = q := ⟨_, rfl⟩
          obtain ⟨q0, hq0⟩ : ∃ q, pr xs k (n6 - k) = q := ⟨_, rfl⟩
          rw [hq1] at hdv hpb
          rw [hq0] at hdv ne1 ⊢
          have Hq1 := Lib.hid hq1
          have wq : IntKind.i64.wrap q1 = q1 := by rw [IntKind.wrap_i64]; omega
          have y0 : ¬ (y = 0) := by omega
          have z0 : (0 : Int) ≤ k := by omega
          have z1 : (k : Int) < n6 := by omega
          have Hb := Lib.hid hb
          have Hc := Lib.hid x1
          clear hb hc hy hbd hpb hfb hq1 hq0 x1
          go_wp2_with (first | (at_builtin; refine wpList_app1 rfl _ _ rfl w7.heap.size A' k cc _ rfl (P9.out.alloc _) w9.heap.size (k : Int) rfl (by rw [World.cell?_alloc_at _ _ _ _ rfl]; rfl) (by omega) (by have := B9.out.size; simp; omega) ?_; intro A10 c10 w10 s10 g10
                                have b10 : Below w7.heap.size w7 w10 := (B9.out.alloc B9.out.size _).grown g10 (by have := B9.out.size; simp; omega) (fun j hj => (P9.out.lt_ j hj).1)
                                have x10 : w10.cell? ⟨b, off + k, none⟩ = some (.int .i64 y) := (b10.cell (p := ⟨b, off + k, none⟩) Hb.out).trans Hc.out
                                have B10 := Lib.hid b10
                                have P10 : Hid (Slc w10 w7.heap.size A10 (k + 1) c10 (idL (k + 1))) := Lib.hid (by rw [idL_succ]; exact s10)
                                clear b10 s10 g10))
          go_roundw
          case rel => exact ⟨k + 1, _, _, by omega, by go_num, rfl, by rw [Hq1.out], P10.out, B10.out⟩
          case measure => simp [intOf]; omega
        · obtain rfl : k = n6 := by omega
          obtain ⟨vv, hvv⟩ : ∃ v, pr xs k (k - k) = v := ⟨_, rfl⟩
          rw [hvv]
          clear hvv
          have O8 := Lib.hid (O7.out.up Be.out)
          go_wp2_with fail
          obtain ⟨wl, rfl⟩ : ∃ wl, wl = wr := ⟨_, rfl⟩
          go_loopg [10] m2 (fun gg i wr => ∃ j : Nat, j ≤ m2 ∧ m2 - j ≤ gg ∧ i = .int .i64 (j : Nat) ∧ Below wl.heap.size wl wr)
          case atStart => exact ⟨0, Nat.zero_le _, by omega, rfl, Below.refl _ _⟩
          case round =>
            obtain ⟨j, hj, hgj, rfl, bel⟩ := hrel
            have Bj := Lib.hid bel
            have G9 := Lib.hid (G8.out.up bel)
            have O9 := Lib.hid (O8.out.up bel)
            clear bel
            by_cases hjm : j < m2
            · obtain ⟨b, off, A5, l, c5, y, rfl, hb, hv, ey, x1, ri, ly, hl5⟩ := O9.out.at_ hjm
              have hym : y ∈ l3 := by rw [← ey]; exact getD_memL (by rw [O9.out.lx]; exact hjm)
              have hok := (Sg.out.ok hN1 hN2 Ok.out).2 y hym
              have hcl : l ≤ c5 := by have := O9.out.caps j hjm; rw [hv] at this; exact this
              obtain rfl : l = k := by omega
              have Yp : Hid (Pn l y) := Lib.hid (hok.1.pn Ok.out hN1 hN2)
              have Ym := Lib.hid hok.1
              have Sy : Hid (SIn wr A5 l c5 y) := Lib.hid ⟨ri, hok.2, by omega, hcl⟩
              have q2 : (0 : Int) ≤ j := by omega
              have q3 : (j : Int) < m2 := by omega
              clear hb hv ey ri ly hl5 hok hym
              go_wp2_with fail
              refine (IM l A1 m c vs xss A5 l c5 y wr G9.out Sy.out HB.out).mono ?_
              rintro e w10 ⟨b10, rfl, rb10, bb10⟩
              obtain rfl : b10 = true := rb10.2 ⟨Hq.out, by rw [Yp.out.2], isP_iff.2 Yp.out.1, by rw [Int.toNat_natCast]; exact Ym.out⟩
              have B10 : Hid (Below wl.heap.size wl w10) := Lib.hid (btr Bj.out bb10)
              clear rb10 bb10
              go_wp2_with fail
              go_roundg (m2 - (j + 1))
              case rel => exact ⟨j + 1, by omega, by omega, by go_num, B10.out⟩
              case measure => omega
            · obtain rfl : j = m2 := by omega
              have S9 := Lib.hid (Sp.out.up Bj.out)
              go_wp2_with fail
              refine (IS k A1 m c vs xss A' k cc (idL k) wr G9.out S9.out HB.out).mono ?_
              rintro e w10 ⟨v10, rfl, r10, b10⟩
              obtain rfl : v10 = 1 := by
                have := stb_id Os.out Hq.out Ok.out hN1 hN2 (Nat.le_refl _) r10
                rw [Nat.sub_self] at this; exact this
              have O10 := Lib.hid (O9.out.up b10)
              have G10 := Lib.hid (G9.out.up b10)
              have B10 : Hid (Below w.heap.size w w10) := Lib.hid (btr (btr B7.out (Be.out.trans (Bj.out.mono hz8))) b10)
              clear r10 b10
              by_cases h8 : 8 < j
              · have d8 : decide ((8 : Int) < (j : Int)) = true := by simp; omega
                go_wp2_with fail
                go_ret
                exact ⟨rfl, B10.out⟩
              · have d8 : decide ((8 : Int) < (j : Int)) = false := by simp; omega
                have Gs : Hid (GIn w10 A2 j us2 l3) := Lib.hid ⟨O10.out, hm2, fun i hi => by rw [← O10.out.lens i hi]; exact L2.out i hi⟩
                go_wp2_with fail
                refine (IE k A1 m c vs xss A2 j c2 us2 l3 w10 G10.out Gs.out HB.out).mono ?_
                rintro e w11 ⟨b11, rfl, r11, bb11⟩
                obtain rfl : b11 = true := r11.2 (sgs_same Hq.out Sg.out Ok.out hN1 hN2 (by rw [O10.out.lx]; omega))
                have B11 : Hid (Below w.heap.size w w11) := Lib.hid (btr B10.out bb11)
                clear r11 bb11
                go_wp2_with fail
                go_ret
                exact ⟨rfl, B11.out⟩
  · clear hb
    go_enter Try.func6, Try.ntmps6
    go_wp2_with fail
    refine (bigT4 A len cap w (by omega)).mono ?_
    rintro e w0 ⟨rfl, rfl⟩
    go_wp2_with fail
    go_ret
    exact ⟨rfl, Below.refl _ _⟩
end Go.Proofs.Ytcjcmhoalomjfab

/- The program's areAscendingPoints, slices.Index, Contains, Grow, Concat and the points of a renumbering. Conditions: at most 20 points; lists of at most 1048576 numbers. -/
namespace Go.Proofs.Ytcjcmhoalomjfab
open Go.RowKit

theorem mtf_pts (pts : List Int) (N : Nat) : mtf pts N = pts ++ ptsL (fun x => !hasB pts (x : Int)) N := by
  unfold mtf ptsL
  rw [List.filter_map]; rfl
theorem cj_iv {N : Nat} {o p : List Int} (ho : Pn N o) : cj (iv o) p = compL (compL o p) (iv o) := by
  unfold cj; rw [ho.iviv]

set_option maxHeartbeats 2000000 in
set_option maxRecDepth 100000 in
/-- areAscendingPoints. -/
theorem implAsc (N np cp : Nat) (P : Option Addr) (pts : List Int) (w : World) (hp : RI w w.heap.size P pts) (lp : Hid (pts.length = np)) (h1 : 1 ≤ N) (h2 : N ≤ 20) (hn : np ≤ 1048576) :
    Calls Try.prog 69 #[.int .i64 (N : Nat), .slice P np cp] w fun e w' => ∃ ans, e = .returned (.bool ans) ∧ (ans = true ↔ PtS N pts) ∧ Below w.heap.size w w' := by
  go_enter Try.func69, Try.ntmps69
  go_wp2_with fail
  go_loopw [5, 7, 10] (fun l _ i wr => ∃ (k : Nat) (la : Int), k ≤ np ∧ i = .int .i64 (k : Nat) ∧ l = .int .i64 la ∧ (k : Int) ≤ la + 1 ∧ la < N ∧ (k = 0 → la = -1) ∧ (0 < k → la = pts.getD (k - 1) 0) ∧ (∀ i, i < k → 0 ≤ pts.getD i 0 ∧ pts.getD i 0 < N ∧ (0 < i → pts.getD (i - 1) 0 < pts.getD i 0)) ∧ Below w.heap.size w wr) (fun _ _ i _ => np - (intOf i).toNat)
  case atStart => exact ⟨0, -1, Nat.zero_le _, rfl, rfl, by omega, by omega, fun _ => rfl, fun h => absurd h (by omega), fun _ h => absurd h (Nat.not_lt_zero _), Below.refl _ _⟩
  case round =>
    obtain ⟨k, la, hk, rfl, rfl, hkl, hlN, hl0, hlp, ok, bel⟩ := hrel
    have Ok := Lib.hid ok
    have Bel := Lib.hid bel
    have L0 := Lib.hid hl0
    have Lp := Lib.hid hlp
    have P1 := Lib.hid (hp.up bel)
    have hla : -1 ≤ la := by omega
    clear ok bel hl0 hlp
    by_cases hlt : k < np
    · obtain ⟨b, off, rfl, hb, hc⟩ := P1.out (by rw [lp.out]; omega)
      have c1 := hc k (by rw [lp.out]; omega)
      obtain ⟨x, ex⟩ : ∃ x, pts.getD k 0 = x := ⟨_, rfl⟩
      rw [ex] at c1
      have Ex := Lib.hid ex
      have p1 : (0 : Int) ≤ k := by omega
      have p2 : (k : Int) < np := by omega
      clear ex hc hb
      by_cases hx1 : x ≤ la
      · have d1 : decide (x ≤ la) = true := decide_eq_true hx1
        have Fin : Hid (¬ PtS N pts) := Lib.hid fun h => by
          have a := h.2 k (by rw [lp.out]; exact hlt)
          rw [Ex.out] at a
          by_cases e : k = 0
          · have := L0.out e; omega
          · have b := a.2.2 (by omega)
            rw [← Lp.out (by omega)] at b; omega
        clear hx1
        go_wp2_with fail
        go_ret
        exact ⟨false, rfl, ⟨fun h => (by cases h), fun h => absurd h Fin.out⟩, Bel.out⟩
      · have d1 : decide (x ≤ la) = false := decide_eq_false hx1
        have hx2 : la < x := by omega
        clear hx1
        by_cases hx3 : (N : Int) ≤ x
        · have d2 : decide ((N : Int) ≤ x) = true := decide_eq_true hx3
          have Fin : Hid (¬ PtS N pts) := Lib.hid fun h => by
            have a := h.2 k (by rw [lp.out]; exact hlt)
            rw [Ex.out] at a; omega
          clear hx3
          go_wp2_with fail
          go_ret
          exact ⟨false, rfl, ⟨fun h => (by cases h), fun h => absurd h Fin.out⟩, Bel.out⟩
        · have d2 : decide ((N : Int) ≤ x) = false := decide_eq_false hx3
          have Lt : Hid (la < x ∧ x < N) := Lib.hid ⟨hx2, by omega⟩
          clear hx3 hx2
          go_wp2_with fail
          go_roundw
          case rel => exact ⟨k + 1, x, by omega, by go_num, rfl, by have := Lt.out; omega, Lt.out.2, fun h => absurd h (by omega), fun _ => by rw [Nat.add_sub_cancel]; exact Ex.out.symm, fun i hi => by
            by_cases e : i = k
            · subst e
              rw [Ex.out]
              refine ⟨by have := Lt.out; omega, Lt.out.2, fun h0 => ?_⟩
              rw [← Lp.out h0]; exact Lt.out.1
            · exact Ok.out i (by omega), Bel.out⟩
          case measure => simp [intOf]; omega
    · obtain rfl : k = np := by omega
      have Fin : Hid (PtS N pts) := Lib.hid ⟨by rw [lp.out]; omega, fun i hi => Ok.out i (by rw [← lp.out]; exact hi)⟩
      go_wp2_with fail
      go_ret
      exact ⟨true, rfl, ⟨fun _ => Fin.out, fun _ => rfl⟩, Bel.out⟩

/-- slices.Index of a list of numbers. -/
theorem implIdxS (A : Option Addr) (n c : Nat) (p : List Int) (v : Int) (w : World) (hp : RI w w.heap.size A p) (lp : Hid (p.length = n)) (hn : n ≤ 1048576) :
    Calls Try.prog 122 #[.slice A n c, .int .i64 v] w fun e w' => ∃ r : Int, e = .returned (.int .i64 r) ∧ ((∃ y : Nat, r = (y : Int) ∧ y < n ∧ p.getD y 0 = v) ∨ (r = -1 ∧ ∀ y, y < n → p.getD y 0 ≠ v)) ∧ w = w' := by
  go_enter Try.func122, Try.ntmps122
  go_wp2_with fail
  go_loopw [8] (fun i wr => ∃ k : Nat, k ≤ n ∧ i = .int .i64 (k : Nat) ∧ (∀ y, y < k → p.getD y 0 ≠ v) ∧ w = wr) (fun i _ => n - (intOf i).toNat)
  case atStart => exact ⟨0, Nat.zero_le _, rfl, fun y h => absurd h (by omega), rfl⟩
  case round =>
    obtain ⟨k, hk, rfl, hno, rfl⟩ := hrel
    have Hno := Lib.hid hno
    clear hno
    by_cases hlt : k < n
    · obtain ⟨b, off, rfl, hb, hc⟩ := hp (by rw [lp.out]; omega)
      have c1 := hc k (by rw [lp.out]; omega)
      obtain ⟨y, ey⟩ : ∃ y, p.getD k 0 = y := ⟨_, rfl⟩
      rw [ey] at c1
      have Ey := Lib.hid ey
      have p1 : (0 : Int) ≤ k := by omega
      have p2 : (k : Int) < n := by omega
      clear ey hc hp
      by_cases hv : v = y
      · subst hv
        go_wp2_with fail
        go_ret
        exact ⟨_, rfl, .inl ⟨k, rfl, hlt, Ey.out⟩, rfl⟩
      · have d1 : (v == y) = false := by simpa using hv
        have Hv := Lib.hid hv
        clear hv
        go_wp2_with fail
        go_roundw
        case rel => exact ⟨k + 1, by omega, by go_num, fun z hz => by
          rcases Nat.lt_or_ge z k with h | h
          · exact Hno.out z h
          · obtain rfl : z = k := by omega
            rw [Ey.out]; exact fun e => Hv.out e.symm, trivial⟩
        case measure => simp [intOf]; omega
    · obtain rfl : k = n := by omega
      go_wp2_with fail
      go_ret
      exact ⟨_, rfl, .inr ⟨rfl, Hno.out⟩, rfl⟩
/-- slices.Contains of a list of numbers. -/
theorem implHas (A : Option Addr) (n c : Nat) (p : List Int) (v : Int) (w : World) (hp : RI w w.heap.size A p) (lp : Hid (p.length = n)) (hn : n ≤ 1048576) (ans : Bool) (ha : Hid (hasB p v = ans)) :
    Calls Try.prog 99 #[.slice A n c, .int .i64 v] w fun e w' => e = .returned (.bool ans) ∧ w = w' := by
  go_enter Try.func99, Try.ntmps99
  go_wp2_with fail
  refine (implIdxS A n c p v w hp lp hn).mono ?_
  rintro e w1 ⟨r, rfl, hr, rfl⟩
  rcases hr with ⟨y, rfl, hy, hyv⟩ | ⟨rfl, hno⟩
  · have Fin : Hid (true = ans) := Lib.hid (by rw [← ha.out]; exact (decide_eq_true ⟨y, by rw [lp.out]; exact hy, hyv⟩).symm)
    have d0 : decide ((0 : Int) ≤ (y : Int)) = true := by simp
    clear hyv
    go_wp2_with fail
    go_ret
    exact ⟨ret_bool Fin.out, rfl⟩
  · have Fin : Hid (false = ans) := Lib.hid (by rw [← ha.out]; exact (decide_eq_false fun ⟨j, hj, e⟩ => hno j (by rw [← lp.out]; exact hj) e).symm)
    have d0 : decide ((0 : Int) ≤ (-1 : Int)) = false := by decide
    clear hno
    go_wp2_with fail
    go_ret
    exact ⟨ret_bool Fin.out, rfl⟩

/-- The function literal of renumbered: the points that are not listed. -/
theorem implOut (bx np cp : Nat) (P : Option Addr) (pts : List Int) (x : Int) (w : World) (hb : Blk w bx 22 #[.slice P np cp]) (hp : RI w w.heap.size P pts) (lp : Hid (pts.length = np)) (hn : np ≤ 1048576) (ans : Bool) (ha : Hid ((!hasB pts x) = ans)) :
    Calls Try.prog 98 #[.int .i64 x, .pointer (some ⟨bx, 0, none⟩)] w fun e w' => e = .returned (.bool ans) ∧ Below w.heap.size w w' := by
  have HP := Lib.hid hp
  have c0 : w.cell? ⟨bx, 0, none⟩ = some (.slice P np cp) := hb.cell 0
  obtain ⟨q, hq⟩ : ∃ q, hasB pts x = q := ⟨_, rfl⟩
  have Hq := Lib.hid hq
  have Fin : Hid ((!q) = ans) := Lib.hid (by rw [← ha.out, hq])
  clear hb hp hq
  go_enter Try.func98, Try.ntmps98
  go_wp2_with (first | (go_at_call 99; refine (implHas P np cp pts x w HP.out lp hn q Hq).mono ?_; rintro e w' ⟨rfl, rfl⟩))
  go_ret
  exact ⟨ret_bool Fin.out, Below.refl _ _⟩
set_option maxHeartbeats 1000000 in
/-- pointsWhere at that literal. -/
theorem pwOut (bx N np cp : Nat) (P : Option Addr) (pts : List Int) (w : World) (hb : Blk w bx 22 #[.slice P np cp]) (hp : RI w w.heap.size P pts) (lp : Hid (pts.length = np)) (hn : np ≤ 1048576) (h2 : N ≤ 20) :
    Calls Try.prog 88 #[.int .i64 (N : Nat), .func (.func 98) #[] #[.pointer (some ⟨bx, 0, none⟩)]] w fun e w' => ∃ A' n' c', e = .returned (.slice A' n' c') ∧ Slc w' w.heap.size A' n' c' (ptsL (fun x => !hasB pts (x : Int)) N) ∧ Below w.heap.size w w' := by
  have HB := Lib.hid hb
  have HP := Lib.hid hp
  clear hb hp
  go_enter Try.func88, Try.ntmps88
  go_wp2
  go_loopw [5, 6, 8] (fun v _ i wr => ∃ k A' m c', k ≤ N ∧ m ≤ k ∧ i = .int .i64 (k : Nat) ∧ v = .slice A' m c' ∧ Slc wr w.heap.size A' m c' (ptsL (fun x => !hasB pts (x : Int)) k) ∧ Below w.heap.size w wr) (fun _ _ i _ => N - (intOf i).toNat)
  case atStart => exact ⟨0, _, _, _, Nat.zero_le _, Nat.le_refl _, rfl, rfl, Slc.nil_, Below.refl _ _⟩
  case round =>
    obtain ⟨k, A', m, c', hk, hmk, rfl, rfl, own, bel⟩ := hrel
    have Own' := Lib.hid own
    have Bel := Lib.hid bel
    have Bk := Lib.hid (HB.out.below bel HB.out.lt)
    have P1 := Lib.hid (HP.out.up bel)
    clear own bel
    by_cases hlt : k < N
    · rcases hmv : (!hasB pts (k : Int)) with _ | _
      · have Hm := Lib.hid hmv
        have Pn : Hid (ptsL (fun x => !hasB pts (x : Int)) (k + 1) = ptsL (fun x => !hasB pts (x : Int)) k) := Lib.hid (ptsL_no hmv)
        clear hmv
        go_wp2_with fail
        refine (implOut bx np cp P pts k wr Bk.out P1.out lp hn false Hm).mono ?_
        rintro e w1 ⟨rfl, b1⟩
        have B1 : Hid (Below w.heap.size w w1) := Lib.hid (btr Bel.out b1)
        have Own1 := Lib.hid (Own'.out.up b1)
        clear b1
        go_wp2_with fail
        go_roundw
        case rel => exact ⟨k + 1, A', m, c', by omega, by omega, by go_num, rfl, by rw [Pn.out]; exact Own1.out, B1.out⟩
        case measure => simp [intOf]; omega
      · have Hm := Lib.hid hmv
        have Py : Hid (ptsL (fun x => !hasB pts (x : Int)) (k + 1) = ptsL (fun x => !hasB pts (x : Int)) k ++ [(k : Int)]) := Lib.hid (ptsL_yes hmv)
        clear hmv
        go_wp2_with fail
        refine (implOut bx np cp P pts k wr Bk.out P1.out lp hn true Hm).mono ?_
        rintro e w1 ⟨rfl, b1⟩
        have B1 : Hid (Below w.heap.size w w1) := Lib.hid (btr Bel.out b1)
        have Own1 := Lib.hid (Own'.out.up b1)
        clear b1
        go_wp2_with (first | (at_builtin; refine wpList_app1 rfl _ _ rfl w.heap.size A' m c' _ rfl (Own1.out.alloc _) w1.heap.size k rfl (by rw [World.cell?_alloc_at _ _ _ _ rfl]; rfl) (by omega) (by have := B1.out.size; simp; omega) ?_; intro A2 c2' w2 own2 hg2))
        have Own2 := Lib.hid own2
        have Bel2 : Hid (Below w.heap.size w w2) := Lib.hid ((B1.out.alloc B1.out.size _).grown hg2 (by have := B1.out.size; simp; omega) (fun j hj => (Own1.out.lt_ j hj).1))
        clear own2 hg2
        go_wp2
        go_roundw
        case rel => exact ⟨k + 1, A2, m + 1, c2', by omega, by omega, by go_num, rfl, by rw [Py.out]; exact Own2.out, Bel2.out⟩
        case measure => simp [intOf]; omega
    · have hkn : k = N := by omega
      subst hkn
      go_wp2
      go_ret
      exact ⟨_, _, _, rfl, Own'.out, Bel.out⟩

set_option maxHeartbeats 1000000 in
set_option maxRecDepth 100000 in
/-- slices.Grow of nil. -/
theorem growNil (T : Nat) (w : World) (h1 : 1 ≤ T) (h2 : T ≤ 1048576) :
    Calls Try.prog 123 #[.slice none 0 0, .int .i64 (T : Nat)] w fun e w' => ∃ g c', e = .returned (.slice (some ⟨g, 0, none⟩) 0 c') ∧ Slc w' w.heap.size (some ⟨g, 0, none⟩) 0 c' [] ∧ Below w.heap.size w w' := by
  obtain ⟨i0, hi, hz0, hz1, hz2⟩ := info_parts infoI
  have hold : (Builtin.firstCells i0.size 0 (.slice none 0 0)).run Try.prog w.drew = .ok ([] : List Value).toArray w.drew := run_firstCells_none w.drew i0.size 0 0 0
  have hrz : ∀ ty, (Builtin.append_ #[22, 3] ty #[.slice none 0 0, .int .i64 (T : Int)]).run Try.prog w = _ := fun ty =>
    Lib.run_append_grow_zeros w 22 3 ty 2 i0 (.int .i64 0) .i64 .i64 Try.underlying22 Try.underlying3 hi hz0 none 0 0 [] hold T (by omega) (by rw [hz1]; decide) (by omega) (by omega)
      (by rw [hz2]; omega) (by rw [hz2, Nat.zero_add]; exact growslice_fits (by omega) (by omega))
  have hGn : 0 + T ≤ grownCap w (0 + T) 0 2 := grownCap_ge w _ _ _
  have hGm : grownCap w (0 + T) 0 2 ≤ maxLen := grownCap_le_maxLen w _ 0 _ (by unfold maxLen; omega)
  obtain ⟨G, hG⟩ : ∃ G, G = grownCap w (0 + T) 0 2 := ⟨_, rfl⟩
  rw [← hG] at hrz hGn hGm
  obtain ⟨Z, hZ⟩ : ∃ Z, Z = (([] : List Value).toArray ++ Builtin.zeroCells (Value.int .i64 0).cells T ++ Builtin.zeroCells (Value.int .i64 0).cells (G - (0 + T))) := ⟨_, rfl⟩
  rw [← hZ] at hrz
  have hSz : Z.size = G * 1 := by
    have hc : (Value.int .i64 0).cells.size = 1 := rfl
    rw [hZ]
    simp [Builtin.zeroCells, hc]; omega
  have B1 : Hid (Below w.heap.size w (w.drew.alloc (.cells Z 2))) := Lib.hid ((show Below w.heap.size w w.drew from ⟨rfl, rfl, rfl, Nat.le_refl _, fun _ _ => rfl⟩).alloc (Nat.le_refl _) _)
  have S1 : Hid (Slc (w.drew.alloc (.cells Z 2)) w.heap.size (some ⟨w.heap.size, 0, none⟩) 0 G []) := Lib.hid
    ⟨rfl, by simp, .inr ⟨w.heap.size, G, _, rfl, Nat.le_refl _, heap_alloc_new w.drew _, Nat.zero_le _, hGm, hSz, by simp⟩⟩
  have e1 : wrap64 ((T : Int) - 0) = (T : Int) := by unfold wrap64; omega
  have d1 : decide ((T : Int) < 0) = false := by simp
  have d2 : decide ((0 : Int) < (T : Int)) = true := by simp; omega
  have Hrz := Lib.hid hrz
  have hG63 : G ≤ 9223372036854775807 := by unfold maxLen at hGm; omega
  clear hrz hold hG hGm hZ hSz
  go_enter Try.func123, Try.ntmps123
  go_wp2_with (at_builtin; refine Lib.wpList_append_run _ rfl _ _ _ _ rfl _ _ rfl rfl _ _ (Hrz.out _) ?_)
  go_ret
  exact ⟨_, _, rfl, S1.out, B1.out⟩
end Go.Proofs.Ytcjcmhoalomjfab

/- The program's slices.Concat, renumbered and StabilizerOrder. Conditions: at most 1048576 lists of at most 1048576 numbers. -/
namespace Go.Proofs.Ytcjcmhoalomjfab
open Go.RowKit

/-- append of whatever can be read onto a row of the call's own. -/
theorem wpList_appA {w : World} {ops : Array Oper} {rest : List Oper} {o : Oper} {a : Act} {Q : Exit → Act → World → Prop} (hgd : o.guard = none) (s x : Operand)
    (ho : o.op = .call { callee := .builtin .append, args := #[s, x], argTypes := #[22, 22] })
    (base : Nat) (A : Option Addr) (n c : Nat) (xs : List Int) (hs : a.eval s = .slice A n c) (hown : Slc w base A n c xs) (B : Option Addr) (m c2 : Nat) (ys : List Int) (hx : a.eval x = .slice B m c2)
    (hy : RI w w.heap.size B ys) (ly : ys.length = m) (hn : n + m ≤ 1000000000000) (hbase : base ≤ w.heap.size)
    (h : ∀ A' c' w', Slc w' base A' (n + m) c' (xs ++ ys) → w.grownBy w' (Value.slice A n c).ownBlock → wpList Try.prog ops Q rest (a.put o.dst (.slice A' (n + m) c')) w') : wpList Try.prog ops Q (o :: rest) a w := by
  by_cases h0 : m = 0
  · subst h0
    obtain rfl : ys = [] := List.length_eq_zero_iff.1 ly
    have h3 := h A c w (by rw [List.append_nil]; exact hown) (grown_refl _ _)
    exact wpList_app0 hgd s x ho A n c hown.le.1 hs B c2 hx h3
  · obtain ⟨b, off, rfl, _, _⟩ := hy (by omega)
    exact wpList_appN hgd s x ho base A n c xs hs hown b off m c2 ys hx hy ly hn hbase h

set_option maxHeartbeats 4000000 in
set_option maxRecDepth 100000 in
/-- slices.Concat of two lists. -/
theorem implConcat (g np cp m cm : Nat) (P A : Option Addr) (pts ys : List Int) (w : World) (hb : Blk w g 22 #[.slice P np cp, .slice A m cm]) (hp : RI w w.heap.size P pts) (lp : Hid (pts.length = np)) (hy : RI w w.heap.size A ys) (ly : Hid (ys.length = m)) (h1 : 1 ≤ np + m) (h2 : np + m ≤ 1000) :
    Calls Try.prog 100 #[.slice (some ⟨g, 0, none⟩) 2 2] w fun e w' => ∃ A' c', e = .returned (.slice A' (np + m) c') ∧ Slc w' w.heap.size A' (np + m) c' (pts ++ ys) ∧ Below w.heap.size w w' := by
  have HB := Lib.hid hb
  have HP := Lib.hid hp
  have HY := Lib.hid hy
  clear hb hp hy
  go_enter Try.func100, Try.ntmps100
  go_wp2_with fail
  go_loopw [3, 5, 11] (fun s _ i wr => ((i = .int .i64 0 ∧ s = .int .i64 0) ∨ (i = .int .i64 1 ∧ s = .int .i64 (np : Nat)) ∨ (i = .int .i64 2 ∧ s = .int .i64 ((np + m : Nat) : Int))) ∧ w = wr) (fun _ _ i _ => 2 - (intOf i).toNat)
  case atStart => exact ⟨.inl ⟨rfl, rfl⟩, rfl⟩
  case round =>
    obtain ⟨(⟨rfl, rfl⟩ | ⟨rfl, rfl⟩ | ⟨rfl, rfl⟩), rfl⟩ := hrel
    · have c0 : w.cell? ⟨g, 0, none⟩ = some (.slice P np cp) := HB.out.cell 0
      have hw : IntKind.i64.wrap (np : Int) = (np : Int) := by rw [IntKind.wrap_i64]; omega
      have hw2 : IntKind.i64.wrap ((0 : Int) + (np : Int)) = (np : Int) := by rw [IntKind.wrap_i64]; omega
      have d0 : decide ((np : Int) < 0) = false := by simp
      go_wp2_with fail
      go_roundw
      case rel => exact ⟨.inr (.inl ⟨by go_num, rfl⟩), trivial⟩
      case measure => simp [intOf]
    · have c0 : w.cell? ⟨g, 1, none⟩ = some (.slice A m cm) := HB.out.cell 1
      have hw : IntKind.i64.wrap ((np : Int) + (m : Int)) = ((np + m : Nat) : Int) := by rw [IntKind.wrap_i64]; omega
      have d0 : decide (((np + m : Nat) : Int) < 0) = false := by simp; omega
      go_wp2_with fail
      go_roundw
      case rel => exact ⟨.inr (.inr ⟨by go_num, rfl⟩), trivial⟩
      case measure => simp [intOf]
    · go_wp2_with fail
      refine (growNil (np + m) w h1 (by omega)).mono ?_
      rintro e w1 ⟨g1, c1, rfl, s1, b1⟩
      have S1 := Lib.hid s1
      have B1 := Lib.hid b1
      clear s1 b1
      go_wp2_with fail
      go_loopw [6, 8, 27] (fun v _ i wr => ∃ (A1 : Option Addr) (l c1 : Nat) (xs : List Int), ((i = .int .i64 0 ∧ l = 0 ∧ xs = []) ∨ (i = .int .i64 1 ∧ l = np ∧ xs = pts) ∨ (i = .int .i64 2 ∧ l = np + m ∧ xs = pts ++ ys)) ∧ v = .slice A1 l c1 ∧ Slc wr w.heap.size A1 l c1 xs ∧ Below w.heap.size w wr) (fun _ _ i _ => 2 - (intOf i).toNat)
      case atStart => exact ⟨_, _, _, _, .inl ⟨rfl, rfl, rfl⟩, rfl, S1.out, B1.out⟩
      case round =>
        clear S1 B1
        obtain ⟨A1, l, c2, xs, hcase, rfl, hs, bel⟩ := hrel
        have Ss := Lib.hid hs
        have Be := Lib.hid bel
        have Bk := Lib.hid (HB.out.below bel HB.out.lt)
        have P2 := Lib.hid (HP.out.up bel)
        have Y2 := Lib.hid (HY.out.up bel)
        have hz := bel.size
        clear hs bel
        rcases hcase with ⟨rfl, rfl, rfl⟩ | ⟨rfl, rfl, rfl⟩ | ⟨rfl, rfl, rfl⟩
        · have c0 : wr.cell? ⟨g, 0, none⟩ = some (.slice P np cp) := Bk.out.cell 0
          go_wp2_with (first | (at_builtin; refine wpList_appA rfl _ _ rfl w.heap.size A1 0 c2 [] rfl Ss.out P np cp pts rfl P2.out lp.out (by omega) hz ?_; intro A3 c3 w3 s3 g3))
          have S3 : Hid (Slc w3 w.heap.size A3 np c3 pts) := Lib.hid (by simpa using s3)
          have B3 : Hid (Below w.heap.size w w3) := Lib.hid (Be.out.grown g3 hz (fun j hj => (Ss.out.lt_ j hj).1))
          clear s3 g3
          go_wp2_with fail
          go_roundw
          case rel => exact ⟨A3, _, c3, pts, .inr (.inl ⟨by go_num, rfl, rfl⟩), by simp, S3.out, B3.out⟩
          case measure => simp [intOf]
        · have c0 : wr.cell? ⟨g, 1, none⟩ = some (.slice A m cm) := Bk.out.cell 1
          go_wp2_with (first | (at_builtin; refine wpList_appA rfl _ _ rfl w.heap.size A1 l c2 xs rfl Ss.out A m cm ys rfl Y2.out ly.out (by omega) hz ?_; intro A3 c3 w3 s3 g3))
          have S3 := Lib.hid s3
          have B3 : Hid (Below w.heap.size w w3) := Lib.hid (Be.out.grown g3 hz (fun j hj => (Ss.out.lt_ j hj).1))
          clear s3 g3
          go_wp2_with fail
          go_roundw
          case rel => exact ⟨A3, _, c3, _, .inr (.inr ⟨by go_num, rfl, rfl⟩), rfl, S3.out, B3.out⟩
          case measure => simp [intOf]
        · go_wp2_with fail
          go_ret
          exact ⟨_, _, rfl, Ss.out, Be.out⟩

set_option maxHeartbeats 4000000 in
set_option maxRecDepth 100000 in
/-- renumbered. -/
theorem implRenum (N n c np cp : Nat) (A P : Option Addr) (vs : List SV) (xss : List (List Int)) (pts : List Int) (w : World) (hx : RR w w.heap.size A n vs xss) (hn8 : n ≤ 8) (Ok : Hid (∀ g ∈ xss, Pn N g)) (hp : RI w w.heap.size P pts) (lp : Hid (pts.length = np)) (Pt : Hid (PtS N pts)) (h1 : 1 ≤ N) (h2 : N ≤ 20) (o : List Int) (ho : Hid (mtf pts N = o)) :
    Calls Try.prog 70 #[.int .i64 (N : Nat), .slice A n c, .slice P np cp] w fun e w' => ∃ A' c' us, e = .returned (.slice A' n c') ∧ SS w' w.heap.size w.heap.size A' n c' us (xss.map (cj (iv o))) ∧ Below w.heap.size w w' := by
  have hmf : ∀ (fn : Fn) (first cap : Array Value) (w : World), (Instr.makeFunc fn first cap).run Try.prog w = .ok (.func fn first cap) w := fun _ _ _ _ => rfl
  have hnN : np ≤ N := by rw [← lp.out]; exact Pt.out.1
  have hlx : Hid (xss.length = n) := Lib.hid hx.lx
  have HB0 : Hid (Blk (w.alloc (.cells #[.slice P np cp] 22)) w.heap.size 22 #[.slice P np cp]) := Lib.hid (Blk.new w _ _)
  have B0 : Hid (Below w.heap.size w (w.alloc (.cells #[.slice P np cp] 22))) := Lib.hid ((Below.refl _ _).alloc (Nat.le_refl _) _)
  have P0 := Lib.hid (hp.up B0.out)
  have X0 := Lib.hid (hx.up B0.out)
  have HM : Hid (Pn N o) := Lib.hid (by rw [← ho.out]; exact Pt.out.mtf_pn h1 h2)
  clear hx hp
  go_enter Try.func70, Try.ntmps70
  go_wp2_with fail
  refine (pwOut w.heap.size N np cp P pts (w.alloc (.cells #[.slice P np cp] 22)) HB0.out P0.out lp (by omega) h2).mono ?_
  rintro e w1 ⟨A1, m, c1, rfl, s1, b1⟩
  have S1 := Lib.hid s1
  have B1 : Hid (Below w.heap.size w w1) := Lib.hid (btr B0.out b1)
  have P1 := Lib.hid (P0.out.up b1)
  have X1 := Lib.hid (X0.out.up b1)
  have Bk1 : Hid (Blk w1 w.heap.size 22 #[.slice P np cp]) := Lib.hid (HB0.out.below b1 HB0.out.lt)
  have cc : w1.cell? ⟨w.heap.size, 0, none⟩ = some (.slice P np cp) := Bk1.out.cell 0
  have hsum : np + m = N := by
    have a := HM.out.2
    rw [← ho.out, mtf_pts, List.length_append, s1.1, lp.out] at a; exact a
  have Hsum := Lib.hid hsum
  have hz1 := B1.out.size
  have Bk2 : Hid (Blk (w1.alloc (.cells #[.slice P np cp, .slice A1 m c1] 22)) w1.heap.size 22 #[.slice P np cp, .slice A1 m c1]) := Lib.hid (Blk.new w1 _ _)
  have B2 : Hid (Below w1.heap.size w1 (w1.alloc (.cells #[.slice P np cp, .slice A1 m c1] 22))) := Lib.hid ((Below.refl _ _).alloc (Nat.le_refl _) _)
  clear s1 b1 hsum HB0 P0 X0 Bk1
  go_wp2_with fail
  refine (implConcat w1.heap.size np cp m c1 P A1 pts (ptsL (fun x => !hasB pts (x : Int)) N) (w1.alloc (.cells #[.slice P np cp, .slice A1 m c1] 22)) Bk2.out (P1.out.up B2.out) lp (S1.out.up B2.out).ri_ (Lib.hid S1.out.1) (by have := Hsum.out; omega) (by have := Hsum.out; omega)).mono ?_
  rintro e w3 ⟨A3, c3, rfl, s3, b3⟩
  obtain ⟨K, hK⟩ : ∃ K, np + m = K := ⟨_, rfl⟩
  rw [hK] at s3 ⊢
  obtain rfl : K = N := by rw [← hK]; exact Hsum.out
  have S3 : Hid (Slc w3 w.heap.size A3 K c3 o) := Lib.hid (by rw [← ho.out, mtf_pts]; exact s3.mono (by simp; omega))
  have B3 : Hid (Below w.heap.size w w3) := Lib.hid (btr (btr B1.out B2.out) b3)
  have X3 := Lib.hid ((X1.out.up B2.out).up b3)
  have hz3 := B3.out.size
  clear s3 b3 cc Bk2 B2 X1 P1 S1 hK
  go_wp2_with fail
  go_loopw [9, 11, 21] (fun v _ i wr => ∃ k A' c' us, k ≤ n ∧ i = .int .i64 (k : Nat) ∧ v = .slice A' k c' ∧ SS wr w3.heap.size w3.heap.size A' k c' us ((xss.take k).map (cj (iv o))) ∧ Below w3.heap.size w3 wr) (fun _ _ i _ => n - (intOf i).toNat)
  case atStart => exact ⟨0, _, _, [], Nat.zero_le _, rfl, rfl, SS.nil_, Below.refl _ _⟩
  case round =>
    obtain ⟨k, A', c', us, hk, rfl, rfl, ss, bel⟩ := hrel
    have Ss := Lib.hid ss
    have Be := Lib.hid bel
    have S5 := Lib.hid (S3.out.up bel)
    have X5 := Lib.hid (X3.out.up bel)
    have hz4 := bel.size
    clear ss bel
    by_cases hlt : k < n
    · obtain ⟨b, off, A5, l, c5, y, rfl, hb, ev, ey, hc0, hr0, hy, hlc⟩ := X5.out.at_ hlt
      have hyP := Ok.out y (by rw [← ey]; exact getD_memL (by rw [hlx.out]; exact hlt))
      obtain rfl : l = K := by have := hyP.2; omega
      have R5 := Lib.hid hr0
      have Yp : Hid (Pn l y) := Lib.hid hyP
      have Tk := Lib.hid (take_cj (o := iv o) (k := k) (by rw [hlx.out]; exact hlt) ey)
      have q0 : (0 : Int) ≤ k := by omega
      have q1 : (k : Int) < n := by omega
      clear ev ey hr0 hy hyP hb
      go_wp2_with fail
      refine (implThen A3 A5 c3 c5 l o y wr S5.out.ri_ R5.out (Lib.hid HM.out.2) (Lib.hid Yp.out.2) (Lib.hid HM.out.1) h2).mono ?_
      rintro e w6 ⟨A6, c6, rfl, s6, b6⟩
      have S6 := Lib.hid s6
      have B6 := Lib.hid b6
      have S5b := Lib.hid (S5.out.up b6)
      clear s6 b6
      go_wp2_with fail
      refine (implInv A3 c3 l o w6 S5b.out.ri_ (Lib.hid HM.out.2) (Lib.hid HM.out.1) h2).mono ?_
      rintro e w7 ⟨A7, c7, rfl, s7, b7⟩
      have S7 : Hid (Slc w7 w6.heap.size A7 l c7 (iv o)) := Lib.hid (by unfold iv; rw [HM.out.2]; exact s7)
      have B7 : Hid (Below wr.heap.size wr w7) := Lib.hid (btr B6.out b7)
      have S6b := Lib.hid (S6.out.up b7)
      clear s7 b7
      go_wp2_with fail
      refine (implThen A6 A7 c6 c7 l (compL o y) (iv o) w7 S6b.out.ri_ S7.out.ri_ (Lib.hid (HM.out.comp Yp.out).2) (Lib.hid HM.out.iv.2) (Lib.hid (HM.out.comp Yp.out).1) h2).mono ?_
      rintro e w8 ⟨A8, c8, rfl, s8, b8⟩
      have B8 : Hid (Below wr.heap.size wr w8) := Lib.hid (btr B7.out b8)
      have S8 : Hid (Slc w8 wr.heap.size A8 l c8 (cj (iv o) y)) := Lib.hid (by rw [cj_iv HM.out]; exact s8.mono B7.out.size)
      have Ss8 := Lib.hid (Ss.out.up B8.out)
      have D8 := Lib.hid (lies_dis (w := wr) Ss.out S8.out.lies (Nat.le_refl _))
      have B8b : Hid (Below w3.heap.size w3 w8) := Lib.hid (btr Be.out B8.out)
      have hz8 := B8b.out.size
      clear s8 b8
      go_wp2_with (at_builtin; go_must (refine wpList_app2_at rfl _ _ rfl rfl (Ss8.out.alloc _) w8.heap.size A8 l c8 (cj (iv o) y) rfl (by rw [World.cell?_alloc_at _ _ _ _ rfl]; rfl) ((S8.out.mono hz4).alloc _) D8.out (by omega) (by simp; omega) ?_); intro A9 c9 w9 s9 g9 h9)
      have S9 : Hid (SS w9 w3.heap.size w3.heap.size A9 (k + 1) c9 (us ++ [(A8, l, c8)]) ((xss.take (k + 1)).map (cj (iv o)))) := Lib.hid (by rw [Tk.out]; exact s9)
      have B9 : Hid (Below w3.heap.size w3 w9) := Lib.hid ((B8b.out.alloc (by omega) _).grown g9 (by simp; omega) (fun q hq => (Ss8.out.lt_ q hq).1))
      clear s9 g9 h9
      go_wp2_with fail
      go_roundw
      case rel => exact ⟨k + 1, A9, c9, _, by omega, by go_num, rfl, S9.out, B9.out⟩
      case measure => simp [intOf]; omega
    · obtain rfl : k = n := by omega
      have Sm : Hid (SS wr w.heap.size w.heap.size A' k c' us (xss.map (cj (iv o)))) := Lib.hid (by
        have h3 := Ss.out.mono hz3 hz3
        rwa [List.take_of_length_le (by rw [hlx.out]; exact Nat.le_refl _)] at h3)
      have B5 : Hid (Below w.heap.size w wr) := Lib.hid (btr B3.out Be.out)
      go_wp2_with fail
      go_ret
      exact ⟨_, _, us, rfl, Sm.out, B5.out⟩

set_option maxHeartbeats 4000000 in
set_option maxRecDepth 100000 in
/-- StabilizerOrder. -/
theorem implStabilizerOrder : CtImsI 34 IsStb := by
  intro a A n c vs xss P np cp pts w g s _
  have HX := Lib.hid g.rr
  have HP := Lib.hid s.ri
  have lp : Hid (pts.length = np) := Lib.hid s.lp
  have hlx : Hid (xss.length = n) := Lib.hid g.rr.lx
  have hn := g.hn
  have hl := Lib.hid g.hl
  have hnp := s.hn
  clear g s
  go_enter Try.func34, Try.ntmps34
  rcases hs : gB a xss with _ | _
  · have Fin : Hid (IsStb a xss pts 0) := Lib.hid (.inr ⟨fun h => by rw [hs] at h; exact absurd h.1 (by decide), rfl⟩)
    have Hs := Lib.hid hs
    clear hs
    go_wp2_with (first
      | (go_at_call 44; refine (implGS a A n c vs xss w HX.out hn hl).mono ?_; rintro e w1 ⟨rfl, b1⟩; rw [Hs.out]; have B1 := Lib.hid b1; clear b1))
    go_ret
    exact ⟨_, rfl, Fin.out, B1.out⟩
  · obtain ⟨N, rfl, hN1, hN2, hg8, hpm, hok⟩ := gB_pm hs
    have Hs := Lib.hid hs
    have Ok := Lib.hid hok
    have hn8 : n ≤ 8 := by rw [← hlx.out]; exact hg8
    obtain ⟨ans, hans⟩ := boolOf (PtS N pts)
    have Ha := Lib.hid hans
    clear hs hpm hok hg8 hans
    rcases ans with _ | _
    · have Fin : Hid (IsStb (N : Int) xss pts 0) := Lib.hid (.inr ⟨fun h => (by have h3 := h.2; rw [Int.toNat_natCast] at h3; exact absurd (Ha.out.2 h3) (by decide)), rfl⟩)
      go_wp2_with (first
        | (go_at_call 44; refine (implGS N A n c vs xss w HX.out hn hl).mono ?_; rintro e w1 ⟨rfl, b1⟩; rw [Hs.out]; have B1 := Lib.hid b1; clear b1)
        | (go_at_call 69; refine (implAsc N np cp P pts w1 (HP.out.up B1.out) lp hN1 hN2 hnp).mono ?_; rintro e w2 ⟨ans2, rfl, h2, b2⟩; obtain rfl : ans2 = false := Bool.eq_false_iff.2 fun e => absurd (Ha.out.2 (h2.1 e)) (by decide); have B2 : Hid (Below w.heap.size w w2) := Lib.hid (btr B1.out b2); clear b2 h2))
      go_ret
      exact ⟨_, rfl, Fin.out, B2.out⟩
    · have Pt : Hid (PtS N pts) := Lib.hid (Ha.out.1 rfl)
      have hnN : np ≤ N := by rw [← lp.out]; exact Pt.out.1
      have HM : Hid (Pn N (mtf pts N)) := Lib.hid (Pt.out.mtf_pn hN1 hN2)
      go_wp2_with (first
        | (go_at_call 44; refine (implGS N A n c vs xss w HX.out hn hl).mono ?_; rintro e w1 ⟨rfl, b1⟩; rw [Hs.out]; have B1 := Lib.hid b1; clear b1)
        | (go_at_call 69; refine (implAsc N np cp P pts w1 (HP.out.up B1.out) lp hN1 hN2 hnp).mono ?_; rintro e w2 ⟨ans2, rfl, h2, b2⟩; obtain rfl : ans2 = true := h2.2 Pt.out; have B2 : Hid (Below w.heap.size w w2) := Lib.hid (btr B1.out b2); clear b2 h2)
        | (go_at_call 70; refine (implRenum N n c np cp A P vs xss pts w2 (HX.out.up B2.out) hn8 Ok (HP.out.up B2.out) lp Pt hN1 hN2 _ (Lib.hid rfl)).mono ?_; rintro e w3 ⟨A3, c3, us, rfl, s3, b3⟩; have S3 := Lib.hid s3; have B3 : Hid (Below w.heap.size w w3) := Lib.hid (btr B2.out b3); clear s3 b3
           have OkM : Hid (∀ g ∈ xss.map (cj (iv (mtf pts N))), IsP g ∧ g.length = N) := Lib.hid fun g hg => (by obtain ⟨p, hp, rfl⟩ := List.mem_map.1 hg; exact cj_pn HM.out.iv (Ok.out p hp)))
        | (go_at_call 45; refine (implChainOf N n c3 A3 us (xss.map (cj (iv (mtf pts N)))) w3 S3.out.rr hN1 hN2 hn8 OkM).mono ?_; rintro e w4 ⟨ch, L, M, rfl, hc, ho, hw, b4⟩; have W4 := Lib.hid hw; have C4 := Lib.hid hc; have O4 := Lib.hid ho; have B4 : Hid (Below w.heap.size w w4) := Lib.hid (btr B3.out b4); clear hc ho hw b4))
      have Ep : Hid (ptr N L 0 = .pointer (some ⟨(L 0).B, 0, none⟩)) := Lib.hid (ptr_at (by omega))
      have Fin : Hid (IsStb (N : Int) xss pts (pr (osL N ch N) np (N - np))) := Lib.hid (by
        have h1 := W4.out.os hN1 hN2
        obtain ⟨v, hc, e⟩ := cj_card (pts := pts) HM.out Ok.out h1 (by rw [lp.out]; exact hnN) (fun j hj => mtf_pre N hj)
        rw [lp.out] at e
        exact .inl ⟨Hs.out, by rw [Int.toNat_natCast]; exact Pt.out, v, by rw [Int.toNat_natCast]; exact hc, e⟩)
      go_loopw [7, 26] (fun l i wr => ∃ j : Nat, j ≤ np ∧ i = .int .i64 (j : Nat) ∧ l = ptr N L j ∧ w4 = wr) (fun _ i _ => np - (intOf i).toNat)
      case atStart => exact ⟨0, Nat.zero_le _, rfl, Ep.out.symm, rfl⟩
      case round =>
        obtain ⟨j, hj, rfl, rfl, rfl⟩ := hrel
        by_cases hlt : j < np
        · rw [ptr_at (show j < N by omega)]
          obtain ⟨x0, x1, x2, x3, x4⟩ := C4.out.cB (Nat.zero_le _) (show j < N by omega)
          have q1 : (j : Int) < np := by omega
          clear x1 x2 x3
          go_wp2_with fail
          go_roundw
          case rel => exact ⟨j + 1, by omega, by go_num, rfl, trivial⟩
          case measure => simp [intOf]; omega
        · obtain rfl : j = np := by omega
          have K1 := Lib.hid (implOrder w3.heap.size N 0 j M ch L _ w4 C4.out O4.out W4 (Nat.zero_le _) hnN hN1 hN2 OkM)
          go_wp2_with fail
          refine K1.out.mono ?_
          rintro e w6 ⟨rfl, rfl⟩
          go_wp2_with fail
          go_ret
          exact ⟨_, rfl, Fin.out, B4.out⟩
end Go.Proofs.Ytcjcmhoalomjfab

/- The two named laws of chapter 4, with the program's contracts put in. Conditions: none beyond those of the texts imported. -/
namespace Go.Proofs.Ytcjcmhoalomjfab
open Go.RowKit
theorem nmdStrongGenerators (A : Option Addr) (cap len : Nat) (w : World) (hb : SB w w.heap.size A len) :
    Calls Try.prog 6 #[.slice A len cap] w fun e w' => e = .returned (.bool true) ∧ Below w.heap.size w w' :=
  lawStrongGenerators implStrongGeneratingSet implStabilizerOrder implIsMember implSameGroup A cap len w hb
end Go.Proofs.Ytcjcmhoalomjfab
