/- PairOrbitCount of the model. Conditions: at most 1048576 lists of at most 1048576 numbers. -/
import Derived.Test.YtojmlmeahoppjaaPair
import Derived.Test.YtojmlmeahoppjaaOrb1
import Derived.Deep.LoopGhost
import Derived.BigQuiet
namespace Go.Proofs.Ytojmlmeahoppjaa
open Go.RowKit

theorem quo_nat {u N q : Nat} (hN : 1 ≤ N) (h : u / N = q) : (u : Int).tdiv (N : Int) = (q : Int) := by
  subst h; exact (Int.ofNat_tdiv u N).symm
theorem rem_nat {u N r : Nat} (h : u % N = r) : (u : Int).tmod (N : Int) = (r : Int) := by
  subst h; exact (Int.ofNat_tmod u N).symm

set_option maxHeartbeats 8000000 in
set_option maxRecDepth 100000 in
/-- The model's PairOrbitCount. -/
theorem specPairOrbitCount (a : Int) (A : Option Addr) (n c : Nat) (vs : List SV) (xss : List (List Int)) (w : World) (hx : RR w w.heap.size A n vs xss) (hn : n ≤ 1048576) (hl : Hid (∀ i, i < n → (vs.getD i sd0).2.1 ≤ 1048576)) (ha : -9223372036854775808 ≤ a ∧ a ≤ 9223372036854775807) :
    Calls Try.prog 33 #[.int .i64 a, .slice A n c] w fun e w' => e = .returned (.int .i64 (pairC a xss)) ∧ Below w.heap.size w w' := by
  rcases hs : gB a xss with _ | _
  · have Fin : Hid (pairC a xss = 0) := Lib.hid (if_neg (by rw [hs]; simp))
    go_enter Try.func33, Try.ntmps33
    go_wp2_with fail
    have K0 := specGS a A n c vs xss w hx hn hl ha
    refine K0.mono ?_
    rintro e w1 ⟨rfl, b1⟩
    have B1 := Lib.hid b1
    clear b1 K0
    rw [hs]
    go_wp2_with fail
    go_ret
    exact ⟨ret_int Fin.out.symm, B1.out⟩
  · obtain ⟨N, hN, hN1, hN2, hg8, hpm, hok⟩ := gB_pm hs
    subst hN
    have Fin : Hid (pairC N xss = (offs xss N (N * N) : Nat)) := Lib.hid (if_pos hs)
    have Pm := Lib.hid hpm
    have HX := Lib.hid hx
    have hlx := hx.lx
    obtain ⟨M, hM0⟩ : ∃ M, M = N * N := ⟨_, rfl⟩
    have HM := Lib.hid hM0
    have hM4 : M ≤ 400 := by rw [hM0]; have := Nat.mul_le_mul hN2 hN2; omega
    have hM1 : 1 ≤ M := by rw [hM0]; have := Nat.mul_le_mul hN1 hN1; omega
    have hMi : (N : Int) * (N : Int) = (M : Int) := by rw [hM0]; push_cast; rfl
    have wM : IntKind.i64.wrap ((N : Int) * (N : Int)) = (M : Int) := by rw [hMi, IntKind.wrap_i64]; omega
    have wM2 : IntKind.i64.wrap (M : Int) = (M : Int) := by rw [IntKind.wrap_i64]; omega
    have PmM : Hid (PMs M (pairGs N xss)) := Lib.hid (by rw [hM0]; exact hpm.pair)
    have hn8 : n ≤ 8 := by omega
    obtain ⟨i0, hi, hz0, hz1, hz2⟩ := info_parts infoB
    clear hok hpm hM0
    go_enter Try.func33, Try.ntmps33
    go_wp2_with fail
    have K0 := specGS N A n c vs xss w hx hn hl ha
    refine K0.mono ?_
    rintro e w1 ⟨rfl, b1⟩
    have B1 := Lib.hid b1
    clear b1 hx K0
    rw [hs]
    clear hs
    go_wp2_with (first | (at_make; refine wpList_make_full _ rfl _ _ 61 rfl w1.heap.size 4 i0 (.bool false) 1 Try.underlying61 hi hz0 hz1 .i64 .i64 _ _ M rfl rfl rfl rfl (by rw [hz2]; omega) (by unfold maxLen; omega) (Nat.le_refl _) ?_; intro w2 hown2 hgrow2))
    obtain ⟨cs0, blk0, bits0⟩ := made_bits hown2
    have Blk0 := Lib.hid blk0
    have Bits0 : Hid (Bits M (snD xss N 0) cs0) := Lib.hid (bits0.congr fun z _ => snD_zero z)
    have B2 : Hid (Below w.heap.size w w2) := Lib.hid (B1.out.grown hgrow2 B1.out.size (fun k e => nomatch e))
    have hrw : w1.heap.size < w2.heap.size := blk0.lt
    have hww : w.heap.size ≤ w1.heap.size := B1.out.size
    clear hown2 hgrow2 blk0 bits0
    go_loopg [5, 7] M (fun gg v i wr => ∃ (k : Nat) (cs : Array Value), k ≤ M ∧ M - k ≤ gg ∧ i = .int .i64 (k : Nat) ∧ v = .int .i64 (offs xss N k : Nat) ∧ Blk wr w1.heap.size 4 cs ∧ Bits M (snD xss N k) cs ∧ Below w.heap.size w wr ∧ w1.heap.size < wr.heap.size)
    case atStart => exact ⟨0, cs0, Nat.zero_le _, by omega, rfl, by rw [offs_zero]; rfl, Blk0.out, Bits0.out, B2.out, hrw⟩
    case round =>
      clear Blk0 Bits0 B2 hrw
      obtain ⟨k, cs, hk, hgk, rfl, rfl, blk, bits, bel, hrw⟩ := hrel
      have Bk := Lib.hid blk
      have Bi := Lib.hid bits
      have Be := Lib.hid bel
      clear blk bits bel
      by_cases hlt : k < M
      · have hkN : Hid (k < N * N) := Lib.hid (by rw [← HM.out]; exact hlt)
        obtain ⟨q, eq⟩ : ∃ q, k / N = q := ⟨_, rfl⟩
        obtain ⟨r, er⟩ : ∃ r, k % N = r := ⟨_, rfl⟩
        have dq := quo_nat hN1 eq
        have dr := rem_nat er
        have hq20 : q < N := by rw [← eq]; exact pr_x hkN.out
        have hr20 : r < N := by rw [← er]; exact pr_y hkN.out
        have Dg : Hid (dg N k = decide (q = r)) := Lib.hid (by unfold dg; rw [eq, er])
        have wq : IntKind.i64.wrap (q : Int) = q := by rw [IntKind.wrap_i64]; omega
        obtain ⟨co, hco⟩ : ∃ co, offs xss N k = co := ⟨_, rfl⟩
        have hco4 : co ≤ 400 := by rw [← hco]; have := offs_le (gs := xss) (N := N) k; omega
        have Hco := Lib.hid hco
        rw [hco]
        clear eq er hco
        have kx0 : (0 : Int) ≤ k := by omega
        have kx1 : (k : Int) < M := by omega
        have nx1 : ¬ ((N : Int) = 0) := by omega
        by_cases hqr : q = r
        · have Dt : Hid (dg N k = true) := Lib.hid (by rw [Dg.out]; simpa using hqr)
          have Of : Hid (offs xss N (k + 1) = co) := Lib.hid (by rw [offs_dg Dt.out, Hco.out])
          have Bi2 : Hid (Bits M (snD xss N (k + 1)) cs) := Lib.hid (Bi.out.congr fun z _ => snD_dg Pm.out hkN.out Dt.out z)
          subst hqr
          go_wp2_with fail
          go_quiet (fail)
          go_wp2_with fail
          go_roundg (M - (k + 1))
          case rel => exact ⟨k + 1, cs, by omega, by omega, by go_num, by rw [Of.out], Bk.out, Bi2.out, btr Be.out (below_quiet _ _), hrw⟩
          case measure => omega
        · have Df : Hid (dg N k = false) := Lib.hid (by rw [Dg.out]; simpa using hqr)
          have dqr : ((q : Int) == (r : Int)) = false := by simp; omega
          have c8 : wr.cell? ⟨w1.heap.size, k, none⟩ = some (.bool (snD xss N k k)) := (Bk.out.cell k).trans (Bi.out.2 k hlt)
          rcases hsk : snD xss N k k with _ | _
          · rw [hsk] at c8
            have Sk : Hid (sn (pairGs N xss) (N * N) k k = false) := Lib.hid (by rw [← snD_self Df.out]; exact hsk)
            have Of : Hid (offs xss N (k + 1) = co + 1) := Lib.hid (by rw [offs_yes Sk.out Df.out, Hco.out])
            clear hsk
            go_wp2_with fail
            have f8 := Bk.out.frozen k
            have wco : IntKind.i64.wrap ((co : Int) + 1) = (co : Int) + 1 := by rw [IntKind.wrap_i64]; omega
            go_quiet (fail)
            have R0 := Lib.hid ((Bk.out.drewN nq).set_ k (.bool true))
            have Sr : Hid (∀ v, Rch (pairGs N xss) k v → snD xss N k v = false) := Lib.hid fun v hv => snD_out Pm.out hkN.out Sk.out hv
            have Sy : Hid (∀ p, snD xss N (k + 1) p = (snD xss N k p || decide (p ∈ orb (pairGs N xss) M k))) := Lib.hid fun p => by rw [HM.out]; exact snD_yes Pm.out hkN.out Df.out p
            have Bb0 : Hid (Bits M (fun y => snD xss N k y || decide (y ∈ [k])) (cs.setIfInBounds k (.bool true))) := Lib.hid (Bi.out.set_ fun z _ => by simp)
            have hsz2 : ((wr.drewN nq).setCell ⟨w1.heap.size, k, none⟩ (.bool true)).heap.size = wr.heap.size := by simp [World.setCell]
            have s0 := (Slc.lit1 ((wr.drewN nq).setCell ⟨w1.heap.size, k, none⟩ (.bool true)) wr.heap.size (k : Int) (by rw [hsz2]; exact Nat.le_refl _))
            rw [hsz2] at s0
            have S0 := Lib.hid s0
            have Be0 : Hid (Below w.heap.size w (((wr.drewN nq).setCell ⟨w1.heap.size, k, none⟩ (.bool true)).alloc (.cells #[.int .i64 (k : Int)] 2))) := Lib.hid (((btr Be.out (below_quiet wr nq)).setCell (p := ⟨w1.heap.size, k, none⟩) hww _).alloc (by rw [hsz2]; exact Be.out.size) _)
            have hs0 : wr.heap.size ≤ (((wr.drewN nq).setCell ⟨w1.heap.size, k, none⟩ (.bool true)).alloc (.cells #[.int .i64 (k : Int)] 2)).heap.size := by simp [World.setCell]
            have hwo : w.heap.size ≤ wr.heap.size := Be.out.size
            clear s0 hsz2
            go_wp2_with fail
            clear c8 f8 dqr
            obtain ⟨wo, rfl⟩ : ∃ wo, wo = wr := ⟨_, rfl⟩
            go_loopg [8, 9] (M + 1) (fun gg v i wr => ∃ (t : Nat) (f : List Nat) (A' : Option Addr) (c' : Nat) (cs1 : Array Value), t ≤ f.length ∧ M + 1 - t ≤ gg ∧ i = .int .i64 (t : Nat) ∧ v = .slice A' f.length c' ∧ Slc wr wo.heap.size A' f.length c' (f.map Int.ofNat) ∧
              Fd (pairGs N xss) M k f ∧ bfs (pairGs N xss) (M + 1 - t) t f = orb (pairGs N xss) M k ∧ Blk wr w1.heap.size 4 cs1 ∧ Bits M (fun y => snD xss N k y || decide (y ∈ f)) cs1 ∧ Below w.heap.size w wr ∧ wo.heap.size ≤ wr.heap.size)
            case atStart => exact ⟨0, [k], _, _, _, Nat.zero_le _, Nat.le_refl _, rfl, rfl, S0.out, Fd.one hlt, rfl, R0.out.alloc _, Bb0.out, Be0.out, hs0⟩
            case round =>
              clear S0 Be0 Bb0 R0 hs0
              obtain ⟨t, f, A', c', cs1, ht, hgt, rfl, rfl, ss, fd, hbf, blk, bits, bel, hso⟩ := hrel
              have Ss := Lib.hid ss
              have Fq := Lib.hid fd
              have Hbf := Lib.hid hbf
              have Bk1 := Lib.hid blk
              have Bi1 := Lib.hid bits
              have Be1 := Lib.hid bel
              have hfM := fd.len
              clear ss fd hbf blk bits bel
              by_cases hlf : t < f.length
              · obtain ⟨u, hu⟩ : ∃ u, f.getD t 0 = u := ⟨_, rfl⟩
                have huf : Hid (u ∈ f) := Lib.hid (by rw [← hu]; exact getD_memN hlf)
                have Hu := Lib.hid hu
                have huM : u < M := Fq.out.lt u huf.out
                obtain ⟨uq, euq⟩ : ∃ uq, u / N = uq := ⟨_, rfl⟩
                obtain ⟨ur, eur⟩ : ∃ ur, u % N = ur := ⟨_, rfl⟩
                have duq := quo_nat hN1 euq
                have dur := rem_nat eur
                have huN : Hid (u < N * N) := Lib.hid (by rw [← HM.out]; exact huM)
                have huq : uq < N := by rw [← euq]; exact pr_x huN.out
                have hur : ur < N := by rw [← eur]; exact pr_y huN.out
                have wuq : IntKind.i64.wrap (uq : Int) = uq := by rw [IntKind.wrap_i64]; omega
                have Euq := Lib.hid euq
                have Eur := Lib.hid eur
                clear hu euq eur
                go_wp2
                obtain ⟨wl, rfl⟩ : ∃ wl, wl = wr := ⟨_, rfl⟩
                go_loopg [8, 10] n (fun gg v i wr2 => ∃ (j : Nat) (f2 : List Nat) (A2 : Option Addr) (c2 : Nat) (cs2 : Array Value), j ≤ n ∧ n - j ≤ gg ∧ i = .int .i64 (j : Nat) ∧ v = .slice A2 f2.length c2 ∧ Slc wr2 wo.heap.size A2 f2.length c2 (f2.map Int.ofNat) ∧
                  f2 = expk (pairGs N xss) j u f ∧ Blk wr2 w1.heap.size 4 cs2 ∧ Bits M (fun y => snD xss N k y || decide (y ∈ f2)) cs2 ∧ Below w.heap.size w wr2 ∧ wo.heap.size ≤ wr2.heap.size)
                case atStart => exact ⟨0, f, _, _, _, Nat.zero_le _, Nat.le_refl _, rfl, rfl, Ss.out, expk_zero.symm, Bk1.out, Bi1.out, Be1.out, hso⟩
                case round =>
                  obtain ⟨j, f2, A2, c2, cs2, hj, hgj, rfl, rfl, ss2, ef2, blk2, bits2, bel2, hso2⟩ := hrel
                  have Ss2 := Lib.hid ss2
                  have Ef := Lib.hid ef2
                  have Bk2 := Lib.hid blk2
                  have Bi2 := Lib.hid bits2
                  have Be2 := Lib.hid bel2
                  have fd2 : Hid (Fd (pairGs N xss) M k f2) := Lib.hid (by rw [ef2]; exact expk_fd PmM.out Fq.out huf.out)
                  have hf2M := fd2.out.len
                  have hpre : t < f2.length ∧ f2.getD t 0 = u := by
                    obtain ⟨tt, et⟩ := expk_pre (gs := pairGs N xss) (k := j) (u := u) (f := f)
                    rw [ef2, et]
                    exact ⟨by rw [List.length_append]; omega, by rw [getD_preN hlf]; exact Hu.out⟩
                  have hk2 := hpre.1
                  have Hu2 := Lib.hid hpre.2
                  clear ss2 ef2 blk2 bits2 bel2 hpre
                  by_cases hjl : j < n
                  · obtain ⟨b, off, A5, l, c5, y, rfl, hbB, ev, ey, hc0, hr0, hy, hlc⟩ := (HX.out.below Be2.out (Nat.le_refl _)).at_ hjl
                    have hjx : j < xss.length := by rw [hlx]; exact hjl
                    have hyp : PM N y := Pm.out y (by rw [← ey]; exact getD_memL hjx)
                    obtain ⟨b2, off2, rfl, hb2, hc2⟩ := hr0 (by rw [hyp.len]; omega)
                    have cq := hc2 uq (by rw [hyp.len]; exact huq)
                    rw [hyp.nx_val huq] at cq
                    have cr := hc2 ur (by rw [hyp.len]; exact hur)
                    rw [hyp.nx_val hur] at cr
                    have hxq := hyp.nx_lt huq
                    have hxr := hyp.nx_lt hur
                    have Mem : Hid (pairL N y ∈ pairGs N xss) := Lib.hid (List.mem_map.2 ⟨y, by rw [← ey]; exact getD_memL hjx, rfl⟩)
                    have Nx := Lib.hid (expk_succ (gs := pairGs N xss) (k := j) (u := u) (f := f) (y := pairL N y) (by rw [pairGs, List.length_map]; exact hjx) (by
                      rw [List.getD_eq_getElem?_getD, List.getElem?_eq_getElem hjx] at ey
                      have e' : xss[j] = y := ey
                      rw [pairGs, List.getD_eq_getElem?_getD, List.getElem?_map, List.getElem?_eq_getElem hjx, e']; rfl))
                    have Nv := Lib.hid (nx_pair y huN.out)
                    have hvM : Hid (nx (pairL N y) u < M) := Lib.hid ((PmM.out _ Mem.out).nx_lt huM)
                    have hsv : Hid (snD xss N k (nx (pairL N y) u) = false) := Lib.hid (Sr.out _ ((Fq.out.rch u huf.out).step Mem.out))
                    rcases Slc.at_ Ss2.out with ⟨_, e1, _⟩ | ⟨g, rfl, hg1, hg2⟩
                    · exfalso; have : f2.length = 0 := by have := congrArg List.length e1; simpa using this
                      omega
                    have c3 := Ss2.out.cellN hk2
                    rw [Hu2.out] at c3
                    obtain ⟨v, ev2⟩ : ∃ v, nx (pairL N y) u = v := ⟨_, rfl⟩
                    have hvM2 := hvM.out
                    have Nv2 := Nv.out
                    rw [ev2] at hvM2 Nv2
                    rw [Euq.out, Eur.out] at Nv2
                    obtain ⟨xq, exq⟩ : ∃ xq, nx y uq = xq := ⟨_, rfl⟩
                    obtain ⟨xr, exr⟩ : ∃ xr, nx y ur = xr := ⟨_, rfl⟩
                    rw [exq] at cq hxq Nv2
                    rw [exr] at cr hxr Nv2
                    obtain ⟨z, ez⟩ : ∃ z : Nat, xq * N = z := ⟨_, rfl⟩
                    have ez2 : (xq : Int) * (N : Int) = (z : Int) := by rw [← ez]; push_cast; rfl
                    rw [ez] at Nv2
                    have wz : IntKind.i64.wrap (z : Int) = (z : Int) := by rw [IntKind.wrap_i64]; omega
                    have wzy : IntKind.i64.wrap ((z : Int) + xr) = (v : Int) := by rw [IntKind.wrap_i64]; omega
                    have Ev := Lib.hid ev2
                    have c4 : wr.cell? ⟨w1.heap.size, v, none⟩ = some (.bool (snD xss N k v || decide (v ∈ f2))) := (Bk2.out.cell v).trans (Bi2.out.2 v hvM2)
                    have f4 := Bk2.out.frozen v
                    have hl' : l = N := by rw [← hy]; exact hyp.len
                    subst hl'
                    have px1 : (0 : Int) ≤ uq := by omega
                    have px2 : (uq : Int) < l := by omega
                    have px3 : (0 : Int) ≤ ur := by omega
                    have px4 : (ur : Int) < l := by omega
                    have px5 : (0 : Int) ≤ t := by omega
                    have px6 : (t : Int) < f2.length := by omega
                    have px7 : (0 : Int) ≤ j := by omega
                    have px8 : (j : Int) < n := by omega
                    have px9 : (0 : Int) ≤ v := by omega
                    have px10 : (v : Int) < M := by omega
                    clear ev ey hr0 hy hyp hc2 ev2 ez exq exr Nv2
                    go_wp2_with fail
                    go_quiet (fail)
                    obtain ⟨w4, hw4⟩ : ∃ w4, wr.drewN nq = w4 := ⟨_, rfl⟩
                    have c4' : w4.cell? ⟨w1.heap.size, v, none⟩ = some (.bool (snD xss l k v || decide (v ∈ f2))) := by rw [← hw4]; exact c4
                    have f4' : w4.frozen? ⟨w1.heap.size, v, none⟩ = false := by rw [← hw4]; exact f4
                    have Ss4 : Hid (Slc w4 wo.heap.size (some ⟨g, 0, none⟩) f2.length c2 (f2.map Int.ofNat)) := Lib.hid (by rw [← hw4]; exact Ss2.out.drewN nq)
                    have Bk4 : Hid (Blk w4 w1.heap.size 4 cs2) := Lib.hid (by rw [← hw4]; exact Bk2.out.drewN nq)
                    have Be4 : Hid (Below w.heap.size w w4) := Lib.hid (by rw [← hw4]; exact btr Be2.out (below_quiet _ _))
                    have hso4 : wo.heap.size ≤ w4.heap.size := by rw [← hw4]; exact hso2
                    have hg4 : g < w4.heap.size := by rw [← hw4]; exact hg2
                    rw [hw4]
                    clear hw4 c4 f4 cq cr c3 hc0
                    by_cases hm : v ∈ f2
                    · have Nx2 : Hid (expk (pairGs l xss) (j + 1) u f = f2) := Lib.hid (by rw [Nx.out, ← Ef.out, Ev.out, addN_yes hm])
                      rw [show (snD xss l k v || decide (v ∈ f2)) = true from by simp [hm]] at c4'
                      clear hm f4'
                      go_wp2
                      go_roundg (n - (j + 1))
                      case rel => exact ⟨j + 1, f2, _, _, _, by omega, by omega, by go_num, rfl, Ss4.out, Nx2.out.symm, Bk4.out, Bi2.out, Be4.out, hso4⟩
                      case measure => omega
                    · have Nx2 : Hid (expk (pairGs l xss) (j + 1) u f = f2 ++ [v]) := Lib.hid (by rw [Nx.out, ← Ef.out, Ev.out, addN_no hm])
                      have hsv2 : snD xss l k v = false := by rw [← Ev.out]; exact hsv.out
                      rw [show (snD xss l k v || decide (v ∈ f2)) = false from by simp [hm, hsv2]] at c4'
                      have Bi3 : Hid (Bits M (fun y => snD xss l k y || decide (y ∈ f2 ++ [v])) (cs2.setIfInBounds v (.bool true))) := Lib.hid (Bi2.out.set_ fun z _ => by simp [Bool.or_assoc])
                      have Bk5 := Lib.hid (Bk4.out.set_ v (.bool true))
                      have Be5 := Lib.hid (Be4.out.setCell (p := ⟨w1.heap.size, v, none⟩) hww (.bool true))
                      have hne5 : some g ≠ some w1.heap.size := by intro e; injection e with e; omega
                      have Ss5 : Hid (Slc (w4.setCell ⟨w1.heap.size, v, none⟩ (.bool true)) wo.heap.size (some ⟨g, 0, none⟩) f2.length c2 (f2.map Int.ofNat)) := Lib.hid (Ss4.out.kept (grown_set (grown_refl _ _) _ _) (.inr (by simp [Value.ownBlock]; omega)))
                      have hz5 : wo.heap.size ≤ (w4.setCell ⟨w1.heap.size, v, none⟩ (.bool true)).heap.size := by simp [World.setCell]; exact hso4
                      have hc9 : ((w4.setCell ⟨w1.heap.size, v, none⟩ (.bool true)).alloc (.cells #[.int .i64 ((v : Nat) : Int)] 2)).cell? ⟨w4.heap.size, 0, none⟩ = some (.int .i64 ((v : Nat) : Int)) := by
                        have e : (w4.setCell ⟨w1.heap.size, v, none⟩ (.bool true)).heap.size = w4.heap.size := by simp [World.setCell]
                        rw [← e, World.cell?_alloc_at _ _ _ _ rfl]; rfl
                      clear hm hsv2
                      go_wp2_with (first | (at_builtin; refine wpList_app1 rfl _ _ rfl wo.heap.size (some ⟨g, 0, none⟩) f2.length c2 _ rfl (Ss5.out.alloc _) w4.heap.size ((v : Nat) : Int) rfl hc9 (by omega) (by simp; omega) ?_; intro A3 c3 w3 ss3 hg3))
                      have Ss6 : Hid (Slc w3 wo.heap.size A3 (f2 ++ [v]).length c3 ((f2 ++ [v]).map Int.ofNat)) := Lib.hid (by
                        rw [List.length_append, List.map_append]; exact ss3)
                      have hrne : some w1.heap.size ≠ (Value.slice (some ⟨g, 0, none⟩) f2.length c2).ownBlock := by simp [Value.ownBlock]; omega
                      have Bk6 := Lib.hid ((Bk5.out.alloc (.cells #[.int .i64 ((v : Nat) : Int)] 2)).grown hg3 hrne)
                      have Be6 : Hid (Below w.heap.size w w3) := Lib.hid ((Be5.out.alloc Be5.out.size (.cells #[.int .i64 ((v : Nat) : Int)] 2)).grown hg3 (by have := Be5.out.size; simp at this ⊢; omega) (fun q' hq' => by have := (Ss5.out.lt_ q' hq').1; omega))
                      have hso6 : wo.heap.size ≤ w3.heap.size := by have h1 := hg3.size; simp at h1; omega
                      clear ss3 hg3 hrne
                      go_wp2
                      go_roundg (n - (j + 1))
                      case rel => exact ⟨j + 1, f2 ++ [v], _, _, _, by omega, by omega, by go_num, by simp, Ss6.out, Nx2.out.symm, Bk6.out, Bi3.out, Be6.out, hso6⟩
                      case measure => omega
                  · have hjn : j = n := by omega
                    subst hjn
                    have Ee : Hid (f2 = expd (pairGs N xss) u f) := Lib.hid (by
                      have : (pairGs N xss).length = j := by rw [pairGs, List.length_map, hlx]
                      rw [Ef.out, ← this, expk_all])
                    have Hb2 : Hid (bfs (pairGs N xss) (M + 1 - (t + 1)) (t + 1) f2 = orb (pairGs N xss) M k) := Lib.hid (by rw [Ee.out, ← Hu.out, ← bfs_go hlf hfM]; exact Hbf.out)
                    go_wp2
                    go_roundg (M + 1 - (t + 1))
                    case rel => exact ⟨t + 1, f2, _, _, _, by omega, by omega, by go_num, rfl, Ss2.out, fd2.out, Hb2.out, Bk2.out, Bi2.out, Be2.out, hso2⟩
                    case measure => omega
              · have htl : t = f.length := by omega
                have Eo : Hid (f = orb (pairGs N xss) M k) := Lib.hid (by rw [← Hbf.out, bfs_end (by omega)])
                have Bi3 : Hid (Bits M (snD xss N (k + 1)) cs1) := Lib.hid (Bi1.out.congr fun z _ => by rw [Sy.out z, Eo.out])
                go_wp2
                go_roundg (M - (k + 1))
                case rel => exact ⟨k + 1, cs1, by omega, by omega, by go_num, by rw [Of.out]; push_cast; rfl, Bk1.out, Bi3.out, Be1.out, by omega⟩
                case measure => omega
          · rw [hsk] at c8
            have Sk : Hid (sn (pairGs N xss) (N * N) k k = true) := Lib.hid (by rw [← snD_self Df.out]; exact hsk)
            have Of : Hid (offs xss N (k + 1) = co) := Lib.hid (by rw [offs_no Sk.out, Hco.out])
            have Bi2 : Hid (Bits M (snD xss N (k + 1)) cs) := Lib.hid (Bi.out.congr fun z _ => snD_seen Pm.out hkN.out Sk.out z)
            clear hsk
            go_wp2_with fail
            go_quiet (fail)
            go_wp2_with fail
            go_roundg (M - (k + 1))
            case rel => exact ⟨k + 1, cs, by omega, by omega, by go_num, by rw [Of.out], Bk.out, Bi2.out, btr Be.out (below_quiet _ _), hrw⟩
            case measure => omega
      · have hkM : k = M := by omega
        have Fin2 : Hid (pairC N xss = (offs xss N M : Nat)) := Lib.hid (by rw [Fin.out, HM.out])
        subst hkM
        go_wp2
        go_ret
        exact ⟨ret_int Fin2.out.symm, Be.out⟩
end Go.Proofs.Ytojmlmeahoppjaa
