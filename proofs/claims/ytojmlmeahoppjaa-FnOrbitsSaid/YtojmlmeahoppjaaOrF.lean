/- orbitFrom: the sorted orbit of a point, its points marked. Conditions: at most 1000 points, at most 8 maps. -/
import Derived.Test.YtojmlmeahoppjaaGen
import Derived.Test.YtojmlmeahoppjaaSSx
import Derived.Test.YtojmlmeahoppjaaRow
import Derived.Deep.LoopGhost
namespace Go.Proofs.Ytojmlmeahoppjaa
open Go.RowKit

/-- The cells cs say f of the numbers below N. -/
def Bits (N : Nat) (f : Nat → Bool) (cs : Array Value) : Prop := cs.size = N ∧ ∀ y, y < N → cs[y]? = some (.bool (f y))
theorem Bits.set_ {N : Nat} {f h : Nat → Bool} {cs : Array Value} (hb : Bits N f cs) {y : Nat} (hh : ∀ z, z < N → h z = (f z || decide (z = y))) : Bits N h (cs.setIfInBounds y (.bool true)) := by
  refine ⟨by simpa using hb.1, fun z hz => ?_⟩
  rw [Array.getElem?_setIfInBounds, hh z hz]
  by_cases e : y = z
  · subst e; rw [if_pos rfl, if_pos (by rw [hb.1]; exact hz)]; simp
  · rw [if_neg e, hb.2 z hz]
    have : ¬ z = y := fun h => e h.symm
    simp [this]
theorem Bits.congr {N : Nat} {f h : Nat → Bool} {cs : Array Value} (hb : Bits N f cs) (hh : ∀ z, z < N → h z = f z) : Bits N h cs := ⟨hb.1, fun z hz => by rw [hb.2 z hz, hh z hz]⟩
theorem Bits.start (N : Nat) : Bits N (fun _ => false) (List.replicate N (Value.bool false)).toArray := ⟨by simp, fun y hy => by
  rw [List.getElem?_toArray, List.getElem?_replicate, if_pos hy]⟩

/-- Blocks from a's end on may turn besides. -/
theorem grown_new {a b c : World} {row row2 : Option Nat} (h : a.grownBy b row) (h2 : b.grownBy c row2) (hr : ∀ j, row2 = some j → a.heap.size ≤ j) : a.grownBy c row :=
  ⟨h2.os.trans h.os, h2.tape.trans h.tape, h2.output.trans h.output, Nat.le_trans h.size h2.size, fun i hi hne => (h2.block i (Nat.lt_of_lt_of_le hi h.size) (fun e => by have := hr _ e.symm; omega)).trans (h.block i hi hne)⟩
theorem grown_alloc {a b : World} {row : Option Nat} (h : a.grownBy b row) (o : Obj) : a.grownBy (b.alloc o) row := grown_new h (World.grownBy_alloc b o none) (fun j e => nomatch e)
theorem Slc.cellN {w : World} {base g n c i : Nat} {f : List Nat} (h : Slc w base (some ⟨g, 0, none⟩) n c (f.map Int.ofNat)) (hi : i < n) : w.cell? ⟨g, i, none⟩ = some (.int .i64 (f.getD i 0 : Nat)) := by
  have hl := h.1
  rw [List.length_map] at hl
  have ho : w.ownsRow base 2 1 (.slice (some ⟨g, 0, none⟩) n c) n ((f.map Int.ofNat).map (Value.int .i64)) := by
    have := h.2; unfold Own at this; rw [h.1] at this; exact this
  rw [ho.cellAt i (by omega), List.getElem?_map, List.getElem?_map, List.getD_eq_getElem?_getD, List.getElem?_eq_getElem (by omega)]
  rfl

/-- The first k maps are gone through. -/
def expk (gs : List (List Int)) (k u : Nat) (f : List Nat) : List Nat := (gs.take k).foldl (fun f g => addN f (nx g u)) f
section
variable {gs : List (List Int)} {N x k u : Nat} {f : List Nat}
theorem expk_zero : expk gs 0 u f = f := by simp [expk]
theorem expk_succ {y : List Int} (hk : k < gs.length) (ey : gs.getD k [] = y) : expk gs (k + 1) u f = addN (expk gs k u f) (nx y u) := by
  rw [List.getD_eq_getElem?_getD, List.getElem?_eq_getElem hk] at ey
  have e' : gs[k] = y := ey
  rw [expk, List.take_succ_eq_append_getElem hk, List.foldl_append, e']; rfl
theorem expk_all : expk gs gs.length u f = expd gs u f := by rw [expk, List.take_length]; rfl
theorem expk_fd (hp : PMs N gs) (h : Fd gs N x f) (hu : u ∈ f) : Fd gs N x (expk gs k u f) :=
  Fd.fold hp (h.lt u hu) (h.rch u hu) _ (fun g hg => List.mem_of_mem_take hg) f h
theorem expk_pre : ∃ t, expk gs k u f = f ++ t := expd_pre (gs.take k) u f
theorem addN_yes {y : Nat} (h : y ∈ f) : addN f y = f := if_pos h
theorem addN_no {y : Nat} (h : y ∉ f) : addN f y = f ++ [y] := if_neg h
theorem rch_out {s : Nat → Bool} (hp : PMs N gs) (hx : x < N) (h0 : s x = false) (hs : ∀ v, v < N → s v = false → ∀ g ∈ gs, s (nx g v) = false) {y : Nat} (h : Rch gs x y) : s y = false := by
  induction h with
  | refl => exact h0
  | step hu hg ih => exact hs _ (hu.lt hp hx) ih _ hg
end

set_option maxHeartbeats 4000000 in
set_option maxRecDepth 100000 in
/-- orbitFrom. -/
theorem implFrom (x : Nat) (A : Option Addr) (n c N r B : Nat) (vs : List SV) (gs : List (List Int)) (s : Nat → Bool) (cs : Array Value) (w : World) (hx : RR w B A n vs gs) (hB : B ≤ r) (hp : Hid (PMs N gs)) (hxN : x < N) (hN : N ≤ 1000) (hn : n ≤ 8)
    (hr : Blk w r 4 cs) (hb : Hid (Bits N s cs)) (h0 : Hid (s x = false)) (hs : Hid (∀ v, v < N → s v = false → ∀ g ∈ gs, s (nx g v) = false)) :
    Calls Try.prog 55 #[.int .i64 (x : Nat), .slice A n c, .slice (some ⟨r, 0, none⟩) N N] w fun e w' => ∃ A' m c', e = .returned (.slice A' m c') ∧ Slc w' w.heap.size A' m c' (oS gs N x) ∧
      (∃ cs', Blk w' r 4 cs' ∧ Bits N (fun y => s y || decide (y ∈ orb gs N x)) cs') ∧ w.grownBy w' (some r) := by
  have HX := Lib.hid hx
  have hlx := hx.lx
  have hrlt := hr.lt
  have c0 := (hr.cell x).trans (hb.out.2 x hxN)
  have f0 := hr.frozen x
  have R0 := Lib.hid (hr.set_ x (.bool true))
  have B0 : Hid (Bits N (fun y => s y || decide (y ∈ [x])) (cs.setIfInBounds x (.bool true))) := Lib.hid (hb.out.set_ fun z _ => by simp)
  have hsz2 : (w.setCell ⟨r, x, none⟩ (.bool true)).heap.size = w.heap.size := by simp [World.setCell]
  have s0 := (Slc.lit1 (w.setCell ⟨r, x, none⟩ (.bool true)) w.heap.size (x : Int) (by simp [World.setCell]))
  rw [hsz2] at s0
  have S0 := Lib.hid s0
  clear s0 hsz2
  have G0 : Hid (w.grownBy ((w.setCell ⟨r, x, none⟩ (.bool true)).alloc (.cells #[.int .i64 (x : Int)] 2)) (some r)) := Lib.hid (grown_alloc (grown_set (grown_refl _ _) _ _) _)
  have hsz : w.heap.size ≤ (w.setCell ⟨r, x, none⟩ (.bool true)).heap.size := by simp [World.setCell]
  clear hx hr
  go_enter Try.func55, Try.ntmps55
  go_wp2
  clear c0 f0
  go_loopg [7, 8] (N + 1) (fun gg v i wr => ∃ (k : Nat) (f : List Nat) (A' : Option Addr) (c' : Nat) (cs1 : Array Value), k ≤ f.length ∧ N + 1 - k ≤ gg ∧ i = .int .i64 (k : Nat) ∧ v = .slice A' f.length c' ∧ Slc wr w.heap.size A' f.length c' (f.map Int.ofNat) ∧
    Fd gs N x f ∧ bfs gs (N + 1 - k) k f = orb gs N x ∧ Blk wr r 4 cs1 ∧ Bits N (fun y => s y || decide (y ∈ f)) cs1 ∧ w.grownBy wr (some r))
  case atStart => exact ⟨0, [x], _, _, _, Nat.zero_le _, Nat.le_refl _, rfl, rfl, S0.out, Fd.one hxN, rfl, R0.out.alloc _, B0.out, G0.out⟩
  case round =>
    clear S0 G0 B0 R0
    obtain ⟨k, f, A', c', cs1, hk, hgk, rfl, rfl, ss, fd, hbf, blk, bits, gro⟩ := hrel
    have Ss := Lib.hid ss
    have Fq := Lib.hid fd
    have Hbf := Lib.hid hbf
    have Bk := Lib.hid blk
    have Bi := Lib.hid bits
    have Gr := Lib.hid gro
    have hfN := fd.len
    clear ss fd hbf blk bits gro
    by_cases hlt : k < f.length
    · obtain ⟨u, hu⟩ : ∃ u, f.getD k 0 = u := ⟨_, rfl⟩
      have huf : Hid (u ∈ f) := Lib.hid (by rw [← hu]; exact getD_memN hlt)
      have Hu := Lib.hid hu
      have huN : u < N := Fq.out.lt u huf.out
      have hsu : Hid (s u = false) := Lib.hid (rch_out hp.out hxN h0.out hs.out (Fq.out.rch u huf.out))
      clear hu
      go_wp2
      obtain ⟨wl, rfl⟩ : ∃ wl, wl = wr := ⟨_, rfl⟩
      go_loopg [7, 25] n (fun gg v i wr2 => ∃ (j : Nat) (f2 : List Nat) (A2 : Option Addr) (c2 : Nat) (cs2 : Array Value), j ≤ n ∧ n - j ≤ gg ∧ i = .int .i64 (j : Nat) ∧ v = .slice A2 f2.length c2 ∧ Slc wr2 w.heap.size A2 f2.length c2 (f2.map Int.ofNat) ∧
        f2 = expk gs j u f ∧ Blk wr2 r 4 cs2 ∧ Bits N (fun y => s y || decide (y ∈ f2)) cs2 ∧ w.grownBy wr2 (some r))
      case atStart => exact ⟨0, f, _, _, _, Nat.zero_le _, Nat.le_refl _, rfl, rfl, Ss.out, expk_zero.symm, Bk.out, Bi.out, Gr.out⟩
      case round =>
        obtain ⟨j, f2, A2, c2, cs2, hj, hgj, rfl, rfl, ss2, ef2, blk2, bits2, gro2⟩ := hrel
        have Ss2 := Lib.hid ss2
        have Ef := Lib.hid ef2
        have Bk2 := Lib.hid blk2
        have Bi2 := Lib.hid bits2
        have Gr2 := Lib.hid gro2
        have fd2 : Hid (Fd gs N x f2) := Lib.hid (by rw [ef2]; exact expk_fd hp.out Fq.out huf.out)
        have hf2N := fd2.out.len
        have hpre : k < f2.length ∧ f2.getD k 0 = u := by
          obtain ⟨t, et⟩ := expk_pre (gs := gs) (k := j) (u := u) (f := f)
          rw [ef2, et]
          exact ⟨by rw [List.length_append]; omega, by rw [getD_preN hlt]; exact Hu.out⟩
        have hk2 := hpre.1
        have Hu2 := Lib.hid hpre.2
        clear ss2 ef2 blk2 bits2 gro2 hpre
        by_cases hjl : j < n
        · obtain ⟨b, off, A5, l, c5, y, rfl, hbB, ev, ey, hc0, hr0, hy, hlc⟩ := (HX.out.grown Gr2.out (by omega) (fun g e => by cases e; exact hB)).at_ hjl
          have hyp : PM N y := hp.out y (by rw [← ey]; exact getD_memL (by rw [hlx]; exact hjl))
          obtain ⟨b2, off2, rfl, hb2, hc2⟩ := hr0 (by rw [hyp.len]; omega)
          have c2' := hc2 u (by rw [hyp.len]; exact huN)
          rw [hyp.nx_val huN] at c2'
          have hvN := hyp.nx_lt huN
          have Nx := Lib.hid (expk_succ (u := u) (f := f) (by rw [hlx]; exact hjl) ey)
          have hsv : Hid (s (nx y u) = false) := Lib.hid (hs.out u huN hsu.out y (by rw [← ey]; exact getD_memL (by rw [hlx]; exact hjl)))
          have hrv : Hid (Rch gs x (nx y u)) := Lib.hid ((Fq.out.rch u huf.out).step (by rw [← ey]; exact getD_memL (by rw [hlx]; exact hjl)))
          rcases Slc.at_ Ss2.out with ⟨_, e1, _⟩ | ⟨g, rfl, hg1, hg2⟩
          · exfalso; have : f2.length = 0 := by have := congrArg List.length e1; simpa using this
            omega
          have c3 := Ss2.out.cellN hk2
          rw [Hu2.out] at c3
          obtain ⟨v, ev2⟩ : ∃ v, nx y u = v := ⟨_, rfl⟩
          rw [ev2] at c2' hvN
          have Ev := Lib.hid ev2
          have c4 : wr.cell? ⟨r, v, none⟩ = some (.bool (s v || decide (v ∈ f2))) := (Bk2.out.cell v).trans (Bi2.out.2 v hvN)
          have f4 := Bk2.out.frozen v
          have hl' : l = N := by rw [← hy]; exact hyp.len
          subst hl'
          clear ev ey hr0 hy hyp hc2 ev2
          by_cases hm : v ∈ f2
          · have Nx2 : Hid (expk gs (j + 1) u f = f2) := Lib.hid (by rw [Nx.out, ← Ef.out, Ev.out, addN_yes hm])
            rw [show (s v || decide (v ∈ f2)) = true from by simp [hm]] at c4
            clear hm f4
            go_wp2
            go_roundg (n - (j + 1))
            case rel => exact ⟨j + 1, f2, _, _, _, by omega, by omega, by go_num, rfl, Ss2.out, Nx2.out.symm, Bk2.out, Bi2.out, Gr2.out⟩
            case measure => omega
          · have Nx2 : Hid (expk gs (j + 1) u f = f2 ++ [v]) := Lib.hid (by rw [Nx.out, ← Ef.out, Ev.out, addN_no hm])
            have hsv2 : s v = false := by rw [← Ev.out]; exact hsv.out
            rw [show (s v || decide (v ∈ f2)) = false from by simp [hm, hsv2]] at c4
            have Bi3 : Hid (Bits l (fun y => s y || decide (y ∈ f2 ++ [v])) (cs2.setIfInBounds v (.bool true))) := Lib.hid (Bi2.out.set_ fun z _ => by simp [Bool.or_assoc])
            have Bk3 := Lib.hid (Bk2.out.set_ v (.bool true))
            have Gr3 := Lib.hid (grown_set Gr2.out v (.bool true))
            have Ss3 : Hid (Slc (wr.setCell ⟨r, v, none⟩ (.bool true)) w.heap.size (some ⟨g, 0, none⟩) f2.length c2 (f2.map Int.ofNat)) := Lib.hid (Ss2.out.kept (grown_set (grown_refl _ _) _ _) (.inr (by simp [Value.ownBlock]; omega)))
            have hz3 : w.heap.size ≤ (wr.setCell ⟨r, v, none⟩ (.bool true)).heap.size := Gr3.out.size
            have hc9 : ((wr.setCell ⟨r, v, none⟩ (.bool true)).alloc (.cells #[.int .i64 ((v : Nat) : Int)] 2)).cell? ⟨wr.heap.size, 0, none⟩ = some (.int .i64 ((v : Nat) : Int)) := by
              have e : (wr.setCell ⟨r, v, none⟩ (.bool true)).heap.size = wr.heap.size := by simp [World.setCell]
              rw [← e, World.cell?_alloc_at _ _ _ _ rfl]; rfl
            clear hm hsv2
            go_wp2_with (first | (at_builtin; refine wpList_app1 rfl _ _ rfl w.heap.size (some ⟨g, 0, none⟩) f2.length c2 _ rfl (Ss3.out.alloc _) wr.heap.size ((v : Nat) : Int) rfl hc9 (by omega) (by simp; omega) ?_; intro A3 c3 w3 ss3 hg3))
            have Ss4 : Hid (Slc w3 w.heap.size A3 (f2 ++ [v]).length c3 ((f2 ++ [v]).map Int.ofNat)) := Lib.hid (by
              rw [List.length_append, List.map_append]; exact ss3)
            have hrne : some r ≠ (Value.slice (some ⟨g, 0, none⟩) f2.length c2).ownBlock := by simp [Value.ownBlock]; omega
            have Bk4 := Lib.hid ((Bk3.out.alloc (.cells #[.int .i64 ((v : Nat) : Int)] 2)).grown hg3 hrne)
            have Gr4 : Hid (w.grownBy w3 (some r)) := Lib.hid (grown_new (grown_alloc Gr3.out _) hg3 (fun j hj => by simp [Value.ownBlock] at hj; omega))
            clear ss3 hg3 hrne
            go_wp2
            go_roundg (n - (j + 1))
            case rel => exact ⟨j + 1, f2 ++ [v], _, _, _, by omega, by omega, by go_num, by simp, Ss4.out, Nx2.out.symm, Bk4.out, Bi3.out, Gr4.out⟩
            case measure => omega
        · have hjn : j = n := by omega
          subst hjn
          have Ee : Hid (f2 = expd gs u f) := Lib.hid (by rw [Ef.out, ← hlx, expk_all])
          have Hb2 : Hid (bfs gs (N + 1 - (k + 1)) (k + 1) f2 = orb gs N x) := Lib.hid (by rw [Ee.out, ← Hu.out, ← bfs_go hlt hfN]; exact Hbf.out)
          go_wp2
          go_roundg (N + 1 - (k + 1))
          case rel => exact ⟨k + 1, f2, _, _, _, by omega, by omega, by go_num, rfl, Ss2.out, fd2.out, Hb2.out, Bk2.out, Bi2.out, Gr2.out⟩
          case measure => omega
    · have hkl : k = f.length := by omega
      have Eo : Hid (f = orb gs N x) := Lib.hid (by rw [← Hbf.out, bfs_end (by omega)])
      have hpos := Fq.out.pos
      go_wp2_with fail
      refine (sortT w.heap.size A' f.length c' _ wr Ss.out (by omega) (by omega)).mono ?_
      rintro e w3 ⟨rfl, s3, g3⟩
      have S3 : Hid (Slc w3 w.heap.size A' f.length c' (oS gs N x)) := Lib.hid (by rw [← oS_sort hp.out hxN, ← Eo.out]; exact s3)
      have hrne : some r ≠ (Value.slice A' f.length c').ownBlock := fun e => by have := (Ss.out.lt_ r e.symm).1; omega
      have Bk3 := Lib.hid (Bk.out.grown g3 hrne)
      have Gr3 : Hid (w.grownBy w3 (some r)) := Lib.hid (grown_new Gr.out g3 (fun j hj => (Ss.out.lt_ j hj).1))
      have Bi3 : Hid (Bits N (fun y => s y || decide (y ∈ orb gs N x)) cs1) := Lib.hid (by rw [← Eo.out]; exact Bi.out)
      clear s3 g3 hrne
      go_wp2
      go_ret
      exact ⟨_, _, _, rfl, S3.out, ⟨_, Bk3.out, Bi3.out⟩, Gr3.out⟩
end Go.Proofs.Ytojmlmeahoppjaa
