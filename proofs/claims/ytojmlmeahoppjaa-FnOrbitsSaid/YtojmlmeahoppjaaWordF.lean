/- firstWordTo of the program. Conditions: at most 20 points, at most 16 steps. -/
import Derived.Test.YtojmlmeahoppjaaWordI
import Derived.Test.YtojmlmeahoppjaaOrbs
import Derived.Deep.RegionLaw
import Derived.Deep.LoopGhost
import Derived.Lib.SliceRun
namespace Go.Proofs.Ytojmlmeahoppjaa
open Go.RowKit

set_option maxRecDepth 100000 in
/-- slices.Clone of a row of the call's own. -/
theorem implClone (A : Option Addr) (n c base : Nat) (xs : List Int) (w : World) (h : Slc w base A n c xs) (hn : n ≤ 1000) :
    Calls Try.prog 83 #[.slice A n c] w fun e w' => ∃ A' c', e = .returned (.slice A' n c') ∧ Slc w' w.heap.size A' n c' xs ∧ Below w.heap.size w w' := by
  have q24 : ∀ (w : World) (a : Option Addr) (n c n' c' : Nat), (binOp .eql 34 (.slice a n c) (.slice none n' c')).run Try.prog w = .ok (.bool a.isNone) w := fun w a n c n' c' => Lib.run_eql_slice_nil w _ _ a n c n' c' Try.underlying34
  have H := Lib.hid h
  rcases h.at_ with ⟨rfl, rfl, rfl, rfl⟩ | ⟨g, rfl, h1, h2⟩
  · clear h
    go_enter Try.func83, Try.ntmps83
    go_wp2_with fail
    go_ret
    exact ⟨_, _, rfl, Slc.nil_, Below.refl _ _⟩
  · have Ri : Hid (RI (w.alloc (.cells #[] 2)) (w.alloc (.cells #[] 2)).heap.size (some ⟨g, 0, none⟩) xs) := Lib.hid (h.ri_.belowAll ((Below.refl w.heap.size w).alloc (Nat.le_refl _) _))
    have Lx : Hid (xs.length = n) := Lib.hid h.1
    clear h
    go_enter Try.func83, Try.ntmps83
    go_wp2_with (at_builtin; go_must (refine wpList_appN rfl (.tmp 5) (.tmp 6) rfl w.heap.size (some ⟨w.heap.size, 0, none⟩) 0 0 [] rfl (Slc.lit0 w _ (Nat.le_refl _)) g 0 n c xs rfl Ri.out Lx.out (by omega) (by simp) ?_; intro A3 c3 w3 s3 g3))
    have S3 : Hid (Slc w3 w.heap.size A3 n c3 xs) := Lib.hid (by simpa using s3)
    have B3 : Hid (Below w.heap.size w w3) := Lib.hid (((Below.refl w.heap.size w).alloc (Nat.le_refl _) _).grown g3 (by simp) (fun k e => by simp [Value.ownBlock] at e; omega))
    clear s3 g3
    go_wp2_with fail
    go_ret
    exact ⟨_, _, rfl, S3.out, B3.out⟩

theorem grown_undrewG {a b : World} {row : Option Nat} (h : a.drew.grownBy b row) : a.grownBy b row := ⟨h.os, h.tape, h.output, h.size, h.block⟩
/-- What lies in the program's blocks 'here' and 's'. -/
abbrev pairBlk (w : World) (h : Nat) (t : TypeId) (x : Int) (d : SV) : Prop := Blk w h t #[.int .i64 x, sval d]

set_option maxHeartbeats 8000000 in
set_option maxRecDepth 100000 in
/-- firstWordTo. -/
theorem implFirst (N x y m c : Nat) (A : Option Addr) (ts : List PV) (S : List Stp) (w : World) (ht : TT w w.heap.size A m ts S) (Sp : Hid (PMs N (mvs S))) (hxN : x < N) (hyN : y < N) (hN1 : 1 ≤ N) (hN : N ≤ 20) (hm : m ≤ 16) :
    Calls Try.prog 59 #[.int .i64 (N : Nat), .slice A m c, .int .i64 (x : Nat), .int .i64 (y : Nat)] w fun e w' => ∃ A' m' c', e = .returned (.tuple #[.slice A' m' c', .bool (wrd S N x y).isSome]) ∧ Slc w' w.heap.size A' m' c' ((wrd S N x y).getD []) ∧ m' ≤ 20 ∧ Below w.heap.size w w' := by
  have HT := Lib.hid ht
  have hSl : Hid (S.length = m) := Lib.hid ht.lp
  obtain ⟨i0, hi, hz0, hz1, hz2⟩ := info_parts infoB
  clear ht
  go_enter Try.func59, Try.ntmps59
  go_wp2_with (first
    | (at_make
       refine wpList_make_full _ rfl _ _ 61 rfl w.heap.size 4 i0 (.bool false) 1 Try.underlying61 hi hz0 hz1 .i64 .i64 _ _ N rfl rfl rfl rfl (by rw [hz2]; omega) (by unfold maxLen; omega) (Nat.le_refl _) ?_
       intro w2 hown2 hgrow2
       obtain ⟨cs0, blk0, bits0⟩ := made_bits hown2
       have c0 := (blk0.cell x).trans (bits0.2 x hxN)
       have f0 := blk0.frozen x
       have Bk0 := Lib.hid blk0
       have Bi0 := Lib.hid bits0
       have Be2 : Hid (Below w.heap.size w w2) := Lib.hid ((Below.refl w.heap.size w).grown hgrow2 (Nat.le_refl _) (fun k e => nomatch e))
       have xq0 : (0 : Int) ≤ x := by omega
       have xq1 : (x : Int) < N := by omega
       clear hown2 hgrow2 blk0 bits0))
  have hrb : w.heap.size < w2.heap.size := Bk0.out.lt
  have hsz2 : (w2.setCell ⟨w.heap.size, x, none⟩ (.bool true)).heap.size = w2.heap.size := by simp [World.setCell]
  have R0 := Lib.hid ((Bk0.out.set_ x (.bool true)).alloc (.cells #[.int .i64 (x : Int), .slice none 0 0] 86))
  have Bb0 : Hid (Bits N (fun v => decide (v ∈ pts [((x, []) : Arr)])) (cs0.setIfInBounds x (.bool true))) := Lib.hid (Bi0.out.set_ fun z _ => by simp [pts])
  have ar0' := AR.lit1 (w2.setCell ⟨w.heap.size, x, none⟩ (.bool true)) w2.heap.size x (by rw [hsz2]; exact Nat.le_refl _)
  rw [hsz2] at ar0'
  have Ar0 := Lib.hid ar0'
  have Be0 : Hid (Below w.heap.size w ((w2.setCell ⟨w.heap.size, x, none⟩ (.bool true)).alloc (.cells #[.int .i64 (x : Int), .slice none 0 0] 86))) := Lib.hid ((Be2.out.setCell (p := ⟨w.heap.size, x, none⟩) (Nat.le_refl _) _).alloc (by rw [hsz2]; exact Be2.out.size) _)
  have hs0 : w2.heap.size ≤ ((w2.setCell ⟨w.heap.size, x, none⟩ (.bool true)).alloc (.cells #[.int .i64 (x : Int), .slice none 0 0] 86)).heap.size := by simp [World.setCell]
  clear ar0' hsz2 c0 f0 hi hz0 hz1 hz2
  go_loopg [11, 12] (N + 1) (fun gg fo iv wr => ∃ (i : Nat) (f : List Arr) (A1 : Option Addr) (c1 : Nat) (ds : List PV) (cs : Array Value), i ≤ f.length ∧ N + 1 - i ≤ gg ∧ iv = .int .i64 (i : Nat) ∧ fo = .slice A1 f.length c1 ∧
    AR wr w2.heap.size A1 f.length c1 ds f ∧ Blk wr w.heap.size 4 cs ∧ Bits N (fun v => decide (v ∈ pts f)) cs ∧ Fw S N x f ∧ bfw S y (N + 1 - i) i f = wrd S N x y ∧ Below w.heap.size w wr ∧ w2.heap.size ≤ wr.heap.size)
  case atStart => exact ⟨0, [(x, [])], _, _, _, _, Nat.zero_le _, Nat.le_refl _, rfl, rfl, Ar0.out, R0.out, Bb0.out, Fw.one hxN, rfl, Be0.out, hs0⟩
  case round =>
    have Be2s : Hid (w.heap.size ≤ w2.heap.size) := Lib.hid Be2.out.size
    clear R0 Bb0 Ar0 Be0 hs0 Bk0 Bi0 Be2 xq0 xq1
    obtain ⟨i, f, A1, c1, ds, cs, hi, hgi, rfl, rfl, ar, blk, bits, fw, hbf, bel, hso⟩ := hrel
    have Ar := Lib.hid ar
    have Bk := Lib.hid blk
    have Bi := Lib.hid bits
    have Fq := Lib.hid fw
    have Hbf := Lib.hid hbf
    have Be := Lib.hid bel
    have hfN := fw.size
    clear ar blk bits fw hbf bel
    by_cases hlf : i < f.length
    · obtain ⟨u, hu⟩ : ∃ u, (f.getD i ar0).1 = u := ⟨_, rfl⟩
      obtain ⟨wd, hwd⟩ : ∃ wd, (f.getD i ar0).2 = wd := ⟨_, rfl⟩
      have huN : u < N := by rw [← hu]; exact Fq.out.lt hlf
      have hwl : wd.length ≤ 20 := by rw [← hwd]; have := Fq.out.len i hlf; omega
      obtain ⟨g, rfl, hg1, hg2, ca, cb⟩ := Ar.out.at_ hlf
      rw [hu] at ca
      have hrow := Ar.out.row i hlf
      rw [hwd] at hrow
      obtain ⟨dA, dn, dc, hd⟩ : ∃ dA dn dc, (ds.getD i pd0).2 = (dA, dn, dc) := ⟨_, _, _, rfl⟩
      rw [hd] at cb hrow
      have Hrow := Lib.hid hrow
      have hdn : dn ≤ 20 := by
        have h9 : wd.length = dn := hrow.1
        omega
      have cb' : wr.cell? ⟨g, 2 * i + 1, none⟩ = some (.slice dA dn dc) := cb
      have px0 : (0 : Int) ≤ i := by omega
      have px1 : (i : Int) < f.length := by omega
      have hw2i : i * 2 = 2 * i := Nat.mul_comm i 2
      clear hrow hd cb
      by_cases hyu : u = y
      · have Ans : Hid (wrd S N x y = some wd) := Lib.hid (by rw [← Hbf.out, ← hwd]; exact bfw_found hlf hfN (by rw [hu]; exact hyu))
        have A1s : Hid ((wrd S N x y).isSome = true) := Lib.hid (by rw [Ans.out]; rfl)
        have A2s : Hid ((wrd S N x y).getD [] = wd) := Lib.hid (by rw [Ans.out]; rfl)
        subst hyu
        clear hu hwd
        have hwr := Be.out.size
        go_wp2_with fail
        go_ret2
        exact ⟨dA, dn, dc, congrArg (fun b => Ending.returned (.tuple #[.slice dA dn dc, .bool b])) A1s.out.symm, by rw [A2s.out]; exact (Hrow.out.alloc _).mono Be2s.out, hdn, Be.out.alloc hwr _⟩
      · have hyu2 : ((u : Int) == (y : Int)) = false := by simp; omega
        have Hgo : Hid (bfw S y (N + 1 - (i + 1)) (i + 1) (expA S u wd f) = wrd S N x y) := Lib.hid (by rw [← Hbf.out, bfw_go hlf hfN (by rw [hu]; exact hyu), hu, hwd])
        have Hu := Lib.hid hu
        have Hwd := Lib.hid hwd
        have Bh : Hid (Blk (wr.alloc (.cells #[.int .i64 (u : Nat), .slice dA dn dc] 86)) wr.heap.size 86 #[.int .i64 (u : Nat), .slice dA dn dc]) := Lib.hid (Blk.new wr _ _)
        have Ne0 : Hid (∀ k, (Value.slice (some ⟨g, 0, none⟩) f.length c1).ownBlock = some k → k ≠ wr.heap.size) := Lib.hid fun k e => by have := (Ar.out.lt_ k e).2; omega
        have hwr := Be.out.size
        clear hu hwd
        go_wp2_with fail
        clear ca cb'
        obtain ⟨wl, rfl⟩ : ∃ wl, wl = wr := ⟨_, rfl⟩
        go_loopg [11, 43] m (fun gg fo iv wr2 => ∃ (j : Nat) (f2 : List Arr) (A2 : Option Addr) (c2 : Nat) (ds2 : List PV) (cs2 : Array Value), j ≤ m ∧ m - j ≤ gg ∧ iv = .int .i64 (j : Nat) ∧ fo = .slice A2 f2.length c2 ∧
          AR wr2 w2.heap.size A2 f2.length c2 ds2 f2 ∧ (∀ k, (Value.slice A2 f2.length c2).ownBlock = some k → k ≠ wl.heap.size) ∧ f2 = expAk S j u wd f ∧ Blk wr2 w.heap.size 4 cs2 ∧ Bits N (fun v => decide (v ∈ pts f2)) cs2 ∧
          Blk wr2 wl.heap.size 86 #[.int .i64 (u : Nat), .slice dA dn dc] ∧ Slc wr2 w2.heap.size dA dn dc wd ∧ Below w.heap.size w wr2 ∧ wl.heap.size < wr2.heap.size)
        case atStart => exact ⟨0, f, _, _, ds, cs, Nat.zero_le _, Nat.le_refl _, rfl, rfl, Ar.out.alloc _, Ne0.out, expAk_zero.symm, Bk.out.alloc _, Bi.out, Bh.out, Hrow.out.alloc _, Be.out.alloc hwr _, by simp⟩
        case round =>
          clear Ne0 Bh
          obtain ⟨j, f2, A2, c2, ds2, cs2, hj, hgj, rfl, rfl, ar2, ne2, ef2, blk2, bits2, bh2, row2, bel2, hlt2⟩ := hrel
          have Ar2 := Lib.hid ar2
          have Ne2 := Lib.hid ne2
          have Ef := Lib.hid ef2
          have Bk2 := Lib.hid blk2
          have Bi2 := Lib.hid bits2
          have Bh2 := Lib.hid bh2
          have Row2 := Lib.hid row2
          have Be2' := Lib.hid bel2
          have Fq2 : Hid (Fw S N x f2) := Lib.hid (by rw [ef2, ← Hu.out, ← Hwd.out]; exact Fq.out.expk Sp.out hlf j)
          have hf2N := Fq2.out.size
          have hwr2 := bel2.size
          clear ar2 ne2 ef2 blk2 bits2 bh2 row2 bel2
          by_cases hjl : j < m
          · have tt := HT.out.below Be2'.out (Nat.le_refl _)
            obtain ⟨b, off, rfl, hbB, hcc⟩ := tt.cells (by omega)
            obtain ⟨c5, c6⟩ := hcc j hjl
            have tfst := tt.fst j hjl
            have trow := tt.rows j hjl
            have tlen := tt.lens j hjl
            obtain ⟨tl, tm, ht⟩ : ∃ tl tm, S.getD j (0, []) = (tl, tm) := ⟨_, _, rfl⟩
            obtain ⟨el, tA, tn, tc, hd2⟩ : ∃ el tA tn tc, ts.getD j pd0 = (el, tA, tn, tc) := ⟨_, _, _, _, rfl⟩
            rw [ht, hd2] at tfst trow tlen
            rw [hd2] at c5 c6
            have hel : el = tl := tfst
            subst hel
            have hjS : j < S.length := by rw [hSl.out]; exact hjl
            have hmem : (el, tm) ∈ S := by
              rw [← ht, List.getD_eq_getElem?_getD, List.getElem?_eq_getElem hjS]; exact List.getElem_mem _
            have htp : PM N tm := Sp.out tm (List.mem_map.2 ⟨_, hmem, rfl⟩)
            have htn : tn = N := by
              have h9 : tm.length = tn := tlen
              rw [← h9]; exact htp.len
            subst htn
            have Nx := Lib.hid (expAk_succ (u := u) (w := wd) (f := f) hjS ht)
            obtain ⟨v, ev2⟩ : ∃ v, nx tm u = v := ⟨_, rfl⟩
            have hvN : v < tn := by rw [← ev2]; exact htp.nx_lt huN
            obtain ⟨b2, off2, e2, hb2, hc2⟩ := trow (by show 0 < tm.length; rw [htp.len]; omega)
            have e2' : tA = some ⟨b2, off2, none⟩ := e2
            subst e2'
            have c7 : wr.cell? ⟨b2, off2 + u, none⟩ = some (.int .i64 (v : Nat)) := by
              have := hc2 u (by show u < tm.length; rw [htp.len]; exact huN)
              rw [show (((el, tm) : Stp).2).getD u 0 = tm.getD u 0 from rfl, htp.nx_val huN, ev2] at this
              exact this
            have c5' : wr.cell? ⟨b, off + j * 2, none⟩ = some (.int .i64 el) := by rw [Nat.mul_comm]; exact c5
            have c6' : wr.cell? ⟨b, off + j * 2 + 1, none⟩ = some (.slice (some ⟨b2, off2, none⟩) tn tc) := by rw [Nat.mul_comm]; exact c6
            have ch0 : wr.cell? ⟨wl.heap.size, 0, none⟩ = some (.int .i64 (u : Nat)) := Bh2.out.cell 0
            have ch1 : wr.cell? ⟨wl.heap.size, 1, none⟩ = some (.slice dA dn dc) := Bh2.out.cell 1
            have c8 : wr.cell? ⟨w.heap.size, v, none⟩ = some (.bool (decide (v ∈ pts f2))) := (Bk2.out.cell v).trans (Bi2.out.2 v hvN)
            have f8 := Bk2.out.frozen v
            have hb2w : b2 < wr.heap.size := by omega
            have hrw' : w.heap.size < wr.heap.size := by omega
            have qx0 : (0 : Int) ≤ j := by omega
            have qx1 : (j : Int) < m := by omega
            have qx2 : (0 : Int) ≤ u := by omega
            have qx3 : (u : Int) < tn := by omega
            have qx4 : (0 : Int) ≤ v := by omega
            have qx5 : (v : Int) < tn := by omega
            have Ev := Lib.hid ev2
            obtain ⟨isIn, hIn⟩ : ∃ isIn, decide (v ∈ pts f2) = isIn := ⟨_, rfl⟩
            rw [hIn] at c8
            have HIn := Lib.hid hIn
            clear tt hcc c5 c6 tfst trow tlen ht hd2 hmem htp hc2 ev2 hIn
            rcases isIn with _ | _
            · have hvn : Hid (v ∉ pts f2) := Lib.hid (by simpa using HIn.out)
              have Nx2 : Hid (expAk S (j + 1) u wd f = f2 ++ [(v, wd ++ [el])]) := Lib.hid (by rw [Nx.out, ← Ef.out]; show addA f2 (nx tm u) (wd ++ [el]) = _; rw [Ev.out, addA_no hvn.out])
              obtain ⟨Wb, hWb⟩ : ∃ Wb, (wr.setCell ⟨w.heap.size, v, none⟩ (.bool true)).alloc (.cells #[.int .i64 el, .slice (some ⟨b2, off2, none⟩) tn tc] 89) = Wb := ⟨_, rfl⟩
              have HWb := Lib.hid hWb
              have hzs : (wr.setCell ⟨w.heap.size, v, none⟩ (.bool true)).heap.size = wr.heap.size := by simp [World.setCell]
              have hzb : Wb.heap.size = wr.heap.size + 1 := by rw [← hWb]; simp [World.setCell]
              have gS : wr.grownBy (wr.setCell ⟨w.heap.size, v, none⟩ (.bool true)) (some w.heap.size) := grown_set (grown_refl _ _) _ _
              have ArB : Hid (AR Wb w2.heap.size A2 f2.length c2 ds2 f2) := Lib.hid (by rw [← hWb]; exact (Ar2.out.kept gS (fun q hq => by injection hq with hq; omega)).alloc _)
              have BkB : Hid (Blk Wb w.heap.size 4 (cs2.setIfInBounds v (.bool true))) := Lib.hid (by rw [← hWb]; exact (Bk2.out.set_ v (.bool true)).alloc _)
              have BiB : Hid (Bits tn (fun z => decide (z ∈ pts (f2 ++ [(v, wd ++ [el])]))) (cs2.setIfInBounds v (.bool true))) := Lib.hid (Bi2.out.set_ fun z _ => by
                rw [show pts (f2 ++ [(v, wd ++ [el])]) = pts f2 ++ [v] from by simp [pts]]; simp)
              have BhB : Hid (Blk Wb wl.heap.size 86 #[.int .i64 (u : Nat), .slice dA dn dc]) := Lib.hid (by rw [← hWb]; exact (Bh2.out.grown gS (fun e => by injection e with e; omega)).alloc _)
              have BsB : Hid (Blk Wb wr.heap.size 89 #[.int .i64 el, .slice (some ⟨b2, off2, none⟩) tn tc]) := Lib.hid (by
                have := Blk.new (wr.setCell ⟨w.heap.size, v, none⟩ (.bool true)) 89 #[.int .i64 el, .slice (some ⟨b2, off2, none⟩) tn tc]
                rw [hzs] at this; rw [← hWb]; exact this)
              have RowB : Hid (Slc Wb w2.heap.size dA dn dc wd) := Lib.hid (by
                rw [← hWb]
                exact (Row2.out.kept gS (by
                  rcases e : (Value.slice dA dn dc).ownBlock with _ | q
                  · exact .inl rfl
                  · exact .inr fun e2 => by injection e2 with e2; have := (Row2.out.lt_ q e).1; omega)).alloc _)
              have BeB : Hid (Below w.heap.size w Wb) := Lib.hid (by rw [← hWb]; exact (Be2'.out.setCell (p := ⟨w.heap.size, v, none⟩) (Nat.le_refl _) _).alloc (by rw [hzs]; exact hwr2) _)
              have ch1B : Wb.cell? ⟨wl.heap.size, 1, none⟩ = some (.slice dA dn dc) := BhB.out.cell 1
              have cs0B : Wb.cell? ⟨wr.heap.size, 0, none⟩ = some (.int .i64 el) := BsB.out.cell 0
              have ch1L : (Wb.alloc (.cells #[.int .i64 el] 2)).cell? ⟨wl.heap.size, 1, none⟩ = some (.slice dA dn dc) := (BhB.out.alloc _).cell 1
              have RowL : Hid (Slc (Wb.alloc (.cells #[.int .i64 el] 2)) w2.heap.size dA dn dc wd) := Lib.hid (RowB.out.alloc _)
              have LitL := Lib.hid (litRI Wb el)
              have hw2b : w2.heap.size ≤ Wb.heap.size := by omega
              have hlwb : wl.heap.size < Wb.heap.size := by omega
              have hrwb : wr.heap.size < Wb.heap.size := by omega
              have hdn9 : dn ≤ 1000 := by omega
              have hfl9 : f2.length ≤ 1000000 := by omega
              clear gS hWb hzs
              go_wp2_with fail
              clear c5' c6' c7 c8 f8 ch0 ch1
              rw [HWb.out]
              go_region_law (first
                | (refine step_appN rfl (.tmp 65) (.tmp 68) rfl Wb.heap.size A8 dn c8 wd ?_ (s8.alloc _) w8.heap.size 0 1 1 [el] ?_ (litRI w8 el) rfl ?_ ?_ (dn + 1) rfl ?_; (simp [Act.eval, Act.put]); (simp [Act.eval, Act.put]); (omega); (have hz := b8.size; simp at hz ⊢; omega); (intro A9 c9 w9 s9 g9; have b9 : Below Wb.heap.size Wb w9 := (b8.alloc b8.size _).grown g9 (by have hz := b8.size; simp at hz ⊢; omega) (fun q hq => (s8.lt_ q hq).1); have ar9 := ArB.out.up b9))
                | (refine step_appN rfl (.tmp 65) (.tmp 68) rfl Wb.heap.size A8 dn c8 wd ?_ s8 Wb.heap.size 0 1 1 [el] ?_ (LitL.out.belowAll b8l) rfl ?_ ?_ (dn + 1) rfl ?_; (simp [Act.eval, Act.put]); (simp [Act.eval, Act.put]); (omega); (have hz := b8.size; simp at hz ⊢; omega); (intro A9 c9 w9 s9 g9; have b9 : Below Wb.heap.size Wb w9 := b8.grown g9 b8.size (fun q hq => (s8.lt_ q hq).1); have ar9 := ArB.out.up b9))
                | (refine step_appA rfl (.tmp 61) (.tmp 71) rfl ?_ (ar9.alloc (.cells #[.int .i64 (v : Nat), .slice A9 (dn + 1) c9] 86)) w9.heap.size v (A9, dn + 1, c9) (wd ++ [el]) ?_ ((Blk.new w9 _ _).cell 0) ((Blk.new w9 _ _).cell 1) ((s9.mono hw2b).alloc _) hfl9 ?_ ?_; (simp [Act.eval, Act.put]); (simp [Act.eval, Act.put]); (have hz := b9.size; simp at hz ⊢; omega); (intro A10 c10 w10 ar10 g10 h10))
                | (go_simp; go_wp2_with (go_at_call 83; (first
                    | (refine (implClone dA dn dc w2.heap.size wd Wb.drew (RowB.out.drewN 1) hdn9).mono ?_; rintro e w8 ⟨A8, c8, rfl, s8, b80⟩; have b8 := below_undrew b80; have b8l := b8; have cs8 : w8.cell? ⟨wr.heap.size, 0, none⟩ = some (.int .i64 el) := (b8.cell (p := ⟨wr.heap.size, 0, none⟩) hrwb).trans cs0B; clear b80)
                    | (refine (implClone dA dn dc w2.heap.size wd (Wb.alloc (.cells #[.int .i64 el] 2)).drew (RowL.out.drewN 1) hdn9).mono ?_; rintro e w8 ⟨A8, c8, rfl, s80, b80⟩; have b8l := below_undrewA b80; have s8 : Slc w8 Wb.heap.size A8 dn c8 wd := s80.mono (by simp); have b8 : Below Wb.heap.size Wb w8 := btr ((Below.refl Wb.heap.size Wb).alloc (Nat.le_refl _) _) b8l; clear b80 s80)))))
              all_goals
                have hz9 := b9.size
                have arL := ar9.alloc (.cells #[.int .i64 (v : Nat), .slice A9 (dn + 1) c9] 86)
                have B10 : Hid (Below w.heap.size w w10) := Lib.hid (((btr BeB.out b9).alloc (btr BeB.out b9).size _).grown g10 (by have := (btr BeB.out b9).size; simp; omega) (fun q hq => by have := (arL.lt_ q hq).1; omega))
                have Bk10 : Hid (Blk w10 w.heap.size 4 (cs2.setIfInBounds v (.bool true))) := Lib.hid (((BkB.out.below b9 (by omega)).alloc (.cells #[.int .i64 (v : Nat), .slice A9 (dn + 1) c9] 86)).grown g10 (fun e => by have := (arL.lt_ _ e.symm).1; omega))
                have Bh10 : Hid (Blk w10 wl.heap.size 86 #[.int .i64 (u : Nat), .slice dA dn dc]) := Lib.hid (((BhB.out.below b9 hlwb).alloc (.cells #[.int .i64 (v : Nat), .slice A9 (dn + 1) c9] 86)).grown g10 (fun e => Ne2.out _ e.symm rfl))
                have Row10 : Hid (Slc w10 w2.heap.size dA dn dc wd) := Lib.hid (((RowB.out.up b9).alloc (.cells #[.int .i64 (v : Nat), .slice A9 (dn + 1) c9] 86)).kept g10 (apart_arr ((RowB.out.up b9).alloc (.cells #[.int .i64 (v : Nat), .slice A9 (dn + 1) c9] 86)) arL.own))
                have Ln : Hid ((f2 ++ [(v, wd ++ [el])]).length = f2.length + 1) := Lib.hid (by simp)
                have Ne10 : Hid (∀ q, (Value.slice A10 (f2 ++ [(v, wd ++ [el])]).length c10).ownBlock = some q → q ≠ wl.heap.size) := Lib.hid (by
                  rw [Ln.out]
                  intro q hq
                  rcases h10 with e | e
                  · exact Ne2.out q (e ▸ hq)
                  · rw [e] at hq; injection hq with hq; simp at hq; omega)
                have Ar10 : Hid (AR w10 w2.heap.size A10 (f2 ++ [(v, wd ++ [el])]).length c10 (ds2 ++ [((v : Int), ((A9, dn + 1, c9) : SV))]) (f2 ++ [(v, wd ++ [el])])) := Lib.hid (by rw [Ln.out]; exact ar10)
                have hs10 : wl.heap.size < w10.heap.size := by have := g10.size; simp at this; omega
                clear ar10 g10 h10 arL ar9 b9 s9 g9 s8 b8 b8l hz9
                go_wp2_with fail
                go_roundg (m - (j + 1))
                case rel => exact ⟨j + 1, f2 ++ [(v, wd ++ [el])], _, _, _, _, by omega, by omega, by go_num, by rw [Ln.out], Ar10.out, Ne10.out, Nx2.out.symm, Bk10.out, BiB.out, Bh10.out, Row10.out, B10.out, hs10⟩
                case measure => omega
            · have hvi : Hid (v ∈ pts f2) := Lib.hid (by simpa using HIn.out)
              have Nx2 : Hid (expAk S (j + 1) u wd f = f2) := Lib.hid (by rw [Nx.out, ← Ef.out]; show addA f2 (nx tm u) (wd ++ [el]) = _; rw [Ev.out, addA_yes hvi.out])
              go_wp2_with fail
              go_roundg (m - (j + 1))
              case rel => exact ⟨j + 1, f2, _, _, ds2, _, by omega, by omega, by go_num, rfl, Ar2.out.alloc _, Ne2.out, Nx2.out.symm, Bk2.out.alloc _, Bi2.out, Bh2.out.alloc _, Row2.out.alloc _, Be2'.out.alloc hwr2 _, by simp; omega⟩
              case measure => omega
          · have hjm : j = S.length := by rw [hSl.out]; omega
            have Ee : Hid (expA S u wd f = f2) := Lib.hid (by rw [Ef.out, hjm, expAk_all])
            have Hb2 : Hid (bfw S y (N + 1 - (i + 1)) (i + 1) f2 = wrd S N x y) := Lib.hid (by rw [← Ee.out]; exact Hgo.out)
            have hpre : Hid (i + 1 ≤ f2.length) := Lib.hid (by
              obtain ⟨tt, et⟩ := expA_pre S u wd f
              rw [← Ee.out, et, List.length_append]; omega)
            have hjm2 : ¬ j < m := hjl
            clear hjm
            go_wp2_with fail
            go_roundg (N + 1 - (i + 1))
            case rel => exact ⟨i + 1, f2, _, _, ds2, _, hpre.out, Nat.le_refl _, by go_num, rfl, Ar2.out, Bk2.out, Bi2.out, Fq2.out, Hb2.out, Be2'.out, by omega⟩
            case measure => omega
    · have hif : i = f.length := by omega
      have Ans : Hid (wrd S N x y = none) := Lib.hid (by rw [← Hbf.out]; exact bfw_end (by omega))
      have A1s : Hid ((wrd S N x y).isSome = false) := Lib.hid (by rw [Ans.out]; rfl)
      have A2s : Hid ((wrd S N x y).getD [] = []) := Lib.hid (by rw [Ans.out]; rfl)
      clear hif
      go_wp2_with fail
      go_ret2
      exact ⟨none, 0, 0, congrArg (fun b => Ending.returned (.tuple #[.slice none 0 0, .bool b])) A1s.out.symm, by rw [A2s.out]; exact Slc.nil_, by omega, Be.out⟩
end Go.Proofs.Ytojmlmeahoppjaa
