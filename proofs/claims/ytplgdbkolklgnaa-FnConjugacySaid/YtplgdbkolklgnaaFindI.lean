/- The program's search for the first conjugator. Condition: permutations of one cycle type. -/
import Derived.Test.YtplgdbkolklgnaaFindM
import Derived.Test.YtplgdbkolklgnaaRow
import Derived.Deep.LoopGhost
namespace Go.Proofs.Ytplgdbkolklgnaa
open Go.RowKit Go.Sort

theorem getD_erase {α : Type} (l : List α) (k i : Nat) (d : α) : (l.eraseIdx k).getD i d = l.getD (if i < k then i else i + 1) d := by
  rw [List.getD_eq_getElem?_getD, List.getElem?_eraseIdx, List.getD_eq_getElem?_getD]
  split <;> rfl
/-- One slice taken out of a slice of slices of the call's own. -/
theorem SS.erased {w : World} {base bi n c g k q : Nat} {vs : List SV} {xss : List (List Int)} (h : SS w base bi (some ⟨g, 0, none⟩) (n + 1) c vs xss) (hk : k ≤ n) :
    SS (putRow sval (Sort.ahead w q) g 0 (vs.take k ++ vs.drop (k + 1) ++ [sd0]).toArray) base bi (some ⟨g, 0, none⟩) n c (vs.eraseIdx k) (xss.eraseIdx k) := by
  have lv := h.lv
  have lx := h.lx
  have hg : w.grownBy (putRow sval (Sort.ahead w q) g 0 (vs.take k ++ vs.drop (k + 1) ++ [sd0]).toArray) (some g) := by
    have := grown_put sval w q g (vs.take k ++ vs.drop (k + 1) ++ [sd0]).toArray #[]
    simpa using this
  have ho := h.own
  rw [← lv] at ho
  have e1 : vs.eraseIdx k = vs.take k ++ vs.drop (k + 1) := List.eraseIdx_eq_take_drop_succ vs k
  have le : (vs.take k ++ vs.drop (k + 1)).length = n := by simp; omega
  refine ⟨?_, by rw [e1]; exact le, by rw [List.length_eraseIdx, lx, if_pos (by omega)]; omega, ?_, ?_⟩
  · have := own_put sval ho (ts := vs.take k ++ vs.drop (k + 1) ++ [sd0]) (n := n) (by rw [List.length_append, le, lv]; rfl) (by omega) q #[]
    have e2 : (vs.take k ++ vs.drop (k + 1) ++ [sd0]).take n = vs.take k ++ vs.drop (k + 1) := by rw [List.take_append_of_le_length (by omega), List.take_of_length_le (by omega)]
    rw [e2] at this
    rw [e1]
    simpa using this
  · intro i hi
    rw [getD_erase, getD_erase]
    have hr := h.row (if i < k then i else i + 1) (by split <;> omega)
    exact hr.kept hg (apart_types hr h.own)
  · intro i j hij hj
    rw [getD_erase, getD_erase]
    exact h.dis _ _ (by split <;> split <;> omega) (by split <;> omega)

theorem pred_len (L bx : Nat) (A : Option Addr) (c : Nat) (w : World) (hb : bx < w.heap.size) (hc : w.cell? ⟨bx, 0, none⟩ = some (.slice A L c)) :
    PredAt Try.prog 56 #[.pointer (some ⟨bx, 0, none⟩)] sval (fun v => decide (v.2.1 = L)) w := fun W v hB => by
  have hcell : W.cell? ⟨bx, 0, none⟩ = some (.slice A L c) := (hB.cell (p := ⟨bx, 0, none⟩) hb).trans hc
  obtain ⟨A5, n5, c5⟩ := v
  show Calls Try.prog 56 #[.slice A5 n5 c5, .pointer (some ⟨bx, 0, none⟩)] W _
  clear hB hc
  go_enter Try.func56, Try.ntmps56
  go_wp2
  go_ret
  exact ⟨by congr 2; simp [BEq.beq]; omega, 0, rfl⟩
/-- The first place with a slice of length L. -/
theorem idxT {w : World} {base bi n c g : Nat} {vs : List SV} {xss : List (List Int)} (h : SS w base bi (some ⟨g, 0, none⟩) n c vs xss) (L bx k : Nat) (A : Option Addr) (cb : Nat) (hb : bx < w.heap.size) (hc : w.cell? ⟨bx, 0, none⟩ = some (.slice A L cb)) (hn : n ≤ 1000000)
    (hk : k < n) (h1 : (xss.getD k []).length = L) (h2 : ∀ j, j < k → (xss.getD j []).length ≠ L) :
    Calls Try.prog 55 #[.slice (some ⟨g, 0, none⟩) n c, .func (.func 56) #[] #[.pointer (some ⟨bx, 0, none⟩)]] w fun e w' => e = .returned (.int .i64 (k : Nat)) ∧ ∃ q, w' = w.drewN q := by
  have eg : ∀ args w, (callFunc 56 args).run Try.prog w = .ok (.enter 56 args) w := enters_of Try.func56 (by kernel_rfl) rfl
  have ho := h.own
  rw [← h.lv] at ho
  have hH := holds_own sval ho
  have hl : ∀ j, j < n → (vs[j]!).2.1 = (xss.getD j []).length := fun j hj => by
    have := (h.row j hj).1
    rw [this, List.getD_eq_getElem?_getD, List.getElem!_eq_getElem?_getD]; rfl
  have := AnyE.slices_IndexFunc layIdx sval (fun v => decide (v.2.1 = L)) 56 #[.pointer (some ⟨bx, 0, none⟩)] eg g 0 n c vs w (pred_len L bx A cb w hb hc) (by rw [h.lv]; exact Nat.le_refl _) (by omega) (fun j hj => (hH j (by simpa using hj)).1.trans (by simp))
  rw [Lib.idxBy_hit (fun _ y => (decide (y.2.1 = L) : Bool)) vs n k default hk (by rw [h.lv]; exact Nat.le_refl _) (by simpa using (hl k hk).trans h1) (fun j hj => by simpa using fun e => h2 j hj ((hl j (by omega)).symm.trans e))] at this
  exact this
/-- One slice taken out. -/
theorem delT {w : World} {base bi n c g : Nat} {vs : List SV} {xss : List (List Int)} (h : SS w base bi (some ⟨g, 0, none⟩) (n + 1) c vs xss) (k : Nat) (K : Int) (hk : k ≤ n) (hK : K = ((k + 1 : Nat) : Int)) :
    Calls Try.prog 57 #[.slice (some ⟨g, 0, none⟩) (n + 1) c, .int .i64 (k : Nat), .int .i64 K] w fun e w' => e = .returned (.slice (some ⟨g, 0, none⟩) n c) ∧ SS w' base bi (some ⟨g, 0, none⟩) n c (vs.eraseIdx k) (xss.eraseIdx k) ∧ w.grownBy w' (some g) := by
  subst hK
  obtain ⟨i0, hi, hz0, hz1, hz2⟩ := info_parts infoS
  have ho := h.own
  rw [← h.lv] at ho
  have hH := holds_own sval ho
  have hcap : n + 1 ≤ c ∧ c ≤ maxLen := by
    rcases h.own.2 with ⟨e, _⟩ | ⟨g', cap, cur, e, _, _, h1, h2, _⟩
    · cases e
    · injection e with e1 e2 e3; subst e3; exact ⟨h1, h2⟩
  have hsz : vs.toArray.size = n + 1 := by simp [h.lv]
  have := AnyE.slices_Delete layDel sval (fun _ => rfl) sd0 (fun w => Try.zeroValue24 w) i0 hi hz1 g 0 c k (k + 1) vs.toArray w hH (by rw [hsz]; exact hcap.1) (by have := hcap.2; unfold maxLen at this; omega) (by omega) (by rw [hsz]; omega)
  rw [hsz] at this
  refine this.mono ?_
  rintro e w' ⟨rfl, q, rfl⟩
  have e1 : k + 1 - k = 1 := by omega
  rw [e1]
  refine ⟨rfl, ?_, ?_⟩
  · have := h.erased (q := q) hk
    simpa using this
  · have := grown_put sval w q g (vs.take k ++ vs.drop (k + 1) ++ [sd0]).toArray #[]
    simpa using this

set_option maxHeartbeats 2000000 in
/-- smallestConjugatorTo. -/
theorem implSmallest (A B : Option Addr) (c d n : Nat) (p q : List Int) (w : World) (hp : RI w w.heap.size A p) (hq : RI w w.heap.size B q) (lp : Hid (p.length = n)) (lq : Hid (q.length = n)) (ip : Hid (IsP p)) (iq : Hid (IsP q)) (ht : Hid (ctype p = ctype q)) (hn : n ≤ 20) :
    Calls Try.prog 33 #[.slice A n c, .slice B n d] w fun e w' => ∃ A' c', e = .returned (.slice A' n c') ∧ Slc w' w.heap.size A' n c' (grL p q) ∧ Below w.heap.size w w' := by
  obtain ⟨i0, hi, hz0, hz1, hz2⟩ := info_parts infoI
  have hmf : ∀ (fn : Fn) (first cap : Array Value) (w : World), (Instr.makeFunc fn first cap).run Try.prog w = .ok (.func fn first cap) w := fun _ _ _ _ => rfl
  have FT := Lib.hid (fits_type ip.out iq.out ht.out)
  have hM1 := cycs_pos ip.out
  have hM2 := cycs_pos iq.out
  go_enter Try.func33, Try.ntmps33
  go_wp2_with (first | (at_make; refine wpList_make_full _ rfl _ _ 40 rfl w.heap.size 2 i0 (.int .i64 0) 1 Try.underlying40 hi hz0 hz1 .i64 .i64 _ _ n rfl rfl rfl rfl (by rw [hz2]; omega) (by unfold maxLen; omega) (Nat.le_refl _) ?_; intro w1 hown1 hgrow1))
  have R1 := Lib.hid (Row.made hown1)
  have bel1 : Hid (Below w.heap.size w w1) := Lib.hid ((Below.refl _ _).grown hgrow1 (Nat.le_refl _) (fun k e => nomatch e))
  have Z1 : w.heap.size + 1 ≤ w1.heap.size := by have := R1.out.lt_; omega
  clear hown1 hgrow1
  refine (implAll B d n q w1 (hq.up bel1.out) lq iq hn).mono ?_
  rintro e w2 ⟨A2, m2, c2, vs2, rfl, s2, hm2, b2⟩
  have lm2 := s2.lx
  rw [lm2] at hM2
  obtain ⟨gF, rfl, gF1, gF2, _⟩ := s2.at_ hM2
  have S2 := Lib.hid s2
  have R2 := Lib.hid (R1.out.below b2 (by omega))
  have bel2 : Hid (Below w.heap.size w w2) := Lib.hid (btr bel1.out b2)
  have Z2 := b2.size
  clear s2 b2 R1
  go_wp2_with fail
  refine (implAll A c n p w2 (hp.up bel2.out) lp ip hn).mono ?_
  rintro e w3 ⟨A3, M, c3, vs3, rfl, s3, hm3, b3⟩
  have lm3 := s3.lx
  rw [lm3] at hM1
  obtain ⟨gC, rfl, gC1, gC2, _⟩ := s3.at_ hM1
  have S3 := Lib.hid s3
  have R3 := Lib.hid (R2.out.below b3 (by omega))
  have S2' := Lib.hid (S2.out.up b3)
  have bel3 : Hid (Below w.heap.size w w3) := Lib.hid (btr bel2.out b3)
  have Z3 := b3.size
  have HM : Hid ((heads p p.length).length = M) := Lib.hid (by rw [← lm3, cycs_heads, List.length_map])
  obtain rfl : M = m2 := by
    have := FT.out.len
    rw [HM.out] at this
    rw [← lm2, cycs_heads, List.length_map, this]
  have E0 : Hid (cycs q = (lf p q (heads p p.length) (heads q q.length) 0).map (cyc q)) := Lib.hid (by rw [cycs_heads]; cases heads p p.length <;> rfl)
  clear s3 b3 R2 S2 lm2 lm3
  go_wp2_with fail
  go_loopg [6, 8, 9, 10, 11, 20, 29] M (fun gg fv _ _ _ _ i _ wr => ∃ k vs, k ≤ M ∧ M - k ≤ gg ∧ i = .int .i64 (k : Nat) ∧ fv = .slice (some ⟨gF, 0, none⟩) (M - k) c2 ∧ Row wr w.heap.size w.heap.size n n (xAt p q k) ∧
    SS wr w1.heap.size w1.heap.size (some ⟨gF, 0, none⟩) (M - k) c2 vs ((lf p q (heads p p.length) (heads q q.length) k).map (cyc q)) ∧ SS wr w2.heap.size w2.heap.size (some ⟨gC, 0, none⟩) M c3 vs3 (cycs p) ∧ w3.heap.size ≤ wr.heap.size ∧ Below w.heap.size w wr)
  case atStart => exact ⟨0, vs2, Nat.zero_le _, by omega, rfl, rfl, by rw [xAt, lp.out]; exact R3.out, by rw [← E0.out]; exact S2'.out, S3.out, Nat.le_refl _, bel3.out⟩
  case round =>
    obtain ⟨k, vs, hk, hgg, rfl, rfl, row, sf, sc, zr, bel⟩ := hrel
    have Rw := Lib.hid row
    have Sf := Lib.hid sf
    have Sc := Lib.hid sc
    have Bel := Lib.hid bel
    clear row sf sc bel
    by_cases hlt : k < M
    · obtain ⟨h, eh⟩ : ∃ h, (heads p p.length).getD k 0 = h := ⟨_, rfl⟩
      obtain ⟨g, eg⟩ : ∃ g, (mt p q (heads p p.length) (heads q q.length)).getD k 0 = g := ⟨_, rfl⟩
      obtain ⟨f, ef⟩ : ∃ f, (lf p q (heads p p.length) (heads q q.length) k).findIdx (fun g => per q g == per p h) = f := ⟨_, rfl⟩
      have hli := lf_idx (heads p p.length) (heads q q.length) k FT.out (by rw [HM.out]; exact hlt)
      have hmt := mt_lf (p := p) (q := q) (heads p p.length) (heads q q.length) k (by rw [HM.out]; exact hlt)
      have hls := lf_succ (p := p) (q := q) (heads p p.length) (heads q q.length) k (by rw [HM.out]; exact hlt)
      rw [eh, ef] at hli hmt hls
      rw [eg] at hli hmt
      rw [HM.out] at hli
      have hhn : h < n := by rw [← eh, ← lp.out]; exact (head_facts (p := p) (k := k) (by rw [HM.out]; exact hlt)).1
      have Xs : Hid (xAt p q (k + 1) = putc p q h g (xAt p q k) (per p h)) := Lib.hid (by rw [xAt, eh, eg])
      have Per := Lib.hid (per_spec ip.out (x := h) (by rw [lp.out]; exact hhn))
      have Hh := Lib.hid hhn
      obtain ⟨hf1, hf2, hf3⟩ := hli
      have hfM : f < M - k := by omega
      have Ls := Lib.hid hls
      -- the cycle of p
      have hcy : (cycs p).getD k [] = cyc p h := by
        rw [cycs_heads, List.getD_eq_getElem?_getD, List.getElem?_map, List.getElem?_eq_getElem (by rw [HM.out]; exact hlt), ← eh, List.getD_eq_getElem?_getD, List.getElem?_eq_getElem (by rw [HM.out]; exact hlt)]; rfl
      have hfy : ((lf p q (heads p p.length) (heads q q.length) k).map (cyc q)).getD f [] = cyc q g := by
        rw [List.getD_eq_getElem?_getD, List.getElem?_map, List.getElem?_eq_getElem hf1, hmt, List.getD_eq_getElem?_getD, List.getElem?_eq_getElem hf1]; rfl
      obtain ⟨L, eL⟩ : ∃ L, per p h = L := ⟨_, rfl⟩
      have rC := Sc.out.row k hlt
      rw [hcy] at rC
      have cC : wr.cell? ⟨gC, k, none⟩ = some (.slice (vs3.getD k sd0).1 (vs3.getD k sd0).2.1 (vs3.getD k sd0).2.2) := by
        obtain ⟨g', e', _, _, hc'⟩ := Sc.out.at_ (by omega)
        injection e' with e'; injection e' with e'; subst e'
        exact hc' k hlt
      obtain ⟨AC, eAC⟩ : ∃ z, (vs3.getD k sd0).1 = z := ⟨_, rfl⟩
      obtain ⟨cCC, eCC⟩ : ∃ z, (vs3.getD k sd0).2.2 = z := ⟨_, rfl⟩
      have eLC : (vs3.getD k sd0).2.1 = L := by rw [← rC.1, cyc_length, eL]
      rw [eAC, eCC, eLC] at rC cC
      have rF := Sf.out.row f hfM
      rw [hfy] at rF
      have cF : wr.cell? ⟨gF, f, none⟩ = some (.slice (vs.getD f sd0).1 (vs.getD f sd0).2.1 (vs.getD f sd0).2.2) := by
        obtain ⟨g', e', _, _, hc'⟩ := Sf.out.at_ (by omega)
        injection e' with e'; injection e' with e'; subst e'
        exact hc' f hfM
      obtain ⟨AF, eAF⟩ : ∃ z, (vs.getD f sd0).1 = z := ⟨_, rfl⟩
      obtain ⟨cFF, eFF⟩ : ∃ z, (vs.getD f sd0).2.2 = z := ⟨_, rfl⟩
      have eLF : (vs.getD f sd0).2.1 = L := by rw [← rF.1, cyc_length, hf3, eL]
      rw [eAF, eFF, eLF] at rF cF
      have hL1 : 1 ≤ L := by rw [← eL]; exact Per.out.1
      have hL20 : L ≤ 20 := by rw [← eL]; have := Per.out.2.1; rw [lp.out] at this; omega
      have IxL : Hid ((((lf p q (heads p p.length) (heads q q.length) k).map (cyc q)).getD f []).length = L) := Lib.hid (by rw [hfy, cyc_length, hf3, eL])
      have IxN : Hid (∀ j, j < f → (((lf p q (heads p p.length) (heads q q.length) k).map (cyc q)).getD j []).length ≠ L) := Lib.hid (fun j hj => by
        rw [List.getD_eq_getElem?_getD, List.getElem?_map, List.getElem?_eq_getElem (by omega)]
        have := List.not_of_lt_findIdx (show j < (lf p q (heads p p.length) (heads q q.length) k).findIdx (fun g => per q g == per p h) by rw [ef]; exact hj)
        intro e
        have e2 : per q ((lf p q (heads p p.length) (heads q q.length) k)[j]'(by omega)) = L := by simpa [cyc_length] using e
        rw [e2] at this
        simp [eL] at this)
      have RC := Lib.hid rC
      have RF := Lib.hid rF
      have EL := Lib.hid eL
      have hgF : gF < w2.heap.size := gF2
      clear hcy hfy rC rF eL eAC eCC eLC eAF eFF eLF hmt hls eh eg ef hf1 hf3 hhn
      go_wp2_with fail
      refine (idxT (Sf.out.alloc _) L wr.heap.size f AC cCC (by simp) (by rw [World.cell?_alloc_at _ _ _ _ rfl]; rfl) (by omega) hfM IxL.out IxN.out).mono ?_
      rintro e w4 ⟨rfl, qq, hw4⟩
      have c8 : w4.cell? ⟨wr.heap.size, 0, none⟩ = some (.slice AC L cCC) := by rw [hw4]; exact World.cell?_alloc_at _ _ _ _ rfl
      have Z4 : w4.heap.size = wr.heap.size + 1 := by rw [hw4]; simp
      have Row4 : Hid (Row w4 w.heap.size w.heap.size n n (xAt p q k)) := Lib.hid (by rw [hw4]; exact (Rw.out.alloc _).drewN _)
      have Sf4 : Hid (SS w4 w1.heap.size w1.heap.size (some ⟨gF, 0, none⟩) (M - k) c2 vs ((lf p q (heads p p.length) (heads q q.length) k).map (cyc q))) := Lib.hid (by rw [hw4]; exact (Sf.out.alloc _).drewN _)
      have Sc4 : Hid (SS w4 w2.heap.size w2.heap.size (some ⟨gC, 0, none⟩) M c3 vs3 (cycs p)) := Lib.hid (by rw [hw4]; exact (Sc.out.alloc _).drewN _)
      have RC4 : Hid (Slc w4 w2.heap.size AC L cCC (cyc p h)) := Lib.hid (by rw [hw4]; exact (RC.out.alloc _).drewN _)
      have RF4 : Hid (Slc w4 w1.heap.size AF L cFF (cyc q g)) := Lib.hid (by rw [hw4]; exact (RF.out.alloc _).drewN _)
      have Bel4 : Hid (Below w.heap.size w w4) := Lib.hid (by rw [hw4]; exact below_drewN (Bel.out.alloc Bel.out.size _) _)
      have cF4 : Hid (w4.cell? ⟨gF, f, none⟩ = some (.slice AF L cFF)) := Lib.hid (by rw [hw4]; exact (World.cell?_alloc_lt wr _ ⟨gF, f, none⟩ (by show gF < wr.heap.size; omega)).trans cF)
      clear hw4 cF cC Rw Sf Sc RC RF Bel
      go_wp2_with fail
      go_loopg [10, 11, 29] L (fun gg _ _ i wr2 => ∃ j, j ≤ L ∧ L - j ≤ gg ∧ i = .int .i64 (j : Nat) ∧ Row wr2 w.heap.size w.heap.size n n (putc p q h g (xAt p q k) j) ∧ (∀ b, w1.heap.size ≤ b → b < w4.heap.size → wr2.heap[b]? = w4.heap[b]?) ∧ w4.heap.size ≤ wr2.heap.size ∧ Below w.heap.size w wr2)
      case atStart => exact ⟨0, Nat.zero_le _, by omega, rfl, Row4.out, fun _ _ _ => rfl, Nat.le_refl _, Bel4.out⟩
      case round =>
        obtain ⟨j, hj, hgj, rfl, row5, md5, z5, bel5⟩ := hrel
        have Row5 := Lib.hid row5
        have Md5 := Lib.hid md5
        have Bel5 := Lib.hid bel5
        clear row5 md5 bel5
        by_cases hjL : j < L
        · have rc5 := (RC4.out.mid Md5.out (by omega)).ri_
          have rf5 := (RF4.out.mid Md5.out (Nat.le_refl _)).ri_
          obtain ⟨bC, oC, rfl, hbC, hcC⟩ := rc5 (by rw [RC4.out.1]; omega)
          obtain ⟨bF, oF, rfl, hbF, hcF⟩ := rf5 (by rw [RF4.out.1]; omega)
          have cc := hcC j (by rw [RC4.out.1]; exact hjL)
          have cf := hcF j (by rw [RF4.out.1]; exact hjL)
          rw [cyc_getD (by rw [EL.out]; exact hjL)] at cc
          rw [cyc_getD (by have := RF4.out.1; rw [cyc_length] at this; rw [this]; exact hjL)] at cf
          obtain ⟨y, ey⟩ : ∃ y, it p j h = y := ⟨_, rfl⟩
          obtain ⟨z, ez⟩ : ∃ z, it q j g = z := ⟨_, rfl⟩
          have hy : y < n := by rw [← ey, ← lp.out]; exact it_lt ip.out (by rw [lp.out]; exact Hh.out) j
          rw [ey] at cc
          rw [ez] at cf
          have cF5 : wr.cell? ⟨gF, f, none⟩ = some (.slice (some ⟨bF, oF, none⟩) L cFF) := (World.cell?_of_block (Md5.out gF gF1 (by omega))).trans cF4.out
          have c3' := Row5.out.cell hy
          have f3' := Row5.out.free y
          have Ps : Hid (putc p q h g (xAt p q k) (j + 1) = (putc p q h g (xAt p q k) j).set y (z : Int)) := Lib.hid (by rw [putc_succ, ey, ez])
          have Row6 := Lib.hid (Row5.out.store y (z : Int))
          have Bel6 := Lib.hid (Bel5.out.setCell (p := ⟨w.heap.size, y, none⟩) (Nat.le_refl _) (.int .i64 (z : Int)))
          have Md6 : Hid (∀ b, w1.heap.size ≤ b → b < w4.heap.size → (wr.setCell ⟨w.heap.size, y, none⟩ (.int .i64 (z : Int))).heap[b]? = w4.heap[b]?) := Lib.hid fun b h1 h2 => (Below.heap_setCell wr ⟨w.heap.size, y, none⟩ _ b (show b ≠ w.heap.size by omega)).trans (Md5.out b h1 h2)
          clear ey ez hcC hcF
          go_wp2
          go_roundg (L - (j + 1))
          case rel => exact ⟨j + 1, by omega, Nat.le_refl _, by go_num, by rw [Ps.out]; exact Row6.out, Md6.out, by simp [World.setCell]; exact z5, Bel6.out⟩
          case measure => omega
        · have hjl : j = L := by omega
          subst hjl
          have Sf6 := Lib.hid (Sf4.out.mid Md5.out (Nat.le_refl _) (Nat.le_refl _))
          have Sc6 := Lib.hid (Sc4.out.mid (lo := w2.heap.size) (fun b h1 h2 => Md5.out b (by omega) h2) (Nat.le_refl _) (Nat.le_refl _))
          obtain ⟨r, er⟩ : ∃ r, M - k = r + 1 := ⟨M - k - 1, by omega⟩
          have er2 : M - (k + 1) = r := by omega
          rw [er] at Sf6
          have Er := Lib.hid er
          have Er2 := Lib.hid er2
          rw [er]
          have hfr : f ≤ r := by omega
          clear er er2
          go_wp2_with fail
          refine (delT Sf6.out f _ hfr (by omega)).mono ?_
          rintro e w7 ⟨rfl, s7, g7⟩
          have Z7 := g7.size
          have S7 : Hid (SS w7 w1.heap.size w1.heap.size (some ⟨gF, 0, none⟩) r c2 (vs.eraseIdx f) ((lf p q (heads p p.length) (heads q q.length) (k + 1)).map (cyc q))) := Lib.hid (by
            rw [Ls.out]
            have : ((lf p q (heads p p.length) (heads q q.length) k).eraseIdx f).map (cyc q) = ((lf p q (heads p p.length) (heads q q.length) k).map (cyc q)).eraseIdx f := by
              apply List.ext_getElem?
              intro i
              rw [List.getElem?_map, List.getElem?_eraseIdx, List.getElem?_eraseIdx]
              split <;> rw [List.getElem?_map]
            rw [this]; exact s7)
          have C7 : Hid (SS w7 w2.heap.size w2.heap.size (some ⟨gC, 0, none⟩) M c3 vs3 (cycs p)) := Lib.hid (Sc6.out.mid (lo := w2.heap.size) (fun b h1 h2 => g7.block b h2 (fun e => by injection e with e; omega)) (Nat.le_refl _) (Nat.le_refl _))
          have R7 : Hid (Row w7 w.heap.size w.heap.size n n (xAt p q (k + 1))) := Lib.hid (by rw [Xs.out, EL.out]; exact Row5.out.kept g7 (fun e => by injection e with e; omega))
          have Bel7 : Hid (Below w.heap.size w w7) := Lib.hid (Bel5.out.grown g7 Bel5.out.size (fun b e => by injection e with e; omega))
          clear s7 g7
          go_wp2_with fail
          go_roundg (M - (k + 1))
          case rel => exact ⟨k + 1, _, by omega, Nat.le_refl _, by go_num, by rw [Er2.out], R7.out, by rw [Er2.out]; exact S7.out, C7.out, by omega, Bel7.out⟩
          case measure => omega
    · have hkm : k = M := by omega
      subst hkm
      have Fq : Hid (xAt p q k = grL p q) := Lib.hid (by unfold grL; rw [HM.out])
      go_wp2
      go_ret
      exact ⟨_, _, rfl, by rw [← Fq.out]; exact Rw.out.slc, Bel.out⟩
end Go.Proofs.Ytplgdbkolklgnaa
