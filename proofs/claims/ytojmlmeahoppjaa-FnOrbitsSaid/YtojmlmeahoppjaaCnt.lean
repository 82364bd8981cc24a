/- countOrbits; IsTransitive. Conditions: at most 1000 points, at most 8 maps. -/
import Derived.Test.YtojmlmeahoppjaaIter
import Derived.Shelf.Abstract
import Derived.Maps.AppendAt
namespace Go.Proofs.Ytojmlmeahoppjaa
open Go.RowKit Go.Shelf
attribute [local go_sem] Oper.semAt_some

set_option maxHeartbeats 2000000 in
set_option maxRecDepth 100000 in
/-- countOrbits. -/
theorem implCount (N n c : Nat) (A : Option Addr) (vs : List SV) (gs : List (List Int)) (w : World) (hx : RR w w.heap.size A n vs gs) (hp : Hid (PMs N gs)) (hN1 : 1 ≤ N) (hN : N ≤ 1000) (hn : n ≤ 8) :
    Calls Try.prog 53 #[.int .i64 (N : Nat), .slice A n c] w fun e w' => e = .returned (.int .i64 ((orbs gs N N).length : Nat)) ∧ Below w.heap.size w w' := by
  have HX := Lib.hid hx
  clear hx
  refine (callsIn_wide (n := 6)).1 ?_
  refine callsIn_of_wp_marks Try.func53 rfl trivial ?_ rfl
  simp only [Try.ntmps53, List.size_toArray, List.length_cons, List.length_nil, Nat.reduceAdd, Nat.reduceSub, Array.replicate_succ, Array.replicate_zero, List.push_toArray, List.append_toArray, List.nil_append, List.cons_append]
  gi_wp2
  refine ⟨trivial, ?_⟩
  refine (callsIn_wide.2 (implUnder N A n c _)).mono ?_
  rintro e w2 ⟨rfl, rfl⟩
  gi_wp2
  obtain ⟨V, hV⟩ : ∃ V, ((w.alloc (.cells #[.int .i64 0] 2)).alloc (.cells #[.int .i64 (N : Nat)] 2)).alloc (.cells #[.slice A n c] 24) = V := ⟨_, rfl⟩
  rw [hV]
  have hz : V.heap.size = w.heap.size + 3 := by rw [← hV]; simp
  have b0 : Blk V w.heap.size 2 #[.int .i64 ((0 : Nat) : Int)] := by rw [← hV]; exact ((Blk.new w _ _).alloc _).alloc _
  have b1 : Blk V (w.heap.size + 1) 2 #[.int .i64 (N : Nat)] := by
    rw [← hV]; have := (Blk.new (w.alloc (.cells #[.int .i64 0] 2)) 2 #[.int .i64 (N : Nat)]).alloc (.cells #[.slice A n c] 24)
    rw [World.size_alloc] at this; exact this
  have b2 : Blk V (w.heap.size + 1 + 1) 24 #[.slice A n c] := by
    rw [← hV]; have := Blk.new ((w.alloc (.cells #[.int .i64 0] 2)).alloc (.cells #[.int .i64 (N : Nat)] 2)) 24 #[.slice A n c]
    rw [World.size_alloc, World.size_alloc] at this; exact this
  have bel : Below w.heap.size w V := by
    rw [← hV]; exact (((Below.refl _ w).alloc (Nat.le_refl _) _).alloc (by simp) _).alloc (by simp; omega) _
  have hxV : RR V w.heap.size A n vs gs := HX.out.below bel (Nat.le_refl _)
  have hole : (orbs gs N N).length ≤ N := by rw [orbs_len]; exact starts_le N
  clear hV
  refine rangeT (gf := 80) (lb := #[.pointer (some ⟨w.heap.size + 1, 0, none⟩), .pointer (some ⟨w.heap.size + 1 + 1, 0, none⟩)]) rfl (enters_of Try.func80 (by kernel_rfl) rfl)
    (itsUnder N n c w.heap.size (w.heap.size + 1) (w.heap.size + 1 + 1) A vs gs V hxV hp hN1 hN hn (by omega) b1 b2)
    (fun k hk => ⟨by rcases hk with h | h | h <;> omega, rfl⟩) (Nat.le_refl _)
    (fun i W => Blk W w.heap.size 2 #[.int .i64 (i : Nat)] ∧ Below w.heap.size w W)
    (fun i A C h hk => ⟨(hk.block _ h.1.lt (.inl (by omega))).trans h.1, h.2.trans (hk.below (by omega) h.2.size)⟩) ⟨b0, bel⟩
    (fun v => { tmps := #[.int .i64 (N : Nat), .slice A n c, undef, undef, .int .i64 0, .pointer (some ⟨w.heap.size, 0, none⟩), .int .i64 (N : Nat), .slice A n c, .func (.func 80) #[] #[.pointer (some ⟨w.heap.size + 1, 0, none⟩), .pointer (some ⟨w.heap.size + 1 + 1, 0, none⟩)], v, undef, undef, undef], defers := [] }) ?assign ?body ?done
  case assign =>
    intro l v W K hK
    gi_wp2
    exact hK
  case body =>
    rintro l i S m d W1 W2 ⟨hb, hbl⟩ hlt hsz hk hsl
    have hb2 : Blk W2 w.heap.size 2 #[.int .i64 (i : Nat)] := (hk.block _ hb.lt (.inl (by omega))).trans hb
    have cc : W2.cell? ⟨w.heap.size, 0, none⟩ = some (.int .i64 (i : Nat)) := hb2.cell 0
    have ff := hb2.frozen 0
    have hbl2 := Lib.hid (hbl.trans (hk.below (by omega) hbl.size))
    have Hb := Lib.hid (hb2.set_ 0 (.int .i64 ((i : Int) + 1)))
    have hi2 : i < 1000 := by omega
    have hzz := hbl2.out.size
    clear hb hbl hb2 hk hsl
    gi_wp2
    refine ⟨⟨?_, hbl2.out.setCell (p := ⟨w.heap.size, 0, none⟩) (Nat.le_refl _) _⟩, fun k hk => Below.heap_setCell _ _ _ k (fun e => by simp only at e; rcases hk with (h | h | h) | h <;> omega), by simp [World.setCell]⟩
    rw [show ((i + 1 : Nat) : Int) = (i : Int) + 1 from by omega]
    exact Hb.out
  case done =>
    rintro W ⟨hb, hbl⟩ hd
    have cc : W.cell? ⟨w.heap.size, 0, none⟩ = some (.int .i64 ((orbs gs N N).length : Nat)) := hb.cell 0
    have Hbl := Lib.hid hbl
    clear hbl
    gi_wp2
    refine ⟨by simp, .inl ⟨_, _, rfl, run_takeDeferred hd, ?_⟩⟩
    exact ⟨_, results_tmp rfl _ _ _, rfl, Hbl.out.grown (grownBy_putObj' W _ _) Hbl.out.size (fun k e => by cases e; omega)⟩

/-- What IsTransitive answers. -/
def transB (n : Int) (gs : List (List Int)) : Bool := gB n gs && decide ((orbs gs n.toNat n.toNat).length = 1)

set_option maxHeartbeats 800000 in
set_option maxRecDepth 100000 in
/-- The program's IsTransitive. -/
theorem implIsTransitive (a : Int) (A : Option Addr) (n c : Nat) (vs : List SV) (xss : List (List Int)) (w : World) (hx : RR w w.heap.size A n vs xss) (hn : n ≤ 1048576) (hl : Hid (∀ i, i < n → (vs.getD i sd0).2.1 ≤ 1048576)) :
    Calls Try.prog 20 #[.int .i64 a, .slice A n c] w fun e w' => e = .returned (.bool (transB a xss)) ∧ Below w.heap.size w w' := by
  rcases hs : gB a xss with _ | _
  · have Fin : Hid (transB a xss = false) := Lib.hid (by unfold transB; rw [hs]; rfl)
    go_enter Try.func20, Try.ntmps20
    go_wp2_with fail
    have K0 := implGS a A n c vs xss w hx hn hl
    refine K0.mono ?_
    rintro e w1 ⟨rfl, b1⟩
    have B1 := Lib.hid b1
    clear b1 K0
    rw [hs]
    go_wp2_with fail
    go_ret
    exact ⟨ret_bool Fin.out.symm, B1.out⟩
  · obtain ⟨N, hN, hN1, hN2, hg8, hpm, hok⟩ := gB_pm hs
    subst hN
    have Fin : Hid (transB N xss = decide ((orbs xss N N).length = 1)) := Lib.hid (by unfold transB; rw [hs]; rfl)
    have Pm := Lib.hid hpm
    have HX := Lib.hid hx
    have hlx := hx.lx
    clear hok hpm
    go_enter Try.func20, Try.ntmps20
    go_wp2_with fail
    have K0 := implGS N A n c vs xss w hx hn hl
    refine K0.mono ?_
    rintro e w1 ⟨rfl, b1⟩
    have B1 := Lib.hid b1
    clear b1 hx K0
    rw [hs]
    clear hs
    go_wp2_with fail
    refine (implCount N n c A vs xss w1 (HX.out.up B1.out) Pm hN1 (by omega) (by omega)).mono ?_
    rintro e w2 ⟨rfl, b2⟩
    have B2 : Hid (Below w.heap.size w w2) := Lib.hid (btr B1.out b2)
    clear b2
    obtain ⟨M, hM⟩ : ∃ M, (orbs xss N N).length = M := ⟨_, rfl⟩
    rw [hM] at Fin ⊢
    by_cases h1 : M = 1
    · subst h1
      go_wp2
      go_ret
      exact ⟨by rw [Fin.out]; rfl, B2.out⟩
    · have d1 : ((M : Int) == 1) = false := by simp; omega
      have Fin2 : Hid (transB N xss = false) := Lib.hid (by rw [Fin.out]; simpa using h1)
      clear hM
      go_wp2
      go_ret
      exact ⟨ret_bool Fin2.out.symm, B2.out⟩
end Go.Proofs.Ytojmlmeahoppjaa
