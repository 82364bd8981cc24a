/- Part 6 of the texts: PkL, Nmc5. No condition of its own: each text tells its own. -/
import Derived.Test.YtbimhnifjnibjaaMg5
import Derived.Test.YtbimhnifjnibjaaMg4
import Derived.Test.YtbimhnifjnibjaaMg1
import Derived.Laws.EntriesVeiled
set_option linter.unusedVariables false
set_option linter.unusedSimpArgs false

/- The program's members: all of them, by a function that calls itself through a variable; Members. Conditions: at most 1048576 lists of at most 1048576 numbers. -/
namespace Go.Proofs.Ytbimhnifjnibjaa
open Go.RowKit

/-- The members that agree with m in the first i entries, in order. -/
structure Sub (N : Nat) (gs : List (List Int)) (i : Nat) (m : List Int) (l : List (List Int)) : Prop where
  srt : l.Pairwise (LxI N)
  mem : ∀ p, p ∈ l ↔ Mb gs N p ∧ Ag i p m
/-- Those among them whose entry i is one of the first t of zs. -/
structure SubT (N : Nat) (gs : List (List Int)) (i : Nat) (m zs : List Int) (t : Nat) (l : List (List Int)) : Prop where
  srt : l.Pairwise (LxI N)
  mem : ∀ p, p ∈ l ↔ Mb gs N p ∧ Ag i p m ∧ ∃ u, u < t ∧ (nx p i : Int) = zs.getD u 0
section
variable {N i t : Nat} {gs : List (List Int)} {m m' zs : List Int} {l l' : List (List Int)}
theorem Sub.one (hg : ∀ g ∈ gs, Pn N g) (h1 : 1 ≤ N) (h2 : N ≤ 20) (hm : Mb gs N m) : Sub N gs N m [m] :=
  ⟨List.pairwise_singleton _ _, fun p => by
    rw [List.mem_singleton]
    exact ⟨fun e => ⟨e ▸ hm, fun x _ => by rw [e]⟩, fun ⟨a, b⟩ => (a.pn hg h1 h2).ext (hm.pn hg h1 h2) fun x hx => b x hx⟩⟩
theorem SubT.zero : SubT N gs i m zs 0 [] := ⟨.nil, fun p => ⟨fun h => (by cases h), fun ⟨_, _, u, hu, _⟩ => absurd hu (Nat.not_lt_zero _)⟩⟩
theorem SubT.next (h : SubT N gs i m zs t l) (hs : Sub N gs (i + 1) m' l') (hz : zs.Pairwise (· < ·)) (hi : i < N) (ht : t < zs.length) (ha : Ag i m' m) (hv : (nx m' i : Int) = zs.getD t 0) : SubT N gs i m zs (t + 1) (l ++ l') := by
  refine ⟨List.pairwise_append.2 ⟨h.srt, hs.srt, fun x hx y hy => ?_⟩, fun p => ?_⟩
  · obtain ⟨_, a1, u, hu, e1⟩ := (h.mem x).1 hx
    obtain ⟨_, a2⟩ := (hs.mem y).1 hy
    have a3 := (ag_succ.1 a2)
    refine ⟨i, hi, a1.trans (a3.1.trans ha).symm, ?_⟩
    have := sorted_lo hz hu ht
    have := a3.2
    omega
  · rw [List.mem_append, h.mem, hs.mem]
    constructor
    · rintro (⟨a, b, u, hu, e⟩ | ⟨a, b⟩)
      · exact ⟨a, b, u, by omega, e⟩
      · have b3 := ag_succ.1 b
        exact ⟨a, b3.1.trans ha, t, by omega, by rw [b3.2]; exact hv⟩
    · rintro ⟨a, b, u, hu, e⟩
      by_cases eu : u = t
      · subst eu
        exact .inr ⟨a, ag_succ.2 ⟨b.trans ha.symm, by omega⟩⟩
      · exact .inl ⟨a, b, u, by omega, e⟩
theorem SubT.all (h : SubT N gs i m zs zs.length l) (hc : ChL N gs m i zs) : Sub N gs i m l :=
  ⟨h.srt, fun p => by
    rw [h.mem]
    refine ⟨fun ⟨a, b, _⟩ => ⟨a, b⟩, fun ⟨a, b⟩ => ⟨a, b, ?_⟩⟩
    obtain ⟨u, hu, e⟩ := List.mem_iff_getElem.1 ((hc.2 _).2 ⟨p, a, b, rfl⟩)
    exact ⟨u, hu, by rw [gdx' hu]; exact e.symm⟩⟩
/-- How many they are. -/
theorem Sub.len {xs : List Int} (h : Sub N gs i m l) (ho : IsOS N gs xs) (hg : ∀ g ∈ gs, Pn N g) (h1 : 1 ≤ N) (h2 : N ≤ 20) (hi : i ≤ N) (hm : Mb gs N m) : (l.length : Int) = pr xs i (N - i) := by
  obtain ⟨v, hv, e⟩ := agree_card ho hg h1 h2 hi hm
  rw [e, hv.uniq ⟨l, lx_nodup h.srt, h.mem, rfl⟩]
end

/-- The blocks that the list may turn: its box, its row. -/
def Tb (ball : Nat) (A : Option Addr) (n c : Nat) (b : Nat) : Prop := b = ball ∨ (Value.slice A n c).ownBlock = some b
theorem SS.chgS {w w' : World} {lo n c : Nat} {A : Option Addr} {us : List SV} {l : List (List Int)} {S : Nat → Prop} (h : SS w lo lo A n c us l) (hc : Chg w w' S) (hS : ∀ b, S b → b < lo) : SS w' lo lo A n c us l :=
  ⟨ownsRow_chg h.own hc fun b e hs => by have := (h.lt_ b e).1; have := hS b hs; omega, h.lv, h.lx, fun i hi => (h.row i hi).chgS hc fun b e hs => by have := ((h.row i hi).lt_ b e).1; have := hS b hs; omega, h.dis⟩
theorem chg_cellT (w : World) (b : Nat) (u : Value) : Chg w (w.setCell ⟨b, 0, none⟩ u) (fun x => x = b) := ⟨rfl, rfl, rfl, by simp, fun x hx hn => heap_setCell_other w ⟨b, 0, none⟩ _ _ fun e => hn e⟩

/-- withValue where the entry is one that the link allows. -/
theorem implWithY (base N k j cp : Nat) (M : Nat → Prop) (c : Ch) (L : Nat → LK) (A : Option Addr) (m : List Int) (v y : Nat) (w : World) (hc : Ck w base N k M c L) (hkj : k ≤ j) (hjN : j < N) (hr : Hid (RepOK N c j)) (hm : RI w w.heap.size A m) (hP : Hid (Pn N m)) (hy : y < N) (hyv : nx m y = v) (hyr : c.rep j y ≠ []) :
    Calls Try.prog 41 #[.pointer (some ⟨(L j).B, 0, none⟩), .slice A N cp, .int .i64 (v : Nat)] w fun e w' => ∃ (g c' : Nat), e = .returned (.slice (some ⟨g, 0, none⟩) N c') ∧ Slc w' w.heap.size (some ⟨g, 0, none⟩) N c' (compL (c.rep j y) m) ∧ Below w.heap.size w w' :=
  (implWith base N k j cp M c L A m (v : Nat) w hc hkj hjN hr hm hP).mono fun e w' h => by
    obtain ⟨A', n', c', rfl, (⟨_, _, _, hno⟩ | ⟨g, y2, rfl, rfl, hy2, hyv2, _, hs⟩), b⟩ := h
    · exact absurd (hno y hy (by rw [hyv])) hyr
    · obtain rfl : y2 = y := hP.out.inj hy2 hy (by omega)
      exact ⟨g, c', rfl, hs, b⟩

def ChooseOK (w0 : World) (N lo ball bch : Nat) (gs : List (List Int)) (os : List Int) (L : Nat → LK) (i : Nat) : Prop :=
  ∀ (A Am : Option Addr) (n c cm : Nat) (us : List SV) (l : List (List Int)) (m : List Int) (w : World), Below w0.heap.size w0 w → lo ≤ w.heap.size → Blk w ball 24 #[.slice A n c] → Blk w bch 60 #[.func (.func 39) #[] #[.pointer (some ⟨ball, 0, none⟩), .pointer (some ⟨bch, 0, none⟩)]] →
    SS w lo lo A n c us l → Mb gs N m → Rd w (Tb ball A n c) (Am, N, cm) m → (i = N → Slc w lo Am N cm m ∧ ∀ t, t < n → (sval (us.getD t sd0)).ownBlock = none ∨ (sval (us.getD t sd0)).ownBlock ≠ (sval (Am, N, cm)).ownBlock) → (l.length : Int) + pr os i (N - i) ≤ 3000 →
    Calls Try.prog 39 #[ptr N L i, .slice Am N cm, .pointer (some ⟨ball, 0, none⟩), .pointer (some ⟨bch, 0, none⟩)] w fun e w' => e = .returned (.tuple #[]) ∧ ∃ (A' : Option Addr) (n' c' : Nat) (us' : List SV) (l' : List (List Int)),
      Blk w' ball 24 #[.slice A' n' c'] ∧ SS w' lo lo A' n' c' us' (l ++ l') ∧ Sub N gs i m l' ∧ (∀ b, Tb ball A' n' c' b → Tb ball A n c b ∨ w.heap.size ≤ b) ∧ Chg w w' (Tb ball A n c)

set_option maxHeartbeats 4000000 in
set_option maxRecDepth 100000 in
theorem choose_end (w0 : World) (N lo ball bch : Nat) (gs : List (List Int)) (os : List Int) (L : Nat → LK) (hg : Hid (∀ g ∈ gs, Pn N g)) (h1 : 1 ≤ N) (h2 : N ≤ 20) (hbl : ball < lo) : ChooseOK w0 N lo ball bch gs os L N := by
  intro A Am n c cm us l m w bel hlo hba hbc hss hmb hrd hown hcnt
  obtain ⟨hsl, hdis⟩ := hown rfl
  have Ss := Lib.hid hss
  have Sl := Lib.hid hsl
  have Di := Lib.hid hdis
  have One := Lib.hid (Sub.one hg.out h1 h2 hmb)
  have hn3 : n ≤ 3000 := by
    rw [Nat.sub_self] at hcnt
    have hcnt : (l.length : Int) + 1 ≤ 3000 := hcnt
    have := hss.lx
    omega
  have c0 : w.cell? ⟨ball, 0, none⟩ = some (.slice A n c) := hba.cell 0
  have hnr : some ball ≠ (Value.slice A n c).ownBlock := fun e => by have := (hss.lt_ ball e.symm).1; omega
  have PA : Hid (∀ (A3 : Option Addr) (c3 : Nat) (w3 : World), SS w3 lo lo A3 (n + 1) c3 (us ++ [(Am, N, cm)]) (l ++ [m]) → (w.alloc (.cells #[.slice Am N cm] 28)).grownBy w3 (Value.slice A n c).ownBlock → ((Value.slice A3 (n + 1) c3).ownBlock = (Value.slice A n c).ownBlock ∨ (Value.slice A3 (n + 1) c3).ownBlock = some (w.alloc (.cells #[.slice Am N cm] 28)).heap.size) →
      w3.cell? ⟨ball, 0, none⟩ = some (.slice A n c) ∧ w3.frozen? ⟨ball, 0, none⟩ = false ∧ Hid (Blk (w3.setCell ⟨ball, 0, none⟩ (.slice A3 (n + 1) c3)) ball 24 #[.slice A3 (n + 1) c3] ∧ SS (w3.setCell ⟨ball, 0, none⟩ (.slice A3 (n + 1) c3)) lo lo A3 (n + 1) c3 (us ++ [(Am, N, cm)]) (l ++ [m]) ∧ (∀ b, Tb ball A3 (n + 1) c3 b → Tb ball A n c b ∨ w.heap.size ≤ b) ∧ Chg w (w3.setCell ⟨ball, 0, none⟩ (.slice A3 (n + 1) c3)) (Tb ball A n c))) := Lib.hid fun A3 c3 w3 s3 g3 h3 => by
    have b3 := (hba.alloc (.cells #[.slice Am N cm] 28)).grown g3 hnr
    refine ⟨b3.cell 0, b3.frozen 0, Lib.hid ⟨by simpa using b3.set_ 0 (.slice A3 (n + 1) c3), s3.chgS (chg_cellT _ _ _) (fun b e => by rw [e]; exact hbl), fun b e => ?_, ?_⟩⟩
    · rcases e with e | e
      · exact .inl (.inl e)
      · rcases h3 with h | h
        · exact .inl (.inr (by rw [← h]; exact e))
        · rw [h] at e; injection e with e; exact .inr (by simp at e; omega)
    · refine ((Chg.of_below (M := Tb ball A n c) ((Below.refl w.heap.size w).alloc (Nat.le_refl _) _)).trans (.of_grown (M := Tb ball A n c) g3 fun k e => .inr e) fun k e => .inl e).trans (chg_cellT _ _ _) fun k e => .inl (.inl e)
  have Fin := PA
  clear hba hbc hss hmb hrd hown hcnt hsl hdis hnr Fin
  rw [ptr_end (Nat.le_refl _)]
  go_enter Try.func39, Try.ntmps39
  go_wp2_with (first | (at_builtin; refine wpList_app2_at rfl _ _ rfl rfl (Ss.out.alloc _) w.heap.size Am N cm m rfl (by rw [World.cell?_alloc_at _ _ _ _ rfl]; rfl) (Sl.out.alloc _) Di.out (by omega) (by simp; omega) ?_; intro A3 c3 w3 s3 g3 h3; obtain ⟨v1, v2, v3⟩ := PA.out A3 c3 w3 s3 g3 h3; clear s3 g3 h3))
  (try simp only [Exit.inBlock, Exit.then]); refine bodyPost_ret (results_none rfl _ _ _) rfl ?_
  exact ⟨rfl, A3, n + 1, c3, _, [m], v3.out.1, v3.out.2.1, One.out, v3.out.2.2.1, v3.out.2.2.2⟩

set_option maxHeartbeats 8000000 in
set_option maxRecDepth 100000 in
theorem choose_step (w0 : World) (base N lo ball bch i : Nat) (gs : List (List Int)) (M : Nat → Prop) (ch : Ch) (L : Nat → LK) (hc0 : Hid (Ck w0 base N 0 M ch L)) (ho : Orbs N 0 ch L) (hw : Hid (Whole N gs ch)) (hg : Hid (∀ g ∈ gs, Pn N g)) (h1 : 1 ≤ N) (h2 : N ≤ 20) (hi : i < N) (hb0 : w0.heap.size ≤ ball) (hbl : ball < lo) (hcl : bch < lo) (hne : bch ≠ ball)
    (ih : ChooseOK w0 N lo ball bch gs (osL N ch N) L (i + 1)) : ChooseOK w0 N lo ball bch gs (osL N ch N) L i := by
  intro A Am n c cm us l m w bel hlo hba hbc hss hmb hrd hown hcnt
  have HO := Lib.hid ho
  have Os := Lib.hid (hw.out.os h1 h2)
  have C0 := Lib.hid (hc0.out.up bel)
  have Rm := Lib.hid hrd
  have Mb0 := Lib.hid hmb
  have Ss0 := Lib.hid hss
  have Ba0 := Lib.hid hba
  have Bc0 := Lib.hid hbc
  have Be0 := Lib.hid bel
  have hbaw := hba.lt
  have Cn := Lib.hid hcnt
  have PM := Lib.hid (hmb.pn hg.out h1 h2)
  have ST : Hid (∀ b, Tb ball A n c b → b < w.heap.size) := Lib.hid fun b e => by
    rcases e with e | e
    · omega
    · exact (hss.lt_ b e).2
  clear ho hba hbc hss hmb hrd hown hcnt bel
  rw [ptr_at hi]
  go_enter Try.func39, Try.ntmps39
  go_wp2_with fail
  refine (implValues base N 0 i cm M ch L gs Am m w C0.out HO.out hw (Nat.zero_le _) hi h1 h2 hg Rm.out.ri Mb0).mono ?_
  rintro e w2 ⟨g, nz, cz, zs, rfl, s2, hn1, hn20, chl, b2⟩
  have Chl := Lib.hid chl
  have Lz : Hid (zs.length = nz) := Lib.hid s2.1
  obtain ⟨cn, hcn, hcc⟩ := agree_card Os.out hg.out h1 h2 (i := i + 1) (by omega) Mb0.out
  have hfr : pr (osL N ch N) i (N - i) = ((nz * cn : Nat) : Int) := by
    have hlen := chl.len Os.out hg.out h1 h2 hi Mb0.out
    rw [show N - i = N - (i + 1) + 1 by omega, pr_front, hcc, ← hlen, s2.1, Int.natCast_mul]
  have Cc := Lib.hid hcc
  have Ct : Hid (l.length + nz * cn ≤ 3000) := Lib.hid (by have := Cn.out; rw [hfr] at this; omega)
  have Zs : Hid (Rd w2 (Tb ball A n c) (some ⟨g, 0, none⟩, nz, cz) zs) := Lib.hid (Rd.of_slc (d := (some ⟨g, 0, none⟩, nz, cz)) s2 ST.out)
  have Rm2 : Hid (Rd w2 (Tb ball A n c) (Am, N, cm) m) := Lib.hid (Rm.out.up b2)
  have Ss2 := Lib.hid (Ss0.out.up b2)
  have Ba2 := Lib.hid (Ba0.out.below b2 Ba0.out.lt)
  have Bc2 := Lib.hid (Bc0.out.below b2 Bc0.out.lt)
  have Be2 : Hid (Below w0.heap.size w0 w2) := Lib.hid (btr Be0.out b2)
  have Cg2 : Hid (Chg w w2 (Tb ball A n c)) := Lib.hid (.of_below b2)
  clear s2 chl b2 hcn hcc hfr
  go_wp2_with fail
  go_loopg [7, 18] nz (fun gg _ iv wr => ∃ (t : Nat) (A' : Option Addr) (n' c' : Nat) (us' : List SV) (l' : List (List Int)), t ≤ nz ∧ nz - t ≤ gg ∧ iv = .int .i64 (t : Nat) ∧ Blk wr ball 24 #[.slice A' n' c'] ∧ Blk wr bch 60 #[.func (.func 39) #[] #[.pointer (some ⟨ball, 0, none⟩), .pointer (some ⟨bch, 0, none⟩)]] ∧
    SS wr lo lo A' n' c' us' (l ++ l') ∧ SubT N gs i m zs t l' ∧ l'.length = t * cn ∧ (∀ b, Tb ball A' n' c' b → Tb ball A n c b ∨ w.heap.size ≤ b) ∧ Chg w wr (Tb ball A n c) ∧ Rd wr (Tb ball A' n' c') (Am, N, cm) m ∧ Rd wr (Tb ball A' n' c') (some ⟨g, 0, none⟩, nz, cz) zs ∧ Below w0.heap.size w0 wr)
  case atStart => exact ⟨0, A, n, c, us, [], Nat.zero_le _, by omega, rfl, Ba2.out, Bc2.out, by rw [List.append_nil]; exact Ss2.out, SubT.zero, by rw [Nat.zero_mul]; rfl, fun b e => .inl e, Cg2.out, Rm2.out, Zs.out, Be2.out⟩
  case round =>
    clear Zs Rm2 Ss2 Ba2 Bc2 Be2 Cg2
    obtain ⟨t, A', n', c', us', l', ht, hgg, rfl, hba, hbc, hss, hsb, hll, htb, hcg, hrm, hzs, bel⟩ := hrel
    have Ba := Lib.hid hba
    have Bc := Lib.hid hbc
    have Ss := Lib.hid hss
    have Sb := Lib.hid hsb
    have Ll := Lib.hid hll
    have Tt := Lib.hid htb
    have Cg := Lib.hid hcg
    have Rm1 := Lib.hid hrm
    have Zs := Lib.hid hzs
    have Be := Lib.hid bel
    have C1 := Lib.hid (hc0.out.up bel)
    have hzr := hcg.size
    have hz0 := bel.size
    clear hba hbc hss hsb hll htb hcg hrm hzs bel
    by_cases hlt : t < nz
    · have hzm : zs.getD t 0 ∈ zs := by rw [gdx' (by rw [Lz.out]; exact hlt)]; exact List.getElem_mem _
      obtain ⟨v, hv, _⟩ := Chl.out.bnd hg.out h1 h2 hi hzm
      obtain ⟨zb, zo, ez, hzb, _, hzc⟩ := Zs.out.at_ (by rw [Lz.out]; omega)
      have x9 := hzc t (by rw [Lz.out]; exact hlt)
      have ez2 : (some ⟨g, 0, none⟩ : Option Addr) = some ⟨zb, zo, none⟩ := ez
      injection ez2 with ez2
      injection ez2 with f1 f2 _
      subst f1 f2
      rw [Nat.zero_add, hv] at x9
      rw [hv] at hzm
      obtain ⟨y0, hy0, hyv, hry⟩ := hw.out.pick h1 h2 hg.out hi Mb0.out Chl.out hzm
      have Pk := Lib.hid (hw.out.picked h1 h2 hg.out hi Mb0.out hry)
      have Y0 : Hid (y0 < N ∧ nx m y0 = v ∧ ch.rep i y0 ≠ []) := Lib.hid ⟨hy0, by omega, hry⟩
      have Hv := Lib.hid hv
      obtain ⟨m', hm'⟩ : ∃ m', compL (ch.rep i y0) m = m' := ⟨_, rfl⟩
      have Em := Lib.hid hm'
      have x1 : wr.cell? ⟨bch, 0, none⟩ = some (.func (.func 39) #[] #[.pointer (some ⟨ball, 0, none⟩), .pointer (some ⟨bch, 0, none⟩)]) := Bc.out.cell 0
      have x2 := (C1.out.cB (Nat.zero_le _) hi).2.2.2.2
      have z0 : (0 : Int) ≤ t := by omega
      have z1 : (t : Int) < nz := by omega
      have hkk : l.length + t * cn + cn ≤ 3000 := by
        have h3 : (t + 1) * cn ≤ nz * cn := Nat.mul_le_mul_right cn hlt
        rw [Nat.succ_mul] at h3
        have := Ct.out
        omega
      have hB : (L i).B < wr.heap.size := (C1.out.lk i (Nat.zero_le _) hi).blk.lt
      have hbcw : bch < wr.heap.size := Bc.out.lt
      have ST1 : Hid (∀ b, Tb ball A' n' c' b → b < wr.heap.size) := Lib.hid fun b e => by
        rcases e with e | e
        · rw [e]; exact Ba.out.lt
        · exact (Ss.out.lt_ b e).2
      have NT : Hid (∀ b, Tb ball A' n' c' b → b ≠ bch ∧ w0.heap.size ≤ b) := Lib.hid fun b e => by
        rcases e with e | e
        · rw [e]; exact ⟨fun h => hne h.symm, hb0⟩
        · have := (Ss.out.lt_ b e).1
          exact ⟨by omega, by omega⟩
      clear ez hzb hzc hzm hy0 hyv hry hv hm'
      go_wp2_with fail
      go_region_held3 (fun w' => w'.cell? ⟨bch, 0, none⟩ = some (.func (.func 39) #[] #[.pointer (some ⟨ball, 0, none⟩), .pointer (some ⟨bch, 0, none⟩)]) ∧ w'.cell? ⟨(L i).B, 4, none⟩ = some (ptr N L (i + 1)))
        (first | exact ⟨x1, x2⟩ | exact hS1 | exact hS2 | go_keep)
        (first
          | (go_at_call 41; refine (implWithY base N 0 i cm M ch L Am m v y0 _ ?_ (Nat.zero_le _) hi ?_ ?_ PM Y0.out.1 Y0.out.2.1 Y0.out.2.2).mono ?_; (exact C1.out.up ⟨rfl, rfl, rfl, Nat.le_refl _, fun _ _ => rfl⟩); (exact Lib.hid (hw.out.up.rep i (Nat.zero_le _) hi)); (exact Rm1.out.ri); rintro e w3 ⟨g3, c3, rfl, s3', b3'⟩; have b3 : Below wr.heap.size wr w3 := ⟨b3'.os, b3'.tape, b3'.output, b3'.size, b3'.block⟩; have s3 : Slc w3 wr.heap.size (some ⟨g3, 0, none⟩) N c3 m' := by rw [← Em.out]; exact s3'
             have hS1 := And.intro ((b3.cell (p := ⟨bch, 0, none⟩) hbcw).trans x1) ((b3.cell (p := ⟨(L i).B, 4, none⟩) hB).trans x2))
          | (go_at_call 39; refine (ih A' (some ⟨g3, 0, none⟩) n' c' c3 us' (l ++ l') m' w3 ?_ ?_ ?_ ?_ ?_ ?_ ?_ ?_ ?_).mono ?_; (exact btr Be.out b3); (exact Nat.le_trans (Nat.le_trans hlo hzr) b3.size); (exact Ba.out.below b3 Ba.out.lt); (exact Bc.out.below b3 Bc.out.lt); (exact Ss.out.up b3); (rw [← Em.out]; exact Pk.out.1); (exact Rd.of_slc (d := (some ⟨g3, 0, none⟩, N, c3)) s3 ST1.out); (exact fun _ => ⟨s3.mono (Nat.le_trans hlo hzr), lies_dis Ss.out s3.lies (Nat.le_refl _)⟩); (rw [List.length_append, Ll.out, Cc.out]; omega)
             rintro e w4 ⟨rfl, A4, n4, c4, us4, l4, ba4, ss4, sb4, tb4, cg4⟩
             have cg5 : Chg wr w4 (Tb ball A' n' c') := (Chg.of_below (M := Tb ball A' n' c') b3).trans cg4 fun k e => .inl e
             have bc4 := Bc.out.chg cg5 (fun e => (NT.out bch e).1 rfl)
             have be4 : Below w0.heap.size w0 w4 := Be.out.trans (cg5.below (fun k e => (NT.out k e).2) hz0)
             have hS2 := And.intro (bc4.cell 0) (((hc0.out.up be4).cB (Nat.zero_le _) hi).2.2.2.2)))
      have T4 : Hid (∀ b, Tb ball A4 n4 c4 b → Tb ball A' n' c' b ∨ wr.heap.size ≤ b) := Lib.hid fun b e => by
        rcases tb4 b e with h | h
        · exact .inl h
        · exact .inr (Nat.le_trans b3.size h)
      have R1 : Hid (Blk w4 ball 24 #[.slice A4 n4 c4]) := Lib.hid ba4
      have R2 := Lib.hid bc4
      have R3 : Hid (SS w4 lo lo A4 n4 c4 us4 (l ++ (l' ++ l4))) := Lib.hid (by rw [← List.append_assoc]; exact ss4)
      have R4 : Hid (SubT N gs i m zs (t + 1) (l' ++ l4)) := Lib.hid (Sb.out.next sb4 Chl.out.1 hi (by rw [Lz.out]; exact hlt) (by rw [← Em.out]; exact Pk.out.2.1) (by rw [← Em.out, Pk.out.2.2, Y0.out.2.1, Hv.out]))
      have R5 : Hid ((l' ++ l4).length = (t + 1) * cn) := Lib.hid (by
        have := sb4.len Os.out hg.out h1 h2 (by omega) (by rw [← Em.out]; exact Pk.out.1)
        rw [Cc.out] at this
        rw [List.length_append, Ll.out, Nat.succ_mul]; omega)
      have R6 : Hid (∀ b, Tb ball A4 n4 c4 b → Tb ball A n c b ∨ w.heap.size ≤ b) := Lib.hid fun b e => by
        rcases T4.out b e with h | h
        · exact Tt.out b h
        · exact .inr (Nat.le_trans hzr h)
      have R7 : Hid (Chg w w4 (Tb ball A n c)) := Lib.hid (Cg.out.trans cg5 Tt.out)
      have R8 : Hid (Rd w4 (Tb ball A4 n4 c4) (Am, N, cm) m) := Lib.hid (Rm1.out.keep cg5 (fun _ e => e) T4.out)
      have R9 : Hid (Rd w4 (Tb ball A4 n4 c4) (some ⟨g, 0, none⟩, nz, cz) zs) := Lib.hid (Zs.out.keep cg5 (fun _ e => e) T4.out)
      have R10 := Lib.hid be4
      clear ba4 ss4 sb4 tb4 cg4 cg5 bc4 be4 b3 s3 hS1 hS2
      go_wp2_with fail
      go_roundg (nz - (t + 1))
      case rel => exact ⟨t + 1, A4, n4, c4, us4, l' ++ l4, by omega, by omega, by go_num, R1.out, R2.out, R3.out, R4.out, R5.out, R6.out, R7.out, R8.out, R9.out, R10.out⟩
      case measure => omega
    · obtain rfl : t = nz := by omega
      have Fin : Hid (Sub N gs i m l') := Lib.hid (by
        have := Sb.out
        rw [← Lz.out] at this
        exact this.all Chl.out)
      go_wp2_with fail
      go_end0
      exact ⟨rfl, A', n', c', us', l', Ba.out, Ss.out, Fin.out, Tt.out, Cg.out⟩
theorem choose_all (w0 : World) (base N lo ball bch : Nat) (gs : List (List Int)) (M : Nat → Prop) (ch : Ch) (L : Nat → LK) (hc0 : Hid (Ck w0 base N 0 M ch L)) (ho : Orbs N 0 ch L) (hw : Hid (Whole N gs ch)) (hg : Hid (∀ g ∈ gs, Pn N g)) (h1 : 1 ≤ N) (h2 : N ≤ 20) (hb0 : w0.heap.size ≤ ball) (hbl : ball < lo) (hcl : bch < lo) (hne : bch ≠ ball) :
    ∀ d i, i + d = N → ChooseOK w0 N lo ball bch gs (osL N ch N) L i
  | 0, i, e => by
    obtain rfl : i = N := by omega
    exact choose_end w0 i lo ball bch gs _ L hg h1 h2 hbl
  | d + 1, i, e => choose_step w0 base N lo ball bch i gs M ch L hc0 ho hw hg h1 h2 (by omega) hb0 hbl hcl hne (choose_all w0 base N lo ball bch gs M ch L hc0 ho hw hg h1 h2 hb0 hbl hcl hne d (i + 1) (by omega))

set_option maxHeartbeats 4000000 in
set_option maxRecDepth 100000 in
/-- members, of a whole chain of at most 3000. -/
theorem implMembersC (base N V : Nat) (gs : List (List Int)) (M : Nat → Prop) (ch : Ch) (L : Nat → LK) (w : World) (hc : Ck w base N 0 M ch L) (ho : Orbs N 0 ch L) (hw : Hid (Whole N gs ch)) (h1 : 1 ≤ N) (h2 : N ≤ 20) (hg : Hid (∀ g ∈ gs, Pn N g)) (hV : Hid (pr (osL N ch N) 0 N = (V : Int))) (hV3 : V ≤ 3000) :
    Calls Try.prog 20 #[.pointer (some ⟨(L 0).B, 0, none⟩)] w fun e w' => ∃ (A : Option Addr) (n c : Nat) (us : List SV) (l : List (List Int)), e = .returned (.slice A n c) ∧ SS w' w.heap.size w.heap.size A n c us l ∧ Sub N gs 0 (idL N) l ∧ Below w.heap.size w w' := by
  have hmf : ∀ (fn : Fn) (first cap : Array Value) (w : World), (Instr.makeFunc fn first cap).run Try.prog w = .ok (.func fn first cap) w := fun _ _ _ _ => rfl
  have HC := Lib.hid hc
  have HO := Lib.hid ho
  obtain ⟨w3, hw3⟩ : ∃ w3, w3 = (w.alloc (.cells #[.slice none 0 0] 24)).alloc (.cells #[.func (.func 39) #[] #[.pointer (some ⟨w.heap.size, 0, none⟩), .pointer (some ⟨w.heap.size + 1, 0, none⟩)]] 60) := ⟨_, rfl⟩
  have hz3 : w3.heap.size = w.heap.size + 2 := by rw [hw3]; simp
  have b3 : Below w.heap.size w w3 := by rw [hw3]; exact ((Below.refl _ _).alloc (Nat.le_refl _) _).alloc (by simp) _
  have B3 := Lib.hid b3
  have Ba : Hid (Blk w3 w.heap.size 24 #[.slice none 0 0]) := Lib.hid (by rw [hw3]; exact (Blk.new w _ _).alloc _)
  have Bc : Hid (Blk w3 (w.heap.size + 1) 60 #[.func (.func 39) #[] #[.pointer (some ⟨w.heap.size, 0, none⟩), .pointer (some ⟨w.heap.size + 1, 0, none⟩)]]) := Lib.hid (by
    rw [hw3]
    have := Blk.new (w.alloc (.cells #[.slice none 0 0] 24)) 60 #[.func (.func 39) #[] #[.pointer (some ⟨w.heap.size, 0, none⟩), .pointer (some ⟨w.heap.size + 1, 0, none⟩)]]
    rw [World.size_alloc] at this
    exact this)
  have C3 := Lib.hid (hc.up b3)
  obtain ⟨b, off, cc, en, x5, hcc, hri⟩ := C3.out.mover0 hw.out h1
  have hrd := (hc.eM (Nat.le_refl _) (show 0 < N by omega) (y := 0) (by omega)).2 (by rw [rep00 hw.out h1]; exact idL_ne h1)
  rw [rep00 hw.out h1, en] at hrd
  have Rd3 : Hid (Rd w3 (Tb w.heap.size none 0 0) (some ⟨b, off, none⟩, N, cc) (idL N)) := Lib.hid (hrd.keep (S := fun _ => False) (.of_below b3) (fun _ e => e.elim) fun x e => by
    rcases e with e | e
    · exact .inr (by omega)
    · cases e)
  obtain ⟨x0, x1, x2, x3, x4⟩ := C3.out.cB (Nat.le_refl _) (show 0 < N by omega)
  have x6 : w3.cell? ⟨w.heap.size + 1, 0, none⟩ = some (.func (.func 39) #[] #[.pointer (some ⟨w.heap.size, 0, none⟩), .pointer (some ⟨w.heap.size + 1, 0, none⟩)]) := Bc.out.cell 0
  have CA := choose_all w base N (w.heap.size + 2) w.heap.size (w.heap.size + 1) gs M ch L HC HO.out hw hg h1 h2 (Nat.le_refl _) (by omega) (by omega) (by omega) N 0 (by omega)
  have K : Hid (∀ q, Calls Try.prog 39 #[.pointer (some ⟨(L 0).B, 0, none⟩), .slice (some ⟨b, off, none⟩) N cc, .pointer (some ⟨w.heap.size, 0, none⟩), .pointer (some ⟨w.heap.size + 1, 0, none⟩)] (w3.drewN q) fun e w' => e = .returned (.tuple #[]) ∧ ∃ (A' : Option Addr) (n' c' : Nat) (us' : List SV) (l' : List (List Int)),
      Blk w' w.heap.size 24 #[.slice A' n' c'] ∧ SS w' w.heap.size w.heap.size A' n' c' us' l' ∧ Sub N gs 0 (idL N) l' ∧ Chg w3 w' (fun b => b = w.heap.size)) := Lib.hid fun q => by
    have KK := CA none (some ⟨b, off, none⟩) 0 0 cc [] [] (idL N) (w3.drewN q) (btr b3 (pcDrewBelow w3 q)) (by show w.heap.size + 2 ≤ w3.heap.size; omega) Ba.out Bc.out SS.nil_ .one (Rd3.out.up (pcDrewBelow w3 q)) (fun e => by omega) (by
      rw [Nat.sub_zero, hV.out]; simp; omega)
    rw [ptr_at (by omega)] at KK
    refine KK.mono fun e w' h => ?_
    obtain ⟨h0, A', n', c', us', l', a1, a2, a3, _, a5⟩ := h
    refine ⟨h0, A', n', c', us', l', a1, by rw [List.nil_append] at a2; exact a2.mono (by omega) (by omega), a3, a5.os, a5.tape, a5.output, a5.size, fun k hk hn => a5.block k hk fun e => ?_⟩
    rcases e with e | e
    · exact hn e
    · cases e
  have hB0 : (L 0).B < w.heap.size := (hc.lk 0 (Nat.le_refl _) (by omega)).blk.lt
  have hm0 : (L 0).mb < w.heap.size := (hc.mlt _ (hc.mm 0 3 _ (Nat.le_refl _) (by omega) (by decide) rfl)).2
  have p0 : (0 : Int) ≤ (0 : Nat) := by omega
  have p1 : ((0 : Nat) : Int) < N := by omega
  have p2 : (0 : Int) < N := by omega
  have p3 : 0 < N := by omega
  have Hw3 := Lib.hid hw3
  clear hc ho hw3 b3 en hri hrd x1 x2 x4 CA
  go_enter Try.func20, Try.ntmps20
  go_wp2_with fail
  rw [← Hw3.out]
  go_region_held3 (fun w' => w'.cell? ⟨w.heap.size + 1, 0, none⟩ = some (.func (.func 39) #[] #[.pointer (some ⟨w.heap.size, 0, none⟩), .pointer (some ⟨w.heap.size + 1, 0, none⟩)]) ∧ w'.cell? ⟨(L 0).B, 3, none⟩ = some (.slice (some ⟨(L 0).mb, 0, none⟩) N N) ∧ w'.cell? ⟨(L 0).B, 0, none⟩ = some (.int .i64 (0 : Nat)) ∧ w'.cell? ⟨(L 0).mb, 0, none⟩ = some (.slice (some ⟨b, off, none⟩) N cc))
    (first | exact ⟨x6, x3, x0, x5⟩ | exact hS1 | go_keep)
    (first
      | (go_at_call 39; refine (K.out _).mono ?_; rintro e w4 ⟨rfl, A4, n4, c4, us4, l4, ba4, ss4, sb4, cg4⟩
         have hk4 : ∀ x y, x < w3.heap.size → x ≠ w.heap.size → w4.cell? ⟨x, y, none⟩ = w3.cell? ⟨x, y, none⟩ := fun x y h h' => World.cell?_of_block (cg4.block x h h')
         have hS1 := And.intro ((hk4 (w.heap.size + 1) 0 (by omega) (by omega)).trans x6) (And.intro ((hk4 (L 0).B 3 (by omega) (by omega)).trans x3) (And.intro ((hk4 (L 0).B 0 (by omega) (by omega)).trans x0) ((hk4 (L 0).mb 0 (by omega) (by omega)).trans x5)))))
  have z1 : w4.cell? ⟨w.heap.size, 0, none⟩ = some (.slice A4 n4 c4) := ba4.cell 0
  have S4 := Lib.hid ss4
  have Sb := Lib.hid sb4
  have B4 : Hid (Below w.heap.size w w4) := Lib.hid (B3.out.trans (cg4.below (B := w.heap.size) (fun k e => by omega) (by omega)))
  clear ba4 ss4 sb4 cg4 x6 x3 x0 x5 hS1
  go_wp2_with fail
  go_ret
  exact ⟨_, _, _, _, _, rfl, S4.out, Sb.out, B4.out⟩

set_option maxHeartbeats 4000000 in
set_option maxRecDepth 100000 in
/-- Members; nil where there are none. -/
theorem implMembersN (a : Int) (A : Option Addr) (n c : Nat) (vs : List SV) (xss : List (List Int)) (w : World) (g : GIn w A n vs xss) :
    Calls Try.prog 8 #[.int .i64 a, .slice A n c] w fun e w' => ∃ A' m c' us l, e = .returned (.slice A' m c') ∧ SS w' w.heap.size w.heap.size A' m c' us l ∧ IsMbs a xss l ∧ (l = [] → A' = none) ∧ Below w.heap.size w w' := by
  have HX := Lib.hid g.rr
  have hlx : Hid (xss.length = n) := Lib.hid g.rr.lx
  have hn := g.hn
  have hl := Lib.hid g.hl
  clear g
  go_enter Try.func8, Try.ntmps8
  go_wp2_with fail
  refine (implGS a A n c vs xss w HX.out hn hl).mono ?_
  rintro e w1 ⟨rfl, b1⟩
  have B1 := Lib.hid b1
  have X1 := Lib.hid (HX.out.up b1)
  clear b1
  rcases hs : gB a xss with _ | _
  · have Fin : Hid (IsMbs a xss []) := Lib.hid (.inr ⟨fun h => (by have := h.1; rw [hs] at this; cases this), rfl⟩)
    clear hs
    go_wp2_with fail
    go_ret
    exact ⟨_, _, _, _, _, rfl, SS.nil_, Fin.out, fun _ => rfl, B1.out⟩
  · obtain ⟨N, rfl, hN1, hN2, hg8, hpm, hok⟩ := gB_pm hs
    have Hs := Lib.hid hs
    have Ok : Hid (∀ g ∈ xss, Pn N g) := Lib.hid hok
    have hn8 : n ≤ 8 := by rw [← hlx.out]; exact hg8
    clear hs hpm hok hg8
    go_wp2_with fail
    refine (implChainOf N n c A vs xss w1 X1.out hN1 hN2 hn8 Ok).mono ?_
    rintro e w2 ⟨ch, L, M, rfl, hc, ho, hw, b2⟩
    have W2 := Lib.hid hw
    have C2 := Lib.hid hc
    have O2 := Lib.hid ho
    have B2 : Hid (Below w.heap.size w w2) := Lib.hid (btr B1.out b2)
    obtain ⟨V, hV, eV, hVb⟩ := (hw.os hN1 hN2).ordB Ok.out hN1 hN2
    have eV' : pr (osL N ch N) 0 N = (V : Int) := by rw [prodL_pr, osL_len] at eV; exact eV
    have HV := Lib.hid hV
    have EV := Lib.hid eV'
    have K := implOrder w1.heap.size N 0 0 M ch L xss w2 hc ho W2 (Nat.le_refl _) (Nat.zero_le _) hN1 hN2 Ok
    rw [ptr_at (by omega), Nat.sub_zero, eV'] at K
    clear hc ho hw b2 hV eV eV'
    by_cases hV3 : V ≤ 3000
    · have d0 : decide ((3000 : Int) < (V : Int)) = false := by simp; omega
      have Few0 : Hid (Few (N : Int) xss) := Lib.hid ⟨Hs.out, V, by rw [Int.toNat_natCast]; exact HV.out, hV3⟩
      go_wp2_with fail
      refine K.mono ?_
      rintro e w' ⟨rfl, rfl⟩
      clear K
      go_wp2_with fail
      refine (implMembersC w1.heap.size N V xss M ch L w2 C2.out O2.out W2 hN1 hN2 Ok EV hV3).mono ?_
      rintro e w4 ⟨A4, n4, c4, us4, l4, rfl, s4, sb4, b4⟩
      have S4 : Hid (SS w4 w.heap.size w.heap.size A4 n4 c4 us4 l4) := Lib.hid (s4.mono B2.out.size B2.out.size)
      have Fin : Hid (IsMbs (N : Int) xss l4) := Lib.hid (.inl ⟨Few0.out, by rw [Int.toNat_natCast]; exact sb4.srt, fun p => by rw [Int.toNat_natCast, sb4.mem]; exact ⟨fun h => h.1, fun h => ⟨h, fun t ht => absurd ht (Nat.not_lt_zero _)⟩⟩⟩)
      have Ne : Hid (l4 ≠ []) := Lib.hid fun e => by
        have := (sb4.mem (idL N)).2 ⟨.one, fun t ht => absurd ht (Nat.not_lt_zero _)⟩
        rw [e] at this; cases this
      have B4 : Hid (Below w.heap.size w w4) := Lib.hid (btr B2.out b4)
      clear s4 sb4 b4
      go_wp2_with fail
      go_ret
      exact ⟨_, _, _, _, _, rfl, S4.out, Fin.out, fun e => absurd e Ne.out, B4.out⟩
    · have d0 : decide ((3000 : Int) < (V : Int)) = true := by simp; omega
      have Fin : Hid (IsMbs (N : Int) xss []) := Lib.hid (.inr ⟨fun ⟨_, V', h, h'⟩ => (by rw [Int.toNat_natCast] at h; have := h.uniq HV.out; omega), rfl⟩)
      go_wp2_with fail
      refine K.mono ?_
      rintro e w' ⟨rfl, rfl⟩
      clear K
      go_wp2_with fail
      go_ret
      exact ⟨_, _, _, _, _, rfl, SS.nil_, Fin.out, fun _ => rfl, B2.out⟩
/-- Members. -/
theorem implMembers : CtImM 8 IsMbs := fun a A n c vs xss w g _ =>
  (implMembersN a A n c vs xss w g).mono fun _ _ ⟨A', m, c', us, l, h0, h1, h2, _, h4⟩ => ⟨A', m, c', us, l, h0, h1, h2, h4⟩
end Go.Proofs.Ytbimhnifjnibjaa

/- The law FnChainOrder with the program's contracts put in. Conditions: none beyond those of the texts imported. -/
namespace Go.Proofs.Ytbimhnifjnibjaa
open Go.RowKit
theorem nmdChainOrderC (A : Option Addr) (cap len : Nat) (w : World) (hb : SB w w.heap.size A len) :
    Calls Try.prog 3 #[.slice A len cap] w fun e w' => e = .returned (.bool true) ∧ Below w.heap.size w w' :=
  lawChainOrder implGroupOrder implOrbitSizes implMembers implSameGroup A cap len w hb
end Go.Proofs.Ytbimhnifjnibjaa
