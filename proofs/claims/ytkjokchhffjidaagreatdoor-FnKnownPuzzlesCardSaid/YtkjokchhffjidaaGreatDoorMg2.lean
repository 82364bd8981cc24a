/- Part 2 of the texts: Shelf, Fmt, FmtI, SS, Ident, Comp, Inv, Supp, Cyc, All, Cycles. No condition of its own: each text tells its own. -/
import Derived.Test.YtkjokchhffjidaaGreatDoorMg1
import Derived.Shelf.Strings.Builder1
import Derived.Shelf.Strings.Builder2
import Derived.Shelf.Strings.OnBuilder
import Derived.Shelf.Small.Strs
import Derived.Shelf.Strings.BuilderF
import Derived.Shelf.Strings.BuilderK
import Derived.Shelf.Strconv.Itoa0
import Derived.Shelf.Strconv.Itoa1
import Derived.Shelf.LaysM
import Derived.Shelf.Strconv.Itoa2
import Derived.Shelf.Strconv.Itoa3
import Derived.Shelf.Strconv.Itoa4
import Derived.Shelf.Strings.Search1
import Derived.Shelf.Strings.Search2
import Derived.Shelf.Strings.Search3
import Derived.Shelf.Strings.Shaped
import Derived.Test.YtkjokchhffjidaaGreatDoorProg
import Derived.Deep.LoopGhost
set_option linter.unusedVariables false
set_option linter.unusedSimpArgs false

/-
  DERIVED: THE SHELF's CONTRACTS AT THIS DUMP, IN PLAIN WORDS (tools/lay-plain.mjs out of 'TryzShelf.lean', which tools/lay-shelf.mjs wrote): THE SAME DECLARATIONS UNDER THE SAME NAMES: 'import', 'namespace', 'open', 'def', 'theorem' AND NOTHING ELSE: no command of the shelf's: FOR A HAND-IN. Each laying: the table of numbers ('.._ren') and one theorem, a field a fact of the dump's own or the kernel's comparison; each contract: ONE APPLICATION.
-/
namespace Go.Proofs
open Go.Shelf
def Tryz.lays169_ren : Go.Shelf.Ren := ⟨fun | 169 => 72 | n => n, fun | 70 => 91 | 9 => 9 | 0 => 0 | 72 => 93 | 37 => 22 | 127 => 105 | 3 => 3 | 5 => 5 | n => n, fun | n => n⟩
theorem Tryz.lays169 : Go.Proofs.Lays.n169 Tryz.prog Tryz.lays169_ren := {
  mixed := by kernel_rfl
  f169 := Tryz.func72.trans (congrArg some (by kernel_rfl))
  t0 := Tryz.underlying0
  a0 := Tryz.isAgg0
  z0 := Tryz.sizeOf0
  v0 := Tryz.zeroValue0
  t3 := Tryz.underlying3
  a3 := Tryz.isAgg3
  z3 := Tryz.sizeOf3
  v3 := Tryz.zeroValue3
  t9 := Tryz.underlying9
  a9 := Tryz.isAgg9
  z9 := Tryz.sizeOf9
  v9 := Tryz.zeroValue9
  t37 := Tryz.underlying22
  a37 := Tryz.isAgg22
  z37 := Tryz.sizeOf22
  v37 := Tryz.zeroValue22
  t70 := Tryz.underlying91
  a70 := Tryz.isAgg91
  z70 := Tryz.sizeOf91
  v70 := Tryz.zeroValue91
  t72 := Tryz.underlying93
  a72 := Tryz.isAgg93
  z72 := Tryz.sizeOf93
  v72 := Tryz.zeroValue93
  t127 := Tryz.underlying105
  a127 := Tryz.isAgg105
  z127 := Tryz.sizeOf105
  v127 := Tryz.zeroValue105 }
theorem Tryz.Builder_Extra_169 : Builder.Extra Tryz.prog Tryz.lays169_ren := {
  sizeBuilder := by kernel_rfl
  liesBuilder := by kernel_rfl
  t5 := Tryz.underlying5
  a5 := Tryz.isAgg5
  z5 := Tryz.sizeOf5
  v5 := Tryz.zeroValue5
  infoByte := by kernel_rfl
  cellsByte := by kernel_rfl
  sizeByte := by kernel_rfl
  neB5 := by decide }
open Go.RowKit in
/-- (*strings.Builder).String: "String returns the accumulated string.": OF A BUILDER THAT HOLDS AT LEAST ONE BYTE. ✋ THE MODEL FREEZES THOSE BYTES IN THE BUFFER (unsafe.String): a later write INTO them ends the model's run without an answer; a later append BEHIND them goes on. The statement's order of evaluation is drawn: one draw. (LAID: no walk: one application.) -/
theorem Tryz.Builder_String (B b : Nat) (l : List UInt8) (w : World) (h : Lib.IsBuilder 93 5 B b (Lib.byteCells l) w) (h0 : l ≠ []) :
    Calls Tryz.prog 72 #[.pointer (some ⟨b, 0, none⟩)] w fun e w' => e = .returned (.string ⟨l.toArray⟩) ∧ Below B w w' := Any.Builder_String Tryz.lays169 Tryz.Builder_Extra_169 B b l w h h0
open Go.RowKit in
/-- (*strings.Builder).String OF A BUILDER THAT HOLDS NO BYTE: the empty string. (Its buffer is nil, or a row of which it has taken nothing yet; where that row has NO capacity the model lays one new block for unsafe.SliceData's 'some address'.) One draw. (LAID: no walk: one application.) -/
theorem Tryz.Builder_String_empty (B b : Nat) (w : World) (h : Lib.IsBuilder 93 5 B b [] w) (hBw : B ≤ w.heap.size) :
    Calls Tryz.prog 72 #[.pointer (some ⟨b, 0, none⟩)] w fun e w' => e = .returned (.string ⟨#[]⟩) ∧ Below B w w' := Any.Builder_String_empty Tryz.lays169 Tryz.Builder_Extra_169 B b w h hBw
open Go.RowKit in
/-- (*strings.Builder).String: "String returns the accumulated string.": WHATEVER THE BUILDER HOLDS. (LAID: no walk: one application.) -/
theorem Tryz.Builder_String_any (B b : Nat) (l : List UInt8) (w : World) (h : Lib.IsBuilder 93 5 B b (Lib.byteCells l) w) (hBw : B ≤ w.heap.size) :
    Calls Tryz.prog 72 #[.pointer (some ⟨b, 0, none⟩)] w fun e w' => e = .returned (.string ⟨l.toArray⟩) ∧ Below B w w' := Any.Builder_String_any Tryz.lays169 Tryz.Builder_Extra_169 B b l w h hBw
def Tryz.lays241_ren : Go.Shelf.Ren := ⟨fun | 241 => 97 | 277 => 103 | n => n, fun | 70 => 91 | 3 => 3 | 0 => 0 | 72 => 93 | 37 => 22 | 5 => 5 | n => n, fun | n => n⟩
theorem Tryz.lays241 : Go.Proofs.Lays.n241 Tryz.prog Tryz.lays241_ren := {
  mixed := by kernel_rfl
  f241 := Tryz.func97.trans (congrArg some (by kernel_rfl))
  f277 := Tryz.func103.trans (congrArg some (by kernel_rfl))
  t0 := Tryz.underlying0
  a0 := Tryz.isAgg0
  z0 := Tryz.sizeOf0
  v0 := Tryz.zeroValue0
  t3 := Tryz.underlying3
  a3 := Tryz.isAgg3
  z3 := Tryz.sizeOf3
  v3 := Tryz.zeroValue3
  t37 := Tryz.underlying22
  a37 := Tryz.isAgg22
  z37 := Tryz.sizeOf22
  v37 := Tryz.zeroValue22
  t70 := Tryz.underlying91
  a70 := Tryz.isAgg91
  z70 := Tryz.sizeOf91
  v70 := Tryz.zeroValue91
  t72 := Tryz.underlying93
  a72 := Tryz.isAgg93
  z72 := Tryz.sizeOf93
  v72 := Tryz.zeroValue93 }
theorem Tryz.Builder_Extra_241 : Builder.Extra Tryz.prog Tryz.lays241_ren := {
  sizeBuilder := by kernel_rfl
  liesBuilder := by kernel_rfl
  t5 := Tryz.underlying5
  a5 := Tryz.isAgg5
  z5 := Tryz.sizeOf5
  v5 := Tryz.zeroValue5
  infoByte := by kernel_rfl
  cellsByte := by kernel_rfl
  sizeByte := by kernel_rfl
  neB5 := by decide }
open Go.RowKit in
/-- (*strings.Builder).grow (no doc but "grow copies the buffer to a new, larger buffer so that there are at least n bytes of capacity beyond len(b.buf)."): AT A BUILDER WITHOUT A BUFFER: a new row of whatever bytes for its buffer, none of them its own yet. Three draws. (LAID: no walk: one application.) -/
theorem Tryz.Builder_grow_fresh (B b n : Nat) (w : World) (hB : B ≤ b) (hbk : w.heap[b]? = some (.cells #[.pointer (some ⟨b, 0, none⟩), .slice none 0 0] 93 (0, 0))) (hBw : B ≤ w.heap.size) (hn : n ≤ 281474976710656) :
    Calls Tryz.prog 97 #[.pointer (some ⟨b, 0, none⟩), .int .i64 n] w fun e w' => e = .returned (.tuple #[]) ∧ (Lib.BuilderAt 93 5 B b (.pointer (some ⟨b, 0, none⟩)) [] w' ∧ Below B w w') := Any.Builder_grow_fresh Tryz.lays241 Tryz.Builder_Extra_241 B b n w hB hbk hBw hn
def Tryz.lays165_ren : Go.Shelf.Ren := ⟨fun | 165 => 92 | 240 => 79 | 241 => 97 | 276 => 90 | 277 => 103 | n => n, fun | 70 => 91 | 3 => 3 | 0 => 0 | 4 => 4 | 9 => 9 | 20 => 20 | 72 => 93 | 37 => 22 | 164 => 110 | 5 => 5 | n => n, fun | n => n⟩
theorem Tryz.lays165 : Go.Proofs.Lays.n165 Tryz.prog Tryz.lays165_ren := {
  mixed := by kernel_rfl
  f165 := Tryz.func92.trans (congrArg some (by kernel_rfl))
  f240 := Tryz.func79.trans (congrArg some (by kernel_rfl))
  f241 := Tryz.func97.trans (congrArg some (by kernel_rfl))
  f276 := Tryz.func90.trans (congrArg some (by kernel_rfl))
  f277 := Tryz.func103.trans (congrArg some (by kernel_rfl))
  t0 := Tryz.underlying0
  a0 := Tryz.isAgg0
  z0 := Tryz.sizeOf0
  v0 := Tryz.zeroValue0
  t3 := Tryz.underlying3
  a3 := Tryz.isAgg3
  z3 := Tryz.sizeOf3
  v3 := Tryz.zeroValue3
  t4 := Tryz.underlying4
  a4 := Tryz.isAgg4
  z4 := Tryz.sizeOf4
  v4 := Tryz.zeroValue4
  t9 := Tryz.underlying9
  a9 := Tryz.isAgg9
  z9 := Tryz.sizeOf9
  v9 := Tryz.zeroValue9
  t20 := Tryz.underlying20
  a20 := Tryz.isAgg20
  z20 := Tryz.sizeOf20
  v20 := Tryz.zeroValue20
  t37 := Tryz.underlying22
  a37 := Tryz.isAgg22
  z37 := Tryz.sizeOf22
  v37 := Tryz.zeroValue22
  t70 := Tryz.underlying91
  a70 := Tryz.isAgg91
  z70 := Tryz.sizeOf91
  v70 := Tryz.zeroValue91
  t72 := Tryz.underlying93
  a72 := Tryz.isAgg93
  z72 := Tryz.sizeOf93
  v72 := Tryz.zeroValue93
  t164 := Tryz.underlying110
  a164 := Tryz.isAgg110
  z164 := Tryz.sizeOf110
  v164 := Tryz.zeroValue110 }
theorem Tryz.Builder_Extra_165 : Builder.Extra Tryz.prog Tryz.lays165_ren := {
  sizeBuilder := by kernel_rfl
  liesBuilder := by kernel_rfl
  t5 := Tryz.underlying5
  a5 := Tryz.isAgg5
  z5 := Tryz.sizeOf5
  v5 := Tryz.zeroValue5
  infoByte := by kernel_rfl
  cellsByte := by kernel_rfl
  sizeByte := by kernel_rfl
  neB5 := by decide }
open Go.RowKit in
/-- (*strings.Builder).Grow AT A BUILDER THAT HAS NOT BEEN WRITTEN ('var b strings.Builder; b.Grow(n)'): "Grow grows b's capacity, if necessary, to guarantee space for another n bytes.": it holds no byte behind it as before it. (LAID: no walk: one application.) -/
theorem Tryz.Builder_Grow_fresh (B b n : Nat) (w : World) (hB : B ≤ b) (hbk : w.heap[b]? = some (.cells #[.pointer none, .slice none 0 0] 93 (0, 0))) (hBw : B ≤ w.heap.size) (hn : n ≤ 281474976710656) :
    Calls Tryz.prog 92 #[.pointer (some ⟨b, 0, none⟩), .int .i64 n] w fun e w' => e = .returned (.tuple #[]) ∧ (Lib.BuilderAt 93 5 B b (.pointer (some ⟨b, 0, none⟩)) [] w' ∧ Below B w w') := Any.Builder_Grow_fresh Tryz.lays165 Tryz.Builder_Extra_165 B b n w hB hbk hBw hn
def Tryz.lays156_ren : Go.Shelf.Ren := ⟨fun | 156 => 81 | 165 => 92 | 166 => 70 | 169 => 72 | 240 => 79 | 241 => 97 | 276 => 90 | 277 => 103 | n => n, fun | 31 => 55 | 9 => 9 | 3 => 3 | 4 => 4 | 0 => 0 | 20 => 20 | 72 => 93 | 76 => 96 | 70 => 91 | 37 => 22 | 75 => 95 | 127 => 105 | 164 => 110 | 5 => 5 | 80 => 98 | n => n, fun | n => n⟩
theorem Tryz.lays156 : Go.Proofs.Lays.n156 Tryz.prog Tryz.lays156_ren := {
  mixed := by kernel_rfl
  f156 := Tryz.func81.trans (congrArg some (by kernel_rfl))
  f165 := Tryz.func92.trans (congrArg some (by kernel_rfl))
  f166 := Tryz.func70.trans (congrArg some (by kernel_rfl))
  f169 := Tryz.func72.trans (congrArg some (by kernel_rfl))
  f240 := Tryz.func79.trans (congrArg some (by kernel_rfl))
  f241 := Tryz.func97.trans (congrArg some (by kernel_rfl))
  f276 := Tryz.func90.trans (congrArg some (by kernel_rfl))
  f277 := Tryz.func103.trans (congrArg some (by kernel_rfl))
  t0 := Tryz.underlying0
  a0 := Tryz.isAgg0
  z0 := Tryz.sizeOf0
  v0 := Tryz.zeroValue0
  t3 := Tryz.underlying3
  a3 := Tryz.isAgg3
  z3 := Tryz.sizeOf3
  v3 := Tryz.zeroValue3
  t4 := Tryz.underlying4
  a4 := Tryz.isAgg4
  z4 := Tryz.sizeOf4
  v4 := Tryz.zeroValue4
  t9 := Tryz.underlying9
  a9 := Tryz.isAgg9
  z9 := Tryz.sizeOf9
  v9 := Tryz.zeroValue9
  t20 := Tryz.underlying20
  a20 := Tryz.isAgg20
  z20 := Tryz.sizeOf20
  v20 := Tryz.zeroValue20
  t31 := Tryz.underlying55
  a31 := Tryz.isAgg55
  z31 := Tryz.sizeOf55
  v31 := Tryz.zeroValue55
  t37 := Tryz.underlying22
  a37 := Tryz.isAgg22
  z37 := Tryz.sizeOf22
  v37 := Tryz.zeroValue22
  t70 := Tryz.underlying91
  a70 := Tryz.isAgg91
  z70 := Tryz.sizeOf91
  v70 := Tryz.zeroValue91
  t72 := Tryz.underlying93
  a72 := Tryz.isAgg93
  z72 := Tryz.sizeOf93
  v72 := Tryz.zeroValue93
  t75 := Tryz.underlying95
  a75 := Tryz.isAgg95
  z75 := Tryz.sizeOf95
  v75 := Tryz.zeroValue95
  t76 := Tryz.underlying96
  a76 := Tryz.isAgg96
  z76 := Tryz.sizeOf96
  v76 := Tryz.zeroValue96
  t127 := Tryz.underlying105
  a127 := Tryz.isAgg105
  z127 := Tryz.sizeOf105
  v127 := Tryz.zeroValue105
  t164 := Tryz.underlying110
  a164 := Tryz.isAgg110
  z164 := Tryz.sizeOf110
  v164 := Tryz.zeroValue110 }
theorem Tryz.Builder_Extra_156 : Builder.Extra Tryz.prog Tryz.lays156_ren := {
  sizeBuilder := by kernel_rfl
  liesBuilder := by kernel_rfl
  t5 := Tryz.underlying5
  a5 := Tryz.isAgg5
  z5 := Tryz.sizeOf5
  v5 := Tryz.zeroValue5
  infoByte := by kernel_rfl
  cellsByte := by kernel_rfl
  sizeByte := by kernel_rfl
  neB5 := by decide }
open Go.RowKit in
/-- No element: the empty string; the world is as it was. (Whatever the slice's address and capacity: a nil slice too.) (LAID: no walk: one application.) -/
theorem Tryz.strings_Join_none (a : Option Addr) (c : Nat) (sep : ByteArray) (w : World) :
    Calls Tryz.prog 81 #[.slice a 0 c, .string sep] w fun e w' => e = .returned (.string ⟨#[]⟩) ∧ w' = w := Any.strings_Join_none Tryz.lays156 Tryz.Builder_Extra_156 a c sep w
open Go.RowKit in
/-- strings.Join: "Join concatenates the elements of its first argument to create a single string. The separator string sep is placed between elements in the resulting string.": HOWEVER MANY ELEMENTS. Below the heap's end the world is as it was. (LAID: no walk: one application.) -/
theorem Tryz.strings_Join (bk o c : Nat) (xs : List ByteArray) (sep : ByteArray) (w : World) (hcells : ∀ (j : Nat) x, xs[j]? = some x → w.cell? ⟨bk, o + j, none⟩ = some (.string x)) (hbk : bk < w.heap.size) (hN : xs.length ≤ 140737488355328) (hcap : xs.length ≤ c) (hlen : (Lib.join (xs.map (·.data.toList)) sep.data.toList).length ≤ 140737488355328) :
    Calls Tryz.prog 81 #[.slice (some ⟨bk, o, none⟩) xs.length c, .string sep] w fun e w' => e = .returned (.string ⟨(Lib.join (xs.map (·.data.toList)) sep.data.toList).toArray⟩) ∧ Below w.heap.size w w' := Any.strings_Join Tryz.lays156 Tryz.Builder_Extra_156 bk o c xs sep w hcells hbk hN hcap hlen
def Tryz.lays137_ren : Go.Shelf.Ren := ⟨fun | 137 => 34 | 217 => 47 | 266 => 62 | n => n, fun | 9 => 9 | 5 => 5 | 3 => 3 | n => n, fun | n => n⟩
theorem Tryz.lays137 : Go.Proofs.Lays.n137 Tryz.prog Tryz.lays137_ren := {
  mixed := by kernel_rfl
  f137 := Tryz.func34.trans (congrArg some (by kernel_rfl))
  f217 := Tryz.func47.trans (congrArg some (by kernel_rfl))
  f266 := Tryz.func62.trans (congrArg some (by kernel_rfl))
  t3 := Tryz.underlying3
  a3 := Tryz.isAgg3
  z3 := Tryz.sizeOf3
  v3 := Tryz.zeroValue3
  t5 := Tryz.underlying5
  a5 := Tryz.isAgg5
  z5 := Tryz.sizeOf5
  v5 := Tryz.zeroValue5
  t9 := Tryz.underlying9
  a9 := Tryz.isAgg9
  z9 := Tryz.sizeOf9
  v9 := Tryz.zeroValue9 }
open Go.RowKit in
/-- strings.IndexByte: "IndexByte returns the index of the first instance of c in s, or -1 if c is not present in s.": IT RETURNS 'Lib.indexByte s c'; the world is as it was. (LAID: no walk: one application.) -/
theorem Tryz.strings_IndexByte (s : ByteArray) (c : Int) (w : World) :
    Calls Tryz.prog 34 #[.string s, .int .u8 c] w fun e w' => e = .returned (.int .i64 (Lib.indexByte s.data.toList c.toNat.toUInt8)) ∧ w' = w := Any.strings_IndexByte Tryz.lays137 s c w
open Go.RowKit in
/-- (*strings.Builder).String: "String returns the accumulated string.": OF A BUILDER THAT HOLDS AT LEAST ONE BYTE. ✋ THE MODEL FREEZES THOSE BYTES IN THE BUFFER (unsafe.String): a later write INTO them ends the model's run without an answer; a later append BEHIND them goes on. The statement's order of evaluation is drawn: one draw. THE FORM '_f': IT SAYS BESIDES THAT THE BUILDER IS A BUILDER STILL ('Lib.IsBuilderF', the same bytes): SO IT CAN BE WRITTEN ON: 'b.WriteString(b.String()[:k])'. (LAID: no walk: one application.) -/
theorem Tryz.Builder_String_f (B b : Nat) (l : List UInt8) (w : World) (h : Lib.IsBuilderF 93 5 B b (Lib.byteCells l) w) (h0 : l ≠ []) :
    Calls Tryz.prog 72 #[.pointer (some ⟨b, 0, none⟩)] w fun e w' => e = .returned (.string ⟨l.toArray⟩) ∧ (Lib.IsBuilderF 93 5 B b (Lib.byteCells l) w' ∧ Below B w w') := Any.Builder_String_f Tryz.lays169 Tryz.Builder_Extra_169 B b l w h h0
open Go.RowKit in
/-- (*strings.Builder).String OF A BUILDER THAT HOLDS NO BYTE: the empty string; THE FORM '_f': a builder still. (LAID: no walk: one application.) -/
theorem Tryz.Builder_String_empty_f (B b : Nat) (w : World) (h : Lib.IsBuilderF 93 5 B b [] w) (hBw : B ≤ w.heap.size) :
    Calls Tryz.prog 72 #[.pointer (some ⟨b, 0, none⟩)] w fun e w' => e = .returned (.string ⟨#[]⟩) ∧ (Lib.IsBuilderF 93 5 B b [] w' ∧ Below B w w') := Any.Builder_String_empty_f Tryz.lays169 Tryz.Builder_Extra_169 B b w h hBw
open Go.RowKit in
/-- (*strings.Builder).String: "String returns the accumulated string.": WHATEVER THE BUILDER HOLDS; THE FORM '_f': OF A BUILDER THAT MAY HAVE BEEN READ BEFORE; AND IT IS A BUILDER STILL, holding the same bytes: it can be written on. (LAID: no walk: one application.) -/
theorem Tryz.Builder_String_any_f (B b : Nat) (l : List UInt8) (w : World) (h : Lib.IsBuilderF 93 5 B b (Lib.byteCells l) w) (hBw : B ≤ w.heap.size) :
    Calls Tryz.prog 72 #[.pointer (some ⟨b, 0, none⟩)] w fun e w' => e = .returned (.string ⟨l.toArray⟩) ∧ (Lib.IsBuilderF 93 5 B b (Lib.byteCells l) w' ∧ Below B w w') := Any.Builder_String_any_f Tryz.lays169 Tryz.Builder_Extra_169 B b l w h hBw
open Go.RowKit in
/-- (*strings.Builder).String: "String returns the accumulated string.": OF A BUILDER THAT HOLDS AT LEAST ONE BYTE. ✋ THE MODEL FREEZES THOSE BYTES IN THE BUFFER (unsafe.String): a later write INTO them ends the model's run without an answer; a later append BEHIND them goes on. The statement's order of evaluation is drawn: one draw. THE FORM '_k': OVER 'Lib.IsBuilderF' (a builder that 'String()' may have read), AND WITH THE FRAME THAT REACHES ABOVE THE BUILDER: 'Lib.OthersKept': every block that is not b and is no row of uint8's stands as it stood: the iterator of a range among them. (LAID: no walk: one application.) -/
theorem Tryz.Builder_String_k (B b : Nat) (l : List UInt8) (w : World) (h : Lib.IsBuilderF 93 5 B b (Lib.byteCells l) w) (h0 : l ≠ []) :
    Calls Tryz.prog 72 #[.pointer (some ⟨b, 0, none⟩)] w fun e w' => e = .returned (.string ⟨l.toArray⟩) ∧ (Lib.IsBuilderF 93 5 B b (Lib.byteCells l) w' ∧ Below B w w' ∧ Lib.OthersKept 5 (some b) w w') := Any.Builder_String_k Tryz.lays169 Tryz.Builder_Extra_169 B b l w h h0
open Go.RowKit in
/-- (*strings.Builder).String OF A BUILDER THAT HOLDS NO BYTE: the empty string; THE FORM '_k': OVER 'Lib.IsBuilderF' (a builder that 'String()' may have read), AND WITH THE FRAME THAT REACHES ABOVE THE BUILDER: 'Lib.OthersKept': every block that is not b and is no row of uint8's stands as it stood: the iterator of a range among them. (LAID: no walk: one application.) -/
theorem Tryz.Builder_String_empty_k (B b : Nat) (w : World) (h : Lib.IsBuilderF 93 5 B b [] w) (hBw : B ≤ w.heap.size) :
    Calls Tryz.prog 72 #[.pointer (some ⟨b, 0, none⟩)] w fun e w' => e = .returned (.string ⟨#[]⟩) ∧ (Lib.IsBuilderF 93 5 B b [] w' ∧ Below B w w' ∧ Lib.OthersKept 5 (some b) w w') := Any.Builder_String_empty_k Tryz.lays169 Tryz.Builder_Extra_169 B b w h hBw
open Go.RowKit in
/-- (*strings.Builder).String: "String returns the accumulated string.": WHATEVER THE BUILDER HOLDS; THE FORM '_k': OVER 'Lib.IsBuilderF' (a builder that 'String()' may have read), AND WITH THE FRAME THAT REACHES ABOVE THE BUILDER: 'Lib.OthersKept': every block that is not b and is no row of uint8's stands as it stood: the iterator of a range among them. (LAID: no walk: one application.) -/
theorem Tryz.Builder_String_any_k (B b : Nat) (l : List UInt8) (w : World) (h : Lib.IsBuilderF 93 5 B b (Lib.byteCells l) w) (hBw : B ≤ w.heap.size) :
    Calls Tryz.prog 72 #[.pointer (some ⟨b, 0, none⟩)] w fun e w' => e = .returned (.string ⟨l.toArray⟩) ∧ (Lib.IsBuilderF 93 5 B b (Lib.byteCells l) w' ∧ Below B w w' ∧ Lib.OthersKept 5 (some b) w w') := Any.Builder_String_any_k Tryz.lays169 Tryz.Builder_Extra_169 B b l w h hBw
def Tryz.lays129_ren : Go.Shelf.Ren := ⟨fun | 129 => 99 | n => n, fun | 53 => 26 | 3 => 3 | 4 => 4 | 46 => 40 | 5 => 5 | 9 => 9 | n => n, fun | n => n⟩
theorem Tryz.lays129 : Go.Proofs.Lays.n129 Tryz.prog Tryz.lays129_ren := {
  mixed := by kernel_rfl
  f129 := Tryz.func99.trans (congrArg some (by kernel_rfl))
  t3 := Tryz.underlying3
  a3 := Tryz.isAgg3
  z3 := Tryz.sizeOf3
  v3 := Tryz.zeroValue3
  t4 := Tryz.underlying4
  a4 := Tryz.isAgg4
  z4 := Tryz.sizeOf4
  v4 := Tryz.zeroValue4
  t5 := Tryz.underlying5
  a5 := Tryz.isAgg5
  z5 := Tryz.sizeOf5
  v5 := Tryz.zeroValue5
  t9 := Tryz.underlying9
  a9 := Tryz.isAgg9
  z9 := Tryz.sizeOf9
  v9 := Tryz.zeroValue9
  t46 := Tryz.underlying40
  a46 := Tryz.isAgg40
  z46 := Tryz.sizeOf40
  v46 := Tryz.zeroValue40
  t53 := Tryz.underlying26
  a53 := Tryz.isAgg26
  z53 := Tryz.sizeOf26
  v53 := Tryz.zeroValue26 }
/-- bits.Len64: "Len64 returns the minimum number of bits required to represent x; the result is 0 for x == 0.": IT RETURNS 'Lib.bitLen x'; the world is as it was. ('h0', 'h1': x is a uint64.) (LAID: no walk: one application.) -/
theorem Tryz.bits_Len64 (x : Int) (w : World) (h0 : 0 ≤ x) (h1 : x ≤ 18446744073709551615) :
    Calls Tryz.prog 99 #[.int .u64 x] w fun e w' => e = .returned (.int .i64 (Lib.bitLen x.toNat)) ∧ w' = w := Any.bits_Len64 Tryz.lays129 x w h0 h1
def Tryz.lays317_ren : Go.Shelf.Ren := ⟨fun | 317 => 98 | n => n, fun | 3 => 3 | 46 => 40 | n => n, fun | n => n⟩
theorem Tryz.lays317 : Go.Proofs.Lays.n317 Tryz.prog Tryz.lays317_ren := {
  mixed := by kernel_rfl
  f317 := Tryz.func98.trans (congrArg some (by kernel_rfl))
  t3 := Tryz.underlying3
  a3 := Tryz.isAgg3
  z3 := Tryz.sizeOf3
  v3 := Tryz.zeroValue3
  t46 := Tryz.underlying40
  a46 := Tryz.isAgg40
  z46 := Tryz.sizeOf40
  v46 := Tryz.zeroValue40 }
open Go.Lib in
/-- internal/strconv.log10Pow2: "log10Pow2(x) returns ⌊log₁₀ 2**x⌋ = ⌊x * log₁₀ 2⌋.": '(x * 78913) >> 18', at an x up to 64 (a length in bits). The world is as it was. (LAID: no walk: one application.) -/
theorem Tryz.internal_strconv_log10Pow2 (x : Nat) (h : x ≤ 64) (w : World) :
    Calls Tryz.prog 98 #[.int .i64 x] w fun e w' => e = .returned (.int .i64 (Lib.l10 x)) ∧ w' = w := Any.internal_strconv_log10Pow2 Tryz.lays317 x h w
def Tryz.lays318_ren : Go.Shelf.Ren := ⟨fun | 318 => 100 | n => n, fun | 3 => 3 | 4 => 4 | n => n, fun | n => n⟩
theorem Tryz.lays318 : Go.Proofs.Lays.n318 Tryz.prog Tryz.lays318_ren := {
  mixed := by kernel_rfl
  f318 := Tryz.func100.trans (congrArg some (by kernel_rfl))
  t3 := Tryz.underlying3
  a3 := Tryz.isAgg3
  z3 := Tryz.sizeOf3
  v3 := Tryz.zeroValue3
  t4 := Tryz.underlying4
  a4 := Tryz.isAgg4
  z4 := Tryz.sizeOf4
  v4 := Tryz.zeroValue4 }
open Go.Lib in
/-- internal/strconv.bool2: "bool2 converts b to an integer: 1 for true, 0 for false." The world is as it was. (LAID: no walk: one application.) -/
theorem Tryz.internal_strconv_bool2_int (b : Bool) (w : World) :
    Calls Tryz.prog 100 #[.bool b] w fun e w' => e = .returned (.int .i64 (if b then 1 else 0)) ∧ w' = w := Any.internal_strconv_bool2_int Tryz.lays318 b w
def Tryz.lays283_ren : Go.Shelf.Ren := ⟨fun | 283 => 93 | n => n, fun | 3 => 3 | 9 => 9 | 4 => 4 | n => n, fun | n => n⟩
theorem Tryz.lays283 : Go.Proofs.Lays.n283 Tryz.prog Tryz.lays283_ren := {
  mixed := by kernel_rfl
  f283 := Tryz.func93.trans (congrArg some (by kernel_rfl))
  t3 := Tryz.underlying3
  a3 := Tryz.isAgg3
  z3 := Tryz.sizeOf3
  v3 := Tryz.zeroValue3
  t4 := Tryz.underlying4
  a4 := Tryz.isAgg4
  z4 := Tryz.sizeOf4
  v4 := Tryz.zeroValue4
  t9 := Tryz.underlying9
  a9 := Tryz.isAgg9
  z9 := Tryz.sizeOf9
  v9 := Tryz.zeroValue9 }
open Go.Lib in
/-- internal/strconv.small: "small returns the string for an i with 0 <= i < nSmalls.": i's decimal numeral. The world is as it was. (LAID: no walk: one application.) -/
theorem Tryz.internal_strconv_small (i : Nat) (h : i < 100) (w : World) :
    Calls Tryz.prog 93 #[.int .i64 i] w fun e w' => e = .returned (.string ⟨(Lib.decDigits i).toArray⟩) ∧ w' = w := Any.internal_strconv_small Tryz.lays283 i h w
def Tryz.laysM284_ren : Go.Shelf.Ren := ⟨fun | 284 => 94 | 129 => 99 | 317 => 98 | 318 => 100 | n => n, fun | 53 => 26 | 3 => 3 | 212 => 120 | 0 => 0 | 4 => 4 | 46 => 40 | 5 => 5 | 9 => 9 | n => n, fun | 17 => 1 | n => n⟩
theorem Tryz.laysM284 : Go.Proofs.LaysM.n284 Tryz.prog Tryz.laysM284_ren := {
  mixed := by kernel_rfl
  f129 := Tryz.func99.trans (congrArg some (by kernel_rfl))
  f284 := Tryz.func94.trans (congrArg some (by kernel_rfl))
  f317 := Tryz.func98.trans (congrArg some (by kernel_rfl))
  f318 := Tryz.func100.trans (congrArg some (by kernel_rfl))
  t0 := Tryz.underlying0
  a0 := Tryz.isAgg0
  z0 := Tryz.sizeOf0
  v0 := Tryz.zeroValue0
  t3 := Tryz.underlying3
  a3 := Tryz.isAgg3
  z3 := Tryz.sizeOf3
  v3 := Tryz.zeroValue3
  t4 := Tryz.underlying4
  a4 := Tryz.isAgg4
  z4 := Tryz.sizeOf4
  v4 := Tryz.zeroValue4
  t5 := Tryz.underlying5
  a5 := Tryz.isAgg5
  z5 := Tryz.sizeOf5
  v5 := Tryz.zeroValue5
  t9 := Tryz.underlying9
  a9 := Tryz.isAgg9
  z9 := Tryz.sizeOf9
  v9 := Tryz.zeroValue9
  t46 := Tryz.underlying40
  a46 := Tryz.isAgg40
  z46 := Tryz.sizeOf40
  v46 := Tryz.zeroValue40
  t53 := Tryz.underlying26
  a53 := Tryz.isAgg26
  z53 := Tryz.sizeOf26
  v53 := Tryz.zeroValue26
  t212 := Tryz.underlying120
  a212 := Tryz.isAgg120
  z212 := Tryz.sizeOf120
  v212 := Tryz.zeroValue120
  g17 := by kernel_rfl
  i0 := by kernel_rfl
  i3 := by kernel_rfl
  i4 := by kernel_rfl
  i5 := by kernel_rfl
  i9 := by kernel_rfl
  i46 := by kernel_rfl
  i53 := by kernel_rfl
  i212 := by kernel_rfl
  m17 := by kernel_rfl }
open Go.Lib in
/-- internal/strconv.numDigits, at a d that is not 0: THE NUMBER OF d's DECIMAL DIGITS. The world is as it was. (LAID: no walk: one application.) -/
theorem Tryz.internal_strconv_numDigits (u : Nat) (h1 : 1 ≤ u) (h2 : u < 18446744073709551616) (w : World) (htab : Lib.TabIs Tryz.prog w "internal/strconv.uint64pow10" .u64 Lib.pow10Tab) :
    Calls Tryz.prog 94 #[.int .u64 u] w fun e w' => e = .returned (.int .i64 (Lib.nDigits u)) ∧ w' = w := Any.internal_strconv_numDigits Tryz.laysM284 u h1 h2 w htab
def Tryz.lays285_ren : Go.Shelf.Ren := ⟨fun | 285 => 95 | n => n, fun | 37 => 22 | 53 => 26 | 3 => 3 | 4 => 4 | 51 => 84 | 9 => 9 | 5 => 5 | 0 => 0 | n => n, fun | n => n⟩
theorem Tryz.lays285 : Go.Proofs.Lays.n285 Tryz.prog Tryz.lays285_ren := {
  mixed := by kernel_rfl
  f285 := Tryz.func95.trans (congrArg some (by kernel_rfl))
  t0 := Tryz.underlying0
  a0 := Tryz.isAgg0
  z0 := Tryz.sizeOf0
  v0 := Tryz.zeroValue0
  t3 := Tryz.underlying3
  a3 := Tryz.isAgg3
  z3 := Tryz.sizeOf3
  v3 := Tryz.zeroValue3
  t4 := Tryz.underlying4
  a4 := Tryz.isAgg4
  z4 := Tryz.sizeOf4
  v4 := Tryz.zeroValue4
  t5 := Tryz.underlying5
  a5 := Tryz.isAgg5
  z5 := Tryz.sizeOf5
  v5 := Tryz.zeroValue5
  t9 := Tryz.underlying9
  a9 := Tryz.isAgg9
  z9 := Tryz.sizeOf9
  v9 := Tryz.zeroValue9
  t37 := Tryz.underlying22
  a37 := Tryz.isAgg22
  z37 := Tryz.sizeOf22
  v37 := Tryz.zeroValue22
  t51 := Tryz.underlying84
  a51 := Tryz.isAgg84
  z51 := Tryz.sizeOf84
  v51 := Tryz.zeroValue84
  t53 := Tryz.underlying26
  a53 := Tryz.isAgg26
  z53 := Tryz.sizeOf26
  v53 := Tryz.zeroValue26 }
open Go.RowKit Go.Sort Go.Lib in
/-- internal/strconv.formatBase10: "formatBase10 formats the decimal representation of u into a. The caller is responsible for ensuring that a is big enough to hold u. If a is too big, leading zeros will be filled in as needed.": THE ROW HOLDS u's DIGITS ('FmtInv .. 0 ..': every place t holds 'dg u (len - 1 - t)'); all else is as it was but for the count of draws. (LAID: no walk: one application.) -/
theorem Tryz.internal_strconv_formatBase10 (blk off cap : Nat) (u : Nat) (d : Array UInt8) (w : World) (hH : Holds (fun (b : UInt8) => Value.int .u8 (b.toNat : Int)) w blk off d) (hu : u < 10 ^ d.size) (hu64 : u < 18446744073709551616) (hsz : d.size < 4611686018427387904) :
    Calls Tryz.prog 95 #[.slice (some ⟨blk, off, none⟩) d.size cap, .int .u64 u] w fun e w' =>
      e = .returned (.tuple #[]) ∧ ∃ (n v' : Nat) (dk : Array UInt8), w' = (putRow (fun (b : UInt8) => Value.int .u8 (b.toNat : Int)) w blk off dk).drewN n ∧ FmtInv d.size u 0 v' dk := Any.internal_strconv_formatBase10 Tryz.lays285 blk off cap u d w hH hu hu64 hsz
def Tryz.laysM246_ren : Go.Shelf.Ren := ⟨fun | 246 => 91 | 283 => 93 | 284 => 94 | 285 => 95 | 286 => 96 | 129 => 99 | 317 => 98 | 318 => 100 | 319 => 101 | 320 => 102 | 337 => 104 | 338 => 105 | n => n, fun | 2 => 2 | 3 => 3 | 9 => 9 | 4 => 4 | 171 => 114 | 0 => 0 | 53 => 26 | 37 => 22 | 5 => 5 | 173 => 117 | 212 => 120 | 51 => 84 | 20 => 20 | 213 => 121 | 46 => 40 | 232 => 126 | 233 => 127 | n => n, fun | 17 => 1 | 18 => 2 | 19 => 3 | n => n⟩
theorem Tryz.laysM246 : Go.Proofs.LaysM.n246 Tryz.prog Tryz.laysM246_ren := {
  mixed := by kernel_rfl
  f129 := Tryz.func99.trans (congrArg some (by kernel_rfl))
  f246 := Tryz.func91.trans (congrArg some (by kernel_rfl))
  f283 := Tryz.func93.trans (congrArg some (by kernel_rfl))
  f284 := Tryz.func94.trans (congrArg some (by kernel_rfl))
  f285 := Tryz.func95.trans (congrArg some (by kernel_rfl))
  f286 := Tryz.func96.trans (congrArg some (by kernel_rfl))
  f317 := Tryz.func98.trans (congrArg some (by kernel_rfl))
  f318 := Tryz.func100.trans (congrArg some (by kernel_rfl))
  f319 := Tryz.func101.trans (congrArg some (by kernel_rfl))
  f320 := Tryz.func102.trans (congrArg some (by kernel_rfl))
  f337 := Tryz.func104.trans (congrArg some (by kernel_rfl))
  f338 := Tryz.func105.trans (congrArg some (by kernel_rfl))
  t0 := Tryz.underlying0
  a0 := Tryz.isAgg0
  z0 := Tryz.sizeOf0
  v0 := Tryz.zeroValue0
  t2 := Tryz.underlying2
  a2 := Tryz.isAgg2
  z2 := Tryz.sizeOf2
  v2 := Tryz.zeroValue2
  t3 := Tryz.underlying3
  a3 := Tryz.isAgg3
  z3 := Tryz.sizeOf3
  v3 := Tryz.zeroValue3
  t4 := Tryz.underlying4
  a4 := Tryz.isAgg4
  z4 := Tryz.sizeOf4
  v4 := Tryz.zeroValue4
  t5 := Tryz.underlying5
  a5 := Tryz.isAgg5
  z5 := Tryz.sizeOf5
  v5 := Tryz.zeroValue5
  t9 := Tryz.underlying9
  a9 := Tryz.isAgg9
  z9 := Tryz.sizeOf9
  v9 := Tryz.zeroValue9
  t20 := Tryz.underlying20
  a20 := Tryz.isAgg20
  z20 := Tryz.sizeOf20
  v20 := Tryz.zeroValue20
  t37 := Tryz.underlying22
  a37 := Tryz.isAgg22
  z37 := Tryz.sizeOf22
  v37 := Tryz.zeroValue22
  t46 := Tryz.underlying40
  a46 := Tryz.isAgg40
  z46 := Tryz.sizeOf40
  v46 := Tryz.zeroValue40
  t51 := Tryz.underlying84
  a51 := Tryz.isAgg84
  z51 := Tryz.sizeOf84
  v51 := Tryz.zeroValue84
  t53 := Tryz.underlying26
  a53 := Tryz.isAgg26
  z53 := Tryz.sizeOf26
  v53 := Tryz.zeroValue26
  t171 := Tryz.underlying114
  a171 := Tryz.isAgg114
  z171 := Tryz.sizeOf114
  v171 := Tryz.zeroValue114
  t173 := Tryz.underlying117
  a173 := Tryz.isAgg117
  z173 := Tryz.sizeOf117
  v173 := Tryz.zeroValue117
  t212 := Tryz.underlying120
  a212 := Tryz.isAgg120
  z212 := Tryz.sizeOf120
  v212 := Tryz.zeroValue120
  t213 := Tryz.underlying121
  a213 := Tryz.isAgg121
  z213 := Tryz.sizeOf121
  t232 := Tryz.underlying126
  a232 := Tryz.isAgg126
  z232 := Tryz.sizeOf126
  v232 := Tryz.zeroValue126
  t233 := Tryz.underlying127
  a233 := Tryz.isAgg127
  z233 := Tryz.sizeOf127
  v233 := Tryz.zeroValue127
  g17 := by kernel_rfl
  g18 := by kernel_rfl
  g19 := by kernel_rfl
  i0 := by kernel_rfl
  i2 := by kernel_rfl
  i3 := by kernel_rfl
  i4 := by kernel_rfl
  i5 := by kernel_rfl
  i9 := by kernel_rfl
  i20 := by kernel_rfl
  i37 := by kernel_rfl
  i46 := by kernel_rfl
  i51 := by kernel_rfl
  i53 := by kernel_rfl
  i171 := by kernel_rfl
  i173 := by kernel_rfl
  i212 := by kernel_rfl
  i232 := by kernel_rfl
  i233 := by kernel_rfl
  m17 := by kernel_rfl
  m18 := by kernel_rfl
  m19 := by kernel_rfl }
open Go.RowKit Go.Sort Go.Lib in
/-- internal/strconv.FormatInt: "FormatInt returns the string representation of i in the given base": AT BASE 10: i's decimal numeral, for every int64. The world behind the call: the world before it, new blocks behind the heap, draws. (LAID: no walk: one application.) -/
theorem Tryz.internal_strconv_FormatInt_10 (n : Int) (h0 : -9223372036854775808 ≤ n) (h1 : n ≤ 9223372036854775807) (w : World) (htab : Lib.TabIs Tryz.prog w "internal/strconv.uint64pow10" .u64 Lib.pow10Tab) :
    Calls Tryz.prog 91 #[.int .i64 n, .int .i64 10] w fun e w' => e = .returned (.string ⟨(Lib.itoa n).toArray⟩) ∧ ∃ k os, w' = grow (w.drewN k) os := Any.internal_strconv_FormatInt_10 Tryz.laysM246 n h0 h1 w htab
def Tryz.lays246_ren : Go.Shelf.Ren := ⟨fun | 246 => 91 | 283 => 93 | 284 => 94 | 285 => 95 | 286 => 96 | 129 => 99 | 317 => 98 | 318 => 100 | 319 => 101 | 320 => 102 | 337 => 104 | 338 => 105 | n => n, fun | 2 => 2 | 3 => 3 | 9 => 9 | 4 => 4 | 171 => 114 | 0 => 0 | 53 => 26 | 37 => 22 | 5 => 5 | 173 => 117 | 212 => 120 | 51 => 84 | 20 => 20 | 213 => 121 | 46 => 40 | 232 => 126 | 233 => 127 | n => n, fun | 17 => 1 | 18 => 2 | 19 => 3 | n => n⟩
theorem Tryz.lays246 : Go.Proofs.Lays.n246 Tryz.prog Tryz.lays246_ren := {
  mixed := by kernel_rfl
  f129 := Tryz.func99.trans (congrArg some (by kernel_rfl))
  f246 := Tryz.func91.trans (congrArg some (by kernel_rfl))
  f283 := Tryz.func93.trans (congrArg some (by kernel_rfl))
  f284 := Tryz.func94.trans (congrArg some (by kernel_rfl))
  f285 := Tryz.func95.trans (congrArg some (by kernel_rfl))
  f286 := Tryz.func96.trans (congrArg some (by kernel_rfl))
  f317 := Tryz.func98.trans (congrArg some (by kernel_rfl))
  f318 := Tryz.func100.trans (congrArg some (by kernel_rfl))
  f319 := Tryz.func101.trans (congrArg some (by kernel_rfl))
  f320 := Tryz.func102.trans (congrArg some (by kernel_rfl))
  f337 := Tryz.func104.trans (congrArg some (by kernel_rfl))
  f338 := Tryz.func105.trans (congrArg some (by kernel_rfl))
  t0 := Tryz.underlying0
  a0 := Tryz.isAgg0
  z0 := Tryz.sizeOf0
  v0 := Tryz.zeroValue0
  t2 := Tryz.underlying2
  a2 := Tryz.isAgg2
  z2 := Tryz.sizeOf2
  v2 := Tryz.zeroValue2
  t3 := Tryz.underlying3
  a3 := Tryz.isAgg3
  z3 := Tryz.sizeOf3
  v3 := Tryz.zeroValue3
  t4 := Tryz.underlying4
  a4 := Tryz.isAgg4
  z4 := Tryz.sizeOf4
  v4 := Tryz.zeroValue4
  t5 := Tryz.underlying5
  a5 := Tryz.isAgg5
  z5 := Tryz.sizeOf5
  v5 := Tryz.zeroValue5
  t9 := Tryz.underlying9
  a9 := Tryz.isAgg9
  z9 := Tryz.sizeOf9
  v9 := Tryz.zeroValue9
  t20 := Tryz.underlying20
  a20 := Tryz.isAgg20
  z20 := Tryz.sizeOf20
  v20 := Tryz.zeroValue20
  t37 := Tryz.underlying22
  a37 := Tryz.isAgg22
  z37 := Tryz.sizeOf22
  v37 := Tryz.zeroValue22
  t46 := Tryz.underlying40
  a46 := Tryz.isAgg40
  z46 := Tryz.sizeOf40
  v46 := Tryz.zeroValue40
  t51 := Tryz.underlying84
  a51 := Tryz.isAgg84
  z51 := Tryz.sizeOf84
  v51 := Tryz.zeroValue84
  t53 := Tryz.underlying26
  a53 := Tryz.isAgg26
  z53 := Tryz.sizeOf26
  v53 := Tryz.zeroValue26
  t171 := Tryz.underlying114
  a171 := Tryz.isAgg114
  z171 := Tryz.sizeOf114
  v171 := Tryz.zeroValue114
  t173 := Tryz.underlying117
  a173 := Tryz.isAgg117
  z173 := Tryz.sizeOf117
  v173 := Tryz.zeroValue117
  t212 := Tryz.underlying120
  a212 := Tryz.isAgg120
  z212 := Tryz.sizeOf120
  v212 := Tryz.zeroValue120
  t213 := Tryz.underlying121
  a213 := Tryz.isAgg121
  z213 := Tryz.sizeOf121
  t232 := Tryz.underlying126
  a232 := Tryz.isAgg126
  z232 := Tryz.sizeOf126
  v232 := Tryz.zeroValue126
  t233 := Tryz.underlying127
  a233 := Tryz.isAgg127
  z233 := Tryz.sizeOf127
  v233 := Tryz.zeroValue127
  g17 := by kernel_rfl
  g18 := by kernel_rfl
  g19 := by kernel_rfl }
open Go.RowKit Go.Sort Go.Lib in
/-- THE ROAD WITHOUT THE TABLE: 0 <= i < 100: two constants are read, nothing is laid: no premise on the world, and the world is as it was. (LAID: no walk: one application.) -/
theorem Tryz.internal_strconv_FormatInt_10_small (i : Nat) (hi : i < 100) (w : World) :
    Calls Tryz.prog 91 #[.int .i64 i, .int .i64 10] w fun e w' => e = .returned (.string ⟨(Lib.decDigits i).toArray⟩) ∧ w' = w := Any.internal_strconv_FormatInt_10_small Tryz.lays246 i hi w
def Tryz.laysM173_ren : Go.Shelf.Ren := ⟨fun | 173 => 80 | 246 => 91 | 283 => 93 | 284 => 94 | 285 => 95 | 286 => 96 | 129 => 99 | 317 => 98 | 318 => 100 | 319 => 101 | 320 => 102 | 337 => 104 | 338 => 105 | n => n, fun | 2 => 2 | 3 => 3 | 9 => 9 | 4 => 4 | 171 => 114 | 0 => 0 | 53 => 26 | 37 => 22 | 5 => 5 | 173 => 117 | 212 => 120 | 51 => 84 | 20 => 20 | 213 => 121 | 46 => 40 | 232 => 126 | 233 => 127 | n => n, fun | 17 => 1 | 18 => 2 | 19 => 3 | n => n⟩
theorem Tryz.laysM173 : Go.Proofs.LaysM.n173 Tryz.prog Tryz.laysM173_ren := {
  mixed := by kernel_rfl
  f129 := Tryz.func99.trans (congrArg some (by kernel_rfl))
  f173 := Tryz.func80.trans (congrArg some (by kernel_rfl))
  f246 := Tryz.func91.trans (congrArg some (by kernel_rfl))
  f283 := Tryz.func93.trans (congrArg some (by kernel_rfl))
  f284 := Tryz.func94.trans (congrArg some (by kernel_rfl))
  f285 := Tryz.func95.trans (congrArg some (by kernel_rfl))
  f286 := Tryz.func96.trans (congrArg some (by kernel_rfl))
  f317 := Tryz.func98.trans (congrArg some (by kernel_rfl))
  f318 := Tryz.func100.trans (congrArg some (by kernel_rfl))
  f319 := Tryz.func101.trans (congrArg some (by kernel_rfl))
  f320 := Tryz.func102.trans (congrArg some (by kernel_rfl))
  f337 := Tryz.func104.trans (congrArg some (by kernel_rfl))
  f338 := Tryz.func105.trans (congrArg some (by kernel_rfl))
  t0 := Tryz.underlying0
  a0 := Tryz.isAgg0
  z0 := Tryz.sizeOf0
  v0 := Tryz.zeroValue0
  t2 := Tryz.underlying2
  a2 := Tryz.isAgg2
  z2 := Tryz.sizeOf2
  v2 := Tryz.zeroValue2
  t3 := Tryz.underlying3
  a3 := Tryz.isAgg3
  z3 := Tryz.sizeOf3
  v3 := Tryz.zeroValue3
  t4 := Tryz.underlying4
  a4 := Tryz.isAgg4
  z4 := Tryz.sizeOf4
  v4 := Tryz.zeroValue4
  t5 := Tryz.underlying5
  a5 := Tryz.isAgg5
  z5 := Tryz.sizeOf5
  v5 := Tryz.zeroValue5
  t9 := Tryz.underlying9
  a9 := Tryz.isAgg9
  z9 := Tryz.sizeOf9
  v9 := Tryz.zeroValue9
  t20 := Tryz.underlying20
  a20 := Tryz.isAgg20
  z20 := Tryz.sizeOf20
  v20 := Tryz.zeroValue20
  t37 := Tryz.underlying22
  a37 := Tryz.isAgg22
  z37 := Tryz.sizeOf22
  v37 := Tryz.zeroValue22
  t46 := Tryz.underlying40
  a46 := Tryz.isAgg40
  z46 := Tryz.sizeOf40
  v46 := Tryz.zeroValue40
  t51 := Tryz.underlying84
  a51 := Tryz.isAgg84
  z51 := Tryz.sizeOf84
  v51 := Tryz.zeroValue84
  t53 := Tryz.underlying26
  a53 := Tryz.isAgg26
  z53 := Tryz.sizeOf26
  v53 := Tryz.zeroValue26
  t171 := Tryz.underlying114
  a171 := Tryz.isAgg114
  z171 := Tryz.sizeOf114
  v171 := Tryz.zeroValue114
  t173 := Tryz.underlying117
  a173 := Tryz.isAgg117
  z173 := Tryz.sizeOf117
  v173 := Tryz.zeroValue117
  t212 := Tryz.underlying120
  a212 := Tryz.isAgg120
  z212 := Tryz.sizeOf120
  v212 := Tryz.zeroValue120
  t213 := Tryz.underlying121
  a213 := Tryz.isAgg121
  z213 := Tryz.sizeOf121
  t232 := Tryz.underlying126
  a232 := Tryz.isAgg126
  z232 := Tryz.sizeOf126
  v232 := Tryz.zeroValue126
  t233 := Tryz.underlying127
  a233 := Tryz.isAgg127
  z233 := Tryz.sizeOf127
  v233 := Tryz.zeroValue127
  g17 := by kernel_rfl
  g18 := by kernel_rfl
  g19 := by kernel_rfl
  i0 := by kernel_rfl
  i2 := by kernel_rfl
  i3 := by kernel_rfl
  i4 := by kernel_rfl
  i5 := by kernel_rfl
  i9 := by kernel_rfl
  i20 := by kernel_rfl
  i37 := by kernel_rfl
  i46 := by kernel_rfl
  i51 := by kernel_rfl
  i53 := by kernel_rfl
  i171 := by kernel_rfl
  i173 := by kernel_rfl
  i212 := by kernel_rfl
  i232 := by kernel_rfl
  i233 := by kernel_rfl
  m17 := by kernel_rfl
  m18 := by kernel_rfl
  m19 := by kernel_rfl }
open Go.RowKit Go.Sort Go.Lib in
/-- strconv.FormatInt: "FormatInt returns the string representation of i in the given base": AT BASE 10: i's decimal numeral, for every int64. (LAID: no walk: one application.) -/
theorem Tryz.strconv_FormatInt_10 (n : Int) (h0 : -9223372036854775808 ≤ n) (h1 : n ≤ 9223372036854775807) (w : World) (htab : Lib.TabIs Tryz.prog w "internal/strconv.uint64pow10" .u64 Lib.pow10Tab) :
    Calls Tryz.prog 80 #[.int .i64 n, .int .i64 10] w fun e w' => e = .returned (.string ⟨(Lib.itoa n).toArray⟩) ∧ ∃ k os, w' = grow (w.drewN k) os := Any.strconv_FormatInt_10 Tryz.laysM173 n h0 h1 w htab
def Tryz.lays173_ren : Go.Shelf.Ren := ⟨fun | 173 => 80 | 246 => 91 | 283 => 93 | 284 => 94 | 285 => 95 | 286 => 96 | 129 => 99 | 317 => 98 | 318 => 100 | 319 => 101 | 320 => 102 | 337 => 104 | 338 => 105 | n => n, fun | 2 => 2 | 3 => 3 | 9 => 9 | 4 => 4 | 171 => 114 | 0 => 0 | 53 => 26 | 37 => 22 | 5 => 5 | 173 => 117 | 212 => 120 | 51 => 84 | 20 => 20 | 213 => 121 | 46 => 40 | 232 => 126 | 233 => 127 | n => n, fun | 17 => 1 | 18 => 2 | 19 => 3 | n => n⟩
theorem Tryz.lays173 : Go.Proofs.Lays.n173 Tryz.prog Tryz.lays173_ren := {
  mixed := by kernel_rfl
  f129 := Tryz.func99.trans (congrArg some (by kernel_rfl))
  f173 := Tryz.func80.trans (congrArg some (by kernel_rfl))
  f246 := Tryz.func91.trans (congrArg some (by kernel_rfl))
  f283 := Tryz.func93.trans (congrArg some (by kernel_rfl))
  f284 := Tryz.func94.trans (congrArg some (by kernel_rfl))
  f285 := Tryz.func95.trans (congrArg some (by kernel_rfl))
  f286 := Tryz.func96.trans (congrArg some (by kernel_rfl))
  f317 := Tryz.func98.trans (congrArg some (by kernel_rfl))
  f318 := Tryz.func100.trans (congrArg some (by kernel_rfl))
  f319 := Tryz.func101.trans (congrArg some (by kernel_rfl))
  f320 := Tryz.func102.trans (congrArg some (by kernel_rfl))
  f337 := Tryz.func104.trans (congrArg some (by kernel_rfl))
  f338 := Tryz.func105.trans (congrArg some (by kernel_rfl))
  t0 := Tryz.underlying0
  a0 := Tryz.isAgg0
  z0 := Tryz.sizeOf0
  v0 := Tryz.zeroValue0
  t2 := Tryz.underlying2
  a2 := Tryz.isAgg2
  z2 := Tryz.sizeOf2
  v2 := Tryz.zeroValue2
  t3 := Tryz.underlying3
  a3 := Tryz.isAgg3
  z3 := Tryz.sizeOf3
  v3 := Tryz.zeroValue3
  t4 := Tryz.underlying4
  a4 := Tryz.isAgg4
  z4 := Tryz.sizeOf4
  v4 := Tryz.zeroValue4
  t5 := Tryz.underlying5
  a5 := Tryz.isAgg5
  z5 := Tryz.sizeOf5
  v5 := Tryz.zeroValue5
  t9 := Tryz.underlying9
  a9 := Tryz.isAgg9
  z9 := Tryz.sizeOf9
  v9 := Tryz.zeroValue9
  t20 := Tryz.underlying20
  a20 := Tryz.isAgg20
  z20 := Tryz.sizeOf20
  v20 := Tryz.zeroValue20
  t37 := Tryz.underlying22
  a37 := Tryz.isAgg22
  z37 := Tryz.sizeOf22
  v37 := Tryz.zeroValue22
  t46 := Tryz.underlying40
  a46 := Tryz.isAgg40
  z46 := Tryz.sizeOf40
  v46 := Tryz.zeroValue40
  t51 := Tryz.underlying84
  a51 := Tryz.isAgg84
  z51 := Tryz.sizeOf84
  v51 := Tryz.zeroValue84
  t53 := Tryz.underlying26
  a53 := Tryz.isAgg26
  z53 := Tryz.sizeOf26
  v53 := Tryz.zeroValue26
  t171 := Tryz.underlying114
  a171 := Tryz.isAgg114
  z171 := Tryz.sizeOf114
  v171 := Tryz.zeroValue114
  t173 := Tryz.underlying117
  a173 := Tryz.isAgg117
  z173 := Tryz.sizeOf117
  v173 := Tryz.zeroValue117
  t212 := Tryz.underlying120
  a212 := Tryz.isAgg120
  z212 := Tryz.sizeOf120
  v212 := Tryz.zeroValue120
  t213 := Tryz.underlying121
  a213 := Tryz.isAgg121
  z213 := Tryz.sizeOf121
  t232 := Tryz.underlying126
  a232 := Tryz.isAgg126
  z232 := Tryz.sizeOf126
  v232 := Tryz.zeroValue126
  t233 := Tryz.underlying127
  a233 := Tryz.isAgg127
  z233 := Tryz.sizeOf127
  v233 := Tryz.zeroValue127
  g17 := by kernel_rfl
  g18 := by kernel_rfl
  g19 := by kernel_rfl }
open Go.RowKit Go.Sort Go.Lib in
/-- THE ROAD WITHOUT THE TABLE: 0 <= i < 100. (LAID: no walk: one application.) -/
theorem Tryz.strconv_FormatInt_10_small (i : Nat) (hi : i < 100) (w : World) :
    Calls Tryz.prog 80 #[.int .i64 i, .int .i64 10] w fun e w' => e = .returned (.string ⟨(Lib.decDigits i).toArray⟩) ∧ w' = w := Any.strconv_FormatInt_10_small Tryz.lays173 i hi w
def Tryz.lays217_ren : Go.Shelf.Ren := ⟨fun | 217 => 47 | 266 => 62 | n => n, fun | 9 => 9 | 5 => 5 | 3 => 3 | n => n, fun | n => n⟩
theorem Tryz.lays217 : Go.Proofs.Lays.n217 Tryz.prog Tryz.lays217_ren := {
  mixed := by kernel_rfl
  f217 := Tryz.func47.trans (congrArg some (by kernel_rfl))
  f266 := Tryz.func62.trans (congrArg some (by kernel_rfl))
  t3 := Tryz.underlying3
  a3 := Tryz.isAgg3
  z3 := Tryz.sizeOf3
  v3 := Tryz.zeroValue3
  t5 := Tryz.underlying5
  a5 := Tryz.isAgg5
  z5 := Tryz.sizeOf5
  v5 := Tryz.zeroValue5
  t9 := Tryz.underlying9
  a9 := Tryz.isAgg9
  z9 := Tryz.sizeOf9
  v9 := Tryz.zeroValue9 }
open Go.RowKit Go.Lib in
/-- internal/stringslite.IndexByte (what strings.IndexByte calls): IT RETURNS 'Lib.indexByte s c'; the world is as it was. (LAID: no walk: one application.) -/
theorem Tryz.stringslite_IndexByte (s : ByteArray) (c : Int) (w : World) :
    Calls Tryz.prog 47 #[.string s, .int .u8 c] w fun e w' => e = .returned (.int .i64 (Lib.indexByte s.data.toList c.toNat.toUInt8)) ∧ w' = w := Any.stringslite_IndexByte Tryz.lays217 s c w
def Tryz.lays224_ren : Go.Shelf.Ren := ⟨fun | 224 => 50 | n => n, fun | 3 => 3 | n => n, fun | n => n⟩
theorem Tryz.lays224 : Go.Proofs.Lays.n224 Tryz.prog Tryz.lays224_ren := {
  mixed := by kernel_rfl
  f224 := Tryz.func50.trans (congrArg some (by kernel_rfl))
  t3 := Tryz.underlying3
  a3 := Tryz.isAgg3
  z3 := Tryz.sizeOf3
  v3 := Tryz.zeroValue3 }
open Go.RowKit Go.Lib in
/-- internal/bytealg.Cutover: "Cutover reports the number of failures of IndexByte we should tolerate before switching over to Index. n is the number of bytes processed so far.": on amd64: (n + 16) / 8. (LAID: no walk: one application.) -/
theorem Tryz.bytealg_Cutover (n : Int) (h0 : 0 ≤ n) (h1 : n < 4611686018427387904) (w : World) :
    Calls Tryz.prog 50 #[.int .i64 n] w fun e w' => e = .returned (.int .i64 ((n + 16) / 8)) ∧ w' = w := Any.bytealg_Cutover Tryz.lays224 n h0 h1 w
def Tryz.lays314_ren : Go.Shelf.Ren := ⟨fun | 314 => 64 | n => n, fun | 9 => 9 | 51 => 84 | 3 => 3 | 4 => 4 | 5 => 5 | 46 => 40 | n => n, fun | n => n⟩
theorem Tryz.lays314 : Go.Proofs.Lays.n314 Tryz.prog Tryz.lays314_ren := {
  mixed := by kernel_rfl
  f314 := Tryz.func64.trans (congrArg some (by kernel_rfl))
  t3 := Tryz.underlying3
  a3 := Tryz.isAgg3
  z3 := Tryz.sizeOf3
  v3 := Tryz.zeroValue3
  t4 := Tryz.underlying4
  a4 := Tryz.isAgg4
  z4 := Tryz.sizeOf4
  v4 := Tryz.zeroValue4
  t5 := Tryz.underlying5
  a5 := Tryz.isAgg5
  z5 := Tryz.sizeOf5
  v5 := Tryz.zeroValue5
  t9 := Tryz.underlying9
  a9 := Tryz.isAgg9
  z9 := Tryz.sizeOf9
  v9 := Tryz.zeroValue9
  t46 := Tryz.underlying40
  a46 := Tryz.isAgg40
  z46 := Tryz.sizeOf40
  v46 := Tryz.zeroValue40
  t51 := Tryz.underlying84
  a51 := Tryz.isAgg84
  z51 := Tryz.sizeOf84
  v51 := Tryz.zeroValue84 }
open Go.RowKit Go.Lib in
/-- hashStr: "returns the hash and the appropriate multiplicative factor for use in Rabin-Karp algorithm": THE HASH OF ALL OF sep, AND 16777619 ^ len(sep), both in uint32. (LAID: no walk: one application.) -/
theorem Tryz.bytealg_hashStr (sep : ByteArray) (hs : sep.size < 4294967281) (w : World) :
    Calls Tryz.prog 64 #[.string sep] w fun e w' => e = .returned (.tuple #[.int .u32 (RK.H sep.data.toList % 4294967296), .int .u32 (16777619 ^ sep.size % 4294967296)]) ∧ w' = w := Any.bytealg_hashStr Tryz.lays314 sep hs w
def Tryz.lays267_ren : Go.Shelf.Ren := ⟨fun | 267 => 51 | 314 => 64 | n => n, fun | 9 => 9 | 3 => 3 | 146 => 85 | 51 => 84 | 4 => 4 | 5 => 5 | 46 => 40 | n => n, fun | n => n⟩
theorem Tryz.lays267 : Go.Proofs.Lays.n267 Tryz.prog Tryz.lays267_ren := {
  mixed := by kernel_rfl
  f267 := Tryz.func51.trans (congrArg some (by kernel_rfl))
  f314 := Tryz.func64.trans (congrArg some (by kernel_rfl))
  t3 := Tryz.underlying3
  a3 := Tryz.isAgg3
  z3 := Tryz.sizeOf3
  v3 := Tryz.zeroValue3
  t4 := Tryz.underlying4
  a4 := Tryz.isAgg4
  z4 := Tryz.sizeOf4
  v4 := Tryz.zeroValue4
  t5 := Tryz.underlying5
  a5 := Tryz.isAgg5
  z5 := Tryz.sizeOf5
  v5 := Tryz.zeroValue5
  t9 := Tryz.underlying9
  a9 := Tryz.isAgg9
  z9 := Tryz.sizeOf9
  v9 := Tryz.zeroValue9
  t46 := Tryz.underlying40
  a46 := Tryz.isAgg40
  z46 := Tryz.sizeOf40
  v46 := Tryz.zeroValue40
  t51 := Tryz.underlying84
  a51 := Tryz.isAgg84
  z51 := Tryz.sizeOf84
  v51 := Tryz.zeroValue84
  t146 := Tryz.underlying85
  a146 := Tryz.isAgg85
  z146 := Tryz.sizeOf85
  v146 := Tryz.zeroValue85 }
open Go.RowKit Go.Lib in
theorem Tryz.bytealg_IndexRabinKarp (s sep : ByteArray) (h1 : 1 ≤ sep.size) (h2 : sep.size ≤ s.size) (hs : s.size < 4294967281) (w : World) :
    Calls Tryz.prog 51 #[.string s, .string sep] w fun e w' => e = .returned (.int .i64 (Lib.index s.data.toList sep.data.toList)) ∧ w' = w := Any.bytealg_IndexRabinKarp Tryz.lays267 s sep h1 h2 hs w
def Tryz.lays219_ren : Go.Shelf.Ren := ⟨fun | 219 => 38 | 217 => 47 | 225 => 49 | 224 => 50 | 267 => 51 | 266 => 62 | 314 => 64 | n => n, fun | 9 => 9 | 3 => 3 | 4 => 4 | 5 => 5 | 46 => 40 | 146 => 85 | 51 => 84 | n => n, fun | 1 => 0 | n => n⟩
theorem Tryz.lays219 : Go.Proofs.Lays.n219 Tryz.prog Tryz.lays219_ren := {
  mixed := by kernel_rfl
  f217 := Tryz.func47.trans (congrArg some (by kernel_rfl))
  f219 := Tryz.func38.trans (congrArg some (by kernel_rfl))
  f224 := Tryz.func50.trans (congrArg some (by kernel_rfl))
  f225 := Tryz.func49.trans (congrArg some (by kernel_rfl))
  f266 := Tryz.func62.trans (congrArg some (by kernel_rfl))
  f267 := Tryz.func51.trans (congrArg some (by kernel_rfl))
  f314 := Tryz.func64.trans (congrArg some (by kernel_rfl))
  t3 := Tryz.underlying3
  a3 := Tryz.isAgg3
  z3 := Tryz.sizeOf3
  v3 := Tryz.zeroValue3
  t4 := Tryz.underlying4
  a4 := Tryz.isAgg4
  z4 := Tryz.sizeOf4
  v4 := Tryz.zeroValue4
  t5 := Tryz.underlying5
  a5 := Tryz.isAgg5
  z5 := Tryz.sizeOf5
  v5 := Tryz.zeroValue5
  t9 := Tryz.underlying9
  a9 := Tryz.isAgg9
  z9 := Tryz.sizeOf9
  v9 := Tryz.zeroValue9
  t46 := Tryz.underlying40
  a46 := Tryz.isAgg40
  z46 := Tryz.sizeOf40
  v46 := Tryz.zeroValue40
  t51 := Tryz.underlying84
  a51 := Tryz.isAgg84
  z51 := Tryz.sizeOf84
  v51 := Tryz.zeroValue84
  t146 := Tryz.underlying85
  a146 := Tryz.isAgg85
  z146 := Tryz.sizeOf85
  v146 := Tryz.zeroValue85
  g1 := by kernel_rfl }
open Go.RowKit Go.Lib in
/-- internal/stringslite.Index (what strings.Index calls) AT A substr OF ONE BYTE c: IT RETURNS 'Lib.indexByte s c'; the world is as it was. (LAID: no walk: one application.) -/
theorem Tryz.stringslite_Index_one (s : ByteArray) (c : UInt8) (w : World) :
    Calls Tryz.prog 38 #[.string s, .string ⟨#[c]⟩] w fun e w' => e = .returned (.int .i64 (Lib.indexByte s.data.toList c)) ∧ w' = w := Any.stringslite_Index_one Tryz.lays219 s c w
open Go.RowKit Go.Lib in
/-- internal/stringslite.Index (what strings.Index calls) AT A substr OF WHATEVER LENGTH: IT RETURNS 'Lib.index s substr'; the world is as it was. 'm': what internal/bytealg.MaxLen holds: whatever. (LAID: no walk: one application.) -/
theorem Tryz.stringslite_Index (s sub : ByteArray) (m : Int) (w : World) (hs : s.size < 4294967281) (hm : w.cell? ⟨0, 0, none⟩ = some (.int .i64 m)) :
    Calls Tryz.prog 38 #[.string s, .string sub] w fun e w' => e = .returned (.int .i64 (Lib.index s.data.toList sub.data.toList)) ∧ w' = w := Any.stringslite_Index Tryz.lays219 s sub m w hs hm
def Tryz.lays143_ren : Go.Shelf.Ren := ⟨fun | 143 => 28 | 219 => 38 | 217 => 47 | 225 => 49 | 224 => 50 | 267 => 51 | 266 => 62 | 314 => 64 | n => n, fun | 9 => 9 | 3 => 3 | 4 => 4 | 5 => 5 | 46 => 40 | 146 => 85 | 51 => 84 | n => n, fun | 1 => 0 | n => n⟩
theorem Tryz.lays143 : Go.Proofs.Lays.n143 Tryz.prog Tryz.lays143_ren := {
  mixed := by kernel_rfl
  f143 := Tryz.func28.trans (congrArg some (by kernel_rfl))
  f217 := Tryz.func47.trans (congrArg some (by kernel_rfl))
  f219 := Tryz.func38.trans (congrArg some (by kernel_rfl))
  f224 := Tryz.func50.trans (congrArg some (by kernel_rfl))
  f225 := Tryz.func49.trans (congrArg some (by kernel_rfl))
  f266 := Tryz.func62.trans (congrArg some (by kernel_rfl))
  f267 := Tryz.func51.trans (congrArg some (by kernel_rfl))
  f314 := Tryz.func64.trans (congrArg some (by kernel_rfl))
  t3 := Tryz.underlying3
  a3 := Tryz.isAgg3
  z3 := Tryz.sizeOf3
  v3 := Tryz.zeroValue3
  t4 := Tryz.underlying4
  a4 := Tryz.isAgg4
  z4 := Tryz.sizeOf4
  v4 := Tryz.zeroValue4
  t5 := Tryz.underlying5
  a5 := Tryz.isAgg5
  z5 := Tryz.sizeOf5
  v5 := Tryz.zeroValue5
  t9 := Tryz.underlying9
  a9 := Tryz.isAgg9
  z9 := Tryz.sizeOf9
  v9 := Tryz.zeroValue9
  t46 := Tryz.underlying40
  a46 := Tryz.isAgg40
  z46 := Tryz.sizeOf40
  v46 := Tryz.zeroValue40
  t51 := Tryz.underlying84
  a51 := Tryz.isAgg84
  z51 := Tryz.sizeOf84
  v51 := Tryz.zeroValue84
  t146 := Tryz.underlying85
  a146 := Tryz.isAgg85
  z146 := Tryz.sizeOf85
  v146 := Tryz.zeroValue85
  g1 := by kernel_rfl }
open Go.RowKit Go.Lib in
/-- strings.Index: "Index returns the index of the first instance of substr in s, or -1 if substr is not present in s.": AT A substr OF ONE BYTE c: IT RETURNS 'Lib.indexByte s c'; the world is as it was. (LAID: no walk: one application.) -/
theorem Tryz.strings_Index_one (s : ByteArray) (c : UInt8) (w : World) :
    Calls Tryz.prog 28 #[.string s, .string ⟨#[c]⟩] w fun e w' => e = .returned (.int .i64 (Lib.indexByte s.data.toList c)) ∧ w' = w := Any.strings_Index_one Tryz.lays143 s c w
open Go.RowKit Go.Lib in
/-- strings.Index: "Index returns the index of the first instance of substr in s, or -1 if substr is not present in s.": IT RETURNS 'Lib.index s substr'; the world is as it was. (LAID: no walk: one application.) -/
theorem Tryz.strings_Index (s sub : ByteArray) (m : Int) (w : World) (hs : s.size < 4294967281) (hm : w.cell? ⟨0, 0, none⟩ = some (.int .i64 m)) :
    Calls Tryz.prog 28 #[.string s, .string sub] w fun e w' => e = .returned (.int .i64 (Lib.index s.data.toList sub.data.toList)) ∧ w' = w := Any.strings_Index Tryz.lays143 s sub m w hs hm
def Tryz.laysM219_ren : Go.Shelf.Ren := ⟨fun | 219 => 38 | 217 => 47 | 225 => 49 | 224 => 50 | 267 => 51 | 266 => 62 | 314 => 64 | n => n, fun | 9 => 9 | 3 => 3 | 4 => 4 | 5 => 5 | 46 => 40 | 146 => 85 | 51 => 84 | n => n, fun | 1 => 0 | n => n⟩
theorem Tryz.laysM219 : Go.Proofs.LaysM.n219 Tryz.prog Tryz.laysM219_ren := {
  mixed := by kernel_rfl
  f217 := Tryz.func47.trans (congrArg some (by kernel_rfl))
  f219 := Tryz.func38.trans (congrArg some (by kernel_rfl))
  f224 := Tryz.func50.trans (congrArg some (by kernel_rfl))
  f225 := Tryz.func49.trans (congrArg some (by kernel_rfl))
  f266 := Tryz.func62.trans (congrArg some (by kernel_rfl))
  f267 := Tryz.func51.trans (congrArg some (by kernel_rfl))
  f314 := Tryz.func64.trans (congrArg some (by kernel_rfl))
  t3 := Tryz.underlying3
  a3 := Tryz.isAgg3
  z3 := Tryz.sizeOf3
  v3 := Tryz.zeroValue3
  t4 := Tryz.underlying4
  a4 := Tryz.isAgg4
  z4 := Tryz.sizeOf4
  v4 := Tryz.zeroValue4
  t5 := Tryz.underlying5
  a5 := Tryz.isAgg5
  z5 := Tryz.sizeOf5
  v5 := Tryz.zeroValue5
  t9 := Tryz.underlying9
  a9 := Tryz.isAgg9
  z9 := Tryz.sizeOf9
  v9 := Tryz.zeroValue9
  t46 := Tryz.underlying40
  a46 := Tryz.isAgg40
  z46 := Tryz.sizeOf40
  v46 := Tryz.zeroValue40
  t51 := Tryz.underlying84
  a51 := Tryz.isAgg84
  z51 := Tryz.sizeOf84
  v51 := Tryz.zeroValue84
  t146 := Tryz.underlying85
  a146 := Tryz.isAgg85
  z146 := Tryz.sizeOf85
  v146 := Tryz.zeroValue85
  g1 := by kernel_rfl
  i3 := by kernel_rfl
  i4 := by kernel_rfl
  i5 := by kernel_rfl
  i9 := by kernel_rfl
  i46 := by kernel_rfl
  i51 := by kernel_rfl
  i146 := by kernel_rfl
  m1 := by kernel_rfl
  s1_3 := fun w h => Go.Proofs.cell_of_shapedOpen_int (zero := #[.int .i64 0]) (t := 3) h (of_decide_eq_true (by kernel_rfl)) (by kernel_rfl) rfl (by kernel_rfl) (by kernel_rfl) Tryz.underlying3 }
open Go.RowKit Go.Lib in
theorem Tryz.stringslite_Index_shaped (s sub : ByteArray) (w : World) (h : w.ShapedOpen Tryz.prog) (hs : s.size < 4294967281) :
    Calls Tryz.prog 38 #[.string s, .string sub] w fun e w' => e = .returned (.int .i64 (Lib.index s.data.toList sub.data.toList)) ∧ w' = w := Any.stringslite_Index_shaped Tryz.laysM219 s sub w h hs
def Tryz.laysM143_ren : Go.Shelf.Ren := ⟨fun | 143 => 28 | 219 => 38 | 217 => 47 | 225 => 49 | 224 => 50 | 267 => 51 | 266 => 62 | 314 => 64 | n => n, fun | 9 => 9 | 3 => 3 | 4 => 4 | 5 => 5 | 46 => 40 | 146 => 85 | 51 => 84 | n => n, fun | 1 => 0 | n => n⟩
theorem Tryz.laysM143 : Go.Proofs.LaysM.n143 Tryz.prog Tryz.laysM143_ren := {
  mixed := by kernel_rfl
  f143 := Tryz.func28.trans (congrArg some (by kernel_rfl))
  f217 := Tryz.func47.trans (congrArg some (by kernel_rfl))
  f219 := Tryz.func38.trans (congrArg some (by kernel_rfl))
  f224 := Tryz.func50.trans (congrArg some (by kernel_rfl))
  f225 := Tryz.func49.trans (congrArg some (by kernel_rfl))
  f266 := Tryz.func62.trans (congrArg some (by kernel_rfl))
  f267 := Tryz.func51.trans (congrArg some (by kernel_rfl))
  f314 := Tryz.func64.trans (congrArg some (by kernel_rfl))
  t3 := Tryz.underlying3
  a3 := Tryz.isAgg3
  z3 := Tryz.sizeOf3
  v3 := Tryz.zeroValue3
  t4 := Tryz.underlying4
  a4 := Tryz.isAgg4
  z4 := Tryz.sizeOf4
  v4 := Tryz.zeroValue4
  t5 := Tryz.underlying5
  a5 := Tryz.isAgg5
  z5 := Tryz.sizeOf5
  v5 := Tryz.zeroValue5
  t9 := Tryz.underlying9
  a9 := Tryz.isAgg9
  z9 := Tryz.sizeOf9
  v9 := Tryz.zeroValue9
  t46 := Tryz.underlying40
  a46 := Tryz.isAgg40
  z46 := Tryz.sizeOf40
  v46 := Tryz.zeroValue40
  t51 := Tryz.underlying84
  a51 := Tryz.isAgg84
  z51 := Tryz.sizeOf84
  v51 := Tryz.zeroValue84
  t146 := Tryz.underlying85
  a146 := Tryz.isAgg85
  z146 := Tryz.sizeOf85
  v146 := Tryz.zeroValue85
  g1 := by kernel_rfl
  i3 := by kernel_rfl
  i4 := by kernel_rfl
  i5 := by kernel_rfl
  i9 := by kernel_rfl
  i46 := by kernel_rfl
  i51 := by kernel_rfl
  i146 := by kernel_rfl
  m1 := by kernel_rfl
  s1_3 := fun w h => Go.Proofs.cell_of_shapedOpen_int (zero := #[.int .i64 0]) (t := 3) h (of_decide_eq_true (by kernel_rfl)) (by kernel_rfl) rfl (by kernel_rfl) (by kernel_rfl) Tryz.underlying3 }
open Go.RowKit Go.Lib in
theorem Tryz.strings_Index_shaped (s sub : ByteArray) (w : World) (h : w.ShapedOpen Tryz.prog) (hs : s.size < 4294967281) :
    Calls Tryz.prog 28 #[.string s, .string sub] w fun e w' => e = .returned (.int .i64 (Lib.index s.data.toList sub.data.toList)) ∧ w' = w := Any.strings_Index_shaped Tryz.laysM143 s sub w h hs
end Go.Proofs

/- FormatImages, of the program and of the model. No condition but lengths. -/
namespace Go.Proofs.YtkjokchhffjidaaGreatDoor
open Go.RowKit

theorem Txs.store {w : World} {base g n c : Nat} {ws : List ByteArray} (h : Txs w base (some ⟨g, 0, none⟩) n c ws) (j : Nat) (u : ByteArray) : Txs (w.setCell ⟨g, j, none⟩ (.string u)) base (some ⟨g, 0, none⟩) n c (ws.set j u) := by
  refine ⟨by rw [List.length_set]; exact h.1, ?_⟩
  rw [List.map_set]
  exact (h.2.stored j _).1
theorem Txs.free {w : World} {base g n c : Nat} {ws : List ByteArray} (h : Txs w base (some ⟨g, 0, none⟩) n c ws) (j : Nat) : w.frozen? ⟨g, j, none⟩ = false := h.2.frozenAt j
theorem Txs.cell {w : World} {base g n c : Nat} {ws : List ByteArray} (h : Txs w base (some ⟨g, 0, none⟩) n c ws) {j : Nat} (hj : j < n) : w.cell? ⟨g, j, none⟩ = some (.string (ws[j]'(by rw [h.1]; exact hj))) := by
  rw [h.2.cellAt j (by omega), List.getElem?_map, List.getElem?_eq_getElem (by rw [h.1]; exact hj)]; rfl
theorem Txs.made {w : World} {base g n c : Nat} (h : w.ownsRow base 9 1 (.slice (some ⟨g, 0, none⟩) n c) n (madeCells (Value.string ⟨#[]⟩).cells (n * 1)).toList) : Txs w base (some ⟨g, 0, none⟩) n c (List.replicate n ⟨#[]⟩) := by
  refine ⟨by simp, ?_⟩
  have e : (madeCells (Value.string ⟨#[]⟩).cells (n * 1)).toList = (List.replicate n (⟨#[]⟩ : ByteArray)).map Value.string := by
    show (madeCells #[Value.string ⟨#[]⟩] (n * 1)).toList = _
    rw [toList_madeCells_one]; simp
  rw [← e]; exact h
theorem Txs.le {w : World} {base n c : Nat} {A : Option Addr} {ws : List ByteArray} (h : Txs w base A n c ws) : n ≤ c := by
  rcases h.2.2 with ⟨e, h0⟩ | ⟨g, cap, cur, e, _, _, hn, _⟩
  · omega
  · injection e with e1 e2 e3; subst e3; exact hn
/-- The digits of the numbers, as far as k. -/
def digs (xs : List Int) (k : Nat) : List (List UInt8) := (xs.take k).map fun x => dig x.toNat
theorem digs_succ {xs : List Int} {k x : Nat} (hk : k < xs.length) (e : xs.getD k 0 = (x : Int)) : digs xs (k + 1) = digs xs k ++ [dig x] := by
  unfold digs
  rw [List.take_succ_eq_append_getElem hk, List.map_append]
  rw [getD_eq hk] at e
  rw [e]; rfl
theorem digs_all (xs : List Int) : jn 32 (digs xs xs.length) = fmtI xs := by unfold digs fmtI; rw [List.take_of_length_le (Nat.le_refl _)]
theorem digs_len (xs : List Int) (k : Nat) (hk : k ≤ xs.length) : (digs xs k).length = k := by simp [digs]; omega
theorem join_jn : ∀ ls : List (List UInt8), Lib.join ls [32] = jn 32 ls
  | [] => rfl
  | [w] => by rw [Lib.join_one]; rfl
  | w :: v :: r => by
    rw [jn_cons 32 w (by simp), ← join_jn (v :: r), Lib.join_cons, Lib.join_cons]
    simp [Lib.joinTail]
theorem dig_dec : ∀ x, x < 20 → Lib.decDigits x = dig x := by
  intro x hx
  by_cases h : x < 10
  · rw [Lib.decDigits, dif_pos h, dig, if_pos h]
  · rw [Lib.decDigits, dif_neg h, Lib.decDigits, dif_pos (by omega), dig, if_neg h]; rfl
theorem jn_len (b : UInt8) : ∀ ls : List (List UInt8), (∀ l ∈ ls, l.length ≤ 2) → (jn b ls).length ≤ 3 * ls.length
  | [], _ => Nat.le_refl _
  | [w], h => by have := h w (by simp); simp [jn]; omega
  | w :: v :: r, h => by
    have h1 := h w (by simp)
    have h2 := jn_len b (v :: r) fun l hl => h l (by simp [hl])
    rw [jn_cons b w (by simp)]
    simp at h2 ⊢; omega
theorem fmtI_len {xs : List Int} (h : Pts xs) : (fmtI xs).length ≤ 3 * xs.length := by
  have := jn_len 32 (xs.map fun x => dig x.toNat) (fun l hl => by
    rw [List.mem_map] at hl
    obtain ⟨x, hx, rfl⟩ := hl
    have := h x hx
    exact (dig_facts x.toNat (by omega)).2.2.2.2.1)
  rw [List.length_map] at this
  exact this
theorem isP_pts {p : List Int} (h : IsP p) : Pts p := fun x hx => by
  obtain ⟨i, hi, rfl⟩ := List.getElem_of_mem hx
  have h1 := h.lo i hi
  have h2 := h.hi i hi
  have h3 := h.le
  rw [getD_eq hi] at h1 h2
  omega
theorem pts_at {xs : List Int} (h : Pts xs) {k : Nat} (hk : k < xs.length) : ∃ x : Nat, x < 20 ∧ xs.getD k 0 = (x : Int) := by
  have := h xs[k] (List.getElem_mem hk)
  exact ⟨xs[k].toNat, by omega, by rw [getD_eq hk]; omega⟩

set_option maxHeartbeats 1000000 in
/-- joinNumbers. -/
theorem implJoin (A : Option Addr) (c n : Nat) (xs : List Int) (w : World) (hx : RI w w.heap.size A xs) (lx : Hid (xs.length = n)) (px : Hid (Pts xs)) (h1 : 1 ≤ n) (hn : n ≤ 20) :
    Calls Tryz.prog 71 #[.slice A n c] w fun e w' => ∃ t, e = .returned (.string t) ∧ t.toList = fmtI xs ∧ Below w.heap.size w w' := by
  obtain ⟨i0, hi, hz0, hz1, hz2⟩ := info_parts infoT
  go_enter Tryz.func71, Tryz.ntmps71
  go_wp2_with (first | (at_make; refine wpList_make_full _ rfl _ _ 55 rfl w.heap.size 9 i0 (.string ⟨#[]⟩) 1 Tryz.underlying55 hi hz0 hz1 .i64 .i64 _ _ n rfl rfl rfl rfl (by rw [hz2]; omega) (by unfold maxLen; omega) (Nat.le_refl _) ?_; intro w1 hown1 hgrow1))
  have T1 := Lib.hid (Txs.made hown1)
  have B1 : Hid (Below w.heap.size w w1) := Lib.hid ((Below.refl _ _).grown hgrow1 (Nat.le_refl _) (fun k e => nomatch e))
  have Z1 : w.heap.size < w1.heap.size := ((Txs.made hown1).lt_ w.heap.size rfl).2
  clear hown1 hgrow1
  go_loopg [4, 5, 11] n (fun gg _ _ i wr => ∃ k ws, k ≤ n ∧ n - k ≤ gg ∧ i = .int .i64 (k : Nat) ∧ Txs wr w.heap.size (some ⟨w.heap.size, 0, none⟩) n n ws ∧ (ws.take k).map ByteArray.toList = digs xs k ∧ w.heap.size < wr.heap.size ∧ Below w.heap.size w wr)
  case atStart => exact ⟨0, _, Nat.zero_le _, by omega, rfl, T1.out, rfl, Z1, B1.out⟩
  case round =>
    obtain ⟨k, ws, hk, hg, rfl, tx, heq, zr, bel⟩ := hrel
    have Tx := Lib.hid tx
    have Eq := Lib.hid heq
    have Bel := Lib.hid bel
    have lw := tx.1
    clear tx heq bel
    by_cases hlt : k < n
    · obtain ⟨b, off, rfl, hb, hc⟩ := hx (by rw [lx.out]; omega)
      obtain ⟨x, hx20, ex⟩ := pts_at px.out (k := k) (by rw [lx.out]; exact hlt)
      have c1 := (Bel.out.cell (p := ⟨b, off + k, none⟩) hb).trans (hc k (by rw [lx.out]; omega))
      rw [ex] at c1
      have c2 := Tx.out.cell hlt
      have f2 := Tx.out.free k
      have Ds := Lib.hid (digs_succ (xs := xs) (by rw [lx.out]; exact hlt) ex)
      obtain ⟨u, eu⟩ : ∃ u : ByteArray, (⟨(Lib.decDigits x).toArray⟩ : ByteArray) = u := ⟨_, rfl⟩
      have Tu : Hid (u.toList = dig x) := Lib.hid (by rw [← eu, ByteArray.toList_mk, dig_dec x hx20])
      have Tx2 := Lib.hid (Tx.out.store k u)
      have Bel2 := Lib.hid (Bel.out.setCell (p := ⟨w.heap.size, k, none⟩) (Nat.le_refl _) (.string u))
      have Eq2 : Hid (((ws.set k u).take (k + 1)).map ByteArray.toList = digs xs (k + 1)) := Lib.hid (by
        rw [Ds.out, List.take_succ_eq_append_getElem (by rw [List.length_set, lw]; exact hlt), List.map_append, ← Eq.out, List.getElem_set_self]
        rw [List.take_set_of_le (Nat.le_refl _)]
        simp [Tu.out])
      have hf := Tryz.strconv_FormatInt_10_small x (by omega) wr
      rw [eu] at hf
      clear hc ex eu
      go_wp2_with fail
      refine hf.mono ?_
      rintro e w2 ⟨rfl, rfl⟩
      clear hf
      go_wp2
      go_roundg (n - (k + 1))
      case rel => exact ⟨k + 1, _, by omega, Nat.le_refl _, by go_num, Tx2.out, Eq2.out, by simpa [World.setCell] using zr, Bel2.out⟩
      case measure => omega
    · have hkn : k = n := by omega
      subst hkn
      have hj := Tryz.strings_Join w.heap.size 0 k ws ⟨#[32]⟩ wr (fun j x hj => by
        have hjl := (List.getElem?_eq_some_iff.1 hj).1
        rw [Nat.zero_add, Tx.out.cell (by omega)]
        rw [List.getElem?_eq_getElem hjl] at hj
        rw [← Option.some.inj hj]) zr (by omega) (by omega)
      have E2 : ws.map (·.data.toList) = digs xs k := by
        have := Eq.out
        rw [List.take_of_length_le (by omega)] at this
        rw [← this]
        exact List.map_congr_left fun a _ => (ByteArray.toList_eq a).symm
      rw [E2, lw] at hj
      have e32 : (⟨#[32]⟩ : ByteArray).data.toList = [32] := rfl
      have ej : Lib.join (digs xs k) [32] = fmtI xs := by rw [join_jn, ← lx.out, digs_all]
      rw [e32, ej] at hj
      have hj2 := hj (by have := fmtI_len px.out; rw [lx.out] at this; omega)
      clear hj E2 e32 ej
      go_wp2_with fail
      refine hj2.mono ?_
      rintro e w2 ⟨rfl, b2⟩
      have B2 : Hid (Below w.heap.size w w2) := Lib.hid (btr Bel.out b2)
      clear b2 hj2
      go_wp2_with fail
      go_ret
      exact ⟨_, rfl, ByteArray.toList_mk _, B2.out⟩
end Go.Proofs.YtkjokchhffjidaaGreatDoor

/- The model's texts of lists; FormatImages of both. No condition but lengths. -/
namespace Go.Proofs.YtkjokchhffjidaaGreatDoor
open Go.RowKit

theorem empty_toList : (⟨#[]⟩ : ByteArray).toList = [] := by rw [ByteArray.toList_eq]

set_option maxHeartbeats 1000000 in
/-- joinText, of at least one and at most 20 short texts. -/
theorem specJoin (A : Option Addr) (c n base : Nat) (ws : List ByteArray) (w : World) (h : Txs w base A n c ws) (h1 : 1 ≤ n) (hn : n ≤ 20) (hs : ∀ u ∈ ws, u.size ≤ 2) :
    Calls Tryz.prog 75 #[.slice A n c, .string ⟨#[32]⟩] w fun e w' => ∃ t, e = .returned (.string t) ∧ t.toList = jn 32 (ws.map ByteArray.toList) ∧ w' = w := by
  have H := Lib.hid h
  have Hs := Lib.hid hs
  have lw := h.1
  obtain ⟨g, rfl, hA, hB, hC⟩ := h.at_ (by omega)
  clear h hs hC
  go_enter Tryz.func75, Tryz.ntmps75
  go_wp2
  go_loopg [5, 6] n (fun gg sv i wr => ∃ k t, k ≤ n ∧ n - k ≤ gg ∧ i = .int .i64 (k : Nat) ∧ sv = .string t ∧ t.toList = jn 32 ((ws.take k).map ByteArray.toList) ∧ t.size ≤ 3 * k ∧ wr = w)
  case atStart => exact ⟨0, _, Nat.zero_le _, by omega, rfl, rfl, empty_toList, Nat.zero_le _, rfl⟩
  case round =>
    obtain ⟨k, t, hk, hg, rfl, rfl, ht, hsz, rfl⟩ := hrel
    have T := Lib.hid ht
    clear ht
    by_cases hlt : k < n
    · have c0 := H.out.cell hlt
      obtain ⟨u, eu⟩ : ∃ u, ws[k]'(by omega) = u := ⟨_, rfl⟩
      have hu : u.size ≤ 2 := by rw [← eu]; exact Hs.out _ (List.getElem_mem _)
      have Tk : Hid ((ws.take (k + 1)).map ByteArray.toList = (ws.take k).map ByteArray.toList ++ [u.toList]) := Lib.hid (by rw [List.take_succ_eq_append_getElem (by omega), List.map_append, eu]; rfl)
      rw [eu] at c0
      by_cases hk0 : k = 0
      · subst hk0
        have sz1 : ¬ 9223372036854775807 < t.size + u.size := by omega
        have tl : Hid ((t ++ u).toList = jn 32 ((ws.take (0 + 1)).map ByteArray.toList)) := Lib.hid (by rw [toList_app, T.out, Tk.out]; rfl)
        have ts : (t ++ u).size ≤ 3 := by rw [ByteArray.size_append]; omega
        clear eu
        go_wp2
        go_roundg (n - 1)
        case rel => exact ⟨1, _, by omega, Nat.le_refl _, by go_num, rfl, tl.out, ts, rfl⟩
        case measure => omega
      · have d1 : decide (0 < k) = true := by simp; omega
        have sz0 : ¬ 9223372036854775807 < t.size + (⟨#[32]⟩ : ByteArray).size := by have : (⟨#[32]⟩ : ByteArray).size = 1 := rfl; omega
        have sz1 : ¬ 9223372036854775807 < t.size + (⟨#[32]⟩ : ByteArray).size + u.size := by have : (⟨#[32]⟩ : ByteArray).size = 1 := rfl; omega
        have tl : Hid ((t ++ (⟨#[32]⟩ : ByteArray) ++ u).toList = jn 32 ((ws.take (k + 1)).map ByteArray.toList)) := Lib.hid (by
          rw [toList_app, toList_app, T.out, Tk.out, jn_snoc 32 _ _ (by
            intro e
            have := congrArg List.length e
            rw [List.length_map, List.length_take, lw] at this
            have e0 : min k n = 0 := this
            omega)]
          have : (⟨#[32]⟩ : ByteArray).toList = [32] := by rw [ByteArray.toList_eq]
          rw [this]; simp)
        have ts : (t ++ (⟨#[32]⟩ : ByteArray) ++ u).size ≤ 3 * (k + 1) := by rw [ByteArray.size_append, ByteArray.size_append]; have : (⟨#[32]⟩ : ByteArray).size = 1 := rfl; omega
        have sz2 : ¬ 9223372036854775807 < t.size + 1 := by omega
        have sz3 : ¬ 9223372036854775807 < t.size + 1 + u.size := by omega
        clear eu hk0
        go_wp2
        go_roundg (n - (k + 1))
        case rel => exact ⟨k + 1, _, by omega, Nat.le_refl _, by go_num, rfl, tl.out, ts, rfl⟩
        case measure => omega
    · have hkn : k = n := by omega
      subst hkn
      have F : Hid (t.toList = jn 32 (ws.map ByteArray.toList)) := Lib.hid (by rw [T.out, List.take_of_length_le (by omega)])
      go_wp2
      go_ret
      exact ⟨t, rfl, F.out, rfl⟩

set_option maxHeartbeats 1000000 in
/-- formatInts. -/
theorem specFmt (A : Option Addr) (c n : Nat) (xs : List Int) (w : World) (hx : RI w w.heap.size A xs) (lx : Hid (xs.length = n)) (px : Hid (Pts xs)) (h1 : 1 ≤ n) (hn : n ≤ 20) :
    Calls Tryz.prog 61 #[.slice A n c] w fun e w' => ∃ t, e = .returned (.string t) ∧ t.toList = fmtI xs ∧ Below w.heap.size w w' := by
  go_enter Tryz.func61, Tryz.ntmps61
  go_wp2
  go_loopg [3, 4] n (fun gg v i wr => ∃ k A' c' ws, k ≤ n ∧ n - k ≤ gg ∧ i = .int .i64 (k : Nat) ∧ v = .slice A' k c' ∧ Txs wr w.heap.size A' k c' ws ∧ ws.map ByteArray.toList = digs xs k ∧ Below w.heap.size w wr)
  case atStart => exact ⟨0, _, _, [], Nat.zero_le _, by omega, rfl, rfl, Txs.lit0 w _ (Nat.le_refl _), rfl, (Below.refl _ _).alloc (Nat.le_refl _) _⟩
  case round =>
    obtain ⟨k, A', c', ws, hk, hg, rfl, rfl, tx, heq, bel⟩ := hrel
    have Tx := Lib.hid tx
    have Eq := Lib.hid heq
    have Bel := Lib.hid bel
    clear tx heq bel
    by_cases hlt : k < n
    · obtain ⟨b, off, rfl, hb, hc⟩ := hx (by rw [lx.out]; omega)
      obtain ⟨x, hx20, ex⟩ := pts_at px.out (k := k) (by rw [lx.out]; exact hlt)
      have c1 := (Bel.out.cell (p := ⟨b, off + k, none⟩) hb).trans (hc k (by rw [lx.out]; omega))
      rw [ex] at c1
      have Ds := Lib.hid (digs_succ (xs := xs) (by rw [lx.out]; exact hlt) ex)
      clear hc ex
      go_wp2_with fail
      refine (specFmtInt x wr hx20).mono ?_
      rintro e w2 ⟨u, rfl, hu, b2⟩
      have Hu := Lib.hid hu
      have Bel2 : Hid (Below w.heap.size w w2) := Lib.hid (btr Bel.out b2)
      have Tx2 := Lib.hid (Tx.out.up b2)
      clear hu b2
      go_wp2_with (first | (at_builtin; refine wpList_appT rfl _ _ rfl w.heap.size A' k c' _ rfl (Tx2.out.alloc _) w2.heap.size u rfl (by rw [World.cell?_alloc_at _ _ _ _ rfl]; rfl) (by omega) (by have := Bel2.out.size; simp; omega) ?_; intro A3 c3 w3 s3 g3))
      have S3 := Lib.hid s3
      have Eq3 : Hid ((ws ++ [u]).map ByteArray.toList = digs xs (k + 1)) := Lib.hid (by rw [Ds.out, List.map_append, Eq.out]; simp [Hu.out])
      have Bel3 : Hid (Below w.heap.size w w3) := Lib.hid ((Bel2.out.alloc Bel2.out.size _).grown g3 (by have := Bel2.out.size; simp; omega) (fun j e => (Tx2.out.lt_ j e).1))
      clear s3 g3
      go_wp2
      go_roundg (n - (k + 1))
      case rel => exact ⟨k + 1, A3, c3, _, by omega, Nat.le_refl _, by go_num, rfl, S3.out, Eq3.out, Bel3.out⟩
      case measure => omega
    · have hkn : k = n := by omega
      subst hkn
      have Fin : Hid (jn 32 (ws.map ByteArray.toList) = fmtI xs) := Lib.hid (by rw [Eq.out, ← lx.out, digs_all])
      have Sz : Hid (∀ u ∈ ws, u.size ≤ 2) := Lib.hid fun u hu => by
        have hm : u.toList ∈ digs xs k := by rw [← Eq.out]; exact List.mem_map_of_mem hu
        unfold digs at hm
        rw [List.mem_map] at hm
        obtain ⟨x, hx, e⟩ := hm
        have hp := px.out x (List.mem_of_mem_take hx)
        rw [← len_toList0, ← e]
        exact (dig_facts x.toNat (by omega)).2.2.2.2.1
      go_wp2_with fail
      refine (specJoin A' c' k w.heap.size ws wr Tx.out h1 hn Sz.out).mono ?_
      rintro e w2 ⟨t, rfl, ht, rfl⟩
      have F : Hid (t.toList = fmtI xs) := Lib.hid (ht.trans Fin.out)
      clear ht
      go_wp2_with fail
      go_ret
      exact ⟨t, rfl, F.out, Bel.out⟩

/-- What FormatImages writes. -/
def fmtImg (p : List Int) : List UInt8 := if isP p = true then fmtI p else []

end Go.Proofs.YtkjokchhffjidaaGreatDoor

/- Words for slices of slices of int64 that the call itself made. No condition. -/
namespace Go.Proofs.YtkjokchhffjidaaGreatDoor
open Go.RowKit

abbrev SV := Option Addr × Nat × Nat
def sval (d : SV) : Value := .slice d.1 d.2.1 d.2.2
def sd0 : SV := (none, 0, 0)

/-- '.slice A n c' is a row of the call's own of n slices vs, which are rows of the call's own that hold the lists xss; no two of them share a block. -/
structure SS (w : World) (base bi : Nat) (A : Option Addr) (n c : Nat) (vs : List SV) (xss : List (List Int)) : Prop where
  own : w.ownsRow base 48 1 (.slice A n c) n (vs.map sval)
  lv : vs.length = n
  lx : xss.length = n
  row : ∀ i, i < n → Slc w bi (vs.getD i sd0).1 (vs.getD i sd0).2.1 (vs.getD i sd0).2.2 (xss.getD i [])
  dis : ∀ i j, i < j → j < n → (sval (vs.getD i sd0)).ownBlock = none ∨ (sval (vs.getD i sd0)).ownBlock ≠ (sval (vs.getD j sd0)).ownBlock

theorem infoS : (Tryz.prog.info? 48).map (fun i => (i.zero, i.size, i.bytes)) = some (some (.slice none 0 0), 1, 24) := by kernel_rfl

theorem getD_app {α : Type} (l l' : List α) (d : α) (i : Nat) (h : i < l.length) : (l ++ l').getD i d = l.getD i d := by
  rw [List.getD_eq_getElem?_getD, List.getElem?_append_left h, ← List.getD_eq_getElem?_getD]
theorem getD_snoc {α : Type} (l : List α) (x d : α) (i : Nat) (h : i = l.length) : (l ++ [x]).getD i d = x := by
  subst h
  rw [List.getD_eq_getElem?_getD, List.getElem?_append_right (Nat.le_refl _), Nat.sub_self]; rfl

section
variable {w w' : World} {base bi n c B : Nat} {A : Option Addr} {vs : List SV} {xss : List (List Int)}
theorem SS.nil_ : SS w base bi none 0 0 [] [] := ⟨World.ownsRow_nil _ _ _ _, rfl, rfl, fun i h => absurd h (by omega), fun i j _ h => absurd h (by omega)⟩
theorem SS.lit0 (w : World) (base bi : Nat) (hb : base ≤ w.heap.size) : SS (w.alloc (.cells #[] 48)) base bi (some ⟨w.heap.size, 0, none⟩) 0 0 [] [] :=
  ⟨World.ownsRow_lit (size := 1) w #[] 0 hb (Nat.zero_le _) rfl, rfl, rfl, fun i h => absurd h (by omega), fun i j _ h => absurd h (by omega)⟩
/-- An inner row never lies in the outer row's block: their elements' types differ. -/
theorem apart_types {a n' c' : Nat} {A' : Option Addr} {xs : List Int} {base' : Nat} {v : Value} {ys : List Value} (h : Slc w base' A' n' c' xs) (ho : w.ownsRow base 48 1 v a ys) :
    (Value.slice A' n' c').ownBlock = none ∨ (Value.slice A' n' c').ownBlock ≠ v.ownBlock := by
  rcases h.2.2 with ⟨e, _⟩ | ⟨g, cap, cur, e, hb, hg, _⟩
  · left; rw [e]; rfl
  · right
    rw [e]
    rcases ho.2 with ⟨rfl, _⟩ | ⟨g', cap', cur', rfl, hb', hg', _⟩
    · simp [Value.ownBlock]
    · simp only [Value.ownBlock]
      intro e2
      injection e2 with e2
      subst e2
      rw [hg] at hg'
      injection hg' with hg'
      injection hg' with _ ht
      exact absurd ht (by decide)
theorem SS.below_lt (h : SS w base bi A n c vs xss) (hb : Below B w w') (hB : w.heap.size ≤ B) : SS w' base bi A n c vs xss := by
  refine ⟨⟨h.own.1, ?_⟩, h.lv, h.lx, fun i hi => (h.row i hi).below hb hB, h.dis⟩
  rcases h.own.2 with hn | ⟨g, cap, cur, e, hb', hg, rest⟩
  · exact .inl hn
  · exact .inr ⟨g, cap, cur, e, hb', by rw [hb.block g (by have := (Array.getElem?_eq_some_iff.1 hg).1; omega)]; exact hg, rest⟩
theorem SS.up (h : SS w base bi A n c vs xss) (hb : Below w.heap.size w w') : SS w' base bi A n c vs xss := h.below_lt hb (Nat.le_refl _)
theorem SS.drewN (h : SS w base bi A n c vs xss) (k : Nat) : SS (w.drewN k) base bi A n c vs xss := ⟨h.own, h.lv, h.lx, fun i hi => (h.row i hi).drewN k, h.dis⟩
theorem SS.mono (h : SS w base bi A n c vs xss) {base' bi' : Nat} (hb : base' ≤ base) (hi' : bi' ≤ bi) : SS w base' bi' A n c vs xss := by
  refine ⟨⟨h.own.1, ?_⟩, h.lv, h.lx, fun i hi => (h.row i hi).mono hi', h.dis⟩
  rcases h.own.2 with hn | ⟨g, cap, cur, e, hb', rest⟩
  · exact .inl hn
  · exact .inr ⟨g, cap, cur, e, by omega, rest⟩
theorem SS.alloc (h : SS w base bi A n c vs xss) (o : Obj) : SS (w.alloc o) base bi A n c vs xss := ⟨World.ownsRow.alloc h.own o, h.lv, h.lx, fun i hi => (h.row i hi).alloc o, h.dis⟩
/-- The outer row's cells. -/
theorem SS.at_ (h : SS w base bi A n c vs xss) (hn : 0 < n) : ∃ g, A = some ⟨g, 0, none⟩ ∧ base ≤ g ∧ g < w.heap.size ∧ ∀ i, i < n → w.cell? ⟨g, i, none⟩ = some (.slice (vs.getD i sd0).1 (vs.getD i sd0).2.1 (vs.getD i sd0).2.2) := by
  rcases h.own.2 with ⟨e, h0⟩ | ⟨g, cap, cur, e, hb, hg, rest⟩
  · omega
  · injection e with e1 e2 e3
    subst e1
    refine ⟨g, rfl, hb, (Array.getElem?_eq_some_iff.1 hg).1, fun i hi => ?_⟩
    rw [h.own.cellAt i (by omega), List.getElem?_map, List.getD_eq_getElem?_getD, List.getElem?_eq_getElem (by rw [h.lv]; exact hi)]
    rfl
theorem SS.lt_ (h : SS w base bi A n c vs xss) : ∀ k, (Value.slice A n c).ownBlock = some k → base ≤ k ∧ k < w.heap.size := World.ownsRow.lt h.own

/-- append of one slice onto a slice of slices of the call's own. -/
theorem wpList_app2_at {ops : Array Oper} {rest : List Oper} {o : Oper} {a : Act} {Q : Exit → Act → World → Prop} (hgd : o.guard = none) (s x : Operand)
    (ho : o.op = .call { callee := .builtin .append, args := #[s, x], argTypes := #[28, 28] })
    (hs : a.eval s = .slice A n c) (hss : SS w base bi A n c vs xss) (g : Nat) (dA : Option Addr) (dn dc : Nat) (ys : List Int) (hx : a.eval x = .slice (some ⟨g, 0, none⟩) 1 1)
    (hcell : w.cell? ⟨g, 0, none⟩ = some (.slice dA dn dc)) (hys : Slc w bi dA dn dc ys)
    (hdis : ∀ i, i < n → (sval (vs.getD i sd0)).ownBlock = none ∨ (sval (vs.getD i sd0)).ownBlock ≠ (Value.slice dA dn dc).ownBlock) (hn : n ≤ 1000000000) (hbase : base ≤ w.heap.size)
    (h : ∀ A' c' w', SS w' base bi A' (n + 1) c' (vs ++ [(dA, dn, dc)]) (xss ++ [ys]) → w.grownBy w' (Value.slice A n c).ownBlock → ((Value.slice A' (n + 1) c').ownBlock = (Value.slice A n c).ownBlock ∨ (Value.slice A' (n + 1) c').ownBlock = some w.heap.size) → wpList Tryz.prog ops Q rest (a.put o.dst (.slice A' (n + 1) c')) w') : wpList Tryz.prog ops Q (o :: rest) a w := by
  obtain ⟨i0, hi, hz0, hz1, hz2⟩ := info_parts infoS
  refine wpList_append_own_at w hgd s x 28 ho base 48 i0 (.slice none 0 0) 1 24 Tryz.underlying28 hi hz0 hz1 hz2 rfl (by decide) _ n _ hs hss.own ⟨g, 0, none⟩ 1 1 [.slice dA dn dc] hx rfl ?_ ?_ ?_ (by omega) hbase ?_
  · intro j v hj
    match j, hj with
    | 0, hj => simp at hj; subst hj; simpa [Addr.add] using hcell
    | j + 1, hj => simp at hj
  · intro v hv; simp at hv; subst hv; rfl
  · unfold maxLen; omega
  · intro v' w' hown' hg _ hat
    have hform : ∃ A' c', v' = .slice A' (n + 1) c' := by
      rcases hown'.2 with ⟨rfl, h0⟩ | ⟨g', cap, cur, rfl, _⟩
      · omega
      · exact ⟨_, _, rfl⟩
    obtain ⟨A', c', rfl⟩ := hform
    refine h A' c' w' ⟨?_, by simp [hss.lv], by simp [hss.lx], fun i hi' => ?_, fun i j hij hj => ?_⟩ hg hat
    · rw [List.map_append]; exact hown'
    · by_cases e : i < n
      · rw [getD_app _ _ _ _ (by rw [hss.lv]; exact e), getD_app _ _ _ _ (by rw [hss.lx]; exact e)]
        exact (hss.row i e).kept hg (apart_types (hss.row i e) hss.own)
      · obtain rfl : i = n := by omega
        rw [getD_snoc _ _ _ _ hss.lv.symm, getD_snoc _ _ _ _ hss.lx.symm]
        exact hys.kept hg (apart_types hys hss.own)
    · rw [getD_app _ _ _ i (by rw [hss.lv]; omega)]
      by_cases e : j < n
      · rw [getD_app _ _ _ j (by rw [hss.lv]; exact e)]; exact hss.dis i j hij e
      · obtain rfl : j = n := by omega
        rw [getD_snoc _ _ _ _ hss.lv.symm]
        exact hdis i hij
/-- append of one slice onto a slice of slices of the call's own. -/
theorem wpList_app2 {ops : Array Oper} {rest : List Oper} {o : Oper} {a : Act} {Q : Exit → Act → World → Prop} (hgd : o.guard = none) (s x : Operand)
    (ho : o.op = .call { callee := .builtin .append, args := #[s, x], argTypes := #[28, 28] })
    (hs : a.eval s = .slice A n c) (hss : SS w base bi A n c vs xss) (g : Nat) (dA : Option Addr) (dn dc : Nat) (ys : List Int) (hx : a.eval x = .slice (some ⟨g, 0, none⟩) 1 1)
    (hcell : w.cell? ⟨g, 0, none⟩ = some (.slice dA dn dc)) (hys : Slc w bi dA dn dc ys)
    (hdis : ∀ i, i < n → (sval (vs.getD i sd0)).ownBlock = none ∨ (sval (vs.getD i sd0)).ownBlock ≠ (Value.slice dA dn dc).ownBlock) (hn : n ≤ 1000000000) (hbase : base ≤ w.heap.size)
    (h : ∀ A' c' w', SS w' base bi A' (n + 1) c' (vs ++ [(dA, dn, dc)]) (xss ++ [ys]) → w.grownBy w' (Value.slice A n c).ownBlock → wpList Tryz.prog ops Q rest (a.put o.dst (.slice A' (n + 1) c')) w') : wpList Tryz.prog ops Q (o :: rest) a w :=
  wpList_app2_at hgd s x ho hs hss g dA dn dc ys hx hcell hys hdis hn hbase fun A' c' w' h1 h2 _ => h A' c' w' h1 h2
/-- What lies from block lo on is kept where those blocks are. -/
theorem Slc.mid {base n c lo : Nat} {A : Option Addr} {xs : List Int} (h : Slc w base A n c xs) (hm : ∀ k, lo ≤ k → k < w.heap.size → w'.heap[k]? = w.heap[k]?) (hl : lo ≤ base) : Slc w' base A n c xs := by
  refine ⟨h.1, h.2.1, ?_⟩
  rcases h.2.2 with hn | ⟨g, cap, cur, e, hb, hg, rest⟩
  · exact .inl hn
  · exact .inr ⟨g, cap, cur, e, hb, by rw [hm g (by omega) (Array.getElem?_eq_some_iff.1 hg).1]; exact hg, rest⟩
theorem SS.mid {lo : Nat} (h : SS w base bi A n c vs xss) (hm : ∀ k, lo ≤ k → k < w.heap.size → w'.heap[k]? = w.heap[k]?) (hl : lo ≤ base) (hi : lo ≤ bi) : SS w' base bi A n c vs xss := by
  refine ⟨⟨h.own.1, ?_⟩, h.lv, h.lx, fun i hi' => (h.row i hi').mid hm hi, h.dis⟩
  rcases h.own.2 with hn | ⟨g, cap, cur, e, hb, hg, rest⟩
  · exact .inl hn
  · exact .inr ⟨g, cap, cur, e, hb, by rw [hm g (by omega) (Array.getElem?_eq_some_iff.1 hg).1]; exact hg, rest⟩
end
theorem lies_dis {w : World} {base bi n c : Nat} {A : Option Addr} {vs : List SV} {xss : List (List Int)} (h : SS w base bi A n c vs xss) {dA : Option Addr} {dn dc lo hi : Nat} (l : Lies dA dn dc lo hi) (hlo : w.heap.size ≤ lo) :
    ∀ i, i < n → (sval (vs.getD i sd0)).ownBlock = none ∨ (sval (vs.getD i sd0)).ownBlock ≠ (Value.slice dA dn dc).ownBlock :=
  fun i hi => (h.row i hi).lies.apart l (.inl hlo)
end Go.Proofs.YtkjokchhffjidaaGreatDoor

/- Identity, of the program and of the model. No condition. -/
namespace Go.Proofs.YtkjokchhffjidaaGreatDoor
open Go.RowKit

theorem idL_length (n : Nat) : (idL n).length = n := by simp [idL]
theorem idL_getD {n j : Nat} (h : j < n) : (idL n).getD j 0 = (j : Int) := by
  rw [List.getD_eq_getElem?_getD, List.getElem?_eq_getElem (by simp [idL, h])]; simp [idL]
theorem idL_succ (n : Nat) : idL (n + 1) = idL n ++ [(n : Int)] := by simp [idL, List.range_succ]

/-- What Identity answers. -/
def identL (n : Int) : List Int := if 1 ≤ n ∧ n ≤ 20 then idL n.toNat else []

set_option maxHeartbeats 400000 in
theorem implId_core (n : Nat) (w : World) (h1 : 1 ≤ n) (h2 : n ≤ 20) :
    Calls Tryz.prog 39 #[.int .i64 n] w fun e w' => ∃ A' c', e = .returned (.slice A' n c') ∧ Slc w' w.heap.size A' n c' (idL n) ∧ Below w.heap.size w w' := by
  obtain ⟨i0, hi, hz0, hz1, hz2⟩ := info_parts infoI
  have d1 : decide ((n : Int) < 1) = false := by simp; omega
  have d2 : decide ((20 : Int) < n) = false := by simp; omega
  go_enter Tryz.func39, Tryz.ntmps39
  go_wp2_with (first | (at_make; refine wpList_make_full _ rfl _ _ 48 rfl w.heap.size 2 i0 (.int .i64 0) 1 Tryz.underlying48 hi hz0 hz1 .i64 .i64 _ _ n rfl rfl rfl rfl (by rw [hz2]; omega) (by unfold maxLen; omega) (Nat.le_refl _) ?_; intro w1 hown1 hgrow1))
  have row1 := Row.made hown1
  have bel1 : Below w.heap.size w w1 := (Below.refl _ _).grown hgrow1 (Nat.le_refl _) (fun k e => nomatch e)
  clear hown1 hgrow1 d1 d2
  go_loopw [4, 15] (fun _ i wr => ∃ k ys, k ≤ n ∧ i = .int .i64 (k : Nat) ∧ Row wr w.heap.size w.heap.size n n ys ∧ (∀ j, j < k → ys.getD j 0 = (j : Int)) ∧ Below w.heap.size w wr) (fun _ i _ => n - (intOf i).toNat)
  case atStart => exact ⟨0, _, Nat.zero_le _, rfl, row1, fun j h => absurd h (by omega), bel1⟩
  case round =>
    clear row1 bel1
    obtain ⟨k, ys, hk, rfl, row, heq, bel⟩ := hrel
    have Heq := Lib.hid heq
    clear heq
    by_cases hlt : k < n
    · have c2 := row.cell hlt
      have f2 := row.free k
      have Row2 := Lib.hid (row.store k (k : Int))
      have Bel2 := Lib.hid (bel.setCell (p := ⟨w.heap.size, k, none⟩) (Nat.le_refl _) (.int .i64 (k : Int)))
      have hyl : Hid (ys.length = n) := Lib.hid row.1
      clear row bel
      go_wp2
      go_roundw
      case rel =>
        refine ⟨k + 1, _, by omega, by go_num, Row2.out, fun j hj => ?_, Bel2.out⟩
        rw [set_getD hyl.out (by omega)]
        by_cases e : k = j
        · subst e; rw [if_pos rfl]
        · rw [if_neg e]; exact Heq.out j (by omega)
      case measure => simp [intOf]; omega
    · have hkn : k = n := by omega
      subst hkn
      have Em : Hid (ys = idL k) := Lib.hid (ext_getD row.1 (idL_length k) fun j hj => by rw [Heq.out j hj, idL_getD hj])
      have Ro := Lib.hid row
      have Be := Lib.hid bel
      clear row bel
      go_wp2
      go_ret
      exact ⟨_, _, rfl, by rw [← Em.out]; exact Ro.out.slc, Be.out⟩

/-- The program's Identity. -/
theorem implId (n : Int) (w : World) :
    Calls Tryz.prog 39 #[.int .i64 n] w fun e w' => ∃ A' n' c', e = .returned (.slice A' n' c') ∧ Slc w' w.heap.size A' n' c' (identL n) ∧ n' ≤ 20 ∧ Below w.heap.size w w' := by
  by_cases h1 : n < 1
  · have Fin : Hid (identL n = []) := Lib.hid (if_neg (by omega))
    have d1 : decide ((n : Int) < 1) = true := by simp; omega
    go_enter Tryz.func39, Tryz.ntmps39
    go_wp2
    go_ret
    exact ⟨_, _, _, rfl, by rw [Fin.out]; exact Slc.nil_, Nat.zero_le _, Below.refl _ _⟩
  · by_cases h2 : 20 < n
    · have Fin : Hid (identL n = []) := Lib.hid (if_neg (by omega))
      have d1 : decide ((n : Int) < 1) = false := by simp; omega
      have d2 : decide ((20 : Int) < n) = true := by simp; omega
      go_enter Tryz.func39, Tryz.ntmps39
      go_wp2
      go_ret
      exact ⟨_, _, _, rfl, by rw [Fin.out]; exact Slc.nil_, Nat.zero_le _, Below.refl _ _⟩
    · obtain ⟨m, rfl⟩ := Int.eq_ofNat_of_zero_le (show 0 ≤ n by omega)
      refine (implId_core m w (by omega) (by omega)).mono fun e w' ⟨A', c', he, hs, hb⟩ => ⟨A', m, c', he, ?_, by omega, hb⟩
      rw [show identL (m : Int) = idL m from by unfold identL; rw [if_pos (by omega)]; rfl]
      exact hs

set_option maxHeartbeats 400000 in
theorem specIdent (n : Nat) (w : World) (h2 : n ≤ 1000000) :
    Calls Tryz.prog 43 #[.int .i64 n] w fun e w' => ∃ A' c', e = .returned (.slice A' n c') ∧ Slc w' w.heap.size A' n c' (idL n) ∧ Below w.heap.size w w' := by
  go_enter Tryz.func43, Tryz.ntmps43
  go_wp2
  go_loopw [3, 4] (fun v i wr => ∃ k A c, k ≤ n ∧ i = .int .i64 (k : Nat) ∧ v = .slice A k c ∧ Slc wr w.heap.size A k c (idL k) ∧ Below w.heap.size w wr) (fun _ i _ => n - (intOf i).toNat)
  case atStart => exact ⟨0, _, _, Nat.zero_le _, rfl, rfl, Slc.lit0 w _ (Nat.le_refl _), (Below.refl _ _).alloc (Nat.le_refl _) _⟩
  case round =>
    obtain ⟨k, A, c, hk, rfl, rfl, own, bel⟩ := hrel
    have Own' := Lib.hid own
    have Bel := Lib.hid bel
    clear own bel
    by_cases hlt : k < n
    · go_wp2_with (first | (at_builtin; refine wpList_app1 rfl _ _ rfl w.heap.size A k c (idL k) rfl (Own'.out.alloc _) wr.heap.size k rfl (by rw [World.cell?_alloc_at _ _ _ _ rfl]; rfl) (by omega) (by have := Bel.out.size; simp; omega) ?_; intro A' c' w1 own1 hg1))
      have Own1 := Lib.hid own1
      have Bel1 : Hid (Below w.heap.size w w1) := Lib.hid ((Bel.out.alloc Bel.out.size _).grown hg1 (by have := Bel.out.size; simp; omega) (fun j hj => (Own'.out.lt_ j hj).1))
      clear own1 hg1
      go_wp2
      go_roundw
      case rel => exact ⟨k + 1, A', c', by omega, by go_num, rfl, by rw [idL_succ]; exact Own1.out, Bel1.out⟩
      case measure => simp [intOf]; omega
    · have hkn : k = n := by omega
      subst hkn
      go_wp2
      go_ret
      exact ⟨_, _, rfl, Own'.out, Bel.out⟩

end Go.Proofs.YtkjokchhffjidaaGreatDoor

/- Compose and Inverse, of the program and of the model. Condition: at most 2097152 entries. -/
namespace Go.Proofs.YtkjokchhffjidaaGreatDoor
open Go.RowKit

def sameD (p q : List Int) : Bool := decide (p.length = q.length) && isP p && isP q
theorem sameD_iff {p q : List Int} : sameD p q = true ↔ p.length = q.length ∧ IsP p ∧ IsP q := by
  unfold sameD
  rw [Bool.and_eq_true, Bool.and_eq_true, decide_eq_true_eq, isP_iff, isP_iff]
  exact ⟨fun ⟨⟨a, b⟩, c⟩ => ⟨a, b, c⟩, fun ⟨a, b, c⟩ => ⟨⟨a, b⟩, c⟩⟩

theorem compL_length (p q : List Int) : (compL p q).length = p.length := by simp [compL]
theorem compL_getD {p q : List Int} {k : Nat} (hk : k < p.length) : (compL p q).getD k 0 = q.getD (nx p k) 0 := by
  unfold compL nx
  rw [List.getD_eq_getElem?_getD, List.getElem?_map, List.getElem?_eq_getElem hk, List.getD_eq_getElem?_getD (l := p), List.getElem?_eq_getElem hk]
  rfl

set_option maxHeartbeats 400000 in
/-- permutation.then. -/
theorem implThen (A B : Option Addr) (c d n : Nat) (p q : List Int) (w : World) (hp : RI w w.heap.size A p) (hq : RI w w.heap.size B q) (lp : Hid (p.length = n)) (lq : Hid (q.length = n)) (ip : Hid (IsP p)) (hn : n ≤ 20) :
    Calls Tryz.prog 54 #[.slice A n c, .slice B n d] w fun e w' => ∃ A' c', e = .returned (.slice A' n c') ∧ Slc w' w.heap.size A' n c' (compL p q) ∧ Below w.heap.size w w' := by
  obtain ⟨i0, hi, hz0, hz1, hz2⟩ := info_parts infoI
  go_enter Tryz.func54, Tryz.ntmps54
  go_wp2_with (first | (at_make; refine wpList_make_full _ rfl _ _ 63 rfl w.heap.size 2 i0 (.int .i64 0) 1 Tryz.underlying63 hi hz0 hz1 .i64 .i64 _ _ n rfl rfl rfl rfl (by rw [hz2]; omega) (by unfold maxLen; omega) (Nat.le_refl _) ?_; intro w1 hown1 hgrow1))
  have row1 := Row.made hown1
  have bel1 : Below w.heap.size w w1 := (Below.refl _ _).grown hgrow1 (Nat.le_refl _) (fun k e => nomatch e)
  clear hown1 hgrow1
  go_loopw [6, 7, 13] (fun _ _ i wr => ∃ k ys, k ≤ n ∧ i = .int .i64 (k : Nat) ∧ Row wr w.heap.size w.heap.size n n ys ∧ (∀ j, j < k → ys.getD j 0 = q.getD (nx p j) 0) ∧ Below w.heap.size w wr) (fun _ _ i _ => n - (intOf i).toNat)
  case atStart => exact ⟨0, _, Nat.zero_le _, rfl, row1, fun j h => absurd h (by omega), bel1⟩
  case round =>
    clear row1 bel1
    obtain ⟨k, ys, hk, rfl, row, heq, bel⟩ := hrel
    have Heq := Lib.hid heq
    clear heq
    by_cases hlt : k < n
    · obtain ⟨b, off, rfl, hb, hc⟩ := hp (by rw [lp.out]; omega)
      obtain ⟨b', off', rfl, hb', hc'⟩ := hq (by rw [lq.out]; omega)
      obtain ⟨y, ey⟩ : ∃ y, nx p k = y := ⟨_, rfl⟩
      have hy : y < n := by rw [← ey, ← lp.out]; exact nx_lt ip.out (by rw [lp.out]; exact hlt)
      have c1 := (bel.cell (p := ⟨b, off + k, none⟩) hb).trans (hc k (by rw [lp.out]; omega))
      rw [nx_val ip.out (by rw [lp.out]; exact hlt), ey] at c1
      have c2 := (bel.cell (p := ⟨b', off' + y, none⟩) hb').trans (hc' y (by rw [lq.out]; omega))
      obtain ⟨x, ex⟩ : ∃ x, q.getD y 0 = x := ⟨_, rfl⟩
      rw [ex] at c2
      have c3 := row.cell hlt
      have f3 := row.free k
      have Ex := Lib.hid ex
      have Ey := Lib.hid ey
      clear ex ey hc hc' hp hq
      have Row2 := Lib.hid (row.store k x)
      have Bel2 := Lib.hid (bel.setCell (p := ⟨w.heap.size, k, none⟩) (Nat.le_refl _) (.int .i64 x))
      have hyl : Hid (ys.length = n) := Lib.hid row.1
      clear row bel
      go_wp2
      go_roundw
      case rel =>
        refine ⟨k + 1, _, by omega, by go_num, Row2.out, fun j hj => ?_, Bel2.out⟩
        rw [set_getD hyl.out (by omega)]
        by_cases e : k = j
        · subst e; rw [if_pos rfl, Ey.out, Ex.out]
        · rw [if_neg e]; exact Heq.out j (by omega)
      case measure => simp [intOf]; omega
    · have hkn : k = n := by omega
      subst hkn
      have Em : Hid (ys = compL p q) := Lib.hid (ext_getD row.1 ((compL_length p q).trans lp.out) fun j hj => by rw [Heq.out j hj, compL_getD (by rw [lp.out]; exact hj)])
      have Ro := Lib.hid row
      have Be := Lib.hid bel
      clear row bel
      go_wp2
      go_ret
      exact ⟨_, _, rfl, by rw [← Em.out]; exact Ro.out.slc, Be.out⟩

def composeL (p q : List Int) : List Int := if sameD p q = true then compL p q else []

theorem compL_snoc {p q : List Int} {k : Nat} (hk : k < p.length) : compL (p.take (k + 1)) q = compL (p.take k) q ++ [q.getD (nx p k) 0] := by
  unfold compL nx
  rw [List.take_succ_eq_append_getElem hk, List.map_append, List.getD_eq_getElem?_getD (l := p), List.getElem?_eq_getElem hk]
  rfl

end Go.Proofs.YtkjokchhffjidaaGreatDoor

/- Inverse and Support, of the program and of the model. Condition: at most 2097152 entries. -/
namespace Go.Proofs.YtkjokchhffjidaaGreatDoor
open Go.RowKit

theorem invL_length (p : List Int) (k : Nat) : (invL p k).length = p.length := by
  induction k with
  | zero => simp [invL]
  | succ k ih => simp [invL, ih]
def inverseL (p : List Int) : List Int := if isP p = true then invL p p.length else []

set_option maxHeartbeats 400000 in
/-- permutation.inverse. -/
theorem implInv (A : Option Addr) (c n : Nat) (p : List Int) (w : World) (hp : RI w w.heap.size A p) (lp : Hid (p.length = n)) (ip : Hid (IsP p)) (hn : n ≤ 20) :
    Calls Tryz.prog 66 #[.slice A n c] w fun e w' => ∃ A' c', e = .returned (.slice A' n c') ∧ Slc w' w.heap.size A' n c' (invL p n) ∧ Below w.heap.size w w' := by
  obtain ⟨i0, hi, hz0, hz1, hz2⟩ := info_parts infoI
  go_enter Tryz.func66, Tryz.ntmps66
  go_wp2_with (first | (at_make; refine wpList_make_full _ rfl _ _ 63 rfl w.heap.size 2 i0 (.int .i64 0) 1 Tryz.underlying63 hi hz0 hz1 .i64 .i64 _ _ n rfl rfl rfl rfl (by rw [hz2]; omega) (by unfold maxLen; omega) (Nat.le_refl _) ?_; intro w1 hown1 hgrow1))
  have row1 := Row.made hown1
  have bel1 : Below w.heap.size w w1 := (Below.refl _ _).grown hgrow1 (Nat.le_refl _) (fun k e => nomatch e)
  clear hown1 hgrow1
  go_loopw [4, 5, 11] (fun _ _ i wr => ∃ k : Nat, k ≤ n ∧ i = .int .i64 (k : Nat) ∧ Row wr w.heap.size w.heap.size n n (invL p k) ∧ Below w.heap.size w wr) (fun _ _ i _ => n - (intOf i).toNat)
  case atStart => exact ⟨0, Nat.zero_le _, rfl, by unfold invL; rw [lp.out]; exact row1, bel1⟩
  case round =>
    clear row1 bel1
    obtain ⟨k, hk, rfl, row, bel⟩ := hrel
    by_cases hlt : k < n
    · obtain ⟨b, off, rfl, hb, hc⟩ := hp (by rw [lp.out]; omega)
      obtain ⟨y, ey⟩ : ∃ y, nx p k = y := ⟨_, rfl⟩
      have hy : y < n := by rw [← ey, ← lp.out]; exact nx_lt ip.out (by rw [lp.out]; exact hlt)
      have c1 := (bel.cell (p := ⟨b, off + k, none⟩) hb).trans (hc k (by rw [lp.out]; omega))
      rw [nx_val ip.out (by rw [lp.out]; exact hlt), ey] at c1
      have c3 := row.cell hy
      have f3 := row.free y
      have Ey := Lib.hid ey
      clear ey hc hp
      have Row2 := Lib.hid (row.store y (k : Int))
      have Bel2 := Lib.hid (bel.setCell (p := ⟨w.heap.size, y, none⟩) (Nat.le_refl _) (.int .i64 (k : Int)))
      obtain ⟨z, hz⟩ : ∃ z, (invL p k).getD y 0 = z := ⟨_, rfl⟩
      rw [hz] at c3
      clear row bel hz
      go_wp2
      go_roundw
      case rel => exact ⟨k + 1, by omega, by go_num, by rw [show invL p (k + 1) = (invL p k).set y (k : Int) from by rw [← Ey.out]; rfl]; exact Row2.out, Bel2.out⟩
      case measure => simp [intOf]; omega
    · have hkn : k = n := by omega
      subst hkn
      have Ro := Lib.hid row
      have Be := Lib.hid bel
      clear row bel
      go_wp2
      go_ret
      exact ⟨_, _, rfl, Ro.out.slc, Be.out⟩

end Go.Proofs.YtkjokchhffjidaaGreatDoor

/- Support, of the program and of the model, and the program's search for points. Condition: at most 2097152 entries. -/
namespace Go.Proofs.YtkjokchhffjidaaGreatDoor
open Go.RowKit

def ptsL (f : Nat → Bool) (k : Nat) : List Int := ((List.range k).filter f).map Int.ofNat
theorem ptsL_yes {f : Nat → Bool} {k : Nat} (h : f k = true) : ptsL f (k + 1) = ptsL f k ++ [(k : Int)] := by simp [ptsL, List.range_succ, List.filter_append, h]
theorem ptsL_no {f : Nat → Bool} {k : Nat} (h : f k = false) : ptsL f (k + 1) = ptsL f k := by simp [ptsL, List.range_succ, List.filter_append, h]
theorem ptsL_le (f : Nat → Bool) (k : Nat) : (ptsL f k).length ≤ k := by
  unfold ptsL; rw [List.length_map]; exact Nat.le_trans (List.length_filter_le _ _) (by simp)
def movesB (p : List Int) (x : Nat) : Bool := p.getD x 0 != (x : Int)
theorem supp_eq (p : List Int) : supp p = ptsL (movesB p) p.length := rfl
def suppL (p : List Int) : List Int := if isP p = true then supp p else []

end Go.Proofs.YtkjokchhffjidaaGreatDoor

/- Cycles, point by point: cycleFrom and startsCycle of the program, cycleOf and isSmallest of the model. Condition: the list is a permutation. -/
namespace Go.Proofs.YtkjokchhffjidaaGreatDoor
open Go.RowKit

def lenV : Value → Nat | .slice _ n _ => n | _ => 0
/-- The first k points from x on. -/
def cycTo (p : List Int) (x k : Nat) : List Int := (List.range k).map fun j => (it p j x : Int)
theorem cycTo_succ (p : List Int) (x k : Nat) : cycTo p x (k + 1) = cycTo p x k ++ [(it p k x : Int)] := by simp [cycTo, List.range_succ]
theorem cycTo_one (p : List Int) (x : Nat) : cycTo p x 1 = [(x : Int)] := rfl
theorem cyc_eq (p : List Int) (x : Nat) : cyc p x = cycTo p x (per p x) := rfl
theorem cyc_getD {p : List Int} {x j : Nat} (h : j < per p x) : (cyc p x).getD j 0 = (it p j x : Int) := by
  rw [List.getD_eq_getElem?_getD, List.getElem?_eq_getElem (by rw [cyc_length]; exact h)]; simp [cyc]

set_option maxHeartbeats 400000 in
/-- cycleFrom. -/
theorem implCycleFrom (A : Option Addr) (c n x : Nat) (p : List Int) (w : World) (hp : RI w w.heap.size A p) (lp : Hid (p.length = n)) (ip : Hid (IsP p)) (hx : x < n) (hn : n ≤ 20) :
    Calls Tryz.prog 89 #[.slice A n c, .int .i64 x] w fun e w' => ∃ A' m c', e = .returned (.slice A' m c') ∧ Slc w' w.heap.size A' m c' (cyc p x) ∧ m ≤ 20 ∧ Below w.heap.size w w' := by
  obtain ⟨b, off, rfl, hb, hc⟩ := hp (by rw [lp.out]; omega)
  have C : Hid (∀ j, j < n → w.cell? ⟨b, off + j, none⟩ = some (.int .i64 (nx p j : Int))) := Lib.hid fun j hj => by rw [← nx_val ip.out (by rw [lp.out]; exact hj)]; exact hc j (by rw [lp.out]; exact hj)
  have PS := Lib.hid (per_spec ip.out (x := x) (by rw [lp.out]; exact hx))
  have hper : per p x ≤ n := by rw [← lp.out]; exact PS.out.2.1
  clear hc
  have c0 := C.out x hx
  rw [World.cell?_alloc_lt w (.cells #[.int .i64 x] 2) ⟨b, off + x, none⟩ hb |>.symm] at c0
  go_enter Tryz.func89, Tryz.ntmps89
  go_wp2
  go_loopw [5, 6] (fun v y wr => ∃ k A' c', 1 ≤ k ∧ k ≤ per p x ∧ v = .slice A' k c' ∧ y = .int .i64 (it p k x : Nat) ∧ Slc wr w.heap.size A' k c' (cycTo p x k) ∧ Below w.heap.size w wr) (fun v _ _ => per p x - lenV v)
  case atStart => exact ⟨1, _, _, Nat.le_refl _, PS.out.1, rfl, rfl, Slc.lit1 w _ x (Nat.le_refl _), (Below.refl _ _).alloc (Nat.le_refl _) _⟩
  case round =>
    clear c0
    obtain ⟨k, A', c', hk1, hk, rfl, rfl, own, bel⟩ := hrel
    have Own' := Lib.hid own
    have Bel := Lib.hid bel
    clear own bel
    by_cases hlt : k < per p x
    · have hne := PS.out.2.2.2 k hk1 hlt
      obtain ⟨y, ey⟩ : ∃ y, it p k x = y := ⟨_, rfl⟩
      have hy : y < n := by rw [← ey, ← lp.out]; exact it_lt ip.out (by rw [lp.out]; exact hx) k
      rw [ey] at hne ⊢
      have Ey := Lib.hid ey
      have hd : ((y : Int) != (x : Int)) = true := by rw [bne_iff_ne]; omega
      have hd' : ((y : Int) == (x : Int)) = false := by rw [beq_eq_false_iff_ne]; omega
      clear ey hne
      go_wp2_with (first | (at_builtin; refine wpList_app1 rfl _ _ rfl w.heap.size A' k c' _ rfl (Own'.out.alloc _) wr.heap.size y rfl (by rw [World.cell?_alloc_at _ _ _ _ rfl]; rfl) (by omega) (by have := Bel.out.size; simp; omega) ?_; intro A1 c1' w1 own1 hg1; have Own1 := Lib.hid own1; have Bel1 : Hid (Below w.heap.size w w1) := Lib.hid ((Bel.out.alloc Bel.out.size _).grown hg1 (by have := Bel.out.size; simp; omega) (fun j hj => (Own'.out.lt_ j hj).1)); clear own1 hg1; have c1 := (Bel1.out.cell (p := ⟨b, off + y, none⟩) hb).trans (C.out y hy)))
      go_roundw
      case rel => exact ⟨k + 1, A1, c1', by omega, by omega, rfl, by show Value.int .i64 (nx p y : Int) = .int .i64 ((nx p (it p k x) : Nat) : Int); rw [Ey.out], by rw [cycTo_succ, Ey.out]; exact Own1.out, Bel1.out⟩
      case measure => simp [lenV]; omega
    · have hkn : k = per p x := by omega
      have hx' := PS.out.2.2.1
      subst hkn
      rw [hx']
      have hd : ((x : Int) != (x : Int)) = false := by simp
      clear hx'
      go_wp2
      go_ret
      exact ⟨_, _, _, rfl, by rw [cyc_eq]; exact Own'.out, by omega, Bel.out⟩
set_option maxHeartbeats 400000 in
/-- cycleOf. -/
theorem specCycleOf (A : Option Addr) (c n x : Nat) (p : List Int) (w : World) (hp : RI w w.heap.size A p) (lp : Hid (p.length = n)) (ip : Hid (IsP p)) (hx : x < n) (hn : n ≤ 20) :
    Calls Tryz.prog 82 #[.slice A n c, .int .i64 x] w fun e w' => ∃ A' m c', e = .returned (.slice A' m c') ∧ Slc w' w.heap.size A' m c' (cyc p x) ∧ m ≤ 20 ∧ Below w.heap.size w w' := by
  obtain ⟨b, off, rfl, hb, hc⟩ := hp (by rw [lp.out]; omega)
  have C : Hid (∀ j, j < n → w.cell? ⟨b, off + j, none⟩ = some (.int .i64 (nx p j : Int))) := Lib.hid fun j hj => by rw [← nx_val ip.out (by rw [lp.out]; exact hj)]; exact hc j (by rw [lp.out]; exact hj)
  have PS := Lib.hid (per_spec ip.out (x := x) (by rw [lp.out]; exact hx))
  have hper : per p x ≤ n := by rw [← lp.out]; exact PS.out.2.1
  clear hc
  have c0 := C.out x hx
  rw [World.cell?_alloc_lt w (.cells #[.int .i64 x] 2) ⟨b, off + x, none⟩ hb |>.symm] at c0
  go_enter Tryz.func82, Tryz.ntmps82
  go_wp2
  go_loopw [5, 6] (fun v y wr => ∃ k A' c', 1 ≤ k ∧ k ≤ per p x ∧ v = .slice A' k c' ∧ y = .int .i64 (it p k x : Nat) ∧ Slc wr w.heap.size A' k c' (cycTo p x k) ∧ Below w.heap.size w wr) (fun v _ _ => per p x - lenV v)
  case atStart => exact ⟨1, _, _, Nat.le_refl _, PS.out.1, rfl, rfl, Slc.lit1 w _ x (Nat.le_refl _), (Below.refl _ _).alloc (Nat.le_refl _) _⟩
  case round =>
    clear c0
    obtain ⟨k, A', c', hk1, hk, rfl, rfl, own, bel⟩ := hrel
    have Own' := Lib.hid own
    have Bel := Lib.hid bel
    clear own bel
    by_cases hlt : k < per p x
    · have hne := PS.out.2.2.2 k hk1 hlt
      obtain ⟨y, ey⟩ : ∃ y, it p k x = y := ⟨_, rfl⟩
      have hy : y < n := by rw [← ey, ← lp.out]; exact it_lt ip.out (by rw [lp.out]; exact hx) k
      rw [ey] at hne ⊢
      have Ey := Lib.hid ey
      have hd : ((y : Int) != (x : Int)) = true := by rw [bne_iff_ne]; omega
      have hd' : ((y : Int) == (x : Int)) = false := by rw [beq_eq_false_iff_ne]; omega
      clear ey hne
      go_wp2_with (first | (at_builtin; refine wpList_app1 rfl _ _ rfl w.heap.size A' k c' _ rfl (Own'.out.alloc _) wr.heap.size y rfl (by rw [World.cell?_alloc_at _ _ _ _ rfl]; rfl) (by omega) (by have := Bel.out.size; simp; omega) ?_; intro A1 c1' w1 own1 hg1; have Own1 := Lib.hid own1; have Bel1 : Hid (Below w.heap.size w w1) := Lib.hid ((Bel.out.alloc Bel.out.size _).grown hg1 (by have := Bel.out.size; simp; omega) (fun j hj => (Own'.out.lt_ j hj).1)); clear own1 hg1; have c1 := (Bel1.out.cell (p := ⟨b, off + y, none⟩) hb).trans (C.out y hy)))
      go_roundw
      case rel => exact ⟨k + 1, A1, c1', by omega, by omega, rfl, by show Value.int .i64 (nx p y : Int) = .int .i64 ((nx p (it p k x) : Nat) : Int); rw [Ey.out], by rw [cycTo_succ, Ey.out]; exact Own1.out, Bel1.out⟩
      case measure => simp [lenV]; omega
    · have hkn : k = per p x := by omega
      have hx' := PS.out.2.2.1
      subst hkn
      rw [hx']
      have hd : ((x : Int) != (x : Int)) = false := by simp
      clear hx'
      go_wp2
      go_ret
      exact ⟨_, _, _, rfl, by rw [cyc_eq]; exact Own'.out, by omega, Bel.out⟩

theorem st_true {p : List Int} {x : Nat} (h : ∀ j, j < per p x → x ≤ it p j x) : st p x = true := by
  unfold st; rw [List.all_eq_true]; intro j hj; rw [decide_eq_true_eq]; exact h j (List.mem_range.1 hj)
theorem st_false {p : List Int} {x j : Nat} (hj : j < per p x) (h : it p j x < x) : st p x = false := by
  unfold st; rw [List.all_eq_false]; exact ⟨j, List.mem_range.2 hj, by simp; omega⟩

set_option maxHeartbeats 400000 in
/-- startsCycle. -/
theorem implStarts (A : Option Addr) (c n x : Nat) (p : List Int) (w : World) (B : Nat) (hp : RI w B A p) (lp : Hid (p.length = n)) (ip : Hid (IsP p)) (hx : x < n) (hn : n ≤ 20) (ans : Bool) (ha : Hid (st p x = ans)) :
    Calls Tryz.prog 88 #[.slice A n c, .int .i64 x] w fun e w' => e = .returned (.bool ans) ∧ w = w' := by
  obtain ⟨b, off, rfl, hb, hc⟩ := hp (by rw [lp.out]; omega)
  have C : Hid (∀ j, j < n → w.cell? ⟨b, off + j, none⟩ = some (.int .i64 (nx p j : Int))) := Lib.hid fun j hj => by rw [← nx_val ip.out (by rw [lp.out]; exact hj)]; exact hc j (by rw [lp.out]; exact hj)
  have PS := Lib.hid (per_spec ip.out (x := x) (by rw [lp.out]; exact hx))
  have hper : per p x ≤ n := by rw [← lp.out]; exact PS.out.2.1
  clear hc
  have c0 := C.out x hx
  go_enter Tryz.func88, Tryz.ntmps88
  go_wp2
  go_loopg [5] (per p x) (fun g y wr => ∃ k, 1 ≤ k ∧ k + g = per p x + 1 ∧ 1 ≤ g ∧ y = .int .i64 (it p k x : Nat) ∧ (∀ j, 1 ≤ j → j < k → x < it p j x) ∧ w = wr)
  case atStart => exact ⟨1, Nat.le_refl _, by omega, PS.out.1, rfl, fun j h1 h2 => absurd h2 (by omega), rfl⟩
  case round =>
    clear c0
    obtain ⟨k, hk1, hkg, hg1, rfl, hall, rfl⟩ := hrel
    have Hall := Lib.hid hall
    have Hkg := Lib.hid hkg
    have hkle : k ≤ per p x := by omega
    clear hall hkg
    obtain ⟨y, ey⟩ : ∃ y, it p k x = y := ⟨_, rfl⟩
    have hy : y < n := by rw [← ey, ← lp.out]; exact it_lt ip.out (by rw [lp.out]; exact hx) k
    rw [ey]
    have Ey := Lib.hid ey
    clear ey
    by_cases hgt : x < y
    · have hd : decide ((x : Int) < (y : Int)) = true := by simpa using hgt
      have c1 := C.out y hy
      have hlt : k < per p x := by
        have h1 := PS.out.2.2.1
        have h2 := Ey.out
        rcases Nat.lt_or_ge k (per p x) with h | h
        · exact h
        · have : k = per p x := by omega
          rw [this, h1] at h2; omega
      go_wp2
      go_roundg (gk - 1)
      case measure => omega
      case rel =>
        have := Hkg.out
        exact ⟨k + 1, by omega, by omega, by omega, by show Value.int .i64 (nx p y : Int) = .int .i64 ((nx p (it p k x) : Nat) : Int); rw [Ey.out], fun j h1 h2 => by
          by_cases e : j = k
          · subst e; rw [Ey.out]; exact hgt
          · exact Hall.out j h1 (by omega), rfl⟩
    · have hd : decide ((x : Int) < (y : Int)) = false := by simp; omega
      have Fin : Hid (((y : Int) == (x : Int)) = ans) := by
        apply Lib.hid
        rw [← ha.out]
        by_cases e : y = x
        · have hkp : k = per p x := by
            rcases Nat.lt_or_ge k (per p x) with h | h
            · exact absurd (Ey.out.trans e) (PS.out.2.2.2 k hk1 h)
            · omega
          rw [st_true (fun j hj => by
            by_cases h0 : j = 0
            · subst h0; exact Nat.le_refl _
            · exact Nat.le_of_lt (Hall.out j (by omega) (by omega)))]
          rw [beq_iff_eq]; omega
        · have hlt : k < per p x := by
            rcases Nat.lt_or_ge k (per p x) with h | h
            · exact h
            · have h3 : k = per p x := by omega
              have h2 := Ey.out
              rw [h3, PS.out.2.2.1] at h2; omega
          rw [st_false hlt (by rw [Ey.out]; omega)]
          rw [beq_eq_false_iff_ne]; omega
      go_wp2
      go_ret
      exact ⟨ret_bool Fin.out, rfl⟩

set_option maxHeartbeats 400000 in
/-- isSmallest, at the points that follow x. -/
theorem specSmallest (A : Option Addr) (c m x : Nat) (p : List Int) (w : World) (hp : RI w w.heap.size A (cyc p x)) (lm : Hid (per p x = m)) (hm1 : 1 ≤ m) (hm : m ≤ 20) (ans : Bool) (ha : Hid (st p x = ans)) :
    Calls Tryz.prog 83 #[.slice A m c] w fun e w' => e = .returned (.bool ans) ∧ Below w.heap.size w w' := by
  obtain ⟨b, off, rfl, hb, hc⟩ := hp (by rw [cyc_length, lm.out]; omega)
  have C : Hid (∀ j, j < m → w.cell? ⟨b, off + j, none⟩ = some (.int .i64 (it p j x : Int))) := Lib.hid fun j hj => by
    rw [← cyc_getD (p := p) (x := x) (j := j) (by rw [lm.out]; exact hj)]; exact hc j (by rw [cyc_length, lm.out]; exact hj)
  clear hc
  refine quiet_below ?_
  have c0 := C.out 0 (by omega)
  rw [Nat.add_zero] at c0
  have c0' : w.cell? ⟨b, off, none⟩ = some (.int .i64 (x : Int)) := c0
  clear c0
  go_enter Tryz.func83, Tryz.ntmps83
  go_wp2
  go_loopw [3] (fun i wr => ∃ k : Nat, 1 ≤ k ∧ k ≤ m ∧ i = .int .i64 (k : Nat) ∧ (∀ j, j < k → x ≤ it p j x) ∧ ∃ q, wr = w.drewN q) (fun i _ => m - (intOf i).toNat)
  case atStart => exact ⟨1, Nat.le_refl _, hm1, rfl, fun j h => by rw [show j = 0 from by omega]; exact Nat.le_refl _, 0, rfl⟩
  case round =>
    obtain ⟨k, hk1, hk, rfl, hall, q, rfl⟩ := hrel
    have Hall := Lib.hid hall
    clear hall
    by_cases hlt : k < m
    · obtain ⟨y, ey⟩ : ∃ y, it p k x = y := ⟨_, rfl⟩
      have c1 := C.out k hlt
      rw [ey] at c1
      have Ey := Lib.hid ey
      clear ey
      have p1 : (0 : Int) ≤ k := by omega
      have p2 : (k : Int) < m := by omega
      have p3 : (0 : Int) < m := by omega
      by_cases hyx : y < x
      · have hd : decide ((y : Int) < (x : Int)) = true := by simpa using hyx
        have Fin : Hid (ans = false) := Lib.hid (by rw [← ha.out]; exact st_false (by rw [lm.out]; exact hlt) (by rw [Ey.out]; exact hyx))
        go_wp2
        go_quiet (fail)
        go_wp2
        go_ret
        exact ⟨ret_bool Fin.out.symm, _, World.drewN_drewN _ _ _⟩
      · have hd : decide ((y : Int) < (x : Int)) = false := by simp; omega
        go_wp2
        go_quiet (fail)
        go_wp2
        go_roundw
        case rel => exact ⟨k + 1, by omega, by omega, by go_num, fun j hj => by
          by_cases e : j = k
          · subst e; rw [Ey.out]; omega
          · exact Hall.out j (by omega), _, rfl⟩
        case measure => simp [intOf]; omega
    · have hkm : k = m := by omega
      subst hkm
      have Fin : Hid (ans = true) := Lib.hid (by rw [← ha.out]; exact st_true (by rw [lm.out]; exact Hall.out))
      go_wp2
      go_ret
      exact ⟨ret_bool Fin.out.symm, _, rfl⟩

set_option maxHeartbeats 400000 in
/-- pointsWhere at a method value: the smallest points of the cycles. -/
theorem pwStarts (A : Option Addr) (c n : Nat) (p : List Int) (w : World) (hp : RI w w.heap.size A p) (lp : Hid (p.length = n)) (ip : Hid (IsP p)) (hn : n ≤ 20) :
    Calls Tryz.prog 87 #[.int .i64 n, .func (.func 88) #[.slice A n c] #[]] w fun e w' => ∃ A' n' c', e = .returned (.slice A' n' c') ∧ Slc w' w.heap.size A' n' c' (ptsL (st p) n) ∧ n' ≤ n ∧ Below w.heap.size w w' := by
  go_enter Tryz.func87, Tryz.ntmps87
  go_wp2
  go_loopw [5, 6, 8] (fun v _ i wr => ∃ k A' m c', k ≤ n ∧ m ≤ k ∧ i = .int .i64 (k : Nat) ∧ v = .slice A' m c' ∧ Slc wr w.heap.size A' m c' (ptsL (st p) k) ∧ Below w.heap.size w wr) (fun _ _ i _ => n - (intOf i).toNat)
  case atStart => exact ⟨0, _, _, _, Nat.zero_le _, Nat.le_refl _, rfl, rfl, Slc.nil_, Below.refl _ _⟩
  case round =>
    obtain ⟨k, A', m, c', hk, hmk, rfl, rfl, own, bel⟩ := hrel
    have Own' := Lib.hid own
    have Bel := Lib.hid bel
    clear own bel
    by_cases hlt : k < n
    · rcases hmv : st p k with _ | _
      · have Hm := Lib.hid hmv
        clear hmv
        go_wp2_with fail
        refine (implStarts A c n k p wr _ (hp.below Bel.out (Nat.le_refl _)) lp ip hlt hn false Hm).mono ?_
        rintro e w1 ⟨rfl, rfl⟩
        go_wp2_with fail
        go_roundw
        case rel => exact ⟨k + 1, A', m, c', by omega, by omega, by go_num, rfl, by rw [ptsL_no Hm.out]; exact Own'.out, Bel.out⟩
        case measure => simp [intOf]; omega
      · have Hm := Lib.hid hmv
        clear hmv
        go_wp2_with fail
        refine (implStarts A c n k p wr _ (hp.below Bel.out (Nat.le_refl _)) lp ip hlt hn true Hm).mono ?_
        rintro e w1 ⟨rfl, rfl⟩
        go_wp2_with (first | (at_builtin; refine wpList_app1 rfl _ _ rfl w.heap.size A' m c' _ rfl (Own'.out.alloc _) wr.heap.size k rfl (by rw [World.cell?_alloc_at _ _ _ _ rfl]; rfl) (by omega) (by have := Bel.out.size; simp; omega) ?_; intro A1 c1' w1 own1 hg1))
        have Own1 := Lib.hid own1
        have Bel1 : Hid (Below w.heap.size w w1) := Lib.hid ((Bel.out.alloc Bel.out.size _).grown hg1 (by have := Bel.out.size; simp; omega) (fun j hj => (Own'.out.lt_ j hj).1))
        clear own1 hg1
        go_wp2
        go_roundw
        case rel => exact ⟨k + 1, A1, m + 1, c1', by omega, by omega, by go_num, rfl, by rw [ptsL_yes Hm.out]; exact Own1.out, Bel1.out⟩
        case measure => simp [intOf]; omega
    · have hkn : k = n := by omega
      subst hkn
      go_wp2
      go_ret
      exact ⟨_, _, _, rfl, Own'.out, hmk, Bel.out⟩

end Go.Proofs.YtkjokchhffjidaaGreatDoor

/- All cycles of a permutation, of the program and of the model. Condition: the list is a permutation. -/
namespace Go.Proofs.YtkjokchhffjidaaGreatDoor
open Go.RowKit

/-- The smallest points of the cycles, as far as k. -/
def heads (p : List Int) (k : Nat) : List Nat := (List.range k).filter (st p)
theorem heads_yes {p : List Int} {k : Nat} (h : st p k = true) : heads p (k + 1) = heads p k ++ [k] := by simp [heads, List.range_succ, List.filter_append, h]
theorem heads_no {p : List Int} {k : Nat} (h : st p k = false) : heads p (k + 1) = heads p k := by simp [heads, List.range_succ, List.filter_append, h]
theorem cycs_heads (p : List Int) : cycs p = (heads p p.length).map (cyc p) := rfl
theorem heads_le (p : List Int) (k : Nat) : (heads p k).length ≤ k := Nat.le_trans (List.length_filter_le _ _) (by simp)
theorem pts_heads (p : List Int) (k : Nat) : ptsL (st p) k = (heads p k).map Int.ofNat := rfl
theorem heads_lt {p : List Int} {n k x : Nat} (hk : k < (heads p n).length) (e : (heads p n).getD k 0 = x) : x < n := by
  have : x ∈ heads p n := by rw [← e, List.getD_eq_getElem?_getD, List.getElem?_eq_getElem hk]; exact List.getElem_mem hk
  exact List.mem_range.1 (List.mem_filter.1 this).1

set_option maxHeartbeats 800000 in
/-- allCycles. -/
theorem implAll (A : Option Addr) (c n : Nat) (p : List Int) (w : World) (hp : RI w w.heap.size A p) (lp : Hid (p.length = n)) (ip : Hid (IsP p)) (hn : n ≤ 20) :
    Calls Tryz.prog 78 #[.slice A n c] w fun e w' => ∃ A' m c' vs, e = .returned (.slice A' m c') ∧ SS w' w.heap.size w.heap.size A' m c' vs (cycs p) ∧ m ≤ n ∧ Below w.heap.size w w' := by
  have hmf : ∀ (fn : Fn) (first cap : Array Value) (w : World), (Instr.makeFunc fn first cap).run Tryz.prog w = .ok (.func fn first cap) w := fun _ _ _ _ => rfl
  go_enter Tryz.func78, Tryz.ntmps78
  go_wp2_with fail
  refine (pwStarts A c n p w hp lp ip hn).mono ?_
  rintro e w1 ⟨A1, m, c1, rfl, s1, hm, b1⟩
  have S1 := Lib.hid s1
  have B1 := Lib.hid b1
  have lm : Hid ((heads p n).length = m) := Lib.hid (by rw [← s1.1, pts_heads, List.length_map])
  clear s1 b1
  go_wp2_with fail
  go_loopw [3, 5, 12] (fun v _ i wr => ∃ k A' c' vs, k ≤ m ∧ i = .int .i64 (k : Nat) ∧ v = .slice A' k c' ∧ SS wr w1.heap.size w1.heap.size A' k c' vs (((heads p n).take k).map (cyc p)) ∧ Below w1.heap.size w1 wr) (fun _ _ i _ => m - (intOf i).toNat)
  case atStart => exact ⟨0, _, _, _, Nat.zero_le _, rfl, rfl, SS.nil_, Below.refl _ _⟩
  case round =>
    obtain ⟨k, A', c', vs, hk, rfl, rfl, ss, bel⟩ := hrel
    have Ss := Lib.hid ss
    have Bel := Lib.hid bel
    have Bw : Hid (Below w.heap.size w wr) := Lib.hid (btr B1.out bel)
    clear ss bel
    by_cases hlt : k < m
    · obtain ⟨x, ex⟩ : ∃ x, (heads p n).getD k 0 = x := ⟨_, rfl⟩
      have hx : x < n := heads_lt (by rw [lm.out]; exact hlt) ex
      have R1 := S1.out.ri_.below Bel.out (Nat.le_refl _)
      obtain ⟨b, off, rfl, hb, hc⟩ := R1 (by rw [S1.out.1]; omega)
      have c0 := hc k (by rw [S1.out.1]; exact hlt)
      have ev : (ptsL (st p) n).getD k 0 = (x : Int) := by
        rw [pts_heads, List.getD_eq_getElem?_getD, List.getElem?_map, ← ex, List.getD_eq_getElem?_getD, List.getElem?_eq_getElem (by rw [lm.out]; exact hlt)]; rfl
      rw [ev] at c0
      have Ex := Lib.hid ex
      clear ex ev hc R1
      go_wp2_with fail
      refine (implCycleFrom A c n x p wr (hp.up Bw.out) lp ip hx hn).mono ?_
      rintro e w2 ⟨A2, m2, c2, rfl, s2, hm2, b2⟩
      have S2 := Lib.hid s2
      have B2 := Lib.hid b2
      have Bel2 : Hid (Below w1.heap.size w1 w2) := Lib.hid (btr Bel.out b2)
      have Ss2 := Lib.hid (Ss.out.up b2)
      have D2 := Lib.hid (lies_dis Ss.out s2.lies (Nat.le_refl _))
      clear s2 b2 c0
      go_wp2_with (first | (at_builtin; refine wpList_app2 rfl _ _ rfl rfl (Ss2.out.alloc _) w2.heap.size A2 m2 c2 _ rfl (by rw [World.cell?_alloc_at _ _ _ _ rfl]; rfl) ((S2.out.mono Bel.out.size).alloc _) D2.out (by omega) (by have := Bel2.out.size; simp; omega) ?_; intro A3 c3 w3 ss3 hg3))
      have Ss3 := Lib.hid ss3
      have Bel3 : Hid (Below w1.heap.size w1 w3) := Lib.hid ((Bel2.out.alloc Bel2.out.size _).grown hg3 (by have := Bel2.out.size; simp; omega) (fun j hj => (Ss.out.lt_ j hj).1))
      clear ss3 hg3
      go_wp2
      go_roundw
      case rel =>
        refine ⟨k + 1, A3, c3, vs ++ [(A2, m2, c2)], by omega, by go_num, rfl, ?_, Bel3.out⟩
        rw [List.take_succ_eq_append_getElem (by rw [lm.out]; exact hlt), List.map_append]
        have e2 : (heads p n)[k]'(by rw [lm.out]; exact hlt) = x := by rw [← Ex.out, List.getD_eq_getElem?_getD, List.getElem?_eq_getElem (by rw [lm.out]; exact hlt)]; rfl
        rw [e2]
        exact Ss3.out
      case measure => simp [intOf]; omega
    · have hkm : k = m := by omega
      subst hkm
      have Fin : Hid ((((heads p n).take k).map (cyc p)) = cycs p) := Lib.hid (by rw [List.take_of_length_le (by rw [lm.out]; exact Nat.le_refl _), cycs_heads, lp.out])
      go_wp2
      go_ret
      exact ⟨_, _, _, _, rfl, by rw [← Fin.out]; exact Ss.out.mono B1.out.size B1.out.size, hm, Bw.out⟩

set_option maxHeartbeats 800000 in
/-- The model's allCycles. -/
theorem specAll (A : Option Addr) (c n : Nat) (p : List Int) (w : World) (hp : RI w w.heap.size A p) (lp : Hid (p.length = n)) (ip : Hid (IsP p)) (hn : n ≤ 20) :
    Calls Tryz.prog 73 #[.slice A n c] w fun e w' => ∃ A' m c' vs, e = .returned (.slice A' m c') ∧ SS w' w.heap.size w.heap.size A' m c' vs (cycs p) ∧ m ≤ n ∧ Below w.heap.size w w' := by
  go_enter Tryz.func73, Tryz.ntmps73
  go_wp2
  go_loopw [3, 4, 5] (fun v i _ wr => ∃ k A' m c' vs, k ≤ n ∧ m ≤ k ∧ i = .int .i64 (k : Nat) ∧ v = .slice A' m c' ∧ SS wr w.heap.size w.heap.size A' m c' vs ((heads p k).map (cyc p)) ∧ Below w.heap.size w wr) (fun _ i _ _ => n - (intOf i).toNat)
  case atStart => exact ⟨0, _, _, _, _, Nat.zero_le _, Nat.le_refl _, rfl, rfl, SS.lit0 w _ _ (Nat.le_refl _), (Below.refl _ _).alloc (Nat.le_refl _) _⟩
  case round =>
    obtain ⟨k, A', m, c', vs, hk, hmk, rfl, rfl, ss, bel⟩ := hrel
    have Ss := Lib.hid ss
    have Bel := Lib.hid bel
    clear ss bel
    by_cases hlt : k < n
    · have Per := Lib.hid (per_spec ip.out (x := k) (by rw [lp.out]; exact hlt))
      have hp1 := Per.out.1
      have hp2 : per p k ≤ 20 := by have := Per.out.2.1; have := lp.out; omega
      rcases hst : st p k with _ | _
      · have Hst := Lib.hid hst
        clear hst
        go_wp2_with fail
        refine (specCycleOf A c n k p wr (hp.up Bel.out) lp ip hlt hn).mono ?_
        rintro e w2 ⟨A2, m2, c2, rfl, s2, hm2, b2⟩
        have S2 := Lib.hid s2
        have Bel2 : Hid (Below w.heap.size w w2) := Lib.hid (btr Bel.out b2)
        have Ss2 := Lib.hid (Ss.out.up b2)
        have lm2 : Hid (per p k = m2) := Lib.hid (by rw [← s2.1, cyc_length])
        have h1m2 : 1 ≤ m2 := by rw [← lm2.out]; exact hp1
        clear s2 b2
        go_wp2_with fail
        refine (specSmallest A2 c2 m2 k p w2 S2.out.ri_ lm2 h1m2 hm2 false Hst).mono ?_
        rintro e w3 ⟨rfl, b3⟩
        have Bel3 : Hid (Below w.heap.size w w3) := Lib.hid (btr Bel2.out b3)
        have Ss3 := Lib.hid (Ss2.out.up b3)
        clear b3
        go_wp2_with fail
        go_roundw
        case rel => exact ⟨k + 1, A', m, c', vs, by omega, by omega, by go_num, rfl, by rw [heads_no Hst.out]; exact Ss3.out, Bel3.out⟩
        case measure => simp [intOf]; omega
      · have Hst := Lib.hid hst
        clear hst
        go_wp2_with fail
        refine (specCycleOf A c n k p wr (hp.up Bel.out) lp ip hlt hn).mono ?_
        rintro e w2 ⟨A2, m2, c2, rfl, s2, hm2, b2⟩
        have S2 := Lib.hid s2
        have Bel2 : Hid (Below w.heap.size w w2) := Lib.hid (btr Bel.out b2)
        have Ss2 := Lib.hid (Ss.out.up b2)
        have D2 := Lib.hid (lies_dis Ss.out s2.lies (Nat.le_refl _))
        have lm2 : Hid (per p k = m2) := Lib.hid (by rw [← s2.1, cyc_length])
        have h1m2 : 1 ≤ m2 := by rw [← lm2.out]; exact hp1
        clear s2 b2
        go_wp2_with fail
        refine (specSmallest A2 c2 m2 k p w2 S2.out.ri_ lm2 h1m2 hm2 true Hst).mono ?_
        rintro e w3 ⟨rfl, b3⟩
        have Bel3 : Hid (Below w.heap.size w w3) := Lib.hid (btr Bel2.out b3)
        have Ss3 := Lib.hid (Ss2.out.up b3)
        have S3 := Lib.hid (S2.out.up b3)
        clear b3
        go_wp2_with (first | (at_builtin; refine wpList_app2 rfl _ _ rfl rfl (Ss3.out.alloc _) w3.heap.size A2 m2 c2 _ rfl (by rw [World.cell?_alloc_at _ _ _ _ rfl]; rfl) ((S3.out.mono Bel.out.size).alloc _) D2.out (by omega) (by have := Bel3.out.size; simp; omega) ?_; intro A4 c4 w4 ss4 hg4))
        have Ss4 := Lib.hid ss4
        have Bel4 : Hid (Below w.heap.size w w4) := Lib.hid ((Bel3.out.alloc Bel3.out.size _).grown hg4 (by have := Bel3.out.size; simp; omega) (fun j hj => (Ss.out.lt_ j hj).1))
        clear ss4 hg4
        go_wp2
        go_roundw
        case rel => exact ⟨k + 1, A4, m + 1, c4, _, by omega, by omega, by go_num, rfl, by rw [heads_yes Hst.out, List.map_append]; exact Ss4.out, Bel4.out⟩
        case measure => simp [intOf]; omega
    · have hkn : k = n := by omega
      subst hkn
      have Fin : Hid ((heads p k).map (cyc p) = cycs p) := Lib.hid (by rw [cycs_heads, lp.out])
      go_wp2
      go_ret
      exact ⟨_, _, _, _, rfl, by rw [← Fin.out]; exact Ss.out, hmk, Bel.out⟩
end Go.Proofs.YtkjokchhffjidaaGreatDoor

/- Cycles, of the program and of the model; the helpers on slices of slices. Condition: at most 2097152 entries. -/
namespace Go.Proofs.YtkjokchhffjidaaGreatDoor
open Go.RowKit

/-- What Cycles answers. -/
def cyclesL (p : List Int) : List (List Int) := if isP p = true then cycl p else []
def longC (c : List Int) : Bool := decide (1 < c.length)
theorem cycl_eq (p : List Int) : cycl p = (cycs p).filter longC := rfl
theorem fil_yes {l : List (List Int)} {k : Nat} {y : List Int} (hk : k < l.length) (e : l.getD k [] = y) (h : longC y = true) : (l.take (k + 1)).filter longC = (l.take k).filter longC ++ [y] := by
  rw [List.getD_eq_getElem?_getD, List.getElem?_eq_getElem hk] at e
  have e' : l[k] = y := e
  rw [List.take_succ_eq_append_getElem hk, List.filter_append, e']
  simp [h]
theorem fil_no {l : List (List Int)} {k : Nat} {y : List Int} (hk : k < l.length) (e : l.getD k [] = y) (h : longC y = false) : (l.take (k + 1)).filter longC = (l.take k).filter longC := by
  rw [List.getD_eq_getElem?_getD, List.getElem?_eq_getElem hk] at e
  have e' : l[k] = y := e
  rw [List.take_succ_eq_append_getElem hk, List.filter_append, e']
  simp [h]

set_option maxHeartbeats 800000 in
/-- The program's Cycles. -/
theorem implCycles (A : Option Addr) (c n : Nat) (p : List Int) (w : World) (hp : RI w w.heap.size A p) (lp : Hid (p.length = n)) (hn : n ≤ 2097152) :
    Calls Tryz.prog 69 #[.slice A n c] w fun e w' => ∃ A' m c' vs, e = .returned (.slice A' m c') ∧ SS w' w.heap.size w.heap.size A' m c' vs (cyclesL p) ∧ m ≤ 20 ∧ Below w.heap.size w w' := by
  rcases hs : isP p with _ | _
  · have Fin : Hid (cyclesL p = []) := Lib.hid (if_neg (by rw [hs]; decide))
    go_enter Tryz.func69, Tryz.ntmps69
    go_wp2_with fail
    refine (implIsP A c n p w hp lp hn).mono ?_
    rintro e w1 ⟨rfl, b1⟩
    have B1 := Lib.hid b1
    clear b1
    go_wp2_with fail
    go_ret
    exact ⟨_, _, _, _, rfl, by rw [Fin.out]; exact SS.nil_, Nat.zero_le _, B1.out⟩
  · have Ip := Lib.hid (isP_iff.1 hs)
    have Fin : Hid (cyclesL p = (cycs p).filter longC) := Lib.hid (if_pos hs)
    have hn20 : n ≤ 20 := by rw [← lp.out]; exact Ip.out.le
    go_enter Tryz.func69, Tryz.ntmps69
    go_wp2_with fail
    refine (implIsP A c n p w hp lp hn).mono ?_
    rintro e w0 ⟨rfl, b0⟩
    have B0 := Lib.hid b0
    clear b0
    go_wp2_with fail
    refine (implAll A c n p w0 (hp.up B0.out) lp Ip hn20).mono ?_
    rintro e w1 ⟨A1, M, c1, vs, rfl, s1, hm, b1⟩
    have S1 := Lib.hid (s1.mono B0.out.size B0.out.size)
    have B1 : Hid (Below w.heap.size w w1) := Lib.hid (btr B0.out b1)
    clear s1 b1
    go_wp2_with fail
    clear hs
    go_loopw [3, 5, 12] (fun v _ i wr => ∃ k m A' c' vs', k ≤ M ∧ m ≤ k ∧ i = .int .i64 (k : Nat) ∧ v = .slice A' m c' ∧ SS wr w1.heap.size w.heap.size A' m c' vs' (((cycs p).take k).filter longC) ∧
      (∀ i, i < m → ∃ j, j < k ∧ vs'.getD i sd0 = vs.getD j sd0) ∧ Below w1.heap.size w1 wr) (fun _ _ i _ => M - (intOf i).toNat)
    case atStart => exact ⟨0, 0, _, _, [], Nat.zero_le _, Nat.le_refl _, rfl, rfl, SS.nil_, fun i h => absurd h (by omega), Below.refl _ _⟩
    case round =>
      obtain ⟨k, m, A', c', vs', hk, hmk, rfl, rfl, ss, sel, bel⟩ := hrel
      have Ss := Lib.hid ss
      have Sel := Lib.hid sel
      have Bel := Lib.hid bel
      have Bw : Hid (Below w.heap.size w wr) := Lib.hid (btr B1.out bel)
      clear ss sel bel
      by_cases hlt : k < M
      · obtain ⟨g, rfl, hg1, hg2, hc⟩ := S1.out.at_ (by omega)
        have c0 := (Bel.out.cell (p := ⟨g, k, none⟩) hg2).trans (hc k hlt)
        obtain ⟨y, ey⟩ : ∃ y, (cycs p).getD k [] = y := ⟨_, rfl⟩
        have hrow := (S1.out.row k hlt).up Bel.out
        rw [ey] at hrow
        have hdis : ∀ i, i < m → (sval (vs'.getD i sd0)).ownBlock = none ∨ (sval (vs'.getD i sd0)).ownBlock ≠ (Value.slice (vs.getD k sd0).1 (vs.getD k sd0).2.1 (vs.getD k sd0).2.2).ownBlock := fun i hi => by
          obtain ⟨j, hj, e⟩ := Sel.out i hi
          rw [e]
          exact S1.out.dis j k hj hlt
        have Sel2 : Hid (∀ i, i < m + 1 → ∃ j, j < k + 1 ∧ (vs' ++ [((vs.getD k sd0).1, (vs.getD k sd0).2.1, (vs.getD k sd0).2.2)]).getD i sd0 = vs.getD j sd0) := Lib.hid fun i hi => by
          by_cases e : i < m
          · obtain ⟨j, hj, e2⟩ := Sel.out i e
            exact ⟨j, by omega, by rw [getD_app _ _ _ _ (by rw [Ss.out.lv]; exact e)]; exact e2⟩
          · exact ⟨k, by omega, by rw [getD_snoc _ _ _ _ (by rw [Ss.out.lv]; omega)]⟩
        have Sel1 : Hid (∀ i, i < m → ∃ j, j < k + 1 ∧ vs'.getD i sd0 = vs.getD j sd0) := Lib.hid fun i hi => by
          obtain ⟨j, hj, e2⟩ := Sel.out i hi
          exact ⟨j, by omega, e2⟩
        obtain ⟨l, el⟩ : ∃ l, (vs.getD k sd0).2.1 = l := ⟨_, rfl⟩
        obtain ⟨A5, e5⟩ : ∃ A5, (vs.getD k sd0).1 = A5 := ⟨_, rfl⟩
        obtain ⟨c5, ec5⟩ : ∃ c5, (vs.getD k sd0).2.2 = c5 := ⟨_, rfl⟩
        rw [e5, el, ec5] at c0 hrow hdis Sel2
        have Ey := Lib.hid ey
        have Row5 := Lib.hid hrow
        have Dis := Lib.hid hdis
        have hll := (Row5.out.le).2
        unfold maxLen at hll
        clear hrow hdis ey el e5 ec5 hc
        by_cases hl : 1 < l
        · have hlong : Hid (longC y = true) := Lib.hid (decide_eq_true (by rw [Row5.out.1]; exact hl))
          go_wp2_with (first | (at_builtin; refine wpList_app2 rfl _ _ rfl rfl (Ss.out.alloc _) wr.heap.size A5 l c5 _ rfl (by rw [World.cell?_alloc_at _ _ _ _ rfl]; rfl) (Row5.out.alloc _) Dis.out (by omega) (by have := Bel.out.size; simp; omega) ?_; intro A3 c3 w3 ss3 hg3))
          have Ss3 := Lib.hid ss3
          have Bel3 : Hid (Below w1.heap.size w1 w3) := Lib.hid ((Bel.out.alloc Bel.out.size _).grown hg3 (by have := Bel.out.size; simp; omega) (fun j hj => (Ss.out.lt_ j hj).1))
          clear ss3 hg3
          go_wp2
          go_roundw
          case rel => exact ⟨k + 1, m + 1, A3, c3, _, by omega, by omega, by go_num, rfl, by rw [fil_yes (by rw [S1.out.lx]; exact hlt) Ey.out hlong.out]; exact Ss3.out, Sel2.out, Bel3.out⟩
          case measure => simp [intOf]; omega
        · have hlong : Hid (longC y = false) := Lib.hid (decide_eq_false (by rw [Row5.out.1]; exact hl))
          go_wp2
          go_roundw
          case rel => exact ⟨k + 1, m, A', c', vs', by omega, by omega, by go_num, rfl, by rw [fil_no (by rw [S1.out.lx]; exact hlt) Ey.out hlong.out]; exact Ss.out, Sel1.out, Bel.out⟩
          case measure => simp [intOf]; omega
      · have hkm : k = M := by omega
        subst hkm
        have Fq : Hid (((cycs p).take k).filter longC = cyclesL p) := Lib.hid (by rw [Fin.out, List.take_of_length_le (by rw [S1.out.lx]; exact Nat.le_refl _)])
        go_wp2
        go_ret
        exact ⟨_, _, _, _, rfl, by rw [← Fq.out]; exact Ss.out.mono B1.out.size (Nat.le_refl _), by omega, Bw.out⟩

set_option maxHeartbeats 800000 in
/-- The model's Cycles. -/
theorem specCycles (A : Option Addr) (c n : Nat) (p : List Int) (w : World) (hp : RI w w.heap.size A p) (lp : Hid (p.length = n)) (hn : n ≤ 2097152) (hc : n ≤ c) :
    Calls Tryz.prog 60 #[.slice A n c] w fun e w' => ∃ A' m c' vs, e = .returned (.slice A' m c') ∧ SS w' w.heap.size w.heap.size A' m c' vs (cyclesL p) ∧ m ≤ 20 ∧ Below w.heap.size w w' := by
  have hp1 : RI (w.alloc (.cells #[] 48)) (w.alloc (.cells #[] 48)).heap.size A p := (hp.alloc (Nat.le_refl _) _).more (by simp)
  rcases hs : isP p with _ | _
  · have Fin : Hid (cyclesL p = []) := Lib.hid (if_neg (by rw [hs]; decide))
    have HP1 := Lib.hid hp1
    clear hp1
    go_enter Tryz.func60, Tryz.ntmps60
    go_wp2_with fail
    refine (quiet_below (specIsP A c n p _ HP1.out lp hn hc)).mono ?_
    rintro e w1 ⟨rfl, b1⟩
    have B1 : Hid (Below w.heap.size w w1) := Lib.hid (((Below.refl _ _).alloc (Nat.le_refl _) _).trans (b1.mono (by simp)))
    have S1 : Hid (SS w1 w.heap.size w.heap.size (some ⟨w.heap.size, 0, none⟩) 0 0 [] []) := Lib.hid ((SS.lit0 w _ _ (Nat.le_refl _)).up b1)
    clear b1
    go_wp2_with fail
    go_ret
    exact ⟨_, _, _, _, rfl, by rw [Fin.out]; exact S1.out, Nat.zero_le _, B1.out⟩
  · have Ip := Lib.hid (isP_iff.1 hs)
    have Fin : Hid (cyclesL p = (cycs p).filter longC) := Lib.hid (if_pos hs)
    have hn20 : n ≤ 20 := by rw [← lp.out]; exact Ip.out.le
    have HP1 := Lib.hid hp1
    clear hp1
    go_enter Tryz.func60, Tryz.ntmps60
    go_wp2_with fail
    refine (quiet_below (specIsP A c n p _ HP1.out lp hn hc)).mono ?_
    rintro e w0 ⟨rfl, b0⟩
    have B0 : Hid (Below w.heap.size w w0) := Lib.hid (((Below.refl _ _).alloc (Nat.le_refl _) _).trans (b0.mono (by simp)))
    have S0 : Hid (SS w0 w.heap.size w.heap.size (some ⟨w.heap.size, 0, none⟩) 0 0 [] []) := Lib.hid ((SS.lit0 w _ _ (Nat.le_refl _)).up b0)
    have Z0 : w.heap.size + 1 ≤ w0.heap.size := by have := b0.size; simpa using this
    clear b0
    go_wp2_with fail
    refine (specAll A c n p w0 (hp.up B0.out) lp Ip hn20).mono ?_
    rintro e w1 ⟨A1, M, c1, vs, rfl, s1, hm, b1⟩
    have S1 := Lib.hid s1
    have B1 : Hid (Below w.heap.size w w1) := Lib.hid (btr B0.out b1)
    have S0' := Lib.hid (S0.out.up b1)
    clear s1 b1
    go_wp2_with fail
    clear hs
    go_loopw [3, 5] (fun v i wr => ∃ k m A' c' vs', k ≤ M ∧ m ≤ k ∧ i = .int .i64 (k : Nat) ∧ v = .slice A' m c' ∧ SS wr w.heap.size w.heap.size A' m c' vs' (((cycs p).take k).filter longC) ∧
      (∀ i, i < m → ∃ j, j < k ∧ vs'.getD i sd0 = vs.getD j sd0) ∧ (∀ b, (Value.slice A' m c').ownBlock = some b → b < w0.heap.size ∨ w1.heap.size ≤ b) ∧ (∀ b, w0.heap.size ≤ b → b < w1.heap.size → wr.heap[b]? = w1.heap[b]?) ∧ w1.heap.size ≤ wr.heap.size ∧ Below w.heap.size w wr) (fun _ i _ => M - (intOf i).toNat)
    case atStart => exact ⟨0, 0, _, _, [], Nat.zero_le _, Nat.le_refl _, rfl, rfl, S0'.out, fun i h => absurd h (by omega), fun b hb => by simp [Value.ownBlock] at hb; left; omega, fun b _ _ => rfl, Nat.le_refl _, B1.out⟩
    case round =>
      obtain ⟨k, m, A', c', vs', hk, hmk, rfl, rfl, ss, sel, ob, md, sz, bel⟩ := hrel
      have Ss := Lib.hid ss
      have Sel := Lib.hid sel
      have Ob := Lib.hid ob
      have Md := Lib.hid md
      have Bel := Lib.hid bel
      have Sr := Lib.hid (S1.out.mid md (Nat.le_refl _) (Nat.le_refl _))
      clear ss sel bel ob md
      by_cases hlt : k < M
      · obtain ⟨g, rfl, hg1, hg2, hc⟩ := Sr.out.at_ (by omega)
        have c0 := hc k hlt
        obtain ⟨y, ey⟩ : ∃ y, (cycs p).getD k [] = y := ⟨_, rfl⟩
        have hrow := (Sr.out.row k hlt).mono B0.out.size
        rw [ey] at hrow
        have hdis : ∀ i, i < m → (sval (vs'.getD i sd0)).ownBlock = none ∨ (sval (vs'.getD i sd0)).ownBlock ≠ (Value.slice (vs.getD k sd0).1 (vs.getD k sd0).2.1 (vs.getD k sd0).2.2).ownBlock := fun i hi => by
          obtain ⟨j, hj, e⟩ := Sel.out i hi
          rw [e]
          exact Sr.out.dis j k hj hlt
        have Sel2 : Hid (∀ i, i < m + 1 → ∃ j, j < k + 1 ∧ (vs' ++ [((vs.getD k sd0).1, (vs.getD k sd0).2.1, (vs.getD k sd0).2.2)]).getD i sd0 = vs.getD j sd0) := Lib.hid fun i hi => by
          by_cases e : i < m
          · obtain ⟨j, hj, e2⟩ := Sel.out i e
            exact ⟨j, by omega, by rw [getD_app _ _ _ _ (by rw [Ss.out.lv]; exact e)]; exact e2⟩
          · exact ⟨k, by omega, by rw [getD_snoc _ _ _ _ (by rw [Ss.out.lv]; omega)]⟩
        have Sel1 : Hid (∀ i, i < m → ∃ j, j < k + 1 ∧ vs'.getD i sd0 = vs.getD j sd0) := Lib.hid fun i hi => by
          obtain ⟨j, hj, e2⟩ := Sel.out i hi
          exact ⟨j, by omega, e2⟩
        obtain ⟨l, el⟩ : ∃ l, (vs.getD k sd0).2.1 = l := ⟨_, rfl⟩
        obtain ⟨A5, e5⟩ : ∃ A5, (vs.getD k sd0).1 = A5 := ⟨_, rfl⟩
        obtain ⟨c5, ec5⟩ : ∃ c5, (vs.getD k sd0).2.2 = c5 := ⟨_, rfl⟩
        rw [e5, el, ec5] at c0 hrow hdis Sel2
        have Ey := Lib.hid ey
        have Row5 := Lib.hid hrow
        have Dis := Lib.hid hdis
        have hll := (Row5.out.le).2
        unfold maxLen at hll
        clear hrow hdis ey el e5 ec5 hc
        by_cases hl : 1 < l
        · have hlong : Hid (longC y = true) := Lib.hid (decide_eq_true (by rw [Row5.out.1]; exact hl))
          have c0' : (wr.alloc (.cells #[.slice A5 l c5] 48)).cell? ⟨g, k, none⟩ = some (.slice A5 l c5) := (World.cell?_alloc_lt wr _ ⟨g, k, none⟩ hg2).trans c0
          go_wp2_with (first | (at_builtin; refine wpList_app2_at rfl _ _ rfl rfl (Ss.out.alloc _) wr.heap.size A5 l c5 _ rfl (by rw [World.cell?_alloc_at _ _ _ _ rfl]; rfl) (Row5.out.alloc _) Dis.out (by omega) (by have := Bel.out.size; simp; omega) ?_; intro A3 c3 w3 ss3 hg3 hat3))
          have Ss3 := Lib.hid ss3
          have Bel3 : Hid (Below w.heap.size w w3) := Lib.hid ((Bel.out.alloc Bel.out.size _).grown hg3 (by have := Bel.out.size; simp; omega) (fun j hj => (Ss.out.lt_ j hj).1))
          have Hg3 := Lib.hid hg3
          have Hat3 := Lib.hid hat3
          have Sz3 : w1.heap.size ≤ w3.heap.size := by have := hg3.size; simp at this; omega
          clear ss3 hg3 hat3
          go_wp2
          go_roundw
          case rel =>
            refine ⟨k + 1, m + 1, A3, c3, _, by omega, by omega, by go_num, rfl, by rw [fil_yes (by rw [S1.out.lx]; exact hlt) Ey.out hlong.out]; exact Ss3.out, Sel2.out, fun b hb => ?_, fun b hb1 hb2 => ?_, Sz3, Bel3.out⟩
            · rcases Hat3.out with e | e
              · exact Ob.out b (by rw [← e]; exact hb)
              · rw [e] at hb; injection hb with hb; simp at hb; right; omega
            · rw [Hg3.out.block b (by simp; omega) (fun e => by have := Ob.out b e.symm; omega), Below.heap_alloc _ _ _ (by omega)]
              exact Md.out b hb1 hb2
          case measure => simp [intOf]; omega
        · have hlong : Hid (longC y = false) := Lib.hid (decide_eq_false (by rw [Row5.out.1]; exact hl))
          go_wp2
          go_roundw
          case rel => exact ⟨k + 1, m, A', c', vs', by omega, by omega, by go_num, rfl, by rw [fil_no (by rw [S1.out.lx]; exact hlt) Ey.out hlong.out]; exact Ss.out, Sel1.out, Ob.out, Md.out, sz, Bel.out⟩
          case measure => simp [intOf]; omega
      · have hkm : k = M := by omega
        subst hkm
        have Fq : Hid (((cycs p).take k).filter longC = cyclesL p) := Lib.hid (by rw [Fin.out, List.take_of_length_le (by rw [S1.out.lx]; exact Nat.le_refl _)])
        go_wp2
        go_ret
        exact ⟨_, _, _, _, rfl, by rw [← Fq.out]; exact Ss.out, by omega, Bel.out⟩
end Go.Proofs.YtkjokchhffjidaaGreatDoor
