/- strings.IndexAny and ContainsAny of a text for either of two signs, whatever bytes the text has. -/
import Derived.Shelf.Strings.IndexAnyAll
import Derived.Deep.WholeRow
import Derived.Laws.RangeAny
import Derived.Test.YtahjopajnckbaaaLs
import Derived.Test.YtahjopajnckbaaaD10p
namespace Go.Proofs.Ytahjopajnckbaaa
open Go.RowKit Go.Shelf Go.Lib
def Laid.lays152_ren : Go.Shelf.Ren := ⟨fun | 152 => 48 | 137 => 27 | 119 => 57 | 224 => 58 | 225 => 59 | 217 => 39 | 266 => 46 | n => n, fun | 9 => 9 | 21 => 21 | 3 => 3 | 4 => 4 | 5 => 5 | 0 => 0 | 46 => 42 | n => n, fun | n => n⟩
theorem Laid.lays152 : Go.Proofs.Lays.n152 Try.prog Laid.lays152_ren := {
  mixed := by kernel_rfl
  f119 := Try.func57.trans (congrArg some (by kernel_rfl))
  f137 := Try.func27.trans (congrArg some (by kernel_rfl))
  f152 := Try.func48.trans (congrArg some (by kernel_rfl))
  f217 := Try.func39.trans (congrArg some (by kernel_rfl))
  f224 := Try.func58.trans (congrArg some (by kernel_rfl))
  f225 := Try.func59.trans (congrArg some (by kernel_rfl))
  f266 := Try.func46.trans (congrArg some (by kernel_rfl))
  t0 := Try.underlying0
  a0 := Try.isAgg0
  z0 := Try.sizeOf0
  v0 := Try.zeroValue0
  t3 := Try.underlying3
  a3 := Try.isAgg3
  z3 := Try.sizeOf3
  v3 := Try.zeroValue3
  t4 := Try.underlying4
  a4 := Try.isAgg4
  z4 := Try.sizeOf4
  v4 := Try.zeroValue4
  t5 := Try.underlying5
  a5 := Try.isAgg5
  z5 := Try.sizeOf5
  v5 := Try.zeroValue5
  t9 := Try.underlying9
  a9 := Try.isAgg9
  z9 := Try.sizeOf9
  v9 := Try.zeroValue9
  t21 := Try.underlying21
  a21 := Try.isAgg21
  z21 := Try.sizeOf21
  v21 := Try.zeroValue21
  t46 := Try.underlying42
  a46 := Try.isAgg42
  z46 := Try.sizeOf42
  v46 := Try.zeroValue42 }
open Go.RowKit Go.Lib in
theorem Laid.strings_IndexRune_ascii (s : ByteArray) (r : Int) (w : World) (h0 : 0 ≤ r) (h1 : r < 128) :
    Calls Try.prog 48 #[.string s, .int .i32 r] w fun e w' => e = .returned (.int .i64 (Lib.indexByte s.data.toList r.toNat.toUInt8)) ∧ w' = w := Any.strings_IndexRune_ascii Laid.lays152 s r w h0 h1
def Laid.lays226_ren : Go.Shelf.Ren := ⟨fun | 226 => 49 | n => n, fun | 3 => 3 | 4 => 4 | n => n, fun | n => n⟩
theorem Laid.lays226 : Go.Proofs.Lays.n226 Try.prog Laid.lays226_ren := {
  mixed := by kernel_rfl
  f226 := Try.func49.trans (congrArg some (by kernel_rfl))
  t3 := Try.underlying3
  a3 := Try.isAgg3
  z3 := Try.sizeOf3
  v3 := Try.zeroValue3
  t4 := Try.underlying4
  a4 := Try.isAgg4
  z4 := Try.sizeOf4
  v4 := Try.zeroValue4 }
open Go.RowKit Go.Lib in
theorem Laid.strings_shouldUseASCIISet (n : Int) (w : World) :
    Calls Try.prog 49 #[.int .i64 n] w fun e w' => e = .returned (.bool (decide (8 < n))) ∧ w' = w := Any.strings_shouldUseASCIISet Laid.lays226 n w
def Laid.lays153_ren : Go.Shelf.Ren := ⟨fun | 153 => 41 | 152 => 48 | 226 => 49 | 227 => 50 | 228 => 51 | 137 => 27 | 119 => 57 | 224 => 58 | 225 => 59 | 217 => 39 | 266 => 46 | n => n, fun | 9 => 9 | 3 => 3 | 4 => 4 | 5 => 5 | 21 => 21 | 117 => 52 | 116 => 51 | 0 => 0 | 46 => 42 | 124 => 59 | n => n, fun | n => n⟩
theorem Laid.lays153 : Go.Proofs.Lays.n153 Try.prog Laid.lays153_ren := {
  mixed := by kernel_rfl
  f119 := Try.func57.trans (congrArg some (by kernel_rfl))
  f137 := Try.func27.trans (congrArg some (by kernel_rfl))
  f152 := Try.func48.trans (congrArg some (by kernel_rfl))
  f153 := Try.func41.trans (congrArg some (by kernel_rfl))
  f217 := Try.func39.trans (congrArg some (by kernel_rfl))
  f224 := Try.func58.trans (congrArg some (by kernel_rfl))
  f225 := Try.func59.trans (congrArg some (by kernel_rfl))
  f226 := Try.func49.trans (congrArg some (by kernel_rfl))
  f227 := Try.func50.trans (congrArg some (by kernel_rfl))
  f228 := Try.func51.trans (congrArg some (by kernel_rfl))
  f266 := Try.func46.trans (congrArg some (by kernel_rfl))
  t0 := Try.underlying0
  a0 := Try.isAgg0
  z0 := Try.sizeOf0
  v0 := Try.zeroValue0
  t3 := Try.underlying3
  a3 := Try.isAgg3
  z3 := Try.sizeOf3
  v3 := Try.zeroValue3
  t4 := Try.underlying4
  a4 := Try.isAgg4
  z4 := Try.sizeOf4
  v4 := Try.zeroValue4
  t5 := Try.underlying5
  a5 := Try.isAgg5
  z5 := Try.sizeOf5
  v5 := Try.zeroValue5
  t9 := Try.underlying9
  a9 := Try.isAgg9
  z9 := Try.sizeOf9
  v9 := Try.zeroValue9
  t21 := Try.underlying21
  a21 := Try.isAgg21
  z21 := Try.sizeOf21
  v21 := Try.zeroValue21
  t46 := Try.underlying42
  a46 := Try.isAgg42
  z46 := Try.sizeOf42
  v46 := Try.zeroValue42
  t116 := Try.underlying51
  a116 := Try.isAgg51
  z116 := Try.sizeOf51
  t117 := Try.underlying52
  a117 := Try.isAgg52
  z117 := Try.sizeOf52
  v117 := Try.zeroValue52
  t124 := Try.underlying59
  a124 := Try.isAgg59
  z124 := Try.sizeOf59
  v124 := Try.zeroValue59 }
open Go.RowKit Go.Lib in
theorem Laid.strings_IndexAny_long (hv116 : ∀ w, (zeroValue 51).run Try.prog w = .ok (.agg (Array.replicate 256 (.bool false))) w) (s chars : ByteArray) (w : World) (h2 : 2 ≤ chars.size) (h8 : 8 < s.size) (hs : s.size < 4294967281) (hcs : chars.size < 4294967281) (hascii : ∀ (j : Nat) b, chars.data.toList[j]? = some b → b.toNat < 128) :
    Calls Try.prog 41 #[.string s, .string chars] w fun e w' => e = .returned (.int .i64 (Lib.indexAny s.data.toList chars.data.toList)) ∧ w' = ((w.alloc (.cells (Lib.setCells chars.data.toList) 51)).alloc (.cells (Lib.setCells chars.data.toList) 51)) := Any.strings_IndexAny_long Laid.lays153 hv116 (by kernel_rfl) s chars w h2 h8 hs hcs hascii

theorem any_long (l : List UInt8) (w : World) (h8 : 8 < l.length) (hl : l.length ≤ 1000000) :
    Calls Try.prog 41 #[.string ⟨l.toArray⟩, .string ⟨#[60, 38]⟩] w fun e w' => e = .returned (.int .i64 (Lib.indexAny l [60, 38])) ∧ Below w.heap.size w w' := by
  have hz := (zero_of_info (P := Try.prog) (t := 51) (v := .agg (Array.replicate 256 (.bool false))) (n := 256) (by kernel_rfl)).1
  refine (Laid.strings_IndexAny_long hz ⟨l.toArray⟩ ⟨#[60, 38]⟩ w (by show 2 ≤ 2; omega) (by show 8 < l.length; exact h8) (by show l.length < _; omega) (by show 2 < _; omega) ?_).mono ?_
  · intro j b hj
    rcases j with _ | _ | j
    · simp at hj; subst hj; decide
    · simp at hj; subst hj; decide
    · simp at hj
  · rintro e w' ⟨rfl, rfl⟩
    exact ⟨rfl, ((Below.refl _ _).alloc (Nat.le_refl _) _).alloc (by simp) _⟩
end Go.Proofs.Ytahjopajnckbaaa
