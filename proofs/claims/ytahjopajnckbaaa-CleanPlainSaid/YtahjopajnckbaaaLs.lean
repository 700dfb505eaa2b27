/- strings.IndexByte, LastIndexByte, HasPrefix, CutPrefix at this program, by the library's contracts (made by wip/tools/shelf2tpl.py), over texts as lists of bytes. -/
import Derived.Shelf.Small.Strs
import Derived.Shelf.Small.Wraps
import Derived.Shelf.Strings.LastIndex
import Derived.Shelf.Strings.Prefix
import Derived.Test.YtahjopajnckbaaaBase
namespace Go.Proofs.Ytahjopajnckbaaa
open Go.RowKit Go.Shelf Go.Lib
def Laid.lays137_ren : Go.Shelf.Ren := ⟨fun | 137 => 27 | 217 => 39 | 266 => 46 | n => n, fun | 9 => 9 | 5 => 5 | 3 => 3 | n => n, fun | n => n⟩
theorem Laid.lays137 : Go.Proofs.Lays.n137 Try.prog Laid.lays137_ren := {
  mixed := by kernel_rfl
  f137 := Try.func27.trans (congrArg some (by kernel_rfl))
  f217 := Try.func39.trans (congrArg some (by kernel_rfl))
  f266 := Try.func46.trans (congrArg some (by kernel_rfl))
  t3 := Try.underlying3
  a3 := Try.isAgg3
  z3 := Try.sizeOf3
  v3 := Try.zeroValue3
  t5 := Try.underlying5
  a5 := Try.isAgg5
  z5 := Try.sizeOf5
  v5 := Try.zeroValue5
  t9 := Try.underlying9
  a9 := Try.isAgg9
  z9 := Try.sizeOf9
  v9 := Try.zeroValue9 }
open Go.RowKit in
theorem Laid.strings_IndexByte (s : ByteArray) (c : Int) (w : World) :
    Calls Try.prog 27 #[.string s, .int .u8 c] w fun e w' => e = .returned (.int .i64 (Lib.indexByte s.data.toList c.toNat.toUInt8)) ∧ w' = w := Any.strings_IndexByte Laid.lays137 s c w
def Laid.lays103_ren : Go.Shelf.Ren := ⟨fun | 103 => 42 | 210 => 52 | 206 => 47 | n => n, fun | 9 => 9 | 4 => 4 | 24 => 25 | 3 => 3 | n => n, fun | n => n⟩
theorem Laid.lays103 : Go.Proofs.Lays.n103 Try.prog Laid.lays103_ren := {
  mixed := by kernel_rfl
  f103 := Try.func42.trans (congrArg some (by kernel_rfl))
  f206 := Try.func47.trans (congrArg some (by kernel_rfl))
  f210 := Try.func52.trans (congrArg some (by kernel_rfl))
  t3 := Try.underlying3
  a3 := Try.isAgg3
  z3 := Try.sizeOf3
  v3 := Try.zeroValue3
  t4 := Try.underlying4
  a4 := Try.isAgg4
  z4 := Try.sizeOf4
  v4 := Try.zeroValue4
  t9 := Try.underlying9
  a9 := Try.isAgg9
  z9 := Try.sizeOf9
  v9 := Try.zeroValue9
  t24 := Try.underlying25
  a24 := Try.isAgg25
  z24 := Try.sizeOf25
  v24 := Try.zeroValue25 }
open Go.RowKit in
theorem Laid.strings_CutPrefix (s p : ByteArray) (w : World) :
    Calls Try.prog 42 #[.string s, .string p] w fun e w' => e = .returned (.tuple #[.string ⟨(Lib.trimPrefix s.data.toList p.data.toList).toArray⟩, .bool (Lib.hasPrefix s.data.toList p.data.toList)]) ∧ w' = w := Any.strings_CutPrefix Laid.lays103 s p w
def Laid.lays149_ren : Go.Shelf.Ren := ⟨fun | 149 => 25 | 222 => 38 | n => n, fun | 9 => 9 | 5 => 5 | 3 => 3 | 4 => 4 | n => n, fun | n => n⟩
theorem Laid.lays149 : Go.Proofs.Lays.n149 Try.prog Laid.lays149_ren := {
  mixed := by kernel_rfl
  f149 := Try.func25.trans (congrArg some (by kernel_rfl))
  f222 := Try.func38.trans (congrArg some (by kernel_rfl))
  t3 := Try.underlying3
  a3 := Try.isAgg3
  z3 := Try.sizeOf3
  v3 := Try.zeroValue3
  t4 := Try.underlying4
  a4 := Try.isAgg4
  z4 := Try.sizeOf4
  v4 := Try.zeroValue4
  t5 := Try.underlying5
  a5 := Try.isAgg5
  z5 := Try.sizeOf5
  v5 := Try.zeroValue5
  t9 := Try.underlying9
  a9 := Try.isAgg9
  z9 := Try.sizeOf9
  v9 := Try.zeroValue9 }
open Go.RowKit Go.Lib in
theorem Laid.strings_LastIndexByte (s : ByteArray) (c : Int) (hs : s.size < 4611686018427387904) (w : World) :
    Calls Try.prog 25 #[.string s, .int .u8 c] w fun e w' => e = .returned (.int .i64 (Lib.lastIndexByte s c)) ∧ w' = w := Any.strings_LastIndexByte Laid.lays149 s c hs w
def Laid.lays99_ren : Go.Shelf.Ren := ⟨fun | 99 => 40 | 206 => 47 | n => n, fun | 9 => 9 | 4 => 4 | 3 => 3 | n => n, fun | n => n⟩
theorem Laid.lays99 : Go.Proofs.Lays.n99 Try.prog Laid.lays99_ren := {
  mixed := by kernel_rfl
  f99 := Try.func40.trans (congrArg some (by kernel_rfl))
  f206 := Try.func47.trans (congrArg some (by kernel_rfl))
  t3 := Try.underlying3
  a3 := Try.isAgg3
  z3 := Try.sizeOf3
  v3 := Try.zeroValue3
  t4 := Try.underlying4
  a4 := Try.isAgg4
  z4 := Try.sizeOf4
  v4 := Try.zeroValue4
  t9 := Try.underlying9
  a9 := Try.isAgg9
  z9 := Try.sizeOf9
  v9 := Try.zeroValue9 }
open Go.RowKit Go.Lib in
theorem Laid.strings_HasPrefix (s p : ByteArray) (w : World) :
    Calls Try.prog 40 #[.string s, .string p] w fun e w' => e = .returned (.bool (Lib.hasPrefix s.data.toList p.data.toList)) ∧ w' = w := Any.strings_HasPrefix Laid.lays99 s p w

theorem indexByte_any (l : List UInt8) (c : Int) (w : World) :
    Calls Try.prog 27 #[.string ⟨l.toArray⟩, .int .u8 c] w fun e w' => e = .returned (.int .i64 (Lib.indexByte l c.toNat.toUInt8)) ∧ w = w' :=
  (Laid.strings_IndexByte ⟨l.toArray⟩ c w).mono fun _ _ h => ⟨h.1, h.2.symm⟩
theorem hasPrefix_any (l p : List UInt8) (w : World) :
    Calls Try.prog 40 #[.string ⟨l.toArray⟩, .string ⟨p.toArray⟩] w fun e w' => e = .returned (.bool (Lib.hasPrefix l p)) ∧ w = w' :=
  (Laid.strings_HasPrefix ⟨l.toArray⟩ ⟨p.toArray⟩ w).mono fun _ _ h => ⟨h.1, h.2.symm⟩
theorem cutPrefix_any (l p : List UInt8) (w : World) :
    Calls Try.prog 42 #[.string ⟨l.toArray⟩, .string ⟨p.toArray⟩] w fun e w' => e = .returned (.tuple #[.string ⟨(Lib.trimPrefix l p).toArray⟩, .bool (Lib.hasPrefix l p)]) ∧ w = w' :=
  (Laid.strings_CutPrefix ⟨l.toArray⟩ ⟨p.toArray⟩ w).mono fun _ _ h => ⟨h.1, h.2.symm⟩
/-- The last place of a byte, or -1. -/
def lastB (l : List UInt8) (c : Int) : Int := Lib.lastIndexByte ⟨l.toArray⟩ c
theorem lastIndex_any (l : List UInt8) (c : Int) (w : World) (hl : l.length ≤ 1000000) :
    Calls Try.prog 25 #[.string ⟨l.toArray⟩, .int .u8 c] w fun e w' => e = .returned (.int .i64 (lastB l c)) ∧ w = w' :=
  (Laid.strings_LastIndexByte ⟨l.toArray⟩ c (by show l.length < _; omega) w).mono fun _ _ h => ⟨h.1, h.2.symm⟩
theorem lastB_spec (l : List UInt8) (c : Int) : (lastB l c = -1 ∧ ∀ j, j < l.length → bt l j ≠ c) ∨ ∃ i : Nat, i < l.length ∧ lastB l c = i ∧ bt l i = c ∧ ∀ j, i < j → j < l.length → bt l j ≠ c := by
  have hb : ∀ j, (((⟨l.toArray⟩ : ByteArray).data[j]!).toNat : Int) = bt l j := by
    intro j
    unfold bt
    simp [List.getD, List.getElem!_eq_getElem?_getD]
    rfl
  rcases Lib.lastIndexByte_spec ⟨l.toArray⟩ c with ⟨h1, h2⟩ | ⟨i, h1, h2, h3, h4⟩
  · exact Or.inl ⟨h1, fun j hj => by rw [← hb]; exact h2 j hj⟩
  · exact Or.inr ⟨i, h1, h2, by rw [← hb]; exact h3, fun j h5 h6 => by rw [← hb]; exact h4 j h5 h6⟩
end Go.Proofs.Ytahjopajnckbaaa
