/- strings.IndexByte, LastIndexByte, HasPrefix, CutPrefix at this program, by the library's contracts (made by wip/tools/shelf2tpl.py), over texts as lists of bytes. -/
import Derived.Shelf.Small.Strs
import Derived.Shelf.Small.Wraps
import Derived.Shelf.Strings.LastIndex
import Derived.Shelf.Strings.Prefix
import Derived.Test.YtldnigkaagcciaaDoorBase
namespace Go.Proofs.YtldnigkaagcciaaDoor
open Go.RowKit Go.Shelf Go.Lib
def Laid.lays137_ren : Go.Shelf.Ren := ⟨fun | 137 => 54 | 217 => 62 | 266 => 66 | n => n, fun | 9 => 9 | 5 => 5 | 3 => 3 | n => n, fun | n => n⟩
theorem Laid.lays137 : Go.Proofs.Lays.n137 Tryd.prog Laid.lays137_ren := {
  mixed := by kernel_rfl
  f137 := Tryd.func54.trans (congrArg some (by kernel_rfl))
  f217 := Tryd.func62.trans (congrArg some (by kernel_rfl))
  f266 := Tryd.func66.trans (congrArg some (by kernel_rfl))
  t3 := Tryd.underlying3
  a3 := Tryd.isAgg3
  z3 := Tryd.sizeOf3
  v3 := Tryd.zeroValue3
  t5 := Tryd.underlying5
  a5 := Tryd.isAgg5
  z5 := Tryd.sizeOf5
  v5 := Tryd.zeroValue5
  t9 := Tryd.underlying9
  a9 := Tryd.isAgg9
  z9 := Tryd.sizeOf9
  v9 := Tryd.zeroValue9 }
open Go.RowKit in
theorem Laid.strings_IndexByte (s : ByteArray) (c : Int) (w : World) :
    Calls Tryd.prog 54 #[.string s, .int .u8 c] w fun e w' => e = .returned (.int .i64 (Lib.indexByte s.data.toList c.toNat.toUInt8)) ∧ w' = w := Any.strings_IndexByte Laid.lays137 s c w
def Laid.lays103_ren : Go.Shelf.Ren := ⟨fun | 103 => 72 | 210 => 76 | 206 => 61 | n => n, fun | 9 => 9 | 4 => 4 | 24 => 108 | 3 => 3 | n => n, fun | n => n⟩
theorem Laid.lays103 : Go.Proofs.Lays.n103 Tryd.prog Laid.lays103_ren := {
  mixed := by kernel_rfl
  f103 := Tryd.func72.trans (congrArg some (by kernel_rfl))
  f206 := Tryd.func61.trans (congrArg some (by kernel_rfl))
  f210 := Tryd.func76.trans (congrArg some (by kernel_rfl))
  t3 := Tryd.underlying3
  a3 := Tryd.isAgg3
  z3 := Tryd.sizeOf3
  v3 := Tryd.zeroValue3
  t4 := Tryd.underlying4
  a4 := Tryd.isAgg4
  z4 := Tryd.sizeOf4
  v4 := Tryd.zeroValue4
  t9 := Tryd.underlying9
  a9 := Tryd.isAgg9
  z9 := Tryd.sizeOf9
  v9 := Tryd.zeroValue9
  t24 := Tryd.underlying108
  a24 := Tryd.isAgg108
  z24 := Tryd.sizeOf108
  v24 := Tryd.zeroValue108 }
open Go.RowKit in
theorem Laid.strings_CutPrefix (s p : ByteArray) (w : World) :
    Calls Tryd.prog 72 #[.string s, .string p] w fun e w' => e = .returned (.tuple #[.string ⟨(Lib.trimPrefix s.data.toList p.data.toList).toArray⟩, .bool (Lib.hasPrefix s.data.toList p.data.toList)]) ∧ w' = w := Any.strings_CutPrefix Laid.lays103 s p w
open Go.RowKit Go.Lib in
def Laid.lays99_ren : Go.Shelf.Ren := ⟨fun | 99 => 53 | 206 => 61 | n => n, fun | 9 => 9 | 4 => 4 | 3 => 3 | n => n, fun | n => n⟩
theorem Laid.lays99 : Go.Proofs.Lays.n99 Tryd.prog Laid.lays99_ren := {
  mixed := by kernel_rfl
  f99 := Tryd.func53.trans (congrArg some (by kernel_rfl))
  f206 := Tryd.func61.trans (congrArg some (by kernel_rfl))
  t3 := Tryd.underlying3
  a3 := Tryd.isAgg3
  z3 := Tryd.sizeOf3
  v3 := Tryd.zeroValue3
  t4 := Tryd.underlying4
  a4 := Tryd.isAgg4
  z4 := Tryd.sizeOf4
  v4 := Tryd.zeroValue4
  t9 := Tryd.underlying9
  a9 := Tryd.isAgg9
  z9 := Tryd.sizeOf9
  v9 := Tryd.zeroValue9 }
open Go.RowKit Go.Lib in
theorem Laid.strings_HasPrefix (s p : ByteArray) (w : World) :
    Calls Tryd.prog 53 #[.string s, .string p] w fun e w' => e = .returned (.bool (Lib.hasPrefix s.data.toList p.data.toList)) ∧ w' = w := Any.strings_HasPrefix Laid.lays99 s p w

theorem indexByte_any (l : List UInt8) (c : Int) (w : World) :
    Calls Tryd.prog 54 #[.string ⟨l.toArray⟩, .int .u8 c] w fun e w' => e = .returned (.int .i64 (Lib.indexByte l c.toNat.toUInt8)) ∧ w = w' :=
  (Laid.strings_IndexByte ⟨l.toArray⟩ c w).mono fun _ _ h => ⟨h.1, h.2.symm⟩
theorem hasPrefix_any (l p : List UInt8) (w : World) :
    Calls Tryd.prog 53 #[.string ⟨l.toArray⟩, .string ⟨p.toArray⟩] w fun e w' => e = .returned (.bool (Lib.hasPrefix l p)) ∧ w = w' :=
  (Laid.strings_HasPrefix ⟨l.toArray⟩ ⟨p.toArray⟩ w).mono fun _ _ h => ⟨h.1, h.2.symm⟩
theorem cutPrefix_any (l p : List UInt8) (w : World) :
    Calls Tryd.prog 72 #[.string ⟨l.toArray⟩, .string ⟨p.toArray⟩] w fun e w' => e = .returned (.tuple #[.string ⟨(Lib.trimPrefix l p).toArray⟩, .bool (Lib.hasPrefix l p)]) ∧ w = w' :=
  (Laid.strings_CutPrefix ⟨l.toArray⟩ ⟨p.toArray⟩ w).mono fun _ _ h => ⟨h.1, h.2.symm⟩
/-- The last place of a byte, or -1. -/
def lastB (l : List UInt8) (c : Int) : Int := Lib.lastIndexByte ⟨l.toArray⟩ c
theorem lastB_spec (l : List UInt8) (c : Int) : (lastB l c = -1 ∧ ∀ j, j < l.length → bt l j ≠ c) ∨ ∃ i : Nat, i < l.length ∧ lastB l c = i ∧ bt l i = c ∧ ∀ j, i < j → j < l.length → bt l j ≠ c := by
  have hb : ∀ j, (((⟨l.toArray⟩ : ByteArray).data[j]!).toNat : Int) = bt l j := by
    intro j
    unfold bt
    simp [List.getD, List.getElem!_eq_getElem?_getD]
    rfl
  rcases Lib.lastIndexByte_spec ⟨l.toArray⟩ c with ⟨h1, h2⟩ | ⟨i, h1, h2, h3, h4⟩
  · exact Or.inl ⟨h1, fun j hj => by rw [← hb]; exact h2 j hj⟩
  · exact Or.inr ⟨i, h1, h2, by rw [← hb]; exact h3, fun j h5 h6 => by rw [← hb]; exact h4 j h5 h6⟩
end Go.Proofs.YtldnigkaagcciaaDoor
