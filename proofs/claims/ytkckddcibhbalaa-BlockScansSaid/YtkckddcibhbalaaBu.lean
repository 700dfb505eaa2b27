/- strings.Builder of the call's own, and strings.Repeat, by the library's contracts (made by wip/tools/shelf2tpl.py: lays105 holds all of it). -/
import Derived.Shelf.Strings.Repeat
import Derived.Test.YtkckddcibhbalaaApp
namespace Go.Proofs.Ytkckddcibhbalaa
open Go.RowKit Go.Shelf
def Laid.lays105_ren : Go.Shelf.Ren := ⟨fun | 105 => 30 | 212 => 39 | 99 => 40 | 165 => 18 | 166 => 19 | 170 => 35 | 169 => 22 | 263 => 43 | 264 => 44 | 206 => 45 | 240 => 26 | 241 => 27 | 276 => 36 | 277 => 37 | n => n, fun | 9 => 9 | 3 => 3 | 4 => 4 | 20 => 20 | 0 => 0 | 46 => 57 | 109 => 71 | 5 => 5 | 72 => 43 | 76 => 47 | 51 => 37 | 146 => 75 | 53 => 77 | 148 => 78 | 70 => 40 | 37 => 41 | 75 => 46 | 127 => 61 | 164 => 66 | 80 => 51 | n => n, fun | n => n⟩
theorem Laid.lays105 : Go.Proofs.Lays.n105 Try.prog Laid.lays105_ren := {
  mixed := by kernel_rfl
  f99 := Try.func40.trans (congrArg some (by kernel_rfl))
  f105 := Try.func30.trans (congrArg some (by kernel_rfl))
  f165 := Try.func18.trans (congrArg some (by kernel_rfl))
  f166 := Try.func19.trans (congrArg some (by kernel_rfl))
  f169 := Try.func22.trans (congrArg some (by kernel_rfl))
  f170 := Try.func35.trans (congrArg some (by kernel_rfl))
  f206 := Try.func45.trans (congrArg some (by kernel_rfl))
  f212 := Try.func39.trans (congrArg some (by kernel_rfl))
  f240 := Try.func26.trans (congrArg some (by kernel_rfl))
  f241 := Try.func27.trans (congrArg some (by kernel_rfl))
  f263 := Try.func43.trans (congrArg some (by kernel_rfl))
  f264 := Try.func44.trans (congrArg some (by kernel_rfl))
  f276 := Try.func36.trans (congrArg some (by kernel_rfl))
  f277 := Try.func37.trans (congrArg some (by kernel_rfl))
  t0 := Try.underlying0
  a0 := Try.isAgg0
  z0 := Try.sizeOf0
  v0 := Try.zeroValue0
  t3 := Try.underlying3
  a3 := Try.isAgg3
  z3 := Try.sizeOf3
  v3 := Try.zeroValue3
  t4 := Try.underlying4
  a4 := Try.isAgg4
  z4 := Try.sizeOf4
  v4 := Try.zeroValue4
  t5 := Try.underlying5
  a5 := Try.isAgg5
  z5 := Try.sizeOf5
  v5 := Try.zeroValue5
  t9 := Try.underlying9
  a9 := Try.isAgg9
  z9 := Try.sizeOf9
  v9 := Try.zeroValue9
  t20 := Try.underlying20
  a20 := Try.isAgg20
  z20 := Try.sizeOf20
  v20 := Try.zeroValue20
  t37 := Try.underlying41
  a37 := Try.isAgg41
  z37 := Try.sizeOf41
  v37 := Try.zeroValue41
  t46 := Try.underlying57
  a46 := Try.isAgg57
  z46 := Try.sizeOf57
  v46 := Try.zeroValue57
  t51 := Try.underlying37
  a51 := Try.isAgg37
  z51 := Try.sizeOf37
  v51 := Try.zeroValue37
  t53 := Try.underlying77
  a53 := Try.isAgg77
  z53 := Try.sizeOf77
  v53 := Try.zeroValue77
  t70 := Try.underlying40
  a70 := Try.isAgg40
  z70 := Try.sizeOf40
  v70 := Try.zeroValue40
  t72 := Try.underlying43
  a72 := Try.isAgg43
  z72 := Try.sizeOf43
  v72 := Try.zeroValue43
  t75 := Try.underlying46
  a75 := Try.isAgg46
  z75 := Try.sizeOf46
  v75 := Try.zeroValue46
  t76 := Try.underlying47
  a76 := Try.isAgg47
  z76 := Try.sizeOf47
  v76 := Try.zeroValue47
  t109 := Try.underlying71
  a109 := Try.isAgg71
  z109 := Try.sizeOf71
  v109 := Try.zeroValue71
  t127 := Try.underlying61
  a127 := Try.isAgg61
  z127 := Try.sizeOf61
  v127 := Try.zeroValue61
  t146 := Try.underlying75
  a146 := Try.isAgg75
  z146 := Try.sizeOf75
  v146 := Try.zeroValue75
  t148 := Try.underlying78
  a148 := Try.isAgg78
  z148 := Try.sizeOf78
  v148 := Try.zeroValue78
  t164 := Try.underlying66
  a164 := Try.isAgg66
  z164 := Try.sizeOf66
  v164 := Try.zeroValue66 }
theorem Laid.Builder_Extra_105 : Builder.Extra Try.prog Laid.lays105_ren := {
  sizeBuilder := by kernel_rfl
  liesBuilder := by kernel_rfl
  t5 := Try.underlying5
  a5 := Try.isAgg5
  z5 := Try.sizeOf5
  v5 := Try.zeroValue5
  infoByte := by kernel_rfl
  cellsByte := by kernel_rfl
  sizeByte := by kernel_rfl
  neB5 := by decide }
open Go.RowKit Go.Lib in
theorem Laid.strings_Repeat (s : ByteArray) (c : Nat) (w : World) (hc : c ≤ 9223372036854775807) (hlen : s.size * c ≤ 140737488355328) :
    Calls Try.prog 30 #[.string s, .int .i64 c] w fun e w' => e = .returned (.string ⟨(Lib.repeatL s.data.toList c).toArray⟩) ∧ Below w.heap.size w w' := Any.strings_Repeat Laid.lays105 Laid.Builder_Extra_105 s c w hc hlen
theorem repeat_any (c : Nat) (x : UInt8) (w : World) (hc : c ≤ 140737488355328) :
    Calls Try.prog 30 #[.string ⟨#[x]⟩, .int .i64 c] w fun e w' => e = .returned (.string ⟨(List.replicate c x).toArray⟩) ∧ Below w.heap.size w w' := by
  have h := Laid.strings_Repeat ⟨#[x]⟩ c w (by omega) (by simpa [ByteArray.size] using hc)
  have e : (ByteArray.mk #[x]).data.toList = List.replicate 1 x := rfl
  rw [e, Lib.repeatL_replicate, Nat.mul_one] at h
  exact h
/-- A builder that the call itself made (block b, from B on), and what it holds. -/
def BdAt (w : World) (B b : Nat) (l : List UInt8) : Prop := Lib.IsBuilder 43 5 B b (Lib.byteCells l) w
theorem bd_new (w : World) : BdAt (w.alloc (.cells #[.pointer none, .slice none 0 0] 43)) w.heap.size w.heap.size [] := Lib.fresh_isBuilder _ _ w
theorem builderAt_next {w w' : World} {T e : TypeId} {B b : Nat} {p : Value} {bs : List Value} (h : Lib.BuilderAt T e B b p bs w) (hb : Below w.heap.size w w') : Lib.BuilderAt T e B b p bs w' := by
  have hlt := h.lt
  obtain ⟨hB, v, hc, hown, hne⟩ := h
  exact ⟨hB, v, (hb.block b hlt).trans hc, ownsRow_below hown hb, hne⟩
theorem BdAt.next {w w' : World} {B b : Nat} {l : List UInt8} (h : BdAt w B b l) (hb : Below w.heap.size w w') : BdAt w' B b l := by
  rcases h with h | h
  · exact Or.inl (builderAt_next h hb)
  · exact Or.inr (builderAt_next h hb)
theorem bd_grow (n b : Nat) (w : World) (hbk : w.heap[b]? = some (.cells #[.pointer none, .slice none 0 0] 43 (0, 0))) (hn : n ≤ 281474976710656) :
    Calls Try.prog 18 #[.pointer (some ⟨b, 0, none⟩), .int .i64 n] w fun e w' => e = .returned (.tuple #[]) ∧ BdAt w' b b [] ∧ Below b w w' := by
  have hlt : b < w.heap.size := by
    rcases Nat.lt_or_ge b w.heap.size with h | h
    · exact h
    · simp [Array.getElem?_eq_none h] at hbk
  refine (Any.Builder_Grow_fresh { Laid.lays105 with } Laid.Builder_Extra_105 b b n w (Nat.le_refl _) hbk (by omega) hn).mono ?_
  rintro e w' ⟨rfl, h, hb⟩
  exact ⟨rfl, Or.inr h, hb⟩
theorem bd_write {w : World} {B b : Nat} {l : List UInt8} (h : BdAt w B b l) (s : List UInt8) (hlen : l.length + s.length ≤ 140737488355328) (hB : B ≤ w.heap.size) :
    Calls Try.prog 19 #[.pointer (some ⟨b, 0, none⟩), .string ⟨s.toArray⟩] w fun e w' => e = .returned (.tuple #[.int .i64 s.length, .nilIface]) ∧ BdAt w' B b (l ++ s) ∧ Below B w w' := by
  have hs : (ByteArray.mk s.toArray).size = s.length := by simp [ByteArray.size]
  have hc : Lib.strCells ⟨s.toArray⟩ = Lib.byteCells s := by rw [Lib.strCells_eq]
  have k := Any.Builder_WriteString { Laid.lays105 with } Laid.Builder_Extra_105 B b (Lib.byteCells l) ⟨s.toArray⟩ w h (by rw [Lib.byteCells_length, hs]; exact hlen) hB
  rw [hs, hc, ← Lib.byteCells_append] at k
  refine k.mono ?_
  rintro e w' ⟨rfl, h, hb⟩
  exact ⟨rfl, Or.inr h, hb⟩
theorem bd_len {w : World} {B b : Nat} {l : List UInt8} (h : BdAt w B b l) :
    Calls Try.prog 35 #[.pointer (some ⟨b, 0, none⟩)] w fun e w' => e = .returned (.int .i64 l.length) ∧ w' = w := by
  have k := Any.Builder_Len { Laid.lays105 with } B b (Lib.byteCells l) w h
  rw [Lib.byteCells_length] at k
  exact k
theorem bd_string {w : World} {B b : Nat} {l : List UInt8} (h : BdAt w B b l) (hB : B ≤ w.heap.size) :
    Calls Try.prog 22 #[.pointer (some ⟨b, 0, none⟩)] w fun e w' => e = .returned (.string ⟨l.toArray⟩) ∧ Below B w w' :=
  Any.Builder_String_any { Laid.lays105 with } Laid.Builder_Extra_105 B b l w h hB
end Go.Proofs.Ytkckddcibhbalaa
