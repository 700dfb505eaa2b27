/- strings.Join at this program, by the library's contract. -/
import Derived.Shelf.Strings.OnBuilder
import Derived.Test.YtmallpkbjpfajaaSl
import Derived.Test.YtmallpkbjpfajaaWp
namespace Go.Proofs.Ytmallpkbjpfajaa
open Go.RowKit Go.Shelf
def Laid.lays156_ren : Go.Shelf.Ren := ⟨fun | 156 => 19 | 165 => 20 | 166 => 21 | 169 => 22 | 240 => 23 | 241 => 24 | 276 => 25 | 277 => 26 | n => n, fun | 31 => 22 | 9 => 9 | 3 => 3 | 4 => 4 | 0 => 0 | 20 => 20 | 72 => 40 | 76 => 44 | 70 => 38 | 37 => 31 | 75 => 43 | 127 => 47 | 164 => 48 | 5 => 5 | 80 => 46 | n => n, fun | n => n⟩
theorem Laid.lays156 : Go.Proofs.Lays.n156 Try.prog Laid.lays156_ren := {
  mixed := by kernel_rfl
  f156 := Try.func19.trans (congrArg some (by kernel_rfl))
  f165 := Try.func20.trans (congrArg some (by kernel_rfl))
  f166 := Try.func21.trans (congrArg some (by kernel_rfl))
  f169 := Try.func22.trans (congrArg some (by kernel_rfl))
  f240 := Try.func23.trans (congrArg some (by kernel_rfl))
  f241 := Try.func24.trans (congrArg some (by kernel_rfl))
  f276 := Try.func25.trans (congrArg some (by kernel_rfl))
  f277 := Try.func26.trans (congrArg some (by kernel_rfl))
  t0 := Try.underlying0
  a0 := Try.isAgg0
  z0 := Try.sizeOf0
  v0 := Try.zeroValue0
  t3 := Try.underlying3
  a3 := Try.isAgg3
  z3 := Try.sizeOf3
  v3 := Try.zeroValue3
  t4 := Try.underlying4
  a4 := Try.isAgg4
  z4 := Try.sizeOf4
  v4 := Try.zeroValue4
  t9 := Try.underlying9
  a9 := Try.isAgg9
  z9 := Try.sizeOf9
  v9 := Try.zeroValue9
  t20 := Try.underlying20
  a20 := Try.isAgg20
  z20 := Try.sizeOf20
  v20 := Try.zeroValue20
  t31 := Try.underlying22
  a31 := Try.isAgg22
  z31 := Try.sizeOf22
  v31 := Try.zeroValue22
  t37 := Try.underlying31
  a37 := Try.isAgg31
  z37 := Try.sizeOf31
  v37 := Try.zeroValue31
  t70 := Try.underlying38
  a70 := Try.isAgg38
  z70 := Try.sizeOf38
  v70 := Try.zeroValue38
  t72 := Try.underlying40
  a72 := Try.isAgg40
  z72 := Try.sizeOf40
  v72 := Try.zeroValue40
  t75 := Try.underlying43
  a75 := Try.isAgg43
  z75 := Try.sizeOf43
  v75 := Try.zeroValue43
  t76 := Try.underlying44
  a76 := Try.isAgg44
  z76 := Try.sizeOf44
  v76 := Try.zeroValue44
  t127 := Try.underlying47
  a127 := Try.isAgg47
  z127 := Try.sizeOf47
  v127 := Try.zeroValue47
  t164 := Try.underlying48
  a164 := Try.isAgg48
  z164 := Try.sizeOf48
  v164 := Try.zeroValue48 }
theorem Laid.Builder_Extra_156 : Builder.Extra Try.prog Laid.lays156_ren := {
  sizeBuilder := by kernel_rfl
  liesBuilder := by kernel_rfl
  t5 := Try.underlying5
  a5 := Try.isAgg5
  z5 := Try.sizeOf5
  v5 := Try.zeroValue5
  infoByte := by kernel_rfl
  cellsByte := by kernel_rfl
  sizeByte := by kernel_rfl
  neB5 := by decide }
theorem Laid.strings_Join_none (a : Option Addr) (c : Nat) (sep : ByteArray) (w : World) :
    Calls Try.prog 19 #[.slice a 0 c, .string sep] w fun e w' => e = .returned (.string ⟨#[]⟩) ∧ w' = w := Any.strings_Join_none Laid.lays156 Laid.Builder_Extra_156 a c sep w
theorem Laid.strings_Join (bk o c : Nat) (xs : List ByteArray) (sep : ByteArray) (w : World) (hcells : ∀ (j : Nat) x, xs[j]? = some x → w.cell? ⟨bk, o + j, none⟩ = some (.string x)) (hbk : bk < w.heap.size) (hN : xs.length ≤ 140737488355328) (hcap : xs.length ≤ c) (hlen : (Lib.join (xs.map (·.data.toList)) sep.data.toList).length ≤ 140737488355328) :
    Calls Try.prog 19 #[.slice (some ⟨bk, o, none⟩) xs.length c, .string sep] w fun e w' => e = .returned (.string ⟨(Lib.join (xs.map (·.data.toList)) sep.data.toList).toArray⟩) ∧ Below w.heap.size w w' := Any.strings_Join Laid.lays156 Laid.Builder_Extra_156 bk o c xs sep w hcells hbk hN hcap hlen
theorem join_eq : ∀ l : List (List UInt8), Lib.join l [32] = joinB l
  | [] => rfl
  | [w] => by rw [Lib.join_one]; rfl
  | w :: w2 :: l => by
    rw [joinB_cons _ (by simp), Lib.join_cons, ← join_eq (w2 :: l), Lib.join_cons]
    simp [Lib.joinTail]
theorem strV_list (xs : List (List UInt8)) : (xs.map fun l => (⟨l.toArray⟩ : ByteArray)).map (·.data.toList) = xs := by simp [List.map_map]; exact List.map_id _
/-- strings.Join with a blank between, over a slice of strings wherever it lies. -/
theorem strjoin_any (xs : List (List UInt8)) (v : Value) (w : World) (hv : StrSl w v xs) (hlow : SlBelow w.heap.size v) (hn : xs.length ≤ 100000) (hl : (joinB xs).length ≤ 10000000) :
    Calls Try.prog 19 #[v, .string ⟨#[32]⟩] w fun e w' => e = .returned (.string ⟨(joinB xs).toArray⟩) ∧ Below w.heap.size w w' := by
  rcases hv with ⟨rfl, a, c, rfl⟩ | ⟨b, off, c, hc, rfl, h⟩
  · refine (Laid.strings_Join_none a c _ w).mono ?_
    rintro e w' ⟨rfl, rfl⟩
    exact ⟨rfl, Below.refl _ _⟩
  by_cases h0 : xs = []
  · subst h0
    refine (Laid.strings_Join_none _ c _ w).mono ?_
    rintro e w' ⟨rfl, rfl⟩
    exact ⟨rfl, Below.refl _ _⟩
  have hj := Laid.strings_Join b off c (xs.map fun l => (⟨l.toArray⟩ : ByteArray)) ⟨#[32]⟩ w ?_ (hlow _ _ _ rfl (List.length_pos_iff.2 h0)) (by simp; omega) (by simpa using hc) ?_
  · rw [strV_list] at hj
    rw [List.length_map] at hj
    have e : (ByteArray.mk #[32]).data.toList = [32] := rfl
    rw [e, join_eq] at hj
    exact hj
  · intro j x hx
    have hj : j < xs.length := by
      have := (List.getElem?_eq_some_iff.1 hx).1
      simpa using this
    have hg := h j hj
    rw [hg]
    simp [hj] at hx
    simp [strV, List.getD, hj, ← hx]
  · rw [strV_list]
    have e : (ByteArray.mk #[32]).data.toList = [32] := rfl
    rw [e, join_eq]
    omega
end Go.Proofs.Ytmallpkbjpfajaa
