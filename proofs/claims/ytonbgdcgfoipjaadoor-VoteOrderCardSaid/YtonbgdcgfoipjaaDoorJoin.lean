/- strings.Join at this program, by the library's contract. -/
import Derived.Shelf.Strings.OnBuilder
import Derived.Test.YtonbgdcgfoipjaaDoorSl
import Derived.Test.YtonbgdcgfoipjaaDoorWp
namespace Go.Proofs.YtonbgdcgfoipjaaDoor
open Go.RowKit Go.Shelf
def Laid.lays156_ren : Go.Shelf.Ren := ⟨fun | 156 => 45 | 165 => 51 | 166 => 52 | 169 => 53 | 240 => 58 | 241 => 59 | 276 => 60 | 277 => 61 | n => n, fun | 31 => 31 | 9 => 9 | 3 => 3 | 4 => 4 | 0 => 0 | 20 => 20 | 72 => 68 | 76 => 72 | 70 => 66 | 37 => 52 | 75 => 71 | 127 => 78 | 164 => 79 | 5 => 5 | 80 => 74 | n => n, fun | n => n⟩
theorem Laid.lays156 : Go.Proofs.Lays.n156 Tryd.prog Laid.lays156_ren := {
  mixed := by kernel_rfl
  f156 := Tryd.func45.trans (congrArg some (by kernel_rfl))
  f165 := Tryd.func51.trans (congrArg some (by kernel_rfl))
  f166 := Tryd.func52.trans (congrArg some (by kernel_rfl))
  f169 := Tryd.func53.trans (congrArg some (by kernel_rfl))
  f240 := Tryd.func58.trans (congrArg some (by kernel_rfl))
  f241 := Tryd.func59.trans (congrArg some (by kernel_rfl))
  f276 := Tryd.func60.trans (congrArg some (by kernel_rfl))
  f277 := Tryd.func61.trans (congrArg some (by kernel_rfl))
  t0 := Tryd.underlying0
  a0 := Tryd.isAgg0
  z0 := Tryd.sizeOf0
  v0 := Tryd.zeroValue0
  t3 := Tryd.underlying3
  a3 := Tryd.isAgg3
  z3 := Tryd.sizeOf3
  v3 := Tryd.zeroValue3
  t4 := Tryd.underlying4
  a4 := Tryd.isAgg4
  z4 := Tryd.sizeOf4
  v4 := Tryd.zeroValue4
  t9 := Tryd.underlying9
  a9 := Tryd.isAgg9
  z9 := Tryd.sizeOf9
  v9 := Tryd.zeroValue9
  t20 := Tryd.underlying20
  a20 := Tryd.isAgg20
  z20 := Tryd.sizeOf20
  v20 := Tryd.zeroValue20
  t31 := Tryd.underlying31
  a31 := Tryd.isAgg31
  z31 := Tryd.sizeOf31
  v31 := Tryd.zeroValue31
  t37 := Tryd.underlying52
  a37 := Tryd.isAgg52
  z37 := Tryd.sizeOf52
  v37 := Tryd.zeroValue52
  t70 := Tryd.underlying66
  a70 := Tryd.isAgg66
  z70 := Tryd.sizeOf66
  v70 := Tryd.zeroValue66
  t72 := Tryd.underlying68
  a72 := Tryd.isAgg68
  z72 := Tryd.sizeOf68
  v72 := Tryd.zeroValue68
  t75 := Tryd.underlying71
  a75 := Tryd.isAgg71
  z75 := Tryd.sizeOf71
  v75 := Tryd.zeroValue71
  t76 := Tryd.underlying72
  a76 := Tryd.isAgg72
  z76 := Tryd.sizeOf72
  v76 := Tryd.zeroValue72
  t127 := Tryd.underlying78
  a127 := Tryd.isAgg78
  z127 := Tryd.sizeOf78
  v127 := Tryd.zeroValue78
  t164 := Tryd.underlying79
  a164 := Tryd.isAgg79
  z164 := Tryd.sizeOf79
  v164 := Tryd.zeroValue79 }
theorem Laid.Builder_Extra_156 : Builder.Extra Tryd.prog Laid.lays156_ren := {
  sizeBuilder := by kernel_rfl
  liesBuilder := by kernel_rfl
  t5 := Tryd.underlying5
  a5 := Tryd.isAgg5
  z5 := Tryd.sizeOf5
  v5 := Tryd.zeroValue5
  infoByte := by kernel_rfl
  cellsByte := by kernel_rfl
  sizeByte := by kernel_rfl
  neB5 := by decide }
theorem Laid.strings_Join_none (a : Option Addr) (c : Nat) (sep : ByteArray) (w : World) :
    Calls Tryd.prog 45 #[.slice a 0 c, .string sep] w fun e w' => e = .returned (.string ⟨#[]⟩) ∧ w' = w := Any.strings_Join_none Laid.lays156 Laid.Builder_Extra_156 a c sep w
theorem Laid.strings_Join (bk o c : Nat) (xs : List ByteArray) (sep : ByteArray) (w : World) (hcells : ∀ (j : Nat) x, xs[j]? = some x → w.cell? ⟨bk, o + j, none⟩ = some (.string x)) (hbk : bk < w.heap.size) (hN : xs.length ≤ 140737488355328) (hcap : xs.length ≤ c) (hlen : (Lib.join (xs.map (·.data.toList)) sep.data.toList).length ≤ 140737488355328) :
    Calls Tryd.prog 45 #[.slice (some ⟨bk, o, none⟩) xs.length c, .string sep] w fun e w' => e = .returned (.string ⟨(Lib.join (xs.map (·.data.toList)) sep.data.toList).toArray⟩) ∧ Below w.heap.size w w' := Any.strings_Join Laid.lays156 Laid.Builder_Extra_156 bk o c xs sep w hcells hbk hN hcap hlen
theorem join_eq : ∀ l : List (List UInt8), Lib.join l [32] = joinB l
  | [] => rfl
  | [w] => by rw [Lib.join_one]; rfl
  | w :: w2 :: l => by
    rw [joinB_cons _ (by simp), Lib.join_cons, ← join_eq (w2 :: l), Lib.join_cons]
    simp [Lib.joinTail]
theorem strV_list (xs : List (List UInt8)) : (xs.map fun l => (⟨l.toArray⟩ : ByteArray)).map (·.data.toList) = xs := by simp [List.map_map]; exact List.map_id _
/-- strings.Join with a blank between, over a slice of strings wherever it lies. -/
theorem strjoin_any (xs : List (List UInt8)) (v : Value) (w : World) (hv : StrSl w v xs) (hlow : SlBelow w.heap.size v) (hn : xs.length ≤ 100000) (hl : (joinB xs).length ≤ 10000000) :
    Calls Tryd.prog 45 #[v, .string ⟨#[32]⟩] w fun e w' => e = .returned (.string ⟨(joinB xs).toArray⟩) ∧ Below w.heap.size w w' := by
  rcases hv with ⟨rfl, a, c, rfl⟩ | ⟨b, off, c, hc, rfl, h⟩
  · refine (Laid.strings_Join_none a c _ w).mono ?_
    rintro e w' ⟨rfl, rfl⟩
    exact ⟨rfl, Below.refl _ _⟩
  by_cases h0 : xs = []
  · subst h0
    refine (Laid.strings_Join_none _ c _ w).mono ?_
    rintro e w' ⟨rfl, rfl⟩
    exact ⟨rfl, Below.refl _ _⟩
  have hj := Laid.strings_Join b off c (xs.map fun l => (⟨l.toArray⟩ : ByteArray)) ⟨#[32]⟩ w ?_ (hlow _ _ _ rfl (List.length_pos_iff.2 h0)) (by simp; omega) (by simpa using hc) ?_
  · rw [strV_list] at hj
    rw [List.length_map] at hj
    have e : (ByteArray.mk #[32]).data.toList = [32] := rfl
    rw [e, join_eq] at hj
    exact hj
  · intro j x hx
    have hj : j < xs.length := by
      have := (List.getElem?_eq_some_iff.1 hx).1
      simpa using this
    have hg := h j hj
    rw [hg]
    simp [hj] at hx
    simp [strV, List.getD, hj, ← hx]
  · rw [strV_list]
    have e : (ByteArray.mk #[32]).data.toList = [32] := rfl
    rw [e, join_eq]
    omega
end Go.Proofs.YtonbgdcgfoipjaaDoor
