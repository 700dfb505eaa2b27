/- What the rows of layer 21 share: commands that came in. -/
import Derived.Test.YtpfcamebkcengaaLiftS
import Derived.Test.YtpfcamebkcengaaGo
import Derived.Test.YtpfcamebkcengaaD21e
import Derived.OpenShut
import Derived.KernelRfl
namespace Go.Proofs.Ytpfcamebkcengaa
open Go.ChangeShapes Go.WideShapes Go.ChangeAt Go.RowKit Go.Deep

section
variable {H : Type} {enc : TypeId × Value → H} {P : Program} {w : World}
/-- A struct whose fields are a cell each, field for field. -/
theorem struct_flds {base : Nat} {sp : Nat → Bool} {held : Bool} {t : TypeId} {fs : Array Field} {fuel : Nat} {cs : List Value} {x : DataW H × List MemPlace} (ht : P.underlying t = some (.struct fs)) (hf : ∀ (i : Nat) (f : Field), fs[i]? = some f → f.offset = i ∧ P.cellsOf f.type = 1) (hct : P.cellsOf t = fs.size)
    (h : DataW.trod enc P w base sp held fuel t cs = some x) : ∃ (ys : List (DataW H × List MemPlace)) (n : Nat), x = (.agg (ys.map (·.1)), ys.flatMap (·.2)) ∧ cs.length = fs.size ∧ ys.length = fs.size ∧ ∀ (i : Nat) (f : Field), fs[i]? = some f → DataW.trod enc P w base sp held n f.type ((cs.drop i).take 1) = ys[i]? := by
  obtain ⟨ys, n, _, hx, hl, hlen, hff⟩ := DataW.trod_struct ht h
  refine ⟨ys, n, hx, by rw [hl, hct], hlen, fun i f hi => ?_⟩
  obtain ⟨h1, h2⟩ := hf i f hi
  have := hff i f hi
  rwa [h1, h2] at this
end
theorem cmd_flds : ∀ (i : Nat) (f : Field), (match Try.prog.underlying 32 with | some (.struct fs) => fs | _ => #[])[i]? = some f → f.offset = i ∧ Try.prog.cellsOf f.type = 1 := by
  rw [Try.underlying32]
  intro i f h
  match i, h with
  | 0, h => cases h; exact ⟨rfl, by kernel_rfl⟩
  | 1, h => cases h; exact ⟨rfl, by kernel_rfl⟩
  | 2, h => cases h; exact ⟨rfl, by kernel_rfl⟩
  | 3, h => cases h; exact ⟨rfl, by kernel_rfl⟩
  | 4, h => cases h; exact ⟨rfl, by kernel_rfl⟩
  | 5, h => cases h; exact ⟨rfl, by kernel_rfl⟩
  | 6, h => cases h; exact ⟨rfl, by kernel_rfl⟩
  | n + 7, h => simp at h
theorem cmd_cells : Try.prog.cellsOf 32 = 7 := by kernel_rfl
section
variable {H : Type} {enc : TypeId × Value → H} {W : World}
set_option maxRecDepth 100000 in
/-- A command that came in. -/
theorem open_cm {base : Nat} {sp : Nat → Bool} {held : Bool} {r : Reach} {b0 : Nat} {v : Value} {d : DataW H} {ps : List MemPlace} (hval : Value.okWide Try.prog W r b0 32 v) (hd : DataW.Trod enc Try.prog W base sp held 32 v d ps) : ∃ c : Cm21, v = cmV c ∧ CmBd c ∧ ps = [] := by
  obtain ⟨cs, rfl, hs⟩ := okWide_struct Try.underlying32 hval
  obtain ⟨fuel, hfu⟩ := hd
  have hfl := cmd_flds
  rw [Try.underlying32] at hfl
  obtain ⟨ys, n, hx, hl, hyl, hff⟩ := struct_flds Try.underlying32 hfl cmd_cells hfu
  have hcs : (Value.agg cs).cells.toList = cs.toList := by simp [Value.cells]
  rw [hcs] at hl hff
  obtain ⟨cs⟩ := cs
  simp only at hl hff
  match cs, hl, ys, hyl with
  | [v0, v1, v2, v3, v4, v5, v6], _, [y0, y1, y2, y3, y4, y5, y6], _ =>
    obtain ⟨z0, e0, d0, w0⟩ := DataW.trod_int Try.underlying3 (hff 0 _ rfl)
    obtain ⟨s1, e1, d1, w1⟩ := DataW.trod_string Try.underlying9 (hff 1 _ rfl)
    obtain ⟨s2, e2, d2, w2⟩ := DataW.trod_string Try.underlying9 (hff 2 _ rfl)
    obtain ⟨s3, e3, d3, w3⟩ := DataW.trod_string Try.underlying9 (hff 3 _ rfl)
    obtain ⟨z4, e4, d4, w4⟩ := DataW.trod_int Try.underlying3 (hff 4 _ rfl)
    obtain ⟨z5, e5, d5, w5⟩ := DataW.trod_int Try.underlying3 (hff 5 _ rfl)
    obtain ⟨s6, e6, d6, w6⟩ := DataW.trod_string Try.underlying9 (hff 6 _ rfl)
    simp at e0 e1 e2 e3 e4 e5 e6
    subst e0 e1 e2 e3 e4 e5 e6 d0 d1 d2 d3 d4 d5 d6
    injection hx with hx1 hx2
    have b0 := bounds_i64 w0
    have b4 := bounds_i64 w4
    have b5 := bounds_i64 w5
    have m1 : s1.data.toList.length ≤ maxLen := by simpa using w1
    have m2 : s2.data.toList.length ≤ maxLen := by simpa using w2
    have m3 : s3.data.toList.length ≤ maxLen := by simpa using w3
    have m6 : s6.data.toList.length ≤ maxLen := by simpa using w6
    unfold maxLen at m1 m2 m3 m6
    exact ⟨⟨z0, s1.data.toList, s2.data.toList, s3.data.toList, s6.data.toList, z4, z5⟩, rfl, ⟨b0.1, b0.2, by simp only; omega, by simp only; omega, by simp only; omega, by simp only; omega, b4.1, b4.2, b5.1, b5.2⟩, hx2⟩
end
end Go.Proofs.Ytpfcamebkcengaa
