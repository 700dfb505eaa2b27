/- What the rows of layer 21 share: states that came in. -/
import Derived.Test.YtpfcamebkcengaaZ21h
import Derived.Test.YtpfcamebkcengaaD21d
namespace Go.Proofs.Ytpfcamebkcengaa
open Go.ChangeShapes Go.WideShapes Go.ChangeAt Go.RowKit Go.Deep

instance : Inhabited Ky21 := ⟨⟨[], []⟩⟩
instance : Inhabited En21 := ⟨⟨⟨[], []⟩, [], [], [], 0, 0⟩⟩
theorem key_cells : Try.prog.cellsOf 51 = 2 := by kernel_rfl
theorem ent_cells : Try.prog.cellsOf 53 = 7 := by kernel_rfl
theorem str_cells : Try.prog.cellsOf 9 = 1 := by kernel_rfl
theorem st_cells : Try.prog.cellsOf 43 = 6 := by kernel_rfl
theorem key_flds : ∀ (i : Nat) (f : Field), (match Try.prog.underlying 51 with | some (.struct fs) => fs | _ => #[])[i]? = some f → f.offset = i ∧ Try.prog.cellsOf f.type = 1 := by
  rw [Try.underlying51]
  intro i f h
  match i, h with
  | 0, h => cases h; exact ⟨rfl, by kernel_rfl⟩
  | 1, h => cases h; exact ⟨rfl, by kernel_rfl⟩
  | n + 2, h => simp at h
theorem st_flds : ∀ (i : Nat) (f : Field), (match Try.prog.underlying 43 with | some (.struct fs) => fs | _ => #[])[i]? = some f → f.offset = i ∧ Try.prog.cellsOf f.type = 1 := by
  rw [Try.underlying43]
  intro i f h
  match i, h with
  | 0, h => cases h; exact ⟨rfl, by kernel_rfl⟩
  | 1, h => cases h; exact ⟨rfl, by kernel_rfl⟩
  | 2, h => cases h; exact ⟨rfl, by kernel_rfl⟩
  | 3, h => cases h; exact ⟨rfl, by kernel_rfl⟩
  | 4, h => cases h; exact ⟨rfl, by kernel_rfl⟩
  | 5, h => cases h; exact ⟨rfl, by kernel_rfl⟩
  | n + 6, h => simp at h
section
variable {H : Type} {enc : TypeId × Value → H} {W : World}
theorem trod_st1 {base : Nat} {sp : Nat → Bool} {held : Bool} {fuel : Nat} {cs : List Value} {x : DataW H × List MemPlace} (h : DataW.trod enc Try.prog W base sp held fuel 9 cs = some x) : ∃ s : List UInt8, cs = stC s ∧ s.length ≤ 9223372036854775807 := by
  obtain ⟨s, e, _, w1⟩ := DataW.trod_string Try.underlying9 h
  have m : s.data.toList.length ≤ maxLen := by simpa using w1
  unfold maxLen at m
  exact ⟨s.data.toList, by rw [e]; rfl, by omega⟩
set_option maxRecDepth 100000 in
theorem trod_ky {base : Nat} {sp : Nat → Bool} {held : Bool} {fuel : Nat} {cs : List Value} {x : DataW H × List MemPlace} (h : DataW.trod enc Try.prog W base sp held fuel 51 cs = some x) : ∃ k : Ky21, cs = kyC k ∧ KyBd k := by
  have hfl := key_flds
  rw [Try.underlying51] at hfl
  obtain ⟨ys, n, rfl, hl, hyl, hff⟩ := struct_flds Try.underlying51 hfl key_cells h
  match cs, hl, ys, hyl with
  | [v0, v1], _, [y0, y1], _ =>
    obtain ⟨s0, e0, l0⟩ := trod_st1 (hff 0 _ rfl)
    obtain ⟨s1, e1, l1⟩ := trod_st1 (hff 1 _ rfl)
    simp [stC] at e0 e1
    subst e0 e1
    exact ⟨⟨s0, s1⟩, rfl, l0, l1⟩
set_option maxRecDepth 100000 in
theorem trod_en {base : Nat} {sp : Nat → Bool} {held : Bool} {fuel : Nat} {cs : List Value} {x : DataW H × List MemPlace} (h : DataW.trod enc Try.prog W base sp held fuel 53 cs = some x) : ∃ y : En21, cs = enC y ∧ EnBd y := by
  obtain ⟨ys, n, _, hx, hl, hlen, hff⟩ := DataW.trod_struct Try.underlying53 h
  rw [ent_cells] at hl
  match cs, hl, ys, hlen with
  | [v0, v1, v2, v3, v4, v5, v6], _, [y0, y1, y2, y3, y4, y5], _ =>
    have f0 : DataW.trod enc Try.prog W base sp held n 51 ([v0, v1, v2, v3, v4, v5, v6].drop 0 |>.take (Try.prog.cellsOf 51)) = some y0 := hff 0 _ rfl
    rw [show Try.prog.cellsOf 51 = 2 from key_cells] at f0
    have f1 : DataW.trod enc Try.prog W base sp held n 9 ([v0, v1, v2, v3, v4, v5, v6].drop 2 |>.take (Try.prog.cellsOf 9)) = some y1 := hff 1 _ rfl
    rw [show Try.prog.cellsOf 9 = 1 from str_cells] at f1
    have f2 : DataW.trod enc Try.prog W base sp held n 9 ([v0, v1, v2, v3, v4, v5, v6].drop 3 |>.take (Try.prog.cellsOf 9)) = some y2 := hff 2 _ rfl
    rw [show Try.prog.cellsOf 9 = 1 from str_cells] at f2
    have f3 : DataW.trod enc Try.prog W base sp held n 9 ([v0, v1, v2, v3, v4, v5, v6].drop 4 |>.take (Try.prog.cellsOf 9)) = some y3 := hff 3 _ rfl
    rw [show Try.prog.cellsOf 9 = 1 from str_cells] at f3
    have f4 : DataW.trod enc Try.prog W base sp held n 3 ([v0, v1, v2, v3, v4, v5, v6].drop 5 |>.take (Try.prog.cellsOf 3)) = some y4 := hff 4 _ rfl
    rw [show Try.prog.cellsOf 3 = 1 from (by kernel_rfl)] at f4
    have f5 : DataW.trod enc Try.prog W base sp held n 38 ([v0, v1, v2, v3, v4, v5, v6].drop 6 |>.take (Try.prog.cellsOf 38)) = some y5 := hff 5 _ rfl
    rw [show Try.prog.cellsOf 38 = 1 from (by kernel_rfl)] at f5
    obtain ⟨k, e0, b0⟩ := trod_ky f0
    obtain ⟨s1, e1, l1⟩ := trod_st1 f1
    obtain ⟨s2, e2, l2⟩ := trod_st1 f2
    obtain ⟨s3, e3, l3⟩ := trod_st1 f3
    obtain ⟨z4, e4, d4, w4⟩ := DataW.trod_int Try.underlying3 f4
    obtain ⟨z5, e5, d5, w5⟩ := DataW.trod_int Try.underlying38 f5
    simp [stC, kyC] at e0 e1 e2 e3 e4 e5
    obtain ⟨e00, e01⟩ := e0
    subst e00 e01 e1 e2 e3 e4 e5
    have b4 := bounds_i64 w4
    have b5 := bounds_u64 w5
    obtain ⟨u, rfl⟩ := Int.eq_ofNat_of_zero_le b5.1
    exact ⟨⟨k, s1, s2, s3, z4, u⟩, rfl, ⟨b0, l1, l2, l3, b4.1, b4.2, by simp only; omega⟩⟩
theorem slOf_below {α : Type} {k : Nat} {f : α → List Value} {v : Value} {l : List α} (hk : ∀ x, (f x).length = k) (hk0 : 0 < k) (h : SlOf k f W v l) : SlBelow W.heap.size v := by
  intro a n c e hn
  have h0 : l ≠ [] := by
    intro e0
    obtain ⟨a', c', e'⟩ := h.form
    rw [e'] at e
    injection e with _ e _
    rw [e0] at e
    simp at e
    omega
  obtain ⟨b, off, c', _, hlt, e', _⟩ := h.some hk hk0 h0
  rw [e'] at e
  injection e with e _ _
  injection e with e
  rw [← e]
  exact hlt
theorem slD_all {α : Type} {R : α → DataW H → Prop} {Q : α → Prop} (hRQ : ∀ a d, R a d → Q a) {l : List α} {d : DataW H} (h : SlD R l d) : ∀ a ∈ l, Q a := by
  intro a ha
  rcases h with ⟨_, h0⟩ | ⟨D, sp, _, hD⟩
  · rw [h0] at ha; cases ha
  · obtain ⟨j, hj, rfl⟩ := List.mem_iff_getElem.1 ha
    exact hRQ _ _ (hD j hj)
set_option maxRecDepth 100000 in
theorem trod_sts {fuel : Nat} {cs : List Value} {x : DataW H × List MemPlace} (h : DataW.trod enc Try.prog W 0 (fun _ => true) true fuel 39 cs = some x) : ∃ v l, cs = [v] ∧ SlOf 1 stC W v l ∧ l.length ≤ maxLen ∧ ∀ s ∈ l, s.length ≤ 9223372036854775807 := by
  obtain ⟨v, l, h1, h2, h3, h4⟩ := trod_slOf (R := fun (s : List UInt8) _ => s.length ≤ 9223372036854775807) stC_len (by decide) Try.underlying39 str_cells (fun n cs y _ h => trod_st1 h) h
  exact ⟨v, l, h1, h2, h3, slD_all (Q := fun s : List UInt8 => s.length ≤ 9223372036854775807) (fun _ _ h => h) h4⟩
set_option maxRecDepth 100000 in
theorem trod_kys {fuel : Nat} {cs : List Value} {x : DataW H × List MemPlace} (h : DataW.trod enc Try.prog W 0 (fun _ => true) true fuel 41 cs = some x) : ∃ v l, cs = [v] ∧ SlOf 2 kyC W v l ∧ l.length ≤ maxLen ∧ ∀ k ∈ l, KyBd k := by
  obtain ⟨v, l, h1, h2, h3, h4⟩ := trod_slOf (R := fun (k : Ky21) _ => KyBd k) kyC_len (by decide) Try.underlying41 key_cells (fun n cs y _ h => trod_ky h) h
  exact ⟨v, l, h1, h2, h3, slD_all (Q := KyBd) (fun _ _ h => h) h4⟩
set_option maxRecDepth 100000 in
theorem trod_ens {fuel : Nat} {cs : List Value} {x : DataW H × List MemPlace} (h : DataW.trod enc Try.prog W 0 (fun _ => true) true fuel 40 cs = some x) : ∃ v l, cs = [v] ∧ SlOf 7 enC W v l ∧ l.length ≤ maxLen ∧ ∀ y ∈ l, EnBd y := by
  obtain ⟨v, l, h1, h2, h3, h4⟩ := trod_slOf (R := fun (y : En21) _ => EnBd y) enC_len (by decide) Try.underlying40 ent_cells (fun n cs y _ h => trod_en h) h
  exact ⟨v, l, h1, h2, h3, slD_all (Q := EnBd) (fun _ _ h => h) h4⟩
set_option maxRecDepth 100000 in
/-- A state that came in. -/
theorem open_st {r : Reach} {b0 : Nat} {v : Value} {d : DataW H} {ps : List MemPlace} (hval : Value.okWide Try.prog W r b0 43 v) (hd : DataW.Trod enc Try.prog W 0 (fun _ => true) true 43 v d ps) : ∃ x : Sv21, v = svV x ∧ SvBd W W.heap.size x := by
  obtain ⟨cs, rfl, hs⟩ := okWide_struct Try.underlying43 hval
  obtain ⟨fuel, hfu⟩ := hd
  have hfl := st_flds
  rw [Try.underlying43] at hfl
  obtain ⟨ys, n, hx, hl, hyl, hff⟩ := struct_flds Try.underlying43 hfl st_cells hfu
  have hcs : (Value.agg cs).cells.toList = cs.toList := by simp [Value.cells]
  rw [hcs] at hl hff
  obtain ⟨cs⟩ := cs
  simp only at hl hff
  match cs, hl, ys, hyl with
  | [v0, v1, v2, v3, v4, v5], _, [y0, y1, y2, y3, y4, y5], _ =>
    obtain ⟨u0, fs, e0, h0, m0, q0⟩ := trod_sts (hff 0 _ rfl)
    obtain ⟨u1, es, e1, h1, m1, q1⟩ := trod_ens (hff 1 _ rfl)
    obtain ⟨u2, rs, e2, h2, m2, q2⟩ := trod_kys (hff 2 _ rfl)
    obtain ⟨z3, e3, d3, w3⟩ := DataW.trod_int Try.underlying3 (hff 3 _ rfl)
    obtain ⟨z4, e4, d4, w4⟩ := DataW.trod_int Try.underlying3 (hff 4 _ rfl)
    obtain ⟨z5, e5, d5, w5⟩ := DataW.trod_int Try.underlying3 (hff 5 _ rfl)
    simp at e0 e1 e2 e3 e4 e5
    subst e0 e1 e2 e3 e4 e5
    obtain ⟨fa, fc, rfl⟩ := h0.form
    obtain ⟨ea, ec, rfl⟩ := h1.form
    obtain ⟨ra, rc, rfl⟩ := h2.form
    have b3 := bounds_i64 w3
    have b4 := bounds_i64 w4
    have b5 := bounds_i64 w5
    unfold maxLen at m0 m1 m2
    exact ⟨⟨⟨z3, z4, z5, fs, es, rs⟩, fa, fc, ea, ec, ra, rc⟩, rfl, ⟨h0, slOf_below stC_len (by decide) h0, by simp only; omega, q0, h1, slOf_below enC_len (by decide) h1, by simp only; omega, q1, h2, slOf_below kyC_len (by decide) h2, by simp only; omega, q2, b3.1, b3.2, b4.1, b4.2, b5.1, b5.2⟩⟩
end
end Go.Proofs.Ytpfcamebkcengaa
