/- What the row of WireAnswers shares: keys and entries that came in, with the bulk of their data. -/
import Derived.Test.YtpfcamebkcengaaZ21s
import Derived.Test.YtpfcamebkcengaaD21z
import Derived.OpenShut
namespace Go.Proofs.Ytpfcamebkcengaa
open Go.ChangeShapes Go.WideShapes Go.ChangeAt Go.RowKit Go.Deep

section
variable {H : Type} {enc : TypeId × Value → H} {W : World}
theorem bulk_str (s : List UInt8) : Rows.uptoBulk (DataW.lit (.string s) : DataW H) = s.length + 1 := by simp [Rows.uptoBulk]
theorem bulk_int (k : IntKind) (n : Int) : Rows.uptoBulk (DataW.lit (.int k n) : DataW H) = 1 := by simp [Rows.uptoBulk]
theorem bulk_bool (b : Bool) : Rows.uptoBulk (DataW.lit (.bool b) : DataW H) = 1 := by simp [Rows.uptoBulk]
/-- A text, a key with the bulk of its data. -/
theorem trod_stB {base : Nat} {sp : Nat → Bool} {held : Bool} {fuel : Nat} {cs : List Value} {x : DataW H × List MemPlace} (h : DataW.trod enc Try.prog W base sp held fuel 9 cs = some x) : ∃ s : List UInt8, cs = stC s ∧ s.length ≤ 9223372036854775807 ∧ (text21 s).length ≤ 10 * Rows.uptoBulk x.1 := by
  obtain ⟨s, e, w0, w1⟩ := DataW.trod_string Try.underlying9 h
  have m : s.data.toList.length ≤ maxLen := by simpa using w1
  unfold maxLen at m
  have hl : s.data.toList.length ≤ 9223372036854775807 := by omega
  refine ⟨s.data.toList, by rw [e]; rfl, hl, ?_⟩
  rw [w0]
  simp only
  rw [bulk_str]
  have := (int_len_bd (n := (s.data.toList.length : Int)) (by omega) (by omega)).2
  unfold text21
  rw [List.length_append]
  omega
set_option maxRecDepth 100000 in
theorem trod_kyB {base : Nat} {sp : Nat → Bool} {held : Bool} {fuel : Nat} {cs : List Value} {x : DataW H × List MemPlace} (h : DataW.trod enc Try.prog W base sp held fuel 51 cs = some x) : ∃ k : Ky21, cs = kyC k ∧ KyBd k ∧ (key21 k).length ≤ 10 * Rows.uptoBulk x.1 := by
  have hfl := key_flds
  rw [Try.underlying51] at hfl
  obtain ⟨ys, n, rfl, hl, hyl, hff⟩ := struct_flds Try.underlying51 hfl key_cells h
  match cs, hl, ys, hyl with
  | [v0, v1], _, [y0, y1], _ =>
    obtain ⟨s0, e0, l0, b0⟩ := trod_stB (hff 0 _ rfl)
    obtain ⟨s1, e1, l1, b1⟩ := trod_stB (hff 1 _ rfl)
    simp [stC] at e0 e1
    subst e0 e1
    refine ⟨⟨s0, s1⟩, rfl, ⟨l0, l1⟩, ?_⟩
    simp only [List.map_cons, List.map_nil, Rows.uptoBulk, Rows.uptoBulkAll]
    unfold key21
    rw [List.length_append]
    simp only
    omega
set_option maxRecDepth 100000 in
theorem trod_enB {base : Nat} {sp : Nat → Bool} {held : Bool} {fuel : Nat} {cs : List Value} {x : DataW H × List MemPlace} (h : DataW.trod enc Try.prog W base sp held fuel 53 cs = some x) : ∃ y : En21, cs = enC y ∧ EnBd y ∧ (ent21 y).length ≤ 10 * Rows.uptoBulk x.1 := by
  obtain ⟨ys, n, _, hx, hl, hlen, hff⟩ := DataW.trod_struct Try.underlying53 h
  rw [ent_cells] at hl
  match cs, hl, ys, hlen with
  | [v0, v1, v2, v3, v4, v5, v6], _, [y0, y1, y2, y3, y4, y5], _ =>
    have f0 : DataW.trod enc Try.prog W base sp held n 51 ([v0, v1, v2, v3, v4, v5, v6].drop 0 |>.take (Try.prog.cellsOf 51)) = some y0 := hff 0 _ rfl
    rw [show Try.prog.cellsOf 51 = 2 from key_cells] at f0
    have f1 : DataW.trod enc Try.prog W base sp held n 9 ([v0, v1, v2, v3, v4, v5, v6].drop 2 |>.take (Try.prog.cellsOf 9)) = some y1 := hff 1 _ rfl
    rw [show Try.prog.cellsOf 9 = 1 from str_cells] at f1
    have f2 : DataW.trod enc Try.prog W base sp held n 9 ([v0, v1, v2, v3, v4, v5, v6].drop 3 |>.take (Try.prog.cellsOf 9)) = some y2 := hff 2 _ rfl
    rw [show Try.prog.cellsOf 9 = 1 from str_cells] at f2
    have f3 : DataW.trod enc Try.prog W base sp held n 9 ([v0, v1, v2, v3, v4, v5, v6].drop 4 |>.take (Try.prog.cellsOf 9)) = some y3 := hff 3 _ rfl
    rw [show Try.prog.cellsOf 9 = 1 from str_cells] at f3
    have f4 : DataW.trod enc Try.prog W base sp held n 3 ([v0, v1, v2, v3, v4, v5, v6].drop 5 |>.take (Try.prog.cellsOf 3)) = some y4 := hff 4 _ rfl
    rw [show Try.prog.cellsOf 3 = 1 from (by kernel_rfl)] at f4
    have f5 : DataW.trod enc Try.prog W base sp held n 38 ([v0, v1, v2, v3, v4, v5, v6].drop 6 |>.take (Try.prog.cellsOf 38)) = some y5 := hff 5 _ rfl
    rw [show Try.prog.cellsOf 38 = 1 from (by kernel_rfl)] at f5
    obtain ⟨k, e0, b0, z0⟩ := trod_kyB f0
    obtain ⟨s1, e1, l1, z1⟩ := trod_stB f1
    obtain ⟨s2, e2, l2, z2⟩ := trod_stB f2
    obtain ⟨s3, e3, l3, z3⟩ := trod_stB f3
    obtain ⟨i4, e4, d4, w4⟩ := DataW.trod_int Try.underlying3 f4
    obtain ⟨i5, e5, d5, w5⟩ := DataW.trod_int Try.underlying38 f5
    simp [stC, kyC] at e0 e1 e2 e3 e4 e5
    obtain ⟨e00, e01⟩ := e0
    subst e00 e01 e1 e2 e3 e4 e5 d4 d5
    have b4 := bounds_i64 w4
    have b5 := bounds_u64 w5
    obtain ⟨u, rfl⟩ := Int.eq_ofNat_of_zero_le b5.1
    refine ⟨⟨k, s1, s2, s3, i4, u⟩, rfl, ⟨b0, l1, l2, l3, b4.1, b4.2, by simp only; omega⟩, ?_⟩
    have h4 := (int_len_bd b4.1 b4.2).2
    rw [hx]
    simp only [List.map_cons, List.map_nil, Rows.uptoBulk, Rows.uptoBulkAll]
    unfold ent21
    simp only [List.length_append, le_len]
    omega
theorem bulk_all (l : List (DataW H)) : Rows.uptoBulkAll l = (l.map Rows.uptoBulk).sum := by
  induction l with
  | nil => rfl
  | cons d r ih => simp [Rows.uptoBulkAll, ih]
/-- A list's bytes, and its data's bulk. -/
theorem bulk_list {α : Type} (g : α → List UInt8) {R : α → DataW H → Prop} (hR : ∀ a d, R a d → (g a).length ≤ 10 * Rows.uptoBulk d) {l : List α} {d : DataW H} (h : SlD R l d) : (l.flatMap g).length ≤ 10 * Rows.uptoBulk d := by
  rcases h with ⟨_, h0⟩ | ⟨D, sp, rfl, hD⟩
  · rw [h0]; simp
  · have key : ∀ (l : List α) (D : Nat → DataW H), (∀ j (hj : j < l.length), R (l[j]'hj) (D j)) → (l.flatMap g).length ≤ 10 * ((((List.range l.length).map D).map Rows.uptoBulk).sum) := by
      intro l
      induction l with
      | nil => intro D _; simp
      | cons x r ih =>
        intro D hD
        have h0 := hR _ _ (hD 0 (by simp))
        have h1 := ih (fun j => D (j + 1)) (fun j hj => hD (j + 1) (by simpa using hj))
        rw [List.flatMap_cons, List.length_append, List.length_cons, List.range_succ_eq_map]
        simp only [List.map_cons, List.map_map, List.sum_cons, List.getElem_cons_zero] at h0 h1 ⊢
        have e : ((List.range r.length).map (Rows.uptoBulk ∘ D ∘ Nat.succ)).sum = ((List.range r.length).map (Rows.uptoBulk ∘ fun j => D (j + 1))).sum := rfl
        rw [e, Nat.mul_add]
        omega
    have h1 := key l D hD
    simp only [Rows.uptoBulk, bulk_all]
    omega
end

instance : Inhabited Cl21 := ⟨⟨⟨[], []⟩, [], 0, 0, 0, false, none, 0⟩⟩
theorem cl_cells : Try.prog.cellsOf 59 = 7 := by kernel_rfl
section
variable {H : Type} {enc : TypeId × Value → H} {W : World}
set_option maxRecDepth 100000 in
theorem trod_clB {fuel : Nat} {cs : List Value} {x : DataW H × List MemPlace} (h : DataW.trod enc Try.prog W 0 (fun _ => true) true fuel 59 cs = some x) : ∃ y : Cl21, cs = clC y ∧ ClBd W W.heap.size y ∧ (cl21 y).length ≤ 10 * Rows.uptoBulk x.1 := by
  obtain ⟨ys, n, _, hx, hl, hlen, hff⟩ := DataW.trod_struct Try.underlying59 h
  rw [cl_cells] at hl
  match cs, hl, ys, hlen with
  | [v0, v1, v2, v3, v4, v5, v6], _, [y0, y1, y2, y3, y4, y5], _ =>
    have f0 : DataW.trod enc Try.prog W 0 (fun _ => true) true n 51 ([v0, v1, v2, v3, v4, v5, v6].drop 0 |>.take (Try.prog.cellsOf 51)) = some y0 := hff 0 _ rfl
    rw [show Try.prog.cellsOf 51 = 2 from key_cells] at f0
    have f1 : DataW.trod enc Try.prog W 0 (fun _ => true) true n 41 ([v0, v1, v2, v3, v4, v5, v6].drop 2 |>.take (Try.prog.cellsOf 41)) = some y1 := hff 1 _ rfl
    rw [show Try.prog.cellsOf 41 = 1 from (by kernel_rfl)] at f1
    have f2 : DataW.trod enc Try.prog W 0 (fun _ => true) true n 3 ([v0, v1, v2, v3, v4, v5, v6].drop 3 |>.take (Try.prog.cellsOf 3)) = some y2 := hff 2 _ rfl
    rw [show Try.prog.cellsOf 3 = 1 from (by kernel_rfl)] at f2
    have f3 : DataW.trod enc Try.prog W 0 (fun _ => true) true n 3 ([v0, v1, v2, v3, v4, v5, v6].drop 4 |>.take (Try.prog.cellsOf 3)) = some y3 := hff 3 _ rfl
    rw [show Try.prog.cellsOf 3 = 1 from (by kernel_rfl)] at f3
    have f4 : DataW.trod enc Try.prog W 0 (fun _ => true) true n 3 ([v0, v1, v2, v3, v4, v5, v6].drop 5 |>.take (Try.prog.cellsOf 3)) = some y4 := hff 4 _ rfl
    rw [show Try.prog.cellsOf 3 = 1 from (by kernel_rfl)] at f4
    have f5 : DataW.trod enc Try.prog W 0 (fun _ => true) true n 4 ([v0, v1, v2, v3, v4, v5, v6].drop 6 |>.take (Try.prog.cellsOf 4)) = some y5 := hff 5 _ rfl
    rw [show Try.prog.cellsOf 4 = 1 from (by kernel_rfl)] at f5
    obtain ⟨k, e0, b0, z0⟩ := trod_kyB f0
    obtain ⟨u, ms, e1, h1, m1, q1⟩ := trod_slOf (R := fun (k : Ky21) d => KyBd k ∧ (key21 k).length ≤ 10 * Rows.uptoBulk d) kyC_len (by decide) Try.underlying41 key_cells (fun n cs y _ h => trod_kyB h) f1
    obtain ⟨i2, e2, d2, w2⟩ := DataW.trod_int Try.underlying3 f2
    obtain ⟨i3, e3, d3, w3⟩ := DataW.trod_int Try.underlying3 f3
    obtain ⟨i4, e4, d4, w4⟩ := DataW.trod_int Try.underlying3 f4
    obtain ⟨b, e5, d5⟩ := DataW.trod_bool Try.underlying4 f5
    simp [kyC] at e0 e1 e2 e3 e4 e5
    obtain ⟨e00, e01⟩ := e0
    subst e00 e01 e1 e2 e3 e4 e5 d2 d3 d4 d5
    obtain ⟨ma, mc, rfl⟩ := h1.form
    have b2 := bounds_i64 w2
    have b3 := bounds_i64 w3
    have b4 := bounds_i64 w4
    have hall := slD_all (Q := KyBd) (fun _ _ h => h.1) q1
    have hbk := bulk_list key21 (R := fun (k : Ky21) d => KyBd k ∧ (key21 k).length ≤ 10 * Rows.uptoBulk d) (fun _ _ h => h.2) q1
    have hbp : 1 ≤ Rows.uptoBulk y1.1 := by
      rcases q1 with ⟨e, _⟩ | ⟨D, sp, e, _⟩ <;> rw [e] <;> simp [Rows.uptoBulk]
    unfold maxLen at m1
    refine ⟨⟨k, ms, i2, i3, i4, b, ma, mc⟩, rfl, ⟨b0, h1, slOf_below kyC_len (by decide) h1, by simp only; omega, hall, b2.1, b2.2, b3.1, b3.2, b4.1, b4.2⟩, ?_⟩
    have g1 := (int_len_bd (n := (ms.length : Int)) (by omega) (by omega)).2
    have g2 := (int_len_bd b2.1 b2.2).2
    have g3 := (int_len_bd b3.1 b3.2).2
    have g4 := (int_len_bd b4.1 b4.2).2
    have g5 := (int_len_bd (n := (if b then 1 else 0)) (by cases b <;> decide) (by cases b <;> decide)).2
    rw [hx]
    simp only [List.map_cons, List.map_nil, Rows.uptoBulk, Rows.uptoBulkAll]
    unfold cl21 truth21
    simp only [List.length_append]
    omega
set_option maxRecDepth 100000 in
/-- An answer that came in. -/
theorem open_an {r : Reach} {b0 : Nat} {v : Value} {d : DataW H} {ps : List MemPlace} (hval : Value.okWide Try.prog W r b0 57 v) (hd : DataW.Trod enc Try.prog W 0 (fun _ => true) true 57 v d ps) : ∃ x : An21, v = anV x ∧ AnBd W W.heap.size x ∧ (rest21 x).length ≤ 10 * Rows.uptoBulk d := by
  obtain ⟨cs, rfl, hs⟩ := okWide_struct Try.underlying57 hval
  obtain ⟨fuel, hfu⟩ := hd
  obtain ⟨ys, n, _, hx, hl, hlen, hff⟩ := DataW.trod_struct Try.underlying57 hfu
  rw [show Try.prog.cellsOf 57 = 11 from (by kernel_rfl)] at hl
  have hcs : (Value.agg cs).cells.toList = cs.toList := by simp [Value.cells]
  rw [hcs] at hl hff
  obtain ⟨cs⟩ := cs
  simp only at hl hff
  match cs, hl, ys, hlen with
  | [v0, v1, v2, v3, v4, v5, v6, v7, v8, v9, v10], _, [y0, y1, y2, y3, y4, y5, y6], _ =>
    have f0 : DataW.trod enc Try.prog W 0 (fun _ => true) true n 33 ([v0, v1, v2, v3, v4, v5, v6, v7, v8, v9, v10].drop 0 |>.take (Try.prog.cellsOf 33)) = some y0 := hff 0 _ rfl
    rw [show Try.prog.cellsOf 33 = 1 from (by kernel_rfl)] at f0
    have f1 : DataW.trod enc Try.prog W 0 (fun _ => true) true n 3 ([v0, v1, v2, v3, v4, v5, v6, v7, v8, v9, v10].drop 1 |>.take (Try.prog.cellsOf 3)) = some y1 := hff 1 _ rfl
    rw [show Try.prog.cellsOf 3 = 1 from (by kernel_rfl)] at f1
    have f2 : DataW.trod enc Try.prog W 0 (fun _ => true) true n 3 ([v0, v1, v2, v3, v4, v5, v6, v7, v8, v9, v10].drop 2 |>.take (Try.prog.cellsOf 3)) = some y2 := hff 2 _ rfl
    rw [show Try.prog.cellsOf 3 = 1 from (by kernel_rfl)] at f2
    have f3 : DataW.trod enc Try.prog W 0 (fun _ => true) true n 54 ([v0, v1, v2, v3, v4, v5, v6, v7, v8, v9, v10].drop 3 |>.take (Try.prog.cellsOf 54)) = some y3 := hff 3 _ rfl
    rw [show Try.prog.cellsOf 54 = 1 from (by kernel_rfl)] at f3
    have f4 : DataW.trod enc Try.prog W 0 (fun _ => true) true n 40 ([v0, v1, v2, v3, v4, v5, v6, v7, v8, v9, v10].drop 4 |>.take (Try.prog.cellsOf 40)) = some y4 := hff 4 _ rfl
    rw [show Try.prog.cellsOf 40 = 1 from (by kernel_rfl)] at f4
    have f5 : DataW.trod enc Try.prog W 0 (fun _ => true) true n 9 ([v0, v1, v2, v3, v4, v5, v6, v7, v8, v9, v10].drop 5 |>.take (Try.prog.cellsOf 9)) = some y5 := hff 5 _ rfl
    rw [show Try.prog.cellsOf 9 = 1 from (by kernel_rfl)] at f5
    have f6 : DataW.trod enc Try.prog W 0 (fun _ => true) true n 55 ([v0, v1, v2, v3, v4, v5, v6, v7, v8, v9, v10].drop 6 |>.take (Try.prog.cellsOf 55)) = some y6 := hff 6 _ rfl
    rw [show Try.prog.cellsOf 55 = 5 from (by kernel_rfl)] at f6
    obtain ⟨i0, e0, d0, w0⟩ := DataW.trod_int Try.underlying33 f0
    obtain ⟨i1, e1, d1, w1⟩ := DataW.trod_int Try.underlying3 f1
    obtain ⟨i2, e2, d2, w2⟩ := DataW.trod_int Try.underlying3 f2
    obtain ⟨u3, cl, e3, h3, m3, q3⟩ := trod_slOf (R := fun (y : Cl21) d => ClBd W W.heap.size y ∧ (cl21 y).length ≤ 10 * Rows.uptoBulk d) clC_len (by decide) Try.underlying54 cl_cells (fun n cs y _ h => trod_clB h) f3
    obtain ⟨u4, es, e4, h4, m4, q4⟩ := trod_slOf (R := fun (y : En21) d => EnBd y ∧ (ent21 y).length ≤ 10 * Rows.uptoBulk d) enC_len (by decide) Try.underlying40 ent_cells (fun n cs y _ h => trod_enB h) f4
    obtain ⟨cu, e5, l5, z5⟩ := trod_stB f5
    obtain ⟨xs, mm, _, hx6, _, hx6l, hx6f⟩ := DataW.trod_array Try.underlying55 f6
    match xs, hx6l with
    | [x0, x1, x2, x3, x4], _ =>
      have k0 := hx6f 0 (by decide)
      have k1 := hx6f 1 (by decide)
      have k2 := hx6f 2 (by decide)
      have k3 := hx6f 3 (by decide)
      have k4 := hx6f 4 (by decide)
      rw [show Try.prog.cellsOf 3 = 1 from (by kernel_rfl)] at k0 k1 k2 k3 k4
      obtain ⟨n0, a0, p0, r0⟩ := DataW.trod_int Try.underlying3 k0
      obtain ⟨n1, a1, p1, r1⟩ := DataW.trod_int Try.underlying3 k1
      obtain ⟨n2, a2, p2, r2⟩ := DataW.trod_int Try.underlying3 k2
      obtain ⟨n3, a3, p3, r3⟩ := DataW.trod_int Try.underlying3 k3
      obtain ⟨n4, a4, p4, r4⟩ := DataW.trod_int Try.underlying3 k4
      simp [stC] at e0 e1 e2 e3 e4 e5 a0 a1 a2 a3 a4
      subst e0 e1 e2 e3 e4 e5 a0 a1 a2 a3 a4
      subst d0 d1 d2 p0 p1 p2 p3 p4
      obtain ⟨ca, cc, rfl⟩ := h3.form
      obtain ⟨ea, ec, rfl⟩ := h4.form
      have b0 := bounds_i64 w0
      have b1 := bounds_i64 w1
      have b2 := bounds_i64 w2
      have c0 := bounds_i64 r0
      have c1 := bounds_i64 r1
      have c2 := bounds_i64 r2
      have c3 := bounds_i64 r3
      have c4 := bounds_i64 r4
      have t3 := bulk_list cl21 (R := fun (y : Cl21) d => ClBd W W.heap.size y ∧ (cl21 y).length ≤ 10 * Rows.uptoBulk d) (fun _ _ h => h.2) q3
      have t4 := bulk_list ent21 (R := fun (y : En21) d => EnBd y ∧ (ent21 y).length ≤ 10 * Rows.uptoBulk d) (fun _ _ h => h.2) q4
      unfold maxLen at m3 m4
      refine ⟨⟨i0, i1, i2, cl, es, cu, n0, n1, n2, n3, n4, ca, cc, ea, ec⟩, rfl, ⟨b0.1, b0.2, b1.1, b1.2, b2.1, b2.2, h3, slOf_below clC_len (by decide) h3, by simp only; omega, slD_all (Q := ClBd W W.heap.size) (fun _ _ h => h.1) q3, h4, slOf_below enC_len (by decide) h4, by simp only; omega, slD_all (Q := EnBd) (fun _ _ h => h.1) q4, l5, by
        intro n hn
        simp only [List.mem_cons, List.not_mem_nil, or_false] at hn
        rcases hn with rfl | rfl | rfl | rfl | rfl <;> assumption⟩, ?_⟩
      have g1 := (int_len_bd b1.1 b1.2).2
      have g2 := (int_len_bd b2.1 b2.2).2
      have g3 := (int_len_bd (n := (cl.length : Int)) (by omega) (by omega)).2
      have g4 := (int_len_bd (n := (es.length : Int)) (by omega) (by omega)).2
      have o0 := (int_len_bd c0.1 c0.2).2
      have o1 := (int_len_bd c1.1 c1.2).2
      have o2 := (int_len_bd c2.1 c2.2).2
      have o3 := (int_len_bd c3.1 c3.2).2
      have o4 := (int_len_bd c4.1 c4.2).2
      injection hx with hx1 _
      rw [hx1]
      simp only [List.map_cons, List.map_nil, Rows.uptoBulk, Rows.uptoBulkAll, hx6]
      unfold rest21
      simp only [List.length_append, List.flatMap_cons, List.flatMap_nil, List.length_nil]
      omega
end
end Go.Proofs.Ytpfcamebkcengaa
