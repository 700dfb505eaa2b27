/- Layer 14: the places within the parts, in memory. -/
import Derived.Deep.Cut
import Derived.Test.YtkgjbamkinfmeaaGreatDoorBR24
import Derived.Test.YtkgjbamkinfmeaaGreatDoorBR16
import Derived.Test.YtkgjbamkinfmeaaGreatDoorBR10
namespace Go.Proofs.YtkgjbamkinfmeaaGreatDoor
open Go.RowKit

/-- The two rows of inner: the places, the sizes. -/
structure Im (w : World) (A Z : List Int) (wr : World) : Prop where
  ra : ArrAt wr w.heap.size 3 (intV A)
  rz : ArrAt wr (w.heap.size + 1) 3 (intV Z)
  below : Below w.heap.size w wr
section
variable {w wr : World} {A Z : List Int}
theorem Im.start (w : World) (n m : Nat) : Im w (List.replicate n 0) (List.replicate m 0) ((w.alloc (.cells (List.replicate n (Value.int .i64 0)).toArray 3)).alloc (.cells (List.replicate m (Value.int .i64 0)).toArray 3)) := by
  have h1 := arrAt_new w 3 (List.replicate n (Value.int .i64 0))
  have h2 := arrAt_new (w.alloc (.cells (List.replicate n (Value.int .i64 0)).toArray 3)) 3 (List.replicate m (Value.int .i64 0))
  have hs : (w.alloc (.cells (List.replicate n (Value.int .i64 0)).toArray 3)).heap.size = w.heap.size + 1 := by simp
  rw [hs] at h2
  have hb1 : Below w.heap.size w (w.alloc (.cells (List.replicate n (Value.int .i64 0)).toArray 3)) := (Below.refl _ _).alloc (Nat.le_refl _) _
  refine ⟨?_, ?_, hb1.alloc (by omega) _⟩
  · unfold intV
    rw [List.map_replicate]
    exact h1.next ((Below.refl _ _).alloc (Nat.le_refl _) _)
  · unfold intV
    rw [List.map_replicate]
    exact h2
theorem Im.setA (h : Im w A Z wr) (j : Nat) (v : Int) : Im w (A.set j v) Z (wr.setCell ⟨w.heap.size, j, none⟩ (.int .i64 v)) :=
  ⟨by unfold intV; rw [List.map_set]; exact h.ra.set j _, h.rz.far j _ (by omega), h.below.setCell (p := ⟨w.heap.size, j, none⟩) (Nat.le_refl _) _⟩
theorem Im.setZ (h : Im w A Z wr) (j : Nat) (v : Int) : Im w A (Z.set j v) (wr.setCell ⟨w.heap.size + 1, j, none⟩ (.int .i64 v)) :=
  ⟨h.ra.far j _ (by omega), by unfold intV; rw [List.map_set]; exact h.rz.set j _, h.below.setCell (p := ⟨w.heap.size + 1, j, none⟩) (by show w.heap.size ≤ w.heap.size + 1; omega) _⟩
theorem Im.cellA (h : Im w A Z wr) {j : Nat} {v : Int} (hj : A[j]? = some v) : wr.cell? ⟨w.heap.size, j, none⟩ = some (.int .i64 v) ∧ wr.frozen? ⟨w.heap.size, j, none⟩ = false :=
  ⟨by rw [h.ra.cell]; unfold intV; simp [hj], h.ra.soft j⟩
theorem Im.cellZ (h : Im w A Z wr) {j : Nat} {v : Int} (hj : Z[j]? = some v) : wr.cell? ⟨w.heap.size + 1, j, none⟩ = some (.int .i64 v) ∧ wr.frozen? ⟨w.heap.size + 1, j, none⟩ = false :=
  ⟨by rw [h.rz.cell]; unfold intV; simp [hj], h.rz.soft j⟩
end

set_option maxRecDepth 100000 in
set_option maxHeartbeats 4000000 in
theorem inner14_any (g : Nat) (O : List Int) (many : Nat) (w : World) (h : ArrAt w g 3 (intV O)) (hn : O.length ≤ 1000000) (hm : many ≤ 1000000) (hO : ∀ j, j < O.length → O.getD j (-2) = -1 ∨ ∃ i, i < many ∧ O.getD j (-2) = (i : Int)) :
    Calls Tryz.prog 127 #[.slice (some ⟨g, 0, none⟩) O.length O.length, .int .i64 many] w fun e w' => e = .returned (.slice (some ⟨w.heap.size, 0, none⟩) O.length O.length) ∧ Hid (ArrAt w' w.heap.size 3 (intV (plL O O.length))) ∧ Hid (Below w.heap.size w w') := by
  have hmk1 := run_make_row (P := Tryz.prog) 84 3 (.int .i64 0) 8 Tryz.underlying84 info_int rfl (O.length : Int) O.length rfl (by omega) (by omega)
  have hmk2 := run_make_row (P := Tryz.prog) 84 3 (.int .i64 0) 8 Tryz.underlying84 info_int rfl (many : Int) many rfl (by omega) (by omega)
  have hm0 := Im.start w O.length many
  have hcell : ∀ wr, Below w.heap.size w wr → ∀ j, j < O.length → wr.cell? ⟨g, j, none⟩ = some (.int .i64 (O.getD j (-2))) := fun wr hb j hj => by
    rw [(h.next hb).cell]; unfold intV; simp [List.getD, hj]
  rw [← plL_zero O, ← szL_zero O] at hm0
  simp only [List.toArray_replicate] at hm0
  replace hm0 := Lib.hid hm0
  replace hcell := Lib.hid hcell
  replace hO := Lib.hid hO
  replace h := Lib.hid h
  go_enter Tryz.func127, Tryz.ntmps127
  go_upto_region 3 with fail
  clear hmk1 hmk2
  generalize (w.alloc (.cells (Array.replicate O.length (Value.int .i64 0)) 3)).alloc (.cells (Array.replicate many (Value.int .i64 0)) 3) = w0 at hm0 ⊢
  go_wp2_with fail
  go_loopw [16] (fun ii wr => ∃ t : Nat, ii = .int .i64 t ∧ t ≤ O.length ∧ Hid (Im w (plL O t) (szL O many t) wr)) (fun ii _ => O.length - (intOf ii).toNat)
  case atStart => exact ⟨0, rfl, Nat.zero_le _, hm0⟩
  case round =>
    clear hm0
    obtain ⟨t, rfl, ht, hM⟩ := hrel
    by_cases hlt : t < O.length
    · have hlt1 : (t : Int) < O.length := by omega
      have d0 := hcell.out wr hM.out.below t hlt
      rcases hO.out t hlt with e | ⟨i, hi, e⟩
      · rw [e] at d0
        have hM2 : Hid (Im w (plL O (t + 1)) (szL O many (t + 1)) wr) := by rw [plL_none e, szL_none e]; exact hM
        replace e := Lib.hid e
        go_wp2_with fail
        exact ⟨⟨t + 1, by go_num, by omega, hM2⟩, by simp [intOf]; omega⟩
      · rw [e] at d0
        have hi1 : (i : Int) < many := by omega
        have hne : ((i : Int) == -1) = false := by rw [beq_eq_false_iff_ne]; omega
        have hne2 : ((i : Int) != -1) = true := by rw [bne_iff_ne]; omega
        obtain ⟨x1, x2⟩ := hM.out.cellA (plL_at (O := O) (t := t) hlt)
        obtain ⟨z1, z2⟩ := hM.out.cellZ (szL_at (O := O) (t := t) hi)
        have hq := plN_eq e
        have hle := ownL_len O (i : Int) t
        have hM2 := hM.out.setA t (plN O t : Int)
        have hM3 := hM2.setZ i ((plN O t : Int) + 1)
        obtain ⟨y1, y2⟩ := hM2.cellZ (szL_at (O := O) (t := t) hi)
        have hfin : Hid (Im w (plL O (t + 1)) (szL O many (t + 1)) ((wr.setCell ⟨w.heap.size, t, none⟩ (.int .i64 (plN O t : Int))).setCell ⟨w.heap.size + 1, i, none⟩ (.int .i64 ((plN O t : Int) + 1)))) := by
          rw [plL_some hlt (by omega), szL_some e, ← hq]; exact hM3
        rw [← hq] at z1 y1 hle
        generalize plN O t = q at *
        clear hM2 hM3
        replace e := Lib.hid e
        replace hq := Lib.hid hq
        go_wp2_with fail
        exact ⟨⟨t + 1, by go_num, by omega, hfin⟩, by simp [intOf]; omega⟩
    · have hlt1 : ¬ ((t : Int) < O.length) := by omega
      have hte := Lib.hid (show t = O.length by omega)
      go_wp2_with fail
      go_ret
      refine ⟨rfl, ?_, hM.out.below⟩
      have := hM.out.ra
      rw [hte.out] at this
      exact this
end Go.Proofs.YtkgjbamkinfmeaaGreatDoor

/- Nodes that a call builds: append where the row is told; steps of a builder, plain. -/
namespace Go.Proofs.YtkgjbamkinfmeaaGreatDoor
open Go.RowKit

theorem t_an : 166 ≠ 56 := by decide
theorem info_attr12 : (Tryz.prog.info? 166).map (fun i => (i.zero, i.size, i.bytes)) = some (some (.agg #[.string ⟨#[]⟩, .string ⟨#[]⟩]), 2, 32) := by kernel_rfl
/-- Append of attributes that can be read. -/
theorem wpList_append_at {P : Program} {ops : Array Oper} {rest : List Oper} {o : Oper} {a : Act} {Q : Exit → Act → World → Prop} {w : World} (hw : Region.wanted o (yielded ops a.tmps) = true) (s x : Operand) (t e : TypeId)
    (ho : o.op = .call { callee := .builtin .append, args := #[s, x], argTypes := #[t, t] }) (ht : P.underlying t = some (.slice e))
    (z : Value) (bytes : Nat) (hi : (P.info? e).map (fun i => (i.zero, i.size, i.bytes)) = some (some z, 2, bytes)) (hzs : z.cells.size = 2) (hby : 0 < bytes)
    (B : Nat) (v : Value) (n : Nat) (xs : List Value) (hown : w.ownsRow B e 2 v n xs) (v2 : Value) (ys : List At) (hsl : AtSl w v2 ys) (hs : a.eval s = v) (hx : a.eval x = v2)
    (hn : (n + ys.length) * bytes ≤ 140737488355328) (hB : B ≤ w.heap.size)
    (h : ∀ v' w', w'.ownsRow B e 2 v' (n + ys.length) (xs ++ cellsA ys) → Below B w w' → wpList P ops Q rest (a.put o.dst v') w') : wpList P ops Q (o :: rest) a w := by
  obtain ⟨i0, hi, hz0, hz1, hz2⟩ := info_parts hi
  have hn1 : n + ys.length ≤ (n + ys.length) * bytes := Nat.le_mul_of_pos_right _ hby
  rcases hsl with ⟨rfl, ad, c, rfl⟩ | ⟨b, off, c, _, rfl, hc⟩
  · cases ad with
    | none =>
      refine BigFrame.wpList_want hw fun K hK => ?_
      have hrun := run_append_none (P := P) (w := w) B t o.type e i0 2 ht hi v n c xs hown
      have hK' := hK _ _ (h v w (by simpa [cellsA] using hown) (Below.refl _ _))
      unfold Oper.wp
      simp [execOp, ho, resolve, invoke, builtin, hs, hx, hrun, Result.andThen]
      exact hK'
    | some ad =>
      refine BigFrame.wpList_want hw fun K hK => wp_append_own _ s x t ho B e i0 z 2 bytes ht hi hz0 hz1 hz2 hzs (by decide) v n xs hs hown ad 0 c [] hx rfl (by simp) (by simp) (by unfold maxLen; simp at hn1 hn ⊢; omega) (by simpa using hn) hB ?_
      intro v' w' h1 h2 _
      exact hK _ _ (h v' w' (by simpa [cellsA] using h1) ((Below.refl B w).grown h2 hB fun k hk => (hown.lt k hk).1))
  · refine BigFrame.wpList_want hw fun K hK => wp_append_own _ s x t ho B e i0 z 2 bytes ht hi hz0 hz1 hz2 hzs (by decide) v n xs hs hown ⟨b, off, none⟩ ys.length c (cellsA ys) hx (cellsA_len ys) ?_ (cellsA_one' ys) (by unfold maxLen; omega) hn hB ?_
    · intro j u hu
      have hj : j < (cellsA ys).length := (List.getElem?_eq_some_iff.1 hu).1
      rw [cellsA_len] at hj
      have hj2 : j / 2 < ys.length := by omega
      obtain ⟨e0, e1⟩ := cellsA_at ys (j / 2) hj2
      obtain ⟨f0, f1⟩ := hc (j / 2) hj2
      rw [addr_mid]
      rcases Nat.mod_two_eq_zero_or_one j with hm | hm
      · have ej : j / 2 * 2 = j := by omega
        rw [ej] at e0 f0
        rw [f0, ← e0, hu]
      · have ej : j / 2 * 2 + 1 = j := by omega
        rw [Nat.add_assoc, ej] at f1
        rw [ej] at e1
        rw [f1, ← e1, hu]
    · intro v' w' h1 h2 _
      exact hK _ _ (h v' w' h1 ((Below.refl B w).grown h2 hB fun k hk => (hown.lt k hk).1))
/-- A token as an argument. -/
def tkA (x : Tk) (va : Value) : Value := .agg #[.int .i64 x.kind, .string ⟨x.name.toArray⟩, va, .string ⟨x.text.toArray⟩]
section
variable {s : Bs} {x : Tk}
theorem takeB_out (h1 : s.up = -1) (h2 : s.nds ≠ []) : takeB s x = none := by unfold takeB; rw [if_pos ⟨h1, h2⟩]
theorem takeB_start (h : ¬ (s.up = -1 ∧ s.nds ≠ [])) (hk : x.kind = 1) (hn : x.name ≠ []) : takeB s x = some ⟨s.nds ++ [elemN x s.up], s.nds.length⟩ := by unfold takeB; rw [if_neg h, if_pos ⟨hk, hn⟩]
theorem takeB_empty (h : ¬ (s.up = -1 ∧ s.nds ≠ [])) (hk : x.kind = 3) (hn : x.name ≠ []) : takeB s x = some ⟨s.nds ++ [elemN x s.up], s.up⟩ := by unfold takeB; rw [if_neg h, if_neg (by omega), if_pos ⟨hk, hn⟩]
theorem takeB_text (hk : x.kind = 4) (hu : s.up ≠ -1) : takeB s x = some ⟨s.nds ++ [textN x s.up], s.up⟩ := by unfold takeB; rw [if_neg (fun e => hu e.1), if_neg (by omega), if_neg (by omega), if_pos ⟨hk, hu⟩]
theorem takeB_end (hk : x.kind = 2) (hu : s.up ≠ -1) (hn : x.name = (atN s.nds s.up).name) : takeB s x = some ⟨s.nds, upN s.nds s.up⟩ := by unfold takeB; rw [if_neg (fun e => hu e.1), if_neg (by omega), if_neg (by omega), if_neg (by omega), if_pos ⟨hk, hu, hn⟩]
theorem takeB_no (h1 : ¬ (x.kind = 1 ∧ x.name ≠ [])) (h3 : ¬ (x.kind = 3 ∧ x.name ≠ [])) (h4 : ¬ (x.kind = 4 ∧ s.up ≠ -1)) (h2 : ¬ (x.kind = 2 ∧ s.up ≠ -1 ∧ x.name = (atN s.nds s.up).name)) : takeB s x = none := by
  unfold takeB
  by_cases h : s.up = -1 ∧ s.nds ≠ []
  · rw [if_pos h]
  · rw [if_neg h, if_neg h1, if_neg h3, if_neg h4, if_neg h2]
end
/-- A token's box. -/
abbrev boxT (w : World) (x : Tk) (va : Value) : World := w.alloc (.cells #[.int .i64 x.kind, .string ⟨x.name.toArray⟩, va, .string ⟨x.text.toArray⟩] 83)
theorem foldB_app : ∀ (l m : List Tk) (s : Bs), foldB s (l ++ m) = match foldB s l with | none => none | some s' => foldB s' m
  | [], m, s => rfl
  | x :: t, m, s => by
    rw [List.cons_append, foldB, foldB]
    cases takeB s x with
    | none => rfl
    | some s' => exact foldB_app t m s'
theorem foldB_next (l : List Tk) (k : Nat) (h : k < l.length) {s : Bs} (e : foldB bs0 (l.take k) = some s) : foldB bs0 (l.take (k + 1)) = takeB s (l[k]'h) := by
  rw [List.take_add_one, List.getElem?_eq_getElem h, Option.toList_some, foldB_app, e]
  show foldB s [l[k]] = _
  rw [foldB]
  cases takeB s l[k] with
  | none => rfl
  | some s' => rfl
theorem buildB_bad (l : List Tk) (k : Nat) (e : foldB bs0 (l.take k) = none) : buildB l = none := by
  have h := foldB_app (l.take k) (l.drop k) bs0
  rw [List.take_append_drop, e] at h
  unfold buildB
  rw [h]
theorem buildB_end (l : List Tk) {s : Bs} (e : foldB bs0 (l.take l.length) = some s) : buildB l = if s.up = -1 ∧ s.nds ≠ [] then some s.nds else none := by
  rw [List.take_length] at e
  unfold buildB
  rw [e]
end Go.Proofs.YtkgjbamkinfmeaaGreatDoor

/- Layer 14: the parts in memory: a row of slices of nodes, each with a number; plain: how they grow. -/
namespace Go.Proofs.YtkgjbamkinfmeaaGreatDoor
open Go.RowKit

/-- The parts' cells: each one's nodes, its item's place. -/
def cellsQ (l : List (Value × Int)) : List Value := l.flatMap fun p => [p.1, .int .i64 p.2]
theorem cellsQ_len (l : List (Value × Int)) : (cellsQ l).length = l.length * 2 := by
  induction l with
  | nil => rfl
  | cons x t ih => simp [cellsQ] at ih ⊢; omega
theorem cellsQ_at : ∀ (l : List (Value × Int)) (j : Nat) (p : Value × Int), l[j]? = some p → (cellsQ l)[j * 2]? = some p.1 ∧ (cellsQ l)[j * 2 + 1]? = some (.int .i64 p.2)
  | [], j, p, h => by simp at h
  | x :: t, 0, p, h => by injection h with h; subst h; exact ⟨rfl, rfl⟩
  | x :: t, j + 1, p, h => by
    have := cellsQ_at t j p (by simpa using h)
    have e : cellsQ (x :: t) = x.1 :: .int .i64 x.2 :: cellsQ t := rfl
    rw [e, show (j + 1) * 2 = j * 2 + 1 + 1 by omega, show j * 2 + 1 + 1 + 1 = (j * 2 + 1) + 1 + 1 by omega]
    simpa using this
theorem cellsQ_set0 : ∀ (l : List (Value × Int)) (j : Nat) (p : Value × Int) (v : Value), l[j]? = some p → (cellsQ l).set (j * 2) v = cellsQ (l.set j (v, p.2))
  | [], j, p, v, h => by simp at h
  | x :: t, 0, p, v, h => by injection h with h; subst h; rfl
  | x :: t, j + 1, p, v, h => by
    have := cellsQ_set0 t j p v (by simpa using h)
    have e : ∀ y s, cellsQ (y :: s) = y.1 :: .int .i64 y.2 :: cellsQ s := fun _ _ => rfl
    rw [e, show (j + 1) * 2 = j * 2 + 1 + 1 by omega, List.set_cons_succ, List.set_cons_succ, List.set_cons_succ, e, this]
theorem cellsQ_set1 : ∀ (l : List (Value × Int)) (j : Nat) (p : Value × Int) (z : Int), l[j]? = some p → (cellsQ l).set (j * 2 + 1) (.int .i64 z) = cellsQ (l.set j (p.1, z))
  | [], j, p, z, h => by simp at h
  | x :: t, 0, p, z, h => by injection h with h; subst h; rfl
  | x :: t, j + 1, p, z, h => by
    have := cellsQ_set1 t j p z (by simpa using h)
    have e : ∀ y s, cellsQ (y :: s) = y.1 :: .int .i64 y.2 :: cellsQ s := fun _ _ => rfl
    rw [e, show (j + 1) * 2 + 1 = (j * 2 + 1) + 1 + 1 by omega, List.set_cons_succ, List.set_cons_succ, List.set_cons_succ, e, this]
theorem t_np : 56 ≠ 150 := by decide
theorem t_ni : 56 ≠ 3 := by decide
theorem t_pi : 150 ≠ 3 := by decide
/-- The parts in memory: each one's nodes lie in a row of its own. -/
structure Pm (B G : Nat) (pcs : List (Value × Int)) (Qs : List (List (Nd × Value))) (w : World) : Prop where
  len : pcs.length = Qs.length
  row : ArrAt w G 150 (cellsQ pcs)
  ins : ∀ (i : Nat) (p : Value × Int) (q : List (Nd × Value)), pcs[i]? = some p → Qs[i]? = some q → OwnN w B p.1 q
  apart : ∀ (i j : Nat) (p q : Value × Int), pcs[i]? = some p → pcs[j]? = some q → i ≠ j → ∀ b, p.1.ownBlock = some b → q.1.ownBlock ≠ some b
  low : B ≤ G
  base : B ≤ w.heap.size
section
variable {w w' w1 : World} {B G : Nat} {pcs : List (Value × Int)} {Qs : List (List (Nd × Value))}
theorem Pm.below (h : Pm B G pcs Qs w) (hb : Below w.heap.size w w') : Pm B G pcs Qs w' :=
  ⟨h.len, h.row.next hb, fun i p q hp hq => ownsRow_below (h.ins i p q hp hq) hb, h.apart, h.low, Nat.le_trans h.base hb.size⟩
theorem Pm.get (h : Pm B G pcs Qs w) {i : Nat} {q : List (Nd × Value)} (hq : Qs[i]? = some q) : ∃ p, pcs[i]? = some p ∧ w.cell? ⟨G, i * 2, none⟩ = some p.1 ∧ w.cell? ⟨G, i * 2 + 1, none⟩ = some (.int .i64 p.2) ∧ OwnN w B p.1 q := by
  have hi : i < pcs.length := by rw [h.len]; exact (List.getElem?_eq_some_iff.1 hq).1
  have hp : pcs[i]? = some (pcs[i]'hi) := List.getElem?_eq_getElem hi
  obtain ⟨e0, e1⟩ := cellsQ_at pcs i _ hp
  exact ⟨_, hp, by rw [h.row.cell, e0], by rw [h.row.cell, e1], h.ins i _ _ hp hq⟩
/-- An item's place is laid. -/
theorem Pm.item (h : Pm B G pcs Qs w) {i : Nat} {p : Value × Int} (hp : pcs[i]? = some p) (z : Int) : Pm B G (pcs.set i (p.1, z)) Qs (w.setCell ⟨G, i * 2 + 1, none⟩ (.int .i64 z)) := by
  have hst := turned_setCell w ⟨G, i * 2 + 1, none⟩ (.int .i64 z)
  have hi := (List.getElem?_eq_some_iff.1 hp).1
  refine ⟨by rw [List.length_set]; exact h.len, ?_, fun j p' q hp' hq => ?_, fun j k p' q hp' hq hjk b => ?_, h.low, by simpa using h.base⟩
  · have := h.row.set (i * 2 + 1) (.int .i64 z)
    rw [cellsQ_set1 _ _ _ _ hp] at this
    exact this
  · have h1 : OwnN w B p'.1 q := by
      rw [List.getElem?_set] at hp'
      split at hp'
      · rename_i e
        subst e
        injection hp' with hp'
        subst hp'
        exact h.ins i p q hp hq
      · exact h.ins j p' q hp' hq
    exact ownsRow_turned h1 hst fun b hb e => own_ne_arr h1 h.row t_np (by rw [hb]; exact congrArg some e)
  · have key : ∀ k (p' : Value × Int), (pcs.set i (p.1, z))[k]? = some p' → ∃ p'' : Value × Int, pcs[k]? = some p'' ∧ p''.1 = p'.1 := fun k p' hp' => by
      rw [List.getElem?_set] at hp'
      split at hp'
      · rename_i e
        subst e
        injection hp' with hp'
        subst hp'
        exact ⟨p, hp, rfl⟩
      · exact ⟨p', hp', rfl⟩
    obtain ⟨a, ha, ea⟩ := key j p' hp'
    obtain ⟨c, hc, ec⟩ := key k q hq
    rw [← ea, ← ec]
    exact h.apart j k a c ha hc hjk b
/-- A node more. -/
theorem Pm.put (h : Pm B G pcs Qs w) {i : Nat} {p : Value × Int} {q : List (Nd × Value)} (hp : pcs[i]? = some p) (hq : Qs[i]? = some q) {v1 : Value} {y : Nd × Value} (ho : w1.ownsRow B 56 4 v1 (q.length + 1) (cellsN q ++ ndV y)) (hg : w.grownBy w1 p.1.ownBlock)
    (hw : v1.ownBlock = p.1.ownBlock ∨ ∃ b, v1.ownBlock = some b ∧ w.heap.size ≤ b) : Pm B G (pcs.set i (v1, p.2)) (Qs.set i (q ++ [y])) (w1.setCell ⟨G, i * 2, none⟩ v1) ∧ Below B w (w1.setCell ⟨G, i * 2, none⟩ v1) := by
  have hT := Turned.of_grown (S := fun b => p.1.ownBlock = some b) hg fun _ e => e
  have hi := (List.getElem?_eq_some_iff.1 hp).1
  have hiQ := (List.getElem?_eq_some_iff.1 hq).1
  have hown := h.ins i p q hp hq
  have hr1 := h.row.turned hT (own_ne_arr hown h.row t_np)
  have hst := turned_setCell w1 ⟨G, i * 2, none⟩ v1
  have ho2 : OwnN w1 B v1 (q ++ [y]) := by
    unfold OwnN
    rw [List.length_append, cellsN_app]
    have e : cellsN [y] = ndV y := by simp [cellsN]
    rw [e]; exact ho
  refine ⟨⟨by rw [List.length_set, List.length_set]; exact h.len, ?_, fun j p' q' hp' hq' => ?_, fun j k p' q' hp' hq' hjk b => ?_, h.low, ?_⟩, ?_⟩
  · have := ArrAt.set hr1 (i * 2) v1
    rw [cellsQ_set0 _ _ _ _ hp] at this
    exact this
  · by_cases e : i = j
    · subst e
      rw [List.getElem?_set_self hi] at hp'
      rw [List.getElem?_set_self hiQ] at hq'
      injection hp' with hp'
      injection hq' with hq'
      subst hp' hq'
      exact ownsRow_turned ho2 hst fun b hb e => own_ne_arr ho2 hr1 t_np (by rw [hb]; exact congrArg some e)
    · rw [List.getElem?_set_ne e] at hp' hq'
      have h1 := h.ins j p' q' hp' hq'
      have h2 : OwnN w1 B p'.1 q' := ownsRow_turned h1 hT fun b hb e2 => h.apart i j p p' hp hp' e b e2 hb
      exact ownsRow_turned h2 hst fun b hb e => own_ne_arr h2 hr1 t_np (by rw [hb]; exact congrArg some e)
  · have hnew : ∀ k (p' : Value × Int), k ≠ i → pcs[k]? = some p' → ∀ b, v1.ownBlock = some b → p'.1.ownBlock ≠ some b := fun k p' hk hp' b e e2 => by
      have hk2 : k < Qs.length := by rw [← h.len]; exact (List.getElem?_eq_some_iff.1 hp').1
      rcases hw with h' | ⟨b', h', hb'⟩
      · exact h.apart i k p p' hp hp' (fun e => hk e.symm) b (h'.symm.trans e) e2
      · have := (World.ownsRow.lt (h.ins k p' _ hp' (List.getElem?_eq_getElem hk2)) b e2).2
        rw [h'] at e
        injection e with e
        omega
    by_cases e : i = j
    · subst e
      rw [List.getElem?_set_self hi] at hp'
      rw [List.getElem?_set_ne hjk] at hq'
      injection hp' with hp'
      subst hp'
      exact hnew k q' (fun e => hjk e.symm) hq' b
    · rw [List.getElem?_set_ne e] at hp'
      by_cases e' : i = k
      · subst e'
        rw [List.getElem?_set_self hi] at hq'
        injection hq' with hq'
        subst hq'
        exact fun e1 e2 => hnew j p' (fun e3 => e e3.symm) hp' b e2 e1
      · rw [List.getElem?_set_ne e'] at hq'
        exact h.apart j k p' q' hp' hq' hjk b
  · exact Nat.le_trans h.base (by simpa using hg.size)
  · exact ((Below.refl B w).grown hg h.base fun k hk => (World.ownsRow.lt hown k hk).1).setCell h.low _
end
/-- The part of the item i, of the first t nodes; with each node's attributes. -/
def partN (P : List (Nd × Value)) (S O : List Int) (i t : Nat) : List (Nd × Value) := (ownL O (i : Int) t).map fun j => (pcNd (nodes P) O (S.getD i 0).toNat j, (P.getD j (nd0, undef)).2)
theorem part_nodes (P : List (Nd × Value)) (S O : List Int) (i t : Nat) : nodes (partN P S O i t) = pieceB (nodes P) O (i : Int) (S.getD i 0).toNat t := by
  unfold nodes partN pieceB
  rw [List.map_map]
  rfl
def QsT (P : List (Nd × Value)) (S O : List Int) (t : Nat) : List (List (Nd × Value)) := (List.range S.length).map fun i => partN P S O i t
def itT (S O : List Int) (t : Nat) : List Int := (List.range S.length).map fun i => if (S.getD i 0).toNat < t then (plN O (S.getD i 0).toNat : Int) else 0
section
variable {P : List (Nd × Value)} {S O : List Int} {t i k : Nat}
theorem QsT_len : (QsT P S O t).length = S.length := by unfold QsT; simp
theorem QsT_at (hi : i < S.length) : (QsT P S O t)[i]? = some (partN P S O i t) := by unfold QsT; simp [hi]
theorem itT_at (hi : i < S.length) : (itT S O t)[i]? = some (if (S.getD i 0).toNat < t then (plN O (S.getD i 0).toNat : Int) else 0) := by unfold itT; simp [hi]
theorem part_skip (h : O.getD t (-2) ≠ (i : Int)) : partN P S O i (t + 1) = partN P S O i t := by unfold partN; rw [ownL_succ, if_neg h, List.append_nil]
theorem part_more (h : O.getD t (-2) = (i : Int)) : partN P S O i (t + 1) = partN P S O i t ++ [(pcNd (nodes P) O (S.getD i 0).toNat t, (P.getD t (nd0, undef)).2)] := by unfold partN; rw [ownL_succ, if_pos h, List.map_append]; rfl
theorem QsT_none (h : O.getD t (-2) = -1) : QsT P S O (t + 1) = QsT P S O t := by
  unfold QsT
  exact List.map_congr_left fun i _ => part_skip (by omega)
theorem QsT_some (h : O.getD t (-2) = (k : Int)) : QsT P S O (t + 1) = (QsT P S O t).set k (partN P S O k t ++ [(pcNd (nodes P) O (S.getD k 0).toNat t, (P.getD t (nd0, undef)).2)]) := by
  refine List.ext_getElem? fun j => ?_
  rw [List.getElem?_set, QsT_len]
  by_cases hj : j < S.length
  · rw [QsT_at hj, QsT_at hj]
    by_cases e : k = j
    · subst e
      rw [if_pos rfl, if_pos hj, part_more h]
    · rw [if_neg e, part_skip (by omega)]
  · rw [List.getElem?_eq_none (by rw [QsT_len]; omega), List.getElem?_eq_none (by rw [QsT_len]; omega)]
    split
    · rw [if_neg (by omega)]
    · rfl
/-- What the owners are, as far as the parts ask. -/
structure OwS (P : List (Nd × Value)) (S O : List Int) : Prop where
  len : O.length = P.length
  val : ∀ j, j < P.length → O.getD j (-2) = -1 ∨ ∃ i, i < S.length ∧ O.getD j (-2) = (i : Int)
  self : ∀ i, i < S.length → 0 ≤ S.getD i 0 ∧ S.getD i 0 < P.length ∧ O.getD (S.getD i 0).toNat (-2) = (i : Int)
theorem itT_none (hO : OwS P S O) (h : O.getD t (-2) = -1) : itT S O (t + 1) = itT S O t := by
  unfold itT
  refine List.map_congr_left fun i hi => ?_
  rw [List.mem_range] at hi
  obtain ⟨a, b, c⟩ := hO.self i hi
  have hne : (S.getD i 0).toNat ≠ t := fun e => by rw [e] at c; omega
  by_cases e : (S.getD i 0).toNat < t
  · rw [if_pos (by omega), if_pos e]
  · rw [if_neg (by omega), if_neg e]
theorem itT_other (hO : OwS P S O) (h : O.getD t (-2) = (k : Int)) (hne : S.getD k 0 ≠ (t : Int)) : itT S O (t + 1) = itT S O t := by
  unfold itT
  refine List.map_congr_left fun i hi => ?_
  rw [List.mem_range] at hi
  obtain ⟨a, b, c⟩ := hO.self i hi
  have hne : (S.getD i 0).toNat ≠ t := fun e => by
    rw [e] at c
    have : i = k := by omega
    subst this
    exact hne (by omega)
  by_cases e : (S.getD i 0).toNat < t
  · rw [if_pos (by omega), if_pos e]
  · rw [if_neg (by omega), if_neg e]
theorem itT_item (hO : OwS P S O) (hk : k < S.length) (hs : S.getD k 0 = (t : Int)) : itT S O (t + 1) = (itT S O t).set k (plN O t : Int) := by
  have hl : ∀ t, (itT S O t).length = S.length := fun t => by unfold itT; simp
  refine List.ext_getElem? fun j => ?_
  rw [List.getElem?_set, hl]
  by_cases hj : j < S.length
  · rw [itT_at hj, itT_at hj]
    by_cases e : k = j
    · subst e
      rw [if_pos rfl, if_pos hk, hs, if_pos (by simp)]
      rfl
    · rw [if_neg e]
      obtain ⟨a, b, c⟩ := hO.self j hj
      obtain ⟨a', b', c'⟩ := hO.self k hk
      have hne : (S.getD j 0).toNat ≠ t := fun e2 => by
        rw [hs] at c'
        rw [e2] at c
        rw [Int.toNat_natCast] at c'
        omega
      congr 1
      by_cases e2 : (S.getD j 0).toNat < t
      · rw [if_pos (by omega), if_pos e2]
      · rw [if_neg (by omega), if_neg e2]
  · rw [List.getElem?_eq_none (by rw [hl]; omega), List.getElem?_eq_none (by rw [hl]; omega), if_neg (by omega)]
end
theorem Own.ows {P : List (Nd × Value)} {S O : List Int} (h : Own (nodes P) S O) (hn : S.Nodup) (hS : ∀ x ∈ S, placeB (nodes P) x = true) : OwS P S O := by
  have hl := nodes_len P
  refine ⟨by rw [h.len, hl], fun j hj => h.val (by rw [hl]; exact hj), fun i hi => ?_⟩
  have hp := place_iff.1 (hS _ (mem_getD hi))
  rw [hl] at hp
  refine ⟨hp.1, hp.2, ?_⟩
  exact h.self hn hS hi (by omega)
end Go.Proofs.YtkgjbamkinfmeaaGreatDoor
