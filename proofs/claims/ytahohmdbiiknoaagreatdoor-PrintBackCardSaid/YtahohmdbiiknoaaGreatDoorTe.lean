/- A slice of bytes that the call itself made, also out of a text ('[]byte(s)', whose mark lies behind the row's end): appended to, told as a text. -/
import Derived.Lib.FrozenHead2
import Derived.Laws.IdiomStrings
import Derived.Test.YtahohmdbiiknoaaGreatDoorBR02
namespace Go.Proofs.YtahohmdbiiknoaaGreatDoor
open Go.RowKit

/-- Cells are stored where no mark lies: behind its end, or ahead of its beginning. -/
theorem run_storeCells_off (P : Program) (g o : Nat) (t : TypeId) (fz : Nat × Nat) : ∀ (vs : List Value) (i : Nat) (cur : Array Value) (w : World), w.heap[g]? = some (.cells cur t fz) → cur.size ≤ fz.1 → o + i + vs.length ≤ cur.size → (∀ v ∈ vs, v.oneCell' = true) →
    (storeCells ⟨g, o, none⟩ vs i).run P w = .ok () (w.setRow g (cur.toList.take (o + i) ++ vs ++ cur.toList.drop (o + i + vs.length)).toArray)
  | [], i, cur, w, hg, _, _, _ => by
    simp only [storeCells, List.append_nil, List.length_nil, Nat.add_zero, List.take_append_drop, Array.toArray_toList]
    rw [setRow_self w g cur t fz hg]
    rfl
  | v :: rest, i, cur, w, hg, hfz, hl, h1 => by
    have hi : o + i < cur.size := by simp at hl; omega
    have hadd : (⟨g, o, none⟩ : Addr).add i = ⟨g, o + i, none⟩ := by unfold Addr.add; split <;> simp_all
    have hcell : w.cell? ⟨g, o + i, none⟩ = some cur[o + i] := by simp [World.cell?, hg, hi]
    have hfro : w.frozen? ⟨g, o + i, none⟩ = false := by
      obtain ⟨lo, hi'⟩ := fz
      simp only [World.frozen?, hg, Bool.and_eq_false_iff, decide_eq_false_iff_not]
      left
      simp only at hfz
      omega
    have hst : (store ((⟨g, o, none⟩ : Addr).add i) v).run P w = .ok () (w.setRow g (cur.setIfInBounds (o + i) v)) := by
      rw [hadd, run_store P w _ v _ (h1 v (by simp)), hcell]
      simp [hfro, setCell_eq_setRow w g (o + i) cur t fz v hg]
    have ih := run_storeCells_off P g o t fz rest (i + 1) (cur.setIfInBounds (o + i) v) (w.setRow g (cur.setIfInBounds (o + i) v)) (setRow_heap w g cur _ t _ hg) (by simpa using hfz) (by simp at hl ⊢; omega) (fun x hx => h1 x (by simp [hx]))
    simp only [storeCells, Sem.run_bind, hst, Result.andThen_ok, ih, setRow_setRow]
    congr 3
    have e := list_seg_step cur.toList (o + i) v rest (by simp at hl ⊢; omega)
    simpa [Array.toList_setIfInBounds, Nat.add_assoc] using e

/-- A slice of bytes that the call itself made, as a text; its row may bear a mark behind its end. -/
def TxE (w : World) (B : Nat) (v : Value) (l : List UInt8) : Prop :=
  Txt w B v l ∨ ∃ g cap cur fz, v = .slice (some ⟨g, 0, none⟩) l.length cap ∧ B ≤ g ∧ w.heap[g]? = some (.cells cur 5 fz) ∧ cap ≤ fz.1 ∧ l.length ≤ cap ∧ cap ≤ maxLen ∧ cur.size = cap ∧ cur.toList.take l.length = (nums l).map (Value.int .u8)
theorem txE_nil (w : World) (B : Nat) : TxE w B (.slice none 0 0) [] := Or.inl (txt_nil w B)
section
variable {w : World} {B : Nat} {v : Value} {l : List UInt8}
theorem TxE.form (h : TxE w B v l) : ∃ a c, v = .slice a l.length c := by
  rcases h with h | ⟨g, cap, cur, fz, rfl, _⟩
  · exact own_form h
  · exact ⟨_, _, rfl⟩
theorem TxE.lt (h : TxE w B v l) : ∀ k, v.ownBlock = some k → B ≤ k ∧ k < w.heap.size := by
  rcases h with h | ⟨g, cap, cur, fz, rfl, hb, hg, _⟩
  · exact h.lt
  · intro k hk
    simp [Value.ownBlock] at hk
    subst hk
    exact ⟨hb, (Array.getElem?_eq_some_iff.1 hg).1⟩
theorem TxE.next {w' : World} (h : TxE w B v l) (hb : Below w.heap.size w w') : TxE w' B v l := by
  rcases h with h | ⟨g, cap, cur, fz, rfl, h1, hg, h2⟩
  · exact Or.inl (ownsRow_below h hb)
  · exact Or.inr ⟨g, cap, cur, fz, rfl, h1, (hb.block g (Array.getElem?_eq_some_iff.1 hg).1).trans hg, h2⟩
theorem TxE.sl (h : TxE w B v l) : IntSl .u8 w v (nums l) := by
  rcases h with h | ⟨g, cap, cur, fz, rfl, _, hg, _, h3, _, h5, h6⟩
  · unfold Txt at h
    have h' : w.ownsRow B 5 1 v (nums l).length ((nums l).map (Value.int .u8)) := by rw [nums_len]; exact h
    exact intSl_own h'
  · refine Or.inr ⟨g, 0, cap, by rw [nums_len], fun j hj => ?_⟩
    rw [nums_len] at hj
    rw [cell_of_row w g (0 + j) cur _ fz hg, Nat.zero_add]
    have : (cur.toList.take l.length)[j]? = some (.int .u8 ((nums l).getD j 0)) := by
      rw [h6]
      have hj' : j < (nums l).length := by rw [nums_len]; exact hj
      simp [List.getD, hj']
    rw [List.getElem?_take, if_pos hj] at this
    simpa using this
theorem txE_str (h : TxE w B v l) : (convert 51 9 v).run Tryz.prog w = .ok (.string ⟨l.toArray⟩) w := by
  have := run_str (P := Tryz.prog) w 51 9 5 Tryz.underlying51 Tryz.underlying5 Tryz.underlying9 h.sl
  rw [nums_u8] at this
  exact this
end
/-- '[]byte(s)'. -/
theorem txE_conv (l : List UInt8) (w : World) (hl : l.length ≤ 1000000) : ∃ (v : Value) (w1 : World), (convert 9 51 (.string ⟨l.toArray⟩)).run Tryz.prog w = .ok v w1 ∧ TxE w1 w.heap.size v l ∧ Below w.heap.size w w1 := by
  have h := run_bytes_of_string (P := Tryz.prog) w 9 51 5 ⟨l.toArray⟩ Tryz.underlying9 Tryz.underlying51 Tryz.underlying5
  rw [show (ByteArray.mk l.toArray).size = l.length from by simp [ByteArray.size]] at h
  have h1 := grownCap_ge w l.length 0 5
  have h2 := grownCap_le_maxLen w l.length 0 5 (by unfold maxLen; omega)
  generalize grownCap w l.length 0 5 = c at h h1 h2
  have hs : (bytesRow ⟨l.toArray⟩ c).size = c := by
    unfold bytesRow
    simp [ByteArray.size]
    omega
  refine ⟨_, _, h, Or.inr ⟨w.heap.size, c, _, _, rfl, Nat.le_refl _, heap_alloc_new w.drew _, by rw [hs]; exact Nat.le_refl _, h1, h2, hs, ?_⟩, (Drawn.below ⟨1, rfl⟩ w.heap.size).alloc (Nat.le_refl _) _⟩
  unfold bytesRow
  simp only [Array.toList_append, Array.toList_map]
  rw [List.take_append_of_le_length (by simp), List.take_of_length_le (by simp)]
  unfold nums
  simp

/-- Of what was there rows of bytes alone have turned. -/
def U8Only (w w' : World) : Prop := ∀ (b : Nat) (cs : Array Value) (T : TypeId) (fz : Nat × Nat), w.heap[b]? = some (Obj.cells cs T fz) → T ≠ 5 → w'.heap[b]? = some (Obj.cells cs T fz)
theorem U8Only.refl (w : World) : U8Only w w := fun _ _ _ _ h _ => h
theorem U8Only.trans {a b c : World} (h : U8Only a b) (k : U8Only b c) : U8Only a c := fun g cs T fz e n => k g cs T fz (h g cs T fz e n) n
theorem u8Only_below {w w' : World} (h : Below w.heap.size w w') : U8Only w w' := fun g _ _ _ e _ => (h.block g (Array.getElem?_eq_some_iff.1 e).1).trans e
theorem TxE.kind {w : World} {B : Nat} {v : Value} {l : List UInt8} (h : TxE w B v l) : ∀ k, v.ownBlock = some k → ∃ cs fz, w.heap[k]? = some (.cells cs 5 fz) := by
  rcases h with h | ⟨g, cap, cur, fz, rfl, hb, hg, _⟩
  · intro k hk
    rcases h.2 with ⟨rfl, _⟩ | ⟨g, cap, cur, rfl, _, hg, _⟩
    · simp [Value.ownBlock] at hk
    · simp [Value.ownBlock] at hk
      subst hk
      exact ⟨_, _, hg⟩
  · intro k hk
    simp [Value.ownBlock] at hk
    subst hk
    exact ⟨_, _, hg⟩
theorem TxE.only {w w' : World} {B : Nat} {v : Value} {l : List UInt8} (h : TxE w B v l) (hg : w.grownBy w' v.ownBlock) : U8Only w w' := by
  intro b cs T fz e n
  refine (hg.block b (Array.getElem?_eq_some_iff.1 e).1 fun hb => ?_).trans e
  obtain ⟨cs', fz', h1⟩ := h.kind b hb.symm
  rw [h1] at e
  injection e with e
  injection e with _ e _
  exact n e.symm
/-- What is appended: cells of bytes. -/
theorem txE_mk {w : World} {B : Nat} {v : Value} {l m : List UInt8} (h : w.ownsRow B 5 1 v (l.length + m.length) ((nums l).map (Value.int .u8) ++ (nums m).map (Value.int .u8))) : TxE w B v (l ++ m) := by
  refine Or.inl ?_
  unfold Txt
  rw [List.length_append, nums_app, List.map_append]
  exact h
theorem strCells_nums (m : List UInt8) : Lib.strCells ⟨m.toArray⟩ = (nums m).map (Value.int .u8) := by simp [Lib.strCells, nums]
theorem nums_cells_one (m : List UInt8) : ∀ u ∈ (nums m).map (Value.int .u8), u.oneCell' = true := by
  intro u hu
  obtain ⟨x, _, rfl⟩ := List.mem_map.1 hu
  rfl

section
variable {P : Program} {w : World}
/-- Append of a text onto a row with a mark behind its end. -/
theorem run_append_string_off (base : Nat) (t u ty e : TypeId) (i : TypeInfo) (ht : P.underlying t = some (.slice e)) (hu : P.underlying u = some .string) (hi : P.info? e = some i) (hz : i.zero = some (.int .u8 0))
    (hsize : i.size = 1) (hby : i.bytes = 1) (g n cap : Nat) (cur : Array Value) (fz : Nat × Nat) (xs : List Value) (_hbg : base ≤ g) (hg : w.heap[g]? = some (.cells cur e fz)) (hfz : cap ≤ fz.1) (hnc : n ≤ cap) (_hcm : cap ≤ maxLen) (hcs : cur.size = cap) (htake : cur.toList.take n = xs)
    (s : ByteArray) (hbytes : n + s.size ≤ 140737488355328) (hbase : base ≤ w.heap.size) :
    ∃ v' w', (Builtin.append_ #[t, u] ty #[.slice (some ⟨g, 0, none⟩) n cap, .string s]).run P w = .ok v' w' ∧ w.grownBy w' (some g) ∧
      (w'.ownsRow base e 1 v' (n + s.size) (xs ++ Lib.strCells s) ∨ ∃ cur', v' = .slice (some ⟨g, 0, none⟩) (n + s.size) cap ∧ w'.heap[g]? = some (.cells cur' e fz) ∧ n + s.size ≤ cap ∧ cur'.size = cap ∧ cur'.toList.take (n + s.size) = xs ++ Lib.strCells s) := by
  have hxl : xs.length = n := by rw [← htake]; simp; omega
  have h63 : n + s.size ≤ maxLen := by unfold maxLen; omega
  have hlen : (xs ++ Lib.strCells s).length = (n + s.size) * 1 := by rw [List.length_append, hxl, Lib.strCells_length, Nat.mul_one]
  by_cases hroom : n + s.size ≤ cap
  · have hf := Lib.run_firstCells_string (P := P) w 1 s
    have hst := run_storeCells_off P g n e fz (Lib.strCells s) 0 cur w hg (by omega) (by rw [Lib.strCells_length]; omega) (Lib.strCells_oneCell s)
    simp only [Nat.add_zero, Lib.strCells_length] at hst
    refine ⟨.slice (some ⟨g, 0, none⟩) (n + s.size) cap, w.setRow g (cur.toList.take n ++ Lib.strCells s ++ cur.toList.drop (n + s.size)).toArray, ?_, ⟨rfl, rfl, rfl, by simp, fun k _ hk => setRow_other w g k _ (fun e => hk (by simp [e]))⟩, Or.inr ⟨_, rfl, setRow_heap w g cur _ e _ hg, hroom, ?_, ?_⟩⟩
    · simp [Builtin.append_, run_underlying ht, run_underlying hu, sizeOf, typeInfo, hi, hsize, Builtin.lenOf, hroom, hf, Addr.add_lit, hst]
    · simp only [List.size_toArray, List.length_append, List.length_take, List.length_drop, Array.length_toList, Lib.strCells_length]
      omega
    · rw [htake]
      rw [show n + s.size = (xs ++ Lib.strCells s).length by rw [hlen, Nat.mul_one]]
      exact List.take_left
  · have holds : ∀ j u, xs[j]? = some u → w.cell? ((⟨g, 0, none⟩ : Addr).add j) = some u := by
      intro j u hu'
      rw [addr_mid, Nat.zero_add, cell_of_row w g j cur e fz hg]
      rw [← htake, List.getElem?_take] at hu'
      split at hu'
      · simpa using hu'
      · cases hu'
    have hr := Lib.run_append_grow_string (P := P) w t u ty e i (.int .u8 0) ht hu hi hz ⟨g, 0, none⟩ n cap xs (by rw [hsize]; simpa using hxl) holds s (by omega) (by omega) (by rw [hby]; exact growslice_fits (by omega) (by omega))
    have hge := grownCap_ge w (n + s.size) cap e
    have hcm2 : grownCap w (n + s.size) cap e ≤ maxLen := grownCap_le_maxLen w (n + s.size) cap e h63
    refine ⟨_, _, hr, ⟨rfl, rfl, rfl, by simp, fun k hk _ => heap_alloc_old w.drew _ hk⟩, Or.inl ⟨hlen, .inr ⟨w.heap.size, _, _, rfl, hbase, heap_alloc_new w.drew _, hge, hcm2, ?_, ?_⟩⟩⟩
    · have hz1 : (Value.int IntKind.u8 0).cells.size = 1 := rfl
      simp only [Array.size_append, List.size_toArray, size_zeroCells, hz1, hxl, Lib.strCells_length]
      omega
    · simp only [Array.toList_append, List.append_assoc]
      rw [← List.append_assoc, ← hlen]
      exact List.take_left
/-- .. of one cell. -/
theorem run_append_cell_off (base : Nat) (t ty e : TypeId) (i : TypeInfo) (ht : P.underlying t = some (.slice e)) (hi : P.info? e = some i) (hz : i.zero = some (.int .u8 0))
    (hsize : i.size = 1) (hby : i.bytes = 1) (g n cap : Nat) (cur : Array Value) (fz : Nat × Nat) (xs : List Value) (_hbg : base ≤ g) (hg : w.heap[g]? = some (.cells cur e fz)) (hfz : cap ≤ fz.1) (hnc : n ≤ cap) (_hcm : cap ≤ maxLen) (hcs : cur.size = cap) (htake : cur.toList.take n = xs)
    (a : Addr) (c : Nat) (u : Value) (hu : w.cell? (a.add 0) = some u) (h1 : u.oneCell' = true) (hbytes : n + 1 ≤ 140737488355328) (hbase : base ≤ w.heap.size) :
    ∃ v' w', (Builtin.append_ #[t, t] ty #[.slice (some ⟨g, 0, none⟩) n cap, .slice (some a) 1 c]).run P w = .ok v' w' ∧ w.grownBy w' (some g) ∧
      (w'.ownsRow base e 1 v' (n + 1) (xs ++ [u]) ∨ ∃ cur', v' = .slice (some ⟨g, 0, none⟩) (n + 1) cap ∧ w'.heap[g]? = some (.cells cur' e fz) ∧ n + 1 ≤ cap ∧ cur'.size = cap ∧ cur'.toList.take (n + 1) = xs ++ [u]) := by
  have hxl : xs.length = n := by rw [← htake]; simp; omega
  have h63 : n + 1 ≤ maxLen := by unfold maxLen; omega
  have hlen : (xs ++ [u]).length = (n + 1) * 1 := by rw [List.length_append, hxl, Nat.mul_one]; rfl
  have hnews : ∀ j x, [u][j]? = some x → w.cell? (a.add j) = some x := by
    intro j x hx
    cases j with
    | zero => simp at hx; subst hx; exact hu
    | succ j => simp at hx
  have hone : ∀ x ∈ [u], x.oneCell' = true := by intro x hx; simp at hx; subst hx; exact h1
  by_cases hroom : n + 1 ≤ cap
  · have hf := run_firstCells_some (P := P) w i.size 1 a 1 c [u] (by rw [hsize]; rfl) hnews
    have hst := run_storeCells_off P g n e fz [u] 0 cur w hg (by omega) (by simp; omega) hone
    simp only [Nat.add_zero, List.length_singleton] at hst
    refine ⟨.slice (some ⟨g, 0, none⟩) (n + 1) cap, w.setRow g (cur.toList.take n ++ [u] ++ cur.toList.drop (n + 1)).toArray, ?_, ⟨rfl, rfl, rfl, by simp, fun k _ hk => setRow_other w g k _ (fun e => hk (by simp [e]))⟩, Or.inr ⟨_, rfl, setRow_heap w g cur _ e _ hg, hroom, ?_, ?_⟩⟩
    · rw [hsize] at hf
      simp [Builtin.append_, run_underlying ht, sizeOf, typeInfo, hi, hsize, Builtin.lenOf, hroom, hf, Addr.add_lit, hst]
    · simp only [List.size_toArray, List.length_append, List.length_take, List.length_drop, Array.length_toList, List.length_singleton]
      omega
    · rw [htake]
      rw [show n + 1 = (xs ++ [u]).length by rw [hlen, Nat.mul_one]]
      exact List.take_left
  · have holds : ∀ j u, xs[j]? = some u → w.cell? ((⟨g, 0, none⟩ : Addr).add j) = some u := by
      intro j u hu'
      rw [addr_mid, Nat.zero_add, cell_of_row w g j cur e fz hg]
      rw [← htake, List.getElem?_take] at hu'
      split at hu'
      · simpa using hu'
      · cases hu'
    have hr := run_append_grow (P := P) w t ty e i (.int .u8 0) ht hi hz ⟨g, 0, none⟩ n cap xs (by rw [hsize]; simpa using hxl) holds a 1 c [u] (by rw [hsize]; rfl) hnews (by omega) (by omega) (growslice_fits (by omega) (by rw [hby]; omega))
    have hge := grownCap_ge w (n + 1) cap e
    have hcm2 : grownCap w (n + 1) cap e ≤ maxLen := grownCap_le_maxLen w (n + 1) cap e h63
    refine ⟨_, _, hr, ⟨rfl, rfl, rfl, by simp, fun k hk _ => heap_alloc_old w.drew _ hk⟩, Or.inl ⟨hlen, .inr ⟨w.heap.size, _, _, rfl, hbase, heap_alloc_new w.drew _, hge, hcm2, ?_, ?_⟩⟩⟩
    · have hz1 : (Value.int IntKind.u8 0).cells.size = 1 := rfl
      simp only [Array.size_append, List.size_toArray, size_zeroCells, hz1, hxl, List.length_singleton]
      omega
    · simp only [Array.toList_append, List.append_assoc]
      rw [← List.append_assoc, ← hlen]
      exact List.take_left
end

/-- Append of a text's bytes, for the walk. -/
theorem wpList_appendE {P : Program} {ops : Array Oper} {rest : List Oper} {o : Oper} {a : Act} {Q : Exit → Act → World → Prop} {w : World} (hw : Region.wanted o (yielded ops a.tmps) = true) (s x : Operand) (t u : TypeId)
    (ho : o.op = .call { callee := .builtin .append, args := #[s, x], argTypes := #[t, u] }) (ht : P.underlying t = some (.slice 5)) (hu : P.underlying u = some .string)
    (hi : (P.info? 5).map (fun i => (i.zero, i.size, i.bytes)) = some (some (.int .u8 0), 1, 1))
    (B : Nat) (v : Value) (l m : List UInt8) (hown : TxE w B v l) (hs : a.eval s = v) (hx : a.eval x = .string ⟨m.toArray⟩)
    (hn : l.length + m.length ≤ 140737488355328) (hB : B ≤ w.heap.size)
    (h : ∀ v' w', TxE w' B v' (l ++ m) → Below B w w' → U8Only w w' → wpList P ops Q rest (a.put o.dst v') w') : wpList P ops Q (o :: rest) a w := by
  obtain ⟨i0, hi, hz0, hz1, hz2⟩ := info_parts hi
  refine BigFrame.wpList_want hw fun K hK => ?_
  have hm : (ByteArray.mk m.toArray).size = m.length := by simp [ByteArray.size]
  obtain ⟨v', w', hr, hbel, hE, hO⟩ : ∃ v' w', (Builtin.append_ #[t, u] o.type #[v, .string ⟨m.toArray⟩]).run P w = .ok v' w' ∧ Below B w w' ∧ TxE w' B v' (l ++ m) ∧ U8Only w w' := by
    have hlt := hown.lt
    have hon := fun w' => hown.only (w' := w')
    rcases hown with hown | ⟨g, cap, cur, fz, rfl, hb, hg, hfz, h3, h4, h5, h6⟩
    · obtain ⟨v', w', h1, h2, h3, _⟩ := Lib.run_append_own_string (P := P) w B t u o.type 5 i0 ht hu hi hz0 hz1 hz2 v l.length _ hown ⟨m.toArray⟩ (by rw [hm]; unfold maxLen; omega) (by rw [hm]; exact hn) hB
      rw [strCells_nums, hm] at h2
      exact ⟨v', w', h1, (Below.refl B w).grown h3 hB fun k hk => (hlt k hk).1, txE_mk h2, hon _ h3⟩
    · obtain ⟨v', w', h1, hgr, h2⟩ := run_append_string_off (P := P) B t u o.type 5 i0 ht hu hi hz0 hz1 hz2 g l.length cap cur fz _ hb hg hfz h3 h4 h5 h6 ⟨m.toArray⟩ (by rw [hm]; exact hn) hB
      rw [strCells_nums, hm] at h2
      refine ⟨v', w', h1, (Below.refl B w).grown hgr hB (fun k hk => by cases hk; exact hb), ?_, hon _ hgr⟩
      rcases h2 with h2 | ⟨cur', rfl, k1, k2, k3, k4⟩
      · exact txE_mk h2
      · refine Or.inr ⟨g, cap, cur', fz, by rw [List.length_append], hb, k1, hfz, by rw [List.length_append]; exact k2, h4, k3, ?_⟩
        rw [List.length_append, nums_app, List.map_append]
        exact k4
  have hK' := hK _ _ (h v' w' hE hbel hO)
  unfold Oper.wp execOp
  simp only [ho, resolve, invoke, builtin, Sem.run_bind, Sem.run_pure, Result.andThen_ok, List.map_toArray, List.map_cons, List.map_nil, hs, hx, hr]
  exact hK'
/-- Append of one byte, just laid, for the walk. -/
theorem wpList_append1E {P : Program} {ops : Array Oper} {rest : List Oper} {o : Oper} {a : Act} {Q : Exit → Act → World → Prop} {w : World} (hw : Region.wanted o (yielded ops a.tmps) = true) (s x : Operand) (t : TypeId)
    (ho : o.op = .call { callee := .builtin .append, args := #[s, x], argTypes := #[t, t] }) (ht : P.underlying t = some (.slice 5))
    (hi : (P.info? 5).map (fun i => (i.zero, i.size, i.bytes)) = some (some (.int .u8 0), 1, 1))
    (B : Nat) (v : Value) (l : List UInt8) (c : UInt8) (k : Int) (hk : k = (c.toNat : Int)) (hown : TxE w B v l) (hs : a.eval s = v) (hx : a.eval x = .slice (some ⟨w.heap.size, 0, none⟩) 1 1)
    (hn : l.length + 1 ≤ 140737488355328) (hB : B ≤ w.heap.size)
    (h : ∀ v' w', TxE w' B v' (l ++ [c]) → Below B w w' → U8Only w w' → wpList P ops Q rest (a.put o.dst v') w') : wpList P ops Q (o :: rest) a (w.alloc (.cells #[.int .u8 k] 5)) := by
  subst hk
  obtain ⟨i0, hi, hz0, hz1, hz2⟩ := info_parts hi
  refine BigFrame.wpList_want hw fun K hK => ?_
  have hb0 : Below B w (w.alloc (.cells #[.int .u8 (c.toNat : Int)] 5)) := (Below.refl B w).alloc hB _
  have hown' : TxE (w.alloc (.cells #[.int .u8 (c.toNat : Int)] 5)) B v l := hown.next ((Below.refl _ w).alloc (Nat.le_refl _) _)
  have hlt' := hown'.lt
  have hB' : B ≤ (w.alloc (.cells #[.int .u8 (c.toNat : Int)] 5)).heap.size := Nat.le_trans hB hb0.size
  have hcell : (w.alloc (.cells #[.int .u8 (c.toNat : Int)] 5)).cell? ((⟨w.heap.size, 0, none⟩ : Addr).add 0) = some (.int .u8 (c.toNat : Int)) := cell_one_new _ _ _ 0 _ rfl
  obtain ⟨v', w', hr, hbel, hE, hO⟩ : ∃ v' w', (Builtin.append_ #[t, t] o.type #[v, .slice (some ⟨w.heap.size, 0, none⟩) 1 1]).run P (w.alloc (.cells #[.int .u8 (c.toNat : Int)] 5)) = .ok v' w' ∧ Below B (w.alloc (.cells #[.int .u8 (c.toNat : Int)] 5)) w' ∧ TxE w' B v' (l ++ [c]) ∧ U8Only (w.alloc (.cells #[.int .u8 (c.toNat : Int)] 5)) w' := by
    have hon := fun w' => hown'.only (w' := w')
    generalize w.alloc (.cells #[.int .u8 (c.toNat : Int)] 5) = W at *
    rcases hown' with hown | ⟨g, cap, cur, fz, rfl, hb, hg, hfz, h3, h4, h5, h6⟩
    · obtain ⟨v', w', h1, h2, h3, _⟩ := run_append_own (P := P) W B t o.type 5 i0 (.int .u8 0) 1 1 ht hi hz0 hz1 hz2 rfl (by decide) v l.length _ hown ⟨w.heap.size, 0, none⟩ 1 1 [.int .u8 (c.toNat : Int)] rfl (fun j x hx => by
          cases j with
          | zero => simp at hx; subst hx; exact hcell
          | succ j => simp at hx) (by intro x hx; simp at hx; subst hx; rfl) (by unfold maxLen; omega) (by omega) hB'
      exact ⟨v', w', h1, (Below.refl B W).grown h3 hB' fun k hk => (hlt' k hk).1, txE_mk (m := [c]) h2, hon _ h3⟩
    · obtain ⟨v', w', h1, hgr, h2⟩ := run_append_cell_off (P := P) B t o.type 5 i0 ht hi hz0 hz1 hz2 g l.length cap cur fz _ hb hg hfz h3 h4 h5 h6 ⟨w.heap.size, 0, none⟩ 1 (.int .u8 (c.toNat : Int)) hcell rfl hn hB'
      refine ⟨v', w', h1, (Below.refl B W).grown hgr hB' (fun k hk => by cases hk; exact hb), ?_, hon _ hgr⟩
      rcases h2 with h2 | ⟨cur', rfl, k1, k2, k3, k4⟩
      · exact txE_mk (m := [c]) h2
      · refine Or.inr ⟨g, cap, cur', fz, by simp, hb, k1, hfz, by simp; omega, h4, k3, ?_⟩
        rw [List.length_append, nums_app, List.map_append]
        exact k4
  have hK' := hK _ _ (h v' w' hE (hb0.trans hbel) ((u8Only_below ((Below.refl _ w).alloc (Nat.le_refl _) _)).trans hO))
  unfold Oper.wp execOp
  simp only [ho, resolve, invoke, builtin, Sem.run_bind, Sem.run_pure, Result.andThen_ok, List.map_toArray, List.map_cons, List.map_nil, hs, hx, hr]
  exact hK'
end Go.Proofs.YtahohmdbiiknoaaGreatDoor
