/- Append of a whole slice of numbers, wherever it lies, to one that the call itself made. -/
import Derived.Test.YtgldlfgidmgmfaaNu
namespace Go.Proofs.Ytgldlfgidmgmfaa
open Go.RowKit

theorem run_append_none {P : Program} {w : World} (base : Nat) (t ty e : TypeId) (i : TypeInfo) (size : Nat) (ht : P.underlying t = some (.slice e)) (hi : P.info? e = some i)
    (v : Value) (n c : Nat) (xs : List Value) (hown : w.ownsRow base e size v n xs) : (Builtin.append_ #[t, t] ty #[v, .slice none 0 c]).run P w = .ok v w := by
  rcases hown.2 with ⟨rfl, rfl⟩ | ⟨g, cap, cur, rfl, _, _, hnc, _⟩
  · simp [Builtin.append_, run_underlying ht, sizeOf, typeInfo, hi, Builtin.lenOf, Builtin.firstCells]
  · simp [Builtin.append_, run_underlying ht, sizeOf, typeInfo, hi, Builtin.lenOf, Builtin.firstCells, hnc, storeCells]

theorem addr_mid (b o j : Nat) : (⟨b, o, none⟩ : Addr).add j = ⟨b, o + j, none⟩ := by unfold Addr.add; split <;> simp_all

theorem wpList_append_sl {P : Program} {ops : Array Oper} {rest : List Oper} {o : Oper} {a : Act} {Q : Exit → Act → World → Prop} {w : World} (hw : Region.wanted o (yielded ops a.tmps) = true) (s x : Operand) (t e : TypeId)
    (ho : o.op = .call { callee := .builtin .append, args := #[s, x], argTypes := #[t, t] }) (ht : P.underlying t = some (.slice e))
    (z : Value) (bytes : Nat) (hi : (P.info? e).map (fun i => (i.zero, i.size, i.bytes)) = some (some z, 1, bytes)) (hzs : z.cells.size = 1) (hby : 0 < bytes)
    (B : Nat) (v : Value) (n : Nat) (xs : List Value) (hown : w.ownsRow B e 1 v n xs) (k : IntKind) (v2 : Value) (ys : List Int) (hsl : IntSl k w v2 ys) (hs : a.eval s = v) (hx : a.eval x = v2)
    (hn : (n + ys.length) * bytes ≤ 140737488355328) (hB : B ≤ w.heap.size)
    (h : ∀ v' w', w'.ownsRow B e 1 v' (n + ys.length) (xs ++ ys.map (Value.int k)) → Below B w w' → wpList P ops Q rest (a.put o.dst v') w') : wpList P ops Q (o :: rest) a w := by
  obtain ⟨i0, hi, hz0, hz1, hz2⟩ := info_parts hi
  have hn1 : n + ys.length ≤ (n + ys.length) * bytes := Nat.le_mul_of_pos_right _ hby
  have hone : ∀ u ∈ ys.map (Value.int k), u.oneCell' = true := by
    intro u hu
    obtain ⟨y, _, rfl⟩ := List.mem_map.1 hu
    rfl
  rcases hsl with ⟨rfl, ad, c, rfl⟩ | ⟨b, off, c, rfl, hc⟩
  · cases ad with
    | none =>
      refine BigFrame.wpList_want hw fun K hK => ?_
      have hrun := run_append_none (P := P) (w := w) B t o.type e i0 1 ht hi v n c xs hown
      have hK' := hK _ _ (h v w (by simpa using hown) (Below.refl _ _))
      unfold Oper.wp
      simp [execOp, ho, resolve, invoke, builtin, hs, hx, hrun, Result.andThen]
      exact hK'
    | some ad =>
      refine BigFrame.wpList_want hw fun K hK => wp_append_own _ s x t ho B e i0 z 1 bytes ht hi hz0 hz1 hz2 hzs (by decide) v n xs hs hown ad 0 c [] hx rfl (by simp) (by simp) (by unfold maxLen; simp at hn1 hn ⊢; omega) (by simpa using hn) hB ?_
      intro v' w' h1 h2 _
      exact hK _ _ (h v' w' (by simpa using h1) ((Below.refl B w).grown h2 hB fun k hk => (hown.lt k hk).1))
  · refine BigFrame.wpList_want hw fun K hK => wp_append_own _ s x t ho B e i0 z 1 bytes ht hi hz0 hz1 hz2 hzs (by decide) v n xs hs hown ⟨b, off, none⟩ ys.length c (ys.map (Value.int k)) hx (by simp) ?_ hone (by unfold maxLen; omega) hn hB ?_
    · intro j u hu
      rw [addr_mid, hc j (by have := (List.getElem?_eq_some_iff.1 hu).1; simpa using this)]
      rw [List.getElem?_map] at hu
      cases hj : ys[j]? with
      | none => simp [hj] at hu
      | some y => simp [hj] at hu; subst hu; simp [List.getD, hj]
    · intro v' w' h1 h2 _
      exact hK _ _ (h v' w' h1 ((Below.refl B w).grown h2 hB fun k hk => (hown.lt k hk).1))
/-- The same, told too which row alone has turned. -/
theorem wpList_append_slg {P : Program} {ops : Array Oper} {rest : List Oper} {o : Oper} {a : Act} {Q : Exit → Act → World → Prop} {w : World} (hw : Region.wanted o (yielded ops a.tmps) = true) (s x : Operand) (t e : TypeId)
    (ho : o.op = .call { callee := .builtin .append, args := #[s, x], argTypes := #[t, t] }) (ht : P.underlying t = some (.slice e))
    (z : Value) (bytes : Nat) (hi : (P.info? e).map (fun i => (i.zero, i.size, i.bytes)) = some (some z, 1, bytes)) (hzs : z.cells.size = 1) (hby : 0 < bytes)
    (B : Nat) (v : Value) (n : Nat) (xs : List Value) (hown : w.ownsRow B e 1 v n xs) (k : IntKind) (v2 : Value) (ys : List Int) (hsl : IntSl k w v2 ys) (hs : a.eval s = v) (hx : a.eval x = v2)
    (hn : (n + ys.length) * bytes ≤ 140737488355328) (hB : B ≤ w.heap.size)
    (h : ∀ v' w', w'.ownsRow B e 1 v' (n + ys.length) (xs ++ ys.map (Value.int k)) → Below B w w' → w.grownBy w' v.ownBlock → wpList P ops Q rest (a.put o.dst v') w') : wpList P ops Q (o :: rest) a w := by
  obtain ⟨i0, hi, hz0, hz1, hz2⟩ := info_parts hi
  have hn1 : n + ys.length ≤ (n + ys.length) * bytes := Nat.le_mul_of_pos_right _ hby
  have hone : ∀ u ∈ ys.map (Value.int k), u.oneCell' = true := by
    intro u hu
    obtain ⟨y, _, rfl⟩ := List.mem_map.1 hu
    rfl
  rcases hsl with ⟨rfl, ad, c, rfl⟩ | ⟨b, off, c, rfl, hc⟩
  · cases ad with
    | none =>
      refine BigFrame.wpList_want hw fun K hK => ?_
      have hrun := run_append_none (P := P) (w := w) B t o.type e i0 1 ht hi v n c xs hown
      have hK' := hK _ _ (h v w (by simpa using hown) (Below.refl _ _) ⟨rfl, rfl, rfl, Nat.le_refl _, fun _ _ _ => rfl⟩)
      unfold Oper.wp
      simp [execOp, ho, resolve, invoke, builtin, hs, hx, hrun, Result.andThen]
      exact hK'
    | some ad =>
      refine BigFrame.wpList_want hw fun K hK => wp_append_own _ s x t ho B e i0 z 1 bytes ht hi hz0 hz1 hz2 hzs (by decide) v n xs hs hown ad 0 c [] hx rfl (by simp) (by simp) (by unfold maxLen; simp at hn1 hn ⊢; omega) (by simpa using hn) hB ?_
      intro v' w' h1 h2 _
      exact hK _ _ (h v' w' (by simpa using h1) ((Below.refl B w).grown h2 hB fun k hk => (hown.lt k hk).1) h2)
  · refine BigFrame.wpList_want hw fun K hK => wp_append_own _ s x t ho B e i0 z 1 bytes ht hi hz0 hz1 hz2 hzs (by decide) v n xs hs hown ⟨b, off, none⟩ ys.length c (ys.map (Value.int k)) hx (by simp) ?_ hone (by unfold maxLen; omega) hn hB ?_
    · intro j u hu
      rw [addr_mid, hc j (by have := (List.getElem?_eq_some_iff.1 hu).1; simpa using this)]
      rw [List.getElem?_map] at hu
      cases hj : ys[j]? with
      | none => simp [hj] at hu
      | some y => simp [hj] at hu; subst hu; simp [List.getD, hj]
    · intro v' w' h1 h2 _
      exact hK _ _ (h v' w' h1 ((Below.refl B w).grown h2 hB fun k hk => (hown.lt k hk).1) h2)
theorem u64s_app {w : World} {B : Nat} {v : Value} {xs ys : List Int} (h : w.ownsRow B 34 1 v (xs.length + ys.length) (xs.map (Value.int .u64) ++ ys.map (Value.int .u64))) : U64s w B v (xs ++ ys) := by
  unfold U64s; rw [List.length_append, List.map_append]; exact h
theorem u64s_one {w : World} {B : Nat} {v : Value} {xs : List Int} {y : Int} (h : w.ownsRow B 34 1 v (xs.length + 1) (xs.map (Value.int .u64) ++ [.int .u64 y])) : U64s w B v (xs ++ [y]) := by
  unfold U64s; rw [List.length_append, List.map_append]; exact h
end Go.Proofs.Ytgldlfgidmgmfaa
