/- Append of elements that were just built, to a slice that the call itself made: a step law for regions that draw; the row lies where it lay, or in a new block. -/
import Derived.Test.YtpfcamebkcengaaTn
import Derived.Test.YtpfcamebkcengaaSl
import Derived.Deep.RegionLaw
import Derived.Deep.AppendLies
namespace Go.Proofs.Ytpfcamebkcengaa
open Go.RowKit

theorem arr_news {w : World} {h : Nat} {t : TypeId} {news : List Value} (hh : ArrAt w h t news) : ∀ j u, news[j]? = some u → w.cell? ((⟨h, 0, none⟩ : Addr).add j) = some u := fun j u hu => by
  have hadd : (⟨h, 0, none⟩ : Addr).add j = ⟨h, 0 + j, none⟩ := by unfold Addr.add; split <;> simp_all
  rw [hadd, Nat.zero_add, hh.cell]; exact hu
theorem step_append1 {P : Program} {ops : Array Oper} {o : Oper} {a : Act} {K : Act → World → Prop} {Q : Exit → Act → World → Prop} {E : Prop} {w : World} (hgd : o.guard = none) (s x : Operand) (t e : TypeId)
    (ho : o.op = .call { callee := .builtin .append, args := #[s, x], argTypes := #[t, t] }) (ht : P.underlying t = some (.slice e))
    (z : Value) (size bytes : Nat) (hi : (P.info? e).map (fun i => (i.zero, i.size, i.bytes)) = some (some z, size, bytes)) (hzs : z.cells.size = size) (hsz : 0 < size) (hby : 0 < bytes)
    (B : Nat) (v : Value) (n : Nat) (xs : List Value) (us : List Value) (hus : us.length = size) (hown : w.ownsRow B e size v n xs) (hs : a.eval s = v) (hx : a.eval x = .slice (some ⟨w.heap.size, 0, none⟩) 1 1) (hu : ∀ u ∈ us, u.oneCell' = true)
    (hn : (n + 1) * bytes ≤ 140737488355328) (hB : B ≤ w.heap.size)
    (h : ∀ v' w', Hid (w'.ownsRow B e size v' (n + 1) (xs ++ us)) → Hid (w.grownBy w' v.ownBlock) → Hid (v'.ownBlock = v.ownBlock ∨ ∃ b, v'.ownBlock = some b ∧ w.heap.size ≤ b) → K (a.put o.dst v') w') :
    if Region.wanted o (yielded ops a.tmps) = true then Oper.wp P o a (w.alloc (.cells us.toArray e)) K Q else E := by
  rw [if_pos (by simp [Region.wanted, hgd])]
  obtain ⟨i, hi, hz, hsize, hbyt⟩ := info_parts hi
  have hn1 : n + 1 ≤ (n + 1) * bytes := Nat.le_mul_of_pos_right _ hby
  obtain ⟨v', w', hr, h1, h2, _, h4⟩ := run_append_own_at (P := P) (w.alloc (.cells us.toArray e)) B t o.type e i z size bytes ht hi hz hsize hbyt hzs hsz v n xs (hown.alloc _) ⟨w.heap.size, 0, none⟩ 1 1 us (by omega)
    (arr_news (arrAt_new w e us)) hu (by unfold maxLen; omega) hn (by simp; omega)
  unfold Oper.wp
  simp [execOp, ho, resolve, invoke, builtin, hs, hx, hr, Result.andThen]
  have hg := grownBy_trans (World.grownBy_alloc w (.cells us.toArray e) none) h2
  refine h v' w' (Lib.hid h1) (Lib.hid hg) (Lib.hid ?_)
  rcases h4 with h4 | h4
  · exact Or.inl h4
  · exact Or.inr ⟨_, h4, by simp⟩

/-- The same, in a region that doesn't draw. -/
theorem wpList_appendk {P : Program} {ops : Array Oper} {rest : List Oper} {o : Oper} {a : Act} {Q : Exit → Act → World → Prop} {w : World} (hw : Region.wanted o (yielded ops a.tmps) = true) (s x : Operand) (t e : TypeId)
    (ho : o.op = .call { callee := .builtin .append, args := #[s, x], argTypes := #[t, t] }) (ht : P.underlying t = some (.slice e))
    (z : Value) (size bytes : Nat) (hi : (P.info? e).map (fun i => (i.zero, i.size, i.bytes)) = some (some z, size, bytes)) (hzs : z.cells.size = size) (hsz : 0 < size) (hby : 0 < bytes)
    (B : Nat) (v : Value) (n : Nat) (xs : List Value) (us : List Value) (hus : us.length = size) (hown : w.ownsRow B e size v n xs) (hs : a.eval s = v) (hx : a.eval x = .slice (some ⟨w.heap.size, 0, none⟩) 1 1) (hu : ∀ u ∈ us, u.oneCell' = true)
    (hn : (n + 1) * bytes ≤ 140737488355328) (hB : B ≤ w.heap.size)
    (h : ∀ v' w', Hid (w'.ownsRow B e size v' (n + 1) (xs ++ us)) → Hid (w.grownBy w' v.ownBlock) → Hid (v'.ownBlock = v.ownBlock ∨ ∃ b, v'.ownBlock = some b ∧ w.heap.size ≤ b) → wpList P ops Q rest (a.put o.dst v') w') : wpList P ops Q (o :: rest) a (w.alloc (.cells us.toArray e)) := by
  obtain ⟨i, hi, hz, hsize, hbyt⟩ := info_parts hi
  have hn1 : n + 1 ≤ (n + 1) * bytes := Nat.le_mul_of_pos_right _ hby
  refine BigFrame.wpList_want hw fun K hK => ?_
  obtain ⟨v', w', hr, h1, h2, _, h4⟩ := run_append_own_at (P := P) (w.alloc (.cells us.toArray e)) B t o.type e i z size bytes ht hi hz hsize hbyt hzs hsz v n xs (hown.alloc _) ⟨w.heap.size, 0, none⟩ 1 1 us (by omega)
    (arr_news (arrAt_new w e us)) hu (by unfold maxLen; omega) hn (by simp; omega)
  unfold Oper.wp execOp
  simp only [ho, resolve, invoke, builtin, Sem.run_bind, Sem.run_pure, Result.andThen_ok, List.map_toArray, List.map_cons, List.map_nil, hs, hx, hr]
  have hg := grownBy_trans (World.grownBy_alloc w (.cells us.toArray e) none) h2
  refine hK _ _ (h v' w' (Lib.hid h1) (Lib.hid hg) (Lib.hid ?_))
  rcases h4 with h4 | h4
  · exact Or.inl h4
  · exact Or.inr ⟨_, h4, by simp⟩
end Go.Proofs.Ytpfcamebkcengaa
