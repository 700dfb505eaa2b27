/- Layer 8's reference: Add, Drop. -/
import Derived.Test.YtgldlfgidmgmfaaD08t
import Derived.Test.YtgldlfgidmgmfaaRz
namespace Go.Proofs.Ytgldlfgidmgmfaa
open Go.RowKit
variable {w : World} {B Y d : Nat} {L : List (Int × Int)} {v : Value}

theorem info_p : (Try.prog.info? 63).map (fun i => (i.zero, i.size, i.bytes)) = some (some (.agg #[.int .i64 0, .int .u64 0]), 2, 16) := by kernel_rfl
/-- What an append appends: cells that lie somewhere, or none. -/
def PartOf (w : World) (A : Option Addr) (news : List Value) : Prop := ∀ j u, news[j]? = some u → ∃ ad, A = some ad ∧ w.cell? (ad.add j) = some u
theorem step_append_part {P : Program} {ops : Array Oper} {o : Oper} {a : Act} {K : Act → World → Prop} {Q : Exit → Act → World → Prop} {E : Prop} {w : World} (hgd : o.guard = none) (s x : Operand) (t : TypeId)
    (ho : o.op = .call { callee := .builtin .append, args := #[s, x], argTypes := #[t, t] })
    (base : Nat) (e : TypeId) (z : Value) (size bytes : Nat) (ht : P.underlying t = some (.slice e)) (hi : (P.info? e).map (fun i => (i.zero, i.size, i.bytes)) = some (some z, size, bytes)) (hzs : z.cells.size = size) (hsz : 0 < size)
    (v : Value) (n : Nat) (xs : List Value) (hs : a.eval s = v) (hown : w.ownsRow base e size v n xs)
    (A : Option Addr) (m c : Nat) (news : List Value) (hx : a.eval x = .slice A m c) (hl : news.length = m * size) (hnews : PartOf w A news) (h1 : ∀ u ∈ news, u.oneCell' = true)
    (N : Nat) (hN : n + m = N) (h63 : N ≤ maxLen) (hbytes : N * bytes ≤ 140737488355328) (hbase : base ≤ w.heap.size)
    (h : ∀ a' c' w', Hid (w'.ownsRow base e size (.slice a' N c') N (xs ++ news)) → Hid (Below base w w') → Hid (w.grownBy w' v.ownBlock) → K (a.put o.dst (.slice a' N c')) w') :
    if Region.wanted o (yielded ops a.tmps) = true then Oper.wp P o a w K Q else E := by
  rw [if_pos (by simp [Region.wanted, hgd])]
  obtain ⟨i, hi, hz, hsize, hby⟩ := info_parts hi
  subst hN
  have hbel : ∀ w', w.grownBy w' v.ownBlock → Below base w w' := fun w' hg => (Below.refl base w).grown hg hbase fun k hk => (hown.lt k hk).1
  cases A with
  | none =>
    have hm : news = [] := by
      cases news with
      | nil => rfl
      | cons u r => obtain ⟨ad, e, _⟩ := hnews 0 u rfl; cases e
    subst hm
    have hm0 : m = 0 := by
      have : m * size = 0 := by simpa using hl.symm
      rcases Nat.mul_eq_zero.1 this with h | h
      · exact h
      · omega
    subst hm0
    have hrun := run_append_none (P := P) (w := w) base t o.type e i size ht hi v n c xs hown
    obtain ⟨a', c', rfl⟩ := own_form hown
    unfold Oper.wp
    simp [execOp, ho, resolve, invoke, builtin, hs, hx, hrun, Result.andThen]
    exact h a' c' w (Lib.hid (by simpa using hown)) (Lib.hid (Below.refl _ _)) (Lib.hid ⟨rfl, rfl, rfl, Nat.le_refl _, fun _ _ _ => rfl⟩)
  | some ad =>
    obtain ⟨v', w', hr, h2, h3, h4, h5⟩ := run_append_own_at (P := P) w base t o.type e i z size bytes ht hi hz hsize hby hzs hsz v n xs hown ad m c news hl (fun j u hu => by obtain ⟨ad', e, hc⟩ := hnews j u hu; injection e with e; subst e; exact hc) h1 h63 hbytes hbase
    obtain ⟨a', c', rfl⟩ := own_form h2
    unfold Oper.wp
    simp [execOp, ho, resolve, invoke, builtin, hs, hx, hr, Result.andThen]
    exact h a' c' w' (Lib.hid h2) (Lib.hid (hbel w' h3)) (Lib.hid h3)
theorem PartOf.below {w w' : World} {A : Option Addr} {news : List Value} {B : Nat} (h : PartOf w A news) (hb : Below B w w') (hA : ∀ ad, A = some ad → ad.block < B) : PartOf w' A news := fun j u hu => by
  obtain ⟨ad, e, hc⟩ := h j u hu
  refine ⟨ad, e, ?_⟩
  have hl : (ad.add j).block < B := by
    have := hA ad e
    unfold Addr.add; split <;> exact this
  rw [World.cell?_of_block (hb.block _ hl)]; exact hc
theorem partOf_nil (w : World) (A : Option Addr) : PartOf w A [] := fun j u h => by simp at h
theorem RefAt.cell {g n cap : Nat} (h : RefAt w B Y d L (.slice (some ⟨g, 0, none⟩) n cap)) : ∀ j u, (cellsP L)[j]? = some u → w.cell? ⟨g, j, none⟩ = some u := by
  obtain ⟨g', cap', c, e, hg, hx, hcl, hnc, hcm⟩ := owns_arr h.row (by intro e; cases e)
  injection e with e1 e2 e3
  injection e1 with e1
  injection e1 with e1
  subst e1
  intro j u hu
  rw [← hx, List.getElem?_take] at hu
  split at hu
  · rw [hg.cell]; exact hu
  · cases hu
theorem RefAt.front {g n cap : Nat} (h : RefAt w B Y d L (.slice (some ⟨g, 0, none⟩) n cap)) (k : Nat) (hk : k ≤ L.length) : PartOf w (some ⟨g, 0, none⟩) (cellsP (L.take k)) := fun j u hu => by
  refine ⟨_, rfl, ?_⟩
  rw [addr_at, Nat.zero_add]
  rw [← cellsP_take L k hk, List.getElem?_take] at hu
  split at hu
  · exact h.cell j u hu
  · cases hu
theorem RefAt.back {g n cap : Nat} (h : RefAt w B Y d L (.slice (some ⟨g, 0, none⟩) n cap)) (k : Nat) (hk : k ≤ L.length) : PartOf w (some ⟨g, k * 2, none⟩) (cellsP (L.drop k)) := fun j u hu => by
  refine ⟨_, rfl, ?_⟩
  rw [addr_at]
  rw [← cellsP_drop L k hk, List.getElem?_drop] at hu
  exact h.cell _ u hu
/-- The reference has turned in its own block alone. -/
def AddRPost (B Y d : Nat) (L' : List (Int × Int)) (w : World) (e : Ending) (w' : World) : Prop := ∃ v', e = .returned (.bool true) ∧ RefAt w' B Y d L' v' ∧ Turned (fun b => b = Y) w w' ∧ ∀ b, v'.ownBlock = some b → w.heap.size ≤ b
theorem RefAt.store {w1 : World} {v' : Value} {L' : List (Int × Int)} (h : RefAt w B Y d L v) (hb : Below w.heap.size w w1) (ho : w1.ownsRow w.heap.size 63 2 v' L'.length (cellsP L')) (hB : B ≤ w.heap.size) :
    RefAt (w1.setCell ⟨Y, 1, none⟩ v') B Y d L' v' ∧ Turned (fun b => b = Y) w (w1.setCell ⟨Y, 1, none⟩ v') ∧ ∀ b, v'.ownBlock = some b → w.heap.size ≤ b := by
  have hst := turned_setCell w1 ⟨Y, 1, none⟩ v'
  have hYl := h.cells.lt
  have hne : v'.ownBlock ≠ some Y := fun e => by have := (ho.lt Y e).1; omega
  refine ⟨⟨(h.below hb).cells.set 1 v', ownsRow_turned (World.ownsRow.mono ho hB) hst fun k hk e => hne (by rw [hk]; exact congrArg some e), h.low, hne⟩, ?_, fun b hb' => (ho.lt b hb').1⟩
  exact (Turned.of_below (S := fun b => b = Y) hb).trans hst fun _ _ e => e
theorem hide_world {K : Act → World → Prop} {a : Act} {W : World} {R : World → Prop} (hR : R W) (h : ∀ w', Hid (R w') → K a w') : K a W := h W hR
theorem new_in {H : Nat} {w0 w : World} (t : TypeId) (c : List Value) (hb : Below H w0 w) (hH : H ≤ w.heap.size) : ArrAt (w.alloc (.cells c.toArray t)) w.heap.size t c ∧ Below H w0 (w.alloc (.cells c.toArray t)) ∧ Below w.heap.size w (w.alloc (.cells c.toArray t)) :=
  ⟨arrAt_new w t c, hb.alloc hH _, (Below.refl _ _).alloc (Nat.le_refl _) _⟩
theorem new_in_drew {H : Nat} {w0 w : World} (t : TypeId) (c : List Value) (hb : Below H w0 w) (hH : H ≤ w.heap.size) : ArrAt (w.alloc (.cells c.toArray t)).drew w.heap.size t c ∧ Below H w0 (w.alloc (.cells c.toArray t)).drew ∧ Below w.heap.size w (w.alloc (.cells c.toArray t)).drew :=
  ⟨arrAt_new w t c, (hb.alloc hH _).trans (Drawn.below ⟨1, rfl⟩ _), ((Below.refl _ _).alloc (Nat.le_refl _) _).trans (Drawn.below ⟨1, rfl⟩ _)⟩
theorem empty_own {H e : Nat} {w : World} {t : TypeId} {z : Nat} (h : ArrAt w e t []) (he : H ≤ e) : w.ownsRow H t z (.slice (some ⟨e, 0, none⟩) 0 0) 0 [] :=
  ownsRow_base (h.owns (n := 0) (cap := 0) (by simp) (by simp) (Nat.le_refl _) (by decide)) fun g hg => by cases hg; exact he
theorem part_one {w : World} {e : Nat} {t : TypeId} {c : List Value} (h : ArrAt w e t c) : PartOf w (some ⟨e, 0, none⟩) c := fun j u hu => ⟨_, rfl, h.news j u hu⟩
theorem cells_addL (L : List (Int × Int)) (id s : Int) : cellsP (addL L id s) = cellsP (L.take (posL L id)) ++ [.int .i64 id, .int .u64 s] ++ cellsP (L.drop (posL L id)) := by
  unfold addL
  rw [cellsP_app, List.append_assoc]
  rfl
theorem cells_dropL (L : List (Int × Int)) (id : Int) : cellsP (dropL L id) = cellsP (L.take (posL L id)) ++ cellsP (L.drop (posL L id + 1)) := by unfold dropL; rw [cellsP_app]
/-- What a walk keeps of the reference, till the store. -/
def Kept (w0 : World) (B Y d : Nat) (L : List (Int × Int)) (v : Value) (w : World) : Prop := w.cell? ⟨Y, 1, none⟩ = some v ∧ w.frozen? ⟨Y, 1, none⟩ = false ∧ Hid (RefAt w B Y d L v) ∧ Hid (Below w0.heap.size w0 w)
theorem RefAt.kept (h : RefAt w B Y d L v) {w' : World} (hb : Below w.heap.size w w') : w'.cell? ⟨Y, 1, none⟩ = some v ∧ w'.frozen? ⟨Y, 1, none⟩ = false ∧ Hid (RefAt w' B Y d L v) ∧ Hid (Below w.heap.size w w') :=
  ⟨(h.below hb).c1, (h.below hb).cells.soft 1, h.below hb, hb⟩
theorem one_p (id s : Int) : ∀ u ∈ [Value.int .i64 id, Value.int .u64 s], u.oneCell' = true := by
  intro u hu
  simp at hu
  rcases hu with rfl | rfl <;> rfl
theorem one_no : ∀ u ∈ ([] : List Value), u.oneCell' = true := fun u hu => by simp at hu
theorem RefAt.whole {g n cap : Nat} (h : RefAt w B Y d L (.slice (some ⟨g, 0, none⟩) n cap)) : PartOf w (some ⟨g, 0, none⟩) (cellsP L) := by
  have := h.front L.length (Nat.le_refl _)
  rw [List.take_length] at this
  exact this
end Go.Proofs.Ytgldlfgidmgmfaa
