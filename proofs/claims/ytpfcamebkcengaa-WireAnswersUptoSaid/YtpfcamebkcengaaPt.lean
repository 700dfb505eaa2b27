/- Append of a part of a row (nil, too), of elements of any number of cells, to a row of the call's own: step laws. -/
import Derived.Test.YtpfcamebkcengaaTn
import Derived.Test.YtpfcamebkcengaaSl
import Derived.Deep.RegionLaw
import Derived.Deep.AppendLies
namespace Go.Proofs.Ytpfcamebkcengaa
open Go.RowKit

/-- What an append appends: cells that lie somewhere, or none. -/
def PartOf (w : World) (A : Option Addr) (news : List Value) : Prop := ∀ j u, news[j]? = some u → ∃ ad, A = some ad ∧ w.cell? (ad.add j) = some u
theorem step_append_part {P : Program} {ops : Array Oper} {o : Oper} {a : Act} {K : Act → World → Prop} {Q : Exit → Act → World → Prop} {E : Prop} {w : World} (hgd : o.guard = none) (s x : Operand) (t : TypeId)
    (ho : o.op = .call { callee := .builtin .append, args := #[s, x], argTypes := #[t, t] })
    (base : Nat) (e : TypeId) (z : Value) (size bytes : Nat) (ht : P.underlying t = some (.slice e)) (hi : (P.info? e).map (fun i => (i.zero, i.size, i.bytes)) = some (some z, size, bytes)) (hzs : z.cells.size = size) (hsz : 0 < size)
    (v : Value) (n : Nat) (xs : List Value) (hs : a.eval s = v) (hown : w.ownsRow base e size v n xs)
    (A : Option Addr) (m c : Nat) (news : List Value) (hx : a.eval x = .slice A m c) (hl : news.length = m * size) (hnews : PartOf w A news) (h1 : ∀ u ∈ news, u.oneCell' = true)
    (N : Nat) (hN : n + m = N) (h63 : N ≤ maxLen) (hbytes : N * bytes ≤ 140737488355328) (hbase : base ≤ w.heap.size)
    (h : ∀ a' c' w', Hid (w'.ownsRow base e size (.slice a' N c') N (xs ++ news)) → Hid (Below base w w') → Hid (w.grownBy w' v.ownBlock) → K (a.put o.dst (.slice a' N c')) w') :
    if Region.wanted o (yielded ops a.tmps) = true then Oper.wp P o a w K Q else E := by
  rw [if_pos (by simp [Region.wanted, hgd])]
  obtain ⟨i, hi, hz, hsize, hby⟩ := info_parts hi
  subst hN
  have hbel : ∀ w', w.grownBy w' v.ownBlock → Below base w w' := fun w' hg => (Below.refl base w).grown hg hbase fun k hk => (hown.lt k hk).1
  cases A with
  | none =>
    have hm : news = [] := by
      cases news with
      | nil => rfl
      | cons u r => obtain ⟨ad, e, _⟩ := hnews 0 u rfl; cases e
    subst hm
    have hm0 : m = 0 := by
      have : m * size = 0 := by simpa using hl.symm
      rcases Nat.mul_eq_zero.1 this with h | h
      · exact h
      · omega
    subst hm0
    have hrun := run_append_none (P := P) (w := w) base t o.type e i size ht hi v n c xs hown
    obtain ⟨a', c', rfl⟩ := own_form hown
    unfold Oper.wp
    simp [execOp, ho, resolve, invoke, builtin, hs, hx, hrun, Result.andThen]
    exact h a' c' w (Lib.hid (by simpa using hown)) (Lib.hid (Below.refl _ _)) (Lib.hid ⟨rfl, rfl, rfl, Nat.le_refl _, fun _ _ _ => rfl⟩)
  | some ad =>
    obtain ⟨v', w', hr, h2, h3, h4, h5⟩ := run_append_own_at (P := P) w base t o.type e i z size bytes ht hi hz hsize hby hzs hsz v n xs hown ad m c news hl (fun j u hu => by obtain ⟨ad', e, hc⟩ := hnews j u hu; injection e with e; subst e; exact hc) h1 h63 hbytes hbase
    obtain ⟨a', c', rfl⟩ := own_form h2
    unfold Oper.wp
    simp [execOp, ho, resolve, invoke, builtin, hs, hx, hr, Result.andThen]
    exact h a' c' w' (Lib.hid h2) (Lib.hid (hbel w' h3)) (Lib.hid h3)
/-- The same, in a region that doesn't draw. -/
theorem wpList_append_part {P : Program} {ops : Array Oper} {o : Oper} {a : Act} {rest : List Oper} {Q : Exit → Act → World → Prop} {w : World} (hw : Region.wanted o (yielded ops a.tmps) = true) (s x : Operand) (t : TypeId)
    (ho : o.op = .call { callee := .builtin .append, args := #[s, x], argTypes := #[t, t] })
    (base : Nat) (e : TypeId) (z : Value) (size bytes : Nat) (ht : P.underlying t = some (.slice e)) (hi : (P.info? e).map (fun i => (i.zero, i.size, i.bytes)) = some (some z, size, bytes)) (hzs : z.cells.size = size) (hsz : 0 < size)
    (v : Value) (n : Nat) (xs : List Value) (hs : a.eval s = v) (hown : w.ownsRow base e size v n xs)
    (A : Option Addr) (m c : Nat) (news : List Value) (hx : a.eval x = .slice A m c) (hl : news.length = m * size) (hnews : PartOf w A news) (h1 : ∀ u ∈ news, u.oneCell' = true)
    (N : Nat) (hN : n + m = N) (h63 : N ≤ maxLen) (hbytes : N * bytes ≤ 140737488355328) (hbase : base ≤ w.heap.size)
    (h : ∀ a' c' w', Hid (w'.ownsRow base e size (.slice a' N c') N (xs ++ news)) → Hid (Below base w w') → Hid (w.grownBy w' v.ownBlock) → Hid ((Value.slice a' N c').ownBlock = v.ownBlock ∨ (Value.slice a' N c').ownBlock = some w.heap.size) → wpList P ops Q rest (a.put o.dst (.slice a' N c')) w') : wpList P ops Q (o :: rest) a w := by
  refine BigFrame.wpList_want hw fun K hK => ?_
  obtain ⟨i, hi, hz, hsize, hby⟩ := info_parts hi
  subst hN
  have hbel : ∀ w', w.grownBy w' v.ownBlock → Below base w w' := fun w' hg => (Below.refl base w).grown hg hbase fun k hk => (hown.lt k hk).1
  cases A with
  | none =>
    have hm : news = [] := by
      cases news with
      | nil => rfl
      | cons u r => obtain ⟨ad, e, _⟩ := hnews 0 u rfl; cases e
    subst hm
    have hm0 : m = 0 := by
      have : m * size = 0 := by simpa using hl.symm
      rcases Nat.mul_eq_zero.1 this with h | h
      · exact h
      · omega
    subst hm0
    have hrun := run_append_none (P := P) (w := w) base t o.type e i size ht hi v n c xs hown
    obtain ⟨a', c', rfl⟩ := own_form hown
    unfold Oper.wp
    simp [execOp, ho, resolve, invoke, builtin, hs, hx, hrun, Result.andThen]
    exact hK _ _ <| h a' c' w (Lib.hid (by simpa using hown)) (Lib.hid (Below.refl _ _)) (Lib.hid ⟨rfl, rfl, rfl, Nat.le_refl _, fun _ _ _ => rfl⟩) (Lib.hid (Or.inl rfl))
  | some ad =>
    obtain ⟨v', w', hr, h2, h3, h4, h5⟩ := run_append_own_at (P := P) w base t o.type e i z size bytes ht hi hz hsize hby hzs hsz v n xs hown ad m c news hl (fun j u hu => by obtain ⟨ad', e, hc⟩ := hnews j u hu; injection e with e; subst e; exact hc) h1 h63 hbytes hbase
    obtain ⟨a', c', rfl⟩ := own_form h2
    unfold Oper.wp
    simp [execOp, ho, resolve, invoke, builtin, hs, hx, hr, Result.andThen]
    exact hK _ _ <| h a' c' w' (Lib.hid h2) (Lib.hid (hbel w' h3)) (Lib.hid h3) (Lib.hid h5)
theorem PartOf.below {w w' : World} {A : Option Addr} {news : List Value} {B : Nat} (h : PartOf w A news) (hb : Below B w w') (hA : ∀ ad, A = some ad → ad.block < B) : PartOf w' A news := fun j u hu => by
  obtain ⟨ad, e, hc⟩ := h j u hu
  refine ⟨ad, e, ?_⟩
  have hl : (ad.add j).block < B := by
    have := hA ad e
    unfold Addr.add; split <;> exact this
  rw [World.cell?_of_block (hb.block _ hl)]; exact hc
theorem partOf_nil (w : World) (A : Option Addr) : PartOf w A [] := fun j u h => by simp at h
theorem ownsRow_base {w : World} {B E z n : Nat} {v : Value} {xs : List Value} (h : w.ownsRow 0 E z v n xs) (hb : ∀ g, v.ownBlock = some g → B ≤ g) : w.ownsRow B E z v n xs := by
  rcases h with ⟨h1, h | ⟨g, cap, cur, rfl, _, h3⟩⟩
  · exact ⟨h1, Or.inl h⟩
  · exact ⟨h1, Or.inr ⟨g, cap, cur, rfl, hb g rfl, h3⟩⟩
theorem hide_world {K : Act → World → Prop} {a : Act} {W : World} {R : World → Prop} (hR : R W) (h : ∀ w', Hid (R w') → K a w') : K a W := h W hR
theorem new_in {H : Nat} {w0 w : World} (t : TypeId) (c : List Value) (hb : Below H w0 w) (hH : H ≤ w.heap.size) : ArrAt (w.alloc (.cells c.toArray t)) w.heap.size t c ∧ Below H w0 (w.alloc (.cells c.toArray t)) ∧ Below w.heap.size w (w.alloc (.cells c.toArray t)) :=
  ⟨arrAt_new w t c, hb.alloc hH _, (Below.refl _ _).alloc (Nat.le_refl _) _⟩
theorem new_in_drew {H : Nat} {w0 w : World} (t : TypeId) (c : List Value) (hb : Below H w0 w) (hH : H ≤ w.heap.size) : ArrAt (w.alloc (.cells c.toArray t)).drew w.heap.size t c ∧ Below H w0 (w.alloc (.cells c.toArray t)).drew ∧ Below w.heap.size w (w.alloc (.cells c.toArray t)).drew :=
  ⟨arrAt_new w t c, (hb.alloc hH _).trans (Drawn.below ⟨1, rfl⟩ _), ((Below.refl _ _).alloc (Nat.le_refl _) _).trans (Drawn.below ⟨1, rfl⟩ _)⟩
theorem empty_own {H e : Nat} {w : World} {t : TypeId} {z : Nat} (h : ArrAt w e t []) (he : H ≤ e) : w.ownsRow H t z (.slice (some ⟨e, 0, none⟩) 0 0) 0 [] :=
  ownsRow_base (h.owns (n := 0) (cap := 0) (by simp) (by simp) (Nat.le_refl _) (by decide)) fun g hg => by cases hg; exact he
theorem part_one {w : World} {e : Nat} {t : TypeId} {c : List Value} (h : ArrAt w e t c) : PartOf w (some ⟨e, 0, none⟩) c := fun j u hu => ⟨_, rfl, by rw [addr_mid, h.cell, Nat.zero_add]; exact hu⟩
end Go.Proofs.Ytpfcamebkcengaa
