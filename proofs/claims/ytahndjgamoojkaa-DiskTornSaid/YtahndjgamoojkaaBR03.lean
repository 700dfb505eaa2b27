/- Append of a part of a row (nil, too), of elements of any number of cells, to a row of the call's own: step laws. -/
import Derived.Test.YtahndjgamoojkaaBR02
import Derived.Deep.RegionLaw
import Derived.Deep.AppendLies
import Derived.Test.YtahndjgamoojkaaBR01
import Derived.Deep.Strs
import Derived.Shelf.Strconv.Clone
namespace Go.Proofs.Ytahndjgamoojkaa
open Go.RowKit

/-- What an append appends: cells that lie somewhere, or none. -/
def PartOf (w : World) (A : Option Addr) (news : List Value) : Prop := ∀ j u, news[j]? = some u → ∃ ad, A = some ad ∧ w.cell? (ad.add j) = some u
theorem step_append_part {P : Program} {ops : Array Oper} {o : Oper} {a : Act} {K : Act → World → Prop} {Q : Exit → Act → World → Prop} {E : Prop} {w : World} (hgd : o.guard = none) (s x : Operand) (t : TypeId)
    (ho : o.op = .call { callee := .builtin .append, args := #[s, x], argTypes := #[t, t] })
    (base : Nat) (e : TypeId) (z : Value) (size bytes : Nat) (ht : P.underlying t = some (.slice e)) (hi : (P.info? e).map (fun i => (i.zero, i.size, i.bytes)) = some (some z, size, bytes)) (hzs : z.cells.size = size) (hsz : 0 < size)
    (v : Value) (n : Nat) (xs : List Value) (hs : a.eval s = v) (hown : w.ownsRow base e size v n xs)
    (A : Option Addr) (m c : Nat) (news : List Value) (hx : a.eval x = .slice A m c) (hl : news.length = m * size) (hnews : PartOf w A news) (h1 : ∀ u ∈ news, u.oneCell' = true)
    (N : Nat) (hN : n + m = N) (h63 : N ≤ maxLen) (hbytes : N * bytes ≤ 140737488355328) (hbase : base ≤ w.heap.size)
    (h : ∀ a' c' w', Hid (w'.ownsRow base e size (.slice a' N c') N (xs ++ news)) → Hid (Below base w w') → Hid (w.grownBy w' v.ownBlock) → K (a.put o.dst (.slice a' N c')) w') :
    if Region.wanted o (yielded ops a.tmps) = true then Oper.wp P o a w K Q else E := by
  rw [if_pos (by simp [Region.wanted, hgd])]
  obtain ⟨i, hi, hz, hsize, hby⟩ := info_parts hi
  subst hN
  have hbel : ∀ w', w.grownBy w' v.ownBlock → Below base w w' := fun w' hg => (Below.refl base w).grown hg hbase fun k hk => (hown.lt k hk).1
  cases A with
  | none =>
    have hm : news = [] := by
      cases news with
      | nil => rfl
      | cons u r => obtain ⟨ad, e, _⟩ := hnews 0 u rfl; cases e
    subst hm
    have hm0 : m = 0 := by
      have : m * size = 0 := by simpa using hl.symm
      rcases Nat.mul_eq_zero.1 this with h | h
      · exact h
      · omega
    subst hm0
    have hrun := run_append_none (P := P) (w := w) base t o.type e i size ht hi v n c xs hown
    obtain ⟨a', c', rfl⟩ := own_form hown
    unfold Oper.wp
    simp [execOp, ho, resolve, invoke, builtin, hs, hx, hrun, Result.andThen]
    exact h a' c' w (Lib.hid (by simpa using hown)) (Lib.hid (Below.refl _ _)) (Lib.hid ⟨rfl, rfl, rfl, Nat.le_refl _, fun _ _ _ => rfl⟩)
  | some ad =>
    obtain ⟨v', w', hr, h2, h3, h4, h5⟩ := run_append_own_at (P := P) w base t o.type e i z size bytes ht hi hz hsize hby hzs hsz v n xs hown ad m c news hl (fun j u hu => by obtain ⟨ad', e, hc⟩ := hnews j u hu; injection e with e; subst e; exact hc) h1 h63 hbytes hbase
    obtain ⟨a', c', rfl⟩ := own_form h2
    unfold Oper.wp
    simp [execOp, ho, resolve, invoke, builtin, hs, hx, hr, Result.andThen]
    exact h a' c' w' (Lib.hid h2) (Lib.hid (hbel w' h3)) (Lib.hid h3)
/-- The same, in a region that doesn't draw. -/
theorem wpList_append_part {P : Program} {ops : Array Oper} {o : Oper} {a : Act} {rest : List Oper} {Q : Exit → Act → World → Prop} {w : World} (hw : Region.wanted o (yielded ops a.tmps) = true) (s x : Operand) (t : TypeId)
    (ho : o.op = .call { callee := .builtin .append, args := #[s, x], argTypes := #[t, t] })
    (base : Nat) (e : TypeId) (z : Value) (size bytes : Nat) (ht : P.underlying t = some (.slice e)) (hi : (P.info? e).map (fun i => (i.zero, i.size, i.bytes)) = some (some z, size, bytes)) (hzs : z.cells.size = size) (hsz : 0 < size)
    (v : Value) (n : Nat) (xs : List Value) (hs : a.eval s = v) (hown : w.ownsRow base e size v n xs)
    (A : Option Addr) (m c : Nat) (news : List Value) (hx : a.eval x = .slice A m c) (hl : news.length = m * size) (hnews : PartOf w A news) (h1 : ∀ u ∈ news, u.oneCell' = true)
    (N : Nat) (hN : n + m = N) (h63 : N ≤ maxLen) (hbytes : N * bytes ≤ 140737488355328) (hbase : base ≤ w.heap.size)
    (h : ∀ a' c' w', Hid (w'.ownsRow base e size (.slice a' N c') N (xs ++ news)) → Hid (Below base w w') → Hid (w.grownBy w' v.ownBlock) → Hid ((Value.slice a' N c').ownBlock = v.ownBlock ∨ (Value.slice a' N c').ownBlock = some w.heap.size) → wpList P ops Q rest (a.put o.dst (.slice a' N c')) w') : wpList P ops Q (o :: rest) a w := by
  refine BigFrame.wpList_want hw fun K hK => ?_
  obtain ⟨i, hi, hz, hsize, hby⟩ := info_parts hi
  subst hN
  have hbel : ∀ w', w.grownBy w' v.ownBlock → Below base w w' := fun w' hg => (Below.refl base w).grown hg hbase fun k hk => (hown.lt k hk).1
  cases A with
  | none =>
    have hm : news = [] := by
      cases news with
      | nil => rfl
      | cons u r => obtain ⟨ad, e, _⟩ := hnews 0 u rfl; cases e
    subst hm
    have hm0 : m = 0 := by
      have : m * size = 0 := by simpa using hl.symm
      rcases Nat.mul_eq_zero.1 this with h | h
      · exact h
      · omega
    subst hm0
    have hrun := run_append_none (P := P) (w := w) base t o.type e i size ht hi v n c xs hown
    obtain ⟨a', c', rfl⟩ := own_form hown
    unfold Oper.wp
    simp [execOp, ho, resolve, invoke, builtin, hs, hx, hrun, Result.andThen]
    exact hK _ _ <| h a' c' w (Lib.hid (by simpa using hown)) (Lib.hid (Below.refl _ _)) (Lib.hid ⟨rfl, rfl, rfl, Nat.le_refl _, fun _ _ _ => rfl⟩) (Lib.hid (Or.inl rfl))
  | some ad =>
    obtain ⟨v', w', hr, h2, h3, h4, h5⟩ := run_append_own_at (P := P) w base t o.type e i z size bytes ht hi hz hsize hby hzs hsz v n xs hown ad m c news hl (fun j u hu => by obtain ⟨ad', e, hc⟩ := hnews j u hu; injection e with e; subst e; exact hc) h1 h63 hbytes hbase
    obtain ⟨a', c', rfl⟩ := own_form h2
    unfold Oper.wp
    simp [execOp, ho, resolve, invoke, builtin, hs, hx, hr, Result.andThen]
    exact hK _ _ <| h a' c' w' (Lib.hid h2) (Lib.hid (hbel w' h3)) (Lib.hid h3) (Lib.hid h5)
theorem PartOf.below {w w' : World} {A : Option Addr} {news : List Value} {B : Nat} (h : PartOf w A news) (hb : Below B w w') (hA : ∀ ad, A = some ad → ad.block < B) : PartOf w' A news := fun j u hu => by
  obtain ⟨ad, e, hc⟩ := h j u hu
  refine ⟨ad, e, ?_⟩
  have hl : (ad.add j).block < B := by
    have := hA ad e
    unfold Addr.add; split <;> exact this
  rw [World.cell?_of_block (hb.block _ hl)]; exact hc
theorem partOf_nil (w : World) (A : Option Addr) : PartOf w A [] := fun j u h => by simp at h
theorem ownsRow_base {w : World} {B E z n : Nat} {v : Value} {xs : List Value} (h : w.ownsRow 0 E z v n xs) (hb : ∀ g, v.ownBlock = some g → B ≤ g) : w.ownsRow B E z v n xs := by
  rcases h with ⟨h1, h | ⟨g, cap, cur, rfl, _, h3⟩⟩
  · exact ⟨h1, Or.inl h⟩
  · exact ⟨h1, Or.inr ⟨g, cap, cur, rfl, hb g rfl, h3⟩⟩
theorem hide_world {K : Act → World → Prop} {a : Act} {W : World} {R : World → Prop} (hR : R W) (h : ∀ w', Hid (R w') → K a w') : K a W := h W hR
theorem new_in {H : Nat} {w0 w : World} (t : TypeId) (c : List Value) (hb : Below H w0 w) (hH : H ≤ w.heap.size) : ArrAt (w.alloc (.cells c.toArray t)) w.heap.size t c ∧ Below H w0 (w.alloc (.cells c.toArray t)) ∧ Below w.heap.size w (w.alloc (.cells c.toArray t)) :=
  ⟨arrAt_new w t c, hb.alloc hH _, (Below.refl _ _).alloc (Nat.le_refl _) _⟩
theorem new_in_drew {H : Nat} {w0 w : World} (t : TypeId) (c : List Value) (hb : Below H w0 w) (hH : H ≤ w.heap.size) : ArrAt (w.alloc (.cells c.toArray t)).drew w.heap.size t c ∧ Below H w0 (w.alloc (.cells c.toArray t)).drew ∧ Below w.heap.size w (w.alloc (.cells c.toArray t)).drew :=
  ⟨arrAt_new w t c, (hb.alloc hH _).trans (Drawn.below ⟨1, rfl⟩ _), ((Below.refl _ _).alloc (Nat.le_refl _) _).trans (Drawn.below ⟨1, rfl⟩ _)⟩
theorem empty_own {H e : Nat} {w : World} {t : TypeId} {z : Nat} (h : ArrAt w e t []) (he : H ≤ e) : w.ownsRow H t z (.slice (some ⟨e, 0, none⟩) 0 0) 0 [] :=
  ownsRow_base (h.owns (n := 0) (cap := 0) (by simp) (by simp) (Nat.le_refl _) (by decide)) fun g hg => by cases hg; exact he
theorem part_one {w : World} {e : Nat} {t : TypeId} {c : List Value} (h : ArrAt w e t c) : PartOf w (some ⟨e, 0, none⟩) c := fun j u hu => ⟨_, rfl, by rw [addr_mid, h.cell, Nat.zero_add]; exact hu⟩
end Go.Proofs.Ytahndjgamoojkaa

/- Slices of elements of k cells each, told by a function of what an element is: one that can be read wherever it lies, one that the call itself made. -/
namespace Go.Proofs.Ytahndjgamoojkaa
open Go.RowKit

section
variable {α : Type} {k : Nat} {f : α → List Value}
theorem flat_len (hk : ∀ x, (f x).length = k) : ∀ l : List α, (l.flatMap f).length = l.length * k
  | [] => by simp
  | x :: r => by
    rw [List.flatMap_cons, List.length_append, hk, flat_len hk r, List.length_cons, Nat.add_mul]
    omega
theorem flat_at (hk : ∀ x, (f x).length = k) : ∀ (l : List α) (i t : Nat) (hi : i < l.length), t < k → (l.flatMap f)[i * k + t]? = (f (l[i]'hi))[t]?
  | [], _, _, hi, _ => by simp at hi
  | x :: r, 0, t, _, ht => by
    rw [List.flatMap_cons, Nat.zero_mul, Nat.zero_add, List.getElem?_append_left (by rw [hk]; exact ht)]
    rfl
  | x :: r, i + 1, t, hi, ht => by
    have e : (i + 1) * k + t = k + (i * k + t) := by rw [Nat.add_mul]; omega
    rw [List.flatMap_cons, e, List.getElem?_append_right (by rw [hk]; omega), hk, show k + (i * k + t) - k = i * k + t by omega, flat_at hk r i t (by simpa using hi) ht]
    rfl
/-- A slice that can be read. -/
def SlOf (k : Nat) (f : α → List Value) (w : World) (v : Value) (l : List α) : Prop :=
  (l = [] ∧ ∃ a c, v = .slice a 0 c) ∨ ∃ b off c, l.length ≤ c ∧ v = .slice (some ⟨b, off, none⟩) l.length c ∧ ∀ i (hi : i < l.length) t u, t < k → (f (l[i]'hi))[t]? = some u → w.cell? ⟨b, off + i * k + t, none⟩ = some u
variable {w w' : World} {v : Value} {l : List α}
theorem SlOf.form (h : SlOf k f w v l) : ∃ a c, v = .slice a l.length c := by
  rcases h with ⟨rfl, a, c, rfl⟩ | ⟨b, off, c, _, rfl, _⟩
  · exact ⟨a, c, rfl⟩
  · exact ⟨_, c, rfl⟩
theorem SlOf.nil (h : SlOf k f w v l) (h0 : l = []) : ∃ a c, v = .slice a 0 c := by
  obtain ⟨a, c, e⟩ := h.form
  subst h0
  exact ⟨a, c, e⟩
theorem slOf_nil (w : World) (a : Option Addr) (c : Nat) : SlOf k f w (.slice a 0 c) ([] : List α) := Or.inl ⟨rfl, a, c, rfl⟩
theorem SlOf.some (hk : ∀ x, (f x).length = k) (hk0 : 0 < k) (h : SlOf k f w v l) (h0 : l ≠ []) : ∃ b off c, l.length ≤ c ∧ b < w.heap.size ∧ v = .slice (some ⟨b, off, none⟩) l.length c ∧ ∀ i (hi : i < l.length) t u, t < k → (f (l[i]'hi))[t]? = some u → w.cell? ⟨b, off + i * k + t, none⟩ = some u := by
  rcases h with ⟨h, _⟩ | ⟨b, off, c, hc, hv, h⟩
  · exact absurd h h0
  · have hl : 0 < l.length := List.length_pos_iff.2 h0
    have hx : 0 < (f (l[0]'hl)).length := by rw [hk]; exact hk0
    exact ⟨b, off, c, hc, World.block_lt_of_cell? w ⟨b, off + 0 * k + 0, none⟩ (h 0 hl 0 _ hk0 (List.getElem?_eq_getElem hx)), hv, h⟩
theorem SlOf.next (h : SlOf k f w v l) (hb : Below w.heap.size w w') : SlOf k f w' v l := by
  rcases h with h | ⟨b, off, c, hc, rfl, h⟩
  · exact Or.inl h
  · refine Or.inr ⟨b, off, c, hc, rfl, fun i hi t u ht hu => ?_⟩
    have h0 := h i hi t u ht hu
    exact (hb.cell (p := ⟨b, off + i * k + t, none⟩) (World.block_lt_of_cell? w _ h0)).trans h0
theorem SlOf.drawn (h : SlOf k f w v l) (hd : Drawn w w') : SlOf k f w' v l := h.next (hd.below _)
theorem SlOf.part (hk : ∀ x, (f x).length = k) {A : Option Addr} {n c : Nat} (h : SlOf k f w (.slice A n c) l) : PartOf w A (l.flatMap f) := by
  rcases h with ⟨rfl, a, c', e⟩ | ⟨b, off, c', _, e, hc⟩
  · exact partOf_nil _ _
  · injection e with e1 e2 e3
    subst e1
    intro j u hu
    refine ⟨_, rfl, ?_⟩
    rw [addr_mid]
    have hj : j < l.length * k := by have := (List.getElem?_eq_some_iff.1 hu).1; rwa [flat_len hk] at this
    have hk0 : 0 < k := by
      rcases Nat.eq_zero_or_pos k with h0 | h0
      · rw [h0] at hj; omega
      · exact h0
    have hd := Nat.div_add_mod j k
    have hm := Nat.mod_lt j hk0
    have hi : j / k < l.length := by rw [Nat.div_lt_iff_lt_mul hk0]; exact hj
    have hf := flat_at hk l (j / k) (j % k) hi hm
    have e4 : j / k * k + j % k = j := by rw [Nat.mul_comm]; exact hd
    rw [e4] at hf
    rw [hf] at hu
    have := hc (j / k) hi (j % k) u hm hu
    rw [Nat.add_assoc, e4] at this
    exact this
/-- What the call itself made can be read. -/
theorem slOf_own (hk : ∀ x, (f x).length = k) {B : Nat} {E : TypeId} (h : w.ownsRow B E k v l.length (l.flatMap f)) : SlOf k f w v l := by
  by_cases h0 : l = []
  · obtain ⟨a, c, e⟩ := own_form h
    subst h0
    exact Or.inl ⟨rfl, a, c, e⟩
  · obtain ⟨a, c', e, hcap⟩ := own_cap h
    rcases h.2 with ⟨_, hn⟩ | ⟨g, cap, cur, hv, _⟩
    · exact absurd (List.length_eq_zero_iff.1 hn) h0
    · rw [hv] at e
      injection e with e1 e2 e3
      refine Or.inr ⟨g, 0, cap, by omega, hv, fun i hi t u ht hu => ?_⟩
      have hcg := World.ownsRow.cells h (g := g) (by rw [hv]; rfl)
      have r1 := hcg (i * k + t) u (by rw [flat_at hk l i t hi ht]; exact hu)
      rw [addr_mid, Nat.zero_add] at r1
      rw [Nat.zero_add]
      exact r1
end
end Go.Proofs.Ytahndjgamoojkaa

/- A slice of elements of k cells that came in, each told by a function of what an element is. -/
namespace Go.Proofs.Ytahndjgamoojkaa
open Go.ChangeShapes Go.WideShapes Go.ChangeAt Go.RowKit Go.Deep

section
variable {H : Type} {enc : TypeId × Value → H} {P : Program} {w : World} {α : Type} [Inhabited α] {k : Nat} {f : α → List Value}
/-- What a slice's data tell of its elements. -/
def SlD (R : α → DataW H → Prop) (l : List α) (d : DataW H) : Prop := (d = .nil ∧ l = []) ∨ ∃ (D : Nat → DataW H) (sp : List (DataW H)), d = .slice ((List.range l.length).map D) sp ∧ ∀ j (hj : j < l.length), R (l[j]'hj) (D j)
theorem spot_go {w : World} {a : Addr} {v : Value} (h : w.cell? (a.add 0) = some v) : ∃ b off, a = ⟨b, off, none⟩ := by
  have hs : a.spot = none := by simpa [Addr.add] using World.cell?_spot h
  obtain ⟨b, off, spot⟩ := a
  simp at hs
  subst hs
  exact ⟨b, off, rfl⟩
theorem trod_slOf {R : α → DataW H → Prop} {t e : TypeId} {fuel : Nat} {cs : List Value} {x : DataW H × List MemPlace} (hk : ∀ a, (f a).length = k) (hk0 : 0 < k) (ht : P.underlying t = some (.slice e)) (ce : P.cellsOf e = k)
    (hel : ∀ n cs y, cs.length = k → DataW.trod enc P w 0 (fun _ => true) true n e cs = some y → ∃ a, cs = f a ∧ R a y.1)
    (h : DataW.trod enc P w 0 (fun _ => true) true fuel t cs = some x) : ∃ v l, cs = [v] ∧ SlOf k f w v l ∧ l.length ≤ maxLen ∧ SlD R l x.1 := by
  rcases open_slice ht h with ⟨hcs, hx⟩ | ⟨a, len, cap, m, n, D, Pl, hcs, hb, hl, hm, hmm, hx, hi⟩
  · exact ⟨_, [], hcs, slOf_nil _ _ _, Nat.zero_le _, Or.inl ⟨by rw [hx], rfl⟩⟩
  · simp only [if_true] at hmm
    subst hmm
    have each : ∀ i, i < len → ∃ q : α, (∀ t u, t < k → (f q)[t]? = some u → w.cell? (a.add (i * k + t)) = some u) ∧ R q (D i) := by
      intro i hi'
      obtain ⟨cs', h1, h2⟩ := hi i (by omega)
      rw [ce] at h1
      obtain ⟨_, hlen, hcell⟩ := World.cells?_some h1
      obtain ⟨q, rfl, hR⟩ := hel _ _ _ hlen h2
      refine ⟨q, fun t u ht hu => ?_, hR⟩
      have := hcell t ht
      rw [add_add] at this
      rw [this]
      simpa using hu
    obtain ⟨q, hq⟩ := choose_lt each
    have hll : ((List.range len).map q).length = len := by simp
    refine ⟨_, (List.range len).map q, hcs, ?_, by rw [hll]; omega, Or.inr ⟨D, _, by rw [hx, hll], fun j hj => ?_⟩⟩
    · by_cases h0 : len = 0
      · subst h0; exact Or.inl ⟨rfl, _, _, rfl⟩
      · have hx0 : 0 < (f (q 0)).length := by rw [hk]; exact hk0
        obtain ⟨b, off, rfl⟩ := spot_go (w := w) (a := a) (by have := (hq 0 (by omega)).1 0 _ hk0 (List.getElem?_eq_getElem hx0); rwa [Nat.zero_mul] at this)
        refine Or.inr ⟨b, off, m, by rw [hll]; exact hl, by rw [hll], fun j hj t u ht hu => ?_⟩
        have hj' : j < len := by rwa [hll] at hj
        simp only [List.getElem_map, List.getElem_range] at hu
        have := (hq j hj').1 t u ht hu
        rw [add_plain] at this
        rw [Nat.add_assoc]
        exact this
    · simp only [List.getElem_map, List.getElem_range]
      exact (hq j (by rwa [hll] at hj)).2
end
end Go.Proofs.Ytahndjgamoojkaa

/- strings.Clone at this program: the same bytes (internal/stringslite.Clone by the library's contract; made by wip/tools/shelf2tpl.py). -/
namespace Go.Proofs.Ytahndjgamoojkaa
open Go.RowKit Go.Shelf Go.Lib
def Laid.laysM316_ren : Go.Shelf.Ren := ⟨fun | 316 => 58 | n => n, fun | 9 => 9 | 3 => 3 | 4 => 4 | 37 => 80 | 0 => 0 | 127 => 96 | 5 => 5 | n => n, fun | n => n⟩
theorem Laid.laysM316 : Go.Proofs.LaysM.n316 Try.prog Laid.laysM316_ren := {
  mixed := by kernel_rfl
  f316 := Try.func58.trans (congrArg some (by kernel_rfl))
  t0 := Try.underlying0
  a0 := Try.isAgg0
  z0 := Try.sizeOf0
  v0 := Try.zeroValue0
  t3 := Try.underlying3
  a3 := Try.isAgg3
  z3 := Try.sizeOf3
  v3 := Try.zeroValue3
  t4 := Try.underlying4
  a4 := Try.isAgg4
  z4 := Try.sizeOf4
  v4 := Try.zeroValue4
  t9 := Try.underlying9
  a9 := Try.isAgg9
  z9 := Try.sizeOf9
  v9 := Try.zeroValue9
  t37 := Try.underlying80
  a37 := Try.isAgg80
  z37 := Try.sizeOf80
  v37 := Try.zeroValue80
  t127 := Try.underlying96
  a127 := Try.isAgg96
  z127 := Try.sizeOf96
  v127 := Try.zeroValue96
  t5 := Try.underlying5
  a5 := Try.isAgg5
  z5 := Try.sizeOf5
  v5 := Try.zeroValue5
  i0 := by kernel_rfl
  i3 := by kernel_rfl
  i4 := by kernel_rfl
  i5 := by kernel_rfl
  i9 := by kernel_rfl
  i37 := by kernel_rfl
  i127 := by kernel_rfl }
open Go.RowKit in
theorem Laid.stringslite_Clone (s : ByteArray) (w : World) (hlim : s.size ≤ 281474976710656) :
    Calls Try.prog 58 #[.string s] w fun e w' => e = .returned (.string s) ∧ Below w.heap.size w w' := Any.stringslite_Clone Laid.laysM316 s w hlim
theorem clone_any (l : List UInt8) (w : World) (hs : l.length ≤ 281474976710656) : Calls Try.prog 45 #[.string ⟨l.toArray⟩] w fun e w' => e = .returned (.string ⟨l.toArray⟩) ∧ Below w.heap.size w w' := by
  go_enter Try.func45, Try.ntmps45
  go_wp2_with fail
  refine (Laid.stringslite_Clone _ w (by simpa [ByteArray.size] using hs)).mono ?_; rintro e w1 ⟨rfl, hb⟩
  replace hb := Lib.hid hb
  go_wp2_with fail
  go_ret
  exact ⟨rfl, hb.out⟩
end Go.Proofs.Ytahndjgamoojkaa
