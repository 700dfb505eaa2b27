/- A strings.Builder that stands alone in a struct of the program's own (wire.writer): its block, its buffer's block, what it holds. -/
import Derived.Test.YtpfcamebkcengaaPt
import Derived.Lib.Builder
import Derived.Lib.AppendStr
import Derived.Lib.UnsafeStr
import Derived.Lib.MakeNoZero
import Derived.Lib.Strings
import Derived.Shelf.Strings.Builder1
namespace Go.RowKit
/-- What became of the world, and where the buffer lies: the builder's block and the buffer's have turned, a new buffer is a new block. -/
structure Wr (w w' : World) (b : Nat) (o o' : Option Nat) : Prop where
  turned : Turned (fun k => k = b ∨ o = some k) w w'
  out : ∀ g, o' = some g → o = some g ∨ w.heap.size ≤ g
theorem Wr.refl (w : World) (b : Nat) (o : Option Nat) : Wr w w b o o := ⟨Turned.refl _ _, fun _ h => Or.inl h⟩
theorem Wr.trans {a m z : World} {b : Nat} {o o' o'' : Option Nat} (h : Wr a m b o o') (k : Wr m z b o' o'') : Wr a z b o o'' :=
  ⟨h.turned.trans k.turned fun i hi hs => by
    rcases hs with hs | hs
    · exact Or.inl hs
    · rcases h.out i hs with h1 | h1
      · exact Or.inr h1
      · omega,
   fun g hg => by
    rcases k.out g hg with h1 | h1
    · exact h.out g h1
    · exact Or.inr (Nat.le_trans h.turned.size h1)⟩
theorem Wr.after {a m z : World} {b : Nat} {o o' : Option Nat} (h : Wr a m b o o') (k : Below m.heap.size m z) : Wr a z b o o' :=
  ⟨h.turned.trans (Turned.of_below (S := fun _ => False) k) (fun _ _ h => h.elim), h.out⟩
theorem Wr.ahead {a m z : World} {b : Nat} {o o' : Option Nat} (k : Below a.heap.size a m) (h : Wr m z b o o') : Wr a z b o o' :=
  ⟨(Turned.of_below (S := fun k => k = b ∨ o = some k) k).trans h.turned (fun _ _ hs => hs), fun g hg => by
    rcases h.out g hg with h1 | h1
    · exact Or.inl h1
    · exact Or.inr (Nat.le_trans k.size h1)⟩
end Go.RowKit
namespace Go.Proofs.Ytpfcamebkcengaa
open Go.RowKit

theorem run_append_str_at {P : Program} (w : World) (base : Nat) (t u ty e : TypeId) (i : TypeInfo) (ht : P.underlying t = some (.slice e)) (hu : P.underlying u = some .string) (hi : P.info? e = some i) (hz : i.zero = some (.int .u8 0))
    (hsize : i.size = 1) (hby : i.bytes = 1) (v : Value) (n : Nat) (xs : List Value) (hown : w.ownsRow base e 1 v n xs) (s : ByteArray)
    (h63 : n + s.size ≤ maxLen) (hbytes : n + s.size ≤ 140737488355328) (hbase : base ≤ w.heap.size) :
    ∃ v' w', (Builtin.append_ #[t, u] ty #[v, .string s]).run P w = .ok v' w' ∧ w'.ownsRow base e 1 v' (n + s.size) (xs ++ Lib.strCells s) ∧ w.grownBy w' v.ownBlock ∧
      (v'.ownBlock = v.ownBlock ∨ v'.ownBlock = some w.heap.size) := by
  obtain ⟨v', w', hr, h2, h3, h4⟩ := Lib.run_append_own_string (P := P) w base t u ty e i ht hu hi hz hsize hby v n xs hown s h63 hbytes hbase
  refine ⟨v', w', hr, h2, h3, ?_⟩
  have hsmall : n + s.size ≤ 9223372036854775807 := by simp only [maxLen] at h63; omega
  have hxl : xs.length = n := by simpa using hown.1
  rcases hown.2 with ⟨rfl, rfl⟩ | ⟨g, cap, cur, rfl, hbg, hg, hnc, hcm, hcs, htake⟩
  · by_cases hm : s.size = 0
    · rw [h4.2 ⟨rfl, hm⟩]
      exact Or.inl rfl
    · have hq := run_append_nil_string (P := P) w t u ty e i (.int .u8 0) ht hu hi hz s (by omega) (by omega) (by rw [hby]; omega)
      rw [hr] at hq
      injection hq with hq
      rw [hq]
      exact Or.inr rfl
  · by_cases hroom : n + s.size ≤ cap
    · have hcs' : cur.size = cap := by simpa using hcs
      have hq := Lib.run_append_room_string (P := P) w t u ty e i ht hu hi hsize g n cap cur hg s hroom (by omega)
      rw [hr] at hq
      injection hq with hq
      rw [hq]
      exact Or.inl rfl
    · have holds : ∀ j u, xs[j]? = some u → w.cell? ((⟨g, 0, none⟩ : Addr).add j) = some u := hown.cells (g := g) rfl
      have hq := Lib.run_append_grow_string (P := P) w t u ty e i (.int .u8 0) ht hu hi hz ⟨g, 0, none⟩ n cap xs (by rw [hsize]; simpa using hxl) holds s (by omega) (by omega) (by rw [hby]; exact growslice_fits (by omega) (by omega))
      rw [hr] at hq
      injection hq with hq
      rw [hq]
      exact Or.inr rfl
theorem wpList_append_str_at {P : Program} {ops : Array Oper} {rest : List Oper} {o : Oper} {a : Act} {Q : Exit → Act → World → Prop} {w : World} (hgd : o.guard = none) (sl x : Operand) (t u : TypeId)
    (ho : o.op = .call { callee := .builtin .append, args := #[sl, x], argTypes := #[t, u] })
    (base : Nat) (e : TypeId) (i : TypeInfo) (ht : P.underlying t = some (.slice e)) (hu : P.underlying u = some .string) (hi : P.info? e = some i) (hz : i.zero = some (.int .u8 0))
    (hsize : i.size = 1) (hby : i.bytes = 1)
    (v : Value) (n : Nat) (xs : List Value) (hs : a.eval sl = v) (hown : w.ownsRow base e 1 v n xs) (s : ByteArray) (hx : a.eval x = .string s)
    (h63 : n + s.size ≤ maxLen) (hbytes : n + s.size ≤ 140737488355328) (hbase : base ≤ w.heap.size)
    (h : ∀ v' w', w'.ownsRow base e 1 v' (n + s.size) (xs ++ Lib.strCells s) → w.grownBy w' v.ownBlock → (v'.ownBlock = v.ownBlock ∨ v'.ownBlock = some w.heap.size) → wpList P ops Q rest (a.put o.dst v') w') : wpList P ops Q (o :: rest) a w := by
  refine wpList_plain hgd fun K hK => ?_
  obtain ⟨v', w', hr, h2, h3, h4⟩ := run_append_str_at (P := P) w base t u o.type e i ht hu hi hz hsize hby v n xs hown s h63 hbytes hbase
  unfold Oper.wp execOp
  simp only [ho, resolve, invoke, builtin, Sem.run_bind, Sem.run_pure, Result.andThen_ok, List.map_toArray, List.map_cons, List.map_nil, hs, hx, hr]
  exact hK _ _ (h v' w' h2 h3 h4)

/-- The builder in block b, used or not (p: what its address' cell holds), its buffer v. -/
def WrIn (w : World) (B b : Nat) (l : List UInt8) (p v : Value) : Prop :=
  B ≤ b ∧ w.heap[b]? = some (.cells #[p, v] 72 (0, 0)) ∧ w.ownsRow B 5 1 v l.length (Lib.byteCells l)
/-- .. and its buffer's block o. -/
def WrAt (w : World) (B b : Nat) (l : List UInt8) (o : Option Nat) : Prop :=
  ∃ p v, (p = .pointer none ∨ p = .pointer (some ⟨b, 0, none⟩)) ∧ WrIn w B b l p v ∧ v.ownBlock = o
theorem WrIn.lt {w : World} {B b : Nat} {l : List UInt8} {p v : Value} (h : WrIn w B b l p v) : b < w.heap.size := by
  obtain ⟨_, hb, _⟩ := h
  rcases Nat.lt_or_ge b w.heap.size with h' | h'
  · exact h'
  · simp [Array.getElem?_eq_none h'] at hb
theorem WrIn.ne {w : World} {B b : Nat} {l : List UInt8} {p v : Value} (h : WrIn w B b l p v) : v.ownBlock ≠ some b := Lib.ownBlock_ne h.2.2 h.2.1 (by decide)
theorem WrAt.lt {w : World} {B b : Nat} {l : List UInt8} {o : Option Nat} (h : WrAt w B b l o) : b < w.heap.size := by
  obtain ⟨p, v, _, h, _⟩ := h
  exact h.lt
theorem WrAt.base {w : World} {B b : Nat} {l : List UInt8} {o : Option Nat} (h : WrAt w B b l o) : B ≤ b := by
  obtain ⟨p, v, _, h, _⟩ := h
  exact h.1
theorem WrAt.low {w : World} {B b : Nat} {l : List UInt8} {o : Option Nat} (h : WrAt w B b l o) : ∀ g, o = some g → B ≤ g ∧ g < w.heap.size := by
  obtain ⟨p, v, _, ⟨_, _, hown⟩, rfl⟩ := h
  exact fun g hg => hown.lt g hg
theorem wrAt_new (w : World) : WrAt (w.alloc (.cells #[.pointer none, .slice none 0 0] 72)) w.heap.size w.heap.size [] none :=
  ⟨_, _, Or.inl rfl, ⟨Nat.le_refl _, heap_alloc_new w _, World.ownsRow_nil _ _ _ _⟩, rfl⟩
theorem WrAt.next {w w' : World} {B b : Nat} {l : List UInt8} {o : Option Nat} (h : WrAt w B b l o) (hb : Below w.heap.size w w') : WrAt w' B b l o := by
  have hlt := h.lt
  obtain ⟨p, v, hp, ⟨hB, hc, hown⟩, ho⟩ := h
  exact ⟨p, v, hp, ⟨hB, (hb.block b hlt).trans hc, ownsRow_below hown hb⟩, ho⟩
/-- What lies ahead of the builder's own is as it was. -/
theorem Wr.below {w w' : World} {B b : Nat} {l : List UInt8} {o o' : Option Nat} (h : Wr w w' b o o') (hw : WrAt w B b l o) : Below B w w' := by
  refine h.turned.below ?_ ?_
  · rintro i _ (rfl | hi)
    · exact hw.base
    · exact (hw.low i hi).1
  · exact Nat.le_trans hw.base (Nat.le_of_lt hw.lt)
/-- A block that is neither the builder's nor its buffer's is as it was, and stays so. -/
def Far (w : World) (b : Nat) (o : Option Nat) (K : Nat) : Prop := K < w.heap.size ∧ K ≠ b ∧ o ≠ some K
theorem Far.next {w w' : World} {b K : Nat} {o o' : Option Nat} (h : Far w b o K) (k : Wr w w' b o o') : Far w' b o' K :=
  ⟨Nat.lt_of_lt_of_le h.1 k.turned.size, h.2.1, fun e => by
    rcases k.out K e with h1 | h1
    · exact h.2.2 h1
    · exact absurd h.1 (by omega)⟩
theorem Far.below {w w' : World} {b K : Nat} {o : Option Nat} (h : Far w b o K) (k : Below w.heap.size w w') : Far w' b o K := ⟨Nat.lt_of_lt_of_le h.1 k.size, h.2⟩
theorem far_new {w w' : World} {B b : Nat} {l : List UInt8} {o : Option Nat} (h : WrAt w B b l o) (hs : w.heap.size < w'.heap.size) : Far w' b o w.heap.size :=
  ⟨hs, fun e => by have := h.lt; omega, fun e => by have := (h.low _ e).2; omega⟩
theorem ArrAt.wr {w w' : World} {b K : Nat} {o o' : Option Nat} {t : TypeId} {c : List Value} (h : ArrAt w K t c) (hf : Far w b o K) (k : Wr w w' b o o') : ArrAt w' K t c :=
  h.turned k.turned (fun hs => hs.elim hf.2.1 hf.2.2)
/-- Behind a method: what was told, the builder behind it, and nothing else has turned. -/
def WrPost (w : World) (B b : Nat) (o : Option Nat) (l : List UInt8) (r : Value) (e : Ending) (w' : World) : Prop := e = .returned r ∧ ∃ o', WrAt w' B b l o' ∧ Wr w w' b o o'

set_option maxHeartbeats 1000000 in
set_option maxRecDepth 100000 in
theorem wr_used (b : Nat) (w : World) (h0 : w.cell? ⟨b, 0, none⟩ = some (.pointer (some ⟨b, 0, none⟩))) :
    Calls Try.prog 71 #[.pointer (some ⟨b, 0, none⟩)] w fun e w' => e = .returned (.tuple #[]) ∧ w = w' := by
  obtain ⟨j, hj, _⟩ := Option.map_eq_some_iff.1 (show (Try.prog.info? 70).map (·.size) = some 2 by kernel_rfl)
  have hn := Lib.hid (Lib.run_neq_ptr_same w ⟨b, 0, none⟩ Try.underlying67 hj)
  clear hj
  go_enter Try.func71, Try.ntmps71
  go_wp2
  rw [hn.out]
  go_wp2
  go_end0
  exact ⟨rfl, rfl⟩

set_option maxHeartbeats 1000000 in
set_option maxRecDepth 100000 in
theorem wr_fresh (b : Nat) (w : World) (h0 : w.cell? ⟨b, 0, none⟩ = some (.pointer none)) (hsh : w.shape? b = some (72, 2)) (hfz : w.frozen? ⟨b, 0, none⟩ = false) :
    Calls Try.prog 71 #[.pointer (some ⟨b, 0, none⟩)] w fun e w' => e = .returned (.tuple #[]) ∧ w' = w.setCell ⟨b, 0, none⟩ (.pointer (some ⟨b, 0, none⟩)) := by
  obtain ⟨j, hj, hjs⟩ := Option.map_eq_some_iff.1 (show (Try.prog.info? 70).map (·.size) = some 2 by kernel_rfl)
  have h1 := Lib.hid (Lib.run_to_unsafe w ⟨b, 0, none⟩ Try.underlying67 Try.underlying117 hj (by rw [hjs]; decide) hsh (Nat.zero_lt_succ 1))
  have h2 := Lib.hid (Lib.run_from_unsafe w ⟨b, 0, none⟩ Try.underlying117 Try.underlying67 hj hsh (by kernel_rfl))
  clear hj hjs hsh
  go_enter Try.func71, Try.ntmps71
  go_wp2
  rw [h1.out]
  simp only [Result.andThen]
  rw [Oper.upon_value]
  go_wp2
  rw [run_callFunc_extern Try.func75 (by kernel_rfl) (by kernel_rfl) (by kernel_rfl) (e := Extern.AbiNoEscape.same) (by kernel_rfl)]
  rw [Lib.run_noEscape]
  simp only [Result.andThen]
  rw [Oper.upon_value]
  go_wp2
  rw [h2.out]
  simp only [Result.andThen]
  rw [Oper.upon_value]
  go_wp2
  go_end0
  exact ⟨rfl, rfl⟩
theorem wr_check {w : World} {B b : Nat} {l : List UInt8} {o : Option Nat} (h : WrAt w B b l o) :
    Calls Try.prog 71 #[.pointer (some ⟨b, 0, none⟩)] w fun e w' => e = .returned (.tuple #[]) ∧ ∃ v, WrIn w' B b l (.pointer (some ⟨b, 0, none⟩)) v ∧ v.ownBlock = o ∧ Wr w w' b o o := by
  obtain ⟨p, v, hp, hI, ho⟩ := h
  have hne := hI.ne
  obtain ⟨hB, hb, hown⟩ := hI
  rcases hp with rfl | rfl
  · refine (wr_fresh b w (by rw [Lib.cell_of_heap hb]; rfl) (by simp [World.shape?, hb]) (Lib.frozen_of_heap hb 0)).mono ?_
    rintro e w' ⟨rfl, rfl⟩
    refine ⟨rfl, v, ⟨hB, by simp [World.setCell, Array.getElem?_modify, hb], ownsRow_turned hown (turned_setCell w ⟨b, 0, none⟩ _) fun k hk e => ?_⟩, ho, ⟨(turned_setCell w ⟨b, 0, none⟩ _).mono fun _ _ e => Or.inl e, fun _ h => Or.inl h⟩⟩
    exact hne (hk.trans (congrArg some e))
  · refine (wr_used b w (by rw [Lib.cell_of_heap hb]; rfl)).mono ?_
    rintro e w' ⟨rfl, rfl⟩
    exact ⟨rfl, v, ⟨hB, hb, hown⟩, ho, Wr.refl _ _ _⟩
/-- A new buffer laid into its cell. -/
theorem WrIn.put {w w1 : World} {B b : Nat} {l l' : List UInt8} {p v v' : Value} (h : WrIn w B b l p v) (hb : w1.heap[b]? = some (.cells #[p, v] 72 (0, 0))) (hown : w1.ownsRow B 5 1 v' l'.length (Lib.byteCells l')) :
    WrIn (w1.setCell ⟨b, 1, none⟩ v') B b l' p v' := by
  have hne : v'.ownBlock ≠ some b := Lib.ownBlock_ne hown hb (by decide)
  exact ⟨h.1, by simp [World.setCell, Array.getElem?_modify, hb], ownsRow_turned hown (turned_setCell w1 ⟨b, 1, none⟩ _) fun k hk e => hne (hk.trans (congrArg some e))⟩
theorem wr_put {w w1 w2 : World} {b : Nat} {o o' : Option Nat} {v' : Value} (h : Wr w w1 b o o) (hg : w1.grownBy w2 o) (ho : o' = o ∨ o' = some w1.heap.size ∨ o' = some (w1.heap.size + 1)) : Wr w (w2.setCell ⟨b, 1, none⟩ v') b o o' := by
  have h1 : Wr w1 w2 b o o' := ⟨Turned.of_grown hg fun _ hk => Or.inr hk, fun g hg' => by
    rcases ho with ho | ho | ho
    · exact Or.inl (ho ▸ hg')
    · rw [ho] at hg'; injection hg' with hg'; exact Or.inr (by omega)
    · rw [ho] at hg'; injection hg' with hg'; exact Or.inr (by omega)⟩
  exact (h.trans h1).trans ⟨(turned_setCell w2 ⟨b, 1, none⟩ v').mono fun _ _ e => Or.inl e, fun _ h => Or.inl h⟩
theorem byteCells_one (c : UInt8) : Lib.byteCells [c] = [.int .u8 c.toNat] := rfl

set_option maxHeartbeats 2000000 in
set_option maxRecDepth 100000 in
theorem wr_byte {w : World} {B b : Nat} {l : List UInt8} {o : Option Nat} (h : WrAt w B b l o) (c : Int) (u : UInt8) (hc : c = (u.toNat : Int)) (hlen : l.length + 1 ≤ 140737488355328) :
    Calls Try.prog 55 #[.pointer (some ⟨b, 0, none⟩), .int .u8 c] w (WrPost w B b o (l ++ [u]) .nilIface) := by
  obtain ⟨i0, hi, hz0, hz1, hz2⟩ := info_parts (show (Try.prog.info? 5).map (fun i => (i.zero, i.size, i.bytes)) = some (some (.int .u8 0), 1, 1) by kernel_rfl)
  have hk := Lib.hid (wr_check h)
  have hBw := h.base
  have hbl := h.lt
  replace hc := Lib.hid hc
  clear h
  go_enter Try.func55, Try.ntmps55
  go_wp2_with fail
  refine hk.out.mono ?_
  rintro e w1 ⟨rfl, v, h1, ho, hW⟩
  clear hk
  have h1' := Lib.hid h1
  obtain ⟨hB, hbk, hown⟩ := h1
  have c1 : w1.cell? ⟨b, 1, none⟩ = some v := by rw [Lib.cell_of_heap hbk]; rfl
  replace hbk := Lib.hid hbk
  replace hW := Lib.hid hW
  replace ho := Lib.hid ho
  go_wp2_with (at_builtin; refine wpList_append_own_at _ rfl _ _ 68 rfl B 5 i0 (.int .u8 0) 1 1 Try.underlying68 hi hz0 hz1 hz2 rfl (by decide) _ _ _ rfl (hown.alloc _) ⟨w1.heap.size, 0, none⟩ 1 1 [.int .u8 c] rfl rfl ?c1 ?c2 ?c3 ?c4 ?c5 ?_)
  case c1 =>
    intro j u hj
    match j, hj with
    | 0, hj => simp at hj; subst hj; simp [Addr.add]
  case c2 => intro u hu; simp at hu; subst hu; rfl
  case c3 => unfold maxLen; omega
  case c4 => omega
  case c5 => have := hW.out.turned.size; simp; omega
  intro v' w2 hown' hgrow _ hat
  have hlt := hW.out.turned.size
  have hb2 : w2.heap[b]? = some (.cells #[.pointer (some ⟨b, 0, none⟩), v] 72 (0, 0)) := by
    rw [hgrow.block b (by simp; omega) (fun e => h1'.out.ne e.symm), Lib.alloc_old w1 _ b (by omega)]
    exact hbk.out
  have hgr : Hid (w1.grownBy w2 o) := Lib.hid (by rw [← ho.out]; exact grownBy_trans (World.grownBy_alloc w1 _ none) hgrow)
  have hat' : Hid (v'.ownBlock = o ∨ v'.ownBlock = some w1.heap.size ∨ v'.ownBlock = some (w1.heap.size + 1)) := Lib.hid (by
    rcases hat with h | h
    · exact Or.inl (h.trans ho.out)
    · exact Or.inr (Or.inr (by simpa using h)))
  obtain ⟨ao, cap, rfl⟩ := own_form hown'
  have hI := Lib.hid (h1'.out.put (v' := .slice ao (l.length + 1) cap) (l' := l ++ [u]) hb2 (by rw [List.length_append, Lib.byteCells_append, byteCells_one, ← hc.out]; exact hown'))
  have d0 : w2.cell? ⟨b, 0, none⟩ = some (.pointer (some ⟨b, 0, none⟩)) := by rw [Lib.cell_of_heap hb2]; rfl
  have d1 : w2.cell? ⟨b, 1, none⟩ = some v := by rw [Lib.cell_of_heap hb2]; rfl
  have f1 : w2.frozen? ⟨b, 1, none⟩ = false := Lib.frozen_of_heap hb2 1
  clear hb2 hgrow hat hown' hown c1
  go_wp2_with fail
  go_ret
  exact ⟨rfl, _, ⟨_, _, Or.inr rfl, hI.out, rfl⟩, wr_put hW.out hgr.out hat'.out⟩
theorem byteCells_str (s : List UInt8) : Lib.strCells ⟨s.toArray⟩ = Lib.byteCells s := by rw [Lib.strCells_eq]

set_option maxHeartbeats 2000000 in
set_option maxRecDepth 100000 in
theorem wr_str {w : World} {B b : Nat} {l : List UInt8} {o : Option Nat} (h : WrAt w B b l o) (s : List UInt8) (hlen : l.length + s.length ≤ 140737488355328) :
    Calls Try.prog 56 #[.pointer (some ⟨b, 0, none⟩), .string ⟨s.toArray⟩] w (WrPost w B b o (l ++ s) (.tuple #[.int .i64 s.length, .nilIface])) := by
  obtain ⟨i0, hi, hz0, hz1, hz2⟩ := info_parts (show (Try.prog.info? 5).map (fun i => (i.zero, i.size, i.bytes)) = some (some (.int .u8 0), 1, 1) by kernel_rfl)
  have hk := Lib.hid (wr_check h)
  have hBw := h.base
  have hbl := h.lt
  have hs : (ByteArray.mk s.toArray).size = s.length := by simp [ByteArray.size]
  clear h
  go_enter Try.func56, Try.ntmps56
  go_wp2_with fail
  refine hk.out.mono ?_
  rintro e w1 ⟨rfl, v, h1, ho, hW⟩
  clear hk
  have h1' := Lib.hid h1
  obtain ⟨hB, hbk, hown⟩ := h1
  have c1 : w1.cell? ⟨b, 1, none⟩ = some v := by rw [Lib.cell_of_heap hbk]; rfl
  replace hbk := Lib.hid hbk
  replace hW := Lib.hid hW
  replace ho := Lib.hid ho
  go_wp2_with (at_builtin; refine wpList_append_str_at rfl _ _ 68 9 rfl B 5 i0 Try.underlying68 Try.underlying9 hi hz0 hz1 hz2 _ _ _ rfl hown ⟨s.toArray⟩ rfl ?c3 ?c4 ?c5 ?_)
  case c3 => rw [hs]; unfold maxLen; omega
  case c4 => rw [hs]; omega
  case c5 => have := hW.out.turned.size; omega
  intro v' w2 hown' hgrow hat
  rw [byteCells_str] at hown'
  have hlt := hW.out.turned.size
  have hb2 : w2.heap[b]? = some (.cells #[.pointer (some ⟨b, 0, none⟩), v] 72 (0, 0)) := by
    rw [hgrow.block b (by omega) (fun e => h1'.out.ne e.symm)]
    exact hbk.out
  have hgr : Hid (w1.grownBy w2 o) := Lib.hid (by rw [← ho.out]; exact hgrow)
  have hat' : Hid (v'.ownBlock = o ∨ v'.ownBlock = some w1.heap.size ∨ v'.ownBlock = some (w1.heap.size + 1)) := Lib.hid (by
    rcases hat with h | h
    · exact Or.inl (h.trans ho.out)
    · exact Or.inr (Or.inl h))
  obtain ⟨ao, cap, rfl⟩ := own_form hown'
  have hI := Lib.hid (h1'.out.put (v' := .slice ao (l.length + s.length) cap) (l' := l ++ s) hb2 (by rw [List.length_append, Lib.byteCells_append]; exact hown'))
  have d0 : w2.cell? ⟨b, 0, none⟩ = some (.pointer (some ⟨b, 0, none⟩)) := by rw [Lib.cell_of_heap hb2]; rfl
  have d1 : w2.cell? ⟨b, 1, none⟩ = some v := by rw [Lib.cell_of_heap hb2]; rfl
  have f1 : w2.frozen? ⟨b, 1, none⟩ = false := Lib.frozen_of_heap hb2 1
  clear hb2 hgrow hat hown' hown c1 hs
  go_wp2_with fail
  go_ret2
  exact ⟨rfl, _, ⟨_, _, Or.inr rfl, hI.out, rfl⟩, wr_put hW.out hgr.out hat'.out⟩
/-- What the builder holds, told: the end of its use. -/
theorem wr_text {w : World} {B b : Nat} {l : List UInt8} {o : Option Nat} (h : WrAt w B b l o) (h0 : l ≠ []) :
    Calls Try.prog 36 #[.pointer (some ⟨b, 0, none⟩)] w fun e w' => e = .returned (.string ⟨l.toArray⟩) ∧ Below B w w' := by
  obtain ⟨p, v, hp, ⟨hB, hbk, hown⟩, ho⟩ := h
  have hl0 : l.length ≠ 0 := by simpa using h0
  obtain ⟨g, cap, cur, rfl, hbg, hg, hnc, hcm, hcs, htake⟩ : ∃ g cap cur, v = .slice (some ⟨g, 0, none⟩) l.length cap ∧ B ≤ g ∧ w.heap[g]? = some (.cells cur 5 (0, 0)) ∧ l.length ≤ cap ∧ cap ≤ maxLen ∧ cur.size = cap * 1 ∧ cur.toList.take (l.length * 1) = Lib.byteCells l := by
    rcases hown.2 with ⟨_, hz⟩ | ⟨g, cap, cur, hv, r⟩
    · exact absurd hz hl0
    · exact ⟨g, cap, cur, hv, r⟩
  have c1 : w.drew.cell? ⟨b, 1, none⟩ = some (.slice (some ⟨g, 0, none⟩) l.length cap) := by
    have : w.drew.heap[b]? = some (.cells #[p, .slice (some ⟨g, 0, none⟩) l.length cap] 72 (0, 0)) := hbk
    rw [Lib.cell_of_heap this]; rfl
  have hSD : (Builtin.unsafeSliceData_ #[68] 98 #[.slice (some ⟨g, 0, none⟩) l.length cap]).run Try.prog w.drew = .ok (.pointer (some ⟨g, 0, none⟩)) w.drew :=
    Lib.run_unsafeSliceData_row _ _ _ _ _ _ (by omega)
  have hUS : (Builtin.unsafeString_ #[98, 3] 9 #[.pointer (some ⟨g, 0, none⟩), .int .i64 l.length]).run Try.prog w.drew = .ok (.string ⟨l.toArray⟩) (w.drew.freeze ⟨g, 0, none⟩ l.length) := by
    refine Lib.run_unsafeString_row w.drew 98 3 9 5 Try.underlying98 (by kernel_rfl) g cur.size (by have hg' : w.drew.heap[g]? = some (.cells cur 5 (0, 0)) := hg; simp [World.shape?, hg']) l h0 (by omega) (by unfold maxLen at hcm; omega) ?_
    intro j x hx
    have := hown.cells (g := g) rfl j (.int .u8 x.toNat) (by simp [Lib.byteCells, hx])
    exact this
  clear hown hg htake hcs hbk
  go_enter Try.func36, Try.ntmps36
  go_wp2
  go_region
  all_goals (go_wp2; go_ret; exact ⟨rfl, Lib.below_freeze (Below.drew (Below.refl B w)) (p := ⟨g, 0, none⟩) hbg _⟩)
end Go.Proofs.Ytpfcamebkcengaa
