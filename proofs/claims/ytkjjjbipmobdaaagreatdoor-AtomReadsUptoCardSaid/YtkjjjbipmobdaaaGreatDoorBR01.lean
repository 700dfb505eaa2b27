/- A byte of a list, as a number: plain. -/
import Derived.Test.YtkjjjbipmobdaaaGreatDoorRows
import Derived.WalkKit
import Derived.WalkSpells
import Derived.WalkLawsBesides
import Derived.Lib.Hide
import Derived.BigQuiet
import Derived.Deep.QuietTactic
import Derived.ProofKit
import Derived.OpenShut
import Derived.LaidMore
import Derived.Stop.Joined
import Derived.Deep.Slices
import Derived.SevenTiedAt
import Derived.Deep.MidRow
import Derived.Deep.DeepMust
import Derived.Laws.AppendOwnNone
import Derived.BigFrame
import Derived.Lib.LaidTab
namespace Go.Proofs.YtkjjjbipmobdaaaGreatDoor

/-- The i-th byte of a list, as a number. -/
def bt (l : List UInt8) (i : Nat) : Int := ((l.getD i 0).toNat : Int)
theorem bt_lt (l : List UInt8) (i : Nat) : 0 ≤ bt l i ∧ bt l i ≤ 255 := by
  unfold bt; have := (l.getD i 0).toNat_lt; omega

end Go.Proofs.YtkjjjbipmobdaaaGreatDoor

/- Small words for all walks: a text as a list of bytes; a world behind draws. -/
namespace Go.RowKit
/-- Calls that each leave what was there alone, one behind the other. -/
theorem Below.next {B : Nat} {w w1 w2 : World} (h1 : Below B w w1) (h2 : Below w1.heap.size w1 w2) (hB : B ≤ w1.heap.size) : Below B w w2 := h1.trans (h2.mono hB)
theorem Below.andThen {w w1 w2 : World} (h1 : Below w.heap.size w w1) (h2 : Below w1.heap.size w1 w2) : Below w.heap.size w w2 := h1.trans (h2.mono h1.size)
end Go.RowKit
namespace Go.Proofs.YtkjjjbipmobdaaaGreatDoor
open Go.RowKit

@[go_sem] theorem bt_get (l : List UInt8) (i : Nat) (h : i < (ByteArray.mk l.toArray).size) : (((ByteArray.mk l.toArray)[i]'h).toNat : Int) = bt l i := by
  unfold bt
  have h' : i < l.length := by simpa [ByteArray.size] using h
  simp [List.getD, List.getElem?_eq_getElem h']; rfl

@[go_sem] theorem ba_extract (l : List UInt8) (a b : Nat) : (ByteArray.mk l.toArray).extract a b = ⟨((l.take b).drop a).toArray⟩ := by
  apply ByteArray.ext
  simp [List.extract_eq_take_drop, List.drop_take]

@[go_sem] theorem ba_append (a b : List UInt8) : ByteArray.mk a.toArray ++ ByteArray.mk b.toArray = ⟨(a ++ b).toArray⟩ := by
  apply ByteArray.ext
  simp

/-- The world behind a call that only reads: some draws on. -/
def Drawn (w w' : World) : Prop := ∃ n, w' = w.drewN n
theorem Drawn.refl (w : World) : Drawn w w := ⟨0, rfl⟩

theorem drawn_drew (w : World) : Drawn w w.drew := ⟨1, rfl⟩
theorem drawn_drewN (w : World) (n : Nat) : Drawn w (w.drewN n) := ⟨n, rfl⟩
theorem Drawn.trans {a b c : World} (h : Drawn a b) (k : Drawn b c) : Drawn a c := by obtain ⟨n, rfl⟩ := h; obtain ⟨m, rfl⟩ := k; exact ⟨n + m, by simp⟩
theorem Drawn.below {w w' : World} (h : Drawn w w') (B : Nat) : Below B w w' := by obtain ⟨n, rfl⟩ := h; exact ⟨rfl, rfl, rfl, Nat.le_refl _, fun _ _ => rfl⟩
theorem Drawn.grown {w w' : World} (h : Drawn w w') : w.grownBy w' none := by obtain ⟨n, rfl⟩ := h; exact ⟨rfl, rfl, rfl, Nat.le_refl _, fun _ _ _ => rfl⟩

/-- A call that only computes, met within a region that draws. -/
theorem Calls.drawn_at {P : Program} {f : FuncId} {args : Array Value} {w : World} {n : Nat} {v : Value} (h : Calls P f args (w.drewN n) fun e w' => e = .returned v ∧ w.drewN n = w') :
    Calls P f args (w.drewN n) fun e w' => e = .returned v ∧ ∃ m, w' = w.drewN m :=
  h.mono fun _ _ hh => ⟨hh.1, n, hh.2.symm⟩
theorem ownsRow_drawn {w w' : World} {B : Nat} {E : TypeId} {z : Nat} {v : Value} {n : Nat} {xs : List Value} (h : w.ownsRow B E z v n xs) (hd : Drawn w w') : w'.ownsRow B E z v n xs :=
  h.kept hd.grown (by cases v.ownBlock <;> simp)
/-- A string's length, in a slot. -/
def strLen : Value → Nat
  | .string b => b.size
  | _ => 0
theorem strLen_mk (l : List UInt8) : strLen (.string ⟨l.toArray⟩) = l.length := by simp [strLen, ByteArray.size]

/-- A slice of integers that can be read: wherever it lies. -/
def IntSl (k : IntKind) (w : World) (v : Value) (xs : List Int) : Prop :=
  (xs = [] ∧ ∃ a c, v = .slice a 0 c) ∨ ∃ b off c, v = .slice (some ⟨b, off, none⟩) xs.length c ∧ ∀ j, j < xs.length → w.cell? ⟨b, off + j, none⟩ = some (.int k (xs.getD j 0))

theorem intSl_own {k : IntKind} {w : World} {B : Nat} {E : TypeId} {v : Value} {xs : List Int} (h : w.ownsRow B E 1 v xs.length (xs.map (Value.int k))) : IntSl k w v xs := by
  rcases h.2 with ⟨hv, hn⟩ | ⟨g, cap, cur, hv, _⟩
  · exact Or.inl ⟨List.length_eq_zero_iff.1 hn, _, _, hv⟩
  · refine Or.inr ⟨g, 0, cap, hv, fun j hj => ?_⟩
    have := h.cells (g := g) (by rw [hv]; rfl) j (.int k (xs.getD j 0)) (by simp [hj, List.getD])
    have hadd : (⟨g, 0, none⟩ : Addr).add j = ⟨g, 0 + j, none⟩ := by unfold Addr.add; split <;> simp_all
    rw [hadd] at this; exact this

theorem IntSl.drawn {k : IntKind} {w w' : World} {v : Value} {xs : List Int} (h : IntSl k w v xs) (hd : Drawn w w') : IntSl k w' v xs := by
  obtain ⟨n, rfl⟩ := hd; exact h

theorem IntSl.nil {k : IntKind} {w : World} {v : Value} {xs : List Int} (h : IntSl k w v xs) (hx : xs = []) : ∃ a c, v = .slice a 0 c := by
  rcases h with ⟨_, h⟩ | ⟨b, off, c, h, _⟩
  · exact h
  · subst hx; exact ⟨_, _, h⟩
theorem IntSl.some {k : IntKind} {w : World} {v : Value} {xs : List Int} (h : IntSl k w v xs) (hx : xs ≠ []) :
    ∃ b off c, v = .slice (some ⟨b, off, none⟩) xs.length c ∧ ∀ j, j < xs.length → w.cell? ⟨b, off + j, none⟩ = some (.int k (xs.getD j 0)) := by
  rcases h with ⟨h, _⟩ | h
  · exact absurd h hx
  · exact h

theorem IntSl.form {k : IntKind} {w : World} {v : Value} {xs : List Int} (h : IntSl k w v xs) : ∃ a c, v = .slice a xs.length c := by
  rcases h with ⟨rfl, a, c, h⟩ | ⟨b, off, c, h, _⟩
  · exact ⟨a, c, h⟩
  · exact ⟨_, c, h⟩

/-- A slice that can be read lies among the blocks below B. -/
def SlBelow (B : Nat) (v : Value) : Prop := ∀ a n c, v = .slice (some a) n c → 0 < n → a.block < B
theorem SlBelow.mono {B B' : Nat} {v : Value} (h : SlBelow B v) (hb : B ≤ B') : SlBelow B' v := fun a n c e h0 => Nat.lt_of_lt_of_le (h a n c e h0) hb
theorem IntSl.below {k : IntKind} {w w' : World} {v : Value} {xs : List Int} {B : Nat} (h : IntSl k w v xs) (hb : Below B w w') (hv : SlBelow B v) : IntSl k w' v xs := by
  rcases h with h | ⟨b, off, c, rfl, h⟩
  · exact Or.inl h
  · exact Or.inr ⟨b, off, c, rfl, fun j hj => (hb.cell (p := ⟨b, off + j, none⟩) (hv ⟨b, off, none⟩ _ _ rfl (by omega))).trans (h j hj)⟩
theorem ret_bool {a b : Bool} (h : a = b) : Ending.returned (.bool a) = .returned (.bool b) := by rw [h]
theorem ret_int {k : IntKind} {a b : Int} (h : a = b) : Ending.returned (.int k a) = .returned (.int k b) := by rw [h]
theorem ret_i32 {a b : Int} (h : a = b) : Ending.returned (.int .i32 a) = .returned (.int .i32 b) := by rw [h]
theorem ret_int2 {k j : IntKind} {a b c d : Int} (h : a = c) (h' : b = d) : Ending.returned (.tuple #[.int k a, .int j b]) = .returned (.tuple #[.int k c, .int j d]) := by rw [h, h']
theorem str_eq {a b : List UInt8} (h : a = b) : Value.string ⟨a.toArray⟩ = Value.string ⟨b.toArray⟩ := by rw [h]
theorem ret_str {a b : List UInt8} (h : a = b) : Ending.returned (.string ⟨a.toArray⟩) = .returned (.string ⟨b.toArray⟩) := by rw [h]
theorem slBelow_own {w : World} {B : Nat} {E : TypeId} {z : Nat} {v : Value} {n : Nat} {xs : List Value} (h : w.ownsRow B E z v n xs) : SlBelow w.heap.size v := by
  intro a n' c e _
  subst e
  exact (h.lt a.block rfl).2
/-- What a law's walk comes to: true, and nothing old has turned. -/
def LawPost (w : World) (e : Ending) (w' : World) : Prop := e = .returned (.bool true) ∧ Below w.heap.size w w'
end Go.Proofs.YtkjjjbipmobdaaaGreatDoor

/- From a law's walk to its row: the plain words, for every law of plain data that answers true and leaves what was there alone. -/
namespace Go.Proofs.YtkjjjbipmobdaaaGreatDoor
open Go.ChangeShapes Go.WideShapes Go.ChangeAt Go.RowKit

theorem own : ownKnob Tryz.prog.godebug = none := by kernel_rfl
theorem laidOut : laidOutB Tryz.prog = true := by kernel_rfl

section
variable {H : Type} {enc : TypeId × Value → H} {P : Program}

/-- What was read reads as it did, where nothing old has turned. -/
theorem trodAll_below (hl : laidOutB P = true) {W W' : World} (hb : Below W.heap.size W W') : ∀ (ts : List TypeId), (∀ t ∈ ts, P.readableRec t = true ∧ t < P.types.size) → ∀ (vs : List Value) (ds : List (DataW H)) (ps : List MemPlace),
    (∀ x ∈ ps, x.block < W.heap.size) → DataW.TrodAll enc P W 0 (fun _ => true) true ts vs ds ps → DataW.TrodAll enc P W' 0 (fun b => decide (b < W.heap.size)) true ts vs ds ps
  | [], _, vs, ds, ps, _, h => by
    obtain ⟨rfl, rfl, rfl⟩ := trodAll_nil h
    exact trodAll_mk0
  | t :: ts, hr, vs, ds, ps, hlt, h => by
    obtain ⟨v, vs', d, ds', p, q, rfl, rfl, rfl, h1, h2⟩ := trodAll_cons h
    have hrt := hr t (List.mem_cons_self ..)
    exact trodAll_cons_mk (Below.trod hl hrt.1 hrt.2 h1 hb fun x hx => hlt x (List.mem_append_left _ hx))
      (trodAll_below hl hb ts (fun t ht => hr t (List.mem_cons_of_mem _ ht)) vs' ds' q (fun x hx => hlt x (List.mem_append_right _ hx)) h2)

/-- A law's post: true, the arguments as they were. -/
theorem law_post {f : Func} {s : ChangeSpec} {W W' : World} {args : Array Value} {ds gs : List (DataW H)} {before : List MemPlace} {T : TypeId} (hl : laidOutB P = true)
    (hW : DataW.Whole enc P f.params.toList s.vars false W args.toList ds gs before) (hT : f.resultTypes = #[T]) (hu : P.underlying T = some .bool)
    (hr : ∀ t ∈ f.params.toList, P.readableRec t = true ∧ t < P.types.size) (hv : s.vars = []) (h1 : (s.fn H (ds ++ gs)).results = [.lit (.bool true)]) (h2 : (s.fn H (ds ++ gs)).args = ds) (h3 : (s.fn H (ds ++ gs)).vars = [])
    (hb : Below W.heap.size W W') : s.post enc P f false true false false W args (.bool true) W' := by
  have hlt := hW.lt
  obtain ⟨p, q, hA, hV, rfl, hfz, hnd⟩ := id hW
  rw [hv] at hV
  obtain ⟨rfl, rfl⟩ := trodVars_none hV
  refine ⟨ds, [], p ++ [], [], p, [], hW, ?_, ?_, ?_, hb.frame _, fun h => by cases h⟩
  · rw [h1, hT]; exact trodAll_mk1 (t := T) (v := .bool true) (shut_bool hu true)
  · rw [h2]; exact trodAll_below hl hb _ hr _ _ _ (fun x hx => hlt x (List.mem_append_left _ hx)) hA
  · rw [h3, hv]; rfl

/-- A string argument, as a list of bytes. -/
theorem open_text {r : Reach} {b0 base : Nat} {sp : Nat → Bool} {held : Bool} {w : World} {t : TypeId} {v : Value} {d : DataW H} {ps : List MemPlace} (ht : P.underlying t = some .string) (hval : Value.okWide P w r b0 t v) (hd : DataW.Trod enc P w base sp held t v d ps) :
    ∃ l : List UInt8, v = .string ⟨l.toArray⟩ ∧ l.length ≤ maxLen := by
  obtain ⟨s, rfl, _, _, hs⟩ := Go.ChangeMaps.open_string ht hval hd
  exact ⟨s.data.toList, rfl, hs⟩

/-- A slice of integers that came in. -/
theorem open_intSl {r : Reach} {b0 : Nat} {w : World} {t e : TypeId} {k : IntKind} {v : Value} {d : DataW H} {ps : List MemPlace} (ht : P.underlying t = some (.slice e)) (he : P.underlying e = some (.int k)) (hc : P.cellsOf e = 1)
    (hval : Value.okWide P w r b0 t v) (hd : DataW.Trod enc P w 0 (fun _ => true) true t v d ps) (hlt : ∀ x ∈ ps, x.block < w.heap.size) :
    ∃ xs : List Int, IntSl k w v xs ∧ SlBelow w.heap.size v ∧ xs.length ≤ maxLen ∧ ∀ n ∈ xs, (Lit.int k n).wf = true := by
  obtain ⟨a0, len, cap, rfl⟩ := okWide_slice ht hval
  obtain ⟨fuel, hf⟩ := hd
  rcases open_ints ht he hc hf with ⟨hcs, _⟩ | ⟨a, len', cap', zs, hcs, _, hl, hm, hz, hx, hcell, hwz⟩
  · simp [Value.cells] at hcs
    obtain ⟨rfl, rfl, rfl⟩ := hcs
    exact ⟨[], Or.inl ⟨rfl, _, _, rfl⟩, fun a n c h => by simp at h, Nat.zero_le _, by simp⟩
  · simp [Value.cells] at hcs
    obtain ⟨rfl, rfl, rfl⟩ := hcs
    simp only [if_true] at hz
    simp only [Prod.mk.injEq] at hx
    obtain ⟨rfl, rfl⟩ := hx
    have hblk : 0 < len → a.spot = none ∧ a.block < w.heap.size := by
      intro h0
      have hc0 := hcell 0 (by omega)
      have hs : a.spot = none := by simpa [Addr.add] using World.cell?_spot hc0
      have := World.block_lt_of_cell? w _ hc0
      refine ⟨hs, ?_⟩
      obtain ⟨b, off, spot⟩ := a
      simp at hs
      subst hs
      simpa [Addr.add] using this
    refine ⟨zs.take len, ?_, ?_, ?_, fun n hn => hwz n (List.mem_of_mem_take hn)⟩
    · by_cases h0 : len = 0
      · subst h0; exact Or.inl ⟨rfl, _, _, rfl⟩
      · obtain ⟨b, off, spot⟩ := a
        have hs := (hblk (by omega)).1
        simp at hs
        subst hs
        have hlen : (zs.take len).length = len := by rw [List.length_take]; omega
        refine Or.inr ⟨b, off, cap, by rw [hlen], fun j hj => ?_⟩
        have hj' : j < len := by omega
        have := hcell j (by omega)
        rw [add_plain] at this
        rw [this]
        simp [List.getD, hj']
    · intro a' n c h h0
      simp at h
      obtain ⟨rfl, rfl, rfl⟩ := h
      exact (hblk h0).2
    · rw [List.length_take]; omega
end
end Go.Proofs.YtkjjjbipmobdaaaGreatDoor

/- From a row's listed variables to what the walks ask: each listed variable by its name, wherever it stands on the list. -/
namespace Go.Proofs.YtkjjjbipmobdaaaGreatDoor
open Go.ChangeShapes Go.WideShapes Go.ChangeAt Go.RowKit

section
variable {P : Program}

theorem laidVars_mem : ∀ (l : List (String × DataW Unit)) (W : World) (ps : List MemPlace), DataW.LaidVars P W l ps → ∀ n d, (n, d) ∈ l →
    ∃ g t cs fuel p, P.globalNamed n = some g ∧ (P.globals[g]?).map (·.type) = some t ∧ W.var? P n = some cs ∧ DataW.trod (fun _ => ()) P W 0 (fun _ => true) false fuel t cs.toList = some (d, p)
  | [], _, _, _, n, d, hm => by simp at hm
  | (n0, d0) :: r, W, ps, h, n, d, hm => by
    obtain ⟨g, t, cs, fuel, p, q, h1, h2, h3, h4, h5, _⟩ := h
    rcases List.mem_cons.1 hm with hm | hm
    · injection hm with e1 e2
      subst e1 e2
      exact ⟨g, t, cs, fuel, p, h1, h2, h3, h4⟩
    · exact laidVars_mem r W q h5 n d hm

/-- A listed variable of one cell: its cell, and what it reads as. -/
theorem laid_one {l : List (String × DataW Unit)} {W : World} (h : laidMet P l W) {n : String} {d : DataW Unit} (hm : (n, d) ∈ l) {g t : Nat} (hg : P.globalNamed n = some g) (ht : (P.globals[g]?).map (·.type) = some t) :
    ∃ cs fuel p, W.var? P n = some cs ∧ DataW.trod (fun _ => ()) P W 0 (fun _ => true) false fuel t cs.toList = some (d, p) := by
  obtain ⟨ps, hl, _⟩ := h
  obtain ⟨g', t', cs, fuel, p, h1, h2, h3, h4⟩ := laidVars_mem l W ps hl n d hm
  obtain rfl := Option.some.inj (hg.symm.trans h1)
  obtain rfl := Option.some.inj (ht.symm.trans h2)
  exact ⟨cs, fuel, p, h3, h4⟩
theorem laid_cell {W : World} {n : String} {g : Nat} {cs : Array Value} {v : Value} (hg : P.globalNamed n = some g) (hv : W.var? P n = some cs) (hc : cs.toList = [v]) : W.cell? ⟨g, 0, none⟩ = some v := by
  have := World.var?_cell hg hv 0
  rw [Array.eq_one_of_toList hc] at this
  simpa using this
end
end Go.Proofs.YtkjjjbipmobdaaaGreatDoor

/- An array that the call itself made, as a row of its own: read, written, cell by cell and whole. -/
namespace Go.Proofs.YtkjjjbipmobdaaaGreatDoor
open Go.RowKit

/-- Block g is a row of the cells c, and may be written. -/
def ArrAt (w : World) (g : Nat) (t : TypeId) (c : List Value) : Prop := w.heap[g]? = some (.cells c.toArray t (0, 0))
theorem arrAt_new (w : World) (t : TypeId) (c : List Value) : ArrAt (w.alloc (.cells c.toArray t)) w.heap.size t c := heap_alloc_new w _
theorem ArrAt.cell {w : World} {g : Nat} {t : TypeId} {c : List Value} (h : ArrAt w g t c) (k : Nat) : w.cell? ⟨g, k, none⟩ = c[k]? := by
  rw [cell_of_row w g k _ t _ h]; simp
theorem ArrAt.soft {w : World} {g : Nat} {t : TypeId} {c : List Value} (h : ArrAt w g t c) (k : Nat) : w.frozen? ⟨g, k, none⟩ = false := frozen_of_row w g k _ t h
theorem ArrAt.lt {w : World} {g : Nat} {t : TypeId} {c : List Value} (h : ArrAt w g t c) : g < w.heap.size := (Array.getElem?_eq_some_iff.1 h).1
theorem ArrAt.set {w : World} {g : Nat} {t : TypeId} {c : List Value} (h : ArrAt w g t c) (k : Nat) (v : Value) : ArrAt (w.setCell ⟨g, k, none⟩ v) g t (c.set k v) := by
  unfold ArrAt
  rw [heap_setCell_same w g k _ t v h]
  simp
theorem ArrAt.far {w : World} {g g' : Nat} {t : TypeId} {c : List Value} (h : ArrAt w g t c) (k : Nat) (v : Value) (hg : g ≠ g') : ArrAt (w.setCell ⟨g', k, none⟩ v) g t c := by
  unfold ArrAt
  rw [heap_setCell_other w _ _ v hg]; exact h
theorem ArrAt.below {w w' : World} {g B : Nat} {t : TypeId} {c : List Value} (h : ArrAt w g t c) (hb : Below B w w') (hg : g < B) : ArrAt w' g t c := (hb.block g hg).trans h
theorem ArrAt.next {w w' : World} {g : Nat} {t : TypeId} {c : List Value} (h : ArrAt w g t c) (hb : Below w.heap.size w w') : ArrAt w' g t c := h.below hb h.lt
theorem ArrAt.drawn {w w' : World} {g : Nat} {t : TypeId} {c : List Value} (h : ArrAt w g t c) (hd : Drawn w w') : ArrAt w' g t c := h.next (hd.below _)
theorem ArrAt.range {w : World} {g : Nat} {t : TypeId} {c : List Value} (h : ArrAt w g t c) : w.rangeAt g 0 c := fun j v hv => by rw [Nat.zero_add, h.cell j]; exact hv
theorem ArrAt.there {w : World} {g : Nat} {t : TypeId} {c : List Value} (h : ArrAt w g t c) : w.there g 0 c.length := fun j hj => by
  rw [Nat.zero_add]; exact ⟨by rw [h.cell j]; simp [hj], h.soft j⟩
theorem setCells_row (t : TypeId) (g : Nat) : ∀ (vs pre post : List Value) (w : World), ArrAt w g t (pre ++ post) → vs.length = post.length → ArrAt (w.setCells g pre.length vs) g t (pre ++ vs)
  | [], pre, post, w, h, hl => by
    obtain rfl : post = [] := List.length_eq_zero_iff.1 hl.symm
    exact h
  | v :: vs, pre, post, w, h, hl => by
    cases post with
    | nil => simp at hl
    | cons p post =>
      have h2 := setCells_row t g vs (pre ++ [v]) post (w.setCell ⟨g, pre.length, none⟩ v) (by
        have := h.set pre.length v
        simpa [List.set_append_right] using this) (by simpa using hl)
      simp only [List.length_append, List.length_cons, List.length_nil, List.append_assoc, List.singleton_append] at h2
      exact h2
/-- A whole array, stored over one of as many cells. -/
theorem ArrAt.whole {w : World} {g : Nat} {t : TypeId} {c c' : List Value} (h : ArrAt w g t c) (hl : c'.length = c.length) : ArrAt (w.setCells g 0 c') g t c' := setCells_row t g c' [] c w h hl
theorem below_setCells {B : Nat} {a : World} (g : Nat) (hg : B ≤ g) : ∀ (vs : List Value) (o : Nat) (w : World), Below B a w → Below B a (w.setCells g o vs)
  | [], _, _, h => h
  | v :: vs, o, _, h => below_setCells g hg vs (o + 1) _ (h.setCell (p := ⟨g, o, none⟩) hg v)
/-- A result that lies in a row of its own. -/
theorem results_row {P : Program} {fn : Func} {p : Tmp} {ty : TypeId} (h : fn.results = #[.cell p ty]) (tmps : Array Value) (w : World) (g : Nat) (c : List Value) (n : Nat) (e t : TypeId) (hp : tmps.getD p undef = .pointer (some ⟨g, 0, none⟩)) (hr : ArrAt w g t c)
    (hu : P.underlying ty = some (.array n e)) (hi : (P.info? ty).map (·.size) = some c.length) : (results fn tmps).run P w = .ok (.agg c.toArray) w := by
  have hl := run_loadVar_mid (P := P) w g 0 ty c (.array n e) hr.range hu rfl hi
  have hp' : tmps[p]?.getD undef = .pointer (some ⟨g, 0, none⟩) := by simpa using hp
  simp only [results, h]
  simp [hp', asAddr, hl]
/-- A whole array, stored over one of as many cells: of the world behind it what matters. -/
theorem wpList_store_arr {P : Program} {ops : Array Oper} {rest : List Oper} {op : Oper} {a : Act} {w : World} {Q : Exit → Act → World → Prop} (hgd : op.guard = none) (ty : TypeId) (x y : Operand) (ho : op.op = .store ty x y)
    (g : Nat) (t : TypeId) (c c' : List Value) (hx : a.eval x = .pointer (some ⟨g, 0, none⟩)) (hy : a.eval y = .agg c'.toArray) (hr : ArrAt w g t c) (hl : c'.length = c.length) (hi : (P.info? ty).map (·.size) = some c'.length) (h1 : ∀ v ∈ c', v.oneCell' = true)
    (h : ∀ w', Hid (ArrAt w' g t c') → Hid (∀ B a0, B ≤ g → Below B a0 w → Below B a0 w') → wpList P ops Q rest (a.put op.dst undef) w') : wpList P ops Q (op :: rest) a w :=
  wpList_store_mid hgd ty x y ho g 0 c'.toArray hx hy (by have := hr.there; rw [← hl] at this; simpa using this) (by simpa using hi) (all_oneCell_toArray h1) (h _ (hr.whole hl) (fun _ _ hB hb => below_setCells g hB _ _ _ hb))
end Go.Proofs.YtkjjjbipmobdaaaGreatDoor

/- Append of one element to a slice that the call itself made: one law for the walks. -/
namespace Go.Proofs.YtkjjjbipmobdaaaGreatDoor
open Go.RowKit

theorem grownBy_trans {a b c : World} {row : Option Nat} (h : a.grownBy b none) (k : b.grownBy c row) : a.grownBy c row :=
  ⟨k.os.trans h.os, k.tape.trans h.tape, k.output.trans h.output, Nat.le_trans h.size k.size, fun i hi hne => (k.block i (Nat.lt_of_lt_of_le hi h.size) hne).trans (h.block i hi (by simp))⟩

theorem wpList_append1 {P : Program} {ops : Array Oper} {rest : List Oper} {o : Oper} {a : Act} {Q : Exit → Act → World → Prop} {w : World} (hw : Region.wanted o (yielded ops a.tmps) = true) (s x : Operand) (t e : TypeId)
    (ho : o.op = .call { callee := .builtin .append, args := #[s, x], argTypes := #[t, t] }) (ht : P.underlying t = some (.slice e))
    (z : Value) (bytes : Nat) (hi : (P.info? e).map (fun i => (i.zero, i.size, i.bytes)) = some (some z, 1, bytes)) (hzs : z.cells.size = 1) (hby : 0 < bytes)
    (B : Nat) (v : Value) (n : Nat) (xs : List Value) (u : Value) (hown : w.ownsRow B e 1 v n xs) (hs : a.eval s = v) (hx : a.eval x = .slice (some ⟨w.heap.size, 0, none⟩) 1 1) (hu : u.oneCell' = true)
    (hn : (n + 1) * bytes ≤ 140737488355328) (hB : B ≤ w.heap.size)
    (h : ∀ v' w', w'.ownsRow B e 1 v' (n + 1) (xs ++ [u]) → Below B w w' → w.grownBy w' v.ownBlock → wpList P ops Q rest (a.put o.dst v') w') : wpList P ops Q (o :: rest) a (w.alloc (.cells #[u] e)) := by
  obtain ⟨i0, hi, hz0, hz1, hz2⟩ := info_parts hi
  have hn1 : n + 1 ≤ (n + 1) * bytes := Nat.le_mul_of_pos_right _ hby
  refine BigFrame.wpList_want hw fun K hK => wp_append_own _ s x t ho B e i0 z 1 bytes ht hi hz0 hz1 hz2 hzs (by decide) v n xs hs (hown.alloc _) ⟨w.heap.size, 0, none⟩ 1 1 [u] hx rfl (cell_one_new _ _ _) ?_ ?_ hn ?_ ?_
  · intro y hy; simp at hy; subst hy; exact hu
  · unfold maxLen; omega
  · simp; omega
  · intro v' w' h1 h2 _
    have hg := grownBy_trans (World.grownBy_alloc w (.cells #[u] e) none) h2
    exact hK _ _ (h v' w' h1 ((Below.refl B w).grown hg hB fun k hk => (hown.lt k hk).1) hg)

/-- The same where the source is a slice that the call itself made (nil, too). -/
theorem wpList_append_row {P : Program} {ops : Array Oper} {rest : List Oper} {o : Oper} {a : Act} {Q : Exit → Act → World → Prop} {w : World} (hw : Region.wanted o (yielded ops a.tmps) = true) (s x : Operand) (t e : TypeId)
    (ho : o.op = .call { callee := .builtin .append, args := #[s, x], argTypes := #[t, t] }) (ht : P.underlying t = some (.slice e))
    (z : Value) (bytes : Nat) (hi : (P.info? e).map (fun i => (i.zero, i.size, i.bytes)) = some (some z, 1, bytes)) (hzs : z.cells.size = 1) (hby : 0 < bytes)
    (B : Nat) (v : Value) (n : Nat) (xs : List Value) (hown : w.ownsRow B e 1 v n xs) (B2 : Nat) (v2 : Value) (m : Nat) (ys : List Value) (hown2 : w.ownsRow B2 e 1 v2 m ys) (hs : a.eval s = v) (hx : a.eval x = v2) (hu : ∀ u ∈ ys, u.oneCell' = true)
    (hn : (n + m) * bytes ≤ 140737488355328) (hB : B ≤ w.heap.size)
    (h : ∀ v' w', w'.ownsRow B e 1 v' (n + m) (xs ++ ys) → Below B w w' → w.grownBy w' v.ownBlock → wpList P ops Q rest (a.put o.dst v') w') : wpList P ops Q (o :: rest) a w := by
  obtain ⟨i0, hi, hz0, hz1, hz2⟩ := info_parts hi
  rcases id hown2.2 with ⟨hv2, hm⟩ | ⟨g, cap, cur, hv2, hrest⟩
  · subst hm hv2
    have hys : ys = [] := List.eq_nil_of_length_eq_zero (by simpa using hown2.1)
    subst hys
    refine BigFrame.wpList_want hw fun K hK => ?_
    have hrun := run_append_owned_none (P := P) (w := w) B t o.type e i0 1 ht hi v n xs hown
    have hK' := hK _ _ (h v w (by simpa using hown) (Below.refl _ _) ⟨rfl, rfl, rfl, Nat.le_refl _, fun _ _ _ => rfl⟩)
    unfold Oper.wp
    simp [execOp, ho, resolve, invoke, builtin, hs, hx, hrun, Result.andThen]
    exact hK'
  · have hn1 : n + m ≤ (n + m) * bytes := Nat.le_mul_of_pos_right _ hby
    subst hv2
    refine BigFrame.wpList_want hw fun K hK => wp_append_own _ s x t ho B e i0 z 1 bytes ht hi hz0 hz1 hz2 hzs (by decide) v n xs hs hown ⟨g, 0, none⟩ m cap ys hx hown2.1 (hown2.cells rfl) hu (by unfold maxLen; omega) hn hB ?_
    intro v' w' h1 h2 _
    exact hK _ _ (h v' w' h1 ((Below.refl B w).grown h2 hB fun k hk => (hown.lt k hk).1) h2)

/-- What is owned stays so where nothing that was there has turned. -/
theorem ownsRow_below {w w' : World} {B : Nat} {E : TypeId} {z : Nat} {v : Value} {n : Nat} {xs : List Value} (h : w.ownsRow B E z v n xs) (hb : Below w.heap.size w w') : w'.ownsRow B E z v n xs :=
  h.kept (row := none) ⟨hb.os, hb.tape, hb.output, hb.size, fun k hk _ => hb.block k hk⟩ (by cases v.ownBlock <;> simp)
theorem run_append_none {P : Program} {w : World} (base : Nat) (t ty e : TypeId) (i : TypeInfo) (size : Nat) (ht : P.underlying t = some (.slice e)) (hi : P.info? e = some i)
    (v : Value) (n c : Nat) (xs : List Value) (hown : w.ownsRow base e size v n xs) : (Builtin.append_ #[t, t] ty #[v, .slice none 0 c]).run P w = .ok v w := by
  rcases hown.2 with ⟨rfl, rfl⟩ | ⟨g, cap, cur, rfl, _, _, hnc, _⟩
  · simp [Builtin.append_, run_underlying ht, sizeOf, typeInfo, hi, Builtin.lenOf, Builtin.firstCells]
  · simp [Builtin.append_, run_underlying ht, sizeOf, typeInfo, hi, Builtin.lenOf, Builtin.firstCells, hnc, storeCells]

theorem addr_mid (b o j : Nat) : (⟨b, o, none⟩ : Addr).add j = ⟨b, o + j, none⟩ := by unfold Addr.add; split <;> simp_all
end Go.Proofs.YtkjjjbipmobdaaaGreatDoor

/- Slices of strings: read, made, compared with what they hold. -/
namespace Go.Proofs.YtkjjjbipmobdaaaGreatDoor
open Go.RowKit

/-- A text as a value. -/
def strV (l : List UInt8) : Value := .string ⟨l.toArray⟩
theorem info_str : (Tryz.prog.info? 9).map (fun i => (i.zero, i.size, i.bytes)) = some (some (.string ⟨#[]⟩), 1, 16) := by kernel_rfl
/-- A slice of strings that the call itself made. -/
def Strs (w : World) (B : Nat) (v : Value) (xs : List (List UInt8)) : Prop := w.ownsRow B 9 1 v xs.length (xs.map strV)
/-- A slice of strings that can be read: wherever it lies. -/
def StrSl (w : World) (v : Value) (xs : List (List UInt8)) : Prop :=
  (xs = [] ∧ ∃ a c, v = .slice a 0 c) ∨ ∃ b off c, xs.length ≤ c ∧ v = .slice (some ⟨b, off, none⟩) xs.length c ∧ ∀ j, j < xs.length → w.cell? ⟨b, off + j, none⟩ = some (strV (xs.getD j []))

theorem strSl_own {w : World} {B : Nat} {E : TypeId} {v : Value} {xs : List (List UInt8)} (h : w.ownsRow B E 1 v xs.length (xs.map strV)) : StrSl w v xs := by
  rcases h.2 with ⟨hv, hn⟩ | ⟨g, cap, cur, hv, _, _, hcap, _⟩
  · exact Or.inl ⟨List.length_eq_zero_iff.1 hn, _, _, hv⟩
  · refine Or.inr ⟨g, 0, cap, hcap, hv, fun j hj => ?_⟩
    have := h.cells (g := g) (by rw [hv]; rfl) j (strV (xs.getD j [])) (by simp [hj, List.getD])
    have hadd : (⟨g, 0, none⟩ : Addr).add j = ⟨g, 0 + j, none⟩ := by unfold Addr.add; split <;> simp_all
    rw [hadd] at this; exact this
theorem StrSl.drawn {w w' : World} {v : Value} {xs : List (List UInt8)} (h : StrSl w v xs) (hd : Drawn w w') : StrSl w' v xs := by
  obtain ⟨n, rfl⟩ := hd; exact h
theorem StrSl.below {w w' : World} {v : Value} {xs : List (List UInt8)} {B : Nat} (h : StrSl w v xs) (hb : Below B w w') (hv : SlBelow B v) : StrSl w' v xs := by
  rcases h with h | ⟨b, off, c, hc, rfl, h⟩
  · exact Or.inl h
  · exact Or.inr ⟨b, off, c, hc, rfl, fun j hj => (hb.cell (p := ⟨b, off + j, none⟩) (hv ⟨b, off, none⟩ _ _ rfl (by omega))).trans (h j hj)⟩
theorem StrSl.nil {w : World} {v : Value} {xs : List (List UInt8)} (h : StrSl w v xs) (hx : xs = []) : ∃ a c, v = .slice a 0 c := by
  rcases h with ⟨_, h⟩ | ⟨b, off, c, _, h, _⟩
  · exact h
  · subst hx; exact ⟨_, _, h⟩
theorem StrSl.some {w : World} {v : Value} {xs : List (List UInt8)} (h : StrSl w v xs) (hx : xs ≠ []) :
    ∃ b off c, v = .slice (some ⟨b, off, none⟩) xs.length c ∧ ∀ j, j < xs.length → w.cell? ⟨b, off + j, none⟩ = some (strV (xs.getD j [])) := by
  rcases h with ⟨h, _⟩ | ⟨b, off, c, _, h⟩
  · exact absurd h hx
  · exact ⟨b, off, c, h⟩
theorem StrSl.form {w : World} {v : Value} {xs : List (List UInt8)} (h : StrSl w v xs) : ∃ a c, v = .slice a xs.length c := by
  rcases h with ⟨rfl, a, c, h⟩ | ⟨b, off, c, _, h, _⟩
  · exact ⟨a, c, h⟩
  · exact ⟨_, c, h⟩
theorem strs_mk {w : World} {B : Nat} {v : Value} {xs : List (List UInt8)} {x : List UInt8} (h : w.ownsRow B 9 1 v (xs.length + 1) (xs.map strV ++ [strV x])) : Strs w B v (xs ++ [x]) := by
  unfold Strs; rw [List.length_append, List.map_append]; exact h
theorem strs_app {w : World} {B : Nat} {v : Value} {xs ys : List (List UInt8)} (h : w.ownsRow B 9 1 v (xs.length + ys.length) (xs.map strV ++ ys.map strV)) : Strs w B v (xs ++ ys) := by
  unfold Strs; rw [List.length_append, List.map_append]; exact h
/-- A slice's length, in a slot. -/
def slLen : Value → Nat
  | .slice _ n _ => n
  | _ => 0
theorem slLen_own {w : World} {B : Nat} {E : TypeId} {z : Nat} {v : Value} {n : Nat} {xs : List Value} (h : w.ownsRow B E z v n xs) : slLen v = n := by
  rcases h.2 with ⟨rfl, rfl⟩ | ⟨g, cap, cur, rfl, _⟩ <;> rfl
/-- The form of what the call itself made. -/
theorem own_form {w : World} {B : Nat} {E : TypeId} {z : Nat} {v : Value} {n : Nat} {xs : List Value} (h : w.ownsRow B E z v n xs) : ∃ a c, v = .slice a n c := by
  rcases h.2 with ⟨rfl, rfl⟩ | ⟨g, cap, cur, rfl, _⟩
  · exact ⟨_, _, rfl⟩
  · exact ⟨_, _, rfl⟩
theorem own_cap {w : World} {B : Nat} {E : TypeId} {z : Nat} {v : Value} {n : Nat} {xs : List Value} (h : w.ownsRow B E z v n xs) : ∃ a c, v = .slice a n c ∧ n ≤ c := by
  rcases h.2 with ⟨rfl, rfl⟩ | ⟨g, cap, cur, rfl, _, _, h, _⟩
  · exact ⟨_, _, rfl, Nat.le_refl _⟩
  · exact ⟨_, _, rfl, h⟩
/-- A part of a slice of integers. -/
theorem intSl_sub {k : IntKind} {w : World} {b off c : Nat} {xs : List Int} (h : IntSl k w (.slice (some ⟨b, off, none⟩) xs.length c) xs) (h0 : xs ≠ []) (i m c' : Nat) (hi : i ≤ m) (hm : m ≤ xs.length) :
    IntSl k w (.slice (some ⟨b, off + i, none⟩) (m - i) c') ((xs.drop i).take (m - i)) := by
  have hl : ((xs.drop i).take (m - i)).length = m - i := by simp; omega
  refine Or.inr ⟨b, off + i, c', by rw [hl], fun j hj => ?_⟩
  obtain ⟨b', o', c'', e, hc⟩ := h.some h0
  injection e with e e'' e'
  injection e with e
  injection e with e1 e2
  subst e1 e2
  rw [hl] at hj
  have := hc (i + j) (by omega)
  rw [show off + i + j = off + (i + j) from by omega, this]
  simp [List.getD, hj]
/-- A part of a slice of strings. -/
theorem strSl_sub {w : World} {b off c : Nat} {xs : List (List UInt8)} (h : StrSl w (.slice (some ⟨b, off, none⟩) xs.length c) xs) (h0 : xs ≠ []) (i m c' : Nat) (hi : i ≤ m) (hm : m ≤ xs.length) (hc' : m - i ≤ c') :
    StrSl w (.slice (some ⟨b, off + i, none⟩) (m - i) c') ((xs.drop i).take (m - i)) := by
  have hl : ((xs.drop i).take (m - i)).length = m - i := by simp; omega
  refine Or.inr ⟨b, off + i, c', by rw [hl]; exact hc', by rw [hl], fun j hj => ?_⟩
  obtain ⟨b', o', c'', e, hc⟩ := h.some h0
  injection e with e e'' e'
  injection e with e
  injection e with e1 e2
  subst e1 e2
  rw [hl] at hj
  have := hc (i + j) (by omega)
  rw [show off + i + j = off + (i + j) from by omega, this]
  simp [List.getD, hj]
/-- A slice of strings, just built. -/
theorem strSl_new (w : World) (E : TypeId) (xs : List (List UInt8)) (n : Nat) (hn : n = xs.length) : StrSl (w.alloc (.cells (xs.map strV).toArray E)) (.slice (some ⟨w.heap.size, 0, none⟩) n n) xs := by
  subst hn
  refine Or.inr ⟨_, 0, _, Nat.le_refl _, rfl, fun j hj => ?_⟩
  rw [cell_of_row _ _ _ _ _ _ (heap_alloc_new w _)]
  simp [List.getD, hj]
/-- A slice of integers, just built. -/
theorem intSl_new (w : World) (k : IntKind) (E : TypeId) (xs : List Int) (n : Nat) (hn : n = xs.length) : IntSl k (w.alloc (.cells (xs.map (Value.int k)).toArray E)) (.slice (some ⟨w.heap.size, 0, none⟩) n n) xs := by
  subst hn
  refine Or.inr ⟨_, 0, _, rfl, fun j hj => ?_⟩
  rw [cell_of_row _ _ _ _ _ _ (heap_alloc_new w _)]
  simp [List.getD, hj]
theorem slBelow_new (w : World) (E : TypeId) (vs : Array Value) (n c : Nat) : SlBelow (w.alloc (.cells vs E)).heap.size (.slice (some ⟨w.heap.size, 0, none⟩) n c) := by
  intro a' n' c' e _
  injection e with e
  injection e with e
  subst e
  simp
/-- The capacity has room for what is in it. -/
theorem StrSl.cap {w : World} {a : Option Addr} {n c : Nat} {xs : List (List UInt8)} (h : StrSl w (.slice a n c) xs) : n = xs.length ∧ (xs ≠ [] → xs.length ≤ c) := by
  rcases h with ⟨rfl, a', c', e⟩ | ⟨b, off, c', hc, e, _⟩
  · injection e with _ e _; exact ⟨e, fun h => absurd rfl h⟩
  · injection e with _ e e2; exact ⟨e, fun _ => by omega⟩
theorem ownsRow_mono {w : World} {B B' : Nat} {E : TypeId} {z : Nat} {v : Value} {n : Nat} {xs : List Value} (h : w.ownsRow B E z v n xs) (hb : B' ≤ B) : w.ownsRow B' E z v n xs := by
  rcases h.2 with h2 | ⟨g, cap, cur, h2, h3, h4⟩
  · exact ⟨h.1, Or.inl h2⟩
  · exact ⟨h.1, Or.inr ⟨g, cap, cur, h2, Nat.le_trans hb h3, h4⟩⟩
/-- Bytes as the numbers that a slice of them holds. -/
def nums (l : List UInt8) : List Int := l.map fun c => (c.toNat : Int)
theorem nums_app (a b : List UInt8) : nums (a ++ b) = nums a ++ nums b := by unfold nums; simp
theorem nums_len (a : List UInt8) : (nums a).length = a.length := by unfold nums; simp
theorem Strs.sl {w : World} {B : Nat} {v : Value} {xs : List (List UInt8)} (h : Strs w B v xs) : StrSl w v xs := strSl_own h
theorem Strs.low {w : World} {B : Nat} {v : Value} {xs : List (List UInt8)} (h : Strs w B v xs) : SlBelow w.heap.size v := slBelow_own h
end Go.Proofs.YtkjjjbipmobdaaaGreatDoor

/- An array of texts that a row lists: its cells. -/
namespace Go.Proofs.YtkjjjbipmobdaaaGreatDoor
open Go.ChangeShapes Go.WideShapes Go.ChangeAt Go.RowKit

/-- Texts as a row lists them: an array. -/
def strD {H : Type} (L : List (List UInt8)) : DataW H := .agg (L.map fun s => .lit (.string s))
theorem cells_of_strs {H : Type} {enc : TypeId × Value → H} {P : Program} {w : World} {base : Nat} {sp : Nat → Bool} {held : Bool} {fuel : Nat} {t e : TypeId} {n : Nat} {cs : List Value} {L : List (List UInt8)} {p : List MemPlace}
    (ht : P.underlying t = some (.array n e)) (he : P.underlying e = some .string) (hce : P.cellsOf e = 1) (hct : P.cellsOf t = n)
    (h : DataW.trod enc P w base sp held fuel t cs = some (strD L, p)) : cs = L.map strV := by
  cases fuel with
  | zero => simp [DataW.trod] at h
  | succ fuel =>
    simp only [DataW.trod, ht, hce, hct, Nat.mul_one] at h
    split at h
    · obtain ⟨xs, hm, hx⟩ := Option.map_eq_some_iff.1 h
      have hxs : xs.map (·.1) = L.map fun s => (DataW.lit (.string s) : DataW H) := by
        have := congrArg Prod.fst hx
        simpa [strD] using this
      have hxl : xs.length = n := by simpa using Lib.mapM_length hm
      have hzl : L.length = n := by
        have := congrArg List.length hxs
        simp at this
        omega
      apply List.ext_getElem?
      intro i
      by_cases hi : i < n
      · obtain ⟨b, hb, hf⟩ := Lib.mapM_at hm i i (by simp [hi])
        obtain ⟨s, hc, rfl, _⟩ := DataW.trod_string he hf
        have h1 : cs[i]? = some (.string s) := by
          have := congrArg (·[0]?) hc
          simpa [List.getElem?_take, List.getElem?_drop] using this
        have h2 : (xs.map (·.1))[i]? = some (DataW.lit (.string s.data.toList) : DataW H) := by simp [hb]
        rw [hxs] at h2
        simp only [List.getElem?_map, Option.map_eq_some_iff, DataW.lit.injEq, Lit.string.injEq] at h2
        obtain ⟨z, hz, ez⟩ := h2
        subst ez
        rw [h1, List.getElem?_map, hz]
        rfl
      · rw [List.getElem?_eq_none (by omega), List.getElem?_eq_none (by simp; omega)]
    · cases h
/-- A listed array of texts lies in memory. -/
theorem range_of_laid {P : Program} {l : List (String × DataW Unit)} {W : World} (h : laidMet P l W) {nm : String} {L : List (List UInt8)} (hm : (nm, strD L) ∈ l) {g t e n : Nat} (hg : P.globalNamed nm = some g) (ht : (P.globals[g]?).map (·.type) = some t)
    (hu : P.underlying t = some (.array n e)) (he : P.underlying e = some .string) (hce : P.cellsOf e = 1) (hct : P.cellsOf t = n) : W.rangeAt g 0 (L.map strV) := by
  obtain ⟨cs, fuel, p, hv, hd⟩ := laid_one h hm hg ht
  have hc := cells_of_strs hu he hce hct hd
  intro j v hj
  have := World.var?_cell hg hv j
  rw [Nat.zero_add, this, ← hj, ← hc]
  simp
/-- A listed array of integers is a table. -/
theorem tab_of_laid13 {P : Program} {l : List (String × DataW Unit)} {W : World} (h : laidMet P l W) {nm : String} {k : IntKind} {zs : List Int} (hm : (nm, Lib.tabData k zs) ∈ l) {g t e n : Nat} (hg : P.globalNamed nm = some g) (ht : (P.globals[g]?).map (·.type) = some t)
    (hu : P.underlying t = some (.array n e)) (he : P.underlying e = some (.int k)) (hce : P.cellsOf e = 1) (hct : P.cellsOf t = n) : Lib.TabIs P W nm k zs := by
  obtain ⟨cs, fuel, p, hv, hd⟩ := laid_one h hm hg ht
  unfold Lib.TabIs
  rw [hv, ← Lib.cells_of_tab hu he hce hct hd]
end Go.Proofs.YtkjjjbipmobdaaaGreatDoor
