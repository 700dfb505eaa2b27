/- Small words for all walks: a text as a list of bytes; a world behind draws. -/
import Derived.Test.YtpfcamebkcengaaRows
import Derived.Test.YtpfcamebkcengaaBt
import Derived.WalkKit
import Derived.WalkSpells
import Derived.WalkLawsBesides
import Derived.Lib.Hide
import Derived.BigQuiet
import Derived.Deep.QuietTactic
namespace Go.RowKit
/-- Calls that each leave what was there alone, one behind the other. -/
theorem Below.next {B : Nat} {w w1 w2 : World} (h1 : Below B w w1) (h2 : Below w1.heap.size w1 w2) (hB : B ≤ w1.heap.size) : Below B w w2 := h1.trans (h2.mono hB)
theorem Below.andThen {w w1 w2 : World} (h1 : Below w.heap.size w w1) (h2 : Below w1.heap.size w1 w2) : Below w.heap.size w w2 := h1.trans (h2.mono h1.size)
end Go.RowKit
namespace Go.Proofs.Ytpfcamebkcengaa
open Go.RowKit

@[go_sem] theorem bt_get (l : List UInt8) (i : Nat) (h : i < (ByteArray.mk l.toArray).size) : (((ByteArray.mk l.toArray)[i]'h).toNat : Int) = bt l i := by
  unfold bt
  have h' : i < l.length := by simpa [ByteArray.size] using h
  simp [List.getD, List.getElem?_eq_getElem h']; rfl

@[go_sem] theorem ba_extract (l : List UInt8) (a b : Nat) : (ByteArray.mk l.toArray).extract a b = ⟨((l.take b).drop a).toArray⟩ := by
  apply ByteArray.ext
  simp [List.extract_eq_take_drop, List.drop_take]

@[go_sem] theorem ba_append (a b : List UInt8) : ByteArray.mk a.toArray ++ ByteArray.mk b.toArray = ⟨(a ++ b).toArray⟩ := by
  apply ByteArray.ext
  simp

/-- The world behind a call that only reads: some draws on. -/
def Drawn (w w' : World) : Prop := ∃ n, w' = w.drewN n
theorem Drawn.refl (w : World) : Drawn w w := ⟨0, rfl⟩

theorem drawn_drew (w : World) : Drawn w w.drew := ⟨1, rfl⟩
theorem drawn_drewN (w : World) (n : Nat) : Drawn w (w.drewN n) := ⟨n, rfl⟩
theorem Drawn.trans {a b c : World} (h : Drawn a b) (k : Drawn b c) : Drawn a c := by obtain ⟨n, rfl⟩ := h; obtain ⟨m, rfl⟩ := k; exact ⟨n + m, by simp⟩
theorem Drawn.below {w w' : World} (h : Drawn w w') (B : Nat) : Below B w w' := by obtain ⟨n, rfl⟩ := h; exact ⟨rfl, rfl, rfl, Nat.le_refl _, fun _ _ => rfl⟩
theorem Drawn.grown {w w' : World} (h : Drawn w w') : w.grownBy w' none := by obtain ⟨n, rfl⟩ := h; exact ⟨rfl, rfl, rfl, Nat.le_refl _, fun _ _ _ => rfl⟩

/-- A call that only computes, met within a region that draws. -/
theorem Calls.drawn_at {P : Program} {f : FuncId} {args : Array Value} {w : World} {n : Nat} {v : Value} (h : Calls P f args (w.drewN n) fun e w' => e = .returned v ∧ w.drewN n = w') :
    Calls P f args (w.drewN n) fun e w' => e = .returned v ∧ ∃ m, w' = w.drewN m :=
  h.mono fun _ _ hh => ⟨hh.1, n, hh.2.symm⟩
theorem ownsRow_drawn {w w' : World} {B : Nat} {E : TypeId} {z : Nat} {v : Value} {n : Nat} {xs : List Value} (h : w.ownsRow B E z v n xs) (hd : Drawn w w') : w'.ownsRow B E z v n xs :=
  h.kept hd.grown (by cases v.ownBlock <;> simp)
/-- A string's length, in a slot. -/
def strLen : Value → Nat
  | .string b => b.size
  | _ => 0
theorem strLen_mk (l : List UInt8) : strLen (.string ⟨l.toArray⟩) = l.length := by simp [strLen, ByteArray.size]

/-- A slice of integers that can be read: wherever it lies. -/
def IntSl (k : IntKind) (w : World) (v : Value) (xs : List Int) : Prop :=
  (xs = [] ∧ ∃ a c, v = .slice a 0 c) ∨ ∃ b off c, v = .slice (some ⟨b, off, none⟩) xs.length c ∧ ∀ j, j < xs.length → w.cell? ⟨b, off + j, none⟩ = some (.int k (xs.getD j 0))

theorem intSl_own {k : IntKind} {w : World} {B : Nat} {E : TypeId} {v : Value} {xs : List Int} (h : w.ownsRow B E 1 v xs.length (xs.map (Value.int k))) : IntSl k w v xs := by
  rcases h.2 with ⟨hv, hn⟩ | ⟨g, cap, cur, hv, _⟩
  · exact Or.inl ⟨List.length_eq_zero_iff.1 hn, _, _, hv⟩
  · refine Or.inr ⟨g, 0, cap, hv, fun j hj => ?_⟩
    have := h.cells (g := g) (by rw [hv]; rfl) j (.int k (xs.getD j 0)) (by simp [hj, List.getD])
    have hadd : (⟨g, 0, none⟩ : Addr).add j = ⟨g, 0 + j, none⟩ := by unfold Addr.add; split <;> simp_all
    rw [hadd] at this; exact this

theorem IntSl.drawn {k : IntKind} {w w' : World} {v : Value} {xs : List Int} (h : IntSl k w v xs) (hd : Drawn w w') : IntSl k w' v xs := by
  obtain ⟨n, rfl⟩ := hd; exact h

theorem IntSl.nil {k : IntKind} {w : World} {v : Value} {xs : List Int} (h : IntSl k w v xs) (hx : xs = []) : ∃ a c, v = .slice a 0 c := by
  rcases h with ⟨_, h⟩ | ⟨b, off, c, h, _⟩
  · exact h
  · subst hx; exact ⟨_, _, h⟩
theorem IntSl.some {k : IntKind} {w : World} {v : Value} {xs : List Int} (h : IntSl k w v xs) (hx : xs ≠ []) :
    ∃ b off c, v = .slice (some ⟨b, off, none⟩) xs.length c ∧ ∀ j, j < xs.length → w.cell? ⟨b, off + j, none⟩ = some (.int k (xs.getD j 0)) := by
  rcases h with ⟨h, _⟩ | h
  · exact absurd h hx
  · exact h

theorem IntSl.form {k : IntKind} {w : World} {v : Value} {xs : List Int} (h : IntSl k w v xs) : ∃ a c, v = .slice a xs.length c := by
  rcases h with ⟨rfl, a, c, h⟩ | ⟨b, off, c, h, _⟩
  · exact ⟨a, c, h⟩
  · exact ⟨_, c, h⟩

/-- A slice that can be read lies among the blocks below B. -/
def SlBelow (B : Nat) (v : Value) : Prop := ∀ a n c, v = .slice (some a) n c → 0 < n → a.block < B
theorem SlBelow.mono {B B' : Nat} {v : Value} (h : SlBelow B v) (hb : B ≤ B') : SlBelow B' v := fun a n c e h0 => Nat.lt_of_lt_of_le (h a n c e h0) hb
theorem IntSl.below {k : IntKind} {w w' : World} {v : Value} {xs : List Int} {B : Nat} (h : IntSl k w v xs) (hb : Below B w w') (hv : SlBelow B v) : IntSl k w' v xs := by
  rcases h with h | ⟨b, off, c, rfl, h⟩
  · exact Or.inl h
  · exact Or.inr ⟨b, off, c, rfl, fun j hj => (hb.cell (p := ⟨b, off + j, none⟩) (hv ⟨b, off, none⟩ _ _ rfl (by omega))).trans (h j hj)⟩
theorem ret_bool {a b : Bool} (h : a = b) : Ending.returned (.bool a) = .returned (.bool b) := by rw [h]
theorem ret_int {k : IntKind} {a b : Int} (h : a = b) : Ending.returned (.int k a) = .returned (.int k b) := by rw [h]
theorem ret_i32 {a b : Int} (h : a = b) : Ending.returned (.int .i32 a) = .returned (.int .i32 b) := by rw [h]
theorem ret_int2 {k j : IntKind} {a b c d : Int} (h : a = c) (h' : b = d) : Ending.returned (.tuple #[.int k a, .int j b]) = .returned (.tuple #[.int k c, .int j d]) := by rw [h, h']
theorem str_eq {a b : List UInt8} (h : a = b) : Value.string ⟨a.toArray⟩ = Value.string ⟨b.toArray⟩ := by rw [h]
theorem ret_str {a b : List UInt8} (h : a = b) : Ending.returned (.string ⟨a.toArray⟩) = .returned (.string ⟨b.toArray⟩) := by rw [h]
theorem slBelow_own {w : World} {B : Nat} {E : TypeId} {z : Nat} {v : Value} {n : Nat} {xs : List Value} (h : w.ownsRow B E z v n xs) : SlBelow w.heap.size v := by
  intro a n' c e _
  subst e
  exact (h.lt a.block rfl).2
/-- What a law's walk comes to: true, and nothing old has turned. -/
def LawPost (w : World) (e : Ending) (w' : World) : Prop := e = .returned (.bool true) ∧ Below w.heap.size w w'
theorem vi64 {a b : Int} (h : a = b) : Value.int .i64 a = .int .i64 b := by rw [h]
theorem ret_ib {a b : Int} {p q : Bool} (h : a = b) (h2 : p = q) : Ending.returned (.tuple #[.int .i64 a, .bool p]) = .returned (.tuple #[.int .i64 b, .bool q]) := by rw [h, h2]
end Go.Proofs.Ytpfcamebkcengaa
