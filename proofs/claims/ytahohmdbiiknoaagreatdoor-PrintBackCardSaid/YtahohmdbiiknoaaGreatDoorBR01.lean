/- A byte of a list, as a number: plain. -/
import Derived.Test.YtahohmdbiiknoaaGreatDoorRows
import Derived.WalkKit
import Derived.WalkSpells
import Derived.WalkLawsBesides
import Derived.Lib.Hide
import Derived.BigQuiet
import Derived.Deep.QuietTactic
import Derived.Laws.AppendOwnNone
import Derived.BigFrame
namespace Go.Proofs.YtahohmdbiiknoaaGreatDoor

/-- The i-th byte of a list, as a number. -/
def bt (l : List UInt8) (i : Nat) : Int := ((l.getD i 0).toNat : Int)
theorem bt_lt (l : List UInt8) (i : Nat) : 0 ≤ bt l i ∧ bt l i ≤ 255 := by
  unfold bt; have := (l.getD i 0).toNat_lt; omega

end Go.Proofs.YtahohmdbiiknoaaGreatDoor

/- Small words for all walks: a text as a list of bytes; a world behind draws. -/
namespace Go.RowKit
/-- Calls that each leave what was there alone, one behind the other. -/
theorem Below.next {B : Nat} {w w1 w2 : World} (h1 : Below B w w1) (h2 : Below w1.heap.size w1 w2) (hB : B ≤ w1.heap.size) : Below B w w2 := h1.trans (h2.mono hB)
theorem Below.andThen {w w1 w2 : World} (h1 : Below w.heap.size w w1) (h2 : Below w1.heap.size w1 w2) : Below w.heap.size w w2 := h1.trans (h2.mono h1.size)
end Go.RowKit
namespace Go.Proofs.YtahohmdbiiknoaaGreatDoor
open Go.RowKit

@[go_sem] theorem bt_get (l : List UInt8) (i : Nat) (h : i < (ByteArray.mk l.toArray).size) : (((ByteArray.mk l.toArray)[i]'h).toNat : Int) = bt l i := by
  unfold bt
  have h' : i < l.length := by simpa [ByteArray.size] using h
  simp [List.getD, List.getElem?_eq_getElem h']; rfl

@[go_sem] theorem ba_extract (l : List UInt8) (a b : Nat) : (ByteArray.mk l.toArray).extract a b = ⟨((l.take b).drop a).toArray⟩ := by
  apply ByteArray.ext
  simp [List.extract_eq_take_drop, List.drop_take]

@[go_sem] theorem ba_append (a b : List UInt8) : ByteArray.mk a.toArray ++ ByteArray.mk b.toArray = ⟨(a ++ b).toArray⟩ := by
  apply ByteArray.ext
  simp

/-- The world behind a call that only reads: some draws on. -/
def Drawn (w w' : World) : Prop := ∃ n, w' = w.drewN n
theorem Drawn.refl (w : World) : Drawn w w := ⟨0, rfl⟩

theorem drawn_drew (w : World) : Drawn w w.drew := ⟨1, rfl⟩
theorem drawn_drewN (w : World) (n : Nat) : Drawn w (w.drewN n) := ⟨n, rfl⟩
theorem Drawn.trans {a b c : World} (h : Drawn a b) (k : Drawn b c) : Drawn a c := by obtain ⟨n, rfl⟩ := h; obtain ⟨m, rfl⟩ := k; exact ⟨n + m, by simp⟩
theorem Drawn.below {w w' : World} (h : Drawn w w') (B : Nat) : Below B w w' := by obtain ⟨n, rfl⟩ := h; exact ⟨rfl, rfl, rfl, Nat.le_refl _, fun _ _ => rfl⟩
theorem Drawn.grown {w w' : World} (h : Drawn w w') : w.grownBy w' none := by obtain ⟨n, rfl⟩ := h; exact ⟨rfl, rfl, rfl, Nat.le_refl _, fun _ _ _ => rfl⟩

/-- A call that only computes, met within a region that draws. -/
theorem Calls.drawn_at {P : Program} {f : FuncId} {args : Array Value} {w : World} {n : Nat} {v : Value} (h : Calls P f args (w.drewN n) fun e w' => e = .returned v ∧ w.drewN n = w') :
    Calls P f args (w.drewN n) fun e w' => e = .returned v ∧ ∃ m, w' = w.drewN m :=
  h.mono fun _ _ hh => ⟨hh.1, n, hh.2.symm⟩
theorem ownsRow_drawn {w w' : World} {B : Nat} {E : TypeId} {z : Nat} {v : Value} {n : Nat} {xs : List Value} (h : w.ownsRow B E z v n xs) (hd : Drawn w w') : w'.ownsRow B E z v n xs :=
  h.kept hd.grown (by cases v.ownBlock <;> simp)
/-- A string's length, in a slot. -/
def strLen : Value → Nat
  | .string b => b.size
  | _ => 0
theorem strLen_mk (l : List UInt8) : strLen (.string ⟨l.toArray⟩) = l.length := by simp [strLen, ByteArray.size]

/-- A slice of integers that can be read: wherever it lies. -/
def IntSl (k : IntKind) (w : World) (v : Value) (xs : List Int) : Prop :=
  (xs = [] ∧ ∃ a c, v = .slice a 0 c) ∨ ∃ b off c, v = .slice (some ⟨b, off, none⟩) xs.length c ∧ ∀ j, j < xs.length → w.cell? ⟨b, off + j, none⟩ = some (.int k (xs.getD j 0))

theorem intSl_own {k : IntKind} {w : World} {B : Nat} {E : TypeId} {v : Value} {xs : List Int} (h : w.ownsRow B E 1 v xs.length (xs.map (Value.int k))) : IntSl k w v xs := by
  rcases h.2 with ⟨hv, hn⟩ | ⟨g, cap, cur, hv, _⟩
  · exact Or.inl ⟨List.length_eq_zero_iff.1 hn, _, _, hv⟩
  · refine Or.inr ⟨g, 0, cap, hv, fun j hj => ?_⟩
    have := h.cells (g := g) (by rw [hv]; rfl) j (.int k (xs.getD j 0)) (by simp [hj, List.getD])
    have hadd : (⟨g, 0, none⟩ : Addr).add j = ⟨g, 0 + j, none⟩ := by unfold Addr.add; split <;> simp_all
    rw [hadd] at this; exact this

theorem IntSl.drawn {k : IntKind} {w w' : World} {v : Value} {xs : List Int} (h : IntSl k w v xs) (hd : Drawn w w') : IntSl k w' v xs := by
  obtain ⟨n, rfl⟩ := hd; exact h

theorem IntSl.nil {k : IntKind} {w : World} {v : Value} {xs : List Int} (h : IntSl k w v xs) (hx : xs = []) : ∃ a c, v = .slice a 0 c := by
  rcases h with ⟨_, h⟩ | ⟨b, off, c, h, _⟩
  · exact h
  · subst hx; exact ⟨_, _, h⟩
theorem IntSl.some {k : IntKind} {w : World} {v : Value} {xs : List Int} (h : IntSl k w v xs) (hx : xs ≠ []) :
    ∃ b off c, v = .slice (some ⟨b, off, none⟩) xs.length c ∧ ∀ j, j < xs.length → w.cell? ⟨b, off + j, none⟩ = some (.int k (xs.getD j 0)) := by
  rcases h with ⟨h, _⟩ | h
  · exact absurd h hx
  · exact h

theorem IntSl.form {k : IntKind} {w : World} {v : Value} {xs : List Int} (h : IntSl k w v xs) : ∃ a c, v = .slice a xs.length c := by
  rcases h with ⟨rfl, a, c, h⟩ | ⟨b, off, c, h, _⟩
  · exact ⟨a, c, h⟩
  · exact ⟨_, c, h⟩

/-- A slice that can be read lies among the blocks below B. -/
def SlBelow (B : Nat) (v : Value) : Prop := ∀ a n c, v = .slice (some a) n c → 0 < n → a.block < B
theorem SlBelow.mono {B B' : Nat} {v : Value} (h : SlBelow B v) (hb : B ≤ B') : SlBelow B' v := fun a n c e h0 => Nat.lt_of_lt_of_le (h a n c e h0) hb
theorem IntSl.below {k : IntKind} {w w' : World} {v : Value} {xs : List Int} {B : Nat} (h : IntSl k w v xs) (hb : Below B w w') (hv : SlBelow B v) : IntSl k w' v xs := by
  rcases h with h | ⟨b, off, c, rfl, h⟩
  · exact Or.inl h
  · exact Or.inr ⟨b, off, c, rfl, fun j hj => (hb.cell (p := ⟨b, off + j, none⟩) (hv ⟨b, off, none⟩ _ _ rfl (by omega))).trans (h j hj)⟩
theorem ret_bool {a b : Bool} (h : a = b) : Ending.returned (.bool a) = .returned (.bool b) := by rw [h]
theorem ret_int {k : IntKind} {a b : Int} (h : a = b) : Ending.returned (.int k a) = .returned (.int k b) := by rw [h]
theorem ret_i32 {a b : Int} (h : a = b) : Ending.returned (.int .i32 a) = .returned (.int .i32 b) := by rw [h]
theorem ret_int2 {k j : IntKind} {a b c d : Int} (h : a = c) (h' : b = d) : Ending.returned (.tuple #[.int k a, .int j b]) = .returned (.tuple #[.int k c, .int j d]) := by rw [h, h']
theorem str_eq {a b : List UInt8} (h : a = b) : Value.string ⟨a.toArray⟩ = Value.string ⟨b.toArray⟩ := by rw [h]
theorem ret_str {a b : List UInt8} (h : a = b) : Ending.returned (.string ⟨a.toArray⟩) = .returned (.string ⟨b.toArray⟩) := by rw [h]
theorem slBelow_own {w : World} {B : Nat} {E : TypeId} {z : Nat} {v : Value} {n : Nat} {xs : List Value} (h : w.ownsRow B E z v n xs) : SlBelow w.heap.size v := by
  intro a n' c e _
  subst e
  exact (h.lt a.block rfl).2
/-- What a law's walk comes to: true, and nothing old has turned. -/
def LawPost (w : World) (e : Ending) (w' : World) : Prop := e = .returned (.bool true) ∧ Below w.heap.size w w'
theorem vi64 {a b : Int} (h : a = b) : Value.int .i64 a = .int .i64 b := by rw [h]
theorem ret_ib {a b : Int} {p q : Bool} (h : a = b) (h2 : p = q) : Ending.returned (.tuple #[.int .i64 a, .bool p]) = .returned (.tuple #[.int .i64 b, .bool q]) := by rw [h, h2]
end Go.Proofs.YtahohmdbiiknoaaGreatDoor

/- Append of one element to a slice that the call itself made: one law for the walks. -/
namespace Go.Proofs.YtahohmdbiiknoaaGreatDoor
open Go.RowKit

theorem grownBy_trans {a b c : World} {row : Option Nat} (h : a.grownBy b none) (k : b.grownBy c row) : a.grownBy c row :=
  ⟨k.os.trans h.os, k.tape.trans h.tape, k.output.trans h.output, Nat.le_trans h.size k.size, fun i hi hne => (k.block i (Nat.lt_of_lt_of_le hi h.size) hne).trans (h.block i hi (by simp))⟩

theorem wpList_append1 {P : Program} {ops : Array Oper} {rest : List Oper} {o : Oper} {a : Act} {Q : Exit → Act → World → Prop} {w : World} (hw : Region.wanted o (yielded ops a.tmps) = true) (s x : Operand) (t e : TypeId)
    (ho : o.op = .call { callee := .builtin .append, args := #[s, x], argTypes := #[t, t] }) (ht : P.underlying t = some (.slice e))
    (z : Value) (bytes : Nat) (hi : (P.info? e).map (fun i => (i.zero, i.size, i.bytes)) = some (some z, 1, bytes)) (hzs : z.cells.size = 1) (hby : 0 < bytes)
    (B : Nat) (v : Value) (n : Nat) (xs : List Value) (u : Value) (hown : w.ownsRow B e 1 v n xs) (hs : a.eval s = v) (hx : a.eval x = .slice (some ⟨w.heap.size, 0, none⟩) 1 1) (hu : u.oneCell' = true)
    (hn : (n + 1) * bytes ≤ 140737488355328) (hB : B ≤ w.heap.size)
    (h : ∀ v' w', w'.ownsRow B e 1 v' (n + 1) (xs ++ [u]) → Below B w w' → w.grownBy w' v.ownBlock → wpList P ops Q rest (a.put o.dst v') w') : wpList P ops Q (o :: rest) a (w.alloc (.cells #[u] e)) := by
  obtain ⟨i0, hi, hz0, hz1, hz2⟩ := info_parts hi
  have hn1 : n + 1 ≤ (n + 1) * bytes := Nat.le_mul_of_pos_right _ hby
  refine BigFrame.wpList_want hw fun K hK => wp_append_own _ s x t ho B e i0 z 1 bytes ht hi hz0 hz1 hz2 hzs (by decide) v n xs hs (hown.alloc _) ⟨w.heap.size, 0, none⟩ 1 1 [u] hx rfl (cell_one_new _ _ _) ?_ ?_ hn ?_ ?_
  · intro y hy; simp at hy; subst hy; exact hu
  · unfold maxLen; omega
  · simp; omega
  · intro v' w' h1 h2 _
    have hg := grownBy_trans (World.grownBy_alloc w (.cells #[u] e) none) h2
    exact hK _ _ (h v' w' h1 ((Below.refl B w).grown hg hB fun k hk => (hown.lt k hk).1) hg)

/-- The same where the source is a slice that the call itself made (nil, too). -/
theorem wpList_append_row {P : Program} {ops : Array Oper} {rest : List Oper} {o : Oper} {a : Act} {Q : Exit → Act → World → Prop} {w : World} (hw : Region.wanted o (yielded ops a.tmps) = true) (s x : Operand) (t e : TypeId)
    (ho : o.op = .call { callee := .builtin .append, args := #[s, x], argTypes := #[t, t] }) (ht : P.underlying t = some (.slice e))
    (z : Value) (bytes : Nat) (hi : (P.info? e).map (fun i => (i.zero, i.size, i.bytes)) = some (some z, 1, bytes)) (hzs : z.cells.size = 1) (hby : 0 < bytes)
    (B : Nat) (v : Value) (n : Nat) (xs : List Value) (hown : w.ownsRow B e 1 v n xs) (B2 : Nat) (v2 : Value) (m : Nat) (ys : List Value) (hown2 : w.ownsRow B2 e 1 v2 m ys) (hs : a.eval s = v) (hx : a.eval x = v2) (hu : ∀ u ∈ ys, u.oneCell' = true)
    (hn : (n + m) * bytes ≤ 140737488355328) (hB : B ≤ w.heap.size)
    (h : ∀ v' w', w'.ownsRow B e 1 v' (n + m) (xs ++ ys) → Below B w w' → w.grownBy w' v.ownBlock → wpList P ops Q rest (a.put o.dst v') w') : wpList P ops Q (o :: rest) a w := by
  obtain ⟨i0, hi, hz0, hz1, hz2⟩ := info_parts hi
  rcases id hown2.2 with ⟨hv2, hm⟩ | ⟨g, cap, cur, hv2, hrest⟩
  · subst hm hv2
    have hys : ys = [] := List.eq_nil_of_length_eq_zero (by simpa using hown2.1)
    subst hys
    refine BigFrame.wpList_want hw fun K hK => ?_
    have hrun := run_append_owned_none (P := P) (w := w) B t o.type e i0 1 ht hi v n xs hown
    have hK' := hK _ _ (h v w (by simpa using hown) (Below.refl _ _) ⟨rfl, rfl, rfl, Nat.le_refl _, fun _ _ _ => rfl⟩)
    unfold Oper.wp
    simp [execOp, ho, resolve, invoke, builtin, hs, hx, hrun, Result.andThen]
    exact hK'
  · have hn1 : n + m ≤ (n + m) * bytes := Nat.le_mul_of_pos_right _ hby
    subst hv2
    refine BigFrame.wpList_want hw fun K hK => wp_append_own _ s x t ho B e i0 z 1 bytes ht hi hz0 hz1 hz2 hzs (by decide) v n xs hs hown ⟨g, 0, none⟩ m cap ys hx hown2.1 (hown2.cells rfl) hu (by unfold maxLen; omega) hn hB ?_
    intro v' w' h1 h2 _
    exact hK _ _ (h v' w' h1 ((Below.refl B w).grown h2 hB fun k hk => (hown.lt k hk).1) h2)

/-- What is owned stays so where nothing that was there has turned. -/
theorem ownsRow_below {w w' : World} {B : Nat} {E : TypeId} {z : Nat} {v : Value} {n : Nat} {xs : List Value} (h : w.ownsRow B E z v n xs) (hb : Below w.heap.size w w') : w'.ownsRow B E z v n xs :=
  h.kept (row := none) ⟨hb.os, hb.tape, hb.output, hb.size, fun k hk _ => hb.block k hk⟩ (by cases v.ownBlock <;> simp)
theorem run_append_none {P : Program} {w : World} (base : Nat) (t ty e : TypeId) (i : TypeInfo) (size : Nat) (ht : P.underlying t = some (.slice e)) (hi : P.info? e = some i)
    (v : Value) (n c : Nat) (xs : List Value) (hown : w.ownsRow base e size v n xs) : (Builtin.append_ #[t, t] ty #[v, .slice none 0 c]).run P w = .ok v w := by
  rcases hown.2 with ⟨rfl, rfl⟩ | ⟨g, cap, cur, rfl, _, _, hnc, _⟩
  · simp [Builtin.append_, run_underlying ht, sizeOf, typeInfo, hi, Builtin.lenOf, Builtin.firstCells]
  · simp [Builtin.append_, run_underlying ht, sizeOf, typeInfo, hi, Builtin.lenOf, Builtin.firstCells, hnc, storeCells]

theorem addr_mid (b o j : Nat) : (⟨b, o, none⟩ : Addr).add j = ⟨b, o + j, none⟩ := by unfold Addr.add; split <;> simp_all
end Go.Proofs.YtahohmdbiiknoaaGreatDoor

/- Slices of strings: read, made, compared with what they hold. -/
namespace Go.Proofs.YtahohmdbiiknoaaGreatDoor
open Go.RowKit

/-- A text as a value. -/
def strV (l : List UInt8) : Value := .string ⟨l.toArray⟩
theorem info_str : (Tryz.prog.info? 9).map (fun i => (i.zero, i.size, i.bytes)) = some (some (.string ⟨#[]⟩), 1, 16) := by kernel_rfl
/-- A slice of strings that the call itself made. -/
def Strs (w : World) (B : Nat) (v : Value) (xs : List (List UInt8)) : Prop := w.ownsRow B 9 1 v xs.length (xs.map strV)
/-- A slice of strings that can be read: wherever it lies. -/
def StrSl (w : World) (v : Value) (xs : List (List UInt8)) : Prop :=
  (xs = [] ∧ ∃ a c, v = .slice a 0 c) ∨ ∃ b off c, xs.length ≤ c ∧ v = .slice (some ⟨b, off, none⟩) xs.length c ∧ ∀ j, j < xs.length → w.cell? ⟨b, off + j, none⟩ = some (strV (xs.getD j []))

theorem strSl_own {w : World} {B : Nat} {E : TypeId} {v : Value} {xs : List (List UInt8)} (h : w.ownsRow B E 1 v xs.length (xs.map strV)) : StrSl w v xs := by
  rcases h.2 with ⟨hv, hn⟩ | ⟨g, cap, cur, hv, _, _, hcap, _⟩
  · exact Or.inl ⟨List.length_eq_zero_iff.1 hn, _, _, hv⟩
  · refine Or.inr ⟨g, 0, cap, hcap, hv, fun j hj => ?_⟩
    have := h.cells (g := g) (by rw [hv]; rfl) j (strV (xs.getD j [])) (by simp [hj, List.getD])
    have hadd : (⟨g, 0, none⟩ : Addr).add j = ⟨g, 0 + j, none⟩ := by unfold Addr.add; split <;> simp_all
    rw [hadd] at this; exact this
theorem StrSl.drawn {w w' : World} {v : Value} {xs : List (List UInt8)} (h : StrSl w v xs) (hd : Drawn w w') : StrSl w' v xs := by
  obtain ⟨n, rfl⟩ := hd; exact h
theorem StrSl.below {w w' : World} {v : Value} {xs : List (List UInt8)} {B : Nat} (h : StrSl w v xs) (hb : Below B w w') (hv : SlBelow B v) : StrSl w' v xs := by
  rcases h with h | ⟨b, off, c, hc, rfl, h⟩
  · exact Or.inl h
  · exact Or.inr ⟨b, off, c, hc, rfl, fun j hj => (hb.cell (p := ⟨b, off + j, none⟩) (hv ⟨b, off, none⟩ _ _ rfl (by omega))).trans (h j hj)⟩
theorem StrSl.nil {w : World} {v : Value} {xs : List (List UInt8)} (h : StrSl w v xs) (hx : xs = []) : ∃ a c, v = .slice a 0 c := by
  rcases h with ⟨_, h⟩ | ⟨b, off, c, _, h, _⟩
  · exact h
  · subst hx; exact ⟨_, _, h⟩
theorem StrSl.some {w : World} {v : Value} {xs : List (List UInt8)} (h : StrSl w v xs) (hx : xs ≠ []) :
    ∃ b off c, v = .slice (some ⟨b, off, none⟩) xs.length c ∧ ∀ j, j < xs.length → w.cell? ⟨b, off + j, none⟩ = some (strV (xs.getD j [])) := by
  rcases h with ⟨h, _⟩ | ⟨b, off, c, _, h⟩
  · exact absurd h hx
  · exact ⟨b, off, c, h⟩
theorem StrSl.form {w : World} {v : Value} {xs : List (List UInt8)} (h : StrSl w v xs) : ∃ a c, v = .slice a xs.length c := by
  rcases h with ⟨rfl, a, c, h⟩ | ⟨b, off, c, _, h, _⟩
  · exact ⟨a, c, h⟩
  · exact ⟨_, c, h⟩
theorem strs_mk {w : World} {B : Nat} {v : Value} {xs : List (List UInt8)} {x : List UInt8} (h : w.ownsRow B 9 1 v (xs.length + 1) (xs.map strV ++ [strV x])) : Strs w B v (xs ++ [x]) := by
  unfold Strs; rw [List.length_append, List.map_append]; exact h
theorem strs_app {w : World} {B : Nat} {v : Value} {xs ys : List (List UInt8)} (h : w.ownsRow B 9 1 v (xs.length + ys.length) (xs.map strV ++ ys.map strV)) : Strs w B v (xs ++ ys) := by
  unfold Strs; rw [List.length_append, List.map_append]; exact h
/-- A slice's length, in a slot. -/
def slLen : Value → Nat
  | .slice _ n _ => n
  | _ => 0
theorem slLen_own {w : World} {B : Nat} {E : TypeId} {z : Nat} {v : Value} {n : Nat} {xs : List Value} (h : w.ownsRow B E z v n xs) : slLen v = n := by
  rcases h.2 with ⟨rfl, rfl⟩ | ⟨g, cap, cur, rfl, _⟩ <;> rfl
/-- The form of what the call itself made. -/
theorem own_form {w : World} {B : Nat} {E : TypeId} {z : Nat} {v : Value} {n : Nat} {xs : List Value} (h : w.ownsRow B E z v n xs) : ∃ a c, v = .slice a n c := by
  rcases h.2 with ⟨rfl, rfl⟩ | ⟨g, cap, cur, rfl, _⟩
  · exact ⟨_, _, rfl⟩
  · exact ⟨_, _, rfl⟩
theorem own_cap {w : World} {B : Nat} {E : TypeId} {z : Nat} {v : Value} {n : Nat} {xs : List Value} (h : w.ownsRow B E z v n xs) : ∃ a c, v = .slice a n c ∧ n ≤ c := by
  rcases h.2 with ⟨rfl, rfl⟩ | ⟨g, cap, cur, rfl, _, _, h, _⟩
  · exact ⟨_, _, rfl, Nat.le_refl _⟩
  · exact ⟨_, _, rfl, h⟩
/-- A part of a slice of integers. -/
theorem intSl_sub {k : IntKind} {w : World} {b off c : Nat} {xs : List Int} (h : IntSl k w (.slice (some ⟨b, off, none⟩) xs.length c) xs) (h0 : xs ≠ []) (i m c' : Nat) (hi : i ≤ m) (hm : m ≤ xs.length) :
    IntSl k w (.slice (some ⟨b, off + i, none⟩) (m - i) c') ((xs.drop i).take (m - i)) := by
  have hl : ((xs.drop i).take (m - i)).length = m - i := by simp; omega
  refine Or.inr ⟨b, off + i, c', by rw [hl], fun j hj => ?_⟩
  obtain ⟨b', o', c'', e, hc⟩ := h.some h0
  injection e with e e'' e'
  injection e with e
  injection e with e1 e2
  subst e1 e2
  rw [hl] at hj
  have := hc (i + j) (by omega)
  rw [show off + i + j = off + (i + j) from by omega, this]
  simp [List.getD, hj]
/-- A part of a slice of strings. -/
theorem strSl_sub {w : World} {b off c : Nat} {xs : List (List UInt8)} (h : StrSl w (.slice (some ⟨b, off, none⟩) xs.length c) xs) (h0 : xs ≠ []) (i m c' : Nat) (hi : i ≤ m) (hm : m ≤ xs.length) (hc' : m - i ≤ c') :
    StrSl w (.slice (some ⟨b, off + i, none⟩) (m - i) c') ((xs.drop i).take (m - i)) := by
  have hl : ((xs.drop i).take (m - i)).length = m - i := by simp; omega
  refine Or.inr ⟨b, off + i, c', by rw [hl]; exact hc', by rw [hl], fun j hj => ?_⟩
  obtain ⟨b', o', c'', e, hc⟩ := h.some h0
  injection e with e e'' e'
  injection e with e
  injection e with e1 e2
  subst e1 e2
  rw [hl] at hj
  have := hc (i + j) (by omega)
  rw [show off + i + j = off + (i + j) from by omega, this]
  simp [List.getD, hj]
/-- A slice of strings, just built. -/
theorem strSl_new (w : World) (E : TypeId) (xs : List (List UInt8)) (n : Nat) (hn : n = xs.length) : StrSl (w.alloc (.cells (xs.map strV).toArray E)) (.slice (some ⟨w.heap.size, 0, none⟩) n n) xs := by
  subst hn
  refine Or.inr ⟨_, 0, _, Nat.le_refl _, rfl, fun j hj => ?_⟩
  rw [cell_of_row _ _ _ _ _ _ (heap_alloc_new w _)]
  simp [List.getD, hj]
/-- A slice of integers, just built. -/
theorem intSl_new (w : World) (k : IntKind) (E : TypeId) (xs : List Int) (n : Nat) (hn : n = xs.length) : IntSl k (w.alloc (.cells (xs.map (Value.int k)).toArray E)) (.slice (some ⟨w.heap.size, 0, none⟩) n n) xs := by
  subst hn
  refine Or.inr ⟨_, 0, _, rfl, fun j hj => ?_⟩
  rw [cell_of_row _ _ _ _ _ _ (heap_alloc_new w _)]
  simp [List.getD, hj]
theorem slBelow_new (w : World) (E : TypeId) (vs : Array Value) (n c : Nat) : SlBelow (w.alloc (.cells vs E)).heap.size (.slice (some ⟨w.heap.size, 0, none⟩) n c) := by
  intro a' n' c' e _
  injection e with e
  injection e with e
  subst e
  simp
/-- The capacity has room for what is in it. -/
theorem StrSl.cap {w : World} {a : Option Addr} {n c : Nat} {xs : List (List UInt8)} (h : StrSl w (.slice a n c) xs) : n = xs.length ∧ (xs ≠ [] → xs.length ≤ c) := by
  rcases h with ⟨rfl, a', c', e⟩ | ⟨b, off, c', hc, e, _⟩
  · injection e with _ e _; exact ⟨e, fun h => absurd rfl h⟩
  · injection e with _ e e2; exact ⟨e, fun _ => by omega⟩
theorem ownsRow_mono {w : World} {B B' : Nat} {E : TypeId} {z : Nat} {v : Value} {n : Nat} {xs : List Value} (h : w.ownsRow B E z v n xs) (hb : B' ≤ B) : w.ownsRow B' E z v n xs := by
  rcases h.2 with h2 | ⟨g, cap, cur, h2, h3, h4⟩
  · exact ⟨h.1, Or.inl h2⟩
  · exact ⟨h.1, Or.inr ⟨g, cap, cur, h2, Nat.le_trans hb h3, h4⟩⟩
/-- Bytes as the numbers that a slice of them holds. -/
def nums (l : List UInt8) : List Int := l.map fun c => (c.toNat : Int)
theorem nums_app (a b : List UInt8) : nums (a ++ b) = nums a ++ nums b := by unfold nums; simp
theorem nums_len (a : List UInt8) : (nums a).length = a.length := by unfold nums; simp
theorem Strs.sl {w : World} {B : Nat} {v : Value} {xs : List (List UInt8)} (h : Strs w B v xs) : StrSl w v xs := strSl_own h
theorem Strs.low {w : World} {B : Nat} {v : Value} {xs : List (List UInt8)} (h : Strs w B v xs) : SlBelow w.heap.size v := slBelow_own h
end Go.Proofs.YtahohmdbiiknoaaGreatDoor

/- Plain mathematics of layer 1 (bytes as runes): nothing of the program. -/
namespace Go.Proofs.YtahohmdbiiknoaaGreatDoor

/-- Of a first byte: how many follow, and the ends of the first that does. -/
def fl (c : Int) : Int × Int × Int :=
  if 194 ≤ c ∧ c ≤ 223 then (1, 128, 191)
  else if c = 224 then (2, 160, 191)
  else if c = 237 then (2, 128, 159)
  else if 225 ≤ c ∧ c ≤ 239 then (2, 128, 191)
  else if c = 240 then (3, 144, 191)
  else if 241 ≤ c ∧ c ≤ 243 then (3, 128, 191)
  else if c = 244 then (3, 128, 143)
  else (0, 0, 0)

/-- The bytes behind a lead, one by one: from the i-th on, its ends lo and hi, r gathered so far. -/
def cutGo (l : List UInt8) (n : Int) : Nat → Nat → Int → Int → Int → Int × Int × Bool
  | 0, _, _, _, _ => (0, 0, false)
  | f + 1, i, lo, hi, r =>
    if (i : Int) ≤ n then
      if i = l.length ∨ bt l i < lo ∨ hi < bt l i then (65533, (i : Int), false)
      else cutGo l n f (i + 1) 128 191 (r * 64 + bt l i % 64)
    else (r, n + 1, true)

/-- The first rune, how many bytes it has, and whether they are a rune's. -/
def cutS (l : List UInt8) : Int × Int × Bool :=
  if l = [] then (0, 0, false)
  else if bt l 0 < 128 then (bt l 0, 1, true)
  else if (fl (bt l 0)).1 = 0 then (65533, 1, false)
  else cutGo l (fl (bt l 0)).1 4 1 (fl (bt l 0)).2.1 (fl (bt l 0)).2.2 (bt l 0 % (2 ^ (6 - (fl (bt l 0)).1.toNat) : Nat))

theorem cutGo_done {l : List UInt8} {n : Int} {k : Nat} {lo hi r : Int} (h : n < k) (hk : k ≤ 4) : cutGo l n (5 - k) k lo hi r = (r, n + 1, true) := by
  obtain ⟨f, hf⟩ : ∃ f, 5 - k = f + 1 := ⟨4 - k, by omega⟩
  rw [hf, cutGo, if_neg (by omega)]
theorem cutGo_bad {l : List UInt8} {n : Int} {k : Nat} {lo hi r : Int} (h : (k : Int) ≤ n) (hk : k ≤ 4) (hb : k = l.length ∨ bt l k < lo ∨ hi < bt l k) : cutGo l n (5 - k) k lo hi r = (65533, (k : Int), false) := by
  obtain ⟨f, hf⟩ : ∃ f, 5 - k = f + 1 := ⟨4 - k, by omega⟩
  rw [hf, cutGo, if_pos h, if_pos hb]
theorem cutGo_step {l : List UInt8} {n : Int} {k : Nat} {lo hi r : Int} (h : (k : Int) ≤ n) (hk : k ≤ 4) (h1 : k ≠ l.length) (h2 : lo ≤ bt l k) (h3 : bt l k ≤ hi) :
    cutGo l n (5 - k) k lo hi r = cutGo l n (5 - (k + 1)) (k + 1) 128 191 (r * 64 + bt l k % 64) := by
  obtain ⟨f, hf⟩ : ∃ f, 5 - k = f + 1 := ⟨4 - k, by omega⟩
  rw [hf, cutGo, if_pos h, if_neg (by omega)]
  congr 1
  omega

theorem fl_cases (c : Int) : (fl c = (0, 0, 0) ∧ (c < 194 ∨ 244 < c)) ∨ ∃ n lo hi, fl c = (n, lo, hi) ∧ 194 ≤ c ∧ c ≤ 244 ∧ 128 ≤ lo ∧ lo ≤ 160 ∧ 143 ≤ hi ∧ hi ≤ 191 ∧
    ((n = 1 ∧ c ≤ 223 ∧ lo = 128 ∧ hi = 191) ∨ (n = 2 ∧ 224 ≤ c ∧ c ≤ 239 ∧ (c = 224 → lo = 160) ∧ (c ≠ 224 → lo = 128) ∧ (c = 237 → hi = 159) ∧ (c ≠ 237 → hi = 191)) ∨
     (n = 3 ∧ 240 ≤ c ∧ (c = 240 → lo = 144) ∧ (c ≠ 240 → lo = 128) ∧ (c = 244 → hi = 143) ∧ (c ≠ 244 → hi = 191))) := by
  unfold fl
  split
  · right; refine ⟨_, _, _, rfl, ?_⟩; omega
  split
  · right; refine ⟨_, _, _, rfl, ?_⟩; omega
  split
  · right; refine ⟨_, _, _, rfl, ?_⟩; omega
  split
  · right; refine ⟨_, _, _, rfl, ?_⟩; omega
  split
  · right; refine ⟨_, _, _, rfl, ?_⟩; omega
  split
  · right; refine ⟨_, _, _, rfl, ?_⟩; omega
  split
  · right; refine ⟨_, _, _, rfl, ?_⟩; omega
  · left; exact ⟨rfl, by omega⟩

theorem bt_zero (a : UInt8) (l : List UInt8) : bt (a :: l) 0 = a.toNat := rfl
theorem bt_succ (a : UInt8) (l : List UInt8) (i : Nat) : bt (a :: l) (i + 1) = bt l i := by simp [bt]

/-- What a cut of a list that isn't empty comes to: a rune of 1 to 4 bytes, or none of 1 to 3. -/
structure Cut (l : List UInt8) (r n : Int) (g : Bool) : Prop where
  pos : 1 ≤ n
  le : n ≤ l.length
  four : n ≤ 4
  r0 : 0 ≤ r
  r1 : r ≤ 1114111

theorem cutS_nil : cutS [] = (0, 0, false) := rfl

theorem len_pos {l : List UInt8} (h : l ≠ []) : 0 < l.length := List.length_pos_iff.2 h

/-- The ways of a cut, one by one. -/
theorem cutS_ways (l : List UInt8) (h : l ≠ []) :
    (bt l 0 < 128 ∧ cutS l = (bt l 0, 1, true)) ∨
    (∃ n : Int, 1 ≤ n ∧ n ≤ 3 ∧ n ≤ l.length ∧ cutS l = (65533, n, false)) ∨
    (2 ≤ l.length ∧ 194 ≤ bt l 0 ∧ bt l 0 ≤ 223 ∧ 128 ≤ bt l 1 ∧ bt l 1 ≤ 191 ∧ cutS l = (bt l 0 % 32 * 64 + bt l 1 % 64, 2, true)) ∨
    (3 ≤ l.length ∧ 224 ≤ bt l 0 ∧ bt l 0 ≤ 239 ∧ 128 ≤ bt l 1 ∧ bt l 1 ≤ 191 ∧ (bt l 0 = 224 → 160 ≤ bt l 1) ∧ (bt l 0 = 237 → bt l 1 ≤ 159) ∧ 128 ≤ bt l 2 ∧ bt l 2 ≤ 191 ∧
      cutS l = ((bt l 0 % 16 * 64 + bt l 1 % 64) * 64 + bt l 2 % 64, 3, true)) ∨
    (4 ≤ l.length ∧ 240 ≤ bt l 0 ∧ bt l 0 ≤ 244 ∧ 128 ≤ bt l 1 ∧ bt l 1 ≤ 191 ∧ (bt l 0 = 240 → 144 ≤ bt l 1) ∧ (bt l 0 = 244 → bt l 1 ≤ 143) ∧ 128 ≤ bt l 2 ∧ bt l 2 ≤ 191 ∧ 128 ≤ bt l 3 ∧ bt l 3 ≤ 191 ∧
      cutS l = (((bt l 0 % 8 * 64 + bt l 1 % 64) * 64 + bt l 2 % 64) * 64 + bt l 3 % 64, 4, true)) := by
  have hl := len_pos h
  unfold cutS
  rw [if_neg h]
  by_cases h1 : bt l 0 < 128
  · rw [if_pos h1]; exact Or.inl ⟨h1, rfl⟩
  rw [if_neg h1]
  rcases fl_cases (bt l 0) with ⟨hf, hc⟩ | ⟨n, lo, hi, hf, c1, c2, c3, c4, c5, c6, hn⟩
  · rw [if_pos (by rw [hf])]; exact Or.inr (Or.inl ⟨1, by omega, by omega, by omega, rfl⟩)
  rw [hf]
  rw [if_neg (by simp only; omega)]
  simp only
  rw [show (4 : Nat) = 5 - 1 from rfl]
  by_cases b1 : 1 = l.length ∨ bt l 1 < lo ∨ hi < bt l 1
  · rw [cutGo_bad (by omega) (by omega) b1]; exact Or.inr (Or.inl ⟨1, by omega, by omega, by omega, rfl⟩)
  rw [cutGo_step (by omega) (by omega) (by omega) (by omega) (by omega)]
  rcases hn with ⟨rfl, hn⟩ | ⟨rfl, hn⟩ | ⟨rfl, hn⟩
  · rw [cutGo_done (by omega) (by omega)]
    refine Or.inr (Or.inr (Or.inl ⟨by omega, by omega, by omega, by omega, by omega, ?_⟩))
    rfl
  all_goals
    by_cases b2 : 1 + 1 = l.length ∨ bt l (1 + 1) < 128 ∨ 191 < bt l (1 + 1)
    · rw [cutGo_bad (by omega) (by omega) b2]; exact Or.inr (Or.inl ⟨2, by omega, by omega, by omega, rfl⟩)
    rw [cutGo_step (by omega) (by omega) (by omega) (by omega) (by omega)]
  · rw [cutGo_done (by omega) (by omega)]
    refine Or.inr (Or.inr (Or.inr (Or.inl ⟨by omega, by omega, by omega, by omega, by omega, by omega, by omega, by simp only [Nat.reduceAdd] at b2; omega, by simp only [Nat.reduceAdd] at b2; omega, rfl⟩)))
  · by_cases b3 : 1 + 1 + 1 = l.length ∨ bt l (1 + 1 + 1) < 128 ∨ 191 < bt l (1 + 1 + 1)
    · rw [cutGo_bad (by omega) (by omega) b3]; exact Or.inr (Or.inl ⟨3, by omega, by omega, by omega, rfl⟩)
    rw [cutGo_step (by omega) (by omega) (by omega) (by omega) (by omega), cutGo_done (by omega) (by omega)]
    simp only [Nat.reduceAdd] at b2 b3
    exact Or.inr (Or.inr (Or.inr (Or.inr ⟨by omega, by omega, by omega, by omega, by omega, by omega, by omega, by omega, by omega, by omega, by omega, rfl⟩)))

theorem cutS_bd (l : List UInt8) (h : l ≠ []) : 1 ≤ (cutS l).2.1 ∧ (cutS l).2.1 ≤ l.length ∧ (cutS l).2.1 ≤ 4 ∧ 0 ≤ (cutS l).1 ∧ (cutS l).1 ≤ 1114111 := by
  have hl := len_pos h
  have h0 := bt_lt l 0
  rcases cutS_ways l h with ⟨_, e⟩ | ⟨n, _, _, _, e⟩ | ⟨_, _, _, _, _, e⟩ | ⟨_, _, _, _, _, _, _, _, _, e⟩ | ⟨_, _, _, _, _, _, _, _, _, _, _, e⟩ <;> rw [e] <;> simp only <;> omega

theorem cutS_none (l : List UInt8) (h : (cutS l).2.2 = false) (hl : l ≠ []) : (cutS l).1 = 65533 := by
  rcases cutS_ways l hl with ⟨_, e⟩ | ⟨n, _, _, _, e⟩ | ⟨_, _, _, _, _, e⟩ | ⟨_, _, _, _, _, _, _, _, _, e⟩ | ⟨_, _, _, _, _, _, _, _, _, _, _, e⟩ <;> rw [e] at h ⊢ <;> simp at h ⊢

/-- How many bytes a cut takes, as a Nat. -/
def cutN (l : List UInt8) : Nat := (cutS l).2.1.toNat
theorem cutN_bd (l : List UInt8) (h : l ≠ []) : 1 ≤ cutN l ∧ cutN l ≤ l.length ∧ cutN l ≤ 4 ∧ (cutS l).2.1 = cutN l := by
  have := cutS_bd l h; unfold cutN; omega
theorem drop_lt (l : List UInt8) (h : l ≠ []) : (l.drop (cutN l)).length < l.length := by
  have := cutN_bd l h; have := len_pos h; simp; omega

def decF : Nat → List UInt8 → List Int
  | 0, _ => []
  | f + 1, l => if l = [] then [] else (cutS l).1 :: decF f (l.drop (cutN l))
/-- The runes of bytes. -/
def dec (l : List UInt8) : List Int := decF l.length l
def valF : Nat → List UInt8 → Bool
  | 0, _ => true
  | f + 1, l => if l = [] then true else (cutS l).2.2 && valF f (l.drop (cutN l))
/-- Are bytes those of runes alone? -/
def val (l : List UInt8) : Bool := valF l.length l

theorem decF_more : ∀ (f : Nat) (l : List UInt8), l.length ≤ f → decF f l = dec l := by
  intro f
  induction f using Nat.strongRecOn with
  | _ f ih =>
    intro l hl
    unfold dec
    by_cases h : l = []
    · subst h; cases f <;> simp [decF]
    · have hd := drop_lt l h
      have := len_pos h
      obtain ⟨f', rfl⟩ : ∃ f', f = f' + 1 := ⟨f - 1, by omega⟩
      obtain ⟨m, hm⟩ : ∃ m, l.length = m + 1 := ⟨l.length - 1, by omega⟩
      rw [hm, decF, decF, if_neg h, if_neg h, ih f' (by omega) _ (by omega)]
      congr 1
      by_cases hf : m = f'
      · subst hf; rw [ih m (by omega) _ (by omega)]
      · rw [ih m (by omega) _ (by omega)]
theorem valF_more : ∀ (f : Nat) (l : List UInt8), l.length ≤ f → valF f l = val l := by
  intro f
  induction f using Nat.strongRecOn with
  | _ f ih =>
    intro l hl
    unfold val
    by_cases h : l = []
    · subst h; cases f <;> simp [valF]
    · have hd := drop_lt l h
      have := len_pos h
      obtain ⟨f', rfl⟩ : ∃ f', f = f' + 1 := ⟨f - 1, by omega⟩
      obtain ⟨m, hm⟩ : ∃ m, l.length = m + 1 := ⟨l.length - 1, by omega⟩
      rw [hm, valF, valF, if_neg h, if_neg h, ih f' (by omega) _ (by omega), ih m (by omega) _ (by omega)]
theorem dec_nil : dec [] = [] := rfl
theorem val_nil : val [] = true := rfl
theorem dec_cons (l : List UInt8) (h : l ≠ []) : dec l = (cutS l).1 :: dec (l.drop (cutN l)) := by
  have hd := drop_lt l h
  have := len_pos h
  rw [show dec l = decF (l.length - 1 + 1) l from by unfold dec; congr 1; omega, decF, if_neg h, decF_more _ _ (by omega)]
theorem val_cons (l : List UInt8) (h : l ≠ []) : val l = ((cutS l).2.2 && val (l.drop (cutN l))) := by
  have hd := drop_lt l h
  have := len_pos h
  rw [show val l = valF (l.length - 1 + 1) l from by unfold val; congr 1; omega, valF, if_neg h, valF_more _ _ (by omega)]

theorem list_ind {P : List UInt8 → Prop} (h0 : P []) (h1 : ∀ l, l ≠ [] → P (l.drop (cutN l)) → P l) : ∀ l, P l := by
  intro l
  generalize hn : l.length = n
  induction n using Nat.strongRecOn generalizing l with
  | _ n ih =>
    by_cases h : l = []
    · subst h; exact h0
    · exact h1 l h (ih _ (by rw [← hn]; exact drop_lt l h) _ rfl)

theorem dec_len : ∀ l, (dec l).length ≤ l.length := by
  refine list_ind (by simp [dec_nil]) fun l h ih => ?_
  have hd := drop_lt l h
  rw [dec_cons l h]; simp only [List.length_cons]; omega
theorem dec_bd : ∀ l, ∀ x ∈ dec l, 0 ≤ x ∧ x ≤ 1114111 := by
  refine list_ind (by simp [dec_nil]) fun l h ih => ?_
  rw [dec_cons l h]
  intro x hx
  rcases List.mem_cons.1 hx with rfl | hx
  · have := cutS_bd l h; omega
  · exact ih x hx

theorem cutS_sign (t : List UInt8) : cutS (239 :: 191 :: 189 :: t) = (65533, 3, true) := by
  have b0 : bt (239 :: 191 :: 189 :: t) 0 = 239 := rfl
  have b1 : bt (239 :: 191 :: 189 :: t) 1 = 191 := rfl
  have b2 : bt (239 :: 191 :: 189 :: t) 2 = 189 := rfl
  rcases cutS_ways (239 :: 191 :: 189 :: t) (by simp) with ⟨_, e⟩ | ⟨n, _, _, _, e⟩ | ⟨_, _, _, _, _, e⟩ | ⟨_, _, _, _, _, _, _, _, _, e⟩ | ⟨_, _, _, _, _, _, _, _, _, _, _, e⟩
  · omega
  · unfold cutS at e
    rw [if_neg (by simp), if_neg (by omega), b0, show fl 239 = (2, 128, 191) from rfl, if_neg (by simp), show (4 : Nat) = 5 - 1 from rfl,
      cutGo_step (by simp) (by omega) (by simp) (by rw [b1]; decide) (by rw [b1]; decide), cutGo_step (by simp) (by omega) (by simp) (by show _ ≤ bt _ 2; rw [b2]; decide) (by show bt _ 2 ≤ _; rw [b2]; decide), cutGo_done (by simp) (by omega)] at e
    simp at e
  · omega
  · rw [e, b0, b1, b2]; rfl
  · omega

theorem take_three (l : List UInt8) (h : 3 ≤ l.length) (a b c : UInt8) (h0 : bt l 0 = a.toNat) (h1 : bt l 1 = b.toNat) (h2 : bt l 2 = c.toNat) : l.take 3 = [a, b, c] := by
  match l, h with
  | x :: y :: z :: t, _ =>
    have e (u v : UInt8) (h : (u.toNat : Int) = v.toNat) : u = v := UInt8.toNat_inj.1 (by omega)
    have e0 := e x a h0
    have e1 := e y b h1
    have e2 := e z c h2
    subst e0 e1 e2
    rfl
theorem good_iff (l : List UInt8) (h : l ≠ []) : (cutS l).2.2 = true ↔ ((cutS l).1 = 65533 → l.take (cutN l) = [239, 191, 189]) := by
  constructor
  · intro hg hr
    have h0 := bt_lt l 0
    rcases cutS_ways l h with ⟨_, e⟩ | ⟨n, _, _, _, e⟩ | ⟨_, _, _, _, _, e⟩ | ⟨hl, _, _, _, _, _, _, _, _, e⟩ | ⟨_, _, _, _, _, _, _, _, _, _, _, e⟩
    · rw [e] at hr; simp at hr; omega
    · rw [e] at hg; simp at hg
    · rw [e] at hr; simp at hr; omega
    · rw [e] at hr
      simp at hr
      have : cutN l = 3 := by unfold cutN; rw [e]; rfl
      rw [this]
      exact take_three l hl 239 191 189 (by simp; omega) (by simp; omega) (by simp; omega)
    · rw [e] at hr; simp at hr; omega
  · intro hc
    cases hg : (cutS l).2.2
    · have h1 := hc (cutS_none l hg h)
      have : l = 239 :: 191 :: 189 :: l.drop (cutN l) := by
        have := List.take_append_drop (cutN l) l
        rw [h1] at this
        exact this.symm
      rw [this, cutS_sign] at hg
      simp at hg
    · rfl
theorem good_sign (l : List UInt8) (h : l ≠ []) (h2 : (!List.take (cutN l) l == [239, 191, 189]) = false) : (cutS l).2.2 = true := (good_iff l h).2 fun _ => by simpa using h2
theorem good_other (l : List UInt8) (h : l ≠ []) (h1 : ¬ (cutS l).1 = 65533) : (cutS l).2.2 = true := (good_iff l h).2 fun h2 => absurd h2 h1
theorem bad_sign (l : List UInt8) (h : l ≠ []) (h1 : (cutS l).1 = 65533) (h2 : (!List.take (cutN l) l == [239, 191, 189]) = true) : (cutS l).2.2 = false := by
  cases hg : (cutS l).2.2
  · rfl
  · have := (good_iff l h).1 hg h1
    simp [this] at h2
end Go.Proofs.YtahohmdbiiknoaaGreatDoor

/- Plain mathematics of layer 1: runes as bytes. Nothing of the program. -/
namespace Go.Proofs.YtahohmdbiiknoaaGreatDoor

/-- May it be a rune? -/
def isR (r : Int) : Bool := decide (0 ≤ r ∧ r ≤ 1114111 ∧ ¬ (55296 ≤ r ∧ r ≤ 57343))
/-- How many bytes follow the first. -/
def folN (r : Int) : Nat := if r < 128 then 0 else if r < 2048 then 1 else if r < 65536 then 2 else 3
/-- The bytes of a rune that may be, as numbers. -/
def encR (r : Int) : List Int :=
  if r < 128 then [r]
  else if r < 2048 then [192 + r / 64, 128 + r % 64]
  else if r < 65536 then [224 + r / 4096, 128 + r / 64 % 64, 128 + r % 64]
  else [240 + r / 262144, 128 + r / 4096 % 64, 128 + r / 64 % 64, 128 + r % 64]
/-- The bytes of any rune. -/
def encI (r : Int) : List Int := if isR r then encR r else encR 65533
/-- A number as a byte. -/
def u8 (n : Int) : UInt8 := UInt8.ofNat n.toNat
def enc (r : Int) : List UInt8 := (encI r).map u8
def encAll (l : List Int) : List UInt8 := (l.flatMap encI).map u8
end Go.Proofs.YtahohmdbiiknoaaGreatDoor

/- Conversions of bytes into a text. -/
namespace Go.Proofs.YtahohmdbiiknoaaGreatDoor
open Go.RowKit

theorem run_str {P : Program} (w : World) (src dst e : TypeId) (hs : P.underlying src = some (.slice e)) (he : P.underlying e = some (.int .u8)) (hd : P.underlying dst = some .string) {v : Value} {xs : List Int} (h : IntSl .u8 w v xs) :
    (convert src dst v).run P w = .ok (.string ⟨(xs.map u8).toArray⟩) w := by
  rcases h with ⟨rfl, a, c, rfl⟩ | ⟨b, off, c, rfl, h⟩
  · cases a with
    | none => exact run_convert_bytes_nil w src e hs he 0 c dst hd
    | some a => exact run_convert_bytes_back w src dst e a c [] hs he hd (fun j hj => absurd hj (by simp))
  · exact run_convert_bytes_arg w src e hs he b off xs.length c xs rfl h dst hd

theorem run_str_new {P : Program} (w : World) (src dst e E : TypeId) (hs : P.underlying src = some (.slice e)) (he : P.underlying e = some (.int .u8)) (hd : P.underlying dst = some .string) (xs : List Int) (n c : Nat) (hn : n = xs.length) :
    (convert src dst (.slice (some ⟨w.heap.size, 0, none⟩) n c)).run P (w.alloc (.cells (xs.map (Value.int .u8)).toArray E)) = .ok (.string ⟨(xs.map u8).toArray⟩) (w.alloc (.cells (xs.map (Value.int .u8)).toArray E)) := by
  subst hn
  refine run_str _ src dst e hs he hd (Or.inr ⟨w.heap.size, 0, c, rfl, fun j hj => ?_⟩)
  rw [Nat.zero_add, World.cell?_alloc_mark]
  simp [List.getD, hj]

theorem nums_u8 (l : List UInt8) : (nums l).map u8 = l := by
  unfold nums
  rw [List.map_map]
  have : (u8 ∘ fun c : UInt8 => ((c.toNat : Nat) : Int)) = id := by funext c; simp [u8]
  rw [this]; simp
end Go.Proofs.YtahohmdbiiknoaaGreatDoor
