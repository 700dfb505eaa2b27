/- The walks of the reference of layer 2: its tables, the search, its three calls. -/
import Derived.Test.YtonbgdcgfoipjaaDoorFa
import Derived.Great.Walk
namespace Go.Proofs.YtonbgdcgfoipjaaDoor
open Go.RowKit

/-- A slice of ranges that can be read. -/
def RgSl (w : World) (v : Value) (l : List Rg) : Prop := ∃ b off c, l.length ≤ c ∧ v = .slice (some ⟨b, off, none⟩) l.length c ∧ RgAt w b off l
theorem RgSl.below {w w' : World} {v : Value} {l : List Rg} (h : RgSl w v l) (hb : Below w.heap.size w w') : RgSl w' v l := by
  obtain ⟨b, off, c, hc, h1, h2⟩ := h
  exact ⟨b, off, c, hc, h1, h2.below hb⟩

/-- The cells of ranges. -/
def flatR : List Rg → List Value
  | [] => []
  | g :: l => .int .i32 g.f :: .int .i32 g.t :: .int .i32 g.a :: .bool g.p :: flatR l
theorem flatR_at : ∀ (l : List Rg) (j : Nat) (g : Rg), l[j]? = some g → (flatR l)[j * 4]? = some (.int .i32 g.f) ∧ (flatR l)[j * 4 + 1]? = some (.int .i32 g.t) ∧ (flatR l)[j * 4 + 2]? = some (.int .i32 g.a) ∧ (flatR l)[j * 4 + 3]? = some (.bool g.p)
  | [], j, g, h => by simp at h
  | x :: l, 0, g, h => by simp at h; subst h; exact ⟨rfl, rfl, rfl, rfl⟩
  | x :: l, j + 1, g, h => by
    have := flatR_at l j g (by simpa using h)
    have e : (j + 1) * 4 = j * 4 + 4 := by omega
    rw [e]
    exact this
theorem flatR_length : ∀ l : List Rg, (flatR l).length = l.length * 4
  | [] => rfl
  | g :: l => by simp only [flatR, List.length_cons, flatR_length l]; omega
theorem rgAt_new (w : World) (l : List Rg) (T : TypeId) (cs : Array Value) (h : cs = (flatR l).toArray) : RgAt (w.alloc (.cells cs T)) w.heap.size 0 l := fun j g hj => by
  obtain ⟨h1, h2, h3, h4⟩ := flatR_at l j g hj
  have hh : (w.alloc (.cells cs T)).heap[w.heap.size]? = some (.cells cs T (0, 0)) := heap_alloc_new w _
  subst h
  refine ⟨?_, ?_, ?_, ?_⟩ <;> rw [cell_of_row _ _ _ _ _ _ hh] <;> simp only [List.getElem?_toArray, Nat.zero_add] <;> assumption

set_option maxHeartbeats 400000 in
theorem refdigits_any (w : World) :
    Calls Tryd.prog 43 #[] w fun e w' => ∃ v, e = .returned v ∧ RgSl w' v digitsL ∧ Below w.heap.size w w' := by
  go_enter Tryd.func43, Tryd.ntmps43
  go_wp2
  go_ret
  exact ⟨_, rfl, ⟨_, _, 4, Nat.le_refl _, rfl, rgAt_new w digitsL _ _ rfl⟩, (Below.refl _ _).alloc (Nat.le_refl _) _⟩

/-- Operations that each lay a literal out of constants: the frame behind them, reckoned. -/
def buildsTo (P : Program) : List Oper → Act → Option Act
  | [], a => some a
  | o :: l, a => match o.guard, o.op with
    | none, .build t parts => match P.built t (parts.map fun (i, x) => (i, a.eval x)).toList with
      | some cells => buildsTo P l (a.put o.dst (.agg cells))
      | none => none
    | _, _ => none
theorem wpList_builds {P : Program} {ops : Array Oper} {rest : List Oper} {w : World} {Q : Exit → Act → World → Prop} : ∀ (l : List Oper) (a a' : Act), buildsTo P l a = some a' → wpList P ops Q rest a' w → wpList P ops Q (l ++ rest) a w
  | [], a, a', h, k => by simp [buildsTo] at h; subst h; exact k
  | o :: l, a, a', h, k => by
    unfold buildsTo at h
    split at h
    · rename_i t parts hg ho
      split at h
      · rename_i cells hb
        exact wpList_buildTo hg t parts ho o.dst rfl cells hb (wpList_builds l _ a' h k)
      · cases h
    · cases h
theorem wpList_builds_n {P : Program} {ops : Array Oper} {l : List Oper} {w : World} {Q : Exit → Act → World → Prop} (n : Nat) {a : Act} (a' : Act) (h : buildsTo P (l.take n) a = some a') (k : wpList P ops Q (l.drop n) a' w) : wpList P ops Q l a w := by
  have := wpList_builds (P := P) (ops := ops) (rest := l.drop n) (w := w) (Q := Q) (l.take n) a a' h k
  rwa [List.take_append_drop] at this

set_option maxRecDepth 100000 in
set_option maxHeartbeats 1000000 in
theorem refletters_any (w : World) :
    Calls Tryd.prog 42 #[] w fun e w' => ∃ v, e = .returned v ∧ RgSl w' v lettersL ∧ Below w.heap.size w w' := by
  go_enter Tryd.func42, Tryd.ntmps42
  apply wp_seq_k; intro K0 hK0
  apply wp_region_lit
  refine Great.wpList_runTo rfl (some 0) rfl (.slice none 0 0) w (by kernel_rfl) ?_
  apply wpList_nil
  refine hK0 _ _ ?_
  apply wp_seq_k; intro K1 hK1
  apply wp_region_lit
  refine wpList_builds_n 46 ⟨(.slice none 0 0 :: lettersL.map Rg.v ++ [undef]).toArray, []⟩ (by kernel_rfl) ?_
  refine Great.wpList_buildSliceTo rfl 59 56 46 _ rfl w.heap.size rfl (some 47) rfl (by kernel_rfl) (flatR lettersL).toArray (by kernel_rfl) ?_
  refine Great.wpList_runTo rfl (some 0) rfl (.slice (some ⟨w.heap.size, 0, none⟩) 46 46) (w.alloc (.cells (flatR lettersL).toArray 56)) (by kernel_rfl) ?_
  apply wpList_nil
  refine hK1 _ _ ?_
  apply wp_ret
  refine bodyPost_ret (results_tmp rfl _ _ _) (by kernel_rfl) ?_
  exact ⟨_, rfl, ⟨_, _, 46, Nat.le_refl _, by kernel_rfl, rgAt_new w lettersL _ _ rfl⟩, (Below.refl _ _).alloc (Nat.le_refl _) _⟩
end Go.Proofs.YtonbgdcgfoipjaaDoor
