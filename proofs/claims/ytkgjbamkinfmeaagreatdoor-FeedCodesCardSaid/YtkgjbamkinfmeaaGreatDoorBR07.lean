/- Attributes in memory: a slice of them that the call itself made, and one that can be read, wherever it lies. -/
import Derived.Test.YtkgjbamkinfmeaaGreatDoorBR04
import Derived.Test.YtkgjbamkinfmeaaGreatDoorBR01
import Derived.Test.YtkgjbamkinfmeaaGreatDoorBR02
import Derived.Shelf.Small.Wraps
import Derived.Shelf.Strings.Prefix
import Derived.Shelf.Small.Strs
import Derived.Shelf.Strings.LastIndex
import Derived.Test.YtkgjbamkinfmeaaGreatDoorBR05
import Derived.Test.YtkgjbamkinfmeaaGreatDoorBR03
namespace Go.Proofs.YtkgjbamkinfmeaaGreatDoor
open Go.RowKit

def atV (x : At) : List Value := [strV x.1, strV x.2]
def cellsA (l : List At) : List Value := l.flatMap atV
theorem cellsA_len (l : List At) : (cellsA l).length = l.length * 2 := by
  induction l with
  | nil => rfl
  | cons x t ih => simp [cellsA, atV] at ih ⊢; omega
theorem cellsA_app (l m : List At) : cellsA (l ++ m) = cellsA l ++ cellsA m := by simp [cellsA]
theorem cellsA_one (x : At) : cellsA [x] = [strV x.1, strV x.2] := rfl
theorem cellsA_at : ∀ (l : List At) (j : Nat), j < l.length → (cellsA l)[j * 2]? = some (strV (l.getD j ([], [])).1) ∧ (cellsA l)[j * 2 + 1]? = some (strV (l.getD j ([], [])).2)
  | [], j, h => by simp at h
  | x :: t, 0, _ => ⟨rfl, rfl⟩
  | x :: t, j + 1, h => by
    have := cellsA_at t j (by simpa using h)
    have e : cellsA (x :: t) = strV x.1 :: strV x.2 :: cellsA t := rfl
    rw [e, show (j + 1) * 2 = j * 2 + 1 + 1 by omega, show j * 2 + 1 + 1 + 1 = (j * 2 + 1) + 1 + 1 by omega]
    simpa using this
theorem cellsA_one' (l : List At) : ∀ u ∈ cellsA l, u.oneCell' = true := by
  intro u hu
  simp only [cellsA, List.mem_flatMap, atV] at hu
  obtain ⟨x, _, hu⟩ := hu
  simp at hu
  rcases hu with rfl | rfl <;> rfl
/-- A slice of attributes that the call itself made. -/
def Ats (w : World) (B : Nat) (v : Value) (l : List At) : Prop := w.ownsRow B 166 2 v l.length (cellsA l)
theorem Ats.cells {w : World} {B : Nat} {v : Value} {l : List At} (h : Ats w B v l) (h0 : l ≠ []) : ∃ g cap, v = .slice (some ⟨g, 0, none⟩) l.length cap ∧ g < w.heap.size ∧ B ≤ g ∧
    ∀ j, j < l.length → w.cell? ⟨g, j * 2, none⟩ = some (strV (l.getD j ([], [])).1) ∧ w.cell? ⟨g, j * 2 + 1, none⟩ = some (strV (l.getD j ([], [])).2) := by
  have hlt := World.ownsRow.lt h
  rcases h.2 with ⟨_, hn⟩ | ⟨g, cap, cur, hv, _⟩
  · exact absurd (List.length_eq_zero_iff.1 hn) h0
  · refine ⟨g, cap, hv, (hlt g (by rw [hv]; rfl)).2, (hlt g (by rw [hv]; rfl)).1, fun j hj => ?_⟩
    have hcg := World.ownsRow.cells h (g := g) (by rw [hv]; rfl)
    obtain ⟨e1, e2⟩ := cellsA_at l j hj
    have hadd : ∀ i, (⟨g, 0, none⟩ : Addr).add i = ⟨g, i, none⟩ := fun i => by unfold Addr.add; split <;> simp_all
    have h1 := hcg _ _ e1
    have h2 := hcg _ _ e2
    rw [hadd] at h1 h2
    exact ⟨h1, h2⟩
theorem ats_nil (w : World) (B : Nat) : Ats w B (.slice none 0 0) [] := World.ownsRow_nil _ _ _ _

/-- A slice of attributes that can be read. -/
def AtSl (w : World) (v : Value) (l : List At) : Prop :=
  (l = [] ∧ ∃ a c, v = .slice a 0 c) ∨ ∃ b off c, l.length ≤ c ∧ v = .slice (some ⟨b, off, none⟩) l.length c ∧
    ∀ j, j < l.length → w.cell? ⟨b, off + j * 2, none⟩ = some (strV (l.getD j ([], [])).1) ∧ w.cell? ⟨b, off + j * 2 + 1, none⟩ = some (strV (l.getD j ([], [])).2)
theorem AtSl.form {w : World} {v : Value} {l : List At} (h : AtSl w v l) : ∃ a c, v = .slice a l.length c := by
  rcases h with ⟨rfl, a, c, rfl⟩ | ⟨b, off, c, _, rfl, _⟩
  · exact ⟨a, c, rfl⟩
  · exact ⟨_, c, rfl⟩
theorem AtSl.next {w w' : World} {v : Value} {l : List At} (h : AtSl w v l) (hb : Below w.heap.size w w') : AtSl w' v l := by
  rcases h with h | ⟨b, off, c, hc, rfl, h⟩
  · exact Or.inl h
  · refine Or.inr ⟨b, off, c, hc, rfl, fun j hj => ?_⟩
    have h0 := h j hj
    have hlt := World.block_lt_of_cell? w ⟨b, off + j * 2, none⟩ h0.1
    exact ⟨(hb.cell (p := ⟨b, off + j * 2, none⟩) hlt).trans h0.1, (hb.cell (p := ⟨b, off + j * 2 + 1, none⟩) hlt).trans h0.2⟩
theorem AtSl.some {w : World} {v : Value} {l : List At} (h : AtSl w v l) (h0 : l ≠ []) : ∃ b off c, l.length ≤ c ∧ b < w.heap.size ∧ v = .slice (some ⟨b, off, none⟩) l.length c ∧
    ∀ j, j < l.length → w.cell? ⟨b, off + j * 2, none⟩ = some (strV (l.getD j ([], [])).1) ∧ w.cell? ⟨b, off + j * 2 + 1, none⟩ = some (strV (l.getD j ([], [])).2) := by
  rcases h with ⟨h, _⟩ | ⟨b, off, c, hc, hv, h⟩
  · exact absurd h h0
  · have hl : 0 < l.length := List.length_pos_iff.2 h0
    exact ⟨b, off, c, hc, World.block_lt_of_cell? w ⟨b, off + 0 * 2, none⟩ (h 0 hl).1, hv, h⟩
theorem AtSl.nil {w : World} {v : Value} {l : List At} (h : AtSl w v l) (h0 : l = []) : ∃ a c, v = .slice a 0 c := by
  obtain ⟨a, c, e⟩ := h.form
  subst h0
  exact ⟨a, c, e⟩
theorem atSl_nil (w : World) (a : Option Addr) (c : Nat) : AtSl w (.slice a 0 c) [] := Or.inl ⟨rfl, a, c, rfl⟩
theorem Ats.sl {w : World} {B : Nat} {v : Value} {l : List At} (h : Ats w B v l) : AtSl w v l := by
  by_cases h0 : l = []
  · obtain ⟨a, c, e⟩ := own_form h
    subst h0
    exact Or.inl ⟨rfl, a, c, e⟩
  · obtain ⟨a, c', e, hcap⟩ := own_cap h
    obtain ⟨g, cap, hv, _, _, hc⟩ := h.cells h0
    have : cap = c' := by rw [hv] at e; injection e
    exact Or.inr ⟨g, 0, cap, by omega, hv, fun j hj => by rw [Nat.zero_add]; exact hc j hj⟩
end Go.Proofs.YtkgjbamkinfmeaaGreatDoor

/- Tokens that the call itself made, with their attributes; the last of a slice of texts. -/
namespace Go.Proofs.YtkgjbamkinfmeaaGreatDoor
open Go.RowKit

/-- Two changes of the reader's place, one behind the other. -/
theorem turned2 {R : Nat} {w w1 w2 : World} (h : Turned (fun b => b = R) w w1) (h2 : Turned (fun b => b = R) w1 w2) : Turned (fun b => b = R) w w2 := h.trans h2 fun _ _ e => e
theorem turned_drawn {R : Nat} {w w1 : World} (h : Drawn w w1) : Turned (fun b => b = R) w w1 := Turned.of_below (h.below _)
theorem info_attr : (Tryz.prog.info? 166).map (fun i => (i.zero, i.size, i.bytes)) = some (some (.agg #[.string ⟨#[]⟩, .string ⟨#[]⟩]), 2, 32) := by kernel_rfl
def tkV (p : Tk × Value) : List Value := [.int .i64 p.1.kind, strV p.1.name, p.2, strV p.1.text]
def cellsK (P : List (Tk × Value)) : List Value := P.flatMap tkV
theorem cellsK_len (P : List (Tk × Value)) : (cellsK P).length = P.length * 4 := by
  induction P with
  | nil => rfl
  | cons x t ih => simp [cellsK, tkV] at ih ⊢; omega
theorem cellsK_app (l m : List (Tk × Value)) : cellsK (l ++ m) = cellsK l ++ cellsK m := by simp [cellsK]
/-- A slice of tokens that the call itself made: P tells each one, with its attributes' slice. -/
structure Tks (w : World) (B : Nat) (v : Value) (P : List (Tk × Value)) : Prop where
  row : w.ownsRow B 83 4 v P.length (cellsK P)
  ats : ∀ p ∈ P, Ats w B p.2 p.1.attrs
theorem tks_nil (w : World) (B : Nat) : Tks w B (.slice none 0 0) [] := ⟨World.ownsRow_nil _ _ _ _, fun p h => by simp at h⟩
theorem Tks.turned {S : Nat → Prop} {w w' : World} {B : Nat} {v : Value} {P : List (Tk × Value)} (h : Tks w B v P) (ht : Turned S w w') (h1 : ∀ k, v.ownBlock = some k → ¬ S k) (h2 : ∀ p ∈ P, ∀ k, p.2.ownBlock = some k → ¬ S k) : Tks w' B v P :=
  ⟨ownsRow_turned h.row ht h1, fun p hp => ownsRow_turned (h.ats p hp) ht (h2 p hp)⟩
theorem Tks.below {w w' : World} {B : Nat} {v : Value} {P : List (Tk × Value)} (h : Tks w B v P) (hb : Below w.heap.size w w') : Tks w' B v P :=
  h.turned (S := fun _ => False) (Turned.of_below hb) (fun _ _ h => h) fun _ _ _ _ h => h
theorem info_tok : (Tryz.prog.info? 83).map (fun i => (i.zero, i.size, i.bytes)) = some (some (.agg #[.int .i64 0, .string ⟨#[]⟩, .slice none 0 0, .string ⟨#[]⟩]), 4, 64) := by kernel_rfl
/-- The last of the open elements, and the others. -/
theorem opn_last {w : World} {B : Nat} {v : Value} {op : List (List UInt8)} {nm : List UInt8} (h : Strs w B v (op ++ [nm])) : ∃ g cap, v = .slice (some ⟨g, 0, none⟩) (op.length + 1) cap ∧ op.length + 1 ≤ cap ∧ g < w.heap.size ∧ w.cell? ⟨g, op.length, none⟩ = some (.string ⟨nm.toArray⟩) ∧
    v.ownBlock = some g ∧ Strs w B (.slice (some ⟨g, 0, none⟩) op.length cap) op := by
  have hlt := World.ownsRow.lt h
  have hlen : (op ++ [nm]).length = op.length + 1 := by simp
  have hcs := fun g hv => World.ownsRow.cells h (g := g) hv
  rcases h.2 with ⟨_, hn⟩ | ⟨g, cap, cur, hv, hb, hg, h1, h2, h3, h4⟩
  · rw [hlen] at hn; omega
  · have hob : v.ownBlock = some g := by rw [hv]; rfl
    rw [hlen] at hv h1
    refine ⟨g, cap, hv, h1, (hlt g hob).2, ?_, hob, ⟨by simp, Or.inr ⟨g, cap, cur, rfl, hb, hg, by omega, h2, h3, ?_⟩⟩⟩
    · have := hcs g hob op.length (strV nm) (by simp)
      have hadd : (⟨g, 0, none⟩ : Addr).add op.length = ⟨g, op.length, none⟩ := by unfold Addr.add; split <;> simp_all
      rw [hadd] at this
      exact this
    · rw [hlen] at h4
      have : (cur.toList.take ((op.length + 1) * 1)).take (op.length * 1) = ((op ++ [nm]).map strV).take (op.length * 1) := by rw [h4]
      rw [List.take_take, Nat.min_eq_left (by omega)] at this
      rw [this, Nat.mul_one, List.map_append, List.take_left' (by simp)]
end Go.Proofs.YtkgjbamkinfmeaaGreatDoor

/- strings.CutPrefix at this program, by the library's contract (made by wip/tools/shelf2tpl.py), over texts as lists of bytes. -/
namespace Go.Proofs.YtkgjbamkinfmeaaGreatDoor
open Go.RowKit Go.Shelf Go.Lib
def Laid.lays103_ren : Go.Shelf.Ren := ⟨fun | 103 => 169 | 210 => 193 | 206 => 185 | n => n, fun | 9 => 9 | 4 => 4 | 24 => 73 | 3 => 3 | n => n, fun | n => n⟩
theorem Laid.lays103 : Go.Proofs.Lays.n103 Tryz.prog Laid.lays103_ren := {
  mixed := by kernel_rfl
  f103 := Tryz.func169.trans (congrArg some (by kernel_rfl))
  f206 := Tryz.func185.trans (congrArg some (by kernel_rfl))
  f210 := Tryz.func193.trans (congrArg some (by kernel_rfl))
  t3 := Tryz.underlying3
  a3 := Tryz.isAgg3
  z3 := Tryz.sizeOf3
  v3 := Tryz.zeroValue3
  t4 := Tryz.underlying4
  a4 := Tryz.isAgg4
  z4 := Tryz.sizeOf4
  v4 := Tryz.zeroValue4
  t9 := Tryz.underlying9
  a9 := Tryz.isAgg9
  z9 := Tryz.sizeOf9
  v9 := Tryz.zeroValue9
  t24 := Tryz.underlying73
  a24 := Tryz.isAgg73
  z24 := Tryz.sizeOf73
  v24 := Tryz.zeroValue73 }
open Go.RowKit in
theorem Laid.strings_CutPrefix (s p : ByteArray) (w : World) :
    Calls Tryz.prog 169 #[.string s, .string p] w fun e w' => e = .returned (.tuple #[.string ⟨(Lib.trimPrefix s.data.toList p.data.toList).toArray⟩, .bool (Lib.hasPrefix s.data.toList p.data.toList)]) ∧ w' = w := Any.strings_CutPrefix Laid.lays103 s p w

theorem cutPrefix_any (l p : List UInt8) (w : World) :
    Calls Tryz.prog 169 #[.string ⟨l.toArray⟩, .string ⟨p.toArray⟩] w fun e w' => e = .returned (.tuple #[.string ⟨(Lib.trimPrefix l p).toArray⟩, .bool (Lib.hasPrefix l p)]) ∧ w = w' :=
  (Laid.strings_CutPrefix ⟨l.toArray⟩ ⟨p.toArray⟩ w).mono fun _ _ h => ⟨h.1, h.2.symm⟩
end Go.Proofs.YtkgjbamkinfmeaaGreatDoor

/- strings.IndexByte, LastIndexByte, HasPrefix (CutPrefix: XCp) at this program, by the library's contracts (made by wip/tools/shelf2tpl.py), over texts as lists of bytes. -/
namespace Go.Proofs.YtkgjbamkinfmeaaGreatDoor
open Go.RowKit Go.Shelf Go.Lib
def Laid.lays137_ren : Go.Shelf.Ren := ⟨fun | 137 => 160 | 217 => 186 | 266 => 198 | n => n, fun | 9 => 9 | 5 => 5 | 3 => 3 | n => n, fun | n => n⟩
theorem Laid.lays137 : Go.Proofs.Lays.n137 Tryz.prog Laid.lays137_ren := {
  mixed := by kernel_rfl
  f137 := Tryz.func160.trans (congrArg some (by kernel_rfl))
  f217 := Tryz.func186.trans (congrArg some (by kernel_rfl))
  f266 := Tryz.func198.trans (congrArg some (by kernel_rfl))
  t3 := Tryz.underlying3
  a3 := Tryz.isAgg3
  z3 := Tryz.sizeOf3
  v3 := Tryz.zeroValue3
  t5 := Tryz.underlying5
  a5 := Tryz.isAgg5
  z5 := Tryz.sizeOf5
  v5 := Tryz.zeroValue5
  t9 := Tryz.underlying9
  a9 := Tryz.isAgg9
  z9 := Tryz.sizeOf9
  v9 := Tryz.zeroValue9 }
open Go.RowKit in
theorem Laid.strings_IndexByte (s : ByteArray) (c : Int) (w : World) :
    Calls Tryz.prog 160 #[.string s, .int .u8 c] w fun e w' => e = .returned (.int .i64 (Lib.indexByte s.data.toList c.toNat.toUInt8)) ∧ w' = w := Any.strings_IndexByte Laid.lays137 s c w
def Laid.lays149_ren : Go.Shelf.Ren := ⟨fun | 149 => 191 | 222 => 203 | n => n, fun | 9 => 9 | 5 => 5 | 3 => 3 | 4 => 4 | n => n, fun | n => n⟩
theorem Laid.lays149 : Go.Proofs.Lays.n149 Tryz.prog Laid.lays149_ren := {
  mixed := by kernel_rfl
  f149 := Tryz.func191.trans (congrArg some (by kernel_rfl))
  f222 := Tryz.func203.trans (congrArg some (by kernel_rfl))
  t3 := Tryz.underlying3
  a3 := Tryz.isAgg3
  z3 := Tryz.sizeOf3
  v3 := Tryz.zeroValue3
  t4 := Tryz.underlying4
  a4 := Tryz.isAgg4
  z4 := Tryz.sizeOf4
  v4 := Tryz.zeroValue4
  t5 := Tryz.underlying5
  a5 := Tryz.isAgg5
  z5 := Tryz.sizeOf5
  v5 := Tryz.zeroValue5
  t9 := Tryz.underlying9
  a9 := Tryz.isAgg9
  z9 := Tryz.sizeOf9
  v9 := Tryz.zeroValue9 }
open Go.RowKit Go.Lib in
theorem Laid.strings_LastIndexByte (s : ByteArray) (c : Int) (hs : s.size < 4611686018427387904) (w : World) :
    Calls Tryz.prog 191 #[.string s, .int .u8 c] w fun e w' => e = .returned (.int .i64 (Lib.lastIndexByte s c)) ∧ w' = w := Any.strings_LastIndexByte Laid.lays149 s c hs w
def Laid.lays99_ren : Go.Shelf.Ren := ⟨fun | 99 => 159 | 206 => 185 | n => n, fun | 9 => 9 | 4 => 4 | 3 => 3 | n => n, fun | n => n⟩
theorem Laid.lays99 : Go.Proofs.Lays.n99 Tryz.prog Laid.lays99_ren := {
  mixed := by kernel_rfl
  f99 := Tryz.func159.trans (congrArg some (by kernel_rfl))
  f206 := Tryz.func185.trans (congrArg some (by kernel_rfl))
  t3 := Tryz.underlying3
  a3 := Tryz.isAgg3
  z3 := Tryz.sizeOf3
  v3 := Tryz.zeroValue3
  t4 := Tryz.underlying4
  a4 := Tryz.isAgg4
  z4 := Tryz.sizeOf4
  v4 := Tryz.zeroValue4
  t9 := Tryz.underlying9
  a9 := Tryz.isAgg9
  z9 := Tryz.sizeOf9
  v9 := Tryz.zeroValue9 }
open Go.RowKit Go.Lib in
theorem Laid.strings_HasPrefix (s p : ByteArray) (w : World) :
    Calls Tryz.prog 159 #[.string s, .string p] w fun e w' => e = .returned (.bool (Lib.hasPrefix s.data.toList p.data.toList)) ∧ w' = w := Any.strings_HasPrefix Laid.lays99 s p w

theorem indexByte_any (l : List UInt8) (c : Int) (w : World) :
    Calls Tryz.prog 160 #[.string ⟨l.toArray⟩, .int .u8 c] w fun e w' => e = .returned (.int .i64 (Lib.indexByte l c.toNat.toUInt8)) ∧ w = w' :=
  (Laid.strings_IndexByte ⟨l.toArray⟩ c w).mono fun _ _ h => ⟨h.1, h.2.symm⟩
theorem hasPrefix_any (l p : List UInt8) (w : World) :
    Calls Tryz.prog 159 #[.string ⟨l.toArray⟩, .string ⟨p.toArray⟩] w fun e w' => e = .returned (.bool (Lib.hasPrefix l p)) ∧ w = w' :=
  (Laid.strings_HasPrefix ⟨l.toArray⟩ ⟨p.toArray⟩ w).mono fun _ _ h => ⟨h.1, h.2.symm⟩
/-- The last place of a byte, or -1. -/
def lastB (l : List UInt8) (c : Int) : Int := Lib.lastIndexByte ⟨l.toArray⟩ c
theorem lastIndex_any (l : List UInt8) (c : Int) (w : World) (hl : l.length ≤ 100000000) :
    Calls Tryz.prog 191 #[.string ⟨l.toArray⟩, .int .u8 c] w fun e w' => e = .returned (.int .i64 (lastB l c)) ∧ w = w' :=
  (Laid.strings_LastIndexByte ⟨l.toArray⟩ c (by show l.length < _; omega) w).mono fun _ _ h => ⟨h.1, h.2.symm⟩
theorem lastB_spec (l : List UInt8) (c : Int) : (lastB l c = -1 ∧ ∀ j, j < l.length → bt l j ≠ c) ∨ ∃ i : Nat, i < l.length ∧ lastB l c = i ∧ bt l i = c ∧ ∀ j, i < j → j < l.length → bt l j ≠ c := by
  have hb : ∀ j, (((⟨l.toArray⟩ : ByteArray).data[j]!).toNat : Int) = bt l j := by
    intro j
    unfold bt
    simp [List.getD, List.getElem!_eq_getElem?_getD]
    rfl
  rcases Lib.lastIndexByte_spec ⟨l.toArray⟩ c with ⟨h1, h2⟩ | ⟨i, h1, h2, h3, h4⟩
  · exact Or.inl ⟨h1, fun j hj => by rw [← hb]; exact h2 j hj⟩
  · exact Or.inr ⟨i, h1, h2, by rw [← hb]; exact h3, fun j h5 h6 => by rw [← hb]; exact h4 j h5 h6⟩
end Go.Proofs.YtkgjbamkinfmeaaGreatDoor

/- Layer 11: bytes of names, Name; a reader in memory; has, take, blanks. -/
namespace Go.Proofs.YtkgjbamkinfmeaaGreatDoor
open Go.RowKit

theorem lead11_any (c : Int) (w : World) : Calls Tryz.prog 155 #[.int .u8 c] w fun e w' => e = .returned (.bool (leadI c)) ∧ w = w' := by
  go_enter Tryz.func155, Tryz.ntmps155
  go_wp2_with fail
  all_goals go_ret
  all_goals refine ⟨ret_bool ?_, rfl⟩
  all_goals unfold leadI
  all_goals rw [Bool.eq_iff_iff]
  all_goals simp only [Bool.or_eq_true, decide_eq_true_eq, beq_iff_eq, true_iff]
  all_goals first | omega | simp
theorem foll11_any (c : Int) (w : World) : Calls Tryz.prog 181 #[.int .u8 c] w fun e w' => e = .returned (.bool (follI c)) ∧ w = w' := by
  have h := fun W : World => lead11_any c W
  unfold follI
  cases hq : leadI c
  all_goals
    rw [hq] at h
    replace h := Lib.hid h
    replace hq := Lib.hid hq
    go_enter Tryz.func181, Tryz.ntmps181
    go_wp2_with fail
    refine (h.out _).mono ?_; rintro e w' ⟨rfl, rfl⟩
    go_wp2_with fail
    all_goals go_ret
    all_goals refine ⟨ret_bool ?_, rfl⟩
    all_goals rw [Bool.eq_iff_iff]
    all_goals simp only [Bool.or_eq_true, Bool.and_eq_true, decide_eq_true_eq, beq_iff_eq, Bool.false_eq_true, false_or, Bool.true_or]
    all_goals try first | omega | simp
theorem blank11_any (c : Int) (w : World) : Calls Tryz.prog 152 #[.int .u8 c] w fun e w' => e = .returned (.bool (blI c)) ∧ w = w' := by
  go_enter Tryz.func152, Tryz.ntmps152
  go_wp2_with fail
  all_goals go_ret
  all_goals refine ⟨ret_bool ?_, rfl⟩
  all_goals unfold blI
  all_goals rw [Bool.eq_iff_iff]
  all_goals simp only [Bool.or_eq_true, decide_eq_true_eq, beq_iff_eq, true_iff]
  all_goals first | omega | simp

set_option maxHeartbeats 400000 in
theorem name11_any (s : List UInt8) (w : World) : Calls Tryz.prog 182 #[.string ⟨s.toArray⟩] w fun e w' => e = .returned (.bool (nameB s)) ∧ w = w' := by
  by_cases h0 : s.length = 0
  · have hn : nameB s = false := by unfold nameB; simp [h0]
    have he : s.isEmpty = true := by cases s <;> simp_all
    rw [hn]
    replace hn := Lib.hid hn
    replace h0 := Lib.hid h0
    go_enter Tryz.func182, Tryz.ntmps182
    go_wp2_with fail
    go_ret
    exact ⟨rfl, rfl⟩
  have he : s.isEmpty = false := by cases s <;> simp_all
  have hp : 0 < s.length := by omega
  by_cases h1 : 64 < s.length
  · have hn : nameB s = false := by unfold nameB; rw [decide_eq_false (by omega)]; rfl
    rw [hn]
    replace hn := Lib.hid hn
    replace h0 := Lib.hid h0
    go_enter Tryz.func182, Tryz.ntmps182
    go_wp2_with fail
    go_ret
    exact ⟨rfl, rfl⟩
  have hd : decide (1 ≤ s.length ∧ s.length ≤ 64) = true := by rw [decide_eq_true_eq]; omega
  have hl := fun W : World => lead11_any (bt s 0) W
  have hn : nameB s = (leadI (bt s 0) && s.all fun c => follI c.toNat) := by unfold nameB; rw [hd]; simp
  rw [hn]
  replace h0 := Lib.hid h0
  clear hd hn
  cases hq : leadI (bt s 0)
  · rw [hq] at hl
    replace hl := Lib.hid hl
    replace hq := Lib.hid hq
    go_enter Tryz.func182, Tryz.ntmps182
    go_wp2_with fail
    refine (hl.out _).mono ?_; rintro e w' ⟨rfl, rfl⟩
    go_wp2_with fail
    go_ret
    exact ⟨rfl, rfl⟩
  · rw [hq] at hl
    replace hl := Lib.hid hl
    replace hq := Lib.hid hq
    rw [Bool.true_and]
    go_enter Tryz.func182, Tryz.ntmps182
    go_wp2_with fail
    refine (hl.out _).mono ?_; rintro e w' ⟨rfl, rfl⟩
    clear hl
    go_wp2_with fail
    go_loop [19] (fun i => ∃ k : Nat, i = .int .i64 k ∧ k ≤ s.length ∧ Hid (∀ j, j < k → follI (bt s j) = true)) (fun i => s.length - (intOf i).toNat)
    case atStart => exact ⟨0, rfl, Nat.zero_le _, fun j hj => by omega⟩
    case round =>
      obtain ⟨k, rfl, hk, hall⟩ := hrel
      by_cases hlt : k < s.length
      · have hf := fun W : World => foll11_any (bt s k) W
        cases hc : follI (bt s k)
        · have hend : Hid ((s.all fun c => follI c.toNat) = false) := by
            show _ = _
            rw [Bool.eq_false_iff]
            intro ha
            have := (all_bt follI s).1 ha k hlt
            rw [hc] at this; cases this
          rw [hc] at hf
          replace hf := Lib.hid hf
          replace hc := Lib.hid hc
          go_wp2_with fail
          refine (hf.out _).mono ?_; rintro e w' ⟨rfl, rfl⟩
          go_wp2_with fail
          go_ret
          exact ⟨ret_bool hend.out.symm, rfl⟩
        · rw [hc] at hf
          replace hf := Lib.hid hf
          replace hc := Lib.hid hc
          go_wp2_with fail
          refine (hf.out _).mono ?_; rintro e w' ⟨rfl, rfl⟩
          go_wp2_with fail
          exact ⟨⟨k + 1, by go_num, by omega, fun j hj => by
            by_cases e : j = k
            · subst e; exact hc.out
            · exact hall.out j (by omega)⟩, by simp [intOf]; omega⟩
      · have hend : Hid ((s.all fun c => follI c.toNat) = true) := (all_bt follI s).2 fun j hj => hall.out j (by omega)
        have hlt2 : ¬ ((k : Int) < s.length) := by omega
        clear hall
        go_wp2_with fail
        go_ret
        exact ⟨ret_bool hend.out.symm, rfl⟩

/-- A reader's cells, but for its place. -/
structure RC where
  l : List UInt8
  dep : Int
  rt : Bool
  vO : Value
  vT : Value
  vK : Value
def RC.cells (c : RC) (k : Nat) : List Value := [.string ⟨c.l.toArray⟩, .int .i64 k, .int .i64 c.dep, .bool c.rt, c.vO, c.vT, c.vK]
/-- A reader in memory, at a place. -/
def Rd (w : World) (R : Nat) (c : RC) (k : Nat) : Prop := ArrAt w R 119 (c.cells k)
section
variable {w w' : World} {R : Nat} {c : RC} {k : Nat}
theorem Rd.c0 (h : Rd w R c k) : w.cell? ⟨R, 0, none⟩ = some (.string ⟨c.l.toArray⟩) := by rw [ArrAt.cell h]; rfl
theorem Rd.c1 (h : Rd w R c k) : w.cell? ⟨R, 1, none⟩ = some (.int .i64 k) := by rw [ArrAt.cell h]; rfl
theorem Rd.c2 (h : Rd w R c k) : w.cell? ⟨R, 2, none⟩ = some (.int .i64 c.dep) := by rw [ArrAt.cell h]; rfl
theorem Rd.c3 (h : Rd w R c k) : w.cell? ⟨R, 3, none⟩ = some (.bool c.rt) := by rw [ArrAt.cell h]; rfl
theorem Rd.c4 (h : Rd w R c k) : w.cell? ⟨R, 4, none⟩ = some c.vO := by rw [ArrAt.cell h]; rfl
theorem Rd.c5 (h : Rd w R c k) : w.cell? ⟨R, 5, none⟩ = some c.vT := by rw [ArrAt.cell h]; rfl
theorem Rd.c6 (h : Rd w R c k) : w.cell? ⟨R, 6, none⟩ = some c.vK := by rw [ArrAt.cell h]; rfl
theorem Rd.fz (h : Rd w R c k) (i : Nat) : w.frozen? ⟨R, i, none⟩ = false := ArrAt.soft h i
theorem Rd.lt (h : Rd w R c k) : R < w.heap.size := ArrAt.lt h
theorem Rd.turned {S : Nat → Prop} (h : Rd w R c k) (ht : Turned S w w') (hS : ¬ S R) : Rd w' R c k := ArrAt.turned h ht hS
theorem Rd.below (h : Rd w R c k) (hb : Below w.heap.size w w') : Rd w' R c k := h.turned (S := fun _ => False) (Turned.of_below hb) fun h => h
theorem Rd.drawn (h : Rd w R c k) (hd : Drawn w w') : Rd w' R c k := h.below (hd.below _)
theorem Rd.move (h : Rd w R c k) (k' : Nat) {x : Int} (e : x = k') : Rd (w.setCell ⟨R, 1, none⟩ (.int .i64 x)) R c k' := by subst e; exact ArrAt.set h 1 _
end

set_option maxHeartbeats 400000 in
theorem has11_any (R : Nat) (c : RC) (k : Nat) (p : List UInt8) (w : World) (h : Rd w R c k) (hk : k ≤ c.l.length) (_hl : c.l.length ≤ 100000) :
    Calls Tryz.prog 122 #[.pointer (some ⟨R, 0, none⟩), .string ⟨p.toArray⟩] w fun e w' => e = .returned (.bool (Lib.hasPrefix (c.l.drop k) p)) ∧ Drawn w w' := by
  have c0 := h.c0
  have c1 := h.c1
  replace h := Lib.hid h
  have hp := fun W : World => hasPrefix_any (c.l.drop k) p W
  replace hp := Lib.hid hp
  generalize hq : Lib.hasPrefix (c.l.drop k) p = b at hp
  replace hq := Lib.hid hq
  have htl : c.l.take c.l.length = c.l := List.take_length
  go_enter Tryz.func122, Tryz.ntmps122
  go_wp2_with fail
  go_quiet ((go_at_call 159; exact Calls.drawn_at (hp.out _)))
  go_wp2_with fail
  go_ret
  exact ⟨rfl, ⟨_, rfl⟩⟩

set_option maxHeartbeats 400000 in
theorem take11_any (R : Nat) (c : RC) (k : Nat) (p : List UInt8) (w : World) (h : Rd w R c k) (hk : k ≤ c.l.length) (hl : c.l.length ≤ 100000) :
    Calls Tryz.prog 114 #[.pointer (some ⟨R, 0, none⟩), .string ⟨p.toArray⟩] w fun e w' => e = .returned (.bool (Lib.hasPrefix (c.l.drop k) p)) ∧ Rd w' R c (if Lib.hasPrefix (c.l.drop k) p then k + p.length else k) ∧ Turned (fun b => b = R) w w' := by
  have hh := has11_any R c k p w h hk hl
  have hpl : Lib.hasPrefix (c.l.drop k) p = true → k + p.length ≤ c.l.length := by
    intro e
    have := (List.isPrefixOf_iff_prefix.1 e).length_le
    rw [List.length_drop] at this
    omega
  cases hq : Lib.hasPrefix (c.l.drop k) p
  · rw [hq] at hh
    rw [if_neg (by decide)]
    replace hh := Lib.hid hh
    replace hq := Lib.hid hq
    replace h := Lib.hid h
    clear hpl
    go_enter Tryz.func114, Tryz.ntmps114
    go_wp2_with fail
    refine hh.out.mono ?_; rintro e w' ⟨rfl, n, rfl⟩
    go_wp2_with fail
    go_ret
    exact ⟨rfl, h.out.drawn ⟨n, rfl⟩, Turned.of_below (Drawn.below ⟨n, rfl⟩ _)⟩
  · rw [hq] at hh
    rw [if_pos rfl]
    have hpl := hpl hq
    replace hh := Lib.hid hh
    replace hq := Lib.hid hq
    go_enter Tryz.func114, Tryz.ntmps114
    go_wp2_with fail
    refine hh.out.mono ?_; rintro e w' ⟨rfl, n, rfl⟩
    have h' := h.drawn (drawn_drewN w n)
    have c1 := h'.c1
    have f1 := h'.fz 1
    replace h' := Lib.hid h'
    replace h := Lib.hid h
    go_wp2_with fail
    go_ret
    exact ⟨rfl, h'.out.move _ (by omega), (Turned.of_below (Drawn.below ⟨n, rfl⟩ _)).trans (turned_setCell _ _ _) fun _ _ e => e⟩

set_option maxHeartbeats 1000000 in
theorem blanks11_any (R : Nat) (c : RC) (k : Nat) (w : World) (h : Rd w R c k) (hk : k ≤ c.l.length) (hl : c.l.length ≤ 100000) :
    Calls Tryz.prog 115 #[.pointer (some ⟨R, 0, none⟩)] w fun e w' => e = .returned (.bool (decide (0 < spanN blI (c.l.drop k)))) ∧ Rd w' R c (k + spanN blI (c.l.drop k)) ∧ Turned (fun b => b = R) w w' := by
  have c1 := h.c1
  have hst : Hid (Rd w R c k) := h
  clear h
  go_enter Tryz.func115, Tryz.ntmps115
  go_wp2_with fail
  go_loopw [] (fun wr => ∃ m : Nat, k ≤ m ∧ m ≤ c.l.length ∧ Hid (SpAtN blI (c.l.drop k) (m - k)) ∧ Hid (Rd wr R c m) ∧ Hid (Turned (fun b => b = R) w wr)) (fun wr => c.l.length - (intOf ((wr.cell? ⟨R, 1, none⟩).getD undef)).toNat)
  case atStart => exact ⟨k, Nat.le_refl _, hk, by rw [Nat.sub_self]; exact SpAtN.zero _ _, hst.out, Turned.refl _ _⟩
  case round =>
    clear c1 hst
    obtain ⟨m, hkm, hm, hsp, hr, ht⟩ := hrel
    have c0 := hr.out.c0
    have c1 := hr.out.c1
    have f1 := hr.out.fz 1
    have hdl : (c.l.drop k).length = c.l.length - k := List.length_drop
    have hbt : bt (c.l.drop k) (m - k) = bt c.l m := by rw [bt_drop]; congr 1; omega
    replace hdl := Lib.hid hdl
    replace hbt := Lib.hid hbt
    by_cases hlt : m < c.l.length
    · have hlt1 : (m : Int) < c.l.length := by omega
      have hbl := fun W : World => blank11_any (bt c.l m) W
      cases hb : blI (bt c.l m)
      · have hend : Hid (spanN blI (c.l.drop k) = m - k) := hsp.out.stop (by rw [hdl.out]; omega) (by rw [hbt.out]; exact hb)
        rw [hb] at hbl
        replace hbl := Lib.hid hbl
        replace hb := Lib.hid hb
        go_wp2_with fail
        go_quiet ((go_at_call 152; exact Calls.drawn_at (hbl.out _)))
        go_wp2_with fail
        go_ret
        refine ⟨ret_bool ?_, ?_, ht.out.trans (Turned.of_below (Drawn.below ⟨_, rfl⟩ _) : Turned (fun b => b = R) _ _) fun _ _ e => e⟩
        · rw [hend.out, Bool.eq_iff_iff]; simp only [decide_eq_true_eq]; omega
        · rw [hend.out, show k + (m - k) = m by omega]; exact hr.out.drawn ⟨_, rfl⟩
      · have hnx : Hid (SpAtN blI (c.l.drop k) (m + 1 - k)) := by
          have := hsp.out.step (by rw [hdl.out]; omega) (by rw [hbt.out]; exact hb)
          rw [show m - k + 1 = m + 1 - k by omega] at this
          exact this
        rw [hb] at hbl
        replace hbl := Lib.hid hbl
        replace hb := Lib.hid hb
        go_wp2_with fail
        go_quiet ((go_at_call 152; exact Calls.drawn_at (hbl.out _)))
        go_wp2_with fail
        have hmv := (hr.out.drawn (drawn_drewN wr nq)).move (m + 1) (x := (m : Int) + 1) (by omega)
        refine ⟨⟨m + 1, by omega, by omega, hnx, hmv, (ht.out.trans (Turned.of_below (Drawn.below ⟨_, rfl⟩ _) : Turned (fun b => b = R) wr (wr.drewN nq)) fun _ _ e => e).trans (turned_setCell _ _ _) fun _ _ e => e⟩, ?_⟩
        rw [c1, hmv.c1]
        simp [intOf]; omega
    · have hlt1 : decide ((m : Int) < c.l.length) = false := by rw [decide_eq_false_iff_not]; omega
      have hend : Hid (spanN blI (c.l.drop k) = m - k) := hsp.out.done (by rw [hdl.out]; omega)
      go_wp2_with fail
      go_quiet (fail)
      go_wp2_with fail
      go_ret
      refine ⟨ret_bool ?_, ?_, ht.out.trans (Turned.of_below (Drawn.below ⟨_, rfl⟩ _) : Turned (fun b => b = R) _ _) fun _ _ e => e⟩
      · rw [hend.out, Bool.eq_iff_iff]; simp only [decide_eq_true_eq]; omega
      · rw [hend.out, show k + (m - k) = m by omega]; exact hr.out.drawn ⟨_, rfl⟩
end Go.Proofs.YtkgjbamkinfmeaaGreatDoor

/- The walks of Is, lead, follower, put, Bytes, Encode: the program's and the reference's. -/
namespace Go.Proofs.YtkgjbamkinfmeaaGreatDoor
open Go.RowKit


set_option maxHeartbeats 400000 in
theorem follower_any (r : Int) (w : World) (_h0 : 0 ≤ r) (_h1 : r ≤ 1114111) :
    Calls Tryz.prog 215 #[.int .i32 r] w fun e w' => e = .returned (.int .u8 (128 + r % 64)) ∧ w = w' := by
  go_enter Tryz.func215, Tryz.ntmps215
  go_wp2
  go_ret
  exact ⟨ret_int (by omega), rfl⟩

set_option maxHeartbeats 400000 in
theorem lead_any (r : Int) (w : World) (h0 : 0 ≤ r) (h1 : r ≤ 1114111) :
    Calls Tryz.prog 214 #[.int .i32 r] w fun e w' => e = .returned (.tuple #[.int .u8 ((encR r).headD 0), .int .i64 (folN r)]) ∧ w = w' := by
  go_enter Tryz.func214, Tryz.ntmps214
  go_wp2
  all_goals go_ret2
  all_goals refine ⟨ret_int2 ?_ ?_, rfl⟩
  all_goals first | (unfold encR) | (unfold folN)
  all_goals (repeat (first | rw [if_pos (by omega)] | rw [if_neg (by omega)]))
  all_goals rfl

theorem isR_eq {r : Int} {b : Bool} (h : (0 ≤ r ∧ r ≤ 1114111 ∧ ¬ (55296 ≤ r ∧ r ≤ 57343)) ↔ b = true) : Ending.returned (.bool b) = .returned (.bool (isR r)) := by
  rw [show isR r = b from by unfold isR; cases b <;> simp at h ⊢ <;> omega]

set_option maxHeartbeats 400000 in
theorem is_any (r : Int) (w : World) :
    Calls Tryz.prog 213 #[.int .i32 r] w fun e w' => e = .returned (.bool (isR r)) ∧ w = w' := by
  by_cases h1 : 0 ≤ r <;> by_cases h2 : r ≤ 1114111 <;> by_cases h3 : 55296 ≤ r <;> by_cases h4 : r ≤ 57343
  all_goals first | (exfalso; omega) | skip
  all_goals
    go_enter Tryz.func213, Tryz.ntmps213
    go_wp2
    go_ret
    exact ⟨isR_eq (by simp; omega), rfl⟩

set_option maxHeartbeats 400000 in
theorem refis_any (r : Int) (w : World) :
    Calls Tryz.prog 151 #[.int .i32 r] w fun e w' => e = .returned (.bool (isR r)) ∧ w = w' := by
  by_cases h1 : 0 ≤ r <;> by_cases h2 : r ≤ 1114111 <;> by_cases h3 : 55296 ≤ r <;> by_cases h4 : r ≤ 57343
  all_goals first | (exfalso; omega) | skip
  all_goals
    go_enter Tryz.func151, Tryz.ntmps151
    go_wp2
    go_ret
    exact ⟨isR_eq (by simp; omega), rfl⟩

theorem info_byte : (Tryz.prog.info? 5).map (fun i => (i.zero, i.size, i.bytes)) = some (some (.int .u8 0), 1, 1) := by kernel_rfl

/-- A slice of bytes that the call itself made. -/
def Byts (w : World) (B : Nat) (v : Value) (xs : List Int) : Prop := w.ownsRow B 5 1 v xs.length (xs.map (Value.int .u8))

def PutPost (B : Nat) (w : World) (xs : List Int) (e : Ending) (w' : World) : Prop := ∃ v, e = .returned v ∧ Byts w' B v xs ∧ Below B w w'

theorem isR_bd {r : Int} (h : isR r = true) : 0 ≤ r ∧ r ≤ 1114111 := by unfold isR at h; simp at h; omega

theorem byts_mk {w : World} {B : Nat} {v : Value} {xs : List Int} (ys : List Int) {n : Nat} (h : w.ownsRow B 5 1 v n (xs.map (Value.int .u8) ++ ys.map (Value.int .u8))) (hn : n = xs.length + ys.length) : Byts w B v (xs ++ ys) := by
  subst hn; unfold Byts; rw [List.length_append, List.map_append]; exact h

set_option maxHeartbeats 400000 in
theorem putR_any (B : Nat) (v : Value) (xs : List Int) (r : Int) (w : World) (hr : isR r = true) (hown : Byts w B v xs) (hB : B ≤ w.heap.size) (hn : xs.length ≤ 1000000) :
    Calls Tryz.prog 210 #[v, .int .i32 r] w (PutPost B w (xs ++ encR r)) := by
  have hb := isR_bd hr
  replace hown := Lib.hid hown
  have hc : (r < 128 ∧ encR r = [r] ∧ folN r = 0) ∨ (128 ≤ r ∧ r < 2048 ∧ encR r = [192 + r / 64, 128 + r % 64] ∧ folN r = 1) ∨
      (2048 ≤ r ∧ r < 65536 ∧ encR r = [224 + r / 4096, 128 + r / 64 % 64, 128 + r % 64] ∧ folN r = 2) ∨
      (65536 ≤ r ∧ encR r = [240 + r / 262144, 128 + r / 4096 % 64, 128 + r / 64 % 64, 128 + r % 64] ∧ folN r = 3) := by
    unfold encR folN
    by_cases h1 : r < 128
    · rw [if_pos h1, if_pos h1]; exact Or.inl ⟨h1, rfl, rfl⟩
    · by_cases h2 : r < 2048
      · rw [if_neg h1, if_pos h2, if_neg h1, if_pos h2]; exact Or.inr (Or.inl ⟨by omega, h2, rfl, rfl⟩)
      · by_cases h3 : r < 65536
        · rw [if_neg h1, if_neg h2, if_pos h3, if_neg h1, if_neg h2, if_pos h3]; exact Or.inr (Or.inr (Or.inl ⟨by omega, h3, rfl, rfl⟩))
        · rw [if_neg h1, if_neg h2, if_neg h3, if_neg h1, if_neg h2, if_neg h3]; exact Or.inr (Or.inr (Or.inr ⟨by omega, rfl, rfl⟩))
  rcases hc with ⟨c1, ce, cf⟩ | ⟨c1, c2, ce, cf⟩ | ⟨c1, c2, ce, cf⟩ | ⟨c1, ce, cf⟩
  all_goals
    rw [ce]
    go_enter Tryz.func210, Tryz.ntmps210
    go_wp2_with fail
    refine (is_any r _).mono ?_; rintro e w' ⟨rfl, rfl⟩
    go_wp2_with fail
    refine (lead_any r _ (by omega) (by omega)).mono ?_; rintro e w' ⟨rfl, rfl⟩
    rw [ce, cf]
    clear ce cf
    go_wp2_with (at_builtin; go_must (refine wpList_append1 rfl _ _ 117 5 rfl Tryz.underlying117 (.int .u8 0) 1 info_byte rfl (by decide) B _ _ _ _ hown.out rfl rfl rfl (by omega) (by omega) ?_))
    intro v1 w1 hown1 hb1 _
    replace hown1 := Lib.hid hown1
    have hs1 := hb1.size
    replace hb1 := Lib.hid hb1
    go_wp2_with fail
  · go_ret
    exact ⟨_, rfl, byts_mk _ hown1.out rfl, hb1.out⟩
  · refine (follower_any r _ (by omega) (by omega)).mono ?_; rintro e w' ⟨rfl, rfl⟩
    go_wp2_with (at_builtin; go_must (refine wpList_append1 rfl _ _ 117 5 rfl Tryz.underlying117 (.int .u8 0) 1 info_byte rfl (by decide) B _ _ _ _ hown1.out rfl rfl rfl (by omega) (by omega) ?_))
    intro v2 w2 hown2 hb2 _
    replace hown2 := Lib.hid hown2
    replace hb2 := Lib.hid hb2
    go_wp2_with fail
    go_ret
    exact ⟨_, rfl, byts_mk _ hown2.out rfl, hb1.out.trans hb2.out⟩
  · refine (follower_any (r / 64) _ (by omega) (by omega)).mono ?_; rintro e w' ⟨rfl, rfl⟩
    go_wp2_with (at_builtin; go_must (refine wpList_append1 rfl _ _ 117 5 rfl Tryz.underlying117 (.int .u8 0) 1 info_byte rfl (by decide) B _ _ _ _ hown1.out rfl rfl rfl (by omega) (by omega) ?_))
    intro v2 w2 hown2 hb2 _
    replace hown2 := Lib.hid hown2
    have hs2 := hb2.size
    replace hb2 := Lib.hid hb2
    go_wp2_with fail
    refine (follower_any r _ (by omega) (by omega)).mono ?_; rintro e w' ⟨rfl, rfl⟩
    go_wp2_with (at_builtin; go_must (refine wpList_append1 rfl _ _ 117 5 rfl Tryz.underlying117 (.int .u8 0) 1 info_byte rfl (by decide) B _ _ _ _ hown2.out rfl rfl rfl (by omega) (by omega) ?_))
    intro v3 w3 hown3 hb3 _
    replace hown3 := Lib.hid hown3
    replace hb3 := Lib.hid hb3
    go_wp2_with fail
    go_ret
    exact ⟨_, rfl, byts_mk _ hown3.out rfl, (hb1.out.trans hb2.out).trans hb3.out⟩
  · refine (follower_any (r / 4096) _ (by omega) (by omega)).mono ?_; rintro e w' ⟨rfl, rfl⟩
    go_wp2_with (at_builtin; go_must (refine wpList_append1 rfl _ _ 117 5 rfl Tryz.underlying117 (.int .u8 0) 1 info_byte rfl (by decide) B _ _ _ _ hown1.out rfl rfl rfl (by omega) (by omega) ?_))
    intro v2 w2 hown2 hb2 _
    replace hown2 := Lib.hid hown2
    have hs2 := hb2.size
    replace hb2 := Lib.hid hb2
    go_wp2_with fail
    refine (follower_any (r / 64) _ (by omega) (by omega)).mono ?_; rintro e w' ⟨rfl, rfl⟩
    go_wp2_with (at_builtin; go_must (refine wpList_append1 rfl _ _ 117 5 rfl Tryz.underlying117 (.int .u8 0) 1 info_byte rfl (by decide) B _ _ _ _ hown2.out rfl rfl rfl (by omega) (by omega) ?_))
    intro v3 w3 hown3 hb3 _
    replace hown3 := Lib.hid hown3
    have hs3 := hb3.size
    replace hb3 := Lib.hid hb3
    go_wp2_with fail
    refine (follower_any r _ (by omega) (by omega)).mono ?_; rintro e w' ⟨rfl, rfl⟩
    go_wp2_with (at_builtin; go_must (refine wpList_append1 rfl _ _ 117 5 rfl Tryz.underlying117 (.int .u8 0) 1 info_byte rfl (by decide) B _ _ _ _ hown3.out rfl rfl rfl (by omega) (by omega) ?_))
    intro v4 w4 hown4 hb4 _
    replace hown4 := Lib.hid hown4
    replace hb4 := Lib.hid hb4
    go_wp2_with fail
    go_ret
    exact ⟨_, rfl, byts_mk _ hown4.out rfl, ((hb1.out.trans hb2.out).trans hb3.out).trans hb4.out⟩
end Go.Proofs.YtkgjbamkinfmeaaGreatDoor
