/- Slices of strings: read, made, compared with what they hold. -/
import Derived.Test.YtpfcamebkcengaaBase
import Derived.Test.YtpfcamebkcengaaApp
namespace Go.Proofs.Ytpfcamebkcengaa
open Go.RowKit

/-- A text as a value. -/
def strV (l : List UInt8) : Value := .string ⟨l.toArray⟩
theorem info_str : (Try.prog.info? 9).map (fun i => (i.zero, i.size, i.bytes)) = some (some (.string ⟨#[]⟩), 1, 16) := by kernel_rfl
/-- A slice of strings that the call itself made. -/
def Strs (w : World) (B : Nat) (v : Value) (xs : List (List UInt8)) : Prop := w.ownsRow B 9 1 v xs.length (xs.map strV)
/-- A slice of strings that can be read: wherever it lies. -/
def StrSl (w : World) (v : Value) (xs : List (List UInt8)) : Prop :=
  (xs = [] ∧ ∃ a c, v = .slice a 0 c) ∨ ∃ b off c, xs.length ≤ c ∧ v = .slice (some ⟨b, off, none⟩) xs.length c ∧ ∀ j, j < xs.length → w.cell? ⟨b, off + j, none⟩ = some (strV (xs.getD j []))

theorem strSl_own {w : World} {B : Nat} {E : TypeId} {v : Value} {xs : List (List UInt8)} (h : w.ownsRow B E 1 v xs.length (xs.map strV)) : StrSl w v xs := by
  rcases h.2 with ⟨hv, hn⟩ | ⟨g, cap, cur, hv, _, _, hcap, _⟩
  · exact Or.inl ⟨List.length_eq_zero_iff.1 hn, _, _, hv⟩
  · refine Or.inr ⟨g, 0, cap, hcap, hv, fun j hj => ?_⟩
    have := h.cells (g := g) (by rw [hv]; rfl) j (strV (xs.getD j [])) (by simp [hj, List.getD])
    have hadd : (⟨g, 0, none⟩ : Addr).add j = ⟨g, 0 + j, none⟩ := by unfold Addr.add; split <;> simp_all
    rw [hadd] at this; exact this
theorem StrSl.drawn {w w' : World} {v : Value} {xs : List (List UInt8)} (h : StrSl w v xs) (hd : Drawn w w') : StrSl w' v xs := by
  obtain ⟨n, rfl⟩ := hd; exact h
theorem StrSl.below {w w' : World} {v : Value} {xs : List (List UInt8)} {B : Nat} (h : StrSl w v xs) (hb : Below B w w') (hv : SlBelow B v) : StrSl w' v xs := by
  rcases h with h | ⟨b, off, c, hc, rfl, h⟩
  · exact Or.inl h
  · exact Or.inr ⟨b, off, c, hc, rfl, fun j hj => (hb.cell (p := ⟨b, off + j, none⟩) (hv ⟨b, off, none⟩ _ _ rfl (by omega))).trans (h j hj)⟩
theorem StrSl.nil {w : World} {v : Value} {xs : List (List UInt8)} (h : StrSl w v xs) (hx : xs = []) : ∃ a c, v = .slice a 0 c := by
  rcases h with ⟨_, h⟩ | ⟨b, off, c, _, h, _⟩
  · exact h
  · subst hx; exact ⟨_, _, h⟩
theorem StrSl.some {w : World} {v : Value} {xs : List (List UInt8)} (h : StrSl w v xs) (hx : xs ≠ []) :
    ∃ b off c, v = .slice (some ⟨b, off, none⟩) xs.length c ∧ ∀ j, j < xs.length → w.cell? ⟨b, off + j, none⟩ = some (strV (xs.getD j [])) := by
  rcases h with ⟨h, _⟩ | ⟨b, off, c, _, h⟩
  · exact absurd h hx
  · exact ⟨b, off, c, h⟩
theorem StrSl.form {w : World} {v : Value} {xs : List (List UInt8)} (h : StrSl w v xs) : ∃ a c, v = .slice a xs.length c := by
  rcases h with ⟨rfl, a, c, h⟩ | ⟨b, off, c, _, h, _⟩
  · exact ⟨a, c, h⟩
  · exact ⟨_, c, h⟩
theorem strs_mk {w : World} {B : Nat} {v : Value} {xs : List (List UInt8)} {x : List UInt8} (h : w.ownsRow B 9 1 v (xs.length + 1) (xs.map strV ++ [strV x])) : Strs w B v (xs ++ [x]) := by
  unfold Strs; rw [List.length_append, List.map_append]; exact h
theorem strs_app {w : World} {B : Nat} {v : Value} {xs ys : List (List UInt8)} (h : w.ownsRow B 9 1 v (xs.length + ys.length) (xs.map strV ++ ys.map strV)) : Strs w B v (xs ++ ys) := by
  unfold Strs; rw [List.length_append, List.map_append]; exact h
/-- A slice's length, in a slot. -/
def slLen : Value → Nat
  | .slice _ n _ => n
  | _ => 0
theorem slLen_own {w : World} {B : Nat} {E : TypeId} {z : Nat} {v : Value} {n : Nat} {xs : List Value} (h : w.ownsRow B E z v n xs) : slLen v = n := by
  rcases h.2 with ⟨rfl, rfl⟩ | ⟨g, cap, cur, rfl, _⟩ <;> rfl
/-- The form of what the call itself made. -/
theorem own_form {w : World} {B : Nat} {E : TypeId} {z : Nat} {v : Value} {n : Nat} {xs : List Value} (h : w.ownsRow B E z v n xs) : ∃ a c, v = .slice a n c := by
  rcases h.2 with ⟨rfl, rfl⟩ | ⟨g, cap, cur, rfl, _⟩
  · exact ⟨_, _, rfl⟩
  · exact ⟨_, _, rfl⟩
theorem own_cap {w : World} {B : Nat} {E : TypeId} {z : Nat} {v : Value} {n : Nat} {xs : List Value} (h : w.ownsRow B E z v n xs) : ∃ a c, v = .slice a n c ∧ n ≤ c := by
  rcases h.2 with ⟨rfl, rfl⟩ | ⟨g, cap, cur, rfl, _, _, h, _⟩
  · exact ⟨_, _, rfl, Nat.le_refl _⟩
  · exact ⟨_, _, rfl, h⟩
/-- A part of a slice of integers. -/
theorem intSl_sub {k : IntKind} {w : World} {b off c : Nat} {xs : List Int} (h : IntSl k w (.slice (some ⟨b, off, none⟩) xs.length c) xs) (h0 : xs ≠ []) (i m c' : Nat) (hi : i ≤ m) (hm : m ≤ xs.length) :
    IntSl k w (.slice (some ⟨b, off + i, none⟩) (m - i) c') ((xs.drop i).take (m - i)) := by
  have hl : ((xs.drop i).take (m - i)).length = m - i := by simp; omega
  refine Or.inr ⟨b, off + i, c', by rw [hl], fun j hj => ?_⟩
  obtain ⟨b', o', c'', e, hc⟩ := h.some h0
  injection e with e e'' e'
  injection e with e
  injection e with e1 e2
  subst e1 e2
  rw [hl] at hj
  have := hc (i + j) (by omega)
  rw [show off + i + j = off + (i + j) from by omega, this]
  simp [List.getD, hj]
/-- A part of a slice of strings. -/
theorem strSl_sub {w : World} {b off c : Nat} {xs : List (List UInt8)} (h : StrSl w (.slice (some ⟨b, off, none⟩) xs.length c) xs) (h0 : xs ≠ []) (i m c' : Nat) (hi : i ≤ m) (hm : m ≤ xs.length) (hc' : m - i ≤ c') :
    StrSl w (.slice (some ⟨b, off + i, none⟩) (m - i) c') ((xs.drop i).take (m - i)) := by
  have hl : ((xs.drop i).take (m - i)).length = m - i := by simp; omega
  refine Or.inr ⟨b, off + i, c', by rw [hl]; exact hc', by rw [hl], fun j hj => ?_⟩
  obtain ⟨b', o', c'', e, hc⟩ := h.some h0
  injection e with e e'' e'
  injection e with e
  injection e with e1 e2
  subst e1 e2
  rw [hl] at hj
  have := hc (i + j) (by omega)
  rw [show off + i + j = off + (i + j) from by omega, this]
  simp [List.getD, hj]
/-- A slice of strings, just built. -/
theorem strSl_new (w : World) (E : TypeId) (xs : List (List UInt8)) (n : Nat) (hn : n = xs.length) : StrSl (w.alloc (.cells (xs.map strV).toArray E)) (.slice (some ⟨w.heap.size, 0, none⟩) n n) xs := by
  subst hn
  refine Or.inr ⟨_, 0, _, Nat.le_refl _, rfl, fun j hj => ?_⟩
  rw [cell_of_row _ _ _ _ _ _ (heap_alloc_new w _)]
  simp [List.getD, hj]
/-- A slice of integers, just built. -/
theorem intSl_new (w : World) (k : IntKind) (E : TypeId) (xs : List Int) (n : Nat) (hn : n = xs.length) : IntSl k (w.alloc (.cells (xs.map (Value.int k)).toArray E)) (.slice (some ⟨w.heap.size, 0, none⟩) n n) xs := by
  subst hn
  refine Or.inr ⟨_, 0, _, rfl, fun j hj => ?_⟩
  rw [cell_of_row _ _ _ _ _ _ (heap_alloc_new w _)]
  simp [List.getD, hj]
theorem slBelow_new (w : World) (E : TypeId) (vs : Array Value) (n c : Nat) : SlBelow (w.alloc (.cells vs E)).heap.size (.slice (some ⟨w.heap.size, 0, none⟩) n c) := by
  intro a' n' c' e _
  injection e with e
  injection e with e
  subst e
  simp
/-- The capacity has room for what is in it. -/
theorem StrSl.cap {w : World} {a : Option Addr} {n c : Nat} {xs : List (List UInt8)} (h : StrSl w (.slice a n c) xs) : n = xs.length ∧ (xs ≠ [] → xs.length ≤ c) := by
  rcases h with ⟨rfl, a', c', e⟩ | ⟨b, off, c', hc, e, _⟩
  · injection e with _ e _; exact ⟨e, fun h => absurd rfl h⟩
  · injection e with _ e e2; exact ⟨e, fun _ => by omega⟩
theorem ownsRow_mono {w : World} {B B' : Nat} {E : TypeId} {z : Nat} {v : Value} {n : Nat} {xs : List Value} (h : w.ownsRow B E z v n xs) (hb : B' ≤ B) : w.ownsRow B' E z v n xs := by
  rcases h.2 with h2 | ⟨g, cap, cur, h2, h3, h4⟩
  · exact ⟨h.1, Or.inl h2⟩
  · exact ⟨h.1, Or.inr ⟨g, cap, cur, h2, Nat.le_trans hb h3, h4⟩⟩
/-- Bytes as the numbers that a slice of them holds. -/
def nums (l : List UInt8) : List Int := l.map fun c => (c.toNat : Int)
theorem nums_app (a b : List UInt8) : nums (a ++ b) = nums a ++ nums b := by unfold nums; simp
theorem nums_len (a : List UInt8) : (nums a).length = a.length := by unfold nums; simp
theorem Strs.sl {w : World} {B : Nat} {v : Value} {xs : List (List UInt8)} (h : Strs w B v xs) : StrSl w v xs := strSl_own h
theorem Strs.low {w : World} {B : Nat} {v : Value} {xs : List (List UInt8)} (h : Strs w B v xs) : SlBelow w.heap.size v := slBelow_own h
end Go.Proofs.Ytpfcamebkcengaa
