/- The walks of crc's step, Sum, Four, Read. -/
import Derived.Test.YtahndjgamoojkaaBR02
import Derived.Test.YtahndjgamoojkaaBR04
import Derived.Test.YtahndjgamoojkaaBR05
import Derived.Test.YtahndjgamoojkaaBR03
import Derived.Deep.RegionHeld3
namespace Go.Proofs.Ytahndjgamoojkaa
open Go.RowKit

theorem u32_and1 {x : Int} (h0 : 0 ≤ x) (h1 : x ≤ 4294967295) : bits .and .u32 x 1 = x % 2 := by
  rw [u32_and x 1 h0 (by omega) (by decide) (by decide), show Int.toNat 1 = 1 from rfl, nat_mask1]
  omega
theorem u32_xor0 {x : Int} (h0 : 0 ≤ x) (h1 : x ≤ 4294967295) : bits .xor .u32 x 0 = x := by
  rw [u32_xor x 0 h0 (by omega) (by decide) (by decide)]
  simp
  omega
theorem u32_no : bits .and .u32 0 3988292384 = 0 := by decide
theorem u32_all : bits .and .u32 4294967295 3988292384 = 3988292384 := by decide
/-- Four bytes in a row of the call's own, of which the first k are a number's. -/
def row4 (n : Int) (k : Nat) : List Value := (List.range 4).map fun j => .int .u8 (if j < k then n / 2 ^ (8 * j) % 256 else 0)
theorem row4_next (n : Int) (k : Nat) (h : k < 4) : (row4 n k).set k (.int .u8 (n / 2 ^ (8 * k) % 256)) = row4 n (k + 1) := by
  rcases (show k = 0 ∨ k = 1 ∨ k = 2 ∨ k = 3 by omega) with rfl | rfl | rfl | rfl <;> rfl
theorem row4_cell (n : Int) (k : Nat) (h : k < 4) : (row4 n k)[k]? = some (.int .u8 0) := by
  rcases (show k = 0 ∨ k = 1 ∨ k = 2 ∨ k = 3 by omega) with rfl | rfl | rfl | rfl <;> rfl
theorem row4_all (n : Int) (h0 : 0 ≤ n) : row4 n 4 = ((fourB n).map (fun c => ((c.toNat : Nat) : Int))).map (Value.int .u8) := by
  rw [fourB_nums n h0]
  have e : row4 n 4 = [.int .u8 (n / 2 ^ 0 % 256), .int .u8 (n / 2 ^ 8 % 256), .int .u8 (n / 2 ^ 16 % 256), .int .u8 (n / 2 ^ 24 % 256)] := rfl
  rw [e]
  simp
theorem four_sl {w : World} {g : Nat} {t : TypeId} {n : Int} (h : ArrAt w g t (row4 n 4)) (h0 : 0 ≤ n) (c : Nat) : IntSl .u8 w (.slice (some ⟨g, 0, none⟩) 4 c) (nums (fourB n)) := by
  have e : nums (fourB n) = (fourB n).map (fun c => ((c.toNat : Nat) : Int)) := rfl
  have hl : (nums (fourB n)).length = 4 := by rw [nums_len, fourB_len]
  refine Or.inr ⟨g, 0, c, by rw [hl], fun j hj => ?_⟩
  rw [Nat.zero_add, h.cell j, row4_all n h0, ← e]
  simp [List.getD, hj]
/-- The number of the first k bytes. -/
def rdTo (l : List UInt8) : Nat → Int
  | 0 => 0
  | k + 1 => rdTo l k + bt l k * 2 ^ (8 * k)
theorem rdTo_bd (l : List UInt8) : ∀ k, 0 ≤ rdTo l k ∧ rdTo l k < 2 ^ (8 * k)
  | 0 => by simp [rdTo]
  | k + 1 => by
    obtain ⟨h0, h1⟩ := rdTo_bd l k
    have hb : 0 ≤ bt l k ∧ bt l k ≤ 255 := by have := (l.getD k 0).toNat_lt; unfold bt; omega
    have e : (2 : Int) ^ (8 * (k + 1)) = 256 * 2 ^ (8 * k) := by rw [show 8 * (k + 1) = 8 * k + 8 by omega, Int.pow_add]; omega
    rw [rdTo, e]
    have hp : (0 : Int) < 2 ^ (8 * k) := Int.pow_pos (by decide)
    generalize (2 : Int) ^ (8 * k) = p at *
    have h2 : 0 ≤ bt l k * p := Int.mul_nonneg hb.1 (by omega)
    have h3 : bt l k * p ≤ 255 * p := Int.mul_le_mul_of_nonneg_right hb.2 (by omega)
    omega
theorem rdTo_or (l : List UInt8) (k : Nat) (h : k < 4) : bits .or .u32 (rdTo l k) (bt l k * 2 ^ (8 * k) % 4294967296) = rdTo l (k + 1) := by
  obtain ⟨h0, h1⟩ := rdTo_bd l k
  have hb : 0 ≤ bt l k ∧ bt l k ≤ 255 := by have := (l.getD k 0).toNat_lt; unfold bt; omega
  rw [rdTo]
  suffices hlt : bt l k * 2 ^ (8 * k) < 4294967296 ∧ 0 ≤ bt l k * 2 ^ (8 * k) by
    rw [Int.emod_eq_of_lt hlt.2 hlt.1]
    exact u32_join (8 * k) (bt l k) (rdTo l k) (by omega) hlt.1 hb.1 h0 h1
  have hp : (2 : Int) ^ (8 * k) ≤ 16777216 := by rcases (show k = 0 ∨ k = 1 ∨ k = 2 ∨ k = 3 by omega) with rfl | rfl | rfl | rfl <;> decide
  have hq : (0 : Int) < 2 ^ (8 * k) := Int.pow_pos (by decide)
  generalize (2 : Int) ^ (8 * k) = p at *
  have h2 : 0 ≤ bt l k * p := Int.mul_nonneg hb.1 (by omega)
  have h3 : bt l k * p ≤ 255 * p := Int.mul_le_mul_of_nonneg_right hb.2 (by omega)
  omega
theorem rdTo_all (l : List UInt8) (h : l.length = 4) : rdTo l 4 = readB l := by
  match l, h with
  | [a, b, c, d], _ =>
    rw [readB_eq]
    have e : rdTo [a, b, c, d] 4 = 0 + bt [a, b, c, d] 0 * 2 ^ (8 * 0) + bt [a, b, c, d] 1 * 2 ^ (8 * 1) + bt [a, b, c, d] 2 * 2 ^ (8 * 2) + bt [a, b, c, d] 3 * 2 ^ (8 * 3) := rfl
    have e0 : bt [a, b, c, d] 0 = a.toNat := rfl
    have e1 : bt [a, b, c, d] 1 = b.toNat := rfl
    have e2 : bt [a, b, c, d] 2 = c.toNat := rfl
    have e3 : bt [a, b, c, d] 3 = d.toNat := rfl
    rw [e, e0, e1, e2, e3]
    omega
theorem ret_val {a b c : Int} (h : a = b) (h' : c = b) : Value.int .u32 a = .int .u32 c := by rw [h, h']
theorem ret_int_b {a b : Int} {q : Bool} (h : a = b) : Ending.returned (.tuple #[.int .u32 a, .bool q]) = .returned (.tuple #[.int .u32 b, .bool q]) := by rw [h]
theorem readB_no {l : List UInt8} (h : l.length ≠ 4) : readB l = 0 := by unfold readB; rw [if_neg h]
end Go.Proofs.Ytahndjgamoojkaa

/- The walks of crc's Seal and Open. -/
namespace Go.Proofs.Ytahndjgamoojkaa
open Go.RowKit

theorem sealB_str (l : List UInt8) : sealB l = l ++ fourB (sumB l) := rfl
end Go.Proofs.Ytahndjgamoojkaa

/- A row of bytes that the call itself made out of a text, cell by cell: read, written, told as a text again. -/
namespace Go.Proofs.Ytahndjgamoojkaa
open Go.RowKit

/-- The cells of block g hold the bytes l, and may be written. -/
def ByRow (w : World) (g : Nat) (l : List UInt8) : Prop := g < w.heap.size ∧ ∀ j, j < l.length → w.cell? ⟨g, j, none⟩ = some (.int .u8 ((l.getD j 0).toNat : Int)) ∧ w.frozen? ⟨g, j, none⟩ = false

theorem ByRow.below {w w' : World} {g B : Nat} {l : List UInt8} (h : ByRow w g l) (hb : Below B w w') (hg : g < B) : ByRow w' g l :=
  ⟨Nat.lt_of_lt_of_le h.1 hb.size, fun j hj => ⟨(hb.cell (p := ⟨g, j, none⟩) hg).trans (h.2 j hj).1, (hb.frozen (p := ⟨g, j, none⟩) hg).trans (h.2 j hj).2⟩⟩
theorem ByRow.next {w w' : World} {g : Nat} {l : List UInt8} (h : ByRow w g l) (hb : Below w.heap.size w w') : ByRow w' g l := h.below hb h.1
theorem ByRow.drawn {w w' : World} {g : Nat} {l : List UInt8} (h : ByRow w g l) (hd : Drawn w w') : ByRow w' g l := h.next (hd.below _)
theorem ByRow.set {w : World} {g : Nat} {l : List UInt8} (h : ByRow w g l) (k : Nat) (c : UInt8) (hk : k < l.length) : ByRow (w.setCell ⟨g, k, none⟩ (.int .u8 (c.toNat : Int))) g (l.set k c) := by
  refine ⟨by simpa using h.1, fun j hj => ⟨?_, ?_⟩⟩
  · rw [List.length_set] at hj
    by_cases hjk : j = k
    · subst hjk
      rw [World.cell?_setCell_same w _ _ (h.2 j hj).1]
      simp [List.getD, hk]
    · rw [World.cell?_setCell_other w _ _ _ (by intro e; injection e with _ e _; exact hjk e.symm), (h.2 j hj).1]
      simp [List.getD, Ne.symm hjk]
  · rw [List.length_set] at hj
    rw [World.frozen?_setCell]
    exact (h.2 j hj).2
theorem ByRow.far {w : World} {g g' : Nat} {l : List UInt8} (h : ByRow w g l) (k : Nat) (v : Value) (hg : g' ≠ g) : ByRow (w.setCell ⟨g', k, none⟩ v) g l :=
  ⟨by simpa using h.1, fun j hj => ⟨by rw [World.cell?_setCell_other w _ _ _ (by intro e; injection e with e _ _; exact hg e)]; exact (h.2 j hj).1, by rw [World.frozen?_setCell]; exact (h.2 j hj).2⟩⟩
/-- What a conversion lays. -/
theorem byRow_new (w : World) (l : List UInt8) (E : TypeId) (cap m : Nat) (hm : l.length ≤ m) : ByRow (w.alloc (.cells (bytesRow ⟨l.toArray⟩ cap) E (m, m + 1))) w.heap.size l := by
  refine ⟨by simp, fun j hj => ⟨?_, ?_⟩⟩
  · rw [cell_of_row _ _ _ _ _ _ (heap_alloc_new w _)]
    unfold bytesRow
    rw [Array.getElem?_append_left (by simpa using hj)]
    simp [List.getD, hj]
  · have hh : (w.alloc (.cells (bytesRow ⟨l.toArray⟩ cap) E (m, m + 1))).heap[w.heap.size]? = some (.cells (bytesRow ⟨l.toArray⟩ cap) E (m, m + 1)) := heap_alloc_new w _
    unfold World.frozen?
    rw [hh]
    simp
    omega
theorem nums_get (l : List UInt8) (j : Nat) (hj : j < l.length) : (nums l).getD j 0 = ((l.getD j 0).toNat : Int) := by unfold nums; simp [List.getD, hj]
theorem ByRow.sl {w : World} {g : Nat} {l : List UInt8} (h : ByRow w g l) (c : Nat) : IntSl .u8 w (.slice (some ⟨g, 0, none⟩) l.length c) (nums l) :=
  Or.inr ⟨g, 0, c, by rw [nums_len], fun j hj => by rw [nums_len] at hj; rw [nums_get l j hj, Nat.zero_add]; exact (h.2 j hj).1⟩
theorem bytesRow_size (l : List UInt8) (cap : Nat) : l.length ≤ (bytesRow ⟨l.toArray⟩ cap).size := by unfold bytesRow; simp
theorem conv_new (l : List UInt8) (w : World) : ∃ (c : Nat) (w1 : World), (convert 9 80 (.string ⟨l.toArray⟩)).run Try.prog w = .ok (.slice (some ⟨w.heap.size, 0, none⟩) l.length c) w1 ∧ Hid (ByRow w1 w.heap.size l) ∧ Hid (Below w.heap.size w w1) ∧ w1.heap.size = w.heap.size + 1 := by
  have h := run_bytes_of_string (P := Try.prog) w 9 80 5 ⟨l.toArray⟩ Try.underlying9 Try.underlying80 Try.underlying5
  rw [show (ByteArray.mk l.toArray).size = l.length from by simp [ByteArray.size]] at h
  generalize grownCap w l.length 0 5 = c at h
  refine ⟨c, _, h, Lib.hid ?_, Lib.hid ?_, by simp⟩
  · exact byRow_new w.drew l _ c _ (bytesRow_size l c)
  · exact (Drawn.below ⟨1, rfl⟩ w.heap.size).alloc (Nat.le_refl _) _
end Go.Proofs.Ytahndjgamoojkaa
