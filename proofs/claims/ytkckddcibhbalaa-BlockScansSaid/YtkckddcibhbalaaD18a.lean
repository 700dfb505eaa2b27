/- The walks of crc's step, Sum, Four, Read. -/
import Derived.Test.YtkckddcibhbalaaAr
import Derived.Test.YtkckddcibhbalaaCv
import Derived.Test.YtkckddcibhbalaaD18r
namespace Go.Proofs.Ytkckddcibhbalaa
open Go.RowKit

theorem u32_and1 {x : Int} (h0 : 0 ≤ x) (h1 : x ≤ 4294967295) : bits .and .u32 x 1 = x % 2 := by
  rw [u32_and x 1 h0 (by omega) (by decide) (by decide), show Int.toNat 1 = 1 from rfl, nat_mask1]
  omega
theorem u32_xor0 {x : Int} (h0 : 0 ≤ x) (h1 : x ≤ 4294967295) : bits .xor .u32 x 0 = x := by
  rw [u32_xor x 0 h0 (by omega) (by decide) (by decide)]
  simp
  omega
theorem u32_no : bits .and .u32 0 3988292384 = 0 := by decide
theorem u32_all : bits .and .u32 4294967295 3988292384 = 3988292384 := by decide
set_option maxHeartbeats 400000 in
theorem step18_any (x : BitVec 32) (w : World) : Calls Try.prog 42 #[.int .u32 (nB x)] w fun e w' => e = .returned (.int .u32 (nB (shC x))) ∧ w = w' := by
  obtain ⟨h0, h1⟩ := nB_bd x
  have c0 := shC_0 x
  have c1 := shC_1 x
  have ha := u32_and1 h0 h1
  have hx := u32_xor0 (x := nB x / 2) (by omega) (by omega)
  have hn := u32_no
  have hm := u32_all
  generalize nB (shC x) = y at c0 c1 ⊢
  generalize nB x = n at *
  rcases (show n % 2 = 0 ∨ n % 2 = 1 by omega) with h | h
  · replace c0 := Lib.hid (c0 h)
    rw [h] at ha
    clear c1 h
    go_enter Try.func42, Try.ntmps42
    go_wp2_with fail
    go_ret
    exact ⟨ret_int c0.out.symm, rfl⟩
  · replace c1 := Lib.hid (c1 h)
    rw [h] at ha
    clear c0 h
    go_enter Try.func42, Try.ntmps42
    go_wp2_with fail
    go_ret
    exact ⟨ret_int c1.out.symm, rfl⟩

set_option maxHeartbeats 1000000 in
theorem sum18_any (l : List UInt8) (w : World) (hs : l.length ≤ maxLen) :
    Calls Try.prog 38 #[.string ⟨l.toArray⟩] w fun e w' => e = .returned (.int .u32 (sumB l)) ∧ w = w' := by
  unfold maxLen at hs
  go_enter Try.func38, Try.ntmps38
  go_wp2_with fail
  go_loop [3, 7] (fun a i => ∃ k : Nat, k ≤ l.length ∧ i = .int .i64 k ∧ a = .int .u32 (nB (regC (l.take k)))) (fun _ i => l.length - (intOf i).toNat)
  case atStart => exact ⟨0, Nat.zero_le _, rfl, by rw [List.take_zero, regC_nil, nB_ones]⟩
  case round =>
    obtain ⟨k, hk, rfl, rfl⟩ := hrel
    by_cases hlt : k < l.length
    · have hn := Lib.hid (regC_next l k hlt)
      have hb : bt l k = nB (BitVec.ofNat 32 (l.getD k 0).toNat) := by rw [nB_byte]; rfl
      have hbd : 0 ≤ bt l k ∧ bt l k ≤ 255 := by have := (l.getD k 0).toNat_lt; unfold bt; omega
      obtain ⟨hb0, hb1⟩ := hbd
      have hx := xor_nB (regC (l.take k)) (BitVec.ofNat 32 (l.getD k 0).toNat)
      rw [← hb] at hx
      generalize BitVec.ofNat 32 (l.getD k 0).toNat = y at hn hx hb
      generalize regC (l.take k) = x at hn hx ⊢
      clear hb
      go_wp2_with fail
      go_loop [3, 16] (fun a i => ∃ j : Nat, j ≤ 8 ∧ i = .int .i64 j ∧ a = .int .u32 (nB (shK j (x ^^^ y)))) (fun _ i => 8 - (intOf i).toNat)
      case atStart => exact ⟨0, by omega, rfl, rfl⟩
      case round =>
        obtain ⟨j, hj, rfl, rfl⟩ := hrel
        by_cases hlj : j < 8
        · have hs := Lib.hid (shK_next j (x ^^^ y))
          generalize shK j (x ^^^ y) = z at hs ⊢
          go_wp2_with fail
          refine (step18_any z w).mono ?_; rintro e w' ⟨rfl, rfl⟩
          go_wp2_with fail
          go_round
          case rel => exact ⟨j + 1, by omega, by go_num, by rw [hs.out]⟩
          case measure => simp [intOf]; omega
        · obtain rfl : j = 8 := by omega
          generalize shK 8 (x ^^^ y) = z at hn ⊢
          go_wp2_with fail
          go_round
          case rel => exact ⟨k + 1, by omega, by go_num, by rw [hn.out]⟩
          case measure => simp [intOf]; omega
    · have hke : ¬ ((k : Int) < l.length) := by omega
      have he := Lib.hid (not_nB (regC l))
      rw [List.take_of_length_le (by omega)]
      generalize nB (regC l) = n at he ⊢
      go_wp2_with fail
      go_ret
      exact ⟨ret_int he.out, rfl⟩

/-- Four bytes in a row of the call's own, of which the first k are a number's. -/
def row4 (n : Int) (k : Nat) : List Value := (List.range 4).map fun j => .int .u8 (if j < k then n / 2 ^ (8 * j) % 256 else 0)
theorem row4_next (n : Int) (k : Nat) (h : k < 4) : (row4 n k).set k (.int .u8 (n / 2 ^ (8 * k) % 256)) = row4 n (k + 1) := by
  rcases (show k = 0 ∨ k = 1 ∨ k = 2 ∨ k = 3 by omega) with rfl | rfl | rfl | rfl <;> rfl
theorem row4_cell (n : Int) (k : Nat) (h : k < 4) : (row4 n k)[k]? = some (.int .u8 0) := by
  rcases (show k = 0 ∨ k = 1 ∨ k = 2 ∨ k = 3 by omega) with rfl | rfl | rfl | rfl <;> rfl
theorem row4_all (n : Int) (h0 : 0 ≤ n) : row4 n 4 = ((fourB n).map (fun c => ((c.toNat : Nat) : Int))).map (Value.int .u8) := by
  rw [fourB_nums n h0]
  have e : row4 n 4 = [.int .u8 (n / 2 ^ 0 % 256), .int .u8 (n / 2 ^ 8 % 256), .int .u8 (n / 2 ^ 16 % 256), .int .u8 (n / 2 ^ 24 % 256)] := rfl
  rw [e]
  simp
theorem four_sl {w : World} {g : Nat} {t : TypeId} {n : Int} (h : ArrAt w g t (row4 n 4)) (h0 : 0 ≤ n) (c : Nat) : IntSl .u8 w (.slice (some ⟨g, 0, none⟩) 4 c) (nums (fourB n)) := by
  have e : nums (fourB n) = (fourB n).map (fun c => ((c.toNat : Nat) : Int)) := rfl
  have hl : (nums (fourB n)).length = 4 := by rw [nums_len, fourB_len]
  refine Or.inr ⟨g, 0, c, by rw [hl], fun j hj => ?_⟩
  rw [Nat.zero_add, h.cell j, row4_all n h0, ← e]
  simp [List.getD, hj]
set_option maxHeartbeats 1000000 in
theorem four18_any (n : Int) (w : World) (h0 : 0 ≤ n) (_h1 : n ≤ 4294967295) :
    Calls Try.prog 28 #[.int .u32 n] w fun e w' => e = .returned (.string ⟨(fourB n).toArray⟩) ∧ Below w.heap.size w w' := by
  go_enter Try.func28, Try.ntmps28
  go_wp2_with fail
  have hst := Lib.hid (show ArrAt (w.alloc (.cells (row4 n 0).toArray 69)) w.heap.size 69 (row4 n 0) ∧ Below w.heap.size w (w.alloc (.cells (row4 n 0).toArray 69)) from ⟨arrAt_new _ _ _, (Below.refl _ _).alloc (Nat.le_refl _) _⟩)
  go_loopw [5] (fun i wr => ∃ k : Nat, i = .int .i64 k ∧ k ≤ 4 ∧ Hid (ArrAt wr w.heap.size 69 (row4 n k) ∧ Below w.heap.size w wr)) (fun i _ => 4 - (intOf i).toNat)
  case atStart => exact ⟨0, rfl, Nat.zero_le _, hst⟩
  case round =>
    obtain ⟨k, rfl, hk, hr⟩ := hrel
    by_cases hlt : k < 4
    · have g1 : wr.cell? ⟨w.heap.size, k, none⟩ = some (.int .u8 0) := by rw [hr.out.1.cell k, row4_cell n k hlt]
      have g2 := hr.out.1.soft k
      have hn := Lib.hid (row4_next n k hlt)
      clear hst
      go_wp2_with fail
      exact ⟨⟨k + 1, by go_num, by omega, hn.out ▸ hr.out.1.set k _, hr.out.2.setCell (p := ⟨w.heap.size, k, none⟩) (Nat.le_refl _) _⟩, by simp [intOf]; omega⟩
    · obtain rfl : k = 4 := by omega
      have hc := run_str (P := Try.prog) wr 41 9 5 Try.underlying41 Try.underlying5 Try.underlying9 (four_sl hr.out.1 h0 4)
      rw [nums_u8] at hc
      clear hst
      go_wp2_with fail
      go_ret
      exact ⟨rfl, hr.out.2⟩

/-- The number of the first k bytes. -/
def rdTo (l : List UInt8) : Nat → Int
  | 0 => 0
  | k + 1 => rdTo l k + bt l k * 2 ^ (8 * k)
theorem rdTo_bd (l : List UInt8) : ∀ k, 0 ≤ rdTo l k ∧ rdTo l k < 2 ^ (8 * k)
  | 0 => by simp [rdTo]
  | k + 1 => by
    obtain ⟨h0, h1⟩ := rdTo_bd l k
    have hb : 0 ≤ bt l k ∧ bt l k ≤ 255 := by have := (l.getD k 0).toNat_lt; unfold bt; omega
    have e : (2 : Int) ^ (8 * (k + 1)) = 256 * 2 ^ (8 * k) := by rw [show 8 * (k + 1) = 8 * k + 8 by omega, Int.pow_add]; omega
    rw [rdTo, e]
    have hp : (0 : Int) < 2 ^ (8 * k) := Int.pow_pos (by decide)
    generalize (2 : Int) ^ (8 * k) = p at *
    have h2 : 0 ≤ bt l k * p := Int.mul_nonneg hb.1 (by omega)
    have h3 : bt l k * p ≤ 255 * p := Int.mul_le_mul_of_nonneg_right hb.2 (by omega)
    omega
theorem rdTo_or (l : List UInt8) (k : Nat) (h : k < 4) : bits .or .u32 (rdTo l k) (bt l k * 2 ^ (8 * k) % 4294967296) = rdTo l (k + 1) := by
  obtain ⟨h0, h1⟩ := rdTo_bd l k
  have hb : 0 ≤ bt l k ∧ bt l k ≤ 255 := by have := (l.getD k 0).toNat_lt; unfold bt; omega
  rw [rdTo]
  suffices hlt : bt l k * 2 ^ (8 * k) < 4294967296 ∧ 0 ≤ bt l k * 2 ^ (8 * k) by
    rw [Int.emod_eq_of_lt hlt.2 hlt.1]
    exact u32_join (8 * k) (bt l k) (rdTo l k) (by omega) hlt.1 hb.1 h0 h1
  have hp : (2 : Int) ^ (8 * k) ≤ 16777216 := by rcases (show k = 0 ∨ k = 1 ∨ k = 2 ∨ k = 3 by omega) with rfl | rfl | rfl | rfl <;> decide
  have hq : (0 : Int) < 2 ^ (8 * k) := Int.pow_pos (by decide)
  generalize (2 : Int) ^ (8 * k) = p at *
  have h2 : 0 ≤ bt l k * p := Int.mul_nonneg hb.1 (by omega)
  have h3 : bt l k * p ≤ 255 * p := Int.mul_le_mul_of_nonneg_right hb.2 (by omega)
  omega
theorem rdTo_all (l : List UInt8) (h : l.length = 4) : rdTo l 4 = readB l := by
  match l, h with
  | [a, b, c, d], _ =>
    rw [readB_eq]
    have e : rdTo [a, b, c, d] 4 = 0 + bt [a, b, c, d] 0 * 2 ^ (8 * 0) + bt [a, b, c, d] 1 * 2 ^ (8 * 1) + bt [a, b, c, d] 2 * 2 ^ (8 * 2) + bt [a, b, c, d] 3 * 2 ^ (8 * 3) := rfl
    have e0 : bt [a, b, c, d] 0 = a.toNat := rfl
    have e1 : bt [a, b, c, d] 1 = b.toNat := rfl
    have e2 : bt [a, b, c, d] 2 = c.toNat := rfl
    have e3 : bt [a, b, c, d] 3 = d.toNat := rfl
    rw [e, e0, e1, e2, e3]
    omega
theorem ret_val {a b c : Int} (h : a = b) (h' : c = b) : Value.int .u32 a = .int .u32 c := by rw [h, h']
theorem ret_int_b {a b : Int} {q : Bool} (h : a = b) : Ending.returned (.tuple #[.int .u32 a, .bool q]) = .returned (.tuple #[.int .u32 b, .bool q]) := by rw [h]
theorem readB_no {l : List UInt8} (h : l.length ≠ 4) : readB l = 0 := by unfold readB; rw [if_neg h]
end Go.Proofs.Ytkckddcibhbalaa
