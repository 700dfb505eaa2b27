/- The walks of layer 6's Weight and Distance, and the reference's. -/
import Derived.Test.YtgldlfgidmgmfaaBase
import Derived.Test.YtgldlfgidmgmfaaD06p
namespace Go.Proofs.Ytgldlfgidmgmfaa
open Go.RowKit

set_option maxHeartbeats 400000 in
theorem weight_any (x : Int) (w : World) (h0 : 0 ≤ x) (h1 : x ≤ 18446744073709551615) :
    Calls Try.prog 50 #[.int .u64 x] w fun e w' => e = .returned (.int .i64 (wtB x)) ∧ w = w' := by
  have hbd := wtB_bd x
  generalize hW : wtB x = W at hbd ⊢
  replace hW := Lib.hid hW
  obtain ⟨hb0, hb1⟩ := hbd
  go_enter Try.func50, Try.ntmps50
  go_wp2_with fail
  go_loop [0, 3] (fun a n => ∃ y m : Int, a = .int .u64 y ∧ n = .int .i64 m ∧ 0 ≤ y ∧ y ≤ 18446744073709551615 ∧ 0 ≤ m ∧ Hid (m + wtB y = W)) (fun a _ => (wtB (intOf a)).toNat)
  case atStart => exact ⟨x, 0, rfl, rfl, h0, h1, by omega, Lib.hid (by rw [hW.out]; omega)⟩
  case round =>
    obtain ⟨y, m, rfl, rfl, y0, y1, m0, hm⟩ := hrel
    have hyb := wtB_bd y
    have hmm := hm.out
    have m1 : m ≤ 64 := by omega
    clear hmm hyb
    by_cases hlt : 0 < y
    · have hne : (y != 0) = true := by simp; omega
      have hl := lowB_bd y hlt y1
      have hn := Lib.hid (wtB_low y hlt y1)
      unfold lowB at hl hn
      obtain ⟨hl0, hl1⟩ := hl
      go_wp2_with fail
      go_round
      case rel => exact ⟨_, m + 1, rfl, by go_num, hl0, hl1, by omega, Lib.hid (by have := hn.out; have := hm.out; omega)⟩
      case measure => simp only [intOf]; have := hn.out; have := wtB_bd (bits .and .u64 y (y - 1)); omega
    · obtain rfl : y = 0 := by omega
      have hz := wtB_zero
      have he := Lib.hid (show m = W by have := hm.out; omega)
      clear hz hm
      go_wp2_with fail
      go_ret
      exact ⟨ret_int he.out, rfl⟩

set_option maxHeartbeats 400000 in
theorem refweight_any (x : Int) (w : World) (h0 : 0 ≤ x) (h1 : x ≤ 18446744073709551615) :
    Calls Try.prog 39 #[.int .u64 x] w fun e w' => e = .returned (.int .i64 (wtB x)) ∧ w = w' := by
  go_enter Try.func39, Try.ntmps39
  go_wp2_with fail
  go_loop [3, 4] (fun n i => ∃ k : Nat, k ≤ 64 ∧ i = .int .i64 k ∧ n = .int .i64 (wtTo x k)) (fun _ i => 64 - (intOf i).toNat)
  case atStart => exact ⟨0, by omega, rfl, rfl⟩
  case round =>
    obtain ⟨k, hk, rfl, rfl⟩ := hrel
    have hbd := wtTo_bd x k
    by_cases hlt : k < 64
    · have hn := Lib.hid (wtTo_next x k h0)
      have hb := bit_of x k h0 h1
      generalize hQ : x / 2 ^ k % 2 = q at hn hb
      have q0 : 0 ≤ q ∧ q ≤ 1 := by omega
      generalize hS : wtTo x k = s at hn hbd ⊢
      replace hS := Lib.hid hS
      replace hQ := Lib.hid hQ
      obtain ⟨q0, q1⟩ := q0
      go_wp2_with fail
      go_round
      case rel => exact ⟨k + 1, by omega, by go_num, by rw [hn.out]⟩
      case measure => simp [intOf]; omega
    · have hke : ¬ ((k : Int) < 64) := by omega
      have he := Lib.hid (show wtTo x k = wtB x by rw [show k = 64 by omega]; rfl)
      generalize wtTo x k = s at he hbd ⊢
      go_wp2_with fail
      go_ret
      exact ⟨ret_int he.out, rfl⟩

theorem dist_any (a b : Int) (w : World) (a0 : 0 ≤ a) (a1 : a ≤ 18446744073709551615) (b0 : 0 ≤ b) (b1 : b ≤ 18446744073709551615) :
    Calls Try.prog 34 #[.int .u64 a, .int .u64 b] w fun e w' => e = .returned (.int .i64 (distB a b)) ∧ w = w' := by
  have hx := xorB_bd a b a0 a1 b0 b1
  have hc := weight_any (bits .xor .u64 a b) w hx.1 hx.2
  rw [show wtB (bits .xor .u64 a b) = distB a b from rfl] at hc
  replace hc := Lib.hid hc
  clear hx
  go_enter Try.func34, Try.ntmps34
  go_wp2_with fail
  refine hc.out.mono ?_; rintro e w' ⟨rfl, rfl⟩
  go_wp2_with fail
  go_ret
  exact ⟨rfl, rfl⟩
theorem refdist_any (a b : Int) (w : World) (a0 : 0 ≤ a) (a1 : a ≤ 18446744073709551615) (b0 : 0 ≤ b) (b1 : b ≤ 18446744073709551615) :
    Calls Try.prog 24 #[.int .u64 a, .int .u64 b] w fun e w' => e = .returned (.int .i64 (distB a b)) ∧ w = w' := by
  have hx := xorB_bd a b a0 a1 b0 b1
  have hc := refweight_any (bits .xor .u64 a b) w hx.1 hx.2
  rw [show wtB (bits .xor .u64 a b) = distB a b from rfl] at hc
  replace hc := Lib.hid hc
  clear hx
  go_enter Try.func24, Try.ntmps24
  go_wp2_with fail
  refine hc.out.mono ?_; rintro e w' ⟨rfl, rfl⟩
  go_wp2_with fail
  go_ret
  exact ⟨rfl, rfl⟩
end Go.Proofs.Ytgldlfgidmgmfaa
