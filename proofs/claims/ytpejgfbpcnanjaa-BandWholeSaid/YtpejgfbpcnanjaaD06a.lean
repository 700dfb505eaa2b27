/- The walks of layer 6's Weight and Distance, and the reference's. -/
import Derived.Test.YtpejgfbpcnanjaaBase
import Derived.Test.YtpejgfbpcnanjaaD06p
namespace Go.Proofs.Ytpejgfbpcnanjaa
open Go.RowKit

set_option maxHeartbeats 400000 in
theorem refweight_any (x : Int) (w : World) (h0 : 0 ≤ x) (h1 : x ≤ 18446744073709551615) :
    Calls Try.prog 23 #[.int .u64 x] w fun e w' => e = .returned (.int .i64 (wtB x)) ∧ w = w' := by
  go_enter Try.func23, Try.ntmps23
  go_wp2_with fail
  go_loop [3, 4] (fun n i => ∃ k : Nat, k ≤ 64 ∧ i = .int .i64 k ∧ n = .int .i64 (wtTo x k)) (fun _ i => 64 - (intOf i).toNat)
  case atStart => exact ⟨0, by omega, rfl, rfl⟩
  case round =>
    obtain ⟨k, hk, rfl, rfl⟩ := hrel
    have hbd := wtTo_bd x k
    by_cases hlt : k < 64
    · have hn := Lib.hid (wtTo_next x k h0)
      have hb := bit_of x k h0 h1
      generalize hQ : x / 2 ^ k % 2 = q at hn hb
      have q0 : 0 ≤ q ∧ q ≤ 1 := by omega
      generalize hS : wtTo x k = s at hn hbd ⊢
      replace hS := Lib.hid hS
      replace hQ := Lib.hid hQ
      obtain ⟨q0, q1⟩ := q0
      go_wp2_with fail
      go_round
      case rel => exact ⟨k + 1, by omega, by go_num, by rw [hn.out]⟩
      case measure => simp [intOf]; omega
    · have hke : ¬ ((k : Int) < 64) := by omega
      have he := Lib.hid (show wtTo x k = wtB x by rw [show k = 64 by omega]; rfl)
      generalize wtTo x k = s at he hbd ⊢
      go_wp2_with fail
      go_ret
      exact ⟨ret_int he.out, rfl⟩

theorem refdist_any (a b : Int) (w : World) (a0 : 0 ≤ a) (a1 : a ≤ 18446744073709551615) (b0 : 0 ≤ b) (b1 : b ≤ 18446744073709551615) :
    Calls Try.prog 20 #[.int .u64 a, .int .u64 b] w fun e w' => e = .returned (.int .i64 (distB a b)) ∧ w = w' := by
  have hx := xorB_bd a b a0 a1 b0 b1
  have hc := refweight_any (bits .xor .u64 a b) w hx.1 hx.2
  rw [show wtB (bits .xor .u64 a b) = distB a b from rfl] at hc
  replace hc := Lib.hid hc
  clear hx
  go_enter Try.func20, Try.ntmps20
  go_wp2_with fail
  refine hc.out.mono ?_; rintro e w' ⟨rfl, rfl⟩
  go_wp2_with fail
  go_ret
  exact ⟨rfl, rfl⟩
end Go.Proofs.Ytpejgfbpcnanjaa
