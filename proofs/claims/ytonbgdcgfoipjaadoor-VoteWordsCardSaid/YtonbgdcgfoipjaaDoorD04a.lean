/- The walks of layer 4's Hash, and the reference's. -/
import Derived.Test.YtonbgdcgfoipjaaDoorBase
import Derived.Test.YtonbgdcgfoipjaaDoorD04p
namespace Go.Proofs.YtonbgdcgfoipjaaDoor
open Go.RowKit

set_option maxHeartbeats 400000 in
theorem hash_any (l : List UInt8) (w : World) (hs : l.length ≤ maxLen) :
    Calls Tryd.prog 26 #[.string ⟨l.toArray⟩] w fun e w' => e = .returned (.int .u64 (hashB l)) ∧ w = w' := by
  unfold maxLen at hs
  go_enter Tryd.func26, Tryd.ntmps26
  go_wp2_with fail
  go_loop [3, 4, 7] (fun s _ i => ∃ k : Nat, i = .int .i64 k ∧ k ≤ l.length ∧ s = .int .u64 (hashB (l.take k))) (fun _ _ i => l.length - (intOf i).toNat)
  case atStart => exact ⟨0, rfl, Nat.zero_le _, rfl⟩
  case round =>
    obtain ⟨k, rfl, hk, rfl⟩ := hrel
    by_cases hlt : k < l.length
    · have hst := Lib.hid (hashB_take l k hlt)
      have hbd := hashB_bd (l.take k)
      generalize hashB (l.take k) = h at hst hbd
      obtain ⟨hh0, hh1⟩ := hbd
      have hb := bt_lt l k
      go_wp2_with fail
      exact ⟨⟨k + 1, by go_num, by omega, by rw [hst.out]; rfl⟩, by simp [intOf]; omega⟩
    · have hke : ¬ ((k : Int) < l.length) := by omega
      have hh2 := Lib.hid (show hashB (l.take k) = hashB l by rw [List.take_of_length_le (by omega)])
      generalize hashB (l.take k) = h at hh2
      go_wp2_with fail
      go_ret
      exact ⟨ret_int hh2.out, rfl⟩

set_option maxHeartbeats 400000 in
theorem refhash_any (l : List UInt8) (w : World) (hs : l.length ≤ maxLen) :
    Calls Tryd.prog 21 #[.string ⟨l.toArray⟩] w fun e w' => e = .returned (.int .u64 (hashB l)) ∧ w = w' := by
  unfold maxLen at hs
  go_enter Tryd.func21, Tryd.ntmps21
  go_wp2_with fail
  go_loop [3, 4] (fun s i => ∃ k : Nat, i = .int .i64 k ∧ k ≤ l.length ∧ s = .int .u64 (hashB (l.take k))) (fun _ i => l.length - (intOf i).toNat)
  case atStart => exact ⟨0, rfl, Nat.zero_le _, rfl⟩
  case round =>
    obtain ⟨k, rfl, hk, rfl⟩ := hrel
    by_cases hlt : k < l.length
    · have hst := Lib.hid (hashB_take l k hlt)
      have hbd := hashB_bd (l.take k)
      generalize hashB (l.take k) = h at hst hbd
      obtain ⟨hh0, hh1⟩ := hbd
      have hb := bt_lt l k
      go_wp2_with fail
      exact ⟨⟨k + 1, by go_num, by omega, by rw [hst.out]; rfl⟩, by simp [intOf]; omega⟩
    · have hke : ¬ ((k : Int) < l.length) := by omega
      have hh2 := Lib.hid (show hashB (l.take k) = hashB l by rw [List.take_of_length_le (by omega)])
      generalize hashB (l.take k) = h at hh2
      go_wp2_with fail
      go_ret
      exact ⟨ret_int hh2.out, rfl⟩

end Go.Proofs.YtonbgdcgfoipjaaDoor
