/- The walks of crc's Seal and Open. -/
import Derived.Test.YtkckddcibhbalaaCo
import Derived.Deep.RegionHeld3
import Derived.Test.YtkckddcibhbalaaD18a
namespace Go.Proofs.Ytkckddcibhbalaa
open Go.RowKit

theorem sealB_str (l : List UInt8) : sealB l = l ++ fourB (sumB l) := rfl
set_option maxHeartbeats 400000 in
theorem seal18_any (l : List UInt8) (w : World) (hs : l.length ≤ 281474976710656) :
    Calls Try.prog 29 #[.string ⟨l.toArray⟩] w fun e w' => e = .returned (.string ⟨(sealB l).toArray⟩) ∧ Below w.heap.size w w' := by
  have hc := Lib.hid (fun W => sum18_any l W (by unfold maxLen; omega))
  obtain ⟨h0, h1⟩ := sumB_bd l
  rw [sealB_str]
  have hl := fourB_len (sumB l)
  generalize sumB l = n at *
  have hf := Lib.hid (fun W => four18_any n W h0 h1)
  generalize fourB n = f at *
  go_enter Try.func29, Try.ntmps29
  go_wp2_with fail
  refine (hc.out w).mono ?_; rintro e w1 ⟨rfl, rfl⟩
  go_wp2_with fail
  refine (hf.out w).mono ?_; rintro e w1 ⟨rfl, hb⟩
  replace hb := Lib.hid hb
  go_wp2_with fail
  go_ret
  exact ⟨rfl, hb.out⟩

end Go.Proofs.Ytkckddcibhbalaa
