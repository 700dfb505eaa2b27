/- The walk of the law WordJoins. -/
import Derived.Test.YtlinmokkbikjfaaDoorWd
namespace Go.Proofs.YtlinmokkbikjfaaDoor
open Go.RowKit

/-- The lengths of texts, added up. -/
def sumL (l : List (List UInt8)) : Nat := (l.map List.length).sum
theorem sumL_snoc (l : List (List UInt8)) (k : Nat) (h : k < l.length) : sumL (l.take (k + 1)) = sumL (l.take k) + (l.getD k []).length := by
  unfold sumL; rw [take_snoc [] h]; simp

set_option maxHeartbeats 1000000 in
theorem joins03_law (xs : List (List UInt8)) (v : Value) (w : World) (hv : StrSl w v xs) (hlow : SlBelow w.heap.size v) (hs : xs.length ≤ maxLen) (h : Tab w) : Calls Tryd.prog 4 #[v] w (AwakePost w) := by
  unfold maxLen at hs
  obtain ⟨a0, c0, rfl⟩ := hv.form
  replace hv := Lib.hid hv
  replace hlow := Lib.hid hlow
  replace h := Lib.hid h
  go_enter Tryd.func4, Tryd.ntmps4
  go_wp2_with fail
  go_loop [3, 4] (fun s i => ∃ (k m : Nat), i = .int .i64 k ∧ k ≤ xs.length ∧ k ≤ 5001 ∧ s = .int .i64 m ∧ m ≤ 20000 ∧ Hid (m = sumL (xs.take k))) (fun _ i => xs.length - (intOf i).toNat)
  case atStart => exact ⟨0, 0, rfl, Nat.zero_le _, by omega, rfl, by omega, rfl⟩
  case round =>
    obtain ⟨k, m, rfl, hk, hk5, rfl, hm, hsum⟩ := hrel
    by_cases hlt : k < xs.length
    · have hne : xs ≠ [] := by intro e; subst e; simp at hlt
      obtain ⟨b, off, c, e1, h1⟩ := hv.out.some hne
      injection e1 with e1 e1'' e1'
      clear e1''
      subst e1 e1'
      have g1 := h1 k hlt
      have hsn := sumL_snoc xs k hlt
      generalize xs.getD k [] = x at g1 hsn
      replace hsn := Lib.hid hsn
      unfold strV at g1
      clear h1 hne
      by_cases hx : 20000 - (m : Int) < x.length
      · go_wp2_with fail
        refine (awake_any w h.out).mono ?_
        rintro e w1 ⟨rfl, hb⟩
        go_wp2_with fail
        go_ret
        exact ⟨rfl, hb⟩
      · by_cases hk50 : 5000 < k
        · go_wp2_with fail
          refine (awake_any w h.out).mono ?_
          rintro e w1 ⟨rfl, hb⟩
          go_wp2_with fail
          go_ret
          exact ⟨rfl, hb⟩
        · go_wp2_with fail
          exact ⟨⟨k + 1, m + x.length, by go_num, by omega, by omega, by go_num, by omega, Lib.hid (by rw [hsn.out, hsum.out])⟩, by simp [intOf]; omega⟩
    · have hke : ¬ ((k : Int) < xs.length) := by omega
      have hjl := joinB_len xs
      have hsx : sumL xs = m := by rw [hsum.out, List.take_of_length_le (by omega)]
      unfold sumL at hsx
      rw [hsx] at hjl
      clear hsx
      go_wp2_with fail
      refine (awake_any w h.out).mono ?_
      rintro e w1 ⟨rfl, hb1⟩
      have hv1 := Lib.hid (hv.out.below hb1 hlow.out)
      have hlow1 := Lib.hid (hlow.out.mono hb1.size)
      replace hb1 := Lib.hid hb1
      go_wp2_with fail
      refine (wjoin_any xs _ _ hv1.out hlow1.out (by omega) (by omega)).mono ?_
      rintro e w2 ⟨rfl, hb2⟩
      have hv2 := Lib.hid (hv1.out.below hb2 hlow1.out)
      replace hb2 := Lib.hid (hb1.out.andThen hb2)
      go_wp2_with fail
      refine (refjoin_any xs _ _ hv2.out (by omega) (by omega)).mono ?_
      rintro e w3 ⟨rfl, rfl⟩
      go_wp2_with fail
      go_ret
      exact ⟨rfl, hb2.out⟩
end Go.Proofs.YtlinmokkbikjfaaDoor
