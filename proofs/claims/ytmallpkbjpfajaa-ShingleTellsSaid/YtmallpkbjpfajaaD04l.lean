/- The walks of layer 4's law: great, awake, ShingleHashes, ShingleCounts. -/
import Derived.Test.YtmallpkbjpfajaaD04c
namespace Go.Proofs.Ytmallpkbjpfajaa
open Go.RowKit

def GreatPost (xs : List (List UInt8)) (w : World) (e : Ending) (w' : World) : Prop := ∃ b, e = .returned (.bool b) ∧ w = w' ∧ (b = false → xs.length ≤ 301 ∧ sumLen xs ≤ 3000)
set_option maxHeartbeats 1000000 in
theorem great4_any (xs : List (List UInt8)) (v : Value) (w : World) (hv : StrSl w v xs) (hs : xs.length ≤ maxLen) :
    Calls Try.prog 7 #[v] w (GreatPost xs w) := by
  unfold maxLen at hs
  obtain ⟨a0, c0, rfl⟩ := hv.form
  replace hv := Lib.hid hv
  go_enter Try.func7, Try.ntmps7
  go_wp2_with fail
  go_loop [3, 4] (fun s i => ∃ (k m : Nat), i = .int .i64 k ∧ k ≤ xs.length ∧ k ≤ 301 ∧ s = .int .i64 m ∧ m ≤ 3000 ∧ Hid (m = sumLen (xs.take k))) (fun _ i => xs.length - (intOf i).toNat)
  case atStart => exact ⟨0, 0, rfl, Nat.zero_le _, by omega, rfl, by omega, rfl⟩
  case round =>
    obtain ⟨k, m, rfl, hk, hk5, rfl, hm, hsum⟩ := hrel
    by_cases hlt : k < xs.length
    · have hne : xs ≠ [] := by intro e; subst e; simp at hlt
      obtain ⟨b, off, c, e1, h1⟩ := hv.out.some hne
      injection e1 with e1 e1'' e1'
      clear e1''
      subst e1 e1'
      have g1 := h1 k hlt
      have hsn := sumLen_take xs k hlt
      generalize xs.getD k [] = x at g1 hsn
      replace hsn := Lib.hid hsn
      unfold strV at g1
      clear h1 hne
      by_cases hx : 3000 - (m : Int) < x.length
      · go_wp2_with fail
        go_ret
        exact ⟨_, rfl, rfl, by simp⟩
      · by_cases hk50 : 300 < k
        · go_wp2_with fail
          go_ret
          exact ⟨_, rfl, rfl, by simp⟩
        · go_wp2_with fail
          exact ⟨⟨k + 1, m + x.length, by go_num, by omega, by omega, by go_num, by omega, Lib.hid (by rw [hsn.out, hsum.out])⟩, by simp [intOf]; omega⟩
    · have hke : ¬ ((k : Int) < xs.length) := by omega
      have hsx : sumLen xs ≤ 3000 := by have := hsum.out; rw [List.take_of_length_le (by omega)] at this; omega
      replace hsx := Lib.hid hsx
      go_wp2_with fail
      go_ret
      exact ⟨_, rfl, rfl, fun _ => ⟨by omega, hsx.out⟩⟩

theorem hash_ex0 : hashB [] = 14695981039346656037 := rfl
theorem hash_ex1 : hashB [97] = 12638187200555641996 := by decide +kernel
theorem shin_ex1 : shinB [[97], [98], [99]] 2 = [[97, 32, 98], [98, 32, 99]] := by decide +kernel
theorem shin_ex2 : shinB [[97]] 3 = [[97]] := by decide +kernel

set_option maxHeartbeats 400000 in
theorem awake4_any (w : World) : Calls Try.prog 8 #[] w (LawPost w) := by
  have hn1 := Lib.hid (strSl_new w 9 [[97], [98], [99]] 3 rfl)
  go_enter Try.func8, Try.ntmps8
  go_wp2_with fail
  refine (shingles_any [[97], [98], [99]] _ 2 _ hn1.out (slBelow_new _ _ _ _ _) (by simp) (by decide) (by omega) (by omega)).mono ?_
  rintro e w1 ⟨v1, rfl, ho1, hb1⟩
  rw [shin_ex1] at ho1
  have hb1w := Lib.hid (((Below.refl w.heap.size w).alloc (Nat.le_refl _) _).trans (hb1.mono (by simp)))
  obtain ⟨b, off, c, rfl, h1⟩ := (strSl_own ho1).some (by simp)
  have g1 := h1 1 (by decide)
  simp only [List.getD_cons_zero, List.getD_cons_succ, strV] at g1
  clear h1 hb1 ho1
  go_wp2_with fail
  refine (hash_any [] _ (by simp)).mono ?_; rintro e w2 ⟨rfl, rfl⟩
  rw [hash_ex0]
  go_wp2_with fail
  refine (hash_any [97] _ (by unfold maxLen; simp)).mono ?_; rintro e w2 ⟨rfl, rfl⟩
  rw [hash_ex1]
  go_wp2_with fail
  refine (shingles_any [[97]] _ 3 _ (strSl_new w1 9 [[97]] 1 rfl) (slBelow_new _ _ _ _ _) (by simp) (by decide) (by omega) (by omega)).mono ?_
  rintro e w3 ⟨v3, rfl, ho3, hb3⟩
  rw [shin_ex2] at ho3
  obtain ⟨a3, c3, rfl⟩ := own_form ho3
  have hb3w := Lib.hid (((Below.refl w1.heap.size w1).alloc (Nat.le_refl _) _).trans (hb3.mono (by simp)))
  clear ho3 hb3
  go_wp2_with fail
  go_ret
  exact ⟨rfl, hb1w.out.andThen hb3w.out⟩
end Go.Proofs.Ytmallpkbjpfajaa
