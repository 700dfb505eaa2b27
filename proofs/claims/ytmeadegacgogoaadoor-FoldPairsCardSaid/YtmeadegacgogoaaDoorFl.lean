/- The walks of the laws of layer 2. -/
import Derived.Test.YtmeadegacgogoaaDoorFd
namespace Go.Proofs.YtmeadegacgogoaaDoor
open Go.RowKit

/-- True, and nothing that was there has turned. -/
def TruePost (w : World) (e : Ending) (w' : World) : Prop := e = .returned (.bool true) ∧ Below w.heap.size w w'

set_option maxHeartbeats 400000 in
theorem letters_any (w : World) (h : Tab w) : Calls Tryd.prog 14 #[] w fun e w' => ∃ v, e = .returned v ∧ RgSl w' v lettersL ∧ Below w.heap.size w w' := by
  obtain ⟨⟨b, off, c, _, h1, h2⟩, _⟩ := h
  go_enter Tryd.func14, Tryd.ntmps14
  go_wp2_with fail
  refine (clone_any lettersL b off c w (by decide) h2 (by decide)).mono ?_; rintro e w1 ⟨v, rfl, hv, hb⟩
  go_wp2_with fail
  go_ret
  exact ⟨_, rfl, hv, hb⟩
set_option maxHeartbeats 400000 in
theorem digits_any (w : World) (h : Tab w) : Calls Tryd.prog 15 #[] w fun e w' => ∃ v, e = .returned v ∧ RgSl w' v digitsL ∧ Below w.heap.size w w' := by
  obtain ⟨_, b, off, c, _, h1, h2⟩ := h
  go_enter Tryd.func15, Tryd.ntmps15
  go_wp2_with fail
  refine (clone_any digitsL b off c w (by decide) h2 (by decide)).mono ?_; rintro e w1 ⟨v, rfl, hv, hb⟩
  go_wp2_with fail
  go_ret
  exact ⟨_, rfl, hv, hb⟩

theorem ex02_0 : foldI 65 = 97 := by decide
theorem ex02_1 : foldI 196 = 228 := by decide
theorem ex02_2 : foldI 256 = 257 := by decide
theorem ex02_3 : foldI 376 = 255 := by decide
theorem ex02_4 : foldI 1040 = 1072 := by decide
theorem ex02_5 : letB 19968 = true := by decide
theorem ex02_6 : letB 215 = false := by decide
theorem ex02_7 : digB 55 = true := by decide
theorem ex02_8 : foldI 55 = 55 := by decide

set_option maxHeartbeats 400000 in
theorem awake02_any (w : World) (h : Tab w) : Calls Tryd.prog 7 #[] w (TruePost w) := by
  go_enter Tryd.func7, Tryd.ntmps7
  go_wp2_with fail
  refine (fold_any 65 _ h).mono ?_; rintro e w1 ⟨rfl, hb1⟩
  rw [ex02_0]
  have h1 := h.below hb1
  have k1 := hb1

  go_wp2_with fail
  refine (fold_any 196 _ h1).mono ?_; rintro e w2 ⟨rfl, hb2⟩
  rw [ex02_1]
  have h2 := h1.below hb2
  have k2 := k1.andThen hb2
  clear hb2 h1 k1
  go_wp2_with fail
  refine (fold_any 256 _ h2).mono ?_; rintro e w3 ⟨rfl, hb3⟩
  rw [ex02_2]
  have h3 := h2.below hb3
  have k3 := k2.andThen hb3
  clear hb3 h2 k2
  go_wp2_with fail
  refine (fold_any 376 _ h3).mono ?_; rintro e w4 ⟨rfl, hb4⟩
  rw [ex02_3]
  have h4 := h3.below hb4
  have k4 := k3.andThen hb4
  clear hb4 h3 k3
  go_wp2_with fail
  refine (fold_any 1040 _ h4).mono ?_; rintro e w5 ⟨rfl, hb5⟩
  rw [ex02_4]
  have h5 := h4.below hb5
  have k5 := k4.andThen hb5
  clear hb5 h4 k4
  go_wp2_with fail
  refine (letter_any 19968 _ h5).mono ?_; rintro e w6 ⟨rfl, hb6⟩
  rw [ex02_5]
  have h6 := h5.below hb6
  have k6 := k5.andThen hb6
  clear hb6 h5 k5
  go_wp2_with fail
  refine (letter_any 215 _ h6).mono ?_; rintro e w7 ⟨rfl, hb7⟩
  rw [ex02_6]
  have h7 := h6.below hb7
  have k7 := k6.andThen hb7
  clear hb7 h6 k6
  go_wp2_with fail
  refine (digit_any 55 _ h7).mono ?_; rintro e w8 ⟨rfl, hb8⟩
  rw [ex02_7]
  have h8 := h7.below hb8
  have k8 := k7.andThen hb8
  clear hb8 h7 k7
  go_wp2_with fail
  refine (fold_any 55 _ h8).mono ?_; rintro e w9 ⟨rfl, hb9⟩
  rw [ex02_8]
  have h9 := h8.below hb9
  have k9 := k8.andThen hb9
  clear hb9 h8 k8
  go_wp2_with fail
  go_ret
  exact ⟨rfl, k9⟩

set_option maxHeartbeats 400000 in
theorem tells02_law (r : Int) (w : World) (h : Tab w) : Calls Tryd.prog 3 #[.int .i32 r] w (TruePost w) := by
  go_enter Tryd.func3, Tryd.ntmps3
  go_wp2_with fail
  refine (awake02_any _ h).mono ?_; rintro e w1 ⟨rfl, k1⟩
  have h1 := h.below k1
  go_wp2_with fail
  refine (letter_any r _ h1).mono ?_; rintro e w2 ⟨rfl, hb⟩
  have k2 := k1.andThen hb
  clear hb
  go_wp2_with fail
  refine (refletter_any r _).mono ?_; rintro e w3 ⟨rfl, hb⟩
  have k3 := k2.andThen hb
  clear hb
  go_wp2_with fail
  refine (digit_any r _ (h.below k3)).mono ?_; rintro e w4 ⟨rfl, hb⟩
  have k4 := k3.andThen hb
  clear hb
  go_wp2_with fail
  refine (refdigit_any r _).mono ?_; rintro e w5 ⟨rfl, hb⟩
  have k5 := k4.andThen hb
  clear hb
  go_wp2_with fail
  refine (fold_any r _ (h.below k5)).mono ?_; rintro e w6 ⟨rfl, hb⟩
  have k6 := k5.andThen hb
  clear hb
  go_wp2_with fail
  refine (reffold_any r _).mono ?_; rintro e w7 ⟨rfl, hb⟩
  have k7 := k6.andThen hb
  clear hb
  go_wp2_with fail
  go_ret
  exact ⟨rfl, k7⟩

set_option maxHeartbeats 400000 in
theorem once02_law (r : Int) (w : World) (h : Tab w) : Calls Tryd.prog 5 #[.int .i32 r] w (TruePost w) := by
  have hff : foldI (foldI r) = foldI r := by
    cases hl : letB r with
    | false => rw [letB_not hl, letB_not hl]
    | true => exact (fold_once r hl).2
  have hlf : letB (foldI r) = letB r := by
    cases hl : letB r with
    | false => rw [letB_not hl, hl]
    | true => exact (fold_once r hl).1
  replace hff := Lib.hid hff
  replace hlf := Lib.hid hlf
  cases hl : letB r
  all_goals
    have hn : letB r = true ∨ foldI r = r := by
      cases hl' : letB r with
      | false => exact Or.inr (letB_not hl')
      | true => exact Or.inl rfl
    replace hn := Lib.hid hn
    replace hl := Lib.hid hl
    go_enter Tryd.func5, Tryd.ntmps5
    go_wp2_with fail
    refine (fold_any r _ h).mono ?_; rintro e w1 ⟨rfl, k1⟩
    go_wp2_with fail
    refine (awake02_any _ (h.below k1)).mono ?_; rintro e w2 ⟨rfl, hb⟩
    have k2 := k1.andThen hb
    clear hb
    go_wp2_with fail
    refine (fold_any (foldI r) _ (h.below k2)).mono ?_; rintro e w3 ⟨rfl, hb⟩
    rw [hff.out]
    have k3 := k2.andThen hb
    clear hb
    go_wp2_with fail
    refine (letter_any (foldI r) _ (h.below k3)).mono ?_; rintro e w4 ⟨rfl, hb⟩
    rw [hlf.out]
    have k4 := k3.andThen hb
    clear hb
    go_wp2_with fail
    refine (letter_any r _ (h.below k4)).mono ?_; rintro e w5 ⟨rfl, hb⟩
    have k5 := k4.andThen hb
    clear hb
    go_wp2_with fail
    refine (letter_any r _ (h.below k5)).mono ?_; rintro e w6 ⟨rfl, hb⟩
    have k6 := k5.andThen hb
    clear hb
    rw [hl.out]
  · have hn' : foldI r = r := by rcases hn.out with hn | hn; (rw [hl.out] at hn; cases hn); exact hn
    go_wp2_with fail
    go_ret
    exact ⟨rfl, k6⟩
  · go_wp2_with fail
    go_ret
    exact ⟨rfl, k6⟩
end Go.Proofs.YtmeadegacgogoaaDoor
