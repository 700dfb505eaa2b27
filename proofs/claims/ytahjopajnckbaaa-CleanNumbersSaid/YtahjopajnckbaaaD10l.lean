/- Layer 10's laws: the document's examples; CleanTells, CleanNames, CleanPlain. -/
import Derived.Test.YtahjopajnckbaaaD10m
namespace Go.Proofs.Ytahjopajnckbaaa
open Go.RowKit

theorem ex10_1 : cleanB [32, 60, 112, 62, 70, 105, 115, 104, 32, 38, 97, 109, 112, 59, 32, 60, 98, 62, 99, 104, 105, 112, 115, 60, 47, 98, 62, 10] = [70, 105, 115, 104, 32, 38, 32, 99, 104, 105, 112, 115] := by decide +kernel
theorem ex10_2 : stripB [49, 32, 60, 32, 50, 32, 60, 98, 114, 47, 62] = [49, 32, 60, 32, 50, 32, 32] := by decide +kernel
theorem ex10_3 : entB [38, 35, 54, 53, 59, 38, 35, 120, 52, 50, 59, 38, 110, 111, 112, 101, 59] = [65, 66, 38, 110, 111, 112, 101, 59] := by decide +kernel
theorem ex10_4 : plainB [97, 32, 98] = true := by decide +kernel
theorem ex10_5 : plainB [97, 32, 32, 98] = false := by decide +kernel

set_option maxHeartbeats 1000000 in
theorem awake10_any (w : World) : Calls Try.prog 9 #[] w (LawPost w) := by
  go_enter Try.func9, Try.ntmps9
  go_wp2_with fail
  refine (clean_any [32, 60, 112, 62, 70, 105, 115, 104, 32, 38, 97, 109, 112, 59, 32, 60, 98, 62, 99, 104, 105, 112, 115, 60, 47, 98, 62, 10] _ (by decide)).mono ?_; rintro e w1 ⟨rfl, hb1⟩
  rw [ex10_1]
  replace hb1 := Lib.hid hb1
  go_wp2_with fail
  refine (strip_any [49, 32, 60, 32, 50, 32, 60, 98, 114, 47, 62] _ (by decide)).mono ?_; rintro e w2 ⟨rfl, hb2⟩
  rw [ex10_2]
  have k2 := Lib.hid (hb1.out.andThen hb2)
  clear hb1 hb2
  go_wp2_with fail
  refine (entities_any [38, 35, 54, 53, 59, 38, 35, 120, 52, 50, 59, 38, 110, 111, 112, 101, 59] _ (by decide)).mono ?_; rintro e w3 ⟨rfl, hb3⟩
  rw [ex10_3]
  have k3 := Lib.hid (k2.out.andThen hb3)
  clear k2 hb3
  go_wp2_with fail
  refine (plain_any [97, 32, 98] _ (by decide)).mono ?_; rintro e w4 ⟨rfl, hb4⟩
  rw [ex10_4]
  have k4 := Lib.hid (k3.out.andThen hb4)
  clear k3 hb4
  go_wp2_with fail
  refine (plain_any [97, 32, 32, 98] _ (by decide)).mono ?_; rintro e w5 ⟨rfl, hb5⟩
  rw [ex10_5]
  have k5 := Lib.hid (k4.out.andThen hb5)
  clear k4 hb5
  go_wp2_with fail
  go_ret
  exact ⟨rfl, k5.out⟩

set_option maxHeartbeats 1000000 in
theorem tells10_law (l : List UInt8) (w : World) (hm : l.length ≤ maxLen) : Calls Try.prog 3 #[.string ⟨l.toArray⟩] w (LawPost w) := by
  unfold maxLen at hm
  by_cases hl : l.length ≤ 3000
  · go_enter Try.func3, Try.ntmps3
    go_wp2_with fail
    refine (awake10_any _).mono ?_; rintro e w0 ⟨rfl, h0⟩
    replace h0 := Lib.hid h0
    go_wp2_with fail
    refine (strip_any l _ (by omega)).mono ?_; rintro e w1 ⟨rfl, h1⟩
    have k1 := Lib.hid (h0.out.andThen h1)
    clear h0 h1
    go_wp2_with fail
    refine (refstrip_any l _ (by omega)).mono ?_; rintro e w' ⟨rfl, rfl⟩
    go_wp2_with fail
    refine (entities_any l _ (by omega)).mono ?_; rintro e w2 ⟨rfl, h2⟩
    have k2 := Lib.hid (k1.out.andThen h2)
    clear k1 h2
    go_wp2_with fail
    refine (refentities_any l _ (by omega)).mono ?_; rintro e w3 ⟨rfl, h3⟩
    have k3 := Lib.hid (k2.out.andThen h3)
    clear k2 h3
    go_wp2_with fail
    refine (space_any l _ (by omega)).mono ?_; rintro e w4 ⟨rfl, h4⟩
    have k4 := Lib.hid (k3.out.andThen h4)
    clear k3 h4
    go_wp2_with fail
    refine (refspace_any l _ (by omega)).mono ?_; rintro e w' ⟨rfl, rfl⟩
    go_wp2_with fail
    refine (clean_any l _ (by omega)).mono ?_; rintro e w5 ⟨rfl, h5⟩
    have k5 := Lib.hid (k4.out.andThen h5)
    clear k4 h5
    go_wp2_with fail
    refine (refclean_any l _ (by omega)).mono ?_; rintro e w6 ⟨rfl, h6⟩
    have k6 := Lib.hid (k5.out.andThen h6)
    clear k5 h6
    go_wp2_with fail
    refine (plain_any l _ (by omega)).mono ?_; rintro e w7 ⟨rfl, h7⟩
    have k7 := Lib.hid (k6.out.andThen h7)
    clear k6 h7
    go_wp2_with fail
    refine (refplain_any l _ (by omega)).mono ?_; rintro e w' ⟨rfl, rfl⟩
    go_wp2_with fail
    go_ret
    exact ⟨rfl, k7.out⟩
  · go_enter Try.func3, Try.ntmps3
    go_wp2_with fail
    refine (awake10_any _).mono ?_; rintro e w0 ⟨rfl, h0⟩
    replace h0 := Lib.hid h0
    go_wp2_with fail
    go_ret
    exact ⟨rfl, h0.out⟩

set_option maxHeartbeats 1000000 in
theorem names10_law (l : List UInt8) (r : Int) (w : World) (hm : l.length ≤ maxLen) : Calls Try.prog 4 #[.string ⟨l.toArray⟩, .int .i32 r] w (LawPost w) := by
  unfold maxLen at hm
  by_cases hl : l.length ≤ 3000
  · have h1 := fun W : World => named_any l W (by omega)
    have h2 := fun W : World => refnamed_any l W (by omega)
    generalize namedS l = o at h1 h2
    replace h1 := Lib.hid h1
    replace h2 := Lib.hid h2
    cases o with
    | none =>
      go_enter Try.func4, Try.ntmps4
      go_wp2_with fail
      refine (h1.out _).mono ?_; rintro e w1 ⟨t1, rfl, ht1, hb1⟩
      clear ht1
      replace hb1 := Lib.hid hb1
      go_wp2_with fail
      refine (h2.out _).mono ?_; rintro e w2 ⟨t2, rfl, ht2, hb2⟩
      clear ht2
      have k2 := Lib.hid (hb1.out.andThen hb2)
      clear hb1 hb2
      go_wp2_with fail
      refine (awake10_any _).mono ?_; rintro e w3 ⟨rfl, hb3⟩
      have k3 := Lib.hid (k2.out.andThen hb3)
      clear k2 hb3
      go_wp2_with fail
      refine (char_any r _).mono ?_; rintro e w' ⟨rfl, rfl⟩
      go_wp2_with fail
      refine (refchar_any r _).mono ?_; rintro e w' ⟨rfl, rfl⟩
      go_wp2_with fail
      go_ret
      exact ⟨rfl, k3.out⟩
    | some x =>
      go_enter Try.func4, Try.ntmps4
      go_wp2_with fail
      refine (h1.out _).mono ?_; rintro e w1 ⟨t1, rfl, ht1, hb1⟩
      obtain rfl := ht1 x rfl
      clear ht1
      replace hb1 := Lib.hid hb1
      go_wp2_with fail
      refine (h2.out _).mono ?_; rintro e w2 ⟨t2, rfl, ht2, hb2⟩
      obtain rfl := ht2 t1 rfl
      clear ht2
      have k2 := Lib.hid (hb1.out.andThen hb2)
      clear hb1 hb2
      go_wp2_with fail
      refine (awake10_any _).mono ?_; rintro e w3 ⟨rfl, hb3⟩
      have k3 := Lib.hid (k2.out.andThen hb3)
      clear k2 hb3
      go_wp2_with fail
      refine (char_any r _).mono ?_; rintro e w' ⟨rfl, rfl⟩
      go_wp2_with fail
      refine (refchar_any r _).mono ?_; rintro e w' ⟨rfl, rfl⟩
      go_wp2_with fail
      go_ret
      exact ⟨rfl, k3.out⟩
  · go_enter Try.func4, Try.ntmps4
    go_wp2_with fail
    refine (awake10_any _).mono ?_; rintro e w0 ⟨rfl, h0⟩
    replace h0 := Lib.hid h0
    go_wp2_with fail
    go_ret
    exact ⟨rfl, h0.out⟩

set_option maxHeartbeats 1000000 in
theorem plain10_law (l : List UInt8) (w : World) (hm : l.length ≤ maxLen) : Calls Try.prog 5 #[.string ⟨l.toArray⟩] w (LawPost w) := by
  unfold maxLen at hm
  by_cases hl : l.length ≤ 3000
  · have h1 := fun W : World => plain_any l W (by omega)
    have h2 := fun W : World => clean_any l W (by omega)
    cases hp : plainB l
    · rw [hp] at h1
      clear h2 hp
      replace h1 := Lib.hid h1
      go_enter Try.func5, Try.ntmps5
      go_wp2_with fail
      refine (awake10_any _).mono ?_; rintro e w0 ⟨rfl, h0⟩
      replace h0 := Lib.hid h0
      go_wp2_with fail
      refine (h1.out _).mono ?_; rintro e w1 ⟨rfl, hb1⟩
      have k1 := Lib.hid (h0.out.andThen hb1)
      clear h0 hb1
      go_wp2_with fail
      go_ret
      exact ⟨rfl, k1.out⟩
    · rw [hp] at h1
      rw [clean_plain l hp] at h2
      clear hp
      replace h1 := Lib.hid h1
      replace h2 := Lib.hid h2
      go_enter Try.func5, Try.ntmps5
      go_wp2_with fail
      refine (awake10_any _).mono ?_; rintro e w0 ⟨rfl, h0⟩
      replace h0 := Lib.hid h0
      go_wp2_with fail
      refine (h1.out _).mono ?_; rintro e w1 ⟨rfl, hb1⟩
      have k1 := Lib.hid (h0.out.andThen hb1)
      clear h0 hb1
      go_wp2_with fail
      refine (h2.out _).mono ?_; rintro e w2 ⟨rfl, hb2⟩
      have k2 := Lib.hid (k1.out.andThen hb2)
      clear k1 hb2
      go_wp2_with fail
      go_ret
      exact ⟨rfl, k2.out⟩
  · go_enter Try.func5, Try.ntmps5
    go_wp2_with fail
    refine (awake10_any _).mono ?_; rintro e w0 ⟨rfl, h0⟩
    replace h0 := Lib.hid h0
    go_wp2_with fail
    go_ret
    exact ⟨rfl, h0.out⟩
end Go.Proofs.Ytahjopajnckbaaa
