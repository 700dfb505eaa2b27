/- The walk of the law UtfParts. -/
import Derived.Test.YtjaacimgeckofaaUl
import Derived.Test.YtjaacimgeckofaaApp
namespace Go.Proofs.Ytjaacimgeckofaa
open Go.RowKit

set_option maxHeartbeats 400000 in
theorem parts_law (l k : List UInt8) (w : World) (hl : l.length ≤ maxLen) (hk : k.length ≤ maxLen) : Calls Try.prog 7 #[.string ⟨l.toArray⟩, .string ⟨k.toArray⟩] w (AwakePost w) := by
  unfold maxLen at hl hk
  by_cases h1 : 5000 < l.length
  · go_enter Try.func7, Try.ntmps7
    go_wp2_with fail
    refine (awake_any w).mono ?_
    rintro e w1 ⟨rfl, hb⟩
    go_wp2_with fail
    go_ret
    exact ⟨rfl, hb⟩
  by_cases h2 : 5000 < k.length
  · go_enter Try.func7, Try.ntmps7
    go_wp2_with fail
    refine (awake_any w).mono ?_
    rintro e w1 ⟨rfl, hb⟩
    go_wp2_with fail
    go_ret
    exact ⟨rfl, hb⟩
  by_cases h3 : val l = false
  · go_enter Try.func7, Try.ntmps7
    go_wp2_with fail
    refine (valid_any l _ (by omega)).mono ?_
    rintro e w1 ⟨rfl, n1, rfl⟩
    rw [h3]
    go_wp2_with fail
    refine (awake_any _).mono ?_
    rintro e w1 ⟨rfl, hb⟩
    go_wp2_with fail
    go_ret
    exact ⟨rfl, (Drawn.below ⟨_, rfl⟩ _).trans hb⟩
  have h3 : val l = true := by simpa using h3
  have hda := Lib.hid (dec_app k l h3)
  go_enter Try.func7, Try.ntmps7
  go_wp2_with fail
  refine (valid_any l _ (by omega)).mono ?_
  rintro e w1 ⟨rfl, n1, rfl⟩
  rw [h3]
  go_wp2_with fail
  refine (awake_any _).mono ?_
  rintro e w1 ⟨rfl, hb1⟩
  have hs1 := hb1.size
  have hb1 := Lib.hid hb1
  go_wp2_with fail
  refine (decode_any (l ++ k) _ (by simp; omega)).mono ?_
  rintro e w2 ⟨v2, rfl, hown2, hb2⟩
  have hs2 := hb2.size
  have hb2 := Lib.hid hb2
  have hown2 := Lib.hid hown2
  go_wp2_with fail
  refine (decode_any l _ (by omega)).mono ?_
  rintro e w3 ⟨v3, rfl, hown3, hb3⟩
  have hs3 := hb3.size
  have hb3 := Lib.hid hb3
  have hown3 := Lib.hid hown3
  have hem : Hid (w3.ownsRow w2.heap.size 21 1 (.slice (some ⟨w2.heap.size, 0, none⟩) 0 0) 0 []) :=
    ⟨by simp, Or.inr ⟨w2.heap.size, 0, #[], rfl, Nat.le_refl _, (hb3.out.block _ (by simp)).trans (heap_alloc_new w2 _), Nat.le_refl _, by unfold maxLen; omega, by simp, by simp⟩⟩
  have hdl := dec_len l
  have hdk := dec_len k
  simp only [World.size_alloc] at hs3
  go_wp2_with (at_builtin; go_must (refine wpList_append_row rfl _ _ 26 21 rfl Try.underlying26 (.int .i32 0) 4 info_rune rfl (by decide) w2.heap.size _ _ _ hem.out _ _ _ _ hown3.out rfl rfl ?_ (by omega) (by omega) ?_))
  · intro u hu; simp at hu; obtain ⟨x, _, rfl⟩ := hu; rfl
  intro v4 w4 hown4 hb4 hg4
  have hown4 := Lib.hid hown4
  have hs4 := hb4.size
  have hb4 := Lib.hid hb4
  have hg4 := Lib.hid hg4
  go_wp2_with fail
  refine (decode_any k _ (by omega)).mono ?_
  rintro e w5 ⟨v5, rfl, hown5, hb5⟩
  have hs5 := hb5.size
  have hb5 := Lib.hid hb5
  have hown5 := Lib.hid hown5
  have hown4' := Lib.hid (ownsRow_below hown4.out hb5.out)
  go_wp2_with (at_builtin; go_must (refine wpList_append_row rfl _ _ 26 21 rfl Try.underlying26 (.int .i32 0) 4 info_rune rfl (by decide) w2.heap.size _ _ _ hown4'.out _ _ _ _ hown5.out rfl rfl ?_ (by omega) (by omega) ?_))
  · intro u hu; simp at hu; obtain ⟨x, _, rfl⟩ := hu; rfl
  intro v6 w6 hown6 hb6 hg6
  have hs6 := hb6.size
  have hown6 : Hid (Runes w6 w2.heap.size v6 (dec l ++ dec k)) := by
    unfold Runes Hid; rw [List.length_append, List.map_append]; simpa using hown6
  have hb6 := Lib.hid hb6
  have hb26 : Hid (Below w2.heap.size w2 w6) :=
    (((((Below.refl _ _).alloc (Nat.le_refl _) _).trans (hb3.out.mono (by simp))).trans hb4.out).trans (hb5.out.mono (by omega))).trans hb6.out
  have hi2 : Hid (IntSl .i32 w6 v2 (dec (l ++ k))) := (intSl_own hown2.out).below hb26.out (slBelow_own hown2.out)
  have hlen : (dec (l ++ k)).length ≤ 10000 := by have := dec_len (l ++ k); simp at this; omega
  go_wp2_with fail
  refine (same_any _ _ v2 v6 _ hi2.out (intSl_own hown6.out) (by omega) (by simp; omega)).mono ?_
  rintro e w7 ⟨rfl, n7, rfl⟩
  rw [show decide (dec (l ++ k) = dec l ++ dec k) = true from by simp [hda.out.1]]
  go_wp2_with fail
  refine (valid_any (l ++ k) _ (by simp; omega)).mono ?_
  rintro e w8 ⟨rfl, n8, rfl⟩
  rw [hda.out.2]
  go_wp2_with fail
  refine (valid_any k _ (by omega)).mono ?_
  rintro e w8 ⟨rfl, n9, rfl⟩
  go_wp2_with fail
  go_ret
  exact ⟨rfl, (((((Drawn.below ⟨_, rfl⟩ _).trans (hb1.out.mono (by simp))).trans (hb2.out.mono (by simpa using hs1)))).trans (hb26.out.mono (by simp at hs1; omega))).trans (Drawn.below ⟨_, rfl⟩ _)⟩
end Go.Proofs.Ytjaacimgeckofaa
