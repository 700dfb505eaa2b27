/- The walks of put at what is no rune, Bytes, Encode: the program's and the reference's. -/
import Derived.Test.YtldnigkaagcciaaDoorUc
import Derived.Test.YtldnigkaagcciaaDoorCv
namespace Go.Proofs.YtldnigkaagcciaaDoor
open Go.RowKit

set_option maxHeartbeats 400000 in
theorem putN_any (B : Nat) (v : Value) (xs : List Int) (r : Int) (w : World) (hr : isR r = false) (hown : Byts w B v xs) (hB : B ≤ w.heap.size) (hn : xs.length ≤ 1000000) :
    Calls Tryd.prog 74 #[v, .int .i32 r] w (PutPost B w (xs ++ [239, 191, 189])) := by
  replace hown := Lib.hid hown
  go_enter Tryd.func74, Tryd.ntmps74
  go_wp2_with fail
  refine (is_any r _).mono ?_; rintro e w' ⟨rfl, rfl⟩
  go_wp2_with fail
  refine (lead_any 65533 _ (by omega) (by omega)).mono ?_; rintro e w' ⟨rfl, rfl⟩
  rw [show (encR 65533).headD 0 = 239 from rfl, show folN 65533 = 2 from rfl]
  go_wp2_with (at_builtin; go_must (refine wpList_append1 rfl _ _ 43 5 rfl Tryd.underlying43 (.int .u8 0) 1 info_byte rfl (by decide) B _ _ _ _ hown.out rfl rfl rfl (by omega) (by omega) ?_))
  intro v1 w1 hown1 hb1 _
  replace hown1 := Lib.hid hown1
  have hs1 := hb1.size
  replace hb1 := Lib.hid hb1
  go_wp2_with fail
  refine (follower_any _ _ (by omega) (by omega)).mono ?_; rintro e w' ⟨rfl, rfl⟩
  go_wp2_with (at_builtin; go_must (refine wpList_append1 rfl _ _ 43 5 rfl Tryd.underlying43 (.int .u8 0) 1 info_byte rfl (by decide) B _ _ _ _ hown1.out rfl rfl rfl (by omega) (by omega) ?_))
  intro v2 w2 hown2 hb2 _
  replace hown2 := Lib.hid hown2
  have hs2 := hb2.size
  replace hb2 := Lib.hid hb2
  go_wp2_with fail
  refine (follower_any _ _ (by omega) (by omega)).mono ?_; rintro e w' ⟨rfl, rfl⟩
  go_wp2_with (at_builtin; go_must (refine wpList_append1 rfl _ _ 43 5 rfl Tryd.underlying43 (.int .u8 0) 1 info_byte rfl (by decide) B _ _ _ _ hown2.out rfl rfl rfl (by omega) (by omega) ?_))
  intro v3 w3 hown3 hb3 _
  replace hown3 := Lib.hid hown3
  replace hb3 := Lib.hid hb3
  go_wp2_with fail
  go_ret
  exact ⟨_, rfl, byts_mk _ hown3.out rfl, (hb1.out.trans hb2.out).trans hb3.out⟩

theorem put_any (B : Nat) (v : Value) (xs : List Int) (r : Int) (w : World) (hown : Byts w B v xs) (hB : B ≤ w.heap.size) (hn : xs.length ≤ 1000000) :
    Calls Tryd.prog 74 #[v, .int .i32 r] w (PutPost B w (xs ++ encI r)) := by
  unfold encI
  cases hr : isR r
  · exact putN_any B v xs r w hr hown hB hn
  · exact putR_any B v xs r w hr hown hB hn

set_option maxHeartbeats 400000 in
theorem bytes_any (r : Int) (w : World) :
    Calls Tryd.prog 68 #[.int .i32 r] w fun e w' => e = .returned (.string ⟨(enc r).toArray⟩) ∧ Below w.heap.size w w' := by
  go_enter Tryd.func68, Tryd.ntmps68
  go_wp2_with fail
  refine (put_any w.heap.size _ [] r _ (World.ownsRow_nil _ _ _ _) (Nat.le_refl _) (by simp)).mono ?_
  rintro e w' ⟨v, rfl, hown, hb⟩
  have hc := run_str (P := Tryd.prog) w' 43 9 5 Tryd.underlying43 Tryd.underlying5 Tryd.underlying9 (intSl_own hown)
  replace hb := Lib.hid hb
  clear hown
  go_wp2_with fail
  go_ret
  exact ⟨rfl, hb.out⟩

/-- What a loop that encodes keeps. -/
structure EncAt (l : List Int) (w : World) (k : Nat) (wr : World) (v : Value) : Prop where
  le : k ≤ l.length
  own : Byts wr w.heap.size v ((l.take k).flatMap encI)
  below : Below w.heap.size w wr

theorem encI_len (r : Int) : (encI r).length ≤ 4 := by
  unfold encI encR; split <;> (repeat' split) <;> simp
theorem flat_len (l : List Int) : (l.flatMap encI).length ≤ 4 * l.length := by
  induction l with
  | nil => simp
  | cons a l ih => have := encI_len a; rw [List.flatMap_cons, List.length_append, List.length_cons]; omega
theorem flat_take (l : List Int) (k : Nat) (h : k < l.length) : (l.take (k + 1)).flatMap encI = (l.take k).flatMap encI ++ encI l[k] := by
  rw [List.take_succ_eq_append_getElem h, List.flatMap_append]; simp

theorem enc_len (r : Int) : (enc r).length ≤ 4 := by unfold enc; rw [List.length_map]; exact encI_len r
theorem encAll_len (l : List Int) : (encAll l).length ≤ 4 * l.length := by unfold encAll; rw [List.length_map]; exact flat_len l
theorem encAll_take {l : List Int} {k : Nat} (h : k < l.length) : encAll (l.take k) ++ enc l[k] = encAll (l.take (k + 1)) := by
  unfold encAll enc; rw [flat_take l k h, List.map_append]

theorem i32_and63 {x : Int} (h0 : 0 ≤ x) (h1 : x < 2147483648) : bits .and .i32 x 63 = x % 64 := bits_mask .i32 31 (by decide) wraps_i32 6 (by decide) _ h0 h1
theorem i32_or128 {x : Int} (h0 : 0 ≤ x) (h1 : x < 64) : bits .or .i32 128 x = 128 + x := i32_or6 128 x (by decide) (by decide) (by decide) h0 h1
theorem i32_or224 {x : Int} (h0 : 0 ≤ x) (h1 : x < 16) : bits .or .i32 224 x = 224 + x := bits_join .i32 31 (by decide) wraps_i32 4 224 x (by decide) (by decide) (by decide) h0 h1 (by omega)
theorem i32_or240 {x : Int} (h0 : 0 ≤ x) (h1 : x < 8) : bits .or .i32 240 x = 240 + x := bits_join .i32 31 (by decide) wraps_i32 3 240 x (by decide) (by decide) (by decide) h0 h1 (by omega)
theorem i32_or192 {x : Int} (h0 : 0 ≤ x) (h1 : x < 32) : bits .or .i32 192 x = 192 + x := bits_join .i32 31 (by decide) wraps_i32 5 192 x (by decide) (by decide) (by decide) h0 h1 (by omega)

theorem encR_cases (r : Int) : (r < 128 ∧ encR r = [r] ∧ folN r = 0) ∨ (128 ≤ r ∧ r < 2048 ∧ encR r = [192 + r / 64, 128 + r % 64] ∧ folN r = 1) ∨
      (2048 ≤ r ∧ r < 65536 ∧ encR r = [224 + r / 4096, 128 + r / 64 % 64, 128 + r % 64] ∧ folN r = 2) ∨
      (65536 ≤ r ∧ encR r = [240 + r / 262144, 128 + r / 4096 % 64, 128 + r / 64 % 64, 128 + r % 64] ∧ folN r = 3) := by
  unfold encR folN
  by_cases h1 : r < 128
  · rw [if_pos h1, if_pos h1]; exact Or.inl ⟨h1, rfl, rfl⟩
  · by_cases h2 : r < 2048
    · rw [if_neg h1, if_pos h2, if_neg h1, if_pos h2]; exact Or.inr (Or.inl ⟨by omega, h2, rfl, rfl⟩)
    · by_cases h3 : r < 65536
      · rw [if_neg h1, if_neg h2, if_pos h3, if_neg h1, if_neg h2, if_pos h3]; exact Or.inr (Or.inr (Or.inl ⟨by omega, h3, rfl, rfl⟩))
      · rw [if_neg h1, if_neg h2, if_neg h3, if_neg h1, if_neg h2, if_neg h3]; exact Or.inr (Or.inr (Or.inr ⟨by omega, rfl, rfl⟩))


end Go.Proofs.YtldnigkaagcciaaDoor
