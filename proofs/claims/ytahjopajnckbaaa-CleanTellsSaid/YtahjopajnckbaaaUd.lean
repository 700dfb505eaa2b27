/- The walks of put at what is no rune, Bytes, Encode: the program's and the reference's. -/
import Derived.Test.YtahjopajnckbaaaUc
import Derived.Test.YtahjopajnckbaaaCv
namespace Go.Proofs.Ytahjopajnckbaaa
open Go.RowKit

set_option maxHeartbeats 400000 in
theorem putN_any (B : Nat) (v : Value) (xs : List Int) (r : Int) (w : World) (hr : isR r = false) (hown : Byts w B v xs) (hB : B ≤ w.heap.size) (hn : xs.length ≤ 1000000) :
    Calls Try.prog 44 #[v, .int .i32 r] w (PutPost B w (xs ++ [239, 191, 189])) := by
  replace hown := Lib.hid hown
  go_enter Try.func44, Try.ntmps44
  go_wp2_with fail
  refine (is_any r _).mono ?_; rintro e w' ⟨rfl, rfl⟩
  go_wp2_with fail
  refine (lead_any 65533 _ (by omega) (by omega)).mono ?_; rintro e w' ⟨rfl, rfl⟩
  rw [show (encR 65533).headD 0 = 239 from rfl, show folN 65533 = 2 from rfl]
  go_wp2_with (at_builtin; go_must (refine wpList_append1 rfl _ _ 29 5 rfl Try.underlying29 (.int .u8 0) 1 info_byte rfl (by decide) B _ _ _ _ hown.out rfl rfl rfl (by omega) (by omega) ?_))
  intro v1 w1 hown1 hb1 _
  replace hown1 := Lib.hid hown1
  have hs1 := hb1.size
  replace hb1 := Lib.hid hb1
  go_wp2_with fail
  refine (follower_any _ _ (by omega) (by omega)).mono ?_; rintro e w' ⟨rfl, rfl⟩
  go_wp2_with (at_builtin; go_must (refine wpList_append1 rfl _ _ 29 5 rfl Try.underlying29 (.int .u8 0) 1 info_byte rfl (by decide) B _ _ _ _ hown1.out rfl rfl rfl (by omega) (by omega) ?_))
  intro v2 w2 hown2 hb2 _
  replace hown2 := Lib.hid hown2
  have hs2 := hb2.size
  replace hb2 := Lib.hid hb2
  go_wp2_with fail
  refine (follower_any _ _ (by omega) (by omega)).mono ?_; rintro e w' ⟨rfl, rfl⟩
  go_wp2_with (at_builtin; go_must (refine wpList_append1 rfl _ _ 29 5 rfl Try.underlying29 (.int .u8 0) 1 info_byte rfl (by decide) B _ _ _ _ hown2.out rfl rfl rfl (by omega) (by omega) ?_))
  intro v3 w3 hown3 hb3 _
  replace hown3 := Lib.hid hown3
  replace hb3 := Lib.hid hb3
  go_wp2_with fail
  go_ret
  exact ⟨_, rfl, byts_mk _ hown3.out rfl, (hb1.out.trans hb2.out).trans hb3.out⟩

theorem put_any (B : Nat) (v : Value) (xs : List Int) (r : Int) (w : World) (hown : Byts w B v xs) (hB : B ≤ w.heap.size) (hn : xs.length ≤ 1000000) :
    Calls Try.prog 44 #[v, .int .i32 r] w (PutPost B w (xs ++ encI r)) := by
  unfold encI
  cases hr : isR r
  · exact putN_any B v xs r w hr hown hB hn
  · exact putR_any B v xs r w hr hown hB hn

set_option maxHeartbeats 400000 in
theorem bytes_any (r : Int) (w : World) :
    Calls Try.prog 35 #[.int .i32 r] w fun e w' => e = .returned (.string ⟨(enc r).toArray⟩) ∧ Below w.heap.size w w' := by
  go_enter Try.func35, Try.ntmps35
  go_wp2_with fail
  refine (put_any w.heap.size _ [] r _ (World.ownsRow_nil _ _ _ _) (Nat.le_refl _) (by simp)).mono ?_
  rintro e w' ⟨v, rfl, hown, hb⟩
  have hc := run_str (P := Try.prog) w' 29 9 5 Try.underlying29 Try.underlying5 Try.underlying9 (intSl_own hown)
  replace hb := Lib.hid hb
  clear hown
  go_wp2_with fail
  go_ret
  exact ⟨rfl, hb.out⟩

/-- What a loop that encodes keeps. -/
structure EncAt (l : List Int) (w : World) (k : Nat) (wr : World) (v : Value) : Prop where
  le : k ≤ l.length
  own : Byts wr w.heap.size v ((l.take k).flatMap encI)
  below : Below w.heap.size w wr

theorem encI_len (r : Int) : (encI r).length ≤ 4 := by
  unfold encI encR; split <;> (repeat' split) <;> simp
theorem flat_len (l : List Int) : (l.flatMap encI).length ≤ 4 * l.length := by
  induction l with
  | nil => simp
  | cons a l ih => have := encI_len a; rw [List.flatMap_cons, List.length_append, List.length_cons]; omega
theorem flat_take (l : List Int) (k : Nat) (h : k < l.length) : (l.take (k + 1)).flatMap encI = (l.take k).flatMap encI ++ encI l[k] := by
  rw [List.take_succ_eq_append_getElem h, List.flatMap_append]; simp

theorem enc_len (r : Int) : (enc r).length ≤ 4 := by unfold enc; rw [List.length_map]; exact encI_len r
theorem encAll_len (l : List Int) : (encAll l).length ≤ 4 * l.length := by unfold encAll; rw [List.length_map]; exact flat_len l
theorem encAll_take {l : List Int} {k : Nat} (h : k < l.length) : encAll (l.take k) ++ enc l[k] = encAll (l.take (k + 1)) := by
  unfold encAll enc; rw [flat_take l k h, List.map_append]

theorem i32_and63 {x : Int} (h0 : 0 ≤ x) (h1 : x < 2147483648) : bits .and .i32 x 63 = x % 64 := bits_mask .i32 31 (by decide) wraps_i32 6 (by decide) _ h0 h1
theorem i32_or128 {x : Int} (h0 : 0 ≤ x) (h1 : x < 64) : bits .or .i32 128 x = 128 + x := i32_or6 128 x (by decide) (by decide) (by decide) h0 h1
theorem i32_or224 {x : Int} (h0 : 0 ≤ x) (h1 : x < 16) : bits .or .i32 224 x = 224 + x := bits_join .i32 31 (by decide) wraps_i32 4 224 x (by decide) (by decide) (by decide) h0 h1 (by omega)
theorem i32_or240 {x : Int} (h0 : 0 ≤ x) (h1 : x < 8) : bits .or .i32 240 x = 240 + x := bits_join .i32 31 (by decide) wraps_i32 3 240 x (by decide) (by decide) (by decide) h0 h1 (by omega)
theorem i32_or192 {x : Int} (h0 : 0 ≤ x) (h1 : x < 32) : bits .or .i32 192 x = 192 + x := bits_join .i32 31 (by decide) wraps_i32 5 192 x (by decide) (by decide) (by decide) h0 h1 (by omega)

theorem encR_cases (r : Int) : (r < 128 ∧ encR r = [r] ∧ folN r = 0) ∨ (128 ≤ r ∧ r < 2048 ∧ encR r = [192 + r / 64, 128 + r % 64] ∧ folN r = 1) ∨
      (2048 ≤ r ∧ r < 65536 ∧ encR r = [224 + r / 4096, 128 + r / 64 % 64, 128 + r % 64] ∧ folN r = 2) ∨
      (65536 ≤ r ∧ encR r = [240 + r / 262144, 128 + r / 4096 % 64, 128 + r / 64 % 64, 128 + r % 64] ∧ folN r = 3) := by
  unfold encR folN
  by_cases h1 : r < 128
  · rw [if_pos h1, if_pos h1]; exact Or.inl ⟨h1, rfl, rfl⟩
  · by_cases h2 : r < 2048
    · rw [if_neg h1, if_pos h2, if_neg h1, if_pos h2]; exact Or.inr (Or.inl ⟨by omega, h2, rfl, rfl⟩)
    · by_cases h3 : r < 65536
      · rw [if_neg h1, if_neg h2, if_pos h3, if_neg h1, if_neg h2, if_pos h3]; exact Or.inr (Or.inr (Or.inl ⟨by omega, h3, rfl, rfl⟩))
      · rw [if_neg h1, if_neg h2, if_neg h3, if_neg h1, if_neg h2, if_neg h3]; exact Or.inr (Or.inr (Or.inr ⟨by omega, rfl, rfl⟩))


set_option maxHeartbeats 400000 in
theorem refbytesR_any (r : Int) (w : World) (hr : isR r = true) :
    Calls Try.prog 24 #[.int .i32 r] w fun e w' => e = .returned (.string ⟨((encR r).map u8).toArray⟩) ∧ Below w.heap.size w w' := by
  have hb := isR_bd hr
  have hc1 := fun (w : World) (a : Int) => run_str_new (P := Try.prog) w 29 9 5 5 Try.underlying29 Try.underlying5 Try.underlying9 [a] 1 1 rfl
  have hc2 := fun (w : World) (a b : Int) => run_str_new (P := Try.prog) w 29 9 5 5 Try.underlying29 Try.underlying5 Try.underlying9 [a, b] 2 2 rfl
  have hc3 := fun (w : World) (a b c : Int) => run_str_new (P := Try.prog) w 29 9 5 5 Try.underlying29 Try.underlying5 Try.underlying9 [a, b, c] 3 3 rfl
  have hc4 := fun (w : World) (a b c d : Int) => run_str_new (P := Try.prog) w 29 9 5 5 Try.underlying29 Try.underlying5 Try.underlying9 [a, b, c, d] 4 4 rfl
  simp only [List.map_cons, List.map_nil] at hc1 hc2 hc3 hc4
  have a0 : bits .and .i32 r 63 = r % 64 := i32_and63 (by omega) (by omega)
  have a1 : bits .and .i32 (r / 64) 63 = r / 64 % 64 := i32_and63 (by omega) (by omega)
  have a2 : bits .and .i32 (r / 4096) 63 = r / 4096 % 64 := i32_and63 (by omega) (by omega)
  have o0 : bits .or .i32 128 (r % 64) = 128 + r % 64 := i32_or128 (by omega) (by omega)
  have o1 : bits .or .i32 128 (r / 64 % 64) = 128 + r / 64 % 64 := i32_or128 (by omega) (by omega)
  have o2 : bits .or .i32 128 (r / 4096 % 64) = 128 + r / 4096 % 64 := i32_or128 (by omega) (by omega)
  rcases encR_cases r with ⟨c1, ce, cf⟩ | ⟨c1, c2, ce, cf⟩ | ⟨c1, c2, ce, cf⟩ | ⟨c1, ce, cf⟩
  · rw [ce]
    clear cf ce
    go_enter Try.func24, Try.ntmps24
    go_wp2_with fail
    refine (refis_any r _).mono ?_; rintro e w' ⟨rfl, rfl⟩
    go_wp2_with fail
    go_ret
    exact ⟨rfl, (Below.refl _ _).alloc (Nat.le_refl _) _⟩
  · rw [ce]
    clear cf ce
    have o3 : bits .or .i32 192 (r / 64) = 192 + r / 64 := i32_or192 (by omega) (by omega)
    go_enter Try.func24, Try.ntmps24
    go_wp2_with fail
    refine (refis_any r _).mono ?_; rintro e w' ⟨rfl, rfl⟩
    go_wp2_with fail
    go_ret
    exact ⟨rfl, (Below.refl _ _).alloc (Nat.le_refl _) _⟩
  · rw [ce]
    clear cf ce
    have o3 : bits .or .i32 224 (r / 4096) = 224 + r / 4096 := i32_or224 (by omega) (by omega)
    go_enter Try.func24, Try.ntmps24
    go_wp2_with fail
    refine (refis_any r _).mono ?_; rintro e w' ⟨rfl, rfl⟩
    go_wp2_with fail
    go_ret
    exact ⟨rfl, (Below.refl _ _).alloc (Nat.le_refl _) _⟩
  · rw [ce]
    clear cf ce
    have o3 : bits .or .i32 240 (r / 262144) = 240 + r / 262144 := i32_or240 (by omega) (by omega)
    go_enter Try.func24, Try.ntmps24
    go_wp2_with fail
    refine (refis_any r _).mono ?_; rintro e w' ⟨rfl, rfl⟩
    go_wp2_with fail
    go_ret
    exact ⟨rfl, (Below.refl _ _).alloc (Nat.le_refl _) _⟩

set_option maxHeartbeats 400000 in
theorem refbytes_any (r : Int) (w : World) :
    Calls Try.prog 24 #[.int .i32 r] w fun e w' => e = .returned (.string ⟨(enc r).toArray⟩) ∧ Below w.heap.size w w' := by
  cases hr : isR r
  · rw [show enc r = [239, 191, 189].map u8 from by unfold enc encI; rw [hr]; rfl]
    have hc3 := fun (w : World) (a b c : Int) => run_str_new (P := Try.prog) w 29 9 5 5 Try.underlying29 Try.underlying5 Try.underlying9 [a, b, c] 3 3 rfl
    simp only [List.map_cons, List.map_nil] at hc3
    have e1 : bits .and .i32 1023 63 = 63 := i32_and63 (by decide) (by decide)
    have e2 : bits .and .i32 65533 63 = 61 := i32_and63 (by decide) (by decide)
    have e3 : bits .or .i32 128 63 = 191 := i32_or128 (by decide) (by decide)
    have e4 : bits .or .i32 128 61 = 189 := i32_or128 (by decide) (by decide)
    have e5 : bits .or .i32 224 15 = 239 := i32_or224 (by decide) (by decide)
    go_enter Try.func24, Try.ntmps24
    go_wp2_with fail
    refine (refis_any r _).mono ?_; rintro e w' ⟨rfl, rfl⟩
    go_wp2_with fail
    go_ret
    exact ⟨rfl, (Below.refl _ _).alloc (Nat.le_refl _) _⟩
  · have : enc r = (encR r).map u8 := by unfold enc encI; rw [hr]; rfl
    rw [this]
    exact refbytesR_any r w hr

end Go.Proofs.Ytahjopajnckbaaa
