/- The walks of block's Count, kindOf, stands, made, read. -/
import Derived.Test.YtkckddcibhbalaaBu
import Derived.Deep.RegionWith
import Derived.Test.YtkckddcibhbalaaD18b
import Derived.Test.YtkckddcibhbalaaD19r
namespace Go.Proofs.Ytkckddcibhbalaa
open Go.RowKit

/-- How many blocks a record of n bytes has, of any number. -/
def countI (n : Int) : Int := if n < 1 then 1 else (n - 1) / 54 + 1
theorem countI_nat (n : Nat) : countI n = count19 n := by
  unfold countI count19
  split <;> split <;> omega
set_option maxHeartbeats 400000 in
theorem count19_any (n : Int) (w : World) (hn : n ≤ 9223372036854775807) :
    Calls Try.prog 10 #[.int .i64 n] w fun e w' => e = .returned (.int .i64 (countI n)) ∧ w = w' := by
  unfold countI
  by_cases h : n < 1
  · rw [if_pos h]
    go_enter Try.func10, Try.ntmps10
    go_wp2_with fail
    go_ret
    exact ⟨rfl, rfl⟩
  · rw [if_neg h]
    have h1 : (n - 1).tdiv 54 = (n - 1) / 54 := Int.tdiv_eq_ediv_of_nonneg (by omega)
    go_enter Try.func10, Try.ntmps10
    go_wp2_with fail
    go_ret
    exact ⟨rfl, rfl⟩
theorem refcount19_any (n : Int) (w : World) (hn : n ≤ 9223372036854775807) :
    Calls Try.prog 11 #[.int .i64 n] w fun e w' => e = .returned (.int .i64 (countI n)) ∧ w = w' := by
  unfold countI
  by_cases h : n < 1
  · rw [if_pos h]
    have h0 : n ≤ 0 := by omega
    go_enter Try.func11, Try.ntmps11
    go_wp2_with fail
    go_ret
    exact ⟨rfl, rfl⟩
  · rw [if_neg h]
    have h0 : ¬ n ≤ 0 := by omega
    have h1 : (n - 1).tdiv 54 = (n - 1) / 54 := Int.tdiv_eq_ediv_of_nonneg (by omega)
    go_enter Try.func11, Try.ntmps11
    go_wp2_with fail
    go_ret
    exact ⟨rfl, rfl⟩

set_option maxHeartbeats 400000 in
theorem kind19_any (i k : Nat) (w : World) (_hi : i < k) (hk : k ≤ 1000000000) :
    Calls Try.prog 21 #[.int .i64 i, .int .i64 k] w fun e w' => e = .returned (.int .u8 (kind19 k i)) ∧ w = w' := by
  unfold kind19
  by_cases h1 : k = 1
  · rw [if_pos h1]
    subst h1
    go_enter Try.func21, Try.ntmps21
    go_wp2_with fail
    go_ret
    exact ⟨rfl, rfl⟩
  · rw [if_neg h1]
    by_cases h2 : i = 0
    · rw [if_pos h2]
      subst h2
      have g1 : ¬ ((k : Int) = 1) := by omega
      go_enter Try.func21, Try.ntmps21
      go_wp2_with fail
      go_ret
      exact ⟨rfl, rfl⟩
    · rw [if_neg h2]
      have g1 : ¬ ((k : Int) = 1) := by omega
      have g2 : ¬ ((i : Int) = 0) := by omega
      by_cases h3 : i + 1 = k
      · rw [if_pos h3]
        have g3 : ¬ ((i : Int) < k - 1) := by omega
        go_enter Try.func21, Try.ntmps21
        go_wp2_with fail
        go_ret
        exact ⟨rfl, rfl⟩
      · rw [if_neg h3]
        have g3 : ((i : Int) < k - 1) := by omega
        go_enter Try.func21, Try.ntmps21
        go_wp2_with fail
        go_ret
        exact ⟨rfl, rfl⟩

set_option maxHeartbeats 400000 in
theorem stands19_any (k m i : Nat) (w : World) (k1 : 1 ≤ k) (k4 : k ≤ 4) :
    Calls Try.prog 34 #[.int .u8 k, .int .i64 m, .int .i64 i] w fun e w' => e = .returned (.bool (standsB k m i)) ∧ w = w' := by
  have hz : ∀ n : Nat, ((n : Int) == 0) = decide (n = 0) := fun n => by rw [Bool.eq_iff_iff]; simp
  have hf : ∀ n : Nat, ((n : Int) == 54) = decide (n = 54) := fun n => by rw [Bool.eq_iff_iff]; simp; omega
  unfold standsB
  rcases (show k = 1 ∨ k = 2 ∨ k = 3 ∨ k = 4 by omega) with rfl | rfl | rfl | rfl
  · have h1 := hz i
    simp only [if_true]
    generalize decide (i = 0) = p at h1 ⊢
    clear hz hf
    go_enter Try.func34, Try.ntmps34
    go_wp2_with fail
    go_ret
    exact ⟨rfl, rfl⟩
  · have h1 := hz i
    have h2 := hf m
    simp only [show ¬ (2 = 1) by decide, if_true, if_false]
    generalize decide (i = 0) = p at h1 ⊢
    generalize decide (m = 54) = q at h2 ⊢
    clear hz hf
    cases p <;> cases q
    all_goals
      go_enter Try.func34, Try.ntmps34
      go_wp2_with fail
      go_ret
      exact ⟨rfl, rfl⟩
  · have h2 := hf m
    simp only [show ¬ (3 = 1) by decide, show ¬ (3 = 2) by decide, if_true, if_false]
    generalize decide (m = 54) = q at h2 ⊢
    clear hz hf
    by_cases hi : 0 < i
    · have h1 : (0 : Int) < i := by omega
      rw [decide_eq_true hi]
      cases q
      all_goals
        go_enter Try.func34, Try.ntmps34
        go_wp2_with fail
        go_ret
        exact ⟨rfl, rfl⟩
    · have h1 : ¬ (0 : Int) < i := by omega
      rw [decide_eq_false hi]
      go_enter Try.func34, Try.ntmps34
      go_wp2_with fail
      go_ret
      exact ⟨rfl, rfl⟩
  · simp only [show ¬ (4 = 1) by decide, show ¬ (4 = 2) by decide, show ¬ (4 = 3) by decide, if_false]
    clear hz hf
    by_cases hi : 0 < i
    · have h1 : (0 : Int) < i := by omega
      rw [decide_eq_true hi]
      by_cases hm : 0 < m
      · have h2 : (0 : Int) < m := by omega
        rw [decide_eq_true hm]
        go_enter Try.func34, Try.ntmps34
        go_wp2_with fail
        go_ret
        exact ⟨rfl, rfl⟩
      · have h2 : ¬ (0 : Int) < m := by omega
        rw [decide_eq_false hm]
        go_enter Try.func34, Try.ntmps34
        go_wp2_with fail
        go_ret
        exact ⟨rfl, rfl⟩
    · have h1 : ¬ (0 : Int) < i := by omega
      rw [decide_eq_false hi]
      go_enter Try.func34, Try.ntmps34
      go_wp2_with fail
      go_ret
      exact ⟨rfl, rfl⟩

/-- Two bytes that were just laid, behind a call. -/
theorem two_after {W W1 : World} {a b : Int} (hb : Below (W.alloc (.cells #[.int .u8 a, .int .u8 b] 5)).heap.size (W.alloc (.cells #[.int .u8 a, .int .u8 b] 5)) W1) :
    (convert 41 9 (.slice (some ⟨W.heap.size, 0, none⟩) 2 2)).run Try.prog W1 = .ok (.string ⟨#[u8 a, u8 b]⟩) W1 := by
  have h0 : IntSl .u8 (W.alloc (.cells #[.int .u8 a, .int .u8 b] 5)) (.slice (some ⟨W.heap.size, 0, none⟩) 2 2) [a, b] := intSl_new W .u8 _ [a, b] 2 rfl
  exact run_str W1 _ _ 5 Try.underlying41 Try.underlying5 Try.underlying9 (h0.below hb (slBelow_new W _ _ 2 2))
theorem two_after2 {W W1 : World} {a b : Int} (hb : Below (W.alloc (.cells #[.int .u8 a, .int .u8 b] 5)).drew.heap.size (W.alloc (.cells #[.int .u8 a, .int .u8 b] 5)).drew W1) :
    (convert 41 9 (.slice (some ⟨W.heap.size, 0, none⟩) 2 2)).run Try.prog W1 = .ok (.string ⟨#[u8 a, u8 b]⟩) W1 := two_after ((Drawn.below ⟨1, rfl⟩ _).andThen hb)
theorem u8_ofNat (k : Nat) : u8 (k : Int) = UInt8.ofNat k := by unfold u8; simp
/-- A block, as the program makes it. -/
theorem block_eq (k : Nat) (s : List UInt8) (n : Nat) : blockB k s n = sealB (u8 k :: u8 s.length :: (fourB n ++ (s ++ List.replicate (54 - s.length) 0))) := by
  rw [sealB_eq]
  unfold blockB fourB
  rw [Int.toNat_natCast, u8_ofNat, u8_ofNat]
theorem block_eq2 (k : Nat) (s : List UInt8) (n : Nat) : blockB k s n = sealB (u8 k :: u8 s.length :: (fourB n ++ s ++ List.replicate (54 - s.length) 0)) := by rw [block_eq, List.append_assoc]
set_option maxHeartbeats 1000000 in
theorem made19_any (k n : Nat) (s : List UInt8) (w : World) (_hk : k ≤ 255) (hn : n ≤ 4294967295) (hs : s.length ≤ 54) :
    Calls Try.prog 20 #[.int .u8 k, .int .i64 n, .string ⟨s.toArray⟩] w fun e w' => e = .returned (.string ⟨(blockB k s n).toArray⟩) ∧ Below w.heap.size w w' := by
  have hc2 := fun (W : World) (a b : Int) => two_after (W := W) (W1 := (W.alloc (.cells #[.int .u8 a, .int .u8 b] 5)).drew) (a := a) (b := b) (Drawn.below ⟨1, rfl⟩ _)
  have hc3 := fun (W : World) (a b : Int) => two_after (W := W) (W1 := W.alloc (.cells #[.int .u8 a, .int .u8 b] 5)) (a := a) (b := b) (Below.refl _ _)
  have hw32 : IntKind.u32.wrap (n : Int) = n := by rw [IntKind.wrap_u32]; omega
  have hw8 : IntKind.u8.wrap (s.length : Int) = s.length := by rw [IntKind.wrap_u8]; omega
  have hf := fun W => four18_any n W (by omega) (by omega)
  have hr := fun W => repeat_any (54 - s.length) 0 W (by omega)
  rw [show ((54 - s.length : Nat) : Int) = 54 - (s.length : Int) by omega] at hr
  have hsl := (fun W => seal18_any (u8 k :: u8 s.length :: (fourB n ++ (s ++ List.replicate (54 - s.length) 0))) W (by simp [fourB_len]; omega))
  rw [block_eq]
  have hz : (List.replicate (54 - s.length) (0 : UInt8)).length ≤ 54 := by rw [List.length_replicate]; omega
  generalize List.replicate (54 - s.length) (0 : UInt8) = z at *
  have hl := fourB_len (n : Int)
  generalize fourB (n : Int) = f at *
  replace hr := Lib.hid hr
  replace hsl := Lib.hid hsl
  replace hf := Lib.hid hf
  go_enter Try.func20, Try.ntmps20
  go_wp2_with fail
  go_region_with (go_at_call 28; ((with_reducible refine (hf.out _).mono ?_); rintro e w1 ⟨rfl, hb⟩; (first | (have hcv := two_after2 hb) | skip); replace hb := Lib.hid hb))
  all_goals
    (first | have hbb := Lib.hid (((Below.refl w.heap.size w).alloc (Nat.le_refl _) _).andThen ((Drawn.below ⟨1, rfl⟩ _).andThen hb.out)) | have hbb := Lib.hid (((Drawn.below (w := w) ⟨1, rfl⟩ _).andThen hb.out).andThen ((Below.refl _ w1).alloc (Nat.le_refl _) (.cells #[.int .u8 k, .int .u8 s.length] 5))))
    clear hb
    go_wp2_with fail
    refine (hr.out _).mono ?_; rintro e w2 ⟨rfl, hb2⟩
    replace hbb := Lib.hid (hbb.out.andThen hb2)
    clear hb2
    go_wp2_with fail
    refine (hsl.out _).mono ?_; rintro e w3 ⟨rfl, hb2⟩
    replace hbb := Lib.hid (hbb.out.andThen hb2)
    clear hb2
    go_wp2_with fail
    go_ret
    exact ⟨rfl, hbb.out⟩
end Go.Proofs.Ytkckddcibhbalaa
