/- The walks of word.Join and the reference's Join. -/
import Derived.Test.YtonbgdcgfoipjaaDoorJoin
namespace Go.Proofs.YtonbgdcgfoipjaaDoor
open Go.RowKit

set_option maxHeartbeats 400000 in
theorem wjoin_any (xs : List (List UInt8)) (v : Value) (w : World) (hv : StrSl w v xs) (hlow : SlBelow w.heap.size v) (hn : xs.length ≤ 100000) (hl : (joinB xs).length ≤ 10000000) :
    Calls Tryd.prog 35 #[v] w fun e w' => e = .returned (.string ⟨(joinB xs).toArray⟩) ∧ Below w.heap.size w w' := by
  have hj := strjoin_any xs v w hv hlow hn hl
  obtain ⟨a, c, rfl⟩ := hv.form
  go_enter Tryd.func35, Tryd.ntmps35
  clear hv hlow
  go_wp2_with fail
  refine hj.mono ?_; rintro e w1 ⟨rfl, hb1⟩
  go_wp2_with fail
  go_ret
  exact ⟨rfl, hb1⟩

theorem joinB_snoc : ∀ (l : List (List UInt8)) (x : List UInt8), joinB (l ++ [x]) = if l = [] then x else joinB l ++ 32 :: x
  | [], _ => rfl
  | [w], x => by rw [if_neg (by simp)]; rfl
  | w :: w2 :: l, x => by
    have := joinB_snoc (w2 :: l) x
    rw [List.cons_append, joinB_cons w (by simp : w2 :: l ++ [x] ≠ []), this, if_neg (by simp), if_neg (by simp), joinB_cons w (by simp : w2 :: l ≠ [])]
    simp
theorem take_snoc {α : Type} {l : List α} {k : Nat} (d : α) (h : k < l.length) : l.take (k + 1) = l.take k ++ [l.getD k d] := by
  rw [List.take_succ_eq_append_getElem h]; simp [List.getD, h]
theorem joinB_take_le : ∀ (l : List (List UInt8)) (k : Nat), (joinB (l.take k)).length ≤ (joinB l).length
  | [], k => by simp
  | [w], 0 => by simp [joinB]
  | [w], k + 1 => by simp
  | w :: w2 :: l, 0 => by simp [joinB]
  | w :: w2 :: l, 1 => by rw [joinB_cons _ (by simp)]; simp [joinB]
  | w :: w2 :: l, k + 2 => by
    have := joinB_take_le (w2 :: l) (k + 1)
    rw [List.take_succ_cons, joinB_cons _ (by simp), joinB_cons _ (by simp)]
    simp at *; omega

set_option maxHeartbeats 400000 in
theorem refjoin_any (xs : List (List UInt8)) (v : Value) (w : World) (hv : StrSl w v xs) (hl : (joinB xs).length ≤ 10000000) (hn : xs.length ≤ 100000) :
    Calls Tryd.prog 17 #[v] w fun e w' => e = .returned (.string ⟨(joinB xs).toArray⟩) ∧ w = w' := by
  by_cases hx0 : xs = []
  · obtain ⟨a, c, rfl⟩ := hv.nil hx0
    subst hx0
    go_enter Tryd.func17, Tryd.ntmps17
    go_wp2_with fail
    refine wp_loop_rounds 1 ?_; rw [rounds_succ]
    go_wp2_with fail
    go_ret
    exact ⟨rfl, rfl⟩
  obtain ⟨b, off, c, rfl, h1⟩ := hv.some hx0
  replace h1 := Lib.hid h1
  clear hv
  replace hx0 := Lib.hid hx0
  go_enter Tryd.func17, Tryd.ntmps17
  go_wp2_with fail
  go_loop [3, 4] (fun s i => ∃ (k : Nat) (y : List UInt8), i = .int .i64 k ∧ k ≤ xs.length ∧ s = .string ⟨y.toArray⟩ ∧ Hid (y = joinB (xs.take k))) (fun _ i => xs.length - (intOf i).toNat)
  case atStart => exact ⟨0, [], rfl, Nat.zero_le _, rfl, rfl⟩
  case round =>
    obtain ⟨k, y, rfl, hk, rfl, hy⟩ := hrel
    by_cases hlt : k < xs.length
    · have g1 := h1.out k hlt
      have hts := joinB_take_le xs (k + 1)
      have ht : joinB (xs.take (k + 1)) = if xs.take k = [] then xs.getD k [] else joinB (xs.take k) ++ 32 :: xs.getD k [] := by rw [take_snoc [] hlt, joinB_snoc]
      rw [ht] at hts
      generalize xs.getD k [] = x at g1 hts ht
      unfold strV at g1
      by_cases hk0 : k = 0
      · subst hk0
        rw [List.take_zero, if_pos rfl] at hts
        replace ht := Lib.hid (show x = joinB (xs.take (0 + 1)) by rw [ht]; rfl)
        have hy0 := hy.out
        rw [List.take_zero] at hy0
        have hy1 : y = [] := hy0
        clear hy0 hy
        subst hy1
        rw [Nat.add_zero] at g1
        go_wp2_with fail
        exact ⟨⟨1, x, rfl, by omega, rfl, ht⟩, by simp [intOf]; omega⟩
      · have hne : xs.take k ≠ [] := by intro e; have h2 := congrArg List.length e; rw [List.length_take, List.length_nil] at h2; omega
        rw [if_neg hne, ← hy.out] at hts ht
        simp only [List.length_append, List.length_cons] at hts
        replace ht := Lib.hid ht
        replace hne := Lib.hid hne
        go_wp2_with fail
        exact ⟨⟨k + 1, y ++ 32 :: x, by go_num, by omega, by simp, ht.out.symm⟩, by simp [intOf]; omega⟩
    · have hy2 := Lib.hid (show y = joinB xs by rw [hy.out, List.take_of_length_le (by omega)])
      have hke : ¬ ((k : Int) < xs.length) := by omega
      go_wp2_with fail
      go_ret
      exact ⟨ret_str hy2.out, rfl⟩
end Go.Proofs.YtonbgdcgfoipjaaDoor
