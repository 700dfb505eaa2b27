/- The walks of word.Join, the reference's Join, and the law's examples. -/
import Derived.Test.YtlinmokkbikjfaaDoorWc
import Derived.Test.YtlinmokkbikjfaaDoorJoin
namespace Go.Proofs.YtlinmokkbikjfaaDoor
open Go.RowKit

set_option maxHeartbeats 400000 in
theorem wjoin_any (xs : List (List UInt8)) (v : Value) (w : World) (hv : StrSl w v xs) (hlow : SlBelow w.heap.size v) (hn : xs.length ≤ 100000) (hl : (joinB xs).length ≤ 10000000) :
    Calls Tryd.prog 15 #[v] w fun e w' => e = .returned (.string ⟨(joinB xs).toArray⟩) ∧ Below w.heap.size w w' := by
  have hj := strjoin_any xs v w hv hlow hn hl
  obtain ⟨a, c, rfl⟩ := hv.form
  go_enter Tryd.func15, Tryd.ntmps15
  clear hv hlow
  go_wp2_with fail
  refine hj.mono ?_; rintro e w1 ⟨rfl, hb1⟩
  go_wp2_with fail
  go_ret
  exact ⟨rfl, hb1⟩

theorem joinB_snoc : ∀ (l : List (List UInt8)) (x : List UInt8), joinB (l ++ [x]) = if l = [] then x else joinB l ++ 32 :: x
  | [], _ => rfl
  | [w], x => by rw [if_neg (by simp)]; rfl
  | w :: w2 :: l, x => by
    have := joinB_snoc (w2 :: l) x
    rw [List.cons_append, joinB_cons w (by simp : w2 :: l ++ [x] ≠ []), this, if_neg (by simp), if_neg (by simp), joinB_cons w (by simp : w2 :: l ≠ [])]
    simp
theorem take_snoc {α : Type} {l : List α} {k : Nat} (d : α) (h : k < l.length) : l.take (k + 1) = l.take k ++ [l.getD k d] := by
  rw [List.take_succ_eq_append_getElem h]; simp [List.getD, h]
theorem joinB_take_le : ∀ (l : List (List UInt8)) (k : Nat), (joinB (l.take k)).length ≤ (joinB l).length
  | [], k => by simp
  | [w], 0 => by simp [joinB]
  | [w], k + 1 => by simp
  | w :: w2 :: l, 0 => by simp [joinB]
  | w :: w2 :: l, 1 => by rw [joinB_cons _ (by simp)]; simp [joinB]
  | w :: w2 :: l, k + 2 => by
    have := joinB_take_le (w2 :: l) (k + 1)
    rw [List.take_succ_cons, joinB_cons _ (by simp), joinB_cons _ (by simp)]
    simp at *; omega

set_option maxHeartbeats 400000 in
theorem refjoin_any (xs : List (List UInt8)) (v : Value) (w : World) (hv : StrSl w v xs) (hl : (joinB xs).length ≤ 10000000) (hn : xs.length ≤ 100000) :
    Calls Tryd.prog 16 #[v] w fun e w' => e = .returned (.string ⟨(joinB xs).toArray⟩) ∧ w = w' := by
  by_cases hx0 : xs = []
  · obtain ⟨a, c, rfl⟩ := hv.nil hx0
    subst hx0
    go_enter Tryd.func16, Tryd.ntmps16
    go_wp2_with fail
    refine wp_loop_rounds 1 ?_; rw [rounds_succ]
    go_wp2_with fail
    go_ret
    exact ⟨rfl, rfl⟩
  obtain ⟨b, off, c, rfl, h1⟩ := hv.some hx0
  replace h1 := Lib.hid h1
  clear hv
  replace hx0 := Lib.hid hx0
  go_enter Tryd.func16, Tryd.ntmps16
  go_wp2_with fail
  go_loop [3, 4] (fun s i => ∃ (k : Nat) (y : List UInt8), i = .int .i64 k ∧ k ≤ xs.length ∧ s = .string ⟨y.toArray⟩ ∧ Hid (y = joinB (xs.take k))) (fun _ i => xs.length - (intOf i).toNat)
  case atStart => exact ⟨0, [], rfl, Nat.zero_le _, rfl, rfl⟩
  case round =>
    obtain ⟨k, y, rfl, hk, rfl, hy⟩ := hrel
    by_cases hlt : k < xs.length
    · have g1 := h1.out k hlt
      have hts := joinB_take_le xs (k + 1)
      have ht : joinB (xs.take (k + 1)) = if xs.take k = [] then xs.getD k [] else joinB (xs.take k) ++ 32 :: xs.getD k [] := by rw [take_snoc [] hlt, joinB_snoc]
      rw [ht] at hts
      generalize xs.getD k [] = x at g1 hts ht
      unfold strV at g1
      by_cases hk0 : k = 0
      · subst hk0
        rw [List.take_zero, if_pos rfl] at hts
        replace ht := Lib.hid (show x = joinB (xs.take (0 + 1)) by rw [ht]; rfl)
        have hy0 := hy.out
        rw [List.take_zero] at hy0
        have hy1 : y = [] := hy0
        clear hy0 hy
        subst hy1
        rw [Nat.add_zero] at g1
        go_wp2_with fail
        exact ⟨⟨1, x, rfl, by omega, rfl, ht⟩, by simp [intOf]; omega⟩
      · have hne : xs.take k ≠ [] := by intro e; have h2 := congrArg List.length e; rw [List.length_take, List.length_nil] at h2; omega
        rw [if_neg hne, ← hy.out] at hts ht
        simp only [List.length_append, List.length_cons] at hts
        replace ht := Lib.hid ht
        replace hne := Lib.hid hne
        go_wp2_with fail
        exact ⟨⟨k + 1, y ++ 32 :: x, by go_num, by omega, by simp, ht.out.symm⟩, by simp [intOf]; omega⟩
    · have hy2 := Lib.hid (show y = joinB xs by rw [hy.out, List.take_of_length_le (by omega)])
      have hke : ¬ ((k : Int) < xs.length) := by omega
      go_wp2_with fail
      go_ret
      exact ⟨ret_str hy2.out, rfl⟩

def AwakePost (w : World) (e : Ending) (w' : World) : Prop := e = .returned (.bool true) ∧ Below w.heap.size w w'
theorem words_ex : wordsB [68, 111, 110, 39, 116, 32, 80, 65, 78, 73, 67, 44, 32, 195, 132, 114, 122, 116, 101, 32, 52, 50, 120] = [[100, 111, 110], [116], [112, 97, 110, 105, 99], [195, 164, 114, 122, 116, 101], [52, 50, 120]] := by decide +kernel

set_option maxHeartbeats 400000 in
theorem awake_any (w : World) (h : Tab w) : Calls Tryd.prog 9 #[] w (AwakePost w) := by
  go_enter Tryd.func9, Tryd.ntmps9
  go_wp2_with fail
  refine (words_any [68, 111, 110, 39, 116, 32, 80, 65, 78, 73, 67, 44, 32, 195, 132, 114, 122, 116, 101, 32, 52, 50, 120] w h (by decide)).mono ?_
  rintro e w1 ⟨v, rfl, hown, hb⟩
  rw [words_ex] at hown
  obtain ⟨b, off, c, rfl, h1⟩ := (strSl_own hown).some (by simp)
  have hlow := slBelow_own hown
  have hbk : b < w1.heap.size := hlow ⟨b, off, none⟩ _ _ rfl (by decide)
  obtain ⟨_, _, hf, hcap⟩ := own_cap hown
  injection hf with hf0 hf1 hf
  clear hf1
  subst hf0 hf
  replace hcap : 5 ≤ c := hcap
  have g0 := h1 0 (by decide)
  have g1 := h1 1 (by decide)
  have g2 := h1 2 (by decide)
  have g3 := h1 3 (by decide)
  have g4 := h1 4 (by decide)
  simp only [List.getD_cons_zero, List.getD_cons_succ, Nat.add_zero, strV] at g0 g1 g2 g3 g4
  clear h1
  replace hb := Lib.hid hb
  clear hown hlow
  have hsl : StrSl w1 (.slice (some ⟨b, off, none⟩) 2 c) [[100, 111, 110], [116]] := Or.inr ⟨b, off, c, by simp; omega, rfl, fun j hj => by
    simp at hj
    rcases (show j = 0 ∨ j = 1 by omega) with rfl | rfl
    · exact g0
    · exact g1⟩
  have hlow2 : SlBelow w1.heap.size (.slice (some ⟨b, off, none⟩) 2 c) := by intro a' n' c' e _; injection e with e; injection e with e; subst e; exact hbk
  replace hsl := Lib.hid hsl
  replace hlow2 := Lib.hid hlow2
  go_wp2_with fail
  refine (wjoin_any [[100, 111, 110], [116]] _ _ hsl.out hlow2.out (by simp) (by simp [joinB])).mono ?_
  rintro e w2 ⟨rfl, hb2⟩
  go_wp2_with fail
  go_ret
  exact ⟨rfl, hb.out.andThen hb2⟩
end Go.Proofs.YtlinmokkbikjfaaDoor
