/- The walks of law 19's small and packed. -/
import Derived.Test.YtkckddcibhbalaaD19l
namespace Go.Proofs.Ytkckddcibhbalaa
open Go.RowKit

/-- Are records few, and short: what is told, behind those of which n bytes and i are counted. -/
def smallG : List (List UInt8) → Nat → Nat → Bool
  | [], _, _ => true
  | x :: r, n, i => if 2000 < x.length + n ∨ 40 < i then false else smallG r (n + x.length) (i + 1)
def small19 (l : List (List UInt8)) : Bool := smallG l 0 0
theorem smallG_is : ∀ (l : List (List UInt8)) (n i : Nat), i ≤ 41 → smallG l n i = true → (l ≠ [] → n + (l.map List.length).sum ≤ 2000) ∧ i + l.length ≤ 41
  | [], n, i, hi, _ => ⟨fun h => absurd rfl h, by simpa using hi⟩
  | x :: r, n, i, hi, h => by
    rw [smallG] at h
    by_cases hc : 2000 < x.length + n ∨ 40 < i
    · rw [if_pos hc] at h; cases h
    · rw [if_neg hc] at h
      obtain ⟨h1, h2⟩ := smallG_is r (n + x.length) (i + 1) (by omega) h
      refine ⟨fun _ => ?_, by rw [List.length_cons]; omega⟩
      rw [List.map_cons, List.sum_cons]
      by_cases hr : r = []
      · subst hr; simp; omega
      · have := h1 hr; omega
theorem small_is {l : List (List UInt8)} (h : small19 l = true) : (l.map List.length).sum ≤ 2000 ∧ l.length ≤ 41 := by
  obtain ⟨h1, h2⟩ := smallG_is l 0 0 (by omega) h
  refine ⟨?_, by omega⟩
  by_cases hl : l = []
  · subst hl; simp
  · have := h1 hl; omega
theorem small_each {l : List (List UInt8)} (h : (l.map List.length).sum ≤ 2000) : ∀ x ∈ l, x.length ≤ 2000 := by
  intro x hx
  induction l with
  | nil => cases hx
  | cons y r ih =>
    rw [List.map_cons, List.sum_cons] at h
    rcases List.mem_cons.1 hx with rfl | hx
    · omega
    · exact ih (by omega) hx
theorem cntL_small : ∀ l : List (List UInt8), cntL l ≤ l.length + (l.map List.length).sum / 54
  | [] => by simp [cntL]
  | x :: r => by
    have := cntL_small r
    rw [cntL_cons, List.map_cons, List.sum_cons, List.length_cons]
    have : count19 x.length ≤ 1 + x.length / 54 := by unfold count19; split <;> omega
    omega
set_option maxHeartbeats 1000000 in
theorem small19_any (xs : List (List UInt8)) (v : Value) (w : World) (hs : StrSl w v xs) (hn : xs.length ≤ maxLen) (hl : ∀ x ∈ xs, x.length ≤ maxLen) :
    Calls Try.prog 15 #[v] w fun e w' => e = .returned (.bool (small19 xs)) ∧ w = w' := by
  unfold maxLen at hn hl
  obtain ⟨R, hR⟩ : ∃ R, small19 xs = R := ⟨_, rfl⟩
  rw [hR]
  by_cases hx0 : xs = []
  · obtain ⟨a, c, rfl⟩ := hs.nil hx0
    subst hx0
    subst hR
    go_enter Try.func15, Try.ntmps15
    go_wp2_with fail
    refine wp_loop_rounds 1 ?_; rw [rounds_succ]
    go_wp2_with fail
    go_ret
    exact ⟨rfl, rfl⟩
  · obtain ⟨b1, o1, c1, rfl, h1⟩ := hs.some hx0
    replace h1 := Lib.hid h1
    clear hs
    replace hx0 := Lib.hid hx0
    replace hl := Lib.hid hl
    replace hR := Lib.hid hR
    go_enter Try.func15, Try.ntmps15
    go_wp2_with fail
    go_loop [3, 4] (fun n i => ∃ (m k : Nat), n = .int .i64 m ∧ i = .int .i64 k ∧ k ≤ xs.length ∧ m ≤ 2000 ∧ k ≤ 41 ∧ Hid (smallG (xs.drop k) m k = R)) (fun _ i => xs.length - (intOf i).toNat)
    case atStart => exact ⟨0, 0, rfl, rfl, by omega, by omega, by omega, hR⟩
    case round =>
      obtain ⟨m, k, rfl, rfl, hk, hm, hk41, hG⟩ := hrel
      clear hR
      by_cases hlt : k < xs.length
      · have g1 := h1.out k hlt
        have hxl := hl.out (xs.getD k []) (by simp [List.getD, hlt])
        have hGc : smallG (xs.drop k) m k = if 2000 < (xs.getD k []).length + m ∨ 40 < k then false else smallG (xs.drop (k + 1)) (m + (xs.getD k []).length) (k + 1) := by
          rw [List.drop_eq_getElem_cons hlt, smallG]
          have e : xs.getD k [] = xs[k] := by simp [List.getD, hlt]
          rw [e]
        rw [hG.out] at hGc
        generalize xs.getD k [] = x at g1 hGc hxl
        unfold strV at g1
        clear hG
        by_cases c1 : (2000 : Int) - m < x.length
        · rw [if_pos (Or.inl (by omega))] at hGc
          subst hGc
          go_wp2_with fail
          go_ret
          exact ⟨rfl, rfl⟩
        · by_cases c2 : (40 : Int) < k
          · rw [if_pos (Or.inr (by omega))] at hGc
            subst hGc
            go_wp2_with fail
            go_ret
            exact ⟨rfl, rfl⟩
          · rw [if_neg (by omega)] at hGc
            replace hGc := Lib.hid hGc.symm
            go_wp2_with fail
            go_round
            case rel => exact ⟨m + x.length, k + 1, by go_num, by go_num, by omega, by omega, by omega, hGc⟩
            case measure => simp [intOf]; omega
      · have hlt2 : ¬ ((k : Int) < xs.length) := by omega
        have hG2 := hG.out
        rw [List.drop_of_length_le (by omega)] at hG2
        rw [smallG] at hG2
        subst hG2
        clear hG
        go_wp2_with fail
        go_ret
        exact ⟨rfl, rfl⟩

theorem packed_take {xs : List (List UInt8)} {k : Nat} (h : k < xs.length) : packedB (xs.take (k + 1)) = packedB (xs.take k) ++ packT (xs.getD k []) ((packedB (xs.take k)).length / 64 : Nat) ∨ 262144 < (xs.getD k []).length ∨ 1073741824 < (packedB (xs.take k)).length / 64 := by
  by_cases h1 : 262144 < (xs.getD k []).length
  · exact Or.inr (Or.inl h1)
  by_cases h2 : 1073741824 < (packedB (xs.take k)).length / 64
  · exact Or.inr (Or.inr h2)
  have e : xs.take (k + 1) = xs.take k ++ [xs.getD k []] := by
    rw [List.take_succ_eq_append_getElem h]
    simp [List.getD, h]
  refine Or.inl ?_
  rw [e, packed_snoc]
  unfold packT
  rw [if_neg (by omega), Int.toNat_natCast, packed_len, Nat.mul_div_cancel_left _ (by decide)]
set_option maxHeartbeats 1000000 in
theorem packed19_any (xs : List (List UInt8)) (v : Value) (w : World) (hs : StrSl w v xs) (hlow : SlBelow w.heap.size v) (hsm : small19 xs = true) :
    Calls Try.prog 16 #[v] w fun e w' => e = .returned (.string ⟨(packedB xs).toArray⟩) ∧ Below w.heap.size w w' := by
  obtain ⟨hsum, hn⟩ := small_is hsm
  have hl := Lib.hid (small_each hsum)
  clear hsm hsum
  by_cases hx0 : xs = []
  · obtain ⟨a, c, rfl⟩ := hs.nil hx0
    subst hx0
    go_enter Try.func16, Try.ntmps16
    go_wp2_with fail
    refine wp_loop_rounds 1 ?_; rw [rounds_succ]
    go_wp2_with fail
    go_ret
    exact ⟨rfl, Below.refl _ _⟩
  · obtain ⟨b1, o1, c1, rfl, h1⟩ := hs.some hx0
    replace h1 := Lib.hid h1
    replace hlow := Lib.hid (hlow ⟨b1, o1, none⟩ _ _ rfl (List.length_pos_iff.2 hx0))
    clear hs
    replace hx0 := Lib.hid hx0
    go_enter Try.func16, Try.ntmps16
    go_wp2_with fail
    go_loopw [3, 4] (fun s i wr => ∃ (k : Nat) (l : List UInt8), s = .string ⟨l.toArray⟩ ∧ i = .int .i64 k ∧ k ≤ xs.length ∧ l.length ≤ 64 * (38 * k) ∧ Hid (l = packedB (xs.take k)) ∧ Hid (Below w.heap.size w wr)) (fun _ i _ => xs.length - (intOf i).toNat)
    case atStart => exact ⟨0, [], rfl, rfl, by omega, by simp, Lib.hid rfl, Lib.hid (Below.refl _ _)⟩
    case round =>
      obtain ⟨k, l, rfl, rfl, hk, hll, hE, hbw⟩ := hrel
      by_cases hlt : k < xs.length
      · have g1 := (hbw.out.cell (p := ⟨b1, o1 + k, none⟩) hlow.out).trans (h1.out k hlt)
        have hxl := hl.out (xs.getD k []) (by simp [List.getD, hlt])
        have hpt := packed_take hlt
        rw [← hE.out] at hpt
        have hdv : (l.length : Int).tdiv 64 = ((l.length / 64 : Nat) : Int) := by rw [Int.tdiv_eq_ediv_of_nonneg (by omega)]; omega
        have hE2 : packedB (xs.take (k + 1)) = l ++ packT (xs.getD k []) ((l.length / 64 : Nat) : Int) := by
          rcases hpt with h | h | h
          · exact h
          · omega
          · omega
        have hpk := Lib.hid (fun W => pack19_any (xs.getD k []) ((l.length / 64 : Nat) : Int) W (by omega))
        have hpl : (packT (xs.getD k []) ((l.length / 64 : Nat) : Int)).length ≤ 64 * 38 := by
          unfold packT
          split
          · simp
          · rw [pack_len]
            unfold count19
            split <;> omega
        generalize packT (xs.getD k []) ((l.length / 64 : Nat) : Int) = t at *
        generalize packC (xs.getD k []) ((l.length / 64 : Nat) : Int) = cd at *
        generalize xs.getD k [] = x at *
        unfold strV at g1
        have hqb : l.length / 64 ≤ 100000 := by omega
        generalize hq : l.length / 64 = q at *
        replace hE2 := Lib.hid hE2.symm
        clear hpt hE hq
        go_wp2_with fail
        refine (hpk.out _).mono ?_; rintro e w2 ⟨rfl, hb2⟩
        replace hbw := Lib.hid (hbw.out.andThen hb2)
        clear hb2
        go_wp2_with fail
        exact ⟨⟨k + 1, l ++ t, rfl, by go_num, by omega, by rw [List.length_append]; omega, hE2, hbw⟩, by simp [intOf]; omega⟩
      · have hlt2 : ¬ ((k : Int) < xs.length) := by omega
        have hE2 := hE.out
        rw [List.take_of_length_le (by omega)] at hE2
        subst hE2
        clear hE
        go_wp2_with fail
        go_ret
        exact ⟨rfl, hbw.out⟩
end Go.Proofs.Ytkckddcibhbalaa
