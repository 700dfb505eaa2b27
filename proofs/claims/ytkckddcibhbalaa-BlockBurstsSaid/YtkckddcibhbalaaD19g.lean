/- The walk of the reference's Pack of layer 19. -/
import Derived.Test.YtkckddcibhbalaaD19d
import Derived.Test.YtkckddcibhbalaaD19e
namespace Go.Proofs.Ytkckddcibhbalaa
open Go.RowKit

set_option maxHeartbeats 1000000 in
theorem refpack19_any (s : List UInt8) (n : Int) (w : World) (hs : s.length ≤ 1000000000) :
    Calls Try.prog 9 #[.string ⟨s.toArray⟩, .int .i64 n] w fun e w' => e = .returned (.tuple #[.string ⟨(packT s n).toArray⟩, .int .i64 (packC s n)]) ∧ Below w.heap.size w w' := by
  unfold packT packC
  by_cases h1 : 262144 < s.length
  · rw [if_pos (Or.inl h1), if_pos h1]
    go_enter Try.func9, Try.ntmps9
    go_wp2_with fail
    go_ret2
    exact ⟨rfl, Below.refl _ _⟩
  rw [if_neg h1]
  by_cases h2 : n < 0
  · rw [if_pos (Or.inr (Or.inl h2)), if_pos (Or.inl h2)]
    go_enter Try.func9, Try.ntmps9
    go_wp2_with fail
    go_ret2
    exact ⟨rfl, Below.refl _ _⟩
  by_cases h3 : 1073741824 < n
  · rw [if_pos (Or.inr (Or.inr h3)), if_pos (Or.inr h3)]
    go_enter Try.func9, Try.ntmps9
    go_wp2_with fail
    go_ret2
    exact ⟨rfl, Below.refl _ _⟩
  rw [if_neg (by omega), if_neg (by omega)]
  obtain ⟨m, rfl⟩ := Int.eq_ofNat_of_zero_le (show 0 ≤ n by omega)
  rw [Int.toNat_natCast]
  have hc := refcount19_any (s.length : Int)
  rw [countI_nat] at hc
  replace hc := Lib.hid (fun W => hc W (by omega))
  obtain ⟨c1, c2, c3⟩ := count19_bd s.length
  have c4 : 54 * (count19 s.length - 1) ≤ s.length := by
    by_cases h0 : s.length = 0
    · rw [h0]; decide
    · have := c3 h0; omega
  have hcle : count19 s.length ≤ 5000 := by unfold count19; split <;> omega
  have hfn := Lib.hid (fun j h => @flat_next s m j h)
  have hfa := Lib.hid (flat_all s m)
  have hfl := Lib.hid (flat_len s m)
  have hmd := Lib.hid (fun (j : Nat) (W : World) => refblock19_any (kind19 (count19 s.length) j) (m + j) (piece19 s j) W (by unfold kind19; split; omega; split; omega; split <;> omega))
  generalize hk : count19 s.length = k at *
  have hs1 : ¬ (262144 : Int) < s.length := by omega
  have hm1 : ¬ (1073741824 : Int) < m := h3
  go_enter Try.func9, Try.ntmps9
  go_wp2_with fail
  refine (hc.out _).mono ?_; rintro e w1 ⟨rfl, rfl⟩
  clear hc
  go_wp2_with fail
  go_loopw [7, 8] (fun o i wr => ∃ (j : Nat) (l : List UInt8), o = .string ⟨l.toArray⟩ ∧ i = .int .i64 j ∧ j ≤ k ∧ l.length ≤ 64 * j ∧ Hid (l = ((blocks19 s m).take j).flatten) ∧ Hid (Below w.heap.size w wr)) (fun _ i _ => k - (intOf i).toNat)
  case atStart => exact ⟨0, [], rfl, rfl, by omega, by simp, Lib.hid (by simp), Lib.hid (Below.refl _ _)⟩
  case round =>
    obtain ⟨j, l, rfl, rfl, hj, hll, hlE, hbw⟩ := hrel
    by_cases hlt : j < k
    · have hjl : 54 * j ≤ s.length := by omega
      have hjk : (j : Int) < k := by omega
      obtain ⟨M, hM⟩ : ∃ M, min s.length (54 * (j + 1)) = M := ⟨_, rfl⟩
      have hMi : min (s.length : Int) ((j + 1) * 54) = (M : Int) := by omega
      have hM1 : 54 * j ≤ M := by omega
      have hM2 : M ≤ s.length := by omega
      have hpc : (s.take M).drop (j * 54) = piece19 s j := by
        unfold piece19
        rw [List.drop_take, ← hM, Nat.mul_comm j 54]
        by_cases h9 : s.length ≤ 54 * (j + 1)
        · rw [Nat.min_eq_left h9, List.take_of_length_le (by rw [List.length_drop]; exact Nat.le_refl _), List.take_of_length_le (by rw [List.length_drop]; omega)]
        · rw [Nat.min_eq_right (by omega), show 54 * (j + 1) - 54 * j = 54 by omega]
      have hpl := piece_len s j
      have hfn2 := hfn.out j hlt
      rw [← hlE.out] at hfn2
      have hmd2 := fun W => hmd.out j W (by omega) (by rw [hpl]; omega)
      rw [← hpc] at hmd2 hfn2 hpl
      have hbl := blockB_len (kind := kind19 k j) (s := (s.take M).drop (j * 54)) (n := m + j) (by rw [hpl]; omega)
      generalize blockB (kind19 k j) ((s.take M).drop (j * 54)) (m + j) = bb at hmd2 hfn2 hbl
      replace hfn2 := Lib.hid hfn2
      clear hpc hpl
      replace hM := Lib.hid hM
      replace hk := Lib.hid hk
      unfold kind19 at hmd2
      by_cases k1 : k = 1
      · rw [if_pos k1] at hmd2
        have g1 : ((k : Int) == 1) = true := by simp; omega
        replace k1 := Lib.hid k1
        replace hmd2 := Lib.hid hmd2
        go_wp2_with fail
        rw [← Int.natCast_add]
        refine (hmd2.out _).mono ?_; rintro e w3 ⟨rfl, hb3⟩
        replace hbw := Lib.hid (hbw.out.andThen hb3)
        clear hb3
        go_wp2_with fail
        exact ⟨⟨j + 1, l ++ bb, rfl, by go_num, by omega, by rw [List.length_append]; omega, Lib.hid hfn2.out.symm, hbw⟩, by simp [intOf]; omega⟩
      · rw [if_neg k1] at hmd2
        have g1 : ((k : Int) == 1) = false := by simp; omega
        by_cases j0 : j = 0
        · rw [if_pos j0] at hmd2
          have g2 : ((j : Int) == 0) = true := by simp; omega
          replace j0 := Lib.hid j0
          replace hmd2 := Lib.hid hmd2
          go_wp2_with fail
          rw [← Int.natCast_add]
          refine (hmd2.out _).mono ?_; rintro e w3 ⟨rfl, hb3⟩
          replace hbw := Lib.hid (hbw.out.andThen hb3)
          clear hb3
          go_wp2_with fail
          exact ⟨⟨j + 1, l ++ bb, rfl, by go_num, by omega, by rw [List.length_append]; omega, Lib.hid hfn2.out.symm, hbw⟩, by simp [intOf]; omega⟩
        · rw [if_neg j0] at hmd2
          have g2 : ((j : Int) == 0) = false := by simp; omega
          by_cases jk : j + 1 = k
          · rw [if_pos jk] at hmd2
            have g3 : ((j : Int) == k - 1) = true := by simp; omega
            replace jk := Lib.hid jk
            replace hmd2 := Lib.hid hmd2
            go_wp2_with fail
            rw [← Int.natCast_add]
            refine (hmd2.out _).mono ?_; rintro e w3 ⟨rfl, hb3⟩
            replace hbw := Lib.hid (hbw.out.andThen hb3)
            clear hb3
            go_wp2_with fail
            exact ⟨⟨j + 1, l ++ bb, rfl, by go_num, by omega, by rw [List.length_append]; omega, Lib.hid hfn2.out.symm, hbw⟩, by simp [intOf]; omega⟩
          · rw [if_neg jk] at hmd2
            have g3 : ((j : Int) == k - 1) = false := by simp; omega
            replace hmd2 := Lib.hid hmd2
            go_wp2_with fail
            rw [← Int.natCast_add]
            refine (hmd2.out _).mono ?_; rintro e w3 ⟨rfl, hb3⟩
            replace hbw := Lib.hid (hbw.out.andThen hb3)
            clear hb3
            go_wp2_with fail
            exact ⟨⟨j + 1, l ++ bb, rfl, by go_num, by omega, by rw [List.length_append]; omega, Lib.hid hfn2.out.symm, hbw⟩, by simp [intOf]; omega⟩
    · obtain rfl : j = k := by omega
      have hke : ¬ ((j : Int) < j) := by omega
      have hfa2 := hfa.out
      rw [← hlE.out] at hfa2
      subst hfa2
      go_wp2_with fail
      go_ret2
      exact ⟨rfl, hbw.out⟩
end Go.Proofs.Ytkckddcibhbalaa
