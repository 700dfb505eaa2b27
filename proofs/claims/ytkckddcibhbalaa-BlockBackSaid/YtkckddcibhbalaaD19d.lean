/- The walk of block's Pack. -/
import Derived.Test.YtkckddcibhbalaaD19a
namespace Go.Proofs.Ytkckddcibhbalaa
open Go.RowKit

theorem flat_next (s : List UInt8) (n : Nat) {j : Nat} (h : j < count19 s.length) : ((blocks19 s n).take (j + 1)).flatten = ((blocks19 s n).take j).flatten ++ blockB (kind19 (count19 s.length) j) (piece19 s j) (n + j) := by
  rw [List.take_add_one, blocks_get s n h]
  simp
theorem flat_len (s : List UInt8) (n j : Nat) : ((blocks19 s n).take j).flatten.length ≤ 64 * j := by
  rw [fl64_len (fun b hb => blocks_each s n b (List.mem_of_mem_take hb)), List.length_take]
  omega
theorem flat_all (s : List UInt8) (n : Nat) : ((blocks19 s n).take (count19 s.length)).flatten = pack19 s n := by
  unfold pack19
  rw [List.take_of_length_le (by rw [blocks_len]; exact Nat.le_refl _)]
/-- What Pack comes to. -/
def packT (s : List UInt8) (n : Int) : List UInt8 := if 262144 < s.length ∨ n < 0 ∨ 1073741824 < n then [] else pack19 s n.toNat
def packC (s : List UInt8) (n : Int) : Int := if 262144 < s.length then 8 else if n < 0 ∨ 1073741824 < n then 1 else 0
set_option maxHeartbeats 1000000 in
theorem pack19_any (s : List UInt8) (n : Int) (w : World) (hs : s.length ≤ 1000000000) :
    Calls Try.prog 8 #[.string ⟨s.toArray⟩, .int .i64 n] w fun e w' => e = .returned (.tuple #[.string ⟨(packT s n).toArray⟩, .int .i64 (packC s n)]) ∧ Below w.heap.size w w' := by
  unfold packT packC
  by_cases h1 : 262144 < s.length
  · rw [if_pos (Or.inl h1), if_pos h1]
    go_enter Try.func8, Try.ntmps8
    go_wp2_with fail
    go_ret2
    exact ⟨rfl, Below.refl _ _⟩
  rw [if_neg h1]
  by_cases h2 : n < 0
  · rw [if_pos (Or.inr (Or.inl h2)), if_pos (Or.inl h2)]
    go_enter Try.func8, Try.ntmps8
    go_wp2_with fail
    go_ret2
    exact ⟨rfl, Below.refl _ _⟩
  by_cases h3 : 1073741824 < n
  · rw [if_pos (Or.inr (Or.inr h3)), if_pos (Or.inr h3)]
    go_enter Try.func8, Try.ntmps8
    go_wp2_with fail
    go_ret2
    exact ⟨rfl, Below.refl _ _⟩
  rw [if_neg (by omega), if_neg (by omega)]
  obtain ⟨m, rfl⟩ := Int.eq_ofNat_of_zero_le (show 0 ≤ n by omega)
  rw [Int.toNat_natCast]
  have hc := count19_any (s.length : Int)
  rw [countI_nat] at hc
  replace hc := Lib.hid (fun W => hc W (by omega))
  obtain ⟨c1, c2, c3⟩ := count19_bd s.length
  have c4 : 54 * (count19 s.length - 1) ≤ s.length := by
    by_cases h0 : s.length = 0
    · rw [h0]; decide
    · have := c3 h0; omega
  have hcle : count19 s.length ≤ 5000 := by unfold count19; split <;> omega
  have hfn := Lib.hid (fun j h => @flat_next s m j h)
  have hfa := Lib.hid (flat_all s m)
  have hfl := Lib.hid (flat_len s m)
  have hkd := Lib.hid (fun (j : Nat) (W : World) (h : j < count19 s.length) => kind19_any j (count19 s.length) W h (by omega))
  have hmd := Lib.hid (fun (j : Nat) (W : World) => made19_any (kind19 (count19 s.length) j) (m + j) (piece19 s j) W (by unfold kind19; split; omega; split; omega; split <;> omega))
  generalize hk : count19 s.length = k at *
  have hs1 : ¬ (262144 : Int) < s.length := by omega
  have hm1 : ¬ (1073741824 : Int) < m := h3
  go_enter Try.func8, Try.ntmps8
  go_wp2_with fail
  refine (hc.out _).mono ?_; rintro e w1 ⟨rfl, rfl⟩
  go_wp2_with fail
  rw [show (k : Int) * 64 = ((k * 64 : Nat) : Int) by omega]
  refine (bd_grow (k * 64) w.heap.size _ (heap_alloc_new w _) (by omega)).mono ?_; rintro e w2 ⟨rfl, hbd, hb2⟩
  have hbl := Lib.hid (((Below.refl w.heap.size w).alloc (Nat.le_refl _) (.cells #[.pointer none, .slice none 0 0] 43)).trans hb2)
  replace hbd := Lib.hid hbd
  clear hb2 hc
  go_wp2_with fail
  go_loopw [28] (fun i wr => ∃ j : Nat, i = .int .i64 j ∧ j ≤ k ∧ Hid (BdAt wr w.heap.size w.heap.size ((blocks19 s m).take j).flatten) ∧ Hid (Below w.heap.size w wr)) (fun i _ => k - (intOf i).toNat)
  case atStart => exact ⟨0, rfl, by omega, Lib.hid (by simpa using hbd.out), hbl⟩
  case round =>
    obtain ⟨j, rfl, hj, hb, hbw⟩ := hrel
    clear hbd hbl
    by_cases hlt : j < k
    · have hjl : 54 * j ≤ s.length := by omega
      have hjk : (j : Int) < k := by omega
      obtain ⟨M, hM⟩ : ∃ M, min s.length (54 * (j + 1)) = M := ⟨_, rfl⟩
      have hMi : min (s.length : Int) ((j + 1) * 54) = (M : Int) := by omega
      have hM1 : 54 * j ≤ M := by omega
      have hM2 : M ≤ s.length := by omega
      have hpc : (s.take M).drop (j * 54) = piece19 s j := by
        unfold piece19
        rw [List.drop_take, ← hM, Nat.mul_comm j 54]
        by_cases h9 : s.length ≤ 54 * (j + 1)
        · rw [Nat.min_eq_left h9, List.take_of_length_le (by rw [List.length_drop]; exact Nat.le_refl _), List.take_of_length_le (by rw [List.length_drop]; omega)]
        · rw [Nat.min_eq_right (by omega), show 54 * (j + 1) - 54 * j = 54 by omega]
      have hpl := piece_len s j
      have hfn2 := hfn.out j hlt
      have hfl2 := hfl.out j
      have hmd2 := fun W => hmd.out j W (by omega) (by rw [hpl]; omega)
      have hkd2 := Lib.hid (fun W => hkd.out j W hlt)
      rw [← hpc] at hmd2 hfn2 hpl
      have hbl := blockB_len (kind := kind19 k j) (s := (s.take M).drop (j * 54)) (n := m + j) (by rw [hpl]; omega)
      generalize blockB (kind19 k j) ((s.take M).drop (j * 54)) (m + j) = bb at hmd2 hfn2 hbl
      replace hfn2 := Lib.hid hfn2
      replace hmd2 := Lib.hid hmd2
      clear hpc hpl
      replace hM := Lib.hid hM
      go_wp2_with fail
      refine (hkd2.out _).mono ?_; rintro e w3 ⟨rfl, rfl⟩
      go_wp2_with fail
      rw [← Int.natCast_add]
      refine (hmd2.out _).mono ?_; rintro e w3 ⟨rfl, hb3⟩
      replace hb := Lib.hid (hb.out.next hb3)
      replace hbw := Lib.hid (hbw.out.andThen hb3)
      clear hb3
      go_wp2_with fail
      refine (bd_write hb.out bb (by omega) hbw.out.size).mono ?_; rintro e w4 ⟨rfl, hb4, hbw4⟩
      replace hbw := Lib.hid (hbw.out.trans hbw4)
      replace hb4 := Lib.hid hb4
      rw [← hfn2.out] at hb4
      clear hbw4
      go_wp2_with fail
      exact ⟨⟨j + 1, by go_num, by omega, hb4, hbw⟩, by simp [intOf]; omega⟩
    · obtain rfl : j = k := by omega
      have hke : ¬ ((j : Int) < j) := by omega
      rw [hfa.out] at hb
      go_wp2_with fail
      refine (bd_string hb.out hbw.out.size).mono ?_; rintro e w3 ⟨rfl, hb3⟩
      replace hbw := Lib.hid (hbw.out.trans hb3)
      clear hb3
      go_wp2_with fail
      go_ret2
      exact ⟨rfl, hbw.out⟩
end Go.Proofs.Ytkckddcibhbalaa
