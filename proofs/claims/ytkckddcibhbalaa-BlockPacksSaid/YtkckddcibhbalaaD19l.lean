/- The walks of law 19's same and awake, and of BlockPacks and BlockScans. -/
import Derived.Test.YtkckddcibhbalaaNi
import Derived.Test.YtkckddcibhbalaaD19g
import Derived.Test.YtkckddcibhbalaaD19h
namespace Go.Proofs.Ytkckddcibhbalaa
open Go.RowKit

theorem same19_any (xs : List (List UInt8)) (va vb : Value) (w : World) (ha : StrSl w va xs) (hb : StrSl w vb xs) (hx : xs.length ≤ 100000000) :
    Calls Try.prog 14 #[va, vb] w fun e w' => e = .returned (.bool true) ∧ Drawn w w' := by
  by_cases hx0 : xs = []
  · obtain ⟨a, c, rfl⟩ := ha.nil hx0
    obtain ⟨a', c', rfl⟩ := hb.nil hx0
    subst hx0
    go_enter Try.func14, Try.ntmps14
    go_wp2_with fail
    refine wp_loop_rounds 1 ?_; rw [rounds_succ]
    go_wp2_with fail
    go_ret
    exact ⟨rfl, Drawn.refl _⟩
  · obtain ⟨b1, o1, c1, rfl, h1⟩ := ha.some hx0
    obtain ⟨b2, o2, c2, rfl, h2⟩ := hb.some hx0
    replace h1 := Lib.hid h1
    replace h2 := Lib.hid h2
    clear ha hb
    replace hx0 := Lib.hid hx0
    go_enter Try.func14, Try.ntmps14
    go_wp2_with fail
    go_loopw [5] (fun i wr => ∃ k : Nat, i = .int .i64 k ∧ k ≤ xs.length ∧ Drawn w wr) (fun i _ => xs.length - (intOf i).toNat)
    case atStart => exact ⟨0, rfl, Nat.zero_le _, Drawn.refl _⟩
    case round =>
      obtain ⟨k, rfl, hk, n0, rfl⟩ := hrel
      by_cases hlt : k < xs.length
      · have g1 := h1.out k hlt
        have g2 := h2.out k hlt
        generalize xs.getD k [] = x at g1 g2
        unfold strV at g1 g2
        go_wp2_with fail
        go_quiet (fail)
        go_wp2_with fail
        exact ⟨⟨k + 1, by go_num, by omega, ⟨_, rfl⟩⟩, by simp [intOf]; omega⟩
      · have hlt2 : ¬ ((k : Int) < xs.length) := by omega
        go_wp2_with fail
        go_ret
        exact ⟨rfl, ⟨_, rfl⟩⟩

theorem scan_few : ∀ (L : List (List UInt8)) (i : Nat) (st : SS), (scan19 L i st).out.length ≤ st.out.length + L.length
  | [], _, _ => by rw [scan19]; omega
  | b :: r, i, st => by
    rw [scan19]
    cases h : step19 st i b with
    | none => simp only; omega
    | some st' =>
      have ih := scan_few r (i + 1) st'
      have hst : st'.out.length ≤ st.out.length + 1 := by
        unfold step19 at h
        cases hr : read19 b i with
        | none => rw [hr] at h; cases h
        | some x =>
          rw [hr] at h
          simp only at h
          split at h
          · cases h
          split at h
          · cases h
          split at h
          · injection h with h; rw [← h]; simp
          · injection h with h; rw [← h]; simp
      simp only
      rw [List.length_cons]
      omega
theorem scanB_len (s : List UInt8) : (scanB s).1.length ≤ s.length / 64 := by
  have := scan_few (chunks19 s) 0 ss0
  rw [chunks_len] at this
  unfold scanB
  simpa [ss0] using this
def hello19 : List UInt8 := [104, 101, 108, 108, 111]
theorem hello_pack : packT hello19 0 = blockB 1 hello19 0 := by
  have e : packT hello19 0 = pack19 hello19 0 := rfl
  rw [e]
  unfold pack19
  have e2 : blocks19 hello19 0 = [blockB 1 hello19 0] := rfl
  rw [e2]
  simp
theorem hello_two : (packT hello19 0).take 2 = [1, 5] := by rw [hello_pack]; rfl
theorem hello_len : (packT hello19 0).length = 64 := by rw [hello_pack]; exact blockB_len (by decide)
theorem hello_scan : scanB (packT hello19 0 ++ [120]) = ([hello19], 64) := by
  have hl := hello_len
  have hc : chunks19 (packT hello19 0 ++ [120]) = [packT hello19 0] := by
    rw [chunks_cons (by simp [hl]), List.take_append_of_le_length (by omega), List.take_of_length_le (by omega), List.drop_append_of_le_length (by omega), List.drop_of_length_le (by omega)]
    rfl
  unfold scanB
  rw [hc]
  have hr : read19 (packT hello19 0) 0 = some (1, hello19) := by rw [hello_pack]; exact read_block 0 (by decide)
  have hs : scan19 [packT hello19 0] 0 ss0 = ⟨false, [], [hello19], 64⟩ := by
    rw [scan19]
    unfold step19
    rw [hr]
    rfl
  rw [hs]
set_option maxHeartbeats 1000000 in
theorem awake19_any (w : World) : Calls Try.prog 7 #[] w (LawPost w) := by
  have h1 := fun W => pack19_any hello19 0 W (by decide)
  have hc0 : packC hello19 0 = 0 := rfl
  have hl := hello_len
  have h2 := fun W => scan19_any (packT hello19 0 ++ [120]) W (by simp [hl])
  have h3 := fun W => pack19_any hello19 (-1) W (by decide)
  have e3 : packT hello19 (-1) = [] := rfl
  have e4 : packC hello19 (-1) = 1 := rfl
  rw [hc0] at h1
  rw [e3, e4] at h3
  have hsc := Lib.hid hello_scan
  have h5 := hello_two
  generalize packT hello19 0 = S at *
  have h6 := Lib.hid (fun W => count19_any 55 W (by decide))
  have e6 : countI 55 = 2 := rfl
  rw [e6] at h6
  have eh : hello19 = [104, 101, 108, 108, 111] := rfl
  rw [eh] at h1 h3
  replace h1 := Lib.hid h1
  replace h2 := Lib.hid h2
  replace h3 := Lib.hid h3
  clear hc0 e3 e4 eh e6
  go_enter Try.func7, Try.ntmps7
  go_wp2_with fail
  refine (h1.out w).mono ?_; rintro e w1 ⟨rfl, hb⟩
  replace hb := Lib.hid hb
  go_wp2_with fail
  refine (h2.out w1).mono ?_; rintro e w2 ⟨v, rfl, ho, hb2⟩
  rw [hsc.out] at ho ⊢
  obtain ⟨b, off, c, rfl, hce⟩ := ho.sl.some (by simp)
  replace hce := Lib.hid (hce 0 (by simp))
  have hlow := ho.low
  replace hb := Lib.hid (hb.out.andThen hb2)
  clear hb2
  go_wp2_with fail
  refine (h3.out w2).mono ?_; rintro e w3 ⟨rfl, hb2⟩
  have hcl := (hb2.cell (p := ⟨b, off + 0, none⟩) (hlow ⟨b, off, none⟩ _ _ rfl (by simp))).trans hce.out
  have eh : [hello19].getD 0 [] = [104, 101, 108, 108, 111] := rfl
  rw [eh] at hcl
  unfold strV at hcl
  rw [Nat.add_zero] at hcl
  replace hb := Lib.hid (hb.out.andThen hb2)
  clear hb2 hce hlow ho eh
  go_wp2_with fail
  refine (h6.out _).mono ?_; rintro e w4 ⟨rfl, rfl⟩
  go_wp2_with fail
  go_ret
  exact ⟨rfl, hb.out⟩

set_option maxHeartbeats 1000000 in
theorem packs19_law (s : List UInt8) (n : Int) (w : World) (hs : s.length ≤ maxLen) (hn : (Lit.int .i64 n).wf = true) : Calls Try.prog 3 #[.string ⟨s.toArray⟩, .int .i64 n] w (LawPost w) := by
  unfold maxLen at hs
  replace hn := bd_i64 hn
  by_cases hl : 5000 < s.length
  · go_enter Try.func3, Try.ntmps3
    go_wp2_with fail
    refine (awake19_any w).mono ?_; rintro e w1 ⟨rfl, hb⟩
    go_wp2_with fail
    go_ret
    exact ⟨rfl, hb⟩
  have h1 := Lib.hid (fun W => pack19_any s n W (by omega))
  have h2 := Lib.hid (fun W => refpack19_any s n W (by omega))
  have h3 := Lib.hid (fun W => count19_any n W hn.2)
  have h4 := Lib.hid (fun W => refcount19_any n W hn.2)
  have h5 := fun W => count19_any (s.length : Int) W (by omega)
  rw [countI_nat] at h5
  replace h5 := Lib.hid h5
  have hcl : packC s n = 0 → (packT s n).length = 64 * count19 s.length := by
    unfold packC packT
    intro h
    by_cases g1 : 262144 < s.length
    · rw [if_pos g1] at h; cases h
    · rw [if_neg g1] at h
      by_cases g2 : n < 0 ∨ 1073741824 < n
      · rw [if_pos g2] at h; cases h
      · rw [if_neg (by omega), pack_len]
  have hcc : packC s n = 0 ∨ packC s n = 1 ∨ packC s n = 8 := by unfold packC; split; exact Or.inr (Or.inr rfl); split; exact Or.inr (Or.inl rfl); exact Or.inl rfl
  have hmb : count19 s.length ≤ 1000 := by unfold count19; split <;> omega
  generalize packC s n = c at *
  generalize packT s n = t at *
  generalize countI n = k at *
  generalize count19 s.length = m at *
  rcases hcc with h | h | h
  · have hcn : (t.length : Int) = 64 * m := by have := hcl h; omega
    subst h
    clear hcl
    go_enter Try.func3, Try.ntmps3
    go_wp2_with fail
    refine (h1.out w).mono ?_; rintro e w1 ⟨rfl, hb⟩
    replace hb := Lib.hid hb
    go_wp2_with fail
    refine (h2.out w1).mono ?_; rintro e w2 ⟨rfl, hb2⟩
    replace hb := Lib.hid (hb.out.andThen hb2)
    clear hb2
    go_wp2_with fail
    refine (awake19_any w2).mono ?_; rintro e w3 ⟨rfl, hb2⟩
    replace hb := Lib.hid (hb.out.andThen hb2)
    clear hb2
    go_wp2_with fail
    refine (h3.out w3).mono ?_; rintro e w4 ⟨rfl, rfl⟩
    go_wp2_with fail
    refine (h4.out w3).mono ?_; rintro e w4 ⟨rfl, rfl⟩
    go_wp2_with fail
    refine (h5.out w3).mono ?_; rintro e w4 ⟨rfl, rfl⟩
    go_wp2_with fail
    go_ret
    exact ⟨rfl, hb.out⟩
  all_goals
    subst h
    clear hcl
    go_enter Try.func3, Try.ntmps3
    go_wp2_with fail
    refine (h1.out w).mono ?_; rintro e w1 ⟨rfl, hb⟩
    replace hb := Lib.hid hb
    go_wp2_with fail
    refine (h2.out w1).mono ?_; rintro e w2 ⟨rfl, hb2⟩
    replace hb := Lib.hid (hb.out.andThen hb2)
    clear hb2
    go_wp2_with fail
    refine (awake19_any w2).mono ?_; rintro e w3 ⟨rfl, hb2⟩
    replace hb := Lib.hid (hb.out.andThen hb2)
    clear hb2
    go_wp2_with fail
    refine (h3.out w3).mono ?_; rintro e w4 ⟨rfl, rfl⟩
    go_wp2_with fail
    refine (h4.out w3).mono ?_; rintro e w4 ⟨rfl, rfl⟩
    go_wp2_with fail
    go_ret
    exact ⟨rfl, hb.out⟩

set_option maxHeartbeats 1000000 in
theorem scans19_law (s : List UInt8) (w : World) (hs : s.length ≤ maxLen) : Calls Try.prog 4 #[.string ⟨s.toArray⟩] w (LawPost w) := by
  unfold maxLen at hs
  by_cases hl : 5000 < s.length
  · go_enter Try.func4, Try.ntmps4
    go_wp2_with fail
    refine (awake19_any w).mono ?_; rintro e w1 ⟨rfl, hb⟩
    go_wp2_with fail
    go_ret
    exact ⟨rfl, hb⟩
  have h1 := Lib.hid (fun W => scan19_any s W (by omega))
  have h2 := Lib.hid (fun W => refscan19_any s W (by omega))
  have hln := scanB_len s
  go_enter Try.func4, Try.ntmps4
  go_wp2_with fail
  refine (h1.out w).mono ?_; rintro e w1 ⟨v1, rfl, ho1, hb⟩
  replace hb := Lib.hid hb
  replace ho1 := Lib.hid ho1
  obtain ⟨a1, c1, rfl⟩ := own_form ho1.out
  go_wp2_with fail
  refine (h2.out w1).mono ?_; rintro e w2 ⟨v2, rfl, ho2, hb2⟩
  obtain ⟨a2, c2, rfl⟩ := own_form ho2
  replace ho1 := Lib.hid (show Strs w2 w.heap.size _ _ from ownsRow_below ho1.out hb2)
  replace ho2 := Lib.hid ho2
  replace hb := Lib.hid (hb.out.andThen hb2)
  clear hb2
  generalize scanB s = R at *
  obtain ⟨out, fin⟩ := R
  go_wp2_with fail
  refine (awake19_any w2).mono ?_; rintro e w3 ⟨rfl, hb2⟩
  replace ho1 := Lib.hid (show Strs w3 w.heap.size _ _ from ownsRow_below ho1.out hb2)
  replace ho2 := Lib.hid (show Strs w3 w1.heap.size _ _ from ownsRow_below ho2.out hb2)
  replace hb := Lib.hid (hb.out.andThen hb2)
  clear hb2
  go_wp2_with fail
  refine (same19_any out _ _ w3 ho1.out.sl ho2.out.sl (by omega)).mono ?_; rintro e w4 ⟨rfl, hd⟩
  replace hb := Lib.hid (hb.out.andThen (hd.below _))
  clear hd
  go_wp2_with fail
  go_ret
  exact ⟨rfl, hb.out⟩
end Go.Proofs.Ytkckddcibhbalaa
