/- The walks of the laws ShingleHashes, ShingleCounts, ShingleTells. -/
import Derived.Test.YtmallpkbjpfajaaD04l
import Derived.Test.YtmallpkbjpfajaaCv
namespace Go.Proofs.Ytmallpkbjpfajaa
open Go.RowKit

theorem u8_bd {n : Int} (h : (Lit.int .u8 n).wf = true) : 0 ≤ n ∧ n ≤ 255 := by
  simp [Lit.wf, IntKind.min, IntKind.max, IntKind.bits, IntKind.signed] at h
  omega
theorem i64_bd {n : Int} (h : (Lit.int .i64 n).wf = true) : -9223372036854775808 ≤ n ∧ n ≤ 9223372036854775807 := by
  simp [Lit.wf, IntKind.min, IntKind.max, IntKind.bits, IntKind.signed] at h
  omega
theorem u8_toNat {c : Int} (h0 : 0 ≤ c) (h1 : c ≤ 255) : ((u8 c).toNat : Int) = c := by unfold u8; simp; omega

set_option maxHeartbeats 1000000 in
theorem hashes04_law (l : List UInt8) (c : Int) (w : World) (hs : l.length ≤ maxLen) (hc : (Lit.int .u8 c).wf = true) : Calls Try.prog 4 #[.string ⟨l.toArray⟩, .int .u8 c] w (LawPost w) := by
  unfold maxLen at hs
  obtain ⟨hc0, hc1⟩ := u8_bd hc
  clear hc
  by_cases hl : 20000 < l.length
  · go_enter Try.func4, Try.ntmps4
    go_wp2_with fail
    refine (awake4_any w).mono ?_
    rintro e w1 ⟨rfl, hb⟩
    go_wp2_with fail
    go_ret
    exact ⟨rfl, hb⟩
  have hcv := fun (w : World) (a : Int) => run_str_new (P := Try.prog) w 31 9 5 5 Try.underlying31 Try.underlying5 Try.underlying9 [a] 1 1 rfl
  simp only [List.map_cons, List.map_nil] at hcv
  have hsn := hashB_snoc l (u8 c)
  rw [u8_toNat hc0 hc1] at hsn
  unfold hstep at hsn
  replace hsn := Lib.hid hsn
  have h1 := hash_any l w (by unfold maxLen; omega)
  have h2 := fun W => refhash_any l W (by unfold maxLen; omega)
  have hbd := hashB_bd l
  generalize hashB l = h at hsn h1 h2 hbd
  obtain ⟨hh0, hh1⟩ := hbd
  replace h1 := Lib.hid h1
  replace h2 := Lib.hid h2
  go_enter Try.func4, Try.ntmps4
  go_wp2_with fail
  refine h1.out.mono ?_; rintro e w1 ⟨rfl, rfl⟩
  go_wp2_with fail
  refine (awake4_any w).mono ?_
  rintro e w1 ⟨rfl, hb1⟩
  replace hb1 := Lib.hid hb1
  go_wp2_with fail
  refine (h2.out _).mono ?_; rintro e w2 ⟨rfl, rfl⟩
  go_wp2_with fail
  refine (hash_any (l ++ [u8 c]) _ (by unfold maxLen; simp; omega)).mono ?_; rintro e w2 ⟨rfl, rfl⟩
  rw [hsn.out]
  go_wp2_with fail
  go_ret
  exact ⟨rfl, hb1.out.alloc hb1.out.size _⟩

set_option maxHeartbeats 1000000 in
theorem counts04_law (xs : List (List UInt8)) (v : Value) (k : Int) (w : World) (hv : StrSl w v xs) (hlow : SlBelow w.heap.size v) (hs : xs.length ≤ maxLen) (hk : (Lit.int .u8 k).wf = true) : Calls Try.prog 5 #[v, .int .u8 k] w (LawPost w) := by
  obtain ⟨hk0, hk1⟩ := u8_bd hk
  clear hk
  obtain ⟨a, c, rfl⟩ := hv.form
  replace hv := Lib.hid hv
  replace hlow := Lib.hid hlow
  go_enter Try.func5, Try.ntmps5
  go_wp2_with fail
  refine (great4_any xs _ w hv.out hs).mono ?_
  rintro e w1 ⟨b, rfl, rfl, hgr⟩
  cases b
  case true =>
    go_wp2_with fail
    refine (awake4_any w).mono ?_
    rintro e w1 ⟨rfl, hb⟩
    go_wp2_with fail
    go_ret
    exact ⟨rfl, hb⟩
  obtain ⟨hn, hl⟩ := hgr rfl
  clear hgr hs
  have hc1 := cnt_le xs.length 1
  have hcn : ∀ n : Int, (cnt xs.length n : Int) = if xs.length = 0 ∨ n < 1 then 0 else max 1 ((xs.length : Int) - n + 1) := by
    intro n
    unfold cnt; split
    · rfl
    · omega
  have key : ∀ w1 : World, Hid (StrSl w1 (.slice a xs.length c) xs) → Hid (SlBelow w1.heap.size (.slice a xs.length c)) → ∀ j : Int, 0 ≤ j → j ≤ 9 → Calls Try.prog 9 #[.slice a xs.length c, .int .i64 j] w1 fun e w' => ∃ a' c', e = .returned (.slice a' (cnt xs.length j) c') ∧ Hid (Below w1.heap.size w1 w') := by
    intro w1 h1 h2 j hj0 hj1
    refine (shingles_any xs _ j w1 h1.out h2.out (by omega) (by omega) (by omega) (by omega)).mono ?_
    rintro e w' ⟨v', rfl, ho, hb⟩
    obtain ⟨a', c', rfl⟩ := own_form ho
    rw [shinB_len]
    exact ⟨a', c', rfl, hb⟩
  replace key := Lib.hid key
  have e1 := hcn (1 + k % 9)
  have e2 := hcn 0
  have e3 := hcn 1
  rw [if_pos (Or.inr (by omega))] at e2
  have e3 : cnt xs.length 1 = xs.length := by split at e3 <;> omega
  have e2 : cnt xs.length 0 = 0 := by omega
  clear hcn hc1
  by_cases h0 : xs.length = 0
  · rw [if_pos (Or.inl h0)] at e1
    have e1 : cnt xs.length (1 + k % 9) = 0 := by omega
    have h0' : ¬ (0 < (xs.length : Int)) := by omega
    replace h0 := Lib.hid h0
    replace e1 := Lib.hid e1
    replace e2 := Lib.hid e2
    replace e3 := Lib.hid e3
    go_wp2_with fail
    refine (key.out _ hv hlow (1 + k % 9) (by omega) (by omega)).mono ?_; rintro e w1 ⟨a1, c1, rfl, hb1⟩
    rw [e1.out]
    go_wp2_with fail
    refine (awake4_any _).mono ?_
    rintro e w2 ⟨rfl, hb2⟩
    replace hb2 := Lib.hid (hb1.out.andThen hb2)
    go_wp2_with fail
    refine (key.out _ (hv.out.below hb2.out hlow.out) (hlow.out.mono hb2.out.size) 0 (by omega) (by omega)).mono ?_; rintro e w3 ⟨a3, c3, rfl, hb3⟩
    replace hb3 := Lib.hid (hb2.out.andThen hb3.out)
    rw [e2.out]
    go_wp2_with fail
    refine (key.out _ (hv.out.below hb3.out hlow.out) (hlow.out.mono hb3.out.size) 1 (by omega) (by omega)).mono ?_; rintro e w4 ⟨a4, c4, rfl, hb4⟩
    replace hb4 := Lib.hid (hb3.out.andThen hb4.out)
    rw [e3.out]
    go_wp2_with fail
    go_ret
    exact ⟨rfl, hb4.out⟩
  · rw [if_neg (by omega)] at e1
    obtain ⟨N, hN⟩ : ∃ N, N = cnt xs.length (1 + k % 9) := ⟨_, rfl⟩
    rw [← hN] at e1
    replace hN := Lib.hid hN
    replace e2 := Lib.hid e2
    replace e3 := Lib.hid e3
    have h0' : 0 < (xs.length : Int) := by omega
    replace h0 := Lib.hid h0
    go_wp2_with fail
    refine (key.out _ hv hlow (1 + k % 9) (by omega) (by omega)).mono ?_; rintro e w1 ⟨a1, c1, rfl, hb1⟩
    rw [← hN.out]
    go_wp2_with fail
    refine (awake4_any _).mono ?_
    rintro e w2 ⟨rfl, hb2⟩
    replace hb2 := Lib.hid (hb1.out.andThen hb2)
    go_wp2_with fail
    refine (key.out _ (hv.out.below hb2.out hlow.out) (hlow.out.mono hb2.out.size) 0 (by omega) (by omega)).mono ?_; rintro e w3 ⟨a3, c3, rfl, hb3⟩
    replace hb3 := Lib.hid (hb2.out.andThen hb3.out)
    rw [e2.out]
    go_wp2_with fail
    refine (key.out _ (hv.out.below hb3.out hlow.out) (hlow.out.mono hb3.out.size) 1 (by omega) (by omega)).mono ?_; rintro e w4 ⟨a4, c4, rfl, hb4⟩
    replace hb4 := Lib.hid (hb3.out.andThen hb4.out)
    rw [e3.out]
    go_wp2_with fail
    go_ret
    exact ⟨rfl, hb4.out⟩
end Go.Proofs.Ytmallpkbjpfajaa
