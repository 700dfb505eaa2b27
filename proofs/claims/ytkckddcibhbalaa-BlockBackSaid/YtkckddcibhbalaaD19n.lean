/- The walk of BlockBack. -/
import Derived.Test.YtkckddcibhbalaaD19m
namespace Go.Proofs.Ytkckddcibhbalaa
open Go.RowKit

/-- How many of the first i records are whole within k bytes, as the law counts. -/
def wholeI (l : List (List UInt8)) (k : Nat) (i : Nat) : Nat := min (whole19 l (k / 64)) i
theorem cntL_take {l : List (List UInt8)} {i : Nat} (h : i < l.length) : cntL (l.take (i + 1)) = cntL (l.take i) + count19 (l.getD i []).length := by
  have e : l.take (i + 1) = l.take i ++ [l.getD i []] := by
    rw [List.take_succ_eq_append_getElem h]
    simp [List.getD, h]
  rw [e, cntL_snoc]
theorem whole_yes {l : List (List UInt8)} {k i : Nat} (h : i < l.length) (hk : 64 * cntL (l.take (i + 1)) ≤ k) : wholeI l k (i + 1) = i + 1 := by
  have := (whole_iff l (k / 64) i h).1 (by omega)
  unfold wholeI
  omega
theorem whole_no {l : List (List UInt8)} {k i : Nat} (h : i < l.length) (hk : ¬ 64 * cntL (l.take (i + 1)) ≤ k) : wholeI l k (i + 1) = wholeI l k i := by
  have : ¬ i < whole19 l (k / 64) := fun e => hk (by have := (whole_iff l (k / 64) i h).2 e; omega)
  unfold wholeI
  omega
theorem whole_end {l : List (List UInt8)} {k : Nat} : wholeI l k l.length = whole19 l (k / 64) := by
  have := whole_le l (k / 64)
  unfold wholeI
  omega
theorem cntL_pos {l : List (List UInt8)} (h : l ≠ []) : 0 < cntL l := by
  cases l with
  | nil => exact absurd rfl h
  | cons x r =>
    have := (count19_bd x.length).1
    rw [cntL_cons]
    omega
set_option maxHeartbeats 2000000 in
theorem back19_law (xs : List (List UInt8)) (v : Value) (cut : Int) (w : World) (hs : StrSl w v xs) (hlow : SlBelow w.heap.size v) (hn : xs.length ≤ maxLen) (hl : ∀ x ∈ xs, x.length ≤ maxLen) (hc : (Lit.int .u16 cut).wf = true) :
    Calls Try.prog 5 #[v, .int .u16 cut] w (LawPost w) := by
  obtain ⟨c0, c1⟩ : 0 ≤ cut ∧ cut ≤ 65535 := by simp [Lit.wf, IntKind.min, IntKind.max, IntKind.bits, IntKind.signed] at hc; omega
  clear hc
  have h1 := Lib.hid (small19_any xs v w hs hn hl)
  clear hn hl
  by_cases hsm : small19 xs = false
  · rw [hsm] at h1
    obtain ⟨a, c, rfl⟩ := hs.form
    clear hs hlow
    go_enter Try.func5, Try.ntmps5
    go_wp2_with fail
    refine h1.out.mono ?_; rintro e w1 ⟨rfl, rfl⟩
    go_wp2_with fail
    refine (awake19_any w).mono ?_; rintro e w1 ⟨rfl, hb⟩
    go_wp2_with fail
    go_ret
    exact ⟨rfl, hb⟩
  replace hsm : small19 xs = true := by simpa using hsm
  rw [hsm] at h1
  have h2 := fun W => packed19_any xs v W
  obtain ⟨hsum, hn⟩ := small_is hsm
  have hcb := cntL_small xs
  have hlen := packed_len xs
  have hpb : (packedB xs).length ≤ 5000 := by omega
  have hmx : ∀ x ∈ xs, x.length ≤ 262144 := fun x hx => by have := small_each hsum x hx; omega
  have hme := Lib.hid (small_each hsum)
  have hsp := scan_packed xs hmx
  replace h2 := Lib.hid (packed19_any xs v w hs hlow hsm)
  clear hsm
  by_cases hx0 : xs = []
  · obtain ⟨a, c, rfl⟩ := hs.nil hx0
    subst hx0
    have e0 : packedB [] = [] := rfl
    have e1 : scanB [] = ([], 0) := rfl
    rw [e0] at h2
    have h3 := fun W => scan19_any [] W (by simp)
    replace h3 := Lib.hid h3
    replace e1 := Lib.hid e1
    clear hsum hcb hlen hpb hmx e0 hs hlow hn hme hsp
    go_enter Try.func5, Try.ntmps5
    go_wp2_with fail
    refine h1.out.mono ?_; rintro e w1 ⟨rfl, rfl⟩
    go_wp2_with fail
    refine h2.out.mono ?_; rintro e w1 ⟨rfl, hb⟩
    replace hb := Lib.hid hb
    go_wp2_with fail
    refine (h3.out w1).mono ?_; rintro e w2 ⟨v1, rfl, ho1, hb2⟩
    rw [e1.out] at ho1 ⊢
    obtain ⟨a1, c1, rfl⟩ := own_form ho1
    replace ho1 := Lib.hid ho1
    replace hb := Lib.hid (hb.out.andThen hb2)
    clear hb2
    go_wp2_with fail
    refine (h3.out w2).mono ?_; rintro e w3 ⟨v2, rfl, ho2, hb2⟩
    rw [e1.out] at ho2 ⊢
    obtain ⟨a2, c2, rfl⟩ := own_form ho2
    replace ho1 := Lib.hid (show Strs w3 w1.heap.size _ _ from ownsRow_below ho1.out hb2)
    replace ho2 := Lib.hid ho2
    replace hb := Lib.hid (hb.out.andThen hb2)
    clear hb2
    go_wp2_with fail
    refine wp_loop_rounds 1 ?_; rw [rounds_succ]
    go_wp2_with fail
    refine (awake19_any w3).mono ?_; rintro e w4 ⟨rfl, hb2⟩
    replace ho1 := Lib.hid (show Strs w4 w1.heap.size _ _ from ownsRow_below ho1.out hb2)
    replace ho2 := Lib.hid (show Strs w4 w2.heap.size _ _ from ownsRow_below ho2.out hb2)
    replace hb := Lib.hid (hb.out.andThen hb2)
    clear hb2
    go_wp2_with fail
    refine (same19_any [] _ _ w4 ho1.out.sl (Or.inl ⟨rfl, _, _, rfl⟩) (by simp)).mono ?_; rintro e w5 ⟨rfl, hd⟩
    replace hb := Lib.hid (hb.out.andThen (hd.below _))
    replace ho2 := Lib.hid (ho2.out.sl.drawn hd)
    clear hd
    go_wp2_with fail
    refine (same19_any [] _ _ w5 ho2.out (Or.inl ⟨rfl, _, _, rfl⟩) (by simp)).mono ?_; rintro e w6 ⟨rfl, hd⟩
    replace hb := Lib.hid (hb.out.andThen (hd.below _))
    clear hd
    go_wp2_with fail
    go_ret
    exact ⟨rfl, hb.out⟩
  · obtain ⟨b1, o1, c1, rfl, hce⟩ := hs.some hx0
    have hlo := hlow ⟨b1, o1, none⟩ _ _ rfl (List.length_pos_iff.2 hx0)
    have hcap : xs.length ≤ c1 := (hs.cap).2 hx0
    have hcp := cntL_pos hx0
    obtain ⟨K, hK⟩ : ∃ K : Nat, cut % (64 * (cntL xs : Int) + 1) = (K : Int) := ⟨(cut % (64 * (cntL xs : Int) + 1)).toNat, by have := Int.emod_nonneg cut (show (64 * (cntL xs : Int) + 1) ≠ 0 by omega); omega⟩
    have hKl : K ≤ (packedB xs).length := by have := Int.emod_lt_of_pos cut (show (0 : Int) < 64 * (cntL xs : Int) + 1 by omega); omega
    have hsc := scan_cut xs K hmx hKl
    have hWl := whole_le xs (K / 64)
    have hMK : 64 * cntL (xs.take (whole19 xs (K / 64))) ≤ K := by have := whole_cnt xs (K / 64); omega
    have hy := Lib.hid (fun i h hk => @whole_yes xs K i h hk)
    have hno := Lib.hid (fun i h hk => @whole_no xs K i h hk)
    have hct := Lib.hid (fun i h => @cntL_take xs i h)
    have hend := Lib.hid (@whole_end xs K)
    have hall : Hid (64 * cntL xs ≤ K → 64 * cntL (xs.take (whole19 xs (K / 64))) = 64 * cntL xs) := by
      refine Lib.hid fun hk => ?_
      rw [whole_all xs _ (by omega), List.take_of_length_le (Nat.le_refl _)]
    have hkb := Lib.hid (whole_cnt xs (K / 64))
    have h3 := fun W => scan19_any (packedB xs) W (by omega)
    have h4 := fun W => scan19_any ((packedB xs).take K) W (by rw [List.length_take]; omega)
    have hs1 : 0 < (packedB xs).length := by omega
    obtain ⟨V, hV⟩ : ∃ V, whole19 xs (K / 64) = V := ⟨_, rfl⟩
    rw [hV] at hsc hWl hMK hend hall hkb
    obtain ⟨B, hB⟩ : ∃ B, xs.take V = B := ⟨_, rfl⟩
    obtain ⟨M, hM⟩ : ∃ M, 64 * cntL B = M := ⟨_, rfl⟩
    rw [hB, hM] at hsc hMK hall
    have hBl : B.length = V := by rw [← hB, List.length_take]; omega
    replace hV := Lib.hid hV
    replace hB := Lib.hid hB
    replace hM := Lib.hid hM
    generalize packedB xs = S at *
    replace h3 := Lib.hid h3
    replace h4 := Lib.hid h4
    replace hce := Lib.hid hce
    replace hsp := Lib.hid hsp
    replace hsc := Lib.hid hsc
    replace hlow := Lib.hid hlow
    replace hs := Lib.hid hs
    replace hlo := Lib.hid hlo
    replace hx0 := Lib.hid hx0
    clear hsum hmx hcb
    go_enter Try.func5, Try.ntmps5
    go_wp2_with fail
    refine h1.out.mono ?_; rintro e w1 ⟨rfl, rfl⟩
    go_wp2_with fail
    refine h2.out.mono ?_; rintro e w1 ⟨rfl, hb⟩
    replace hb := Lib.hid hb
    go_wp2_with fail
    refine (h3.out w1).mono ?_; rintro e w2 ⟨v1, rfl, ho1, hb2⟩
    rw [hsp.out] at ho1 ⊢
    obtain ⟨a1, c1, rfl⟩ := own_form ho1
    replace ho1 := Lib.hid ho1
    replace hb := Lib.hid (hb.out.andThen hb2)
    clear hb2
    go_wp2_with fail
    refine (h4.out w2).mono ?_; rintro e w3 ⟨v2, rfl, ho2, hb2⟩
    rw [hsc.out] at ho2 ⊢
    obtain ⟨a2, c2, rfl⟩ := own_form ho2
    replace ho1 := Lib.hid (show Strs w3 w1.heap.size _ _ from ownsRow_below ho1.out hb2)
    replace ho2 := Lib.hid ho2
    replace hb := Lib.hid (hb.out.andThen hb2)
    clear hb2
    go_wp2_with fail
    replace hce := Lib.hid (fun j hj => (hb.out.cell (p := ⟨b1, o1 + j, none⟩) hlo.out).trans (hce.out j hj))
    have hcap2 : ∀ m, m ≤ xs.length → m - 0 ≤ _ := fun m hm => Nat.le_trans (Nat.sub_le _ _) (Nat.le_trans hm hcap)
    clear h1 h2 h3 h4 hsp hsc hkb hK
    go_loop [11, 12, 13] (fun ev wv iv => ∃ i E U : Nat, ev = .int .i64 E ∧ wv = .int .i64 U ∧ iv = .int .i64 i ∧ i ≤ xs.length ∧ E ≤ 64 * (38 * i) ∧ U ≤ i ∧ Hid (E = 64 * cntL (xs.take i)) ∧ Hid (U = wholeI xs K i)) (fun _ _ iv => xs.length - (intOf iv).toNat)
    case atStart => exact ⟨0, 0, 0, rfl, rfl, rfl, by omega, by omega, by omega, Lib.hid rfl, Lib.hid (by unfold wholeI; omega)⟩
    case round =>
      obtain ⟨i, E, U, rfl, rfl, rfl, hi, hEb, hUb, hE, hU⟩ := hrel
      by_cases hlt : i < xs.length
      · have g1 := hce.out i hlt
        have hct2 := hct.out i hlt
        have hxl := hme.out (xs.getD i []) (by simp [List.getD, hlt])
        have hc19 := fun W => count19_any ((xs.getD i []).length : Int) W (by omega)
        rw [countI_nat] at hc19
        replace hc19 := Lib.hid hc19
        have hcb : count19 (xs.getD i []).length ≤ 38 := by unfold count19; split <;> omega
        have hE2 : E + 64 * count19 (xs.getD i []).length = 64 * cntL (xs.take (i + 1)) := by have := hE.out; omega
        generalize count19 (xs.getD i []).length = n at *
        generalize xs.getD i [] = x at *
        unfold strV at g1
        clear hct2
        by_cases hle : (E : Int) + 64 * n ≤ K
        · have hU2 := hy.out i hlt (by omega)
          by_cases hl1 : i + 1 = xs.length
          · have hMe : (E : Int) + 64 * n = M := by
              have hex : xs.take (i + 1) = xs := List.take_of_length_le (by omega)
              rw [hex] at hE2
              have := hall.out (by omega)
              omega
            have hl2 : ((i : Int) + 1 == xs.length) = true := by simp; omega
            replace hE2 := Lib.hid hE2
            replace hU2 := Lib.hid hU2
            go_wp2_with fail
            refine (hc19.out _).mono ?_; rintro e w4 ⟨rfl, rfl⟩
            go_wp2_with fail
            have hMn : M = E + 64 * n := by omega
            exact ⟨⟨i + 1, M, i + 1, rfl, by go_num, by go_num, by omega, by omega, by omega, Lib.hid (hMn.trans hE2.out), Lib.hid hU2.out.symm⟩, by simp [intOf]; omega⟩
          · have hl2 : ((i : Int) + 1 == xs.length) = false := by simp; omega
            replace hE2 := Lib.hid hE2
            replace hU2 := Lib.hid hU2
            go_wp2_with fail
            refine (hc19.out _).mono ?_; rintro e w4 ⟨rfl, rfl⟩
            go_wp2_with fail
            exact ⟨⟨i + 1, E + 64 * n, i + 1, by go_num, by go_num, by go_num, by omega, by omega, by omega, hE2, Lib.hid hU2.out.symm⟩, by simp [intOf]; omega⟩
        · have hU2 := hno.out i hlt (by omega)
          rw [← hU.out] at hU2
          replace hE2 := Lib.hid hE2
          replace hU2 := Lib.hid hU2
          go_wp2_with fail
          refine (hc19.out _).mono ?_; rintro e w4 ⟨rfl, rfl⟩
          go_wp2_with fail
          exact ⟨⟨i + 1, E + 64 * n, U, by go_num, rfl, by go_num, by omega, by omega, by omega, hE2, Lib.hid hU2.out.symm⟩, by simp [intOf]; omega⟩
      · obtain rfl : i = xs.length := by omega
        have hUV := hU.out.trans hend.out
        subst hUV
        clear hU hE
        go_wp2_with fail
        refine (awake19_any w3).mono ?_; rintro e w4 ⟨rfl, hb2⟩
        replace ho1 := Lib.hid (show Strs w4 w1.heap.size _ _ from ownsRow_below ho1.out hb2)
        replace ho2 := Lib.hid (show Strs w4 w2.heap.size _ _ from ownsRow_below ho2.out hb2)
        replace hb := Lib.hid (hb.out.andThen hb2)
        clear hb2
        have hsx := Lib.hid (hs.out.below hb.out hlow.out)
        go_wp2_with fail
        refine (same19_any xs _ _ w4 ho1.out.sl hsx.out (by omega)).mono ?_; rintro e w5 ⟨rfl, hd⟩
        replace hb := Lib.hid (hb.out.andThen (hd.below _))
        replace ho2 := Lib.hid (ho2.out.sl.drawn hd)
        replace hsx := Lib.hid (hsx.out.drawn hd)
        clear hd
        go_wp2_with fail
        have hsb := strSl_sub hsx.out hx0.out 0 U _ (by omega) hWl (hcap2 U hWl)
        rw [List.drop_zero, Nat.sub_zero, Nat.add_zero, hB.out] at hsb
        have hs2 := ho2.out
        rw [hBl] at hs2
        (with_reducible refine (same19_any B _ _ w5 hs2 hsb ?_).mono ?_)
        · omega
        rintro e w6 ⟨rfl, hd⟩
        replace hb := Lib.hid (hb.out.andThen (hd.below _))
        clear hd
        go_wp2_with fail
        go_ret
        exact ⟨rfl, hb.out⟩
end Go.Proofs.Ytkckddcibhbalaa
