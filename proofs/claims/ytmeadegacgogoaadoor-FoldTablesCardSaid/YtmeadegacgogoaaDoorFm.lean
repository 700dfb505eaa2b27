/- The walks of the laws of layer 2: pairs, tables. -/
import Derived.Test.YtmeadegacgogoaaDoorFl
namespace Go.Proofs.YtmeadegacgogoaaDoor
open Go.RowKit

theorem u8_bounds {n : Int} (h : (Lit.int .u8 n).wf = true) : 0 ≤ n ∧ n ≤ 255 := by
  simp [Lit.wf, IntKind.min, IntKind.max, IntKind.bits, IntKind.signed] at h
  omega
theorem pair_az (a : Int) (h0 : 0 ≤ a) (h1 : a < 26) : foldI (65 + a) = 97 + a := by
  have hall : allTo (fun r => decide (foldI r = r + 32)) 26 65 = true := by decide +kernel
  have := allTo_of _ _ hall (65 + a) (by omega) (by omega)
  simp at this; omega
theorem pair_up (a : Int) (h0 : 0 ≤ a) (h1 : a < 32) : foldI (1040 + a) = 1072 + a := by
  have hall : allTo (fun r => decide (foldI r = r + 32)) 32 1040 = true := by decide +kernel
  have := allTo_of _ _ hall (1040 + a) (by omega) (by omega)
  simp at this; omega
theorem pair_low (a : Int) (h0 : 0 ≤ a) (h1 : a < 32) : foldI (1072 + a) = 1072 + a := by
  have hall : allTo (fun r => decide (foldI r = r)) 32 1072 = true := by decide +kernel
  have := allTo_of _ _ hall (1072 + a) (by omega) (by omega)
  simpa using this

set_option maxHeartbeats 400000 in
theorem pairs02_law (n : Int) (w : World) (hwf : (Lit.int .u8 n).wf = true) (h : Tab w) : Calls Tryd.prog 6 #[.int .u8 n] w (TruePost w) := by
  obtain ⟨h0, h1⟩ := u8_bounds hwf
  clear hwf
  have p1 := Lib.hid (pair_az (n % 26) (by omega) (by omega))
  have p2 := Lib.hid (pair_up (n % 32) (by omega) (by omega))
  have p3 := Lib.hid (pair_low (n % 32) (by omega) (by omega))
  go_enter Tryd.func6, Tryd.ntmps6
  go_wp2_with fail
  refine (awake02_any _ h).mono ?_; rintro e w1 ⟨rfl, k1⟩
  go_wp2_with fail
  refine (fold_any (65 + n % 26) _ (h.below k1)).mono ?_; rintro e w2 ⟨rfl, hb⟩
  have k2 := k1.andThen hb
  clear hb
  rw [p1.out]
  go_wp2_with fail
  refine (fold_any (1040 + n % 32) _ (h.below k2)).mono ?_; rintro e w3 ⟨rfl, hb⟩
  have k3 := k2.andThen hb
  clear hb
  rw [p2.out]
  go_wp2_with fail
  refine (fold_any (1072 + n % 32) _ (h.below k3)).mono ?_; rintro e w4 ⟨rfl, hb⟩
  have k4 := k3.andThen hb
  clear hb
  rw [p3.out]
  go_wp2_with fail
  go_ret
  exact ⟨rfl, k4⟩

/-- Does one of the ranges have r? -/
def hasB (l : List Rg) (r : Int) : Bool := l.any fun g => decide (g.f ≤ r) && decide (r ≤ g.t)
theorem hasB_find : ∀ (l : List Rg) (r : Int), hasB l r = (findR l r).isSome
  | [], _ => rfl
  | g :: l, r => by
    rw [findR]
    by_cases h : g.f ≤ r ∧ r ≤ g.t
    · rw [if_pos h]; simp [hasB, h.1, h.2]
    · rw [if_neg h, ← hasB_find l r]
      have : (decide (g.f ≤ r) && decide (r ≤ g.t)) = false := by
        rw [Bool.and_eq_false_iff]; simp; omega
      simp [hasB, this]
theorem hasB_snoc (l : List Rg) (r : Int) (k : Nat) (hk : k < l.length) : hasB (l.take (k + 1)) r = (hasB (l.take k) r || (decide (l[k].f ≤ r) && decide (r ≤ l[k].t))) := by
  unfold hasB; rw [List.take_succ_eq_append_getElem hk, List.any_append]; simp
theorem rises_at : ∀ (l : List Rg) (b : Int), risesB l b = true → ∀ k, (h : k + 1 < l.length) → l[k].t < l[k + 1].f
  | [], _, _, k, h => by simp at h
  | [_], _, _, k, h => by simp at h
  | g :: x :: l, b, hr, k, h => by
    have h2 : risesB (x :: l) g.t = true := by simp [risesB] at hr ⊢; exact hr.2
    cases k with
    | zero => simp [risesB] at h2; simpa using h2.1.1
    | succ k => exact rises_at (x :: l) g.t h2 k (by simpa using h)

set_option maxRecDepth 100000 in
set_option maxHeartbeats 1000000 in
theorem tables02_law (r : Int) (w : World) (h : Tab w) : Calls Tryd.prog 4 #[.int .i32 r] w (TruePost w) := by
  go_enter Tryd.func4, Tryd.ntmps4
  go_wp2_with fail
  refine (letters_any _ h).mono ?_; rintro e w1 ⟨v1, rfl, hv1, k1⟩
  go_wp2_with fail
  refine (digits_any _ (h.below k1)).mono ?_; rintro e w2 ⟨v2, rfl, hv2, hb⟩
  have k2 := k1.andThen hb
  replace hv1 := hv1.below hb
  clear hb
  go_wp2_with fail
  refine (awake02_any _ (h.below k2)).mono ?_; rintro e w3 ⟨rfl, hb⟩
  have k3 := k2.andThen hb
  replace hv1 := hv1.below hb
  replace hv2 := hv2.below hb
  clear hb
  go_wp2_with fail
  refine (refletters_any _).mono ?_; rintro e w4 ⟨v4, rfl, hv4, hb⟩
  have k4 := k3.andThen hb
  replace hv1 := hv1.below hb
  replace hv2 := hv2.below hb
  clear hb
  go_wp2_with fail
  refine (same_any lettersL v1 v4 _ (by decide) hv1 hv4).mono ?_; rintro e w5 ⟨rfl, hd⟩
  have k5 := k4.andThen (hd.below _)
  replace hv1 := hv1.below (hd.below _)
  replace hv2 := hv2.below (hd.below _)
  clear hd hv4
  go_wp2_with fail
  refine (refdigits_any _).mono ?_; rintro e w6 ⟨v6, rfl, hv6, hb⟩
  have k6 := k5.andThen hb
  replace hv1 := hv1.below hb
  replace hv2 := hv2.below hb
  clear hb
  go_wp2_with fail
  refine (same_any digitsL v2 v6 _ (by decide) hv2 hv6).mono ?_; rintro e w7 ⟨rfl, hd⟩
  have k7 := k6.andThen (hd.below _)
  replace hv1 := hv1.below (hd.below _)
  replace hv2 := hv2.below (hd.below _)
  clear hd hv6 k1 k2 k3 k4 k5 k6
  have f1 : Hid (letB r = hasB lettersL r) := by rw [hasB_find]; rfl
  have f2 : Hid (digB r = hasB digitsL r) := by rw [hasB_find]; rfl
  have f3 := Lib.hid (rises_at lettersL _ rises_letters)
  have hL1 : lettersL.length ≤ 1000 := by decide
  have hD1 : digitsL.length ≤ 1000 := by decide
  obtain ⟨L, hL⟩ : ∃ L, lettersL = L := ⟨_, rfl⟩
  obtain ⟨D, hD⟩ : ∃ L, digitsL = L := ⟨_, rfl⟩
  rw [hL] at hv1 f1 f3 hL1
  rw [hD] at hv2 f2 hD1
  obtain ⟨b, off, c, hc1, rfl, hc⟩ := hv1
  obtain ⟨b', off', c', hc1', rfl, hc'⟩ := hv2
  clear hL hD
  replace hc := Lib.hid hc
  replace hc' := Lib.hid hc'
  go_wp2_with fail
  go_loopw [5, 7] (fun s i wr => ∃ k : Nat, ∃ t : Bool, k ≤ L.length ∧ i = .int .i64 k ∧ s = .bool t ∧ Hid (t = hasB (L.take k) r) ∧ Drawn w7 wr) (fun _ i _ => L.length - (intOf i).toNat)
  case atStart => exact ⟨0, false, Nat.zero_le _, rfl, rfl, rfl, Drawn.refl _⟩
  case round =>
    obtain ⟨k, t, hk, rfl, rfl, ht, hd⟩ := hrel
    by_cases hlt : k < L.length
    · obtain ⟨c0, c1, c2, c3⟩ := (hc.out.below (hd.below _)) k _ (List.getElem?_eq_getElem hlt)
      have hsn := hasB_snoc L r k hlt
      have f4 : ∀ (h0 : 0 < k), ∃ g1 : Rg, wr.cell? ⟨b, off + (k - 1) * 4 + 1, none⟩ = some (.int .i32 g1.t) ∧ g1.t < L[k].f := fun h0 => by
        obtain ⟨d0, d1, d2, d3⟩ := (hc.out.below (hd.below _)) (k - 1) _ (List.getElem?_eq_getElem (by omega))
        refine ⟨_, d1, ?_⟩
        have := f3.out (k - 1) (by omega)
        simp only [show k - 1 + 1 = k by omega] at this
        exact this
      clear c2 c3
      obtain ⟨g, hg⟩ : ∃ g, L[k] = g := ⟨_, rfl⟩
      rw [hg] at c0 c1 hsn f4
      clear hg
      replace hsn := Lib.hid hsn
      rcases Nat.eq_zero_or_pos k with h0 | h0
      · rw [show off + k * 4 = off by omega] at c0 c1
        have h0 : k ≤ 0 := by omega
        clear f4
        cases t <;> by_cases hf : g.f ≤ r <;> by_cases ht2 : r ≤ g.t
        all_goals
          go_wp2
          go_quiet (fail)
          go_wp2
          refine ⟨⟨k + 1, _, by omega, by go_num, rfl, ?_, hd.trans ⟨_, rfl⟩⟩, by simp [intOf]; omega⟩
          unfold Hid
          rw [hsn.out, ← ht.out]
          simp [hf, ht2]
      · obtain ⟨g1, d1, d2⟩ := f4 h0
        clear f4
        cases t <;> by_cases hf : g.f ≤ r <;> by_cases ht2 : r ≤ g.t
        all_goals
          go_wp2
          go_quiet (fail)
          go_wp2
          refine ⟨⟨k + 1, _, by omega, by go_num, rfl, ?_, hd.trans ⟨_, rfl⟩⟩, by simp [intOf]; omega⟩
          unfold Hid
          rw [hsn.out, ← ht.out]
          simp [hf, ht2]
    · have e1 : Hid (letB r = t) := by
        unfold Hid
        rw [f1.out, ht.out, List.take_of_length_le (by omega)]
      clear ht f1 f3 hc hc1
      go_wp2
      obtain ⟨wo, hwo⟩ : ∃ wo : World, wr = wo := ⟨_, rfl⟩
      rw [hwo] at hd
      rw [hwo]
      clear hwo
      go_loopw [6, 8] (fun s i wr => ∃ k : Nat, ∃ u : Bool, k ≤ D.length ∧ i = .int .i64 k ∧ s = .bool u ∧ Hid (u = hasB (D.take k) r) ∧ Drawn w7 wr) (fun _ i _ => D.length - (intOf i).toNat)
      case atStart => exact ⟨0, false, Nat.zero_le _, rfl, rfl, rfl, hd⟩
      case round =>
        clear hd
        obtain ⟨k, u, hk, rfl, rfl, ht, hd⟩ := hrel
        by_cases hlt : k < D.length
        · obtain ⟨c0, c1, c2, c3⟩ := (hc'.out.below (hd.below _)) k _ (List.getElem?_eq_getElem hlt)
          have hsn := hasB_snoc D r k hlt
          clear c2 c3
          obtain ⟨g, hg⟩ : ∃ g, D[k] = g := ⟨_, rfl⟩
          rw [hg] at c0 c1 hsn
          clear hg
          replace hsn := Lib.hid hsn
          cases u <;> by_cases hf : g.f ≤ r <;> by_cases ht2 : r ≤ g.t
          all_goals
            go_wp2
            refine ⟨⟨k + 1, _, by omega, by go_num, rfl, ?_, hd⟩, by simp [intOf]; omega⟩
            unfold Hid
            rw [hsn.out, ← ht.out]
            simp [hf, ht2]
        · have e2 : Hid (digB r = u) := by
            unfold Hid
            rw [f2.out, ht.out, List.take_of_length_le (by omega)]
          have hk7 := k7.andThen (hd.below _)
          clear ht f2 hc' hc1' hd k7
          cases t
          all_goals cases u
          all_goals
            go_wp2_with fail
            refine (letter_any r _ (h.below hk7)).mono ?_; rintro e w8 ⟨rfl, hb8⟩
            rw [e1.out]
            have k8 := hk7.andThen hb8
            clear hb8
            go_wp2_with fail
            refine (digit_any r _ (h.below k8)).mono ?_; rintro e w9 ⟨rfl, hb9⟩
            rw [e2.out]
            have k9 := k8.andThen hb9
            clear hb9
          · go_wp2_with fail
            go_ret
            exact ⟨rfl, k9⟩
          · go_wp2_with fail
            go_ret
            exact ⟨rfl, k9⟩
          · go_wp2_with fail
            go_ret
            exact ⟨rfl, k9⟩
          · have := let_dig r e1.out
            rw [e2.out] at this
            cases this
end Go.Proofs.YtmeadegacgogoaaDoor
