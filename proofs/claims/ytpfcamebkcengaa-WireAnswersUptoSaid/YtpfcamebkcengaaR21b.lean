/- Layer 21, the reference: numbers and texts read. -/
import Derived.Test.YtpfcamebkcengaaR21a
import Derived.Deep.RegionHeld3

namespace Go.Proofs.Ytpfcamebkcengaa
open Go.RowKit

theorem loop_bad9 {l : List UInt8} {n : Nat} (h : LoopOk l 9 n) (hk : 9 < l.length) (hc : 1 < (l[9]'hk).toNat) : readV21 10 true l = none := by
  obtain ⟨_, ⟨_, _, h3⟩ | ⟨h1, _⟩⟩ := h
  · rw [List.drop_eq_getElem_cons hk, show 10 - 9 = 0 + 1 from rfl, read_cons, if_pos (Or.inl ⟨rfl, hc⟩)] at h3
    exact h3
  · omega
theorem loop_bad0 {l : List UInt8} {k n : Nat} (h : LoopOk l k n) (hk : k < l.length) (h0 : 0 < k) (hc : (l[k]'hk).toNat = 0) : readV21 10 true l = none := loop_bad h hk (by omega) (Or.inl ⟨hc, h0⟩)
theorem loop_good2 {l : List UInt8} {k n : Nat} (h : LoopOk l k n) (hk : k < l.length) (h9 : k ≤ 9) (hc : (l[k]'hk).toNat < 128) (h0 : ¬ ((l[k]'hk).toNat = 0 ∧ 0 < k)) (h1 : k = 9 → (l[k]'hk).toNat ≤ 1) : readV21 10 true l = some (n ||| put21 k ((l[k]'hk).toNat % 128), l.drop (k + 1)) := by
  refine loop_good h hk hc h0 ?_
  obtain ⟨hn, ⟨_, h2, _⟩ | ⟨h3, _⟩⟩ := h
  · by_cases e : k = 9
    · subst e
      have h2' : n < 9223372036854775808 := by simpa using h2
      have e2 : (2 : Nat) ^ (min (7 * 9) 64) = 9223372036854775808 := by decide
      rw [or_put9 h2', e2]
      have := h1 rfl
      omega
    · rw [or_put (by omega) h2 (by omega), show min (7 * k) 64 = 7 * k by omega, Nat.add_mul_div_right _ _ (Nat.two_pow_pos _), Nat.div_eq_of_lt h2]
      omega
  · omega
theorem loop_end2 {l : List UInt8} {k n : Nat} (h : LoopOk l k n) (hk : l.length ≤ k ∨ 10 ≤ k) : readV21 10 true l = none := by
  rcases hk with hk | hk
  · exact loop_end h hk
  · obtain ⟨_, ⟨h1, _, _⟩ | ⟨_, h2⟩⟩ := h
    · omega
    · exact h2
theorem shl_put2 (k c : Nat) (h : k ≤ 9) (z : Int) (hz : ((7 * k : Nat) : Int) = z) : Op.shift .shl .u64 (c : Int) .u64 z = pure (.int .u64 ((put21 k c : Nat) : Int)) := by
  unfold put21
  rw [if_pos h]
  exact shl_u64 c (7 * k) _ z hz (by omega)
theorem wrap_put (k c : Nat) (h : k ≤ 9) (z : Int) (hz : ((7 * k : Nat) : Int) = z) : IntKind.u64.wrap ((c : Int) * 2 ^ z.toNat) = ((put21 k c : Nat) : Int) := by
  subst hz
  unfold put21
  rw [if_pos h, Int.toNat_natCast]
  have h3 : ∀ x, IntKind.wrap .u64 x = x % 18446744073709551616 := fun x => by simp [IntKind.wrap, IntKind.bits, IntKind.signed]
  rw [h3]
  simp
theorem and_127 (c : Nat) (h : c < 256) : bits .and .u64 (c : Int) 127 = ((c % 128 : Nat) : Int) := by
  have := bits_mask .u64 64 (by decide) wraps_u64 7 (by decide) (c : Int) (by omega) (by omega)
  simpa using this
theorem and_1 (c : Nat) (h : c < 18446744073709551616) : bits .and .u64 (c : Int) 1 = ((c % 2 : Nat) : Int) := by
  have := bits_mask .u64 64 (by decide) wraps_u64 1 (by decide) (c : Int) (by omega) (by omega)
  simpa using this
theorem or_nat2 (a b : Nat) (ha : a < 18446744073709551616) (hb : b < 18446744073709551616) : bits .or .u64 (a : Int) (b : Int) = ((a ||| b : Nat) : Int) := (bits_nat .u64 64 (by decide) wraps_u64 a b ha hb).2

/-- What a reading of the reference tells, as three results. -/
def RiPost {α : Type} (w : World) (v : α → Value) (d : α) (r : Option (α × List UInt8)) (e : Ending) (w' : World) : Prop := e = .returned (.tuple #[v (valO d r), .string ⟨((resO r).getD []).toArray⟩, .bool (resO r).isSome]) ∧ Below w.heap.size w w'

set_option maxHeartbeats 8000000 in
set_option maxRecDepth 100000 in
theorem rreadInt_any (l : List UInt8) (w : World) (_hl : l.length ≤ 1000000000) :
    Calls Try.prog 13 #[.string ⟨l.toArray⟩] w (RiPost w (Value.int .i64) 0 (readI21 l)) := by
  obtain ⟨ro, hro⟩ : ∃ ro, readI21 l = ro := ⟨_, rfl⟩
  rw [hro]
  replace hro := Lib.hid hro
  have hst := Lib.hid (loop_begin l)
  go_enter Try.func13, Try.ntmps13
  go_wp2_with fail
  go_loop [5, 6] (fun a i => ∃ n k : Nat, a = .int .u64 (n : Int) ∧ i = .int .i64 (k : Int) ∧ k ≤ l.length ∧ k ≤ 10 ∧ Hid (LoopOk l k n)) (fun _ i => 10 - (intOf i).toNat)
  case atStart => exact ⟨0, 0, rfl, rfl, Nat.zero_le _, by omega, hst⟩
  case round =>
    obtain ⟨n, k, rfl, rfl, hk, hk10, hOk⟩ := hrel
    clear hst
    have hn64 := hOk.out.1
    by_cases hlt : k < l.length
    · have hkl : (k : Int) < (l.length : Int) := by omega
      by_cases hlt2 : k < 10
      · have hk2 : (k : Int) < 10 := by omega
        have hk0 : (0 : Int) ≤ (k : Int) := by omega
        have hb := bt_lt l k
        have hbt := Lib.hid (show bt l k = ((l[k]'hlt).toNat : Int) by unfold bt; simp [List.getD, List.getElem?_eq_getElem hlt])
        obtain ⟨c, hc⟩ : ∃ c : Nat, (l[k]'hlt).toNat = c := ⟨_, rfl⟩
        have hbc : bt l k = (c : Int) := by rw [hbt.out, hc]
        obtain ⟨z, hz⟩ : ∃ z : Int, ((7 * k : Nat) : Int) = z := ⟨_, rfl⟩
        have hw7 : 7 * (k : Int) = z := by omega
        have hs1 := shl_put2 k (c % 128) (by omega) z hz
        have hs2 := wrap_put k (c % 128) (by omega) z hz
        have hand := and_127 c (by omega)
        obtain ⟨cm, hcm⟩ : ∃ cm : Int, ((c % 128 : Nat) : Int) = cm := ⟨_, rfl⟩
        rw [hcm] at hs1 hs2 hand
        have hor := or_nat2 n (put21 k (c % 128)) hn64 (put_lt _ _)
        have hm64 := or_lt hn64 (put_lt k (c % 128))
        have hN := Lib.hid (fun e => loop_next hOk.out hlt e)
        have hB := Lib.hid (fun e1 e2 => loop_bad0 hOk.out hlt e1 e2)
        have hG := Lib.hid (fun e e2 e3 => loop_good2 hOk.out hlt (by omega) e e2 e3)
        have hB9 : Hid (k = 9 → 1 < c → readV21 10 true l = none) := Lib.hid (by
          intro e1 e2
          subst e1
          exact loop_bad9 hOk.out hlt (by omega))
        rw [hc] at hN hB hG
        obtain ⟨Y, hY⟩ : ∃ Y, put21 k (c % 128) = Y := ⟨_, rfl⟩
        rw [hY] at hs1 hs2 hor hm64 hN hG
        obtain ⟨M, hM⟩ : ∃ M, n ||| Y = M := ⟨_, rfl⟩
        rw [hM] at hor hm64 hN hG
        rw [hbc] at hb
        obtain ⟨ci, hci⟩ : ∃ ci : Int, (c : Int) = ci := ⟨_, rfl⟩
        rw [hci] at hand hbc hb
        replace hc := Lib.hid hc
        clear hcm hY hM hz hbt
        by_cases hnine : k = 9 ∧ 1 < c
        · have hno := Lib.hid (hro.out.symm.trans (readI_none (hB9.out hnine.1 hnine.2)))
          have q1 : ((k : Int) == 9) = true := by rw [beq_iff_eq]; omega
          have q2 : (1 : Int) < ci := by omega
          clear hN hB hG hB9 hnine hci
          go_wp2_with fail
          go_ret3
          rw [hno.out]
          exact ⟨rfl, Below.refl _ _⟩
        by_cases hzero : 0 < k ∧ c = 0
        · have hno := Lib.hid (hro.out.symm.trans (readI_none (hB.out hzero.1 hzero.2)))
          have q2 : ¬ (1 : Int) < ci := by omega
          have q3 : decide ((0 : Int) < (k : Int)) = true := decide_eq_true (by omega)
          have q3n : decide (0 < k) = true := decide_eq_true hzero.1
          have q4 : (ci == 0) = true := by rw [beq_iff_eq]; omega
          obtain ⟨y, hy⟩ : ∃ y, ((k : Int) == 9) = y := ⟨_, rfl⟩
          clear hN hB hG hB9 hnine hzero hci
          cases y
          all_goals
            go_wp2_with fail
            go_ret3
            rw [hno.out]
            exact ⟨rfl, Below.refl _ _⟩
        obtain ⟨y, hy⟩ : ∃ y, ((k : Int) == 9) = y := ⟨_, rfl⟩
        obtain ⟨y2, hy2⟩ : ∃ y, decide ((1 : Int) < ci) = y := ⟨_, rfl⟩
        obtain ⟨y3, hy3⟩ : ∃ y, decide ((0 : Int) < (k : Int)) = y := ⟨_, rfl⟩
        have hy3n : decide (0 < k) = y3 := by rw [← hy3]; exact decide_eq_decide.2 (by omega)
        obtain ⟨y4, hy4⟩ : ∃ y, (ci == 0) = y := ⟨_, rfl⟩
        have h12 : (y && y2) = false := by
          cases y with
          | false => rfl
          | true =>
            have e1 : (k : Int) = 9 := by simpa using hy
            rw [Bool.true_and, ← hy2]
            exact decide_eq_false (by omega)
        have h34 : (y3 && y4) = false := by
          cases y3 with
          | false => rfl
          | true =>
            have e1 : (0 : Int) < (k : Int) := by simpa using hy3
            rw [Bool.true_and, ← hy4, beq_eq_false_iff_ne]
            omega
        replace hnine := Lib.hid hnine
        replace hzero := Lib.hid hzero
        by_cases h128 : c < 128
        · have hcc : ci < 128 := by omega
          have hgo := Lib.hid (hro.out.symm.trans (readI_some (hG.out h128 (fun e => hzero.out ⟨e.2, e.1⟩) (fun e => by have := hnine.out; omega))))
          have hkl2 : (k : Int) + 1 ≤ (l.length : Int) := by omega
          by_cases hodd : M % 2 = 1
          · have hopp := bits_opp ((M / 2 : Nat) : Int) (by omega) (by omega)
            have hz2 := Lib.hid (show -((M / 2 : Nat) : Int) - 1 = zag21 M by unfold zag21; rw [if_pos hodd])
            have q : (bits .and .u64 (M : Int) 1 == 1) = true := by rw [and_1 M hm64, hodd]; rfl
            have e : ((M / 2 : Nat) : Int) = (M : Int) / 2 := by omega
            rw [e] at hopp hz2
            clear hN hB hG hB9 hodd h128 e hci
            cases y <;> cases y2 <;> cases y3 <;> cases y4
            all_goals first
              | (exfalso; revert h12 h34; decide)
              | (clear h12 h34
                 go_wp2_with fail
                 go_quiet (fail)
                 go_wp2_with fail
                 go_ret3
                 rw [hgo.out]
                 exact ⟨by simp only [valO, resO, Option.map_some, Option.getD_some, Option.isSome_some]; rw [← hz2.out]; rfl, (drawn_drewN _ _).below _⟩)
          · have q : (bits .and .u64 (M : Int) 1 == 1) = false := by rw [and_1 M hm64, beq_eq_false_iff_ne]; omega
            have hz2 := Lib.hid (show (M : Int) / 2 = zag21 M by unfold zag21; rw [if_neg hodd]; omega)
            clear hN hB hG hB9 hodd h128 hci
            cases y <;> cases y2 <;> cases y3 <;> cases y4
            all_goals first
              | (exfalso; revert h12 h34; decide)
              | (clear h12 h34
                 go_wp2_with fail
                 go_quiet (fail)
                 go_wp2_with fail
                 go_ret3
                 rw [hgo.out]
                 exact ⟨by simp only [valO, resO, Option.map_some, Option.getD_some, Option.isSome_some]; rw [← hz2.out]; rfl, (drawn_drewN _ _).below _⟩)
        · have hcc : ¬ ci < 128 := by omega
          have hN2 := Lib.hid (hN.out (by omega))
          clear hN hB hG hB9 h128 hci
          cases y <;> cases y2 <;> cases y3 <;> cases y4
          all_goals first
            | (exfalso; revert h12 h34; decide)
            | (clear h12 h34
               go_wp2_with fail
               go_round
               case rel => exact ⟨M, k + 1, rfl, by go_num, by omega, by omega, hN2⟩
               case measure => simp [intOf]; omega)
      · have hno := Lib.hid (hro.out.symm.trans (readI_none (loop_end2 hOk.out (Or.inr (by omega)))))
        have hk2 : ¬ (k : Int) < 10 := by omega
        go_wp2_with fail
        go_ret3
        rw [hno.out]
        exact ⟨rfl, Below.refl _ _⟩
    · have hno := Lib.hid (hro.out.symm.trans (readI_none (loop_end2 hOk.out (Or.inl (by omega)))))
      have hkl : ¬ (k : Int) < (l.length : Int) := by omega
      go_wp2_with fail
      go_ret3
      rw [hno.out]
      exact ⟨rfl, Below.refl _ _⟩
end Go.Proofs.Ytpfcamebkcengaa
