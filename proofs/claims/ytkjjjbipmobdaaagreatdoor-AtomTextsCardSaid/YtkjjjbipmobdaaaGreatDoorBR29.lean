/- The walks of utf.follow, utf.cut, utf.Next and of the reference's lead and Next. -/
import Derived.Test.YtkjjjbipmobdaaaGreatDoorBR01
import Derived.Test.YtkjjjbipmobdaaaGreatDoorBR06
import Derived.Test.YtkjjjbipmobdaaaGreatDoorBR28
import Derived.Test.YtkjjjbipmobdaaaGreatDoorBR08
namespace Go.Proofs.YtkjjjbipmobdaaaGreatDoor
open Go.RowKit

theorem fl_ret {c x y z : Int} (h : fl c = (x, y, z)) : Ending.returned (.tuple #[.int .i64 x, .int .u8 y, .int .u8 z]) = .returned (.tuple #[.int .i64 (fl c).1, .int .u8 (fl c).2.1, .int .u8 (fl c).2.2]) := by rw [h]

set_option maxHeartbeats 400000 in
theorem reflead_any (c : Int) (w : World) (h0 : 0 ≤ c) (h1 : c ≤ 255) :
    Calls Tryz.prog 136 #[.int .u8 c] w fun e w' => e = .returned (.tuple #[.int .i64 (fl c).1, .int .u8 (fl c).2.1, .int .u8 (fl c).2.2]) ∧ w = w' := by
  go_enter Tryz.func136, Tryz.ntmps136
  go_wp2
  all_goals go_ret3
  all_goals refine ⟨fl_ret ?_, rfl⟩
  all_goals try simp only [beq_iff_eq, beq_eq_false_iff_ne, ne_eq] at *
  all_goals (unfold fl; repeat (first | rw [if_pos (by omega)] | rw [if_neg (by omega)]))

/-- What a loop over the bytes behind a lead keeps. -/
structure CutAt (l : List UInt8) (n : Int) (k : Nat) (lo hi r : Int) : Prop where
  one : 1 ≤ k
  kn : (k : Int) ≤ n + 1
  kl : k ≤ l.length
  lo0 : 0 ≤ lo
  lo1 : lo ≤ 255
  hi0 : 0 ≤ hi
  hi1 : hi ≤ 255
  r0 : 0 ≤ r
  r1 : (k = 1 ∧ r < 32) ∨ (k = 2 ∧ r < 2048) ∨ (k = 3 ∧ r < 131072) ∨ (k = 4 ∧ r < 8388608)
  go : cutGo l n (5 - k) k lo hi r = cutS l

theorem CutAt.step {l : List UInt8} {n : Int} {k : Nat} {lo hi r : Int} (h : CutAt l n k lo hi r) (hn : n ≤ 3) (h0 : (k : Int) ≤ n) (h1 : ¬ ((k : Int) = l.length)) (h2 : lo ≤ bt l k) (h3 : bt l k ≤ hi) :
    CutAt l n (k + 1) 128 191 (r * 64 + bt l k % 64) := by
  have hkl := h.kl
  have hr := h.r1
  have hr0 := h.r0
  refine ⟨by omega, by omega, by omega, by omega, by omega, by omega, by omega, by omega, by omega, ?_⟩
  rw [← h.go, cutGo_step h0 (by omega) (by omega) h2 h3]
theorem CutAt.bad {l : List UInt8} {n : Int} {k : Nat} {lo hi r : Int} (h : CutAt l n k lo hi r) (hn : n ≤ 3) (h0 : (k : Int) ≤ n) (h1 : (k : Int) = l.length ∨ bt l k < lo ∨ hi < bt l k) :
    cutS l = (65533, (k : Int), false) := by
  rw [← h.go, cutGo_bad h0 (by omega) (by omega)]
theorem CutAt.out {l : List UInt8} {n : Int} {k : Nat} {lo hi r : Int} (h : CutAt l n k lo hi r) (hn : n ≤ 3) (h0 : (k : Int) ≤ n) (h1 : (k : Int) = l.length) :
    cutS l = (65533, (l.length : Int), false) := by
  rw [h.bad hn h0 (Or.inl h1), h1]
theorem CutAt.done {l : List UInt8} {n : Int} {k : Nat} {lo hi r : Int} (h : CutAt l n k lo hi r) (hn : n ≤ 3) (h0 : n < (k : Int)) :
    cutS l = (r, n + 1, true) := by
  have := h.kn
  rw [← h.go, cutGo_done h0 (by omega)]
theorem CutAt.start {l : List UInt8} {n lo hi : Int} (h0 : l ≠ []) (_hx : 128 ≤ bt l 0) (hf : fl (bt l 0) = (n, lo, hi)) (hn : 1 ≤ n) (r : Int) (hr : r = bt l 0 % (2 ^ (6 - n.toNat) : Nat)) (hr0 : 0 ≤ r) (hr1 : r < 32) : CutAt l n 1 lo hi r := by
  have hl := len_pos h0
  rcases fl_cases (bt l 0) with ⟨hf', hc⟩ | ⟨n', lo', hi', hf', c1, c2, c3, c4, c5, c6, hc⟩
  · rw [hf'] at hf; simp at hf; omega
  rw [hf'] at hf; simp at hf
  obtain ⟨rfl, rfl, rfl⟩ := hf
  refine ⟨by omega, by omega, by omega, by omega, by omega, by omega, by omega, hr0, by omega, ?_⟩
  unfold cutS
  rw [if_neg h0, if_neg (by omega), hf', if_neg (by simp only; omega), ← hr]

theorem cut_ret {l : List UInt8} {x y : Int} {z : Bool} (h : cutS l = (x, y, z)) : Ending.returned (.tuple #[.int .i32 x, .int .i64 y, .bool z]) = .returned (.tuple #[.int .i32 (cutS l).1, .int .i64 (cutS l).2.1, .bool (cutS l).2.2]) := by rw [h]
theorem next_ret {l : List UInt8} {x y : Int} {z : Bool} (h : cutS l = (x, y, z)) : Ending.returned (.tuple #[.int .i32 x, .int .i64 y]) = .returned (.tuple #[.int .i32 (cutS l).1, .int .i64 (cutS l).2.1]) := by rw [h]

theorem cutS_lo {l : List UInt8} (h : l ≠ []) (hx : bt l 0 < 128) : cutS l = (bt l 0, 1, true) := by unfold cutS; rw [if_neg h, if_pos hx]
theorem cutS_not {l : List UInt8} (h : l ≠ []) (hx : 128 ≤ bt l 0) {lo hi : Int} (hf : fl (bt l 0) = (0, lo, hi)) : cutS l = (65533, 1, false) := by unfold cutS; rw [if_neg h, if_neg (by omega), if_pos (by rw [hf])]

set_option maxRecDepth 100000 in
set_option maxHeartbeats 400000 in
theorem refnext_any (l : List UInt8) (w : World) (hs : l.length ≤ maxLen) :
    Calls Tryz.prog 105 #[.string ⟨l.toArray⟩] w fun e w' => e = .returned (.tuple #[.int .i32 (cutS l).1, .int .i64 (cutS l).2.1]) ∧ Drawn w w' := by
  unfold maxLen at hs
  by_cases h0 : l = []
  · subst h0
    go_enter Tryz.func105, Tryz.ntmps105
    go_wp2_with fail
    go_ret2
    exact ⟨rfl, Drawn.refl _⟩
  have hl := len_pos h0
  have he : l.isEmpty = false := by cases l <;> simp_all
  have hb := bt_lt l 0
  replace h0 := Lib.hid h0
  by_cases hx : bt l 0 < 128
  · go_enter Tryz.func105, Tryz.ntmps105
    go_wp2_with fail
    go_ret2
    exact ⟨next_ret (cutS_lo h0.out hx), Drawn.refl _⟩
  obtain ⟨n, lo, hi, hf⟩ : ∃ n lo hi, fl (bt l 0) = (n, lo, hi) := ⟨_, _, _, rfl⟩
  have hn : n = 0 ∨ n = 1 ∨ n = 2 ∨ n = 3 := by
    rcases fl_cases (bt l 0) with ⟨hf', hc⟩ | ⟨n', lo', hi', hf', c1, c2, c3, c4, c5, c6, hc⟩ <;> (rw [hf] at hf'; simp at hf'; omega)
  replace hf := Lib.hid hf
  obtain ⟨m, hm⟩ : ∃ m : Int, m = n := ⟨n, rfl⟩
  have hm0 : m ≤ n ∧ n ≤ m := by omega
  replace hm := Lib.hid hm
  have e1 : bits .and .i32 (bt l 0) 31 = bt l 0 % 32 := bits_mask .i32 31 (by decide) wraps_i32 5 (by decide) _ (by omega) (by omega)
  have e2 : bits .and .i32 (bt l 0) 15 = bt l 0 % 16 := bits_mask .i32 31 (by decide) wraps_i32 4 (by decide) _ (by omega) (by omega)
  have e3 : bits .and .i32 (bt l 0) 7 = bt l 0 % 8 := bits_mask .i32 31 (by decide) wraps_i32 3 (by decide) _ (by omega) (by omega)
  rcases hn with rfl | rfl | rfl | rfl
  · go_enter Tryz.func105, Tryz.ntmps105
    go_wp2_with fail
    refine (reflead_any _ _ (by omega) (by omega)).mono ?_; rintro e w' ⟨rfl, rfl⟩
    rw [hf.out]
    go_wp2_with fail
    go_ret2
    exact ⟨next_ret (cutS_not h0.out (by omega) hf.out), Drawn.refl _⟩
  all_goals
    go_enter Tryz.func105, Tryz.ntmps105
    go_wp2_with fail
    refine (reflead_any _ _ (by omega) (by omega)).mono ?_; rintro e w' ⟨rfl, rfl⟩
    rw [hf.out]
    go_wp2_with fail
  all_goals clear e1 e2 e3
  all_goals
    go_loop [5, 6, 7, 8] (fun s6 s7 r i => ∃ k : Nat, ∃ lo hi rr : Int, CutAt l m k lo hi rr ∧ i = .int .i64 k ∧ s6 = .int .u8 lo ∧ s7 = .int .u8 hi ∧ r = .int .i32 rr) (fun _ _ _ i => 4 - (intOf i).toNat)
    case atStart =>
      refine ⟨1, lo, hi, _, ?_, rfl, rfl, rfl, rfl⟩
      rw [hm.out]
      exact CutAt.start h0.out (by omega) hf.out (by omega) _ rfl (by omega) (by first | omega | (simp; omega))
    case round =>
      obtain ⟨k, lo, hi, rr, hc, rfl, rfl, rfl, rfl⟩ := hrel
      have hbk := bt_lt l k
      obtain ⟨q1, q2, q3, q4, q5, q6, q7, q8, q9, q10⟩ := id hc
      clear q10
      go_wp2
      all_goals rw [hm.out] at hc
      case roundEnd =>
        exact ⟨⟨k + 1, 128, 191, _, hm.out ▸ hc.step (by omega) (by assumption) (by assumption) (by assumption) (by omega), by go_num, rfl, rfl, rfl⟩, by simp [intOf]; omega⟩
      all_goals go_ret2
      all_goals try simp only [beq_iff_eq] at *
      all_goals first
        | exact ⟨next_ret (hc.done (by omega) (by omega)), Drawn.refl _⟩
        | exact ⟨next_ret (hc.bad (by omega) (by omega) (by omega)), Drawn.refl _⟩
        | exact ⟨next_ret (hc.out (by omega) (by omega) (by omega)), Drawn.refl _⟩
end Go.Proofs.YtkjjjbipmobdaaaGreatDoor

/- The reference of layer 11: good, Tokens. -/
namespace Go.Proofs.YtkjjjbipmobdaaaGreatDoor
open Go.RowKit

theorem go_step {l : List UInt8} {k : Nat} (hk : k < l.length) : l.drop k ≠ [] := by intro e; rw [List.drop_eq_nil_iff] at e; omega

set_option maxHeartbeats 1000000 in
theorem rgood_any (l : List UInt8) (w : World) (hl : l.length ≤ 100000) :
    Calls Tryz.prog 65 #[.string ⟨l.toArray⟩] w fun e w' => e = .returned (.int .i64 (goodN l)) ∧ Drawn w w' := by
  go_enter Tryz.func65, Tryz.ntmps65
  go_wp2_with fail
  go_loopw [3] (fun i wr => ∃ k : Nat, i = .int .i64 k ∧ k ≤ l.length ∧ Hid (GoAt l k) ∧ Drawn w wr) (fun i _ => l.length - (intOf i).toNat)
  case atStart => exact ⟨0, rfl, Nat.zero_le _, GoAt.zero _, Drawn.refl _⟩
  case round =>
    obtain ⟨k, rfl, hk, hq, n0, rfl⟩ := hrel
    by_cases hlt : k < l.length
    · have hlt1 : (k : Int) < l.length := by omega
      have htl : l.take l.length = l := List.take_length
      have hd0 := go_step hlt
      have hnx := fun W : World => refnext_any (l.drop k) W (by rw [List.length_drop]; unfold maxLen; omega)
      have hbd := cutN_bd (l.drop k) hd0
      rw [List.length_drop] at hbd
      obtain ⟨b1, b2, b3, b4⟩ := hbd
      have hF := show goodF () (l.drop k) = _ from by unfold goodF; rw [if_neg hd0]
      have hstep := fun n (e : goodF () (l.drop k) = .go () n) => hq.out.step e
      have hbad := hq.out.bad
      obtain ⟨n, hn⟩ : ∃ n, cutN (l.drop k) = n := ⟨_, rfl⟩
      obtain ⟨r, hr⟩ : ∃ r, (cutS (l.drop k)).1 = r := ⟨_, rfl⟩
      rw [hn] at b1 b2 b3 b4 hF
      rw [hr] at hF
      simp only [hr, b4] at hnx
      have hsub : (l.take (k + n)).drop k = (l.drop k).take n := by rw [List.drop_take]; congr 1; omega
      have hch := fun W : World => refchar_any r W
      replace hnx := Lib.hid hnx
      replace hbad := Lib.hid hbad
      replace hstep := Lib.hid hstep
      replace hr := Lib.hid hr
      replace hn := Lib.hid hn
      replace hd0 := Lib.hid hd0
      replace hF := Lib.hid hF
      have hkn : (k : Int) ≤ (k : Int) + n := by omega
      have hkn2 : (k : Int) + n ≤ l.length := by omega
      have hkn3 : k + n ≤ l.length := by omega
      cases hc : charB r
      case false =>
        replace hF := Lib.hid (hF.out.trans (if_pos hc))
        have hP := Lib.hid (hbad.out hF.out)
        rw [hc] at hch
        replace hch := Lib.hid hch
        replace hc := Lib.hid hc
        go_wp2_with fail
        refine (hnx.out _).mono ?_; rintro e w1 ⟨rfl, n1, rfl⟩
        go_wp2_with fail
        refine (hch.out _).mono ?_; rintro e w2 ⟨rfl, rfl⟩
        go_wp2_with fail
        go_ret
        exact ⟨by rw [hP.out]; rfl, ⟨n0 + n1, by simp⟩⟩
      case true =>
        replace hF := Lib.hid (hF.out.trans (if_neg (by rw [hc]; decide)))
        rw [hc] at hch
        replace hch := Lib.hid hch
        replace hc := Lib.hid hc
        by_cases h3 : r = 65533 ∧ (l.drop k).take n ≠ [239, 191, 189]
        · replace hF := Lib.hid (hF.out.trans (if_pos h3))
          have hP := Lib.hid (hbad.out hF.out)
          obtain ⟨rfl, h4⟩ := h3
          have h4' : ((l.drop k).take n == [239, 191, 189]) = false := by rw [beq_eq_false_iff_ne]; exact h4
          rw [← hsub] at h4'
          replace h4 := Lib.hid h4
          replace hsub := Lib.hid hsub
          go_wp2_with fail
          refine (hnx.out _).mono ?_; rintro e w1 ⟨rfl, n1, rfl⟩
          go_wp2_with fail
          refine (hch.out _).mono ?_; rintro e w2 ⟨rfl, rfl⟩
          go_wp2_with fail
          go_ret
          exact ⟨by rw [hP.out]; rfl, ⟨n0 + n1, by simp⟩⟩
        · replace hF := Lib.hid (hF.out.trans (if_neg h3))
          have hnew := Lib.hid (hstep.out n hF.out)
          by_cases h5 : r = 65533
          · have h4 : (l.drop k).take n = [239, 191, 189] := by
              by_cases e : (l.drop k).take n = [239, 191, 189]
              · exact e
              · exact absurd ⟨h5, e⟩ h3
            have h4' : ((l.drop k).take n == [239, 191, 189]) = true := by rw [beq_iff_eq]; exact h4
            rw [← hsub] at h4'
            subst h5
            replace h4 := Lib.hid h4
            replace h3 := Lib.hid h3
            replace hsub := Lib.hid hsub
            go_wp2_with fail
            refine (hnx.out _).mono ?_; rintro e w1 ⟨rfl, n1, rfl⟩
            go_wp2_with fail
            refine (hch.out _).mono ?_; rintro e w2 ⟨rfl, rfl⟩
            go_wp2_with fail
            exact ⟨⟨k + n, by go_num, by omega, hnew, ⟨n0 + n1, by simp⟩⟩, by simp [intOf]; omega⟩
          · have h5' : (r == 65533) = false := by rw [beq_eq_false_iff_ne]; exact h5
            replace h3 := Lib.hid h3
            replace h5 := Lib.hid h5
            go_wp2_with fail
            refine (hnx.out _).mono ?_; rintro e w1 ⟨rfl, n1, rfl⟩
            go_wp2_with fail
            refine (hch.out _).mono ?_; rintro e w2 ⟨rfl, rfl⟩
            go_wp2_with fail
            exact ⟨⟨k + n, by go_num, by omega, hnew, ⟨n0 + n1, by simp⟩⟩, by simp [intOf]; omega⟩
    · have hP : Hid (goodN l = k) := hq.out.stop (by omega)
      have hlt1 : ¬ ((k : Int) < l.length) := by omega
      go_wp2_with fail
      go_ret
      exact ⟨by rw [hP.out]; rfl, ⟨n0, rfl⟩⟩
end Go.Proofs.YtkjjjbipmobdaaaGreatDoor
