/- Layer 13: a reader: number, part, day, year, hours, seconds, offset. -/
import Derived.Test.YtjkppdjgacnfbaaDoorD13e
namespace Go.Proofs.YtjkppdjgacnfbaaDoor
open Go.RowKit

theorem trim_len (l p : List UInt8) : (Lib.trimPrefix l p).length ≤ l.length := by
  unfold Lib.trimPrefix
  split <;> simp
theorem skipC_len (s : RSt) (p : List UInt8) : (skipC s p).2.1.length ≤ s.1.length := trim_len _ _
theorem signC_len (s : RSt) (p : List UInt8) : (signC s p).1.length ≤ s.1.length := trim_len _ _
theorem numC_len (k : Nat) (s : RSt) : (numC k s).2.1.length ≤ s.1.length := by unfold numC; split <;> simp
theorem digitsC_len (s : RSt) : (digitsC s).1.length ≤ s.1.length := by unfold digitsC; simp
theorem partC_len (m : Nat) (s : RSt) : (partC m s).2.1.length ≤ s.1.length := by unfold partC; split <;> exact numC_len _ _
theorem hoursC_len (p : List UInt8) (s : RSt) : (hoursC p s).2.1.length ≤ s.1.length := Nat.le_trans (partC_len _ _) (Nat.le_trans (signC_len _ _) (partC_len _ _))
theorem secondsC_len (s : RSt) : (secondsC s).2.1.length ≤ s.1.length := Nat.le_trans (partC_len _ _) (signC_len _ _)
theorem dayC_len (s : RSt) : (dayC s).2.1.length ≤ s.1.length := by unfold dayC; split <;> exact numC_len _ _
theorem yearC_len (s : RSt) : (yearC s).2.1.length ≤ s.1.length := by unfold yearC; split <;> exact numC_len _ _
theorem offsetC_len (p : List UInt8) (s : RSt) : (offsetC p s).2.1.length ≤ s.1.length := by
  unfold offsetC
  split
  · exact Nat.le_trans (hoursC_len _ _) (skipC_len _ _)
  · exact Nat.le_trans (hoursC_len _ _) (Nat.le_trans (signC_len _ _) (skipC_len _ _))

set_option maxHeartbeats 400000 in
theorem number13_any (R : Nat) (n : Nat) (s : RSt) (w : World) (h : RdC w R s) (hl : s.1.length ≤ 1000000) (hn : n ≤ 4) :
    Calls Tryd.prog 45 #[.pointer (some ⟨R, 0, none⟩), .int .i64 n] w (RPost w R (numC n s).2 (.int .i64 ((numC n s).1 : Nat))) := by
  have ha := ahead13_any R s w h hl
  have hle := aheadL_le s.1
  have c0 := h.c0
  have f0 := h.fz 0
  have f1 := h.fz 1
  have c1 := h.c1
  unfold numC
  by_cases hk : aheadL s.1 < n
  · rw [if_pos hk]
    have hb := Lib.hid (h.bad true)
    have hk1 : (aheadL s.1 : Int) < n := by omega
    replace h := Lib.hid h
    generalize aheadL s.1 = A at *
    go_enter Tryd.func45, Tryd.ntmps45
    go_wp2_with fail
    refine ha.mono ?_; rintro e w1 ⟨rfl, rfl⟩
    go_wp2_with fail
    go_ret
    exact ⟨rfl, hb.out, turn_rest _ _ _ _⟩
  · rw [if_neg hk]
    have hr := Lib.hid (h.rest (s.1.drop n))
    have hdg := Lib.hid (fun k (hkn : k < n) => aheadL_dg (l := s.1) (k := k) (by omega))
    have hbd := Lib.hid (fun k (hkn : k ≤ n) => valN_bd (l := s.1) (k := k) (by omega))
    have hk1 : ¬ ((aheadL s.1 : Int) < n) := by omega
    have hnl : n ≤ s.1.length := by omega
    replace h := Lib.hid h
    generalize aheadL s.1 = A at *
    have hA := Lib.hid hk
    clear hk hle
    generalize s.1 = l at *
    generalize s.2 = bad at *
    go_enter Tryd.func45, Tryd.ntmps45
    go_wp2_with fail
    refine ha.mono ?_; rintro e w1 ⟨rfl, rfl⟩
    go_wp2_with fail
    clear ha
    go_loopw [5, 15] (fun z i wr => ∃ k x : Nat, k ≤ n ∧ x ≤ 9999 ∧ z = .int .i64 x ∧ i = .int .i64 k ∧ Hid (x = valN 0 (l.take k)) ∧ Hid (w = wr)) (fun _ i _ => n - (intOf i).toNat)
    case atStart => exact ⟨0, 0, Nat.zero_le _, by omega, rfl, rfl, by rw [List.take_zero]; rfl, rfl⟩
    case round =>
      obtain ⟨k, x, hkn, hx, rfl, rfl, he, hwr⟩ := hrel
      have c0 : wr.cell? ⟨R, 0, none⟩ = some (.string ⟨l.toArray⟩) := by rw [← hwr.out]; exact c0
      have f0 : wr.frozen? ⟨R, 0, none⟩ = false := by rw [← hwr.out]; exact f0
      by_cases hlt : k < n
      · have hd := hdg.out k hlt
        have hkl : k < l.length := by omega
        have hkl1 : (k : Int) < l.length := by omega
        have hv := valN_next hkl hd.1
        have hb1 := hbd.out k (by omega)
        have hb2 : valN 0 (l.take (k + 1)) ≤ 9999 := by
          have h3 := hbd.out (k + 1) (by omega)
          have h4 : 10 ^ (k + 1) ≤ 10 ^ 4 := Nat.pow_le_pow_right (by decide) (by omega)
          generalize valN 0 (l.take (k + 1)) = a at *
          generalize 10 ^ (k + 1) = b at *
          omega
        obtain ⟨d1, d2⟩ := hd
        rw [← he.out] at hv
        have hx2 := Lib.hid (show ((valN 0 (l.take (k + 1)) : Nat) : Int) = (x : Int) * 10 + (bt l k - 48) from hv)
        clear hb1 hv
        have hlt1 : (k : Int) < n := by omega
        go_wp2_with fail
        exact ⟨⟨k + 1, valN 0 (l.take (k + 1)), by omega, hb2, vi64 (by rw [hx2.out]), vi64 (by omega), rfl, hwr⟩, by simp [intOf]; omega⟩
      · have hlt1 : ¬ ((k : Int) < n) := by omega
        have he2 := Lib.hid (show x = valN 0 (l.take n) by rw [he.out, show k = n by omega])
        obtain rfl := hwr.out
        go_wp2_with fail
        go_ret
        exact RPost.mk2 (vi64 (by rw [he2.out])) rfl hr.out (turn_rest _ _ _ _)

theorem part13_any (R : Nat) (m : Nat) (s : RSt) (w : World) (h : RdC w R s) (hl : s.1.length ≤ 1000000) (_hm : m ≤ 100) :
    Calls Tryd.prog 56 #[.pointer (some ⟨R, 0, none⟩), .int .i64 m] w (RPost w R (partC m s).2 (.int .i64 ((partC m s).1 : Nat))) := by
  have hc := number13_any R 2 s w h hl (by omega)
  unfold partC
  have hbd := numC_bd 2 s
  generalize numC 2 s = q at *
  obtain ⟨x, s1⟩ := q
  simp only at hc hbd ⊢
  replace h := Lib.hid h
  by_cases hx : m < x
  · rw [if_pos hx]
    have hx1 : (m : Int) < x := by omega
    go_enter Tryd.func56, Tryd.ntmps56
    go_wp2_with fail
    refine hc.mono ?_; rintro e w1 ⟨rfl, h1, ht⟩
    have c1 := h1.c1
    have f1 := h1.fz 1
    replace h1 := Lib.hid h1
    replace ht := Lib.hid ht
    go_wp2_with fail
    go_ret
    exact ⟨rfl, h1.out.bad true, turn_then ht.out (turn_rest _ _ _ _)⟩
  · rw [if_neg hx]
    have hx1 : ¬ ((m : Int) < x) := by omega
    go_enter Tryd.func56, Tryd.ntmps56
    go_wp2_with fail
    refine hc.mono ?_; rintro e w1 ⟨rfl, h1, ht⟩
    replace h1 := Lib.hid h1
    replace ht := Lib.hid ht
    go_wp2_with fail
    go_ret
    exact ⟨rfl, h1.out, ht.out⟩

theorem day13_any (R : Nat) (s : RSt) (w : World) (h : RdC w R s) (hl : s.1.length ≤ 1000000) :
    Calls Tryd.prog 29 #[.pointer (some ⟨R, 0, none⟩)] w (RPost w R (dayC s).2 (.int .i64 ((dayC s).1 : Nat))) := by
  have ha := ahead13_any R s w h hl
  unfold dayC
  by_cases h1 : aheadL s.1 = 1
  · have hc := number13_any R 1 s w h hl (by omega)
    rw [if_pos h1]
    rw [h1] at ha
    generalize numC 1 s = q at *
    obtain ⟨x, s1⟩ := q
    simp only at hc ⊢
    replace h := Lib.hid h
    clear h1
    go_enter Tryd.func29, Tryd.ntmps29
    go_wp2_with fail
    refine ha.mono ?_; rintro e w1 ⟨rfl, rfl⟩
    go_wp2_with fail
    refine hc.mono ?_; rintro e w1 ⟨rfl, h1, ht⟩
    replace h1 := Lib.hid h1
    replace ht := Lib.hid ht
    go_wp2_with fail
    go_ret
    exact ⟨rfl, h1.out, ht.out⟩
  · have hc := number13_any R 2 s w h hl (by omega)
    rw [if_neg h1]
    have j0 : ((aheadL s.1 : Int) == 1) = false := by rw [beq_eq_false_iff_ne]; omega
    have j1 : (aheadL s.1 == 1) = false := by rw [beq_eq_false_iff_ne]; exact h1
    generalize aheadL s.1 = A at *
    generalize numC 2 s = q at *
    obtain ⟨x, s1⟩ := q
    simp only at hc ⊢
    replace h := Lib.hid h
    clear h1
    go_enter Tryd.func29, Tryd.ntmps29
    go_wp2_with fail
    refine ha.mono ?_; rintro e w1 ⟨rfl, rfl⟩
    go_wp2_with fail
    refine hc.mono ?_; rintro e w1 ⟨rfl, h1, ht⟩
    replace h1 := Lib.hid h1
    replace ht := Lib.hid ht
    go_wp2_with fail
    go_ret
    exact ⟨rfl, h1.out, ht.out⟩

theorem year13_any (R : Nat) (s : RSt) (w : World) (h : RdC w R s) (hl : s.1.length ≤ 1000000) :
    Calls Tryd.prog 32 #[.pointer (some ⟨R, 0, none⟩)] w (RPost w R (yearC s).2 (.int .i64 ((yearC s).1 : Nat))) := by
  have ha := ahead13_any R s w h hl
  unfold yearC
  by_cases h1 : aheadL s.1 = 2
  · have hc := number13_any R 2 s w h hl (by omega)
    have hbd := numC_bd 2 s
    rw [if_pos h1]
    rw [h1] at ha
    generalize numC 2 s = q at *
    obtain ⟨x, s1⟩ := q
    simp only at hc hbd ⊢
    replace h := Lib.hid h
    clear h1
    by_cases hx : x < 50
    · rw [if_pos hx]
      have hx1 : (x : Int) < 50 := by omega
      go_enter Tryd.func32, Tryd.ntmps32
      go_wp2_with fail
      refine ha.mono ?_; rintro e w1 ⟨rfl, rfl⟩
      go_wp2_with fail
      refine hc.mono ?_; rintro e w1 ⟨rfl, h1, ht⟩
      replace h1 := Lib.hid h1
      replace ht := Lib.hid ht
      go_wp2_with fail
      go_ret
      exact RPost.mk2 (vi64 (by omega)) rfl h1.out ht.out
    · rw [if_neg hx]
      have hx1 : ¬ ((x : Int) < 50) := by omega
      go_enter Tryd.func32, Tryd.ntmps32
      go_wp2_with fail
      refine ha.mono ?_; rintro e w1 ⟨rfl, rfl⟩
      go_wp2_with fail
      refine hc.mono ?_; rintro e w1 ⟨rfl, h1, ht⟩
      replace h1 := Lib.hid h1
      replace ht := Lib.hid ht
      go_wp2_with fail
      go_ret
      exact RPost.mk2 (vi64 (by omega)) rfl h1.out ht.out
  · have hc := number13_any R 4 s w h hl (by omega)
    rw [if_neg h1]
    have j0 : ((aheadL s.1 : Int) != 2) = true := by rw [bne_iff_ne]; omega
    have j1 : (aheadL s.1 != 2) = true := by rw [bne_iff_ne]; exact h1
    generalize aheadL s.1 = A at *
    generalize numC 4 s = q at *
    obtain ⟨x, s1⟩ := q
    simp only at hc ⊢
    replace h := Lib.hid h
    clear h1
    go_enter Tryd.func32, Tryd.ntmps32
    go_wp2_with fail
    refine ha.mono ?_; rintro e w1 ⟨rfl, rfl⟩
    go_wp2_with fail
    refine hc.mono ?_; rintro e w1 ⟨rfl, h1, ht⟩
    replace h1 := Lib.hid h1
    replace ht := Lib.hid ht
    go_wp2_with fail
    go_ret
    exact ⟨rfl, h1.out, ht.out⟩

theorem hours13_any (R : Nat) (p : List UInt8) (s : RSt) (w : World) (h : RdC w R s) (hl : s.1.length ≤ 1000000) :
    Calls Tryd.prog 33 #[.pointer (some ⟨R, 0, none⟩), .string ⟨p.toArray⟩] w (RPost w R (hoursC p s).2 (.int .i64 ((hoursC p s).1 : Nat))) := by
  have hc := part13_any R 23 s w h hl (by omega)
  have hb := partC_bd 23 s
  have hl1 := Nat.le_trans (partC_len 23 s) hl
  unfold hoursC
  generalize partC 23 s = q at *
  obtain ⟨x, s1⟩ := q
  simp only at hc hb hl1 ⊢
  have hl2 := Nat.le_trans (signC_len s1 p) hl1
  have hcs := Lib.hid (fun W (hW : RdC W R s1) => sign13_any R s1 p W hW)
  have hcp := Lib.hid (fun W (hW : RdC W R (signC s1 p)) => part13_any R 59 (signC s1 p) W hW hl2 (by omega))
  have hb2 := partC_bd 59 (signC s1 p)
  generalize partC 59 (signC s1 p) = q2 at *
  obtain ⟨y, s3⟩ := q2
  simp only at hcp hb2 ⊢
  generalize signC s1 p = s2 at *
  replace h := Lib.hid h
  go_enter Tryd.func33, Tryd.ntmps33
  go_wp2_with fail
  refine hc.mono ?_; rintro e w1 ⟨rfl, h1, ht⟩
  replace h1 := Lib.hid h1
  replace ht := Lib.hid ht
  go_wp2_with fail
  refine (hcs.out _ h1.out).mono ?_; rintro e w2 ⟨rfl, h2, ht2⟩
  replace ht := Lib.hid (turn_then ht.out ht2)
  replace h2 := Lib.hid h2
  clear ht2 h1
  go_wp2_with fail
  refine (hcp.out _ h2.out).mono ?_; rintro e w3 ⟨rfl, h3, ht3⟩
  replace ht := Lib.hid (turn_then ht.out ht3)
  replace h3 := Lib.hid h3
  clear ht3 h2
  go_wp2_with fail
  go_ret
  exact RPost.mk2 (vi64 (by omega)) rfl h3.out ht.out

theorem seconds13_any (R : Nat) (s : RSt) (w : World) (h : RdC w R s) (hl : s.1.length ≤ 1000000) :
    Calls Tryd.prog 35 #[.pointer (some ⟨R, 0, none⟩)] w (RPost w R (secondsC s).2 (.int .i64 ((secondsC s).1 : Nat))) := by
  have hc := sign13_any R s [58] w h
  have hl2 := Nat.le_trans (signC_len s [58]) hl
  unfold secondsC
  have hcp := Lib.hid (fun W (hW : RdC W R (signC s [58])) => part13_any R 59 (signC s [58]) W hW hl2 (by omega))
  generalize partC 59 (signC s [58]) = q2 at *
  obtain ⟨y, s3⟩ := q2
  simp only at hcp ⊢
  generalize signC s [58] = s2 at *
  replace h := Lib.hid h
  go_enter Tryd.func35, Tryd.ntmps35
  go_wp2_with fail
  refine hc.mono ?_; rintro e w1 ⟨rfl, h1, ht⟩
  replace h1 := Lib.hid h1
  replace ht := Lib.hid ht
  go_wp2_with fail
  refine (hcp.out _ h1.out).mono ?_; rintro e w3 ⟨rfl, h3, ht3⟩
  replace ht := Lib.hid (turn_then ht.out ht3)
  replace h3 := Lib.hid h3
  clear ht3 h1
  go_wp2_with fail
  go_ret
  exact ⟨rfl, h3.out, ht.out⟩

theorem offset13_any (R : Nat) (p : List UInt8) (s : RSt) (w : World) (h : RdC w R s) (hl : s.1.length ≤ 1000000) :
    Calls Tryd.prog 47 #[.pointer (some ⟨R, 0, none⟩), .string ⟨p.toArray⟩] w (RPost w R (offsetC p s).2 (.int .i64 (offsetC p s).1)) := by
  have hc := skip13_any R s [45] w h
  have hl1 := Nat.le_trans (skipC_len s [45]) hl
  unfold offsetC
  generalize skipC s [45] = q at *
  obtain ⟨b, s1⟩ := q
  simp only at hc hl1 ⊢
  replace h := Lib.hid h
  cases b
  · have hl2 := Nat.le_trans (signC_len s1 [43]) hl1
    have hcs := Lib.hid (fun W (hW : RdC W R s1) => sign13_any R s1 [43] W hW)
    have hcp := Lib.hid (fun W (hW : RdC W R (signC s1 [43])) => hours13_any R p (signC s1 [43]) W hW hl2)
    simp only [Bool.false_eq_true, if_false]
    generalize hoursC p (signC s1 [43]) = q2 at *
    obtain ⟨y, s3⟩ := q2
    simp only at hcp ⊢
    generalize signC s1 [43] = s2 at *
    go_enter Tryd.func47, Tryd.ntmps47
    go_wp2_with fail
    refine hc.mono ?_; rintro e w1 ⟨rfl, h1, ht⟩
    replace h1 := Lib.hid h1
    replace ht := Lib.hid ht
    go_wp2_with fail
    refine (hcs.out _ h1.out).mono ?_; rintro e w2 ⟨rfl, h2, ht2⟩
    replace ht := Lib.hid (turn_then ht.out ht2)
    replace h2 := Lib.hid h2
    clear ht2 h1
    go_wp2_with fail
    refine (hcp.out _ h2.out).mono ?_; rintro e w3 ⟨rfl, h3, ht3⟩
    replace ht := Lib.hid (turn_then ht.out ht3)
    replace h3 := Lib.hid h3
    clear ht3 h2
    go_wp2_with fail
    go_ret
    exact ⟨rfl, h3.out, ht.out⟩
  · have hcp := Lib.hid (fun W (hW : RdC W R s1) => hours13_any R p s1 W hW hl1)
    have hb := hoursC_bd p s1
    simp only [if_true]
    generalize hoursC p s1 = q2 at *
    obtain ⟨y, s3⟩ := q2
    simp only at hcp hb ⊢
    go_enter Tryd.func47, Tryd.ntmps47
    go_wp2_with fail
    refine hc.mono ?_; rintro e w1 ⟨rfl, h1, ht⟩
    replace h1 := Lib.hid h1
    replace ht := Lib.hid ht
    go_wp2_with fail
    refine (hcp.out _ h1.out).mono ?_; rintro e w3 ⟨rfl, h3, ht3⟩
    replace ht := Lib.hid (turn_then ht.out ht3)
    replace h3 := Lib.hid h3
    clear ht3 h1
    go_wp2_with fail
    go_ret
    exact ⟨rfl, h3.out, ht.out⟩
end Go.Proofs.YtjkppdjgacnfbaaDoor
