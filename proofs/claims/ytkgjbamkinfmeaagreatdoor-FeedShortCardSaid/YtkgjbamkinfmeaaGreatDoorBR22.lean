/- Layer 13: a reader: number, part, day, year, hours, seconds, offset. -/
import Derived.Test.YtkgjbamkinfmeaaGreatDoorBR21
import Derived.Lib.ItoaMem
import Derived.WalkSmall
import Derived.Test.YtkgjbamkinfmeaaGreatDoorBR02
namespace Go.Proofs.YtkgjbamkinfmeaaGreatDoor
open Go.RowKit

theorem trim_len (l p : List UInt8) : (Lib.trimPrefix l p).length ≤ l.length := by
  unfold Lib.trimPrefix
  split <;> simp
theorem skipC_len (s : RSt) (p : List UInt8) : (skipC s p).2.1.length ≤ s.1.length := trim_len _ _
theorem signC_len (s : RSt) (p : List UInt8) : (signC s p).1.length ≤ s.1.length := trim_len _ _
theorem numC_len (k : Nat) (s : RSt) : (numD k s).2.1.length ≤ s.1.length := by unfold numD; split <;> simp
theorem digitsC_len (s : RSt) : (digitsC s).1.length ≤ s.1.length := by unfold digitsC; simp
theorem partC_len (m : Nat) (s : RSt) : (partC m s).2.1.length ≤ s.1.length := by unfold partC; split <;> exact numC_len _ _
theorem hoursC_len (p : List UInt8) (s : RSt) : (hoursC p s).2.1.length ≤ s.1.length := Nat.le_trans (partC_len _ _) (Nat.le_trans (signC_len _ _) (partC_len _ _))
theorem secondsC_len (s : RSt) : (secondsC s).2.1.length ≤ s.1.length := Nat.le_trans (partC_len _ _) (signC_len _ _)
theorem dayC_len (s : RSt) : (dayC s).2.1.length ≤ s.1.length := by unfold dayC; split <;> exact numC_len _ _
theorem yearC_len (s : RSt) : (yearC s).2.1.length ≤ s.1.length := by unfold yearC; split <;> exact numC_len _ _
theorem offsetC_len (p : List UInt8) (s : RSt) : (offsetC p s).2.1.length ≤ s.1.length := by
  unfold offsetC
  split
  · exact Nat.le_trans (hoursC_len _ _) (skipC_len _ _)
  · exact Nat.le_trans (hoursC_len _ _) (Nat.le_trans (signC_len _ _) (skipC_len _ _))

set_option maxHeartbeats 400000 in
theorem number13_any (R : Nat) (n : Nat) (s : RSt) (w : World) (h : RdC w R s) (hl : s.1.length ≤ 100000000) (hn : n ≤ 4) :
    Calls Tryz.prog 130 #[.pointer (some ⟨R, 0, none⟩), .int .i64 n] w (RPost w R (numD n s).2 (.int .i64 ((numD n s).1 : Nat))) := by
  have ha := ahead13_any R s w h hl
  have hle := aheadL_le s.1
  have c0 := h.c0
  have f0 := h.fz 0
  have f1 := h.fz 1
  have c1 := h.c1
  unfold numD
  by_cases hk : aheadL s.1 < n
  · rw [if_pos hk]
    have hb := Lib.hid (h.bad true)
    have hk1 : (aheadL s.1 : Int) < n := by omega
    replace h := Lib.hid h
    generalize aheadL s.1 = A at *
    go_enter Tryz.func130, Tryz.ntmps130
    go_wp2_with fail
    refine ha.mono ?_; rintro e w1 ⟨rfl, rfl⟩
    go_wp2_with fail
    go_ret
    exact ⟨rfl, hb.out, turn_rest _ _ _ _⟩
  · rw [if_neg hk]
    have hr := Lib.hid (h.rest (s.1.drop n))
    have hdg := Lib.hid (fun k (hkn : k < n) => aheadL_dg (l := s.1) (k := k) (by omega))
    have hbd := Lib.hid (fun k (hkn : k ≤ n) => valN_bd (l := s.1) (k := k) (by omega))
    have hk1 : ¬ ((aheadL s.1 : Int) < n) := by omega
    have hnl : n ≤ s.1.length := by omega
    replace h := Lib.hid h
    generalize aheadL s.1 = A at *
    have hA := Lib.hid hk
    clear hk hle
    generalize s.1 = l at *
    generalize s.2 = bad at *
    go_enter Tryz.func130, Tryz.ntmps130
    go_wp2_with fail
    refine ha.mono ?_; rintro e w1 ⟨rfl, rfl⟩
    go_wp2_with fail
    clear ha
    go_loopw [5, 15] (fun z i wr => ∃ k x : Nat, k ≤ n ∧ x ≤ 9999 ∧ z = .int .i64 x ∧ i = .int .i64 k ∧ Hid (x = valN 0 (l.take k)) ∧ Hid (w = wr)) (fun _ i _ => n - (intOf i).toNat)
    case atStart => exact ⟨0, 0, Nat.zero_le _, by omega, rfl, rfl, by rw [List.take_zero]; rfl, rfl⟩
    case round =>
      obtain ⟨k, x, hkn, hx, rfl, rfl, he, hwr⟩ := hrel
      have c0 : wr.cell? ⟨R, 0, none⟩ = some (.string ⟨l.toArray⟩) := by rw [← hwr.out]; exact c0
      have f0 : wr.frozen? ⟨R, 0, none⟩ = false := by rw [← hwr.out]; exact f0
      by_cases hlt : k < n
      · have hd := hdg.out k hlt
        have hkl : k < l.length := by omega
        have hkl1 : (k : Int) < l.length := by omega
        have hv := valN_next hkl hd.1
        have hb1 := hbd.out k (by omega)
        have hb2 : valN 0 (l.take (k + 1)) ≤ 9999 := by
          have h3 := hbd.out (k + 1) (by omega)
          have h4 : 10 ^ (k + 1) ≤ 10 ^ 4 := Nat.pow_le_pow_right (by decide) (by omega)
          generalize valN 0 (l.take (k + 1)) = a at *
          generalize 10 ^ (k + 1) = b at *
          omega
        obtain ⟨d1, d2⟩ := hd
        rw [← he.out] at hv
        have hx2 := Lib.hid (show ((valN 0 (l.take (k + 1)) : Nat) : Int) = (x : Int) * 10 + (bt l k - 48) from hv)
        clear hb1 hv
        have hlt1 : (k : Int) < n := by omega
        go_wp2_with fail
        exact ⟨⟨k + 1, valN 0 (l.take (k + 1)), by omega, hb2, vi64 (by rw [hx2.out]), vi64 (by omega), rfl, hwr⟩, by simp [intOf]; omega⟩
      · have hlt1 : ¬ ((k : Int) < n) := by omega
        have he2 := Lib.hid (show x = valN 0 (l.take n) by rw [he.out, show k = n by omega])
        obtain rfl := hwr.out
        go_wp2_with fail
        go_ret
        exact RPost.mk2 (vi64 (by rw [he2.out])) rfl hr.out (turn_rest _ _ _ _)

theorem part13_any (R : Nat) (m : Nat) (s : RSt) (w : World) (h : RdC w R s) (hl : s.1.length ≤ 100000000) (_hm : m ≤ 100) :
    Calls Tryz.prog 170 #[.pointer (some ⟨R, 0, none⟩), .int .i64 m] w (RPost w R (partC m s).2 (.int .i64 ((partC m s).1 : Nat))) := by
  have hc := number13_any R 2 s w h hl (by omega)
  unfold partC
  have hbd := numC_bd 2 s
  generalize numD 2 s = q at *
  obtain ⟨x, s1⟩ := q
  simp only at hc hbd ⊢
  replace h := Lib.hid h
  by_cases hx : m < x
  · rw [if_pos hx]
    have hx1 : (m : Int) < x := by omega
    go_enter Tryz.func170, Tryz.ntmps170
    go_wp2_with fail
    refine hc.mono ?_; rintro e w1 ⟨rfl, h1, ht⟩
    have c1 := h1.c1
    have f1 := h1.fz 1
    replace h1 := Lib.hid h1
    replace ht := Lib.hid ht
    go_wp2_with fail
    go_ret
    exact ⟨rfl, h1.out.bad true, turn_then ht.out (turn_rest _ _ _ _)⟩
  · rw [if_neg hx]
    have hx1 : ¬ ((m : Int) < x) := by omega
    go_enter Tryz.func170, Tryz.ntmps170
    go_wp2_with fail
    refine hc.mono ?_; rintro e w1 ⟨rfl, h1, ht⟩
    replace h1 := Lib.hid h1
    replace ht := Lib.hid ht
    go_wp2_with fail
    go_ret
    exact ⟨rfl, h1.out, ht.out⟩

theorem day13_any (R : Nat) (s : RSt) (w : World) (h : RdC w R s) (hl : s.1.length ≤ 100000000) :
    Calls Tryz.prog 140 #[.pointer (some ⟨R, 0, none⟩)] w (RPost w R (dayC s).2 (.int .i64 ((dayC s).1 : Nat))) := by
  have ha := ahead13_any R s w h hl
  unfold dayC
  by_cases h1 : aheadL s.1 = 1
  · have hc := number13_any R 1 s w h hl (by omega)
    rw [if_pos h1]
    rw [h1] at ha
    generalize numD 1 s = q at *
    obtain ⟨x, s1⟩ := q
    simp only at hc ⊢
    replace h := Lib.hid h
    clear h1
    go_enter Tryz.func140, Tryz.ntmps140
    go_wp2_with fail
    refine ha.mono ?_; rintro e w1 ⟨rfl, rfl⟩
    go_wp2_with fail
    refine hc.mono ?_; rintro e w1 ⟨rfl, h1, ht⟩
    replace h1 := Lib.hid h1
    replace ht := Lib.hid ht
    go_wp2_with fail
    go_ret
    exact ⟨rfl, h1.out, ht.out⟩
  · have hc := number13_any R 2 s w h hl (by omega)
    rw [if_neg h1]
    have j0 : ((aheadL s.1 : Int) == 1) = false := by rw [beq_eq_false_iff_ne]; omega
    have j1 : (aheadL s.1 == 1) = false := by rw [beq_eq_false_iff_ne]; exact h1
    generalize aheadL s.1 = A at *
    generalize numD 2 s = q at *
    obtain ⟨x, s1⟩ := q
    simp only at hc ⊢
    replace h := Lib.hid h
    clear h1
    go_enter Tryz.func140, Tryz.ntmps140
    go_wp2_with fail
    refine ha.mono ?_; rintro e w1 ⟨rfl, rfl⟩
    go_wp2_with fail
    refine hc.mono ?_; rintro e w1 ⟨rfl, h1, ht⟩
    replace h1 := Lib.hid h1
    replace ht := Lib.hid ht
    go_wp2_with fail
    go_ret
    exact ⟨rfl, h1.out, ht.out⟩

theorem year13_any (R : Nat) (s : RSt) (w : World) (h : RdC w R s) (hl : s.1.length ≤ 100000000) :
    Calls Tryz.prog 142 #[.pointer (some ⟨R, 0, none⟩)] w (RPost w R (yearC s).2 (.int .i64 ((yearC s).1 : Nat))) := by
  have ha := ahead13_any R s w h hl
  unfold yearC
  by_cases h1 : aheadL s.1 = 2
  · have hc := number13_any R 2 s w h hl (by omega)
    have hbd := numC_bd 2 s
    rw [if_pos h1]
    rw [h1] at ha
    generalize numD 2 s = q at *
    obtain ⟨x, s1⟩ := q
    simp only at hc hbd ⊢
    replace h := Lib.hid h
    clear h1
    by_cases hx : x < 50
    · rw [if_pos hx]
      have hx1 : (x : Int) < 50 := by omega
      go_enter Tryz.func142, Tryz.ntmps142
      go_wp2_with fail
      refine ha.mono ?_; rintro e w1 ⟨rfl, rfl⟩
      go_wp2_with fail
      refine hc.mono ?_; rintro e w1 ⟨rfl, h1, ht⟩
      replace h1 := Lib.hid h1
      replace ht := Lib.hid ht
      go_wp2_with fail
      go_ret
      exact RPost.mk2 (vi64 (by omega)) rfl h1.out ht.out
    · rw [if_neg hx]
      have hx1 : ¬ ((x : Int) < 50) := by omega
      go_enter Tryz.func142, Tryz.ntmps142
      go_wp2_with fail
      refine ha.mono ?_; rintro e w1 ⟨rfl, rfl⟩
      go_wp2_with fail
      refine hc.mono ?_; rintro e w1 ⟨rfl, h1, ht⟩
      replace h1 := Lib.hid h1
      replace ht := Lib.hid ht
      go_wp2_with fail
      go_ret
      exact RPost.mk2 (vi64 (by omega)) rfl h1.out ht.out
  · have hc := number13_any R 4 s w h hl (by omega)
    rw [if_neg h1]
    have j0 : ((aheadL s.1 : Int) != 2) = true := by rw [bne_iff_ne]; omega
    have j1 : (aheadL s.1 != 2) = true := by rw [bne_iff_ne]; exact h1
    generalize aheadL s.1 = A at *
    generalize numD 4 s = q at *
    obtain ⟨x, s1⟩ := q
    simp only at hc ⊢
    replace h := Lib.hid h
    clear h1
    go_enter Tryz.func142, Tryz.ntmps142
    go_wp2_with fail
    refine ha.mono ?_; rintro e w1 ⟨rfl, rfl⟩
    go_wp2_with fail
    refine hc.mono ?_; rintro e w1 ⟨rfl, h1, ht⟩
    replace h1 := Lib.hid h1
    replace ht := Lib.hid ht
    go_wp2_with fail
    go_ret
    exact ⟨rfl, h1.out, ht.out⟩

theorem hours13_any (R : Nat) (p : List UInt8) (s : RSt) (w : World) (h : RdC w R s) (hl : s.1.length ≤ 100000000) :
    Calls Tryz.prog 133 #[.pointer (some ⟨R, 0, none⟩), .string ⟨p.toArray⟩] w (RPost w R (hoursC p s).2 (.int .i64 ((hoursC p s).1 : Nat))) := by
  have hc := part13_any R 23 s w h hl (by omega)
  have hb := partC_bd 23 s
  have hl1 := Nat.le_trans (partC_len 23 s) hl
  unfold hoursC
  generalize partC 23 s = q at *
  obtain ⟨x, s1⟩ := q
  simp only at hc hb hl1 ⊢
  have hl2 := Nat.le_trans (signC_len s1 p) hl1
  have hcs := Lib.hid (fun W (hW : RdC W R s1) => sign13_any R s1 p W hW)
  have hcp := Lib.hid (fun W (hW : RdC W R (signC s1 p)) => part13_any R 59 (signC s1 p) W hW hl2 (by omega))
  have hb2 := partC_bd 59 (signC s1 p)
  generalize partC 59 (signC s1 p) = q2 at *
  obtain ⟨y, s3⟩ := q2
  simp only at hcp hb2 ⊢
  generalize signC s1 p = s2 at *
  replace h := Lib.hid h
  go_enter Tryz.func133, Tryz.ntmps133
  go_wp2_with fail
  refine hc.mono ?_; rintro e w1 ⟨rfl, h1, ht⟩
  replace h1 := Lib.hid h1
  replace ht := Lib.hid ht
  go_wp2_with fail
  refine (hcs.out _ h1.out).mono ?_; rintro e w2 ⟨rfl, h2, ht2⟩
  replace ht := Lib.hid (turn_then ht.out ht2)
  replace h2 := Lib.hid h2
  clear ht2 h1
  go_wp2_with fail
  refine (hcp.out _ h2.out).mono ?_; rintro e w3 ⟨rfl, h3, ht3⟩
  replace ht := Lib.hid (turn_then ht.out ht3)
  replace h3 := Lib.hid h3
  clear ht3 h2
  go_wp2_with fail
  go_ret
  exact RPost.mk2 (vi64 (by omega)) rfl h3.out ht.out

theorem seconds13_any (R : Nat) (s : RSt) (w : World) (h : RdC w R s) (hl : s.1.length ≤ 100000000) :
    Calls Tryz.prog 134 #[.pointer (some ⟨R, 0, none⟩)] w (RPost w R (secondsC s).2 (.int .i64 ((secondsC s).1 : Nat))) := by
  have hc := sign13_any R s [58] w h
  have hl2 := Nat.le_trans (signC_len s [58]) hl
  unfold secondsC
  have hcp := Lib.hid (fun W (hW : RdC W R (signC s [58])) => part13_any R 59 (signC s [58]) W hW hl2 (by omega))
  generalize partC 59 (signC s [58]) = q2 at *
  obtain ⟨y, s3⟩ := q2
  simp only at hcp ⊢
  generalize signC s [58] = s2 at *
  replace h := Lib.hid h
  go_enter Tryz.func134, Tryz.ntmps134
  go_wp2_with fail
  refine hc.mono ?_; rintro e w1 ⟨rfl, h1, ht⟩
  replace h1 := Lib.hid h1
  replace ht := Lib.hid ht
  go_wp2_with fail
  refine (hcp.out _ h1.out).mono ?_; rintro e w3 ⟨rfl, h3, ht3⟩
  replace ht := Lib.hid (turn_then ht.out ht3)
  replace h3 := Lib.hid h3
  clear ht3 h1
  go_wp2_with fail
  go_ret
  exact ⟨rfl, h3.out, ht.out⟩

theorem offset13_any (R : Nat) (p : List UInt8) (s : RSt) (w : World) (h : RdC w R s) (hl : s.1.length ≤ 100000000) :
    Calls Tryz.prog 136 #[.pointer (some ⟨R, 0, none⟩), .string ⟨p.toArray⟩] w (RPost w R (offsetC p s).2 (.int .i64 (offsetC p s).1)) := by
  have hc := skip13_any R s [45] w h
  have hl1 := Nat.le_trans (skipC_len s [45]) hl
  unfold offsetC
  generalize skipC s [45] = q at *
  obtain ⟨b, s1⟩ := q
  simp only at hc hl1 ⊢
  replace h := Lib.hid h
  cases b
  · have hl2 := Nat.le_trans (signC_len s1 [43]) hl1
    have hcs := Lib.hid (fun W (hW : RdC W R s1) => sign13_any R s1 [43] W hW)
    have hcp := Lib.hid (fun W (hW : RdC W R (signC s1 [43])) => hours13_any R p (signC s1 [43]) W hW hl2)
    simp only [Bool.false_eq_true, if_false]
    generalize hoursC p (signC s1 [43]) = q2 at *
    obtain ⟨y, s3⟩ := q2
    simp only at hcp ⊢
    generalize signC s1 [43] = s2 at *
    go_enter Tryz.func136, Tryz.ntmps136
    go_wp2_with fail
    refine hc.mono ?_; rintro e w1 ⟨rfl, h1, ht⟩
    replace h1 := Lib.hid h1
    replace ht := Lib.hid ht
    go_wp2_with fail
    refine (hcs.out _ h1.out).mono ?_; rintro e w2 ⟨rfl, h2, ht2⟩
    replace ht := Lib.hid (turn_then ht.out ht2)
    replace h2 := Lib.hid h2
    clear ht2 h1
    go_wp2_with fail
    refine (hcp.out _ h2.out).mono ?_; rintro e w3 ⟨rfl, h3, ht3⟩
    replace ht := Lib.hid (turn_then ht.out ht3)
    replace h3 := Lib.hid h3
    clear ht3 h2
    go_wp2_with fail
    go_ret
    exact ⟨rfl, h3.out, ht.out⟩
  · have hcp := Lib.hid (fun W (hW : RdC W R s1) => hours13_any R p s1 W hW hl1)
    have hb := hoursC_bd p s1
    simp only [if_true]
    generalize hoursC p s1 = q2 at *
    obtain ⟨y, s3⟩ := q2
    simp only at hcp hb ⊢
    go_enter Tryz.func136, Tryz.ntmps136
    go_wp2_with fail
    refine hc.mono ?_; rintro e w1 ⟨rfl, h1, ht⟩
    replace h1 := Lib.hid h1
    replace ht := Lib.hid ht
    go_wp2_with fail
    refine (hcp.out _ h1.out).mono ?_; rintro e w3 ⟨rfl, h3, ht3⟩
    replace ht := Lib.hid (turn_then ht.out ht3)
    replace h3 := Lib.hid h3
    clear ht3 h1
    go_wp2_with fail
    go_ret
    exact ⟨rfl, h3.out, ht.out⟩
end Go.Proofs.YtkgjbamkinfmeaaGreatDoor

/- Layer 13: the names in memory; weekday, Month, month, zone, date. -/
namespace Go.Proofs.YtkgjbamkinfmeaaGreatDoor
open Go.RowKit

/-- What the listed variables hold. -/
structure Env13 (w : World) : Prop where
  mon : w.rangeAt 4 0 (monthsL.map strV)
  wk : w.rangeAt 3 0 (weekL.map strV)
theorem range_below {w w' : World} {b : Nat} {cs : List Value} (h : w.rangeAt b 0 cs) (hb : Below w.heap.size w w') : w'.rangeAt b 0 cs := fun j v hv =>
  (hb.cell (p := ⟨b, 0 + j, none⟩) (World.block_lt_of_cell? w _ (h j v hv))).trans (h j v hv)
theorem Env13.below {w w' : World} (h : Env13 w) (hb : Below w.heap.size w w') : Env13 w' :=
  ⟨range_below h.mon hb, range_below h.wk hb⟩
/-- A block that holds no listed variable. -/
structure Off13 (R : Nat) : Prop where
  m : 4 ≠ R
  k : 3 ≠ R
theorem Env13.off {w : World} (h : Env13 w) : Off13 w.heap.size :=
  ⟨Nat.ne_of_lt (World.block_lt_of_cell? w _ (h.mon 0 _ rfl)), Nat.ne_of_lt (World.block_lt_of_cell? w _ (h.wk 0 _ rfl))⟩
/-- Where only a block that holds no listed variable has turned. -/
theorem Env13.turned {w w' : World} {R : Nat} (h : Env13 w) (ht : Turned (fun b => b = R) w w') (hR : Off13 R) : Env13 w' := by
  have hb : ∀ g, g ≠ R → ∀ j, ∀ v, w.cell? ⟨g, j, none⟩ = some v → w'.cell? ⟨g, j, none⟩ = some v := fun g hg j v hv =>
    (World.cell?_of_block (ht.block g (World.block_lt_of_cell? w _ hv) hg)).trans hv
  exact ⟨fun j v hv => hb _ hR.m _ _ (h.mon j v hv), fun j v hv => hb _ hR.k _ _ (h.wk j v hv)⟩

theorem info_week : (Tryz.prog.info? 198).map (·.size) = some 7 := by kernel_rfl
theorem info_months : (Tryz.prog.info? 199).map (·.size) = some 12 := by kernel_rfl
theorem run_index_week {w : World} (cs : Array Value) (i : Nat) (v : Value) (hi : i < 7) (hv : cs[i]? = some v) :
    (Instr.index 198 (.agg cs) (.int .i64 i)).run Tryz.prog w = .ok v w := by
  simp [Instr.index, Tryz.sizeOf9, Tryz.isAgg9, part, asIntOf, hi, hv, go_sem]
theorem run_index_months {w : World} (cs : Array Value) (i : Nat) (v : Value) (hi : i < 12) (hv : cs[i]? = some v) :
    (Instr.index 199 (.agg cs) (.int .i64 i)).run Tryz.prog w = .ok v w := by
  simp [Instr.index, Tryz.sizeOf9, Tryz.isAgg9, part, asIntOf, hi, hv, go_sem]
def weekV : Array Value := (weekL.map strV).toArray
def monthsV : Array Value := (monthsL.map strV).toArray
theorem week_len : ∀ k, k < 7 → (weekL.getD k []).length = 3 := by decide
theorem months_len : ∀ k, k < 12 → (monthsL.getD k []).length = 3 := by decide
theorem weekV_at {k : Nat} (h : k < 7) : weekV[k]? = some (.string ⟨(weekL.getD k []).toArray⟩) := by
  have hk : k < weekL.length := h
  simp [weekV, List.getD, hk, strV]
theorem monthsV_at {k : Nat} (h : k < 12) : monthsV[k]? = some (.string ⟨(monthsL.getD k []).toArray⟩) := by
  have hk : k < monthsL.length := h
  simp [monthsV, List.getD, hk, strV]
theorem drop_get {α : Type} (l : List α) (d : α) (k : Nat) (h : k < l.length) : l.drop k = l.getD k d :: l.drop (k + 1) := by
  rw [List.drop_eq_getElem_cons h]
  simp [List.getD, h]
theorem trim_no {l p : List UInt8} (h : Lib.hasPrefix l p = false) : Lib.trimPrefix l p = l := by unfold Lib.trimPrefix; rw [h]; simp

theorem wkF_cons (n : List UInt8) (t : List (List UInt8)) (l : List UInt8) : wkF (n :: t) l = if Lib.hasPrefix l (n ++ [44, 32]) then Lib.trimPrefix l (n ++ [44, 32]) else wkF t l := rfl
theorem mIx_cons (i : Nat) (n : List UInt8) (t : List (List UInt8)) (l : List UInt8) : mIx i (n :: t) l = if n == l then i + 1 else mIx (i + 1) t l := rfl
theorem monF_cons (n : List UInt8) (t : List (List UInt8)) (l : List UInt8) : monF (n :: t) l = if Lib.hasPrefix l n then some (monIx n, Lib.trimPrefix l n) else monF t l := rfl

set_option maxHeartbeats 400000 in
theorem weekday13_any (R : Nat) (s : RSt) (w : World) (hE : Env13 w) (h : RdC w R s) :
    Calls Tryz.prog 139 #[.pointer (some ⟨R, 0, none⟩)] w (RPost w R (weekdayC s) (.tuple #[])) := by
  unfold weekdayC
  have hwk := hE.wk
  clear hE
  have hat := fun (k : Nat) (hk : k < 7) (W : World) => run_index_week (w := W) weekV k _ hk (weekV_at hk)
  unfold weekV at hat
  have hlen : (Tryz.prog.info? 198).map (·.size) = some (weekL.map strV).length := info_week
  replace hat := Lib.hid hat
  replace hlen := Lib.hid hlen
  generalize weekL.map strV = V at *
  have hst := Lib.hid h
  clear h
  go_enter Tryz.func139, Tryz.ntmps139
  go_wp2_with (refine wpList_load_mid rfl 198 (.global 3) rfl 3 0 rfl V (.array 7 9) hwk Tryz.underlying198 rfl hlen.out ?_)
  clear hwk
  go_loopw [5] (fun i wr => ∃ k : Nat, k ≤ 7 ∧ i = .int .i64 k ∧ Hid (wkF weekL s.1 = wkF (weekL.drop k) s.1) ∧ Hid (RdC wr R s ∧ Turned (fun b => b = R) w wr)) (fun i _ => 7 - (intOf i).toNat)
  case atStart => exact ⟨0, by omega, rfl, by rw [List.drop_zero]; rfl, hst.out, Turned.refl _ _⟩
  case round =>
    clear hst
    obtain ⟨k, hk, rfl, he, hq⟩ := hrel
    by_cases hlt : k < 7
    · have hix := hat.out k hlt
      have hn3 := week_len k hlt
      have hwd := drop_get weekL [] k hlt
      rw [hwd] at he
      generalize weekL.getD k [] = n at *
      clear hwd
      have hsk := skip13_any R s (n ++ [44, 32]) wr hq.out.1
      unfold skipC at hsk
      rw [wkF_cons] at he
      have hlt1 : (k : Int) < 7 := by omega
      cases hb : Lib.hasPrefix s.1 (n ++ [44, 32])
      · have he2 := he.out
        rw [hb] at he2 hsk
        simp only [Bool.false_eq_true, if_false] at he2
        rw [trim_no hb] at hsk
        replace he2 := Lib.hid he2
        replace hsk := Lib.hid hsk
        replace hb := Lib.hid hb
        clear he
        go_wp2_with fail
        refine hsk.out.mono ?_; rintro e w1 ⟨rfl, h1, ht⟩
        replace h1 := Lib.hid (And.intro h1 (turn_then hq.out.2 ht))
        clear ht hq
        go_wp2_with fail
        exact ⟨⟨k + 1, by omega, vi64 (by omega), he2, h1⟩, by simp [intOf]; omega⟩
      · have he2 := he.out
        rw [hb] at he2 hsk
        simp only [if_true] at he2
        replace he2 := Lib.hid he2
        replace hsk := Lib.hid hsk
        replace hb := Lib.hid hb
        clear he
        go_wp2_with fail
        refine hsk.out.mono ?_; rintro e w1 ⟨rfl, h1, ht⟩
        replace h1 := Lib.hid (And.intro h1 (turn_then hq.out.2 ht))
        clear ht hq
        go_wp2_with fail
        refine bodyPost_end (v := .tuple #[]) (by simp [results, Tryz.results139, go_sem]) rfl ?_
        exact ⟨rfl, by rw [he2.out]; exact h1.out.1, h1.out.2⟩
    · have hlt1 : ¬ ((k : Int) < 7) := by omega
      have he2 := Lib.hid (show wkF weekL s.1 = s.1 by rw [he.out, show k = 7 by omega]; rfl)
      clear he
      go_wp2_with fail
      refine bodyPost_end (v := .tuple #[]) (by simp [results, Tryz.results139, go_sem]) rfl ?_
      exact ⟨rfl, by rw [he2.out]; exact hq.out.1, hq.out.2⟩

set_option maxHeartbeats 400000 in
theorem month13_any (l : List UInt8) (w : World) (hE : Env13 w) :
    Calls Tryz.prog 173 #[.string ⟨l.toArray⟩] w fun e w' => e = .returned (.int .i64 (monIx l : Nat)) ∧ w = w' := by
  unfold monIx
  have hwk := hE.mon
  clear hE
  have hat := fun (k : Nat) (hk : k < 12) (W : World) => run_index_months (w := W) monthsV k _ hk (monthsV_at hk)
  unfold monthsV at hat
  have hlen : (Tryz.prog.info? 199).map (·.size) = some (monthsL.map strV).length := info_months
  replace hat := Lib.hid hat
  replace hlen := Lib.hid hlen
  generalize monthsL.map strV = V at *
  go_enter Tryz.func173, Tryz.ntmps173
  go_wp2_with (refine wpList_load_mid rfl 199 (.global 4) rfl 4 0 rfl V (.array 12 9) hwk Tryz.underlying199 rfl hlen.out ?_)
  clear hwk
  go_loopw [6] (fun i wr => ∃ k : Nat, k ≤ 12 ∧ i = .int .i64 k ∧ Hid (mIx 0 monthsL l = mIx k (monthsL.drop k) l) ∧ Hid (w = wr)) (fun i _ => 12 - (intOf i).toNat)
  case atStart => exact ⟨0, by omega, rfl, by rw [List.drop_zero]; rfl, rfl⟩
  case round =>
    obtain ⟨k, hk, rfl, he, hwr⟩ := hrel
    by_cases hlt : k < 12
    · have hix := hat.out k hlt
      have hwd := drop_get monthsL [] k hlt
      rw [hwd] at he
      generalize monthsL.getD k [] = n at *
      clear hwd
      rw [mIx_cons] at he
      have hlt1 : (k : Int) < 12 := by omega
      cases hb : (n == l)
      · have he2 := he.out
        rw [hb] at he2
        simp only [Bool.false_eq_true, if_false] at he2
        replace he2 := Lib.hid he2
        clear he
        go_wp2_with fail
        exact ⟨⟨k + 1, by omega, vi64 (by omega), he2, hwr⟩, by simp [intOf]; omega⟩
      · have he2 := he.out
        rw [hb] at he2
        simp only [if_true] at he2
        replace he2 := Lib.hid he2
        clear he
        go_wp2_with fail
        go_ret
        exact ⟨ret_int (by rw [he2.out]; omega), hwr.out⟩
    · have hlt1 : ¬ ((k : Int) < 12) := by omega
      have he2 := Lib.hid (show mIx 0 monthsL l = 0 by rw [he.out, show k = 12 by omega]; rfl)
      clear he
      go_wp2_with fail
      go_ret
      exact ⟨ret_int (by rw [he2.out]; rfl), hwr.out⟩
theorem monthC_some {s : RSt} {m : Nat} {t : List UInt8} (h : monF monthsL s.1 = some (m, t)) : monthC s = (m, (t, s.2)) := by unfold monthC; rw [h]
theorem monthC_none {s : RSt} (h : monF monthsL s.1 = none) : monthC s = (0, (s.1, true)) := by unfold monthC; rw [h]

set_option maxHeartbeats 400000 in
theorem rmonth13_any (R : Nat) (s : RSt) (w : World) (hE : Env13 w) (hR : Off13 R) (h : RdC w R s) :
    Calls Tryz.prog 141 #[.pointer (some ⟨R, 0, none⟩)] w (RPost w R (monthC s).2 (.int .i64 ((monthC s).1 : Nat))) := by
  have hwk := hE.mon
  have hat := fun (k : Nat) (hk : k < 12) (W : World) => run_index_months (w := W) monthsV k _ hk (monthsV_at hk)
  unfold monthsV at hat
  have hlen : (Tryz.prog.info? 199).map (·.size) = some (monthsL.map strV).length := info_months
  replace hat := Lib.hid hat
  replace hlen := Lib.hid hlen
  generalize monthsL.map strV = V at *
  have hst := Lib.hid h
  replace hE := Lib.hid hE
  clear h
  go_enter Tryz.func141, Tryz.ntmps141
  go_wp2_with (refine wpList_load_mid rfl 199 (.global 4) rfl 4 0 rfl V (.array 12 9) hwk Tryz.underlying199 rfl hlen.out ?_)
  clear hwk
  go_loopw [6] (fun i wr => ∃ k : Nat, k ≤ 12 ∧ i = .int .i64 k ∧ Hid (monF monthsL s.1 = monF (monthsL.drop k) s.1) ∧ Hid (RdC wr R s ∧ Turned (fun b => b = R) w wr)) (fun i _ => 12 - (intOf i).toNat)
  case atStart => exact ⟨0, by omega, rfl, by rw [List.drop_zero]; rfl, hst.out, Turned.refl _ _⟩
  case round =>
    clear hst
    obtain ⟨k, hk, rfl, he, hq⟩ := hrel
    by_cases hlt : k < 12
    · have hix := hat.out k hlt
      have hwd := drop_get monthsL [] k hlt
      rw [hwd] at he
      generalize monthsL.getD k [] = n at *
      clear hwd
      have hsk := skip13_any R s n wr hq.out.1
      unfold skipC at hsk
      rw [monF_cons] at he
      have hlt1 : (k : Int) < 12 := by omega
      cases hb : Lib.hasPrefix s.1 n
      · have he2 := he.out
        rw [hb] at he2 hsk
        simp only [Bool.false_eq_true, if_false] at he2
        rw [trim_no hb] at hsk
        replace he2 := Lib.hid he2
        replace hsk := Lib.hid hsk
        replace hb := Lib.hid hb
        clear he
        go_wp2_with fail
        refine hsk.out.mono ?_; rintro e w1 ⟨rfl, h1, ht⟩
        replace h1 := Lib.hid (And.intro h1 (turn_then hq.out.2 ht))
        clear ht hq
        go_wp2_with fail
        exact ⟨⟨k + 1, by omega, vi64 (by omega), he2, h1⟩, by simp [intOf]; omega⟩
      · have he2 := he.out
        rw [hb] at he2 hsk
        simp only [if_true] at he2
        replace he2 := Lib.hid he2
        replace hsk := Lib.hid hsk
        replace hb := Lib.hid hb
        clear he
        have hmc := Lib.hid (fun W (hW : Env13 W) => month13_any n W hW)
        generalize monIx n = M at *
        go_wp2_with fail
        refine hsk.out.mono ?_; rintro e w1 ⟨rfl, h1, ht⟩
        replace h1 := Lib.hid (And.intro h1 (turn_then hq.out.2 ht))
        clear ht hq
        go_wp2_with fail
        refine (hmc.out w1 (hE.out.turned h1.out.2 hR)).mono ?_; rintro e w2 ⟨rfl, rfl⟩
        go_wp2_with fail
        go_ret
        rw [monthC_some he2.out]
        exact ⟨rfl, h1.out.1, h1.out.2⟩
    · have hlt1 : ¬ ((k : Int) < 12) := by omega
      have he2 := Lib.hid (show monF monthsL s.1 = none by rw [he.out, show k = 12 by omega]; rfl)
      have c1 := hq.out.1.c1
      have f1 := hq.out.1.fz 1
      clear he
      go_wp2_with fail
      go_ret
      rw [monthC_none he2.out]
      exact ⟨rfl, hq.out.1.bad true, turn_then hq.out.2 (turn_rest _ _ _ _)⟩
end Go.Proofs.YtkgjbamkinfmeaaGreatDoor

/- Layer 13: a reader's zone and date. -/
namespace Go.Proofs.YtkgjbamkinfmeaaGreatDoor
open Go.RowKit

theorem zoneC_some {s : RSt} {z : Int} (h : zoneNm s.1 = some z) : zoneC s = (z * 3600, ([], s.2)) := by unfold zoneC; rw [h]
theorem zoneC_none {s : RSt} (h : zoneNm s.1 = none) : zoneC s = offsetC [] s := by unfold zoneC; rw [h]

set_option maxHeartbeats 1000000 in
theorem zone_at (R : Nat) (l : List UInt8) (b : Bool) (z : Int)
    (hl : l = [71, 77, 84] ∧ z = 0 ∨ l = [85, 84] ∧ z = 0 ∨ l = [85, 84, 67] ∧ z = 0 ∨ l = [90] ∧ z = 0 ∨ l = [69, 68, 84] ∧ z = -4 ∨ l = [69, 83, 84] ∧ z = -5 ∨ l = [67, 68, 84] ∧ z = -5 ∨ l = [67, 83, 84] ∧ z = -6 ∨ l = [77, 68, 84] ∧ z = -6 ∨ l = [77, 83, 84] ∧ z = -7 ∨ l = [80, 68, 84] ∧ z = -7 ∨ l = [80, 83, 84] ∧ z = -8)
    (w : World) (h : RdC w R (l, b)) :
    Calls Tryz.prog 143 #[.pointer (some ⟨R, 0, none⟩)] w (RPost w R ([], b) (.int .i64 (z * 3600))) := by
  have c0 := h.c0
  have f0 := h.fz 0
  have hr := Lib.hid (h.rest [])
  replace h := Lib.hid h
  rcases hl with ⟨rfl, rfl⟩ | ⟨rfl, rfl⟩ | ⟨rfl, rfl⟩ | ⟨rfl, rfl⟩ | ⟨rfl, rfl⟩ | ⟨rfl, rfl⟩ | ⟨rfl, rfl⟩ | ⟨rfl, rfl⟩ | ⟨rfl, rfl⟩ | ⟨rfl, rfl⟩ | ⟨rfl, rfl⟩ | ⟨rfl, rfl⟩
  all_goals go_enter Tryz.func143, Tryz.ntmps143
  all_goals go_wp2_with fail
  all_goals go_ret
  all_goals exact ⟨rfl, hr.out, turn_rest _ _ _ _⟩
theorem zoneNm_some {l : List UInt8} {z : Int} (h : zoneNm l = some z) : l = [71, 77, 84] ∧ z = 0 ∨ l = [85, 84] ∧ z = 0 ∨ l = [85, 84, 67] ∧ z = 0 ∨ l = [90] ∧ z = 0 ∨ l = [69, 68, 84] ∧ z = -4 ∨ l = [69, 83, 84] ∧ z = -5 ∨ l = [67, 68, 84] ∧ z = -5 ∨ l = [67, 83, 84] ∧ z = -6 ∨ l = [77, 68, 84] ∧ z = -6 ∨ l = [77, 83, 84] ∧ z = -7 ∨ l = [80, 68, 84] ∧ z = -7 ∨ l = [80, 83, 84] ∧ z = -8 := by
  unfold zoneNm at h
  repeat' split at h
  all_goals first | (cases h; done) | skip
  all_goals simp only [Bool.or_eq_true, beq_iff_eq] at *
  all_goals simp only [Option.some.injEq] at h
  all_goals subst h
  all_goals simp_all
  rename_i c
  rcases c with ((c | c) | c) | c <;> simp [c]
theorem zoneNm_none {l : List UInt8} (h : zoneNm l = none) : (l == [71, 77, 84]) = false ∧ (l == [85, 84]) = false ∧ (l == [85, 84, 67]) = false ∧ (l == [90]) = false ∧ (l == [69, 68, 84]) = false ∧ (l == [69, 83, 84]) = false ∧ (l == [67, 68, 84]) = false ∧ (l == [67, 83, 84]) = false ∧ (l == [77, 68, 84]) = false ∧ (l == [77, 83, 84]) = false ∧ (l == [80, 68, 84]) = false ∧ (l == [80, 83, 84]) = false := by
  unfold zoneNm at h
  repeat' split at h
  all_goals first | cases h; done | skip
  simp_all

set_option maxHeartbeats 400000 in
theorem zone13_any (R : Nat) (s : RSt) (w : World) (h : RdC w R s) (hl : s.1.length ≤ 100000000) :
    Calls Tryz.prog 143 #[.pointer (some ⟨R, 0, none⟩)] w (RPost w R (zoneC s).2 (.int .i64 (zoneC s).1)) := by
  cases hz : zoneNm s.1 with
  | some z =>
    rw [zoneC_some hz]
    exact zone_at R s.1 s.2 z (zoneNm_some hz) w h
  | none =>
    rw [zoneC_none hz]
    obtain ⟨e1, e2, e3, e4, e5, e6, e7, e8, e9, e10, e11, e12⟩ := zoneNm_none hz
    have hc := offset13_any R [] s w h hl
    have c0 := h.c0
    generalize offsetC [] s = q at *
    obtain ⟨z, s1⟩ := q
    simp only at hc ⊢
    generalize s.1 = l at *
    replace h := Lib.hid h
    clear hz
    go_enter Tryz.func143, Tryz.ntmps143
    go_wp2_with fail
    refine hc.mono ?_; rintro e w1 ⟨rfl, h1, ht⟩
    replace h1 := Lib.hid h1
    replace ht := Lib.hid ht
    go_wp2_with fail
    go_ret
    exact ⟨rfl, h1.out, ht.out⟩

theorem dateC_no {s : RSt} {y m d : Nat} {c : Int} (h : s.2 = true ∨ s.1 ≠ [] ∨ (daysB y m d).2 = false ∨ (daysB y m d).1 * 86400 + c < 0 ∨ 253402300799 < (daysB y m d).1 * 86400 + c) : dateC s y m d c = (0, false) := by unfold dateC; rw [if_pos h]
theorem dateC_yes {s : RSt} {y m d : Nat} {c : Int} (h : ¬ (s.2 = true ∨ s.1 ≠ [] ∨ (daysB y m d).2 = false ∨ (daysB y m d).1 * 86400 + c < 0 ∨ 253402300799 < (daysB y m d).1 * 86400 + c)) : dateC s y m d c = ((daysB y m d).1 * 86400 + c, true) := by unfold dateC; rw [if_neg h]
theorem ret_ob {o : Int × Bool} {a : Int} {b : Bool} (h : o = (a, b)) : Ending.returned (.tuple #[.int .i64 a, .bool b]) = .returned (.tuple #[.int .i64 o.1, .bool o.2]) := by rw [h]
set_option maxHeartbeats 400000 in
theorem date13_any (R : Nat) (s : RSt) (y m d : Nat) (c : Int) (w : World) (h : RdC w R s) (hy : y ≤ 1000000) (hc0 : -1000000 ≤ c) (hc1 : c ≤ 1000000) :
    Calls Tryz.prog 137 #[.pointer (some ⟨R, 0, none⟩), .int .i64 y, .int .i64 m, .int .i64 d, .int .i64 c] w fun e w' => e = .returned (.tuple #[.int .i64 (dateC s y m d c).1, .bool (dateC s y m d c).2]) ∧ w = w' := by
  have hd := days13_any y m d (by omega) (by omega) w
  have hb := daysB_bd y m d
  have hno := Lib.hid (@dateC_no s y m d c)
  have hyes := Lib.hid (@dateC_yes s y m d c)
  obtain ⟨D, hD⟩ : ∃ D, D = daysB y m d := ⟨_, rfl⟩
  rw [← hD] at hd hb hno hyes
  clear hD
  obtain ⟨x, t⟩ := D
  simp only at hd hb hno hyes
  obtain ⟨hb0, hb1⟩ := hb
  have c0 := h.c0
  have c1 := h.c1
  replace h := Lib.hid h
  generalize dateC s y m d c = o at *
  obtain ⟨l, b⟩ := s
  simp only at c0 c1 hno hyes
  cases b
  · by_cases hl : l = []
    · subst hl
      cases t
      · have ho := Lib.hid (hno.out (Or.inr (Or.inr (Or.inl rfl))))
        clear hno hyes
        go_enter Tryz.func137, Tryz.ntmps137
        go_wp2_with fail
        refine hd.mono ?_; rintro e w1 ⟨rfl, rfl⟩
        go_wp2_with fail
        go_ret2
        exact ⟨ret_ob ho.out, rfl⟩
      · by_cases n0 : x * 86400 + c < 0
        · have ho := Lib.hid (hno.out (Or.inr (Or.inr (Or.inr (Or.inl n0)))))
          clear hno hyes
          go_enter Tryz.func137, Tryz.ntmps137
          go_wp2_with fail
          refine hd.mono ?_; rintro e w1 ⟨rfl, rfl⟩
          go_wp2_with fail
          go_ret2
          exact ⟨ret_ob ho.out, rfl⟩
        · by_cases n1 : 253402300799 < x * 86400 + c
          · have ho := Lib.hid (hno.out (Or.inr (Or.inr (Or.inr (Or.inr n1)))))
            clear hno hyes
            go_enter Tryz.func137, Tryz.ntmps137
            go_wp2_with fail
            refine hd.mono ?_; rintro e w1 ⟨rfl, rfl⟩
            go_wp2_with fail
            go_ret2
            exact ⟨ret_ob ho.out, rfl⟩
          · have ho := Lib.hid (hyes.out (by rintro (e | e | e | e | e); exact Bool.noConfusion e; exact e rfl; exact Bool.noConfusion e; exact n0 e; exact n1 e))
            clear hno hyes
            go_enter Tryz.func137, Tryz.ntmps137
            go_wp2_with fail
            refine hd.mono ?_; rintro e w1 ⟨rfl, rfl⟩
            go_wp2_with fail
            go_ret2
            exact ⟨ret_ob ho.out, rfl⟩
    · have ho := Lib.hid (hno.out (Or.inr (Or.inl hl)))
      have hl1 : l.isEmpty = false := by cases l; exact absurd rfl hl; rfl
      clear hno hyes hl
      go_enter Tryz.func137, Tryz.ntmps137
      go_wp2_with fail
      refine hd.mono ?_; rintro e w1 ⟨rfl, rfl⟩
      go_wp2_with fail
      go_ret2
      exact ⟨ret_ob ho.out, rfl⟩
  · have ho := Lib.hid (hno.out (Or.inl rfl))
    clear hno hyes
    go_enter Tryz.func137, Tryz.ntmps137
    go_wp2_with fail
    refine hd.mono ?_; rintro e w1 ⟨rfl, rfl⟩
    go_wp2_with fail
    go_ret2
    exact ⟨ret_ob ho.out, rfl⟩
end Go.Proofs.YtkgjbamkinfmeaaGreatDoor
