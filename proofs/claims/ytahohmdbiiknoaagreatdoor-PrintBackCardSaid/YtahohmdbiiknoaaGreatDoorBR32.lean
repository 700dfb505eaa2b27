/- Layer 13, the reference: Rfc3339 (printed by wip/tools/gen_3339r.py). -/
import Derived.Test.YtahohmdbiiknoaaGreatDoorBR30
namespace Go.Proofs.YtahohmdbiiknoaaGreatDoor
open Go.RowKit

def fracR (s : List UInt8) : List UInt8 := if decide (1 < s.length) && decide (bt s 0 = 46) && decide (48 ≤ bt s 1) && decide (bt s 1 ≤ 57) then s.tail.drop (aheadL s.tail) else s
def r3339R4 (y m d n : Nat) (z : Int × Bool) : Int × Bool := if z.2 then wholeR y m d n z.1 else (0, false)
def r3339R3 (y m d n : Nat) (s : List UInt8) : Int × Bool := if s == [90] || s == [122] then wholeR y m d n 0 else r3339R4 y m d n (offR s [58])
def r3339R2 (y m d : Nat) (n : Nat × List UInt8 × Bool) : Int × Bool := if n.2.2 then r3339R3 y m d n.1 (fracR n.2.1) else (0, false)
def r3339R1 (y m d : Nat × List UInt8 × Bool) (a b : Bool) : Int × Bool :=
  if y.2.2 && a && m.2.2 && b && d.2.2 && !d.2.1.isEmpty && (decide (bt d.2.1 0 = 84) || decide (bt d.2.1 0 = 116) || decide (bt d.2.1 0 = 32)) then r3339R2 y.1 m.1 d.1 (clkR d.2.1.tail false) else (0, false)
def r3339Rb (y m : Nat × List UInt8 × Bool) (a : Bool) (b : List UInt8 × Bool) : Int × Bool := r3339R1 y m (digR 2 b.1) a b.2
def r3339Rm (y : Nat × List UInt8 × Bool) (a : Bool) (m : Nat × List UInt8 × Bool) : Int × Bool := r3339Rb y m a (sgR m.2.1 [45])
def r3339Ra (y : Nat × List UInt8 × Bool) (a : List UInt8 × Bool) : Int × Bool := r3339Rm y a.2 (digR 2 a.1)
def r3339Ry (y : Nat × List UInt8 × Bool) : Int × Bool := r3339Ra y (sgR y.2.1 [45])
def r3339R (l : List UInt8) : Int × Bool := r3339Ry (digR 4 l)
theorem tail_at {l : List UInt8} (h : l ≠ []) : ∃ c t, l = c :: t ∧ l.tail = t ∧ bt l 0 = (c.toNat : Int) := by
  cases l with
  | nil => exact absurd rfl h
  | cons c t => exact ⟨c, t, rfl, rfl, by unfold bt; simp⟩
theorem ahead_step {u : List UInt8} (h : u ≠ []) : aheadL u = if 48 ≤ bt u 0 ∧ bt u 0 ≤ 57 then aheadL u.tail + 1 else 0 := by
  have := aheadL_at (l := u) (k := 0) (List.length_pos_iff.2 h)
  rw [List.drop_zero, Nat.zero_add, List.drop_one] at this
  exact this
theorem frac_step {u : List UInt8} (h : u ≠ []) (h1 : 48 ≤ bt u 0) (h2 : bt u 0 ≤ 57) : u.drop (aheadL u) = u.tail.drop (aheadL u.tail) := by
  rw [ahead_step h, if_pos ⟨h1, h2⟩, ← List.drop_one, List.drop_drop, Nat.add_comm]
theorem frac_stop {u : List UInt8} (h : u ≠ []) (h1 : ¬ (48 ≤ bt u 0 ∧ bt u 0 ≤ 57)) : u.drop (aheadL u) = u := by
  rw [ahead_step h, if_neg h1, List.drop_zero]
theorem bt_tail {l : List UInt8} (h : 1 < l.length) : bt l.tail 0 = bt l 1 := by
  cases l with
  | nil => simp at h
  | cons c t => unfold bt; simp

set_option maxRecDepth 100000 in
set_option maxHeartbeats 20000000 in
theorem rfc3339r_any (l : List UInt8) (w : World) (hl : l.length ≤ 100000000) : Calls Tryz.prog 58 #[.string ⟨l.toArray⟩] w fun e w' => e = .returned (.tuple #[.int .i64 (r3339R l).1, .bool (r3339R l).2]) ∧ Drawn w w' := by
  obtain ⟨o, hq⟩ : ∃ o, r3339R l = o := ⟨_, rfl⟩
  rw [hq]
  unfold r3339R at hq
  have hY := Lib.hid (fun W : World => digits13r_any 4 l W hl (by omega))
  have bY := digR_bd 4 l
  have l1 := Nat.le_trans (digR_len 4 l) hl
  generalize digR 4 l = q at *
  obtain ⟨y, s1, a⟩ := q
  unfold trV at hY
  unfold r3339Ry at hq
  simp only at hY bY l1 hq
  have hA := Lib.hid (fun W : World => sign13r_any s1 [45] W l1 (by decide))
  have l2 := Nat.le_trans (sgR_len s1 [45]) l1
  generalize sgR s1 [45] = q at *
  obtain ⟨s2, b⟩ := q
  unfold r3339Ra at hq
  simp only at hA l2 hq
  have hM := Lib.hid (fun W : World => digits13r_any 2 s2 W l2 (by omega))
  have bM := digR_bd 2 s2
  have l3 := Nat.le_trans (digR_len 2 s2) l2
  generalize digR 2 s2 = q at *
  obtain ⟨m, s3, c⟩ := q
  unfold trV at hM
  unfold r3339Rm at hq
  simp only at hM bM l3 hq
  have hB := Lib.hid (fun W : World => sign13r_any s3 [45] W l3 (by decide))
  have l4 := Nat.le_trans (sgR_len s3 [45]) l3
  generalize sgR s3 [45] = q at *
  obtain ⟨s4, f⟩ := q
  unfold r3339Rb at hq
  simp only at hB l4 hq
  have hD := Lib.hid (fun W : World => digits13r_any 2 s4 W l4 (by omega))
  have bD := digR_bd 2 s4
  have l5 := Nat.le_trans (digR_len 2 s4) l4
  generalize digR 2 s4 = q at *
  obtain ⟨d, t, g⟩ := q
  unfold trV at hD
  unfold r3339R1 at hq
  simp only at hD bD l5 hq
  have bY' : y ≤ 9999 := by omega
  clear bY
  go_enter Tryz.func58, Tryz.ntmps58
  go_wp2_with fail
  refine (hY.out _).mono ?_; rintro e w1 ⟨rfl, dd⟩
  replace dd := Lib.hid dd
  go_wp2_with fail
  refine (hA.out _).mono ?_; rintro e w2 ⟨rfl, rfl⟩
  go_wp2_with fail
  refine (hM.out _).mono ?_; rintro e w3 ⟨rfl, d3⟩
  replace dd := Lib.hid (dd.out.trans d3)
  clear d3
  go_wp2_with fail
  refine (hB.out _).mono ?_; rintro e w4 ⟨rfl, rfl⟩
  go_wp2_with fail
  refine (hD.out _).mono ?_; rintro e w5 ⟨rfl, d5⟩
  replace dd := Lib.hid (dd.out.trans d5)
  clear d5 hY hA hM hB hD
  cases a
  · replace hq := Lib.hid hq
    go_wp2_with fail
    go_ret2
    exact ⟨ret_ob2 (show o = (0, false) from hq.out.symm) rfl, dd.out⟩
  cases b
  · replace hq := Lib.hid hq
    go_wp2_with fail
    go_ret2
    exact ⟨ret_ob2 (show o = (0, false) from hq.out.symm) rfl, dd.out⟩
  cases c
  · replace hq := Lib.hid hq
    go_wp2_with fail
    go_ret2
    exact ⟨ret_ob2 (show o = (0, false) from hq.out.symm) rfl, dd.out⟩
  cases f
  · replace hq := Lib.hid hq
    go_wp2_with fail
    go_ret2
    exact ⟨ret_ob2 (show o = (0, false) from hq.out.symm) rfl, dd.out⟩
  cases g
  · replace hq := Lib.hid hq
    go_wp2_with fail
    go_ret2
    exact ⟨ret_ob2 (show o = (0, false) from hq.out.symm) rfl, dd.out⟩
  by_cases hne : t = []
  · subst hne
    replace hq := Lib.hid hq
    go_wp2_with fail
    go_ret2
    exact ⟨ret_ob2 (show o = (0, false) from hq.out.symm) rfl, dd.out⟩
  have hem : t.isEmpty = false := by cases t; exact absurd rfl hne; rfl
  have t0 : 0 < t.length := List.length_pos_iff.2 hne
  have t1 : (0 : Int) < t.length := by omega
  have t2 : (1 : Int) ≤ t.length := by omega
  rw [hem] at hq
  replace hne := Lib.hid hne
  have hC := Lib.hid (fun W : World => clock13r_any t.tail false W (by rw [List.length_tail]; omega))
  have bC := clkR_bd t.tail false
  have lC : (clkR t.tail false).2.1.length ≤ 100000000 := Nat.le_trans (clkR_len t.tail false) (by rw [List.length_tail]; omega)
  generalize clkR t.tail false = q at *
  obtain ⟨n, s5, k⟩ := q
  unfold trV at hC
  unfold r3339R2 at hq
  simp only at hC bC lC hq
  by_cases h84 : bt t 0 = 84
  · rw [h84] at hq
    simp only [decide_true, Bool.true_or, Bool.and_true, Bool.not_false, if_true] at hq
    go_wp2_with fail
    refine (hC.out _).mono ?_; rintro e w9 ⟨rfl, d9⟩
    replace dd := Lib.hid (dd.out.trans d9)
    clear d9 hC
    cases k
    · replace hq := Lib.hid hq
      go_wp2_with fail
      go_ret2
      exact ⟨ret_ob2 (show o = (0, false) from hq.out.symm) rfl, dd.out⟩
    simp only [if_true] at hq
    unfold fracR at hq
    by_cases k1 : 1 < s5.length
    · have k1' : (1 : Int) < s5.length := by omega
      have k2 : (1 : Int) ≤ s5.length := by omega
      have k0 : (0 : Int) < s5.length := by omega
      have k00 : 0 < s5.length := by omega
      rw [decide_eq_true k1] at hq
      by_cases k46 : bt s5 0 = 46
      · rw [decide_eq_true k46] at hq
        have hb1 := bt_lt s5 1
        by_cases k48 : 48 ≤ bt s5 1
        · rw [decide_eq_true k48] at hq
          by_cases k57 : bt s5 1 ≤ 57
          · rw [decide_eq_true k57] at hq
            simp only [Bool.and_self, if_true] at hq
            have hlt : s5.tail.length ≤ 100000000 := by rw [List.length_tail]; omega
            obtain ⟨v, hv⟩ : ∃ v, s5.tail.drop (aheadL s5.tail) = v := ⟨_, rfl⟩
            rw [hv] at hq
            replace hq := Lib.hid hq
            replace hv := Lib.hid hv
            go_wp2_with fail
            obtain ⟨wo, hwo⟩ : ∃ wo : World, w9 = wo := ⟨_, rfl⟩
            rw [hwo] at dd ⊢
            clear hwo
            go_loopw [0] (fun s wr => ∃ u : List UInt8, s = .string ⟨u.toArray⟩ ∧ u.length ≤ 100000000 ∧ Hid (u.drop (aheadL u) = v) ∧ Hid (wo = wr)) (fun s _ => strLen s)
            case atStart => exact ⟨s5.tail, rfl, hlt, hv, rfl⟩
            case round =>
              clear hv
              obtain ⟨u, rfl, lS, hu, hwr⟩ := hrel
              replace dd := Lib.hid (show Drawn w wr by rw [← hwr.out]; exact dd.out)
              by_cases hne : u = []
              · subst hne
                have hq := hq.out
                have hu2 := hu.out
                rw [List.drop_nil] at hu2
                obtain rfl := hu2
                clear hu
                have hq3 := hq; clear hq; have hq := hq3; clear hq3
                unfold r3339R3 at hq
                have hO := Lib.hid (fun W : World => offset13r_any (([] : List UInt8)) [58] W lS (by decide))
                have bO := offR_bd (([] : List UInt8)) [58]
                generalize offR (([] : List UInt8)) [58] = q at *
                obtain ⟨z, v⟩ := q
                simp only at hO bO
                obtain ⟨bO0, bO1⟩ := bO
                have hW0 := Lib.hid (fun W : World => whole13r_any y m d (n : Int) 0 W (by omega) (by omega) (by omega) (by omega) (by omega))
                have hWz := Lib.hid (fun W : World => whole13r_any y m d (n : Int) z W (by omega) (by omega) (by omega) (by omega) (by omega))
                cases hz1 : (([] : List UInt8) == [90])
                · cases hz2 : (([] : List UInt8) == [122])
                  · have hz3 : (([] : List UInt8) != [90]) = true := by rw [bne, hz1]; rfl
                    have hz4 : (([] : List UInt8) != [122]) = true := by rw [bne, hz2]; rfl
                    rw [hz1, hz2] at hq
                    simp only [Bool.or_self, Bool.false_eq_true, if_false] at hq
                    unfold r3339R4 at hq
                    simp only at hq
                    go_wp2_with fail
                    refine (hO.out _).mono ?_; rintro e w9 ⟨rfl, d9⟩
                    replace dd := Lib.hid (dd.out.trans d9)
                    clear d9
                    cases v
                    · replace hq := Lib.hid hq
                      go_wp2_with fail
                      go_ret2
                      exact ⟨ret_ob2 (show o = (0, false) from hq.out.symm) rfl, dd.out⟩
                    · simp only [if_true] at hq
                      rw [hq] at hWz
                      clear hq hW0
                      go_wp2_with fail
                      refine (hWz.out _).mono ?_; rintro e w10 ⟨rfl, rfl⟩
                      go_wp2_with fail
                      go_ret2
                      exact ⟨rfl, dd.out⟩
                  · have hz3 : (([] : List UInt8) != [90]) = true := by rw [bne, hz1]; rfl
                    have hz4 : (([] : List UInt8) != [122]) = false := by rw [bne, hz2]; rfl
                    rw [hz1, hz2] at hq
                    simp only [Bool.or_true, if_true] at hq
                    rw [hq] at hW0
                    clear hq hWz
                    go_wp2_with fail
                    refine (hW0.out _).mono ?_; rintro e w10 ⟨rfl, rfl⟩
                    go_wp2_with fail
                    go_ret2
                    exact ⟨rfl, dd.out⟩
                · have hz3 : (([] : List UInt8) != [90]) = false := by rw [bne, hz1]; rfl
                  rw [hz1] at hq
                  simp only [Bool.true_or, if_true] at hq
                  rw [hq] at hW0
                  clear hq hWz
                  go_wp2_with fail
                  refine (hW0.out _).mono ?_; rintro e w10 ⟨rfl, rfl⟩
                  go_wp2_with fail
                  go_ret2
                  exact ⟨rfl, dd.out⟩
              have hem : u.isEmpty = false := by cases u; exact absurd rfl hne; rfl
              have u0 : 0 < u.length := List.length_pos_iff.2 hne
              have u1 : (0 : Int) < u.length := by omega
              have u2 : (1 : Int) ≤ u.length := by omega
              have hub := bt_lt u 0
              by_cases j48 : 48 ≤ bt u 0
              · by_cases j57 : bt u 0 ≤ 57
                · have hu2 := Lib.hid ((frac_step hne j48 j57).symm.trans hu.out)
                  have hl2 : u.tail.length ≤ 100000000 := by rw [List.length_tail]; omega
                  have hl3 : u.tail.length < u.length := by rw [List.length_tail]; omega
                  replace hne := Lib.hid hne
                  clear hq
                  go_wp2_with fail
                  exact ⟨⟨u.tail, rfl, hl2, hu2, hwr⟩, by simp [strLen_mk]; omega⟩
                · have hu2 := (frac_stop hne (fun h => j57 h.2)).symm.trans hu.out
                  have hq := hq.out
                  rw [← hu2] at hq
                  clear hu2 hu
                  replace hne := Lib.hid hne
                  unfold r3339R3 at hq
                  have hO := Lib.hid (fun W : World => offset13r_any (u) [58] W lS (by decide))
                  have bO := offR_bd (u) [58]
                  generalize offR (u) [58] = q at *
                  obtain ⟨z, v⟩ := q
                  simp only at hO bO
                  obtain ⟨bO0, bO1⟩ := bO
                  have hW0 := Lib.hid (fun W : World => whole13r_any y m d (n : Int) 0 W (by omega) (by omega) (by omega) (by omega) (by omega))
                  have hWz := Lib.hid (fun W : World => whole13r_any y m d (n : Int) z W (by omega) (by omega) (by omega) (by omega) (by omega))
                  cases hz1 : (u == [90])
                  · cases hz2 : (u == [122])
                    · have hz3 : (u != [90]) = true := by rw [bne, hz1]; rfl
                      have hz4 : (u != [122]) = true := by rw [bne, hz2]; rfl
                      rw [hz1, hz2] at hq
                      simp only [Bool.or_self, Bool.false_eq_true, if_false] at hq
                      unfold r3339R4 at hq
                      simp only at hq
                      go_wp2_with fail
                      refine (hO.out _).mono ?_; rintro e w9 ⟨rfl, d9⟩
                      replace dd := Lib.hid (dd.out.trans d9)
                      clear d9
                      cases v
                      · replace hq := Lib.hid hq
                        go_wp2_with fail
                        go_ret2
                        exact ⟨ret_ob2 (show o = (0, false) from hq.out.symm) rfl, dd.out⟩
                      · simp only [if_true] at hq
                        rw [hq] at hWz
                        clear hq hW0
                        go_wp2_with fail
                        refine (hWz.out _).mono ?_; rintro e w10 ⟨rfl, rfl⟩
                        go_wp2_with fail
                        go_ret2
                        exact ⟨rfl, dd.out⟩
                    · have hz3 : (u != [90]) = true := by rw [bne, hz1]; rfl
                      have hz4 : (u != [122]) = false := by rw [bne, hz2]; rfl
                      rw [hz1, hz2] at hq
                      simp only [Bool.or_true, if_true] at hq
                      rw [hq] at hW0
                      clear hq hWz
                      go_wp2_with fail
                      refine (hW0.out _).mono ?_; rintro e w10 ⟨rfl, rfl⟩
                      go_wp2_with fail
                      go_ret2
                      exact ⟨rfl, dd.out⟩
                  · have hz3 : (u != [90]) = false := by rw [bne, hz1]; rfl
                    rw [hz1] at hq
                    simp only [Bool.true_or, if_true] at hq
                    rw [hq] at hW0
                    clear hq hWz
                    go_wp2_with fail
                    refine (hW0.out _).mono ?_; rintro e w10 ⟨rfl, rfl⟩
                    go_wp2_with fail
                    go_ret2
                    exact ⟨rfl, dd.out⟩
              · have hu2 := (frac_stop hne (fun h => j48 h.1)).symm.trans hu.out
                have hq := hq.out
                rw [← hu2] at hq
                clear hu2 hu
                replace hne := Lib.hid hne
                unfold r3339R3 at hq
                have hO := Lib.hid (fun W : World => offset13r_any (u) [58] W lS (by decide))
                have bO := offR_bd (u) [58]
                generalize offR (u) [58] = q at *
                obtain ⟨z, v⟩ := q
                simp only at hO bO
                obtain ⟨bO0, bO1⟩ := bO
                have hW0 := Lib.hid (fun W : World => whole13r_any y m d (n : Int) 0 W (by omega) (by omega) (by omega) (by omega) (by omega))
                have hWz := Lib.hid (fun W : World => whole13r_any y m d (n : Int) z W (by omega) (by omega) (by omega) (by omega) (by omega))
                cases hz1 : (u == [90])
                · cases hz2 : (u == [122])
                  · have hz3 : (u != [90]) = true := by rw [bne, hz1]; rfl
                    have hz4 : (u != [122]) = true := by rw [bne, hz2]; rfl
                    rw [hz1, hz2] at hq
                    simp only [Bool.or_self, Bool.false_eq_true, if_false] at hq
                    unfold r3339R4 at hq
                    simp only at hq
                    go_wp2_with fail
                    refine (hO.out _).mono ?_; rintro e w9 ⟨rfl, d9⟩
                    replace dd := Lib.hid (dd.out.trans d9)
                    clear d9
                    cases v
                    · replace hq := Lib.hid hq
                      go_wp2_with fail
                      go_ret2
                      exact ⟨ret_ob2 (show o = (0, false) from hq.out.symm) rfl, dd.out⟩
                    · simp only [if_true] at hq
                      rw [hq] at hWz
                      clear hq hW0
                      go_wp2_with fail
                      refine (hWz.out _).mono ?_; rintro e w10 ⟨rfl, rfl⟩
                      go_wp2_with fail
                      go_ret2
                      exact ⟨rfl, dd.out⟩
                  · have hz3 : (u != [90]) = true := by rw [bne, hz1]; rfl
                    have hz4 : (u != [122]) = false := by rw [bne, hz2]; rfl
                    rw [hz1, hz2] at hq
                    simp only [Bool.or_true, if_true] at hq
                    rw [hq] at hW0
                    clear hq hWz
                    go_wp2_with fail
                    refine (hW0.out _).mono ?_; rintro e w10 ⟨rfl, rfl⟩
                    go_wp2_with fail
                    go_ret2
                    exact ⟨rfl, dd.out⟩
                · have hz3 : (u != [90]) = false := by rw [bne, hz1]; rfl
                  rw [hz1] at hq
                  simp only [Bool.true_or, if_true] at hq
                  rw [hq] at hW0
                  clear hq hWz
                  go_wp2_with fail
                  refine (hW0.out _).mono ?_; rintro e w10 ⟨rfl, rfl⟩
                  go_wp2_with fail
                  go_ret2
                  exact ⟨rfl, dd.out⟩
          · rw [decide_eq_false k57, Bool.and_false] at hq
            simp only [Bool.false_eq_true, if_false] at hq
            have lS := lC
            unfold r3339R3 at hq
            have hO := Lib.hid (fun W : World => offset13r_any (s5) [58] W lS (by decide))
            have bO := offR_bd (s5) [58]
            generalize offR (s5) [58] = q at *
            obtain ⟨z, v⟩ := q
            simp only at hO bO
            obtain ⟨bO0, bO1⟩ := bO
            have hW0 := Lib.hid (fun W : World => whole13r_any y m d (n : Int) 0 W (by omega) (by omega) (by omega) (by omega) (by omega))
            have hWz := Lib.hid (fun W : World => whole13r_any y m d (n : Int) z W (by omega) (by omega) (by omega) (by omega) (by omega))
            cases hz1 : (s5 == [90])
            · cases hz2 : (s5 == [122])
              · have hz3 : (s5 != [90]) = true := by rw [bne, hz1]; rfl
                have hz4 : (s5 != [122]) = true := by rw [bne, hz2]; rfl
                rw [hz1, hz2] at hq
                simp only [Bool.or_self, Bool.false_eq_true, if_false] at hq
                unfold r3339R4 at hq
                simp only at hq
                go_wp2_with fail
                refine (hO.out _).mono ?_; rintro e w9 ⟨rfl, d9⟩
                replace dd := Lib.hid (dd.out.trans d9)
                clear d9
                cases v
                · replace hq := Lib.hid hq
                  go_wp2_with fail
                  go_ret2
                  exact ⟨ret_ob2 (show o = (0, false) from hq.out.symm) rfl, dd.out⟩
                · simp only [if_true] at hq
                  rw [hq] at hWz
                  clear hq hW0
                  go_wp2_with fail
                  refine (hWz.out _).mono ?_; rintro e w10 ⟨rfl, rfl⟩
                  go_wp2_with fail
                  go_ret2
                  exact ⟨rfl, dd.out⟩
              · have hz3 : (s5 != [90]) = true := by rw [bne, hz1]; rfl
                have hz4 : (s5 != [122]) = false := by rw [bne, hz2]; rfl
                rw [hz1, hz2] at hq
                simp only [Bool.or_true, if_true] at hq
                rw [hq] at hW0
                clear hq hWz
                go_wp2_with fail
                refine (hW0.out _).mono ?_; rintro e w10 ⟨rfl, rfl⟩
                go_wp2_with fail
                go_ret2
                exact ⟨rfl, dd.out⟩
            · have hz3 : (s5 != [90]) = false := by rw [bne, hz1]; rfl
              rw [hz1] at hq
              simp only [Bool.true_or, if_true] at hq
              rw [hq] at hW0
              clear hq hWz
              go_wp2_with fail
              refine (hW0.out _).mono ?_; rintro e w10 ⟨rfl, rfl⟩
              go_wp2_with fail
              go_ret2
              exact ⟨rfl, dd.out⟩
        · rw [decide_eq_false k48, Bool.and_false, Bool.false_and] at hq
          simp only [Bool.false_eq_true, if_false] at hq
          have lS := lC
          unfold r3339R3 at hq
          have hO := Lib.hid (fun W : World => offset13r_any (s5) [58] W lS (by decide))
          have bO := offR_bd (s5) [58]
          generalize offR (s5) [58] = q at *
          obtain ⟨z, v⟩ := q
          simp only at hO bO
          obtain ⟨bO0, bO1⟩ := bO
          have hW0 := Lib.hid (fun W : World => whole13r_any y m d (n : Int) 0 W (by omega) (by omega) (by omega) (by omega) (by omega))
          have hWz := Lib.hid (fun W : World => whole13r_any y m d (n : Int) z W (by omega) (by omega) (by omega) (by omega) (by omega))
          cases hz1 : (s5 == [90])
          · cases hz2 : (s5 == [122])
            · have hz3 : (s5 != [90]) = true := by rw [bne, hz1]; rfl
              have hz4 : (s5 != [122]) = true := by rw [bne, hz2]; rfl
              rw [hz1, hz2] at hq
              simp only [Bool.or_self, Bool.false_eq_true, if_false] at hq
              unfold r3339R4 at hq
              simp only at hq
              go_wp2_with fail
              refine (hO.out _).mono ?_; rintro e w9 ⟨rfl, d9⟩
              replace dd := Lib.hid (dd.out.trans d9)
              clear d9
              cases v
              · replace hq := Lib.hid hq
                go_wp2_with fail
                go_ret2
                exact ⟨ret_ob2 (show o = (0, false) from hq.out.symm) rfl, dd.out⟩
              · simp only [if_true] at hq
                rw [hq] at hWz
                clear hq hW0
                go_wp2_with fail
                refine (hWz.out _).mono ?_; rintro e w10 ⟨rfl, rfl⟩
                go_wp2_with fail
                go_ret2
                exact ⟨rfl, dd.out⟩
            · have hz3 : (s5 != [90]) = true := by rw [bne, hz1]; rfl
              have hz4 : (s5 != [122]) = false := by rw [bne, hz2]; rfl
              rw [hz1, hz2] at hq
              simp only [Bool.or_true, if_true] at hq
              rw [hq] at hW0
              clear hq hWz
              go_wp2_with fail
              refine (hW0.out _).mono ?_; rintro e w10 ⟨rfl, rfl⟩
              go_wp2_with fail
              go_ret2
              exact ⟨rfl, dd.out⟩
          · have hz3 : (s5 != [90]) = false := by rw [bne, hz1]; rfl
            rw [hz1] at hq
            simp only [Bool.true_or, if_true] at hq
            rw [hq] at hW0
            clear hq hWz
            go_wp2_with fail
            refine (hW0.out _).mono ?_; rintro e w10 ⟨rfl, rfl⟩
            go_wp2_with fail
            go_ret2
            exact ⟨rfl, dd.out⟩
      · rw [decide_eq_false k46, Bool.and_false, Bool.false_and, Bool.false_and] at hq
        simp only [Bool.false_eq_true, if_false] at hq
        have k47 : (bt s5 0 == 46) = false := by rw [beq_eq_false_iff_ne]; exact k46
        have lS := lC
        clear k46
        unfold r3339R3 at hq
        have hO := Lib.hid (fun W : World => offset13r_any (s5) [58] W lS (by decide))
        have bO := offR_bd (s5) [58]
        generalize offR (s5) [58] = q at *
        obtain ⟨z, v⟩ := q
        simp only at hO bO
        obtain ⟨bO0, bO1⟩ := bO
        have hW0 := Lib.hid (fun W : World => whole13r_any y m d (n : Int) 0 W (by omega) (by omega) (by omega) (by omega) (by omega))
        have hWz := Lib.hid (fun W : World => whole13r_any y m d (n : Int) z W (by omega) (by omega) (by omega) (by omega) (by omega))
        cases hz1 : (s5 == [90])
        · cases hz2 : (s5 == [122])
          · have hz3 : (s5 != [90]) = true := by rw [bne, hz1]; rfl
            have hz4 : (s5 != [122]) = true := by rw [bne, hz2]; rfl
            rw [hz1, hz2] at hq
            simp only [Bool.or_self, Bool.false_eq_true, if_false] at hq
            unfold r3339R4 at hq
            simp only at hq
            go_wp2_with fail
            refine (hO.out _).mono ?_; rintro e w9 ⟨rfl, d9⟩
            replace dd := Lib.hid (dd.out.trans d9)
            clear d9
            cases v
            · replace hq := Lib.hid hq
              go_wp2_with fail
              go_ret2
              exact ⟨ret_ob2 (show o = (0, false) from hq.out.symm) rfl, dd.out⟩
            · simp only [if_true] at hq
              rw [hq] at hWz
              clear hq hW0
              go_wp2_with fail
              refine (hWz.out _).mono ?_; rintro e w10 ⟨rfl, rfl⟩
              go_wp2_with fail
              go_ret2
              exact ⟨rfl, dd.out⟩
          · have hz3 : (s5 != [90]) = true := by rw [bne, hz1]; rfl
            have hz4 : (s5 != [122]) = false := by rw [bne, hz2]; rfl
            rw [hz1, hz2] at hq
            simp only [Bool.or_true, if_true] at hq
            rw [hq] at hW0
            clear hq hWz
            go_wp2_with fail
            refine (hW0.out _).mono ?_; rintro e w10 ⟨rfl, rfl⟩
            go_wp2_with fail
            go_ret2
            exact ⟨rfl, dd.out⟩
        · have hz3 : (s5 != [90]) = false := by rw [bne, hz1]; rfl
          rw [hz1] at hq
          simp only [Bool.true_or, if_true] at hq
          rw [hq] at hW0
          clear hq hWz
          go_wp2_with fail
          refine (hW0.out _).mono ?_; rintro e w10 ⟨rfl, rfl⟩
          go_wp2_with fail
          go_ret2
          exact ⟨rfl, dd.out⟩
    · rw [decide_eq_false k1, Bool.false_and, Bool.false_and, Bool.false_and] at hq
      simp only [Bool.false_eq_true, if_false] at hq
      have k1' : ¬ ((1 : Int) < s5.length) := by omega
      have lS := lC
      unfold r3339R3 at hq
      have hO := Lib.hid (fun W : World => offset13r_any (s5) [58] W lS (by decide))
      have bO := offR_bd (s5) [58]
      generalize offR (s5) [58] = q at *
      obtain ⟨z, v⟩ := q
      simp only at hO bO
      obtain ⟨bO0, bO1⟩ := bO
      have hW0 := Lib.hid (fun W : World => whole13r_any y m d (n : Int) 0 W (by omega) (by omega) (by omega) (by omega) (by omega))
      have hWz := Lib.hid (fun W : World => whole13r_any y m d (n : Int) z W (by omega) (by omega) (by omega) (by omega) (by omega))
      cases hz1 : (s5 == [90])
      · cases hz2 : (s5 == [122])
        · have hz3 : (s5 != [90]) = true := by rw [bne, hz1]; rfl
          have hz4 : (s5 != [122]) = true := by rw [bne, hz2]; rfl
          rw [hz1, hz2] at hq
          simp only [Bool.or_self, Bool.false_eq_true, if_false] at hq
          unfold r3339R4 at hq
          simp only at hq
          go_wp2_with fail
          refine (hO.out _).mono ?_; rintro e w9 ⟨rfl, d9⟩
          replace dd := Lib.hid (dd.out.trans d9)
          clear d9
          cases v
          · replace hq := Lib.hid hq
            go_wp2_with fail
            go_ret2
            exact ⟨ret_ob2 (show o = (0, false) from hq.out.symm) rfl, dd.out⟩
          · simp only [if_true] at hq
            rw [hq] at hWz
            clear hq hW0
            go_wp2_with fail
            refine (hWz.out _).mono ?_; rintro e w10 ⟨rfl, rfl⟩
            go_wp2_with fail
            go_ret2
            exact ⟨rfl, dd.out⟩
        · have hz3 : (s5 != [90]) = true := by rw [bne, hz1]; rfl
          have hz4 : (s5 != [122]) = false := by rw [bne, hz2]; rfl
          rw [hz1, hz2] at hq
          simp only [Bool.or_true, if_true] at hq
          rw [hq] at hW0
          clear hq hWz
          go_wp2_with fail
          refine (hW0.out _).mono ?_; rintro e w10 ⟨rfl, rfl⟩
          go_wp2_with fail
          go_ret2
          exact ⟨rfl, dd.out⟩
      · have hz3 : (s5 != [90]) = false := by rw [bne, hz1]; rfl
        rw [hz1] at hq
        simp only [Bool.true_or, if_true] at hq
        rw [hq] at hW0
        clear hq hWz
        go_wp2_with fail
        refine (hW0.out _).mono ?_; rintro e w10 ⟨rfl, rfl⟩
        go_wp2_with fail
        go_ret2
        exact ⟨rfl, dd.out⟩
  by_cases h116 : bt t 0 = 116
  · rw [h116] at hq
    clear h84
    simp only [decide_true, Bool.true_or, Bool.or_true, Bool.and_true, Bool.not_false, if_true] at hq
    go_wp2_with fail
    refine (hC.out _).mono ?_; rintro e w9 ⟨rfl, d9⟩
    replace dd := Lib.hid (dd.out.trans d9)
    clear d9 hC
    cases k
    · replace hq := Lib.hid hq
      go_wp2_with fail
      go_ret2
      exact ⟨ret_ob2 (show o = (0, false) from hq.out.symm) rfl, dd.out⟩
    simp only [if_true] at hq
    unfold fracR at hq
    by_cases k1 : 1 < s5.length
    · have k1' : (1 : Int) < s5.length := by omega
      have k2 : (1 : Int) ≤ s5.length := by omega
      have k0 : (0 : Int) < s5.length := by omega
      have k00 : 0 < s5.length := by omega
      rw [decide_eq_true k1] at hq
      by_cases k46 : bt s5 0 = 46
      · rw [decide_eq_true k46] at hq
        have hb1 := bt_lt s5 1
        by_cases k48 : 48 ≤ bt s5 1
        · rw [decide_eq_true k48] at hq
          by_cases k57 : bt s5 1 ≤ 57
          · rw [decide_eq_true k57] at hq
            simp only [Bool.and_self, if_true] at hq
            have hlt : s5.tail.length ≤ 100000000 := by rw [List.length_tail]; omega
            obtain ⟨v, hv⟩ : ∃ v, s5.tail.drop (aheadL s5.tail) = v := ⟨_, rfl⟩
            rw [hv] at hq
            replace hq := Lib.hid hq
            replace hv := Lib.hid hv
            go_wp2_with fail
            obtain ⟨wo, hwo⟩ : ∃ wo : World, w9 = wo := ⟨_, rfl⟩
            rw [hwo] at dd ⊢
            clear hwo
            go_loopw [0] (fun s wr => ∃ u : List UInt8, s = .string ⟨u.toArray⟩ ∧ u.length ≤ 100000000 ∧ Hid (u.drop (aheadL u) = v) ∧ Hid (wo = wr)) (fun s _ => strLen s)
            case atStart => exact ⟨s5.tail, rfl, hlt, hv, rfl⟩
            case round =>
              clear hv
              obtain ⟨u, rfl, lS, hu, hwr⟩ := hrel
              replace dd := Lib.hid (show Drawn w wr by rw [← hwr.out]; exact dd.out)
              by_cases hne : u = []
              · subst hne
                have hq := hq.out
                have hu2 := hu.out
                rw [List.drop_nil] at hu2
                obtain rfl := hu2
                clear hu
                have hq3 := hq; clear hq; have hq := hq3; clear hq3
                unfold r3339R3 at hq
                have hO := Lib.hid (fun W : World => offset13r_any (([] : List UInt8)) [58] W lS (by decide))
                have bO := offR_bd (([] : List UInt8)) [58]
                generalize offR (([] : List UInt8)) [58] = q at *
                obtain ⟨z, v⟩ := q
                simp only at hO bO
                obtain ⟨bO0, bO1⟩ := bO
                have hW0 := Lib.hid (fun W : World => whole13r_any y m d (n : Int) 0 W (by omega) (by omega) (by omega) (by omega) (by omega))
                have hWz := Lib.hid (fun W : World => whole13r_any y m d (n : Int) z W (by omega) (by omega) (by omega) (by omega) (by omega))
                cases hz1 : (([] : List UInt8) == [90])
                · cases hz2 : (([] : List UInt8) == [122])
                  · have hz3 : (([] : List UInt8) != [90]) = true := by rw [bne, hz1]; rfl
                    have hz4 : (([] : List UInt8) != [122]) = true := by rw [bne, hz2]; rfl
                    rw [hz1, hz2] at hq
                    simp only [Bool.or_self, Bool.false_eq_true, if_false] at hq
                    unfold r3339R4 at hq
                    simp only at hq
                    go_wp2_with fail
                    refine (hO.out _).mono ?_; rintro e w9 ⟨rfl, d9⟩
                    replace dd := Lib.hid (dd.out.trans d9)
                    clear d9
                    cases v
                    · replace hq := Lib.hid hq
                      go_wp2_with fail
                      go_ret2
                      exact ⟨ret_ob2 (show o = (0, false) from hq.out.symm) rfl, dd.out⟩
                    · simp only [if_true] at hq
                      rw [hq] at hWz
                      clear hq hW0
                      go_wp2_with fail
                      refine (hWz.out _).mono ?_; rintro e w10 ⟨rfl, rfl⟩
                      go_wp2_with fail
                      go_ret2
                      exact ⟨rfl, dd.out⟩
                  · have hz3 : (([] : List UInt8) != [90]) = true := by rw [bne, hz1]; rfl
                    have hz4 : (([] : List UInt8) != [122]) = false := by rw [bne, hz2]; rfl
                    rw [hz1, hz2] at hq
                    simp only [Bool.or_true, if_true] at hq
                    rw [hq] at hW0
                    clear hq hWz
                    go_wp2_with fail
                    refine (hW0.out _).mono ?_; rintro e w10 ⟨rfl, rfl⟩
                    go_wp2_with fail
                    go_ret2
                    exact ⟨rfl, dd.out⟩
                · have hz3 : (([] : List UInt8) != [90]) = false := by rw [bne, hz1]; rfl
                  rw [hz1] at hq
                  simp only [Bool.true_or, if_true] at hq
                  rw [hq] at hW0
                  clear hq hWz
                  go_wp2_with fail
                  refine (hW0.out _).mono ?_; rintro e w10 ⟨rfl, rfl⟩
                  go_wp2_with fail
                  go_ret2
                  exact ⟨rfl, dd.out⟩
              have hem : u.isEmpty = false := by cases u; exact absurd rfl hne; rfl
              have u0 : 0 < u.length := List.length_pos_iff.2 hne
              have u1 : (0 : Int) < u.length := by omega
              have u2 : (1 : Int) ≤ u.length := by omega
              have hub := bt_lt u 0
              by_cases j48 : 48 ≤ bt u 0
              · by_cases j57 : bt u 0 ≤ 57
                · have hu2 := Lib.hid ((frac_step hne j48 j57).symm.trans hu.out)
                  have hl2 : u.tail.length ≤ 100000000 := by rw [List.length_tail]; omega
                  have hl3 : u.tail.length < u.length := by rw [List.length_tail]; omega
                  replace hne := Lib.hid hne
                  clear hq
                  go_wp2_with fail
                  exact ⟨⟨u.tail, rfl, hl2, hu2, hwr⟩, by simp [strLen_mk]; omega⟩
                · have hu2 := (frac_stop hne (fun h => j57 h.2)).symm.trans hu.out
                  have hq := hq.out
                  rw [← hu2] at hq
                  clear hu2 hu
                  replace hne := Lib.hid hne
                  unfold r3339R3 at hq
                  have hO := Lib.hid (fun W : World => offset13r_any (u) [58] W lS (by decide))
                  have bO := offR_bd (u) [58]
                  generalize offR (u) [58] = q at *
                  obtain ⟨z, v⟩ := q
                  simp only at hO bO
                  obtain ⟨bO0, bO1⟩ := bO
                  have hW0 := Lib.hid (fun W : World => whole13r_any y m d (n : Int) 0 W (by omega) (by omega) (by omega) (by omega) (by omega))
                  have hWz := Lib.hid (fun W : World => whole13r_any y m d (n : Int) z W (by omega) (by omega) (by omega) (by omega) (by omega))
                  cases hz1 : (u == [90])
                  · cases hz2 : (u == [122])
                    · have hz3 : (u != [90]) = true := by rw [bne, hz1]; rfl
                      have hz4 : (u != [122]) = true := by rw [bne, hz2]; rfl
                      rw [hz1, hz2] at hq
                      simp only [Bool.or_self, Bool.false_eq_true, if_false] at hq
                      unfold r3339R4 at hq
                      simp only at hq
                      go_wp2_with fail
                      refine (hO.out _).mono ?_; rintro e w9 ⟨rfl, d9⟩
                      replace dd := Lib.hid (dd.out.trans d9)
                      clear d9
                      cases v
                      · replace hq := Lib.hid hq
                        go_wp2_with fail
                        go_ret2
                        exact ⟨ret_ob2 (show o = (0, false) from hq.out.symm) rfl, dd.out⟩
                      · simp only [if_true] at hq
                        rw [hq] at hWz
                        clear hq hW0
                        go_wp2_with fail
                        refine (hWz.out _).mono ?_; rintro e w10 ⟨rfl, rfl⟩
                        go_wp2_with fail
                        go_ret2
                        exact ⟨rfl, dd.out⟩
                    · have hz3 : (u != [90]) = true := by rw [bne, hz1]; rfl
                      have hz4 : (u != [122]) = false := by rw [bne, hz2]; rfl
                      rw [hz1, hz2] at hq
                      simp only [Bool.or_true, if_true] at hq
                      rw [hq] at hW0
                      clear hq hWz
                      go_wp2_with fail
                      refine (hW0.out _).mono ?_; rintro e w10 ⟨rfl, rfl⟩
                      go_wp2_with fail
                      go_ret2
                      exact ⟨rfl, dd.out⟩
                  · have hz3 : (u != [90]) = false := by rw [bne, hz1]; rfl
                    rw [hz1] at hq
                    simp only [Bool.true_or, if_true] at hq
                    rw [hq] at hW0
                    clear hq hWz
                    go_wp2_with fail
                    refine (hW0.out _).mono ?_; rintro e w10 ⟨rfl, rfl⟩
                    go_wp2_with fail
                    go_ret2
                    exact ⟨rfl, dd.out⟩
              · have hu2 := (frac_stop hne (fun h => j48 h.1)).symm.trans hu.out
                have hq := hq.out
                rw [← hu2] at hq
                clear hu2 hu
                replace hne := Lib.hid hne
                unfold r3339R3 at hq
                have hO := Lib.hid (fun W : World => offset13r_any (u) [58] W lS (by decide))
                have bO := offR_bd (u) [58]
                generalize offR (u) [58] = q at *
                obtain ⟨z, v⟩ := q
                simp only at hO bO
                obtain ⟨bO0, bO1⟩ := bO
                have hW0 := Lib.hid (fun W : World => whole13r_any y m d (n : Int) 0 W (by omega) (by omega) (by omega) (by omega) (by omega))
                have hWz := Lib.hid (fun W : World => whole13r_any y m d (n : Int) z W (by omega) (by omega) (by omega) (by omega) (by omega))
                cases hz1 : (u == [90])
                · cases hz2 : (u == [122])
                  · have hz3 : (u != [90]) = true := by rw [bne, hz1]; rfl
                    have hz4 : (u != [122]) = true := by rw [bne, hz2]; rfl
                    rw [hz1, hz2] at hq
                    simp only [Bool.or_self, Bool.false_eq_true, if_false] at hq
                    unfold r3339R4 at hq
                    simp only at hq
                    go_wp2_with fail
                    refine (hO.out _).mono ?_; rintro e w9 ⟨rfl, d9⟩
                    replace dd := Lib.hid (dd.out.trans d9)
                    clear d9
                    cases v
                    · replace hq := Lib.hid hq
                      go_wp2_with fail
                      go_ret2
                      exact ⟨ret_ob2 (show o = (0, false) from hq.out.symm) rfl, dd.out⟩
                    · simp only [if_true] at hq
                      rw [hq] at hWz
                      clear hq hW0
                      go_wp2_with fail
                      refine (hWz.out _).mono ?_; rintro e w10 ⟨rfl, rfl⟩
                      go_wp2_with fail
                      go_ret2
                      exact ⟨rfl, dd.out⟩
                  · have hz3 : (u != [90]) = true := by rw [bne, hz1]; rfl
                    have hz4 : (u != [122]) = false := by rw [bne, hz2]; rfl
                    rw [hz1, hz2] at hq
                    simp only [Bool.or_true, if_true] at hq
                    rw [hq] at hW0
                    clear hq hWz
                    go_wp2_with fail
                    refine (hW0.out _).mono ?_; rintro e w10 ⟨rfl, rfl⟩
                    go_wp2_with fail
                    go_ret2
                    exact ⟨rfl, dd.out⟩
                · have hz3 : (u != [90]) = false := by rw [bne, hz1]; rfl
                  rw [hz1] at hq
                  simp only [Bool.true_or, if_true] at hq
                  rw [hq] at hW0
                  clear hq hWz
                  go_wp2_with fail
                  refine (hW0.out _).mono ?_; rintro e w10 ⟨rfl, rfl⟩
                  go_wp2_with fail
                  go_ret2
                  exact ⟨rfl, dd.out⟩
          · rw [decide_eq_false k57, Bool.and_false] at hq
            simp only [Bool.false_eq_true, if_false] at hq
            have lS := lC
            unfold r3339R3 at hq
            have hO := Lib.hid (fun W : World => offset13r_any (s5) [58] W lS (by decide))
            have bO := offR_bd (s5) [58]
            generalize offR (s5) [58] = q at *
            obtain ⟨z, v⟩ := q
            simp only at hO bO
            obtain ⟨bO0, bO1⟩ := bO
            have hW0 := Lib.hid (fun W : World => whole13r_any y m d (n : Int) 0 W (by omega) (by omega) (by omega) (by omega) (by omega))
            have hWz := Lib.hid (fun W : World => whole13r_any y m d (n : Int) z W (by omega) (by omega) (by omega) (by omega) (by omega))
            cases hz1 : (s5 == [90])
            · cases hz2 : (s5 == [122])
              · have hz3 : (s5 != [90]) = true := by rw [bne, hz1]; rfl
                have hz4 : (s5 != [122]) = true := by rw [bne, hz2]; rfl
                rw [hz1, hz2] at hq
                simp only [Bool.or_self, Bool.false_eq_true, if_false] at hq
                unfold r3339R4 at hq
                simp only at hq
                go_wp2_with fail
                refine (hO.out _).mono ?_; rintro e w9 ⟨rfl, d9⟩
                replace dd := Lib.hid (dd.out.trans d9)
                clear d9
                cases v
                · replace hq := Lib.hid hq
                  go_wp2_with fail
                  go_ret2
                  exact ⟨ret_ob2 (show o = (0, false) from hq.out.symm) rfl, dd.out⟩
                · simp only [if_true] at hq
                  rw [hq] at hWz
                  clear hq hW0
                  go_wp2_with fail
                  refine (hWz.out _).mono ?_; rintro e w10 ⟨rfl, rfl⟩
                  go_wp2_with fail
                  go_ret2
                  exact ⟨rfl, dd.out⟩
              · have hz3 : (s5 != [90]) = true := by rw [bne, hz1]; rfl
                have hz4 : (s5 != [122]) = false := by rw [bne, hz2]; rfl
                rw [hz1, hz2] at hq
                simp only [Bool.or_true, if_true] at hq
                rw [hq] at hW0
                clear hq hWz
                go_wp2_with fail
                refine (hW0.out _).mono ?_; rintro e w10 ⟨rfl, rfl⟩
                go_wp2_with fail
                go_ret2
                exact ⟨rfl, dd.out⟩
            · have hz3 : (s5 != [90]) = false := by rw [bne, hz1]; rfl
              rw [hz1] at hq
              simp only [Bool.true_or, if_true] at hq
              rw [hq] at hW0
              clear hq hWz
              go_wp2_with fail
              refine (hW0.out _).mono ?_; rintro e w10 ⟨rfl, rfl⟩
              go_wp2_with fail
              go_ret2
              exact ⟨rfl, dd.out⟩
        · rw [decide_eq_false k48, Bool.and_false, Bool.false_and] at hq
          simp only [Bool.false_eq_true, if_false] at hq
          have lS := lC
          unfold r3339R3 at hq
          have hO := Lib.hid (fun W : World => offset13r_any (s5) [58] W lS (by decide))
          have bO := offR_bd (s5) [58]
          generalize offR (s5) [58] = q at *
          obtain ⟨z, v⟩ := q
          simp only at hO bO
          obtain ⟨bO0, bO1⟩ := bO
          have hW0 := Lib.hid (fun W : World => whole13r_any y m d (n : Int) 0 W (by omega) (by omega) (by omega) (by omega) (by omega))
          have hWz := Lib.hid (fun W : World => whole13r_any y m d (n : Int) z W (by omega) (by omega) (by omega) (by omega) (by omega))
          cases hz1 : (s5 == [90])
          · cases hz2 : (s5 == [122])
            · have hz3 : (s5 != [90]) = true := by rw [bne, hz1]; rfl
              have hz4 : (s5 != [122]) = true := by rw [bne, hz2]; rfl
              rw [hz1, hz2] at hq
              simp only [Bool.or_self, Bool.false_eq_true, if_false] at hq
              unfold r3339R4 at hq
              simp only at hq
              go_wp2_with fail
              refine (hO.out _).mono ?_; rintro e w9 ⟨rfl, d9⟩
              replace dd := Lib.hid (dd.out.trans d9)
              clear d9
              cases v
              · replace hq := Lib.hid hq
                go_wp2_with fail
                go_ret2
                exact ⟨ret_ob2 (show o = (0, false) from hq.out.symm) rfl, dd.out⟩
              · simp only [if_true] at hq
                rw [hq] at hWz
                clear hq hW0
                go_wp2_with fail
                refine (hWz.out _).mono ?_; rintro e w10 ⟨rfl, rfl⟩
                go_wp2_with fail
                go_ret2
                exact ⟨rfl, dd.out⟩
            · have hz3 : (s5 != [90]) = true := by rw [bne, hz1]; rfl
              have hz4 : (s5 != [122]) = false := by rw [bne, hz2]; rfl
              rw [hz1, hz2] at hq
              simp only [Bool.or_true, if_true] at hq
              rw [hq] at hW0
              clear hq hWz
              go_wp2_with fail
              refine (hW0.out _).mono ?_; rintro e w10 ⟨rfl, rfl⟩
              go_wp2_with fail
              go_ret2
              exact ⟨rfl, dd.out⟩
          · have hz3 : (s5 != [90]) = false := by rw [bne, hz1]; rfl
            rw [hz1] at hq
            simp only [Bool.true_or, if_true] at hq
            rw [hq] at hW0
            clear hq hWz
            go_wp2_with fail
            refine (hW0.out _).mono ?_; rintro e w10 ⟨rfl, rfl⟩
            go_wp2_with fail
            go_ret2
            exact ⟨rfl, dd.out⟩
      · rw [decide_eq_false k46, Bool.and_false, Bool.false_and, Bool.false_and] at hq
        simp only [Bool.false_eq_true, if_false] at hq
        have k47 : (bt s5 0 == 46) = false := by rw [beq_eq_false_iff_ne]; exact k46
        have lS := lC
        clear k46
        unfold r3339R3 at hq
        have hO := Lib.hid (fun W : World => offset13r_any (s5) [58] W lS (by decide))
        have bO := offR_bd (s5) [58]
        generalize offR (s5) [58] = q at *
        obtain ⟨z, v⟩ := q
        simp only at hO bO
        obtain ⟨bO0, bO1⟩ := bO
        have hW0 := Lib.hid (fun W : World => whole13r_any y m d (n : Int) 0 W (by omega) (by omega) (by omega) (by omega) (by omega))
        have hWz := Lib.hid (fun W : World => whole13r_any y m d (n : Int) z W (by omega) (by omega) (by omega) (by omega) (by omega))
        cases hz1 : (s5 == [90])
        · cases hz2 : (s5 == [122])
          · have hz3 : (s5 != [90]) = true := by rw [bne, hz1]; rfl
            have hz4 : (s5 != [122]) = true := by rw [bne, hz2]; rfl
            rw [hz1, hz2] at hq
            simp only [Bool.or_self, Bool.false_eq_true, if_false] at hq
            unfold r3339R4 at hq
            simp only at hq
            go_wp2_with fail
            refine (hO.out _).mono ?_; rintro e w9 ⟨rfl, d9⟩
            replace dd := Lib.hid (dd.out.trans d9)
            clear d9
            cases v
            · replace hq := Lib.hid hq
              go_wp2_with fail
              go_ret2
              exact ⟨ret_ob2 (show o = (0, false) from hq.out.symm) rfl, dd.out⟩
            · simp only [if_true] at hq
              rw [hq] at hWz
              clear hq hW0
              go_wp2_with fail
              refine (hWz.out _).mono ?_; rintro e w10 ⟨rfl, rfl⟩
              go_wp2_with fail
              go_ret2
              exact ⟨rfl, dd.out⟩
          · have hz3 : (s5 != [90]) = true := by rw [bne, hz1]; rfl
            have hz4 : (s5 != [122]) = false := by rw [bne, hz2]; rfl
            rw [hz1, hz2] at hq
            simp only [Bool.or_true, if_true] at hq
            rw [hq] at hW0
            clear hq hWz
            go_wp2_with fail
            refine (hW0.out _).mono ?_; rintro e w10 ⟨rfl, rfl⟩
            go_wp2_with fail
            go_ret2
            exact ⟨rfl, dd.out⟩
        · have hz3 : (s5 != [90]) = false := by rw [bne, hz1]; rfl
          rw [hz1] at hq
          simp only [Bool.true_or, if_true] at hq
          rw [hq] at hW0
          clear hq hWz
          go_wp2_with fail
          refine (hW0.out _).mono ?_; rintro e w10 ⟨rfl, rfl⟩
          go_wp2_with fail
          go_ret2
          exact ⟨rfl, dd.out⟩
    · rw [decide_eq_false k1, Bool.false_and, Bool.false_and, Bool.false_and] at hq
      simp only [Bool.false_eq_true, if_false] at hq
      have k1' : ¬ ((1 : Int) < s5.length) := by omega
      have lS := lC
      unfold r3339R3 at hq
      have hO := Lib.hid (fun W : World => offset13r_any (s5) [58] W lS (by decide))
      have bO := offR_bd (s5) [58]
      generalize offR (s5) [58] = q at *
      obtain ⟨z, v⟩ := q
      simp only at hO bO
      obtain ⟨bO0, bO1⟩ := bO
      have hW0 := Lib.hid (fun W : World => whole13r_any y m d (n : Int) 0 W (by omega) (by omega) (by omega) (by omega) (by omega))
      have hWz := Lib.hid (fun W : World => whole13r_any y m d (n : Int) z W (by omega) (by omega) (by omega) (by omega) (by omega))
      cases hz1 : (s5 == [90])
      · cases hz2 : (s5 == [122])
        · have hz3 : (s5 != [90]) = true := by rw [bne, hz1]; rfl
          have hz4 : (s5 != [122]) = true := by rw [bne, hz2]; rfl
          rw [hz1, hz2] at hq
          simp only [Bool.or_self, Bool.false_eq_true, if_false] at hq
          unfold r3339R4 at hq
          simp only at hq
          go_wp2_with fail
          refine (hO.out _).mono ?_; rintro e w9 ⟨rfl, d9⟩
          replace dd := Lib.hid (dd.out.trans d9)
          clear d9
          cases v
          · replace hq := Lib.hid hq
            go_wp2_with fail
            go_ret2
            exact ⟨ret_ob2 (show o = (0, false) from hq.out.symm) rfl, dd.out⟩
          · simp only [if_true] at hq
            rw [hq] at hWz
            clear hq hW0
            go_wp2_with fail
            refine (hWz.out _).mono ?_; rintro e w10 ⟨rfl, rfl⟩
            go_wp2_with fail
            go_ret2
            exact ⟨rfl, dd.out⟩
        · have hz3 : (s5 != [90]) = true := by rw [bne, hz1]; rfl
          have hz4 : (s5 != [122]) = false := by rw [bne, hz2]; rfl
          rw [hz1, hz2] at hq
          simp only [Bool.or_true, if_true] at hq
          rw [hq] at hW0
          clear hq hWz
          go_wp2_with fail
          refine (hW0.out _).mono ?_; rintro e w10 ⟨rfl, rfl⟩
          go_wp2_with fail
          go_ret2
          exact ⟨rfl, dd.out⟩
      · have hz3 : (s5 != [90]) = false := by rw [bne, hz1]; rfl
        rw [hz1] at hq
        simp only [Bool.true_or, if_true] at hq
        rw [hq] at hW0
        clear hq hWz
        go_wp2_with fail
        refine (hW0.out _).mono ?_; rintro e w10 ⟨rfl, rfl⟩
        go_wp2_with fail
        go_ret2
        exact ⟨rfl, dd.out⟩
  by_cases h32 : bt t 0 = 32
  · rw [h32] at hq
    clear h84 h116
    simp only [decide_true, Bool.or_true, Bool.and_true, Bool.not_false, if_true] at hq
    go_wp2_with fail
    refine (hC.out _).mono ?_; rintro e w9 ⟨rfl, d9⟩
    replace dd := Lib.hid (dd.out.trans d9)
    clear d9 hC
    cases k
    · replace hq := Lib.hid hq
      go_wp2_with fail
      go_ret2
      exact ⟨ret_ob2 (show o = (0, false) from hq.out.symm) rfl, dd.out⟩
    simp only [if_true] at hq
    unfold fracR at hq
    by_cases k1 : 1 < s5.length
    · have k1' : (1 : Int) < s5.length := by omega
      have k2 : (1 : Int) ≤ s5.length := by omega
      have k0 : (0 : Int) < s5.length := by omega
      have k00 : 0 < s5.length := by omega
      rw [decide_eq_true k1] at hq
      by_cases k46 : bt s5 0 = 46
      · rw [decide_eq_true k46] at hq
        have hb1 := bt_lt s5 1
        by_cases k48 : 48 ≤ bt s5 1
        · rw [decide_eq_true k48] at hq
          by_cases k57 : bt s5 1 ≤ 57
          · rw [decide_eq_true k57] at hq
            simp only [Bool.and_self, if_true] at hq
            have hlt : s5.tail.length ≤ 100000000 := by rw [List.length_tail]; omega
            obtain ⟨v, hv⟩ : ∃ v, s5.tail.drop (aheadL s5.tail) = v := ⟨_, rfl⟩
            rw [hv] at hq
            replace hq := Lib.hid hq
            replace hv := Lib.hid hv
            go_wp2_with fail
            obtain ⟨wo, hwo⟩ : ∃ wo : World, w9 = wo := ⟨_, rfl⟩
            rw [hwo] at dd ⊢
            clear hwo
            go_loopw [0] (fun s wr => ∃ u : List UInt8, s = .string ⟨u.toArray⟩ ∧ u.length ≤ 100000000 ∧ Hid (u.drop (aheadL u) = v) ∧ Hid (wo = wr)) (fun s _ => strLen s)
            case atStart => exact ⟨s5.tail, rfl, hlt, hv, rfl⟩
            case round =>
              clear hv
              obtain ⟨u, rfl, lS, hu, hwr⟩ := hrel
              replace dd := Lib.hid (show Drawn w wr by rw [← hwr.out]; exact dd.out)
              by_cases hne : u = []
              · subst hne
                have hq := hq.out
                have hu2 := hu.out
                rw [List.drop_nil] at hu2
                obtain rfl := hu2
                clear hu
                have hq3 := hq; clear hq; have hq := hq3; clear hq3
                unfold r3339R3 at hq
                have hO := Lib.hid (fun W : World => offset13r_any (([] : List UInt8)) [58] W lS (by decide))
                have bO := offR_bd (([] : List UInt8)) [58]
                generalize offR (([] : List UInt8)) [58] = q at *
                obtain ⟨z, v⟩ := q
                simp only at hO bO
                obtain ⟨bO0, bO1⟩ := bO
                have hW0 := Lib.hid (fun W : World => whole13r_any y m d (n : Int) 0 W (by omega) (by omega) (by omega) (by omega) (by omega))
                have hWz := Lib.hid (fun W : World => whole13r_any y m d (n : Int) z W (by omega) (by omega) (by omega) (by omega) (by omega))
                cases hz1 : (([] : List UInt8) == [90])
                · cases hz2 : (([] : List UInt8) == [122])
                  · have hz3 : (([] : List UInt8) != [90]) = true := by rw [bne, hz1]; rfl
                    have hz4 : (([] : List UInt8) != [122]) = true := by rw [bne, hz2]; rfl
                    rw [hz1, hz2] at hq
                    simp only [Bool.or_self, Bool.false_eq_true, if_false] at hq
                    unfold r3339R4 at hq
                    simp only at hq
                    go_wp2_with fail
                    refine (hO.out _).mono ?_; rintro e w9 ⟨rfl, d9⟩
                    replace dd := Lib.hid (dd.out.trans d9)
                    clear d9
                    cases v
                    · replace hq := Lib.hid hq
                      go_wp2_with fail
                      go_ret2
                      exact ⟨ret_ob2 (show o = (0, false) from hq.out.symm) rfl, dd.out⟩
                    · simp only [if_true] at hq
                      rw [hq] at hWz
                      clear hq hW0
                      go_wp2_with fail
                      refine (hWz.out _).mono ?_; rintro e w10 ⟨rfl, rfl⟩
                      go_wp2_with fail
                      go_ret2
                      exact ⟨rfl, dd.out⟩
                  · have hz3 : (([] : List UInt8) != [90]) = true := by rw [bne, hz1]; rfl
                    have hz4 : (([] : List UInt8) != [122]) = false := by rw [bne, hz2]; rfl
                    rw [hz1, hz2] at hq
                    simp only [Bool.or_true, if_true] at hq
                    rw [hq] at hW0
                    clear hq hWz
                    go_wp2_with fail
                    refine (hW0.out _).mono ?_; rintro e w10 ⟨rfl, rfl⟩
                    go_wp2_with fail
                    go_ret2
                    exact ⟨rfl, dd.out⟩
                · have hz3 : (([] : List UInt8) != [90]) = false := by rw [bne, hz1]; rfl
                  rw [hz1] at hq
                  simp only [Bool.true_or, if_true] at hq
                  rw [hq] at hW0
                  clear hq hWz
                  go_wp2_with fail
                  refine (hW0.out _).mono ?_; rintro e w10 ⟨rfl, rfl⟩
                  go_wp2_with fail
                  go_ret2
                  exact ⟨rfl, dd.out⟩
              have hem : u.isEmpty = false := by cases u; exact absurd rfl hne; rfl
              have u0 : 0 < u.length := List.length_pos_iff.2 hne
              have u1 : (0 : Int) < u.length := by omega
              have u2 : (1 : Int) ≤ u.length := by omega
              have hub := bt_lt u 0
              by_cases j48 : 48 ≤ bt u 0
              · by_cases j57 : bt u 0 ≤ 57
                · have hu2 := Lib.hid ((frac_step hne j48 j57).symm.trans hu.out)
                  have hl2 : u.tail.length ≤ 100000000 := by rw [List.length_tail]; omega
                  have hl3 : u.tail.length < u.length := by rw [List.length_tail]; omega
                  replace hne := Lib.hid hne
                  clear hq
                  go_wp2_with fail
                  exact ⟨⟨u.tail, rfl, hl2, hu2, hwr⟩, by simp [strLen_mk]; omega⟩
                · have hu2 := (frac_stop hne (fun h => j57 h.2)).symm.trans hu.out
                  have hq := hq.out
                  rw [← hu2] at hq
                  clear hu2 hu
                  replace hne := Lib.hid hne
                  unfold r3339R3 at hq
                  have hO := Lib.hid (fun W : World => offset13r_any (u) [58] W lS (by decide))
                  have bO := offR_bd (u) [58]
                  generalize offR (u) [58] = q at *
                  obtain ⟨z, v⟩ := q
                  simp only at hO bO
                  obtain ⟨bO0, bO1⟩ := bO
                  have hW0 := Lib.hid (fun W : World => whole13r_any y m d (n : Int) 0 W (by omega) (by omega) (by omega) (by omega) (by omega))
                  have hWz := Lib.hid (fun W : World => whole13r_any y m d (n : Int) z W (by omega) (by omega) (by omega) (by omega) (by omega))
                  cases hz1 : (u == [90])
                  · cases hz2 : (u == [122])
                    · have hz3 : (u != [90]) = true := by rw [bne, hz1]; rfl
                      have hz4 : (u != [122]) = true := by rw [bne, hz2]; rfl
                      rw [hz1, hz2] at hq
                      simp only [Bool.or_self, Bool.false_eq_true, if_false] at hq
                      unfold r3339R4 at hq
                      simp only at hq
                      go_wp2_with fail
                      refine (hO.out _).mono ?_; rintro e w9 ⟨rfl, d9⟩
                      replace dd := Lib.hid (dd.out.trans d9)
                      clear d9
                      cases v
                      · replace hq := Lib.hid hq
                        go_wp2_with fail
                        go_ret2
                        exact ⟨ret_ob2 (show o = (0, false) from hq.out.symm) rfl, dd.out⟩
                      · simp only [if_true] at hq
                        rw [hq] at hWz
                        clear hq hW0
                        go_wp2_with fail
                        refine (hWz.out _).mono ?_; rintro e w10 ⟨rfl, rfl⟩
                        go_wp2_with fail
                        go_ret2
                        exact ⟨rfl, dd.out⟩
                    · have hz3 : (u != [90]) = true := by rw [bne, hz1]; rfl
                      have hz4 : (u != [122]) = false := by rw [bne, hz2]; rfl
                      rw [hz1, hz2] at hq
                      simp only [Bool.or_true, if_true] at hq
                      rw [hq] at hW0
                      clear hq hWz
                      go_wp2_with fail
                      refine (hW0.out _).mono ?_; rintro e w10 ⟨rfl, rfl⟩
                      go_wp2_with fail
                      go_ret2
                      exact ⟨rfl, dd.out⟩
                  · have hz3 : (u != [90]) = false := by rw [bne, hz1]; rfl
                    rw [hz1] at hq
                    simp only [Bool.true_or, if_true] at hq
                    rw [hq] at hW0
                    clear hq hWz
                    go_wp2_with fail
                    refine (hW0.out _).mono ?_; rintro e w10 ⟨rfl, rfl⟩
                    go_wp2_with fail
                    go_ret2
                    exact ⟨rfl, dd.out⟩
              · have hu2 := (frac_stop hne (fun h => j48 h.1)).symm.trans hu.out
                have hq := hq.out
                rw [← hu2] at hq
                clear hu2 hu
                replace hne := Lib.hid hne
                unfold r3339R3 at hq
                have hO := Lib.hid (fun W : World => offset13r_any (u) [58] W lS (by decide))
                have bO := offR_bd (u) [58]
                generalize offR (u) [58] = q at *
                obtain ⟨z, v⟩ := q
                simp only at hO bO
                obtain ⟨bO0, bO1⟩ := bO
                have hW0 := Lib.hid (fun W : World => whole13r_any y m d (n : Int) 0 W (by omega) (by omega) (by omega) (by omega) (by omega))
                have hWz := Lib.hid (fun W : World => whole13r_any y m d (n : Int) z W (by omega) (by omega) (by omega) (by omega) (by omega))
                cases hz1 : (u == [90])
                · cases hz2 : (u == [122])
                  · have hz3 : (u != [90]) = true := by rw [bne, hz1]; rfl
                    have hz4 : (u != [122]) = true := by rw [bne, hz2]; rfl
                    rw [hz1, hz2] at hq
                    simp only [Bool.or_self, Bool.false_eq_true, if_false] at hq
                    unfold r3339R4 at hq
                    simp only at hq
                    go_wp2_with fail
                    refine (hO.out _).mono ?_; rintro e w9 ⟨rfl, d9⟩
                    replace dd := Lib.hid (dd.out.trans d9)
                    clear d9
                    cases v
                    · replace hq := Lib.hid hq
                      go_wp2_with fail
                      go_ret2
                      exact ⟨ret_ob2 (show o = (0, false) from hq.out.symm) rfl, dd.out⟩
                    · simp only [if_true] at hq
                      rw [hq] at hWz
                      clear hq hW0
                      go_wp2_with fail
                      refine (hWz.out _).mono ?_; rintro e w10 ⟨rfl, rfl⟩
                      go_wp2_with fail
                      go_ret2
                      exact ⟨rfl, dd.out⟩
                  · have hz3 : (u != [90]) = true := by rw [bne, hz1]; rfl
                    have hz4 : (u != [122]) = false := by rw [bne, hz2]; rfl
                    rw [hz1, hz2] at hq
                    simp only [Bool.or_true, if_true] at hq
                    rw [hq] at hW0
                    clear hq hWz
                    go_wp2_with fail
                    refine (hW0.out _).mono ?_; rintro e w10 ⟨rfl, rfl⟩
                    go_wp2_with fail
                    go_ret2
                    exact ⟨rfl, dd.out⟩
                · have hz3 : (u != [90]) = false := by rw [bne, hz1]; rfl
                  rw [hz1] at hq
                  simp only [Bool.true_or, if_true] at hq
                  rw [hq] at hW0
                  clear hq hWz
                  go_wp2_with fail
                  refine (hW0.out _).mono ?_; rintro e w10 ⟨rfl, rfl⟩
                  go_wp2_with fail
                  go_ret2
                  exact ⟨rfl, dd.out⟩
          · rw [decide_eq_false k57, Bool.and_false] at hq
            simp only [Bool.false_eq_true, if_false] at hq
            have lS := lC
            unfold r3339R3 at hq
            have hO := Lib.hid (fun W : World => offset13r_any (s5) [58] W lS (by decide))
            have bO := offR_bd (s5) [58]
            generalize offR (s5) [58] = q at *
            obtain ⟨z, v⟩ := q
            simp only at hO bO
            obtain ⟨bO0, bO1⟩ := bO
            have hW0 := Lib.hid (fun W : World => whole13r_any y m d (n : Int) 0 W (by omega) (by omega) (by omega) (by omega) (by omega))
            have hWz := Lib.hid (fun W : World => whole13r_any y m d (n : Int) z W (by omega) (by omega) (by omega) (by omega) (by omega))
            cases hz1 : (s5 == [90])
            · cases hz2 : (s5 == [122])
              · have hz3 : (s5 != [90]) = true := by rw [bne, hz1]; rfl
                have hz4 : (s5 != [122]) = true := by rw [bne, hz2]; rfl
                rw [hz1, hz2] at hq
                simp only [Bool.or_self, Bool.false_eq_true, if_false] at hq
                unfold r3339R4 at hq
                simp only at hq
                go_wp2_with fail
                refine (hO.out _).mono ?_; rintro e w9 ⟨rfl, d9⟩
                replace dd := Lib.hid (dd.out.trans d9)
                clear d9
                cases v
                · replace hq := Lib.hid hq
                  go_wp2_with fail
                  go_ret2
                  exact ⟨ret_ob2 (show o = (0, false) from hq.out.symm) rfl, dd.out⟩
                · simp only [if_true] at hq
                  rw [hq] at hWz
                  clear hq hW0
                  go_wp2_with fail
                  refine (hWz.out _).mono ?_; rintro e w10 ⟨rfl, rfl⟩
                  go_wp2_with fail
                  go_ret2
                  exact ⟨rfl, dd.out⟩
              · have hz3 : (s5 != [90]) = true := by rw [bne, hz1]; rfl
                have hz4 : (s5 != [122]) = false := by rw [bne, hz2]; rfl
                rw [hz1, hz2] at hq
                simp only [Bool.or_true, if_true] at hq
                rw [hq] at hW0
                clear hq hWz
                go_wp2_with fail
                refine (hW0.out _).mono ?_; rintro e w10 ⟨rfl, rfl⟩
                go_wp2_with fail
                go_ret2
                exact ⟨rfl, dd.out⟩
            · have hz3 : (s5 != [90]) = false := by rw [bne, hz1]; rfl
              rw [hz1] at hq
              simp only [Bool.true_or, if_true] at hq
              rw [hq] at hW0
              clear hq hWz
              go_wp2_with fail
              refine (hW0.out _).mono ?_; rintro e w10 ⟨rfl, rfl⟩
              go_wp2_with fail
              go_ret2
              exact ⟨rfl, dd.out⟩
        · rw [decide_eq_false k48, Bool.and_false, Bool.false_and] at hq
          simp only [Bool.false_eq_true, if_false] at hq
          have lS := lC
          unfold r3339R3 at hq
          have hO := Lib.hid (fun W : World => offset13r_any (s5) [58] W lS (by decide))
          have bO := offR_bd (s5) [58]
          generalize offR (s5) [58] = q at *
          obtain ⟨z, v⟩ := q
          simp only at hO bO
          obtain ⟨bO0, bO1⟩ := bO
          have hW0 := Lib.hid (fun W : World => whole13r_any y m d (n : Int) 0 W (by omega) (by omega) (by omega) (by omega) (by omega))
          have hWz := Lib.hid (fun W : World => whole13r_any y m d (n : Int) z W (by omega) (by omega) (by omega) (by omega) (by omega))
          cases hz1 : (s5 == [90])
          · cases hz2 : (s5 == [122])
            · have hz3 : (s5 != [90]) = true := by rw [bne, hz1]; rfl
              have hz4 : (s5 != [122]) = true := by rw [bne, hz2]; rfl
              rw [hz1, hz2] at hq
              simp only [Bool.or_self, Bool.false_eq_true, if_false] at hq
              unfold r3339R4 at hq
              simp only at hq
              go_wp2_with fail
              refine (hO.out _).mono ?_; rintro e w9 ⟨rfl, d9⟩
              replace dd := Lib.hid (dd.out.trans d9)
              clear d9
              cases v
              · replace hq := Lib.hid hq
                go_wp2_with fail
                go_ret2
                exact ⟨ret_ob2 (show o = (0, false) from hq.out.symm) rfl, dd.out⟩
              · simp only [if_true] at hq
                rw [hq] at hWz
                clear hq hW0
                go_wp2_with fail
                refine (hWz.out _).mono ?_; rintro e w10 ⟨rfl, rfl⟩
                go_wp2_with fail
                go_ret2
                exact ⟨rfl, dd.out⟩
            · have hz3 : (s5 != [90]) = true := by rw [bne, hz1]; rfl
              have hz4 : (s5 != [122]) = false := by rw [bne, hz2]; rfl
              rw [hz1, hz2] at hq
              simp only [Bool.or_true, if_true] at hq
              rw [hq] at hW0
              clear hq hWz
              go_wp2_with fail
              refine (hW0.out _).mono ?_; rintro e w10 ⟨rfl, rfl⟩
              go_wp2_with fail
              go_ret2
              exact ⟨rfl, dd.out⟩
          · have hz3 : (s5 != [90]) = false := by rw [bne, hz1]; rfl
            rw [hz1] at hq
            simp only [Bool.true_or, if_true] at hq
            rw [hq] at hW0
            clear hq hWz
            go_wp2_with fail
            refine (hW0.out _).mono ?_; rintro e w10 ⟨rfl, rfl⟩
            go_wp2_with fail
            go_ret2
            exact ⟨rfl, dd.out⟩
      · rw [decide_eq_false k46, Bool.and_false, Bool.false_and, Bool.false_and] at hq
        simp only [Bool.false_eq_true, if_false] at hq
        have k47 : (bt s5 0 == 46) = false := by rw [beq_eq_false_iff_ne]; exact k46
        have lS := lC
        clear k46
        unfold r3339R3 at hq
        have hO := Lib.hid (fun W : World => offset13r_any (s5) [58] W lS (by decide))
        have bO := offR_bd (s5) [58]
        generalize offR (s5) [58] = q at *
        obtain ⟨z, v⟩ := q
        simp only at hO bO
        obtain ⟨bO0, bO1⟩ := bO
        have hW0 := Lib.hid (fun W : World => whole13r_any y m d (n : Int) 0 W (by omega) (by omega) (by omega) (by omega) (by omega))
        have hWz := Lib.hid (fun W : World => whole13r_any y m d (n : Int) z W (by omega) (by omega) (by omega) (by omega) (by omega))
        cases hz1 : (s5 == [90])
        · cases hz2 : (s5 == [122])
          · have hz3 : (s5 != [90]) = true := by rw [bne, hz1]; rfl
            have hz4 : (s5 != [122]) = true := by rw [bne, hz2]; rfl
            rw [hz1, hz2] at hq
            simp only [Bool.or_self, Bool.false_eq_true, if_false] at hq
            unfold r3339R4 at hq
            simp only at hq
            go_wp2_with fail
            refine (hO.out _).mono ?_; rintro e w9 ⟨rfl, d9⟩
            replace dd := Lib.hid (dd.out.trans d9)
            clear d9
            cases v
            · replace hq := Lib.hid hq
              go_wp2_with fail
              go_ret2
              exact ⟨ret_ob2 (show o = (0, false) from hq.out.symm) rfl, dd.out⟩
            · simp only [if_true] at hq
              rw [hq] at hWz
              clear hq hW0
              go_wp2_with fail
              refine (hWz.out _).mono ?_; rintro e w10 ⟨rfl, rfl⟩
              go_wp2_with fail
              go_ret2
              exact ⟨rfl, dd.out⟩
          · have hz3 : (s5 != [90]) = true := by rw [bne, hz1]; rfl
            have hz4 : (s5 != [122]) = false := by rw [bne, hz2]; rfl
            rw [hz1, hz2] at hq
            simp only [Bool.or_true, if_true] at hq
            rw [hq] at hW0
            clear hq hWz
            go_wp2_with fail
            refine (hW0.out _).mono ?_; rintro e w10 ⟨rfl, rfl⟩
            go_wp2_with fail
            go_ret2
            exact ⟨rfl, dd.out⟩
        · have hz3 : (s5 != [90]) = false := by rw [bne, hz1]; rfl
          rw [hz1] at hq
          simp only [Bool.true_or, if_true] at hq
          rw [hq] at hW0
          clear hq hWz
          go_wp2_with fail
          refine (hW0.out _).mono ?_; rintro e w10 ⟨rfl, rfl⟩
          go_wp2_with fail
          go_ret2
          exact ⟨rfl, dd.out⟩
    · rw [decide_eq_false k1, Bool.false_and, Bool.false_and, Bool.false_and] at hq
      simp only [Bool.false_eq_true, if_false] at hq
      have k1' : ¬ ((1 : Int) < s5.length) := by omega
      have lS := lC
      unfold r3339R3 at hq
      have hO := Lib.hid (fun W : World => offset13r_any (s5) [58] W lS (by decide))
      have bO := offR_bd (s5) [58]
      generalize offR (s5) [58] = q at *
      obtain ⟨z, v⟩ := q
      simp only at hO bO
      obtain ⟨bO0, bO1⟩ := bO
      have hW0 := Lib.hid (fun W : World => whole13r_any y m d (n : Int) 0 W (by omega) (by omega) (by omega) (by omega) (by omega))
      have hWz := Lib.hid (fun W : World => whole13r_any y m d (n : Int) z W (by omega) (by omega) (by omega) (by omega) (by omega))
      cases hz1 : (s5 == [90])
      · cases hz2 : (s5 == [122])
        · have hz3 : (s5 != [90]) = true := by rw [bne, hz1]; rfl
          have hz4 : (s5 != [122]) = true := by rw [bne, hz2]; rfl
          rw [hz1, hz2] at hq
          simp only [Bool.or_self, Bool.false_eq_true, if_false] at hq
          unfold r3339R4 at hq
          simp only at hq
          go_wp2_with fail
          refine (hO.out _).mono ?_; rintro e w9 ⟨rfl, d9⟩
          replace dd := Lib.hid (dd.out.trans d9)
          clear d9
          cases v
          · replace hq := Lib.hid hq
            go_wp2_with fail
            go_ret2
            exact ⟨ret_ob2 (show o = (0, false) from hq.out.symm) rfl, dd.out⟩
          · simp only [if_true] at hq
            rw [hq] at hWz
            clear hq hW0
            go_wp2_with fail
            refine (hWz.out _).mono ?_; rintro e w10 ⟨rfl, rfl⟩
            go_wp2_with fail
            go_ret2
            exact ⟨rfl, dd.out⟩
        · have hz3 : (s5 != [90]) = true := by rw [bne, hz1]; rfl
          have hz4 : (s5 != [122]) = false := by rw [bne, hz2]; rfl
          rw [hz1, hz2] at hq
          simp only [Bool.or_true, if_true] at hq
          rw [hq] at hW0
          clear hq hWz
          go_wp2_with fail
          refine (hW0.out _).mono ?_; rintro e w10 ⟨rfl, rfl⟩
          go_wp2_with fail
          go_ret2
          exact ⟨rfl, dd.out⟩
      · have hz3 : (s5 != [90]) = false := by rw [bne, hz1]; rfl
        rw [hz1] at hq
        simp only [Bool.true_or, if_true] at hq
        rw [hq] at hW0
        clear hq hWz
        go_wp2_with fail
        refine (hW0.out _).mono ?_; rintro e w10 ⟨rfl, rfl⟩
        go_wp2_with fail
        go_ret2
        exact ⟨rfl, dd.out⟩
  · rw [decide_eq_false h84, decide_eq_false h116, decide_eq_false h32] at hq
    have i1 : (bt t 0 != 84) = true := by rw [bne_iff_ne]; exact h84
    have i2 : (bt t 0 != 116) = true := by rw [bne_iff_ne]; exact h116
    have i3 : (bt t 0 != 32) = true := by rw [bne_iff_ne]; exact h32
    clear h84 h116 h32
    replace hq := Lib.hid hq
    go_wp2_with fail
    go_ret2
    exact ⟨ret_ob2 (show o = (0, false) from hq.out.symm) rfl, dd.out⟩
end Go.Proofs.YtahohmdbiiknoaaGreatDoor
