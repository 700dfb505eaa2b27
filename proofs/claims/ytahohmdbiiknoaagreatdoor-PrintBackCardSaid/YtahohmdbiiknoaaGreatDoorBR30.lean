/- Layer 13, the reference: Rfc822. -/
import Derived.Test.YtahohmdbiiknoaaGreatDoorBR29
namespace Go.Proofs.YtahohmdbiiknoaaGreatDoor
open Go.RowKit

theorem yerR_bd (l : List UInt8) : (yerR l).1 ≤ 9999 := by
  have h4 := digR_bd 4 l
  have h2 := digR_bd 2 l
  unfold yerR
  generalize digR 4 l = p at *
  generalize digR 2 l = q at *
  split
  · show p.1 ≤ 9999; omega
  · show (if q.1 < 50 then 2000 + q.1 else 1900 + q.1) ≤ 9999
    split <;> omega
theorem yerR_len (l : List UInt8) : (yerR l).2.1.length ≤ l.length := by
  unfold yerR
  split
  · exact digR_len 4 l
  · exact digR_len 2 l
theorem clk2_bd (x : Nat) (u : List UInt8) (s : Bool) (t : List UInt8 × Bool) : (clk2 x u s t).1 ≤ x + 99 := by
  have h2 := digR_bd 2 t.1
  unfold clk2
  generalize digR 2 t.1 = q at *
  split
  · show x + q.1 ≤ x + 99; omega
  · show x ≤ x + 99; omega
theorem clkR_bd (l : List UInt8) (s : Bool) : (clkR l s).1 ≤ 100000 := by
  unfold clkR clk1
  generalize digR 2 l = h
  generalize sgR h.2.1 [58] = b
  generalize digR 2 b.1 = m
  split
  · rename_i hh
    simp only [Bool.and_eq_true, decide_eq_true_eq] at hh
    have := clk2_bd (3600 * h.1 + 60 * m.1) m.2.1 s (sgR m.2.1 [58])
    omega
  · simp
theorem clkR_len (l : List UInt8) (s : Bool) : (clkR l s).2.1.length ≤ l.length := by
  have h1 := digR_len 2 l
  have h2 := sgR_len (digR 2 l).2.1 [58]
  have h3 := digR_len 2 (sgR (digR 2 l).2.1 [58]).1
  unfold clkR clk1
  generalize digR 2 l = h at *
  generalize sgR h.2.1 [58] = b at *
  generalize digR 2 b.1 = m at *
  split
  · unfold clk2
    have h4 := sgR_len m.2.1 [58]
    generalize sgR m.2.1 [58] = t at *
    have h5 := digR_len 2 t.1
    generalize digR 2 t.1 = x at *
    split
    · show x.2.1.length ≤ _; omega
    · show m.2.1.length ≤ _; omega
  · simp
theorem offR_bd (l p : List UInt8) : -400000 ≤ (offR l p).1 ∧ (offR l p).1 ≤ 400000 := by
  unfold offR off1
  have h1 := digR_bd 2 (l.drop 1)
  generalize digR 2 (l.drop 1) = h at *
  have h3 := digR_bd 2 (sgR h.2.1 p).1
  generalize digR 2 (sgR h.2.1 p).1 = m at *
  split
  · exact ⟨by decide, by decide⟩
  · have e : ∀ c : Bool, -400000 ≤ (if c then -((3600 * h.1 + 60 * m.1 : Nat) : Int) else ((3600 * h.1 + 60 * m.1 : Nat) : Int)) ∧ (if c then -((3600 * h.1 + 60 * m.1 : Nat) : Int) else ((3600 * h.1 + 60 * m.1 : Nat) : Int)) ≤ 400000 := by
      intro c
      cases c
      · simp only [Bool.false_eq_true, if_false]; omega
      · simp only [if_true]; omega
    exact e _
theorem zonR_bd (l : List UInt8) : -400000 ≤ (zonR l).1 ∧ (zonR l).1 ≤ 400000 := by
  cases h : zoneNm l with
  | none => rw [zonR_none h]; exact offR_bd _ _
  | some z =>
    have := zoneNm_bd h
    rw [zonR_some h]
    show _ ≤ z * 3600 ∧ z * 3600 ≤ _
    omega

def headR (l : List UInt8) : List UInt8 := if decide (5 < l.length) && decide (0 < mIx 0 weekL (l.take 3)) && ((l.take 5).drop 3 == [44, 32]) then l.drop 5 else l
def r822R8 (d m y : Nat) (n : Nat × List UInt8 × Bool) (g : Bool) (z : Int × Bool) : Int × Bool := if n.2.2 && g && z.2 then wholeR y m d n.1 z.1 else (0, false)
def r822R7 (d m y : Nat) (n : Nat × List UInt8 × Bool) (g : List UInt8 × Bool) : Int × Bool := r822R8 d m y n g.2 (zonR g.1)
def r822R6 (d m y : Nat) (n : Nat × List UInt8 × Bool) : Int × Bool := r822R7 d m y n (sgR n.2.1 [32])
def r822R5 (d m : Nat) (y : Nat × List UInt8 × Bool) (e : List UInt8 × Bool) : Int × Bool := if y.2.2 && e.2 then r822R6 d m y.1 (clkR e.1 true) else (0, false)
def r822R4 (d m : Nat) (y : Nat × List UInt8 × Bool) : Int × Bool := r822R5 d m y (sgR y.2.1 [32])
def r822R3 (d : Nat × List UInt8 × Bool) (b : List UInt8 × Bool) : Int × Bool :=
  if d.2.2 && b.2 && decide (4 ≤ b.1.length) && decide (monIx (b.1.take 3) ≠ 0) && decide (bt b.1 3 = 32) then r822R4 d.1 (monIx (b.1.take 3)) (yerR (b.1.drop 4)) else (0, false)
def r822R2 (d : Nat × List UInt8 × Bool) : Int × Bool := r822R3 d (sgR d.2.1 [32])
def r822R1 (l : List UInt8) : Int × Bool := if (digR 2 l).2.2 then r822R2 (digR 2 l) else r822R2 (digR 1 l)
def r822R (l : List UInt8) : Int × Bool := r822R1 (headR l)
theorem headR_len (l : List UInt8) : (headR l).length ≤ l.length := by unfold headR; split <;> simp

set_option maxRecDepth 100000 in
set_option maxHeartbeats 8000000 in
theorem rfc822r_any (l : List UInt8) (w : World) (hl : l.length ≤ 100000000) : Calls Tryz.prog 59 #[.string ⟨l.toArray⟩] w fun e w' => e = .returned (.tuple #[.int .i64 (r822R l).1, .bool (r822R l).2]) ∧ Drawn w w' := by
  obtain ⟨o, ho⟩ : ∃ o, r822R l = o := ⟨_, rfl⟩
  rw [ho]
  unfold r822R at ho
  have hn := Lib.hid (fun W : World => names13r_any weekL week_three (by decide) (l.take 3) W)
  obtain ⟨l1, hl1⟩ : ∃ l1, headR l = l1 := ⟨_, rfl⟩
  have b1 : l1.length ≤ 100000000 := by rw [← hl1]; exact Nat.le_trans (headR_len l) hl
  rw [hl1] at ho
  unfold headR at hl1
  have hD2 := Lib.hid (fun W : World => digits13r_any 2 l1 W b1 (by omega))
  have hD1 := Lib.hid (fun W : World => digits13r_any 1 l1 W b1 (by omega))
  have l2 := Nat.le_trans (digR_len 2 l1) b1
  have l3 := Nat.le_trans (digR_len 1 l1) b1
  have bd2 := digR_bd 2 l1
  have bd1 := digR_bd 1 l1
  unfold r822R1 at ho
  generalize digR 2 l1 = p at *
  obtain ⟨x2, u2, a2⟩ := p
  generalize digR 1 l1 = p at *
  obtain ⟨x1, u1, a1⟩ := p
  unfold trV at hD2 hD1
  simp only at hD2 hD1 l2 l3 bd2 bd1 ho
  have bd1' : x1 < 100 := by omega
  have bd2' : x2 < 100 := by omega
  clear bd1 bd2
  replace ho := Lib.hid ho
  by_cases h5 : 5 < l.length
  · have h5' : (5 : Int) < l.length := by omega
    have h3 : (3 : Int) ≤ l.length := by omega
    have h55 : (5 : Int) ≤ l.length := by omega
    rw [decide_eq_true h5, Bool.true_and] at hl1
    by_cases hM : 0 < mIx 0 weekL (l.take 3)
    · rw [decide_eq_true hM, Bool.true_and] at hl1
      generalize mIx 0 weekL (l.take 3) = M at *
      have hM' : (0 : Int) < M := by omega
      cases hs : ((l.take 5).drop 3 == [44, 32])
      · rw [hs] at hl1
        obtain rfl : l = l1 := hl1
        go_enter Tryz.func59, Tryz.ntmps59
        go_wp2_with fail
        refine (hn.out _).mono ?_; rintro e w1 ⟨rfl, rfl⟩
        go_wp2_with fail
        refine (hD2.out _).mono ?_; rintro e w2 ⟨rfl, dd⟩
        replace dd := Lib.hid dd
        cases a2
        · have hq := ho.out
          simp only [Bool.false_eq_true, if_false] at hq
          clear ho hD2
          go_wp2_with fail
          refine (hD1.out _).mono ?_; rintro e w3 ⟨rfl, d3⟩
          replace dd := Lib.hid (dd.out.trans d3)
          clear d3
          unfold r822R2 at hq
          simp only at hq
          have hS := Lib.hid (fun W : World => sign13r_any u1 [32] W l3 (by decide))
          have lt := Nat.le_trans (sgR_len u1 [32]) l3
          generalize sgR u1 [32] = q at *
          obtain ⟨t, b⟩ := q
          simp only at hS lt hq
          unfold r822R3 at hq
          simp only at hq
          go_wp2_with fail
          refine (hS.out _).mono ?_; rintro e w4 ⟨rfl, rfl⟩
          cases a1
          · replace hq := Lib.hid hq
            go_wp2_with fail
            go_ret2
            exact ⟨ret_ob2 (show o = (0, false) from hq.out.symm) rfl, dd.out⟩
          cases b
          · replace hq := Lib.hid hq
            go_wp2_with fail
            go_ret2
            exact ⟨ret_ob2 (show o = (0, false) from hq.out.symm) rfl, dd.out⟩
          by_cases h4 : 4 ≤ t.length
          · have h4' : ¬ ((t.length : Int) < 4) := by omega
            have h4n : ¬ (t.length < 4) := by omega
            have h43 : (3 : Int) ≤ t.length := by omega
            have h44 : (4 : Int) ≤ t.length := by omega
            have h45 : (3 : Int) < t.length := by omega
            have h46 : 3 < t.length := by omega
            rw [decide_eq_true h4] at hq
            have hm := Lib.hid (fun W : World => rmonthr_any (t.take 3) W)
            have bm := monIx_le (t.take 3)
            generalize monIx (t.take 3) = m at *
            by_cases m0 : m = 0
            · subst m0
              replace hq := Lib.hid hq
              go_wp2_with fail
              refine (hm.out _).mono ?_; rintro e w5 ⟨rfl, rfl⟩
              go_wp2_with fail
              go_ret2
              exact ⟨ret_ob2 (show o = (0, false) from hq.out.symm) rfl, dd.out⟩
            have m1 : ((m : Int) == 0) = false := by rw [beq_eq_false_iff_ne]; omega
            have m2 : (m == 0) = false := by rw [beq_eq_false_iff_ne]; omega
            rw [decide_eq_true m0] at hq
            clear m0
            by_cases h32 : bt t 3 = 32
            · rw [decide_eq_true h32] at hq
              simp only [Bool.and_self, if_true] at hq
              unfold r822R4 at hq
              have hY := Lib.hid (fun W : World => year13r_any (t.drop 4) W (by rw [List.length_drop]; omega))
              have bY := yerR_bd (t.drop 4)
              have lY : (yerR (t.drop 4)).2.1.length ≤ 100000000 := Nat.le_trans (yerR_len (t.drop 4)) (by rw [List.length_drop]; omega)
              generalize yerR (t.drop 4) = q at *
              obtain ⟨y, u4, c⟩ := q
              unfold trV at hY
              simp only at hY bY lY hq
              have hE := Lib.hid (fun W : World => sign13r_any u4 [32] W lY (by decide))
              have lE := Nat.le_trans (sgR_len u4 [32]) lY
              generalize sgR u4 [32] = q at *
              obtain ⟨u5, f⟩ := q
              simp only at hE lE
              unfold r822R5 at hq
              simp only at hq
              have hC := Lib.hid (fun W : World => clock13r_any u5 true W lE)
              have bC := clkR_bd u5 true
              have lC := Nat.le_trans (clkR_len u5 true) lE
              generalize clkR u5 true = q at *
              obtain ⟨n, u6, g⟩ := q
              unfold trV at hC
              simp only at hC bC lC
              unfold r822R6 at hq
              simp only at hq
              have hG := Lib.hid (fun W : World => sign13r_any u6 [32] W lC (by decide))
              have lG := Nat.le_trans (sgR_len u6 [32]) lC
              generalize sgR u6 [32] = q at *
              obtain ⟨u7, k⟩ := q
              simp only at hG lG
              unfold r822R7 at hq
              simp only at hq
              have hZ := Lib.hid (fun W : World => zone13r_any u7 W lG)
              have bZ := zonR_bd u7
              generalize zonR u7 = q at *
              obtain ⟨z, v⟩ := q
              simp only at hZ bZ
              obtain ⟨bZ0, bZ1⟩ := bZ
              unfold r822R8 at hq
              simp only at hq
              have hWh := Lib.hid (fun W : World => whole13r_any y m x1 (n : Int) z W (by omega) (by omega) (by omega) (by omega) (by omega))
              go_wp2_with fail
              refine (hm.out _).mono ?_; rintro e w5 ⟨rfl, rfl⟩
              go_wp2_with fail
              refine (hm.out _).mono ?_; rintro e w6 ⟨rfl, rfl⟩
              go_wp2_with fail
              refine (hY.out _).mono ?_; rintro e w7 ⟨rfl, d7⟩
              replace dd := Lib.hid (dd.out.trans d7)
              clear d7
              go_wp2_with fail
              refine (hE.out _).mono ?_; rintro e w8 ⟨rfl, rfl⟩
              cases c
              · replace hq := Lib.hid hq
                go_wp2_with fail
                go_ret2
                exact ⟨ret_ob2 (show o = (0, false) from hq.out.symm) rfl, dd.out⟩
              cases f
              · replace hq := Lib.hid hq
                go_wp2_with fail
                go_ret2
                exact ⟨ret_ob2 (show o = (0, false) from hq.out.symm) rfl, dd.out⟩
              simp only [Bool.and_self, if_true] at hq
              go_wp2_with fail
              refine (hC.out _).mono ?_; rintro e w9 ⟨rfl, d9⟩
              replace dd := Lib.hid (dd.out.trans d9)
              clear d9
              go_wp2_with fail
              refine (hG.out _).mono ?_; rintro e w10 ⟨rfl, rfl⟩
              go_wp2_with fail
              refine (hZ.out _).mono ?_; rintro e w11 ⟨rfl, d11⟩
              replace dd := Lib.hid (dd.out.trans d11)
              clear d11
              cases g
              · replace hq := Lib.hid hq
                go_wp2_with fail
                go_ret2
                exact ⟨ret_ob2 (show o = (0, false) from hq.out.symm) rfl, dd.out⟩
              cases k
              · replace hq := Lib.hid hq
                go_wp2_with fail
                go_ret2
                exact ⟨ret_ob2 (show o = (0, false) from hq.out.symm) rfl, dd.out⟩
              cases v
              · replace hq := Lib.hid hq
                go_wp2_with fail
                go_ret2
                exact ⟨ret_ob2 (show o = (0, false) from hq.out.symm) rfl, dd.out⟩
              simp only [Bool.and_self, if_true] at hq
              rw [hq] at hWh
              clear hq
              go_wp2_with fail
              refine (hWh.out _).mono ?_; rintro e w12 ⟨rfl, rfl⟩
              go_wp2_with fail
              go_ret2
              exact ⟨rfl, dd.out⟩
            · rw [decide_eq_false h32, Bool.and_false] at hq
              have h33 : (bt t 3 != 32) = true := by rw [bne_iff_ne]; exact h32
              replace hq := Lib.hid hq
              clear h32
              go_wp2_with fail
              refine (hm.out _).mono ?_; rintro e w5 ⟨rfl, rfl⟩
              go_wp2_with fail
              go_ret2
              exact ⟨ret_ob2 (show o = (0, false) from hq.out.symm) rfl, dd.out⟩
          · rw [decide_eq_false h4] at hq
            have h4' : ((t.length : Int) < 4) := by omega
            have h4n : t.length < 4 := by omega
            replace hq := Lib.hid hq
            clear h4
            go_wp2_with fail
            go_ret2
            exact ⟨ret_ob2 (show o = (0, false) from hq.out.symm) rfl, dd.out⟩
        · have hq := ho.out
          simp only [if_true] at hq
          clear ho hD1 hD2
          unfold r822R2 at hq
          simp only at hq
          have hS := Lib.hid (fun W : World => sign13r_any u2 [32] W l2 (by decide))
          have lt := Nat.le_trans (sgR_len u2 [32]) l2
          generalize sgR u2 [32] = q at *
          obtain ⟨t, b⟩ := q
          simp only at hS lt hq
          unfold r822R3 at hq
          simp only at hq
          go_wp2_with fail
          refine (hS.out _).mono ?_; rintro e w4 ⟨rfl, rfl⟩
          cases b
          · replace hq := Lib.hid hq
            go_wp2_with fail
            go_ret2
            exact ⟨ret_ob2 (show o = (0, false) from hq.out.symm) rfl, dd.out⟩
          by_cases h4 : 4 ≤ t.length
          · have h4' : ¬ ((t.length : Int) < 4) := by omega
            have h4n : ¬ (t.length < 4) := by omega
            have h43 : (3 : Int) ≤ t.length := by omega
            have h44 : (4 : Int) ≤ t.length := by omega
            have h45 : (3 : Int) < t.length := by omega
            have h46 : 3 < t.length := by omega
            rw [decide_eq_true h4] at hq
            have hm := Lib.hid (fun W : World => rmonthr_any (t.take 3) W)
            have bm := monIx_le (t.take 3)
            generalize monIx (t.take 3) = m at *
            by_cases m0 : m = 0
            · subst m0
              replace hq := Lib.hid hq
              go_wp2_with fail
              refine (hm.out _).mono ?_; rintro e w5 ⟨rfl, rfl⟩
              go_wp2_with fail
              go_ret2
              exact ⟨ret_ob2 (show o = (0, false) from hq.out.symm) rfl, dd.out⟩
            have m1 : ((m : Int) == 0) = false := by rw [beq_eq_false_iff_ne]; omega
            have m2 : (m == 0) = false := by rw [beq_eq_false_iff_ne]; omega
            rw [decide_eq_true m0] at hq
            clear m0
            by_cases h32 : bt t 3 = 32
            · rw [decide_eq_true h32] at hq
              simp only [Bool.and_self, if_true] at hq
              unfold r822R4 at hq
              have hY := Lib.hid (fun W : World => year13r_any (t.drop 4) W (by rw [List.length_drop]; omega))
              have bY := yerR_bd (t.drop 4)
              have lY : (yerR (t.drop 4)).2.1.length ≤ 100000000 := Nat.le_trans (yerR_len (t.drop 4)) (by rw [List.length_drop]; omega)
              generalize yerR (t.drop 4) = q at *
              obtain ⟨y, u4, c⟩ := q
              unfold trV at hY
              simp only at hY bY lY hq
              have hE := Lib.hid (fun W : World => sign13r_any u4 [32] W lY (by decide))
              have lE := Nat.le_trans (sgR_len u4 [32]) lY
              generalize sgR u4 [32] = q at *
              obtain ⟨u5, f⟩ := q
              simp only at hE lE
              unfold r822R5 at hq
              simp only at hq
              have hC := Lib.hid (fun W : World => clock13r_any u5 true W lE)
              have bC := clkR_bd u5 true
              have lC := Nat.le_trans (clkR_len u5 true) lE
              generalize clkR u5 true = q at *
              obtain ⟨n, u6, g⟩ := q
              unfold trV at hC
              simp only at hC bC lC
              unfold r822R6 at hq
              simp only at hq
              have hG := Lib.hid (fun W : World => sign13r_any u6 [32] W lC (by decide))
              have lG := Nat.le_trans (sgR_len u6 [32]) lC
              generalize sgR u6 [32] = q at *
              obtain ⟨u7, k⟩ := q
              simp only at hG lG
              unfold r822R7 at hq
              simp only at hq
              have hZ := Lib.hid (fun W : World => zone13r_any u7 W lG)
              have bZ := zonR_bd u7
              generalize zonR u7 = q at *
              obtain ⟨z, v⟩ := q
              simp only at hZ bZ
              obtain ⟨bZ0, bZ1⟩ := bZ
              unfold r822R8 at hq
              simp only at hq
              have hWh := Lib.hid (fun W : World => whole13r_any y m x2 (n : Int) z W (by omega) (by omega) (by omega) (by omega) (by omega))
              go_wp2_with fail
              refine (hm.out _).mono ?_; rintro e w5 ⟨rfl, rfl⟩
              go_wp2_with fail
              refine (hm.out _).mono ?_; rintro e w6 ⟨rfl, rfl⟩
              go_wp2_with fail
              refine (hY.out _).mono ?_; rintro e w7 ⟨rfl, d7⟩
              replace dd := Lib.hid (dd.out.trans d7)
              clear d7
              go_wp2_with fail
              refine (hE.out _).mono ?_; rintro e w8 ⟨rfl, rfl⟩
              cases c
              · replace hq := Lib.hid hq
                go_wp2_with fail
                go_ret2
                exact ⟨ret_ob2 (show o = (0, false) from hq.out.symm) rfl, dd.out⟩
              cases f
              · replace hq := Lib.hid hq
                go_wp2_with fail
                go_ret2
                exact ⟨ret_ob2 (show o = (0, false) from hq.out.symm) rfl, dd.out⟩
              simp only [Bool.and_self, if_true] at hq
              go_wp2_with fail
              refine (hC.out _).mono ?_; rintro e w9 ⟨rfl, d9⟩
              replace dd := Lib.hid (dd.out.trans d9)
              clear d9
              go_wp2_with fail
              refine (hG.out _).mono ?_; rintro e w10 ⟨rfl, rfl⟩
              go_wp2_with fail
              refine (hZ.out _).mono ?_; rintro e w11 ⟨rfl, d11⟩
              replace dd := Lib.hid (dd.out.trans d11)
              clear d11
              cases g
              · replace hq := Lib.hid hq
                go_wp2_with fail
                go_ret2
                exact ⟨ret_ob2 (show o = (0, false) from hq.out.symm) rfl, dd.out⟩
              cases k
              · replace hq := Lib.hid hq
                go_wp2_with fail
                go_ret2
                exact ⟨ret_ob2 (show o = (0, false) from hq.out.symm) rfl, dd.out⟩
              cases v
              · replace hq := Lib.hid hq
                go_wp2_with fail
                go_ret2
                exact ⟨ret_ob2 (show o = (0, false) from hq.out.symm) rfl, dd.out⟩
              simp only [Bool.and_self, if_true] at hq
              rw [hq] at hWh
              clear hq
              go_wp2_with fail
              refine (hWh.out _).mono ?_; rintro e w12 ⟨rfl, rfl⟩
              go_wp2_with fail
              go_ret2
              exact ⟨rfl, dd.out⟩
            · rw [decide_eq_false h32, Bool.and_false] at hq
              have h33 : (bt t 3 != 32) = true := by rw [bne_iff_ne]; exact h32
              replace hq := Lib.hid hq
              clear h32
              go_wp2_with fail
              refine (hm.out _).mono ?_; rintro e w5 ⟨rfl, rfl⟩
              go_wp2_with fail
              go_ret2
              exact ⟨ret_ob2 (show o = (0, false) from hq.out.symm) rfl, dd.out⟩
          · rw [decide_eq_false h4] at hq
            have h4' : ((t.length : Int) < 4) := by omega
            have h4n : t.length < 4 := by omega
            replace hq := Lib.hid hq
            clear h4
            go_wp2_with fail
            go_ret2
            exact ⟨ret_ob2 (show o = (0, false) from hq.out.symm) rfl, dd.out⟩
      · rw [hs] at hl1
        obtain rfl : l.drop 5 = l1 := hl1
        go_enter Tryz.func59, Tryz.ntmps59
        go_wp2_with fail
        refine (hn.out _).mono ?_; rintro e w1 ⟨rfl, rfl⟩
        go_wp2_with fail
        refine (hD2.out _).mono ?_; rintro e w2 ⟨rfl, dd⟩
        replace dd := Lib.hid dd
        cases a2
        · have hq := ho.out
          simp only [Bool.false_eq_true, if_false] at hq
          clear ho hD2
          go_wp2_with fail
          refine (hD1.out _).mono ?_; rintro e w3 ⟨rfl, d3⟩
          replace dd := Lib.hid (dd.out.trans d3)
          clear d3
          unfold r822R2 at hq
          simp only at hq
          have hS := Lib.hid (fun W : World => sign13r_any u1 [32] W l3 (by decide))
          have lt := Nat.le_trans (sgR_len u1 [32]) l3
          generalize sgR u1 [32] = q at *
          obtain ⟨t, b⟩ := q
          simp only at hS lt hq
          unfold r822R3 at hq
          simp only at hq
          go_wp2_with fail
          refine (hS.out _).mono ?_; rintro e w4 ⟨rfl, rfl⟩
          cases a1
          · replace hq := Lib.hid hq
            go_wp2_with fail
            go_ret2
            exact ⟨ret_ob2 (show o = (0, false) from hq.out.symm) rfl, dd.out⟩
          cases b
          · replace hq := Lib.hid hq
            go_wp2_with fail
            go_ret2
            exact ⟨ret_ob2 (show o = (0, false) from hq.out.symm) rfl, dd.out⟩
          by_cases h4 : 4 ≤ t.length
          · have h4' : ¬ ((t.length : Int) < 4) := by omega
            have h4n : ¬ (t.length < 4) := by omega
            have h43 : (3 : Int) ≤ t.length := by omega
            have h44 : (4 : Int) ≤ t.length := by omega
            have h45 : (3 : Int) < t.length := by omega
            have h46 : 3 < t.length := by omega
            rw [decide_eq_true h4] at hq
            have hm := Lib.hid (fun W : World => rmonthr_any (t.take 3) W)
            have bm := monIx_le (t.take 3)
            generalize monIx (t.take 3) = m at *
            by_cases m0 : m = 0
            · subst m0
              replace hq := Lib.hid hq
              go_wp2_with fail
              refine (hm.out _).mono ?_; rintro e w5 ⟨rfl, rfl⟩
              go_wp2_with fail
              go_ret2
              exact ⟨ret_ob2 (show o = (0, false) from hq.out.symm) rfl, dd.out⟩
            have m1 : ((m : Int) == 0) = false := by rw [beq_eq_false_iff_ne]; omega
            have m2 : (m == 0) = false := by rw [beq_eq_false_iff_ne]; omega
            rw [decide_eq_true m0] at hq
            clear m0
            by_cases h32 : bt t 3 = 32
            · rw [decide_eq_true h32] at hq
              simp only [Bool.and_self, if_true] at hq
              unfold r822R4 at hq
              have hY := Lib.hid (fun W : World => year13r_any (t.drop 4) W (by rw [List.length_drop]; omega))
              have bY := yerR_bd (t.drop 4)
              have lY : (yerR (t.drop 4)).2.1.length ≤ 100000000 := Nat.le_trans (yerR_len (t.drop 4)) (by rw [List.length_drop]; omega)
              generalize yerR (t.drop 4) = q at *
              obtain ⟨y, u4, c⟩ := q
              unfold trV at hY
              simp only at hY bY lY hq
              have hE := Lib.hid (fun W : World => sign13r_any u4 [32] W lY (by decide))
              have lE := Nat.le_trans (sgR_len u4 [32]) lY
              generalize sgR u4 [32] = q at *
              obtain ⟨u5, f⟩ := q
              simp only at hE lE
              unfold r822R5 at hq
              simp only at hq
              have hC := Lib.hid (fun W : World => clock13r_any u5 true W lE)
              have bC := clkR_bd u5 true
              have lC := Nat.le_trans (clkR_len u5 true) lE
              generalize clkR u5 true = q at *
              obtain ⟨n, u6, g⟩ := q
              unfold trV at hC
              simp only at hC bC lC
              unfold r822R6 at hq
              simp only at hq
              have hG := Lib.hid (fun W : World => sign13r_any u6 [32] W lC (by decide))
              have lG := Nat.le_trans (sgR_len u6 [32]) lC
              generalize sgR u6 [32] = q at *
              obtain ⟨u7, k⟩ := q
              simp only at hG lG
              unfold r822R7 at hq
              simp only at hq
              have hZ := Lib.hid (fun W : World => zone13r_any u7 W lG)
              have bZ := zonR_bd u7
              generalize zonR u7 = q at *
              obtain ⟨z, v⟩ := q
              simp only at hZ bZ
              obtain ⟨bZ0, bZ1⟩ := bZ
              unfold r822R8 at hq
              simp only at hq
              have hWh := Lib.hid (fun W : World => whole13r_any y m x1 (n : Int) z W (by omega) (by omega) (by omega) (by omega) (by omega))
              go_wp2_with fail
              refine (hm.out _).mono ?_; rintro e w5 ⟨rfl, rfl⟩
              go_wp2_with fail
              refine (hm.out _).mono ?_; rintro e w6 ⟨rfl, rfl⟩
              go_wp2_with fail
              refine (hY.out _).mono ?_; rintro e w7 ⟨rfl, d7⟩
              replace dd := Lib.hid (dd.out.trans d7)
              clear d7
              go_wp2_with fail
              refine (hE.out _).mono ?_; rintro e w8 ⟨rfl, rfl⟩
              cases c
              · replace hq := Lib.hid hq
                go_wp2_with fail
                go_ret2
                exact ⟨ret_ob2 (show o = (0, false) from hq.out.symm) rfl, dd.out⟩
              cases f
              · replace hq := Lib.hid hq
                go_wp2_with fail
                go_ret2
                exact ⟨ret_ob2 (show o = (0, false) from hq.out.symm) rfl, dd.out⟩
              simp only [Bool.and_self, if_true] at hq
              go_wp2_with fail
              refine (hC.out _).mono ?_; rintro e w9 ⟨rfl, d9⟩
              replace dd := Lib.hid (dd.out.trans d9)
              clear d9
              go_wp2_with fail
              refine (hG.out _).mono ?_; rintro e w10 ⟨rfl, rfl⟩
              go_wp2_with fail
              refine (hZ.out _).mono ?_; rintro e w11 ⟨rfl, d11⟩
              replace dd := Lib.hid (dd.out.trans d11)
              clear d11
              cases g
              · replace hq := Lib.hid hq
                go_wp2_with fail
                go_ret2
                exact ⟨ret_ob2 (show o = (0, false) from hq.out.symm) rfl, dd.out⟩
              cases k
              · replace hq := Lib.hid hq
                go_wp2_with fail
                go_ret2
                exact ⟨ret_ob2 (show o = (0, false) from hq.out.symm) rfl, dd.out⟩
              cases v
              · replace hq := Lib.hid hq
                go_wp2_with fail
                go_ret2
                exact ⟨ret_ob2 (show o = (0, false) from hq.out.symm) rfl, dd.out⟩
              simp only [Bool.and_self, if_true] at hq
              rw [hq] at hWh
              clear hq
              go_wp2_with fail
              refine (hWh.out _).mono ?_; rintro e w12 ⟨rfl, rfl⟩
              go_wp2_with fail
              go_ret2
              exact ⟨rfl, dd.out⟩
            · rw [decide_eq_false h32, Bool.and_false] at hq
              have h33 : (bt t 3 != 32) = true := by rw [bne_iff_ne]; exact h32
              replace hq := Lib.hid hq
              clear h32
              go_wp2_with fail
              refine (hm.out _).mono ?_; rintro e w5 ⟨rfl, rfl⟩
              go_wp2_with fail
              go_ret2
              exact ⟨ret_ob2 (show o = (0, false) from hq.out.symm) rfl, dd.out⟩
          · rw [decide_eq_false h4] at hq
            have h4' : ((t.length : Int) < 4) := by omega
            have h4n : t.length < 4 := by omega
            replace hq := Lib.hid hq
            clear h4
            go_wp2_with fail
            go_ret2
            exact ⟨ret_ob2 (show o = (0, false) from hq.out.symm) rfl, dd.out⟩
        · have hq := ho.out
          simp only [if_true] at hq
          clear ho hD1 hD2
          unfold r822R2 at hq
          simp only at hq
          have hS := Lib.hid (fun W : World => sign13r_any u2 [32] W l2 (by decide))
          have lt := Nat.le_trans (sgR_len u2 [32]) l2
          generalize sgR u2 [32] = q at *
          obtain ⟨t, b⟩ := q
          simp only at hS lt hq
          unfold r822R3 at hq
          simp only at hq
          go_wp2_with fail
          refine (hS.out _).mono ?_; rintro e w4 ⟨rfl, rfl⟩
          cases b
          · replace hq := Lib.hid hq
            go_wp2_with fail
            go_ret2
            exact ⟨ret_ob2 (show o = (0, false) from hq.out.symm) rfl, dd.out⟩
          by_cases h4 : 4 ≤ t.length
          · have h4' : ¬ ((t.length : Int) < 4) := by omega
            have h4n : ¬ (t.length < 4) := by omega
            have h43 : (3 : Int) ≤ t.length := by omega
            have h44 : (4 : Int) ≤ t.length := by omega
            have h45 : (3 : Int) < t.length := by omega
            have h46 : 3 < t.length := by omega
            rw [decide_eq_true h4] at hq
            have hm := Lib.hid (fun W : World => rmonthr_any (t.take 3) W)
            have bm := monIx_le (t.take 3)
            generalize monIx (t.take 3) = m at *
            by_cases m0 : m = 0
            · subst m0
              replace hq := Lib.hid hq
              go_wp2_with fail
              refine (hm.out _).mono ?_; rintro e w5 ⟨rfl, rfl⟩
              go_wp2_with fail
              go_ret2
              exact ⟨ret_ob2 (show o = (0, false) from hq.out.symm) rfl, dd.out⟩
            have m1 : ((m : Int) == 0) = false := by rw [beq_eq_false_iff_ne]; omega
            have m2 : (m == 0) = false := by rw [beq_eq_false_iff_ne]; omega
            rw [decide_eq_true m0] at hq
            clear m0
            by_cases h32 : bt t 3 = 32
            · rw [decide_eq_true h32] at hq
              simp only [Bool.and_self, if_true] at hq
              unfold r822R4 at hq
              have hY := Lib.hid (fun W : World => year13r_any (t.drop 4) W (by rw [List.length_drop]; omega))
              have bY := yerR_bd (t.drop 4)
              have lY : (yerR (t.drop 4)).2.1.length ≤ 100000000 := Nat.le_trans (yerR_len (t.drop 4)) (by rw [List.length_drop]; omega)
              generalize yerR (t.drop 4) = q at *
              obtain ⟨y, u4, c⟩ := q
              unfold trV at hY
              simp only at hY bY lY hq
              have hE := Lib.hid (fun W : World => sign13r_any u4 [32] W lY (by decide))
              have lE := Nat.le_trans (sgR_len u4 [32]) lY
              generalize sgR u4 [32] = q at *
              obtain ⟨u5, f⟩ := q
              simp only at hE lE
              unfold r822R5 at hq
              simp only at hq
              have hC := Lib.hid (fun W : World => clock13r_any u5 true W lE)
              have bC := clkR_bd u5 true
              have lC := Nat.le_trans (clkR_len u5 true) lE
              generalize clkR u5 true = q at *
              obtain ⟨n, u6, g⟩ := q
              unfold trV at hC
              simp only at hC bC lC
              unfold r822R6 at hq
              simp only at hq
              have hG := Lib.hid (fun W : World => sign13r_any u6 [32] W lC (by decide))
              have lG := Nat.le_trans (sgR_len u6 [32]) lC
              generalize sgR u6 [32] = q at *
              obtain ⟨u7, k⟩ := q
              simp only at hG lG
              unfold r822R7 at hq
              simp only at hq
              have hZ := Lib.hid (fun W : World => zone13r_any u7 W lG)
              have bZ := zonR_bd u7
              generalize zonR u7 = q at *
              obtain ⟨z, v⟩ := q
              simp only at hZ bZ
              obtain ⟨bZ0, bZ1⟩ := bZ
              unfold r822R8 at hq
              simp only at hq
              have hWh := Lib.hid (fun W : World => whole13r_any y m x2 (n : Int) z W (by omega) (by omega) (by omega) (by omega) (by omega))
              go_wp2_with fail
              refine (hm.out _).mono ?_; rintro e w5 ⟨rfl, rfl⟩
              go_wp2_with fail
              refine (hm.out _).mono ?_; rintro e w6 ⟨rfl, rfl⟩
              go_wp2_with fail
              refine (hY.out _).mono ?_; rintro e w7 ⟨rfl, d7⟩
              replace dd := Lib.hid (dd.out.trans d7)
              clear d7
              go_wp2_with fail
              refine (hE.out _).mono ?_; rintro e w8 ⟨rfl, rfl⟩
              cases c
              · replace hq := Lib.hid hq
                go_wp2_with fail
                go_ret2
                exact ⟨ret_ob2 (show o = (0, false) from hq.out.symm) rfl, dd.out⟩
              cases f
              · replace hq := Lib.hid hq
                go_wp2_with fail
                go_ret2
                exact ⟨ret_ob2 (show o = (0, false) from hq.out.symm) rfl, dd.out⟩
              simp only [Bool.and_self, if_true] at hq
              go_wp2_with fail
              refine (hC.out _).mono ?_; rintro e w9 ⟨rfl, d9⟩
              replace dd := Lib.hid (dd.out.trans d9)
              clear d9
              go_wp2_with fail
              refine (hG.out _).mono ?_; rintro e w10 ⟨rfl, rfl⟩
              go_wp2_with fail
              refine (hZ.out _).mono ?_; rintro e w11 ⟨rfl, d11⟩
              replace dd := Lib.hid (dd.out.trans d11)
              clear d11
              cases g
              · replace hq := Lib.hid hq
                go_wp2_with fail
                go_ret2
                exact ⟨ret_ob2 (show o = (0, false) from hq.out.symm) rfl, dd.out⟩
              cases k
              · replace hq := Lib.hid hq
                go_wp2_with fail
                go_ret2
                exact ⟨ret_ob2 (show o = (0, false) from hq.out.symm) rfl, dd.out⟩
              cases v
              · replace hq := Lib.hid hq
                go_wp2_with fail
                go_ret2
                exact ⟨ret_ob2 (show o = (0, false) from hq.out.symm) rfl, dd.out⟩
              simp only [Bool.and_self, if_true] at hq
              rw [hq] at hWh
              clear hq
              go_wp2_with fail
              refine (hWh.out _).mono ?_; rintro e w12 ⟨rfl, rfl⟩
              go_wp2_with fail
              go_ret2
              exact ⟨rfl, dd.out⟩
            · rw [decide_eq_false h32, Bool.and_false] at hq
              have h33 : (bt t 3 != 32) = true := by rw [bne_iff_ne]; exact h32
              replace hq := Lib.hid hq
              clear h32
              go_wp2_with fail
              refine (hm.out _).mono ?_; rintro e w5 ⟨rfl, rfl⟩
              go_wp2_with fail
              go_ret2
              exact ⟨ret_ob2 (show o = (0, false) from hq.out.symm) rfl, dd.out⟩
          · rw [decide_eq_false h4] at hq
            have h4' : ((t.length : Int) < 4) := by omega
            have h4n : t.length < 4 := by omega
            replace hq := Lib.hid hq
            clear h4
            go_wp2_with fail
            go_ret2
            exact ⟨ret_ob2 (show o = (0, false) from hq.out.symm) rfl, dd.out⟩
    · have hM0 : mIx 0 weekL (l.take 3) = 0 := by omega
      rw [decide_eq_false hM, Bool.false_and] at hl1
      rw [hM0] at hn
      obtain rfl : l = l1 := hl1
      clear hM hM0
      go_enter Tryz.func59, Tryz.ntmps59
      go_wp2_with fail
      refine (hn.out _).mono ?_; rintro e w1 ⟨rfl, rfl⟩
      go_wp2_with fail
      refine (hD2.out _).mono ?_; rintro e w2 ⟨rfl, dd⟩
      replace dd := Lib.hid dd
      cases a2
      · have hq := ho.out
        simp only [Bool.false_eq_true, if_false] at hq
        clear ho hD2
        go_wp2_with fail
        refine (hD1.out _).mono ?_; rintro e w3 ⟨rfl, d3⟩
        replace dd := Lib.hid (dd.out.trans d3)
        clear d3
        unfold r822R2 at hq
        simp only at hq
        have hS := Lib.hid (fun W : World => sign13r_any u1 [32] W l3 (by decide))
        have lt := Nat.le_trans (sgR_len u1 [32]) l3
        generalize sgR u1 [32] = q at *
        obtain ⟨t, b⟩ := q
        simp only at hS lt hq
        unfold r822R3 at hq
        simp only at hq
        go_wp2_with fail
        refine (hS.out _).mono ?_; rintro e w4 ⟨rfl, rfl⟩
        cases a1
        · replace hq := Lib.hid hq
          go_wp2_with fail
          go_ret2
          exact ⟨ret_ob2 (show o = (0, false) from hq.out.symm) rfl, dd.out⟩
        cases b
        · replace hq := Lib.hid hq
          go_wp2_with fail
          go_ret2
          exact ⟨ret_ob2 (show o = (0, false) from hq.out.symm) rfl, dd.out⟩
        by_cases h4 : 4 ≤ t.length
        · have h4' : ¬ ((t.length : Int) < 4) := by omega
          have h4n : ¬ (t.length < 4) := by omega
          have h43 : (3 : Int) ≤ t.length := by omega
          have h44 : (4 : Int) ≤ t.length := by omega
          have h45 : (3 : Int) < t.length := by omega
          have h46 : 3 < t.length := by omega
          rw [decide_eq_true h4] at hq
          have hm := Lib.hid (fun W : World => rmonthr_any (t.take 3) W)
          have bm := monIx_le (t.take 3)
          generalize monIx (t.take 3) = m at *
          by_cases m0 : m = 0
          · subst m0
            replace hq := Lib.hid hq
            go_wp2_with fail
            refine (hm.out _).mono ?_; rintro e w5 ⟨rfl, rfl⟩
            go_wp2_with fail
            go_ret2
            exact ⟨ret_ob2 (show o = (0, false) from hq.out.symm) rfl, dd.out⟩
          have m1 : ((m : Int) == 0) = false := by rw [beq_eq_false_iff_ne]; omega
          have m2 : (m == 0) = false := by rw [beq_eq_false_iff_ne]; omega
          rw [decide_eq_true m0] at hq
          clear m0
          by_cases h32 : bt t 3 = 32
          · rw [decide_eq_true h32] at hq
            simp only [Bool.and_self, if_true] at hq
            unfold r822R4 at hq
            have hY := Lib.hid (fun W : World => year13r_any (t.drop 4) W (by rw [List.length_drop]; omega))
            have bY := yerR_bd (t.drop 4)
            have lY : (yerR (t.drop 4)).2.1.length ≤ 100000000 := Nat.le_trans (yerR_len (t.drop 4)) (by rw [List.length_drop]; omega)
            generalize yerR (t.drop 4) = q at *
            obtain ⟨y, u4, c⟩ := q
            unfold trV at hY
            simp only at hY bY lY hq
            have hE := Lib.hid (fun W : World => sign13r_any u4 [32] W lY (by decide))
            have lE := Nat.le_trans (sgR_len u4 [32]) lY
            generalize sgR u4 [32] = q at *
            obtain ⟨u5, f⟩ := q
            simp only at hE lE
            unfold r822R5 at hq
            simp only at hq
            have hC := Lib.hid (fun W : World => clock13r_any u5 true W lE)
            have bC := clkR_bd u5 true
            have lC := Nat.le_trans (clkR_len u5 true) lE
            generalize clkR u5 true = q at *
            obtain ⟨n, u6, g⟩ := q
            unfold trV at hC
            simp only at hC bC lC
            unfold r822R6 at hq
            simp only at hq
            have hG := Lib.hid (fun W : World => sign13r_any u6 [32] W lC (by decide))
            have lG := Nat.le_trans (sgR_len u6 [32]) lC
            generalize sgR u6 [32] = q at *
            obtain ⟨u7, k⟩ := q
            simp only at hG lG
            unfold r822R7 at hq
            simp only at hq
            have hZ := Lib.hid (fun W : World => zone13r_any u7 W lG)
            have bZ := zonR_bd u7
            generalize zonR u7 = q at *
            obtain ⟨z, v⟩ := q
            simp only at hZ bZ
            obtain ⟨bZ0, bZ1⟩ := bZ
            unfold r822R8 at hq
            simp only at hq
            have hWh := Lib.hid (fun W : World => whole13r_any y m x1 (n : Int) z W (by omega) (by omega) (by omega) (by omega) (by omega))
            go_wp2_with fail
            refine (hm.out _).mono ?_; rintro e w5 ⟨rfl, rfl⟩
            go_wp2_with fail
            refine (hm.out _).mono ?_; rintro e w6 ⟨rfl, rfl⟩
            go_wp2_with fail
            refine (hY.out _).mono ?_; rintro e w7 ⟨rfl, d7⟩
            replace dd := Lib.hid (dd.out.trans d7)
            clear d7
            go_wp2_with fail
            refine (hE.out _).mono ?_; rintro e w8 ⟨rfl, rfl⟩
            cases c
            · replace hq := Lib.hid hq
              go_wp2_with fail
              go_ret2
              exact ⟨ret_ob2 (show o = (0, false) from hq.out.symm) rfl, dd.out⟩
            cases f
            · replace hq := Lib.hid hq
              go_wp2_with fail
              go_ret2
              exact ⟨ret_ob2 (show o = (0, false) from hq.out.symm) rfl, dd.out⟩
            simp only [Bool.and_self, if_true] at hq
            go_wp2_with fail
            refine (hC.out _).mono ?_; rintro e w9 ⟨rfl, d9⟩
            replace dd := Lib.hid (dd.out.trans d9)
            clear d9
            go_wp2_with fail
            refine (hG.out _).mono ?_; rintro e w10 ⟨rfl, rfl⟩
            go_wp2_with fail
            refine (hZ.out _).mono ?_; rintro e w11 ⟨rfl, d11⟩
            replace dd := Lib.hid (dd.out.trans d11)
            clear d11
            cases g
            · replace hq := Lib.hid hq
              go_wp2_with fail
              go_ret2
              exact ⟨ret_ob2 (show o = (0, false) from hq.out.symm) rfl, dd.out⟩
            cases k
            · replace hq := Lib.hid hq
              go_wp2_with fail
              go_ret2
              exact ⟨ret_ob2 (show o = (0, false) from hq.out.symm) rfl, dd.out⟩
            cases v
            · replace hq := Lib.hid hq
              go_wp2_with fail
              go_ret2
              exact ⟨ret_ob2 (show o = (0, false) from hq.out.symm) rfl, dd.out⟩
            simp only [Bool.and_self, if_true] at hq
            rw [hq] at hWh
            clear hq
            go_wp2_with fail
            refine (hWh.out _).mono ?_; rintro e w12 ⟨rfl, rfl⟩
            go_wp2_with fail
            go_ret2
            exact ⟨rfl, dd.out⟩
          · rw [decide_eq_false h32, Bool.and_false] at hq
            have h33 : (bt t 3 != 32) = true := by rw [bne_iff_ne]; exact h32
            replace hq := Lib.hid hq
            clear h32
            go_wp2_with fail
            refine (hm.out _).mono ?_; rintro e w5 ⟨rfl, rfl⟩
            go_wp2_with fail
            go_ret2
            exact ⟨ret_ob2 (show o = (0, false) from hq.out.symm) rfl, dd.out⟩
        · rw [decide_eq_false h4] at hq
          have h4' : ((t.length : Int) < 4) := by omega
          have h4n : t.length < 4 := by omega
          replace hq := Lib.hid hq
          clear h4
          go_wp2_with fail
          go_ret2
          exact ⟨ret_ob2 (show o = (0, false) from hq.out.symm) rfl, dd.out⟩
      · have hq := ho.out
        simp only [if_true] at hq
        clear ho hD1 hD2
        unfold r822R2 at hq
        simp only at hq
        have hS := Lib.hid (fun W : World => sign13r_any u2 [32] W l2 (by decide))
        have lt := Nat.le_trans (sgR_len u2 [32]) l2
        generalize sgR u2 [32] = q at *
        obtain ⟨t, b⟩ := q
        simp only at hS lt hq
        unfold r822R3 at hq
        simp only at hq
        go_wp2_with fail
        refine (hS.out _).mono ?_; rintro e w4 ⟨rfl, rfl⟩
        cases b
        · replace hq := Lib.hid hq
          go_wp2_with fail
          go_ret2
          exact ⟨ret_ob2 (show o = (0, false) from hq.out.symm) rfl, dd.out⟩
        by_cases h4 : 4 ≤ t.length
        · have h4' : ¬ ((t.length : Int) < 4) := by omega
          have h4n : ¬ (t.length < 4) := by omega
          have h43 : (3 : Int) ≤ t.length := by omega
          have h44 : (4 : Int) ≤ t.length := by omega
          have h45 : (3 : Int) < t.length := by omega
          have h46 : 3 < t.length := by omega
          rw [decide_eq_true h4] at hq
          have hm := Lib.hid (fun W : World => rmonthr_any (t.take 3) W)
          have bm := monIx_le (t.take 3)
          generalize monIx (t.take 3) = m at *
          by_cases m0 : m = 0
          · subst m0
            replace hq := Lib.hid hq
            go_wp2_with fail
            refine (hm.out _).mono ?_; rintro e w5 ⟨rfl, rfl⟩
            go_wp2_with fail
            go_ret2
            exact ⟨ret_ob2 (show o = (0, false) from hq.out.symm) rfl, dd.out⟩
          have m1 : ((m : Int) == 0) = false := by rw [beq_eq_false_iff_ne]; omega
          have m2 : (m == 0) = false := by rw [beq_eq_false_iff_ne]; omega
          rw [decide_eq_true m0] at hq
          clear m0
          by_cases h32 : bt t 3 = 32
          · rw [decide_eq_true h32] at hq
            simp only [Bool.and_self, if_true] at hq
            unfold r822R4 at hq
            have hY := Lib.hid (fun W : World => year13r_any (t.drop 4) W (by rw [List.length_drop]; omega))
            have bY := yerR_bd (t.drop 4)
            have lY : (yerR (t.drop 4)).2.1.length ≤ 100000000 := Nat.le_trans (yerR_len (t.drop 4)) (by rw [List.length_drop]; omega)
            generalize yerR (t.drop 4) = q at *
            obtain ⟨y, u4, c⟩ := q
            unfold trV at hY
            simp only at hY bY lY hq
            have hE := Lib.hid (fun W : World => sign13r_any u4 [32] W lY (by decide))
            have lE := Nat.le_trans (sgR_len u4 [32]) lY
            generalize sgR u4 [32] = q at *
            obtain ⟨u5, f⟩ := q
            simp only at hE lE
            unfold r822R5 at hq
            simp only at hq
            have hC := Lib.hid (fun W : World => clock13r_any u5 true W lE)
            have bC := clkR_bd u5 true
            have lC := Nat.le_trans (clkR_len u5 true) lE
            generalize clkR u5 true = q at *
            obtain ⟨n, u6, g⟩ := q
            unfold trV at hC
            simp only at hC bC lC
            unfold r822R6 at hq
            simp only at hq
            have hG := Lib.hid (fun W : World => sign13r_any u6 [32] W lC (by decide))
            have lG := Nat.le_trans (sgR_len u6 [32]) lC
            generalize sgR u6 [32] = q at *
            obtain ⟨u7, k⟩ := q
            simp only at hG lG
            unfold r822R7 at hq
            simp only at hq
            have hZ := Lib.hid (fun W : World => zone13r_any u7 W lG)
            have bZ := zonR_bd u7
            generalize zonR u7 = q at *
            obtain ⟨z, v⟩ := q
            simp only at hZ bZ
            obtain ⟨bZ0, bZ1⟩ := bZ
            unfold r822R8 at hq
            simp only at hq
            have hWh := Lib.hid (fun W : World => whole13r_any y m x2 (n : Int) z W (by omega) (by omega) (by omega) (by omega) (by omega))
            go_wp2_with fail
            refine (hm.out _).mono ?_; rintro e w5 ⟨rfl, rfl⟩
            go_wp2_with fail
            refine (hm.out _).mono ?_; rintro e w6 ⟨rfl, rfl⟩
            go_wp2_with fail
            refine (hY.out _).mono ?_; rintro e w7 ⟨rfl, d7⟩
            replace dd := Lib.hid (dd.out.trans d7)
            clear d7
            go_wp2_with fail
            refine (hE.out _).mono ?_; rintro e w8 ⟨rfl, rfl⟩
            cases c
            · replace hq := Lib.hid hq
              go_wp2_with fail
              go_ret2
              exact ⟨ret_ob2 (show o = (0, false) from hq.out.symm) rfl, dd.out⟩
            cases f
            · replace hq := Lib.hid hq
              go_wp2_with fail
              go_ret2
              exact ⟨ret_ob2 (show o = (0, false) from hq.out.symm) rfl, dd.out⟩
            simp only [Bool.and_self, if_true] at hq
            go_wp2_with fail
            refine (hC.out _).mono ?_; rintro e w9 ⟨rfl, d9⟩
            replace dd := Lib.hid (dd.out.trans d9)
            clear d9
            go_wp2_with fail
            refine (hG.out _).mono ?_; rintro e w10 ⟨rfl, rfl⟩
            go_wp2_with fail
            refine (hZ.out _).mono ?_; rintro e w11 ⟨rfl, d11⟩
            replace dd := Lib.hid (dd.out.trans d11)
            clear d11
            cases g
            · replace hq := Lib.hid hq
              go_wp2_with fail
              go_ret2
              exact ⟨ret_ob2 (show o = (0, false) from hq.out.symm) rfl, dd.out⟩
            cases k
            · replace hq := Lib.hid hq
              go_wp2_with fail
              go_ret2
              exact ⟨ret_ob2 (show o = (0, false) from hq.out.symm) rfl, dd.out⟩
            cases v
            · replace hq := Lib.hid hq
              go_wp2_with fail
              go_ret2
              exact ⟨ret_ob2 (show o = (0, false) from hq.out.symm) rfl, dd.out⟩
            simp only [Bool.and_self, if_true] at hq
            rw [hq] at hWh
            clear hq
            go_wp2_with fail
            refine (hWh.out _).mono ?_; rintro e w12 ⟨rfl, rfl⟩
            go_wp2_with fail
            go_ret2
            exact ⟨rfl, dd.out⟩
          · rw [decide_eq_false h32, Bool.and_false] at hq
            have h33 : (bt t 3 != 32) = true := by rw [bne_iff_ne]; exact h32
            replace hq := Lib.hid hq
            clear h32
            go_wp2_with fail
            refine (hm.out _).mono ?_; rintro e w5 ⟨rfl, rfl⟩
            go_wp2_with fail
            go_ret2
            exact ⟨ret_ob2 (show o = (0, false) from hq.out.symm) rfl, dd.out⟩
        · rw [decide_eq_false h4] at hq
          have h4' : ((t.length : Int) < 4) := by omega
          have h4n : t.length < 4 := by omega
          replace hq := Lib.hid hq
          clear h4
          go_wp2_with fail
          go_ret2
          exact ⟨ret_ob2 (show o = (0, false) from hq.out.symm) rfl, dd.out⟩
  · have h5' : ¬ ((5 : Int) < l.length) := by omega
    rw [decide_eq_false h5, Bool.false_and, Bool.false_and] at hl1
    obtain rfl : l = l1 := hl1
    go_enter Tryz.func59, Tryz.ntmps59
    go_wp2_with fail
    refine (hD2.out _).mono ?_; rintro e w2 ⟨rfl, dd⟩
    replace dd := Lib.hid dd
    cases a2
    · have hq := ho.out
      simp only [Bool.false_eq_true, if_false] at hq
      clear ho hD2
      go_wp2_with fail
      refine (hD1.out _).mono ?_; rintro e w3 ⟨rfl, d3⟩
      replace dd := Lib.hid (dd.out.trans d3)
      clear d3
      unfold r822R2 at hq
      simp only at hq
      have hS := Lib.hid (fun W : World => sign13r_any u1 [32] W l3 (by decide))
      have lt := Nat.le_trans (sgR_len u1 [32]) l3
      generalize sgR u1 [32] = q at *
      obtain ⟨t, b⟩ := q
      simp only at hS lt hq
      unfold r822R3 at hq
      simp only at hq
      go_wp2_with fail
      refine (hS.out _).mono ?_; rintro e w4 ⟨rfl, rfl⟩
      cases a1
      · replace hq := Lib.hid hq
        go_wp2_with fail
        go_ret2
        exact ⟨ret_ob2 (show o = (0, false) from hq.out.symm) rfl, dd.out⟩
      cases b
      · replace hq := Lib.hid hq
        go_wp2_with fail
        go_ret2
        exact ⟨ret_ob2 (show o = (0, false) from hq.out.symm) rfl, dd.out⟩
      by_cases h4 : 4 ≤ t.length
      · have h4' : ¬ ((t.length : Int) < 4) := by omega
        have h4n : ¬ (t.length < 4) := by omega
        have h43 : (3 : Int) ≤ t.length := by omega
        have h44 : (4 : Int) ≤ t.length := by omega
        have h45 : (3 : Int) < t.length := by omega
        have h46 : 3 < t.length := by omega
        rw [decide_eq_true h4] at hq
        have hm := Lib.hid (fun W : World => rmonthr_any (t.take 3) W)
        have bm := monIx_le (t.take 3)
        generalize monIx (t.take 3) = m at *
        by_cases m0 : m = 0
        · subst m0
          replace hq := Lib.hid hq
          go_wp2_with fail
          refine (hm.out _).mono ?_; rintro e w5 ⟨rfl, rfl⟩
          go_wp2_with fail
          go_ret2
          exact ⟨ret_ob2 (show o = (0, false) from hq.out.symm) rfl, dd.out⟩
        have m1 : ((m : Int) == 0) = false := by rw [beq_eq_false_iff_ne]; omega
        have m2 : (m == 0) = false := by rw [beq_eq_false_iff_ne]; omega
        rw [decide_eq_true m0] at hq
        clear m0
        by_cases h32 : bt t 3 = 32
        · rw [decide_eq_true h32] at hq
          simp only [Bool.and_self, if_true] at hq
          unfold r822R4 at hq
          have hY := Lib.hid (fun W : World => year13r_any (t.drop 4) W (by rw [List.length_drop]; omega))
          have bY := yerR_bd (t.drop 4)
          have lY : (yerR (t.drop 4)).2.1.length ≤ 100000000 := Nat.le_trans (yerR_len (t.drop 4)) (by rw [List.length_drop]; omega)
          generalize yerR (t.drop 4) = q at *
          obtain ⟨y, u4, c⟩ := q
          unfold trV at hY
          simp only at hY bY lY hq
          have hE := Lib.hid (fun W : World => sign13r_any u4 [32] W lY (by decide))
          have lE := Nat.le_trans (sgR_len u4 [32]) lY
          generalize sgR u4 [32] = q at *
          obtain ⟨u5, f⟩ := q
          simp only at hE lE
          unfold r822R5 at hq
          simp only at hq
          have hC := Lib.hid (fun W : World => clock13r_any u5 true W lE)
          have bC := clkR_bd u5 true
          have lC := Nat.le_trans (clkR_len u5 true) lE
          generalize clkR u5 true = q at *
          obtain ⟨n, u6, g⟩ := q
          unfold trV at hC
          simp only at hC bC lC
          unfold r822R6 at hq
          simp only at hq
          have hG := Lib.hid (fun W : World => sign13r_any u6 [32] W lC (by decide))
          have lG := Nat.le_trans (sgR_len u6 [32]) lC
          generalize sgR u6 [32] = q at *
          obtain ⟨u7, k⟩ := q
          simp only at hG lG
          unfold r822R7 at hq
          simp only at hq
          have hZ := Lib.hid (fun W : World => zone13r_any u7 W lG)
          have bZ := zonR_bd u7
          generalize zonR u7 = q at *
          obtain ⟨z, v⟩ := q
          simp only at hZ bZ
          obtain ⟨bZ0, bZ1⟩ := bZ
          unfold r822R8 at hq
          simp only at hq
          have hWh := Lib.hid (fun W : World => whole13r_any y m x1 (n : Int) z W (by omega) (by omega) (by omega) (by omega) (by omega))
          go_wp2_with fail
          refine (hm.out _).mono ?_; rintro e w5 ⟨rfl, rfl⟩
          go_wp2_with fail
          refine (hm.out _).mono ?_; rintro e w6 ⟨rfl, rfl⟩
          go_wp2_with fail
          refine (hY.out _).mono ?_; rintro e w7 ⟨rfl, d7⟩
          replace dd := Lib.hid (dd.out.trans d7)
          clear d7
          go_wp2_with fail
          refine (hE.out _).mono ?_; rintro e w8 ⟨rfl, rfl⟩
          cases c
          · replace hq := Lib.hid hq
            go_wp2_with fail
            go_ret2
            exact ⟨ret_ob2 (show o = (0, false) from hq.out.symm) rfl, dd.out⟩
          cases f
          · replace hq := Lib.hid hq
            go_wp2_with fail
            go_ret2
            exact ⟨ret_ob2 (show o = (0, false) from hq.out.symm) rfl, dd.out⟩
          simp only [Bool.and_self, if_true] at hq
          go_wp2_with fail
          refine (hC.out _).mono ?_; rintro e w9 ⟨rfl, d9⟩
          replace dd := Lib.hid (dd.out.trans d9)
          clear d9
          go_wp2_with fail
          refine (hG.out _).mono ?_; rintro e w10 ⟨rfl, rfl⟩
          go_wp2_with fail
          refine (hZ.out _).mono ?_; rintro e w11 ⟨rfl, d11⟩
          replace dd := Lib.hid (dd.out.trans d11)
          clear d11
          cases g
          · replace hq := Lib.hid hq
            go_wp2_with fail
            go_ret2
            exact ⟨ret_ob2 (show o = (0, false) from hq.out.symm) rfl, dd.out⟩
          cases k
          · replace hq := Lib.hid hq
            go_wp2_with fail
            go_ret2
            exact ⟨ret_ob2 (show o = (0, false) from hq.out.symm) rfl, dd.out⟩
          cases v
          · replace hq := Lib.hid hq
            go_wp2_with fail
            go_ret2
            exact ⟨ret_ob2 (show o = (0, false) from hq.out.symm) rfl, dd.out⟩
          simp only [Bool.and_self, if_true] at hq
          rw [hq] at hWh
          clear hq
          go_wp2_with fail
          refine (hWh.out _).mono ?_; rintro e w12 ⟨rfl, rfl⟩
          go_wp2_with fail
          go_ret2
          exact ⟨rfl, dd.out⟩
        · rw [decide_eq_false h32, Bool.and_false] at hq
          have h33 : (bt t 3 != 32) = true := by rw [bne_iff_ne]; exact h32
          replace hq := Lib.hid hq
          clear h32
          go_wp2_with fail
          refine (hm.out _).mono ?_; rintro e w5 ⟨rfl, rfl⟩
          go_wp2_with fail
          go_ret2
          exact ⟨ret_ob2 (show o = (0, false) from hq.out.symm) rfl, dd.out⟩
      · rw [decide_eq_false h4] at hq
        have h4' : ((t.length : Int) < 4) := by omega
        have h4n : t.length < 4 := by omega
        replace hq := Lib.hid hq
        clear h4
        go_wp2_with fail
        go_ret2
        exact ⟨ret_ob2 (show o = (0, false) from hq.out.symm) rfl, dd.out⟩
    · have hq := ho.out
      simp only [if_true] at hq
      clear ho hD1 hD2
      unfold r822R2 at hq
      simp only at hq
      have hS := Lib.hid (fun W : World => sign13r_any u2 [32] W l2 (by decide))
      have lt := Nat.le_trans (sgR_len u2 [32]) l2
      generalize sgR u2 [32] = q at *
      obtain ⟨t, b⟩ := q
      simp only at hS lt hq
      unfold r822R3 at hq
      simp only at hq
      go_wp2_with fail
      refine (hS.out _).mono ?_; rintro e w4 ⟨rfl, rfl⟩
      cases b
      · replace hq := Lib.hid hq
        go_wp2_with fail
        go_ret2
        exact ⟨ret_ob2 (show o = (0, false) from hq.out.symm) rfl, dd.out⟩
      by_cases h4 : 4 ≤ t.length
      · have h4' : ¬ ((t.length : Int) < 4) := by omega
        have h4n : ¬ (t.length < 4) := by omega
        have h43 : (3 : Int) ≤ t.length := by omega
        have h44 : (4 : Int) ≤ t.length := by omega
        have h45 : (3 : Int) < t.length := by omega
        have h46 : 3 < t.length := by omega
        rw [decide_eq_true h4] at hq
        have hm := Lib.hid (fun W : World => rmonthr_any (t.take 3) W)
        have bm := monIx_le (t.take 3)
        generalize monIx (t.take 3) = m at *
        by_cases m0 : m = 0
        · subst m0
          replace hq := Lib.hid hq
          go_wp2_with fail
          refine (hm.out _).mono ?_; rintro e w5 ⟨rfl, rfl⟩
          go_wp2_with fail
          go_ret2
          exact ⟨ret_ob2 (show o = (0, false) from hq.out.symm) rfl, dd.out⟩
        have m1 : ((m : Int) == 0) = false := by rw [beq_eq_false_iff_ne]; omega
        have m2 : (m == 0) = false := by rw [beq_eq_false_iff_ne]; omega
        rw [decide_eq_true m0] at hq
        clear m0
        by_cases h32 : bt t 3 = 32
        · rw [decide_eq_true h32] at hq
          simp only [Bool.and_self, if_true] at hq
          unfold r822R4 at hq
          have hY := Lib.hid (fun W : World => year13r_any (t.drop 4) W (by rw [List.length_drop]; omega))
          have bY := yerR_bd (t.drop 4)
          have lY : (yerR (t.drop 4)).2.1.length ≤ 100000000 := Nat.le_trans (yerR_len (t.drop 4)) (by rw [List.length_drop]; omega)
          generalize yerR (t.drop 4) = q at *
          obtain ⟨y, u4, c⟩ := q
          unfold trV at hY
          simp only at hY bY lY hq
          have hE := Lib.hid (fun W : World => sign13r_any u4 [32] W lY (by decide))
          have lE := Nat.le_trans (sgR_len u4 [32]) lY
          generalize sgR u4 [32] = q at *
          obtain ⟨u5, f⟩ := q
          simp only at hE lE
          unfold r822R5 at hq
          simp only at hq
          have hC := Lib.hid (fun W : World => clock13r_any u5 true W lE)
          have bC := clkR_bd u5 true
          have lC := Nat.le_trans (clkR_len u5 true) lE
          generalize clkR u5 true = q at *
          obtain ⟨n, u6, g⟩ := q
          unfold trV at hC
          simp only at hC bC lC
          unfold r822R6 at hq
          simp only at hq
          have hG := Lib.hid (fun W : World => sign13r_any u6 [32] W lC (by decide))
          have lG := Nat.le_trans (sgR_len u6 [32]) lC
          generalize sgR u6 [32] = q at *
          obtain ⟨u7, k⟩ := q
          simp only at hG lG
          unfold r822R7 at hq
          simp only at hq
          have hZ := Lib.hid (fun W : World => zone13r_any u7 W lG)
          have bZ := zonR_bd u7
          generalize zonR u7 = q at *
          obtain ⟨z, v⟩ := q
          simp only at hZ bZ
          obtain ⟨bZ0, bZ1⟩ := bZ
          unfold r822R8 at hq
          simp only at hq
          have hWh := Lib.hid (fun W : World => whole13r_any y m x2 (n : Int) z W (by omega) (by omega) (by omega) (by omega) (by omega))
          go_wp2_with fail
          refine (hm.out _).mono ?_; rintro e w5 ⟨rfl, rfl⟩
          go_wp2_with fail
          refine (hm.out _).mono ?_; rintro e w6 ⟨rfl, rfl⟩
          go_wp2_with fail
          refine (hY.out _).mono ?_; rintro e w7 ⟨rfl, d7⟩
          replace dd := Lib.hid (dd.out.trans d7)
          clear d7
          go_wp2_with fail
          refine (hE.out _).mono ?_; rintro e w8 ⟨rfl, rfl⟩
          cases c
          · replace hq := Lib.hid hq
            go_wp2_with fail
            go_ret2
            exact ⟨ret_ob2 (show o = (0, false) from hq.out.symm) rfl, dd.out⟩
          cases f
          · replace hq := Lib.hid hq
            go_wp2_with fail
            go_ret2
            exact ⟨ret_ob2 (show o = (0, false) from hq.out.symm) rfl, dd.out⟩
          simp only [Bool.and_self, if_true] at hq
          go_wp2_with fail
          refine (hC.out _).mono ?_; rintro e w9 ⟨rfl, d9⟩
          replace dd := Lib.hid (dd.out.trans d9)
          clear d9
          go_wp2_with fail
          refine (hG.out _).mono ?_; rintro e w10 ⟨rfl, rfl⟩
          go_wp2_with fail
          refine (hZ.out _).mono ?_; rintro e w11 ⟨rfl, d11⟩
          replace dd := Lib.hid (dd.out.trans d11)
          clear d11
          cases g
          · replace hq := Lib.hid hq
            go_wp2_with fail
            go_ret2
            exact ⟨ret_ob2 (show o = (0, false) from hq.out.symm) rfl, dd.out⟩
          cases k
          · replace hq := Lib.hid hq
            go_wp2_with fail
            go_ret2
            exact ⟨ret_ob2 (show o = (0, false) from hq.out.symm) rfl, dd.out⟩
          cases v
          · replace hq := Lib.hid hq
            go_wp2_with fail
            go_ret2
            exact ⟨ret_ob2 (show o = (0, false) from hq.out.symm) rfl, dd.out⟩
          simp only [Bool.and_self, if_true] at hq
          rw [hq] at hWh
          clear hq
          go_wp2_with fail
          refine (hWh.out _).mono ?_; rintro e w12 ⟨rfl, rfl⟩
          go_wp2_with fail
          go_ret2
          exact ⟨rfl, dd.out⟩
        · rw [decide_eq_false h32, Bool.and_false] at hq
          have h33 : (bt t 3 != 32) = true := by rw [bne_iff_ne]; exact h32
          replace hq := Lib.hid hq
          clear h32
          go_wp2_with fail
          refine (hm.out _).mono ?_; rintro e w5 ⟨rfl, rfl⟩
          go_wp2_with fail
          go_ret2
          exact ⟨ret_ob2 (show o = (0, false) from hq.out.symm) rfl, dd.out⟩
      · rw [decide_eq_false h4] at hq
        have h4' : ((t.length : Int) < 4) := by omega
        have h4n : t.length < 4 := by omega
        replace hq := Lib.hid hq
        clear h4
        go_wp2_with fail
        go_ret2
        exact ⟨ret_ob2 (show o = (0, false) from hq.out.symm) rfl, dd.out⟩
end Go.Proofs.YtahohmdbiiknoaaGreatDoor
