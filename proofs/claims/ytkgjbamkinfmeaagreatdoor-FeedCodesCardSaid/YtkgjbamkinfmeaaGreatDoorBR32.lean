/- Layer 13: Rfc3339 (printed by wip/tools/gen_3339.py). -/
import Derived.Test.YtkgjbamkinfmeaaGreatDoorBR23
namespace Go.Proofs.YtkgjbamkinfmeaaGreatDoor
open Go.RowKit

set_option maxHeartbeats 4000000 in
theorem rfc3339_way0 (l : List UInt8) (w : World) (hl : l.length ≤ 100000000) (R : Nat) (hRe : w.heap.size = R)
    (ht : (skipC (numD 2 (signC (numD 2 (signC (numD 4 (l, false)).2 [45])).2 [45])).2 [84]).1 = true) : Calls Tryz.prog 92 #[.string ⟨l.toArray⟩] w (OBPost w (r3339C l)) := by
  have h0 : RAt (w.alloc (.cells #[.string ⟨l.toArray⟩, .bool false] 182)) (w.alloc (.cells #[.string ⟨l.toArray⟩, .bool false] 182)) w.heap.size (l, false) := ⟨arrAt_new w _ _, Turned.refl _ _⟩
  have hfin : ∀ w', Turned (fun b => b = w.heap.size) (w.alloc (.cells #[.string ⟨l.toArray⟩, .bool false] 182)) w' → Below w.heap.size w w' := fun w' ht => read_below ht
  replace h0 := Lib.hid h0
  replace hfin := Lib.hid hfin
  obtain ⟨o, ho⟩ : ∃ o, r3339C l = o := ⟨_, rfl⟩
  rw [ho]
  unfold r3339C at ho
  rw [hRe] at h0 hfin
  have hY := Lib.hid (fun W (hW : RdC W R (l, false)) => number13_any R 4 (l, false) W hW hl (by omega))
  have bhY := numC_bd 4 (l, false)
  have l1 := Nat.le_trans (numC_len 4 (l, false)) hl
  generalize numD 4 (l, false) = q at *
  obtain ⟨y, s1⟩ := q
  simp only at hY bhY l1
  unfold r3339y at ho
  simp only at ho ht
  have hS1 := Lib.hid (fun W (hW : RdC W R s1) => sign13_any R s1 [45] W hW)
  have l2 := Nat.le_trans (signC_len s1 [45]) l1
  generalize signC s1 [45] = s2 at *
  have hM := Lib.hid (fun W (hW : RdC W R s2) => number13_any R 2 s2 W hW l2 (by omega))
  have bhM := numC_bd 2 s2
  have l3 := Nat.le_trans (numC_len 2 s2) l2
  generalize numD 2 s2 = q at *
  obtain ⟨m, s3⟩ := q
  simp only at hM bhM l3
  unfold r3339a at ho
  simp only at ho ht
  have hS2 := Lib.hid (fun W (hW : RdC W R s3) => sign13_any R s3 [45] W hW)
  have l4 := Nat.le_trans (signC_len s3 [45]) l3
  generalize signC s3 [45] = s4 at *
  have hD := Lib.hid (fun W (hW : RdC W R s4) => number13_any R 2 s4 W hW l4 (by omega))
  have bhD := numC_bd 2 s4
  have l5 := Nat.le_trans (numC_len 2 s4) l4
  generalize numD 2 s4 = q at *
  obtain ⟨d, s5⟩ := q
  simp only at hD bhD l5
  unfold r3339b at ho
  simp only at ho ht
  unfold teeC at ho
  have hT1 := Lib.hid (fun W (hW : RdC W R s5) => skip13_any R s5 [84] W hW)
  have l6 := Nat.le_trans (skipC_len s5 [84]) l5
  generalize skipC s5 [84] = q at *
  obtain ⟨c1, s6⟩ := q
  simp only at hT1 l6
  simp only at ho ht
  subst ht
  simp only [if_true] at ho
  have hH := Lib.hid (fun W (hW : RdC W R s6) => hours13_any R [58] s6 W hW l6)
  have bhH := hoursC_bd [58] s6
  have l9 := Nat.le_trans (hoursC_len [58] s6) l6
  generalize hoursC [58] s6 = q at *
  obtain ⟨hr, s9⟩ := q
  simp only at hH bhH l9
  unfold r3339c at ho
  simp only at ho
  have hC := Lib.hid (fun W (hW : RdC W R s9) => seconds13_any R s9 W hW l9)
  have bhC := secondsC_bd s9
  have l10 := Nat.le_trans (secondsC_len s9) l9
  generalize secondsC s9 = q at *
  obtain ⟨c, s10⟩ := q
  simp only at hC bhC l10
  unfold r3339d at ho
  simp only at ho
  have hP := Lib.hid (fun W (hW : RdC W R s10) => skip13_any R s10 [46] W hW)
  have l11 := Nat.le_trans (skipC_len s10 [46]) l10
  generalize skipC s10 [46] = q at *
  obtain ⟨p, s11⟩ := q
  simp only at hP l11
  unfold r3339e at ho
  simp only at ho
  have bY : y ≤ 9999 := by omega
  clear bhY bhM bhD
  cases p
  · simp only [Bool.false_eq_true, if_false] at ho
    unfold r3339f at ho
    have hZ1 := Lib.hid (fun W (hW : RdC W R s11) => skip13_any R s11 [90] W hW)
    have l13 := Nat.le_trans (skipC_len s11 [90]) l11
    generalize skipC s11 [90] = q at *
    obtain ⟨z1, s13⟩ := q
    simp only at hZ1 l13
    simp only at ho
    cases z1
    · simp only [Bool.false_eq_true, if_false] at ho
      have hZ2 := Lib.hid (fun W (hW : RdC W R s13) => skip13_any R s13 [122] W hW)
      have l14 := Nat.le_trans (skipC_len s13 [122]) l13
      generalize skipC s13 [122] = q at *
      obtain ⟨z2, s14⟩ := q
      simp only at hZ2 l14
      simp only at ho
      cases z2
      · simp only [Bool.false_eq_true, if_false] at ho
        have hO := Lib.hid (fun W (hW : RdC W R s14) => offset13_any R [58] s14 W hW l14)
        have bhO := offsetC_bd [58] s14
        have l15 := Nat.le_trans (offsetC_len [58] s14) l14
        generalize offsetC [58] s14 = q at *
        obtain ⟨z, s15⟩ := q
        simp only at hO bhO l15
        obtain ⟨bZ0, bZ1⟩ := bhO
        unfold r3339g at ho
        simp only at ho
        have hT := Lib.hid (fun W (hW : RdC W R s15) => date13_any R s15 y m d (((hr + c : Nat) : Int) - z) W hW (by omega) (by omega) (by omega))
        rw [ho] at hT
        clear ho
        rw [show (((hr + c : Nat) : Int) - z) = (hr : Int) + c - z by omega] at hT
        go_enter Tryz.func92, Tryz.ntmps92
        go_wp2_with fail
        refine (hY.out _ h0.out.1).mono ?_; rintro e w' ⟨rfl, x1, t1⟩
        replace h0 := Lib.hid (h0.out.next x1 t1)
        clear x1 t1
        go_wp2_with fail
        refine (hS1.out _ h0.out.1).mono ?_; rintro e w' ⟨rfl, x1, t1⟩
        replace h0 := Lib.hid (h0.out.next x1 t1)
        clear x1 t1
        go_wp2_with fail
        refine (hM.out _ h0.out.1).mono ?_; rintro e w' ⟨rfl, x1, t1⟩
        replace h0 := Lib.hid (h0.out.next x1 t1)
        clear x1 t1
        go_wp2_with fail
        refine (hS2.out _ h0.out.1).mono ?_; rintro e w' ⟨rfl, x1, t1⟩
        replace h0 := Lib.hid (h0.out.next x1 t1)
        clear x1 t1
        go_wp2_with fail
        refine (hD.out _ h0.out.1).mono ?_; rintro e w' ⟨rfl, x1, t1⟩
        replace h0 := Lib.hid (h0.out.next x1 t1)
        clear x1 t1
        go_wp2_with fail
        refine (hT1.out _ h0.out.1).mono ?_; rintro e w' ⟨rfl, x1, t1⟩
        replace h0 := Lib.hid (h0.out.next x1 t1)
        clear x1 t1
        go_wp2_with fail
        refine (hH.out _ h0.out.1).mono ?_; rintro e w' ⟨rfl, x1, t1⟩
        replace h0 := Lib.hid (h0.out.next x1 t1)
        clear x1 t1
        go_wp2_with fail
        refine (hC.out _ h0.out.1).mono ?_; rintro e w' ⟨rfl, x1, t1⟩
        replace h0 := Lib.hid (h0.out.next x1 t1)
        clear x1 t1
        go_wp2_with fail
        refine (hP.out _ h0.out.1).mono ?_; rintro e w' ⟨rfl, x1, t1⟩
        replace h0 := Lib.hid (h0.out.next x1 t1)
        clear x1 t1
        go_wp2_with fail
        refine (hZ1.out _ h0.out.1).mono ?_; rintro e w' ⟨rfl, x1, t1⟩
        replace h0 := Lib.hid (h0.out.next x1 t1)
        clear x1 t1
        go_wp2_with fail
        refine (hZ2.out _ h0.out.1).mono ?_; rintro e w' ⟨rfl, x1, t1⟩
        replace h0 := Lib.hid (h0.out.next x1 t1)
        clear x1 t1
        go_wp2_with fail
        refine (hO.out _ h0.out.1).mono ?_; rintro e w' ⟨rfl, x1, t1⟩
        replace h0 := Lib.hid (h0.out.next x1 t1)
        clear x1 t1
        go_wp2_with fail
        refine (hT.out _ h0.out.1).mono ?_; rintro e w' ⟨rfl, rfl⟩
        go_wp2_with fail
        go_ret2
        exact ⟨rfl, by rw [hRe]; exact hfin.out _ h0.out.2⟩
      · simp only [if_true] at ho
        unfold r3339g at ho
        simp only at ho
        have hT := Lib.hid (fun W (hW : RdC W R s14) => date13_any R s14 y m d ((hr + c : Nat) : Int) W hW (by omega) (by omega) (by omega))
        rw [ho] at hT
        clear ho
        rw [show (((hr + c : Nat) : Int)) = (hr : Int) + c by omega] at hT
        go_enter Tryz.func92, Tryz.ntmps92
        go_wp2_with fail
        refine (hY.out _ h0.out.1).mono ?_; rintro e w' ⟨rfl, x1, t1⟩
        replace h0 := Lib.hid (h0.out.next x1 t1)
        clear x1 t1
        go_wp2_with fail
        refine (hS1.out _ h0.out.1).mono ?_; rintro e w' ⟨rfl, x1, t1⟩
        replace h0 := Lib.hid (h0.out.next x1 t1)
        clear x1 t1
        go_wp2_with fail
        refine (hM.out _ h0.out.1).mono ?_; rintro e w' ⟨rfl, x1, t1⟩
        replace h0 := Lib.hid (h0.out.next x1 t1)
        clear x1 t1
        go_wp2_with fail
        refine (hS2.out _ h0.out.1).mono ?_; rintro e w' ⟨rfl, x1, t1⟩
        replace h0 := Lib.hid (h0.out.next x1 t1)
        clear x1 t1
        go_wp2_with fail
        refine (hD.out _ h0.out.1).mono ?_; rintro e w' ⟨rfl, x1, t1⟩
        replace h0 := Lib.hid (h0.out.next x1 t1)
        clear x1 t1
        go_wp2_with fail
        refine (hT1.out _ h0.out.1).mono ?_; rintro e w' ⟨rfl, x1, t1⟩
        replace h0 := Lib.hid (h0.out.next x1 t1)
        clear x1 t1
        go_wp2_with fail
        refine (hH.out _ h0.out.1).mono ?_; rintro e w' ⟨rfl, x1, t1⟩
        replace h0 := Lib.hid (h0.out.next x1 t1)
        clear x1 t1
        go_wp2_with fail
        refine (hC.out _ h0.out.1).mono ?_; rintro e w' ⟨rfl, x1, t1⟩
        replace h0 := Lib.hid (h0.out.next x1 t1)
        clear x1 t1
        go_wp2_with fail
        refine (hP.out _ h0.out.1).mono ?_; rintro e w' ⟨rfl, x1, t1⟩
        replace h0 := Lib.hid (h0.out.next x1 t1)
        clear x1 t1
        go_wp2_with fail
        refine (hZ1.out _ h0.out.1).mono ?_; rintro e w' ⟨rfl, x1, t1⟩
        replace h0 := Lib.hid (h0.out.next x1 t1)
        clear x1 t1
        go_wp2_with fail
        refine (hZ2.out _ h0.out.1).mono ?_; rintro e w' ⟨rfl, x1, t1⟩
        replace h0 := Lib.hid (h0.out.next x1 t1)
        clear x1 t1
        go_wp2_with fail
        refine (hT.out _ h0.out.1).mono ?_; rintro e w' ⟨rfl, rfl⟩
        go_wp2_with fail
        go_ret2
        exact ⟨rfl, by rw [hRe]; exact hfin.out _ h0.out.2⟩
    · simp only [if_true] at ho
      unfold r3339g at ho
      simp only at ho
      have hT := Lib.hid (fun W (hW : RdC W R s13) => date13_any R s13 y m d ((hr + c : Nat) : Int) W hW (by omega) (by omega) (by omega))
      rw [ho] at hT
      clear ho
      rw [show (((hr + c : Nat) : Int)) = (hr : Int) + c by omega] at hT
      go_enter Tryz.func92, Tryz.ntmps92
      go_wp2_with fail
      refine (hY.out _ h0.out.1).mono ?_; rintro e w' ⟨rfl, x1, t1⟩
      replace h0 := Lib.hid (h0.out.next x1 t1)
      clear x1 t1
      go_wp2_with fail
      refine (hS1.out _ h0.out.1).mono ?_; rintro e w' ⟨rfl, x1, t1⟩
      replace h0 := Lib.hid (h0.out.next x1 t1)
      clear x1 t1
      go_wp2_with fail
      refine (hM.out _ h0.out.1).mono ?_; rintro e w' ⟨rfl, x1, t1⟩
      replace h0 := Lib.hid (h0.out.next x1 t1)
      clear x1 t1
      go_wp2_with fail
      refine (hS2.out _ h0.out.1).mono ?_; rintro e w' ⟨rfl, x1, t1⟩
      replace h0 := Lib.hid (h0.out.next x1 t1)
      clear x1 t1
      go_wp2_with fail
      refine (hD.out _ h0.out.1).mono ?_; rintro e w' ⟨rfl, x1, t1⟩
      replace h0 := Lib.hid (h0.out.next x1 t1)
      clear x1 t1
      go_wp2_with fail
      refine (hT1.out _ h0.out.1).mono ?_; rintro e w' ⟨rfl, x1, t1⟩
      replace h0 := Lib.hid (h0.out.next x1 t1)
      clear x1 t1
      go_wp2_with fail
      refine (hH.out _ h0.out.1).mono ?_; rintro e w' ⟨rfl, x1, t1⟩
      replace h0 := Lib.hid (h0.out.next x1 t1)
      clear x1 t1
      go_wp2_with fail
      refine (hC.out _ h0.out.1).mono ?_; rintro e w' ⟨rfl, x1, t1⟩
      replace h0 := Lib.hid (h0.out.next x1 t1)
      clear x1 t1
      go_wp2_with fail
      refine (hP.out _ h0.out.1).mono ?_; rintro e w' ⟨rfl, x1, t1⟩
      replace h0 := Lib.hid (h0.out.next x1 t1)
      clear x1 t1
      go_wp2_with fail
      refine (hZ1.out _ h0.out.1).mono ?_; rintro e w' ⟨rfl, x1, t1⟩
      replace h0 := Lib.hid (h0.out.next x1 t1)
      clear x1 t1
      go_wp2_with fail
      refine (hT.out _ h0.out.1).mono ?_; rintro e w' ⟨rfl, rfl⟩
      go_wp2_with fail
      go_ret2
      exact ⟨rfl, by rw [hRe]; exact hfin.out _ h0.out.2⟩
  · simp only [if_true] at ho
    have hG := Lib.hid (fun W (hW : RdC W R s11) => digits13_any R s11 W hW l11)
    have l12 := Nat.le_trans (digitsC_len s11) l11
    generalize digitsC s11 = s12 at *
    unfold r3339f at ho
    have hZ1 := Lib.hid (fun W (hW : RdC W R s12) => skip13_any R s12 [90] W hW)
    have l13 := Nat.le_trans (skipC_len s12 [90]) l12
    generalize skipC s12 [90] = q at *
    obtain ⟨z1, s13⟩ := q
    simp only at hZ1 l13
    simp only at ho
    cases z1
    · simp only [Bool.false_eq_true, if_false] at ho
      have hZ2 := Lib.hid (fun W (hW : RdC W R s13) => skip13_any R s13 [122] W hW)
      have l14 := Nat.le_trans (skipC_len s13 [122]) l13
      generalize skipC s13 [122] = q at *
      obtain ⟨z2, s14⟩ := q
      simp only at hZ2 l14
      simp only at ho
      cases z2
      · simp only [Bool.false_eq_true, if_false] at ho
        have hO := Lib.hid (fun W (hW : RdC W R s14) => offset13_any R [58] s14 W hW l14)
        have bhO := offsetC_bd [58] s14
        have l15 := Nat.le_trans (offsetC_len [58] s14) l14
        generalize offsetC [58] s14 = q at *
        obtain ⟨z, s15⟩ := q
        simp only at hO bhO l15
        obtain ⟨bZ0, bZ1⟩ := bhO
        unfold r3339g at ho
        simp only at ho
        have hT := Lib.hid (fun W (hW : RdC W R s15) => date13_any R s15 y m d (((hr + c : Nat) : Int) - z) W hW (by omega) (by omega) (by omega))
        rw [ho] at hT
        clear ho
        rw [show (((hr + c : Nat) : Int) - z) = (hr : Int) + c - z by omega] at hT
        go_enter Tryz.func92, Tryz.ntmps92
        go_wp2_with fail
        refine (hY.out _ h0.out.1).mono ?_; rintro e w' ⟨rfl, x1, t1⟩
        replace h0 := Lib.hid (h0.out.next x1 t1)
        clear x1 t1
        go_wp2_with fail
        refine (hS1.out _ h0.out.1).mono ?_; rintro e w' ⟨rfl, x1, t1⟩
        replace h0 := Lib.hid (h0.out.next x1 t1)
        clear x1 t1
        go_wp2_with fail
        refine (hM.out _ h0.out.1).mono ?_; rintro e w' ⟨rfl, x1, t1⟩
        replace h0 := Lib.hid (h0.out.next x1 t1)
        clear x1 t1
        go_wp2_with fail
        refine (hS2.out _ h0.out.1).mono ?_; rintro e w' ⟨rfl, x1, t1⟩
        replace h0 := Lib.hid (h0.out.next x1 t1)
        clear x1 t1
        go_wp2_with fail
        refine (hD.out _ h0.out.1).mono ?_; rintro e w' ⟨rfl, x1, t1⟩
        replace h0 := Lib.hid (h0.out.next x1 t1)
        clear x1 t1
        go_wp2_with fail
        refine (hT1.out _ h0.out.1).mono ?_; rintro e w' ⟨rfl, x1, t1⟩
        replace h0 := Lib.hid (h0.out.next x1 t1)
        clear x1 t1
        go_wp2_with fail
        refine (hH.out _ h0.out.1).mono ?_; rintro e w' ⟨rfl, x1, t1⟩
        replace h0 := Lib.hid (h0.out.next x1 t1)
        clear x1 t1
        go_wp2_with fail
        refine (hC.out _ h0.out.1).mono ?_; rintro e w' ⟨rfl, x1, t1⟩
        replace h0 := Lib.hid (h0.out.next x1 t1)
        clear x1 t1
        go_wp2_with fail
        refine (hP.out _ h0.out.1).mono ?_; rintro e w' ⟨rfl, x1, t1⟩
        replace h0 := Lib.hid (h0.out.next x1 t1)
        clear x1 t1
        go_wp2_with fail
        refine (hG.out _ h0.out.1).mono ?_; rintro e w' ⟨rfl, x1, t1⟩
        replace h0 := Lib.hid (h0.out.next x1 t1)
        clear x1 t1
        go_wp2_with fail
        refine (hZ1.out _ h0.out.1).mono ?_; rintro e w' ⟨rfl, x1, t1⟩
        replace h0 := Lib.hid (h0.out.next x1 t1)
        clear x1 t1
        go_wp2_with fail
        refine (hZ2.out _ h0.out.1).mono ?_; rintro e w' ⟨rfl, x1, t1⟩
        replace h0 := Lib.hid (h0.out.next x1 t1)
        clear x1 t1
        go_wp2_with fail
        refine (hO.out _ h0.out.1).mono ?_; rintro e w' ⟨rfl, x1, t1⟩
        replace h0 := Lib.hid (h0.out.next x1 t1)
        clear x1 t1
        go_wp2_with fail
        refine (hT.out _ h0.out.1).mono ?_; rintro e w' ⟨rfl, rfl⟩
        go_wp2_with fail
        go_ret2
        exact ⟨rfl, by rw [hRe]; exact hfin.out _ h0.out.2⟩
      · simp only [if_true] at ho
        unfold r3339g at ho
        simp only at ho
        have hT := Lib.hid (fun W (hW : RdC W R s14) => date13_any R s14 y m d ((hr + c : Nat) : Int) W hW (by omega) (by omega) (by omega))
        rw [ho] at hT
        clear ho
        rw [show (((hr + c : Nat) : Int)) = (hr : Int) + c by omega] at hT
        go_enter Tryz.func92, Tryz.ntmps92
        go_wp2_with fail
        refine (hY.out _ h0.out.1).mono ?_; rintro e w' ⟨rfl, x1, t1⟩
        replace h0 := Lib.hid (h0.out.next x1 t1)
        clear x1 t1
        go_wp2_with fail
        refine (hS1.out _ h0.out.1).mono ?_; rintro e w' ⟨rfl, x1, t1⟩
        replace h0 := Lib.hid (h0.out.next x1 t1)
        clear x1 t1
        go_wp2_with fail
        refine (hM.out _ h0.out.1).mono ?_; rintro e w' ⟨rfl, x1, t1⟩
        replace h0 := Lib.hid (h0.out.next x1 t1)
        clear x1 t1
        go_wp2_with fail
        refine (hS2.out _ h0.out.1).mono ?_; rintro e w' ⟨rfl, x1, t1⟩
        replace h0 := Lib.hid (h0.out.next x1 t1)
        clear x1 t1
        go_wp2_with fail
        refine (hD.out _ h0.out.1).mono ?_; rintro e w' ⟨rfl, x1, t1⟩
        replace h0 := Lib.hid (h0.out.next x1 t1)
        clear x1 t1
        go_wp2_with fail
        refine (hT1.out _ h0.out.1).mono ?_; rintro e w' ⟨rfl, x1, t1⟩
        replace h0 := Lib.hid (h0.out.next x1 t1)
        clear x1 t1
        go_wp2_with fail
        refine (hH.out _ h0.out.1).mono ?_; rintro e w' ⟨rfl, x1, t1⟩
        replace h0 := Lib.hid (h0.out.next x1 t1)
        clear x1 t1
        go_wp2_with fail
        refine (hC.out _ h0.out.1).mono ?_; rintro e w' ⟨rfl, x1, t1⟩
        replace h0 := Lib.hid (h0.out.next x1 t1)
        clear x1 t1
        go_wp2_with fail
        refine (hP.out _ h0.out.1).mono ?_; rintro e w' ⟨rfl, x1, t1⟩
        replace h0 := Lib.hid (h0.out.next x1 t1)
        clear x1 t1
        go_wp2_with fail
        refine (hG.out _ h0.out.1).mono ?_; rintro e w' ⟨rfl, x1, t1⟩
        replace h0 := Lib.hid (h0.out.next x1 t1)
        clear x1 t1
        go_wp2_with fail
        refine (hZ1.out _ h0.out.1).mono ?_; rintro e w' ⟨rfl, x1, t1⟩
        replace h0 := Lib.hid (h0.out.next x1 t1)
        clear x1 t1
        go_wp2_with fail
        refine (hZ2.out _ h0.out.1).mono ?_; rintro e w' ⟨rfl, x1, t1⟩
        replace h0 := Lib.hid (h0.out.next x1 t1)
        clear x1 t1
        go_wp2_with fail
        refine (hT.out _ h0.out.1).mono ?_; rintro e w' ⟨rfl, rfl⟩
        go_wp2_with fail
        go_ret2
        exact ⟨rfl, by rw [hRe]; exact hfin.out _ h0.out.2⟩
    · simp only [if_true] at ho
      unfold r3339g at ho
      simp only at ho
      have hT := Lib.hid (fun W (hW : RdC W R s13) => date13_any R s13 y m d ((hr + c : Nat) : Int) W hW (by omega) (by omega) (by omega))
      rw [ho] at hT
      clear ho
      rw [show (((hr + c : Nat) : Int)) = (hr : Int) + c by omega] at hT
      go_enter Tryz.func92, Tryz.ntmps92
      go_wp2_with fail
      refine (hY.out _ h0.out.1).mono ?_; rintro e w' ⟨rfl, x1, t1⟩
      replace h0 := Lib.hid (h0.out.next x1 t1)
      clear x1 t1
      go_wp2_with fail
      refine (hS1.out _ h0.out.1).mono ?_; rintro e w' ⟨rfl, x1, t1⟩
      replace h0 := Lib.hid (h0.out.next x1 t1)
      clear x1 t1
      go_wp2_with fail
      refine (hM.out _ h0.out.1).mono ?_; rintro e w' ⟨rfl, x1, t1⟩
      replace h0 := Lib.hid (h0.out.next x1 t1)
      clear x1 t1
      go_wp2_with fail
      refine (hS2.out _ h0.out.1).mono ?_; rintro e w' ⟨rfl, x1, t1⟩
      replace h0 := Lib.hid (h0.out.next x1 t1)
      clear x1 t1
      go_wp2_with fail
      refine (hD.out _ h0.out.1).mono ?_; rintro e w' ⟨rfl, x1, t1⟩
      replace h0 := Lib.hid (h0.out.next x1 t1)
      clear x1 t1
      go_wp2_with fail
      refine (hT1.out _ h0.out.1).mono ?_; rintro e w' ⟨rfl, x1, t1⟩
      replace h0 := Lib.hid (h0.out.next x1 t1)
      clear x1 t1
      go_wp2_with fail
      refine (hH.out _ h0.out.1).mono ?_; rintro e w' ⟨rfl, x1, t1⟩
      replace h0 := Lib.hid (h0.out.next x1 t1)
      clear x1 t1
      go_wp2_with fail
      refine (hC.out _ h0.out.1).mono ?_; rintro e w' ⟨rfl, x1, t1⟩
      replace h0 := Lib.hid (h0.out.next x1 t1)
      clear x1 t1
      go_wp2_with fail
      refine (hP.out _ h0.out.1).mono ?_; rintro e w' ⟨rfl, x1, t1⟩
      replace h0 := Lib.hid (h0.out.next x1 t1)
      clear x1 t1
      go_wp2_with fail
      refine (hG.out _ h0.out.1).mono ?_; rintro e w' ⟨rfl, x1, t1⟩
      replace h0 := Lib.hid (h0.out.next x1 t1)
      clear x1 t1
      go_wp2_with fail
      refine (hZ1.out _ h0.out.1).mono ?_; rintro e w' ⟨rfl, x1, t1⟩
      replace h0 := Lib.hid (h0.out.next x1 t1)
      clear x1 t1
      go_wp2_with fail
      refine (hT.out _ h0.out.1).mono ?_; rintro e w' ⟨rfl, rfl⟩
      go_wp2_with fail
      go_ret2
      exact ⟨rfl, by rw [hRe]; exact hfin.out _ h0.out.2⟩
set_option maxHeartbeats 4000000 in
theorem rfc3339_way1 (l : List UInt8) (w : World) (hl : l.length ≤ 100000000) (R : Nat) (hRe : w.heap.size = R)
    (ht : (skipC (numD 2 (signC (numD 2 (signC (numD 4 (l, false)).2 [45])).2 [45])).2 [84]).1 = false ∧ (skipC (skipC (numD 2 (signC (numD 2 (signC (numD 4 (l, false)).2 [45])).2 [45])).2 [84]).2 [116]).1 = true) : Calls Tryz.prog 92 #[.string ⟨l.toArray⟩] w (OBPost w (r3339C l)) := by
  have h0 : RAt (w.alloc (.cells #[.string ⟨l.toArray⟩, .bool false] 182)) (w.alloc (.cells #[.string ⟨l.toArray⟩, .bool false] 182)) w.heap.size (l, false) := ⟨arrAt_new w _ _, Turned.refl _ _⟩
  have hfin : ∀ w', Turned (fun b => b = w.heap.size) (w.alloc (.cells #[.string ⟨l.toArray⟩, .bool false] 182)) w' → Below w.heap.size w w' := fun w' ht => read_below ht
  replace h0 := Lib.hid h0
  replace hfin := Lib.hid hfin
  obtain ⟨o, ho⟩ : ∃ o, r3339C l = o := ⟨_, rfl⟩
  rw [ho]
  unfold r3339C at ho
  rw [hRe] at h0 hfin
  have hY := Lib.hid (fun W (hW : RdC W R (l, false)) => number13_any R 4 (l, false) W hW hl (by omega))
  have bhY := numC_bd 4 (l, false)
  have l1 := Nat.le_trans (numC_len 4 (l, false)) hl
  generalize numD 4 (l, false) = q at *
  obtain ⟨y, s1⟩ := q
  simp only at hY bhY l1
  unfold r3339y at ho
  simp only at ho ht
  have hS1 := Lib.hid (fun W (hW : RdC W R s1) => sign13_any R s1 [45] W hW)
  have l2 := Nat.le_trans (signC_len s1 [45]) l1
  generalize signC s1 [45] = s2 at *
  have hM := Lib.hid (fun W (hW : RdC W R s2) => number13_any R 2 s2 W hW l2 (by omega))
  have bhM := numC_bd 2 s2
  have l3 := Nat.le_trans (numC_len 2 s2) l2
  generalize numD 2 s2 = q at *
  obtain ⟨m, s3⟩ := q
  simp only at hM bhM l3
  unfold r3339a at ho
  simp only at ho ht
  have hS2 := Lib.hid (fun W (hW : RdC W R s3) => sign13_any R s3 [45] W hW)
  have l4 := Nat.le_trans (signC_len s3 [45]) l3
  generalize signC s3 [45] = s4 at *
  have hD := Lib.hid (fun W (hW : RdC W R s4) => number13_any R 2 s4 W hW l4 (by omega))
  have bhD := numC_bd 2 s4
  have l5 := Nat.le_trans (numC_len 2 s4) l4
  generalize numD 2 s4 = q at *
  obtain ⟨d, s5⟩ := q
  simp only at hD bhD l5
  unfold r3339b at ho
  simp only at ho ht
  unfold teeC at ho
  have hT1 := Lib.hid (fun W (hW : RdC W R s5) => skip13_any R s5 [84] W hW)
  have l6 := Nat.le_trans (skipC_len s5 [84]) l5
  generalize skipC s5 [84] = q at *
  obtain ⟨c1, s6⟩ := q
  simp only at hT1 l6
  simp only at ho ht
  obtain ⟨rfl, ht⟩ := ht
  simp only [Bool.false_eq_true, if_false] at ho
  have hT2 := Lib.hid (fun W (hW : RdC W R s6) => skip13_any R s6 [116] W hW)
  have l7 := Nat.le_trans (skipC_len s6 [116]) l6
  generalize skipC s6 [116] = q at *
  obtain ⟨c2, s7⟩ := q
  simp only at hT2 l7
  simp only at ho ht
  subst ht
  simp only [if_true] at ho
  have hH := Lib.hid (fun W (hW : RdC W R s7) => hours13_any R [58] s7 W hW l7)
  have bhH := hoursC_bd [58] s7
  have l9 := Nat.le_trans (hoursC_len [58] s7) l7
  generalize hoursC [58] s7 = q at *
  obtain ⟨hr, s9⟩ := q
  simp only at hH bhH l9
  unfold r3339c at ho
  simp only at ho
  have hC := Lib.hid (fun W (hW : RdC W R s9) => seconds13_any R s9 W hW l9)
  have bhC := secondsC_bd s9
  have l10 := Nat.le_trans (secondsC_len s9) l9
  generalize secondsC s9 = q at *
  obtain ⟨c, s10⟩ := q
  simp only at hC bhC l10
  unfold r3339d at ho
  simp only at ho
  have hP := Lib.hid (fun W (hW : RdC W R s10) => skip13_any R s10 [46] W hW)
  have l11 := Nat.le_trans (skipC_len s10 [46]) l10
  generalize skipC s10 [46] = q at *
  obtain ⟨p, s11⟩ := q
  simp only at hP l11
  unfold r3339e at ho
  simp only at ho
  have bY : y ≤ 9999 := by omega
  clear bhY bhM bhD
  cases p
  · simp only [Bool.false_eq_true, if_false] at ho
    unfold r3339f at ho
    have hZ1 := Lib.hid (fun W (hW : RdC W R s11) => skip13_any R s11 [90] W hW)
    have l13 := Nat.le_trans (skipC_len s11 [90]) l11
    generalize skipC s11 [90] = q at *
    obtain ⟨z1, s13⟩ := q
    simp only at hZ1 l13
    simp only at ho
    cases z1
    · simp only [Bool.false_eq_true, if_false] at ho
      have hZ2 := Lib.hid (fun W (hW : RdC W R s13) => skip13_any R s13 [122] W hW)
      have l14 := Nat.le_trans (skipC_len s13 [122]) l13
      generalize skipC s13 [122] = q at *
      obtain ⟨z2, s14⟩ := q
      simp only at hZ2 l14
      simp only at ho
      cases z2
      · simp only [Bool.false_eq_true, if_false] at ho
        have hO := Lib.hid (fun W (hW : RdC W R s14) => offset13_any R [58] s14 W hW l14)
        have bhO := offsetC_bd [58] s14
        have l15 := Nat.le_trans (offsetC_len [58] s14) l14
        generalize offsetC [58] s14 = q at *
        obtain ⟨z, s15⟩ := q
        simp only at hO bhO l15
        obtain ⟨bZ0, bZ1⟩ := bhO
        unfold r3339g at ho
        simp only at ho
        have hT := Lib.hid (fun W (hW : RdC W R s15) => date13_any R s15 y m d (((hr + c : Nat) : Int) - z) W hW (by omega) (by omega) (by omega))
        rw [ho] at hT
        clear ho
        rw [show (((hr + c : Nat) : Int) - z) = (hr : Int) + c - z by omega] at hT
        go_enter Tryz.func92, Tryz.ntmps92
        go_wp2_with fail
        refine (hY.out _ h0.out.1).mono ?_; rintro e w' ⟨rfl, x1, t1⟩
        replace h0 := Lib.hid (h0.out.next x1 t1)
        clear x1 t1
        go_wp2_with fail
        refine (hS1.out _ h0.out.1).mono ?_; rintro e w' ⟨rfl, x1, t1⟩
        replace h0 := Lib.hid (h0.out.next x1 t1)
        clear x1 t1
        go_wp2_with fail
        refine (hM.out _ h0.out.1).mono ?_; rintro e w' ⟨rfl, x1, t1⟩
        replace h0 := Lib.hid (h0.out.next x1 t1)
        clear x1 t1
        go_wp2_with fail
        refine (hS2.out _ h0.out.1).mono ?_; rintro e w' ⟨rfl, x1, t1⟩
        replace h0 := Lib.hid (h0.out.next x1 t1)
        clear x1 t1
        go_wp2_with fail
        refine (hD.out _ h0.out.1).mono ?_; rintro e w' ⟨rfl, x1, t1⟩
        replace h0 := Lib.hid (h0.out.next x1 t1)
        clear x1 t1
        go_wp2_with fail
        refine (hT1.out _ h0.out.1).mono ?_; rintro e w' ⟨rfl, x1, t1⟩
        replace h0 := Lib.hid (h0.out.next x1 t1)
        clear x1 t1
        go_wp2_with fail
        refine (hT2.out _ h0.out.1).mono ?_; rintro e w' ⟨rfl, x1, t1⟩
        replace h0 := Lib.hid (h0.out.next x1 t1)
        clear x1 t1
        go_wp2_with fail
        refine (hH.out _ h0.out.1).mono ?_; rintro e w' ⟨rfl, x1, t1⟩
        replace h0 := Lib.hid (h0.out.next x1 t1)
        clear x1 t1
        go_wp2_with fail
        refine (hC.out _ h0.out.1).mono ?_; rintro e w' ⟨rfl, x1, t1⟩
        replace h0 := Lib.hid (h0.out.next x1 t1)
        clear x1 t1
        go_wp2_with fail
        refine (hP.out _ h0.out.1).mono ?_; rintro e w' ⟨rfl, x1, t1⟩
        replace h0 := Lib.hid (h0.out.next x1 t1)
        clear x1 t1
        go_wp2_with fail
        refine (hZ1.out _ h0.out.1).mono ?_; rintro e w' ⟨rfl, x1, t1⟩
        replace h0 := Lib.hid (h0.out.next x1 t1)
        clear x1 t1
        go_wp2_with fail
        refine (hZ2.out _ h0.out.1).mono ?_; rintro e w' ⟨rfl, x1, t1⟩
        replace h0 := Lib.hid (h0.out.next x1 t1)
        clear x1 t1
        go_wp2_with fail
        refine (hO.out _ h0.out.1).mono ?_; rintro e w' ⟨rfl, x1, t1⟩
        replace h0 := Lib.hid (h0.out.next x1 t1)
        clear x1 t1
        go_wp2_with fail
        refine (hT.out _ h0.out.1).mono ?_; rintro e w' ⟨rfl, rfl⟩
        go_wp2_with fail
        go_ret2
        exact ⟨rfl, by rw [hRe]; exact hfin.out _ h0.out.2⟩
      · simp only [if_true] at ho
        unfold r3339g at ho
        simp only at ho
        have hT := Lib.hid (fun W (hW : RdC W R s14) => date13_any R s14 y m d ((hr + c : Nat) : Int) W hW (by omega) (by omega) (by omega))
        rw [ho] at hT
        clear ho
        rw [show (((hr + c : Nat) : Int)) = (hr : Int) + c by omega] at hT
        go_enter Tryz.func92, Tryz.ntmps92
        go_wp2_with fail
        refine (hY.out _ h0.out.1).mono ?_; rintro e w' ⟨rfl, x1, t1⟩
        replace h0 := Lib.hid (h0.out.next x1 t1)
        clear x1 t1
        go_wp2_with fail
        refine (hS1.out _ h0.out.1).mono ?_; rintro e w' ⟨rfl, x1, t1⟩
        replace h0 := Lib.hid (h0.out.next x1 t1)
        clear x1 t1
        go_wp2_with fail
        refine (hM.out _ h0.out.1).mono ?_; rintro e w' ⟨rfl, x1, t1⟩
        replace h0 := Lib.hid (h0.out.next x1 t1)
        clear x1 t1
        go_wp2_with fail
        refine (hS2.out _ h0.out.1).mono ?_; rintro e w' ⟨rfl, x1, t1⟩
        replace h0 := Lib.hid (h0.out.next x1 t1)
        clear x1 t1
        go_wp2_with fail
        refine (hD.out _ h0.out.1).mono ?_; rintro e w' ⟨rfl, x1, t1⟩
        replace h0 := Lib.hid (h0.out.next x1 t1)
        clear x1 t1
        go_wp2_with fail
        refine (hT1.out _ h0.out.1).mono ?_; rintro e w' ⟨rfl, x1, t1⟩
        replace h0 := Lib.hid (h0.out.next x1 t1)
        clear x1 t1
        go_wp2_with fail
        refine (hT2.out _ h0.out.1).mono ?_; rintro e w' ⟨rfl, x1, t1⟩
        replace h0 := Lib.hid (h0.out.next x1 t1)
        clear x1 t1
        go_wp2_with fail
        refine (hH.out _ h0.out.1).mono ?_; rintro e w' ⟨rfl, x1, t1⟩
        replace h0 := Lib.hid (h0.out.next x1 t1)
        clear x1 t1
        go_wp2_with fail
        refine (hC.out _ h0.out.1).mono ?_; rintro e w' ⟨rfl, x1, t1⟩
        replace h0 := Lib.hid (h0.out.next x1 t1)
        clear x1 t1
        go_wp2_with fail
        refine (hP.out _ h0.out.1).mono ?_; rintro e w' ⟨rfl, x1, t1⟩
        replace h0 := Lib.hid (h0.out.next x1 t1)
        clear x1 t1
        go_wp2_with fail
        refine (hZ1.out _ h0.out.1).mono ?_; rintro e w' ⟨rfl, x1, t1⟩
        replace h0 := Lib.hid (h0.out.next x1 t1)
        clear x1 t1
        go_wp2_with fail
        refine (hZ2.out _ h0.out.1).mono ?_; rintro e w' ⟨rfl, x1, t1⟩
        replace h0 := Lib.hid (h0.out.next x1 t1)
        clear x1 t1
        go_wp2_with fail
        refine (hT.out _ h0.out.1).mono ?_; rintro e w' ⟨rfl, rfl⟩
        go_wp2_with fail
        go_ret2
        exact ⟨rfl, by rw [hRe]; exact hfin.out _ h0.out.2⟩
    · simp only [if_true] at ho
      unfold r3339g at ho
      simp only at ho
      have hT := Lib.hid (fun W (hW : RdC W R s13) => date13_any R s13 y m d ((hr + c : Nat) : Int) W hW (by omega) (by omega) (by omega))
      rw [ho] at hT
      clear ho
      rw [show (((hr + c : Nat) : Int)) = (hr : Int) + c by omega] at hT
      go_enter Tryz.func92, Tryz.ntmps92
      go_wp2_with fail
      refine (hY.out _ h0.out.1).mono ?_; rintro e w' ⟨rfl, x1, t1⟩
      replace h0 := Lib.hid (h0.out.next x1 t1)
      clear x1 t1
      go_wp2_with fail
      refine (hS1.out _ h0.out.1).mono ?_; rintro e w' ⟨rfl, x1, t1⟩
      replace h0 := Lib.hid (h0.out.next x1 t1)
      clear x1 t1
      go_wp2_with fail
      refine (hM.out _ h0.out.1).mono ?_; rintro e w' ⟨rfl, x1, t1⟩
      replace h0 := Lib.hid (h0.out.next x1 t1)
      clear x1 t1
      go_wp2_with fail
      refine (hS2.out _ h0.out.1).mono ?_; rintro e w' ⟨rfl, x1, t1⟩
      replace h0 := Lib.hid (h0.out.next x1 t1)
      clear x1 t1
      go_wp2_with fail
      refine (hD.out _ h0.out.1).mono ?_; rintro e w' ⟨rfl, x1, t1⟩
      replace h0 := Lib.hid (h0.out.next x1 t1)
      clear x1 t1
      go_wp2_with fail
      refine (hT1.out _ h0.out.1).mono ?_; rintro e w' ⟨rfl, x1, t1⟩
      replace h0 := Lib.hid (h0.out.next x1 t1)
      clear x1 t1
      go_wp2_with fail
      refine (hT2.out _ h0.out.1).mono ?_; rintro e w' ⟨rfl, x1, t1⟩
      replace h0 := Lib.hid (h0.out.next x1 t1)
      clear x1 t1
      go_wp2_with fail
      refine (hH.out _ h0.out.1).mono ?_; rintro e w' ⟨rfl, x1, t1⟩
      replace h0 := Lib.hid (h0.out.next x1 t1)
      clear x1 t1
      go_wp2_with fail
      refine (hC.out _ h0.out.1).mono ?_; rintro e w' ⟨rfl, x1, t1⟩
      replace h0 := Lib.hid (h0.out.next x1 t1)
      clear x1 t1
      go_wp2_with fail
      refine (hP.out _ h0.out.1).mono ?_; rintro e w' ⟨rfl, x1, t1⟩
      replace h0 := Lib.hid (h0.out.next x1 t1)
      clear x1 t1
      go_wp2_with fail
      refine (hZ1.out _ h0.out.1).mono ?_; rintro e w' ⟨rfl, x1, t1⟩
      replace h0 := Lib.hid (h0.out.next x1 t1)
      clear x1 t1
      go_wp2_with fail
      refine (hT.out _ h0.out.1).mono ?_; rintro e w' ⟨rfl, rfl⟩
      go_wp2_with fail
      go_ret2
      exact ⟨rfl, by rw [hRe]; exact hfin.out _ h0.out.2⟩
  · simp only [if_true] at ho
    have hG := Lib.hid (fun W (hW : RdC W R s11) => digits13_any R s11 W hW l11)
    have l12 := Nat.le_trans (digitsC_len s11) l11
    generalize digitsC s11 = s12 at *
    unfold r3339f at ho
    have hZ1 := Lib.hid (fun W (hW : RdC W R s12) => skip13_any R s12 [90] W hW)
    have l13 := Nat.le_trans (skipC_len s12 [90]) l12
    generalize skipC s12 [90] = q at *
    obtain ⟨z1, s13⟩ := q
    simp only at hZ1 l13
    simp only at ho
    cases z1
    · simp only [Bool.false_eq_true, if_false] at ho
      have hZ2 := Lib.hid (fun W (hW : RdC W R s13) => skip13_any R s13 [122] W hW)
      have l14 := Nat.le_trans (skipC_len s13 [122]) l13
      generalize skipC s13 [122] = q at *
      obtain ⟨z2, s14⟩ := q
      simp only at hZ2 l14
      simp only at ho
      cases z2
      · simp only [Bool.false_eq_true, if_false] at ho
        have hO := Lib.hid (fun W (hW : RdC W R s14) => offset13_any R [58] s14 W hW l14)
        have bhO := offsetC_bd [58] s14
        have l15 := Nat.le_trans (offsetC_len [58] s14) l14
        generalize offsetC [58] s14 = q at *
        obtain ⟨z, s15⟩ := q
        simp only at hO bhO l15
        obtain ⟨bZ0, bZ1⟩ := bhO
        unfold r3339g at ho
        simp only at ho
        have hT := Lib.hid (fun W (hW : RdC W R s15) => date13_any R s15 y m d (((hr + c : Nat) : Int) - z) W hW (by omega) (by omega) (by omega))
        rw [ho] at hT
        clear ho
        rw [show (((hr + c : Nat) : Int) - z) = (hr : Int) + c - z by omega] at hT
        go_enter Tryz.func92, Tryz.ntmps92
        go_wp2_with fail
        refine (hY.out _ h0.out.1).mono ?_; rintro e w' ⟨rfl, x1, t1⟩
        replace h0 := Lib.hid (h0.out.next x1 t1)
        clear x1 t1
        go_wp2_with fail
        refine (hS1.out _ h0.out.1).mono ?_; rintro e w' ⟨rfl, x1, t1⟩
        replace h0 := Lib.hid (h0.out.next x1 t1)
        clear x1 t1
        go_wp2_with fail
        refine (hM.out _ h0.out.1).mono ?_; rintro e w' ⟨rfl, x1, t1⟩
        replace h0 := Lib.hid (h0.out.next x1 t1)
        clear x1 t1
        go_wp2_with fail
        refine (hS2.out _ h0.out.1).mono ?_; rintro e w' ⟨rfl, x1, t1⟩
        replace h0 := Lib.hid (h0.out.next x1 t1)
        clear x1 t1
        go_wp2_with fail
        refine (hD.out _ h0.out.1).mono ?_; rintro e w' ⟨rfl, x1, t1⟩
        replace h0 := Lib.hid (h0.out.next x1 t1)
        clear x1 t1
        go_wp2_with fail
        refine (hT1.out _ h0.out.1).mono ?_; rintro e w' ⟨rfl, x1, t1⟩
        replace h0 := Lib.hid (h0.out.next x1 t1)
        clear x1 t1
        go_wp2_with fail
        refine (hT2.out _ h0.out.1).mono ?_; rintro e w' ⟨rfl, x1, t1⟩
        replace h0 := Lib.hid (h0.out.next x1 t1)
        clear x1 t1
        go_wp2_with fail
        refine (hH.out _ h0.out.1).mono ?_; rintro e w' ⟨rfl, x1, t1⟩
        replace h0 := Lib.hid (h0.out.next x1 t1)
        clear x1 t1
        go_wp2_with fail
        refine (hC.out _ h0.out.1).mono ?_; rintro e w' ⟨rfl, x1, t1⟩
        replace h0 := Lib.hid (h0.out.next x1 t1)
        clear x1 t1
        go_wp2_with fail
        refine (hP.out _ h0.out.1).mono ?_; rintro e w' ⟨rfl, x1, t1⟩
        replace h0 := Lib.hid (h0.out.next x1 t1)
        clear x1 t1
        go_wp2_with fail
        refine (hG.out _ h0.out.1).mono ?_; rintro e w' ⟨rfl, x1, t1⟩
        replace h0 := Lib.hid (h0.out.next x1 t1)
        clear x1 t1
        go_wp2_with fail
        refine (hZ1.out _ h0.out.1).mono ?_; rintro e w' ⟨rfl, x1, t1⟩
        replace h0 := Lib.hid (h0.out.next x1 t1)
        clear x1 t1
        go_wp2_with fail
        refine (hZ2.out _ h0.out.1).mono ?_; rintro e w' ⟨rfl, x1, t1⟩
        replace h0 := Lib.hid (h0.out.next x1 t1)
        clear x1 t1
        go_wp2_with fail
        refine (hO.out _ h0.out.1).mono ?_; rintro e w' ⟨rfl, x1, t1⟩
        replace h0 := Lib.hid (h0.out.next x1 t1)
        clear x1 t1
        go_wp2_with fail
        refine (hT.out _ h0.out.1).mono ?_; rintro e w' ⟨rfl, rfl⟩
        go_wp2_with fail
        go_ret2
        exact ⟨rfl, by rw [hRe]; exact hfin.out _ h0.out.2⟩
      · simp only [if_true] at ho
        unfold r3339g at ho
        simp only at ho
        have hT := Lib.hid (fun W (hW : RdC W R s14) => date13_any R s14 y m d ((hr + c : Nat) : Int) W hW (by omega) (by omega) (by omega))
        rw [ho] at hT
        clear ho
        rw [show (((hr + c : Nat) : Int)) = (hr : Int) + c by omega] at hT
        go_enter Tryz.func92, Tryz.ntmps92
        go_wp2_with fail
        refine (hY.out _ h0.out.1).mono ?_; rintro e w' ⟨rfl, x1, t1⟩
        replace h0 := Lib.hid (h0.out.next x1 t1)
        clear x1 t1
        go_wp2_with fail
        refine (hS1.out _ h0.out.1).mono ?_; rintro e w' ⟨rfl, x1, t1⟩
        replace h0 := Lib.hid (h0.out.next x1 t1)
        clear x1 t1
        go_wp2_with fail
        refine (hM.out _ h0.out.1).mono ?_; rintro e w' ⟨rfl, x1, t1⟩
        replace h0 := Lib.hid (h0.out.next x1 t1)
        clear x1 t1
        go_wp2_with fail
        refine (hS2.out _ h0.out.1).mono ?_; rintro e w' ⟨rfl, x1, t1⟩
        replace h0 := Lib.hid (h0.out.next x1 t1)
        clear x1 t1
        go_wp2_with fail
        refine (hD.out _ h0.out.1).mono ?_; rintro e w' ⟨rfl, x1, t1⟩
        replace h0 := Lib.hid (h0.out.next x1 t1)
        clear x1 t1
        go_wp2_with fail
        refine (hT1.out _ h0.out.1).mono ?_; rintro e w' ⟨rfl, x1, t1⟩
        replace h0 := Lib.hid (h0.out.next x1 t1)
        clear x1 t1
        go_wp2_with fail
        refine (hT2.out _ h0.out.1).mono ?_; rintro e w' ⟨rfl, x1, t1⟩
        replace h0 := Lib.hid (h0.out.next x1 t1)
        clear x1 t1
        go_wp2_with fail
        refine (hH.out _ h0.out.1).mono ?_; rintro e w' ⟨rfl, x1, t1⟩
        replace h0 := Lib.hid (h0.out.next x1 t1)
        clear x1 t1
        go_wp2_with fail
        refine (hC.out _ h0.out.1).mono ?_; rintro e w' ⟨rfl, x1, t1⟩
        replace h0 := Lib.hid (h0.out.next x1 t1)
        clear x1 t1
        go_wp2_with fail
        refine (hP.out _ h0.out.1).mono ?_; rintro e w' ⟨rfl, x1, t1⟩
        replace h0 := Lib.hid (h0.out.next x1 t1)
        clear x1 t1
        go_wp2_with fail
        refine (hG.out _ h0.out.1).mono ?_; rintro e w' ⟨rfl, x1, t1⟩
        replace h0 := Lib.hid (h0.out.next x1 t1)
        clear x1 t1
        go_wp2_with fail
        refine (hZ1.out _ h0.out.1).mono ?_; rintro e w' ⟨rfl, x1, t1⟩
        replace h0 := Lib.hid (h0.out.next x1 t1)
        clear x1 t1
        go_wp2_with fail
        refine (hZ2.out _ h0.out.1).mono ?_; rintro e w' ⟨rfl, x1, t1⟩
        replace h0 := Lib.hid (h0.out.next x1 t1)
        clear x1 t1
        go_wp2_with fail
        refine (hT.out _ h0.out.1).mono ?_; rintro e w' ⟨rfl, rfl⟩
        go_wp2_with fail
        go_ret2
        exact ⟨rfl, by rw [hRe]; exact hfin.out _ h0.out.2⟩
    · simp only [if_true] at ho
      unfold r3339g at ho
      simp only at ho
      have hT := Lib.hid (fun W (hW : RdC W R s13) => date13_any R s13 y m d ((hr + c : Nat) : Int) W hW (by omega) (by omega) (by omega))
      rw [ho] at hT
      clear ho
      rw [show (((hr + c : Nat) : Int)) = (hr : Int) + c by omega] at hT
      go_enter Tryz.func92, Tryz.ntmps92
      go_wp2_with fail
      refine (hY.out _ h0.out.1).mono ?_; rintro e w' ⟨rfl, x1, t1⟩
      replace h0 := Lib.hid (h0.out.next x1 t1)
      clear x1 t1
      go_wp2_with fail
      refine (hS1.out _ h0.out.1).mono ?_; rintro e w' ⟨rfl, x1, t1⟩
      replace h0 := Lib.hid (h0.out.next x1 t1)
      clear x1 t1
      go_wp2_with fail
      refine (hM.out _ h0.out.1).mono ?_; rintro e w' ⟨rfl, x1, t1⟩
      replace h0 := Lib.hid (h0.out.next x1 t1)
      clear x1 t1
      go_wp2_with fail
      refine (hS2.out _ h0.out.1).mono ?_; rintro e w' ⟨rfl, x1, t1⟩
      replace h0 := Lib.hid (h0.out.next x1 t1)
      clear x1 t1
      go_wp2_with fail
      refine (hD.out _ h0.out.1).mono ?_; rintro e w' ⟨rfl, x1, t1⟩
      replace h0 := Lib.hid (h0.out.next x1 t1)
      clear x1 t1
      go_wp2_with fail
      refine (hT1.out _ h0.out.1).mono ?_; rintro e w' ⟨rfl, x1, t1⟩
      replace h0 := Lib.hid (h0.out.next x1 t1)
      clear x1 t1
      go_wp2_with fail
      refine (hT2.out _ h0.out.1).mono ?_; rintro e w' ⟨rfl, x1, t1⟩
      replace h0 := Lib.hid (h0.out.next x1 t1)
      clear x1 t1
      go_wp2_with fail
      refine (hH.out _ h0.out.1).mono ?_; rintro e w' ⟨rfl, x1, t1⟩
      replace h0 := Lib.hid (h0.out.next x1 t1)
      clear x1 t1
      go_wp2_with fail
      refine (hC.out _ h0.out.1).mono ?_; rintro e w' ⟨rfl, x1, t1⟩
      replace h0 := Lib.hid (h0.out.next x1 t1)
      clear x1 t1
      go_wp2_with fail
      refine (hP.out _ h0.out.1).mono ?_; rintro e w' ⟨rfl, x1, t1⟩
      replace h0 := Lib.hid (h0.out.next x1 t1)
      clear x1 t1
      go_wp2_with fail
      refine (hG.out _ h0.out.1).mono ?_; rintro e w' ⟨rfl, x1, t1⟩
      replace h0 := Lib.hid (h0.out.next x1 t1)
      clear x1 t1
      go_wp2_with fail
      refine (hZ1.out _ h0.out.1).mono ?_; rintro e w' ⟨rfl, x1, t1⟩
      replace h0 := Lib.hid (h0.out.next x1 t1)
      clear x1 t1
      go_wp2_with fail
      refine (hT.out _ h0.out.1).mono ?_; rintro e w' ⟨rfl, rfl⟩
      go_wp2_with fail
      go_ret2
      exact ⟨rfl, by rw [hRe]; exact hfin.out _ h0.out.2⟩
set_option maxHeartbeats 4000000 in
theorem rfc3339_way2 (l : List UInt8) (w : World) (hl : l.length ≤ 100000000) (R : Nat) (hRe : w.heap.size = R)
    (ht : (skipC (numD 2 (signC (numD 2 (signC (numD 4 (l, false)).2 [45])).2 [45])).2 [84]).1 = false ∧ (skipC (skipC (numD 2 (signC (numD 2 (signC (numD 4 (l, false)).2 [45])).2 [45])).2 [84]).2 [116]).1 = false) : Calls Tryz.prog 92 #[.string ⟨l.toArray⟩] w (OBPost w (r3339C l)) := by
  have h0 : RAt (w.alloc (.cells #[.string ⟨l.toArray⟩, .bool false] 182)) (w.alloc (.cells #[.string ⟨l.toArray⟩, .bool false] 182)) w.heap.size (l, false) := ⟨arrAt_new w _ _, Turned.refl _ _⟩
  have hfin : ∀ w', Turned (fun b => b = w.heap.size) (w.alloc (.cells #[.string ⟨l.toArray⟩, .bool false] 182)) w' → Below w.heap.size w w' := fun w' ht => read_below ht
  replace h0 := Lib.hid h0
  replace hfin := Lib.hid hfin
  obtain ⟨o, ho⟩ : ∃ o, r3339C l = o := ⟨_, rfl⟩
  rw [ho]
  unfold r3339C at ho
  rw [hRe] at h0 hfin
  have hY := Lib.hid (fun W (hW : RdC W R (l, false)) => number13_any R 4 (l, false) W hW hl (by omega))
  have bhY := numC_bd 4 (l, false)
  have l1 := Nat.le_trans (numC_len 4 (l, false)) hl
  generalize numD 4 (l, false) = q at *
  obtain ⟨y, s1⟩ := q
  simp only at hY bhY l1
  unfold r3339y at ho
  simp only at ho ht
  have hS1 := Lib.hid (fun W (hW : RdC W R s1) => sign13_any R s1 [45] W hW)
  have l2 := Nat.le_trans (signC_len s1 [45]) l1
  generalize signC s1 [45] = s2 at *
  have hM := Lib.hid (fun W (hW : RdC W R s2) => number13_any R 2 s2 W hW l2 (by omega))
  have bhM := numC_bd 2 s2
  have l3 := Nat.le_trans (numC_len 2 s2) l2
  generalize numD 2 s2 = q at *
  obtain ⟨m, s3⟩ := q
  simp only at hM bhM l3
  unfold r3339a at ho
  simp only at ho ht
  have hS2 := Lib.hid (fun W (hW : RdC W R s3) => sign13_any R s3 [45] W hW)
  have l4 := Nat.le_trans (signC_len s3 [45]) l3
  generalize signC s3 [45] = s4 at *
  have hD := Lib.hid (fun W (hW : RdC W R s4) => number13_any R 2 s4 W hW l4 (by omega))
  have bhD := numC_bd 2 s4
  have l5 := Nat.le_trans (numC_len 2 s4) l4
  generalize numD 2 s4 = q at *
  obtain ⟨d, s5⟩ := q
  simp only at hD bhD l5
  unfold r3339b at ho
  simp only at ho ht
  unfold teeC at ho
  have hT1 := Lib.hid (fun W (hW : RdC W R s5) => skip13_any R s5 [84] W hW)
  have l6 := Nat.le_trans (skipC_len s5 [84]) l5
  generalize skipC s5 [84] = q at *
  obtain ⟨c1, s6⟩ := q
  simp only at hT1 l6
  simp only at ho ht
  obtain ⟨rfl, ht⟩ := ht
  simp only [Bool.false_eq_true, if_false] at ho
  have hT2 := Lib.hid (fun W (hW : RdC W R s6) => skip13_any R s6 [116] W hW)
  have l7 := Nat.le_trans (skipC_len s6 [116]) l6
  generalize skipC s6 [116] = q at *
  obtain ⟨c2, s7⟩ := q
  simp only at hT2 l7
  simp only at ho ht
  subst ht
  simp only [Bool.false_eq_true, if_false] at ho
  have hS3 := Lib.hid (fun W (hW : RdC W R s7) => sign13_any R s7 [32] W hW)
  have l8 := Nat.le_trans (signC_len s7 [32]) l7
  generalize signC s7 [32] = s8 at *
  have hH := Lib.hid (fun W (hW : RdC W R s8) => hours13_any R [58] s8 W hW l8)
  have bhH := hoursC_bd [58] s8
  have l9 := Nat.le_trans (hoursC_len [58] s8) l8
  generalize hoursC [58] s8 = q at *
  obtain ⟨hr, s9⟩ := q
  simp only at hH bhH l9
  unfold r3339c at ho
  simp only at ho
  have hC := Lib.hid (fun W (hW : RdC W R s9) => seconds13_any R s9 W hW l9)
  have bhC := secondsC_bd s9
  have l10 := Nat.le_trans (secondsC_len s9) l9
  generalize secondsC s9 = q at *
  obtain ⟨c, s10⟩ := q
  simp only at hC bhC l10
  unfold r3339d at ho
  simp only at ho
  have hP := Lib.hid (fun W (hW : RdC W R s10) => skip13_any R s10 [46] W hW)
  have l11 := Nat.le_trans (skipC_len s10 [46]) l10
  generalize skipC s10 [46] = q at *
  obtain ⟨p, s11⟩ := q
  simp only at hP l11
  unfold r3339e at ho
  simp only at ho
  have bY : y ≤ 9999 := by omega
  clear bhY bhM bhD
  cases p
  · simp only [Bool.false_eq_true, if_false] at ho
    unfold r3339f at ho
    have hZ1 := Lib.hid (fun W (hW : RdC W R s11) => skip13_any R s11 [90] W hW)
    have l13 := Nat.le_trans (skipC_len s11 [90]) l11
    generalize skipC s11 [90] = q at *
    obtain ⟨z1, s13⟩ := q
    simp only at hZ1 l13
    simp only at ho
    cases z1
    · simp only [Bool.false_eq_true, if_false] at ho
      have hZ2 := Lib.hid (fun W (hW : RdC W R s13) => skip13_any R s13 [122] W hW)
      have l14 := Nat.le_trans (skipC_len s13 [122]) l13
      generalize skipC s13 [122] = q at *
      obtain ⟨z2, s14⟩ := q
      simp only at hZ2 l14
      simp only at ho
      cases z2
      · simp only [Bool.false_eq_true, if_false] at ho
        have hO := Lib.hid (fun W (hW : RdC W R s14) => offset13_any R [58] s14 W hW l14)
        have bhO := offsetC_bd [58] s14
        have l15 := Nat.le_trans (offsetC_len [58] s14) l14
        generalize offsetC [58] s14 = q at *
        obtain ⟨z, s15⟩ := q
        simp only at hO bhO l15
        obtain ⟨bZ0, bZ1⟩ := bhO
        unfold r3339g at ho
        simp only at ho
        have hT := Lib.hid (fun W (hW : RdC W R s15) => date13_any R s15 y m d (((hr + c : Nat) : Int) - z) W hW (by omega) (by omega) (by omega))
        rw [ho] at hT
        clear ho
        rw [show (((hr + c : Nat) : Int) - z) = (hr : Int) + c - z by omega] at hT
        go_enter Tryz.func92, Tryz.ntmps92
        go_wp2_with fail
        refine (hY.out _ h0.out.1).mono ?_; rintro e w' ⟨rfl, x1, t1⟩
        replace h0 := Lib.hid (h0.out.next x1 t1)
        clear x1 t1
        go_wp2_with fail
        refine (hS1.out _ h0.out.1).mono ?_; rintro e w' ⟨rfl, x1, t1⟩
        replace h0 := Lib.hid (h0.out.next x1 t1)
        clear x1 t1
        go_wp2_with fail
        refine (hM.out _ h0.out.1).mono ?_; rintro e w' ⟨rfl, x1, t1⟩
        replace h0 := Lib.hid (h0.out.next x1 t1)
        clear x1 t1
        go_wp2_with fail
        refine (hS2.out _ h0.out.1).mono ?_; rintro e w' ⟨rfl, x1, t1⟩
        replace h0 := Lib.hid (h0.out.next x1 t1)
        clear x1 t1
        go_wp2_with fail
        refine (hD.out _ h0.out.1).mono ?_; rintro e w' ⟨rfl, x1, t1⟩
        replace h0 := Lib.hid (h0.out.next x1 t1)
        clear x1 t1
        go_wp2_with fail
        refine (hT1.out _ h0.out.1).mono ?_; rintro e w' ⟨rfl, x1, t1⟩
        replace h0 := Lib.hid (h0.out.next x1 t1)
        clear x1 t1
        go_wp2_with fail
        refine (hT2.out _ h0.out.1).mono ?_; rintro e w' ⟨rfl, x1, t1⟩
        replace h0 := Lib.hid (h0.out.next x1 t1)
        clear x1 t1
        go_wp2_with fail
        refine (hS3.out _ h0.out.1).mono ?_; rintro e w' ⟨rfl, x1, t1⟩
        replace h0 := Lib.hid (h0.out.next x1 t1)
        clear x1 t1
        go_wp2_with fail
        refine (hH.out _ h0.out.1).mono ?_; rintro e w' ⟨rfl, x1, t1⟩
        replace h0 := Lib.hid (h0.out.next x1 t1)
        clear x1 t1
        go_wp2_with fail
        refine (hC.out _ h0.out.1).mono ?_; rintro e w' ⟨rfl, x1, t1⟩
        replace h0 := Lib.hid (h0.out.next x1 t1)
        clear x1 t1
        go_wp2_with fail
        refine (hP.out _ h0.out.1).mono ?_; rintro e w' ⟨rfl, x1, t1⟩
        replace h0 := Lib.hid (h0.out.next x1 t1)
        clear x1 t1
        go_wp2_with fail
        refine (hZ1.out _ h0.out.1).mono ?_; rintro e w' ⟨rfl, x1, t1⟩
        replace h0 := Lib.hid (h0.out.next x1 t1)
        clear x1 t1
        go_wp2_with fail
        refine (hZ2.out _ h0.out.1).mono ?_; rintro e w' ⟨rfl, x1, t1⟩
        replace h0 := Lib.hid (h0.out.next x1 t1)
        clear x1 t1
        go_wp2_with fail
        refine (hO.out _ h0.out.1).mono ?_; rintro e w' ⟨rfl, x1, t1⟩
        replace h0 := Lib.hid (h0.out.next x1 t1)
        clear x1 t1
        go_wp2_with fail
        refine (hT.out _ h0.out.1).mono ?_; rintro e w' ⟨rfl, rfl⟩
        go_wp2_with fail
        go_ret2
        exact ⟨rfl, by rw [hRe]; exact hfin.out _ h0.out.2⟩
      · simp only [if_true] at ho
        unfold r3339g at ho
        simp only at ho
        have hT := Lib.hid (fun W (hW : RdC W R s14) => date13_any R s14 y m d ((hr + c : Nat) : Int) W hW (by omega) (by omega) (by omega))
        rw [ho] at hT
        clear ho
        rw [show (((hr + c : Nat) : Int)) = (hr : Int) + c by omega] at hT
        go_enter Tryz.func92, Tryz.ntmps92
        go_wp2_with fail
        refine (hY.out _ h0.out.1).mono ?_; rintro e w' ⟨rfl, x1, t1⟩
        replace h0 := Lib.hid (h0.out.next x1 t1)
        clear x1 t1
        go_wp2_with fail
        refine (hS1.out _ h0.out.1).mono ?_; rintro e w' ⟨rfl, x1, t1⟩
        replace h0 := Lib.hid (h0.out.next x1 t1)
        clear x1 t1
        go_wp2_with fail
        refine (hM.out _ h0.out.1).mono ?_; rintro e w' ⟨rfl, x1, t1⟩
        replace h0 := Lib.hid (h0.out.next x1 t1)
        clear x1 t1
        go_wp2_with fail
        refine (hS2.out _ h0.out.1).mono ?_; rintro e w' ⟨rfl, x1, t1⟩
        replace h0 := Lib.hid (h0.out.next x1 t1)
        clear x1 t1
        go_wp2_with fail
        refine (hD.out _ h0.out.1).mono ?_; rintro e w' ⟨rfl, x1, t1⟩
        replace h0 := Lib.hid (h0.out.next x1 t1)
        clear x1 t1
        go_wp2_with fail
        refine (hT1.out _ h0.out.1).mono ?_; rintro e w' ⟨rfl, x1, t1⟩
        replace h0 := Lib.hid (h0.out.next x1 t1)
        clear x1 t1
        go_wp2_with fail
        refine (hT2.out _ h0.out.1).mono ?_; rintro e w' ⟨rfl, x1, t1⟩
        replace h0 := Lib.hid (h0.out.next x1 t1)
        clear x1 t1
        go_wp2_with fail
        refine (hS3.out _ h0.out.1).mono ?_; rintro e w' ⟨rfl, x1, t1⟩
        replace h0 := Lib.hid (h0.out.next x1 t1)
        clear x1 t1
        go_wp2_with fail
        refine (hH.out _ h0.out.1).mono ?_; rintro e w' ⟨rfl, x1, t1⟩
        replace h0 := Lib.hid (h0.out.next x1 t1)
        clear x1 t1
        go_wp2_with fail
        refine (hC.out _ h0.out.1).mono ?_; rintro e w' ⟨rfl, x1, t1⟩
        replace h0 := Lib.hid (h0.out.next x1 t1)
        clear x1 t1
        go_wp2_with fail
        refine (hP.out _ h0.out.1).mono ?_; rintro e w' ⟨rfl, x1, t1⟩
        replace h0 := Lib.hid (h0.out.next x1 t1)
        clear x1 t1
        go_wp2_with fail
        refine (hZ1.out _ h0.out.1).mono ?_; rintro e w' ⟨rfl, x1, t1⟩
        replace h0 := Lib.hid (h0.out.next x1 t1)
        clear x1 t1
        go_wp2_with fail
        refine (hZ2.out _ h0.out.1).mono ?_; rintro e w' ⟨rfl, x1, t1⟩
        replace h0 := Lib.hid (h0.out.next x1 t1)
        clear x1 t1
        go_wp2_with fail
        refine (hT.out _ h0.out.1).mono ?_; rintro e w' ⟨rfl, rfl⟩
        go_wp2_with fail
        go_ret2
        exact ⟨rfl, by rw [hRe]; exact hfin.out _ h0.out.2⟩
    · simp only [if_true] at ho
      unfold r3339g at ho
      simp only at ho
      have hT := Lib.hid (fun W (hW : RdC W R s13) => date13_any R s13 y m d ((hr + c : Nat) : Int) W hW (by omega) (by omega) (by omega))
      rw [ho] at hT
      clear ho
      rw [show (((hr + c : Nat) : Int)) = (hr : Int) + c by omega] at hT
      go_enter Tryz.func92, Tryz.ntmps92
      go_wp2_with fail
      refine (hY.out _ h0.out.1).mono ?_; rintro e w' ⟨rfl, x1, t1⟩
      replace h0 := Lib.hid (h0.out.next x1 t1)
      clear x1 t1
      go_wp2_with fail
      refine (hS1.out _ h0.out.1).mono ?_; rintro e w' ⟨rfl, x1, t1⟩
      replace h0 := Lib.hid (h0.out.next x1 t1)
      clear x1 t1
      go_wp2_with fail
      refine (hM.out _ h0.out.1).mono ?_; rintro e w' ⟨rfl, x1, t1⟩
      replace h0 := Lib.hid (h0.out.next x1 t1)
      clear x1 t1
      go_wp2_with fail
      refine (hS2.out _ h0.out.1).mono ?_; rintro e w' ⟨rfl, x1, t1⟩
      replace h0 := Lib.hid (h0.out.next x1 t1)
      clear x1 t1
      go_wp2_with fail
      refine (hD.out _ h0.out.1).mono ?_; rintro e w' ⟨rfl, x1, t1⟩
      replace h0 := Lib.hid (h0.out.next x1 t1)
      clear x1 t1
      go_wp2_with fail
      refine (hT1.out _ h0.out.1).mono ?_; rintro e w' ⟨rfl, x1, t1⟩
      replace h0 := Lib.hid (h0.out.next x1 t1)
      clear x1 t1
      go_wp2_with fail
      refine (hT2.out _ h0.out.1).mono ?_; rintro e w' ⟨rfl, x1, t1⟩
      replace h0 := Lib.hid (h0.out.next x1 t1)
      clear x1 t1
      go_wp2_with fail
      refine (hS3.out _ h0.out.1).mono ?_; rintro e w' ⟨rfl, x1, t1⟩
      replace h0 := Lib.hid (h0.out.next x1 t1)
      clear x1 t1
      go_wp2_with fail
      refine (hH.out _ h0.out.1).mono ?_; rintro e w' ⟨rfl, x1, t1⟩
      replace h0 := Lib.hid (h0.out.next x1 t1)
      clear x1 t1
      go_wp2_with fail
      refine (hC.out _ h0.out.1).mono ?_; rintro e w' ⟨rfl, x1, t1⟩
      replace h0 := Lib.hid (h0.out.next x1 t1)
      clear x1 t1
      go_wp2_with fail
      refine (hP.out _ h0.out.1).mono ?_; rintro e w' ⟨rfl, x1, t1⟩
      replace h0 := Lib.hid (h0.out.next x1 t1)
      clear x1 t1
      go_wp2_with fail
      refine (hZ1.out _ h0.out.1).mono ?_; rintro e w' ⟨rfl, x1, t1⟩
      replace h0 := Lib.hid (h0.out.next x1 t1)
      clear x1 t1
      go_wp2_with fail
      refine (hT.out _ h0.out.1).mono ?_; rintro e w' ⟨rfl, rfl⟩
      go_wp2_with fail
      go_ret2
      exact ⟨rfl, by rw [hRe]; exact hfin.out _ h0.out.2⟩
  · simp only [if_true] at ho
    have hG := Lib.hid (fun W (hW : RdC W R s11) => digits13_any R s11 W hW l11)
    have l12 := Nat.le_trans (digitsC_len s11) l11
    generalize digitsC s11 = s12 at *
    unfold r3339f at ho
    have hZ1 := Lib.hid (fun W (hW : RdC W R s12) => skip13_any R s12 [90] W hW)
    have l13 := Nat.le_trans (skipC_len s12 [90]) l12
    generalize skipC s12 [90] = q at *
    obtain ⟨z1, s13⟩ := q
    simp only at hZ1 l13
    simp only at ho
    cases z1
    · simp only [Bool.false_eq_true, if_false] at ho
      have hZ2 := Lib.hid (fun W (hW : RdC W R s13) => skip13_any R s13 [122] W hW)
      have l14 := Nat.le_trans (skipC_len s13 [122]) l13
      generalize skipC s13 [122] = q at *
      obtain ⟨z2, s14⟩ := q
      simp only at hZ2 l14
      simp only at ho
      cases z2
      · simp only [Bool.false_eq_true, if_false] at ho
        have hO := Lib.hid (fun W (hW : RdC W R s14) => offset13_any R [58] s14 W hW l14)
        have bhO := offsetC_bd [58] s14
        have l15 := Nat.le_trans (offsetC_len [58] s14) l14
        generalize offsetC [58] s14 = q at *
        obtain ⟨z, s15⟩ := q
        simp only at hO bhO l15
        obtain ⟨bZ0, bZ1⟩ := bhO
        unfold r3339g at ho
        simp only at ho
        have hT := Lib.hid (fun W (hW : RdC W R s15) => date13_any R s15 y m d (((hr + c : Nat) : Int) - z) W hW (by omega) (by omega) (by omega))
        rw [ho] at hT
        clear ho
        rw [show (((hr + c : Nat) : Int) - z) = (hr : Int) + c - z by omega] at hT
        go_enter Tryz.func92, Tryz.ntmps92
        go_wp2_with fail
        refine (hY.out _ h0.out.1).mono ?_; rintro e w' ⟨rfl, x1, t1⟩
        replace h0 := Lib.hid (h0.out.next x1 t1)
        clear x1 t1
        go_wp2_with fail
        refine (hS1.out _ h0.out.1).mono ?_; rintro e w' ⟨rfl, x1, t1⟩
        replace h0 := Lib.hid (h0.out.next x1 t1)
        clear x1 t1
        go_wp2_with fail
        refine (hM.out _ h0.out.1).mono ?_; rintro e w' ⟨rfl, x1, t1⟩
        replace h0 := Lib.hid (h0.out.next x1 t1)
        clear x1 t1
        go_wp2_with fail
        refine (hS2.out _ h0.out.1).mono ?_; rintro e w' ⟨rfl, x1, t1⟩
        replace h0 := Lib.hid (h0.out.next x1 t1)
        clear x1 t1
        go_wp2_with fail
        refine (hD.out _ h0.out.1).mono ?_; rintro e w' ⟨rfl, x1, t1⟩
        replace h0 := Lib.hid (h0.out.next x1 t1)
        clear x1 t1
        go_wp2_with fail
        refine (hT1.out _ h0.out.1).mono ?_; rintro e w' ⟨rfl, x1, t1⟩
        replace h0 := Lib.hid (h0.out.next x1 t1)
        clear x1 t1
        go_wp2_with fail
        refine (hT2.out _ h0.out.1).mono ?_; rintro e w' ⟨rfl, x1, t1⟩
        replace h0 := Lib.hid (h0.out.next x1 t1)
        clear x1 t1
        go_wp2_with fail
        refine (hS3.out _ h0.out.1).mono ?_; rintro e w' ⟨rfl, x1, t1⟩
        replace h0 := Lib.hid (h0.out.next x1 t1)
        clear x1 t1
        go_wp2_with fail
        refine (hH.out _ h0.out.1).mono ?_; rintro e w' ⟨rfl, x1, t1⟩
        replace h0 := Lib.hid (h0.out.next x1 t1)
        clear x1 t1
        go_wp2_with fail
        refine (hC.out _ h0.out.1).mono ?_; rintro e w' ⟨rfl, x1, t1⟩
        replace h0 := Lib.hid (h0.out.next x1 t1)
        clear x1 t1
        go_wp2_with fail
        refine (hP.out _ h0.out.1).mono ?_; rintro e w' ⟨rfl, x1, t1⟩
        replace h0 := Lib.hid (h0.out.next x1 t1)
        clear x1 t1
        go_wp2_with fail
        refine (hG.out _ h0.out.1).mono ?_; rintro e w' ⟨rfl, x1, t1⟩
        replace h0 := Lib.hid (h0.out.next x1 t1)
        clear x1 t1
        go_wp2_with fail
        refine (hZ1.out _ h0.out.1).mono ?_; rintro e w' ⟨rfl, x1, t1⟩
        replace h0 := Lib.hid (h0.out.next x1 t1)
        clear x1 t1
        go_wp2_with fail
        refine (hZ2.out _ h0.out.1).mono ?_; rintro e w' ⟨rfl, x1, t1⟩
        replace h0 := Lib.hid (h0.out.next x1 t1)
        clear x1 t1
        go_wp2_with fail
        refine (hO.out _ h0.out.1).mono ?_; rintro e w' ⟨rfl, x1, t1⟩
        replace h0 := Lib.hid (h0.out.next x1 t1)
        clear x1 t1
        go_wp2_with fail
        refine (hT.out _ h0.out.1).mono ?_; rintro e w' ⟨rfl, rfl⟩
        go_wp2_with fail
        go_ret2
        exact ⟨rfl, by rw [hRe]; exact hfin.out _ h0.out.2⟩
      · simp only [if_true] at ho
        unfold r3339g at ho
        simp only at ho
        have hT := Lib.hid (fun W (hW : RdC W R s14) => date13_any R s14 y m d ((hr + c : Nat) : Int) W hW (by omega) (by omega) (by omega))
        rw [ho] at hT
        clear ho
        rw [show (((hr + c : Nat) : Int)) = (hr : Int) + c by omega] at hT
        go_enter Tryz.func92, Tryz.ntmps92
        go_wp2_with fail
        refine (hY.out _ h0.out.1).mono ?_; rintro e w' ⟨rfl, x1, t1⟩
        replace h0 := Lib.hid (h0.out.next x1 t1)
        clear x1 t1
        go_wp2_with fail
        refine (hS1.out _ h0.out.1).mono ?_; rintro e w' ⟨rfl, x1, t1⟩
        replace h0 := Lib.hid (h0.out.next x1 t1)
        clear x1 t1
        go_wp2_with fail
        refine (hM.out _ h0.out.1).mono ?_; rintro e w' ⟨rfl, x1, t1⟩
        replace h0 := Lib.hid (h0.out.next x1 t1)
        clear x1 t1
        go_wp2_with fail
        refine (hS2.out _ h0.out.1).mono ?_; rintro e w' ⟨rfl, x1, t1⟩
        replace h0 := Lib.hid (h0.out.next x1 t1)
        clear x1 t1
        go_wp2_with fail
        refine (hD.out _ h0.out.1).mono ?_; rintro e w' ⟨rfl, x1, t1⟩
        replace h0 := Lib.hid (h0.out.next x1 t1)
        clear x1 t1
        go_wp2_with fail
        refine (hT1.out _ h0.out.1).mono ?_; rintro e w' ⟨rfl, x1, t1⟩
        replace h0 := Lib.hid (h0.out.next x1 t1)
        clear x1 t1
        go_wp2_with fail
        refine (hT2.out _ h0.out.1).mono ?_; rintro e w' ⟨rfl, x1, t1⟩
        replace h0 := Lib.hid (h0.out.next x1 t1)
        clear x1 t1
        go_wp2_with fail
        refine (hS3.out _ h0.out.1).mono ?_; rintro e w' ⟨rfl, x1, t1⟩
        replace h0 := Lib.hid (h0.out.next x1 t1)
        clear x1 t1
        go_wp2_with fail
        refine (hH.out _ h0.out.1).mono ?_; rintro e w' ⟨rfl, x1, t1⟩
        replace h0 := Lib.hid (h0.out.next x1 t1)
        clear x1 t1
        go_wp2_with fail
        refine (hC.out _ h0.out.1).mono ?_; rintro e w' ⟨rfl, x1, t1⟩
        replace h0 := Lib.hid (h0.out.next x1 t1)
        clear x1 t1
        go_wp2_with fail
        refine (hP.out _ h0.out.1).mono ?_; rintro e w' ⟨rfl, x1, t1⟩
        replace h0 := Lib.hid (h0.out.next x1 t1)
        clear x1 t1
        go_wp2_with fail
        refine (hG.out _ h0.out.1).mono ?_; rintro e w' ⟨rfl, x1, t1⟩
        replace h0 := Lib.hid (h0.out.next x1 t1)
        clear x1 t1
        go_wp2_with fail
        refine (hZ1.out _ h0.out.1).mono ?_; rintro e w' ⟨rfl, x1, t1⟩
        replace h0 := Lib.hid (h0.out.next x1 t1)
        clear x1 t1
        go_wp2_with fail
        refine (hZ2.out _ h0.out.1).mono ?_; rintro e w' ⟨rfl, x1, t1⟩
        replace h0 := Lib.hid (h0.out.next x1 t1)
        clear x1 t1
        go_wp2_with fail
        refine (hT.out _ h0.out.1).mono ?_; rintro e w' ⟨rfl, rfl⟩
        go_wp2_with fail
        go_ret2
        exact ⟨rfl, by rw [hRe]; exact hfin.out _ h0.out.2⟩
    · simp only [if_true] at ho
      unfold r3339g at ho
      simp only at ho
      have hT := Lib.hid (fun W (hW : RdC W R s13) => date13_any R s13 y m d ((hr + c : Nat) : Int) W hW (by omega) (by omega) (by omega))
      rw [ho] at hT
      clear ho
      rw [show (((hr + c : Nat) : Int)) = (hr : Int) + c by omega] at hT
      go_enter Tryz.func92, Tryz.ntmps92
      go_wp2_with fail
      refine (hY.out _ h0.out.1).mono ?_; rintro e w' ⟨rfl, x1, t1⟩
      replace h0 := Lib.hid (h0.out.next x1 t1)
      clear x1 t1
      go_wp2_with fail
      refine (hS1.out _ h0.out.1).mono ?_; rintro e w' ⟨rfl, x1, t1⟩
      replace h0 := Lib.hid (h0.out.next x1 t1)
      clear x1 t1
      go_wp2_with fail
      refine (hM.out _ h0.out.1).mono ?_; rintro e w' ⟨rfl, x1, t1⟩
      replace h0 := Lib.hid (h0.out.next x1 t1)
      clear x1 t1
      go_wp2_with fail
      refine (hS2.out _ h0.out.1).mono ?_; rintro e w' ⟨rfl, x1, t1⟩
      replace h0 := Lib.hid (h0.out.next x1 t1)
      clear x1 t1
      go_wp2_with fail
      refine (hD.out _ h0.out.1).mono ?_; rintro e w' ⟨rfl, x1, t1⟩
      replace h0 := Lib.hid (h0.out.next x1 t1)
      clear x1 t1
      go_wp2_with fail
      refine (hT1.out _ h0.out.1).mono ?_; rintro e w' ⟨rfl, x1, t1⟩
      replace h0 := Lib.hid (h0.out.next x1 t1)
      clear x1 t1
      go_wp2_with fail
      refine (hT2.out _ h0.out.1).mono ?_; rintro e w' ⟨rfl, x1, t1⟩
      replace h0 := Lib.hid (h0.out.next x1 t1)
      clear x1 t1
      go_wp2_with fail
      refine (hS3.out _ h0.out.1).mono ?_; rintro e w' ⟨rfl, x1, t1⟩
      replace h0 := Lib.hid (h0.out.next x1 t1)
      clear x1 t1
      go_wp2_with fail
      refine (hH.out _ h0.out.1).mono ?_; rintro e w' ⟨rfl, x1, t1⟩
      replace h0 := Lib.hid (h0.out.next x1 t1)
      clear x1 t1
      go_wp2_with fail
      refine (hC.out _ h0.out.1).mono ?_; rintro e w' ⟨rfl, x1, t1⟩
      replace h0 := Lib.hid (h0.out.next x1 t1)
      clear x1 t1
      go_wp2_with fail
      refine (hP.out _ h0.out.1).mono ?_; rintro e w' ⟨rfl, x1, t1⟩
      replace h0 := Lib.hid (h0.out.next x1 t1)
      clear x1 t1
      go_wp2_with fail
      refine (hG.out _ h0.out.1).mono ?_; rintro e w' ⟨rfl, x1, t1⟩
      replace h0 := Lib.hid (h0.out.next x1 t1)
      clear x1 t1
      go_wp2_with fail
      refine (hZ1.out _ h0.out.1).mono ?_; rintro e w' ⟨rfl, x1, t1⟩
      replace h0 := Lib.hid (h0.out.next x1 t1)
      clear x1 t1
      go_wp2_with fail
      refine (hT.out _ h0.out.1).mono ?_; rintro e w' ⟨rfl, rfl⟩
      go_wp2_with fail
      go_ret2
      exact ⟨rfl, by rw [hRe]; exact hfin.out _ h0.out.2⟩
theorem rfc3339_any (l : List UInt8) (w : World) (hl : l.length ≤ 100000000) : Calls Tryz.prog 92 #[.string ⟨l.toArray⟩] w (OBPost w (r3339C l)) := by
  cases h1 : (skipC (numD 2 (signC (numD 2 (signC (numD 4 (l, false)).2 [45])).2 [45])).2 [84]).1 with
  | true => exact rfc3339_way0 l w hl _ rfl h1
  | false =>
    cases h2 : (skipC (skipC (numD 2 (signC (numD 2 (signC (numD 4 (l, false)).2 [45])).2 [45])).2 [84]).2 [116]).1 with
    | true => exact rfc3339_way1 l w hl _ rfl ⟨h1, h2⟩
    | false => exact rfc3339_way2 l w hl _ rfl ⟨h1, h2⟩
end Go.Proofs.YtkgjbamkinfmeaaGreatDoor
