/- The reference of layer 11: good, Tokens. -/
import Derived.Test.YtahohmdbiiknoaaGreatDoorBR25
import Derived.Test.YtahohmdbiiknoaaGreatDoorBR10
namespace Go.Proofs.YtahohmdbiiknoaaGreatDoor
open Go.RowKit

theorem go_step {l : List UInt8} {k : Nat} (hk : k < l.length) : l.drop k ≠ [] := by intro e; rw [List.drop_eq_nil_iff] at e; omega

set_option maxHeartbeats 1000000 in
theorem rgood_any (l : List UInt8) (w : World) (hl : l.length ≤ 100000) :
    Calls Tryz.prog 31 #[.string ⟨l.toArray⟩] w fun e w' => e = .returned (.int .i64 (goodN l)) ∧ Drawn w w' := by
  go_enter Tryz.func31, Tryz.ntmps31
  go_wp2_with fail
  go_loopw [3] (fun i wr => ∃ k : Nat, i = .int .i64 k ∧ k ≤ l.length ∧ Hid (GoAt l k) ∧ Drawn w wr) (fun i _ => l.length - (intOf i).toNat)
  case atStart => exact ⟨0, rfl, Nat.zero_le _, GoAt.zero _, Drawn.refl _⟩
  case round =>
    obtain ⟨k, rfl, hk, hq, n0, rfl⟩ := hrel
    by_cases hlt : k < l.length
    · have hlt1 : (k : Int) < l.length := by omega
      have htl : l.take l.length = l := List.take_length
      have hd0 := go_step hlt
      have hnx := fun W : World => refnext_any (l.drop k) W (by rw [List.length_drop]; unfold maxLen; omega)
      have hbd := cutN_bd (l.drop k) hd0
      rw [List.length_drop] at hbd
      obtain ⟨b1, b2, b3, b4⟩ := hbd
      have hF := show goodF () (l.drop k) = _ from by unfold goodF; rw [if_neg hd0]
      have hstep := fun n (e : goodF () (l.drop k) = .go () n) => hq.out.step e
      have hbad := hq.out.bad
      obtain ⟨n, hn⟩ : ∃ n, cutN (l.drop k) = n := ⟨_, rfl⟩
      obtain ⟨r, hr⟩ : ∃ r, (cutS (l.drop k)).1 = r := ⟨_, rfl⟩
      rw [hn] at b1 b2 b3 b4 hF
      rw [hr] at hF
      simp only [hr, b4] at hnx
      have hsub : (l.take (k + n)).drop k = (l.drop k).take n := by rw [List.drop_take]; congr 1; omega
      have hch := fun W : World => refchar_any r W
      replace hnx := Lib.hid hnx
      replace hbad := Lib.hid hbad
      replace hstep := Lib.hid hstep
      replace hr := Lib.hid hr
      replace hn := Lib.hid hn
      replace hd0 := Lib.hid hd0
      replace hF := Lib.hid hF
      have hkn : (k : Int) ≤ (k : Int) + n := by omega
      have hkn2 : (k : Int) + n ≤ l.length := by omega
      have hkn3 : k + n ≤ l.length := by omega
      cases hc : charB r
      case false =>
        replace hF := Lib.hid (hF.out.trans (if_pos hc))
        have hP := Lib.hid (hbad.out hF.out)
        rw [hc] at hch
        replace hch := Lib.hid hch
        replace hc := Lib.hid hc
        go_wp2_with fail
        refine (hnx.out _).mono ?_; rintro e w1 ⟨rfl, n1, rfl⟩
        go_wp2_with fail
        refine (hch.out _).mono ?_; rintro e w2 ⟨rfl, rfl⟩
        go_wp2_with fail
        go_ret
        exact ⟨by rw [hP.out]; rfl, ⟨n0 + n1, by simp⟩⟩
      case true =>
        replace hF := Lib.hid (hF.out.trans (if_neg (by rw [hc]; decide)))
        rw [hc] at hch
        replace hch := Lib.hid hch
        replace hc := Lib.hid hc
        by_cases h3 : r = 65533 ∧ (l.drop k).take n ≠ [239, 191, 189]
        · replace hF := Lib.hid (hF.out.trans (if_pos h3))
          have hP := Lib.hid (hbad.out hF.out)
          obtain ⟨rfl, h4⟩ := h3
          have h4' : ((l.drop k).take n == [239, 191, 189]) = false := by rw [beq_eq_false_iff_ne]; exact h4
          rw [← hsub] at h4'
          replace h4 := Lib.hid h4
          replace hsub := Lib.hid hsub
          go_wp2_with fail
          refine (hnx.out _).mono ?_; rintro e w1 ⟨rfl, n1, rfl⟩
          go_wp2_with fail
          refine (hch.out _).mono ?_; rintro e w2 ⟨rfl, rfl⟩
          go_wp2_with fail
          go_ret
          exact ⟨by rw [hP.out]; rfl, ⟨n0 + n1, by simp⟩⟩
        · replace hF := Lib.hid (hF.out.trans (if_neg h3))
          have hnew := Lib.hid (hstep.out n hF.out)
          by_cases h5 : r = 65533
          · have h4 : (l.drop k).take n = [239, 191, 189] := by
              by_cases e : (l.drop k).take n = [239, 191, 189]
              · exact e
              · exact absurd ⟨h5, e⟩ h3
            have h4' : ((l.drop k).take n == [239, 191, 189]) = true := by rw [beq_iff_eq]; exact h4
            rw [← hsub] at h4'
            subst h5
            replace h4 := Lib.hid h4
            replace h3 := Lib.hid h3
            replace hsub := Lib.hid hsub
            go_wp2_with fail
            refine (hnx.out _).mono ?_; rintro e w1 ⟨rfl, n1, rfl⟩
            go_wp2_with fail
            refine (hch.out _).mono ?_; rintro e w2 ⟨rfl, rfl⟩
            go_wp2_with fail
            exact ⟨⟨k + n, by go_num, by omega, hnew, ⟨n0 + n1, by simp⟩⟩, by simp [intOf]; omega⟩
          · have h5' : (r == 65533) = false := by rw [beq_eq_false_iff_ne]; exact h5
            replace h3 := Lib.hid h3
            replace h5 := Lib.hid h5
            go_wp2_with fail
            refine (hnx.out _).mono ?_; rintro e w1 ⟨rfl, n1, rfl⟩
            go_wp2_with fail
            refine (hch.out _).mono ?_; rintro e w2 ⟨rfl, rfl⟩
            go_wp2_with fail
            exact ⟨⟨k + n, by go_num, by omega, hnew, ⟨n0 + n1, by simp⟩⟩, by simp [intOf]; omega⟩
    · have hP : Hid (goodN l = k) := hq.out.stop (by omega)
      have hlt1 : ¬ ((k : Int) < l.length) := by omega
      go_wp2_with fail
      go_ret
      exact ⟨by rw [hP.out]; rfl, ⟨n0, rfl⟩⟩
end Go.Proofs.YtahohmdbiiknoaaGreatDoor
