/- Layer 10: the reference's Plain. -/
import Derived.Test.YtahjopajnckbaaaD10k
namespace Go.Proofs.Ytahjopajnckbaaa
open Go.RowKit

theorem badP_at (b : Bool) (l : List UInt8) (k : Nat) : badP b (l.drop k) = (bt l k == 60 || bt l k == 38 || decide (blankN (l.drop k) = 2) || decide (blankN (l.drop k) = 1) && (bt l k != 32 || !b || decide (l.length - k = 1) || bt l (k + 1) == 32)) := by
  unfold badP
  rw [bt_drop, bt_drop, List.length_drop, Nat.add_zero]
/-- What the loop keeps: what is still to be told. -/
def PlAt (l : List UInt8) (k : Nat) : Prop := k ≤ l.length ∧ plR (decide (k ≠ 0)) (l.drop k) = plainB l
theorem PlAt.bad {l : List UInt8} {k : Nat} (h : PlAt l k) (hk : k < l.length) (hb : badP (decide (k ≠ 0)) (l.drop k) = true) : plainB l = false := by
  rw [← h.2, plR_step _ _ (drop_ne hk), hb]; rfl
theorem PlAt.next {l : List UInt8} {k : Nat} (h : PlAt l k) (hk : k < l.length) (hb : badP (decide (k ≠ 0)) (l.drop k) = false) : PlAt l (k + 1) := by
  refine ⟨by omega, ?_⟩
  rw [← h.2, plR_step _ _ (drop_ne hk), hb, List.drop_drop]
  simp
theorem PlAt.done {l : List UInt8} {k : Nat} (h : PlAt l k) (hk : ¬ k < l.length) : plainB l = true := by
  rw [← h.2, List.drop_eq_nil_of_le (by omega)]; rfl
theorem PlAt.start (l : List UInt8) : PlAt l 0 := ⟨Nat.zero_le _, by rw [List.drop_zero]; exact plR_plain l⟩

set_option maxRecDepth 100000 in
set_option maxHeartbeats 2000000 in
theorem refplain_any (l : List UInt8) (w : World) (hl : l.length ≤ 20000) :
    Calls Try.prog 19 #[.string ⟨l.toArray⟩] w fun e w' => e = .returned (.bool (plainB l)) ∧ w = w' := by
  go_enter Try.func19, Try.ntmps19
  go_wp2_with fail
  go_loop [3] (fun i => ∃ k : Nat, i = .int .i64 k ∧ PlAt l k) (fun i => l.length - (intOf i).toNat)
  case atStart => exact ⟨0, rfl, PlAt.start l⟩
  case round =>
    obtain ⟨k, rfl, hc⟩ := hrel
    have hk := hc.1
    by_cases hlt : k < l.length
    · have hb0 := bt_lt l k
      have hb1 := bt_lt l (k + 1)
      have hat := badP_at (decide (k ≠ 0)) l k
      have hcall : Hid (∀ W, Calls Try.prog 32 #[.string ⟨l.toArray⟩, .int .i64 k] W fun e w' => e = .returned (.int .i64 (blankN (l.drop k))) ∧ W = w') := fun W => refblank_any l k W hlt (by omega)
      have hbad := fun h => hc.bad hlt h
      have hnext := fun h => hc.next hlt h
      have h02 := blankN_02 (l.drop k)
      generalize badP (decide (k ≠ 0)) (l.drop k) = B at hat hbad hnext
      generalize blankN (l.drop k) = n at hat hcall h02
      replace hbad := Lib.hid hbad
      replace hnext := Lib.hid hnext
      clear hc
      by_cases h60 : bt l k = 60
      · replace hbad := Lib.hid (hbad.out (by rw [hat]; rw [h60]; rfl))
        clear hat hnext
        go_wp2_with fail
        refine (hcall.out _).mono ?_; rintro e w' ⟨rfl, rfl⟩
        go_wp2_with fail
        go_ret
        exact ⟨ret_bool hbad.out.symm, rfl⟩
      have b60 : (bt l k == 60) = false := by simpa using h60
      clear h60
      by_cases h38 : bt l k = 38
      · replace hbad := Lib.hid (hbad.out (by rw [hat]; rw [h38]; rfl))
        clear hat hnext
        go_wp2_with fail
        refine (hcall.out _).mono ?_; rintro e w' ⟨rfl, rfl⟩
        go_wp2_with fail
        go_ret
        exact ⟨ret_bool hbad.out.symm, rfl⟩
      have b38 : (bt l k == 38) = false := by simpa using h38
      clear h38
      rcases h02 with rfl | rfl | rfl
      · replace hnext := Lib.hid (hnext.out (by rw [hat]; rw [b60, b38]; rfl))
        clear hat hbad
        go_wp2_with fail
        refine (hcall.out _).mono ?_; rintro e w' ⟨rfl, rfl⟩
        go_wp2_with fail
        exact ⟨⟨k + 1, by go_num, hnext.out⟩, by simp [intOf]; omega⟩
      · by_cases h32 : bt l k = 32
        · clear b60 b38
          by_cases hk0 : k = 0
          · subst hk0
            replace hbad := Lib.hid (hbad.out (by rw [hat]; rw [h32]; rfl))
            clear hat hnext
            go_wp2_with fail
            refine (hcall.out _).mono ?_; rintro e w' ⟨rfl, rfl⟩
            go_wp2_with fail
            go_ret
            exact ⟨ret_bool hbad.out.symm, rfl⟩
          have hkz : ((k : Int) == 0) = false := by simp; omega
          by_cases hkl : k + 1 = l.length
          · have hke : ((k : Int) == (l.length : Int) - 1) = true := by simp; omega
            have hl1 : l.length - k = 1 := by omega
            clear hb1
            replace hbad := Lib.hid (hbad.out (by rw [hat]; rw [h32, hl1]; simp))
            clear hat hnext
            go_wp2_with fail
            refine (hcall.out _).mono ?_; rintro e w' ⟨rfl, rfl⟩
            go_wp2_with fail
            go_ret
            exact ⟨ret_bool hbad.out.symm, rfl⟩
          have hke : ((k : Int) == (l.length : Int) - 1) = false := by rw [beq_eq_false_iff_ne]; omega
          have hk1 : k + 1 < l.length := by omega
          by_cases h33 : bt l (k + 1) = 32
          · replace hbad := Lib.hid (hbad.out (by rw [hat]; rw [h32, h33]; simp))
            clear hat hnext
            go_wp2_with fail
            refine (hcall.out _).mono ?_; rintro e w' ⟨rfl, rfl⟩
            go_wp2_with fail
            go_ret
            exact ⟨ret_bool hbad.out.symm, rfl⟩
          have b33 : (bt l (k + 1) == 32) = false := by simpa using h33
          clear h33
          replace hnext := Lib.hid (hnext.out (by rw [hat]; rw [h32, b33, decide_eq_true hk0, decide_eq_false (show ¬ l.length - k = 1 by omega)]; rfl))
          clear hat hbad
          go_wp2_with fail
          refine (hcall.out _).mono ?_; rintro e w' ⟨rfl, rfl⟩
          go_wp2_with fail
          exact ⟨⟨k + 1, by go_num, hnext.out⟩, by simp [intOf]; omega⟩
        have b32 : (bt l k != 32) = true := by rw [bne_iff_ne]; exact h32
        clear h32
        replace hbad := Lib.hid (hbad.out (by rw [hat]; rw [b32]; simp))
        clear hat hnext
        go_wp2_with fail
        refine (hcall.out _).mono ?_; rintro e w' ⟨rfl, rfl⟩
        go_wp2_with fail
        go_ret
        exact ⟨ret_bool hbad.out.symm, rfl⟩
      · replace hbad := Lib.hid (hbad.out (by rw [hat]; simp))
        clear hat hnext
        go_wp2_with fail
        refine (hcall.out _).mono ?_; rintro e w' ⟨rfl, rfl⟩
        go_wp2_with fail
        go_ret
        exact ⟨ret_bool hbad.out.symm, rfl⟩
    · have hke : ¬ ((k : Int) < l.length) := by omega
      have hq := Lib.hid (hc.done hlt)
      replace hc := Lib.hid hc
      go_wp2_with fail
      go_ret
      exact ⟨ret_bool hq.out.symm, rfl⟩
end Go.Proofs.Ytahjopajnckbaaa
