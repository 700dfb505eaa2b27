/- The walks of layer 7's laws. -/
import Derived.Test.YtgldlfgidmgmfaaD06a
import Derived.Test.YtgldlfgidmgmfaaD07b
namespace Go.Proofs.Ytgldlfgidmgmfaa
open Go.RowKit

theorem U64s.rd {w : World} {B : Nat} {v : Value} {xs : List Int} (h : U64s w B v xs) : RdSl .u64 w v xs := ⟨h.sl, h.low⟩
/-- A call that only computes and draws, met within a region that draws. -/
theorem Calls.drawn_on {P : Program} {f : FuncId} {args : Array Value} {w : World} {n : Nat} {v : Value} (h : ∀ W, Calls P f args W fun e w' => e = .returned v ∧ Drawn W w') :
    Calls P f args (w.drewN n) fun e w' => e = .returned v ∧ ∃ m, w' = w.drewN m :=
  (h _).mono fun _ _ hh => ⟨hh.1, by obtain ⟨m, rfl⟩ := hh.2; exact ⟨n + m, by simp⟩⟩

theorem band_ex0 : bandsB 18374686479671623681 3 = [1, 0, 0, 65280] := by decide +kernel
theorem band_ex1 : widB 4 0 = 13 := by decide +kernel
theorem band_ex2 : widB 4 4 = 12 := by decide +kernel
theorem band_ex3 : begB 4 4 = 52 := by decide +kernel
theorem band_ex4 : bandB 7 0 0 = 7 := by decide +kernel
theorem band_ex5 : mayB 16 = false := by decide +kernel

/-- What is near shares a band. -/
theorem share_near (a b d : Int) (a0 : 0 ≤ a) (a1 : a ≤ 18446744073709551615) (b0 : 0 ≤ b) (b1 : b ≤ 18446744073709551615) (hm : mayB d = true) (hd : ¬ d < distB a b) : shareB a b d = true := by
  obtain ⟨n, rfl, hn⟩ := may_form hm
  unfold shareB
  rw [hm, Bool.true_and]
  rcases h : shTo a.toNat b.toNat n (n + 1) with _ | _
  · have h1 := apart_le hn (n + 1) (Nat.le_refl _) h
    rw [st_all n hn] at h1
    rw [distB_nat a b a0 a1 b0 b1] at hd
    omega
  · exact h

theorem st_lt {n k : Nat} (hn : n < 16) (hk : k ≤ n) : stN n k < 64 := by have := st_le hn hk; have := wd_pos hn hk; omega
theorem st_bd {n k : Nat} (hn : n < 16) (hk : k ≤ n + 1) : stN n k ≤ 64 := by
  rcases Nat.lt_or_ge n k with h | h
  · rw [show k = n + 1 by omega, st_all n hn]; omega
  · have := st_le hn h; omega

theorem wd_even {n k : Nat} (hn : n < 16) (hk : k ≤ n) : 64 / (n + 1) ≤ wdN n k ∧ wdN n k ≤ 64 / (n + 1) + 1 := (cut_facts n hn k (by omega) hk).2.2.2

end Go.Proofs.Ytgldlfgidmgmfaa
