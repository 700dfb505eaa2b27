/- Layer 10's walks of numbers and names: number, numbered, Named; the program's and the reference's. -/
import Derived.Test.YtldnigkaagcciaaDoorD10b
import Derived.Test.YtldnigkaagcciaaDoorLs
namespace Go.Proofs.YtldnigkaagcciaaDoor
open Go.RowKit

theorem numC_step (b r : Int) (l : List UInt8) (k : Nat) (h : k < l.length) : numC b r (l.drop k) = if digN (bt l k) < 0 ∨ b ≤ digN (bt l k) then -1 else numC b (min (r * b + digN (bt l k)) 1114112) (l.drop (k + 1)) := by
  rw [List.drop_eq_getElem_cons h]
  conv => lhs; unfold numC
  have : ((l[k].toNat : Nat) : Int) = bt l k := by unfold bt; simp [List.getD, h]
  rw [this]
theorem numC_end (b r : Int) (l : List UInt8) : numC b r (l.drop l.length) = r := by simp [numC]

set_option maxHeartbeats 1000000 in
theorem number_any (b : Int) (hb : b = 10 ∨ b = 16) (l : List UInt8) (w : World) (hl : l.length ≤ 1000000) :
    Calls Tryd.prog 73 #[.string ⟨l.toArray⟩, .int .i32 b] w fun e w' => e = .returned (.int .i32 (numC b 0 l)) ∧ w = w' := by
  go_enter Tryd.func73, Tryd.ntmps73
  have hb0 : 0 < b ∧ b ≤ 16 := by omega
  have hbm : ∀ r : Int, 0 ≤ r → r ≤ 1114112 → 0 ≤ r * b ∧ r * b ≤ 17825792 := by
    intro r h0 h1
    rcases hb with rfl | rfl <;> omega
  replace hb := Lib.hid hb
  replace hbm := Lib.hid hbm
  go_wp2_with fail
  go_loop [5, 10] (fun r i => ∃ (k : Nat) (x : Int), i = .int .i64 k ∧ r = .int .i32 x ∧ k ≤ l.length ∧ 0 ≤ x ∧ x ≤ 1114112 ∧ Hid (numC b x (l.drop k) = numC b 0 l)) (fun _ i => l.length - (intOf i).toNat)
  case atStart => exact ⟨0, 0, rfl, rfl, Nat.zero_le _, by omega, by omega, show numC b 0 (l.drop 0) = numC b 0 l by rw [List.drop_zero]⟩
  case round =>
    obtain ⟨k, x, rfl, rfl, hk, hx0, hx1, hn⟩ := hrel
    by_cases hlt : k < l.length
    · have hbk := bt_lt l k
      have hd := digN_bd (bt l k)
      have hst := numC_step b x l k hlt
      rw [hn.out] at hst
      obtain ⟨hm0, hm1⟩ := hbm.out x hx0 hx1
      obtain ⟨d, hde⟩ : ∃ d, digN (bt l k) = d := ⟨_, rfl⟩
      rw [hde] at hd hst
      replace hde := Lib.hid hde
      by_cases h1 : d < 0
      · rw [if_pos (Or.inl h1)] at hst
        replace hst := Lib.hid hst
        clear hn
        go_wp2_with fail
        refine (digit_any _ _ hbk.1 hbk.2).mono ?_; rintro e w' ⟨rfl, rfl⟩; rw [hde.out]
        go_wp2_with fail
        go_ret
        exact ⟨ret_i32 hst.out.symm, rfl⟩
      by_cases h2 : b ≤ d
      · rw [if_pos (Or.inr h2)] at hst
        replace hst := Lib.hid hst
        clear hn
        go_wp2_with fail
        refine (digit_any _ _ hbk.1 hbk.2).mono ?_; rintro e w' ⟨rfl, rfl⟩; rw [hde.out]
        go_wp2_with fail
        go_ret
        exact ⟨ret_i32 hst.out.symm, rfl⟩
      rw [if_neg (by omega)] at hst
      clear hn
      replace hst := Lib.hid hst
      go_wp2_with fail
      refine (digit_any _ _ hbk.1 hbk.2).mono ?_; rintro e w' ⟨rfl, rfl⟩; rw [hde.out]
      go_wp2_with fail
      exact ⟨⟨k + 1, min (x * b + d) 1114112, by go_num, rfl, by omega, by omega, by omega, hst.out.symm⟩, by simp [intOf]; omega⟩
    · have hke : ¬ ((k : Int) < l.length) := by omega
      have hkl : k = l.length := by omega
      replace hkl := Lib.hid hkl
      go_wp2_with fail
      go_ret
      refine ⟨ret_i32 ?_, rfl⟩
      have := hn.out
      rw [hkl.out, numC_end] at this
      exact this

theorem numR_step (b n : Int) (l : List UInt8) (k : Nat) (h : k < l.length) : numR b n (l.drop k) = if digN (bt l k) < 0 ∨ b ≤ digN (bt l k) ∨ 1114111 < n then none else numR b (n * b + digN (bt l k)) (l.drop (k + 1)) := by
  rw [List.drop_eq_getElem_cons h]
  conv => lhs; unfold numR
  have : ((l[k].toNat : Nat) : Int) = bt l k := by unfold bt; simp [List.getD, h]
  rw [this]
theorem numR_end (b n : Int) (l : List UInt8) : numR b n (l.drop l.length) = some n := by simp [numR]
def numV (b : Int) (l : List UInt8) : Int := (numR b 0 l).getD 0
def numK (b : Int) (l : List UInt8) : Bool := numOk (numR b 0 l)
theorem num_ret {b x : Int} {l : List UInt8} {ok : Bool} (h1 : x = numV b l) (h2 : ok = numK b l) : Ending.returned (.tuple #[.int .i32 x, .bool ok]) = .returned (.tuple #[.int .i32 (numV b l), .bool (numK b l)]) := by rw [h1, h2]

end Go.Proofs.YtldnigkaagcciaaDoor
