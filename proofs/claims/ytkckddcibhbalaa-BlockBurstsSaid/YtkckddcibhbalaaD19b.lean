/- The walk of block's read. -/
import Derived.Test.YtkckddcibhbalaaD19a
import Derived.Deep.RegionHeld3
namespace Go.Proofs.Ytkckddcibhbalaa
open Go.RowKit

/-- What is read of a block, as values. -/
def rdPost (w : World) (o : Option (Nat × List UInt8)) (e : Ending) (w' : World) : Prop :=
  e = .returned (match o with | none => .tuple #[.int .u8 0, .string ⟨#[]⟩, .bool false] | some (k, t) => .tuple #[.int .u8 k, .string ⟨t.toArray⟩, .bool true]) ∧ Below w.heap.size w w'
set_option maxHeartbeats 1000000 in
theorem read19_any (s : List UInt8) (n : Nat) (w : World) (hs : s.length ≤ 1000000000) (hn : n ≤ 4294967295) :
    Calls Try.prog 33 #[.string ⟨s.toArray⟩, .int .i64 n] w (rdPost w (rd19 s n)) := by
  unfold rdPost rd19
  by_cases h1 : s.length < 64
  · rw [if_pos h1]
    go_enter Try.func33, Try.ntmps33
    go_wp2_with fail
    go_ret3
    exact ⟨rfl, Below.refl _ _⟩
  rw [if_neg h1]
  have b0 : bt s 0 = ((s.getD 0 0).toNat : Int) := rfl
  have b1 : bt s 1 = ((s.getD 1 0).toNat : Int) := rfl
  have k0 := (s.getD 0 0).toNat_lt
  have k1 := (s.getD 1 0).toNat_lt
  generalize (s.getD 0 0).toNat = k at b0 k0 ⊢
  generalize (s.getD 1 0).toNat = m at b1 k1 ⊢
  have hs64 : 64 ≤ s.length := by omega
  have i0 : 0 < s.length := by omega
  have i1 : 1 < s.length := by omega
  by_cases h2 : k < 1 ∨ 4 < k ∨ 54 < m
  · rw [if_pos h2]
    by_cases g1 : (k : Int) < 1
    · clear h2
      go_enter Try.func33, Try.ntmps33
      go_wp2_with fail
      go_quiet (fail)
      go_wp2_with fail
      go_ret3
      exact ⟨rfl, Drawn.below ⟨_, rfl⟩ _⟩
    · by_cases g2 : (4 : Int) < k
      · clear h2
        go_enter Try.func33, Try.ntmps33
        go_wp2_with fail
        go_quiet (fail)
        go_wp2_with fail
        go_ret3
        exact ⟨rfl, Drawn.below ⟨_, rfl⟩ _⟩
      · have g3 : (54 : Int) < m := by omega
        clear h2
        go_enter Try.func33, Try.ntmps33
        go_wp2_with fail
        go_quiet (fail)
        go_wp2_with fail
        go_ret3
        exact ⟨rfl, Drawn.below ⟨_, rfl⟩ _⟩
  · rw [if_neg h2]
    have g1 : ¬ (k : Int) < 1 := by omega
    have g2 : ¬ (4 : Int) < k := by omega
    have g3 : ¬ (54 : Int) < m := by omega
    rw [show (s.drop 6).take m = (s.take (6 + m)).drop 6 by rw [List.drop_take, Nat.add_sub_cancel_left]]
    have ht : ((s.take (6 + m)).drop 6).length ≤ 54 := by rw [List.length_drop, List.length_take]; omega
    have hm := Lib.hid (fun W => made19_any k n ((s.take (6 + m)).drop 6) W (by omega) hn ht)
    clear h2 ht
    by_cases he : blockB k ((s.take (6 + m)).drop 6) n = s.take 64
    · rw [if_pos he]
      rw [he] at hm
      replace he := Lib.hid he
      go_enter Try.func33, Try.ntmps33
      go_wp2_with fail
      go_quiet (fail)
      go_wp2_with fail
      go_region_held3 (fun _ => True) (first | trivial)
        (first
          | (go_at_call 20; ((with_reducible refine (hm.out _).mono ?_); rintro e w1 ⟨rfl, hb⟩; replace hb := Lib.hid hb)))
      go_wp2_with fail
      go_ret3
      exact ⟨rfl, (Drawn.below ⟨_, rfl⟩ _).andThen hb.out⟩
    · rw [if_neg he]
      have hq : (blockB k ((s.take (6 + m)).drop 6) n == s.take 64) = false := by simpa using he
      generalize blockB k ((s.take (6 + m)).drop 6) n = b at hm hq
      clear he
      go_enter Try.func33, Try.ntmps33
      go_wp2_with fail
      go_quiet (fail)
      go_wp2_with fail
      go_region_held3 (fun _ => True) (first | trivial)
        (first
          | (go_at_call 20; ((with_reducible refine (hm.out _).mono ?_); rintro e w1 ⟨rfl, hb⟩; replace hb := Lib.hid hb)))
      go_wp2_with fail
      go_ret3
      exact ⟨rfl, (Drawn.below ⟨_, rfl⟩ _).andThen hb.out⟩
end Go.Proofs.Ytkckddcibhbalaa
