/- The walks of crc's Seal and Open. -/
import Derived.Test.YtgalafidpoejdaaCo
import Derived.Deep.RegionHeld3
import Derived.Test.YtgalafidpoejdaaD18a
namespace Go.Proofs.Ytgalafidpoejdaa
open Go.RowKit

theorem sealB_str (l : List UInt8) : sealB l = l ++ fourB (sumB l) := rfl
set_option maxHeartbeats 400000 in
theorem seal18_any (l : List UInt8) (w : World) (hs : l.length ≤ 281474976710656) :
    Calls Try.prog 12 #[.string ⟨l.toArray⟩] w fun e w' => e = .returned (.string ⟨(sealB l).toArray⟩) ∧ Below w.heap.size w w' := by
  have hc := Lib.hid (fun W => sum18_any l W (by unfold maxLen; omega))
  obtain ⟨h0, h1⟩ := sumB_bd l
  rw [sealB_str]
  have hl := fourB_len (sumB l)
  generalize sumB l = n at *
  have hf := Lib.hid (fun W => four18_any n W h0 h1)
  generalize fourB n = f at *
  go_enter Try.func12, Try.ntmps12
  go_wp2_with fail
  refine (hc.out w).mono ?_; rintro e w1 ⟨rfl, rfl⟩
  go_wp2_with fail
  refine (hf.out w).mono ?_; rintro e w1 ⟨rfl, hb⟩
  replace hb := Lib.hid hb
  go_wp2_with fail
  go_ret
  exact ⟨rfl, hb.out⟩

set_option maxHeartbeats 1000000 in
theorem open18_any (l : List UInt8) (w : World) (hs : l.length ≤ 281474976710656) :
    Calls Try.prog 8 #[.string ⟨l.toArray⟩] w fun e w' => e = .returned (.tuple #[.string ⟨(openT l).toArray⟩, .bool (openQ l)]) ∧ Below w.heap.size w w' := by
  by_cases h4 : l.length < 4
  · obtain ⟨e1, e2⟩ := open_no (Or.inl h4 : l.length < 4 ∨ l.drop (l.length - 4) ≠ fourB (sumB (l.take (l.length - 4))))
    rw [e1, e2]
    clear e1 e2
    have hd : decide ((l.length : Int) - 4 < 0) = true := decide_eq_true (by omega)
    go_enter Try.func8, Try.ntmps8
    go_wp2_with fail
    go_quiet (fail)
    go_wp2_with fail
    go_ret2
    exact ⟨rfl, Drawn.below ⟨_, rfl⟩ _⟩
  · obtain ⟨n, hn⟩ : ∃ n, n + 4 = l.length := ⟨l.length - 4, by omega⟩
    have hy := @open_yes l (by omega)
    have hx := @open_no l
    have ht : (l.take n).length = n := by rw [List.length_take]; omega
    rw [show l.length - 4 = n by omega] at hy hx
    have hc := Lib.hid (fun W => sum18_any (l.take n) W (by unfold maxLen; omega))
    obtain ⟨h0, h1⟩ := sumB_bd (l.take n)
    generalize sumB (l.take n) = m at *
    have hf := Lib.hid (fun W => four18_any m W h0 h1)
    generalize fourB m = f at *
    have hk := Lib.hid (fun W => clone_any (l.take n) W (by omega))
    have hd : decide ((l.length : Int) - 4 < 0) = false := decide_eq_false (by omega)
    have e1 : (l.length : Int) - 4 = n := by omega
    have e2 : n ≤ l.length := by omega
    have e3 : 0 ≤ (n : Int) := by omega
    have e4 : ¬ ((n : Int) < 0) := by omega
    clear ht hn
    by_cases he : l.drop n = f
    · obtain ⟨e5, e6⟩ := hy he
      rw [e5, e6]
      subst he
      replace hx := Lib.hid hx
      clear hy hx e5 e6
      go_enter Try.func8, Try.ntmps8
      go_wp2_with fail
      go_region_held3 (fun _ => True) (first | trivial)
        (first
          | (go_at_call 10; ((with_reducible refine (hc.out _).mono ?_); rintro e w' ⟨rfl, rfl⟩))
          | (go_at_call 15; ((with_reducible refine (hf.out _).mono ?_); rintro e w1 ⟨rfl, hb⟩; replace hb := Lib.hid hb)))
      go_wp2_with fail
      refine (hk.out _).mono ?_; rintro e w2 ⟨rfl, hb2⟩
      replace hb2 := Lib.hid hb2
      go_wp2_with fail
      go_ret2
      exact ⟨rfl, ((Drawn.below ⟨1, rfl⟩ _).andThen hb.out).andThen hb2.out⟩
    · obtain ⟨e5, e6⟩ := hx (Or.inr he)
      rw [e5, e6]
      have hq : (l.drop n == f) = false := by simpa using he
      replace he := Lib.hid he
      clear hy hx e5 e6
      go_enter Try.func8, Try.ntmps8
      go_wp2_with fail
      go_region_held3 (fun _ => True) (first | trivial)
        (first
          | (go_at_call 10; ((with_reducible refine (hc.out _).mono ?_); rintro e w' ⟨rfl, rfl⟩))
          | (go_at_call 15; ((with_reducible refine (hf.out _).mono ?_); rintro e w1 ⟨rfl, hb⟩; replace hb := Lib.hid hb)))
      go_wp2_with fail
      go_ret2
      exact ⟨rfl, (Drawn.below ⟨1, rfl⟩ _).andThen hb.out⟩
end Go.Proofs.Ytgalafidpoejdaa
