/- Layer 21, the reference: numbers and texts as bytes. -/
import Derived.Test.YtpfcamebkcengaaD21r
import Derived.Test.YtpfcamebkcengaaD21q
import Derived.Test.YtpfcamebkcengaaCv
import Derived.IntWalk
import Derived.Test.YtpfcamebkcengaaBi
namespace Go.Proofs.Ytpfcamebkcengaa
open Go.RowKit

theorem u8_nat21 (k : Nat) : u8 (k : Int) = UInt8.ofNat k := by unfold u8; simp
/-- Behind a function of the reference that tells a text. -/
def StrW (w : World) (s : List UInt8) (e : Ending) (w' : World) : Prop := e = .returned (.string ⟨s.toArray⟩) ∧ Below w.heap.size w w'

set_option maxHeartbeats 2000000 in
set_option maxRecDepth 100000 in
theorem rint_any (n : Int) (w : World) (h1 : -9223372036854775808 ≤ n) (h2 : n ≤ 9223372036854775807) :
    Calls Try.prog 17 #[.int .i64 n] w (StrW w (int21 n)) := by
  have hz := zig_lt h1 h2
  have hl := (int_len_bd h1 h2).2
  have hc1 := fun (w : World) (a : Int) => run_str_new (P := Try.prog) w 68 9 5 5 Try.underlying68 Try.underlying5 Try.underlying9 [a] 1 1 rfl
  simp only [List.map_cons, List.map_nil] at hc1
  unfold int21 at hl ⊢
  by_cases h0 : n < 0
  · obtain ⟨X, hX⟩ : ∃ X : Int, IntKind.u64.wrap n = X := ⟨_, rfl⟩
    have hX1 := Lib.hid (show X = n + 18446744073709551616 by
      have h3 : IntKind.wrap .u64 n = n % 18446744073709551616 := by simp [IntKind.wrap, IntKind.bits, IntKind.signed]
      rw [← hX, h3]; omega)
    have hX2 : 0 ≤ X ∧ X ≤ 18446744073709551615 := by have := hX1.out; omega
    obtain ⟨Y, hY⟩ : ∃ Y : Int, IntKind.u64.wrap (X * 2) = Y := ⟨_, rfl⟩
    have hY1 := Lib.hid (show Y = n * 2 + 18446744073709551616 by
      have h3 : IntKind.wrap .u64 (X * 2) = X * 2 % 18446744073709551616 := by simp [IntKind.wrap, IntKind.bits, IntKind.signed]
      have := hX1.out
      rw [← hY, h3]; omega)
    have hY2 : 0 ≤ Y ∧ Y ≤ 18446744073709551615 := by have := hY1.out; omega
    obtain ⟨z, hzz⟩ : ∃ z : Int, Hid (z = (zig21 n : Int)) := ⟨_, Lib.hid rfl⟩
    have hno : bits .xor .u64 (if IntKind.u64.signed = true then -1 else IntKind.u64.max) Y = z := by
      rw [bits_not Y hY2.1 hY2.2, hzz.out]
      have := hY1.out
      unfold zig21; rw [if_pos h0]; omega
    have hno2 : bits .xor .u64 IntKind.u64.max Y = z := hno
    obtain ⟨hX3, hX4⟩ := hX2
    obtain ⟨hY3, hY4⟩ := hY2
    go_enter Try.func17, Try.ntmps17
    go_wp2_with fail
    go_loopw [3, 4] (fun a s wr => ∃ (u : Nat) (p : List UInt8), a = .int .u64 (u : Int) ∧ s = .string ⟨p.toArray⟩ ∧ u ≤ zig21 n ∧ p.length ≤ 20 ∧ Hid (p ++ var21 u = var21 (zig21 n)) ∧ Hid (Below w.heap.size w wr)) (fun a _ _ => (intOf a).toNat)
    case atStart => exact ⟨zig21 n, [], by rw [hzz.out], rfl, Nat.le_refl _, by simp, Lib.hid rfl, Lib.hid (Below.refl _ _)⟩
    case round =>
      obtain ⟨u, p, rfl, rfl, hu, hpl, hp, hb⟩ := hrel
      by_cases hlt : u < 128
      · have hlti : ¬ (128 : Int) ≤ (u : Int) := by omega
        have hv := Lib.hid (show p ++ [u8 (u : Int)] = var21 (zig21 n) by rw [← hp.out, var_small hlt, u8_nat21])
        have hb2 := Lib.hid (hb.out.alloc hb.out.size (.cells #[.int .u8 (u : Int)] 5))
        go_wp2_with fail
        go_ret
        exact ⟨ret_str hv.out, hb2.out⟩
      · have hlti : (128 : Int) ≤ (u : Int) := by omega
        have hbh := bits_high u
        have hv := Lib.hid (show (p ++ [u8 ((u % 128 + 128 : Nat) : Int)]) ++ var21 (u / 128) = var21 (zig21 n) by rw [← hp.out, var_big hlt, List.append_assoc, u8_nat21]; rfl)
        have hpl2 := congrArg List.length hp.out
        rw [List.length_append] at hpl2
        have hup := var_len_pos u
        have hp19 : p.length + 1 ≤ 20 := by omega
        have hb2 := Lib.hid (hb.out.alloc hb.out.size (.cells #[.int .u8 ((u % 128 + 128 : Nat) : Int)] 5))
        obtain ⟨y, hy⟩ : ∃ y : Int, ((u % 128 + 128 : Nat) : Int) = y := ⟨_, rfl⟩
        rw [hy] at hbh hv hb2
        clear hy hpl2 hup
        go_wp2_with fail
        exact ⟨⟨u / 128, p ++ [u8 y], rfl, rfl, by omega, by rw [List.length_append]; exact hp19, hv, hb2⟩, by simp [intOf]; omega⟩
  · obtain ⟨z, hzz⟩ : ∃ z : Int, Hid (z = (zig21 n : Int)) := ⟨_, Lib.hid rfl⟩
    have hz2 := Lib.hid (show n * 2 = z by rw [hzz.out]; unfold zig21; rw [if_neg h0]; omega)
    go_enter Try.func17, Try.ntmps17
    go_wp2_with fail
    go_loopw [3, 4] (fun a s wr => ∃ (u : Nat) (p : List UInt8), a = .int .u64 (u : Int) ∧ s = .string ⟨p.toArray⟩ ∧ u ≤ zig21 n ∧ p.length ≤ 20 ∧ Hid (p ++ var21 u = var21 (zig21 n)) ∧ Hid (Below w.heap.size w wr)) (fun a _ _ => (intOf a).toNat)
    case atStart => exact ⟨zig21 n, [], by rw [hz2.out, hzz.out], rfl, Nat.le_refl _, by simp, Lib.hid rfl, Lib.hid (Below.refl _ _)⟩
    case round =>
      obtain ⟨u, p, rfl, rfl, hu, hpl, hp, hb⟩ := hrel
      by_cases hlt : u < 128
      · have hlti : ¬ (128 : Int) ≤ (u : Int) := by omega
        have hv := Lib.hid (show p ++ [u8 (u : Int)] = var21 (zig21 n) by rw [← hp.out, var_small hlt, u8_nat21])
        have hb2 := Lib.hid (hb.out.alloc hb.out.size (.cells #[.int .u8 (u : Int)] 5))
        go_wp2_with fail
        go_ret
        exact ⟨ret_str hv.out, hb2.out⟩
      · have hlti : (128 : Int) ≤ (u : Int) := by omega
        have hbh := bits_high u
        have hv := Lib.hid (show (p ++ [u8 ((u % 128 + 128 : Nat) : Int)]) ++ var21 (u / 128) = var21 (zig21 n) by rw [← hp.out, var_big hlt, List.append_assoc, u8_nat21]; rfl)
        have hpl2 := congrArg List.length hp.out
        rw [List.length_append] at hpl2
        have hup := var_len_pos u
        have hp19 : p.length + 1 ≤ 20 := by omega
        have hb2 := Lib.hid (hb.out.alloc hb.out.size (.cells #[.int .u8 ((u % 128 + 128 : Nat) : Int)] 5))
        obtain ⟨y, hy⟩ : ∃ y : Int, ((u % 128 + 128 : Nat) : Int) = y := ⟨_, rfl⟩
        rw [hy] at hbh hv hb2
        clear hy hpl2 hup
        go_wp2_with fail
        exact ⟨⟨u / 128, p ++ [u8 y], rfl, rfl, by omega, by rw [List.length_append]; exact hp19, hv, hb2⟩, by simp [intOf]; omega⟩

set_option maxHeartbeats 1000000 in
theorem rtext_any (s : List UInt8) (w : World) (hs : s.length ≤ 140737488355000) : Calls Try.prog 19 #[.string ⟨s.toArray⟩] w (StrW w (text21 s)) := by
  have hi := Lib.hid (rint_any s.length w (by omega) (by omega))
  have hl := (int_len_bd (n := (s.length : Int)) (by omega) (by omega)).2
  unfold text21
  generalize int21 (s.length : Int) = A at *
  go_enter Try.func19, Try.ntmps19
  go_wp2_with fail
  refine hi.out.mono ?_
  rintro e w1 ⟨rfl, b1⟩
  replace b1 := Lib.hid b1
  go_wp2_with fail
  go_ret
  exact ⟨rfl, b1.out⟩
end Go.Proofs.Ytpfcamebkcengaa
