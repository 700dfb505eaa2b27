/- Layer 21: the writer: numbers, texts. -/
import Derived.Test.YtpfcamebkcengaaWr
import Derived.Test.YtpfcamebkcengaaD21p
import Derived.Test.YtpfcamebkcengaaBn
namespace Go.Proofs.Ytpfcamebkcengaa
open Go.RowKit

set_option maxHeartbeats 400000 in
theorem doubled_any (n : Int) (w : World) (h1 : -9223372036854775808 ≤ n) (h2 : n ≤ 9223372036854775807) :
    Calls Try.prog 54 #[.int .i64 n] w fun e w' => e = .returned (.int .u64 (zig21 n)) ∧ w = w' := by
  by_cases h0 : n < 0
  · obtain ⟨m, hm⟩ : ∃ m : Int, -n - 1 = m := ⟨_, rfl⟩
    have hb := (bits_opp n h1 h2).trans hm
    have hm0 : 0 ≤ m := by omega
    have hm1 : m ≤ 9223372036854775807 := by omega
    have hz := Lib.hid (show IntKind.u64.wrap (IntKind.u64.wrap (IntKind.u64.wrap m * 2) + 1) = (zig21 n : Int) by
      rw [wraps_u64 m hm0 (by omega), wraps_u64 (m * 2) (by omega) (by omega), wraps_u64 (m * 2 + 1) (by omega) (by omega)]
      unfold zig21; rw [if_pos h0]; omega)
    clear hm
    go_enter Try.func54, Try.ntmps54
    go_wp2_with fail
    go_ret
    exact ⟨ret_int hz.out, rfl⟩
  · have hz := Lib.hid (show n * 2 = (zig21 n : Int) by unfold zig21; rw [if_neg h0]; omega)
    go_enter Try.func54, Try.ntmps54
    go_wp2_with fail
    go_ret
    exact ⟨ret_int hz.out, rfl⟩

set_option maxHeartbeats 1000000 in
set_option maxRecDepth 100000 in
theorem wr_number {w : World} {B b : Nat} {l : List UInt8} {o : Option Nat} (h : WrAt w B b l o) (n : Int) (h1 : -9223372036854775808 ≤ n) (h2 : n ≤ 9223372036854775807) (hlen : l.length + (int21 n).length ≤ 140737488355328) :
    Calls Try.prog 35 #[.pointer (some ⟨b, 0, none⟩), .int .i64 n] w (WrPost w B b o (l ++ int21 n) (.tuple #[])) := by
  have hd := Lib.hid (doubled_any n w h1 h2)
  have hz := zig_lt h1 h2
  unfold int21 at *
  generalize zig21 n = z at *
  clear h1 h2
  have hW := Lib.hid (⟨o, h, Wr.refl w b o⟩ : ∃ o', WrAt w B b l o' ∧ Wr w w b o o')
  clear h
  go_enter Try.func35, Try.ntmps35
  go_wp2_with fail
  refine hd.out.mono ?_
  rintro e w1 ⟨rfl, rfl⟩
  clear hd
  go_wp2_with fail
  go_loopw [4] (fun a wr => ∃ (u : Nat) (p : List UInt8), a = .int .u64 (u : Int) ∧ u ≤ z ∧ Hid (p ++ var21 u = var21 z) ∧ Hid (∃ o', WrAt wr B b (l ++ p) o' ∧ Wr w wr b o o')) (fun a _ => (intOf a).toNat)
  case atStart => exact ⟨z, [], rfl, Nat.le_refl _, Lib.hid rfl, by rw [List.append_nil]; exact hW⟩
  case round =>
    obtain ⟨u, p, rfl, hu, hp, hr⟩ := hrel
    obtain ⟨o1, hr1, hr2⟩ := hr.out
    have hpl := congrArg List.length hp.out
    rw [List.length_append] at hpl
    have hul := var_len_pos u
    by_cases hlt : u < 128
    · have hc := Lib.hid (wr_byte hr1 u (UInt8.ofNat u) (by rw [UInt8.toNat_ofNat']; omega) (by rw [List.length_append]; omega))
      have hv := Lib.hid (show l ++ p ++ [UInt8.ofNat u] = l ++ var21 z by rw [List.append_assoc, ← var_small hlt, hp.out])
      clear hr hpl hul hr1
      replace hr2 := Lib.hid hr2
      go_wp2_with fail
      refine hc.out.mono ?_
      rintro e w2 ⟨rfl, o2, k1, k2⟩
      replace k1 := Lib.hid k1
      replace k2 := Lib.hid k2
      go_wp2_with fail
      go_end0
      exact ⟨rfl, o2, hv.out ▸ k1.out, hr2.out.trans k2.out⟩
    · have hb := bits_high u
      have hc := Lib.hid (wr_byte hr1 ((u % 128 + 128 : Nat) : Int) (UInt8.ofNat (u % 128 + 128)) (by rw [UInt8.toNat_ofNat']; omega) (by rw [List.length_append]; omega))
      have hv := Lib.hid (show (p ++ [UInt8.ofNat (u % 128 + 128)]) ++ var21 (u / 128) = var21 z by rw [← hp.out, var_big hlt, List.append_assoc]; rfl)
      clear hr hpl hul hr1
      replace hr2 := Lib.hid hr2
      obtain ⟨y, hy⟩ : ∃ y : Int, ((u % 128 + 128 : Nat) : Int) = y := ⟨_, rfl⟩
      rw [hy] at hb hc
      clear hy
      go_wp2_with fail
      refine hc.out.mono ?_
      rintro e w2 ⟨rfl, o2, k1, k2⟩
      replace k1 := Lib.hid k1
      replace k2 := Lib.hid k2
      clear hb
      go_wp2_with fail
      exact ⟨⟨u / 128, p ++ [UInt8.ofNat (u % 128 + 128)], rfl, by omega, hv, Lib.hid ⟨o2, by rw [← List.append_assoc]; exact k1.out, hr2.out.trans k2.out⟩⟩, by simp [intOf]; omega⟩

set_option maxHeartbeats 1000000 in
theorem wr_txt {w : World} {B b : Nat} {l : List UInt8} {o : Option Nat} (h : WrAt w B b l o) (s : List UInt8) (hs : s.length ≤ 9223372036854775807) (hlen : l.length + (text21 s).length ≤ 140737488355328) :
    Calls Try.prog 37 #[.pointer (some ⟨b, 0, none⟩), .string ⟨s.toArray⟩] w (WrPost w B b o (l ++ text21 s) (.tuple #[])) := by
  unfold text21 at *
  rw [List.length_append] at hlen
  have hn := Lib.hid (wr_number h s.length (by omega) (by omega) (by omega))
  clear h
  go_enter Try.func37, Try.ntmps37
  go_wp2_with fail
  refine hn.out.mono ?_
  rintro e w1 ⟨rfl, o1, k1, k2⟩
  have hc := Lib.hid (wr_str k1 s (by rw [List.length_append]; omega))
  replace k2 := Lib.hid k2
  clear k1 hn
  go_wp2_with fail
  refine hc.out.mono ?_
  rintro e w2 ⟨rfl, o2, j1, j2⟩
  replace j1 := Lib.hid j1
  replace j2 := Lib.hid j2
  go_wp2_with fail
  go_end0
  exact ⟨rfl, o2, by rw [← List.append_assoc]; exact j1.out, k2.out.trans j2.out⟩
end Go.Proofs.Ytpfcamebkcengaa
