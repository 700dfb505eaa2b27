/- The walks of the reference's Sum, Four, Read, Seal, Open, Burst of layer 18. -/
import Derived.Test.YtkckddcibhbalaaD18b
import Derived.Test.YtkckddcibhbalaaD18c
namespace Go.Proofs.Ytkckddcibhbalaa
open Go.RowKit

set_option maxHeartbeats 1000000 in
theorem refsum18_any (l : List UInt8) (w : World) (hs : l.length ≤ maxLen) :
    Calls Try.prog 41 #[.string ⟨l.toArray⟩] w fun e w' => e = .returned (.int .u32 (sumB l)) ∧ w = w' := by
  unfold maxLen at hs
  go_enter Try.func41, Try.ntmps41
  go_wp2_with fail
  go_loop [3, 4] (fun a i => ∃ k : Nat, k ≤ l.length ∧ i = .int .i64 k ∧ a = .int .u32 (nB (regC (l.take k)))) (fun _ i => l.length - (intOf i).toNat)
  case atStart => exact ⟨0, Nat.zero_le _, rfl, by rw [List.take_zero, regC_nil, nB_ones]⟩
  case round =>
    obtain ⟨k, hk, rfl, rfl⟩ := hrel
    by_cases hlt : k < l.length
    · have hn := Lib.hid (regC_next l k hlt)
      have hb : bt l k = nB (BitVec.ofNat 32 (l.getD k 0).toNat) := by rw [nB_byte]; rfl
      have hbd : 0 ≤ bt l k ∧ bt l k ≤ 255 := by have := (l.getD k 0).toNat_lt; unfold bt; omega
      obtain ⟨hb0, hb1⟩ := hbd
      have hx := xor_nB (regC (l.take k)) (BitVec.ofNat 32 (l.getD k 0).toNat)
      rw [← hb] at hx
      generalize BitVec.ofNat 32 (l.getD k 0).toNat = y at hn hx hb
      generalize regC (l.take k) = x at hn hx ⊢
      clear hb
      go_wp2_with fail
      go_loop [3, 5] (fun a i => ∃ j : Nat, j ≤ 8 ∧ i = .int .i64 j ∧ a = .int .u32 (nB (shK j (x ^^^ y)))) (fun _ i => 8 - (intOf i).toNat)
      case atStart => exact ⟨0, by omega, rfl, rfl⟩
      case round =>
        obtain ⟨j, hj, rfl, rfl⟩ := hrel
        by_cases hlj : j < 8
        · have hs := Lib.hid (shK_next j (x ^^^ y))
          generalize shK j (x ^^^ y) = z at hs ⊢
          obtain ⟨h0, h1⟩ := nB_bd z
          have c0 := shC_0 z
          have c1 := shC_1 z
          have ha := u32_and1 h0 h1
          generalize hm : nB (shC z) = m at c0 c1
          generalize nB z = n at *
          rcases (show n % 2 = 0 ∨ n % 2 = 1 by omega) with h | h
          · replace c0 := Lib.hid (c0 h)
            rw [h] at ha
            replace h := Lib.hid h
            replace hm := Lib.hid hm
            clear c1
            go_wp2_with fail
            go_round
            case rel => exact ⟨j + 1, by omega, by go_num, by rw [hs.out, hm.out, c0.out]⟩
            case measure => simp [intOf]; omega
          · replace c1 := Lib.hid (c1 h)
            rw [h] at ha
            replace h := Lib.hid h
            replace hm := Lib.hid hm
            clear c0
            go_wp2_with fail
            go_round
            case rel => exact ⟨j + 1, by omega, by go_num, by rw [hs.out, hm.out, c1.out]⟩
            case measure => simp [intOf]; omega
        · obtain rfl : j = 8 := by omega
          generalize shK 8 (x ^^^ y) = z at hn ⊢
          go_wp2_with fail
          go_round
          case rel => exact ⟨k + 1, by omega, by go_num, by rw [hn.out]⟩
          case measure => simp [intOf]; omega
    · have hke : ¬ ((k : Int) < l.length) := by omega
      have he := Lib.hid (not_nB (regC l))
      rw [List.take_of_length_le (by omega)]
      generalize nB (regC l) = n at he ⊢
      go_wp2_with fail
      go_ret
      exact ⟨ret_int he.out, rfl⟩

theorem fourB_map (n : Int) (h0 : 0 ≤ n) : [n % 256, n / 256 % 256, n / 65536 % 256, n / 16777216 % 256].map u8 = fourB n := by
  have := fourB_nums n h0
  rw [← this]
  exact nums_u8 _
set_option maxHeartbeats 1000000 in
theorem reffour18_any (n : Int) (w : World) (h0 : 0 ≤ n) (h1 : n ≤ 4294967295) :
    Calls Try.prog 31 #[.int .u32 n] w fun e w' => e = .returned (.string ⟨(fourB n).toArray⟩) ∧ Below w.heap.size w w' := by
  have hc4 := fun (w : World) (a b c d : Int) => run_str_new (P := Try.prog) w 41 9 5 5 Try.underlying41 Try.underlying5 Try.underlying9 [a, b, c, d] 4 4 rfl
  simp only [List.map_cons, List.map_nil] at hc4
  have hm := Lib.hid (fourB_map n h0)
  rw [show n / 16777216 % 256 = n / 16777216 by omega] at hm
  go_enter Try.func31, Try.ntmps31
  go_wp2_with fail
  go_ret
  exact ⟨ret_str hm.out, (Below.refl _ _).alloc (Nat.le_refl _) _⟩

theorem rd_expr (l : List UInt8) (h : l.length = 4) : bits .or .u32 (bits .or .u32 (bits .or .u32 (bt l 0 % 4294967296) (bt l 1 % 4294967296 * 256 % 4294967296)) (bt l 2 % 4294967296 * 65536 % 4294967296)) (bt l 3 % 4294967296 * 16777216 % 4294967296) = readB l := by
  have hb : ∀ k, 0 ≤ bt l k ∧ bt l k ≤ 255 := fun k => by have := (l.getD k 0).toNat_lt; unfold bt; omega
  have hm : ∀ k, bt l k % 4294967296 = bt l k := fun k => Int.emod_eq_of_lt (hb k).1 (by have := hb k; omega)
  rw [hm, hm, hm, hm, ← rdTo_all l h]
  have h1 := rdTo_or l 1 (by omega)
  have h2 := rdTo_or l 2 (by omega)
  have h3 := rdTo_or l 3 (by omega)
  rw [show rdTo l 1 = bt l 0 from by simp [rdTo], show (2 : Int) ^ (8 * 1) = 256 from rfl] at h1
  rw [show (2 : Int) ^ (8 * 2) = 65536 from rfl] at h2
  rw [show (2 : Int) ^ (8 * 3) = 16777216 from rfl] at h3
  rw [h1, h2, h3]
set_option maxHeartbeats 400000 in
theorem refseal18_any (l : List UInt8) (w : World) (hs : l.length ≤ 281474976710656) :
    Calls Try.prog 32 #[.string ⟨l.toArray⟩] w fun e w' => e = .returned (.string ⟨(sealB l).toArray⟩) ∧ Below w.heap.size w w' := by
  have hc := Lib.hid (fun W => refsum18_any l W (by unfold maxLen; omega))
  obtain ⟨h0, h1⟩ := sumB_bd l
  rw [sealB_str]
  have hl := fourB_len (sumB l)
  generalize sumB l = n at *
  have hf := Lib.hid (fun W => reffour18_any n W h0 h1)
  generalize fourB n = f at *
  go_enter Try.func32, Try.ntmps32
  go_wp2_with fail
  refine (hc.out w).mono ?_; rintro e w1 ⟨rfl, rfl⟩
  go_wp2_with fail
  refine (hf.out w).mono ?_; rintro e w1 ⟨rfl, hb⟩
  replace hb := Lib.hid hb
  go_wp2_with fail
  go_ret
  exact ⟨rfl, hb.out⟩

theorem open_alt (t : List UInt8) (h : 4 ≤ t.length) : (readB (t.drop (t.length - 4)) = sumB (t.take (t.length - 4)) → openT t = t.take (t.length - 4) ∧ openQ t = true) ∧ (readB (t.drop (t.length - 4)) ≠ sumB (t.take (t.length - 4)) → openT t = [] ∧ openQ t = false) := by
  have h4 : (t.drop (t.length - 4)).length = 4 := by rw [List.length_drop]; omega
  have e1 : readB (t.drop (t.length - 4)) = (read4 (t.drop (t.length - 4)) : Int) := by unfold readB; rw [if_pos h4]
  constructor
  · intro e
    refine open_yes h ?_
    unfold fourB
    rw [← e, e1, Int.toNat_natCast, four_inj h4]
  · intro e
    refine open_no (Or.inr fun hh => e ?_)
    rw [hh]
    obtain ⟨b0, b1⟩ := sumB_bd (t.take (t.length - 4))
    exact readB_four _ b0 b1
theorem burst_stop (l : List UInt8) (p y : Int) (k : Nat) (hk : k ≤ 32) (h0 : 0 ≤ p) (h : k = 32 ∨ 8 * (l.length : Int) - k ≤ p) : burstTo l p.toNat y.toNat k = burstB l p y := by
  rw [burstB_eq l p y h0]
  rcases h with rfl | h
  · rfl
  · have := burstTo_end l p.toNat y.toNat k (by omega) (32 - k)
    rw [show k + (32 - k) = 32 by omega] at this
    exact this.symm
set_option maxHeartbeats 1000000 in
theorem refburst18_any (l : List UInt8) (p y : Int) (w : World) (hp : -9223372036854775808 ≤ p ∧ p ≤ 9223372036854775807) (h0 : 0 ≤ y) (h1 : y ≤ 4294967295) (hs : l.length ≤ 281474976710656) :
    Calls Try.prog 17 #[.string ⟨l.toArray⟩, .int .i64 p, .int .u32 y] w fun e w' => e = .returned (.string ⟨(burstB l p y).toArray⟩) ∧ Below w.heap.size w w' := by
  obtain ⟨c1, w1, hr1, hy1, hb1, hz1⟩ := conv_new l w
  replace hz1 := Lib.hid hz1
  by_cases hn : p < 0
  · rw [burstB_ahead l p y hn]
    go_enter Try.func17, Try.ntmps17
    go_wp2_with fail
    go_ret
    exact ⟨rfl, hb1.out⟩
  · have hpn : ¬ (p < 0) := hn
    have hst := Lib.hid (show RowOn w w.heap.size (burstTo l p.toNat y.toNat 0) w1 from ⟨hy1.out, hb1.out⟩)
    clear hn hy1 hb1
    go_enter Try.func17, Try.ntmps17
    go_wp2_with fail
    clear hr1
    go_loopw [8] (fun i wr => ∃ k : Nat, i = .int .i64 k ∧ k ≤ 32 ∧ Hid (RowOn w w.heap.size (burstTo l p.toNat y.toNat k) wr)) (fun i _ => 32 - (intOf i).toNat)
    case atStart => exact ⟨0, rfl, Nat.zero_le _, hst⟩
    case round =>
      clear hst
      obtain ⟨k, rfl, hk, hr⟩ := hrel
      by_cases hlt : k < 32 ∧ p < 8 * (l.length : Int) - k
      · obtain ⟨hlt, hin⟩ := hlt
        have ha := u32_and1 (x := y / 2 ^ k) (Int.ediv_nonneg h0 (Int.le_of_lt (Int.pow_pos (by decide)))) (Int.le_trans (Int.ediv_le_self _ h0) h1)
        rcases (show y / 2 ^ k % 2 = 0 ∨ y / 2 ^ k % 2 = 1 by omega) with hq | hq
        · have hs0 := Lib.hid (burst_step0 l p y k h0 hq)
          rw [hq] at ha
          replace hq := Lib.hid hq
          go_wp2_with fail
          exact ⟨⟨k + 1, by go_num, by omega, Lib.hid (hs0.out ▸ hr.out)⟩, by simp [intOf]; omega⟩
        · obtain ⟨P, hP⟩ : ∃ P : Nat, P = p.toNat := ⟨_, rfl⟩
          have hlen := burstTo_len l p.toNat y.toNat k
          have hs1 := burst_step1 l p y k h0 hq P hP
          rw [if_pos (by rw [hlen]; omega)] at hs1
          have hfe := flip_eq (burstTo l p.toNat y.toNat k) (8 * (P / 8) + (P % 8 + k)) ((P + k) / 8) ((P + k) % 8) (by omega) (by omega)
          rw [hfe] at hs1
          rw [hq] at ha
          have hin8 : (P + k) / 8 < (burstTo l p.toNat y.toNat k).length := by rw [hlen]; omega
          have hin9 : (P + k) / 8 < l.length := by omega
          obtain ⟨k1, k2⟩ := hr.out.1.2 ((P + k) / 8) hin8
          have hset := hr.out.1.set ((P + k) / 8) ((burstTo l p.toNat y.toNat k).getD ((P + k) / 8) 0 ^^^ UInt8.ofNat (2 ^ ((P + k) % 8))) hin8
          rw [← hs1, flip_nat _ _ (by omega)] at hset
          have hx := ((burstTo l p.toNat y.toNat k).getD ((P + k) / 8) 0).toNat_lt
          generalize (burstTo l p.toNat y.toNat k).getD ((P + k) / 8) 0 = x at k1 hset hx
          have q3 : (p + k) / 8 = (((P + k) / 8 : Nat) : Int) := by omega
          have q4 : (p + k) % 8 = (((P + k) % 8 : Nat) : Int) := by omega
          have hj : (P + k) % 8 < 8 := by omega
          generalize (P + k) / 8 = K at *
          generalize (P + k) % 8 = J at *
          have hw : IntKind.wrap .u8 (2 ^ J) = 2 ^ J := by
            have hp : 2 ^ J < 256 := Nat.lt_of_lt_of_le (Nat.pow_lt_pow_right (by decide) hj) (by decide)
            have e : ((2 : Int) ^ J) = ((2 ^ J : Nat) : Int) := by simp
            rw [e, IntKind.wrap_u8]
            generalize 2 ^ J = m at hp
            omega
          replace hset := Lib.hid hset
          replace hP := Lib.hid hP
          replace hq := Lib.hid hq
          clear hfe hs1 hlen hin8
          go_wp2_with fail
          exact ⟨⟨k + 1, by go_num, by omega, Lib.hid ⟨hset.out, hr.out.2.setCell (p := ⟨w.heap.size, K, none⟩) (Nat.le_refl _) _⟩⟩, by simp [intOf]; omega⟩
      · have he := Lib.hid (burst_stop l p y k hk (by omega) (by omega))
        by_cases hlk : k < 32
        · have hin : ¬ (p < 8 * (l.length : Int) - k) := fun h => hlt ⟨hlk, h⟩
          have hc := by_str hr.out.1 c1
          rw [burstTo_len, he.out] at hc
          clear hlt
          go_wp2_with fail
          go_ret
          exact ⟨rfl, hr.out.2⟩
        · obtain rfl : k = 32 := by omega
          have hc := by_str hr.out.1 c1
          rw [burstTo_len, he.out] at hc
          clear hlt hlk
          go_wp2_with fail
          go_ret
          exact ⟨rfl, hr.out.2⟩
end Go.Proofs.Ytkckddcibhbalaa
