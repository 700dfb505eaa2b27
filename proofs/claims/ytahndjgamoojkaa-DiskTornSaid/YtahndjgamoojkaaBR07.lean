/- The walks of crc's turn and Burst. -/
import Derived.Test.YtahndjgamoojkaaBR06
namespace Go.Proofs.Ytahndjgamoojkaa
open Go.RowKit

/-- A row of bytes and, of what lies below it, nothing that has turned. -/
def RowOn (w0 : World) (g : Nat) (l : List UInt8) (w : World) : Prop := ByRow w g l ∧ Below w0.heap.size w0 w
set_option maxHeartbeats 1000000 in
theorem turn18_any (l : List UInt8) (g c i b : Nat) (bi : Int) (hbi : bi = (b : Int)) (w0 w : World) (hr : RowOn w0 g l w) (hg : w0.heap.size ≤ g) (hi : i ≤ 2000000000000000000) (hb : b ≤ 100) (hs : l.length ≤ 281474976710656) :
    Calls Try.prog 73 #[.slice (some ⟨g, 0, none⟩) l.length c, .int .i64 i, .int .i64 bi] w fun e w' => e = .returned (.tuple #[]) ∧ RowOn w0 g (if i + b / 8 < l.length then flip18 l (8 * i + b) else l) w' := by
  subst hbi
  have e0 : 0 ≤ (i : Int) := by omega
  have e1 : (i : Int) ≤ 2000000000000000000 := by omega
  have e2 : 0 ≤ (b : Int) := by omega
  have e3 : (b : Int) ≤ 100 := by omega
  by_cases h : i + b / 8 < l.length
  · rw [if_pos h]
    have hf := Lib.hid (flip_eq l (8 * i + b) (i + b / 8) (b % 8) (by omega) (by omega))
    obtain ⟨k1, k2⟩ := hr.1.2 (i + b / 8) h
    have hfn := Lib.hid (flip_nat (l.getD (i + b / 8) 0) (b % 8) (by omega))
    have hset := Lib.hid (hr.1.set (i + b / 8) (l.getD (i + b / 8) 0 ^^^ UInt8.ofNat (2 ^ (b % 8))) h)
    have hx := (l.getD (i + b / 8) 0).toNat_lt
    generalize l.getD (i + b / 8) 0 = x at *
    replace hr := Lib.hid hr
    have hK : (i : Int) + (b : Int) / 8 = ((i + b / 8 : Nat) : Int) := by omega
    have hJ : (b : Int).tmod 8 = ((b % 8 : Nat) : Int) := by rw [Int.tmod_eq_emod_of_nonneg e2]; omega
    have hJ2 : (b : Int) % 8 = ((b % 8 : Nat) : Int) := by omega
    have hj : b % 8 < 8 := by omega
    have hw : IntKind.wrap .u8 (2 ^ (b % 8)) = 2 ^ (b % 8) := by
      have hp : 2 ^ (b % 8) < 256 := Nat.lt_of_lt_of_le (Nat.pow_lt_pow_right (by decide) hj) (by decide)
      have e : ((2 : Int) ^ (b % 8)) = ((2 ^ (b % 8) : Nat) : Int) := by simp
      rw [e, IntKind.wrap_u8]
      generalize 2 ^ (b % 8) = m at hp
      omega
    generalize i + b / 8 = K at *
    generalize b % 8 = J at *
    clear hj
    go_enter Try.func73, Try.ntmps73
    go_wp2_with fail
    go_region
    refine bodyPost_end (v := .tuple #[]) (by simp [results, Try.results73, go_sem]) rfl ?_
    rw [hf.out]
    exact ⟨rfl, ByRow.drawn (hfn.out ▸ hset.out) (drawn_drew _), (hr.out.2.setCell (p := ⟨g, K, none⟩) hg _).trans (Drawn.below (drawn_drew _) _)⟩
  · rw [if_neg h]
    have h' : ¬ ((i : Int) + (b : Int) / 8 < l.length) := by omega
    go_enter Try.func73, Try.ntmps73
    go_wp2_with fail
    refine bodyPost_end (v := .tuple #[]) (by simp [results, Try.results73, go_sem]) rfl ?_
    exact ⟨rfl, hr⟩

theorem by_str {w : World} {g : Nat} {l : List UInt8} (h : ByRow w g l) (c : Nat) : (convert 80 9 (.slice (some ⟨g, 0, none⟩) l.length c)).run Try.prog w = .ok (.string ⟨l.toArray⟩) w := by
  have := run_str (P := Try.prog) w 80 9 5 Try.underlying80 Try.underlying5 Try.underlying9 (h.sl c)
  rw [nums_u8] at this
  exact this
theorem burstB_ahead (l : List UInt8) (p y : Int) (h : p < 0) : burstB l p y = l := burst_ahead _ _ _ h
theorem burstB_eq (l : List UInt8) (p y : Int) (h : 0 ≤ p) : burstB l p y = burstTo l p.toNat y.toNat 32 := by unfold burstB burst18; rw [if_neg (by omega)]
/-- One bit more of a burst, where it is to be turned. -/
theorem burst_step1 (l : List UInt8) (p y : Int) (k : Nat) (h0 : 0 ≤ y) (hq : y / 2 ^ k % 2 = 1) (P : Nat) (hP : P = p.toNat) :
    burstTo l p.toNat y.toNat (k + 1) = if P / 8 + (P % 8 + k) / 8 < (burstTo l p.toNat y.toNat k).length then flip18 (burstTo l p.toNat y.toNat k) (8 * (P / 8) + (P % 8 + k)) else burstTo l p.toNat y.toNat k := by
  subst hP
  rw [burstTo, bit_nat y k h0, decide_eq_true hq, burstTo_len, show 8 * (p.toNat / 8) + (p.toNat % 8 + k) = p.toNat + k by omega]
  by_cases h : p.toNat + k < 8 * l.length
  · rw [if_pos ⟨h, rfl⟩, if_pos (by omega)]
  · rw [if_neg (fun hh => h hh.1), if_neg (by omega)]
theorem burst_step0 (l : List UInt8) (p y : Int) (k : Nat) (h0 : 0 ≤ y) (hq : y / 2 ^ k % 2 = 0) : burstTo l p.toNat y.toNat (k + 1) = burstTo l p.toNat y.toNat k := by
  rw [burstTo, bit_nat y k h0, decide_eq_false (by omega), if_neg (by simp)]
set_option maxHeartbeats 1000000 in
theorem burst18_any (l : List UInt8) (p y : Int) (w : World) (hp : -9223372036854775808 ≤ p ∧ p ≤ 9223372036854775807) (h0 : 0 ≤ y) (h1 : y ≤ 4294967295) (hs : l.length ≤ 281474976710656) :
    Calls Try.prog 67 #[.string ⟨l.toArray⟩, .int .i64 p, .int .u32 y] w fun e w' => e = .returned (.string ⟨(burstB l p y).toArray⟩) ∧ Below w.heap.size w w' := by
  obtain ⟨c1, w1, hr1, hy1, hb1, hz1⟩ := conv_new l w
  replace hz1 := Lib.hid hz1
  by_cases hn : p < 0
  · rw [burstB_ahead l p y hn]
    have hc := by_str hy1.out c1
    go_enter Try.func67, Try.ntmps67
    go_wp2_with fail
    go_ret
    exact ⟨rfl, hb1.out⟩
  · have hpn : ¬ (p < 0) := hn
    have hst := Lib.hid (show RowOn w w.heap.size (burstTo l p.toNat y.toNat 0) w1 from ⟨hy1.out, hb1.out⟩)
    obtain ⟨P, hP⟩ : ∃ P : Nat, P = p.toNat := ⟨_, rfl⟩
    obtain ⟨A, hA⟩ : ∃ A : Nat, A = P / 8 := ⟨_, rfl⟩
    obtain ⟨B, hB⟩ : ∃ B : Nat, B = P % 8 := ⟨_, rfl⟩
    have q3 : p / 8 = (A : Int) := by omega
    have q4 : p % 8 = (B : Int) := by omega
    have hA1 : A ≤ 1500000000000000000 := by omega
    have hB1 : B ≤ 7 := by omega
    clear hn
    replace hA := Lib.hid hA
    replace hB := Lib.hid hB
    replace q3 := Lib.hid q3
    replace q4 := Lib.hid q4
    replace hP := Lib.hid hP
    clear hy1 hb1
    go_enter Try.func67, Try.ntmps67
    go_wp2_with fail
    clear hr1
    go_loopw [15] (fun i wr => ∃ k : Nat, i = .int .i64 k ∧ k ≤ 32 ∧ Hid (RowOn w w.heap.size (burstTo l p.toNat y.toNat k) wr)) (fun i _ => 32 - (intOf i).toNat)
    case atStart => exact ⟨0, rfl, Nat.zero_le _, hst⟩
    case round =>
      clear hst
      obtain ⟨k, rfl, hk, hr⟩ := hrel
      by_cases hlt : k < 32
      · have ha := u32_and1 (x := y / 2 ^ k) (Int.ediv_nonneg h0 (Int.le_of_lt (Int.pow_pos (by decide)))) (Int.le_trans (Int.ediv_le_self _ h0) h1)
        rcases (show y / 2 ^ k % 2 = 0 ∨ y / 2 ^ k % 2 = 1 by omega) with hq | hq
        · have hs0 := Lib.hid (burst_step0 l p y k h0 hq)
          rw [hq] at ha
          replace hq := Lib.hid hq
          go_wp2_with fail
          exact ⟨⟨k + 1, by go_num, by omega, Lib.hid (hs0.out ▸ hr.out)⟩, by simp [intOf]; omega⟩
        · have hs1 := Lib.hid (burst_step1 l p y k h0 hq P hP.out)
          rw [hq] at ha
          replace hq := Lib.hid hq
          rw [← hA.out, ← hB.out] at hs1
          replace q3 := q3.out
          replace q4 := q4.out
          have hlen := burstTo_len l p.toNat y.toNat k
          have hsm : (burstTo l p.toNat y.toNat k).length ≤ 281474976710656 := by rw [hlen]; exact hs
          rw [← hlen] at *
          generalize burstTo l p.toNat y.toNat k = m at *
          go_wp2_with fail
          refine (turn18_any m w.heap.size c1 A (B + k) _ (by omega) w wr hr.out (Nat.le_refl _) (by omega) (by omega) hsm).mono ?_; rintro e w' ⟨rfl, hr'⟩
          replace hr' := Lib.hid hr'
          go_wp2_with fail
          exact ⟨⟨k + 1, by go_num, by omega, Lib.hid (by rw [hs1.out]; exact hr'.out)⟩, by simp [intOf]; omega⟩
      · obtain rfl : k = 32 := by omega
        have hc := by_str hr.out.1 c1
        rw [burstTo_len] at hc
        have he := Lib.hid (burstB_eq l p y (by omega))
        go_wp2_with fail
        go_ret
        exact ⟨ret_str he.out.symm, hr.out.2⟩
end Go.Proofs.Ytahndjgamoojkaa

/- The walks of the reference's Sum, Four, Read, Seal, Open, Burst of layer 18. -/
namespace Go.Proofs.Ytahndjgamoojkaa
open Go.RowKit

theorem fourB_map (n : Int) (h0 : 0 ≤ n) : [n % 256, n / 256 % 256, n / 65536 % 256, n / 16777216 % 256].map u8 = fourB n := by
  have := fourB_nums n h0
  rw [← this]
  exact nums_u8 _
theorem rd_expr (l : List UInt8) (h : l.length = 4) : bits .or .u32 (bits .or .u32 (bits .or .u32 (bt l 0 % 4294967296) (bt l 1 % 4294967296 * 256 % 4294967296)) (bt l 2 % 4294967296 * 65536 % 4294967296)) (bt l 3 % 4294967296 * 16777216 % 4294967296) = readB l := by
  have hb : ∀ k, 0 ≤ bt l k ∧ bt l k ≤ 255 := fun k => by have := (l.getD k 0).toNat_lt; unfold bt; omega
  have hm : ∀ k, bt l k % 4294967296 = bt l k := fun k => Int.emod_eq_of_lt (hb k).1 (by have := hb k; omega)
  rw [hm, hm, hm, hm, ← rdTo_all l h]
  have h1 := rdTo_or l 1 (by omega)
  have h2 := rdTo_or l 2 (by omega)
  have h3 := rdTo_or l 3 (by omega)
  rw [show rdTo l 1 = bt l 0 from by simp [rdTo], show (2 : Int) ^ (8 * 1) = 256 from rfl] at h1
  rw [show (2 : Int) ^ (8 * 2) = 65536 from rfl] at h2
  rw [show (2 : Int) ^ (8 * 3) = 16777216 from rfl] at h3
  rw [h1, h2, h3]
theorem open_alt (t : List UInt8) (h : 4 ≤ t.length) : (readB (t.drop (t.length - 4)) = sumB (t.take (t.length - 4)) → openT t = t.take (t.length - 4) ∧ openQ t = true) ∧ (readB (t.drop (t.length - 4)) ≠ sumB (t.take (t.length - 4)) → openT t = [] ∧ openQ t = false) := by
  have h4 : (t.drop (t.length - 4)).length = 4 := by rw [List.length_drop]; omega
  have e1 : readB (t.drop (t.length - 4)) = (read4 (t.drop (t.length - 4)) : Int) := by unfold readB; rw [if_pos h4]
  constructor
  · intro e
    refine open_yes h ?_
    unfold fourB
    rw [← e, e1, Int.toNat_natCast, four_inj h4]
  · intro e
    refine open_no (Or.inr fun hh => e ?_)
    rw [hh]
    obtain ⟨b0, b1⟩ := sumB_bd (t.take (t.length - 4))
    exact readB_four _ b0 b1
theorem burst_stop (l : List UInt8) (p y : Int) (k : Nat) (hk : k ≤ 32) (h0 : 0 ≤ p) (h : k = 32 ∨ 8 * (l.length : Int) - k ≤ p) : burstTo l p.toNat y.toNat k = burstB l p y := by
  rw [burstB_eq l p y h0]
  rcases h with rfl | h
  · rfl
  · have := burstTo_end l p.toNat y.toNat k (by omega) (32 - k)
    rw [show k + (32 - k) = 32 by omega] at this
    exact this.symm
set_option maxHeartbeats 1000000 in
set_option maxRecDepth 100000 in
theorem refburst18_any (l : List UInt8) (p y : Int) (w : World) (hp : -9223372036854775808 ≤ p ∧ p ≤ 9223372036854775807) (h0 : 0 ≤ y) (h1 : y ≤ 4294967295) (hs : l.length ≤ 281474976710656) :
    Calls Try.prog 57 #[.string ⟨l.toArray⟩, .int .i64 p, .int .u32 y] w fun e w' => e = .returned (.string ⟨(burstB l p y).toArray⟩) ∧ Below w.heap.size w w' := by
  obtain ⟨c1, w1, hr1, hy1, hb1, hz1⟩ := conv_new l w
  replace hz1 := Lib.hid hz1
  by_cases hn : p < 0
  · rw [burstB_ahead l p y hn]
    go_enter Try.func57, Try.ntmps57
    go_wp2_with fail
    go_ret
    exact ⟨rfl, hb1.out⟩
  · have hpn : ¬ (p < 0) := hn
    have hst := Lib.hid (show RowOn w w.heap.size (burstTo l p.toNat y.toNat 0) w1 from ⟨hy1.out, hb1.out⟩)
    clear hn hy1 hb1
    go_enter Try.func57, Try.ntmps57
    go_wp2_with fail
    clear hr1
    go_loopw [8] (fun i wr => ∃ k : Nat, i = .int .i64 k ∧ k ≤ 32 ∧ Hid (RowOn w w.heap.size (burstTo l p.toNat y.toNat k) wr)) (fun i _ => 32 - (intOf i).toNat)
    case atStart => exact ⟨0, rfl, Nat.zero_le _, hst⟩
    case round =>
      clear hst
      obtain ⟨k, rfl, hk, hr⟩ := hrel
      by_cases hlt : k < 32 ∧ p < 8 * (l.length : Int) - k
      · obtain ⟨hlt, hin⟩ := hlt
        have ha := u32_and1 (x := y / 2 ^ k) (Int.ediv_nonneg h0 (Int.le_of_lt (Int.pow_pos (by decide)))) (Int.le_trans (Int.ediv_le_self _ h0) h1)
        rcases (show y / 2 ^ k % 2 = 0 ∨ y / 2 ^ k % 2 = 1 by omega) with hq | hq
        · have hs0 := Lib.hid (burst_step0 l p y k h0 hq)
          rw [hq] at ha
          replace hq := Lib.hid hq
          go_wp2_with fail
          exact ⟨⟨k + 1, by go_num, by omega, Lib.hid (hs0.out ▸ hr.out)⟩, by simp [intOf]; omega⟩
        · obtain ⟨P, hP⟩ : ∃ P : Nat, P = p.toNat := ⟨_, rfl⟩
          have hlen := burstTo_len l p.toNat y.toNat k
          have hs1 := burst_step1 l p y k h0 hq P hP
          rw [if_pos (by rw [hlen]; omega)] at hs1
          have hfe := flip_eq (burstTo l p.toNat y.toNat k) (8 * (P / 8) + (P % 8 + k)) ((P + k) / 8) ((P + k) % 8) (by omega) (by omega)
          rw [hfe] at hs1
          rw [hq] at ha
          have hin8 : (P + k) / 8 < (burstTo l p.toNat y.toNat k).length := by rw [hlen]; omega
          have hin9 : (P + k) / 8 < l.length := by omega
          obtain ⟨k1, k2⟩ := hr.out.1.2 ((P + k) / 8) hin8
          have hset := hr.out.1.set ((P + k) / 8) ((burstTo l p.toNat y.toNat k).getD ((P + k) / 8) 0 ^^^ UInt8.ofNat (2 ^ ((P + k) % 8))) hin8
          rw [← hs1, flip_nat _ _ (by omega)] at hset
          have hx := ((burstTo l p.toNat y.toNat k).getD ((P + k) / 8) 0).toNat_lt
          generalize (burstTo l p.toNat y.toNat k).getD ((P + k) / 8) 0 = x at k1 hset hx
          have q3 : (p + k) / 8 = (((P + k) / 8 : Nat) : Int) := by omega
          have q4 : (p + k) % 8 = (((P + k) % 8 : Nat) : Int) := by omega
          have hj : (P + k) % 8 < 8 := by omega
          generalize (P + k) / 8 = K at *
          generalize (P + k) % 8 = J at *
          have hw : IntKind.wrap .u8 (2 ^ J) = 2 ^ J := by
            have hp : 2 ^ J < 256 := Nat.lt_of_lt_of_le (Nat.pow_lt_pow_right (by decide) hj) (by decide)
            have e : ((2 : Int) ^ J) = ((2 ^ J : Nat) : Int) := by simp
            rw [e, IntKind.wrap_u8]
            generalize 2 ^ J = m at hp
            omega
          replace hset := Lib.hid hset
          replace hP := Lib.hid hP
          replace hq := Lib.hid hq
          clear hfe hs1 hlen hin8
          go_wp2_with fail
          exact ⟨⟨k + 1, by go_num, by omega, Lib.hid ⟨hset.out, hr.out.2.setCell (p := ⟨w.heap.size, K, none⟩) (Nat.le_refl _) _⟩⟩, by simp [intOf]; omega⟩
      · have he := Lib.hid (burst_stop l p y k hk (by omega) (by omega))
        by_cases hlk : k < 32
        · have hin : ¬ (p < 8 * (l.length : Int) - k) := fun h => hlt ⟨hlk, h⟩
          have hc := by_str hr.out.1 c1
          rw [burstTo_len, he.out] at hc
          clear hlt
          go_wp2_with fail
          go_ret
          exact ⟨rfl, hr.out.2⟩
        · obtain rfl : k = 32 := by omega
          have hc := by_str hr.out.1 c1
          rw [burstTo_len, he.out] at hc
          clear hlt hlk
          go_wp2_with fail
          go_ret
          exact ⟨rfl, hr.out.2⟩
end Go.Proofs.Ytahndjgamoojkaa
