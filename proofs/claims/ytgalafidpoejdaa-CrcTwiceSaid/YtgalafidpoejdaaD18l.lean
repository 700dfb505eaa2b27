/- The walks of layer 18's laws. -/
import Derived.Test.YtgalafidpoejdaaD18d
import Derived.Test.YtgalafidpoejdaaNi
namespace Go.Proofs.Ytgalafidpoejdaa
open Go.RowKit

theorem crc_ex0 : sumB [49, 50, 51, 52, 53, 54, 55, 56, 57] = 3421780262 := by decide +kernel
theorem crc_ex1 : sumB [] = 0 := by decide +kernel
theorem crc_ex2 : burstB [0, 0] 7 3 = [128, 1] := by decide +kernel
theorem open_sealT (l : List UInt8) : openT (sealB l) = l ∧ openQ (sealB l) = true := by
  rw [sealB_eq]
  unfold openT openQ
  rw [open_seal]
  exact ⟨rfl, rfl⟩

set_option maxHeartbeats 1000000 in
theorem awake18_any (w : World) : Calls Try.prog 7 #[] w (LawPost w) := by
  have h1 := sealB_len [97, 98, 99]
  obtain ⟨e1, e2⟩ := open_sealT [97, 98, 99]
  have hs := Lib.hid (fun W => seal18_any [97, 98, 99] W (by simp))
  have ho := Lib.hid (fun W => open18_any (sealB [97, 98, 99]) W (by rw [h1]; simp))
  rw [e1, e2] at ho
  generalize sealB [97, 98, 99] = s at hs ho
  clear h1 e1 e2
  go_enter Try.func7, Try.ntmps7
  go_wp2_with fail
  refine (hs.out w).mono ?_; rintro e w1 ⟨rfl, hb⟩
  replace hb := Lib.hid hb
  go_wp2_with fail
  refine (ho.out w1).mono ?_; rintro e w2 ⟨rfl, hb2⟩
  replace hb := Lib.hid (hb.out.andThen hb2)
  clear hb2
  go_wp2_with fail
  refine (sum18_any [49, 50, 51, 52, 53, 54, 55, 56, 57] w2 (by decide)).mono ?_; rintro e w3 ⟨rfl, rfl⟩
  rw [crc_ex0]
  go_wp2_with fail
  refine (sum18_any [] w2 (by decide)).mono ?_; rintro e w3 ⟨rfl, rfl⟩
  rw [crc_ex1]
  go_wp2_with fail
  refine (burst18_any [0, 0] 7 3 w2 (by omega) (by omega) (by omega) (by simp)).mono ?_; rintro e w3 ⟨rfl, hb2⟩
  rw [crc_ex2]
  replace hb := Lib.hid (hb.out.andThen hb2)
  clear hb2
  go_wp2_with fail
  go_ret
  exact ⟨rfl, hb.out⟩

set_option maxHeartbeats 1000000 in
theorem sums18_law (l : List UInt8) (w : World) (hs : l.length ≤ maxLen) : Calls Try.prog 3 #[.string ⟨l.toArray⟩] w (LawPost w) := by
  unfold maxLen at hs
  by_cases hl : 20000 < l.length
  · go_enter Try.func3, Try.ntmps3
    go_wp2_with fail
    refine (awake18_any w).mono ?_; rintro e w1 ⟨rfl, hb⟩
    go_wp2_with fail
    go_ret
    exact ⟨rfl, hb⟩
  have h1 := Lib.hid (fun W => open18_any l W (by omega))
  have h2 := Lib.hid (fun W => refopen18_any l W (by omega))
  have h3 := Lib.hid (fun W => sum18_any l W (by unfold maxLen; omega))
  have h4 := Lib.hid (fun W => refsum18_any l W (by unfold maxLen; omega))
  have h5 := Lib.hid (fun W => seal18_any l W (by omega))
  have h6 := Lib.hid (fun W => refseal18_any l W (by omega))
  generalize openT l = t at *
  generalize openQ l = q at *
  generalize sumB l = n at *
  generalize sealB l = s at *
  go_enter Try.func3, Try.ntmps3
  go_wp2_with fail
  refine (h1.out w).mono ?_; rintro e w1 ⟨rfl, hb⟩
  replace hb := Lib.hid hb
  go_wp2_with fail
  refine (h2.out w1).mono ?_; rintro e w2 ⟨rfl, hd⟩
  replace hb := Lib.hid (hb.out.andThen (hd.below _))
  clear hd
  go_wp2_with fail
  refine (awake18_any w2).mono ?_; rintro e w3 ⟨rfl, hb2⟩
  replace hb := Lib.hid (hb.out.andThen hb2)
  clear hb2
  go_wp2_with fail
  refine (h3.out w3).mono ?_; rintro e w4 ⟨rfl, rfl⟩
  go_wp2_with fail
  refine (h4.out w3).mono ?_; rintro e w4 ⟨rfl, rfl⟩
  go_wp2_with fail
  refine (h5.out w3).mono ?_; rintro e w4 ⟨rfl, hb2⟩
  replace hb := Lib.hid (hb.out.andThen hb2)
  clear hb2
  go_wp2_with fail
  refine (h6.out w4).mono ?_; rintro e w5 ⟨rfl, hb2⟩
  replace hb := Lib.hid (hb.out.andThen hb2)
  clear hb2
  go_wp2_with fail
  go_ret
  exact ⟨rfl, hb.out⟩

theorem bd_u32 {x : Int} (h : (Lit.int .u32 x).wf = true) : 0 ≤ x ∧ x ≤ 4294967295 := by
  simp [Lit.wf, IntKind.min, IntKind.max, IntKind.bits, IntKind.signed] at h
  omega
set_option maxHeartbeats 1000000 in
theorem bursts18_law (l : List UInt8) (p y : Int) (w : World) (hs : l.length ≤ maxLen) (hp : (Lit.int .i64 p).wf = true) (hy : (Lit.int .u32 y).wf = true) : Calls Try.prog 4 #[.string ⟨l.toArray⟩, .int .i64 p, .int .u32 y] w (LawPost w) := by
  unfold maxLen at hs
  replace hp := bd_i64 hp
  obtain ⟨y0, y1⟩ := bd_u32 hy
  clear hy
  by_cases hl : 20000 < l.length
  · go_enter Try.func4, Try.ntmps4
    go_wp2_with fail
    refine (awake18_any w).mono ?_; rintro e w1 ⟨rfl, hb⟩
    go_wp2_with fail
    go_ret
    exact ⟨rfl, hb⟩
  have h1 := Lib.hid (fun W => four18_any y W y0 y1)
  have h2 := fun W => read18_any (fourB y) W (by rw [fourB_len]; unfold maxLen; omega)
  rw [fourB_len, readB_four y y0 y1] at h2
  replace h2 := Lib.hid h2
  have h3 := Lib.hid (fun W => read18_any l W (by unfold maxLen; omega))
  have h4 := Lib.hid (fun W => burst18_any l p y W hp y0 y1 (by omega))
  have h5 := Lib.hid (fun W => refburst18_any l p y W hp y0 y1 (by omega))
  have h6 := Lib.hid (fun W => reffour18_any y W y0 y1)
  generalize fourB y = f at *
  generalize burstB l p y = b at *
  generalize readB l = r at *
  have hq : ((l.length : Int) == 4) = (l.length == 4) := by rw [Bool.eq_iff_iff]; simp; omega
  generalize hqq : (l.length == 4) = q at *
  clear hqq
  go_enter Try.func4, Try.ntmps4
  go_wp2_with fail
  refine (h1.out w).mono ?_; rintro e w1 ⟨rfl, hb⟩
  replace hb := Lib.hid hb
  go_wp2_with fail
  refine (h2.out w1).mono ?_; rintro e w2 ⟨rfl, rfl⟩
  go_wp2_with fail
  refine (h3.out w1).mono ?_; rintro e w2 ⟨rfl, rfl⟩
  go_wp2_with fail
  refine (awake18_any w1).mono ?_; rintro e w3 ⟨rfl, hb2⟩
  replace hb := Lib.hid (hb.out.andThen hb2)
  clear hb2
  go_wp2_with fail
  refine (h4.out w3).mono ?_; rintro e w4 ⟨rfl, hb2⟩
  replace hb := Lib.hid (hb.out.andThen hb2)
  clear hb2
  go_wp2_with fail
  refine (h5.out w4).mono ?_; rintro e w5 ⟨rfl, hb2⟩
  replace hb := Lib.hid (hb.out.andThen hb2)
  clear hb2
  go_wp2_with fail
  refine (h1.out w5).mono ?_; rintro e w6 ⟨rfl, hb2⟩
  replace hb := Lib.hid (hb.out.andThen hb2)
  clear hb2
  go_wp2_with fail
  refine (h6.out w6).mono ?_; rintro e w7 ⟨rfl, hb2⟩
  replace hb := Lib.hid (hb.out.andThen hb2)
  clear hb2
  go_wp2_with fail
  go_ret
  exact ⟨rfl, hb.out⟩

theorem tells_bool (s : List UInt8) (p y : Int) : openQ (burstB (sealB s) p y) = (burstB (sealB s) p y == sealB s) := by
  have h := burst_open (t := sealB s) (by rw [sealB_len]; omega) (by rw [sealB_eq, open_seal]; rfl) p y.toNat
  rw [Bool.eq_iff_iff, beq_iff_eq]
  exact h
set_option maxHeartbeats 1000000 in
theorem tells18_law (l : List UInt8) (p y : Int) (w : World) (hs : l.length ≤ maxLen) (hp : (Lit.int .i64 p).wf = true) (hy : (Lit.int .u32 y).wf = true) : Calls Try.prog 5 #[.string ⟨l.toArray⟩, .int .i64 p, .int .u32 y] w (LawPost w) := by
  unfold maxLen at hs
  replace hp := bd_i64 hp
  obtain ⟨y0, y1⟩ := bd_u32 hy
  clear hy
  by_cases hl : 5000 < l.length
  · go_enter Try.func5, Try.ntmps5
    go_wp2_with fail
    refine (awake18_any w).mono ?_; rintro e w1 ⟨rfl, hb⟩
    go_wp2_with fail
    go_ret
    exact ⟨rfl, hb⟩
  obtain ⟨q, hq⟩ : ∃ q, q = IntKind.wrap .u64 p := ⟨_, rfl⟩
  have hqb : 0 ≤ q ∧ q ≤ 18446744073709551615 := by rw [hq, IntKind.wrap_u64]; omega
  obtain ⟨q0, q1⟩ := hqb
  have hm : 0 ≤ q % (8 * (l.length : Int) + 33) ∧ q % (8 * (l.length : Int) + 33) ≤ 40033 := by
    have := Int.emod_nonneg q (show (8 * (l.length : Int) + 33) ≠ 0 by omega)
    have := Int.emod_lt_of_pos q (show 0 < (8 * (l.length : Int) + 33) by omega)
    omega
  have hlen := sealB_len l
  obtain ⟨e1, e2⟩ := open_sealT l
  have h1 := Lib.hid (fun W => seal18_any l W (by omega))
  have h2 := fun W => open18_any (sealB l) W (by rw [hlen]; omega)
  rw [e1, e2] at h2
  replace h2 := Lib.hid h2
  have h3 := Lib.hid (fun W => burst18_any (sealB l) (q % (8 * (l.length : Int) + 33)) y W (by omega) y0 y1 (by rw [hlen]; omega))
  have h4 := fun W => open18_any (burstB (sealB l) (q % (8 * (l.length : Int) + 33)) y) W (by rw [burstB_len, hlen]; omega)
  rw [tells_bool] at h4
  replace h4 := Lib.hid h4
  generalize burstB (sealB l) (q % (8 * (l.length : Int) + 33)) y = b at *
  generalize sealB l = s at *
  clear e1 e2
  obtain ⟨m0, m1⟩ := hm
  replace hq := hq.symm
  have hp' := Lib.hid hp
  clear hp
  go_enter Try.func5, Try.ntmps5
  go_wp2_with fail
  refine (h1.out w).mono ?_; rintro e w1 ⟨rfl, hb⟩
  replace hb := Lib.hid hb
  go_wp2_with fail
  refine (h2.out w1).mono ?_; rintro e w2 ⟨rfl, hb2⟩
  replace hb := Lib.hid (hb.out.andThen hb2)
  clear hb2
  go_wp2_with fail
  refine (h3.out w2).mono ?_; rintro e w3 ⟨rfl, hb2⟩
  replace hb := Lib.hid (hb.out.andThen hb2)
  clear hb2
  go_wp2_with fail
  refine (h4.out w3).mono ?_; rintro e w4 ⟨rfl, hb2⟩
  replace hb := Lib.hid (hb.out.andThen hb2)
  clear hb2
  go_wp2_with fail
  refine (awake18_any w4).mono ?_; rintro e w5 ⟨rfl, hb2⟩
  replace hb := Lib.hid (hb.out.andThen hb2)
  clear hb2
  go_wp2_with fail
  go_ret
  exact ⟨rfl, hb.out⟩

theorem burstB_twice (l : List UInt8) (p y : Int) : burstB (burstB l p y) p y = l := burst_twice l p y.toNat
theorem burstB_none (l : List UInt8) (p : Int) : burstB l p 0 = l := burst_none l p
theorem burstB_behind (l : List UInt8) (y : Int) : burstB l (8 * (l.length : Int)) y = l := burst_behind l _ _ (Int.le_refl _)
set_option maxHeartbeats 1000000 in
theorem twice18_law (l : List UInt8) (p y : Int) (w : World) (hs : l.length ≤ maxLen) (hp : (Lit.int .i64 p).wf = true) (hy : (Lit.int .u32 y).wf = true) : Calls Try.prog 6 #[.string ⟨l.toArray⟩, .int .i64 p, .int .u32 y] w (LawPost w) := by
  unfold maxLen at hs
  replace hp := bd_i64 hp
  obtain ⟨y0, y1⟩ := bd_u32 hy
  clear hy
  by_cases hl : 5000 < l.length
  · go_enter Try.func6, Try.ntmps6
    go_wp2_with fail
    refine (awake18_any w).mono ?_; rintro e w1 ⟨rfl, hb⟩
    go_wp2_with fail
    go_ret
    exact ⟨rfl, hb⟩
  have h1 := Lib.hid (fun W => burst18_any l p y W hp y0 y1 (by omega))
  have h2 := fun W => burst18_any (burstB l p y) p y W hp y0 y1 (by rw [burstB_len]; omega)
  rw [burstB_twice] at h2
  replace h2 := Lib.hid h2
  have h3 := fun W => burst18_any l p 0 W hp (by omega) (by omega) (by omega)
  rw [burstB_none] at h3
  replace h3 := Lib.hid h3
  have h4 := fun W => burst18_any l (8 * (l.length : Int)) y W (by omega) y0 y1 (by omega)
  rw [burstB_behind] at h4
  replace h4 := Lib.hid h4
  have h5 := fun W => burst18_any l (-1) y W (by omega) y0 y1 (by omega)
  rw [burstB_ahead l (-1) y (by omega)] at h5
  replace h5 := Lib.hid h5
  generalize burstB l p y = b at *
  replace hp := Lib.hid hp
  go_enter Try.func6, Try.ntmps6
  go_wp2_with fail
  refine (awake18_any w).mono ?_; rintro e w1 ⟨rfl, hb⟩
  replace hb := Lib.hid hb
  go_wp2_with fail
  refine (h1.out w1).mono ?_; rintro e w2 ⟨rfl, hb2⟩
  replace hb := Lib.hid (hb.out.andThen hb2)
  clear hb2
  go_wp2_with fail
  refine (h2.out w2).mono ?_; rintro e w3 ⟨rfl, hb2⟩
  replace hb := Lib.hid (hb.out.andThen hb2)
  clear hb2
  go_wp2_with fail
  refine (h3.out w3).mono ?_; rintro e w4 ⟨rfl, hb2⟩
  replace hb := Lib.hid (hb.out.andThen hb2)
  clear hb2
  go_wp2_with fail
  refine (h4.out w4).mono ?_; rintro e w5 ⟨rfl, hb2⟩
  replace hb := Lib.hid (hb.out.andThen hb2)
  clear hb2
  go_wp2_with fail
  refine (h5.out w5).mono ?_; rintro e w6 ⟨rfl, hb2⟩
  replace hb := Lib.hid (hb.out.andThen hb2)
  clear hb2
  go_wp2_with fail
  go_ret
  exact ⟨rfl, hb.out⟩
end Go.Proofs.Ytgalafidpoejdaa
