/- The walk of disk.fault of layer 20: may an operation be, on drafts? (Printed by wip/tools/gen_fault20.py.) -/
import Derived.Test.YtahndjgamoojkaaBR25
import Derived.Test.YtahndjgamoojkaaBR27
import Derived.Test.YtahndjgamoojkaaBR31
import Derived.Test.YtahndjgamoojkaaBR18
import Derived.BigQuiet
namespace Go.Proofs.Ytahndjgamoojkaa
open Go.RowKit

set_option maxHeartbeats 4000000 in
set_option maxRecDepth 100000 in
theorem dskfault20_no (ds : List Dr20) (kd : Int) (nm tn dt : List UInt8) (sz : Int) (v : Value) (B : Nat) (w : World) (hv : DrAt w B v ds) (hs : Rise20 (fls20 ds)) (hbd : DrBd 1000000 ds) (hdl : dt.length ≤ 90000000 ∧ nm.length ≤ 9223372036854775807 ∧ tn.length ≤ 9223372036854775807) (_hsz : -9223372036854775808 ≤ sz ∧ sz ≤ 9223372036854775807) (hb : kd < 1 ∨ 4 < kd ∨ name20 nm = false) :
    Calls Try.prog 26 #[v, opV ⟨kd, nm, tn, dt, sz⟩] w fun e w' => e = .returned (.int .i64 (may20 (fls20 ds) ⟨kd, nm, tn, dt, sz⟩)) ∧ Below w.heap.size w w' := by
  obtain ⟨A, c, rfl⟩ := hv.form
  have hfl := fls_len ds
  have hfew := hbd.few
  have hbx := Lib.hid ((Below.refl w.heap.size w).alloc (Nat.le_refl _) (.cells [Value.int .i64 kd, .string ⟨nm.toArray⟩, .string ⟨tn.toArray⟩, .string ⟨dt.toArray⟩, .int .i64 sz].toArray 27))
  have hv1 := hv.below hbx.out
  have hbox := arrAt_new w 27 [Value.int .i64 kd, .string ⟨nm.toArray⟩, .string ⟨tn.toArray⟩, .string ⟨dt.toArray⟩, .int .i64 sz]
  have hnm := fun W => dskname20_any nm W (by unfold maxLen; omega)
  have htn := fun W => dskname20_any tn W (by unfold maxLen; omega)
  unfold opV opC strV
  simp only
  obtain ⟨W, hW⟩ : ∃ W, w.alloc (.cells [Value.int .i64 kd, .string ⟨nm.toArray⟩, .string ⟨tn.toArray⟩, .string ⟨dt.toArray⟩, .int .i64 sz].toArray 27) = W := ⟨_, rfl⟩
  rw [hW] at hbx hv1 hbox
  obtain ⟨b0, b1, b2, b3, b4⟩ := five_cells hbox
  have hfd := dskfind20_any (.slice A ds.length c) ds nm B W hv1 hs hfew
  replace hfd := Lib.hid hfd
  replace hbox := Lib.hid hbox
  replace hv1 := Lib.hid hv1
  replace hs := Lib.hid hs
  clear hv
  clear htn hfd
  by_cases q1 : kd < 1
  · have hres : may20 (fls20 ds) ⟨kd, nm, tn, dt, sz⟩ = 1 := by simp [may20, q1]
    replace hres := Lib.hid hres
    clear hnm hb
    go_enter Try.func26, Try.ntmps26
    go_wp2_with fail
    go_ret
    exact ⟨ret_int hres.out.symm, hbx.out⟩
  by_cases q4 : 4 < kd
  · have hres : may20 (fls20 ds) ⟨kd, nm, tn, dt, sz⟩ = 1 := by simp [may20, q4]
    replace hres := Lib.hid hres
    clear hnm hb
    go_enter Try.func26, Try.ntmps26
    go_wp2_with fail
    go_ret
    exact ⟨ret_int hres.out.symm, hbx.out⟩
  have hn : name20 nm = false := by rcases hb with h | h | h; exact absurd h q1; exact absurd h q4; exact h
  rw [hn] at hnm
  replace hnm := Lib.hid hnm
  have hres : may20 (fls20 ds) ⟨kd, nm, tn, dt, sz⟩ = 1 := by simp [may20, hn]
  replace hres := Lib.hid hres
  clear hb
  go_enter Try.func26, Try.ntmps26
  go_wp2_with fail
  refine (hnm.out _).mono ?_; rintro e w1 ⟨rfl, rfl⟩
  go_wp2_with fail
  go_ret
  exact ⟨ret_int hres.out.symm, hbx.out⟩
set_option maxHeartbeats 4000000 in
set_option maxRecDepth 100000 in
theorem dskfault20_1 (ds : List Dr20) (nm tn dt : List UInt8) (sz : Int) (v : Value) (B : Nat) (w : World) (hv : DrAt w B v ds) (hs : Rise20 (fls20 ds)) (hbd : DrBd 1000000 ds) (hdl : dt.length ≤ 90000000 ∧ nm.length ≤ 9223372036854775807 ∧ tn.length ≤ 9223372036854775807) (_hsz : -9223372036854775808 ≤ sz ∧ sz ≤ 9223372036854775807) (hn : name20 nm = true) :
    Calls Try.prog 26 #[v, opV ⟨1, nm, tn, dt, sz⟩] w fun e w' => e = .returned (.int .i64 (may20 (fls20 ds) ⟨1, nm, tn, dt, sz⟩)) ∧ Below w.heap.size w w' := by
  obtain ⟨A, c, rfl⟩ := hv.form
  have hfl := fls_len ds
  have hfew := hbd.few
  have hbx := Lib.hid ((Below.refl w.heap.size w).alloc (Nat.le_refl _) (.cells [Value.int .i64 1, .string ⟨nm.toArray⟩, .string ⟨tn.toArray⟩, .string ⟨dt.toArray⟩, .int .i64 sz].toArray 27))
  have hv1 := hv.below hbx.out
  have hbox := arrAt_new w 27 [Value.int .i64 1, .string ⟨nm.toArray⟩, .string ⟨tn.toArray⟩, .string ⟨dt.toArray⟩, .int .i64 sz]
  have hnm := fun W => dskname20_any nm W (by unfold maxLen; omega)
  have htn := fun W => dskname20_any tn W (by unfold maxLen; omega)
  unfold opV opC strV
  simp only
  obtain ⟨W, hW⟩ : ∃ W, w.alloc (.cells [Value.int .i64 1, .string ⟨nm.toArray⟩, .string ⟨tn.toArray⟩, .string ⟨dt.toArray⟩, .int .i64 sz].toArray 27) = W := ⟨_, rfl⟩
  rw [hW] at hbx hv1 hbox
  obtain ⟨b0, b1, b2, b3, b4⟩ := five_cells hbox
  have hfd := dskfind20_any (.slice A ds.length c) ds nm B W hv1 hs hfew
  replace hfd := Lib.hid hfd
  replace hbox := Lib.hid hbox
  replace hv1 := Lib.hid hv1
  replace hs := Lib.hid hs
  clear hv
  clear htn
  rw [hn] at hnm
  replace hnm := Lib.hid hnm
  by_cases hp : pos20 (fls20 ds) nm < (fls20 ds).length
  · have hpk : decide (pos20 (fls20 ds) nm < (fls20 ds).length) = true := decide_eq_true hp
    have hD := data_pos (fls20 ds) nm hp
    have hpd : pos20 (fls20 ds) nm < ds.length := by omega
    rw [fls_at ds _ hpd] at hD
    have hat := at_pos hs.out hp
    unfold FindPost20 at hfd
    rw [hpk, hat] at hfd
    have hDb := hbd.txt _ (List.getElem_mem hpd)
    obtain ⟨g, cap, hv2, hc1, hc2, _, hg, hcell⟩ := hv1.out.some_ (by omega)
    injection hv2 with e1 e2 e3
    subst e1 e3
    obtain ⟨_, _, g0⟩ := hcell _ hpd
    simp only at hD
    obtain ⟨D, hDD⟩ : ∃ D, (ds[pos20 (fls20 ds) nm]'hpd).text = D := ⟨_, rfl⟩
    rw [hDD] at g0 hD hDb
    obtain ⟨k, hk⟩ : ∃ k, pos20 (fls20 ds) nm = k := ⟨_, rfl⟩
    rw [hk] at hfd g0 hpd
    have hk0 : (0 : Int) ≤ k := by omega
    have hk1 : (k : Int) < ds.length := by omega
    replace hfd := Lib.hid hfd
    replace hpk := Lib.hid hpk
    replace hD := Lib.hid hD
    clear hcell e2 hat hp hk hDD hs hbd
    by_cases r1 : 1048576 < D.length + dt.length
    · skip
      have hres : may20 (fls20 ds) ⟨1, nm, tn, dt, sz⟩ = 8 := by
        rw [may_eq hn hpk.out, hD.out]; simp [r1]
      replace hres := Lib.hid hres
      have hlg : Hid (∀ W, Calls Try.prog 42 #[.int .i64 ((D.length : Int) + dt.length)] W fun e w' => e = .returned (.int .i64 8) ∧ W = w') := Lib.hid fun W => by
        have h := dsklong20_any ((D.length : Int) + dt.length) W
        rw [if_pos (by omega)] at h
        exact h
      go_enter Try.func26, Try.ntmps26
      go_wp2_with fail
      refine (hnm.out _).mono ?_; rintro e w1 ⟨rfl, rfl⟩
      go_wp2_with fail
      refine hfd.out.mono ?_; rintro e w1 ⟨rfl, hb1⟩
      obtain ⟨c0, c1, c2, c3, c4⟩ := five_cells (hbox.out.next hb1)
      have g1 := (hb1.cell (p := ⟨g, k * 3 + 2, none⟩) hg).trans g0
      replace hb1 := Lib.hid (hbx.out.next hb1 hbx.out.size)
      clear b0 b1 b2 b3 b4
      go_wp2_with fail
      go_quiet ((go_at_call 42; exact Calls.drawn_at (hlg.out _)))
      go_wp2_with fail
      go_ret
      exact ⟨ret_int hres.out.symm, hb1.out.trans ((drawn_drewN _ _).below _)⟩
    have r2 : ¬ 1048576 < dt.length := by omega
    have hres : may20 (fls20 ds) ⟨1, nm, tn, dt, sz⟩ = 0 := by
      rw [may_eq hn hpk.out, hD.out]; simp [r1, r2]
    replace hres := Lib.hid hres
    have hlg : Hid (∀ W, Calls Try.prog 42 #[.int .i64 ((D.length : Int) + dt.length)] W fun e w' => e = .returned (.int .i64 0) ∧ W = w') := Lib.hid fun W => by
      have h := dsklong20_any ((D.length : Int) + dt.length) W
      rw [if_neg (by omega)] at h
      exact h
    go_enter Try.func26, Try.ntmps26
    go_wp2_with fail
    refine (hnm.out _).mono ?_; rintro e w1 ⟨rfl, rfl⟩
    go_wp2_with fail
    refine hfd.out.mono ?_; rintro e w1 ⟨rfl, hb1⟩
    obtain ⟨c0, c1, c2, c3, c4⟩ := five_cells (hbox.out.next hb1)
    have g1 := (hb1.cell (p := ⟨g, k * 3 + 2, none⟩) hg).trans g0
    replace hb1 := Lib.hid (hbx.out.next hb1 hbx.out.size)
    clear b0 b1 b2 b3 b4
    go_wp2_with fail
    go_quiet ((go_at_call 42; exact Calls.drawn_at (hlg.out _)))
    go_wp2_with fail
    go_ret
    exact ⟨ret_int hres.out.symm, hb1.out.trans ((drawn_drewN _ _).below _)⟩
  · have hpk : decide (pos20 (fls20 ds) nm < (fls20 ds).length) = false := decide_eq_false hp
    unfold FindPost20 at hfd
    rw [hpk] at hfd
    obtain ⟨k, hk⟩ : ∃ k, at20 (fls20 ds) nm = k := ⟨_, rfl⟩
    rw [hk] at hfd
    replace hfd := Lib.hid hfd
    replace hpk := Lib.hid hpk
    clear hp hk hs hbd
    by_cases r1 : 8 ≤ (fls20 ds).length
    · skip
      have hres : may20 (fls20 ds) ⟨1, nm, tn, dt, sz⟩ = 11 := by
        rw [may_eq hn hpk.out]; simp [r1]
      replace hres := Lib.hid hres
      have r2 : (8 : Int) ≤ ds.length := by omega
      go_enter Try.func26, Try.ntmps26
      go_wp2_with fail
      refine (hnm.out _).mono ?_; rintro e w1 ⟨rfl, rfl⟩
      go_wp2_with fail
      refine hfd.out.mono ?_; rintro e w1 ⟨rfl, hb1⟩
      obtain ⟨c0, c1, c2, c3, c4⟩ := five_cells (hbox.out.next hb1)
      replace hb1 := Lib.hid (hbx.out.next hb1 hbx.out.size)
      clear b0 b1 b2 b3 b4
      go_wp2_with fail
      go_ret
      exact ⟨ret_int hres.out.symm, hb1.out⟩
    have r2 : ¬ (8 : Int) ≤ ds.length := by omega
    by_cases r3 : 1048576 < dt.length
    · skip
      have hres : may20 (fls20 ds) ⟨1, nm, tn, dt, sz⟩ = 8 := by
        rw [may_eq hn hpk.out]; simp [r1, r3]
      replace hres := Lib.hid hres
      have hlg : Hid (∀ W, Calls Try.prog 42 #[.int .i64 dt.length] W fun e w' => e = .returned (.int .i64 8) ∧ W = w') := Lib.hid fun W => by
        have h := dsklong20_any dt.length W
        rw [if_pos (by omega)] at h
        exact h
      go_enter Try.func26, Try.ntmps26
      go_wp2_with fail
      refine (hnm.out _).mono ?_; rintro e w1 ⟨rfl, rfl⟩
      go_wp2_with fail
      refine hfd.out.mono ?_; rintro e w1 ⟨rfl, hb1⟩
      obtain ⟨c0, c1, c2, c3, c4⟩ := five_cells (hbox.out.next hb1)
      replace hb1 := Lib.hid (hbx.out.next hb1 hbx.out.size)
      clear b0 b1 b2 b3 b4
      go_wp2_with fail
      refine (hlg.out _).mono ?_; rintro e w2 ⟨rfl, rfl⟩
      go_wp2_with fail
      go_ret
      exact ⟨ret_int hres.out.symm, hb1.out⟩
    have hres : may20 (fls20 ds) ⟨1, nm, tn, dt, sz⟩ = 0 := by
      rw [may_eq hn hpk.out]; simp [r1, r3]
    replace hres := Lib.hid hres
    have hlg : Hid (∀ W, Calls Try.prog 42 #[.int .i64 dt.length] W fun e w' => e = .returned (.int .i64 0) ∧ W = w') := Lib.hid fun W => by
      have h := dsklong20_any dt.length W
      rw [if_neg (by omega)] at h
      exact h
    go_enter Try.func26, Try.ntmps26
    go_wp2_with fail
    refine (hnm.out _).mono ?_; rintro e w1 ⟨rfl, rfl⟩
    go_wp2_with fail
    refine hfd.out.mono ?_; rintro e w1 ⟨rfl, hb1⟩
    obtain ⟨c0, c1, c2, c3, c4⟩ := five_cells (hbox.out.next hb1)
    replace hb1 := Lib.hid (hbx.out.next hb1 hbx.out.size)
    clear b0 b1 b2 b3 b4
    go_wp2_with fail
    refine (hlg.out _).mono ?_; rintro e w2 ⟨rfl, rfl⟩
    go_wp2_with fail
    go_ret
    exact ⟨ret_int hres.out.symm, hb1.out⟩
set_option maxHeartbeats 4000000 in
set_option maxRecDepth 100000 in
theorem dskfault20_2 (ds : List Dr20) (nm tn dt : List UInt8) (sz : Int) (v : Value) (B : Nat) (w : World) (hv : DrAt w B v ds) (hs : Rise20 (fls20 ds)) (hbd : DrBd 1000000 ds) (hdl : dt.length ≤ 90000000 ∧ nm.length ≤ 9223372036854775807 ∧ tn.length ≤ 9223372036854775807) (_hsz : -9223372036854775808 ≤ sz ∧ sz ≤ 9223372036854775807) (hn : name20 nm = true) :
    Calls Try.prog 26 #[v, opV ⟨2, nm, tn, dt, sz⟩] w fun e w' => e = .returned (.int .i64 (may20 (fls20 ds) ⟨2, nm, tn, dt, sz⟩)) ∧ Below w.heap.size w w' := by
  obtain ⟨A, c, rfl⟩ := hv.form
  have hfl := fls_len ds
  have hfew := hbd.few
  have hbx := Lib.hid ((Below.refl w.heap.size w).alloc (Nat.le_refl _) (.cells [Value.int .i64 2, .string ⟨nm.toArray⟩, .string ⟨tn.toArray⟩, .string ⟨dt.toArray⟩, .int .i64 sz].toArray 27))
  have hv1 := hv.below hbx.out
  have hbox := arrAt_new w 27 [Value.int .i64 2, .string ⟨nm.toArray⟩, .string ⟨tn.toArray⟩, .string ⟨dt.toArray⟩, .int .i64 sz]
  have hnm := fun W => dskname20_any nm W (by unfold maxLen; omega)
  have htn := fun W => dskname20_any tn W (by unfold maxLen; omega)
  unfold opV opC strV
  simp only
  obtain ⟨W, hW⟩ : ∃ W, w.alloc (.cells [Value.int .i64 2, .string ⟨nm.toArray⟩, .string ⟨tn.toArray⟩, .string ⟨dt.toArray⟩, .int .i64 sz].toArray 27) = W := ⟨_, rfl⟩
  rw [hW] at hbx hv1 hbox
  obtain ⟨b0, b1, b2, b3, b4⟩ := five_cells hbox
  have hfd := dskfind20_any (.slice A ds.length c) ds nm B W hv1 hs hfew
  replace hfd := Lib.hid hfd
  replace hbox := Lib.hid hbox
  replace hv1 := Lib.hid hv1
  replace hs := Lib.hid hs
  clear hv
  clear htn
  rw [hn] at hnm
  replace hnm := Lib.hid hnm
  by_cases hp : pos20 (fls20 ds) nm < (fls20 ds).length
  · have hpk : decide (pos20 (fls20 ds) nm < (fls20 ds).length) = true := decide_eq_true hp
    have hD := data_pos (fls20 ds) nm hp
    have hpd : pos20 (fls20 ds) nm < ds.length := by omega
    rw [fls_at ds _ hpd] at hD
    have hat := at_pos hs.out hp
    unfold FindPost20 at hfd
    rw [hpk, hat] at hfd
    have hDb := hbd.txt _ (List.getElem_mem hpd)
    obtain ⟨g, cap, hv2, hc1, hc2, _, hg, hcell⟩ := hv1.out.some_ (by omega)
    injection hv2 with e1 e2 e3
    subst e1 e3
    obtain ⟨_, _, g0⟩ := hcell _ hpd
    simp only at hD
    obtain ⟨D, hDD⟩ : ∃ D, (ds[pos20 (fls20 ds) nm]'hpd).text = D := ⟨_, rfl⟩
    rw [hDD] at g0 hD hDb
    obtain ⟨k, hk⟩ : ∃ k, pos20 (fls20 ds) nm = k := ⟨_, rfl⟩
    rw [hk] at hfd g0 hpd
    have hk0 : (0 : Int) ≤ k := by omega
    have hk1 : (k : Int) < ds.length := by omega
    replace hfd := Lib.hid hfd
    replace hpk := Lib.hid hpk
    replace hD := Lib.hid hD
    clear hcell e2 hat hp hk hDD hs hbd
    by_cases r1 : sz < 0
    · skip
      have hres : may20 (fls20 ds) ⟨2, nm, tn, dt, sz⟩ = 1 := by
        rw [may_eq hn hpk.out, hD.out]; simp [r1]
      replace hres := Lib.hid hres
      have r2 : decide (sz < 0) = true := decide_eq_true r1
      go_enter Try.func26, Try.ntmps26
      go_wp2_with fail
      refine (hnm.out _).mono ?_; rintro e w1 ⟨rfl, rfl⟩
      go_wp2_with fail
      refine hfd.out.mono ?_; rintro e w1 ⟨rfl, hb1⟩
      obtain ⟨c0, c1, c2, c3, c4⟩ := five_cells (hbox.out.next hb1)
      have g1 := (hb1.cell (p := ⟨g, k * 3 + 2, none⟩) hg).trans g0
      replace hb1 := Lib.hid (hbx.out.next hb1 hbx.out.size)
      clear b0 b1 b2 b3 b4
      go_wp2_with fail
      go_quiet (fail)
      go_wp2_with fail
      go_ret
      exact ⟨ret_int hres.out.symm, hb1.out.trans ((drawn_drewN _ _).below _)⟩
    have r2 : decide (sz < 0) = false := decide_eq_false r1
    by_cases r3 : (D.length : Int) < sz
    · skip
      have hres : may20 (fls20 ds) ⟨2, nm, tn, dt, sz⟩ = 1 := by
        rw [may_eq hn hpk.out, hD.out]; simp [r3]
      replace hres := Lib.hid hres
      have r4 : decide ((D.length : Int) < sz) = true := decide_eq_true r3
      go_enter Try.func26, Try.ntmps26
      go_wp2_with fail
      refine (hnm.out _).mono ?_; rintro e w1 ⟨rfl, rfl⟩
      go_wp2_with fail
      refine hfd.out.mono ?_; rintro e w1 ⟨rfl, hb1⟩
      obtain ⟨c0, c1, c2, c3, c4⟩ := five_cells (hbox.out.next hb1)
      have g1 := (hb1.cell (p := ⟨g, k * 3 + 2, none⟩) hg).trans g0
      replace hb1 := Lib.hid (hbx.out.next hb1 hbx.out.size)
      clear b0 b1 b2 b3 b4
      go_wp2_with fail
      go_quiet (fail)
      go_wp2_with fail
      go_ret
      exact ⟨ret_int hres.out.symm, hb1.out.trans ((drawn_drewN _ _).below _)⟩
    have r4 : decide ((D.length : Int) < sz) = false := decide_eq_false r3
    have hres : may20 (fls20 ds) ⟨2, nm, tn, dt, sz⟩ = 0 := by
      rw [may_eq hn hpk.out, hD.out]; simp [r1, r3]
    replace hres := Lib.hid hres
    go_enter Try.func26, Try.ntmps26
    go_wp2_with fail
    refine (hnm.out _).mono ?_; rintro e w1 ⟨rfl, rfl⟩
    go_wp2_with fail
    refine hfd.out.mono ?_; rintro e w1 ⟨rfl, hb1⟩
    obtain ⟨c0, c1, c2, c3, c4⟩ := five_cells (hbox.out.next hb1)
    have g1 := (hb1.cell (p := ⟨g, k * 3 + 2, none⟩) hg).trans g0
    replace hb1 := Lib.hid (hbx.out.next hb1 hbx.out.size)
    clear b0 b1 b2 b3 b4
    go_wp2_with fail
    go_quiet (fail)
    go_wp2_with fail
    go_ret
    exact ⟨ret_int hres.out.symm, hb1.out.trans ((drawn_drewN _ _).below _)⟩
  · have hpk : decide (pos20 (fls20 ds) nm < (fls20 ds).length) = false := decide_eq_false hp
    unfold FindPost20 at hfd
    rw [hpk] at hfd
    obtain ⟨k, hk⟩ : ∃ k, at20 (fls20 ds) nm = k := ⟨_, rfl⟩
    rw [hk] at hfd
    replace hfd := Lib.hid hfd
    replace hpk := Lib.hid hpk
    clear hp hk hs hbd
    have hres : may20 (fls20 ds) ⟨2, nm, tn, dt, sz⟩ = 9 := by
      rw [may_eq hn hpk.out]; simp
    replace hres := Lib.hid hres
    go_enter Try.func26, Try.ntmps26
    go_wp2_with fail
    refine (hnm.out _).mono ?_; rintro e w1 ⟨rfl, rfl⟩
    go_wp2_with fail
    refine hfd.out.mono ?_; rintro e w1 ⟨rfl, hb1⟩
    obtain ⟨c0, c1, c2, c3, c4⟩ := five_cells (hbox.out.next hb1)
    replace hb1 := Lib.hid (hbx.out.next hb1 hbx.out.size)
    clear b0 b1 b2 b3 b4
    go_wp2_with fail
    go_ret
    exact ⟨ret_int hres.out.symm, hb1.out⟩
set_option maxHeartbeats 4000000 in
set_option maxRecDepth 100000 in
theorem dskfault20_3 (ds : List Dr20) (nm tn dt : List UInt8) (sz : Int) (v : Value) (B : Nat) (w : World) (hv : DrAt w B v ds) (hs : Rise20 (fls20 ds)) (hbd : DrBd 1000000 ds) (hdl : dt.length ≤ 90000000 ∧ nm.length ≤ 9223372036854775807 ∧ tn.length ≤ 9223372036854775807) (_hsz : -9223372036854775808 ≤ sz ∧ sz ≤ 9223372036854775807) (hn : name20 nm = true) :
    Calls Try.prog 26 #[v, opV ⟨3, nm, tn, dt, sz⟩] w fun e w' => e = .returned (.int .i64 (may20 (fls20 ds) ⟨3, nm, tn, dt, sz⟩)) ∧ Below w.heap.size w w' := by
  obtain ⟨A, c, rfl⟩ := hv.form
  have hfl := fls_len ds
  have hfew := hbd.few
  have hbx := Lib.hid ((Below.refl w.heap.size w).alloc (Nat.le_refl _) (.cells [Value.int .i64 3, .string ⟨nm.toArray⟩, .string ⟨tn.toArray⟩, .string ⟨dt.toArray⟩, .int .i64 sz].toArray 27))
  have hv1 := hv.below hbx.out
  have hbox := arrAt_new w 27 [Value.int .i64 3, .string ⟨nm.toArray⟩, .string ⟨tn.toArray⟩, .string ⟨dt.toArray⟩, .int .i64 sz]
  have hnm := fun W => dskname20_any nm W (by unfold maxLen; omega)
  have htn := fun W => dskname20_any tn W (by unfold maxLen; omega)
  unfold opV opC strV
  simp only
  obtain ⟨W, hW⟩ : ∃ W, w.alloc (.cells [Value.int .i64 3, .string ⟨nm.toArray⟩, .string ⟨tn.toArray⟩, .string ⟨dt.toArray⟩, .int .i64 sz].toArray 27) = W := ⟨_, rfl⟩
  rw [hW] at hbx hv1 hbox
  obtain ⟨b0, b1, b2, b3, b4⟩ := five_cells hbox
  have hfd := dskfind20_any (.slice A ds.length c) ds nm B W hv1 hs hfew
  replace hfd := Lib.hid hfd
  replace hbox := Lib.hid hbox
  replace hv1 := Lib.hid hv1
  replace hs := Lib.hid hs
  clear hv
  rw [hn] at hnm
  replace hnm := Lib.hid hnm
  cases ht : name20 tn with
  | false =>
    rw [ht] at htn
    replace htn := Lib.hid htn
    have hres : may20 (fls20 ds) ⟨3, nm, tn, dt, sz⟩ = 1 := by simp [may20, ht]
    replace hres := Lib.hid hres
    clear hfd
    go_enter Try.func26, Try.ntmps26
    go_wp2_with fail
    refine (hnm.out _).mono ?_; rintro e w1 ⟨rfl, rfl⟩
    go_wp2_with fail
    refine (htn.out _).mono ?_; rintro e w1 ⟨rfl, rfl⟩
    go_wp2_with fail
    go_ret
    exact ⟨ret_int hres.out.symm, hbx.out⟩
  | true =>
    rw [ht] at htn
    replace htn := Lib.hid htn
    by_cases hp : pos20 (fls20 ds) nm < (fls20 ds).length
    · have hpk : decide (pos20 (fls20 ds) nm < (fls20 ds).length) = true := decide_eq_true hp
      have hD := data_pos (fls20 ds) nm hp
      have hpd : pos20 (fls20 ds) nm < ds.length := by omega
      rw [fls_at ds _ hpd] at hD
      have hat := at_pos hs.out hp
      unfold FindPost20 at hfd
      rw [hpk, hat] at hfd
      have hDb := hbd.txt _ (List.getElem_mem hpd)
      obtain ⟨g, cap, hv2, hc1, hc2, _, hg, hcell⟩ := hv1.out.some_ (by omega)
      injection hv2 with e1 e2 e3
      subst e1 e3
      obtain ⟨_, _, g0⟩ := hcell _ hpd
      simp only at hD
      obtain ⟨D, hDD⟩ : ∃ D, (ds[pos20 (fls20 ds) nm]'hpd).text = D := ⟨_, rfl⟩
      rw [hDD] at g0 hD hDb
      obtain ⟨k, hk⟩ : ∃ k, pos20 (fls20 ds) nm = k := ⟨_, rfl⟩
      rw [hk] at hfd g0 hpd
      have hk0 : (0 : Int) ≤ k := by omega
      have hk1 : (k : Int) < ds.length := by omega
      replace hfd := Lib.hid hfd
      replace hpk := Lib.hid hpk
      replace hD := Lib.hid hD
      clear hcell e2 hat hp hk hDD hs hbd
      have hres : may20 (fls20 ds) ⟨3, nm, tn, dt, sz⟩ = 0 := by
        rw [may_eq hn hpk.out, hD.out]; simp [ht]
      replace hres := Lib.hid hres
      go_enter Try.func26, Try.ntmps26
      go_wp2_with fail
      refine (hnm.out _).mono ?_; rintro e w1 ⟨rfl, rfl⟩
      go_wp2_with fail
      refine (htn.out _).mono ?_; rintro e w1 ⟨rfl, rfl⟩
      go_wp2_with fail
      refine hfd.out.mono ?_; rintro e w1 ⟨rfl, hb1⟩
      obtain ⟨c0, c1, c2, c3, c4⟩ := five_cells (hbox.out.next hb1)
      have g1 := (hb1.cell (p := ⟨g, k * 3 + 2, none⟩) hg).trans g0
      replace hb1 := Lib.hid (hbx.out.next hb1 hbx.out.size)
      clear b0 b1 b2 b3 b4
      go_wp2_with fail
      go_quiet (fail)
      go_wp2_with fail
      go_ret
      exact ⟨ret_int hres.out.symm, hb1.out.trans ((drawn_drewN _ _).below _)⟩
    · have hpk : decide (pos20 (fls20 ds) nm < (fls20 ds).length) = false := decide_eq_false hp
      unfold FindPost20 at hfd
      rw [hpk] at hfd
      obtain ⟨k, hk⟩ : ∃ k, at20 (fls20 ds) nm = k := ⟨_, rfl⟩
      rw [hk] at hfd
      replace hfd := Lib.hid hfd
      replace hpk := Lib.hid hpk
      clear hp hk hs hbd
      have hres : may20 (fls20 ds) ⟨3, nm, tn, dt, sz⟩ = 9 := by
        rw [may_eq hn hpk.out]; simp [ht]
      replace hres := Lib.hid hres
      go_enter Try.func26, Try.ntmps26
      go_wp2_with fail
      refine (hnm.out _).mono ?_; rintro e w1 ⟨rfl, rfl⟩
      go_wp2_with fail
      refine (htn.out _).mono ?_; rintro e w1 ⟨rfl, rfl⟩
      go_wp2_with fail
      refine hfd.out.mono ?_; rintro e w1 ⟨rfl, hb1⟩
      obtain ⟨c0, c1, c2, c3, c4⟩ := five_cells (hbox.out.next hb1)
      replace hb1 := Lib.hid (hbx.out.next hb1 hbx.out.size)
      clear b0 b1 b2 b3 b4
      go_wp2_with fail
      go_ret
      exact ⟨ret_int hres.out.symm, hb1.out⟩
set_option maxHeartbeats 4000000 in
set_option maxRecDepth 100000 in
theorem dskfault20_4 (ds : List Dr20) (nm tn dt : List UInt8) (sz : Int) (v : Value) (B : Nat) (w : World) (hv : DrAt w B v ds) (hs : Rise20 (fls20 ds)) (hbd : DrBd 1000000 ds) (hdl : dt.length ≤ 90000000 ∧ nm.length ≤ 9223372036854775807 ∧ tn.length ≤ 9223372036854775807) (_hsz : -9223372036854775808 ≤ sz ∧ sz ≤ 9223372036854775807) (hn : name20 nm = true) :
    Calls Try.prog 26 #[v, opV ⟨4, nm, tn, dt, sz⟩] w fun e w' => e = .returned (.int .i64 (may20 (fls20 ds) ⟨4, nm, tn, dt, sz⟩)) ∧ Below w.heap.size w w' := by
  obtain ⟨A, c, rfl⟩ := hv.form
  have hfl := fls_len ds
  have hfew := hbd.few
  have hbx := Lib.hid ((Below.refl w.heap.size w).alloc (Nat.le_refl _) (.cells [Value.int .i64 4, .string ⟨nm.toArray⟩, .string ⟨tn.toArray⟩, .string ⟨dt.toArray⟩, .int .i64 sz].toArray 27))
  have hv1 := hv.below hbx.out
  have hbox := arrAt_new w 27 [Value.int .i64 4, .string ⟨nm.toArray⟩, .string ⟨tn.toArray⟩, .string ⟨dt.toArray⟩, .int .i64 sz]
  have hnm := fun W => dskname20_any nm W (by unfold maxLen; omega)
  have htn := fun W => dskname20_any tn W (by unfold maxLen; omega)
  unfold opV opC strV
  simp only
  obtain ⟨W, hW⟩ : ∃ W, w.alloc (.cells [Value.int .i64 4, .string ⟨nm.toArray⟩, .string ⟨tn.toArray⟩, .string ⟨dt.toArray⟩, .int .i64 sz].toArray 27) = W := ⟨_, rfl⟩
  rw [hW] at hbx hv1 hbox
  obtain ⟨b0, b1, b2, b3, b4⟩ := five_cells hbox
  have hfd := dskfind20_any (.slice A ds.length c) ds nm B W hv1 hs hfew
  replace hfd := Lib.hid hfd
  replace hbox := Lib.hid hbox
  replace hv1 := Lib.hid hv1
  replace hs := Lib.hid hs
  clear hv
  clear htn
  rw [hn] at hnm
  replace hnm := Lib.hid hnm
  by_cases hp : pos20 (fls20 ds) nm < (fls20 ds).length
  · have hpk : decide (pos20 (fls20 ds) nm < (fls20 ds).length) = true := decide_eq_true hp
    have hD := data_pos (fls20 ds) nm hp
    have hpd : pos20 (fls20 ds) nm < ds.length := by omega
    rw [fls_at ds _ hpd] at hD
    have hat := at_pos hs.out hp
    unfold FindPost20 at hfd
    rw [hpk, hat] at hfd
    have hDb := hbd.txt _ (List.getElem_mem hpd)
    obtain ⟨g, cap, hv2, hc1, hc2, _, hg, hcell⟩ := hv1.out.some_ (by omega)
    injection hv2 with e1 e2 e3
    subst e1 e3
    obtain ⟨_, _, g0⟩ := hcell _ hpd
    simp only at hD
    obtain ⟨D, hDD⟩ : ∃ D, (ds[pos20 (fls20 ds) nm]'hpd).text = D := ⟨_, rfl⟩
    rw [hDD] at g0 hD hDb
    obtain ⟨k, hk⟩ : ∃ k, pos20 (fls20 ds) nm = k := ⟨_, rfl⟩
    rw [hk] at hfd g0 hpd
    have hk0 : (0 : Int) ≤ k := by omega
    have hk1 : (k : Int) < ds.length := by omega
    replace hfd := Lib.hid hfd
    replace hpk := Lib.hid hpk
    replace hD := Lib.hid hD
    clear hcell e2 hat hp hk hDD hs hbd
    have hres : may20 (fls20 ds) ⟨4, nm, tn, dt, sz⟩ = 0 := by
      rw [may_eq hn hpk.out, hD.out]; simp
    replace hres := Lib.hid hres
    go_enter Try.func26, Try.ntmps26
    go_wp2_with fail
    refine (hnm.out _).mono ?_; rintro e w1 ⟨rfl, rfl⟩
    go_wp2_with fail
    refine hfd.out.mono ?_; rintro e w1 ⟨rfl, hb1⟩
    obtain ⟨c0, c1, c2, c3, c4⟩ := five_cells (hbox.out.next hb1)
    have g1 := (hb1.cell (p := ⟨g, k * 3 + 2, none⟩) hg).trans g0
    replace hb1 := Lib.hid (hbx.out.next hb1 hbx.out.size)
    clear b0 b1 b2 b3 b4
    go_wp2_with fail
    go_quiet (fail)
    go_wp2_with fail
    go_ret
    exact ⟨ret_int hres.out.symm, hb1.out.trans ((drawn_drewN _ _).below _)⟩
  · have hpk : decide (pos20 (fls20 ds) nm < (fls20 ds).length) = false := decide_eq_false hp
    unfold FindPost20 at hfd
    rw [hpk] at hfd
    obtain ⟨k, hk⟩ : ∃ k, at20 (fls20 ds) nm = k := ⟨_, rfl⟩
    rw [hk] at hfd
    replace hfd := Lib.hid hfd
    replace hpk := Lib.hid hpk
    clear hp hk hs hbd
    have hres : may20 (fls20 ds) ⟨4, nm, tn, dt, sz⟩ = 9 := by
      rw [may_eq hn hpk.out]; simp
    replace hres := Lib.hid hres
    go_enter Try.func26, Try.ntmps26
    go_wp2_with fail
    refine (hnm.out _).mono ?_; rintro e w1 ⟨rfl, rfl⟩
    go_wp2_with fail
    refine hfd.out.mono ?_; rintro e w1 ⟨rfl, hb1⟩
    obtain ⟨c0, c1, c2, c3, c4⟩ := five_cells (hbox.out.next hb1)
    replace hb1 := Lib.hid (hbx.out.next hb1 hbx.out.size)
    clear b0 b1 b2 b3 b4
    go_wp2_with fail
    go_ret
    exact ⟨ret_int hres.out.symm, hb1.out⟩
theorem dskfault20_any (ds : List Dr20) (o : Op20) (v : Value) (B : Nat) (w : World) (hv : DrAt w B v ds) (hs : Rise20 (fls20 ds)) (hbd : DrBd 1000000 ds) (hdl : o.data.length ≤ 90000000 ∧ o.name.length ≤ 9223372036854775807 ∧ o.to.length ≤ 9223372036854775807) (hsz : -9223372036854775808 ≤ o.size ∧ o.size ≤ 9223372036854775807) :
    Calls Try.prog 26 #[v, opV o] w fun e w' => e = .returned (.int .i64 (may20 (fls20 ds) o)) ∧ Below w.heap.size w w' := by
  obtain ⟨kd, nm, tn, dt, sz⟩ := o
  by_cases hb : kd < 1 ∨ 4 < kd ∨ name20 nm = false
  · exact dskfault20_no ds kd nm tn dt sz v B w hv hs hbd hdl hsz hb
  have hn : name20 nm = true := by
    cases e : name20 nm with
    | true => rfl
    | false => exact absurd (Or.inr (Or.inr e)) hb
  rcases (show kd = 1 ∨ kd = 2 ∨ kd = 3 ∨ kd = 4 by omega) with rfl | rfl | rfl | rfl
  · exact dskfault20_1 ds nm tn dt sz v B w hv hs hbd hdl hsz hn
  · exact dskfault20_2 ds nm tn dt sz v B w hv hs hbd hdl hsz hn
  · exact dskfault20_3 ds nm tn dt sz v B w hv hs hbd hdl hsz hn
  · exact dskfault20_4 ds nm tn dt sz v B w hv hs hbd hdl hsz hn
end Go.Proofs.Ytahndjgamoojkaa
