/- The walk of the reference's may of layer 20: kind 2. -/
import Derived.Test.YtahndjgamoojkaaBR13
import Derived.Test.YtahndjgamoojkaaBR03
import Derived.Test.YtahndjgamoojkaaBR09
namespace Go.Proofs.Ytahndjgamoojkaa
open Go.RowKit

set_option maxHeartbeats 4000000 in
set_option maxRecDepth 100000 in
theorem refmay20_2 (L : List Fl20) (nm tn dt : List UInt8) (sz : Int) (v : Value) (w : World) (hv : AtSl w v L) (hL : L.length ≤ 100000) (hdl : (data20 L nm).length ≤ 9223372036854775807 ∧ dt.length ≤ 9223372036854775807 ∧ nm.length ≤ 9223372036854775807 ∧ tn.length ≤ 9223372036854775807) (hsz : -9223372036854775808 ≤ sz ∧ sz ≤ 9223372036854775807) (hn : name20 nm = true) :
    Calls Try.prog 30 #[v, opV ⟨2, nm, tn, dt, sz⟩] w fun e w' => e = .returned (.int .i64 (may20 L ⟨2, nm, tn, dt, sz⟩)) ∧ Below w.heap.size w w' := by
  obtain ⟨A, c, rfl⟩ := hv.form
  have hbx := Lib.hid ((Below.refl w.heap.size w).alloc (Nat.le_refl _) (.cells (opC ⟨2, nm, tn, dt, sz⟩).toArray 27))
  have hv1 := Lib.hid (hv.next hbx.out)
  have hfd := reffind20_any L nm (.slice A L.length c) _ hv1.out (by unfold maxLen; omega)
  have hnm := fun W => refname20_any nm W (by unfold maxLen; omega)
  have htn := fun W => refname20_any tn W (by unfold maxLen; omega)
  unfold opV opC strV at *
  clear hv
  rw [hn] at hnm
  replace hnm := Lib.hid hnm
  clear htn
  by_cases hp : pos20 L nm < L.length
  · rw [find_yes hp] at hfd
    have hD := data_pos L nm hp
    obtain ⟨b, off, c2, _, _, ev, hc⟩ := hv1.out.some (by intro e; rw [e] at hp; simp at hp)
    injection ev with e1 e2 e3
    subst e1 e3
    obtain ⟨_, g0⟩ := hc (pos20 L nm) hp
    rw [show L.getD (pos20 L nm) ([], []) = L[pos20 L nm] by simp [List.getD, hp], ← hD] at g0
    have hkL : (pos20 L nm : Int) < L.length := by omega
    have hk0 : (0 : Int) ≤ pos20 L nm := by omega
    have hk1 : ¬ ((pos20 L nm : Int) < 0) := by omega
    unfold strV at g0
    have hdl2 : (data20 L nm).length ≤ 9223372036854775807 := hdl.1
    obtain ⟨k, hk⟩ : ∃ k, pos20 L nm = k := ⟨_, rfl⟩
    obtain ⟨D, hDD⟩ : ∃ D, data20 L nm = D := ⟨_, rfl⟩
    have hpk : decide (pos20 L nm < L.length) = true := decide_eq_true hp
    rw [hk] at hfd g0 hkL hk0 hk1
    rw [hDD] at g0 hdl2
    replace hfd := Lib.hid hfd
    replace hpk := Lib.hid hpk
    replace hDD := Lib.hid hDD
    clear hc hD e2 hp hk hdl
    by_cases r1 : sz < 0
    · skip
      have hres : may20 L ⟨2, nm, tn, dt, sz⟩ = 1 := by
        rw [may_eq hn hpk.out]; simp [r1]
      replace hres := Lib.hid hres
      go_enter Try.func30, Try.ntmps30
      go_wp2_with fail
      refine hfd.out.mono ?_; rintro e w1 ⟨rfl, rfl⟩
      go_wp2_with fail
      refine (hnm.out _).mono ?_; rintro e w1 ⟨rfl, rfl⟩
      go_wp2_with fail
      go_quiet (fail)
      go_wp2_with fail
      go_ret
      exact ⟨ret_int hres.out.symm, hbx.out.trans ((drawn_drewN _ _).below _)⟩
    by_cases r2 : (D.length : Int) < sz
    · skip
      have hres : may20 L ⟨2, nm, tn, dt, sz⟩ = 1 := by
        rw [may_eq hn hpk.out, hDD.out]; simp [r2]
      replace hres := Lib.hid hres
      go_enter Try.func30, Try.ntmps30
      go_wp2_with fail
      refine hfd.out.mono ?_; rintro e w1 ⟨rfl, rfl⟩
      go_wp2_with fail
      refine (hnm.out _).mono ?_; rintro e w1 ⟨rfl, rfl⟩
      go_wp2_with fail
      go_quiet (fail)
      go_wp2_with fail
      go_ret
      exact ⟨ret_int hres.out.symm, hbx.out.trans ((drawn_drewN _ _).below _)⟩
    have hres : may20 L ⟨2, nm, tn, dt, sz⟩ = 0 := by
      rw [may_eq hn hpk.out, hDD.out]; simp [r1, r2]
    replace hres := Lib.hid hres
    go_enter Try.func30, Try.ntmps30
    go_wp2_with fail
    refine hfd.out.mono ?_; rintro e w1 ⟨rfl, rfl⟩
    go_wp2_with fail
    refine (hnm.out _).mono ?_; rintro e w1 ⟨rfl, rfl⟩
    go_wp2_with fail
    go_quiet (fail)
    go_wp2_with fail
    go_quiet (fail)
    go_wp2_with fail
    go_ret
    exact ⟨ret_int hres.out.symm, hbx.out.trans (((drawn_drewN _ _).trans (drawn_drewN _ _)).below _)⟩
  · rw [find_no hp] at hfd
    have hpk : decide (pos20 L nm < L.length) = false := decide_eq_false hp
    have hk1 : (-1 : Int) < 0 := by omega
    have hk0 : ¬ (0 : Int) ≤ -1 := by omega
    replace hfd := Lib.hid hfd
    replace hpk := Lib.hid hpk
    clear hp
    have hres : may20 L ⟨2, nm, tn, dt, sz⟩ = 9 := by
      rw [may_eq hn hpk.out]; simp []
    replace hres := Lib.hid hres
    go_enter Try.func30, Try.ntmps30
    go_wp2_with fail
    refine hfd.out.mono ?_; rintro e w1 ⟨rfl, rfl⟩
    go_wp2_with fail
    refine (hnm.out _).mono ?_; rintro e w1 ⟨rfl, rfl⟩
    go_wp2_with fail
    go_ret
    exact ⟨ret_int hres.out.symm, hbx.out⟩
end Go.Proofs.Ytahndjgamoojkaa

/- The walk of the reference's may of layer 20: kind 3. -/
namespace Go.Proofs.Ytahndjgamoojkaa
open Go.RowKit

set_option maxHeartbeats 4000000 in
set_option maxRecDepth 100000 in
theorem refmay20_3 (L : List Fl20) (nm tn dt : List UInt8) (sz : Int) (v : Value) (w : World) (hv : AtSl w v L) (hL : L.length ≤ 100000) (hdl : (data20 L nm).length ≤ 9223372036854775807 ∧ dt.length ≤ 9223372036854775807 ∧ nm.length ≤ 9223372036854775807 ∧ tn.length ≤ 9223372036854775807) (_hsz : -9223372036854775808 ≤ sz ∧ sz ≤ 9223372036854775807) (hn : name20 nm = true) :
    Calls Try.prog 30 #[v, opV ⟨3, nm, tn, dt, sz⟩] w fun e w' => e = .returned (.int .i64 (may20 L ⟨3, nm, tn, dt, sz⟩)) ∧ Below w.heap.size w w' := by
  obtain ⟨A, c, rfl⟩ := hv.form
  have hbx := Lib.hid ((Below.refl w.heap.size w).alloc (Nat.le_refl _) (.cells (opC ⟨3, nm, tn, dt, sz⟩).toArray 27))
  have hv1 := Lib.hid (hv.next hbx.out)
  have hfd := reffind20_any L nm (.slice A L.length c) _ hv1.out (by unfold maxLen; omega)
  have hnm := fun W => refname20_any nm W (by unfold maxLen; omega)
  have htn := fun W => refname20_any tn W (by unfold maxLen; omega)
  unfold opV opC strV at *
  clear hv
  rw [hn] at hnm
  replace hnm := Lib.hid hnm
  cases ht : name20 tn with
  | false =>
    rw [ht] at htn
    replace htn := Lib.hid htn
    generalize hf : find20 L nm = f at hfd
    replace hf := Lib.hid hf
    replace hfd := Lib.hid hfd
    have hres : may20 L ⟨3, nm, tn, dt, sz⟩ = 1 := by
      simp [may20, ht]
    replace hres := Lib.hid hres
    go_enter Try.func30, Try.ntmps30
    go_wp2_with fail
    refine hfd.out.mono ?_; rintro e w1 ⟨rfl, rfl⟩
    go_wp2_with fail
    refine (hnm.out _).mono ?_; rintro e w1 ⟨rfl, rfl⟩
    go_wp2_with fail
    refine (htn.out _).mono ?_; rintro e w1 ⟨rfl, rfl⟩
    go_wp2_with fail
    go_ret
    exact ⟨ret_int hres.out.symm, hbx.out⟩
  | true =>
    rw [ht] at htn
    replace htn := Lib.hid htn
    by_cases hp : pos20 L nm < L.length
    · rw [find_yes hp] at hfd
      have hD := data_pos L nm hp
      obtain ⟨b, off, c2, _, _, ev, hc⟩ := hv1.out.some (by intro e; rw [e] at hp; simp at hp)
      injection ev with e1 e2 e3
      subst e1 e3
      obtain ⟨_, g0⟩ := hc (pos20 L nm) hp
      rw [show L.getD (pos20 L nm) ([], []) = L[pos20 L nm] by simp [List.getD, hp], ← hD] at g0
      have hkL : (pos20 L nm : Int) < L.length := by omega
      have hk0 : (0 : Int) ≤ pos20 L nm := by omega
      have hk1 : ¬ ((pos20 L nm : Int) < 0) := by omega
      unfold strV at g0
      have hdl2 : (data20 L nm).length ≤ 9223372036854775807 := hdl.1
      obtain ⟨k, hk⟩ : ∃ k, pos20 L nm = k := ⟨_, rfl⟩
      obtain ⟨D, hDD⟩ : ∃ D, data20 L nm = D := ⟨_, rfl⟩
      have hpk : decide (pos20 L nm < L.length) = true := decide_eq_true hp
      rw [hk] at hfd g0 hkL hk0 hk1
      rw [hDD] at g0 hdl2
      replace hfd := Lib.hid hfd
      replace hpk := Lib.hid hpk
      replace hDD := Lib.hid hDD
      clear hc hD e2 hp hk hdl
      have hres : may20 L ⟨3, nm, tn, dt, sz⟩ = 0 := by
        rw [may_eq hn hpk.out]; simp [ht]
      replace hres := Lib.hid hres
      go_enter Try.func30, Try.ntmps30
      go_wp2_with fail
      refine hfd.out.mono ?_; rintro e w1 ⟨rfl, rfl⟩
      go_wp2_with fail
      refine (hnm.out _).mono ?_; rintro e w1 ⟨rfl, rfl⟩
      go_wp2_with fail
      refine (htn.out _).mono ?_; rintro e w1 ⟨rfl, rfl⟩
      go_wp2_with fail
      go_quiet (fail)
      go_wp2_with fail
      go_quiet (fail)
      go_wp2_with fail
      go_ret
      exact ⟨ret_int hres.out.symm, hbx.out.trans (((drawn_drewN _ _).trans (drawn_drewN _ _)).below _)⟩
    · rw [find_no hp] at hfd
      have hpk : decide (pos20 L nm < L.length) = false := decide_eq_false hp
      have hk1 : (-1 : Int) < 0 := by omega
      have hk0 : ¬ (0 : Int) ≤ -1 := by omega
      replace hfd := Lib.hid hfd
      replace hpk := Lib.hid hpk
      clear hp
      have hres : may20 L ⟨3, nm, tn, dt, sz⟩ = 9 := by
        rw [may_eq hn hpk.out]; simp [ht]
      replace hres := Lib.hid hres
      go_enter Try.func30, Try.ntmps30
      go_wp2_with fail
      refine hfd.out.mono ?_; rintro e w1 ⟨rfl, rfl⟩
      go_wp2_with fail
      refine (hnm.out _).mono ?_; rintro e w1 ⟨rfl, rfl⟩
      go_wp2_with fail
      refine (htn.out _).mono ?_; rintro e w1 ⟨rfl, rfl⟩
      go_wp2_with fail
      go_ret
      exact ⟨ret_int hres.out.symm, hbx.out⟩
end Go.Proofs.Ytahndjgamoojkaa

/- The walk of the reference's may of layer 20: kind 4. -/
namespace Go.Proofs.Ytahndjgamoojkaa
open Go.RowKit

set_option maxHeartbeats 4000000 in
set_option maxRecDepth 100000 in
theorem refmay20_4 (L : List Fl20) (nm tn dt : List UInt8) (sz : Int) (v : Value) (w : World) (hv : AtSl w v L) (hL : L.length ≤ 100000) (hdl : (data20 L nm).length ≤ 9223372036854775807 ∧ dt.length ≤ 9223372036854775807 ∧ nm.length ≤ 9223372036854775807 ∧ tn.length ≤ 9223372036854775807) (_hsz : -9223372036854775808 ≤ sz ∧ sz ≤ 9223372036854775807) (hn : name20 nm = true) :
    Calls Try.prog 30 #[v, opV ⟨4, nm, tn, dt, sz⟩] w fun e w' => e = .returned (.int .i64 (may20 L ⟨4, nm, tn, dt, sz⟩)) ∧ Below w.heap.size w w' := by
  obtain ⟨A, c, rfl⟩ := hv.form
  have hbx := Lib.hid ((Below.refl w.heap.size w).alloc (Nat.le_refl _) (.cells (opC ⟨4, nm, tn, dt, sz⟩).toArray 27))
  have hv1 := Lib.hid (hv.next hbx.out)
  have hfd := reffind20_any L nm (.slice A L.length c) _ hv1.out (by unfold maxLen; omega)
  have hnm := fun W => refname20_any nm W (by unfold maxLen; omega)
  have htn := fun W => refname20_any tn W (by unfold maxLen; omega)
  unfold opV opC strV at *
  clear hv
  rw [hn] at hnm
  replace hnm := Lib.hid hnm
  clear htn
  by_cases hp : pos20 L nm < L.length
  · rw [find_yes hp] at hfd
    have hD := data_pos L nm hp
    obtain ⟨b, off, c2, _, _, ev, hc⟩ := hv1.out.some (by intro e; rw [e] at hp; simp at hp)
    injection ev with e1 e2 e3
    subst e1 e3
    obtain ⟨_, g0⟩ := hc (pos20 L nm) hp
    rw [show L.getD (pos20 L nm) ([], []) = L[pos20 L nm] by simp [List.getD, hp], ← hD] at g0
    have hkL : (pos20 L nm : Int) < L.length := by omega
    have hk0 : (0 : Int) ≤ pos20 L nm := by omega
    have hk1 : ¬ ((pos20 L nm : Int) < 0) := by omega
    unfold strV at g0
    have hdl2 : (data20 L nm).length ≤ 9223372036854775807 := hdl.1
    obtain ⟨k, hk⟩ : ∃ k, pos20 L nm = k := ⟨_, rfl⟩
    obtain ⟨D, hDD⟩ : ∃ D, data20 L nm = D := ⟨_, rfl⟩
    have hpk : decide (pos20 L nm < L.length) = true := decide_eq_true hp
    rw [hk] at hfd g0 hkL hk0 hk1
    rw [hDD] at g0 hdl2
    replace hfd := Lib.hid hfd
    replace hpk := Lib.hid hpk
    replace hDD := Lib.hid hDD
    clear hc hD e2 hp hk hdl
    have hres : may20 L ⟨4, nm, tn, dt, sz⟩ = 0 := by
      rw [may_eq hn hpk.out]; simp []
    replace hres := Lib.hid hres
    go_enter Try.func30, Try.ntmps30
    go_wp2_with fail
    refine hfd.out.mono ?_; rintro e w1 ⟨rfl, rfl⟩
    go_wp2_with fail
    refine (hnm.out _).mono ?_; rintro e w1 ⟨rfl, rfl⟩
    go_wp2_with fail
    go_quiet (fail)
    go_wp2_with fail
    go_quiet (fail)
    go_wp2_with fail
    go_ret
    exact ⟨ret_int hres.out.symm, hbx.out.trans (((drawn_drewN _ _).trans (drawn_drewN _ _)).below _)⟩
  · rw [find_no hp] at hfd
    have hpk : decide (pos20 L nm < L.length) = false := decide_eq_false hp
    have hk1 : (-1 : Int) < 0 := by omega
    have hk0 : ¬ (0 : Int) ≤ -1 := by omega
    replace hfd := Lib.hid hfd
    replace hpk := Lib.hid hpk
    clear hp
    have hres : may20 L ⟨4, nm, tn, dt, sz⟩ = 9 := by
      rw [may_eq hn hpk.out]; simp []
    replace hres := Lib.hid hres
    go_enter Try.func30, Try.ntmps30
    go_wp2_with fail
    refine hfd.out.mono ?_; rintro e w1 ⟨rfl, rfl⟩
    go_wp2_with fail
    refine (hnm.out _).mono ?_; rintro e w1 ⟨rfl, rfl⟩
    go_wp2_with fail
    go_ret
    exact ⟨ret_int hres.out.symm, hbx.out⟩
end Go.Proofs.Ytahndjgamoojkaa

/- The walk of the reference's may of layer 20. -/
namespace Go.Proofs.Ytahndjgamoojkaa
open Go.RowKit

theorem refmay20_any (L : List Fl20) (o : Op20) (v : Value) (w : World) (hv : AtSl w v L) (hL : L.length ≤ 100000) (hdl : (data20 L o.name).length ≤ 9223372036854775807 ∧ o.data.length ≤ 9223372036854775807 ∧ o.name.length ≤ 9223372036854775807 ∧ o.to.length ≤ 9223372036854775807) (hsz : -9223372036854775808 ≤ o.size ∧ o.size ≤ 9223372036854775807) :
    Calls Try.prog 30 #[v, opV o] w fun e w' => e = .returned (.int .i64 (may20 L o)) ∧ Below w.heap.size w w' := by
  obtain ⟨kd, nm, tn, dt, sz⟩ := o
  by_cases hb : kd < 1 ∨ 4 < kd ∨ name20 nm = false
  · exact refmay20_no L kd nm tn dt sz v w hv hL hdl hsz hb
  have hn : name20 nm = true := by
    cases e : name20 nm with
    | true => rfl
    | false => exact absurd (Or.inr (Or.inr e)) hb
  rcases (show kd = 1 ∨ kd = 2 ∨ kd = 3 ∨ kd = 4 by omega) with rfl | rfl | rfl | rfl
  · exact refmay20_1 L nm tn dt sz v w hv hL hdl hsz hn
  · exact refmay20_2 L nm tn dt sz v w hv hL hdl hsz hn
  · exact refmay20_3 L nm tn dt sz v w hv hL hdl hsz hn
  · exact refmay20_4 L nm tn dt sz v w hv hL hdl hsz hn
end Go.Proofs.Ytahndjgamoojkaa

/- Disks in memory; the walk of the reference's Right of layer 20. -/
namespace Go.Proofs.Ytahndjgamoojkaa
open Go.RowKit

/-- Operations in memory. -/
abbrev OpSl (w : World) (v : Value) (os : List Op20) : Prop := SlOf 5 opC w v os
theorem opC_len (o : Op20) : (opC o).length = 5 := rfl
/-- A disk. -/
structure Dk20 where
  files : List Fl20
  loose : List Op20
  fuse : Int
  down : Bool
/-- A disk's cells. -/
def dkC (fv lv : Value) (d : Dk20) : List Value := [fv, lv, .int .i64 d.fuse, .bool d.down]
/-- A disk as a value. -/
def DkV (w : World) (v : Value) (d : Dk20) : Prop := ∃ fv lv, v = .agg (dkC fv lv d).toArray ∧ AtSl w fv d.files ∧ OpSl w lv d.loose
theorem DkV.next {w w' : World} {v : Value} {d : Dk20} (h : DkV w v d) (hb : Below w.heap.size w w') : DkV w' v d := by
  obtain ⟨fv, lv, e, h1, h2⟩ := h
  exact ⟨fv, lv, e, h1.next hb, h2.next hb⟩
theorem may_ok {L : List Fl20} {o : Op20} (h : may20 L o = 0) : (o.kind ≠ 1 → pos20 L o.name < L.length) ∧ (o.kind = 2 → 0 ≤ o.size ∧ o.size ≤ (data20 L o.name).length) := by
  unfold may20 at h
  by_cases c1 : o.kind < 1 ∨ 4 < o.kind ∨ name20 o.name = false ∨ o.kind = 3 ∧ name20 o.to = false
  · rw [if_pos c1] at h; cases h
  rw [if_neg c1] at h
  by_cases c2 : o.kind ≠ 1 ∧ (get20 L o.name).isSome = false
  · rw [if_pos c2] at h; cases h
  rw [if_neg c2] at h
  by_cases c3 : o.kind = 2 ∧ (o.size < 0 ∨ ((data20 L o.name).length : Int) < o.size)
  · rw [if_pos c3] at h; cases h
  refine ⟨fun hk => ?_, fun hk => ?_⟩
  · rw [pos_some] at c2
    by_cases hp : pos20 L o.name < L.length
    · exact hp
    · exact absurd ⟨hk, decide_eq_false hp⟩ c2
  · have : ¬ (o.size < 0 ∨ ((data20 L o.name).length : Int) < o.size) := fun e => c3 ⟨hk, e⟩
    omega
theorem may_data {L : List Fl20} {o : Op20} (_h : may20 L o = 0) (hv : Val20 L) : (data20 L o.name).length ≤ 1048576 := hv.data o.name
/-- The first i files are in order. -/
def FinTo (L : List Fl20) (i : Nat) : Prop := ∀ j (h : j < L.length), j < i → name20 (L[j]'h).1 = true ∧ (L[j]'h).2.length ≤ 1048576 ∧ ∀ h0 : 0 < j, (L[j - 1]'(by omega)).1 < (L[j]'h).1
theorem adj_idx : ∀ L : List Fl20, (∀ j (h : j + 1 < L.length), (L[j]'(by omega)).1 < (L[j + 1]'h).1) → adj20 L = true
  | [], _ => rfl
  | [_], _ => rfl
  | f :: g :: r, h => by
    rw [adj20, Bool.and_eq_true, decide_eq_true_eq]
    refine ⟨h 0 (by simp), adj_idx (g :: r) fun j hj => ?_⟩
    have := h (j + 1) (by simpa using hj)
    simpa using this
theorem fin_val {L : List Fl20} (h : FinTo L L.length) (h8 : L.length ≤ 8) : Val20 L := by
  refine ⟨h8, fun f hf => ?_, fun f hf => ?_, ?_⟩
  · obtain ⟨j, hj, rfl⟩ := List.mem_iff_getElem.1 hf
    exact (h j hj hj).1
  · obtain ⟨j, hj, rfl⟩ := List.mem_iff_getElem.1 hf
    exact (h j hj hj).2.1
  · rw [← adj_rise]
    refine adj_idx L fun j hj => ?_
    have := (h (j + 1) hj hj).2.2 (by omega)
    simpa using this
theorem rise_at {L : List Fl20} (h : Rise20 L) {j : Nat} (hj : j < L.length) (h0 : 0 < j) : (L[j - 1]'(by omega)).1 < (L[j]'hj).1 := by
  have := List.pairwise_iff_getElem.1 h (j - 1) j (by omega) hj (by omega)
  exact this
theorem fin_next {L : List Fl20} {i : Nat} (h : FinTo L i) (hi : i < L.length) (h1 : name20 (L[i]'hi).1 = true) (h2 : (L[i]'hi).2.length ≤ 1048576) (h3 : ∀ h0 : 0 < i, (L[i - 1]'(by omega)).1 < (L[i]'hi).1) : FinTo L (i + 1) := by
  intro j hj hji
  by_cases e : j = i
  · subst e
    exact ⟨h1, h2, h3⟩
  · exact h j hj (by omega)
theorem right_no1 {L : List Fl20} {os : List Op20} (h : ¬ Val20 L) : right20 L os = false := by
  cases e : right20 L os with
  | false => rfl
  | true => exact absurd (right_val e).1 h
theorem mays_next {L : List Fl20} {os : List Op20} {i : Nat} (hi : i < os.length) : mays20 L (os.take (i + 1)) = (mays20 L (os.take i) && decide (may20 (all20 L (os.take i)) (os[i]'hi) = 0)) := by
  rw [List.take_succ_eq_append_getElem hi, mays_app, mays20, mays20, Bool.and_true]
theorem all_next {L : List Fl20} {os : List Op20} {i : Nat} (hi : i < os.length) : all20 L (os.take (i + 1)) = done20 (all20 L (os.take i)) (os[i]'hi) := by
  unfold all20
  rw [List.take_succ_eq_append_getElem hi, List.foldl_append]
  rfl
theorem mays_no {L : List Fl20} {os : List Op20} {i : Nat} (hi : i < os.length) (h : may20 (all20 L (os.take i)) (os[i]'hi) ≠ 0) : mays20 L os = false := by
  have e : os = os.take (i + 1) ++ os.drop (i + 1) := (List.take_append_drop _ _).symm
  rw [e, mays_app, mays_next hi, decide_eq_false h, Bool.and_false, Bool.false_and]
end Go.Proofs.Ytahndjgamoojkaa
