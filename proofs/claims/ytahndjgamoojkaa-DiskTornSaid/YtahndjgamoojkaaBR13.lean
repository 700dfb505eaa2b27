/- The walk of the reference's done of layer 20. -/
import Derived.Test.YtahndjgamoojkaaBR12
import Derived.Deep.RegionHeld3
namespace Go.Proofs.Ytahndjgamoojkaa
open Go.RowKit

/-- An operation as a value. -/
def opC (o : Op20) : List Value := [.int .i64 o.kind, strV o.name, strV o.to, strV o.data, .int .i64 o.size]
def opV (o : Op20) : Value := .agg (opC o).toArray
/-- .. in a block. -/
def OpAt (w : World) (b : Nat) (o : Op20) : Prop := w.cell? ⟨b, 0, none⟩ = some (.int .i64 o.kind) ∧ w.cell? ⟨b, 1, none⟩ = some (strV o.name) ∧ w.cell? ⟨b, 2, none⟩ = some (strV o.to) ∧ w.cell? ⟨b, 3, none⟩ = some (strV o.data) ∧ w.cell? ⟨b, 4, none⟩ = some (.int .i64 o.size)
theorem opAt_new (w : World) (o : Op20) (E : TypeId) : OpAt (w.alloc (.cells (opC o).toArray E)) w.heap.size o := by
  have h := arrAt_new w E (opC o)
  exact ⟨h.cell 0, h.cell 1, h.cell 2, h.cell 3, h.cell 4⟩
theorem OpAt.next {w w' : World} {b : Nat} {o : Op20} (h : OpAt w b o) (hb : Below w.heap.size w w') : OpAt w' b o := by
  have hlt := World.block_lt_of_cell? w _ h.1
  exact ⟨(hb.cell (p := ⟨b, 0, none⟩) hlt).trans h.1, (hb.cell (p := ⟨b, 1, none⟩) hlt).trans h.2.1, (hb.cell (p := ⟨b, 2, none⟩) hlt).trans h.2.2.1, (hb.cell (p := ⟨b, 3, none⟩) hlt).trans h.2.2.2.1, (hb.cell (p := ⟨b, 4, none⟩) hlt).trans h.2.2.2.2⟩
theorem FilesPost.from {w w0 : World} {L : List Fl20} {e : Ending} {w' : World} (h : FilesPost w L e w') (hb : Below w0.heap.size w0 w) : FilesPost w0 L e w' := by
  obtain ⟨v, he, ho, hb2⟩ := h
  exact ⟨v, he, ownsRow_mono ho hb.size, hb.andThen hb2⟩
theorem drop20_len (L : List Fl20) (n : List UInt8) : (drop20 L n).length ≤ L.length := by unfold drop20; exact List.length_filter_le _ _
set_option maxHeartbeats 1000000 in
theorem refdone20_any (L : List Fl20) (o : Op20) (v : Value) (w : World) (hv : AtSl w v L) (hL : L.length ≤ 100000) (hdl : (data20 L o.name).length + o.data.length ≤ 100000000) (hpr : o.kind ≠ 1 → pos20 L o.name < L.length) (hsz : o.kind = 2 → 0 ≤ o.size ∧ o.size ≤ (data20 L o.name).length) :
    Calls Try.prog 37 #[v, opV o] w (FilesPost w (done20 L o)) := by
  obtain ⟨A, c, rfl⟩ := hv.form
  obtain ⟨kd, nm, tn, dt, sz⟩ := o
  have hop := opAt_new w ⟨kd, nm, tn, dt, sz⟩ 27
  have hop0 := hop
  have hbx := Lib.hid ((Below.refl w.heap.size w).alloc (Nat.le_refl _) (.cells (opC ⟨kd, nm, tn, dt, sz⟩).toArray 27))
  have hv1 := Lib.hid (hv.next hbx.out)
  unfold opV opC strV at *
  clear hop
  simp only at hdl hsz hpr
  clear hv
  have hkp : Hid (∀ W, Below (w.alloc (.cells #[.int .i64 kd, .string ⟨nm.toArray⟩, .string ⟨tn.toArray⟩, .string ⟨dt.toArray⟩, .int .i64 sz] 27)).heap.size (w.alloc (.cells #[.int .i64 kd, .string ⟨nm.toArray⟩, .string ⟨tn.toArray⟩, .string ⟨dt.toArray⟩, .int .i64 sz] 27)) W → W.cell? ⟨w.heap.size, 1, none⟩ = some (.string ⟨nm.toArray⟩) ∧ W.cell? ⟨w.heap.size, 4, none⟩ = some (.int .i64 sz)) := Lib.hid fun W hW => ⟨((OpAt.next hop0 hW)).2.1, ((OpAt.next hop0 hW)).2.2.2.2⟩
  have hkp2 : Hid (∀ W, Below (w.alloc (.cells #[.int .i64 kd, .string ⟨nm.toArray⟩, .string ⟨tn.toArray⟩, .string ⟨dt.toArray⟩, .int .i64 sz] 27)).heap.size (w.alloc (.cells #[.int .i64 kd, .string ⟨nm.toArray⟩, .string ⟨tn.toArray⟩, .string ⟨dt.toArray⟩, .int .i64 sz] 27)) W → W.cell? ⟨w.heap.size, 1, none⟩ = some (.string ⟨nm.toArray⟩) ∧ W.cell? ⟨w.heap.size, 2, none⟩ = some (.string ⟨tn.toArray⟩)) := Lib.hid fun W hW => ⟨((OpAt.next hop0 hW)).2.1, ((OpAt.next hop0 hW)).2.2.1⟩
  clear hop0
  have hfd := reffind20_any L nm (.slice A L.length c) _ hv1.out (by unfold maxLen; omega)
  unfold done20
  simp only
  by_cases hpos : pos20 L nm < L.length
  · have hsz2 := fun e => hsz e
    rw [find_yes hpos] at hfd
    have hD := data_pos L nm hpos
    obtain ⟨b, off, c2, _, _, e, hc⟩ := hv1.out.some (by intro e; rw [e] at hpos; simp at hpos)
    injection e with e1 e2 e3
    subst e1 e3
    obtain ⟨_, g0⟩ := hc (pos20 L nm) hpos
    rw [show L.getD (pos20 L nm) ([], []) = L[pos20 L nm] by simp [List.getD, hpos], ← hD] at g0
    have hkL : (pos20 L nm : Int) < L.length := by omega
    have hk0 : (0 : Int) ≤ pos20 L nm := by omega
    generalize pos20 L nm = k at hfd g0 hkL hk0 hpos hD
    generalize data20 L nm = D at *
    unfold strV at g0
    replace hfd := Lib.hid hfd
    clear hc hD e2
    by_cases k1 : kd = 1
    · rw [if_pos k1]
      have g1 : (kd == 1) = true := by simpa using k1
      have hput := fun W v hW => refput20_any L nm (D ++ dt) v W hW (by omega)
      replace hput := Lib.hid hput
      clear k1
      go_enter Try.func37, Try.ntmps37
      go_wp2_with fail
      refine hfd.out.mono ?_; rintro e w1 ⟨rfl, rfl⟩
      clear hfd
      go_wp2_with fail
      refine (hput.out _ _ hv1.out).mono ?_; rintro e w2 hp
      obtain ⟨v2, rfl, ho2, hb2⟩ := FilesPost.from hp hbx.out
      replace ho2 := Lib.hid ho2
      replace hb2 := Lib.hid hb2
      clear hp
      go_wp2_with fail
      go_ret
      exact ⟨_, rfl, ho2.out, hb2.out⟩
    · rw [if_neg k1]
      have g1 : (kd == 1) = false := by simpa using k1
      clear k1
      by_cases k2 : kd = 2
      · rw [if_pos k2]
        have g2 : (kd == 2) = true := by simpa using k2
        obtain ⟨s0, s1⟩ := hsz2 k2
        obtain ⟨m, rfl⟩ := Int.eq_ofNat_of_zero_le s0
        rw [show (max 0 (m : Int)).toNat = m by omega]
        have s2 : ¬ (m : Int) < 0 := by omega
        have s3 : ¬ (D.length : Int) < m := by omega
        have s6 : (if 0 < m then (m : Int) else 0) = m := by split <;> omega
        have s7 : (if (m : Int) < D.length then (m : Int) else (D.length : Int)) = m := by split <;> omega
        have s8 : (if m < D.length then (m : Int) else (D.length : Int)) = m := by split <;> omega
        have s9 : (m : Int) ≤ D.length := by omega
        have s10 : min (D.length : Int) (m : Int) = m := by omega
        have hput := Lib.hid (fun W v hW => refput20_any L nm (D.take m) v W hW (by omega))
        clear k2
        go_enter Try.func37, Try.ntmps37
        go_wp2_with fail
        refine hfd.out.mono ?_; rintro e w1 ⟨rfl, rfl⟩
        clear hfd
        go_wp2_with fail
        go_region_held3 (fun W => W.cell? ⟨w.heap.size, 1, none⟩ = some (.string ⟨nm.toArray⟩) ∧ W.cell? ⟨w.heap.size, 4, none⟩ = some (.int .i64 m)) (first | exact hkp.out _ hb2.out | exact hkp.out _ ((drawn_drew _).below _))
          (first
            | (go_at_call 52; ((with_reducible refine (hput.out _ _ (hv1.out.drawn (drawn_drew _))).mono ?_); rintro e w2 ⟨v2, rfl, ho2, hb2⟩; obtain ⟨a2, c3, rfl⟩ := own_form ho2; replace hb2 := Lib.hid (((drawn_drew _).below _).andThen hb2); replace ho2 := Lib.hid ho2)))
        go_wp2_with fail
        go_ret
        exact ⟨_, rfl, ownsRow_mono ho2.out hbx.out.size, hbx.out.andThen hb2.out⟩
      · rw [if_neg k2]
        have g2 : (kd == 2) = false := by simpa using k2
        clear k2
        by_cases k3 : kd = 3
        · rw [if_pos k3]
          have g3 : (kd == 3) = true := by simpa using k3
          have hdr := Lib.hid (fun W v hW => refdrop20_any L nm v W hW (by omega))
          have hdl2 := drop20_len L nm
          have hput := Lib.hid (fun W v hW => refput20_any (drop20 L nm) tn D v W hW (by omega))
          clear k3
          go_enter Try.func37, Try.ntmps37
          go_wp2_with fail
          refine hfd.out.mono ?_; rintro e w1 ⟨rfl, rfl⟩
          clear hfd
          go_wp2_with fail
          go_region_held3 (fun W => W.cell? ⟨w.heap.size, 1, none⟩ = some (.string ⟨nm.toArray⟩) ∧ W.cell? ⟨w.heap.size, 2, none⟩ = some (.string ⟨tn.toArray⟩)) (first | exact hkp2.out _ hb3.out | exact hkp2.out _ hb2.out | exact hkp2.out _ ((drawn_drew _).below _))
            (first
              | (go_at_call 53; ((with_reducible refine (hdr.out _ _ (hv1.out.drawn (drawn_drew _))).mono ?_); rintro e w2 ⟨v2, rfl, ho2, hb2⟩; obtain ⟨a2, c3, rfl⟩ := own_form ho2; replace hb2 := Lib.hid (((drawn_drew _).below _).andThen hb2); replace ho2 := Lib.hid ho2))
              | (go_at_call 52; ((with_reducible refine (hput.out _ _ ho2.out.sl).mono ?_); rintro e w3 ⟨v3, rfl, ho3, hb3⟩; obtain ⟨a3, c4, rfl⟩ := own_form ho3; replace hb3 := Lib.hid (hb2.out.andThen hb3); replace ho3 := Lib.hid ho3)))
          go_wp2_with fail
          go_ret
          exact ⟨_, rfl, ownsRow_mono ho3.out (Nat.le_trans hbx.out.size hb2.out.size), hbx.out.andThen hb3.out⟩
        · rw [if_neg k3]
          have g3 : (kd == 3) = false := by simpa using k3
          have hdr := Lib.hid (fun W v hW => refdrop20_any L nm v W hW (by omega))
          clear k3
          go_enter Try.func37, Try.ntmps37
          go_wp2_with fail
          refine hfd.out.mono ?_; rintro e w1 ⟨rfl, rfl⟩
          clear hfd
          go_wp2_with fail
          refine (hdr.out _ _ hv1.out).mono ?_; rintro e w2 hp
          obtain ⟨v2, rfl, ho2, hb2⟩ := FilesPost.from hp hbx.out
          replace ho2 := Lib.hid ho2
          replace hb2 := Lib.hid hb2
          clear hp
          go_wp2_with fail
          go_ret
          exact ⟨_, rfl, ho2.out, hb2.out⟩
  · rw [find_no hpos] at hfd
    rw [data_no hpos]
    have hk0 : ¬ (0 : Int) ≤ -1 := by omega
    rw [data_no hpos] at hdl
    rw [List.nil_append]
    replace hfd := Lib.hid hfd
    obtain rfl : kd = 1 := by
      by_cases h : kd = 1
      · exact h
      · exact absurd (hpr h) hpos
    rw [if_pos rfl]
    have hput := Lib.hid (fun W v hW => refput20_any L nm dt v W hW (by omega))
    clear hpos
    go_enter Try.func37, Try.ntmps37
    go_wp2_with fail
    refine hfd.out.mono ?_; rintro e w1 ⟨rfl, rfl⟩
    clear hfd
    go_wp2_with fail
    refine (hput.out _ _ hv1.out).mono ?_; rintro e w2 hp
    obtain ⟨v2, rfl, ho2, hb2⟩ := FilesPost.from hp hbx.out
    replace ho2 := Lib.hid ho2
    replace hb2 := Lib.hid hb2
    clear hp
    go_wp2_with fail
    go_ret
    exact ⟨_, rfl, ho2.out, hb2.out⟩
end Go.Proofs.Ytahndjgamoojkaa

/- The walk of the reference's may of layer 20. -/
namespace Go.Proofs.Ytahndjgamoojkaa
open Go.RowKit

theorem may_eq {L : List Fl20} {o : Op20} {b : Bool} (hn : name20 o.name = true) (hp : decide (pos20 L o.name < L.length) = b) : may20 L o =
    if o.kind < 1 ∨ 4 < o.kind ∨ o.kind = 3 ∧ name20 o.to = false then 1
    else if o.kind ≠ 1 ∧ b = false then 9
    else if o.kind = 2 ∧ (o.size < 0 ∨ ((data20 L o.name).length : Int) < o.size) then 1
    else if o.kind = 1 ∧ b = false ∧ 8 ≤ L.length then 11
    else if o.kind = 1 ∧ (1048576 < o.data.length ∨ b = true ∧ 1048576 < (data20 L o.name).length + o.data.length) then 8
    else 0 := by
  unfold may20
  rw [pos_some, hp, hn]
  simp
set_option maxHeartbeats 1000000 in
set_option maxRecDepth 100000 in
theorem refmay20_no (L : List Fl20) (kd : Int) (nm tn dt : List UInt8) (sz : Int) (v : Value) (w : World) (hv : AtSl w v L) (hL : L.length ≤ 100000) (hdl : (data20 L nm).length ≤ 9223372036854775807 ∧ dt.length ≤ 9223372036854775807 ∧ nm.length ≤ 9223372036854775807 ∧ tn.length ≤ 9223372036854775807) (_hsz : -9223372036854775808 ≤ sz ∧ sz ≤ 9223372036854775807) (hb : kd < 1 ∨ 4 < kd ∨ name20 nm = false) :
    Calls Try.prog 30 #[v, opV ⟨kd, nm, tn, dt, sz⟩] w fun e w' => e = .returned (.int .i64 (may20 L ⟨kd, nm, tn, dt, sz⟩)) ∧ Below w.heap.size w w' := by
  obtain ⟨A, c, rfl⟩ := hv.form
  have hbx := Lib.hid ((Below.refl w.heap.size w).alloc (Nat.le_refl _) (.cells (opC ⟨kd, nm, tn, dt, sz⟩).toArray 27))
  have hv1 := Lib.hid (hv.next hbx.out)
  have hfd := reffind20_any L nm (.slice A L.length c) _ hv1.out (by unfold maxLen; omega)
  have hnm := fun W => refname20_any nm W (by unfold maxLen; omega)
  have htn := fun W => refname20_any tn W (by unfold maxLen; omega)
  unfold opV opC strV at *
  clear hv
  generalize hf : find20 L nm = f at hfd
  replace hf := Lib.hid hf
  replace hfd := Lib.hid hfd
  by_cases q1 : kd < 1
  · skip
    have hres : may20 L ⟨kd, nm, tn, dt, sz⟩ = 1 := by
      simp [may20, q1]
    replace hres := Lib.hid hres
    clear htn hnm hb
    go_enter Try.func30, Try.ntmps30
    go_wp2_with fail
    refine hfd.out.mono ?_; rintro e w1 ⟨rfl, rfl⟩
    go_wp2_with fail
    go_ret
    exact ⟨ret_int hres.out.symm, hbx.out⟩
  by_cases q4 : 4 < kd
  · skip
    have hres : may20 L ⟨kd, nm, tn, dt, sz⟩ = 1 := by
      simp [may20, q4]
    replace hres := Lib.hid hres
    clear htn hnm hb
    go_enter Try.func30, Try.ntmps30
    go_wp2_with fail
    refine hfd.out.mono ?_; rintro e w1 ⟨rfl, rfl⟩
    go_wp2_with fail
    go_ret
    exact ⟨ret_int hres.out.symm, hbx.out⟩
  have hn : name20 nm = false := by rcases hb with h | h | h; exact absurd h q1; exact absurd h q4; exact h
  rw [hn] at hnm
  replace hnm := Lib.hid hnm
  have hres : may20 L ⟨kd, nm, tn, dt, sz⟩ = 1 := by
    simp [may20, hn]
  replace hres := Lib.hid hres
  clear htn hb
  go_enter Try.func30, Try.ntmps30
  go_wp2_with fail
  refine hfd.out.mono ?_; rintro e w1 ⟨rfl, rfl⟩
  go_wp2_with fail
  refine (hnm.out _).mono ?_; rintro e w1 ⟨rfl, rfl⟩
  go_wp2_with fail
  go_ret
  exact ⟨ret_int hres.out.symm, hbx.out⟩
end Go.Proofs.Ytahndjgamoojkaa

/- The walk of the reference's may of layer 20: kind 1. -/
namespace Go.Proofs.Ytahndjgamoojkaa
open Go.RowKit

set_option maxHeartbeats 4000000 in
set_option maxRecDepth 100000 in
theorem refmay20_1 (L : List Fl20) (nm tn dt : List UInt8) (sz : Int) (v : Value) (w : World) (hv : AtSl w v L) (hL : L.length ≤ 100000) (hdl : (data20 L nm).length ≤ 9223372036854775807 ∧ dt.length ≤ 9223372036854775807 ∧ nm.length ≤ 9223372036854775807 ∧ tn.length ≤ 9223372036854775807) (_hsz : -9223372036854775808 ≤ sz ∧ sz ≤ 9223372036854775807) (hn : name20 nm = true) :
    Calls Try.prog 30 #[v, opV ⟨1, nm, tn, dt, sz⟩] w fun e w' => e = .returned (.int .i64 (may20 L ⟨1, nm, tn, dt, sz⟩)) ∧ Below w.heap.size w w' := by
  obtain ⟨A, c, rfl⟩ := hv.form
  have hbx := Lib.hid ((Below.refl w.heap.size w).alloc (Nat.le_refl _) (.cells (opC ⟨1, nm, tn, dt, sz⟩).toArray 27))
  have hv1 := Lib.hid (hv.next hbx.out)
  have hfd := reffind20_any L nm (.slice A L.length c) _ hv1.out (by unfold maxLen; omega)
  have hnm := fun W => refname20_any nm W (by unfold maxLen; omega)
  have htn := fun W => refname20_any tn W (by unfold maxLen; omega)
  unfold opV opC strV at *
  clear hv
  rw [hn] at hnm
  replace hnm := Lib.hid hnm
  clear htn
  by_cases hp : pos20 L nm < L.length
  · rw [find_yes hp] at hfd
    have hD := data_pos L nm hp
    obtain ⟨b, off, c2, _, _, ev, hc⟩ := hv1.out.some (by intro e; rw [e] at hp; simp at hp)
    injection ev with e1 e2 e3
    subst e1 e3
    obtain ⟨_, g0⟩ := hc (pos20 L nm) hp
    rw [show L.getD (pos20 L nm) ([], []) = L[pos20 L nm] by simp [List.getD, hp], ← hD] at g0
    have hkL : (pos20 L nm : Int) < L.length := by omega
    have hk0 : (0 : Int) ≤ pos20 L nm := by omega
    have hk1 : ¬ ((pos20 L nm : Int) < 0) := by omega
    unfold strV at g0
    have hdl2 : (data20 L nm).length ≤ 9223372036854775807 := hdl.1
    obtain ⟨k, hk⟩ : ∃ k, pos20 L nm = k := ⟨_, rfl⟩
    obtain ⟨D, hDD⟩ : ∃ D, data20 L nm = D := ⟨_, rfl⟩
    have hpk : decide (pos20 L nm < L.length) = true := decide_eq_true hp
    rw [hk] at hfd g0 hkL hk0 hk1
    rw [hDD] at g0 hdl2
    replace hfd := Lib.hid hfd
    replace hpk := Lib.hid hpk
    replace hDD := Lib.hid hDD
    clear hc hD e2 hp hk hdl
    by_cases r1 : 1048576 < dt.length
    · skip
      have hres : may20 L ⟨1, nm, tn, dt, sz⟩ = 8 := by
        rw [may_eq hn hpk.out]; simp [r1]
      replace hres := Lib.hid hres
      have r2 : decide ((1048576 : Int) < dt.length) = true := decide_eq_true (by omega)
      go_enter Try.func30, Try.ntmps30
      go_wp2_with fail
      refine hfd.out.mono ?_; rintro e w1 ⟨rfl, rfl⟩
      go_wp2_with fail
      refine (hnm.out _).mono ?_; rintro e w1 ⟨rfl, rfl⟩
      go_wp2_with fail
      go_quiet (fail)
      go_wp2_with fail
      go_quiet (fail)
      go_wp2_with fail
      go_ret
      exact ⟨ret_int hres.out.symm, hbx.out.trans (((drawn_drewN _ _).trans (drawn_drewN _ _)).below _)⟩
    by_cases r3 : 1048576 < D.length + dt.length
    · skip
      have hres : may20 L ⟨1, nm, tn, dt, sz⟩ = 8 := by
        rw [may_eq hn hpk.out, hDD.out]; simp [r1, r3]
      replace hres := Lib.hid hres
      have r2 : decide ((1048576 : Int) < dt.length) = false := decide_eq_false (by omega)
      have r4 : decide ((1048576 : Int) - dt.length < D.length) = true := decide_eq_true (by omega)
      go_enter Try.func30, Try.ntmps30
      go_wp2_with fail
      refine hfd.out.mono ?_; rintro e w1 ⟨rfl, rfl⟩
      go_wp2_with fail
      refine (hnm.out _).mono ?_; rintro e w1 ⟨rfl, rfl⟩
      go_wp2_with fail
      go_quiet (fail)
      go_wp2_with fail
      go_quiet (fail)
      go_wp2_with fail
      go_ret
      exact ⟨ret_int hres.out.symm, hbx.out.trans (((drawn_drewN _ _).trans (drawn_drewN _ _)).below _)⟩
    have hres : may20 L ⟨1, nm, tn, dt, sz⟩ = 0 := by
      rw [may_eq hn hpk.out, hDD.out]; simp [r1, r3]
    replace hres := Lib.hid hres
    have r2 : decide ((1048576 : Int) < dt.length) = false := decide_eq_false (by omega)
    have r4 : decide ((1048576 : Int) - dt.length < D.length) = false := decide_eq_false (by omega)
    go_enter Try.func30, Try.ntmps30
    go_wp2_with fail
    refine hfd.out.mono ?_; rintro e w1 ⟨rfl, rfl⟩
    go_wp2_with fail
    refine (hnm.out _).mono ?_; rintro e w1 ⟨rfl, rfl⟩
    go_wp2_with fail
    go_quiet (fail)
    go_wp2_with fail
    go_quiet (fail)
    go_wp2_with fail
    go_ret
    exact ⟨ret_int hres.out.symm, hbx.out.trans (((drawn_drewN _ _).trans (drawn_drewN _ _)).below _)⟩
  · rw [find_no hp] at hfd
    have hpk : decide (pos20 L nm < L.length) = false := decide_eq_false hp
    have hk1 : (-1 : Int) < 0 := by omega
    have hk0 : ¬ (0 : Int) ≤ -1 := by omega
    replace hfd := Lib.hid hfd
    replace hpk := Lib.hid hpk
    clear hp
    by_cases r1 : 8 ≤ L.length
    · skip
      have hres : may20 L ⟨1, nm, tn, dt, sz⟩ = 11 := by
        rw [may_eq hn hpk.out]; simp [r1]
      replace hres := Lib.hid hres
      have r2 : (8 : Int) ≤ L.length := by omega
      go_enter Try.func30, Try.ntmps30
      go_wp2_with fail
      refine hfd.out.mono ?_; rintro e w1 ⟨rfl, rfl⟩
      go_wp2_with fail
      refine (hnm.out _).mono ?_; rintro e w1 ⟨rfl, rfl⟩
      go_wp2_with fail
      go_quiet (fail)
      go_wp2_with fail
      go_ret
      exact ⟨ret_int hres.out.symm, hbx.out.trans ((drawn_drewN _ _).below _)⟩
    have r2 : ¬ (8 : Int) ≤ L.length := by omega
    by_cases r3 : 1048576 < dt.length
    · skip
      have hres : may20 L ⟨1, nm, tn, dt, sz⟩ = 8 := by
        rw [may_eq hn hpk.out]; simp [r1, r3]
      replace hres := Lib.hid hres
      have r4 : decide ((1048576 : Int) < dt.length) = true := decide_eq_true (by omega)
      go_enter Try.func30, Try.ntmps30
      go_wp2_with fail
      refine hfd.out.mono ?_; rintro e w1 ⟨rfl, rfl⟩
      go_wp2_with fail
      refine (hnm.out _).mono ?_; rintro e w1 ⟨rfl, rfl⟩
      go_wp2_with fail
      go_quiet (fail)
      go_wp2_with fail
      go_quiet (fail)
      go_wp2_with fail
      go_ret
      exact ⟨ret_int hres.out.symm, hbx.out.trans (((drawn_drewN _ _).trans (drawn_drewN _ _)).below _)⟩
    have hres : may20 L ⟨1, nm, tn, dt, sz⟩ = 0 := by
      rw [may_eq hn hpk.out]; simp [r1, r3]
    replace hres := Lib.hid hres
    have r4 : decide ((1048576 : Int) < dt.length) = false := decide_eq_false (by omega)
    go_enter Try.func30, Try.ntmps30
    go_wp2_with fail
    refine hfd.out.mono ?_; rintro e w1 ⟨rfl, rfl⟩
    go_wp2_with fail
    refine (hnm.out _).mono ?_; rintro e w1 ⟨rfl, rfl⟩
    go_wp2_with fail
    go_quiet (fail)
    go_wp2_with fail
    go_quiet (fail)
    go_wp2_with fail
    go_ret
    exact ⟨ret_int hres.out.symm, hbx.out.trans (((drawn_drewN _ _).trans (drawn_drewN _ _)).below _)⟩
end Go.Proofs.Ytahndjgamoojkaa
