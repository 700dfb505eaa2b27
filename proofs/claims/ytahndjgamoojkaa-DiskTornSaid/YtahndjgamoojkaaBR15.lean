/- The walk of the reference's Right of layer 20. -/
import Derived.Test.YtahndjgamoojkaaBR14
namespace Go.Proofs.Ytahndjgamoojkaa
open Go.RowKit

/-- What bounds a disk's texts and numbers, as Go's types do. -/
def DkBd (d : Dk20) : Prop := d.files.length ≤ 9223372036854775807 ∧ d.loose.length ≤ 9223372036854775807 ∧ (∀ f ∈ d.files, f.1.length ≤ 9223372036854775807 ∧ f.2.length ≤ 9223372036854775807) ∧
  ∀ o ∈ d.loose, o.name.length ≤ 9223372036854775807 ∧ o.to.length ≤ 9223372036854775807 ∧ o.data.length ≤ 90000000 ∧ -9223372036854775808 ≤ o.size ∧ o.size ≤ 9223372036854775807
set_option maxHeartbeats 2000000 in
set_option maxRecDepth 100000 in
theorem refright20_any (d : Dk20) (val : Value) (w : World) (hd : DkV w val d) (hbd : DkBd d) :
    Calls Try.prog 17 #[val] w fun e w' => e = .returned (.bool (right20 d.files d.loose)) ∧ Below w.heap.size w w' := by
  obtain ⟨fv, lv, rfl, hf, hl⟩ := hd
  obtain ⟨L, os, fuse, down⟩ := d
  obtain ⟨hb1, hb2, hb3, hb4⟩ := hbd
  simp only at hf hl hb1 hb2 hb3 hb4 ⊢
  obtain ⟨af, cf, rfl⟩ := hf.form
  obtain ⟨al, cl, rfl⟩ := hl.form
  have hbx := Lib.hid ((Below.refl w.heap.size w).alloc (Nat.le_refl _) (.cells (dkC (.slice af L.length cf) (.slice al os.length cl) ⟨L, os, fuse, down⟩).toArray 25))
  have hbox := arrAt_new w 25 (dkC (.slice af L.length cf) (.slice al os.length cl) ⟨L, os, fuse, down⟩)
  replace hf := Lib.hid hf
  replace hl := Lib.hid hl
  unfold dkC at *
  simp only at *
  by_cases h8 : 8 < L.length
  · have hno : Hid (right20 L os = false) := Lib.hid (right_no1 fun h => by have := h.few; omega)
    have g1 : (8 : Int) < L.length := by omega
    clear hbox
    go_enter Try.func17, Try.ntmps17
    go_wp2_with fail
    go_ret
    exact ⟨ret_bool hno.out.symm, hbx.out⟩
  have g1 : ¬ (8 : Int) < L.length := by omega
  by_cases h4 : 4096 < os.length
  · have hno : Hid (right20 L os = false) := by
      refine Lib.hid ?_
      unfold right20
      rw [decide_eq_false (show ¬ os.length ≤ 4096 by omega), Bool.false_and, Bool.false_and]
    have g2 : (4096 : Int) < os.length := by omega
    clear hbox
    go_enter Try.func17, Try.ntmps17
    go_wp2_with fail
    go_ret
    exact ⟨ret_bool hno.out.symm, hbx.out⟩
  have g2 : ¬ (4096 : Int) < os.length := by omega
  have q0 := hbox.cell 0
  have q1 := hbox.cell 1
  simp only [List.getElem?_cons_zero, List.getElem?_cons_succ] at q0 q1
  have hlt := hbox.lt
  obtain ⟨W, hW⟩ : ∃ W, w.alloc (.cells [(.slice af L.length cf), .slice al os.length cl, .int .i64 fuse, .bool down].toArray 25) = W := ⟨_, rfl⟩
  rw [hW] at q0 q1 hlt hbx
  have hfW := Lib.hid (hf.out.next hbx.out)
  have hlW := Lib.hid (hl.out.next hbx.out)
  clear hbox hf hl
  go_enter Try.func17, Try.ntmps17
  go_wp2_with fail
  clear hW
  go_loopw [3] (fun i wr => ∃ k : Nat, i = .int .i64 k ∧ k ≤ L.length ∧ Hid (FinTo L k) ∧ Drawn W wr) (fun i _ => L.length - (intOf i).toNat)
  case atStart => exact ⟨0, rfl, Nat.zero_le _, Lib.hid (fun j h hj => absurd hj (by omega)), Drawn.refl _⟩
  case round =>
    obtain ⟨i, rfl, hi, hfin, hdr⟩ := hrel
    have q0r := ((hdr.below W.heap.size).cell (p := ⟨w.heap.size, 0, none⟩) hlt).trans q0
    have q1r := ((hdr.below W.heap.size).cell (p := ⟨w.heap.size, 1, none⟩) hlt).trans q1
    have hfr := Lib.hid (hfW.out.drawn hdr)
    have hbr := Lib.hid (hbx.out.trans (hdr.below _))
    by_cases hlt2 : i < L.length
    · have h0 : L ≠ [] := by intro e; rw [e] at hlt2; simp at hlt2
      obtain ⟨b, off, cc, _, _, e, hc⟩ := hfr.out.some h0
      injection e with e1 e2 e3
      subst e1 e3
      obtain ⟨c0, c1⟩ := hc i hlt2
      have eg : ∀ j (h : j < L.length), L.getD j ([], []) = L[j] := fun j h => by simp [List.getD, h]
      rw [eg i hlt2] at c0 c1
      obtain ⟨m1, m2⟩ := hb3 _ (List.getElem_mem hlt2)
      have hnm := fun W => refname20_any (L[i]'hlt2).1 W m1
      have hiL : (i : Int) < L.length := by omega
      unfold strV at c0 c1
      cases hn : name20 (L[i]'hlt2).1 with
      | false =>
        have hno : Hid (right20 L os = false) := Lib.hid (right_no1 fun h => by have := h.name _ (List.getElem_mem hlt2); rw [hn] at this; cases this)
        rw [hn] at hnm
        replace hnm := Lib.hid hnm
        clear hn hb3 hb4 hfin eg hc h0 q0 q1 hdr
        generalize (L[i]'hlt2).1 = x at *
        generalize (L[i]'hlt2).2 = y at *
        go_wp2_with fail
        go_quiet ((go_at_call 19; exact Calls.drawn_at (hnm.out _)))
        go_wp2_with fail
        go_ret
        exact ⟨ret_bool hno.out.symm, hbr.out.trans ((drawn_drewN _ _).below _)⟩
      | true =>
        rw [hn] at hnm
        replace hnm := Lib.hid hnm
        by_cases hm : (1048576 : Int) < (L[i]'hlt2).2.length
        · have hno : Hid (right20 L os = false) := Lib.hid (right_no1 fun h => by have := h.room _ (List.getElem_mem hlt2); omega)
          have hmd : decide ((1048576 : Int) < (L[i]'hlt2).2.length) = true := decide_eq_true hm
          clear hn hb3 hb4 hfin eg hc h0 q0 q1 hdr hm
          generalize (L[i]'hlt2).1 = x at *
          generalize (L[i]'hlt2).2 = y at *
          go_wp2_with fail
          go_quiet ((go_at_call 19; exact Calls.drawn_at (hnm.out _)))
          go_wp2_with fail
          go_ret
          exact ⟨ret_bool hno.out.symm, hbr.out.trans ((drawn_drewN _ _).below _)⟩
        · have hmd : decide ((1048576 : Int) < (L[i]'hlt2).2.length) = false := decide_eq_false hm
          have hmd2 : decide (1048576 < (L[i]'hlt2).2.length) = false := decide_eq_false (by omega)
          by_cases hi0 : i = 0
          · have hnx : Hid (FinTo L (i + 1)) := Lib.hid (fin_next hfin.out hlt2 hn (by omega) (fun h => absurd h (by omega)))
            have hip : decide ((0 : Int) < i) = false := decide_eq_false (by omega)
            have hip2 : decide (0 < i) = false := decide_eq_false (by omega)
            clear hn hb3 hb4 hfin eg hc h0 q0 q1 hm
            generalize (L[i]'hlt2).1 = x at *
            generalize (L[i]'hlt2).2 = y at *
            replace hdr := Lib.hid hdr
            replace hi0 := Lib.hid hi0
            go_wp2_with fail
            go_quiet ((go_at_call 19; exact Calls.drawn_at (hnm.out _)))
            go_wp2_with fail
            exact ⟨⟨i + 1, by go_num, by omega, hnx, hdr.out.trans ⟨_, rfl⟩⟩, by simp [intOf]; omega⟩
          · have hip : decide ((0 : Int) < i) = true := decide_eq_true (by omega)
            have hip2 : decide (0 < i) = true := decide_eq_true (by omega)
            obtain ⟨p0, _⟩ := hc (i - 1) (by omega)
            rw [eg (i - 1) (by omega)] at p0
            obtain ⟨z, hz⟩ : ∃ z, z + 1 = i := ⟨i - 1, by omega⟩
            have hzi : (i : Int) - 1 = z := by omega
            have hz0 : (0 : Int) ≤ z := by omega
            have hz1 : (z : Int) < L.length := by omega
            have ez : i - 1 = z := by omega
            have hls := less_list (L[i - 1]'(by omega)).1 (L[i]'hlt2).1
            unfold strV at p0
            by_cases hlt3 : (L[i - 1]'(by omega)).1 < (L[i]'hlt2).1
            · have hnx : Hid (FinTo L (i + 1)) := Lib.hid (fin_next hfin.out hlt2 hn (by omega) (fun _ => hlt3))
              rw [decide_eq_true hlt3] at hls
              generalize (L[i - 1]'(by omega)).1 = xp at p0 hls
              rw [ez] at p0
              clear hn hb3 hb4 hfin eg hc h0 q0 q1 hm hlt3 ez
              generalize (L[i]'hlt2).1 = x at *
              generalize (L[i]'hlt2).2 = y at *
              replace hdr := Lib.hid hdr
              replace hz := Lib.hid hz
              replace hi0 := Lib.hid hi0
              go_wp2_with fail
              go_quiet ((go_at_call 19; exact Calls.drawn_at (hnm.out _)))
              go_wp2_with fail
              exact ⟨⟨i + 1, by go_num, by omega, hnx, hdr.out.trans ⟨_, rfl⟩⟩, by simp [intOf]; omega⟩
            · have hno : Hid (right20 L os = false) := Lib.hid (right_no1 fun h => hlt3 (rise_at h.rise hlt2 (by omega)))
              rw [decide_eq_false hlt3] at hls
              generalize (L[i - 1]'(by omega)).1 = xp at p0 hls
              rw [ez] at p0
              clear hn hb3 hb4 hfin eg hc h0 q0 q1 hm hlt3 ez
              generalize (L[i]'hlt2).1 = x at *
              generalize (L[i]'hlt2).2 = y at *
              replace hdr := Lib.hid hdr
              replace hz := Lib.hid hz
              replace hi0 := Lib.hid hi0
              go_wp2_with fail
              go_quiet ((go_at_call 19; exact Calls.drawn_at (hnm.out _)))
              go_wp2_with fail
              go_ret
              exact ⟨ret_bool hno.out.symm, hbr.out.trans ((drawn_drewN _ _).below _)⟩
    · have hval : Hid (Val20 L) := Lib.hid (fin_val (by have := hfin.out; rwa [show i = L.length by omega] at this) (by omega))
      have hke : ¬ ((i : Int) < L.length) := by omega
      have hd4 : decide (os.length ≤ 4096) = true := decide_eq_true (by omega)
      have hlr := Lib.hid (hlW.out.drawn hdr)
      have hltr : w.heap.size < wr.heap.size := Nat.lt_of_lt_of_le hlt (hdr.below 0).size
      have hst : Hid (AtSl wr (.slice af L.length cf) L) := Lib.hid hfr.out
      clear hfin hb3 hfW hlW hbx q0 q1 hdr
      go_wp2_with fail
      go_loopw [4, 5] (fun v i wq => ∃ (k : Nat) (a : Option Addr) (n c : Nat), v = .slice a n c ∧ i = .int .i64 k ∧ k ≤ os.length ∧ Hid (n = (all20 L (os.take k)).length) ∧ Hid (AtSl wq (.slice a n c) (all20 L (os.take k))) ∧ Hid (mays20 L (os.take k) = true) ∧ Hid (Val20 (all20 L (os.take k))) ∧ Hid (Below wr.heap.size wr wq)) (fun _ i _ => os.length - (intOf i).toNat)
      case atStart => exact ⟨0, af, L.length, cf, rfl, rfl, Nat.zero_le _, Lib.hid rfl, hst, Lib.hid rfl, hval, Lib.hid (Below.refl _ _)⟩
      case round =>
        obtain ⟨k, a, n, c, rfl, rfl, hk, hn, hv, hma, hvl, hbq⟩ := hrel
        clear hst
        have q0q := (hbq.out.cell (p := ⟨w.heap.size, 0, none⟩) hltr).trans q0r
        have q1q := (hbq.out.cell (p := ⟨w.heap.size, 1, none⟩) hltr).trans q1r
        have hbb := Lib.hid (hbr.out.trans (hbq.out.mono (Nat.le_of_lt hltr)))
        by_cases hlt2 : k < os.length
        · have h0 : os ≠ [] := by intro e; rw [e] at hlt2; simp at hlt2
          obtain ⟨b, off, cc, _, hblt, e, hc⟩ := hlr.out.some opC_len (by decide) h0
          injection e with e1 e2 e3
          subst e1 e3
          have hkO : (k : Int) < os.length := by omega
          have c0 := (hbq.out.cell (p := ⟨b, off + k * 5 + 0, none⟩) hblt).trans (hc k hlt2 0 _ (by decide) rfl)
          have c1 := (hbq.out.cell (p := ⟨b, off + k * 5 + 1, none⟩) hblt).trans (hc k hlt2 1 _ (by decide) rfl)
          have c2 := (hbq.out.cell (p := ⟨b, off + k * 5 + 2, none⟩) hblt).trans (hc k hlt2 2 _ (by decide) rfl)
          have c3 := (hbq.out.cell (p := ⟨b, off + k * 5 + 3, none⟩) hblt).trans (hc k hlt2 3 _ (by decide) rfl)
          have c4 := (hbq.out.cell (p := ⟨b, off + k * 5 + 4, none⟩) hblt).trans (hc k hlt2 4 _ (by decide) rfl)
          rw [Nat.add_zero] at c0
          obtain ⟨m1, m2, m3, m4, m5⟩ := hb4 _ (List.getElem_mem hlt2)
          have hmn := @mays_next L os k hlt2
          have han := @all_next L os k hlt2
          have hmno := @mays_no L os k hlt2
          rw [hma.out, Bool.true_and] at hmn
          generalize os[k]'hlt2 = o at c0 c1 c2 c3 c4 m1 m2 m3 m4 m5 hmn han hmno
          obtain ⟨Lk, hLk⟩ : ∃ Lk, all20 L (os.take k) = Lk := ⟨_, rfl⟩
          rw [hLk] at hmn han hmno hn hv hvl
          have hdat := hvl.out.data o.name
          have hfew := hvl.out.few
          have hmay := refmay20_any Lk o (.slice a n c) wr hv.out (by omega) ⟨by omega, by omega, m1, m2⟩ ⟨m4, m5⟩
          unfold opV opC strV at hmay
          unfold strV at c1 c2 c3
          by_cases hm : may20 Lk o = 0
          · obtain ⟨r1, r2⟩ := may_ok hm
            rw [decide_eq_true hm] at hmn
            have hvn := hvl.out.done hm
            have hdn := Lib.hid (fun W v hW => refdone20_any Lk o v W hW (by omega) (by omega) r1 r2)
            rw [← han] at hvn
            have hdn2 : Hid (∀ W v, AtSl W v Lk → Calls Try.prog 37 #[v, .agg #[.int .i64 o.kind, .string ⟨o.name.toArray⟩, .string ⟨o.to.toArray⟩, .string ⟨o.data.toArray⟩, .int .i64 o.size]] W (FilesPost W (all20 L (os.take (k + 1))))) := by
              refine Lib.hid fun W v hW => ?_
              rw [han]
              exact hdn.out W v hW
            rw [hm] at hmay
            replace hmay := Lib.hid hmay
            replace hmn := Lib.hid hmn
            replace hvn := Lib.hid hvn
            clear hdn r1 r2 hm han hmno hma hvl hc h0 hLk
            go_wp2_with fail
            refine hmay.out.mono ?_; rintro e w4 ⟨rfl, hb4q⟩
            have hv4 := Lib.hid (hv.out.next hb4q)
            have c0r := (hb4q.cell (p := ⟨b, off + k * 5, none⟩) (World.block_lt_of_cell? wr _ c0)).trans c0
            have c1r := (hb4q.cell (p := ⟨b, off + k * 5 + 1, none⟩) (World.block_lt_of_cell? wr _ c1)).trans c1
            have c2r := (hb4q.cell (p := ⟨b, off + k * 5 + 2, none⟩) (World.block_lt_of_cell? wr _ c2)).trans c2
            have c3r := (hb4q.cell (p := ⟨b, off + k * 5 + 3, none⟩) (World.block_lt_of_cell? wr _ c3)).trans c3
            have c4r := (hb4q.cell (p := ⟨b, off + k * 5 + 4, none⟩) (World.block_lt_of_cell? wr _ c4)).trans c4
            have q1z := (hb4q.cell (p := ⟨w.heap.size, 1, none⟩) (World.block_lt_of_cell? wr _ q1q)).trans q1q
            replace hbq := Lib.hid (hbq.out.andThen hb4q)
            clear hb4q hmay hv
            go_wp2_with fail
            refine (hdn2.out _ _ hv4.out).mono ?_; rintro e w5 ⟨v5, rfl, ho5, hb5⟩
            obtain ⟨a5, c5, rfl⟩ := own_form ho5
            replace hbq := Lib.hid (hbq.out.andThen hb5)
            replace ho5 := Lib.hid ho5
            clear hb5
            go_wp2_with fail
            exact ⟨⟨k + 1, a5, _, c5, rfl, by go_num, by omega, Lib.hid rfl, Lib.hid ho5.out.sl, hmn, hvn, hbq⟩, by simp [intOf]; omega⟩
          · have hno : Hid (right20 L os = false) := by
              refine Lib.hid ?_
              unfold right20
              rw [hmno hm, Bool.and_false]
            generalize may20 Lk o = mm at *
            have hm2 : ¬ mm = 0 := hm
            replace hmay := Lib.hid hmay
            clear hm han hmno hma hvl hc h0 hLk hmn
            go_wp2_with fail
            refine hmay.out.mono ?_; rintro e w4 ⟨rfl, hb4q⟩
            replace hbq := Lib.hid (hbb.out.trans (hb4q.mono (Nat.le_trans hbr.out.size hbq.out.size)))
            clear hb4q hmay hv
            go_wp2_with fail
            go_ret
            exact ⟨ret_bool hno.out.symm, hbq.out⟩
        · have hke2 : ¬ ((k : Int) < os.length) := by omega
          have hyes : Hid (right20 L os = true) := by
            refine Lib.hid ?_
            have h1 := hma.out
            rw [List.take_of_length_le (by omega)] at h1
            exact right_of hval.out h1 (by omega)
          clear hma hvl hv hn
          go_wp2_with fail
          go_ret
          exact ⟨ret_bool hyes.out.symm, hbb.out⟩
end Go.Proofs.Ytahndjgamoojkaa

/- The walk of the reference's Files of layer 20. -/
namespace Go.Proofs.Ytahndjgamoojkaa
open Go.RowKit

theorem mays_take : ∀ {os : List Op20} {L : List Fl20} {k : Nat}, mays20 L os = true → mays20 L (os.take k) = true := by
  intro os L k h
  have e : os = os.take k ++ os.drop k := (List.take_append_drop _ _).symm
  rw [e, mays_app, Bool.and_eq_true] at h
  exact h.1
theorem mays_at {os : List Op20} {L : List Fl20} {k : Nat} (h : mays20 L os = true) (hk : k < os.length) : may20 (all20 L (os.take k)) (os[k]'hk) = 0 := by
  have := mays_take (k := k + 1) h
  rw [mays_next hk, Bool.and_eq_true, decide_eq_true_eq] at this
  exact this.2
set_option maxHeartbeats 2000000 in
set_option maxRecDepth 100000 in
theorem reffiles20_any (d : Dk20) (val : Value) (w : World) (hd : DkV w val d) (hbd : DkBd d) (hr : right20 d.files d.loose = true) :
    Calls Try.prog 24 #[val] w (FilesPost w (all20 d.files d.loose)) := by
  obtain ⟨fv, lv, rfl, hf, hl⟩ := hd
  obtain ⟨L, os, fuse, down⟩ := d
  obtain ⟨hb1, hb2, hb3, hb4⟩ := hbd
  simp only at hf hl hb1 hb2 hb3 hb4 hr ⊢
  obtain ⟨hval, hmays, hos⟩ := right_val hr
  have hfew := hval.few
  obtain ⟨af, cf, rfl⟩ := hf.form
  obtain ⟨al, cl, rfl⟩ := hl.form
  have hbx := Lib.hid ((Below.refl w.heap.size w).alloc (Nat.le_refl _) (.cells (dkC (.slice af L.length cf) (.slice al os.length cl) ⟨L, os, fuse, down⟩).toArray 25))
  have hbox := arrAt_new w 25 (dkC (.slice af L.length cf) (.slice al os.length cl) ⟨L, os, fuse, down⟩)
  replace hf := Lib.hid hf
  replace hl := Lib.hid hl
  unfold dkC at *
  simp only at *
  have q0 := hbox.cell 0
  have q1 := hbox.cell 1
  simp only [List.getElem?_cons_zero, List.getElem?_cons_succ] at q0 q1
  have hlt := hbox.lt
  obtain ⟨W, hW⟩ : ∃ W, w.alloc (.cells [(.slice af L.length cf), .slice al os.length cl, .int .i64 fuse, .bool down].toArray 25) = W := ⟨_, rfl⟩
  rw [hW] at q0 q1 hlt hbx
  have hpt := (AtSl.next (hf.out.next hbx.out) ((Below.refl W.heap.size W).alloc (Nat.le_refl _) (.cells #[] 47))).part
  have hem := ownsRow_empty W 47 2
  have hsz : W.heap.size ≤ (W.alloc (.cells #[] 47)).heap.size := by simp
  have hlW := Lib.hid (hl.out.next hbx.out)
  replace hpt := Lib.hid hpt
  replace hem := Lib.hid hem
  replace hval := Lib.hid hval
  replace hmays := Lib.hid hmays
  clear hbox hf hl hr
  go_enter Try.func24, Try.ntmps24
  go_wp2_with (at_builtin; go_must (refine wpList_append_part rfl _ _ 22 rfl W.heap.size 47 (.agg #[.string ⟨#[]⟩, .string ⟨#[]⟩]) 2 32 Try.underlying22 info_file rfl (by decide) _ 0 [] rfl hem.out af L.length cf (cellsA L) rfl (cellsA_len L) hpt.out (cellsA_one' L) L.length (Nat.zero_add _) (by unfold maxLen; omega) (by omega) hsz ?_))
  clear hW
  intro a' c' w1 ho1 hb1 _ _
  replace hb1 := Lib.hid (((Below.refl W.heap.size W).alloc (Nat.le_refl _) (.cells #[] 47)).trans hb1.out)
  replace ho1 : Hid (Fls w1 W.heap.size (.slice a' L.length c') L) := Lib.hid ho1.out
  have q1r := (hb1.out.cell (p := ⟨w.heap.size, 1, none⟩) hlt).trans q1
  have hlt1 : w.heap.size < w1.heap.size := Nat.lt_of_lt_of_le hlt hb1.out.size
  have hl1 := Lib.hid (hlW.out.next hb1.out)
  have hbw := Lib.hid (hbx.out.trans (hb1.out.mono (Nat.le_of_lt hlt)))
  have hst : Hid (Fls w1 w.heap.size (.slice a' L.length c') L) := Lib.hid (ownsRow_mono ho1.out (Nat.le_of_lt hlt))
  clear hpt hem hsz hlW q0 q1 ho1 hb1
  go_wp2_with fail
  go_loopw [3, 4] (fun v i wr => ∃ (k : Nat) (a : Option Addr) (n c : Nat), v = .slice a n c ∧ i = .int .i64 k ∧ k ≤ os.length ∧ Hid (n = (all20 L (os.take k)).length) ∧ Hid (Fls wr w.heap.size (.slice a n c) (all20 L (os.take k))) ∧ Hid (Below w1.heap.size w1 wr)) (fun _ i _ => os.length - (intOf i).toNat)
  case atStart => exact ⟨0, a', L.length, c', rfl, rfl, Nat.zero_le _, Lib.hid rfl, hst, Lib.hid (Below.refl _ _)⟩
  case round =>
    obtain ⟨k, a, n, c, rfl, rfl, hk, hn, hv, hbq⟩ := hrel
    clear hst
    have q1q := (hbq.out.cell (p := ⟨w.heap.size, 1, none⟩) hlt1).trans q1r
    have hbb := Lib.hid (hbw.out.trans (hbq.out.mono (Nat.le_of_lt hlt1)))
    by_cases hlt2 : k < os.length
    · have h0 : os ≠ [] := by intro e; rw [e] at hlt2; simp at hlt2
      obtain ⟨b, off, cc, _, hblt, e, hc⟩ := hl1.out.some opC_len (by decide) h0
      injection e with e1 e2 e3
      subst e1 e3
      have hkO : (k : Int) < os.length := by omega
      have c0 := (hbq.out.cell (p := ⟨b, off + k * 5 + 0, none⟩) hblt).trans (hc k hlt2 0 _ (by decide) rfl)
      have c1 := (hbq.out.cell (p := ⟨b, off + k * 5 + 1, none⟩) hblt).trans (hc k hlt2 1 _ (by decide) rfl)
      have c2 := (hbq.out.cell (p := ⟨b, off + k * 5 + 2, none⟩) hblt).trans (hc k hlt2 2 _ (by decide) rfl)
      have c3 := (hbq.out.cell (p := ⟨b, off + k * 5 + 3, none⟩) hblt).trans (hc k hlt2 3 _ (by decide) rfl)
      have c4 := (hbq.out.cell (p := ⟨b, off + k * 5 + 4, none⟩) hblt).trans (hc k hlt2 4 _ (by decide) rfl)
      rw [Nat.add_zero] at c0
      obtain ⟨m1, m2, m3, m4, m5⟩ := hb4 _ (List.getElem_mem hlt2)
      have hm := mays_at hmays.out hlt2
      have han := @all_next L os k hlt2
      have hvl := hval.out.all (mays_take (k := k) hmays.out)
      generalize os[k]'hlt2 = o at c0 c1 c2 c3 c4 m1 m2 m3 m4 m5 hm han
      obtain ⟨Lk, hLk⟩ : ∃ Lk, all20 L (os.take k) = Lk := ⟨_, rfl⟩
      rw [hLk] at han hn hv hvl hm
      have hdat := hvl.data o.name
      have hfew := hvl.few
      unfold strV at c1 c2 c3
      obtain ⟨r1, r2⟩ := may_ok hm
      have hdn := Lib.hid (fun W v hW => refdone20_any Lk o v W hW (by omega) (by omega) r1 r2)
      have hdn2 : Hid (∀ W v, AtSl W v Lk → Calls Try.prog 37 #[v, .agg #[.int .i64 o.kind, .string ⟨o.name.toArray⟩, .string ⟨o.to.toArray⟩, .string ⟨o.data.toArray⟩, .int .i64 o.size]] W (FilesPost W (all20 L (os.take (k + 1))))) := by
        refine Lib.hid fun W v hW => ?_
        rw [han]
        exact hdn.out W v hW
      have hvsl := Lib.hid hv.out.sl
      clear hdn r1 r2 hm han hc h0 hLk hvl
      go_wp2_with fail
      refine (hdn2.out _ _ hvsl.out).mono ?_; rintro e w5 ⟨v5, rfl, ho5, hb5⟩
      obtain ⟨a5, c5, rfl⟩ := own_form ho5
      replace ho5 : Hid (Fls w5 w.heap.size _ _) := Lib.hid (ownsRow_mono ho5 hbb.out.size)
      replace hbq := Lib.hid (hbq.out.andThen hb5)
      clear hb5
      go_wp2_with fail
      exact ⟨⟨k + 1, a5, _, c5, rfl, by go_num, by omega, Lib.hid rfl, ho5, hbq⟩, by simp [intOf]; omega⟩
    · have hke2 : ¬ ((k : Int) < os.length) := by omega
      have hv2 := hv.out
      rw [List.take_of_length_le (by omega)] at hv2
      replace hv2 := Lib.hid hv2
      clear hv hn
      go_wp2_with fail
      go_ret
      exact ⟨_, rfl, hv2.out, hbb.out⟩
end Go.Proofs.Ytahndjgamoojkaa
