/- The walk of disk.done of layer 20. -/
import Derived.Test.YtahndjgamoojkaaBR31
import Derived.Test.YtahndjgamoojkaaBR32
import Derived.Test.YtahndjgamoojkaaBR15
namespace Go.Proofs.Ytahndjgamoojkaa
open Go.RowKit

theorem info_dr : (Try.prog.info? 64).map (fun i => (i.zero, i.size, i.bytes)) = some (some (.agg #[.string ⟨#[]⟩, .slice none 0 0, .int .i64 0]), 3, 48) := by kernel_rfl
/-- A draft more, appended. -/
theorem DrAt.snoc {W w' : World} {B : Nat} {v v' : Value} {ds : List Dr20} {y : Dr20} (h : DrAt W B v ds) (hp : PsAt W B (y :: ds)) (hr : w'.ownsRow B 64 3 v' (ds.length + 1) (ds.flatMap drC ++ drC y)) (hg : W.grownBy w' v.ownBlock) : DrAt w' B v' (ds ++ [y]) := by
  have hp2 := hp.row h.row (Turned.of_grown (S := fun b => v.ownBlock = some b) hg fun _ e => e)
  refine ⟨?_, hp2.perm (List.perm_append_singleton y ds).symm⟩
  rw [List.length_append, List.flatMap_append, List.flatMap_cons, List.flatMap_nil, List.append_nil]
  exact hr
/-- What bounds operations. -/
def OpBd (os : List Op20) : Prop := ∀ o ∈ os, o.name.length ≤ 9223372036854775807 ∧ o.to.length ≤ 9223372036854775807 ∧ o.data.length ≤ 90000000 ∧ -9223372036854775808 ≤ o.size ∧ o.size ≤ 9223372036854775807
def DonePost (w : World) (L : List Fl20) (os : List Op20) (e : Ending) (w' : World) : Prop := ∃ v, e = .returned (.tuple #[v, .bool (mays20 L os)]) ∧ (mays20 L os = true → ∃ ds, DrAt w' w.heap.size v ds ∧ fls20 ds = all20 L os ∧ ∀ d ∈ ds, d.ps.length ≤ os.length + 1) ∧ (mays20 L os = false → v = .slice none 0 0) ∧ Below w.heap.size w w'
set_option maxHeartbeats 4000000 in
set_option maxRecDepth 100000 in
theorem dskdone20_any (L : List Fl20) (os : List Op20) (fv ov : Value) (w : World) (hf : AtSl w fv L) (ho : OpSl w ov os) (hvl : Val20 L) (hos : os.length ≤ 100000) (hbd : OpBd os) :
    Calls Try.prog 38 #[fv, ov] w (DonePost w L os) := by
  obtain ⟨af, cf, rfl⟩ := hf.form
  obtain ⟨al, cl, rfl⟩ := ho.form
  have hL8 := hvl.few
  have hst : Hid (DrAt w w.heap.size (.slice none 0 0) []) := Lib.hid (drAt_nil _ _)
  replace hf := Lib.hid hf
  replace ho := Lib.hid ho
  replace hvl := Lib.hid hvl
  replace hbd := Lib.hid hbd
  go_enter Try.func38, Try.ntmps38
  go_wp2_with fail
  go_loopw [6, 13] (fun s i wr => ∃ (k : Nat) (a' : Option Addr) (c' : Nat) (ds : List Dr20), s = .slice a' k c' ∧ i = .int .i64 k ∧ k ≤ L.length ∧ Hid (DrAt wr w.heap.size (.slice a' k c') ds) ∧ Hid (fls20 ds = L.take k) ∧ Hid (∀ d ∈ ds, d.ps.length ≤ 1) ∧ Hid (Below w.heap.size w wr)) (fun _ i _ => L.length - (intOf i).toNat)
  case atStart => exact ⟨0, none, 0, [], rfl, rfl, Nat.zero_le _, hst, Lib.hid rfl, Lib.hid (by intro _ h; cases h), Lib.hid (Below.refl _ _)⟩
  case round =>
    clear hst
    obtain ⟨k, a', c', ds, rfl, rfl, hk, hdr, hfl, hps, hb⟩ := hrel
    have hszr := hb.out.size
    by_cases hlt : k < L.length
    · obtain ⟨b, off, cc, _, hblt, e, hc⟩ := hf.out.some (by rintro rfl; simp at hlt)
      injection e with e1 e2 e3
      subst e1 e3
      obtain ⟨c0, c1⟩ := hc k hlt
      have eg : L.getD k ([], []) = L[k]'hlt := by simp [List.getD, hlt]
      rw [eg] at c0 c1
      replace c0 := (hb.out.cell (p := ⟨b, off + k * 2, none⟩) hblt).trans c0
      replace c1 := (hb.out.cell (p := ⟨b, off + k * 2 + 1, none⟩) hblt).trans c1
      have hroom := hvl.out.room _ (List.getElem_mem hlt)
      have htk : L.take (k + 1) = L.take k ++ [L[k]'hlt] := List.take_succ_eq_append_getElem hlt
      have hkl : ds.length = k := by have := congrArg List.length hfl.out; rw [fls_len, List.length_take] at this; omega
      clear hc eg e2
      generalize L[k]'hlt = f at c0 c1 hroom htk
      obtain ⟨nm, tx⟩ := f
      unfold strV at c0 c1
      simp only at c0 c1 hroom
      have hkL : (k : Int) < L.length := by omega
      have hmo : Hid (∀ V, w.heap.size ≤ V.heap.size → Calls Try.prog 54 #[.agg #[.string ⟨nm.toArray⟩, .slice none 0 0, .int .i64 0], .string ⟨tx.toArray⟩] V fun e w' => ∃ a4 c4, e = .returned (.agg #[.string ⟨nm.toArray⟩, .slice a4 1 c4, .int .i64 tx.length]) ∧ Strs w' w.heap.size (.slice a4 1 c4) [tx] ∧ Below V.heap.size V w' ∧ ∀ b, (Value.slice a4 1 c4).ownBlock = some b → V.heap.size ≤ b) := by
        refine Lib.hid fun V hV => ?_
        have h := more20_any ⟨nm, [], .slice none 0 0⟩ tx w.heap.size V (World.ownsRow_nil _ _ _ _) hV (show 0 ≤ 1000000 by omega) (by unfold Dr20.text; simp; omega)
        refine h.mono ?_
        rintro e w' ⟨pv, rfl, h1, h2, h3⟩
        obtain ⟨a4, c4, rfl⟩ := own_form h1
        refine ⟨a4, c4, ?_, h1, h2.below (fun i _ e => by cases e) (Nat.le_refl _), fun b hb => ?_⟩
        · unfold drV drC Dr20.text strV
          simp
        · rcases h3 with h3 | h3
          · exact absurd (h3.symm.trans hb) (by intro e; cases e)
          · exact h3 b hb
      replace htk := Lib.hid htk
      replace hkl := Lib.hid hkl
      have hbb := (Below.refl wr.heap.size wr).alloc (Nat.le_refl _) (.cells [Value.string ⟨nm.toArray⟩, .string ⟨tx.toArray⟩].toArray 47)
      have hsb := hbb.size
      have hdb := hdr.out.below hbb
      replace hbb := Lib.hid (hb.out.trans (hbb.mono hszr))
      replace hdb := Lib.hid hdb
      clear hdr hb
      go_wp2_with fail
      refine (hmo.out _ (by omega)).mono ?_; rintro e w4 ⟨a4, c4, rfl, hp4, hb4, hw4⟩
      have hs4 := hb4.size
      have hd4 := hdb.out.below hb4
      have hbw := hbb.out.trans (hb4.mono (by omega))
      have hyc : drC ⟨nm, [tx], .slice a4 1 c4⟩ = [Value.string ⟨nm.toArray⟩, .slice a4 1 c4, .int .i64 tx.length] := by unfold drC Dr20.text strV; simp
      have hpy : PsAt w4 w.heap.size (⟨nm, [tx], .slice a4 1 c4⟩ :: ds) := psAt_cons hd4.pcs hp4 fun b hbk d hd e => by
        have h5 := hw4 b hbk
        have h6 := ((hdb.out.pcs.ins d hd).lt b e).2
        omega
      have hone : ∀ u ∈ [Value.string ⟨nm.toArray⟩, .slice a4 1 c4, .int .i64 tx.length], u.oneCell' = true := by
        intro u hu
        simp at hu
        rcases hu with rfl | rfl | rfl <;> rfl
      have hba := (Below.refl w4.heap.size w4).alloc (Nat.le_refl _) (.cells [Value.string ⟨nm.toArray⟩, .slice a4 1 c4, .int .i64 tx.length].toArray 64)
      have hna := arrAt_new w4 64 [Value.string ⟨nm.toArray⟩, .slice a4 1 c4, .int .i64 tx.length]
      have hd5 := hd4.below hba
      have hp5 := hpy.below hba
      have hrow5 := hd5.row
      rw [hkl.out] at hrow5
      have hbw5 := hbw.trans (hba.mono (by omega))
      replace hbw5 := Lib.hid hbw5
      replace hna := Lib.hid hna
      replace hd5 := Lib.hid hd5
      replace hp5 := Lib.hid hp5
      replace hrow5 := Lib.hid hrow5
      have hsz5 := hba.size
      clear hmo hdb hbb hp4 hw4 hd4 hbw hpy hba hb4
      go_wp2_with (at_builtin; go_must (refine wpList_append_part rfl _ _ 50 rfl w.heap.size 64 (.agg #[.string ⟨#[]⟩, .slice none 0 0, .int .i64 0]) 3 48 Try.underlying50 info_dr rfl (by decide) (.slice a' k c') k (ds.flatMap drC) rfl hrow5.out (some ⟨w4.heap.size, 0, none⟩) 1 1 [Value.string ⟨nm.toArray⟩, .slice a4 1 c4, .int .i64 tx.length] rfl rfl (part_one hna.out) hone (k + 1) rfl (by unfold maxLen; omega) (by omega) (by omega) ?_))
      intro av6 cv6 v6 hov6 hbv6 hgv6 _
      have hd6 : Hid (DrAt v6 w.heap.size (.slice av6 (k + 1) cv6) (ds ++ [⟨nm, [tx], .slice a4 1 c4⟩])) := Lib.hid (hd5.out.snoc hp5.out (by rw [hkl.out, hyc]; exact hov6.out) hgv6.out)
      replace hbw5 := Lib.hid (hbw5.out.trans hbv6.out)
      clear hd5 hp5 hrow5 hna hov6 hbv6 hgv6 hyc
      go_wp2_with fail
      refine ⟨⟨k + 1, av6, cv6, ds ++ [⟨nm, [tx], .slice a4 1 c4⟩], rfl, by go_num, by omega, hd6, ?_, ?_, hbw5⟩, by simp [intOf]; omega⟩
      · refine Lib.hid ?_
        rw [fls_app, htk.out, hfl.out]
        simp [fls20, Dr20.text]
      · refine Lib.hid fun d hd => ?_
        rcases List.mem_append.1 hd with h | h
        · exact hps.out d h
        · rw [List.mem_singleton.1 h]; exact Nat.le_refl _
    · have hke : ¬ ((k : Int) < L.length) := by omega
      obtain rfl : k = L.length := by omega
      have hfl2 := hfl.out
      rw [List.take_of_length_le (Nat.le_refl _)] at hfl2
      have hst2 : Hid (DrAt wr w.heap.size (.slice a' L.length c') ds ∧ fls20 ds = all20 L (os.take 0) ∧ mays20 L (os.take 0) = true ∧ (∀ d ∈ ds, d.ps.length ≤ 0 + 1) ∧ ds.length = L.length) := Lib.hid ⟨hdr.out, hfl2, rfl, hps.out, by have := congrArg List.length hfl2; rw [fls_len] at this; exact this⟩
      clear hfl hfl2 hps hdr hf
      go_wp2_with fail
      go_loopw [6, 29] (fun s i wq => ∃ (k : Nat) (a' : Option Addr) (n c' : Nat) (ds : List Dr20), s = .slice a' n c' ∧ i = .int .i64 k ∧ k ≤ os.length ∧ Hid (DrAt wq w.heap.size (.slice a' n c') ds ∧ fls20 ds = all20 L (os.take k) ∧ mays20 L (os.take k) = true ∧ (∀ d ∈ ds, d.ps.length ≤ k + 1) ∧ ds.length = n) ∧ Hid (Below w.heap.size w wq)) (fun _ i _ => os.length - (intOf i).toNat)
      case atStart => exact ⟨0, a', L.length, c', ds, rfl, rfl, Nat.zero_le _, hst2, hb⟩
      case round =>
        clear hst2 hb ds
        obtain ⟨k, a1, n, cq, ds, rfl, rfl, hk, hst, hbq⟩ := hrel
        have hszq := hbq.out.size
        by_cases hlt : k < os.length
        · obtain ⟨b, off, cc, _, hblt, e, hc⟩ := ho.out.some opC_len (by decide) (by rintro rfl; simp at hlt)
          injection e with e1 e2 e3
          subst e1 e3
          have c0 := (hbq.out.cell (p := ⟨b, off + k * 5 + 0, none⟩) hblt).trans (hc k hlt 0 _ (by decide) rfl)
          have c1 := (hbq.out.cell (p := ⟨b, off + k * 5 + 1, none⟩) hblt).trans (hc k hlt 1 _ (by decide) rfl)
          have c2 := (hbq.out.cell (p := ⟨b, off + k * 5 + 2, none⟩) hblt).trans (hc k hlt 2 _ (by decide) rfl)
          have c3 := (hbq.out.cell (p := ⟨b, off + k * 5 + 3, none⟩) hblt).trans (hc k hlt 3 _ (by decide) rfl)
          have c4 := (hbq.out.cell (p := ⟨b, off + k * 5 + 4, none⟩) hblt).trans (hc k hlt 4 _ (by decide) rfl)
          rw [Nat.add_zero] at c0
          obtain ⟨m1, m2, m3, m4, m5⟩ := hbd.out _ (List.getElem_mem hlt)
          have hno := mays_no (L := L) hlt
          have hmn := mays_next (L := L) hlt
          have han := all_next (L := L) hlt
          obtain ⟨h1, h2, h3, h4, h5⟩ := hst.out
          have hval := hvl.out.all h3
          rw [← h2] at hval hno hmn han
          rw [h3, Bool.true_and] at hmn
          generalize os[k]'hlt = o at c0 c1 c2 c3 c4 m1 m2 m3 m4 m5 hno hmn han
          have hbd2 := (DrBd.of_val hval h4).up (show k + 1 ≤ 1000000 by omega)
          have hfa := fun V (hV : DrAt V w.heap.size (.slice a1 n cq) ds) => dskfault20_any ds o (.slice a1 n cq) w.heap.size V hV hval.rise hbd2 ⟨m3, m1, m2⟩ ⟨m4, m5⟩
          have hsp := fun V (hV : DrAt V w.heap.size (.slice a1 n cq) ds) (hB : w.heap.size ≤ V.heap.size) h0 => step20_any ds o (.slice a1 n cq) w.heap.size (k + 1) V hV hval h4 (by omega) h0 hB
          obtain ⟨m, hm⟩ : ∃ m, may20 (fls20 ds) o = m := ⟨_, rfl⟩
          rw [hm] at hfa hsp hno hmn
          obtain ⟨kd, nm, tn, dt, sz⟩ := o
          unfold opV opC strV at hfa hsp
          unfold strV at c1 c2 c3
          simp only at c0 c1 c2 c3 c4 hfa hsp
          have hbb := (Below.refl wr.heap.size wr).alloc (Nat.le_refl _) (.cells [Value.int .i64 kd, .string ⟨nm.toArray⟩, .string ⟨tn.toArray⟩, .string ⟨dt.toArray⟩, .int .i64 sz].toArray 27)
          have hna := arrAt_new wr 27 [Value.int .i64 kd, .string ⟨nm.toArray⟩, .string ⟨tn.toArray⟩, .string ⟨dt.toArray⟩, .int .i64 sz]
          have hdb := h1.below hbb
          have hbw := hbq.out.trans (hbb.mono hszq)
          have hsb := hbb.size
          obtain ⟨q0, q1, q2, q3, q4⟩ := five_cells hna
          have hkO : (k : Int) < os.length := by omega
          replace hna := Lib.hid hna
          replace hdb := Lib.hid hdb
          replace hbw := Lib.hid hbw
          replace hfa := Lib.hid hfa
          replace hsp := Lib.hid hsp
          replace hno := Lib.hid hno
          replace hmn := Lib.hid hmn
          replace han := Lib.hid han
          clear hc e2 h1 h2 h3 h4 h5 hst hval hbb hbd2 hm m1 m2 m3 m4 m5
          go_wp2_with fail
          refine (hfa.out _ hdb.out).mono ?_; rintro e w5 ⟨rfl, hb5⟩
          have hd5 := Lib.hid (hdb.out.below hb5)
          obtain ⟨r0, r1, r2, r3, r4⟩ := five_cells (hna.out.next hb5)
          have hs5 := hb5.size
          have hbw5 := Lib.hid (hbw.out.next hb5 (by omega))
          clear hfa hb5 q0 q1 q2 q3 q4 hdb hna
          by_cases h0 : m = 0
          · subst h0
            replace hsp := Lib.hid (hsp.out w5 hd5.out (by omega) rfl)
            go_wp2_with fail
            refine hsp.out.mono ?_; rintro e w6 ⟨v6, es, rfl, hd6, hL6, hN6, hb6⟩
            obtain ⟨a6, c6, rfl⟩ := hd6.form
            replace hbw5 := Lib.hid (hbw5.out.trans hb6)
            have hst6 : Hid (DrAt w6 w.heap.size (.slice a6 es.length c6) es ∧ fls20 es = all20 L (os.take (k + 1)) ∧ mays20 L (os.take (k + 1)) = true ∧ (∀ d ∈ es, d.ps.length ≤ k + 1 + 1)) := Lib.hid ⟨hd6, by rw [hL6, han.out], by rw [hmn.out]; simp, hN6⟩
            clear hsp hd6 hL6 hN6 hb6 r0 r1 r2 r3 r4
            go_wp2_with fail
            exact ⟨⟨k + 1, a6, _, c6, es, rfl, by go_num, by omega, Lib.hid ⟨hst6.out.1, hst6.out.2.1, hst6.out.2.2.1, hst6.out.2.2.2, rfl⟩, hbw5⟩, by simp [intOf]; omega⟩
          · have hne : (m == 0) = false := by simpa using h0
            have hmf := Lib.hid (hno.out h0)
            clear hsp
            go_wp2_with fail
            go_ret2
            exact ⟨_, by rw [hmf.out]; rfl, fun h => (by rw [hmf.out] at h; cases h), fun _ => rfl, hbw5.out⟩
        · have hke2 : ¬ ((k : Int) < os.length) := by omega
          obtain ⟨h1, h2, h3, h4, h5⟩ := hst.out
          obtain rfl : k = os.length := by omega
          rw [List.take_of_length_le (Nat.le_refl _)] at h2 h3
          replace h1 := Lib.hid h1
          replace h2 := Lib.hid h2
          replace h3 := Lib.hid h3
          replace h4 := Lib.hid h4
          clear hst h5
          go_wp2_with fail
          go_ret2
          exact ⟨_, by rw [h3.out]; rfl, fun _ => ⟨ds, h1.out, h2.out, h4.out⟩, fun h => (by rw [h3.out] at h; cases h), hbq.out⟩
end Go.Proofs.Ytahndjgamoojkaa

/- The walk of disk.drafts of layer 20. -/
namespace Go.Proofs.Ytahndjgamoojkaa
open Go.RowKit

def DrfPost (w : World) (L : List Fl20) (os : List Op20) (R : Bool) (e : Ending) (w' : World) : Prop := ∃ v, e = .returned (.tuple #[v, .bool R]) ∧ (R = true → ∃ ds, DrAt w' w.heap.size v ds ∧ fls20 ds = all20 L os ∧ ∀ d ∈ ds, d.ps.length ≤ os.length + 1) ∧ (R = false → v = .slice none 0 0) ∧ Below w.heap.size w w'
theorem drf_no {w w' : World} {L : List Fl20} {os : List Op20} {R : Bool} (h : R = false) (hb : Below w.heap.size w w') : DrfPost w L os R (.returned (.tuple #[.slice none 0 0, .bool false])) w' := ⟨_, by rw [h], fun e => (by rw [h] at e; cases e), fun _ => rfl, hb⟩
theorem right_mays {L : List Fl20} {os : List Op20} (hv : Val20 L) (h4 : os.length ≤ 4096) : right20 L os = mays20 L os := by
  cases h : mays20 L os with
  | true => exact right_of hv h h4
  | false =>
    unfold right20
    rw [h, Bool.and_false]
theorem leq_list (x y : List UInt8) : (Op.bytesLess x y || x == y) = !decide (y < x) := by
  rw [less_list]
  by_cases h1 : y < x
  · have h2 : ¬ x < y := fun h => lt_irr _ (List.lt_trans h h1)
    have h3 : x ≠ y := fun e => by subst e; exact lt_irr _ h1
    simp [h1, h2, h3]
  · by_cases h2 : x = y
    · subst h2; simp [lt_irr]
    · have h3 := lt_or_gt h1 (Ne.symm h2)
      simp [h1, h3]
set_option maxHeartbeats 4000000 in
set_option maxRecDepth 100000 in
theorem dskdrafts20_any (d : Dk20) (val : Value) (w : World) (hd : DkV w val d) (hbd : DkBd d) :
    Calls Try.prog 36 #[val] w (DrfPost w d.files d.loose (right20 d.files d.loose)) := by
  obtain ⟨fv, lv, rfl, hf, hl⟩ := hd
  obtain ⟨L, os, fuse, down⟩ := d
  obtain ⟨hb1, hb2, hb3, hb4⟩ := hbd
  simp only at hf hl hb1 hb2 hb3 hb4 ⊢
  obtain ⟨af, cf, rfl⟩ := hf.form
  obtain ⟨al, cl, rfl⟩ := hl.form
  have hbx := Lib.hid ((Below.refl w.heap.size w).alloc (Nat.le_refl _) (.cells (dkC (.slice af L.length cf) (.slice al os.length cl) ⟨L, os, fuse, down⟩).toArray 25))
  have hbox := arrAt_new w 25 (dkC (.slice af L.length cf) (.slice al os.length cl) ⟨L, os, fuse, down⟩)
  obtain ⟨R, hR⟩ : ∃ R, right20 L os = R := ⟨_, rfl⟩
  rw [hR]
  replace hf := Lib.hid hf
  replace hl := Lib.hid hl
  unfold dkC at *
  simp only at *
  by_cases h8 : 8 < L.length
  · have hno : Hid (R = false) := Lib.hid (hR.symm.trans (right_no1 fun h => by have := h.few; omega))
    have g1 : (8 : Int) < L.length := by omega
    clear hbox hR
    go_enter Try.func36, Try.ntmps36
    go_wp2_with fail
    go_ret2
    exact drf_no hno.out hbx.out
  have g1 : ¬ (8 : Int) < L.length := by omega
  by_cases h4 : 4096 < os.length
  · have hno : Hid (R = false) := by
      refine Lib.hid (hR.symm.trans ?_)
      unfold right20
      rw [decide_eq_false (show ¬ os.length ≤ 4096 by omega), Bool.false_and, Bool.false_and]
    have g2 : (4096 : Int) < os.length := by omega
    clear hbox hR
    go_enter Try.func36, Try.ntmps36
    go_wp2_with fail
    go_ret2
    exact drf_no hno.out hbx.out
  have g2 : ¬ (4096 : Int) < os.length := by omega
  have q0 := hbox.cell 0
  have q1 := hbox.cell 1
  simp only [List.getElem?_cons_zero, List.getElem?_cons_succ] at q0 q1
  have hlt := hbox.lt
  obtain ⟨W, hW⟩ : ∃ W, w.alloc (.cells [(.slice af L.length cf), .slice al os.length cl, .int .i64 fuse, .bool down].toArray 25) = W := ⟨_, rfl⟩
  rw [hW] at q0 q1 hlt hbx
  have hfW := Lib.hid (hf.out.next hbx.out)
  have hlW := Lib.hid (hl.out.next hbx.out)
  replace hR := Lib.hid hR
  clear hbox hf hl
  go_enter Try.func36, Try.ntmps36
  go_wp2_with fail
  clear hW
  go_loopw [19] (fun i wr => ∃ k : Nat, i = .int .i64 k ∧ k ≤ L.length ∧ Hid (FinTo L k) ∧ Hid (Below W.heap.size W wr)) (fun i _ => L.length - (intOf i).toNat)
  case atStart => exact ⟨0, rfl, Nat.zero_le _, Lib.hid (fun j h hj => absurd hj (by omega)), Lib.hid (Below.refl _ _)⟩
  case round =>
    obtain ⟨i, rfl, hi, hfin, hdr⟩ := hrel
    have hszr := hdr.out.size
    have q0r := (hdr.out.cell (p := ⟨w.heap.size, 0, none⟩) hlt).trans q0
    have q1r := (hdr.out.cell (p := ⟨w.heap.size, 1, none⟩) hlt).trans q1
    have hfr := Lib.hid (hfW.out.next hdr.out)
    have hbr := Lib.hid (hbx.out.trans (hdr.out.mono (Nat.le_of_lt hlt)))
    by_cases hlt2 : i < L.length
    · have h0 : L ≠ [] := by intro e; rw [e] at hlt2; simp at hlt2
      obtain ⟨b, off, cc, _, hblt, e, hc⟩ := hfr.out.some h0
      injection e with e1 e2 e3
      subst e1 e3
      obtain ⟨c0, c1⟩ := hc i hlt2
      have eg : ∀ j (h : j < L.length), L.getD j ([], []) = L[j] := fun j h => by simp [List.getD, h]
      rw [eg i hlt2] at c0 c1
      obtain ⟨m1, m2⟩ := hb3 _ (List.getElem_mem hlt2)
      have hnm := fun W => dskname20_any (L[i]'hlt2).1 W m1
      have hiL : (i : Int) < L.length := by omega
      unfold strV at c0 c1
      -- the file's own box
      have hbb := (Below.refl wr.heap.size wr).alloc (Nat.le_refl _) (.cells [Value.string ⟨(L[i]'hlt2).1.toArray⟩, .string ⟨(L[i]'hlt2).2.toArray⟩].toArray 47)
      have hna := arrAt_new wr 47 [Value.string ⟨(L[i]'hlt2).1.toArray⟩, .string ⟨(L[i]'hlt2).2.toArray⟩]
      have d0 := hna.cell 0
      have d1 := hna.cell 1
      simp only [List.getElem?_cons_zero, List.getElem?_cons_succ] at d0 d1
      have q0a := (hbb.cell (p := ⟨w.heap.size, 0, none⟩) (Nat.lt_of_lt_of_le hlt hszr)).trans q0r
      have c0a := (hbb.cell (p := ⟨b, off + i * 2, none⟩) hblt).trans c0
      have hdrb := Lib.hid (hdr.out.trans (hbb.mono hszr))
      have hbrb := Lib.hid (hbr.out.trans (hbb.mono (Nat.le_of_lt (Nat.lt_of_lt_of_le hlt hszr))))
      cases hn : name20 (L[i]'hlt2).1 with
      | false =>
        have hno : Hid (R = false) := Lib.hid (hR.out.symm.trans (right_no1 fun h => by have := h.name _ (List.getElem_mem hlt2); rw [hn] at this; cases this))
        rw [hn] at hnm
        replace hnm := Lib.hid hnm
        replace hbb := Lib.hid hbb
        clear hn hb3 hb4 hfin eg hc h0 q0 q1 hna
        generalize (L[i]'hlt2).1 = x at *
        generalize (L[i]'hlt2).2 = y at *
        go_wp2_with fail
        go_quiet ((go_at_call 18; exact Calls.drawn_at (hnm.out _)))
        go_wp2_with fail
        go_ret2
        exact drf_no hno.out (hbrb.out.trans ((drawn_drewN _ _).below _))
      | true =>
        rw [hn] at hnm
        replace hnm := Lib.hid hnm
        by_cases hm : (1048576 : Int) < (L[i]'hlt2).2.length
        · have hno : Hid (R = false) := Lib.hid (hR.out.symm.trans (right_no1 fun h => by have := h.room _ (List.getElem_mem hlt2); omega))
          have hmd : decide ((1048576 : Int) < (L[i]'hlt2).2.length) = true := decide_eq_true hm
          replace hbb := Lib.hid hbb
          clear hn hb3 hb4 hfin eg hc h0 q0 q1 hna hm
          generalize (L[i]'hlt2).1 = x at *
          generalize (L[i]'hlt2).2 = y at *
          go_wp2_with fail
          go_quiet ((go_at_call 18; exact Calls.drawn_at (hnm.out _)))
          go_wp2_with fail
          go_ret2
          exact drf_no hno.out (hbrb.out.trans ((drawn_drewN _ _).below _))
        · have hmd : decide ((1048576 : Int) < (L[i]'hlt2).2.length) = false := decide_eq_false hm
          by_cases hi0 : i = 0
          · have hnx : Hid (FinTo L (i + 1)) := Lib.hid (fin_next hfin.out hlt2 hn (by omega) (fun h => absurd h (by omega)))
            have hip : decide ((0 : Int) < i) = false := decide_eq_false (by omega)
            have hip2 : decide (0 < i) = false := decide_eq_false (by omega)
            replace hbb := Lib.hid hbb
            clear hn hb3 hb4 hfin eg hc h0 q0 q1 hm hna
            generalize (L[i]'hlt2).1 = x at *
            generalize (L[i]'hlt2).2 = y at *
            replace hi0 := Lib.hid hi0
            go_wp2_with fail
            go_quiet ((go_at_call 18; exact Calls.drawn_at (hnm.out _)))
            go_wp2_with fail
            exact ⟨⟨i + 1, by go_num, by omega, hnx, Lib.hid (hdrb.out.trans ((drawn_drewN _ _).below _))⟩, by simp [intOf]; omega⟩
          · have hip : decide ((0 : Int) < i) = true := decide_eq_true (by omega)
            have hip2 : decide (0 < i) = true := decide_eq_true (by omega)
            obtain ⟨p0, _⟩ := hc (i - 1) (by omega)
            rw [eg (i - 1) (by omega)] at p0
            obtain ⟨z, hz⟩ : ∃ z, z + 1 = i := ⟨i - 1, by omega⟩
            have hzi : (i : Int) - 1 = z := by omega
            have hz0 : (0 : Int) ≤ z := by omega
            have hz1 : (z : Int) < L.length := by omega
            have ez : i - 1 = z := by omega
            obtain ⟨B1, B2, hl1, hl2, hl3⟩ : ∃ B1 B2, Op.bytesLess (L[i]'hlt2).1 (L[i - 1]'(by omega)).1 = B1 ∧ ((L[i]'hlt2).1 == (L[i - 1]'(by omega)).1) = B2 ∧ (B1 || B2) = !decide ((L[i - 1]'(by omega)).1 < (L[i]'hlt2).1) := ⟨_, _, rfl, rfl, leq_list _ _⟩
            unfold strV at p0
            have p0a := (hbb.cell (p := ⟨b, off + (i - 1) * 2, none⟩) hblt).trans p0
            by_cases hlt3 : (L[i - 1]'(by omega)).1 < (L[i]'hlt2).1
            · have hnx : Hid (FinTo L (i + 1)) := Lib.hid (fin_next hfin.out hlt2 hn (by omega) (fun _ => hlt3))
              rw [decide_eq_true hlt3] at hl3
              generalize (L[i - 1]'(by omega)).1 = xp at p0 p0a hl1 hl2
              rw [ez] at p0 p0a
              simp only [Bool.not_true] at hl3
              replace hbb := Lib.hid hbb
              clear hn hb3 hb4 hfin eg hc h0 q0 q1 hm hlt3 ez hna
              generalize (L[i]'hlt2).1 = x at *
              generalize (L[i]'hlt2).2 = y at *
              replace hz := Lib.hid hz
              replace hi0 := Lib.hid hi0
              go_wp2_with fail
              go_quiet ((go_at_call 18; exact Calls.drawn_at (hnm.out _)))
              go_wp2_with fail
              exact ⟨⟨i + 1, by go_num, by omega, hnx, Lib.hid (hdrb.out.trans ((drawn_drewN _ _).below _))⟩, by simp [intOf]; omega⟩
            · have hno : Hid (R = false) := Lib.hid (hR.out.symm.trans (right_no1 fun h => hlt3 (rise_at h.rise hlt2 (by omega))))
              rw [decide_eq_false hlt3] at hl3
              generalize (L[i - 1]'(by omega)).1 = xp at p0 p0a hl1 hl2
              rw [ez] at p0 p0a
              simp only [Bool.not_false] at hl3
              replace hbb := Lib.hid hbb
              clear hn hb3 hb4 hfin eg hc h0 q0 q1 hm hlt3 ez hna
              generalize (L[i]'hlt2).1 = x at *
              generalize (L[i]'hlt2).2 = y at *
              replace hz := Lib.hid hz
              replace hi0 := Lib.hid hi0
              go_wp2_with fail
              go_quiet ((go_at_call 18; exact Calls.drawn_at (hnm.out _)))
              go_wp2_with fail
              go_ret2
              exact drf_no hno.out (hbrb.out.trans ((drawn_drewN _ _).below _))
    · have hval : Hid (Val20 L) := Lib.hid (fin_val (by have := hfin.out; rwa [show i = L.length by omega] at this) (by omega))
      have hke : ¬ ((i : Int) < L.length) := by omega
      have hR2 : Hid (mays20 L os = R) := Lib.hid ((right_mays hval.out (by omega)).symm.trans hR.out)
      have hdn := dskdone20_any L os (.slice af L.length cf) (.slice al os.length cl) wr hfr.out (SlOf.next hlW.out hdr.out) hval.out (by omega) hb4
      have hlr : w.heap.size ≤ wr.heap.size := by omega
      unfold DonePost at hdn
      rw [hR2.out] at hdn
      replace hdn := Lib.hid hdn
      clear hfin hb3 hfW hlW hbx q0 q1 hdr
      go_wp2_with fail
      refine hdn.out.mono ?_; rintro e w5 ⟨v5, rfl, h1, h2, h3⟩
      replace h1 := Lib.hid h1
      replace h2 := Lib.hid h2
      replace h3 := Lib.hid (hbr.out.trans (h3.mono hlr))
      clear hdn hbr
      go_wp2_with fail
      go_ret2
      exact ⟨v5, rfl, fun h => by
        obtain ⟨ds, k1, k2, k3⟩ := h1.out h
        exact ⟨ds, k1.mono hlr, k2, k3⟩, h2.out, h3.out⟩
end Go.Proofs.Ytahndjgamoojkaa
