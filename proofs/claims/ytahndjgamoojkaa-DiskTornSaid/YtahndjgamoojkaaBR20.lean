/- The walk of the reference's Fall of layer 20. -/
import Derived.Test.YtahndjgamoojkaaBR19
namespace Go.Proofs.Ytahndjgamoojkaa
open Go.RowKit

def fallD (d : Dk20) (cr : Cr20) (fz : Int) : Dk20 × Int :=
  if right20 d.files d.loose = false then (d, 1) else (⟨fall20 d.files d.loose cr.keep cr.bytes cr.burst cr.at_ cr.bits.toNat, [], fz, false⟩, 0)
theorem kept_len (os : List Op20) (keep bytes : Int) : (kept20 os keep bytes).length ≤ os.length := by
  unfold kept20
  rw [List.length_append, List.length_take]
  cases hg : os[keep.toNat]? with
  | none => simp; omega
  | some o =>
    have := (List.getElem?_eq_some_iff.1 hg).1
    simp only
    unfold torn20
    split <;> simp <;> omega
theorem kept_data {os : List Op20} {n : Nat} (h : ∀ o ∈ os, o.data.length ≤ n) (keep bytes : Int) : ∀ o ∈ kept20 os keep bytes, o.data.length ≤ n := by
  intro o ho
  unfold kept20 at ho
  rw [List.mem_append] at ho
  rcases ho with ho | ho
  · exact h o (List.mem_of_mem_take ho)
  · cases hg : os[keep.toNat]? with
    | none => rw [hg] at ho; cases ho
    | some o2 =>
      rw [hg] at ho
      have h2 := h o2 (List.mem_of_getElem? hg)
      simp only at ho
      unfold torn20 at ho
      split at ho
      · simp only [List.mem_singleton] at ho
        subst ho
        simp only [List.length_take]
        omega
      · cases ho
theorem apps_len (os : List Op20) (r : List Op20) : (apps20 (os ++ r)).length = (apps20 os).length + (apps20 r).length := by
  unfold apps20
  rw [List.flatMap_append, List.length_append]
theorem kept_apps (os : List Op20) (keep bytes : Int) : (apps20 (kept20 os keep bytes)).length ≤ (apps20 os).length := by
  unfold kept20
  rw [apps_len]
  cases hg : os[keep.toNat]? with
  | none =>
    have := apps_le os keep.toNat
    simp only
    show _ + 0 ≤ _
    omega
  | some o =>
    obtain ⟨hlt, rfl⟩ := List.getElem?_eq_some_iff.1 hg
    have := apps_le os (keep.toNat + 1)
    rw [apps_next os hlt, List.length_append] at this
    refine Nat.le_trans (Nat.add_le_add_left ?_ _) this
    simp only
    unfold torn20
    split
    · unfold apps20
      simp only [List.flatMap_cons, List.flatMap_nil, List.append_nil]
      split <;> simp
      omega
    · exact Nat.zero_le _
theorem form_data {T M : List Op20} (h : T.map form20 = M.map form20) {n : Nat} (hM : ∀ o ∈ M, o.data.length ≤ n) : ∀ o ∈ T, o.data.length ≤ n := by
  intro o ho
  obtain ⟨o2, h2, e⟩ := List.mem_map.1 (h ▸ List.mem_map_of_mem (f := form20) ho)
  have := hM o2 h2
  unfold form20 at e
  simp only [Prod.mk.injEq] at e
  omega
theorem form_len {T M : List Op20} (h : T.map form20 = M.map form20) : T.length = M.length := by simpa using congrArg List.length h
/-- What Fall's walk finds in memory: the disk, the crash, the place of the result. -/
structure FaW (w : World) (fv lv : Value) (fuse : Int) (dn : Bool) (kp by_ : Int) (bu : Bool) (at_ bi : Int) (w' : World) : Prop where
  dk : ArrAt w' w.heap.size 25 [fv, lv, .int .i64 fuse, .bool dn]
  cr : ArrAt w' (w.heap.size + 1) 41 [.int .i64 kp, .int .i64 by_, .bool bu, .int .i64 at_, .int .u32 bi]
  re : ArrAt w' (w.heap.size + 2) 25 [.slice none 0 0, .slice none 0 0, .int .i64 0, .bool false]
  be : Below w.heap.size w w'
theorem FaW.next {w : World} {fv lv : Value} {fuse : Int} {dn : Bool} {kp by_ : Int} {bu : Bool} {at_ bi : Int} {w1 w2 : World} (h : FaW w fv lv fuse dn kp by_ bu at_ bi w1) (hb : Below w1.heap.size w1 w2) : FaW w fv lv fuse dn kp by_ bu at_ bi w2 :=
  ⟨h.dk.next hb, h.cr.next hb, h.re.next hb, h.be.next hb h.be.size⟩
theorem faW_new (w : World) (fv lv : Value) (fuse : Int) (dn : Bool) (kp by_ : Int) (bu : Bool) (at_ bi : Int) :
    FaW w fv lv fuse dn kp by_ bu at_ bi (((w.alloc (.cells [fv, lv, .int .i64 fuse, .bool dn].toArray 25)).alloc (.cells [.int .i64 kp, .int .i64 by_, .bool bu, .int .i64 at_, .int .u32 bi].toArray 41)).alloc (.cells [.slice none 0 0, .slice none 0 0, .int .i64 0, .bool false].toArray 25)) := by
  obtain ⟨a1, b1, c1⟩ := new_in (H := w.heap.size) 25 [fv, lv, .int .i64 fuse, .bool dn] (Below.refl _ w) (Nat.le_refl _)
  have e1 : (w.alloc (.cells [fv, lv, .int .i64 fuse, .bool dn].toArray 25)).heap.size = w.heap.size + 1 := by simp
  generalize w.alloc (.cells [fv, lv, .int .i64 fuse, .bool dn].toArray 25) = W1 at *
  obtain ⟨a2, b2, c2⟩ := new_in (H := w.heap.size) 41 [.int .i64 kp, .int .i64 by_, .bool bu, .int .i64 at_, .int .u32 bi] b1 (by omega)
  have e2 : (W1.alloc (.cells [.int .i64 kp, .int .i64 by_, .bool bu, .int .i64 at_, .int .u32 bi].toArray 41)).heap.size = w.heap.size + 2 := by simp [e1]
  rw [e1] at a2
  generalize W1.alloc (.cells [.int .i64 kp, .int .i64 by_, .bool bu, .int .i64 at_, .int .u32 bi].toArray 41) = W2 at *
  obtain ⟨a3, b3, c3⟩ := new_in (H := w.heap.size) 25 [.slice none 0 0, .slice none 0 0, .int .i64 0, .bool false] b2 (by omega)
  rw [e2] at a3
  exact ⟨(a1.next c2).next c3, a2.next c3, a3, b3⟩
set_option maxHeartbeats 4000000 in
set_option maxRecDepth 100000 in
theorem reffall20_any (d : Dk20) (cr : Cr20) (fz : Int) (val : Value) (w : World) (hd : DkV w val d) (hbd : DkBd d) (hk : -9223372036854775808 ≤ cr.keep ∧ cr.keep ≤ 9223372036854775807) (hb : -9223372036854775808 ≤ cr.bytes ∧ cr.bytes ≤ 9223372036854775807) (hat : -9223372036854775808 ≤ cr.at_ ∧ cr.at_ ≤ 9223372036854775807) (hb0 : 0 ≤ cr.bits) (hb1 : cr.bits ≤ 4294967295) (hap : (apps20 d.loose).length ≤ 1000000000) :
    Calls Try.prog 21 #[val, crV cr, .int .i64 fz] w (DiskPost w (fallD d cr fz)) := by
  obtain ⟨L, os, fuse, dn⟩ := d
  have hdk := hd
  obtain ⟨fv, lv, rfl, hf, hl⟩ := hd
  obtain ⟨af, cf, rfl⟩ := hf.form
  obtain ⟨al, cl, rfl⟩ := hl.form
  have hri := fun V (h : DkV V (.agg (dkC (.slice af L.length cf) (.slice al os.length cl) ⟨L, os, fuse, dn⟩).toArray) ⟨L, os, fuse, dn⟩) => refright20_any ⟨L, os, fuse, dn⟩ _ V h hbd
  obtain ⟨_, _, _, hbd4⟩ := hbd
  have hkc := fun V v (h : OpSl V v os) (hL : os.length ≤ 100000) => refkept20_any os cr v V h hL hk hb (fun o ho => (hbd4 o ho).2.2.1)
  have hhc := fun M V v (h : OpSl V v M) (hL : M.length ≤ 100000) (ha : (apps20 M).length ≤ 1000000000) (hd : ∀ o ∈ M, o.data.length ≤ 90000000) => refhurt20_any M cr v V h hL hat hb0 hb1 ha hd
  have hkd := kept_data (n := 90000000) (fun o ho => (hbd4 o ho).2.2.1) cr.keep cr.bytes
  obtain ⟨kp, by_, bu, at_, bi⟩ := cr
  unfold crV crC at *
  unfold dkC at hri ⊢
  simp only at hri hdk hap hkc hhc hkd hk hb hat hb0 hb1 ⊢
  have hW0 := faW_new w (.slice af L.length cf) (.slice al os.length cl) fuse dn kp by_ bu at_ bi
  obtain ⟨W, hW⟩ : ∃ W, (((w.alloc (.cells [Value.slice af L.length cf, .slice al os.length cl, .int .i64 fuse, .bool dn].toArray 25)).alloc (.cells [Value.int .i64 kp, .int .i64 by_, .bool bu, .int .i64 at_, .int .u32 bi].toArray 41)).alloc (.cells [Value.slice none 0 0, .slice none 0 0, .int .i64 0, .bool false].toArray 25)) = W := ⟨_, rfl⟩
  rw [hW] at hW0
  have hdW := Lib.hid (hdk.next hW0.be)
  unfold dkC at hdW
  simp only at hdW
  unfold fallD
  simp only
  obtain ⟨R, hR⟩ : ∃ R, right20 L os = R := ⟨_, rfl⟩
  rw [hR] at hri ⊢
  replace hri := Lib.hid hri
  replace hf := Lib.hid hf
  replace hl := Lib.hid hl
  have hdk' := Lib.hid hdk
  clear hdk
  cases R with
  | false =>
    clear hkc hhc hkd
    simp only [if_true]
    go_enter Try.func21, Try.ntmps21
    obtain ⟨q0, q1, q2, q3⟩ := four_cells hW0.dk
    replace hW0 := Lib.hid hW0
    go_wp2_with fail
    refine (hri.out _ hdW.out).mono ?_; rintro e w1 ⟨rfl, hb1⟩
    replace hW0 := Lib.hid (hW0.out.next hb1)
    obtain ⟨p0, p1, p2, p3⟩ := four_cells hW0.out.dk
    obtain ⟨r0, r1, r2, r3⟩ := four_cells hW0.out.re
    obtain ⟨s0, s1, s2, s3⟩ := four_soft hW0.out.re
    clear hb1 q0 q1 q2 q3 hri
    go_wp2_with fail
    obtain ⟨hset, hbs⟩ := four_set (B := w.heap.size) hW0.out.re (.slice af L.length cf) (.slice al os.length cl) (.int .i64 fuse) (.bool dn) (by omega)
    obtain ⟨k0, k1, k2, k3⟩ := four_cells hset
    have hbx := hW0.out.be
    refine bodyPost_ret (v := .tuple #[.agg #[.slice af L.length cf, .slice al os.length cl, .int .i64 fuse, .bool dn], .int .i64 1]) (by simp [results, Try.results21, go_sem, k0, k1, k2, k3]) rfl ⟨_, rfl, ⟨_, _, rfl, hf.out.next (hbx.trans hbs), hl.out.next (hbx.trans hbs)⟩, hbx.trans hbs⟩
  | true =>
    simp only [Bool.true_eq_false, if_false]
    obtain ⟨hval, hmays, hos⟩ := right_val hR
    have hkm := kept_mays kp by_ hmays
    have hkl := kept_len os kp by_
    have hka := kept_apps os kp by_
    unfold fall20
    replace hkc := Lib.hid (fun V v h => hkc V v h (by omega))
    obtain ⟨M, hM⟩ : ∃ M, kept20 os kp by_ = M := ⟨_, rfl⟩
    rw [hM] at hkm hkl hka hkd hkc ⊢
    replace hhc := Lib.hid (fun V v h => hhc M V v h (by omega) (by omega) hkd)
    have hfo := hurt_form M bu at_ bi.toNat
    have hTd := form_data hfo hkd
    have hTl := form_len hfo
    rw [← mays_form (l := L) rfl hfo] at hkm
    obtain ⟨T, hT⟩ : ∃ T, hurt20 M bu at_ bi.toNat = T := ⟨_, rfl⟩
    rw [hT] at hfo hTd hTl hkm hhc ⊢
    have hTle : T.length ≤ 4096 := by omega
    have hfew := hval.few
    replace hval := Lib.hid hval
    replace hkm := Lib.hid hkm
    clear hfo hmays hkd hka hTl
    go_enter Try.func21, Try.ntmps21
    obtain ⟨q0, q1, q2, q3⟩ := four_cells hW0.dk
    replace hW0 := Lib.hid hW0
    go_wp2_with fail
    refine (hri.out _ hdW.out).mono ?_; rintro e w1 ⟨rfl, hb1⟩
    replace hW0 := Lib.hid (hW0.out.next hb1)
    obtain ⟨p0, p1, p2, p3⟩ := four_cells hW0.out.dk
    obtain ⟨t0, t1, t2, t3, t4⟩ := five_cells hW0.out.cr
    clear q0 q1 q2 q3 hri hb1 hdW hW
    have hl1 := Lib.hid (hl.out.next hW0.out.be)
    have hkp := Lib.hid (fun V (h : Below w1.heap.size w1 V) => (⟨(hW0.out.next h).dk.cell 1, (hW0.out.next h).cr.cell 0, (hW0.out.next h).cr.cell 1, (hW0.out.next h).cr.cell 2, (hW0.out.next h).cr.cell 3, (hW0.out.next h).cr.cell 4⟩ : V.cell? ⟨w.heap.size, 1, none⟩ = some (.slice al os.length cl) ∧ V.cell? ⟨w.heap.size + 1, 0, none⟩ = some (.int .i64 kp) ∧ V.cell? ⟨w.heap.size + 1, 1, none⟩ = some (.int .i64 by_) ∧ V.cell? ⟨w.heap.size + 1, 2, none⟩ = some (.bool bu) ∧ V.cell? ⟨w.heap.size + 1, 3, none⟩ = some (.int .i64 at_) ∧ V.cell? ⟨w.heap.size + 1, 4, none⟩ = some (.int .u32 bi)))
    go_wp2_with fail
    go_region_held3 (fun V => V.cell? ⟨w.heap.size, 1, none⟩ = some (.slice al os.length cl) ∧ V.cell? ⟨w.heap.size + 1, 0, none⟩ = some (.int .i64 kp) ∧ V.cell? ⟨w.heap.size + 1, 1, none⟩ = some (.int .i64 by_) ∧ V.cell? ⟨w.heap.size + 1, 2, none⟩ = some (.bool bu) ∧ V.cell? ⟨w.heap.size + 1, 3, none⟩ = some (.int .i64 at_) ∧ V.cell? ⟨w.heap.size + 1, 4, none⟩ = some (.int .u32 bi)) (first | exact hkp.out _ hb6.out | exact hkp.out _ hb5.out | exact hkp.out _ ((drawn_drew _).below _))
      (first
        | (go_at_call 41; ((with_reducible refine (hkc.out _ _ (hl1.out.next ((drawn_drew _).below _))).mono ?_); rintro e w5 ⟨v5, rfl, ho5, hb5⟩; obtain ⟨a5, c5, rfl⟩ := own_form ho5; replace hb5 := Lib.hid (((drawn_drew _).below _).andThen hb5); replace ho5 := Lib.hid ho5.sl))
        | (go_at_call 40; ((with_reducible refine (hhc.out _ _ ho5.out).mono ?_); rintro e w6 ⟨a6, c6, rfl, ho6, hb6⟩; replace hb6 := Lib.hid (hb5.out.andThen hb6); replace ho6 := Lib.hid ho6)))
    replace hW0 := Lib.hid (hW0.out.next hb6.out)
    have hq0 := hW0.out.dk.cell 0
    have hf6 := hf.out.next hW0.out.be
    have hpt := (AtSl.next hf6 ((Below.refl w6.heap.size w6).alloc (Nat.le_refl _) (.cells #[] 47))).part
    have hem := ownsRow_empty w6 47 2
    have hsz : w6.heap.size ≤ (w6.alloc (.cells #[] 47)).heap.size := by simp
    replace hpt := Lib.hid hpt
    replace hem := Lib.hid hem
    simp only [List.getElem?_cons_zero] at hq0
    have hlt := hW0.out.dk.lt
    have hltr := hW0.out.re.lt
    clear hkp hl1 hb6 hb5 ho5 hkc hhc hf6 p0 p1 p2 p3 t0 t1 t2 t3 t4 hdk' hl
    go_wp2_with (at_builtin; go_must (refine wpList_append_part rfl _ _ 22 rfl w6.heap.size 47 (.agg #[.string ⟨#[]⟩, .string ⟨#[]⟩]) 2 32 Try.underlying22 info_file rfl (by decide) _ 0 [] rfl hem.out af L.length cf (cellsA L) rfl (cellsA_len L) hpt.out (cellsA_one' L) L.length (Nat.zero_add _) (by unfold maxLen; omega) (by omega) hsz ?_))
    intro a' c' w7 ho1 hb7 _ _
    replace hb7 := Lib.hid (((Below.refl w6.heap.size w6).alloc (Nat.le_refl _) (.cells #[] 47)).trans hb7.out)
    replace ho1 : Hid (Fls w7 w6.heap.size (.slice a' L.length c') L) := Lib.hid ho1.out
    replace hW0 := Lib.hid (hW0.out.next hb7.out)
    replace ho6 := Lib.hid (SlOf.next ho6.out hb7.out)
    have hst : Hid (Fls w7 (w.heap.size + 3) (.slice a' L.length c') L) := Lib.hid (ownsRow_mono ho1.out (by omega))
    have hs7 := hb7.out.size
    clear hpt hem hsz hq0 ho1 hb7
    go_wp2_with fail
    go_loopw [9, 10] (fun v i wr => ∃ (k : Nat) (a : Option Addr) (n c : Nat), v = .slice a n c ∧ i = .int .i64 k ∧ k ≤ T.length ∧ Hid (n = (all20 L (T.take k)).length) ∧ Hid (Fls wr (w.heap.size + 3) (.slice a n c) (all20 L (T.take k))) ∧ Hid (Below w7.heap.size w7 wr)) (fun _ i _ => T.length - (intOf i).toNat)
    case atStart => exact ⟨0, a', L.length, c', rfl, rfl, Nat.zero_le _, Lib.hid rfl, hst, Lib.hid (Below.refl _ _)⟩
    case round =>
      obtain ⟨k, a, n, c, rfl, rfl, hk, hn, hv, hbq⟩ := hrel
      clear hst
      by_cases hlt2 : k < T.length
      · have h0 : T ≠ [] := by intro e; rw [e] at hlt2; simp at hlt2
        obtain ⟨b, off, cc, _, hblt, e, hc⟩ := ho6.out.some opC_len (by decide) h0
        injection e with e1 e2 e3
        subst e1 e3
        have hkO : (k : Int) < T.length := by omega
        have c0 := (hbq.out.cell (p := ⟨b, off + k * 5 + 0, none⟩) hblt).trans (hc k hlt2 0 _ (by decide) rfl)
        have c1 := (hbq.out.cell (p := ⟨b, off + k * 5 + 1, none⟩) hblt).trans (hc k hlt2 1 _ (by decide) rfl)
        have c2 := (hbq.out.cell (p := ⟨b, off + k * 5 + 2, none⟩) hblt).trans (hc k hlt2 2 _ (by decide) rfl)
        have c3 := (hbq.out.cell (p := ⟨b, off + k * 5 + 3, none⟩) hblt).trans (hc k hlt2 3 _ (by decide) rfl)
        have c4 := (hbq.out.cell (p := ⟨b, off + k * 5 + 4, none⟩) hblt).trans (hc k hlt2 4 _ (by decide) rfl)
        rw [Nat.add_zero] at c0
        have m3 := hTd _ (List.getElem_mem hlt2)
        have hm := mays_at hkm.out hlt2
        have han := @all_next L T k hlt2
        have hvl := hval.out.all (mays_take (k := k) hkm.out)
        generalize T[k]'hlt2 = o at c0 c1 c2 c3 c4 m3 hm han
        obtain ⟨Lk, hLk⟩ : ∃ Lk, all20 L (T.take k) = Lk := ⟨_, rfl⟩
        rw [hLk] at han hn hv hvl hm
        have hdat := hvl.data o.name
        have hfewk := hvl.few
        unfold strV at c1 c2 c3
        obtain ⟨r1, r2⟩ := may_ok hm
        have hdn := Lib.hid (fun W v hW => refdone20_any Lk o v W hW (by omega) (by omega) r1 r2)
        have hdn2 : Hid (∀ W v, AtSl W v Lk → Calls Try.prog 37 #[v, .agg #[.int .i64 o.kind, .string ⟨o.name.toArray⟩, .string ⟨o.to.toArray⟩, .string ⟨o.data.toArray⟩, .int .i64 o.size]] W (FilesPost W (all20 L (T.take (k + 1))))) := by
          refine Lib.hid fun W v hW => ?_
          rw [han]
          exact hdn.out W v hW
        have hvsl := Lib.hid hv.out.sl
        have hsr := hbq.out.size
        clear hdn r1 r2 hm han hc h0 hLk hvl
        go_wp2_with fail
        refine (hdn2.out _ _ hvsl.out).mono ?_; rintro e w5 ⟨v5, rfl, ho5, hb5⟩
        obtain ⟨a5, c5, rfl⟩ := own_form ho5
        replace ho5 : Hid (Fls w5 (w.heap.size + 3) _ _) := Lib.hid (ownsRow_mono ho5 (by omega))
        replace hbq := Lib.hid (hbq.out.andThen hb5)
        clear hb5
        go_wp2_with fail
        exact ⟨⟨k + 1, a5, _, c5, rfl, by go_num, by omega, Lib.hid rfl, ho5, hbq⟩, by simp [intOf]; omega⟩
      · have hke2 : ¬ ((k : Int) < T.length) := by omega
        have hv2 := hv.out
        rw [List.take_of_length_le (by omega)] at hv2
        replace hv2 := Lib.hid hv2
        obtain ⟨FL, hFL⟩ : ∃ FL, all20 L T = FL := ⟨_, rfl⟩
        rw [hFL] at hv2 ⊢
        replace hW0 := Lib.hid (hW0.out.next hbq.out)
        obtain ⟨r0, r1, r2, r3⟩ := four_cells hW0.out.re
        obtain ⟨s0, s1, s2, s3⟩ := four_soft hW0.out.re
        clear hv hn hbq
        go_wp2_with fail
        obtain ⟨hset, hbs⟩ := four_set (B := w.heap.size) hW0.out.re (.slice a n c) (.slice none 0 0) (.int .i64 fz) (.bool false) (by omega)
        have hbx := hW0.out.be.trans hbs
        have hsl4 : AtSl _ (.slice a n c) FL := Fls.sl (four_own hv2.out (.slice a n c) (.slice none 0 0) (.int .i64 fz) (.bool false) (g := w.heap.size + 2) (by omega))
        obtain ⟨k0, k1, k2, k3⟩ := four_cells hset
        refine bodyPost_ret (v := .tuple #[.agg #[.slice a n c, .slice none 0 0, .int .i64 fz, .bool false], .int .i64 0]) (by simp [results, Try.results21, go_sem, k0, k1, k2, k3]) rfl ?_
        exact ⟨_, rfl, ⟨_, _, rfl, hsl4, slOf_nil _ _ _⟩, hbx⟩
end Go.Proofs.Ytahndjgamoojkaa
