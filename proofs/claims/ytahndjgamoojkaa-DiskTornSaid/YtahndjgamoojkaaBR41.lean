/- Walks of layer 20's disk: Fall. -/
import Derived.Test.YtahndjgamoojkaaBR40
import Derived.Test.YtahndjgamoojkaaBR34
import Derived.Test.YtahndjgamoojkaaBR20
import Derived.Test.YtahndjgamoojkaaBR37
import Derived.Test.YtahndjgamoojkaaBR22
import Derived.KernelRfl
namespace Go.Proofs.Ytahndjgamoojkaa
open Go.RowKit

theorem form_bd {T M : List Op20} (h : T.map form20 = M.map form20) (hM : OpBd M) : OpBd T := by
  intro o ho
  obtain ⟨o2, h2, e⟩ := List.mem_map.1 (h ▸ List.mem_map_of_mem (f := form20) ho)
  have := hM o2 h2
  unfold form20 at e
  simp only [Prod.mk.injEq] at e
  obtain ⟨e1, e2, e3, e4, e5⟩ := e
  rw [← e2, ← e3, ← e4, ← e5]
  exact this
theorem kept_bd {os : List Op20} (h : OpBd os) (keep bytes : Int) : OpBd (kept20 os keep bytes) := by
  intro o ho
  unfold kept20 at ho
  rw [List.mem_append] at ho
  rcases ho with ho | ho
  · exact h o (List.mem_of_mem_take ho)
  · cases hg : os[keep.toNat]? with
    | none => rw [hg] at ho; cases ho
    | some o2 =>
      rw [hg] at ho
      have h2 := h o2 (List.mem_of_getElem? hg)
      simp only at ho
      unfold torn20 at ho
      split at ho
      · simp only [List.mem_singleton] at ho
        subst ho
        simp only [List.length_take]
        omega
      · cases ho
set_option maxHeartbeats 4000000 in
set_option maxRecDepth 100000 in
theorem dskfall20_any (d : Dk20) (cr : Cr20) (fz : Int) (val : Value) (w : World) (hd : DkV w val d) (hbd : DkBd d) (hk : -9223372036854775808 ≤ cr.keep ∧ cr.keep ≤ 9223372036854775807) (hb : -9223372036854775808 ≤ cr.bytes ∧ cr.bytes ≤ 9223372036854775807) (hat : -9223372036854775808 ≤ cr.at_ ∧ cr.at_ ≤ 9223372036854775807) (hb0 : 0 ≤ cr.bits) (hb1 : cr.bits ≤ 4294967295) (hap : (apps20 d.loose).length ≤ 1000000000) (n1 : d.files.length ≤ 4398046511104) (n2 : d.loose.length ≤ 1000000000) :
    Calls Try.prog 20 #[val, crV cr, .int .i64 fz] w (DiskPost w (fallD d cr fz)) := by
  obtain ⟨L, os, fuse, dn⟩ := d
  obtain ⟨a1, c1, a2, c2, rfl, hf, hl⟩ := dkV_open hd
  have hri := fun V (h : DkV V (.agg #[.slice a1 L.length c1, .slice a2 os.length c2, .int .i64 fuse, .bool dn]) ⟨L, os, fuse, dn⟩) => dskright20_any ⟨L, os, fuse, dn⟩ _ V h hbd
  have hpa := fun V (h : DkV V (.agg #[.slice a1 L.length c1, .slice a2 os.length c2, .int .i64 fuse, .bool dn]) ⟨L, os, fuse, dn⟩) => apart20_any ⟨L, os, fuse, dn⟩ _ V h n1 n2
  have hob : OpBd os := fun o ho => hbd.2.2.2 o ho
  have hle := fun V v (h : OpSl V v os) (hL : os.length ≤ 90000) => left20_any os cr v V h hL hk hb hat hb0 hb1 (Nat.le_trans (kept_apps os cr.keep cr.bytes) hap) (fun o ho => (hob o ho).2.2.1)
  unfold fallD fall20
  simp only at hri hpa ⊢
  obtain ⟨T, hT⟩ : ∃ T, hurt20 (kept20 os cr.keep cr.bytes) cr.burst cr.at_ cr.bits.toNat = T := ⟨_, rfl⟩
  have hfo : T.map form20 = (kept20 os cr.keep cr.bytes).map form20 := by rw [← hT]; exact hurt_form _ _ _ _
  rw [hT] at hle ⊢
  have hTb : OpBd T := form_bd hfo (kept_bd hob _ _)
  have hTl : T.length ≤ os.length := by rw [form_len hfo]; exact kept_len _ _ _
  have hTm : mays20 L os = true → mays20 L T = true := fun h => by rw [mays_form (l := L) rfl hfo]; exact kept_mays _ _ h
  obtain ⟨kp, by_, bu, at_, bi⟩ := cr
  unfold crV crC at *
  simp only at hle ⊢
  have hw0 := faW_new w (.slice a1 L.length c1) (.slice a2 os.length c2) fuse dn kp by_ bu at_ bi
  obtain ⟨R, hR⟩ : ∃ R, right20 L os = R := ⟨_, rfl⟩
  rw [hR] at hri ⊢
  obtain ⟨p0, p1, p2, p3⟩ := four_cells hw0.dk
  replace hw0 := Lib.hid hw0
  replace hri := Lib.hid hri
  replace hpa := Lib.hid hpa
  replace hle := Lib.hid hle
  replace hd := Lib.hid hd
  clear hfo hT hbd hob
  cases R with
  | false =>
    rw [if_pos rfl]
    clear hle hTb hTl hTm
    go_enter Try.func20, Try.ntmps20
    go_wp2_with fail
    refine (hri.out _ (hd.out.next hw0.out.be)).mono ?_; rintro e w1 ⟨rfl, hb1⟩
    have hw1 := Lib.hid (hw0.out.next hb1)
    clear p0 p1 p2 p3 hb1 hw0 hri
    obtain ⟨p0, p1, p2, p3⟩ := four_cells hw1.out.dk
    go_wp2_with fail
    refine (hpa.out _ (hd.out.next hw1.out.be)).mono ?_; rintro e w2 ⟨v2, rfl, hd2, hb2⟩
    obtain ⟨a3, c3, a4, c4, rfl, hf2, hl2⟩ := dkV_open hd2.val
    have hw2 := hw1.out.next hb2
    have hkb : DkW w w.heap.size (w.heap.size + 2) a1 c1 a2 c2 fuse dn L os w2 := ⟨hw2.dk, hw2.re, hf.next hw2.be, SlOf.next hl hw2.be, hw2.be, Nat.le_refl _, by omega, by omega⟩
    replace hkb := Lib.hid hkb
    replace hf2 := Lib.hid hf2
    replace hl2 := Lib.hid hl2
    clear p0 p1 p2 p3 hb2 hw1 hw2 hpa hd2
    obtain ⟨x0, x1, x2, x3⟩ := four_cells hkb.out.res
    obtain ⟨y0, y1, y2, y3⟩ := four_soft hkb.out.res
    obtain ⟨o1, o2, o3⟩ := DkW.out (z := fuse) (b := dn) hkb.out hf2.out hl2.out
    replace o1 := Lib.hid o1
    replace o2 := Lib.hid o2
    replace o3 := Lib.hid o3
    go_wp2_with fail
    refine hide_world (K := fun a w' => bodyPost _ _ _ Exit.ret a w') (R := fun W' => ArrAt W' (w.heap.size + 2) 25 [.slice a3 L.length c3, .slice a4 os.length c4, .int .i64 fuse, .bool dn] ∧ DkV W' (.agg #[.slice a3 L.length c3, .slice a4 os.length c4, .int .i64 fuse, .bool dn]) ⟨L, os, fuse, dn⟩ ∧ Below w.heap.size w W') ⟨o1.out, o2.out, o3.out⟩ ?_
    intro wf hwf
    clear o1 o2 o3 x0 x1 x2 x3 y0 y1 y2 y3
    obtain ⟨k0, k1, k2, k3⟩ := four_cells hwf.out.1
    refine bodyPost_ret (v := .tuple #[.agg #[.slice a3 L.length c3, .slice a4 os.length c4, .int .i64 fuse, .bool dn], .int .i64 1]) (by simp [results, Try.results20, go_sem, k0, k1, k2, k3]) rfl ?_
    exact ⟨_, rfl, hwf.out.2.1, hwf.out.2.2⟩
  | true =>
    rw [if_neg (by simp)]
    obtain ⟨hv, hm, h4⟩ := right_val hR
    replace hTm := hTm hm
    have hval := hv.all hTm
    obtain ⟨N, hN⟩ : ∃ N, all20 L T = N := ⟨_, rfl⟩
    have hdn := fun V fv ov (h1 : AtSl V fv L) (h2 : OpSl V ov T) => dskdone20_any L T fv ov V h1 h2 hv (by omega) hTb
    unfold DonePost at hdn
    rw [hTm, hN] at hdn
    rw [hN] at hval ⊢
    replace hdn := Lib.hid hdn
    replace hval := Lib.hid hval
    clear hpa hTm hTb hv hm hR hN
    go_enter Try.func20, Try.ntmps20
    go_wp2_with fail
    refine (hri.out _ (hd.out.next hw0.out.be)).mono ?_; rintro e w1 ⟨rfl, hb1⟩
    have hw1 := Lib.hid (hw0.out.next hb1)
    clear p0 p1 p2 p3 hb1 hw0 hri
    go_wp2_with fail
    have hw2 := hw1.out.next ((drawn_drew w1).below _)
    have hkeep : Hid (∀ W', Below w1.drew.heap.size w1.drew W' → (W'.cell? ⟨w.heap.size, 0, none⟩ = some (.slice a1 L.length c1) ∧ W'.cell? ⟨w.heap.size, 1, none⟩ = some (.slice a2 os.length c2) ∧ W'.cell? ⟨w.heap.size + 1, 0, none⟩ = some (.int .i64 kp) ∧ W'.cell? ⟨w.heap.size + 1, 1, none⟩ = some (.int .i64 by_) ∧ W'.cell? ⟨w.heap.size + 1, 2, none⟩ = some (.bool bu) ∧ W'.cell? ⟨w.heap.size + 1, 3, none⟩ = some (.int .i64 at_) ∧ W'.cell? ⟨w.heap.size + 1, 4, none⟩ = some (.int .u32 bi))) := Lib.hid fun W' hW' => by
      have h := hw2.next hW'
      obtain ⟨h0, h1, _, _⟩ := four_cells h.dk
      obtain ⟨g0, g1, g2, g3, g4⟩ := five_cells h.cr
      exact ⟨h0, h1, g0, g1, g2, g3, g4⟩
    refine zgo_begin 11 (fun W' => W'.cell? ⟨w.heap.size, 0, none⟩ = some (.slice a1 L.length c1) ∧ W'.cell? ⟨w.heap.size, 1, none⟩ = some (.slice a2 os.length c2) ∧ W'.cell? ⟨w.heap.size + 1, 0, none⟩ = some (.int .i64 kp) ∧ W'.cell? ⟨w.heap.size + 1, 1, none⟩ = some (.int .i64 by_) ∧ W'.cell? ⟨w.heap.size + 1, 2, none⟩ = some (.bool bu) ∧ W'.cell? ⟨w.heap.size + 1, 3, none⟩ = some (.int .i64 at_) ∧ W'.cell? ⟨w.heap.size + 1, 4, none⟩ = some (.int .u32 bi)) (by kernel_rfl) (hkeep.out _ (Below.refl _ _)) ?_
    intro hHeld
    generalize w1.drew = w2 at hHeld hw2 hkeep ⊢
    replace hw2 := Lib.hid hw2
    clear hw1
    refine zgo_take 0 (v := ?_) rfl (by kernel_rfl) (by kernel_rfl) (by kernel_rfl) (by kernel_rfl) (fun _ _ _ h => h) (by rfl) ?_ (by assumption) ?_
    rotate_left
    · (intro w hSw; (try dsimp only at hSw); go_simp; all_goals (with_reducible rfl))
    try simp only [Act.put, List.setIfInBounds_toArray, List.set_cons_zero, List.set_cons_succ]
    refine zgo_take 1 (v := ?_) rfl (by kernel_rfl) (by kernel_rfl) (by kernel_rfl) (by kernel_rfl) (fun _ _ _ h => h) (by rfl) ?_ (by assumption) ?_
    rotate_left
    · (intro w hSw; (try dsimp only at hSw); go_simp; all_goals (with_reducible rfl))
    try simp only [Act.put, List.setIfInBounds_toArray, List.set_cons_zero, List.set_cons_succ]
    refine zgo_take 2 (v := ?_) rfl (by kernel_rfl) (by kernel_rfl) (by kernel_rfl) (by kernel_rfl) (fun _ _ _ h => h) (by rfl) ?_ (by assumption) ?_
    rotate_left
    · (intro w hSw; (try dsimp only at hSw); go_simp; all_goals (with_reducible rfl))
    try simp only [Act.put, List.setIfInBounds_toArray, List.set_cons_zero, List.set_cons_succ]
    refine zgo_take 3 (v := ?_) rfl (by kernel_rfl) (by kernel_rfl) (by kernel_rfl) (by kernel_rfl) (fun _ _ _ h => h) (by rfl) ?_ (by assumption) ?_
    rotate_left
    · (intro w hSw; (try dsimp only at hSw); go_simp; all_goals (with_reducible rfl))
    try simp only [Act.put, List.setIfInBounds_toArray, List.set_cons_zero, List.set_cons_succ]
    refine zgo_take 4 (v := ?_) rfl (by kernel_rfl) (by kernel_rfl) (by kernel_rfl) (by kernel_rfl) (fun _ _ _ h => h) (by rfl) ?_ (by assumption) ?_
    rotate_left
    · (intro w hSw; (try dsimp only at hSw); go_simp; all_goals (with_reducible rfl))
    try simp only [Act.put, List.setIfInBounds_toArray, List.set_cons_zero, List.set_cons_succ]
    refine zgo_ready [5] (by kernel_rfl) (by simp) ?_
    refine ZAll.cons rfl (fun K hK => ?_) ZAll.nil
    go_simp
    go_at_call 39
    (with_reducible refine (hle.out _ _ (SlOf.next hl hw2.out.be) (by omega)).mono ?_)
    rintro e w3 ⟨v3, rfl, ho3, hb3⟩
    obtain ⟨a3, c3, rfl⟩ := own_form ho3
    have hl3 := Lib.hid (slOf_own opC_len (E := 27) (B := w2.heap.size) ho3)
    replace hb3 := Lib.hid hb3
    have hs3 := hb3.out.size
    refine hK.out _ _ (hkeep.out _ hb3.out) (fun hHeld => ?_)
    clear hK K
    try simp only [Act.put, List.setIfInBounds_toArray, List.set_cons_zero, List.set_cons_succ]
    refine zgo_ready [6] (by kernel_rfl) (by simp) ?_
    refine ZAll.cons rfl (fun K hK => ?_) ZAll.nil
    go_simp
    go_at_call 38
    (with_reducible refine (hdn.out _ _ _ (hf.next (hw2.out.be.next hb3.out hw2.out.be.size)) hl3.out).mono ?_)
    rintro e w4 ⟨v4, rfl, hy4, _, hb4⟩
    obtain ⟨ds, k1, k2, k3⟩ := hy4 trivial
    replace hb4 := Lib.hid (hb3.out.andThen hb4)
    obtain ⟨ad, cd, rfl⟩ := k1.form
    have hwr := written20_any _ ds _ w4 k1 ((DrBd.of_val (by rw [k2]; exact hval.out) k3).up (by omega))
    rw [k2] at hwr
    obtain ⟨m, hm⟩ : ∃ m, ds.length = m := ⟨_, rfl⟩
    rw [hm] at hwr ⊢
    have hw4 := Lib.hid (hw2.out.next hb4.out)
    replace hwr := Lib.hid hwr
    clear hm k1 k2 k3 hy4
    refine hK.out _ _ (hkeep.out _ hb4.out) (fun hHeld => ?_)
    clear hK K
    try simp only [Act.put, List.setIfInBounds_toArray, List.set_cons_zero, List.set_cons_succ]
    refine zgo_take 7 (v := ?_) rfl (by kernel_rfl) (by kernel_rfl) (by kernel_rfl) (by kernel_rfl) (fun _ _ _ h => h) (by rfl) ?_ (by assumption) ?_
    rotate_left
    · (intro w hSw; (try dsimp only at hSw); go_simp; all_goals (with_reducible rfl))
    try simp only [Act.put, List.setIfInBounds_toArray, List.set_cons_zero, List.set_cons_succ]
    refine zgo_take 8 (v := ?_) rfl (by kernel_rfl) (by kernel_rfl) (by kernel_rfl) (by kernel_rfl) (fun _ _ _ h => h) (by rfl) ?_ (by assumption) ?_
    rotate_left
    · (intro w hSw; (try dsimp only at hSw); go_simp; all_goals (with_reducible rfl))
    try simp only [Act.put, List.setIfInBounds_toArray, List.set_cons_zero, List.set_cons_succ]
    refine zgo_take 9 (v := ?_) rfl (by kernel_rfl) (by kernel_rfl) (by kernel_rfl) (by kernel_rfl) (fun _ _ _ h => h) (by rfl) ?_ (by assumption) ?_
    rotate_left
    · (intro w hSw; (try dsimp only at hSw); go_simp; all_goals (with_reducible rfl))
    try simp only [Act.put, List.setIfInBounds_toArray, List.set_cons_zero, List.set_cons_succ]
    refine zgo_take 10 (v := ?_) rfl (by kernel_rfl) (by kernel_rfl) (by kernel_rfl) (by kernel_rfl) (fun _ _ _ h => h) (by rfl) ?_ (by assumption) ?_
    rotate_left
    · (intro w hSw; (try dsimp only at hSw); go_simp; all_goals (with_reducible rfl))
    try simp only [Act.put, List.setIfInBounds_toArray, List.set_cons_zero, List.set_cons_succ]
    refine zgo_last (by kernel_rfl) (by kernel_rfl) rfl (fun K hK => ?_)
    go_simp
    refine hK.out _ _ ?_
    clear hK K hHeld hkeep hw2 hle hdn
    go_wp2_with fail
    refine hwr.out.mono ?_; rintro e w5 ⟨v5, rfl, ho5, hb5⟩
    obtain ⟨a5, c5, rfl⟩ := own_form ho5
    have hw5 := hw4.out.next hb5
    have hkb : DkW w w.heap.size (w.heap.size + 2) a1 c1 a2 c2 fuse dn L os w5 := ⟨hw5.dk, hw5.re, hf.next hw5.be, SlOf.next hl hw5.be, hw5.be, Nat.le_refl _, by omega, by omega⟩
    have hf5 := Lib.hid (Fls.sl ho5)
    have hl5 : Hid (OpSl w5 (.slice none 0 0) []) := Lib.hid (slOf_nil _ _ _)
    replace hkb := Lib.hid hkb
    clear hwr hw4 hw5 ho5 hb5 hb4 hb3 ho3 hl3
    obtain ⟨x0, x1, x2, x3⟩ := four_cells hkb.out.res
    obtain ⟨y0, y1, y2, y3⟩ := four_soft hkb.out.res
    obtain ⟨o1, o2, o3⟩ := DkW.out (z := fz) (b := false) hkb.out hf5.out hl5.out
    replace o1 := Lib.hid o1
    replace o2 := Lib.hid o2
    replace o3 := Lib.hid o3
    go_wp2_with fail
    refine hide_world (K := fun a w' => bodyPost _ _ _ Exit.ret a w') (R := fun W' => ArrAt W' (w.heap.size + 2) 25 [.slice a5 N.length c5, .slice none 0 0, .int .i64 fz, .bool false] ∧ DkV W' (.agg #[.slice a5 N.length c5, .slice none 0 0, .int .i64 fz, .bool false]) ⟨N, [], fz, false⟩ ∧ Below w.heap.size w W') ⟨o1.out, o2.out, o3.out⟩ ?_
    intro wf hwf
    clear o1 o2 o3 x0 x1 x2 x3 y0 y1 y2 y3
    obtain ⟨k0, k1, k2, k3⟩ := four_cells hwf.out.1
    refine bodyPost_ret (v := .tuple #[.agg #[.slice a5 N.length c5, .slice none 0 0, .int .i64 fz, .bool false], .int .i64 0]) (by simp [results, Try.results20, go_sem, k0, k1, k2, k3]) rfl ?_
    exact ⟨_, rfl, hwf.out.2.1, hwf.out.2.2⟩
end Go.Proofs.Ytahndjgamoojkaa

/- All walks of disk of layer 20. -/
namespace Go.Proofs.Ytahndjgamoojkaa
end Go.Proofs.Ytahndjgamoojkaa

/- The law's awake of layer 20. -/
namespace Go.Proofs.Ytahndjgamoojkaa
open Go.RowKit

def oA : Op20 := ⟨1, [97], [], [120, 121, 122], 0⟩
def dA : Dk20 := ⟨[], [], -1, false⟩
def dB : Dk20 := ⟨[], [oA], -1, false⟩
def dC : Dk20 := ⟨[([97], [120, 121])], [], -1, false⟩
def dD : Dk20 := ⟨[([97], [120, 121, 122])], [], -1, false⟩
theorem awake_do : doD dA oA = (dB, 0) := by rfl
theorem awake_get : getT dB [97] = [120, 121, 122] ∧ getC dB [97] = 0 := by constructor <;> rfl
theorem awake_fall : fallD dB ⟨0, 2, false, 0, 0⟩ (-1) = (dC, 0) := by rfl
theorem awake_sync : syncD dB = (dD, 0) := by rfl
theorem awake_fall2 : fallD dD ⟨0, 0, false, 0, 0⟩ (-1) = (dD, 0) := by rfl
theorem bd_A : DkBd dA := by unfold DkBd dA; simp
theorem bd_B : DkBd dB := by unfold DkBd dB oA; simp
theorem bd_D : DkBd dD := by unfold DkBd dD; simp
set_option maxHeartbeats 2000000 in
set_option maxRecDepth 100000 in
theorem awake20_any (w : World) : Calls Try.prog 8 #[] w fun e w' => e = .returned (.bool true) ∧ Below w.heap.size w w' := by
  have h1 := dskdo20_any dA oA (.agg (dkC (.slice none 0 0) (.slice none 0 0) dA).toArray) (w.alloc (.cells [.slice none 0 0, .slice none 0 0, .int .i64 (-1), .bool false].toArray 25)) (dkV_mk (Or.inl ⟨rfl, none, 0, rfl⟩) (slOf_nil _ _ _)) bd_A (by decide) (by decide) (by decide) (by decide) (by decide)
  rw [awake_do] at h1
  unfold dkC opV opC strV dA oA at h1
  simp only at h1
  replace h1 := Lib.hid h1
  have hbx := (Below.refl w.heap.size w).alloc (Nat.le_refl _) (.cells [.slice none 0 0, .slice none 0 0, .int .i64 (-1), .bool false].toArray 25)
  have hbox := arrAt_new w 25 [Value.slice none 0 0, .slice none 0 0, .int .i64 (-1), .bool false]
  replace hbx := Lib.hid hbx
  replace hbox := Lib.hid hbox
  go_enter Try.func8, Try.ntmps8
  go_wp2_with fail
  (with_reducible refine h1.out.mono ?_); rintro e w1 ⟨v1, rfl, hd1, hb1⟩
  obtain ⟨f1, l1, rfl, hf1, hl1⟩ := hd1
  obtain ⟨af, cf, rfl⟩ := hf1.form
  obtain ⟨al, cl, rfl⟩ := hl1.form
  replace hbx := Lib.hid (hbx.out.next hb1 hbx.out.size)
  replace hbox := Lib.hid (hbox.out.next hb1)
  replace hf1 := Lib.hid hf1
  replace hl1 := Lib.hid hl1
  obtain ⟨s0, s1, s2, s3⟩ := four_soft hbox.out
  obtain ⟨r0, r1, r2, r3⟩ := four_cells hbox.out
  clear h1 hb1
  unfold dkC dB at *
  simp only at hf1 hl1
  obtain ⟨hB, hbs⟩ := dkBox_set (B := w.heap.size) (x := dB) hbox.out hf1.out hl1.out (Nat.le_refl _)
  have hbx2 := Lib.hid (hbx.out.trans hbs)
  have hg := Lib.hid (dskget20_any dB [97] _ _ hB.val bd_B)
  have hB2 := Lib.hid hB
  clear hbs hB
  rw [awake_get.1, awake_get.2] at hg
  have hfl := Lib.hid (fun V v (h : DkV V v dB) => dskfall20_any dB ⟨0, 2, false, 0, 0⟩ (-1) v V h bd_B (by decide) (by decide) (by decide) (by decide) (by decide) (by decide) (by decide) (by decide))
  rw [awake_fall] at hfl
  have hsy := Lib.hid (fun V v (h : DkV V v dB) => dsksync20_any dB v V h bd_B (by decide) (by decide) (by decide))
  rw [awake_sync] at hsy
  have hfm := Lib.hid (fun V v (h : DkV V v dD) => dskfall20_any dD ⟨0, 0, false, 0, 0⟩ (-1) v V h bd_D (by decide) (by decide) (by decide) (by decide) (by decide) (by decide) (by decide) (by decide))
  rw [awake_fall2] at hfm
  unfold crV crC at hfl hfm
  simp only at hfl hfm
  clear hf1 hl1 hbx
  go_wp2_with fail
  clear r0 r1 r2 r3 s0 s1 s2 s3 hbox
  have hg1 := hg.out
  unfold dkC dB at hg1
  simp only at hg1
  refine hg1.mono ?_; rintro e w2 ⟨rfl, hb2⟩
  replace hB2 := Lib.hid (hB2.out.next hb2)
  replace hbx2 := Lib.hid (hbx2.out.next hb2 hbx2.out.size)
  have hcs := hB2.out.1
  unfold dkC dB at hcs
  simp only at hcs
  obtain ⟨r0, r1, r2, r3⟩ := four_cells hcs
  clear hg hb2 hcs
  go_wp2_with fail
  have hv := hB2.out.val
  unfold dkC at hv
  have hg1 := hfl.out _ _ hv
  unfold dB at hg1
  simp only at hg1
  refine hg1.mono ?_; rintro e w3 ⟨v3, rfl, hd3, hb3⟩
  obtain ⟨a3, c3, a3', c3', rfl, hf3, hl3⟩ := dkV_open (L := [([97], [120, 121])]) (os := []) (z := -1) (b := false) hd3
  clear hv hfl r0 r1 r2 r3 hd3
  replace hB2 := Lib.hid (hB2.out.next hb3)
  replace hbx2 := Lib.hid (hbx2.out.next hb3 hbx2.out.size)
  clear hb3
  have hn5 := arrAt_new w3 25 [Value.slice none 0 0, .slice none 0 0, .int .i64 0, .bool false]
  obtain ⟨u0, u1, u2, u3⟩ := four_cells hn5
  obtain ⟨s0, s1, s2, s3⟩ := four_soft hn5
  have hba := (Below.refl w3.heap.size w3).alloc (Nat.le_refl _) (.cells [Value.slice a3 1 c3, .slice a3' 0 c3', .int .i64 (-1), .bool false].toArray 25)
  have hX : DkBox _ w3.heap.size (.slice a3 1 c3) (.slice a3' 0 c3') dC := ⟨arrAt_new w3 25 [.slice a3 1 c3, .slice a3' 0 c3', .int .i64 (-1), .bool false], hf3.next hba, hl3.next hba⟩
  replace hB2 := Lib.hid (hB2.out.next hba)
  replace hbx2 := Lib.hid (hbx2.out.trans (hba.mono hbx2.out.size))
  replace hX := Lib.hid hX
  have hz3 := hbx2.out.size
  clear hba hn5 hf3 hl3
  go_upto_region 5 with fail
  refine hide_world (K := fun a w' => Code.wp _ _ _ a w') (R := fun W => DkBox W w.heap.size (.slice af 0 cf) (.slice al 1 cl) dB ∧ DkBox W w3.heap.size (.slice a3 1 c3) (.slice a3' 0 c3') dC ∧ Below w.heap.size w W) ⟨hB2.out, hX.out, hbx2.out⟩ ?_
  intro W4 hW4
  clear u0 u1 u2 u3 s0 s1 s2 s3 hB2 hX hbx2
  obtain ⟨hB2, hX, hbx2⟩ := hW4.out
  clear hW4
  have hv := hB2.val
  have hcs := hB2.1
  unfold dkC dB at hcs
  simp only at hcs
  obtain ⟨r0, r1, r2, r3⟩ := four_cells hcs
  replace hX := Lib.hid hX
  replace hbx2 := Lib.hid hbx2
  clear hcs hB2
  unfold dkC at hv
  have hg1 := hsy.out _ _ hv
  unfold dB at hg1
  simp only at hg1
  clear hv hsy
  go_wp2_with fail
  refine hg1.mono ?_; rintro e w5 ⟨v5, rfl, hd5, hb5⟩
  obtain ⟨a5, c5, a5', c5', rfl, hf5, hl5⟩ := dkV_open (L := [([97], [120, 121, 122])]) (os := []) (z := -1) (b := false) hd5
  clear hg1 r0 r1 r2 r3 hd5
  replace hX := Lib.hid (hX.out.next hb5)
  replace hbx2 := Lib.hid (hbx2.out.next hb5 hbx2.out.size)
  clear hb5
  have hn5 := arrAt_new w5 25 [Value.slice none 0 0, .slice none 0 0, .int .i64 0, .bool false]
  obtain ⟨u0, u1, u2, u3⟩ := four_cells hn5
  obtain ⟨s0, s1, s2, s3⟩ := four_soft hn5
  have hba := (Below.refl w5.heap.size w5).alloc (Nat.le_refl _) (.cells [Value.slice a5 1 c5, .slice a5' 0 c5', .int .i64 (-1), .bool false].toArray 25)
  have hY : DkBox _ w5.heap.size (.slice a5 1 c5) (.slice a5' 0 c5') dD := ⟨arrAt_new w5 25 [.slice a5 1 c5, .slice a5' 0 c5', .int .i64 (-1), .bool false], hf5.next hba, hl5.next hba⟩
  replace hX := Lib.hid (hX.out.next hba)
  replace hbx2 := Lib.hid (hbx2.out.trans (hba.mono hbx2.out.size))
  replace hY := Lib.hid hY
  clear hba hn5 hf5 hl5
  go_upto_region 6 with fail
  refine hide_world (K := fun a w' => Code.wp _ _ _ a w') (R := fun W => DkBox W w5.heap.size (.slice a5 1 c5) (.slice a5' 0 c5') dD ∧ DkBox W w3.heap.size (.slice a3 1 c3) (.slice a3' 0 c3') dC ∧ Below w.heap.size w W) ⟨hY.out, hX.out, hbx2.out⟩ ?_
  intro W6 hW6
  clear u0 u1 u2 u3 s0 s1 s2 s3 hY hX hbx2
  obtain ⟨hY, hX, hbx2⟩ := hW6.out
  clear hW6
  have hv := hY.val
  have hcs := hY.1
  unfold dkC dD at hcs
  simp only at hcs
  obtain ⟨r0, r1, r2, r3⟩ := four_cells hcs
  replace hX := Lib.hid hX
  replace hbx2 := Lib.hid hbx2
  clear hcs hY
  unfold dkC at hv
  have hg1 := hfm.out _ _ hv
  unfold dD at hg1
  simp only at hg1
  clear hv hfm
  go_wp2_with fail
  refine hg1.mono ?_; rintro e w7 ⟨v7, rfl, hd7, hb7⟩
  obtain ⟨a7, c7, a7', c7', rfl, hf7, hl7⟩ := dkV_open (L := [([97], [120, 121, 122])]) (os := []) (z := -1) (b := false) hd7
  clear hg1 r0 r1 r2 r3 hd7
  replace hX := Lib.hid (hX.out.next hb7)
  replace hbx2 := Lib.hid (hbx2.out.next hb7 hbx2.out.size)
  clear hb7
  have hn5 := arrAt_new w7 25 [Value.slice none 0 0, .slice none 0 0, .int .i64 0, .bool false]
  obtain ⟨u0, u1, u2, u3⟩ := four_cells hn5
  obtain ⟨s0, s1, s2, s3⟩ := four_soft hn5
  have hba := (Below.refl w7.heap.size w7).alloc (Nat.le_refl _) (.cells [Value.slice a7 1 c7, .slice a7' 0 c7', .int .i64 (-1), .bool false].toArray 25)
  have hZ : DkBox _ w7.heap.size (.slice a7 1 c7) (.slice a7' 0 c7') dD := ⟨arrAt_new w7 25 [.slice a7 1 c7, .slice a7' 0 c7', .int .i64 (-1), .bool false], hf7.next hba, hl7.next hba⟩
  replace hX := Lib.hid (hX.out.next hba)
  replace hbx2 := Lib.hid (hbx2.out.trans (hba.mono hbx2.out.size))
  replace hZ := Lib.hid hZ
  clear hba hn5 hf7 hl7
  go_upto_region 7 with fail
  refine hide_world (K := fun a w' => Code.wp _ _ _ a w') (R := fun W => DkBox W w7.heap.size (.slice a7 1 c7) (.slice a7' 0 c7') dD ∧ DkBox W w3.heap.size (.slice a3 1 c3) (.slice a3' 0 c3') dC ∧ Below w.heap.size w W) ⟨hZ.out, hX.out, hbx2.out⟩ ?_
  intro W8 hW8
  clear u0 u1 u2 u3 s0 s1 s2 s3 hZ hX hbx2
  obtain ⟨hZ, hX, hbx2⟩ := hW8.out
  obtain ⟨b1, o1, _, _, _, e1, x1⟩ := hX.2.1.some (by unfold dC; simp)
  obtain ⟨b2, o2, _, _, _, e2, x2⟩ := hZ.2.1.some (by unfold dD; simp)
  injection e1 with e1 e1b e1c
  injection e2 with e2 e2b e2c
  clear e1b e1c e2b e2c
  subst e1 e2
  obtain ⟨_, y1⟩ := x1 0 (by decide)
  obtain ⟨_, y2⟩ := x2 0 (by decide)
  have y1' : W8.cell? ⟨b1, o1 + 1, none⟩ = some (.string ⟨#[120, 121]⟩) := by simpa [dC, strV] using y1
  have y2' : W8.cell? ⟨b2, o2 + 1, none⟩ = some (.string ⟨#[120, 121, 122]⟩) := by simpa [dD, strV] using y2
  have q1 := hX.1.cell 0
  have q2 := hZ.1.cell 0
  unfold dkC at q1 q2
  simp only [List.getElem?_cons_zero] at q1 q2
  replace hbx2 := Lib.hid hbx2
  clear x1 x2 y1 y2 hX hZ hW8
  go_wp2_with fail
  go_ret
  exact ⟨rfl, hbx2.out⟩
end Go.Proofs.Ytahndjgamoojkaa
