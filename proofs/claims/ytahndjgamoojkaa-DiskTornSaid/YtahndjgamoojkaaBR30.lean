/- The walk of disk.step of layer 20: kind 2. (Printed by wip/tools/gen_step20.py.) -/
import Derived.Test.YtahndjgamoojkaaBR29
import Derived.Test.YtahndjgamoojkaaBR26
import Derived.Test.YtahndjgamoojkaaBR28
namespace Go.Proofs.Ytahndjgamoojkaa
open Go.RowKit

set_option maxHeartbeats 4000000 in
set_option maxRecDepth 100000 in
theorem step20_2 (ds : List Dr20) (nm tn dt : List UInt8) (sz : Int) (v : Value) (B N : Nat) (w : World) (hv : DrAt w B v ds) (hvl : Val20 (fls20 ds)) (hps : ∀ d ∈ ds, d.ps.length ≤ N) (hN : N ≤ 900000) (hm : may20 (fls20 ds) ⟨2, nm, tn, dt, sz⟩ = 0) (hB : B ≤ w.heap.size) :
    Calls Try.prog 55 #[v, opV ⟨2, nm, tn, dt, sz⟩] w (StepPost w B (N + 1) (done20 (fls20 ds) ⟨2, nm, tn, dt, sz⟩)) := by
  have hbd := DrBd.of_val hvl hps
  have hok := may_ok hm
  have hfl := fls_len ds
  have hfew := hvl.few
  have hs := hvl.rise
  simp only at hok
  rw [hfl] at hfew
  obtain ⟨a, c, rfl⟩ := hv.form
  obtain ⟨n, hn⟩ : ∃ n, ds.length = n := ⟨_, rfl⟩
  rw [hn] at hfl hfew hv ⊢
  have hbx := Lib.hid ((Below.refl w.heap.size w).alloc (Nat.le_refl _) (.cells [Value.int .i64 2, .string ⟨nm.toArray⟩, .string ⟨tn.toArray⟩, .string ⟨dt.toArray⟩, .int .i64 sz].toArray 27))
  have hv1 := hv.below hbx.out
  have hbox := arrAt_new w 27 [Value.int .i64 2, .string ⟨nm.toArray⟩, .string ⟨tn.toArray⟩, .string ⟨dt.toArray⟩, .int .i64 sz]
  unfold opV opC strV
  simp only
  obtain ⟨W, hW⟩ : ∃ W, w.alloc (.cells [Value.int .i64 2, .string ⟨nm.toArray⟩, .string ⟨tn.toArray⟩, .string ⟨dt.toArray⟩, .int .i64 sz].toArray 27) = W := ⟨_, rfl⟩
  rw [hW] at hbx hv1 hbox
  obtain ⟨b0, b1, b2, b3, b4⟩ := five_cells hbox
  have hfd := dskfind20_any (.slice a n c) ds nm B W hv1 hs (by omega)
  replace hfd := Lib.hid hfd
  replace hbox := Lib.hid hbox
  replace hv1 := Lib.hid hv1
  replace hs := Lib.hid hs
  clear hv
  have hp := hok.1 (by decide)
  have hz := hok.2 trivial
  obtain ⟨z, rfl⟩ : ∃ z : Nat, sz = z := ⟨sz.toNat, by omega⟩
  have hpd : pos20 (fls20 ds) nm < ds.length := by omega
  have hat := at_pos hs.out hp
  have hpn := pos_name (fls20 ds) nm hp
  rw [fls_at ds _ hpd] at hpn
  have hdp := data_pos (fls20 ds) nm hp
  rw [fls_at ds _ hpd] at hdp
  simp only at hpn hdp
  have hpk : decide (pos20 (fls20 ds) nm < (fls20 ds).length) = true := decide_eq_true hp
  unfold FindPost20 at hfd
  rw [hpk, hat] at hfd
  obtain ⟨i, hi⟩ : ∃ i, pos20 (fls20 ds) nm = i := ⟨_, rfl⟩
  simp only [hi] at hfd hpd hpn hdp
  have hmid := mid_eq ds i hpd
  have hAl : (ds.take i).length = i := by rw [List.length_take]; omega
  obtain ⟨x, hx0⟩ : ∃ x, ds[i]'hpd = x := ⟨_, rfl⟩
  rw [hx0] at hmid hpn hdp
  generalize ds.take i = A at hmid hAl
  generalize ds.drop (i + 1) = C at hmid
  clear hx0 hi hpk hat
  subst hmid
  subst hAl
  replace hn := Lib.hid hn
  replace hpn := Lib.hid hpn
  replace hdp := Lib.hid hdp
  have hzr : z ≤ x.text.length := by
    have := hz.2
    rw [hdp.out] at this
    omega
  have hroom := hbd.txt x (by simp)
  replace hz := Lib.hid hz
  go_enter Try.func55, Try.ntmps55
  go_wp2_with fail
  refine hfd.out.mono ?_; rintro e w1 ⟨rfl, hb1⟩
  have hbox1 := hbox.out.next hb1
  obtain ⟨c0, c1, c2, c3, c4⟩ := five_cells hbox1
  have hv2 := hv1.out.below hb1
  have hlw := hbox.out.lt
  have hs1 := hb1.size
  replace hb1 : Hid (Below B w w1) := Lib.hid ((hbx.out.next hb1 hbx.out.size).mono hB)
  clear b0 b1 b2 b3 b4 hfd
  obtain ⟨g, cap, hv3, hc1, hc2, _, hg, _⟩ := hv2.some_ (by rw [hn.out]; have := hn.out; simp at this; omega)
  rw [hn.out] at hv3 hc1
  injection hv3 with e1 e3 e4
  subst e1 e4
  clear e3
  go_wp2_with fail
  have hT0 := (TurnW.mk0 hv2 hn.out hbox1).next (hv2.pcs.ins x (by simp)) (Turned.of_below ((drawn_drew w1).below _))
  obtain ⟨x0, x1, x2⟩ := hT0.cells
  have x3 := (five_cells hT0.box).2.2.2.2
  have hxp : Strs w1.drew B x.pv x.ps := ownsRow_below (hv2.pcs.ins x (by simp)) ((drawn_drew w1).below _)
  have hBw : B ≤ w1.drew.heap.size := Nat.le_trans (show B ≤ w1.heap.size by omega) ((drawn_drew w1).below 0).size
  have hvd2 := hv2.below ((drawn_drew w1).below _)
  have hbw := Lib.hid (hb1.out.trans ((drawn_drew w1).below _))
  obtain ⟨a2, c2', e2⟩ := own_form hxp
  unfold strV at x0
  rw [e2] at x1
  have k0 : (0 : Int) ≤ A.length := by omega
  have k1 : (A.length : Int) < n := by have := hn.out; simp at this; omega
  replace hv2 := Lib.hid hv2
  replace hbox1 := Lib.hid hbox1
  have hxN : x.ps.length ≤ N := hps x (by simp)
  have hmo := fun V (h1 : Strs V B x.pv x.ps) (h2 : B ≤ V.heap.size) => less_turn x z B (N + 1) e2 rfl V h1 h2 (by omega) (by omega) hroom hzr
  replace hmo := Lib.hid hmo
  refine zgo_begin 10 (fun W' => W'.cell? ⟨g, A.length * 3, none⟩ = some (.string ⟨x.name.toArray⟩) ∧ W'.cell? ⟨g, A.length * 3 + 1, none⟩ = some (.slice a2 x.ps.length c2') ∧ W'.cell? ⟨g, A.length * 3 + 2, none⟩ = some (.int .i64 x.text.length) ∧ W'.cell? ⟨w.heap.size, 4, none⟩ = some (.int .i64 z)) (by kernel_rfl) ⟨x0, x1, x2, x3⟩ ?_
  intro hHeld
  generalize w1.drew = w2 at hHeld hT0 x0 x1 x2 x3 hxp hBw hvd2 hbw ⊢
  replace hT0 := Lib.hid hT0
  replace hxp := Lib.hid hxp
  replace hvd2 := Lib.hid hvd2
  clear c0 c1 c2 c3 c4
  refine zgo_take 0 (v := ?_) rfl (by kernel_rfl) (by kernel_rfl) (by kernel_rfl) (by kernel_rfl) (fun _ _ _ h => h) (by rfl) ?_ (by assumption) ?_
  rotate_left
  · (intro w hSw; (try dsimp only at hSw); go_simp; all_goals (with_reducible rfl))
  try simp only [Act.put, List.setIfInBounds_toArray, List.set_cons_zero, List.set_cons_succ]
  refine zgo_take 1 (v := ?_) rfl (by kernel_rfl) (by kernel_rfl) (by kernel_rfl) (by kernel_rfl) (fun _ _ _ h => h) (by rfl) ?_ (by assumption) ?_
  rotate_left
  · (intro w hSw; (try dsimp only at hSw); go_simp; all_goals (with_reducible rfl))
  try simp only [Act.put, List.setIfInBounds_toArray, List.set_cons_zero, List.set_cons_succ]
  refine zgo_take 2 (v := ?_) rfl (by kernel_rfl) (by kernel_rfl) (by kernel_rfl) (by kernel_rfl) (fun _ _ _ h => h) (by rfl) ?_ (by assumption) ?_
  rotate_left
  · (intro w hSw; (try dsimp only at hSw); go_simp; all_goals (with_reducible rfl))
  try simp only [Act.put, List.setIfInBounds_toArray, List.set_cons_zero, List.set_cons_succ]
  refine zgo_take 3 (v := ?_) rfl (by kernel_rfl) (by kernel_rfl) (by kernel_rfl) (by kernel_rfl) (fun _ _ _ h => h) (by rfl) ?_ (by assumption) ?_
  rotate_left
  · (intro w hSw; (try dsimp only at hSw); go_simp; all_goals (with_reducible rfl))
  try simp only [Act.put, List.setIfInBounds_toArray, List.set_cons_zero, List.set_cons_succ]
  refine zgo_take 4 (v := ?_) rfl (by kernel_rfl) (by kernel_rfl) (by kernel_rfl) (by kernel_rfl) (fun _ _ _ h => h) (by rfl) ?_ (by assumption) ?_
  rotate_left
  · (intro w hSw; (try dsimp only at hSw); go_simp; all_goals (with_reducible rfl))
  try simp only [Act.put, List.setIfInBounds_toArray, List.set_cons_zero, List.set_cons_succ]
  refine zgo_take 5 (v := ?_) rfl (by kernel_rfl) (by kernel_rfl) (by kernel_rfl) (by kernel_rfl) (fun _ _ _ h => h) (by rfl) ?_ (by assumption) ?_
  rotate_left
  · (intro w hSw; (try dsimp only at hSw); go_simp; all_goals (with_reducible rfl))
  try simp only [Act.put, List.setIfInBounds_toArray, List.set_cons_zero, List.set_cons_succ]
  refine zgo_take 6 (v := ?_) rfl (by kernel_rfl) (by kernel_rfl) (by kernel_rfl) (by kernel_rfl) (fun _ _ _ h => h) (by rfl) ?_ (by assumption) ?_
  rotate_left
  · (intro w hSw; (try dsimp only at hSw); go_simp; all_goals (with_reducible rfl))
  try simp only [Act.put, List.setIfInBounds_toArray, List.set_cons_zero, List.set_cons_succ]
  refine zgo_take 7 (v := ?_) rfl (by kernel_rfl) (by kernel_rfl) (by kernel_rfl) (by kernel_rfl) (fun _ _ _ h => h) (by rfl) ?_ (by assumption) ?_
  rotate_left
  · (intro w hSw; (try dsimp only at hSw); go_simp; all_goals (with_reducible rfl))
  try simp only [Act.put, List.setIfInBounds_toArray, List.set_cons_zero, List.set_cons_succ]
  refine zgo_ready [8] (by kernel_rfl) (by simp) ?_
  refine ZAll.cons rfl (fun K hK => ?_) ZAll.nil
  go_simp
  go_at_call 63
  (with_reducible refine (hmo.out _ hxp.out hBw).mono ?_)
  rintro e w4 ⟨y, a4, m4, c4', T4, rfl, y1, y2, y3, y4, y5, hp4, ht4, hw4⟩
  have hy := Lib.hid (And.intro y1 (And.intro y2 (And.intro y3 (And.intro y4 y5))))
  clear y1 y2 y3 y4 y5
  have hT4 := hT0.out.next hxp.out ht4
  obtain ⟨x0', x1', x2'⟩ := hT4.cells
  have x3' := (five_cells hT4.box).2.2.2.2
  obtain ⟨s0', s1', s2'⟩ := hT4.soft
  rw [e2] at x1'
  unfold strV at x0'
  have hfin := Lib.hid (fun u hu hL hN => turn_done (w0 := w) (N := N + 1) (k' := y) (u := u) (L := done20 (fls20 (A ++ x :: C)) ⟨2, nm, tn, dt, z⟩) hvd2.out hn.out hp4 ht4 hw4 hu hBw hbw.out hL hN)
  refine hK.out _ _ (⟨x0', x1', x2', x3'⟩) (fun hHeld => ?_)
  clear hK K
  try simp only [Act.put, List.setIfInBounds_toArray, List.set_cons_zero, List.set_cons_succ]
  refine zgo_take 9 (v := ?_) rfl (by kernel_rfl) (by kernel_rfl) (by kernel_rfl) (by kernel_rfl) (fun _ _ _ h => h) (by rfl) ?_ (by assumption) ?_
  rotate_left
  · (intro w hSw; (try dsimp only at hSw); go_simp; all_goals (with_reducible rfl))
  try simp only [Act.put, List.setIfInBounds_toArray, List.set_cons_zero, List.set_cons_succ]
  refine zgo_last (by kernel_rfl) (by kernel_rfl) rfl (fun K hK => ?_)
  go_simp
  refine hK.out _ _ ?_
  clear hK K
  go_wp2_with fail
  go_ret
  have hf := hfin.out (.int .i64 T4) (by rw [hy.out.2.2.1]) (by rw [fls_put hs.out hpn.out (hy.out.2.1.trans hpn.out) hy.out.2.2.2.1]; unfold done20; rw [if_neg (by simp), if_pos rfl]; simp only; rw [hdp.out]; simp) (ps_mid hps hy.out.2.2.2.2)
  rw [hy.out.1, hy.out.2.1] at hf
  unfold strV at hf
  exact hf
end Go.Proofs.Ytahndjgamoojkaa

/- The walk of disk.renamed of layer 20. -/
namespace Go.Proofs.Ytahndjgamoojkaa
open Go.RowKit

theorem fls_drop {A C : List Dr20} {x : Dr20} {nm : List UInt8} (hs : Rise20 (fls20 (A ++ x :: C))) (hx : x.name = nm) : drop20 (fls20 (A ++ x :: C)) nm = fls20 (A ++ C) := by
  have hl : A.length < (fls20 (A ++ x :: C)).length := by rw [fls_len]; simp
  have h := rise_drop hs A.length hl
  rw [fls_at _ _ (by simp)] at h
  simp only [List.getElem_append_right (Nat.le_refl A.length), Nat.sub_self, List.getElem_cons_zero] at h
  rw [hx] at h
  rw [h]
  have hA : A.length = (fls20 A).length := (fls_len A).symm
  rw [fls_app, fls_app, hA, List.take_left']
  · congr 1
    rw [List.drop_append, List.drop_of_length_le (by omega), List.nil_append, show (fls20 A).length + 1 - (fls20 A).length = 1 by omega]
    rfl
  · rfl
theorem drop_mid {A C : List Dr20} {x : Dr20} : (A ++ x :: C).take A.length ++ (A ++ x :: C).drop (A.length + 1) = A ++ C := by
  rw [List.take_left' rfl]
  congr 1
  rw [List.drop_append, List.drop_of_length_le (by omega), List.nil_append, show A.length + 1 - A.length = 1 by omega]
  rfl
set_option maxHeartbeats 4000000 in
set_option maxRecDepth 100000 in
theorem renamed20_any (A C : List Dr20) (x : Dr20) (n c : Nat) (a : Option Addr) (tn : List UInt8) (B N : Nat) (w : World) (hv : DrAt w B (.slice a n c) (A ++ x :: C)) (hn : (A ++ x :: C).length = n) (hvl : Val20 (fls20 (A ++ x :: C))) (hps : ∀ d ∈ A ++ x :: C, d.ps.length ≤ N) (hB : B ≤ w.heap.size) :
    Calls Try.prog 64 #[.slice a n c, .int .i64 A.length, .string ⟨tn.toArray⟩] w (StepPost w B N (put20 (drop20 (fls20 (A ++ x :: C)) x.name) tn x.text)) := by
  have hs := hvl.rise
  have hfew := hvl.few
  rw [fls_len, hn] at hfew
  rw [fls_drop hs rfl]
  have hs2 : Rise20 (fls20 (A ++ C)) := by rw [← fls_drop hs rfl]; exact drop_rise _ hs
  have hlen : (A ++ C).length + 1 = n := by rw [← hn]; simp; omega
  obtain ⟨g, cap, hv0, hc1, hc2, hBg, hg, hcell⟩ := hv.some_ (by simp; omega)
  rw [hn] at hv0 hc1
  injection hv0 with e1 e2 e3
  subst e1 e3
  clear e2
  obtain ⟨x0, x1, x2⟩ := hcell A.length (by simp)
  have hgx : (A ++ x :: C)[A.length]'(by simp) = x := by simp
  rw [hgx] at x0 x1 x2
  obtain ⟨a2, c2', e2⟩ := own_form (hv.pcs.ins x (by simp))
  unfold strV at x0
  rw [e2] at x1
  have hAn : A.length < n := by rw [← hn]; simp
  have k0 : (0 : Int) ≤ A.length := by omega
  have k1 : (A.length : Int) < n := by omega
  have kw : IntKind.i64.wrap ((A.length : Int) + 1) = (A.length : Int) + 1 := by rw [IntKind.wrap_i64]; omega
  clear hcell hgx
  have hb1 := (Below.refl w.heap.size w).alloc (Nat.le_refl _) (.cells [Value.string ⟨tn.toArray⟩, .slice a2 x.ps.length c2', .int .i64 x.text.length].toArray 64)
  have hbx := arrAt_new w 64 [Value.string ⟨tn.toArray⟩, .slice a2 x.ps.length c2', .int .i64 x.text.length]
  have hvW := hv.below hb1
  have hdl := drdel_any (.slice (some ⟨g, 0, none⟩) n c) (A ++ x :: C) A.length B _ hvW (by simp) (by have := hb1.size; omega)
  rw [drop_mid] at hdl
  simp only [List.getElem_append_right (Nat.le_refl A.length), Nat.sub_self, List.getElem_cons_zero] at hdl
  replace hdl := Lib.hid hdl
  obtain ⟨y, hy⟩ : ∃ y, (⟨tn, x.ps, x.pv⟩ : Dr20) = y := ⟨_, rfl⟩
  have hyn : y.name = tn := by rw [← hy]
  have hyp : y.ps = x.ps := by rw [← hy]
  have hyv : y.pv = x.pv := by rw [← hy]
  have hyt : y.text = x.text := by unfold Dr20.text; rw [hyp]
  have hyc : drC y = [Value.string ⟨tn.toArray⟩, .slice a2 x.ps.length c2', .int .i64 x.text.length] := by unfold drC strV; rw [hyn, hyv, hyt, e2]
  have hyN : y.ps.length ≤ N := by rw [hyp]; exact hps x (by simp)
  have hpsR : ∀ d ∈ A ++ C, d.ps.length ≤ N := fun d hd => hps d (by rcases List.mem_append.1 hd with h | h <;> simp [h])
  replace hs := Lib.hid hs
  replace hs2 := Lib.hid hs2
  replace hbx := Lib.hid hbx
  replace hb1 := Lib.hid hb1
  replace hyn := Lib.hid hyn
  replace hyp := Lib.hid hyp
  replace hyv := Lib.hid hyv
  replace hyt := Lib.hid hyt
  replace hyc := Lib.hid hyc
  replace hlen := Lib.hid hlen
  clear hvW
  go_enter Try.func64, Try.ntmps64
  go_wp2_with fail
  refine hdl.out.mono ?_; rintro e w2 ⟨v2, rfl, hv2, hp2, hg2, hw2⟩
  have hbx2 := hbx.out.grown hg2 (fun e => by have e' : some w.heap.size = some g := e; injection e' with e'; omega)
  have hb2 : Below B w w2 := (hb1.out.mono hB).trans ((Below.refl B _).grown hg2 (Nat.le_trans hB hb1.out.size) fun b hb => by injection hb with hb; rw [← hb]; exact hBg)
  have hp2y : PsAt w2 B (y :: (A ++ C)) := ⟨fun d hd => by
    rcases List.mem_cons.1 hd with rfl | hd
    · rw [hyv.out, hyp.out]; exact hp2.ins x (by simp)
    · exact hp2.ins d (List.mem_cons_of_mem _ hd), List.pairwise_cons.2 ⟨fun z hz b hb => by rw [hyv.out] at hb; exact (List.pairwise_cons.1 hp2.apart).1 z hz b hb, (List.pairwise_cons.1 hp2.apart).2⟩⟩
  have hfd := dskfind20_any v2 (A ++ C) tn B w2 hv2 hs2.out (by have := hlen.out; omega)
  obtain ⟨av, cv, rfl⟩ := hv2.form
  obtain ⟨m, hm⟩ : ∃ m, (A ++ C).length = m := ⟨_, rfl⟩
  rw [hm] at hfd hv2 hlen ⊢
  have hmn := hlen.out
  replace hm := Lib.hid hm
  replace hfd := Lib.hid hfd
  replace hv2 := Lib.hid hv2
  replace hbx2 := Lib.hid hbx2
  replace hp2y := Lib.hid hp2y
  replace hb2 := Lib.hid hb2
  clear hdl hg2 hp2 hb1 hbx x0 x1 x2 hw2 hlen
  generalize A ++ C = R at *
  have hflR := fls_len R
  rw [hm.out] at hflR
  go_wp2_with fail
  refine hfd.out.mono ?_; rintro e w3 ⟨rfl, hb3⟩
  have hv3 := hv2.out.below hb3
  have hbx3 := hbx2.out.next hb3
  obtain ⟨q0, q1, q2⟩ := three_cells hbx3
  have hp3 := hp2y.out.below hb3
  have hs3 := hb3.size
  have hsw := hb2.out.size
  replace hb3 : Hid (Below B w w3) := Lib.hid (hb2.out.trans (hb3.mono (Nat.le_trans hB hsw)))
  clear hfd hv2 hbx2 hp2y hb2
  by_cases hp : pos20 (fls20 R) tn < (fls20 R).length
  · have hpk : decide (pos20 (fls20 R) tn < (fls20 R).length) = true := decide_eq_true hp
    have hat := at_pos hs2.out hp
    have hpd : pos20 (fls20 R) tn < R.length := by rw [← fls_len]; exact hp
    have hpn := pos_name (fls20 R) tn hp
    rw [fls_at R _ hpd] at hpn
    simp only at hpn
    rw [hpk, hat]
    obtain ⟨i, hi⟩ : ∃ i, pos20 (fls20 R) tn = i := ⟨_, rfl⟩
    simp only [hi] at hpd hpn ⊢
    have hmid := mid_eq R i hpd
    have hAl : (R.take i).length = i := by rw [List.length_take]; omega
    obtain ⟨z, hz0⟩ : ∃ z, R[i]'hpd = z := ⟨_, rfl⟩
    rw [hz0] at hmid hpn
    generalize R.take i = A2 at hmid hAl
    generalize R.drop (i + 1) = C2 at hmid
    clear hz0 hi hpk hat
    subst hmid
    subst hAl
    obtain ⟨g3, cap3, hv4, hd1, hd2, hBg3, hg3, hcell⟩ := hv3.some_ (by simp; omega)
    rw [hm.out] at hv4
    injection hv4 with e1 e3 e4
    subst e1 e4
    clear e3
    obtain ⟨r0, r1, r2⟩ := hcell A2.length (by simp)
    have hgz : (A2 ++ z :: C2)[A2.length]'(by simp) = z := by simp
    rw [hgz] at r0 r1 r2
    have hrow : w3.ownsRow B 64 3 (.slice (some ⟨g3, 0, none⟩) (A2 ++ z :: C2).length cv) (A2 ++ z :: C2).length ((A2 ++ z :: C2).flatMap drC) := by have h := hv3.row; rw [hm.out]; rw [hm.out] at h; exact h
    have f0 := World.ownsRow.frozenAt hrow (A2.length * 3)
    have f1 := World.ownsRow.frozenAt hrow (A2.length * 3 + 1)
    have f2 := World.ownsRow.frozenAt hrow (A2.length * 3 + 2)
    have hpy : PsAt w3 B (A2 ++ y :: C2) := by
      have h1 : (y :: (A2 ++ z :: C2)).Perm (z :: (A2 ++ y :: C2)) := by
        refine (List.Perm.cons y List.perm_middle).trans ?_
        refine (List.Perm.swap z y (A2 ++ C2)).trans ?_
        exact List.Perm.cons z List.perm_middle.symm
      exact (hp3.perm h1).tail
    have hpt := DrAt.put hrow hpy (u := .int .i64 x.text.length) (by rw [hyt.out]) hBg3
    rw [hm.out, hyn.out, hyv.out, e2] at hpt
    unfold strV at hpt r0
    have j0 : (0 : Int) ≤ A2.length := by omega
    have j1 : (A2.length : Int) < m := by have := hm.out; simp at this; omega
    have hfl2 := fls_put hs2.out hpn hyn.out hyt.out
    replace hpt := Lib.hid hpt
    replace hfl2 := Lib.hid hfl2
    replace hpn := Lib.hid hpn
    clear hcell hgz hpy hrow hv3 hp3 hbx3
    go_wp2_with fail
    go_ret
    refine ⟨_, A2 ++ y :: C2, rfl, hpt.out.1, hfl2.out, fun d hd => ?_, hb3.out.trans hpt.out.2⟩
    rcases List.mem_append.1 hd with hd | hd
    · exact hpsR d (by simp [hd])
    · rcases List.mem_cons.1 hd with rfl | hd
      · exact hyN
      · exact hpsR d (by simp [hd])
  · have hpk : decide (pos20 (fls20 R) tn < (fls20 R).length) = false := decide_eq_false hp
    have hil := at_le (fls20 R) tn
    have hput := fls_ins hp hyn.out hyt.out
    rw [hpk]
    obtain ⟨i, hi⟩ : ∃ i, at20 (fls20 R) tn = i := ⟨_, rfl⟩
    simp only [hi] at hil hput ⊢
    rw [hflR] at hil
    have hba := (Below.refl w3.heap.size w3).alloc (Nat.le_refl _) (.cells [Value.string ⟨tn.toArray⟩, .slice a2 x.ps.length c2', .int .i64 x.text.length].toArray 64)
    have hns := arrAt_new w3 64 [Value.string ⟨tn.toArray⟩, .slice a2 x.ps.length c2', .int .i64 x.text.length]
    have hva := hv3.below hba
    have hpa := hp3.below hba
    rw [← hyc.out] at hns
    have hins := drins_any (.slice av m cv) R y i w3.heap.size B _ (by rw [hyc.out]; exact hva) (by rw [hyc.out]; exact hpa) hns (fun e => by have := (hv3.row.lt _ e).2; omega) (by rw [hm.out]; exact hil) (by rw [hm.out]; omega) (by simp; omega)
    rw [hyc.out] at hins
    replace hins := Lib.hid hins
    replace hput := Lib.hid hput
    replace hba := Lib.hid hba
    clear hns hva hpa hv3 hp3 hi hpk hbx3
    go_wp2_with fail
    refine hins.out.mono ?_; rintro e w5 ⟨v5, rfl, hv5, hb5, _⟩
    obtain ⟨a5, c5, rfl⟩ := hv5.form
    obtain ⟨n5, hn5⟩ : ∃ n5, (R.take i ++ y :: R.drop i).length = n5 := ⟨_, rfl⟩
    rw [hn5] at hv5 ⊢
    replace hv5 := Lib.hid hv5
    replace hb5 := Lib.hid ((hb3.out.trans (hba.out.mono (Nat.le_trans hB (by omega)))).trans hb5)
    clear hins hn5 q0 q1 q2
    go_wp2_with fail
    go_ret
    refine ⟨_, _, rfl, hv5.out, hput.out, fun d hd => ?_, hb5.out⟩
    rcases List.mem_append.1 hd with hd | hd
    · exact hpsR d (List.mem_of_mem_take hd)
    · rcases List.mem_cons.1 hd with rfl | hd
      · exact hyN
      · exact hpsR d (List.mem_of_mem_drop hd)
end Go.Proofs.Ytahndjgamoojkaa
