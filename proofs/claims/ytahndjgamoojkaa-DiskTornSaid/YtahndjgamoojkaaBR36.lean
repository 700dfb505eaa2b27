/- Walks of layer 20's disk: Sync. -/
import Derived.Test.YtahndjgamoojkaaBR34
import Derived.Test.YtahndjgamoojkaaBR35
import Derived.Test.YtahndjgamoojkaaBR18
import Derived.Test.YtahndjgamoojkaaBR28
import Derived.Test.YtahndjgamoojkaaBR26
import Derived.Test.YtahndjgamoojkaaBR03
namespace Go.Proofs.Ytahndjgamoojkaa
open Go.RowKit

theorem syncD_open (d : Dk20) : syncD d = if openC d ≠ 0 then (d, openC d) else if d.fuse = 0 then (⟨d.files, d.loose, d.fuse, true⟩, 14) else (⟨all20 d.files d.loose, [], spentF d.fuse, false⟩, 0) := by
  unfold syncD openC
  by_cases h1 : right20 d.files d.loose = false
  · simp [h1]
  · by_cases h2 : d.down = true
    · simp [h1, h2]
    · simp [h1, h2]
set_option maxHeartbeats 4000000 in
theorem dsksync20_any (d : Dk20) (val : Value) (w : World) (hd : DkV w val d) (hbd : DkBd d) (hfu : -9223372036854775808 ≤ d.fuse ∧ d.fuse ≤ 9223372036854775807) (n1 : d.files.length ≤ 4398046511104) (n2 : d.loose.length ≤ 1000000000) :
    Calls Try.prog 11 #[val] w (DiskPost w (syncD d)) := by
  rw [syncD_open]
  have hob := openC_bd d
  have hor := @openC_right d
  obtain ⟨L, os, fuse, dn⟩ := d
  obtain ⟨a1, c1, a2, c2, rfl, hf, hl⟩ := dkV_open hd
  simp only at hor hfu n1 n2 ⊢
  have hw0 := dkW_new (fuse := fuse) (dn := dn) hf hl
  obtain ⟨p0, p1, p2, p3⟩ := four_cells hw0.dk
  have hop := dskopen20_any ⟨L, os, fuse, dn⟩ _ _ hw0.val hbd
  unfold OpenPost at hop
  simp only at hop
  generalize openC ⟨L, os, fuse, dn⟩ = q at hop hob hor ⊢
  have hap := Lib.hid (fun V (h : DkV V (.agg #[.slice a1 L.length c1, .slice a2 os.length c2, .int .i64 fuse, .bool dn]) ⟨L, os, fuse, dn⟩) => apart20_any ⟨L, os, fuse, dn⟩ _ V h n1 n2)
  have hbu := Lib.hid (fun V (h : DkV V (.agg #[.slice a1 L.length c1, .slice a2 os.length c2, .int .i64 fuse, .bool dn]) ⟨L, os, fuse, dn⟩) => burnt20_any ⟨L, os, fuse, dn⟩ _ V h n1 n2 hfu)
  have hsz := hw0.below.size
  replace hw0 := Lib.hid hw0
  replace hop := Lib.hid hop
  clear hf hl hd hbd
  by_cases hq : q = 0
  · subst hq
    obtain ⟨hr, rfl⟩ := hor rfl
    obtain ⟨hv, hm, h4⟩ := right_val hr
    have hval := Lib.hid (hv.all hm)
    rw [if_neg (by simp)]
    clear hr hv hm hor hob hap
    unfold burntD at hbu
    simp only at hbu
    by_cases h0 : fuse = 0
    · subst h0
      rw [if_pos rfl] at hbu ⊢
      go_enter Try.func11, Try.ntmps11
      go_wp2_with fail
      refine hop.out.mono ?_; rintro e w1 ⟨v1, rfl, hy, _, hb1⟩
      obtain ⟨ds, k1, _, _⟩ := hy trivial
      obtain ⟨ad, cd, rfl⟩ := k1.form
      generalize ds.length = m
      have hw1 := hw0.out.next hb1
      obtain ⟨q0, q1, q2, q3⟩ := four_cells hw1.dk
      replace hw1 := Lib.hid hw1
      clear p0 p1 p2 p3 hb1 hop hy k1 hw0
      go_wp2_with fail
      refine (hbu.out _ hw1.out.val).mono ?_; rintro e w2 ⟨v2, rfl, hd2, hb2⟩
      obtain ⟨a3, c3, a4, c4, rfl, hf2, hl2⟩ := dkV_open hd2.val
      have hw2 := hw1.out.next hb2
      obtain ⟨r0, r1, r2, r3⟩ := four_cells hw2.dk
      obtain ⟨t0, t1, t2, t3⟩ := four_soft hw2.dk
      have hw3 := hw2.set (z := 0) (b := true) rfl rfl hf2 hl2
      replace hw3 := Lib.hid hw3
      clear q0 q1 q2 q3 hb2 hbu hw1 hw2 hd2 hf2 hl2
      go_upto_region 5 with fail
      refine hide_world (K := fun a w' => Code.wp _ _ _ a w') (R := fun W => DkW w w.heap.size (w.heap.size + 1) a3 c3 a4 c4 0 true L os W) hw3.out ?_
      intro w4 hw4
      clear hw3 r0 r1 r2 r3 t0 t1 t2 t3
      obtain ⟨p0, p1, p2, p3⟩ := four_cells hw4.out.dk
      obtain ⟨x0, x1, x2, x3⟩ := four_cells hw4.out.res
      obtain ⟨y0, y1, y2, y3⟩ := four_soft hw4.out.res
      obtain ⟨o1, o2, o3⟩ := DkW.out (z := 0) (b := true) hw4.out hw4.out.files hw4.out.loose
      replace o1 := Lib.hid o1
      replace o2 := Lib.hid o2
      replace o3 := Lib.hid o3
      go_wp2_with fail
      refine hide_world (K := fun a w' => bodyPost _ _ _ Exit.ret a w') (R := fun W' => ArrAt W' (w.heap.size + 1) 25 [.slice a3 L.length c3, .slice a4 os.length c4, .int .i64 0, .bool true] ∧ DkV W' (.agg #[.slice a3 L.length c3, .slice a4 os.length c4, .int .i64 0, .bool true]) ⟨L, os, 0, true⟩ ∧ Below w.heap.size w W') ⟨o1.out, o2.out, o3.out⟩ ?_
      intro wf hwf
      clear o1 o2 o3 x0 x1 x2 x3 y0 y1 y2 y3
      obtain ⟨k0, k1, k2, k3⟩ := four_cells hwf.out.1
      refine bodyPost_ret (v := .tuple #[.agg #[.slice a3 L.length c3, .slice a4 os.length c4, .int .i64 0, .bool true], .int .i64 14]) (by simp [results, Try.results11, go_sem, k0, k1, k2, k3]) rfl ?_
      exact ⟨_, rfl, hwf.out.2.1, hwf.out.2.2⟩
    · rw [if_neg h0] at hbu ⊢
      generalize spentF fuse = sf at hbu ⊢
      obtain ⟨A, hA⟩ : ∃ A, all20 L os = A := ⟨_, rfl⟩
      rw [hA]
      replace hA := Lib.hid hA
      go_enter Try.func11, Try.ntmps11
      go_wp2_with fail
      refine hop.out.mono ?_; rintro e w1 ⟨v1, rfl, hy, _, hb1⟩
      obtain ⟨ds, k1, k2, k3⟩ := hy trivial
      replace k1 := k1.mono hsz
      obtain ⟨ad, cd, rfl⟩ := k1.form
      have hwr := fun V (hV : DrAt V w.heap.size (.slice ad ds.length cd) ds) => written20_any _ ds _ V hV ((DrBd.of_val (by rw [k2]; exact hval.out) k3).up (by omega))
      rw [k2, hA.out] at hwr
      obtain ⟨m, hm⟩ : ∃ m, ds.length = m := ⟨_, rfl⟩
      rw [hm] at k1 hwr ⊢
      have hw1 := hw0.out.next hb1
      obtain ⟨q0, q1, q2, q3⟩ := four_cells hw1.dk
      replace hw1 := Lib.hid hw1
      replace k1 := Lib.hid k1
      replace hwr := Lib.hid hwr
      clear p0 p1 p2 p3 hb1 hop hy hw0 hm k2 k3 hval
      go_wp2_with fail
      refine (hbu.out _ hw1.out.val).mono ?_; rintro e w2 ⟨v2, rfl, hd2, hb2⟩
      obtain ⟨a3, c3, a4, c4, rfl, hf2, hl2⟩ := dkV_open hd2.val
      have hw2 := hw1.out.next hb2
      have k2 := k1.out.below hb2
      obtain ⟨r0, r1, r2, r3⟩ := four_cells hw2.dk
      obtain ⟨t0, t1, t2, t3⟩ := four_soft hw2.dk
      have hw3 := hw2.set (z := sf) (b := false) rfl rfl hf2 hl2
      have hsB := four_set (B := 0) hw2.dk (.slice a3 L.length c3) (.slice a4 os.length c4) (.int .i64 sf) (.bool false) (Nat.zero_le _)
      have k4 := k2.turned (four_turned w2 w.heap.size (.slice a3 L.length c3) (.slice a4 os.length c4) (.int .i64 sf) (.bool false)) (fun b hb e => own_ne_arr k2.row hw2.dk (by decide) (hb.trans (congrArg some e))) (fun d hd b hb e => own_ne_arr (k2.pcs.ins d hd) hw2.dk (by decide) (hb.trans (congrArg some e)))
      replace hw3 := Lib.hid hw3
      replace k4 := Lib.hid k4
      clear q0 q1 q2 q3 hb2 hbu hw1 hw2 hd2 hf2 hl2 k1 k2 hsB
      go_upto_region 5 with fail
      refine hide_world (K := fun a w' => Code.wp _ _ _ a w') (R := fun W => DkW w w.heap.size (w.heap.size + 1) a3 c3 a4 c4 sf false L os W ∧ DrAt W w.heap.size (.slice ad m cd) ds) ⟨hw3.out, k4.out⟩ ?_
      intro w4 hw4
      clear hw3 k4 r0 r1 r2 r3 t0 t1 t2 t3
      obtain ⟨hw4, k4⟩ := hw4.out
      obtain ⟨p0, p1, p2, p3⟩ := four_cells hw4.dk
      replace hw4 := Lib.hid hw4
      replace k4 := Lib.hid k4
      go_wp2_with fail
      refine (hwr.out _ k4.out).mono ?_; rintro e w5 ⟨v5, rfl, ho5, hb5⟩
      obtain ⟨a5, c5, rfl⟩ := own_form ho5
      have hw5 := hw4.out.next hb5
      obtain ⟨r0, r1, r2, r3⟩ := four_cells hw5.dk
      obtain ⟨t0, t1, t2, t3⟩ := four_soft hw5.dk
      have hw6 := (hw5.set0 rfl (Fls.sl ho5)).set1 (n := 0) (a := none) (c := 0) (os' := []) rfl (slOf_nil _ _ _)
      replace hw6 := Lib.hid hw6
      clear p0 p1 p2 p3 hwr k4 hw4 ho5 hb5 hw5
      go_upto_region 7 with fail
      refine hide_world (K := fun a w' => Code.wp _ _ _ a w') (R := fun W => DkW w w.heap.size (w.heap.size + 1) a5 c5 none 0 sf false A [] W) hw6.out ?_
      intro w7 hw7
      clear hw6 r0 r1 r2 r3 t0 t1 t2 t3
      obtain ⟨p0, p1, p2, p3⟩ := four_cells hw7.out.dk
      obtain ⟨x0, x1, x2, x3⟩ := four_cells hw7.out.res
      obtain ⟨y0, y1, y2, y3⟩ := four_soft hw7.out.res
      obtain ⟨o1, o2, o3⟩ := DkW.out (z := sf) (b := false) hw7.out hw7.out.files hw7.out.loose
      replace o1 := Lib.hid o1
      replace o2 := Lib.hid o2
      replace o3 := Lib.hid o3
      go_wp2_with fail
      refine hide_world (K := fun a w' => bodyPost _ _ _ Exit.ret a w') (R := fun W' => ArrAt W' (w.heap.size + 1) 25 [.slice a5 A.length c5, .slice none 0 0, .int .i64 sf, .bool false] ∧ DkV W' (.agg #[.slice a5 A.length c5, .slice none 0 0, .int .i64 sf, .bool false]) ⟨A, [], sf, false⟩ ∧ Below w.heap.size w W') ⟨o1.out, o2.out, o3.out⟩ ?_
      intro wf hwf
      clear o1 o2 o3 x0 x1 x2 x3 y0 y1 y2 y3
      obtain ⟨k0, k1, k2, k3⟩ := four_cells hwf.out.1
      refine bodyPost_ret (v := .tuple #[.agg #[.slice a5 A.length c5, .slice none 0 0, .int .i64 sf, .bool false], .int .i64 0]) (by simp [results, Try.results11, go_sem, k0, k1, k2, k3]) rfl ?_
      exact ⟨_, rfl, hwf.out.2.1, hwf.out.2.2⟩
  · rw [if_pos hq]
    have hne : (q == 0) = false := by simpa using hq
    go_enter Try.func11, Try.ntmps11
    go_wp2_with fail
    refine hop.out.mono ?_; rintro e w1 ⟨v1, rfl, _, hn, hb1⟩
    obtain rfl := hn hq
    have hw1 := hw0.out.next hb1
    obtain ⟨q0, q1, q2, q3⟩ := four_cells hw1.dk
    replace hw1 := Lib.hid hw1
    clear p0 p1 p2 p3 hb1 hop hn hw0 hbu
    go_wp2_with fail
    refine (hap.out _ hw1.out.val).mono ?_; rintro e w2 ⟨v2, rfl, hd2, hb2⟩
    obtain ⟨a3, c3, a4, c4, rfl, hf2, hl2⟩ := dkV_open hd2.val
    have hw2 := Lib.hid (hw1.out.next hb2)
    replace hf2 := Lib.hid hf2
    replace hl2 := Lib.hid hl2
    clear q0 q1 q2 q3 hb2 hap hw1 hd2
    obtain ⟨x0, x1, x2, x3⟩ := four_cells hw2.out.res
    obtain ⟨y0, y1, y2, y3⟩ := four_soft hw2.out.res
    obtain ⟨o1, o2, o3⟩ := DkW.out (z := fuse) (b := dn) hw2.out hf2.out hl2.out
    replace o1 := Lib.hid o1
    replace o2 := Lib.hid o2
    replace o3 := Lib.hid o3
    go_wp2_with fail
    refine hide_world (K := fun a w' => bodyPost _ _ _ Exit.ret a w') (R := fun W' => ArrAt W' (w.heap.size + 1) 25 [.slice a3 L.length c3, .slice a4 os.length c4, .int .i64 fuse, .bool dn] ∧ DkV W' (.agg #[.slice a3 L.length c3, .slice a4 os.length c4, .int .i64 fuse, .bool dn]) ⟨L, os, fuse, dn⟩ ∧ Below w.heap.size w W') ⟨o1.out, o2.out, o3.out⟩ ?_
    intro wf hwf
    clear o1 o2 o3 x0 x1 x2 x3 y0 y1 y2 y3
    obtain ⟨k0, k1, k2, k3⟩ := four_cells hwf.out.1
    refine bodyPost_ret (v := .tuple #[.agg #[.slice a3 L.length c3, .slice a4 os.length c4, .int .i64 fuse, .bool dn], .int .i64 q]) (by simp [results, Try.results11, go_sem, k0, k1, k2, k3]) rfl ?_
    exact ⟨_, rfl, hwf.out.2.1, hwf.out.2.2⟩
end Go.Proofs.Ytahndjgamoojkaa

/- Walks of layer 20's disk: copied. -/
namespace Go.Proofs.Ytahndjgamoojkaa
open Go.RowKit

theorem five_soft {w : World} {g : Nat} {t : TypeId} {a b c d e : Value} (h : ArrAt w g t [a, b, c, d, e]) : w.frozen? ⟨g, 0, none⟩ = false ∧ w.frozen? ⟨g, 1, none⟩ = false ∧ w.frozen? ⟨g, 2, none⟩ = false ∧ w.frozen? ⟨g, 3, none⟩ = false ∧ w.frozen? ⟨g, 4, none⟩ = false := ⟨h.soft 0, h.soft 1, h.soft 2, h.soft 3, h.soft 4⟩
theorem five_set {w : World} {g B : Nat} {t : TypeId} {a b c d e : Value} (h : ArrAt w g t [a, b, c, d, e]) (a' b' c' d' e' : Value) (hB : B ≤ g) :
    ArrAt (((((w.setCell ⟨g, 0, none⟩ a').setCell ⟨g, 1, none⟩ b').setCell ⟨g, 2, none⟩ c').setCell ⟨g, 3, none⟩ d').setCell ⟨g, 4, none⟩ e') g t [a', b', c', d', e'] ∧ Below B w (((((w.setCell ⟨g, 0, none⟩ a').setCell ⟨g, 1, none⟩ b').setCell ⟨g, 2, none⟩ c').setCell ⟨g, 3, none⟩ d').setCell ⟨g, 4, none⟩ e') :=
  ⟨((((h.set 0 a').set 1 b').set 2 c').set 3 d').set 4 e', (((((Below.refl B w).setCell (p := ⟨g, 0, none⟩) hB a').setCell (p := ⟨g, 1, none⟩) hB b').setCell (p := ⟨g, 2, none⟩) hB c').setCell (p := ⟨g, 3, none⟩) hB d').setCell (p := ⟨g, 4, none⟩) hB e'⟩
structure CpW (w : World) (kd : Int) (nm tn dt : List UInt8) (sz : Int) (W : World) : Prop where
  op : ArrAt W w.heap.size 27 [.int .i64 kd, .string ⟨nm.toArray⟩, .string ⟨tn.toArray⟩, .string ⟨dt.toArray⟩, .int .i64 sz]
  res : ArrAt W (w.heap.size + 1) 27 [.int .i64 0, .string ⟨#[]⟩, .string ⟨#[]⟩, .string ⟨#[]⟩, .int .i64 0]
  below : Below w.heap.size w W
theorem CpW.next {w W W' : World} {kd : Int} {nm tn dt : List UInt8} {sz : Int} (h : CpW w kd nm tn dt sz W) (hb : Below W.heap.size W W') : CpW w kd nm tn dt sz W' := ⟨h.op.next hb, h.res.next hb, h.below.next hb h.below.size⟩
theorem CpW.cells {w W : World} {kd : Int} {nm tn dt : List UInt8} {sz : Int} (h : CpW w kd nm tn dt sz W) : W.cell? ⟨w.heap.size, 1, none⟩ = some (.string ⟨nm.toArray⟩) ∧ W.cell? ⟨w.heap.size, 2, none⟩ = some (.string ⟨tn.toArray⟩) ∧ W.cell? ⟨w.heap.size, 3, none⟩ = some (.string ⟨dt.toArray⟩) := by
  obtain ⟨_, h1, h2, h3, _⟩ := five_cells h.op
  exact ⟨h1, h2, h3⟩
theorem CpW.s1 {w W : World} {kd : Int} {nm tn dt : List UInt8} {sz : Int} (h : CpW w kd nm tn dt sz W) : CpW w kd nm tn dt sz (W.setCell ⟨w.heap.size, 1, none⟩ (.string ⟨nm.toArray⟩)) := ⟨h.op.set 1 _, h.res.far 1 _ (by omega), h.below.setCell (p := ⟨w.heap.size, 1, none⟩) (Nat.le_refl _) _⟩
theorem CpW.s2 {w W : World} {kd : Int} {nm tn dt : List UInt8} {sz : Int} (h : CpW w kd nm tn dt sz W) : CpW w kd nm tn dt sz (W.setCell ⟨w.heap.size, 2, none⟩ (.string ⟨tn.toArray⟩)) := ⟨h.op.set 2 _, h.res.far 2 _ (by omega), h.below.setCell (p := ⟨w.heap.size, 2, none⟩) (Nat.le_refl _) _⟩
theorem CpW.s3 {w W : World} {kd : Int} {nm tn dt : List UInt8} {sz : Int} (h : CpW w kd nm tn dt sz W) : CpW w kd nm tn dt sz (W.setCell ⟨w.heap.size, 3, none⟩ (.string ⟨dt.toArray⟩)) := ⟨h.op.set 3 _, h.res.far 3 _ (by omega), h.below.setCell (p := ⟨w.heap.size, 3, none⟩) (Nat.le_refl _) _⟩
set_option maxHeartbeats 4000000 in
set_option maxRecDepth 100000 in
theorem copied20_any (o : Op20) (w : World) (h1 : o.name.length ≤ 1000000000) (h2 : o.to.length ≤ 281474976710656) (h3 : o.data.length ≤ 1000000000) :
    Calls Try.prog 29 #[opV o] w fun e w' => e = .returned (opV o) ∧ Below w.heap.size w w' := by
  obtain ⟨kd, nm, tn, dt, sz⟩ := o
  unfold opV opC strV
  simp only at h1 h2 h3 ⊢
  have hcn := Lib.hid (fun V => clone_any nm V (by omega))
  have hct := Lib.hid (fun V => clone_any tn V h2)
  have hcd := Lib.hid (fun V => clone_any dt V (by omega))
  have hw0 : CpW w kd nm tn dt sz ((w.alloc (.cells [Value.int .i64 kd, .string ⟨nm.toArray⟩, .string ⟨tn.toArray⟩, .string ⟨dt.toArray⟩, .int .i64 sz].toArray 27)).alloc (.cells [Value.int .i64 0, .string ⟨#[]⟩, .string ⟨#[]⟩, .string ⟨#[]⟩, .int .i64 0].toArray 27)) := by
    have hr := arrAt_new (w.alloc (.cells [Value.int .i64 kd, .string ⟨nm.toArray⟩, .string ⟨tn.toArray⟩, .string ⟨dt.toArray⟩, .int .i64 sz].toArray 27)) 27 [Value.int .i64 0, .string ⟨#[]⟩, .string ⟨#[]⟩, .string ⟨#[]⟩, .int .i64 0]
    have hsz : (w.alloc (.cells [Value.int .i64 kd, .string ⟨nm.toArray⟩, .string ⟨tn.toArray⟩, .string ⟨dt.toArray⟩, .int .i64 sz].toArray 27)).heap.size = w.heap.size + 1 := by simp
    rw [hsz] at hr
    exact ⟨(arrAt_new w _ _).next ((Below.refl _ _).alloc (Nat.le_refl _) _), hr, ((Below.refl _ _).alloc (Nat.le_refl _) _).alloc (by simp) _⟩
  replace hw0 := Lib.hid hw0
  clear h1 h2 h3
  go_enter Try.func29, Try.ntmps29
  go_upto_region 1 with fail
  refine hide_world (K := fun a w' => Code.wp _ _ _ a w') (R := fun W => CpW w kd nm tn dt sz W) hw0.out ?_
  intro w1 hw1
  clear hw0
  have hw2 := hw1.out.next ((drawn_drew w1).below _)
  refine zgo_begin 14 (fun W' => W'.cell? ⟨w.heap.size, 1, none⟩ = some (.string ⟨nm.toArray⟩) ∧ W'.cell? ⟨w.heap.size, 2, none⟩ = some (.string ⟨tn.toArray⟩) ∧ W'.cell? ⟨w.heap.size, 3, none⟩ = some (.string ⟨dt.toArray⟩)) (by kernel_rfl) hw2.cells ?_
  intro hHeld
  generalize w1.drew = w2 at hHeld hw2 ⊢
  replace hw2 := Lib.hid hw2
  clear hw1
  refine zgo_take 0 (v := ?_) rfl (by kernel_rfl) (by kernel_rfl) (by kernel_rfl) (by kernel_rfl) (fun _ _ _ h => h) (by rfl) ?_ (by assumption) ?_
  rotate_left
  · (intro w hSw; (try dsimp only at hSw); go_simp; all_goals (with_reducible rfl))
  try simp only [Act.put, List.setIfInBounds_toArray, List.set_cons_zero, List.set_cons_succ]
  refine zgo_take 1 (v := ?_) rfl (by kernel_rfl) (by kernel_rfl) (by kernel_rfl) (by kernel_rfl) (fun _ _ _ h => h) (by rfl) ?_ (by assumption) ?_
  rotate_left
  · (intro w hSw; (try dsimp only at hSw); go_simp; all_goals (with_reducible rfl))
  try simp only [Act.put, List.setIfInBounds_toArray, List.set_cons_zero, List.set_cons_succ]
  refine zgo_take 3 (v := ?_) rfl (by kernel_rfl) (by kernel_rfl) (by kernel_rfl) (by kernel_rfl) (fun _ _ _ h => h) (by rfl) ?_ (by assumption) ?_
  rotate_left
  · (intro w hSw; (try dsimp only at hSw); go_simp; all_goals (with_reducible rfl))
  try simp only [Act.put, List.setIfInBounds_toArray, List.set_cons_zero, List.set_cons_succ]
  refine zgo_take 4 (v := ?_) rfl (by kernel_rfl) (by kernel_rfl) (by kernel_rfl) (by kernel_rfl) (fun _ _ _ h => h) (by rfl) ?_ (by assumption) ?_
  rotate_left
  · (intro w hSw; (try dsimp only at hSw); go_simp; all_goals (with_reducible rfl))
  try simp only [Act.put, List.setIfInBounds_toArray, List.set_cons_zero, List.set_cons_succ]
  refine zgo_take 6 (v := ?_) rfl (by kernel_rfl) (by kernel_rfl) (by kernel_rfl) (by kernel_rfl) (fun _ _ _ h => h) (by rfl) ?_ (by assumption) ?_
  rotate_left
  · (intro w hSw; (try dsimp only at hSw); go_simp; all_goals (with_reducible rfl))
  try simp only [Act.put, List.setIfInBounds_toArray, List.set_cons_zero, List.set_cons_succ]
  refine zgo_take 7 (v := ?_) rfl (by kernel_rfl) (by kernel_rfl) (by kernel_rfl) (by kernel_rfl) (fun _ _ _ h => h) (by rfl) ?_ (by assumption) ?_
  rotate_left
  · (intro w hSw; (try dsimp only at hSw); go_simp; all_goals (with_reducible rfl))
  try simp only [Act.put, List.setIfInBounds_toArray, List.set_cons_zero, List.set_cons_succ]
  refine zgo_ready [2] (by kernel_rfl) (by simp) ?_
  refine ZAll.cons rfl (fun K hK => ?_) ZAll.nil
  go_simp
  go_at_call 45
  (with_reducible refine (hcn.out _).mono ?_)
  rintro e v1 ⟨rfl, hv1⟩
  replace hw2 := Lib.hid (hw2.out.next hv1)
  refine hK.out _ _ (hw2.out.cells) (fun hHeld => ?_)
  clear hK K
  try simp only [Act.put, List.setIfInBounds_toArray, List.set_cons_zero, List.set_cons_succ]
  refine zgo_take 9 (v := ?_) rfl (by kernel_rfl) (by kernel_rfl) (by kernel_rfl) (by kernel_rfl) (fun _ _ _ h => h) (by rfl) ?_ (by assumption) ?_
  rotate_left
  · (intro w hSw; (try dsimp only at hSw); go_simp; all_goals (with_reducible rfl))
  try simp only [Act.put, List.setIfInBounds_toArray, List.set_cons_zero, List.set_cons_succ]
  refine zgo_ready [5] (by kernel_rfl) (by simp) ?_
  refine ZAll.cons rfl (fun K hK => ?_) ZAll.nil
  go_simp
  go_at_call 45
  (with_reducible refine (hct.out _).mono ?_)
  rintro e v2 ⟨rfl, hv2⟩
  replace hw2 := Lib.hid (hw2.out.next hv2)
  refine hK.out _ _ (hw2.out.cells) (fun hHeld => ?_)
  clear hK K
  try simp only [Act.put, List.setIfInBounds_toArray, List.set_cons_zero, List.set_cons_succ]
  refine zgo_ready [8] (by kernel_rfl) (by simp) ?_
  refine ZAll.cons rfl (fun K hK => ?_) ZAll.nil
  go_simp
  go_at_call 45
  (with_reducible refine (hcd.out _).mono ?_)
  rintro e v3 ⟨rfl, hv3⟩
  replace hw2 := Lib.hid (hw2.out.next hv3)
  refine hK.out _ _ (hw2.out.cells) (fun hHeld => ?_)
  clear hK K
  try simp only [Act.put, List.setIfInBounds_toArray, List.set_cons_zero, List.set_cons_succ]
  refine zgo_ready [10] (by kernel_rfl) (by simp) ?_
  refine ZAll.cons rfl (fun K hK => ?_) ZAll.nil
  obtain ⟨f0, f1, f2, f3, f4⟩ := five_soft hw2.out.op
  obtain ⟨u1, u2, u3⟩ := hw2.out.cells
  go_simp
  replace hw2 := Lib.hid hw2.out.s1
  refine hK.out _ _ (hw2.out.cells) (fun hHeld => ?_)
  clear hK K
  try simp only [Act.put, List.setIfInBounds_toArray, List.set_cons_zero, List.set_cons_succ]
  clear f0 f1 f2 f3 f4 u1 u2 u3
  refine zgo_take 11 (v := ?_) rfl (by kernel_rfl) (by kernel_rfl) (by kernel_rfl) (by kernel_rfl) (fun _ _ _ h => h) (by rfl) ?_ (by assumption) ?_
  rotate_left
  · (intro w hSw; (try dsimp only at hSw); go_simp; all_goals (with_reducible rfl))
  try simp only [Act.put, List.setIfInBounds_toArray, List.set_cons_zero, List.set_cons_succ]
  refine zgo_ready [12] (by kernel_rfl) (by simp) ?_
  refine ZAll.cons rfl (fun K hK => ?_) ZAll.nil
  obtain ⟨f0, f1, f2, f3, f4⟩ := five_soft hw2.out.op
  obtain ⟨u1, u2, u3⟩ := hw2.out.cells
  go_simp
  replace hw2 := Lib.hid hw2.out.s2
  refine hK.out _ _ (hw2.out.cells) (fun hHeld => ?_)
  clear hK K
  try simp only [Act.put, List.setIfInBounds_toArray, List.set_cons_zero, List.set_cons_succ]
  clear f0 f1 f2 f3 f4 u1 u2 u3
  refine zgo_take 13 (v := ?_) rfl (by kernel_rfl) (by kernel_rfl) (by kernel_rfl) (by kernel_rfl) (fun _ _ _ h => h) (by rfl) ?_ (by assumption) ?_
  rotate_left
  · (intro w hSw; (try dsimp only at hSw); go_simp; all_goals (with_reducible rfl))
  try simp only [Act.put, List.setIfInBounds_toArray, List.set_cons_zero, List.set_cons_succ]
  obtain ⟨f0, f1, f2, f3, f4⟩ := five_soft hw2.out.op
  obtain ⟨u1, u2, u3⟩ := hw2.out.cells
  refine zgo_last (by kernel_rfl) (by kernel_rfl) rfl (fun K hK => ?_)
  go_simp
  refine hK.out _ _ ?_
  clear hK K
  replace hw2 := Lib.hid hw2.out.s3
  refine hide_world (R := fun W => CpW w kd nm tn dt sz W) hw2.out ?_
  intro w9 hw9
  clear hw2 f0 f1 f2 f3 f4 u1 u2 u3
  obtain ⟨f0, f1, f2, f3, f4⟩ := five_soft hw9.out.res
  obtain ⟨r0, r1, r2, r3, r4⟩ := five_cells hw9.out.res
  obtain ⟨u0, u1, u2, u3, u4⟩ := five_cells hw9.out.op
  obtain ⟨hset, hbs⟩ := five_set (B := w.heap.size) hw9.out.res (.int .i64 kd) (.string ⟨nm.toArray⟩) (.string ⟨tn.toArray⟩) (.string ⟨dt.toArray⟩) (.int .i64 sz) (Nat.le_succ _)
  obtain ⟨k0, k1, k2, k3, k4⟩ := five_cells hset
  go_wp2_with fail
  refine bodyPost_ret (v := .agg #[.int .i64 kd, .string ⟨nm.toArray⟩, .string ⟨tn.toArray⟩, .string ⟨dt.toArray⟩, .int .i64 sz]) (by simp [results, Try.results29, go_sem, k0, k1, k2, k3, k4]) rfl ?_
  exact ⟨rfl, hw9.out.below.trans hbs⟩
end Go.Proofs.Ytahndjgamoojkaa
