/- The law DiskFalls of layer 20. -/
import Derived.Test.YtahndjgamoojkaaBR22
import Derived.Test.YtahndjgamoojkaaBR41
import Derived.Test.YtahndjgamoojkaaBR11
namespace Go.Proofs.Ytahndjgamoojkaa
open Go.RowKit

theorem fall_lens {d : Dk20} {cr : Cr20} {fz : Int} {XL : List Fl20} {Xo : List Op20} {Xf : Int} {Xd : Bool} {E : Int} (h : fallD d cr fz = (⟨XL, Xo, Xf, Xd⟩, E)) (hl : d.files.length ≤ 9223372036854775807 ∧ d.loose.length ≤ 9223372036854775807) : XL.length ≤ 9223372036854775807 ∧ Xo.length ≤ 9223372036854775807 := by
  unfold fallD at h
  by_cases hr : right20 d.files d.loose = false
  · rw [if_pos hr] at h
    injection h with h1 h2
    subst h1
    exact hl
  · rw [if_neg hr] at h
    injection h with h1 h2
    injection h1 with h3 h4 _ _
    subst h3 h4
    have hr2 : right20 d.files d.loose = true := by simpa using hr
    have := (right_val (fall_right hr2 cr.keep cr.bytes cr.burst cr.at_ cr.bits.toNat)).1.few
    exact ⟨by omega, by simp⟩
set_option maxHeartbeats 4000000 in
set_option maxRecDepth 100000 in
theorem falls_law (d : Dk20) (cr : Cr20) (fz : Int) (val : Value) (w : World) (hd : DkV w val d) (hb1 : d.files.length ≤ 9223372036854775807) (hb2 : d.loose.length ≤ 9223372036854775807) (hb3 : ∀ f ∈ d.files, f.1.length ≤ 9223372036854775807 ∧ f.2.length ≤ 9223372036854775807)
    (hb4 : ∀ o ∈ d.loose, o.name.length ≤ 9223372036854775807 ∧ o.to.length ≤ 9223372036854775807 ∧ o.data.length ≤ 9223372036854775807 ∧ -9223372036854775808 ≤ o.size ∧ o.size ≤ 9223372036854775807)
    (hk : -9223372036854775808 ≤ cr.keep ∧ cr.keep ≤ 9223372036854775807) (hb : -9223372036854775808 ≤ cr.bytes ∧ cr.bytes ≤ 9223372036854775807) (hat : -9223372036854775808 ≤ cr.at_ ∧ cr.at_ ≤ 9223372036854775807) (hbi0 : 0 ≤ cr.bits) (hbi1 : cr.bits ≤ 4294967295) (n1 : d.files.length ≤ 4398046511104) :
    Calls Try.prog 4 #[val, crV cr, .int .i64 fz] w fun e w' => e = .returned (.bool true) ∧ Below w.heap.size w w' := by
  obtain ⟨L, os, fuse, dn⟩ := d
  have hd0 := hd
  obtain ⟨af, cf, al, cl, rfl, hf, hl⟩ := dkV_open hd
  have hgr := Lib.hid (fun V (h : DkV V _ ⟨L, os, fuse, dn⟩) => great20_any ⟨L, os, fuse, dn⟩ ⟨0, [], [], [], 0⟩ (.agg #[.slice af L.length cf, .slice al os.length cl, .int .i64 fuse, .bool dn]) V h hb1 hb2 (fun f hf => (hb3 f hf).2) (fun o ho => (hb4 o ho).2.2.1) (by simp))
  have haw := Lib.hid awake20_any
  have hfa := fun (hs : ¬ 20000 < great20 L os ⟨0, [], [], [], 0⟩) V v (h : DkV V v ⟨L, os, fuse, dn⟩) => dskfall20_any ⟨L, os, fuse, dn⟩ cr fz v V h ⟨hb1, hb2, hb3, fun o ho => ⟨(hb4 o ho).1, (hb4 o ho).2.1, by have := (few20 hs).1 o ho; omega, (hb4 o ho).2.2.2⟩⟩ hk hb hat hbi0 hbi1 (by have := (few20 hs).2.1; simp only; omega) n1 (by have := (few20 hs).2.2; simp only; omega)
  have hfr := fun (hs : ¬ 20000 < great20 L os ⟨0, [], [], [], 0⟩) V v (h : DkV V v ⟨L, os, fuse, dn⟩) => reffall20_any ⟨L, os, fuse, dn⟩ cr fz v V h ⟨hb1, hb2, hb3, fun o ho => ⟨(hb4 o ho).1, (hb4 o ho).2.1, by have := (few20 hs).1 o ho; omega, (hb4 o ho).2.2.2⟩⟩ hk hb hat hbi0 hbi1 (by have := (few20 hs).2.1; simp only; omega)
  have hrt := fun (hs : ¬ 20000 < great20 L os ⟨0, [], [], [], 0⟩) V v (h : DkV V v ⟨L, os, fuse, dn⟩) => refright20_any ⟨L, os, fuse, dn⟩ v V h ⟨hb1, hb2, hb3, fun o ho => ⟨(hb4 o ho).1, (hb4 o ho).2.1, by have := (few20 hs).1 o ho; omega, (hb4 o ho).2.2.2⟩⟩
  have hfi := fun (hs : ¬ 20000 < great20 L os ⟨0, [], [], [], 0⟩) (hr : right20 L os = true) V v (h : DkV V v ⟨L, os, fuse, dn⟩) => dskfiles20_any ⟨L, os, fuse, dn⟩ v V h ⟨hb1, hb2, hb3, fun o ho => ⟨(hb4 o ho).1, (hb4 o ho).2.1, by have := (few20 hs).1 o ho; omega, (hb4 o ho).2.2.2⟩⟩ hr
  have hrf := fun (hs : ¬ 20000 < great20 L os ⟨0, [], [], [], 0⟩) (hr : right20 L os = true) V v (h : DkV V v ⟨L, os, fuse, dn⟩) => reffiles20_any ⟨L, os, fuse, dn⟩ v V h ⟨hb1, hb2, hb3, fun o ho => ⟨(hb4 o ho).1, (hb4 o ho).2.1, by have := (few20 hs).1 o ho; omega, (hb4 o ho).2.2.2⟩⟩ hr
  obtain ⟨G, hG⟩ : ∃ G, great20 L os ⟨0, [], [], [], 0⟩ = G := ⟨_, rfl⟩
  obtain ⟨⟨X, E⟩, hX⟩ : ∃ x, fallD ⟨L, os, fuse, dn⟩ cr fz = x := ⟨_, rfl⟩
  simp only at hgr hrt hd0 hfi hrf
  rw [hG] at hgr hfa hfr hrt hfi hrf
  rw [hX] at hfa hfr
  obtain ⟨kp, by_, bu, at_, bi⟩ := cr
  unfold crV crC at *
  unfold opV opC strV at hgr
  simp only at *
  obtain ⟨a1, b1, c1⟩ := new_in (H := w.heap.size) 25 [Value.slice af L.length cf, .slice al os.length cl, .int .i64 fuse, .bool dn] (Below.refl _ w) (Nat.le_refl _)
  have e1 : (w.alloc (.cells [Value.slice af L.length cf, .slice al os.length cl, .int .i64 fuse, .bool dn].toArray 25)).heap.size = w.heap.size + 1 := by simp
  obtain ⟨a2, b2, c2⟩ := new_in (H := w.heap.size) 41 [Value.int .i64 kp, .int .i64 by_, .bool bu, .int .i64 at_, .int .u32 bi] b1 b1.size
  obtain ⟨W, hW⟩ : ∃ W, (w.alloc (.cells [Value.slice af L.length cf, .slice al os.length cl, .int .i64 fuse, .bool dn].toArray 25)).alloc (.cells [Value.int .i64 kp, .int .i64 by_, .bool bu, .int .i64 at_, .int .u32 bi].toArray 41) = W := ⟨_, rfl⟩
  rw [e1] at a2
  have a3 := a1.next c2
  rw [hW] at a2 a3 b2
  have hdW := Lib.hid (hd0.next b2)
  have hbD : Hid (DkBox W w.heap.size (.slice af L.length cf) (.slice al os.length cl) ⟨L, os, fuse, dn⟩) := Lib.hid ⟨a3, hf.next b2, hl.next b2⟩
  have hbC := Lib.hid a2
  have hbx := Lib.hid b2
  obtain ⟨q0, q1, q2, q3⟩ := four_cells a3
  have hlens := (⟨hb1, hb2⟩ : L.length ≤ 9223372036854775807 ∧ os.length ≤ 9223372036854775807)
  clear a1 b1 c1 a2 b2 c2 a3 e1 hd hf hl hb1 hb2 hb3 hb4 hk hb hat hd0
  by_cases hgt : 20000 < G
  · rw [decide_eq_true hgt] at hgr
    clear hfa hfr hrt hgt hfi hrf
    go_enter Try.func4, Try.ntmps4
    go_wp2_with fail
    refine (hgr.out _ hdW.out).mono ?_; rintro e w1 ⟨rfl, hb1⟩
    replace hbx := Lib.hid (hbx.out.next hb1 hbx.out.size)
    clear hgr hb1
    go_wp2_with fail
    refine (haw.out _).mono ?_; rintro e w2 ⟨rfl, hb2⟩
    go_wp2_with fail
    go_ret
    exact ⟨rfl, hbx.out.next hb2 hbx.out.size⟩
  · rw [decide_eq_false hgt] at hgr
    replace hfa := Lib.hid (hfa hgt)
    replace hfr := Lib.hid (hfr hgt)
    replace hrt := Lib.hid (hrt hgt)
    replace hfi := Lib.hid (hfi hgt)
    replace hrf := Lib.hid (hrf hgt)
    go_enter Try.func4, Try.ntmps4
    go_wp2_with fail
    refine (hgr.out _ hdW.out).mono ?_; rintro e w1 ⟨rfl, hb1⟩
    replace hbx := Lib.hid (hbx.out.next hb1 hbx.out.size)
    replace hbD := Lib.hid (hbD.out.next hb1)
    replace hbC := Lib.hid (hbC.out.next hb1)
    clear hgr hb1 hdW q0 q1 q2 q3
    obtain ⟨XL, Xo, Xf, Xd⟩ := X
    have hXl : XL.length ≤ 9223372036854775807 ∧ Xo.length ≤ 9223372036854775807 := fall_lens hX hlens
    have hcs := hbD.out.1
    unfold dkC at hcs
    simp only at hcs
    obtain ⟨q0, q1, q2, q3⟩ := four_cells hcs
    obtain ⟨t0, t1, t2, t3, t4⟩ := five_cells hbC.out
    have hg1 := hfa.out _ _ hbD.out.val
    unfold dkC at hg1
    simp only at hg1
    clear hcs hfa
    go_wp2_with fail
    refine hg1.mono ?_; rintro e w3 ⟨v3, rfl, hd3, hb3⟩
    obtain ⟨a3, c3, a3', c3', rfl, hf3, hl3⟩ := dkV_open hd3
    clear hg1 q0 q1 q2 q3 t0 t1 t2 t3 t4 hd3
    replace hbx := Lib.hid (hbx.out.next hb3 hbx.out.size)
    replace hbD := Lib.hid (hbD.out.next hb3)
    replace hbC := Lib.hid (hbC.out.next hb3)
    clear hb3
    have hn5 := arrAt_new w3 25 [Value.slice none 0 0, .slice none 0 0, .int .i64 0, .bool false]
    obtain ⟨u0, u1, u2, u3⟩ := four_cells hn5
    obtain ⟨s0, s1, s2, s3⟩ := four_soft hn5
    have hba := (Below.refl w3.heap.size w3).alloc (Nat.le_refl _) (.cells [Value.slice a3 XL.length c3, .slice a3' Xo.length c3', .int .i64 Xf, .bool Xd].toArray 25)
    have hXa : DkBox _ w3.heap.size (.slice a3 XL.length c3) (.slice a3' Xo.length c3') ⟨XL, Xo, Xf, Xd⟩ := ⟨arrAt_new w3 25 [.slice a3 XL.length c3, .slice a3' Xo.length c3', .int .i64 Xf, .bool Xd], hf3.next hba, hl3.next hba⟩
    replace hXa := Lib.hid hXa
    replace hbx := Lib.hid (hbx.out.trans (hba.mono hbx.out.size))
    replace hbD := Lib.hid (hbD.out.next hba)
    replace hbC := Lib.hid (hbC.out.next hba)
    clear hba hn5 hf3 hl3
    go_upto_region 4 with fail
    refine hide_world (K := fun a w' => Code.wp _ _ _ a w') (R := fun W => DkBox W w.heap.size (.slice af L.length cf) (.slice al os.length cl) ⟨L, os, fuse, dn⟩ ∧ ArrAt W (w.heap.size + 1) 41 [.int .i64 kp, .int .i64 by_, .bool bu, .int .i64 at_, .int .u32 bi] ∧ DkBox W w3.heap.size (.slice a3 XL.length c3) (.slice a3' Xo.length c3') ⟨XL, Xo, Xf, Xd⟩ ∧ Below w.heap.size w W) ⟨hbD.out, hbC.out, hXa.out, hbx.out⟩ ?_
    intro W4 hW4
    clear u0 u1 u2 u3 s0 s1 s2 s3 hbD hbC hXa hbx
    obtain ⟨hbD, hbC, hXa, hbx⟩ := hW4.out
    clear hW4
    have hcs := hbD.1
    unfold dkC at hcs
    simp only at hcs
    obtain ⟨q0, q1, q2, q3⟩ := four_cells hcs
    obtain ⟨t0, t1, t2, t3, t4⟩ := five_cells hbC
    have hg1 := hfr.out _ _ hbD.val
    unfold dkC at hg1
    simp only at hg1
    replace hbD := Lib.hid hbD
    replace hXa := Lib.hid hXa
    replace hbx := Lib.hid hbx
    clear hcs hfr hbC
    go_wp2_with fail
    refine hg1.mono ?_; rintro e w5 ⟨v5, rfl, hd5, hb5⟩
    obtain ⟨a5, c5, a5', c5', rfl, hf5, hl5⟩ := dkV_open hd5
    clear hg1 q0 q1 q2 q3 t0 t1 t2 t3 t4 hd5
    replace hbx := Lib.hid (hbx.out.next hb5 hbx.out.size)
    replace hbD := Lib.hid (hbD.out.next hb5)
    replace hXa := Lib.hid (hXa.out.next hb5)
    clear hb5
    have hn5 := arrAt_new w5 25 [Value.slice none 0 0, .slice none 0 0, .int .i64 0, .bool false]
    obtain ⟨u0, u1, u2, u3⟩ := four_cells hn5
    obtain ⟨s0, s1, s2, s3⟩ := four_soft hn5
    have hba := (Below.refl w5.heap.size w5).alloc (Nat.le_refl _) (.cells [Value.slice a5 XL.length c5, .slice a5' Xo.length c5', .int .i64 Xf, .bool Xd].toArray 25)
    have hXb : DkBox _ w5.heap.size (.slice a5 XL.length c5) (.slice a5' Xo.length c5') ⟨XL, Xo, Xf, Xd⟩ := ⟨arrAt_new w5 25 [.slice a5 XL.length c5, .slice a5' Xo.length c5', .int .i64 Xf, .bool Xd], hf5.next hba, hl5.next hba⟩
    replace hXb := Lib.hid hXb
    replace hbx := Lib.hid (hbx.out.trans (hba.mono hbx.out.size))
    replace hbD := Lib.hid (hbD.out.next hba)
    replace hXa := Lib.hid (hXa.out.next hba)
    clear hba hn5 hf5 hl5
    go_upto_region 5 with fail
    refine hide_world (K := fun a w' => Code.wp _ _ _ a w') (R := fun W => DkBox W w.heap.size (.slice af L.length cf) (.slice al os.length cl) ⟨L, os, fuse, dn⟩ ∧ DkBox W w3.heap.size (.slice a3 XL.length c3) (.slice a3' Xo.length c3') ⟨XL, Xo, Xf, Xd⟩ ∧ DkBox W w5.heap.size (.slice a5 XL.length c5) (.slice a5' Xo.length c5') ⟨XL, Xo, Xf, Xd⟩ ∧ Below w.heap.size w W) ⟨hbD.out, hXa.out, hXb.out, hbx.out⟩ ?_
    intro W6 hW6
    clear u0 u1 u2 u3 s0 s1 s2 s3 hbD hXa hXb hbx
    obtain ⟨hbD, hXa, hXb, hbx⟩ := hW6.out
    clear hW6
    have hsm := Lib.hid (fun V va vb h1 h2 => refsame20_any ⟨XL, Xo, Xf, Xd⟩ va vb V h1 h2 hXl.1 hXl.2)
    have hcs := hbD.1
    unfold dkC at hcs
    simp only at hcs
    obtain ⟨q0, q1, q2, q3⟩ := four_cells hcs
    have hcs := hXa.1
    unfold dkC at hcs
    simp only at hcs
    obtain ⟨p0, p1, p2, p3⟩ := four_cells hcs
    have hcs := hXb.1
    unfold dkC at hcs
    simp only at hcs
    obtain ⟨r0, r1, r2, r3⟩ := four_cells hcs
    clear hcs
    have hkp := Lib.hid (fun V (h : Below W6.heap.size W6 V) => (⟨(hbD.next h).1.cell 0, (hbD.next h).1.cell 1, (hbD.next h).1.cell 2, (hbD.next h).1.cell 3, (hXa.next h).1.cell 0, (hXa.next h).1.cell 1, (hXa.next h).1.cell 2, (hXa.next h).1.cell 3, (hXb.next h).1.cell 0, (hXb.next h).1.cell 1, (hXb.next h).1.cell 2, (hXb.next h).1.cell 3⟩ : V.cell? ⟨w.heap.size, 0, none⟩ = some (.slice af L.length cf) ∧ V.cell? ⟨w.heap.size, 1, none⟩ = some (.slice al os.length cl) ∧ V.cell? ⟨w.heap.size, 2, none⟩ = some (.int .i64 fuse) ∧ V.cell? ⟨w.heap.size, 3, none⟩ = some (.bool dn) ∧ V.cell? ⟨w3.heap.size, 0, none⟩ = some (.slice a3 XL.length c3) ∧ V.cell? ⟨w3.heap.size, 1, none⟩ = some (.slice a3' Xo.length c3') ∧ V.cell? ⟨w3.heap.size, 2, none⟩ = some (.int .i64 Xf) ∧ V.cell? ⟨w3.heap.size, 3, none⟩ = some (.bool Xd) ∧ V.cell? ⟨w5.heap.size, 0, none⟩ = some (.slice a5 XL.length c5) ∧ V.cell? ⟨w5.heap.size, 1, none⟩ = some (.slice a5' Xo.length c5') ∧ V.cell? ⟨w5.heap.size, 2, none⟩ = some (.int .i64 Xf) ∧ V.cell? ⟨w5.heap.size, 3, none⟩ = some (.bool Xd)))
    have hdD := Lib.hid hbD.val
    have hdA := Lib.hid hXa.val
    have hdB := Lib.hid hXb.val
    unfold dkC at hdD hdA hdB
    simp only at hdD hdA hdB
    replace hbx := Lib.hid hbx
    clear hbD hXa hXb hX hlens hXl hgt
    obtain ⟨R, hR⟩ : ∃ R, right20 L os = R := ⟨_, rfl⟩
    rw [hR] at hrt
    have hN8 : Hid (R = true → (all20 L os).length ≤ 8) := Lib.hid fun h => by
      obtain ⟨k1, k2, _⟩ := right_val (hR.trans h)
      exact (k1.all k2).few
    cases R with
    | false =>
      refine wp_region_held_drew (S := fun W' => W'.cell? ⟨w.heap.size, 0, none⟩ = some (.slice af L.length cf) ∧ W'.cell? ⟨w.heap.size, 1, none⟩ = some (.slice al os.length cl) ∧ W'.cell? ⟨w.heap.size, 2, none⟩ = some (.int .i64 fuse) ∧ W'.cell? ⟨w.heap.size, 3, none⟩ = some (.bool dn) ∧ W'.cell? ⟨w3.heap.size, 0, none⟩ = some (.slice a3 XL.length c3) ∧ W'.cell? ⟨w3.heap.size, 1, none⟩ = some (.slice a3' Xo.length c3') ∧ W'.cell? ⟨w3.heap.size, 2, none⟩ = some (.int .i64 Xf) ∧ W'.cell? ⟨w3.heap.size, 3, none⟩ = some (.bool Xd) ∧ W'.cell? ⟨w5.heap.size, 0, none⟩ = some (.slice a5 XL.length c5) ∧ W'.cell? ⟨w5.heap.size, 1, none⟩ = some (.slice a5' Xo.length c5') ∧ W'.cell? ⟨w5.heap.size, 2, none⟩ = some (.int .i64 Xf) ∧ W'.cell? ⟨w5.heap.size, 3, none⟩ = some (.bool Xd)) (by kernel_rfl) (hkp.out _ ((drawn_drew _).below _)) (fun hHeld => ?_)
      have hb6 := Lib.hid ((drawn_drew W6).below W6.heap.size)
      generalize W6.drew = w6 at hHeld hb6 ⊢
      refine wpAnyH_ready (rs := [0]) (by kernel_rfl) (by simp) ?_
      refine held_call rfl (fun K hK => ?_) AllReadyH.nil
      go_simp
      go_at_call 8
      (with_reducible refine (haw.out _).mono ?_)
      rintro e w7 ⟨rfl, hb7⟩
      replace hb7 := Lib.hid (hb6.out.andThen hb7)
      refine hK.out _ _ (hkp.out _ hb7.out) (fun hHeld => ?_)
      clear hK K
      try simp only [Act.put, List.setIfInBounds_toArray, List.set_cons_zero, List.set_cons_succ]
      refine held_take 1 (v := ?_) rfl (by kernel_rfl) (by kernel_rfl) (by kernel_rfl) (fun _ _ _ h => h) (by rfl) ?_ (by assumption) ?_
      rotate_left
      · (intro w hSw; (try dsimp only at hSw); go_simp; all_goals (with_reducible rfl))
      try simp only [Act.put, List.setIfInBounds_toArray, List.set_cons_zero, List.set_cons_succ]
      refine held_take 2 (v := ?_) rfl (by kernel_rfl) (by kernel_rfl) (by kernel_rfl) (fun _ _ _ h => h) (by rfl) ?_ (by assumption) ?_
      rotate_left
      · (intro w hSw; (try dsimp only at hSw); go_simp; all_goals (with_reducible rfl))
      try simp only [Act.put, List.setIfInBounds_toArray, List.set_cons_zero, List.set_cons_succ]
      refine held_take 3 (v := ?_) rfl (by kernel_rfl) (by kernel_rfl) (by kernel_rfl) (fun _ _ _ h => h) (by rfl) ?_ (by assumption) ?_
      rotate_left
      · (intro w hSw; (try dsimp only at hSw); go_simp; all_goals (with_reducible rfl))
      try simp only [Act.put, List.setIfInBounds_toArray, List.set_cons_zero, List.set_cons_succ]
      refine wpAnyH_ready (rs := [4]) (by kernel_rfl) (by simp) ?_
      refine held_call rfl (fun K hK => ?_) AllReadyH.nil
      go_simp
      go_at_call 15
      (with_reducible refine (hsm.out _ _ _ (hdA.out.next hb7.out) (hdB.out.next hb7.out)).mono ?_)
      rintro e w8 ⟨rfl, hb8⟩
      replace hb8 := Lib.hid (hb7.out.andThen hb8)
      refine hK.out _ _ (hkp.out _ hb8.out) (fun hHeld => ?_)
      clear hK K
      try simp only [Act.put, List.setIfInBounds_toArray, List.set_cons_zero, List.set_cons_succ]
      refine held_take 5 (v := ?_) rfl (by kernel_rfl) (by kernel_rfl) (by kernel_rfl) (fun _ _ _ h => h) (by rfl) ?_ (by assumption) ?_
      rotate_left
      · (intro w hSw; (try dsimp only at hSw); go_simp; all_goals (with_reducible rfl))
      try simp only [Act.put, List.setIfInBounds_toArray, List.set_cons_zero, List.set_cons_succ]
      refine held_take 6 (v := ?_) rfl (by kernel_rfl) (by kernel_rfl) (by kernel_rfl) (fun _ _ _ h => h) (by rfl) ?_ (by assumption) ?_
      rotate_left
      · (intro w hSw; (try dsimp only at hSw); go_simp; all_goals (with_reducible rfl))
      try simp only [Act.put, List.setIfInBounds_toArray, List.set_cons_zero, List.set_cons_succ]
      refine held_take 7 (v := ?_) rfl (by kernel_rfl) (by kernel_rfl) (by kernel_rfl) (fun _ _ _ h => h) (by rfl) ?_ (by assumption) ?_
      rotate_left
      · (intro w hSw; (try dsimp only at hSw); go_simp; all_goals (with_reducible rfl))
      try simp only [Act.put, List.setIfInBounds_toArray, List.set_cons_zero, List.set_cons_succ]
      refine held_take 8 (v := ?_) rfl (by kernel_rfl) (by kernel_rfl) (by kernel_rfl) (fun _ _ _ h => h) (by rfl) ?_ (by assumption) ?_
      rotate_left
      · (intro w hSw; (try dsimp only at hSw); go_simp; all_goals (with_reducible rfl))
      try simp only [Act.put, List.setIfInBounds_toArray, List.set_cons_zero, List.set_cons_succ]
      refine held_take 9 (v := ?_) rfl (by kernel_rfl) (by kernel_rfl) (by kernel_rfl) (fun _ _ _ h => h) (by rfl) ?_ (by assumption) ?_
      rotate_left
      · (intro w hSw; (try dsimp only at hSw); go_simp; all_goals (with_reducible rfl))
      try simp only [Act.put, List.setIfInBounds_toArray, List.set_cons_zero, List.set_cons_succ]
      refine held_take 10 (v := ?_) rfl (by kernel_rfl) (by kernel_rfl) (by kernel_rfl) (fun _ _ _ h => h) (by rfl) ?_ (by assumption) ?_
      rotate_left
      · (intro w hSw; (try dsimp only at hSw); go_simp; all_goals (with_reducible rfl))
      try simp only [Act.put, List.setIfInBounds_toArray, List.set_cons_zero, List.set_cons_succ]
      refine held_take 11 (v := ?_) rfl (by kernel_rfl) (by kernel_rfl) (by kernel_rfl) (fun _ _ _ h => h) (by rfl) ?_ (by assumption) ?_
      rotate_left
      · (intro w hSw; (try dsimp only at hSw); go_simp; all_goals (with_reducible rfl))
      try simp only [Act.put, List.setIfInBounds_toArray, List.set_cons_zero, List.set_cons_succ]
      refine held_take 12 (v := ?_) rfl (by kernel_rfl) (by kernel_rfl) (by kernel_rfl) (fun _ _ _ h => h) (by rfl) ?_ (by assumption) ?_
      rotate_left
      · (intro w hSw; (try dsimp only at hSw); go_simp; all_goals (with_reducible rfl))
      try simp only [Act.put, List.setIfInBounds_toArray, List.set_cons_zero, List.set_cons_succ]
      refine wpAnyH_ready (rs := [13]) (by kernel_rfl) (by simp) ?_
      refine held_call rfl (fun K hK => ?_) AllReadyH.nil
      go_simp
      go_at_call 17
      (with_reducible refine (hrt.out _ _ (hdD.out.next hb8.out)).mono ?_)
      rintro e w9 ⟨rfl, hb9⟩
      replace hb9 := Lib.hid (hb8.out.andThen hb9)
      refine hK.out _ _ (hkp.out _ hb9.out) (fun hHeld => ?_)
      clear hK K
      try simp only [Act.put, List.setIfInBounds_toArray, List.set_cons_zero, List.set_cons_succ]
      refine held_take 14 (v := ?_) rfl (by kernel_rfl) (by kernel_rfl) (by kernel_rfl) (fun _ _ _ h => h) (by rfl) ?_ (by assumption) ?_
      rotate_left
      · (intro w hSw; (try dsimp only at hSw); go_simp; all_goals (with_reducible rfl))
      try simp only [Act.put, List.setIfInBounds_toArray, List.set_cons_zero, List.set_cons_succ]
      refine held_take 15 (v := ?_) rfl (by kernel_rfl) (by kernel_rfl) (by kernel_rfl) (fun _ _ _ h => h) (by rfl) ?_ (by assumption) ?_
      rotate_left
      · (intro w hSw; (try dsimp only at hSw); go_simp; all_goals (with_reducible rfl))
      try simp only [Act.put, List.setIfInBounds_toArray, List.set_cons_zero, List.set_cons_succ]
      refine held_skip 16 rfl (by kernel_rfl) (by kernel_rfl) (by kernel_rfl) (fun _ _ _ h => h) (by rfl) (by assumption) ?_
      try simp only [Act.put, List.setIfInBounds_toArray, List.set_cons_zero, List.set_cons_succ]
      refine held_skip 17 rfl (by kernel_rfl) (by kernel_rfl) (by kernel_rfl) (fun _ _ _ h => h) (by rfl) (by assumption) ?_
      try simp only [Act.put, List.setIfInBounds_toArray, List.set_cons_zero, List.set_cons_succ]
      refine held_skip 18 rfl (by kernel_rfl) (by kernel_rfl) (by kernel_rfl) (fun _ _ _ h => h) (by rfl) (by assumption) ?_
      try simp only [Act.put, List.setIfInBounds_toArray, List.set_cons_zero, List.set_cons_succ]
      refine held_skip 19 rfl (by kernel_rfl) (by kernel_rfl) (by kernel_rfl) (fun _ _ _ h => h) (by rfl) (by assumption) ?_
      try simp only [Act.put, List.setIfInBounds_toArray, List.set_cons_zero, List.set_cons_succ]
      refine held_skip 20 rfl (by kernel_rfl) (by kernel_rfl) (by kernel_rfl) (fun _ _ _ h => h) (by rfl) (by assumption) ?_
      try simp only [Act.put, List.setIfInBounds_toArray, List.set_cons_zero, List.set_cons_succ]
      refine held_take 21 (v := ?_) rfl (by kernel_rfl) (by kernel_rfl) (by kernel_rfl) (fun _ _ _ h => h) (by rfl) ?_ (by assumption) ?_
      rotate_left
      · (intro w hSw; (try dsimp only at hSw); go_simp; all_goals (with_reducible rfl))
      try simp only [Act.put, List.setIfInBounds_toArray, List.set_cons_zero, List.set_cons_succ]
      refine held_take 22 (v := ?_) rfl (by kernel_rfl) (by kernel_rfl) (by kernel_rfl) (fun _ _ _ h => h) (by rfl) ?_ (by assumption) ?_
      rotate_left
      · (intro w hSw; (try dsimp only at hSw); go_simp; all_goals (with_reducible rfl))
      try simp only [Act.put, List.setIfInBounds_toArray, List.set_cons_zero, List.set_cons_succ]
      refine held_take 23 (v := ?_) rfl (by kernel_rfl) (by kernel_rfl) (by kernel_rfl) (fun _ _ _ h => h) (by rfl) ?_ (by assumption) ?_
      rotate_left
      · (intro w hSw; (try dsimp only at hSw); go_simp; all_goals (with_reducible rfl))
      try simp only [Act.put, List.setIfInBounds_toArray, List.set_cons_zero, List.set_cons_succ]
      refine wpAnyH_done (by kernel_rfl) ?_ _
      go_wp2_with fail
      go_ret
      exact ⟨rfl, hbx.out.next hb9.out hbx.out.size⟩
    | true =>
      refine wp_region_held_drew (S := fun W' => W'.cell? ⟨w.heap.size, 0, none⟩ = some (.slice af L.length cf) ∧ W'.cell? ⟨w.heap.size, 1, none⟩ = some (.slice al os.length cl) ∧ W'.cell? ⟨w.heap.size, 2, none⟩ = some (.int .i64 fuse) ∧ W'.cell? ⟨w.heap.size, 3, none⟩ = some (.bool dn) ∧ W'.cell? ⟨w3.heap.size, 0, none⟩ = some (.slice a3 XL.length c3) ∧ W'.cell? ⟨w3.heap.size, 1, none⟩ = some (.slice a3' Xo.length c3') ∧ W'.cell? ⟨w3.heap.size, 2, none⟩ = some (.int .i64 Xf) ∧ W'.cell? ⟨w3.heap.size, 3, none⟩ = some (.bool Xd) ∧ W'.cell? ⟨w5.heap.size, 0, none⟩ = some (.slice a5 XL.length c5) ∧ W'.cell? ⟨w5.heap.size, 1, none⟩ = some (.slice a5' Xo.length c5') ∧ W'.cell? ⟨w5.heap.size, 2, none⟩ = some (.int .i64 Xf) ∧ W'.cell? ⟨w5.heap.size, 3, none⟩ = some (.bool Xd)) (by kernel_rfl) (hkp.out _ ((drawn_drew _).below _)) (fun hHeld => ?_)
      have hb6 := Lib.hid ((drawn_drew W6).below W6.heap.size)
      generalize W6.drew = w6 at hHeld hb6 ⊢
      refine wpAnyH_ready (rs := [0]) (by kernel_rfl) (by simp) ?_
      refine held_call rfl (fun K hK => ?_) AllReadyH.nil
      go_simp
      go_at_call 8
      (with_reducible refine (haw.out _).mono ?_)
      rintro e w7 ⟨rfl, hb7⟩
      replace hb7 := Lib.hid (hb6.out.andThen hb7)
      refine hK.out _ _ (hkp.out _ hb7.out) (fun hHeld => ?_)
      clear hK K
      try simp only [Act.put, List.setIfInBounds_toArray, List.set_cons_zero, List.set_cons_succ]
      refine held_take 1 (v := ?_) rfl (by kernel_rfl) (by kernel_rfl) (by kernel_rfl) (fun _ _ _ h => h) (by rfl) ?_ (by assumption) ?_
      rotate_left
      · (intro w hSw; (try dsimp only at hSw); go_simp; all_goals (with_reducible rfl))
      try simp only [Act.put, List.setIfInBounds_toArray, List.set_cons_zero, List.set_cons_succ]
      refine held_take 2 (v := ?_) rfl (by kernel_rfl) (by kernel_rfl) (by kernel_rfl) (fun _ _ _ h => h) (by rfl) ?_ (by assumption) ?_
      rotate_left
      · (intro w hSw; (try dsimp only at hSw); go_simp; all_goals (with_reducible rfl))
      try simp only [Act.put, List.setIfInBounds_toArray, List.set_cons_zero, List.set_cons_succ]
      refine held_take 3 (v := ?_) rfl (by kernel_rfl) (by kernel_rfl) (by kernel_rfl) (fun _ _ _ h => h) (by rfl) ?_ (by assumption) ?_
      rotate_left
      · (intro w hSw; (try dsimp only at hSw); go_simp; all_goals (with_reducible rfl))
      try simp only [Act.put, List.setIfInBounds_toArray, List.set_cons_zero, List.set_cons_succ]
      refine wpAnyH_ready (rs := [4]) (by kernel_rfl) (by simp) ?_
      refine held_call rfl (fun K hK => ?_) AllReadyH.nil
      go_simp
      go_at_call 15
      (with_reducible refine (hsm.out _ _ _ (hdA.out.next hb7.out) (hdB.out.next hb7.out)).mono ?_)
      rintro e w8 ⟨rfl, hb8⟩
      replace hb8 := Lib.hid (hb7.out.andThen hb8)
      refine hK.out _ _ (hkp.out _ hb8.out) (fun hHeld => ?_)
      clear hK K
      try simp only [Act.put, List.setIfInBounds_toArray, List.set_cons_zero, List.set_cons_succ]
      refine held_take 5 (v := ?_) rfl (by kernel_rfl) (by kernel_rfl) (by kernel_rfl) (fun _ _ _ h => h) (by rfl) ?_ (by assumption) ?_
      rotate_left
      · (intro w hSw; (try dsimp only at hSw); go_simp; all_goals (with_reducible rfl))
      try simp only [Act.put, List.setIfInBounds_toArray, List.set_cons_zero, List.set_cons_succ]
      refine held_take 6 (v := ?_) rfl (by kernel_rfl) (by kernel_rfl) (by kernel_rfl) (fun _ _ _ h => h) (by rfl) ?_ (by assumption) ?_
      rotate_left
      · (intro w hSw; (try dsimp only at hSw); go_simp; all_goals (with_reducible rfl))
      try simp only [Act.put, List.setIfInBounds_toArray, List.set_cons_zero, List.set_cons_succ]
      refine held_take 7 (v := ?_) rfl (by kernel_rfl) (by kernel_rfl) (by kernel_rfl) (fun _ _ _ h => h) (by rfl) ?_ (by assumption) ?_
      rotate_left
      · (intro w hSw; (try dsimp only at hSw); go_simp; all_goals (with_reducible rfl))
      try simp only [Act.put, List.setIfInBounds_toArray, List.set_cons_zero, List.set_cons_succ]
      refine held_take 8 (v := ?_) rfl (by kernel_rfl) (by kernel_rfl) (by kernel_rfl) (fun _ _ _ h => h) (by rfl) ?_ (by assumption) ?_
      rotate_left
      · (intro w hSw; (try dsimp only at hSw); go_simp; all_goals (with_reducible rfl))
      try simp only [Act.put, List.setIfInBounds_toArray, List.set_cons_zero, List.set_cons_succ]
      refine held_take 9 (v := ?_) rfl (by kernel_rfl) (by kernel_rfl) (by kernel_rfl) (fun _ _ _ h => h) (by rfl) ?_ (by assumption) ?_
      rotate_left
      · (intro w hSw; (try dsimp only at hSw); go_simp; all_goals (with_reducible rfl))
      try simp only [Act.put, List.setIfInBounds_toArray, List.set_cons_zero, List.set_cons_succ]
      refine held_take 10 (v := ?_) rfl (by kernel_rfl) (by kernel_rfl) (by kernel_rfl) (fun _ _ _ h => h) (by rfl) ?_ (by assumption) ?_
      rotate_left
      · (intro w hSw; (try dsimp only at hSw); go_simp; all_goals (with_reducible rfl))
      try simp only [Act.put, List.setIfInBounds_toArray, List.set_cons_zero, List.set_cons_succ]
      refine held_take 11 (v := ?_) rfl (by kernel_rfl) (by kernel_rfl) (by kernel_rfl) (fun _ _ _ h => h) (by rfl) ?_ (by assumption) ?_
      rotate_left
      · (intro w hSw; (try dsimp only at hSw); go_simp; all_goals (with_reducible rfl))
      try simp only [Act.put, List.setIfInBounds_toArray, List.set_cons_zero, List.set_cons_succ]
      refine held_take 12 (v := ?_) rfl (by kernel_rfl) (by kernel_rfl) (by kernel_rfl) (fun _ _ _ h => h) (by rfl) ?_ (by assumption) ?_
      rotate_left
      · (intro w hSw; (try dsimp only at hSw); go_simp; all_goals (with_reducible rfl))
      try simp only [Act.put, List.setIfInBounds_toArray, List.set_cons_zero, List.set_cons_succ]
      refine wpAnyH_ready (rs := [13]) (by kernel_rfl) (by simp) ?_
      refine held_call rfl (fun K hK => ?_) AllReadyH.nil
      go_simp
      go_at_call 17
      (with_reducible refine (hrt.out _ _ (hdD.out.next hb8.out)).mono ?_)
      rintro e w9 ⟨rfl, hb9⟩
      replace hb9 := Lib.hid (hb8.out.andThen hb9)
      refine hK.out _ _ (hkp.out _ hb9.out) (fun hHeld => ?_)
      clear hK K
      try simp only [Act.put, List.setIfInBounds_toArray, List.set_cons_zero, List.set_cons_succ]
      refine held_take 14 (v := ?_) rfl (by kernel_rfl) (by kernel_rfl) (by kernel_rfl) (fun _ _ _ h => h) (by rfl) ?_ (by assumption) ?_
      rotate_left
      · (intro w hSw; (try dsimp only at hSw); go_simp; all_goals (with_reducible rfl))
      try simp only [Act.put, List.setIfInBounds_toArray, List.set_cons_zero, List.set_cons_succ]
      refine held_take 15 (v := ?_) rfl (by kernel_rfl) (by kernel_rfl) (by kernel_rfl) (fun _ _ _ h => h) (by rfl) ?_ (by assumption) ?_
      rotate_left
      · (intro w hSw; (try dsimp only at hSw); go_simp; all_goals (with_reducible rfl))
      try simp only [Act.put, List.setIfInBounds_toArray, List.set_cons_zero, List.set_cons_succ]
      have hfi2 := Lib.hid (hfi.out hR)
      have hrf2 := Lib.hid (hrf.out hR)
      have hN8' := hN8.out rfl
      obtain ⟨N, hN⟩ : ∃ N, all20 L os = N := ⟨_, rfl⟩
      rw [hN] at hfi2 hrf2 hN8'
      refine held_take 16 (v := ?_) rfl (by kernel_rfl) (by kernel_rfl) (by kernel_rfl) (fun _ _ _ h => h) (by rfl) ?_ (by assumption) ?_
      rotate_left
      · (intro w hSw; (try dsimp only at hSw); go_simp; all_goals (with_reducible rfl))
      try simp only [Act.put, List.setIfInBounds_toArray, List.set_cons_zero, List.set_cons_succ]
      refine held_take 18 (v := ?_) rfl (by kernel_rfl) (by kernel_rfl) (by kernel_rfl) (fun _ _ _ h => h) (by rfl) ?_ (by assumption) ?_
      rotate_left
      · (intro w hSw; (try dsimp only at hSw); go_simp; all_goals (with_reducible rfl))
      try simp only [Act.put, List.setIfInBounds_toArray, List.set_cons_zero, List.set_cons_succ]
      refine wpAnyH_ready (rs := [17]) (by kernel_rfl) (by simp) ?_
      refine held_call rfl (fun K hK => ?_) AllReadyH.nil
      go_simp
      go_at_call 23
      (with_reducible refine (hfi2.out _ _ (hdD.out.next hb9.out)).mono ?_)
      rintro e w10 ⟨v10, rfl, ho10, hb10⟩
      obtain ⟨a10, c10, rfl⟩ := own_form ho10
      have hf10 := Lib.hid (Fls.sl ho10)
      replace hb10 := Lib.hid (hb9.out.andThen hb10)
      refine hK.out _ _ (hkp.out _ hb10.out) (fun hHeld => ?_)
      clear hK K
      try simp only [Act.put, List.setIfInBounds_toArray, List.set_cons_zero, List.set_cons_succ]
      refine wpAnyH_ready (rs := [19]) (by kernel_rfl) (by simp) ?_
      refine held_call rfl (fun K hK => ?_) AllReadyH.nil
      go_simp
      go_at_call 24
      (with_reducible refine (hrf2.out _ _ (hdD.out.next hb10.out)).mono ?_)
      rintro e w11 ⟨v11, rfl, ho11, hb11⟩
      obtain ⟨a11, c11, rfl⟩ := own_form ho11
      have hf11 := Lib.hid (Fls.sl ho11)
      replace hf10 := Lib.hid (hf10.out.next hb11)
      replace hb11 := Lib.hid (hb10.out.andThen hb11)
      refine hK.out _ _ (hkp.out _ hb11.out) (fun hHeld => ?_)
      clear hK K
      try simp only [Act.put, List.setIfInBounds_toArray, List.set_cons_zero, List.set_cons_succ]
      refine wpAnyH_ready (rs := [20]) (by kernel_rfl) (by simp) ?_
      refine held_call rfl (fun K hK => ?_) AllReadyH.nil
      go_simp
      go_at_call 22
      (with_reducible refine (files20_any N _ _ _ hf10.out hf11.out (by omega)).mono ?_)
      rintro e w12 ⟨rfl, hb12⟩
      replace hb12 := Lib.hid (hb11.out.andThen hb12)
      refine hK.out _ _ (hkp.out _ hb12.out) (fun hHeld => ?_)
      clear hK K
      try simp only [Act.put, List.setIfInBounds_toArray, List.set_cons_zero, List.set_cons_succ]
      refine held_take 21 (v := ?_) rfl (by kernel_rfl) (by kernel_rfl) (by kernel_rfl) (fun _ _ _ h => h) (by rfl) ?_ (by assumption) ?_
      rotate_left
      · (intro w hSw; (try dsimp only at hSw); go_simp; all_goals (with_reducible rfl))
      try simp only [Act.put, List.setIfInBounds_toArray, List.set_cons_zero, List.set_cons_succ]
      refine held_take 22 (v := ?_) rfl (by kernel_rfl) (by kernel_rfl) (by kernel_rfl) (fun _ _ _ h => h) (by rfl) ?_ (by assumption) ?_
      rotate_left
      · (intro w hSw; (try dsimp only at hSw); go_simp; all_goals (with_reducible rfl))
      try simp only [Act.put, List.setIfInBounds_toArray, List.set_cons_zero, List.set_cons_succ]
      refine held_take 23 (v := ?_) rfl (by kernel_rfl) (by kernel_rfl) (by kernel_rfl) (fun _ _ _ h => h) (by rfl) ?_ (by assumption) ?_
      rotate_left
      · (intro w hSw; (try dsimp only at hSw); go_simp; all_goals (with_reducible rfl))
      try simp only [Act.put, List.setIfInBounds_toArray, List.set_cons_zero, List.set_cons_succ]
      refine wpAnyH_done (by kernel_rfl) ?_ _
      go_wp2_with fail
      go_ret
      exact ⟨rfl, hbx.out.next hb12.out hbx.out.size⟩
end Go.Proofs.Ytahndjgamoojkaa
