/- The walk of the reference's Do of layer 20. -/
import Derived.Test.YtahndjgamoojkaaBR17
namespace Go.Proofs.Ytahndjgamoojkaa
open Go.RowKit

def doD (d : Dk20) (o : Op20) : Dk20 × Int :=
  if right20 d.files d.loose = false then (d, 1) else if d.down = true then (d, 14)
  else if may20 (all20 d.files d.loose) o ≠ 0 then (d, may20 (all20 d.files d.loose) o)
  else if d.loose.length = 4096 then (d, 11)
  else if d.fuse = 0 then (⟨d.files, d.loose, d.fuse, true⟩, 14) else (⟨d.files, d.loose ++ [o], spentF d.fuse, false⟩, 0)
theorem five_cells {w : World} {g : Nat} {t : TypeId} {a b c d e : Value} (h : ArrAt w g t [a, b, c, d, e]) : w.cell? ⟨g, 0, none⟩ = some a ∧ w.cell? ⟨g, 1, none⟩ = some b ∧ w.cell? ⟨g, 2, none⟩ = some c ∧ w.cell? ⟨g, 3, none⟩ = some d ∧ w.cell? ⟨g, 4, none⟩ = some e := ⟨h.cell 0, h.cell 1, h.cell 2, h.cell 3, h.cell 4⟩
/-- What Do's walk keeps: the two boxes, the place of the result. -/
structure DoW (w : World) (B : Nat) (fv lv : Value) (fuse : Int) (dn : Bool) (kd : Int) (nm tn dt : List UInt8) (sz : Int) (w' : World) : Prop where
  dk : ArrAt w' B 25 [fv, lv, .int .i64 fuse, .bool dn]
  op : ArrAt w' (B + 1) 27 [.int .i64 kd, .string ⟨nm.toArray⟩, .string ⟨tn.toArray⟩, .string ⟨dt.toArray⟩, .int .i64 sz]
  res : ArrAt w' (B + 1 + 1) 25 [.slice none 0 0, .slice none 0 0, .int .i64 0, .bool false]
  below : Below w.heap.size w w'
theorem DoW.next {w w1 w2 : World} {B : Nat} {fv lv : Value} {fuse : Int} {dn : Bool} {kd : Int} {nm tn dt : List UInt8} {sz : Int} (h : DoW w B fv lv fuse dn kd nm tn dt sz w1) (hb : Below w1.heap.size w1 w2) : DoW w B fv lv fuse dn kd nm tn dt sz w2 :=
  ⟨h.dk.next hb, h.op.next hb, h.res.next hb, h.below.next hb h.below.size⟩
theorem DoW.cells {w w1 : World} {B : Nat} {fv lv : Value} {fuse : Int} {dn : Bool} {kd : Int} {nm tn dt : List UInt8} {sz : Int} (h : DoW w B fv lv fuse dn kd nm tn dt sz w1) :
    w1.cell? ⟨B, 0, none⟩ = some fv ∧ w1.cell? ⟨B, 1, none⟩ = some lv ∧ w1.cell? ⟨B, 2, none⟩ = some (.int .i64 fuse) ∧ w1.cell? ⟨B, 3, none⟩ = some (.bool dn) ∧ w1.cell? ⟨B + 1, 0, none⟩ = some (.int .i64 kd) ∧ w1.cell? ⟨B + 1, 1, none⟩ = some (.string ⟨nm.toArray⟩) ∧ w1.cell? ⟨B + 1, 2, none⟩ = some (.string ⟨tn.toArray⟩) ∧ w1.cell? ⟨B + 1, 3, none⟩ = some (.string ⟨dt.toArray⟩) ∧ w1.cell? ⟨B + 1, 4, none⟩ = some (.int .i64 sz) :=
  ⟨h.dk.cell 0, h.dk.cell 1, h.dk.cell 2, h.dk.cell 3, h.op.cell 0, h.op.cell 1, h.op.cell 2, h.op.cell 3, h.op.cell 4⟩
set_option maxHeartbeats 4000000 in
set_option maxRecDepth 100000 in
theorem refdo20_any (d : Dk20) (o : Op20) (val : Value) (w : World) (hd : DkV w val d) (hbd : DkBd d) (hfu : -9223372036854775808 ≤ d.fuse ∧ d.fuse ≤ 9223372036854775807)
    (ho : o.name.length ≤ 9223372036854775807 ∧ o.to.length ≤ 9223372036854775807 ∧ o.data.length ≤ 9223372036854775807 ∧ -9223372036854775808 ≤ o.size ∧ o.size ≤ 9223372036854775807) :
    Calls Try.prog 10 #[val, opV o] w (DiskPost w (doD d o)) := by
  obtain ⟨L, os, fuse, dn⟩ := d
  obtain ⟨kd, nm, tn, dt, sz⟩ := o
  have hdk := hd
  obtain ⟨fv, lv, rfl, hf, hl⟩ := hd
  obtain ⟨af, cf, rfl⟩ := hf.form
  obtain ⟨al, cl, rfl⟩ := hl.form
  have hri := fun V (h : DkV V (.agg (dkC (.slice af L.length cf) (.slice al os.length cl) ⟨L, os, fuse, dn⟩).toArray) ⟨L, os, fuse, dn⟩) => refright20_any ⟨L, os, fuse, dn⟩ _ V h hbd
  have hfi0 := fun V (h : DkV V (.agg (dkC (.slice af L.length cf) (.slice al os.length cl) ⟨L, os, fuse, dn⟩).toArray) ⟨L, os, fuse, dn⟩) (hr : right20 L os = true) => reffiles20_any ⟨L, os, fuse, dn⟩ _ V h hbd hr
  unfold dkC opV opC strV at *
  simp only at hri hfi0 hdk hfu ho hf hl ⊢
  obtain ⟨W, hW⟩ : ∃ W, ((w.alloc (.cells [Value.slice af L.length cf, .slice al os.length cl, .int .i64 fuse, .bool dn].toArray 25)).alloc (.cells [Value.int .i64 kd, .string ⟨nm.toArray⟩, .string ⟨tn.toArray⟩, .string ⟨dt.toArray⟩, .int .i64 sz].toArray 27)).alloc (.cells [Value.slice none 0 0, .slice none 0 0, .int .i64 0, .bool false].toArray 25) = W := ⟨_, rfl⟩
  have hsz1 : (w.alloc (.cells [Value.slice af L.length cf, .slice al os.length cl, .int .i64 fuse, .bool dn].toArray 25)).heap.size = w.heap.size + 1 := by simp
  have hsz2 : ((w.alloc (.cells [Value.slice af L.length cf, .slice al os.length cl, .int .i64 fuse, .bool dn].toArray 25)).alloc (.cells [Value.int .i64 kd, .string ⟨nm.toArray⟩, .string ⟨tn.toArray⟩, .string ⟨dt.toArray⟩, .int .i64 sz].toArray 27)).heap.size = w.heap.size + 2 := by simp
  have hw0 : DoW w w.heap.size (.slice af L.length cf) (.slice al os.length cl) fuse dn kd nm tn dt sz W := by
    rw [← hW]
    have h1 := arrAt_new w 25 [Value.slice af L.length cf, .slice al os.length cl, .int .i64 fuse, .bool dn]
    have h2 := arrAt_new (w.alloc (.cells [Value.slice af L.length cf, .slice al os.length cl, .int .i64 fuse, .bool dn].toArray 25)) 27 [Value.int .i64 kd, .string ⟨nm.toArray⟩, .string ⟨tn.toArray⟩, .string ⟨dt.toArray⟩, .int .i64 sz]
    have h3 := arrAt_new ((w.alloc (.cells [Value.slice af L.length cf, .slice al os.length cl, .int .i64 fuse, .bool dn].toArray 25)).alloc (.cells [Value.int .i64 kd, .string ⟨nm.toArray⟩, .string ⟨tn.toArray⟩, .string ⟨dt.toArray⟩, .int .i64 sz].toArray 27)) 25 [Value.slice none 0 0, .slice none 0 0, .int .i64 0, .bool false]
    rw [hsz1] at h2
    rw [hsz2] at h3
    exact ⟨(h1.next ((Below.refl _ _).alloc (Nat.le_refl _) _)).next ((Below.refl _ _).alloc (Nat.le_refl _) _), h2.next ((Below.refl _ _).alloc (Nat.le_refl _) _), h3, (((Below.refl w.heap.size w).alloc (Nat.le_refl _) _).alloc (by simp) _).alloc (by simp; omega) _⟩
  replace hw0 := Lib.hid hw0
  replace hf := Lib.hid hf
  replace hl := Lib.hid hl
  unfold doD
  simp only
  obtain ⟨R, hR⟩ : ∃ R, right20 L os = R := ⟨_, rfl⟩
  rw [hR] at hri hfi0 ⊢
  obtain ⟨A, hA⟩ : ∃ A, all20 L os = A := ⟨_, rfl⟩
  rw [hA] at hfi0 ⊢
  replace hri := Lib.hid hri
  clear hsz1 hsz2 hdk
  cases R with
  | false =>
    simp only [if_true]
    obtain ⟨q0, q1, q2, q3⟩ := four_cells hw0.out.dk
    go_enter Try.func10, Try.ntmps10
    go_wp2_with fail
    refine (hri.out _ (dkV_mk (hf.out.next hw0.out.below) (hl.out.next hw0.out.below))).mono ?_; rintro e w1 ⟨rfl, hb1⟩
    have hw1 := Lib.hid (hw0.out.next hb1)
    clear hb1 q0 q1 q2 q3
    obtain ⟨p0, p1, p2, p3⟩ := four_cells hw1.out.dk
    obtain ⟨r0, r1, r2, r3⟩ := four_cells hw1.out.res
    obtain ⟨s0, s1, s2, s3⟩ := four_soft hw1.out.res
    go_wp2_with fail
    obtain ⟨hset, hbs⟩ := four_set (B := w.heap.size) hw1.out.res (.slice af L.length cf) (.slice al os.length cl) (.int .i64 fuse) (.bool dn) (by omega)
    refine hide_world (K := fun a w' => bodyPost _ _ _ Exit.ret a w') (R := fun W' => ArrAt W' (w.heap.size + 1 + 1) 25 [.slice af L.length cf, .slice al os.length cl, .int .i64 fuse, .bool dn] ∧ Below w.heap.size w W') ⟨hset, hw1.out.below.trans hbs⟩ ?_
    intro wf hwf
    clear hset hbs p0 p1 p2 p3 r0 r1 r2 r3 s0 s1 s2 s3
    obtain ⟨k0, k1, k2, k3⟩ := four_cells hwf.out.1
    refine bodyPost_ret (v := .tuple #[.agg #[.slice af L.length cf, .slice al os.length cl, .int .i64 fuse, .bool dn], .int .i64 1]) (by simp [results, Try.results10, go_sem, k0, k1, k2, k3]) rfl ?_
    exact ⟨_, rfl, ⟨_, _, rfl, hf.out.next hwf.out.2, hl.out.next hwf.out.2⟩, hwf.out.2⟩
  | true =>
    simp only [Bool.true_eq_false, if_false]
    cases dn with
    | true =>
      simp only [if_true]
      obtain ⟨q0, q1, q2, q3⟩ := four_cells hw0.out.dk
      go_enter Try.func10, Try.ntmps10
      go_wp2_with fail
      refine (hri.out _ (dkV_mk (hf.out.next hw0.out.below) (hl.out.next hw0.out.below))).mono ?_; rintro e w1 ⟨rfl, hb1⟩
      have hw1 := Lib.hid (hw0.out.next hb1)
      clear hb1 q0 q1 q2 q3
      obtain ⟨p0, p1, p2, p3⟩ := four_cells hw1.out.dk
      obtain ⟨r0, r1, r2, r3⟩ := four_cells hw1.out.res
      obtain ⟨s0, s1, s2, s3⟩ := four_soft hw1.out.res
      go_wp2_with fail
      obtain ⟨hset, hbs⟩ := four_set (B := w.heap.size) hw1.out.res (.slice af L.length cf) (.slice al os.length cl) (.int .i64 fuse) (.bool true) (by omega)
      refine hide_world (K := fun a w' => bodyPost _ _ _ Exit.ret a w') (R := fun W' => ArrAt W' (w.heap.size + 1 + 1) 25 [.slice af L.length cf, .slice al os.length cl, .int .i64 fuse, .bool true] ∧ Below w.heap.size w W') ⟨hset, hw1.out.below.trans hbs⟩ ?_
      intro wf hwf
      clear hset hbs p0 p1 p2 p3 r0 r1 r2 r3 s0 s1 s2 s3
      obtain ⟨k0, k1, k2, k3⟩ := four_cells hwf.out.1
      refine bodyPost_ret (v := .tuple #[.agg #[.slice af L.length cf, .slice al os.length cl, .int .i64 fuse, .bool true], .int .i64 14]) (by simp [results, Try.results10, go_sem, k0, k1, k2, k3]) rfl ?_
      exact ⟨_, rfl, ⟨_, _, rfl, hf.out.next hwf.out.2, hl.out.next hwf.out.2⟩, hwf.out.2⟩
    | false =>
      simp only [Bool.false_eq_true, if_false]
      have hval := (right_val hR).1.all (right_val hR).2.1
      rw [hA] at hval
      have hAl := hval.few
      have hfi := Lib.hid (fun V h => hfi0 V h rfl)
      have hmay := fun V v (hv : AtSl V v A) => refmay20_any A ⟨kd, nm, tn, dt, sz⟩ v V hv (by omega) ⟨Nat.le_trans (hval.data nm) (by decide), ho.2.2.1, ho.1, ho.2.1⟩ ho.2.2.2
      unfold opV opC strV at hmay
      simp only at hmay
      obtain ⟨m, hm⟩ : ∃ m, may20 A ⟨kd, nm, tn, dt, sz⟩ = m := ⟨_, rfl⟩
      rw [hm] at hmay ⊢
      replace hm := Lib.hid hm
      replace hval := Lib.hid hval
      replace hmay := Lib.hid hmay
      clear hfi0
      by_cases hm0 : m = 0
      · skip
        subst hm0
        simp only [ne_eq, not_true_eq_false, if_false]
        by_cases h4 : os.length = 4096
        · rw [if_pos h4]
          have g4 : ((os.length : Int) == 4096) = true := by simp; omega
          replace h4 := Lib.hid h4
          obtain ⟨q0, q1, q2, q3⟩ := four_cells hw0.out.dk
          go_enter Try.func10, Try.ntmps10
          go_wp2_with fail
          refine (hri.out _ (dkV_mk (hf.out.next hw0.out.below) (hl.out.next hw0.out.below))).mono ?_; rintro e w1 ⟨rfl, hb1⟩
          have hw1 := Lib.hid (hw0.out.next hb1)
          clear hb1 q0 q1 q2 q3
          obtain ⟨p0, p1, p2, p3⟩ := four_cells hw1.out.dk
          obtain ⟨r0, r1, r2, r3⟩ := four_cells hw1.out.res
          obtain ⟨s0, s1, s2, s3⟩ := four_soft hw1.out.res
          go_wp2_with fail
          go_region_held3 (fun W' => W'.cell? ⟨w.heap.size, 0, none⟩ = some (.slice af L.length cf) ∧ W'.cell? ⟨w.heap.size, 1, none⟩ = some (.slice al os.length cl) ∧ W'.cell? ⟨w.heap.size, 2, none⟩ = some (.int .i64 fuse) ∧ W'.cell? ⟨w.heap.size, 3, none⟩ = some (.bool false) ∧ W'.cell? ⟨w.heap.size + 1, 0, none⟩ = some (.int .i64 kd) ∧ W'.cell? ⟨w.heap.size + 1, 1, none⟩ = some (.string ⟨nm.toArray⟩) ∧ W'.cell? ⟨w.heap.size + 1, 2, none⟩ = some (.string ⟨tn.toArray⟩) ∧ W'.cell? ⟨w.heap.size + 1, 3, none⟩ = some (.string ⟨dt.toArray⟩) ∧ W'.cell? ⟨w.heap.size + 1, 4, none⟩ = some (.int .i64 sz)) (first | exact hw3.out.cells | exact hw2.out.cells | exact (hw1.out.next ((drawn_drew _).below _)).cells)
            (first
              | (go_at_call 24; ((with_reducible refine (hfi.out _ (dkV_mk (hf.out.next (hw1.out.next ((drawn_drew _).below _)).below) (hl.out.next (hw1.out.next ((drawn_drew _).below _)).below))).mono ?_); rintro e w2 ⟨v2, rfl, ho2, hb2⟩; obtain ⟨a2, c2, rfl⟩ := own_form ho2; have hw2 := Lib.hid ((hw1.out.next ((drawn_drew _).below _)).next hb2); replace ho2 := Lib.hid ho2))
              | (go_at_call 30; ((with_reducible refine (hmay.out _ _ ho2.out.sl).mono ?_); rintro e w3 ⟨rfl, hb3⟩; have hw3 := Lib.hid (hw2.out.next hb3))))
          clear p0 p1 p2 p3 r0 r1 r2 r3 s0 s1 s2 s3
          obtain ⟨p0, p1, p2, p3⟩ := four_cells hw3.out.dk
          obtain ⟨r0, r1, r2, r3⟩ := four_cells hw3.out.res
          obtain ⟨s0, s1, s2, s3⟩ := four_soft hw3.out.res
          go_wp2_with fail
          obtain ⟨hset, hbs⟩ := four_set (B := w.heap.size) hw3.out.res (.slice af L.length cf) (.slice al os.length cl) (.int .i64 fuse) (.bool false) (by omega)
          refine hide_world (K := fun a w' => bodyPost _ _ _ Exit.ret a w') (R := fun W' => ArrAt W' (w.heap.size + 1 + 1) 25 [.slice af L.length cf, .slice al os.length cl, .int .i64 fuse, .bool false] ∧ Below w.heap.size w W') ⟨hset, hw3.out.below.trans hbs⟩ ?_
          intro wf hwf
          clear hset hbs p0 p1 p2 p3 r0 r1 r2 r3 s0 s1 s2 s3
          obtain ⟨k0, k1, k2, k3⟩ := four_cells hwf.out.1
          refine bodyPost_ret (v := .tuple #[.agg #[.slice af L.length cf, .slice al os.length cl, .int .i64 fuse, .bool false], .int .i64 11]) (by simp [results, Try.results10, go_sem, k0, k1, k2, k3]) rfl ?_
          exact ⟨_, rfl, ⟨_, _, rfl, hf.out.next hwf.out.2, hl.out.next hwf.out.2⟩, hwf.out.2⟩
        · rw [if_neg h4]
          have g4 : ((os.length : Int) == 4096) = false := by simp; omega
          replace h4 := Lib.hid h4
          have hsp := refspent20_any af al L.length cf os.length cl fuse false
          simp only [Bool.false_or] at hsp
          by_cases h0 : fuse = 0
          · rw [if_pos h0]
            have hsp1 : Hid (∀ W, Calls Try.prog 31 #[.agg #[.slice af L.length cf, .slice al os.length cl, .int .i64 fuse, .bool false]] W fun e w' => e = .returned (.tuple #[.agg #[.slice af L.length cf, .slice al os.length cl, .int .i64 fuse, .bool true], .bool false]) ∧ Below W.heap.size W w') := by
              refine Lib.hid fun W => ?_
              have := hsp W hfu
              rw [decide_eq_true h0] at this
              unfold spentF at this
              rw [if_neg (by omega)] at this
              exact this
            replace h0 := Lib.hid h0
            clear hsp
            obtain ⟨q0, q1, q2, q3⟩ := four_cells hw0.out.dk
            go_enter Try.func10, Try.ntmps10
            go_wp2_with fail
            refine (hri.out _ (dkV_mk (hf.out.next hw0.out.below) (hl.out.next hw0.out.below))).mono ?_; rintro e w1 ⟨rfl, hb1⟩
            have hw1 := Lib.hid (hw0.out.next hb1)
            clear hb1 q0 q1 q2 q3
            obtain ⟨p0, p1, p2, p3⟩ := four_cells hw1.out.dk
            obtain ⟨r0, r1, r2, r3⟩ := four_cells hw1.out.res
            obtain ⟨s0, s1, s2, s3⟩ := four_soft hw1.out.res
            go_wp2_with fail
            go_region_held3 (fun W' => W'.cell? ⟨w.heap.size, 0, none⟩ = some (.slice af L.length cf) ∧ W'.cell? ⟨w.heap.size, 1, none⟩ = some (.slice al os.length cl) ∧ W'.cell? ⟨w.heap.size, 2, none⟩ = some (.int .i64 fuse) ∧ W'.cell? ⟨w.heap.size, 3, none⟩ = some (.bool false) ∧ W'.cell? ⟨w.heap.size + 1, 0, none⟩ = some (.int .i64 kd) ∧ W'.cell? ⟨w.heap.size + 1, 1, none⟩ = some (.string ⟨nm.toArray⟩) ∧ W'.cell? ⟨w.heap.size + 1, 2, none⟩ = some (.string ⟨tn.toArray⟩) ∧ W'.cell? ⟨w.heap.size + 1, 3, none⟩ = some (.string ⟨dt.toArray⟩) ∧ W'.cell? ⟨w.heap.size + 1, 4, none⟩ = some (.int .i64 sz)) (first | exact hw3.out.cells | exact hw2.out.cells | exact (hw1.out.next ((drawn_drew _).below _)).cells)
              (first
                | (go_at_call 24; ((with_reducible refine (hfi.out _ (dkV_mk (hf.out.next (hw1.out.next ((drawn_drew _).below _)).below) (hl.out.next (hw1.out.next ((drawn_drew _).below _)).below))).mono ?_); rintro e w2 ⟨v2, rfl, ho2, hb2⟩; obtain ⟨a2, c2, rfl⟩ := own_form ho2; have hw2 := Lib.hid ((hw1.out.next ((drawn_drew _).below _)).next hb2); replace ho2 := Lib.hid ho2))
                | (go_at_call 30; ((with_reducible refine (hmay.out _ _ ho2.out.sl).mono ?_); rintro e w3 ⟨rfl, hb3⟩; have hw3 := Lib.hid (hw2.out.next hb3))))
            clear p0 p1 p2 p3 r0 r1 r2 r3 s0 s1 s2 s3
            obtain ⟨p0, p1, p2, p3⟩ := four_cells hw3.out.dk
            obtain ⟨r0, r1, r2, r3⟩ := four_cells hw3.out.res
            obtain ⟨s0, s1, s2, s3⟩ := four_soft hw3.out.res
            go_wp2_with fail
            refine (hsp1.out _).mono ?_; rintro e w4 ⟨rfl, hb4⟩
            have hw4 := Lib.hid (hw3.out.next hb4)
            clear p0 p1 p2 p3 r0 r1 r2 r3 s0 s1 s2 s3
            obtain ⟨p0, p1, p2, p3⟩ := four_cells hw4.out.dk
            obtain ⟨r0, r1, r2, r3⟩ := four_cells hw4.out.res
            obtain ⟨s0, s1, s2, s3⟩ := four_soft hw4.out.res
            obtain ⟨t0, t1, t2, t3⟩ := four_soft hw4.out.dk
            go_wp2_with fail
            obtain ⟨hsetB, hbsB⟩ := four_set (B := w.heap.size) hw4.out.dk (.slice af L.length cf) (.slice al os.length cl) (.int .i64 fuse) (.bool true) (Nat.le_refl _)
            have hfarR := four_far hw4.out.res (.slice af L.length cf) (.slice al os.length cl) (.int .i64 fuse) (.bool true) (g' := w.heap.size) (by omega)
            obtain ⟨hset, hbs⟩ := four_set (B := w.heap.size) hfarR (.slice af L.length cf) (.slice al os.length cl) (.int .i64 fuse) (.bool true) (by omega)
            refine hide_world (K := fun a w' => bodyPost _ _ _ Exit.ret a w') (R := fun W' => ArrAt W' (w.heap.size + 1 + 1) 25 [.slice af L.length cf, .slice al os.length cl, .int .i64 fuse, .bool true] ∧ Below w.heap.size w W') ⟨hset, (hw4.out.below.trans hbsB).trans hbs⟩ ?_
            intro wf hwf
            clear hset hbs hsetB hbsB hfarR p0 p1 p2 p3 r0 r1 r2 r3 s0 s1 s2 s3 t0 t1 t2 t3
            obtain ⟨k0, k1, k2, k3⟩ := four_cells hwf.out.1
            refine bodyPost_ret (v := .tuple #[.agg #[.slice af L.length cf, .slice al os.length cl, .int .i64 fuse, .bool true], .int .i64 14]) (by simp [results, Try.results10, go_sem, k0, k1, k2, k3]) rfl ?_
            exact ⟨_, rfl, ⟨_, _, rfl, hf.out.next hwf.out.2, hl.out.next hwf.out.2⟩, hwf.out.2⟩
          · rw [if_neg h0]
            have hsp1 : Hid (∀ W, Calls Try.prog 31 #[.agg #[.slice af L.length cf, .slice al os.length cl, .int .i64 fuse, .bool false]] W fun e w' => e = .returned (.tuple #[.agg #[.slice af L.length cf, .slice al os.length cl, .int .i64 (spentF fuse), .bool false], .bool true]) ∧ Below W.heap.size W w') := by
              refine Lib.hid fun W => ?_
              have := hsp W hfu
              rw [decide_eq_false h0] at this
              exact this
            obtain ⟨sf, hsf⟩ : ∃ sf, spentF fuse = sf := ⟨_, rfl⟩
            rw [hsf] at hsp1 ⊢
            have hos5 : os.length ≤ 4096 := (right_val hR).2.2
            replace h0 := Lib.hid h0
            replace hsf := Lib.hid hsf
            clear hsp
            obtain ⟨q0, q1, q2, q3⟩ := four_cells hw0.out.dk
            go_enter Try.func10, Try.ntmps10
            go_wp2_with fail
            refine (hri.out _ (dkV_mk (hf.out.next hw0.out.below) (hl.out.next hw0.out.below))).mono ?_; rintro e w1 ⟨rfl, hb1⟩
            have hw1 := Lib.hid (hw0.out.next hb1)
            clear hb1 q0 q1 q2 q3
            obtain ⟨p0, p1, p2, p3⟩ := four_cells hw1.out.dk
            obtain ⟨r0, r1, r2, r3⟩ := four_cells hw1.out.res
            obtain ⟨s0, s1, s2, s3⟩ := four_soft hw1.out.res
            go_wp2_with fail
            go_region_held3 (fun W' => W'.cell? ⟨w.heap.size, 0, none⟩ = some (.slice af L.length cf) ∧ W'.cell? ⟨w.heap.size, 1, none⟩ = some (.slice al os.length cl) ∧ W'.cell? ⟨w.heap.size, 2, none⟩ = some (.int .i64 fuse) ∧ W'.cell? ⟨w.heap.size, 3, none⟩ = some (.bool false) ∧ W'.cell? ⟨w.heap.size + 1, 0, none⟩ = some (.int .i64 kd) ∧ W'.cell? ⟨w.heap.size + 1, 1, none⟩ = some (.string ⟨nm.toArray⟩) ∧ W'.cell? ⟨w.heap.size + 1, 2, none⟩ = some (.string ⟨tn.toArray⟩) ∧ W'.cell? ⟨w.heap.size + 1, 3, none⟩ = some (.string ⟨dt.toArray⟩) ∧ W'.cell? ⟨w.heap.size + 1, 4, none⟩ = some (.int .i64 sz)) (first | exact hw3.out.cells | exact hw2.out.cells | exact (hw1.out.next ((drawn_drew _).below _)).cells)
              (first
                | (go_at_call 24; ((with_reducible refine (hfi.out _ (dkV_mk (hf.out.next (hw1.out.next ((drawn_drew _).below _)).below) (hl.out.next (hw1.out.next ((drawn_drew _).below _)).below))).mono ?_); rintro e w2 ⟨v2, rfl, ho2, hb2⟩; obtain ⟨a2, c2, rfl⟩ := own_form ho2; have hw2 := Lib.hid ((hw1.out.next ((drawn_drew _).below _)).next hb2); replace ho2 := Lib.hid ho2))
                | (go_at_call 30; ((with_reducible refine (hmay.out _ _ ho2.out.sl).mono ?_); rintro e w3 ⟨rfl, hb3⟩; have hw3 := Lib.hid (hw2.out.next hb3))))
            clear p0 p1 p2 p3 r0 r1 r2 r3 s0 s1 s2 s3
            obtain ⟨p0, p1, p2, p3⟩ := four_cells hw3.out.dk
            obtain ⟨r0, r1, r2, r3⟩ := four_cells hw3.out.res
            obtain ⟨s0, s1, s2, s3⟩ := four_soft hw3.out.res
            go_wp2_with fail
            refine (hsp1.out _).mono ?_; rintro e w4 ⟨rfl, hb4⟩
            have hw4 := Lib.hid (hw3.out.next hb4)
            clear p0 p1 p2 p3 r0 r1 r2 r3 s0 s1 s2 s3
            obtain ⟨p0, p1, p2, p3⟩ := four_cells hw4.out.dk
            obtain ⟨r0, r1, r2, r3⟩ := four_cells hw4.out.res
            obtain ⟨s0, s1, s2, s3⟩ := four_soft hw4.out.res
            obtain ⟨t0, t1, t2, t3⟩ := four_soft hw4.out.dk
            go_wp2_with fail
            obtain ⟨hsetB, hbsB⟩ := four_set (B := w.heap.size) hw4.out.dk (.slice af L.length cf) (.slice al os.length cl) (.int .i64 sf) (.bool false) (Nat.le_refl _)
            have hfarR := four_far hw4.out.res (.slice af L.length cf) (.slice al os.length cl) (.int .i64 sf) (.bool false) (g' := w.heap.size) (by omega)
            have hfarO := four_far hw4.out.op (.slice af L.length cf) (.slice al os.length cl) (.int .i64 sf) (.bool false) (g' := w.heap.size) (by omega)
            refine hide_world (K := fun a w' => Code.wp _ _ _ a w') (R := fun W' => DoW w w.heap.size (.slice af L.length cf) (.slice al os.length cl) sf false kd nm tn dt sz W') ⟨hsetB, hfarO, hfarR, hw4.out.below.trans hbsB⟩ ?_
            intro wv hwv
            clear hsetB hbsB hfarR hfarO p0 p1 p2 p3 r0 r1 r2 r3 s0 s1 s2 s3 t0 t1 t2 t3
            have hkeep : Hid (∀ W', Below wv.heap.size wv W' → (W'.cell? ⟨w.heap.size, 1, none⟩ = some (.slice al os.length cl) ∧ W'.frozen? ⟨w.heap.size, 1, none⟩ = false ∧ W'.cell? ⟨w.heap.size + 1, 0, none⟩ = some (.int .i64 kd) ∧ W'.cell? ⟨w.heap.size + 1, 1, none⟩ = some (.string ⟨nm.toArray⟩) ∧ W'.cell? ⟨w.heap.size + 1, 2, none⟩ = some (.string ⟨tn.toArray⟩) ∧ W'.cell? ⟨w.heap.size + 1, 3, none⟩ = some (.string ⟨dt.toArray⟩) ∧ W'.cell? ⟨w.heap.size + 1, 4, none⟩ = some (.int .i64 sz))) := Lib.hid fun W' hW' => by
              have h := hwv.out.next hW'
              obtain ⟨_, k1, _, _, k4, k5, k6, k7, k8⟩ := h.cells
              exact ⟨k1, h.dk.soft 1, k4, k5, k6, k7, k8⟩
            have hpart : Hid (∀ W', Below wv.heap.size wv W' → PartOf W' al (os.flatMap opC)) := Lib.hid fun W' hW' => (SlOf.next hl.out (hwv.out.next hW').below).part opC_len
            have one_o : ∀ u ∈ [Value.int .i64 kd, .string ⟨nm.toArray⟩, .string ⟨tn.toArray⟩, .string ⟨dt.toArray⟩, .int .i64 sz], u.oneCell' = true := by
              intro u hu
              simp at hu
              rcases hu with rfl | rfl | rfl | rfl | rfl <;> rfl
            refine zgo_begin 8 (fun W' => W'.cell? ⟨w.heap.size, 1, none⟩ = some (.slice al os.length cl) ∧ W'.frozen? ⟨w.heap.size, 1, none⟩ = false ∧ W'.cell? ⟨w.heap.size + 1, 0, none⟩ = some (.int .i64 kd) ∧ W'.cell? ⟨w.heap.size + 1, 1, none⟩ = some (.string ⟨nm.toArray⟩) ∧ W'.cell? ⟨w.heap.size + 1, 2, none⟩ = some (.string ⟨tn.toArray⟩) ∧ W'.cell? ⟨w.heap.size + 1, 3, none⟩ = some (.string ⟨dt.toArray⟩) ∧ W'.cell? ⟨w.heap.size + 1, 4, none⟩ = some (.int .i64 sz)) (by kernel_rfl) (hkeep.out _ ((drawn_drew _).below _)) ?_
            intro hHeld
            refine zgo_take 1 (v := ?_) rfl (by kernel_rfl) (by kernel_rfl) (by kernel_rfl) (by kernel_rfl) (fun _ _ _ h => h) (by rfl) ?_ (by assumption) ?_
            rotate_left
            · (intro w hSw; (try dsimp only at hSw); go_simp; all_goals (with_reducible rfl))
            try simp only [Act.put, List.setIfInBounds_toArray, List.set_cons_zero, List.set_cons_succ]
            refine zgo_take 2 (v := ?_) rfl (by kernel_rfl) (by kernel_rfl) (by kernel_rfl) (by kernel_rfl) (fun _ _ _ h => h) (by rfl) ?_ (by assumption) ?_
            rotate_left
            · (intro w hSw; (try dsimp only at hSw); go_simp; all_goals (with_reducible rfl))
            try simp only [Act.put, List.setIfInBounds_toArray, List.set_cons_zero, List.set_cons_succ]
            refine zgo_take 4 (v := ?_) rfl (by kernel_rfl) (by kernel_rfl) (by kernel_rfl) (by kernel_rfl) (fun _ _ _ h => h) (by rfl) ?_ (by assumption) ?_
            rotate_left
            · (intro w hSw; (try dsimp only at hSw); go_simp; all_goals (with_reducible rfl))
            try simp only [Act.put, List.setIfInBounds_toArray, List.set_cons_zero, List.set_cons_succ]
            refine zgo_ready [0, 5] (by kernel_rfl) (by simp) ?_
            refine ZAll.cons rfl (fun K hK => ?_) (ZAll.cons rfl (fun K hK => ?_) ZAll.nil)
            · skip
              go_simp
              refine hide_world (R := fun w' => ArrAt w' wv.heap.size 27 [] ∧ Below wv.heap.size wv w' ∧ Below wv.heap.size wv w') (new_in_drew 27 [] (Below.refl _ _) (Nat.le_refl _)) ?_
              intro v0 hv0
              refine hK.out _ _ (hkeep.out _ hv0.out.2.1) (fun hHeld => ?_)
              clear hK K
              try simp only [Act.put, List.setIfInBounds_toArray, List.set_cons_zero, List.set_cons_succ]
              refine zgo_ready [3, 5] (by kernel_rfl) (by simp) ?_
              refine ZAll.cons rfl (fun K hK => ?_) (ZAll.cons rfl (fun K hK => ?_) ZAll.nil)
              · skip
                refine step_append_part rfl _ _ 23 rfl wv.heap.size 27 (.agg #[.int .i64 0, .string ⟨#[]⟩, .string ⟨#[]⟩, .string ⟨#[]⟩, .int .i64 0]) 5 64 Try.underlying23 info_op20 rfl (by decide) (.slice (some ⟨wv.heap.size, 0, none⟩) 0 0) 0 [] rfl (empty_own hv0.out.1 (Nat.le_refl _)) al os.length _ (os.flatMap opC) rfl (flat_len opC_len os) (hpart.out v0 hv0.out.2.1) (opC_one os) (os.length) (Nat.zero_add _) (by unfold maxLen; omega) (by omega) hv0.out.2.1.size ?_
                intro av3 cv3 v3 hov3 hbv3 hgv3
                have hbbv3 := Lib.hid (hv0.out.2.1.trans hbv3.out)
                refine hK.out _ _ (hkeep.out _ hbbv3.out) (fun hHeld => ?_)
                clear hK K
                try simp only [Act.put, List.setIfInBounds_toArray, List.set_cons_zero, List.set_cons_succ]
                refine zgo_ready [5] (by kernel_rfl) (by simp) ?_
                refine ZAll.cons rfl (fun K hK => ?_) ZAll.nil
                go_simp
                refine hide_world (R := fun w' => ArrAt w' v3.heap.size 27 [Value.int .i64 kd, .string ⟨nm.toArray⟩, .string ⟨tn.toArray⟩, .string ⟨dt.toArray⟩, .int .i64 sz] ∧ Below wv.heap.size wv w' ∧ Below v3.heap.size v3 w') (new_in 27 [Value.int .i64 kd, .string ⟨nm.toArray⟩, .string ⟨tn.toArray⟩, .string ⟨dt.toArray⟩, .int .i64 sz] hbbv3.out hbbv3.out.size) ?_
                intro v5 hv5
                refine hK.out _ _ (hkeep.out _ hv5.out.2.1) (fun hHeld => ?_)
                clear hK K
                try simp only [Act.put, List.setIfInBounds_toArray, List.set_cons_zero, List.set_cons_succ]
                refine zgo_ready [6] (by kernel_rfl) (by simp) ?_
                refine ZAll.cons rfl (fun K hK => ?_) ZAll.nil
                refine step_append_part rfl _ _ 23 rfl wv.heap.size 27 (.agg #[.int .i64 0, .string ⟨#[]⟩, .string ⟨#[]⟩, .string ⟨#[]⟩, .int .i64 0]) 5 64 Try.underlying23 info_op20 rfl (by decide) (.slice av3 os.length cv3) os.length (os.flatMap opC) rfl (ownsRow_below hov3.out hv5.out.2.2) (some ⟨v3.heap.size, 0, none⟩) 1 1 [Value.int .i64 kd, .string ⟨nm.toArray⟩, .string ⟨tn.toArray⟩, .string ⟨dt.toArray⟩, .int .i64 sz] rfl rfl (part_one hv5.out.1) one_o (os.length + 1) rfl (by unfold maxLen; omega) (by omega) hv5.out.2.1.size ?_
                intro av6 cv6 v6 hov6 hbv6 hgv6
                have hbbv6 := Lib.hid (hv5.out.2.1.trans hbv6.out)
                refine hK.out _ _ (hkeep.out _ hbbv6.out) (fun hHeld => ?_)
                clear hK K
                try simp only [Act.put, List.setIfInBounds_toArray, List.set_cons_zero, List.set_cons_succ]
                refine zgo_take 7 (v := ?_) rfl (by kernel_rfl) (by kernel_rfl) (by kernel_rfl) (by kernel_rfl) (fun _ _ _ h => h) (by rfl) ?_ (by assumption) ?_
                rotate_left
                · (intro w hSw; (try dsimp only at hSw); go_simp; all_goals (with_reducible rfl))
                try simp only [Act.put, List.setIfInBounds_toArray, List.set_cons_zero, List.set_cons_succ]
                refine zgo_last (by kernel_rfl) (by kernel_rfl) rfl (fun K hK => ?_)
                go_simp
                refine hK.out _ _ ?_
                clear hK K
                have hw6 := Lib.hid (hwv.out.next hbbv6.out)
                obtain ⟨p0, p1, p2, p3⟩ := four_cells hw6.out.dk
                obtain ⟨r0, r1, r2, r3⟩ := four_cells hw6.out.res
                obtain ⟨s0, s1, s2, s3⟩ := four_soft hw6.out.res
                go_wp2_with fail
                have hlt6 := hwv.out.res.lt
                have hres6 := hw6.out.res.far (g' := w.heap.size) 1 (.slice av6 (os.length + 1) cv6) (by omega)
                obtain ⟨hset, hbs⟩ := four_set (B := w.heap.size) hres6 (.slice af L.length cf) (.slice av6 (os.length + 1) cv6) (.int .i64 sf) (.bool false) (by omega)
                have hown := four_own (ownsRow_setCell_below hov6.out (a := ⟨w.heap.size, 1, none⟩) hwv.out.dk.lt (.slice av6 (os.length + 1) cv6)) (.slice af L.length cf) (.slice av6 (os.length + 1) cv6) (.int .i64 sf) (.bool false) hlt6
                refine hide_world (K := fun a w' => bodyPost _ _ _ Exit.ret a w') (R := fun W' => ArrAt W' (w.heap.size + 1 + 1) 25 [.slice af L.length cf, .slice av6 (os.length + 1) cv6, .int .i64 sf, .bool false] ∧ Below w.heap.size w W' ∧ W'.ownsRow wv.heap.size 27 5 (.slice av6 (os.length + 1) cv6) (os.length + 1) (os.flatMap opC ++ [Value.int .i64 kd, .string ⟨nm.toArray⟩, .string ⟨tn.toArray⟩, .string ⟨dt.toArray⟩, .int .i64 sz])) ⟨hset, (hw6.out.below.setCell (p := ⟨w.heap.size, 1, none⟩) (Nat.le_refl _) (.slice av6 (os.length + 1) cv6)).trans hbs, hown⟩ ?_
                intro wf hwf
                clear hset hbs hres6 hown p0 p1 p2 p3 r0 r1 r2 r3 s0 s1 s2 s3
                obtain ⟨k0, k1, k2, k3⟩ := four_cells hwf.out.1
                refine bodyPost_ret (v := .tuple #[.agg #[.slice af L.length cf, .slice av6 (os.length + 1) cv6, .int .i64 sf, .bool false], .int .i64 0]) (by simp [results, Try.results10, go_sem, k0, k1, k2, k3]) rfl ?_
                refine ⟨_, rfl, ⟨_, _, rfl, hf.out.next hwf.out.2.1, ?_⟩, hwf.out.2.1⟩
                refine slOf_own opC_len (E := 27) (B := wv.heap.size) ?_
                rw [List.length_append, List.flatMap_append]
                exact hwf.out.2.2
              · skip
                go_simp
                refine hide_world (R := fun w' => ArrAt w' v0.heap.size 27 [Value.int .i64 kd, .string ⟨nm.toArray⟩, .string ⟨tn.toArray⟩, .string ⟨dt.toArray⟩, .int .i64 sz] ∧ Below wv.heap.size wv w' ∧ Below v0.heap.size v0 w') (new_in 27 [Value.int .i64 kd, .string ⟨nm.toArray⟩, .string ⟨tn.toArray⟩, .string ⟨dt.toArray⟩, .int .i64 sz] hv0.out.2.1 hv0.out.2.1.size) ?_
                intro v5 hv5
                refine hK.out _ _ (hkeep.out _ hv5.out.2.1) (fun hHeld => ?_)
                clear hK K
                try simp only [Act.put, List.setIfInBounds_toArray, List.set_cons_zero, List.set_cons_succ]
                refine zgo_ready [3] (by kernel_rfl) (by simp) ?_
                refine ZAll.cons rfl (fun K hK => ?_) ZAll.nil
                refine step_append_part rfl _ _ 23 rfl wv.heap.size 27 (.agg #[.int .i64 0, .string ⟨#[]⟩, .string ⟨#[]⟩, .string ⟨#[]⟩, .int .i64 0]) 5 64 Try.underlying23 info_op20 rfl (by decide) (.slice (some ⟨wv.heap.size, 0, none⟩) 0 0) 0 [] rfl (empty_own (hv0.out.1.next hv5.out.2.2) (Nat.le_refl _)) al os.length _ (os.flatMap opC) rfl (flat_len opC_len os) (hpart.out v5 hv5.out.2.1) (opC_one os) (os.length) (Nat.zero_add _) (by unfold maxLen; omega) (by omega) hv5.out.2.1.size ?_
                intro av3 cv3 v3 hov3 hbv3 hgv3
                have hbbv3 := Lib.hid (hv5.out.2.1.trans hbv3.out)
                refine hK.out _ _ (hkeep.out _ hbbv3.out) (fun hHeld => ?_)
                clear hK K
                try simp only [Act.put, List.setIfInBounds_toArray, List.set_cons_zero, List.set_cons_succ]
                refine zgo_ready [6] (by kernel_rfl) (by simp) ?_
                refine ZAll.cons rfl (fun K hK => ?_) ZAll.nil
                refine step_append_part rfl _ _ 23 rfl wv.heap.size 27 (.agg #[.int .i64 0, .string ⟨#[]⟩, .string ⟨#[]⟩, .string ⟨#[]⟩, .int .i64 0]) 5 64 Try.underlying23 info_op20 rfl (by decide) (.slice av3 os.length cv3) os.length (os.flatMap opC) rfl hov3.out (some ⟨v0.heap.size, 0, none⟩) 1 1 [Value.int .i64 kd, .string ⟨nm.toArray⟩, .string ⟨tn.toArray⟩, .string ⟨dt.toArray⟩, .int .i64 sz] rfl rfl (part_one (hv5.out.1.grown hgv3.out (by have := hv0.out.1.lt; intro e; injection e with e; dsimp only at e; omega))) one_o (os.length + 1) rfl (by unfold maxLen; omega) (by omega) hbbv3.out.size ?_
                intro av6 cv6 v6 hov6 hbv6 hgv6
                have hbbv6 := Lib.hid (hbbv3.out.trans hbv6.out)
                refine hK.out _ _ (hkeep.out _ hbbv6.out) (fun hHeld => ?_)
                clear hK K
                try simp only [Act.put, List.setIfInBounds_toArray, List.set_cons_zero, List.set_cons_succ]
                refine zgo_take 7 (v := ?_) rfl (by kernel_rfl) (by kernel_rfl) (by kernel_rfl) (by kernel_rfl) (fun _ _ _ h => h) (by rfl) ?_ (by assumption) ?_
                rotate_left
                · (intro w hSw; (try dsimp only at hSw); go_simp; all_goals (with_reducible rfl))
                try simp only [Act.put, List.setIfInBounds_toArray, List.set_cons_zero, List.set_cons_succ]
                refine zgo_last (by kernel_rfl) (by kernel_rfl) rfl (fun K hK => ?_)
                go_simp
                refine hK.out _ _ ?_
                clear hK K
                have hw6 := Lib.hid (hwv.out.next hbbv6.out)
                obtain ⟨p0, p1, p2, p3⟩ := four_cells hw6.out.dk
                obtain ⟨r0, r1, r2, r3⟩ := four_cells hw6.out.res
                obtain ⟨s0, s1, s2, s3⟩ := four_soft hw6.out.res
                go_wp2_with fail
                have hlt6 := hwv.out.res.lt
                have hres6 := hw6.out.res.far (g' := w.heap.size) 1 (.slice av6 (os.length + 1) cv6) (by omega)
                obtain ⟨hset, hbs⟩ := four_set (B := w.heap.size) hres6 (.slice af L.length cf) (.slice av6 (os.length + 1) cv6) (.int .i64 sf) (.bool false) (by omega)
                have hown := four_own (ownsRow_setCell_below hov6.out (a := ⟨w.heap.size, 1, none⟩) hwv.out.dk.lt (.slice av6 (os.length + 1) cv6)) (.slice af L.length cf) (.slice av6 (os.length + 1) cv6) (.int .i64 sf) (.bool false) hlt6
                refine hide_world (K := fun a w' => bodyPost _ _ _ Exit.ret a w') (R := fun W' => ArrAt W' (w.heap.size + 1 + 1) 25 [.slice af L.length cf, .slice av6 (os.length + 1) cv6, .int .i64 sf, .bool false] ∧ Below w.heap.size w W' ∧ W'.ownsRow wv.heap.size 27 5 (.slice av6 (os.length + 1) cv6) (os.length + 1) (os.flatMap opC ++ [Value.int .i64 kd, .string ⟨nm.toArray⟩, .string ⟨tn.toArray⟩, .string ⟨dt.toArray⟩, .int .i64 sz])) ⟨hset, (hw6.out.below.setCell (p := ⟨w.heap.size, 1, none⟩) (Nat.le_refl _) (.slice av6 (os.length + 1) cv6)).trans hbs, hown⟩ ?_
                intro wf hwf
                clear hset hbs hres6 hown p0 p1 p2 p3 r0 r1 r2 r3 s0 s1 s2 s3
                obtain ⟨k0, k1, k2, k3⟩ := four_cells hwf.out.1
                refine bodyPost_ret (v := .tuple #[.agg #[.slice af L.length cf, .slice av6 (os.length + 1) cv6, .int .i64 sf, .bool false], .int .i64 0]) (by simp [results, Try.results10, go_sem, k0, k1, k2, k3]) rfl ?_
                refine ⟨_, rfl, ⟨_, _, rfl, hf.out.next hwf.out.2.1, ?_⟩, hwf.out.2.1⟩
                refine slOf_own opC_len (E := 27) (B := wv.heap.size) ?_
                rw [List.length_append, List.flatMap_append]
                exact hwf.out.2.2
            · skip
              go_simp
              refine hide_world (R := fun w' => ArrAt w' wv.heap.size 27 [Value.int .i64 kd, .string ⟨nm.toArray⟩, .string ⟨tn.toArray⟩, .string ⟨dt.toArray⟩, .int .i64 sz] ∧ Below wv.heap.size wv w' ∧ Below wv.heap.size wv w') (new_in_drew 27 [Value.int .i64 kd, .string ⟨nm.toArray⟩, .string ⟨tn.toArray⟩, .string ⟨dt.toArray⟩, .int .i64 sz] (Below.refl _ _) (Nat.le_refl _)) ?_
              intro v5 hv5
              refine hK.out _ _ (hkeep.out _ hv5.out.2.1) (fun hHeld => ?_)
              clear hK K
              try simp only [Act.put, List.setIfInBounds_toArray, List.set_cons_zero, List.set_cons_succ]
              refine zgo_ready [0] (by kernel_rfl) (by simp) ?_
              refine ZAll.cons rfl (fun K hK => ?_) ZAll.nil
              go_simp
              refine hide_world (R := fun w' => ArrAt w' v5.heap.size 27 [] ∧ Below wv.heap.size wv w' ∧ Below v5.heap.size v5 w') (new_in 27 [] hv5.out.2.1 hv5.out.2.1.size) ?_
              intro v0 hv0
              refine hK.out _ _ (hkeep.out _ hv0.out.2.1) (fun hHeld => ?_)
              clear hK K
              try simp only [Act.put, List.setIfInBounds_toArray, List.set_cons_zero, List.set_cons_succ]
              refine zgo_ready [3] (by kernel_rfl) (by simp) ?_
              refine ZAll.cons rfl (fun K hK => ?_) ZAll.nil
              refine step_append_part rfl _ _ 23 rfl wv.heap.size 27 (.agg #[.int .i64 0, .string ⟨#[]⟩, .string ⟨#[]⟩, .string ⟨#[]⟩, .int .i64 0]) 5 64 Try.underlying23 info_op20 rfl (by decide) (.slice (some ⟨v5.heap.size, 0, none⟩) 0 0) 0 [] rfl (empty_own hv0.out.1 hv5.out.2.1.size) al os.length _ (os.flatMap opC) rfl (flat_len opC_len os) (hpart.out v0 hv0.out.2.1) (opC_one os) (os.length) (Nat.zero_add _) (by unfold maxLen; omega) (by omega) hv0.out.2.1.size ?_
              intro av3 cv3 v3 hov3 hbv3 hgv3
              have hbbv3 := Lib.hid (hv0.out.2.1.trans hbv3.out)
              refine hK.out _ _ (hkeep.out _ hbbv3.out) (fun hHeld => ?_)
              clear hK K
              try simp only [Act.put, List.setIfInBounds_toArray, List.set_cons_zero, List.set_cons_succ]
              refine zgo_ready [6] (by kernel_rfl) (by simp) ?_
              refine ZAll.cons rfl (fun K hK => ?_) ZAll.nil
              refine step_append_part rfl _ _ 23 rfl wv.heap.size 27 (.agg #[.int .i64 0, .string ⟨#[]⟩, .string ⟨#[]⟩, .string ⟨#[]⟩, .int .i64 0]) 5 64 Try.underlying23 info_op20 rfl (by decide) (.slice av3 os.length cv3) os.length (os.flatMap opC) rfl hov3.out (some ⟨wv.heap.size, 0, none⟩) 1 1 [Value.int .i64 kd, .string ⟨nm.toArray⟩, .string ⟨tn.toArray⟩, .string ⟨dt.toArray⟩, .int .i64 sz] rfl rfl (part_one ((hv5.out.1.next hv0.out.2.2).grown hgv3.out (by have := hv5.out.1.lt; intro e; injection e with e; dsimp only at e; omega))) one_o (os.length + 1) rfl (by unfold maxLen; omega) (by omega) hbbv3.out.size ?_
              intro av6 cv6 v6 hov6 hbv6 hgv6
              have hbbv6 := Lib.hid (hbbv3.out.trans hbv6.out)
              refine hK.out _ _ (hkeep.out _ hbbv6.out) (fun hHeld => ?_)
              clear hK K
              try simp only [Act.put, List.setIfInBounds_toArray, List.set_cons_zero, List.set_cons_succ]
              refine zgo_take 7 (v := ?_) rfl (by kernel_rfl) (by kernel_rfl) (by kernel_rfl) (by kernel_rfl) (fun _ _ _ h => h) (by rfl) ?_ (by assumption) ?_
              rotate_left
              · (intro w hSw; (try dsimp only at hSw); go_simp; all_goals (with_reducible rfl))
              try simp only [Act.put, List.setIfInBounds_toArray, List.set_cons_zero, List.set_cons_succ]
              refine zgo_last (by kernel_rfl) (by kernel_rfl) rfl (fun K hK => ?_)
              go_simp
              refine hK.out _ _ ?_
              clear hK K
              have hw6 := Lib.hid (hwv.out.next hbbv6.out)
              obtain ⟨p0, p1, p2, p3⟩ := four_cells hw6.out.dk
              obtain ⟨r0, r1, r2, r3⟩ := four_cells hw6.out.res
              obtain ⟨s0, s1, s2, s3⟩ := four_soft hw6.out.res
              go_wp2_with fail
              have hlt6 := hwv.out.res.lt
              have hres6 := hw6.out.res.far (g' := w.heap.size) 1 (.slice av6 (os.length + 1) cv6) (by omega)
              obtain ⟨hset, hbs⟩ := four_set (B := w.heap.size) hres6 (.slice af L.length cf) (.slice av6 (os.length + 1) cv6) (.int .i64 sf) (.bool false) (by omega)
              have hown := four_own (ownsRow_setCell_below hov6.out (a := ⟨w.heap.size, 1, none⟩) hwv.out.dk.lt (.slice av6 (os.length + 1) cv6)) (.slice af L.length cf) (.slice av6 (os.length + 1) cv6) (.int .i64 sf) (.bool false) hlt6
              refine hide_world (K := fun a w' => bodyPost _ _ _ Exit.ret a w') (R := fun W' => ArrAt W' (w.heap.size + 1 + 1) 25 [.slice af L.length cf, .slice av6 (os.length + 1) cv6, .int .i64 sf, .bool false] ∧ Below w.heap.size w W' ∧ W'.ownsRow wv.heap.size 27 5 (.slice av6 (os.length + 1) cv6) (os.length + 1) (os.flatMap opC ++ [Value.int .i64 kd, .string ⟨nm.toArray⟩, .string ⟨tn.toArray⟩, .string ⟨dt.toArray⟩, .int .i64 sz])) ⟨hset, (hw6.out.below.setCell (p := ⟨w.heap.size, 1, none⟩) (Nat.le_refl _) (.slice av6 (os.length + 1) cv6)).trans hbs, hown⟩ ?_
              intro wf hwf
              clear hset hbs hres6 hown p0 p1 p2 p3 r0 r1 r2 r3 s0 s1 s2 s3
              obtain ⟨k0, k1, k2, k3⟩ := four_cells hwf.out.1
              refine bodyPost_ret (v := .tuple #[.agg #[.slice af L.length cf, .slice av6 (os.length + 1) cv6, .int .i64 sf, .bool false], .int .i64 0]) (by simp [results, Try.results10, go_sem, k0, k1, k2, k3]) rfl ?_
              refine ⟨_, rfl, ⟨_, _, rfl, hf.out.next hwf.out.2.1, ?_⟩, hwf.out.2.1⟩
              refine slOf_own opC_len (E := 27) (B := wv.heap.size) ?_
              rw [List.length_append, List.flatMap_append]
              exact hwf.out.2.2
      · rw [if_pos hm0]
        have g0 : ¬ m = 0 := hm0
        obtain ⟨q0, q1, q2, q3⟩ := four_cells hw0.out.dk
        go_enter Try.func10, Try.ntmps10
        go_wp2_with fail
        refine (hri.out _ (dkV_mk (hf.out.next hw0.out.below) (hl.out.next hw0.out.below))).mono ?_; rintro e w1 ⟨rfl, hb1⟩
        have hw1 := Lib.hid (hw0.out.next hb1)
        clear hb1 q0 q1 q2 q3
        obtain ⟨p0, p1, p2, p3⟩ := four_cells hw1.out.dk
        obtain ⟨r0, r1, r2, r3⟩ := four_cells hw1.out.res
        obtain ⟨s0, s1, s2, s3⟩ := four_soft hw1.out.res
        go_wp2_with fail
        go_region_held3 (fun W' => W'.cell? ⟨w.heap.size, 0, none⟩ = some (.slice af L.length cf) ∧ W'.cell? ⟨w.heap.size, 1, none⟩ = some (.slice al os.length cl) ∧ W'.cell? ⟨w.heap.size, 2, none⟩ = some (.int .i64 fuse) ∧ W'.cell? ⟨w.heap.size, 3, none⟩ = some (.bool false) ∧ W'.cell? ⟨w.heap.size + 1, 0, none⟩ = some (.int .i64 kd) ∧ W'.cell? ⟨w.heap.size + 1, 1, none⟩ = some (.string ⟨nm.toArray⟩) ∧ W'.cell? ⟨w.heap.size + 1, 2, none⟩ = some (.string ⟨tn.toArray⟩) ∧ W'.cell? ⟨w.heap.size + 1, 3, none⟩ = some (.string ⟨dt.toArray⟩) ∧ W'.cell? ⟨w.heap.size + 1, 4, none⟩ = some (.int .i64 sz)) (first | exact hw3.out.cells | exact hw2.out.cells | exact (hw1.out.next ((drawn_drew _).below _)).cells)
          (first
            | (go_at_call 24; ((with_reducible refine (hfi.out _ (dkV_mk (hf.out.next (hw1.out.next ((drawn_drew _).below _)).below) (hl.out.next (hw1.out.next ((drawn_drew _).below _)).below))).mono ?_); rintro e w2 ⟨v2, rfl, ho2, hb2⟩; obtain ⟨a2, c2, rfl⟩ := own_form ho2; have hw2 := Lib.hid ((hw1.out.next ((drawn_drew _).below _)).next hb2); replace ho2 := Lib.hid ho2))
            | (go_at_call 30; ((with_reducible refine (hmay.out _ _ ho2.out.sl).mono ?_); rintro e w3 ⟨rfl, hb3⟩; have hw3 := Lib.hid (hw2.out.next hb3))))
        clear p0 p1 p2 p3 r0 r1 r2 r3 s0 s1 s2 s3
        obtain ⟨p0, p1, p2, p3⟩ := four_cells hw3.out.dk
        obtain ⟨r0, r1, r2, r3⟩ := four_cells hw3.out.res
        obtain ⟨s0, s1, s2, s3⟩ := four_soft hw3.out.res
        go_wp2_with fail
        obtain ⟨hset, hbs⟩ := four_set (B := w.heap.size) hw3.out.res (.slice af L.length cf) (.slice al os.length cl) (.int .i64 fuse) (.bool false) (by omega)
        refine hide_world (K := fun a w' => bodyPost _ _ _ Exit.ret a w') (R := fun W' => ArrAt W' (w.heap.size + 1 + 1) 25 [.slice af L.length cf, .slice al os.length cl, .int .i64 fuse, .bool false] ∧ Below w.heap.size w W') ⟨hset, hw3.out.below.trans hbs⟩ ?_
        intro wf hwf
        clear hset hbs p0 p1 p2 p3 r0 r1 r2 r3 s0 s1 s2 s3
        obtain ⟨k0, k1, k2, k3⟩ := four_cells hwf.out.1
        refine bodyPost_ret (v := .tuple #[.agg #[.slice af L.length cf, .slice al os.length cl, .int .i64 fuse, .bool false], .int .i64 m]) (by simp [results, Try.results10, go_sem, k0, k1, k2, k3]) rfl ?_
        exact ⟨_, rfl, ⟨_, _, rfl, hf.out.next hwf.out.2, hl.out.next hwf.out.2⟩, hwf.out.2⟩
end Go.Proofs.Ytahndjgamoojkaa
