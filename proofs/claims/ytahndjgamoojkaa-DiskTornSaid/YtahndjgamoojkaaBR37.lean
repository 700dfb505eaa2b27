/- Walks of layer 20's disk: Do. -/
import Derived.Test.YtahndjgamoojkaaBR36
import Derived.Test.YtahndjgamoojkaaBR32
namespace Go.Proofs.Ytahndjgamoojkaa
open Go.RowKit

/-- Why an operation isn't done; 0: it may be tried. -/
def whyD (d : Dk20) (o : Op20) : Int := if openC d ≠ 0 then openC d else if may20 (all20 d.files d.loose) o ≠ 0 then may20 (all20 d.files d.loose) o else if d.loose.length = 4096 then 11 else 0
theorem doD_why (d : Dk20) (o : Op20) : doD d o = if whyD d o ≠ 0 then (d, whyD d o) else if d.fuse = 0 then (⟨d.files, d.loose, d.fuse, true⟩, 14) else (⟨d.files, d.loose ++ [o], spentF d.fuse, false⟩, 0) := by
  unfold doD whyD openC
  by_cases h1 : right20 d.files d.loose = false
  · simp [h1]
  · by_cases h2 : d.down = true
    · simp [h1, h2]
    · by_cases h3 : may20 (all20 d.files d.loose) o = 0
      · by_cases h4 : d.loose.length = 4096
        · simp [h1, h2, h3, h4]
        · simp [h1, h2, h3, h4]
      · simp [h1, h2, h3]
/-- The walk's boxes. -/
structure DoB (w : World) (a1 : Option Addr) (c1 : Nat) (a2 : Option Addr) (c2 : Nat) (fuse : Int) (dn : Bool) (L : List Fl20) (os : List Op20) (kd : Int) (nm tn dt : List UInt8) (sz : Int) (W : World) : Prop where
  b : DkW w w.heap.size (w.heap.size + 1 + 1) a1 c1 a2 c2 fuse dn L os W
  op : ArrAt W (w.heap.size + 1) 27 [.int .i64 kd, .string ⟨nm.toArray⟩, .string ⟨tn.toArray⟩, .string ⟨dt.toArray⟩, .int .i64 sz]
section
variable {w W W' : World} {a1 a2 : Option Addr} {c1 c2 : Nat} {fuse : Int} {dn : Bool} {L : List Fl20} {os : List Op20} {kd : Int} {nm tn dt : List UInt8} {sz : Int}
theorem AtSl.lowNext {w w' : World} {v : Value} {L : List Fl20} {B : Nat} (h : AtSl w v L) (hb : Below B w w') (hv : SlBelow B v) : AtSl w' v L := by
  rcases h with h | ⟨b, off, c, hc, rfl, h⟩
  · exact Or.inl h
  · refine Or.inr ⟨b, off, c, hc, rfl, fun j hj => ?_⟩
    have hlt := hv ⟨b, off, none⟩ _ _ rfl (by omega)
    exact ⟨(hb.cell (p := ⟨b, off + j * 2, none⟩) hlt).trans (h j hj).1, (hb.cell (p := ⟨b, off + j * 2 + 1, none⟩) hlt).trans (h j hj).2⟩
theorem do_end {w V : World} {G H n : Nat} {a1 a2 a : Option Addr} {c1 c2 c n' : Nat} {z : Int} {b : Bool} {L : List Fl20} {os' : List Op20} (hdk : ArrAt V G 25 [.slice a1 L.length c1, .slice a2 n c2, .int .i64 z, .bool b]) (hrs : ArrAt V H 25 [.slice none 0 0, .slice none 0 0, .int .i64 0, .bool false]) (hf : AtSl V (.slice a1 L.length c1) L) (hl : OpSl V (.slice a n' c) os') (hn : os'.length = n') (hb : Below w.heap.size w V) (hG : w.heap.size ≤ G) (hH : w.heap.size ≤ H) (hne : G ≠ H) :
    DkW w G H a1 c1 a c z b L os' (V.setCell ⟨G, 1, none⟩ (.slice a n' c)) := by
  subst hn
  exact ⟨hdk.set 1 _, hrs.far 1 _ (Ne.symm hne), at_keep hf hdk (one_other _ _ _), op_keep hl hdk (one_other _ _ _), hb.setCell (p := ⟨G, 1, none⟩) hG _, hG, hH, hne⟩
theorem DoB.next (h : DoB w a1 c1 a2 c2 fuse dn L os kd nm tn dt sz W) (hb : Below W.heap.size W W') : DoB w a1 c1 a2 c2 fuse dn L os kd nm tn dt sz W' := ⟨h.b.next hb, h.op.next hb⟩
theorem DoB.set (h : DoB w a1 c1 a2 c2 fuse dn L os kd nm tn dt sz W) {a a' : Option Addr} {c c' : Nat} {z : Int} {b : Bool} (hf : AtSl W (.slice a L.length c) L) (hl : OpSl W (.slice a' os.length c') os) :
    DoB w a c a' c' z b L os kd nm tn dt sz ((((W.setCell ⟨w.heap.size, 0, none⟩ (.slice a L.length c)).setCell ⟨w.heap.size, 1, none⟩ (.slice a' os.length c')).setCell ⟨w.heap.size, 2, none⟩ (.int .i64 z)).setCell ⟨w.heap.size, 3, none⟩ (.bool b)) :=
  ⟨h.b.set rfl rfl hf hl, four_far h.op _ _ _ _ (by omega)⟩
end
theorem doB_new {w : World} {a1 a2 : Option Addr} {c1 c2 : Nat} {fuse : Int} {dn : Bool} {L : List Fl20} {os : List Op20} (kd : Int) (nm tn dt : List UInt8) (sz : Int) (hf : AtSl w (.slice a1 L.length c1) L) (hl : OpSl w (.slice a2 os.length c2) os) :
    DoB w a1 c1 a2 c2 fuse dn L os kd nm tn dt sz (((w.alloc (.cells [Value.slice a1 L.length c1, .slice a2 os.length c2, .int .i64 fuse, .bool dn].toArray 25)).alloc (.cells [Value.int .i64 kd, .string ⟨nm.toArray⟩, .string ⟨tn.toArray⟩, .string ⟨dt.toArray⟩, .int .i64 sz].toArray 27)).alloc (.cells [Value.slice none 0 0, .slice none 0 0, .int .i64 0, .bool false].toArray 25)) := by
  have b1 := (Below.refl w.heap.size w).alloc (Nat.le_refl _) (.cells [Value.slice a1 L.length c1, .slice a2 os.length c2, .int .i64 fuse, .bool dn].toArray 25)
  have x1 := arrAt_new w 25 [Value.slice a1 L.length c1, .slice a2 os.length c2, .int .i64 fuse, .bool dn]
  have s1 : (w.alloc (.cells [Value.slice a1 L.length c1, .slice a2 os.length c2, .int .i64 fuse, .bool dn].toArray 25)).heap.size = w.heap.size + 1 := by simp
  generalize w.alloc (.cells [Value.slice a1 L.length c1, .slice a2 os.length c2, .int .i64 fuse, .bool dn].toArray 25) = W1 at *
  have b2 := (Below.refl W1.heap.size W1).alloc (Nat.le_refl _) (.cells [Value.int .i64 kd, .string ⟨nm.toArray⟩, .string ⟨tn.toArray⟩, .string ⟨dt.toArray⟩, .int .i64 sz].toArray 27)
  have x2 := arrAt_new W1 27 [Value.int .i64 kd, .string ⟨nm.toArray⟩, .string ⟨tn.toArray⟩, .string ⟨dt.toArray⟩, .int .i64 sz]
  have s2 : (W1.alloc (.cells [Value.int .i64 kd, .string ⟨nm.toArray⟩, .string ⟨tn.toArray⟩, .string ⟨dt.toArray⟩, .int .i64 sz].toArray 27)).heap.size = w.heap.size + 1 + 1 := by simp [s1]
  generalize W1.alloc (.cells [Value.int .i64 kd, .string ⟨nm.toArray⟩, .string ⟨tn.toArray⟩, .string ⟨dt.toArray⟩, .int .i64 sz].toArray 27) = W2 at *
  have b3 := (Below.refl W2.heap.size W2).alloc (Nat.le_refl _) (.cells [Value.slice none 0 0, .slice none 0 0, .int .i64 0, .bool false].toArray 25)
  have x3 := arrAt_new W2 25 [Value.slice none 0 0, .slice none 0 0, .int .i64 0, .bool false]
  rw [s2] at x3
  rw [s1] at x2
  have bb := (b1.trans (b2.mono (by omega))).trans (b3.mono (by omega))
  exact ⟨⟨(x1.next b2).next b3, x3, hf.next bb, SlOf.next hl bb, bb, Nat.le_refl _, by omega, by omega⟩, x2.next b3⟩
set_option maxHeartbeats 4000000 in
set_option maxRecDepth 100000 in
theorem dskdo20_any (d : Dk20) (o : Op20) (val : Value) (w : World) (hd : DkV w val d) (hbd : DkBd d) (hfu : -9223372036854775808 ≤ d.fuse ∧ d.fuse ≤ 9223372036854775807) (n1 : d.files.length ≤ 4398046511104) (n2 : d.loose.length ≤ 1000000000)
    (ho : o.name.length ≤ 9223372036854775807 ∧ o.to.length ≤ 281474976710656 ∧ o.data.length ≤ 90000000) (hz : -9223372036854775808 ≤ o.size ∧ o.size ≤ 9223372036854775807) :
    Calls Try.prog 9 #[val, opV o] w (DiskPost w (doD d o)) := by
  rw [doD_why]
  have hob := openC_bd d
  have hor := @openC_right d
  have hcp := fun (h : o.name.length ≤ 1000000000) V => copied20_any o V h ho.2.1 (by omega)
  have hfa := fun ds v B V (hV : DrAt V B v ds) (hs : Rise20 (fls20 ds)) (hb : DrBd 1000000 ds) => dskfault20_any ds o v B V hV hs hb ⟨ho.2.2, ho.1, by omega⟩ hz
  have hnm : may20 (all20 d.files d.loose) o = 0 → o.name.length ≤ 1000000000 := fun h => by
    unfold may20 at h
    by_cases c1 : o.kind < 1 ∨ 4 < o.kind ∨ name20 o.name = false ∨ o.kind = 3 ∧ name20 o.to = false
    · rw [if_pos c1] at h; cases h
    · have h2 : name20 o.name = true := by
        cases e : name20 o.name with
        | true => rfl
        | false => exact absurd (Or.inr (Or.inr (Or.inl e))) c1
      rw [name_eq, Bool.and_eq_true, decide_eq_true_eq] at h2
      omega
  obtain ⟨L, os, fuse, dn⟩ := d
  obtain ⟨kd, nm, tn, dt, sz⟩ := o
  obtain ⟨a1, c1, a2, c2, rfl, hf, hl⟩ := dkV_open hd
  unfold whyD
  simp only at hor hfu n1 n2 hnm ⊢
  have hw0 := doB_new (fuse := fuse) (dn := dn) kd nm tn dt sz hf hl
  have hop := dskopen20_any ⟨L, os, fuse, dn⟩ _ _ hw0.b.val hbd
  unfold OpenPost at hop
  simp only at hop
  generalize openC ⟨L, os, fuse, dn⟩ = q at hop hob hor ⊢
  unfold opV opC strV at hcp hfa ⊢
  simp only at hcp hfa ⊢
  have hap := Lib.hid (fun V (h : DkV V (.agg #[.slice a1 L.length c1, .slice a2 os.length c2, .int .i64 fuse, .bool dn]) ⟨L, os, fuse, dn⟩) => apart20_any ⟨L, os, fuse, dn⟩ _ V h n1 n2)
  have hbu := Lib.hid (fun V (h : DkV V (.agg #[.slice a1 L.length c1, .slice a2 os.length c2, .int .i64 fuse, .bool dn]) ⟨L, os, fuse, dn⟩) => burnt20_any ⟨L, os, fuse, dn⟩ _ V h n1 n2 hfu)
  have hsz := hw0.b.below.size
  obtain ⟨p0, p1, p2, p3⟩ := four_cells hw0.b.dk
  replace hw0 := Lib.hid hw0
  replace hop := Lib.hid hop
  replace hfa := Lib.hid hfa
  clear hf hl hd hbd ho hz
  by_cases hq : q = 0
  · subst hq
    obtain ⟨hr, rfl⟩ := hor rfl
    obtain ⟨hv, hmm, h4⟩ := right_val hr
    have hval := Lib.hid (hv.all hmm)
    rw [if_neg (show ¬ (0 : Int) ≠ 0 by simp)]
    clear hr hv hmm hor hob
    obtain ⟨m, hm⟩ : ∃ m, may20 (all20 L os) ⟨kd, nm, tn, dt, sz⟩ = m := ⟨_, rfl⟩
    rw [hm] at hnm ⊢
    replace hm := Lib.hid hm
    by_cases h0 : m = 0
    · subst h0
      replace hcp := Lib.hid (hcp (hnm rfl))
      rw [if_neg (show ¬ (0 : Int) ≠ 0 by simp)]
      by_cases h96 : os.length = 4096
      · rw [if_pos h96, if_pos (show (11 : Int) ≠ 0 by simp)]
        have g96 : (4096 : Int) ≤ os.length := by omega
        replace h96 := Lib.hid h96
        go_enter Try.func9, Try.ntmps9
        go_wp2_with fail
        refine hop.out.mono ?_; rintro e w1 ⟨v1, rfl, hy, _, hb1⟩
        obtain ⟨ds, k1, k2, k3⟩ := hy trivial
        replace k1 := k1.mono hsz
        obtain ⟨ad, cd, rfl⟩ := k1.form
        have hfx := hfa.out ds _ _ w1 k1 (by rw [k2]; exact hval.out.rise) ((DrBd.of_val (by rw [k2]; exact hval.out) k3).up (by omega))
        rw [k2, hm.out] at hfx
        generalize ds.length = n at hfx ⊢
        have hw1 := hw0.out.next hb1
        obtain ⟨q0, q1, q2, q3⟩ := four_cells hw1.b.dk
        obtain ⟨r0, r1, r2, r3, r4⟩ := five_cells hw1.op
        replace hw1 := Lib.hid hw1
        replace hfx := Lib.hid hfx
        clear p0 p1 p2 p3 hb1 hop hy hw0 hfa k1 k2 k3
        go_wp2_with fail
        refine hfx.out.mono ?_; rintro e w2 ⟨rfl, hb2⟩
        replace hw1 := Lib.hid (hw1.out.next hb2)
        clear q0 q1 q2 q3 r0 r1 r2 r3 r4 hfx hb2
        obtain ⟨q0, q1, q2, q3⟩ := four_cells hw1.out.b.dk
        go_wp2_with fail
        refine (hap.out _ hw1.out.b.val).mono ?_; rintro e w5 ⟨v5, rfl, hd5, hb5⟩
        obtain ⟨a3, c3, a4, c4, rfl, hf5, hl5⟩ := dkV_open hd5.val
        have hw2 := Lib.hid (hw1.out.b.next hb5)
        replace hf5 := Lib.hid hf5
        replace hl5 := Lib.hid hl5
        clear q0 q1 q2 q3 hb5 hap hw1 hd5
        obtain ⟨x0, x1, x2, x3⟩ := four_cells hw2.out.res
        obtain ⟨y0, y1, y2, y3⟩ := four_soft hw2.out.res
        obtain ⟨o1, o2, o3⟩ := DkW.out (z := fuse) (b := false) hw2.out hf5.out hl5.out
        replace o1 := Lib.hid o1
        replace o2 := Lib.hid o2
        replace o3 := Lib.hid o3
        go_wp2_with fail
        refine hide_world (K := fun a w' => bodyPost _ _ _ Exit.ret a w') (R := fun W' => ArrAt W' (w.heap.size + 1 + 1) 25 [.slice a3 L.length c3, .slice a4 os.length c4, .int .i64 fuse, .bool false] ∧ DkV W' (.agg #[.slice a3 L.length c3, .slice a4 os.length c4, .int .i64 fuse, .bool false]) ⟨L, os, fuse, false⟩ ∧ Below w.heap.size w W') ⟨o1.out, o2.out, o3.out⟩ ?_
        intro wf hwf
        clear o1 o2 o3 x0 x1 x2 x3 y0 y1 y2 y3
        obtain ⟨k0, k1, k2, k3⟩ := four_cells hwf.out.1
        refine bodyPost_ret (v := .tuple #[.agg #[.slice a3 L.length c3, .slice a4 os.length c4, .int .i64 fuse, .bool false], .int .i64 11]) (by simp [results, Try.results9, go_sem, k0, k1, k2, k3]) rfl ?_
        exact ⟨_, rfl, hwf.out.2.1, hwf.out.2.2⟩
      · rw [if_neg h96, if_neg (show ¬ (0 : Int) ≠ 0 by simp)]
        have g96 : ¬ (4096 : Int) ≤ os.length := by omega
        clear hap
        unfold burntD at hbu
        simp only at hbu
        by_cases hf0 : fuse = 0
        · subst hf0
          rw [if_pos rfl] at hbu ⊢
          go_enter Try.func9, Try.ntmps9
          go_wp2_with fail
          refine hop.out.mono ?_; rintro e w1 ⟨v1, rfl, hy, _, hb1⟩
          obtain ⟨ds, k1, k2, k3⟩ := hy trivial
          replace k1 := k1.mono hsz
          obtain ⟨ad, cd, rfl⟩ := k1.form
          have hfx := hfa.out ds _ _ w1 k1 (by rw [k2]; exact hval.out.rise) ((DrBd.of_val (by rw [k2]; exact hval.out) k3).up (by omega))
          rw [k2, hm.out] at hfx
          generalize ds.length = n at hfx ⊢
          have hw1 := hw0.out.next hb1
          obtain ⟨q0, q1, q2, q3⟩ := four_cells hw1.b.dk
          obtain ⟨r0, r1, r2, r3, r4⟩ := five_cells hw1.op
          replace hw1 := Lib.hid hw1
          replace hfx := Lib.hid hfx
          clear p0 p1 p2 p3 hb1 hop hy hw0 hfa k1 k2 k3
          go_wp2_with fail
          refine hfx.out.mono ?_; rintro e w2 ⟨rfl, hb2⟩
          replace hw1 := Lib.hid (hw1.out.next hb2)
          clear q0 q1 q2 q3 r0 r1 r2 r3 r4 hfx hb2
          obtain ⟨q0, q1, q2, q3⟩ := four_cells hw1.out.b.dk
          go_wp2_with fail
          refine (hbu.out _ hw1.out.b.val).mono ?_; rintro e w5 ⟨v5, rfl, hd5, hb5⟩
          obtain ⟨a3, c3, a4, c4, B', hBB, rfl, hf5, hl5, ho5, hlo5⟩ := hd5
          simp only at hf5 hl5 ho5 hlo5
          have hB3 : w.heap.size + 1 + 1 + 1 ≤ B' := Nat.le_trans hw1.out.b.res.lt hBB
          have hw5 := hw1.out.next hb5
          obtain ⟨r0, r1, r2, r3⟩ := four_cells hw5.b.dk
          obtain ⟨t0, t1, t2, t3⟩ := four_soft hw5.b.dk
          have hw6 := Lib.hid (hw5.set (z := 0) (b := true) hf5 hl5)
          have ho6 := Lib.hid (ownO_keep ho5 hw5.b.dk (four_turned w5 w.heap.size (.slice a3 L.length c3) (.slice a4 os.length c4) (.int .i64 0) (.bool true)))
          clear q0 q1 q2 q3 hb5 hbu hw1 hf5 hl5 ho5 hw5
          go_upto_region 9 with fail
          refine hide_world (K := fun a w' => Code.wp _ _ _ a w') (R := fun W => DoB w a3 c3 a4 c4 0 true L os kd nm tn dt sz W ∧ OwnO W B' (.slice a4 os.length c4) os) ⟨hw6.out, ho6.out⟩ ?_
          intro w7 hw7
          obtain ⟨hw7, ho7⟩ := hw7.out
          clear hw6 ho6 r0 r1 r2 r3 t0 t1 t2 t3
          obtain ⟨q0, q1, q2, q3⟩ := four_cells hw7.b.dk
          replace hw7 := Lib.hid hw7.b
          clear ho7
          obtain ⟨x0, x1, x2, x3⟩ := four_cells hw7.out.res
          obtain ⟨y0, y1, y2, y3⟩ := four_soft hw7.out.res
          obtain ⟨o1, o2, o3⟩ := DkW.out (z := 0) (b := true) hw7.out hw7.out.files hw7.out.loose
          replace o1 := Lib.hid o1
          replace o2 := Lib.hid o2
          replace o3 := Lib.hid o3
          go_wp2_with fail
          refine hide_world (K := fun a w' => bodyPost _ _ _ Exit.ret a w') (R := fun W' => ArrAt W' (w.heap.size + 1 + 1) 25 [.slice a3 L.length c3, .slice a4 os.length c4, .int .i64 0, .bool true] ∧ DkV W' (.agg #[.slice a3 L.length c3, .slice a4 os.length c4, .int .i64 0, .bool true]) ⟨L, os, 0, true⟩ ∧ Below w.heap.size w W') ⟨o1.out, o2.out, o3.out⟩ ?_
          intro wf hwf
          clear o1 o2 o3 x0 x1 x2 x3 y0 y1 y2 y3
          obtain ⟨k0, k1, k2, k3⟩ := four_cells hwf.out.1
          refine bodyPost_ret (v := .tuple #[.agg #[.slice a3 L.length c3, .slice a4 os.length c4, .int .i64 0, .bool true], .int .i64 14]) (by simp [results, Try.results9, go_sem, k0, k1, k2, k3]) rfl ?_
          exact ⟨_, rfl, hwf.out.2.1, hwf.out.2.2⟩
        · rw [if_neg hf0] at hbu ⊢
          generalize spentF fuse = sf at hbu ⊢
          obtain ⟨os', hos'⟩ : ∃ os', os ++ [(⟨kd, nm, tn, dt, sz⟩ : Op20)] = os' := ⟨_, rfl⟩
          rw [hos']
          replace hos' := Lib.hid hos'
          go_enter Try.func9, Try.ntmps9
          go_wp2_with fail
          refine hop.out.mono ?_; rintro e w1 ⟨v1, rfl, hy, _, hb1⟩
          obtain ⟨ds, k1, k2, k3⟩ := hy trivial
          replace k1 := k1.mono hsz
          obtain ⟨ad, cd, rfl⟩ := k1.form
          have hfx := hfa.out ds _ _ w1 k1 (by rw [k2]; exact hval.out.rise) ((DrBd.of_val (by rw [k2]; exact hval.out) k3).up (by omega))
          rw [k2, hm.out] at hfx
          generalize ds.length = n at hfx ⊢
          have hw1 := hw0.out.next hb1
          obtain ⟨q0, q1, q2, q3⟩ := four_cells hw1.b.dk
          obtain ⟨r0, r1, r2, r3, r4⟩ := five_cells hw1.op
          replace hw1 := Lib.hid hw1
          replace hfx := Lib.hid hfx
          clear p0 p1 p2 p3 hb1 hop hy hw0 hfa k1 k2 k3
          go_wp2_with fail
          refine hfx.out.mono ?_; rintro e w2 ⟨rfl, hb2⟩
          replace hw1 := Lib.hid (hw1.out.next hb2)
          clear q0 q1 q2 q3 r0 r1 r2 r3 r4 hfx hb2
          obtain ⟨q0, q1, q2, q3⟩ := four_cells hw1.out.b.dk
          go_wp2_with fail
          refine (hbu.out _ hw1.out.b.val).mono ?_; rintro e w5 ⟨v5, rfl, hd5, hb5⟩
          obtain ⟨a3, c3, a4, c4, B', hBB, rfl, hf5, hl5, ho5, hlo5⟩ := hd5
          simp only at hf5 hl5 ho5 hlo5
          have hB3 : w.heap.size + 1 + 1 + 1 ≤ B' := Nat.le_trans hw1.out.b.res.lt hBB
          have hw5 := hw1.out.next hb5
          obtain ⟨r0, r1, r2, r3⟩ := four_cells hw5.b.dk
          obtain ⟨t0, t1, t2, t3⟩ := four_soft hw5.b.dk
          have hw6 := Lib.hid (hw5.set (z := sf) (b := false) hf5 hl5)
          have ho6 := Lib.hid (ownO_keep ho5 hw5.b.dk (four_turned w5 w.heap.size (.slice a3 L.length c3) (.slice a4 os.length c4) (.int .i64 sf) (.bool false)))
          clear q0 q1 q2 q3 hb5 hbu hw1 hf5 hl5 ho5 hw5
          go_upto_region 9 with fail
          refine hide_world (K := fun a w' => Code.wp _ _ _ a w') (R := fun W => DoB w a3 c3 a4 c4 sf false L os kd nm tn dt sz W ∧ OwnO W B' (.slice a4 os.length c4) os) ⟨hw6.out, ho6.out⟩ ?_
          intro w7 hw7
          obtain ⟨hw7, ho7⟩ := hw7.out
          clear hw6 ho6 r0 r1 r2 r3 t0 t1 t2 t3
          obtain ⟨q0, q1, q2, q3⟩ := four_cells hw7.b.dk
          replace hw7 := Lib.hid hw7
          replace ho7 := Lib.hid ho7
          go_wp2_with fail
          clear q0 q1 q2 q3
          have hw8 := hw7.out.next ((drawn_drew w7).below _)
          have ho8 := ownsRow_drawn ho7.out (drawn_drew w7)
          have hkeep : Hid (∀ W', Below w7.drew.heap.size w7.drew W' → (W'.cell? ⟨w.heap.size, 1, none⟩ = some (.slice a4 os.length c4) ∧ W'.cell? ⟨w.heap.size + 1, 0, none⟩ = some (.int .i64 kd) ∧ W'.cell? ⟨w.heap.size + 1, 1, none⟩ = some (.string ⟨nm.toArray⟩) ∧ W'.cell? ⟨w.heap.size + 1, 2, none⟩ = some (.string ⟨tn.toArray⟩) ∧ W'.cell? ⟨w.heap.size + 1, 3, none⟩ = some (.string ⟨dt.toArray⟩) ∧ W'.cell? ⟨w.heap.size + 1, 4, none⟩ = some (.int .i64 sz))) := Lib.hid fun W' hW' => by
            have h := hw8.next hW'
            obtain ⟨_, h1, _, _⟩ := four_cells h.b.dk
            obtain ⟨g0, g1, g2, g3, g4⟩ := five_cells h.op
            exact ⟨h1, g0, g1, g2, g3, g4⟩
          refine zgo_begin 7 (fun W' => W'.cell? ⟨w.heap.size, 1, none⟩ = some (.slice a4 os.length c4) ∧ W'.cell? ⟨w.heap.size + 1, 0, none⟩ = some (.int .i64 kd) ∧ W'.cell? ⟨w.heap.size + 1, 1, none⟩ = some (.string ⟨nm.toArray⟩) ∧ W'.cell? ⟨w.heap.size + 1, 2, none⟩ = some (.string ⟨tn.toArray⟩) ∧ W'.cell? ⟨w.heap.size + 1, 3, none⟩ = some (.string ⟨dt.toArray⟩) ∧ W'.cell? ⟨w.heap.size + 1, 4, none⟩ = some (.int .i64 sz)) (by kernel_rfl) (hkeep.out _ (Below.refl _ _)) ?_
          intro hHeld
          generalize w7.drew = w8 at hHeld hw8 ho8 hkeep ⊢
          replace hw8 := Lib.hid hw8
          replace ho8 := Lib.hid ho8
          have hone : ∀ u ∈ [Value.int .i64 kd, .string ⟨nm.toArray⟩, .string ⟨tn.toArray⟩, .string ⟨dt.toArray⟩, .int .i64 sz], u.oneCell' = true := by
            intro u hu
            simp at hu
            rcases hu with rfl | rfl | rfl | rfl | rfl <;> rfl
          clear hw7 ho7
          refine zgo_take 0 (v := ?_) rfl (by kernel_rfl) (by kernel_rfl) (by kernel_rfl) (by kernel_rfl) (fun _ _ _ h => h) (by rfl) ?_ (by assumption) ?_
          rotate_left
          · (intro w hSw; (try dsimp only at hSw); go_simp; all_goals (with_reducible rfl))
          try simp only [Act.put, List.setIfInBounds_toArray, List.set_cons_zero, List.set_cons_succ]
          refine zgo_take 1 (v := ?_) rfl (by kernel_rfl) (by kernel_rfl) (by kernel_rfl) (by kernel_rfl) (fun _ _ _ h => h) (by rfl) ?_ (by assumption) ?_
          rotate_left
          · (intro w hSw; (try dsimp only at hSw); go_simp; all_goals (with_reducible rfl))
          try simp only [Act.put, List.setIfInBounds_toArray, List.set_cons_zero, List.set_cons_succ]
          refine zgo_take 2 (v := ?_) rfl (by kernel_rfl) (by kernel_rfl) (by kernel_rfl) (by kernel_rfl) (fun _ _ _ h => h) (by rfl) ?_ (by assumption) ?_
          rotate_left
          · (intro w hSw; (try dsimp only at hSw); go_simp; all_goals (with_reducible rfl))
          try simp only [Act.put, List.setIfInBounds_toArray, List.set_cons_zero, List.set_cons_succ]
          refine zgo_ready [3] (by kernel_rfl) (by simp) ?_
          refine ZAll.cons rfl (fun K hK => ?_) ZAll.nil
          go_simp
          go_at_call 29
          (with_reducible refine (hcp.out _).mono ?_)
          rintro e w9 ⟨rfl, hb9⟩
          replace hb9 := Lib.hid hb9
          refine hK.out _ _ (hkeep.out _ hb9.out) (fun hHeld => ?_)
          clear hK K
          try simp only [Act.put, List.setIfInBounds_toArray, List.set_cons_zero, List.set_cons_succ]
          refine zgo_ready [4] (by kernel_rfl) (by simp) ?_
          refine ZAll.cons rfl (fun K hK => ?_) ZAll.nil
          go_simp
          refine hide_world (R := fun w' => ArrAt w' w9.heap.size 27 [Value.int .i64 kd, .string ⟨nm.toArray⟩, .string ⟨tn.toArray⟩, .string ⟨dt.toArray⟩, .int .i64 sz] ∧ Below w8.heap.size w8 w' ∧ Below w9.heap.size w9 w') (new_in 27 [Value.int .i64 kd, .string ⟨nm.toArray⟩, .string ⟨tn.toArray⟩, .string ⟨dt.toArray⟩, .int .i64 sz] hb9.out hb9.out.size) ?_
          intro v5 hv5
          refine hK.out _ _ (hkeep.out _ hv5.out.2.1) (fun hHeld => ?_)
          clear hK K
          try simp only [Act.put, List.setIfInBounds_toArray, List.set_cons_zero, List.set_cons_succ]
          have ho5 := Lib.hid (ownsRow_below ho8.out hv5.out.2.1)
          have hw9 := Lib.hid (hw8.out.next hv5.out.2.1)
          obtain ⟨C, hC1, hC2, hC3, hloC⟩ : ∃ C, C ≤ B' ∧ C ≤ v5.heap.size ∧ w.heap.size + 1 + 1 + 1 ≤ C ∧ SlBelow C (.slice a3 L.length c3) := ⟨min B' v5.heap.size, Nat.min_le_left _ _, Nat.min_le_right _ _, Nat.le_min.2 ⟨hB3, hw9.out.b.res.lt⟩, fun ad n c e hn => Nat.lt_min.2 ⟨hlo5 ad n c e hn, hw9.out.b.files.low ad n c e hn⟩⟩
          have hoC : Hid (v5.ownsRow C 27 5 (.slice a4 os.length c4) os.length (os.flatMap opC)) := Lib.hid (ownsRow_mono ho5.out hC1)
          refine zgo_ready [5] (by kernel_rfl) (by simp) ?_
          refine ZAll.cons rfl (fun K hK => ?_) ZAll.nil
          refine step_append_here rfl _ _ 23 rfl C 27 (.agg #[.int .i64 0, .string ⟨#[]⟩, .string ⟨#[]⟩, .string ⟨#[]⟩, .int .i64 0]) 5 64 Try.underlying23 info_op20 rfl (by decide) (.slice a4 os.length c4) os.length (os.flatMap opC) rfl hoC.out (some ⟨w9.heap.size, 0, none⟩) 1 1 [Value.int .i64 kd, .string ⟨nm.toArray⟩, .string ⟨tn.toArray⟩, .string ⟨dt.toArray⟩, .int .i64 sz] rfl rfl (part_one hv5.out.1) hone (os.length + 1) rfl (by unfold maxLen; omega) (by omega) hC2 ?_
          intro av6 cv6 v6 hov6 hbv6 hgv6 _
          have hb6 := hbv6.out
          have hdk6 : ArrAt v6 w.heap.size 25 _ := (hb6.block w.heap.size (by omega)).trans hw9.out.b.dk
          have hrs6 : ArrAt v6 (w.heap.size + 1 + 1) 25 _ := (hb6.block (w.heap.size + 1 + 1) (by omega)).trans hw9.out.b.res
          have hf6 := hw9.out.b.files.lowNext hb6 hloC
          have hn' : os'.length = os.length + 1 := by rw [← hos'.out]; simp
          have hl6 : OpSl v6 (.slice av6 (os.length + 1) cv6) os' := slOf_own opC_len (E := 27) (B := C) (by
            rw [hn', ← hos'.out, List.flatMap_append]
            exact hov6.out)
          have hw10 := Lib.hid (do_end (w := w) hdk6 hrs6 hf6 hl6 hn' (hw9.out.b.below.trans (hb6.mono (by omega))) hw9.out.b.lowG hw9.out.b.lowH hw9.out.b.ne)
          obtain ⟨u0, u1, u2, u3⟩ := four_cells hdk6
          obtain ⟨f0, f1, f2, f3⟩ := four_soft hdk6
          have hop6 : ArrAt v6 (w.heap.size + 1) 27 _ := (hb6.block (w.heap.size + 1) (by omega)).trans hw9.out.op
          obtain ⟨g0, g1, g2, g3, g4⟩ := five_cells hop6
          replace hn' := Lib.hid hn'
          refine hK.out _ _ (⟨u1, g0, g1, g2, g3, g4⟩) (fun hHeld => ?_)
          clear hK K
          try simp only [Act.put, List.setIfInBounds_toArray, List.set_cons_zero, List.set_cons_succ]
          refine zgo_take 6 (v := ?_) rfl (by kernel_rfl) (by kernel_rfl) (by kernel_rfl) (by kernel_rfl) (fun _ _ _ h => h) (by rfl) ?_ (by assumption) ?_
          rotate_left
          · (intro w hSw; (try dsimp only at hSw); go_simp; all_goals (with_reducible rfl))
          try simp only [Act.put, List.setIfInBounds_toArray, List.set_cons_zero, List.set_cons_succ]
          refine zgo_last (by kernel_rfl) (by kernel_rfl) rfl (fun K hK => ?_)
          go_simp
          refine hK.out _ _ ?_
          clear hK K
          refine hide_world (R := fun W => DkW w w.heap.size (w.heap.size + 1 + 1) a3 c3 av6 cv6 sf false L os' W) hw10.out ?_
          intro w10 hw11
          clear hw10 u0 u1 u2 u3 f0 f1 f2 f3 g0 g1 g2 g3 g4 hdk6 hrs6 hf6 hl6 hop6
          obtain ⟨q0, q1, q2, q3⟩ := four_cells hw11.out.dk
          rw [hn'.out] at q1
          obtain ⟨x0, x1, x2, x3⟩ := four_cells hw11.out.res
          obtain ⟨y0, y1, y2, y3⟩ := four_soft hw11.out.res
          obtain ⟨o1, o2, o3⟩ := DkW.out (z := sf) (b := false) hw11.out hw11.out.files (by have h := hw11.out.loose; rw [hn'.out] at h; exact h)
          replace o1 := Lib.hid o1
          replace o2 := Lib.hid o2
          replace o3 := Lib.hid o3
          go_wp2_with fail
          refine hide_world (K := fun a w' => bodyPost _ _ _ Exit.ret a w') (R := fun W' => ArrAt W' (w.heap.size + 1 + 1) 25 [.slice a3 L.length c3, .slice av6 (os.length + 1) cv6, .int .i64 sf, .bool false] ∧ DkV W' (.agg #[.slice a3 L.length c3, .slice av6 (os.length + 1) cv6, .int .i64 sf, .bool false]) ⟨L, os', sf, false⟩ ∧ Below w.heap.size w W') ⟨o1.out, o2.out, o3.out⟩ ?_
          intro wf hwf
          clear o1 o2 o3 x0 x1 x2 x3 y0 y1 y2 y3
          obtain ⟨k0, k1, k2, k3⟩ := four_cells hwf.out.1
          refine bodyPost_ret (v := .tuple #[.agg #[.slice a3 L.length c3, .slice av6 (os.length + 1) cv6, .int .i64 sf, .bool false], .int .i64 0]) (by simp [results, Try.results9, go_sem, k0, k1, k2, k3]) rfl ?_
          exact ⟨_, rfl, hwf.out.2.1, hwf.out.2.2⟩
    · rw [if_pos h0, if_pos h0]
      have g0 : (m == 0) = false := by simpa using h0
      go_enter Try.func9, Try.ntmps9
      go_wp2_with fail
      refine hop.out.mono ?_; rintro e w1 ⟨v1, rfl, hy, _, hb1⟩
      obtain ⟨ds, k1, k2, k3⟩ := hy trivial
      replace k1 := k1.mono hsz
      obtain ⟨ad, cd, rfl⟩ := k1.form
      have hfx := hfa.out ds _ _ w1 k1 (by rw [k2]; exact hval.out.rise) ((DrBd.of_val (by rw [k2]; exact hval.out) k3).up (by omega))
      rw [k2, hm.out] at hfx
      generalize ds.length = n at hfx ⊢
      have hw1 := hw0.out.next hb1
      obtain ⟨q0, q1, q2, q3⟩ := four_cells hw1.b.dk
      obtain ⟨r0, r1, r2, r3, r4⟩ := five_cells hw1.op
      replace hw1 := Lib.hid hw1
      replace hfx := Lib.hid hfx
      clear p0 p1 p2 p3 hb1 hop hy hw0 hfa k1 k2 k3
      go_wp2_with fail
      refine hfx.out.mono ?_; rintro e w2 ⟨rfl, hb2⟩
      replace hw1 := Lib.hid (hw1.out.next hb2)
      clear q0 q1 q2 q3 r0 r1 r2 r3 r4 hfx hb2
      obtain ⟨q0, q1, q2, q3⟩ := four_cells hw1.out.b.dk
      go_wp2_with fail
      refine (hap.out _ hw1.out.b.val).mono ?_; rintro e w5 ⟨v5, rfl, hd5, hb5⟩
      obtain ⟨a3, c3, a4, c4, rfl, hf5, hl5⟩ := dkV_open hd5.val
      have hw2 := Lib.hid (hw1.out.b.next hb5)
      replace hf5 := Lib.hid hf5
      replace hl5 := Lib.hid hl5
      clear q0 q1 q2 q3 hb5 hap hw1 hd5
      obtain ⟨x0, x1, x2, x3⟩ := four_cells hw2.out.res
      obtain ⟨y0, y1, y2, y3⟩ := four_soft hw2.out.res
      obtain ⟨o1, o2, o3⟩ := DkW.out (z := fuse) (b := false) hw2.out hf5.out hl5.out
      replace o1 := Lib.hid o1
      replace o2 := Lib.hid o2
      replace o3 := Lib.hid o3
      go_wp2_with fail
      refine hide_world (K := fun a w' => bodyPost _ _ _ Exit.ret a w') (R := fun W' => ArrAt W' (w.heap.size + 1 + 1) 25 [.slice a3 L.length c3, .slice a4 os.length c4, .int .i64 fuse, .bool false] ∧ DkV W' (.agg #[.slice a3 L.length c3, .slice a4 os.length c4, .int .i64 fuse, .bool false]) ⟨L, os, fuse, false⟩ ∧ Below w.heap.size w W') ⟨o1.out, o2.out, o3.out⟩ ?_
      intro wf hwf
      clear o1 o2 o3 x0 x1 x2 x3 y0 y1 y2 y3
      obtain ⟨k0, k1, k2, k3⟩ := four_cells hwf.out.1
      refine bodyPost_ret (v := .tuple #[.agg #[.slice a3 L.length c3, .slice a4 os.length c4, .int .i64 fuse, .bool false], .int .i64 m]) (by simp [results, Try.results9, go_sem, k0, k1, k2, k3]) rfl ?_
      exact ⟨_, rfl, hwf.out.2.1, hwf.out.2.2⟩
  · rw [if_pos hq, if_pos hq]
    have hne : (q == 0) = false := by simpa using hq
    go_enter Try.func9, Try.ntmps9
    go_wp2_with fail
    refine hop.out.mono ?_; rintro e w1 ⟨v1, rfl, _, hn, hb1⟩
    obtain rfl := hn hq
    have hw1 := hw0.out.next hb1
    obtain ⟨q0, q1, q2, q3⟩ := four_cells hw1.b.dk
    replace hw1 := Lib.hid hw1
    clear p0 p1 p2 p3 hb1 hop hn hw0 hbu hfa
    go_wp2_with fail
    refine (hap.out _ hw1.out.b.val).mono ?_; rintro e w5 ⟨v5, rfl, hd5, hb5⟩
    obtain ⟨a3, c3, a4, c4, rfl, hf5, hl5⟩ := dkV_open hd5.val
    have hw2 := Lib.hid (hw1.out.b.next hb5)
    replace hf5 := Lib.hid hf5
    replace hl5 := Lib.hid hl5
    clear q0 q1 q2 q3 hb5 hap hw1 hd5
    obtain ⟨x0, x1, x2, x3⟩ := four_cells hw2.out.res
    obtain ⟨y0, y1, y2, y3⟩ := four_soft hw2.out.res
    obtain ⟨o1, o2, o3⟩ := DkW.out (z := fuse) (b := dn) hw2.out hf5.out hl5.out
    replace o1 := Lib.hid o1
    replace o2 := Lib.hid o2
    replace o3 := Lib.hid o3
    go_wp2_with fail
    refine hide_world (K := fun a w' => bodyPost _ _ _ Exit.ret a w') (R := fun W' => ArrAt W' (w.heap.size + 1 + 1) 25 [.slice a3 L.length c3, .slice a4 os.length c4, .int .i64 fuse, .bool dn] ∧ DkV W' (.agg #[.slice a3 L.length c3, .slice a4 os.length c4, .int .i64 fuse, .bool dn]) ⟨L, os, fuse, dn⟩ ∧ Below w.heap.size w W') ⟨o1.out, o2.out, o3.out⟩ ?_
    intro wf hwf
    clear o1 o2 o3 x0 x1 x2 x3 y0 y1 y2 y3
    obtain ⟨k0, k1, k2, k3⟩ := four_cells hwf.out.1
    refine bodyPost_ret (v := .tuple #[.agg #[.slice a3 L.length c3, .slice a4 os.length c4, .int .i64 fuse, .bool dn], .int .i64 q]) (by simp [results, Try.results9, go_sem, k0, k1, k2, k3]) rfl ?_
    exact ⟨_, rfl, hwf.out.2.1, hwf.out.2.2⟩
end Go.Proofs.Ytahndjgamoojkaa
