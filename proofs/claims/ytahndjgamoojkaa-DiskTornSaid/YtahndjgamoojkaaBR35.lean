/- Walks of layer 20's disk: apart, burnt. -/
import Derived.Test.YtahndjgamoojkaaBR34
import Derived.Test.YtahndjgamoojkaaBR22
import Derived.Deep.Cut
namespace Go.Proofs.Ytahndjgamoojkaa
open Go.RowKit

/-- A walk's boxes: a disk's at G, a result's at H. -/
structure DkW (w : World) (G H : Nat) (a1 : Option Addr) (c1 : Nat) (a2 : Option Addr) (c2 : Nat) (fuse : Int) (dn : Bool) (L : List Fl20) (os : List Op20) (W : World) : Prop where
  dk : ArrAt W G 25 [.slice a1 L.length c1, .slice a2 os.length c2, .int .i64 fuse, .bool dn]
  res : ArrAt W H 25 [.slice none 0 0, .slice none 0 0, .int .i64 0, .bool false]
  files : AtSl W (.slice a1 L.length c1) L
  loose : OpSl W (.slice a2 os.length c2) os
  below : Below w.heap.size w W
  lowG : w.heap.size ≤ G
  lowH : w.heap.size ≤ H
  ne : G ≠ H
section
variable {w W W' : World} {G H : Nat} {a1 a2 : Option Addr} {c1 c2 : Nat} {fuse : Int} {dn : Bool} {L : List Fl20} {os : List Op20}
theorem DkW.next (h : DkW w G H a1 c1 a2 c2 fuse dn L os W) (hb : Below W.heap.size W W') : DkW w G H a1 c1 a2 c2 fuse dn L os W' :=
  ⟨h.dk.next hb, h.res.next hb, h.files.next hb, h.loose.next hb, h.below.next hb h.below.size, h.lowG, h.lowH, h.ne⟩
theorem DkW.val (h : DkW w G H a1 c1 a2 c2 fuse dn L os W) : DkV W (.agg #[.slice a1 L.length c1, .slice a2 os.length c2, .int .i64 fuse, .bool dn]) ⟨L, os, fuse, dn⟩ := ⟨_, _, rfl, h.files, h.loose⟩
theorem one_other (g i : Nat) (v : Value) : ∀ b j, b ≠ g → (W.setCell ⟨g, i, none⟩ v).cell? ⟨b, j, none⟩ = W.cell? ⟨b, j, none⟩ := fun _ _ h => cell_far h
theorem DkW.set0 (h : DkW w G H a1 c1 a2 c2 fuse dn L os W) {a : Option Addr} {c n : Nat} {L' : List Fl20} (hn : L'.length = n) (hf : AtSl W (.slice a n c) L') : DkW w G H a c a2 c2 fuse dn L' os (W.setCell ⟨G, 0, none⟩ (.slice a n c)) := by
  subst hn
  exact ⟨h.dk.set 0 _, h.res.far 0 _ (Ne.symm h.ne), at_keep hf h.dk (one_other _ _ _), op_keep h.loose h.dk (one_other _ _ _), h.below.setCell (p := ⟨G, 0, none⟩) h.lowG _, h.lowG, h.lowH, h.ne⟩
theorem DkW.set1 (h : DkW w G H a1 c1 a2 c2 fuse dn L os W) {a : Option Addr} {c n : Nat} {os' : List Op20} (hn : os'.length = n) (hf : OpSl W (.slice a n c) os') : DkW w G H a1 c1 a c fuse dn L os' (W.setCell ⟨G, 1, none⟩ (.slice a n c)) := by
  subst hn
  exact ⟨h.dk.set 1 _, h.res.far 1 _ (Ne.symm h.ne), at_keep h.files h.dk (one_other _ _ _), op_keep hf h.dk (one_other _ _ _), h.below.setCell (p := ⟨G, 1, none⟩) h.lowG _, h.lowG, h.lowH, h.ne⟩
theorem DkW.set2 (h : DkW w G H a1 c1 a2 c2 fuse dn L os W) (z : Int) : DkW w G H a1 c1 a2 c2 z dn L os (W.setCell ⟨G, 2, none⟩ (.int .i64 z)) :=
  ⟨h.dk.set 2 _, h.res.far 2 _ (Ne.symm h.ne), at_keep h.files h.dk (one_other _ _ _), op_keep h.loose h.dk (one_other _ _ _), h.below.setCell (p := ⟨G, 2, none⟩) h.lowG _, h.lowG, h.lowH, h.ne⟩
theorem DkW.set3 (h : DkW w G H a1 c1 a2 c2 fuse dn L os W) (b : Bool) : DkW w G H a1 c1 a2 c2 fuse b L os (W.setCell ⟨G, 3, none⟩ (.bool b)) :=
  ⟨h.dk.set 3 _, h.res.far 3 _ (Ne.symm h.ne), at_keep h.files h.dk (one_other _ _ _), op_keep h.loose h.dk (one_other _ _ _), h.below.setCell (p := ⟨G, 3, none⟩) h.lowG _, h.lowG, h.lowH, h.ne⟩
/-- A whole disk stored into its box. -/
theorem DkW.set (h : DkW w G H a1 c1 a2 c2 fuse dn L os W) {a a' : Option Addr} {c c' n n' : Nat} {z : Int} {b : Bool} {L' : List Fl20} {os' : List Op20} (hn : L'.length = n) (hn' : os'.length = n') (hf : AtSl W (.slice a n c) L') (hl : OpSl W (.slice a' n' c') os') :
    DkW w G H a c a' c' z b L' os' ((((W.setCell ⟨G, 0, none⟩ (.slice a n c)).setCell ⟨G, 1, none⟩ (.slice a' n' c')).setCell ⟨G, 2, none⟩ (.int .i64 z)).setCell ⟨G, 3, none⟩ (.bool b)) := by
  subst hn hn'
  exact ⟨(((h.dk.set 0 _).set 1 _).set 2 _).set 3 _, (((h.res.far 0 _ (Ne.symm h.ne)).far 1 _ (Ne.symm h.ne)).far 2 _ (Ne.symm h.ne)).far 3 _ (Ne.symm h.ne), at_keep hf h.dk (four_other _ _ _ _), op_keep hl h.dk (four_other _ _ _ _),
    ((((h.below.setCell (p := ⟨G, 0, none⟩) h.lowG _).setCell (p := ⟨G, 1, none⟩) h.lowG _).setCell (p := ⟨G, 2, none⟩) h.lowG _).setCell (p := ⟨G, 3, none⟩) h.lowG _), h.lowG, h.lowH, h.ne⟩
/-- .. into the result's. -/
theorem DkW.out (h : DkW w G H a1 c1 a2 c2 fuse dn L os W) {a a' : Option Addr} {c c' n n' : Nat} {z : Int} {b : Bool} {L' : List Fl20} {os' : List Op20} (hf : AtSl W (.slice a n c) L') (hl : OpSl W (.slice a' n' c') os') :
    ArrAt ((((W.setCell ⟨H, 0, none⟩ (.slice a n c)).setCell ⟨H, 1, none⟩ (.slice a' n' c')).setCell ⟨H, 2, none⟩ (.int .i64 z)).setCell ⟨H, 3, none⟩ (.bool b)) H 25 [.slice a n c, .slice a' n' c', .int .i64 z, .bool b] ∧
    DkV ((((W.setCell ⟨H, 0, none⟩ (.slice a n c)).setCell ⟨H, 1, none⟩ (.slice a' n' c')).setCell ⟨H, 2, none⟩ (.int .i64 z)).setCell ⟨H, 3, none⟩ (.bool b)) (.agg #[.slice a n c, .slice a' n' c', .int .i64 z, .bool b]) ⟨L', os', z, b⟩ ∧
    Below w.heap.size w ((((W.setCell ⟨H, 0, none⟩ (.slice a n c)).setCell ⟨H, 1, none⟩ (.slice a' n' c')).setCell ⟨H, 2, none⟩ (.int .i64 z)).setCell ⟨H, 3, none⟩ (.bool b)) :=
  ⟨(((h.res.set 0 _).set 1 _).set 2 _).set 3 _, ⟨_, _, rfl, at_keep hf h.res (four_other _ _ _ _), op_keep hl h.res (four_other _ _ _ _)⟩,
    ((((h.below.setCell (p := ⟨H, 0, none⟩) h.lowH _).setCell (p := ⟨H, 1, none⟩) h.lowH _).setCell (p := ⟨H, 2, none⟩) h.lowH _).setCell (p := ⟨H, 3, none⟩) h.lowH _)⟩
end
theorem dkW_new {w : World} {a1 a2 : Option Addr} {c1 c2 : Nat} {fuse : Int} {dn : Bool} {L : List Fl20} {os : List Op20} (hf : AtSl w (.slice a1 L.length c1) L) (hl : OpSl w (.slice a2 os.length c2) os) :
    DkW w w.heap.size (w.heap.size + 1) a1 c1 a2 c2 fuse dn L os ((w.alloc (.cells [Value.slice a1 L.length c1, .slice a2 os.length c2, .int .i64 fuse, .bool dn].toArray 25)).alloc (.cells [Value.slice none 0 0, .slice none 0 0, .int .i64 0, .bool false].toArray 25)) := by
  have hb1 := (Below.refl w.heap.size w).alloc (Nat.le_refl _) (.cells [Value.slice a1 L.length c1, .slice a2 os.length c2, .int .i64 fuse, .bool dn].toArray 25)
  have hb2 := hb1.alloc hb1.size (.cells [Value.slice none 0 0, .slice none 0 0, .int .i64 0, .bool false].toArray 25)
  have hr := arrAt_new (w.alloc (.cells [Value.slice a1 L.length c1, .slice a2 os.length c2, .int .i64 fuse, .bool dn].toArray 25)) 25 [Value.slice none 0 0, .slice none 0 0, .int .i64 0, .bool false]
  have hsz : (w.alloc (.cells [Value.slice a1 L.length c1, .slice a2 os.length c2, .int .i64 fuse, .bool dn].toArray 25)).heap.size = w.heap.size + 1 := by simp
  rw [hsz] at hr
  exact ⟨(arrAt_new w 25 _).next ((Below.refl _ _).alloc (Nat.le_refl _) _), hr, hf.next hb2, SlOf.next hl hb2, hb2, Nat.le_refl _, Nat.le_succ _, by omega⟩
theorem four_turned (w : World) (g : Nat) (a b c d : Value) : Turned (fun i => i = g) w ((((w.setCell ⟨g, 0, none⟩ a).setCell ⟨g, 1, none⟩ b).setCell ⟨g, 2, none⟩ c).setCell ⟨g, 3, none⟩ d) :=
  (((turned_setCell w ⟨g, 0, none⟩ a).trans (turned_setCell _ ⟨g, 1, none⟩ b) fun _ _ e => e).trans (turned_setCell _ ⟨g, 2, none⟩ c) fun _ _ e => e).trans (turned_setCell _ ⟨g, 3, none⟩ d) fun _ _ e => e
/-- Operations of the call's own stay so when a disk's box is written. -/
theorem ownO_keep {w w' : World} {B g : Nat} {v : Value} {os : List Op20} {c : List Value} (h : OwnO w B v os) (ha : ArrAt w g 25 c) (ht : Turned (fun i => i = g) w w') : OwnO w' B v os := ownsRow_turned h ht fun b hb e => own_ne_arr h ha (by decide) (hb.trans (congrArg some e))
/-- A disk made, its operations the call's own. -/
def OwnV (w : World) (B : Nat) (v : Value) (x : Dk20) : Prop := ∃ a1 c1 a2 c2 B', B ≤ B' ∧ v = .agg #[.slice a1 x.files.length c1, .slice a2 x.loose.length c2, .int .i64 x.fuse, .bool x.down] ∧ AtSl w (.slice a1 x.files.length c1) x.files ∧ OpSl w (.slice a2 x.loose.length c2) x.loose ∧ OwnO w B' (.slice a2 x.loose.length c2) x.loose ∧ SlBelow B' (.slice a1 x.files.length c1)
theorem AtSl.low {w : World} {v : Value} {L : List Fl20} (h : AtSl w v L) : SlBelow w.heap.size v := by
  rintro ad n c rfl hn
  by_cases h0 : L = []
  · obtain ⟨a, c', e⟩ := h.nil h0
    injection e with _ e _
    omega
  · obtain ⟨b, off, cc, _, hb, e, _⟩ := h.some h0
    injection e with e _ _
    injection e with e
    rw [e]
    exact hb
def ValPost (w : World) (x : Dk20) (e : Ending) (w' : World) : Prop := ∃ v, e = .returned v ∧ OwnV w' w.heap.size v x ∧ Below w.heap.size w w'
theorem OwnV.val {w : World} {B : Nat} {v : Value} {x : Dk20} (h : OwnV w B v x) : DkV w v x := by
  obtain ⟨a1, c1, a2, c2, _, _, rfl, h1, h2, _⟩ := h
  exact ⟨_, _, rfl, h1, h2⟩
theorem ownV_of {w : World} {B : Nat} {a1 a2 : Option Addr} {c1 c2 : Nat} {fuse : Int} {dn : Bool} {L : List Fl20} {os : List Op20} (h : DkV w (.agg #[.slice a1 L.length c1, .slice a2 os.length c2, .int .i64 fuse, .bool dn]) ⟨L, os, fuse, dn⟩) {B' : Nat} (hB : B ≤ B') (ho : OwnO w B' (.slice a2 os.length c2) os) (hlo : SlBelow B' (.slice a1 L.length c1)) : OwnV w B (.agg #[.slice a1 L.length c1, .slice a2 os.length c2, .int .i64 fuse, .bool dn]) ⟨L, os, fuse, dn⟩ := by
  obtain ⟨fv, lv, e, h1, h2⟩ := h
  unfold dkC at e
  injection e with e
  simp only [Array.mk.injEq, List.cons.injEq] at e
  obtain ⟨rfl, rfl, _⟩ := e
  exact ⟨a1, c1, a2, c2, B', hB, rfl, h1, h2, ho, hlo⟩
set_option maxHeartbeats 2000000 in
theorem apart20_any (d : Dk20) (val : Value) (w : World) (hd : DkV w val d) (h1 : d.files.length ≤ 4398046511104) (h2 : d.loose.length ≤ 1000000000) :
    Calls Try.prog 27 #[val] w (ValPost w d) := by
  obtain ⟨L, os, fuse, dn⟩ := d
  obtain ⟨a1, c1, a2, c2, rfl, hf, hl⟩ := dkV_open hd
  simp only at h1 h2
  have hw0 := dkW_new (fuse := fuse) (dn := dn) hf hl
  obtain ⟨p0, p1, p2, p3⟩ := four_cells hw0.dk
  obtain ⟨s0, s1, s2, s3⟩ := four_soft hw0.dk
  replace hw0 := Lib.hid hw0
  clear hf hl hd
  go_enter Try.func27, Try.ntmps27
  go_wp2_with fail
  refine (clonef20_any L _ _ hw0.out.files h1).mono ?_; rintro e w1 ⟨_, rfl, hf1, hb1, a3, c3, rfl⟩
  have hw1 := hw0.out.next hb1
  have hw1s := hw1.set0 rfl hf1
  obtain ⟨r0, r1, r2, r3⟩ := four_cells hw1.dk
  obtain ⟨t0, t1, t2, t3⟩ := four_soft hw1.dk
  replace hw1 := Lib.hid hw1
  replace hw1s := Lib.hid hw1s
  clear p0 p1 p2 p3 s0 s1 s2 s3 hf1 hb1 hw0
  go_wp2_with fail
  refine (cloneo20_any os _ _ hw1s.out.loose h2).mono ?_; rintro e w2 ⟨_, rfl, hl2, hb2, hw2o, a4, c4, rfl⟩
  have hw2 := hw1s.out.next hb2
  have hw2s := hw2.set1 rfl hl2
  obtain ⟨p0, p1, p2, p3⟩ := four_cells hw2.dk
  obtain ⟨s0, s1, s2, s3⟩ := four_soft hw2.dk
  have hlo := hw1s.out.files.low
  have hBB := hw1s.out.below.size
  generalize (w1.setCell ⟨w.heap.size, 0, none⟩ (.slice a3 L.length c3)).heap.size = B' at hw2o hlo hBB
  replace hw2o := Lib.hid (ownO_keep hw2o hw2.dk (turned_setCell w2 ⟨w.heap.size, 1, none⟩ (.slice a4 os.length c4)))
  replace hw2s := Lib.hid hw2s
  clear r0 r1 r2 r3 t0 t1 t2 t3 hw1 hw1s hw2 hl2 hb2
  go_upto_region 3 with fail
  refine hide_world (K := fun a w' => Code.wp _ _ _ a w') (R := fun W => DkW w w.heap.size (w.heap.size + 1) a3 c3 a4 c4 fuse dn L os W ∧ OwnO W B' (.slice a4 os.length c4) os) ⟨hw2s.out, hw2o.out⟩ ?_
  intro w3 hw3o
  obtain ⟨hw3, hw3o⟩ := hw3o.out
  replace hw3 := Lib.hid hw3
  have ho3 := Lib.hid (ownO_keep hw3o hw3.out.res (four_turned w3 (w.heap.size + 1) (.slice a3 L.length c3) (.slice a4 os.length c4) (.int .i64 fuse) (.bool dn)))
  clear hw3o hw2s hw2o p0 p1 p2 p3 s0 s1 s2 s3
  obtain ⟨x0, x1, x2, x3⟩ := four_cells hw3.out.res
  obtain ⟨y0, y1, y2, y3⟩ := four_soft hw3.out.res
  obtain ⟨p0, p1, p2, p3⟩ := four_cells hw3.out.dk
  obtain ⟨o1, o2, o3⟩ := DkW.out (z := fuse) (b := dn) hw3.out hw3.out.files hw3.out.loose
  replace o1 := Lib.hid o1
  replace o2 := Lib.hid o2
  replace o3 := Lib.hid o3
  have hne : w.heap.size ≠ w.heap.size + 1 := by omega
  go_wp2_with fail
  refine hide_world (K := fun a w' => bodyPost _ _ _ Exit.ret a w') (R := fun W' => ArrAt W' (w.heap.size + 1) 25 [.slice a3 L.length c3, .slice a4 os.length c4, .int .i64 fuse, .bool dn] ∧ OwnV W' w.heap.size (.agg #[.slice a3 L.length c3, .slice a4 os.length c4, .int .i64 fuse, .bool dn]) ⟨L, os, fuse, dn⟩ ∧ Below w.heap.size w W') ⟨o1.out, ownV_of o2.out hBB ho3.out hlo, o3.out⟩ ?_
  intro wf hwf
  clear ho3 o1 o2 o3 x0 x1 x2 x3 y0 y1 y2 y3 p0 p1 p2 p3
  obtain ⟨k0, k1, k2, k3⟩ := four_cells hwf.out.1
  refine bodyPost_ret (v := .agg #[.slice a3 L.length c3, .slice a4 os.length c4, .int .i64 fuse, .bool dn]) (by simp [results, Try.results27, go_sem, k0, k1, k2, k3]) rfl ?_
  exact ⟨_, rfl, hwf.out.2.1, hwf.out.2.2⟩
end Go.Proofs.Ytahndjgamoojkaa

/- Walks of layer 20's disk: burnt. -/
namespace Go.Proofs.Ytahndjgamoojkaa
open Go.RowKit

def OwnPost (w : World) (x : Dk20 × Int) (e : Ending) (w' : World) : Prop := ∃ v, e = .returned (.tuple #[v, .int .i64 x.2]) ∧ OwnV w' w.heap.size v x.1 ∧ Below w.heap.size w w'
def burntD (d : Dk20) : Dk20 × Int := if d.fuse = 0 then (⟨d.files, d.loose, d.fuse, true⟩, 14) else (⟨d.files, d.loose, spentF d.fuse, d.down⟩, 0)
set_option maxHeartbeats 4000000 in
theorem burnt20_any (d : Dk20) (val : Value) (w : World) (hd : DkV w val d) (h1 : d.files.length ≤ 4398046511104) (h2 : d.loose.length ≤ 1000000000) (hfu : -9223372036854775808 ≤ d.fuse ∧ d.fuse ≤ 9223372036854775807) :
    Calls Try.prog 28 #[val] w (OwnPost w (burntD d)) := by
  obtain ⟨L, os, fuse, dn⟩ := d
  obtain ⟨a1, c1, a2, c2, rfl, hf, hl⟩ := dkV_open hd
  simp only at h1 h2 hfu
  have hw0 := dkW_new (fuse := fuse) (dn := dn) hf hl
  obtain ⟨p0, p1, p2, p3⟩ := four_cells hw0.dk
  obtain ⟨s0, s1, s2, s3⟩ := four_soft hw0.dk
  have hap := Lib.hid (apart20_any ⟨L, os, fuse, dn⟩ _ _ hw0.val h1 h2)
  replace hw0 := Lib.hid hw0
  unfold burntD
  simp only
  clear hf hl hd
  by_cases h0 : fuse = 0
  · subst h0
    rw [if_pos rfl]
    go_enter Try.func28, Try.ntmps28
    go_wp2_with fail
    refine hap.out.mono ?_; rintro e w1 ⟨v1, rfl, hd1, hb1⟩
    obtain ⟨a3, c3, a4, c4, B', hBB, rfl, hf1, hl1, ho1, hlo⟩ := hd1
    simp only at hf1 hl1 ho1 hlo
    have hBw := Nat.le_trans hw0.out.below.size hBB
    have hw1 := hw0.out.next hb1
    have hw1s := hw1.set (z := 0) (b := dn) rfl rfl hf1 hl1
    have hq1 := Lib.hid (ownO_keep ho1 hw1.dk (four_turned w1 w.heap.size (.slice a3 L.length c3) (.slice a4 os.length c4) (.int .i64 0) (.bool dn)))
    obtain ⟨r0, r1, r2, r3⟩ := four_cells hw1.dk
    obtain ⟨t0, t1, t2, t3⟩ := four_soft hw1.dk
    replace hw1s := Lib.hid hw1s
    clear p0 p1 p2 p3 s0 s1 s2 s3 hf1 hl1 ho1 hb1 hw0 hap hw1
    go_upto_region 2 with fail
    refine hide_world (K := fun a w' => Code.wp _ _ _ a w') (R := fun W => DkW w w.heap.size (w.heap.size + 1) a3 c3 a4 c4 0 dn L os W ∧ OwnO W B' (.slice a4 os.length c4) os) ⟨hw1s.out, hq1.out⟩ ?_
    intro w2 hw2o
    obtain ⟨hw2, hp2⟩ := hw2o.out
    replace hw2 := Lib.hid hw2
    replace hp2 := Lib.hid hp2
    clear hw2o
    clear hw1s hq1 r0 r1 r2 r3 t0 t1 t2 t3
    obtain ⟨r0, r1, r2, r3⟩ := four_cells hw2.out.dk
    obtain ⟨t0, t1, t2, t3⟩ := four_soft hw2.out.dk
    have hw2s := Lib.hid (hw2.out.set3 true)
    have hq2 := Lib.hid (ownO_keep hp2.out hw2.out.dk (turned_setCell w2 ⟨w.heap.size, 3, none⟩ (.bool true)))
    go_upto_region 4 with fail
    refine hide_world (K := fun a w' => Code.wp _ _ _ a w') (R := fun W => DkW w w.heap.size (w.heap.size + 1) a3 c3 a4 c4 0 true L os W ∧ OwnO W B' (.slice a4 os.length c4) os) ⟨hw2s.out, hq2.out⟩ ?_
    intro w3 hw3o
    obtain ⟨hw3, hp3⟩ := hw3o.out
    replace hw3 := Lib.hid hw3
    replace hp3 := Lib.hid hp3
    clear hw3o
    clear hw2 hw2s hq2 hp2 r0 r1 r2 r3 t0 t1 t2 t3
    obtain ⟨x0, x1, x2, x3⟩ := four_cells hw3.out.res
    obtain ⟨y0, y1, y2, y3⟩ := four_soft hw3.out.res
    obtain ⟨p0, p1, p2, p3⟩ := four_cells hw3.out.dk
    obtain ⟨o1, o2, o3⟩ := DkW.out (z := 0) (b := true) hw3.out hw3.out.files hw3.out.loose
    have ho3 := Lib.hid (ownO_keep hp3.out hw3.out.res (four_turned _ (w.heap.size + 1) (.slice a3 L.length c3) (.slice a4 os.length c4) (.int .i64 0) (.bool true)))
    replace o1 := Lib.hid o1
    replace o2 := Lib.hid o2
    replace o3 := Lib.hid o3
    have hne : w.heap.size ≠ w.heap.size + 1 := by omega
    go_wp2_with fail
    refine hide_world (K := fun a w' => bodyPost _ _ _ Exit.ret a w') (R := fun W' => ArrAt W' (w.heap.size + 1) 25 [.slice a3 L.length c3, .slice a4 os.length c4, .int .i64 0, .bool true] ∧ OwnV W' w.heap.size (.agg #[.slice a3 L.length c3, .slice a4 os.length c4, .int .i64 0, .bool true]) ⟨L, os, 0, true⟩ ∧ Below w.heap.size w W') ⟨o1.out, ownV_of o2.out hBw ho3.out hlo, o3.out⟩ ?_
    intro wf hwf
    clear ho3 o1 o2 o3 x0 x1 x2 x3 y0 y1 y2 y3 p0 p1 p2 p3
    obtain ⟨k0, k1, k2, k3⟩ := four_cells hwf.out.1
    refine bodyPost_ret (v := .tuple #[.agg #[.slice a3 L.length c3, .slice a4 os.length c4, .int .i64 0, .bool true], .int .i64 14]) (by simp [results, Try.results28, go_sem, k0, k1, k2, k3]) rfl ?_
    exact ⟨_, rfl, hwf.out.2.1, hwf.out.2.2⟩
  · rw [if_neg h0]
    have g0 : (fuse == 0) = false := by simpa using h0
    unfold spentF
    by_cases hf : 0 < fuse
    · rw [if_pos hf]
      go_enter Try.func28, Try.ntmps28
      go_wp2_with fail
      refine hap.out.mono ?_; rintro e w1 ⟨v1, rfl, hd1, hb1⟩
      obtain ⟨a3, c3, a4, c4, B', hBB, rfl, hf1, hl1, ho1, hlo⟩ := hd1
      simp only at hf1 hl1 ho1 hlo
      have hBw := Nat.le_trans hw0.out.below.size hBB
      have hw1 := hw0.out.next hb1
      have hw1s := hw1.set (z := fuse) (b := dn) rfl rfl hf1 hl1
      have hq1 := Lib.hid (ownO_keep ho1 hw1.dk (four_turned w1 w.heap.size (.slice a3 L.length c3) (.slice a4 os.length c4) (.int .i64 fuse) (.bool dn)))
      obtain ⟨r0, r1, r2, r3⟩ := four_cells hw1.dk
      obtain ⟨t0, t1, t2, t3⟩ := four_soft hw1.dk
      replace hw1s := Lib.hid hw1s
      clear p0 p1 p2 p3 s0 s1 s2 s3 hf1 hl1 ho1 hb1 hw0 hap hw1
      go_upto_region 2 with fail
      refine hide_world (K := fun a w' => Code.wp _ _ _ a w') (R := fun W => DkW w w.heap.size (w.heap.size + 1) a3 c3 a4 c4 fuse dn L os W ∧ OwnO W B' (.slice a4 os.length c4) os) ⟨hw1s.out, hq1.out⟩ ?_
      intro w2 hw2o
      obtain ⟨hw2, hp2⟩ := hw2o.out
      replace hw2 := Lib.hid hw2
      replace hp2 := Lib.hid hp2
      clear hw2o
      clear hw1s hq1 r0 r1 r2 r3 t0 t1 t2 t3
      obtain ⟨r0, r1, r2, r3⟩ := four_cells hw2.out.dk
      obtain ⟨t0, t1, t2, t3⟩ := four_soft hw2.out.dk
      have hw2s := Lib.hid (hw2.out.set2 (fuse - 1))
      have hq2 := Lib.hid (ownO_keep hp2.out hw2.out.dk (turned_setCell w2 ⟨w.heap.size, 2, none⟩ (.int .i64 (fuse - 1))))
      have hwr : IntKind.i64.wrap (fuse - 1) = fuse - 1 := by rw [IntKind.wrap_i64]; omega
      go_upto_region 7 with fail
      refine hide_world (K := fun a w' => Code.wp _ _ _ a w') (R := fun W => DkW w w.heap.size (w.heap.size + 1) a3 c3 a4 c4 (fuse - 1) dn L os W ∧ OwnO W B' (.slice a4 os.length c4) os) ⟨hw2s.out, hq2.out⟩ ?_
      intro w3 hw3o
      obtain ⟨hw3, hp3⟩ := hw3o.out
      replace hw3 := Lib.hid hw3
      replace hp3 := Lib.hid hp3
      clear hw3o
      clear hw2 hw2s hq2 hp2 r0 r1 r2 r3 t0 t1 t2 t3
      obtain ⟨x0, x1, x2, x3⟩ := four_cells hw3.out.res
      obtain ⟨y0, y1, y2, y3⟩ := four_soft hw3.out.res
      obtain ⟨p0, p1, p2, p3⟩ := four_cells hw3.out.dk
      obtain ⟨o1, o2, o3⟩ := DkW.out (z := (fuse - 1)) (b := dn) hw3.out hw3.out.files hw3.out.loose
      have ho3 := Lib.hid (ownO_keep hp3.out hw3.out.res (four_turned _ (w.heap.size + 1) (.slice a3 L.length c3) (.slice a4 os.length c4) (.int .i64 (fuse - 1)) (.bool dn)))
      replace o1 := Lib.hid o1
      replace o2 := Lib.hid o2
      replace o3 := Lib.hid o3
      have hne : w.heap.size ≠ w.heap.size + 1 := by omega
      go_wp2_with fail
      refine hide_world (K := fun a w' => bodyPost _ _ _ Exit.ret a w') (R := fun W' => ArrAt W' (w.heap.size + 1) 25 [.slice a3 L.length c3, .slice a4 os.length c4, .int .i64 (fuse - 1), .bool dn] ∧ OwnV W' w.heap.size (.agg #[.slice a3 L.length c3, .slice a4 os.length c4, .int .i64 (fuse - 1), .bool dn]) ⟨L, os, (fuse - 1), dn⟩ ∧ Below w.heap.size w W') ⟨o1.out, ownV_of o2.out hBw ho3.out hlo, o3.out⟩ ?_
      intro wf hwf
      clear ho3 o1 o2 o3 x0 x1 x2 x3 y0 y1 y2 y3 p0 p1 p2 p3
      obtain ⟨k0, k1, k2, k3⟩ := four_cells hwf.out.1
      refine bodyPost_ret (v := .tuple #[.agg #[.slice a3 L.length c3, .slice a4 os.length c4, .int .i64 (fuse - 1), .bool dn], .int .i64 0]) (by simp [results, Try.results28, go_sem, k0, k1, k2, k3]) rfl ?_
      exact ⟨_, rfl, hwf.out.2.1, hwf.out.2.2⟩
    · rw [if_neg hf]
      go_enter Try.func28, Try.ntmps28
      go_wp2_with fail
      refine hap.out.mono ?_; rintro e w1 ⟨v1, rfl, hd1, hb1⟩
      obtain ⟨a3, c3, a4, c4, B', hBB, rfl, hf1, hl1, ho1, hlo⟩ := hd1
      simp only at hf1 hl1 ho1 hlo
      have hBw := Nat.le_trans hw0.out.below.size hBB
      have hw1 := hw0.out.next hb1
      have hw1s := hw1.set (z := fuse) (b := dn) rfl rfl hf1 hl1
      have hq1 := Lib.hid (ownO_keep ho1 hw1.dk (four_turned w1 w.heap.size (.slice a3 L.length c3) (.slice a4 os.length c4) (.int .i64 fuse) (.bool dn)))
      obtain ⟨r0, r1, r2, r3⟩ := four_cells hw1.dk
      obtain ⟨t0, t1, t2, t3⟩ := four_soft hw1.dk
      replace hw1s := Lib.hid hw1s
      clear p0 p1 p2 p3 s0 s1 s2 s3 hf1 hl1 ho1 hb1 hw0 hap hw1
      go_upto_region 2 with fail
      refine hide_world (K := fun a w' => Code.wp _ _ _ a w') (R := fun W => DkW w w.heap.size (w.heap.size + 1) a3 c3 a4 c4 fuse dn L os W ∧ OwnO W B' (.slice a4 os.length c4) os) ⟨hw1s.out, hq1.out⟩ ?_
      intro w2 hw2o
      obtain ⟨hw2, hp2⟩ := hw2o.out
      replace hw2 := Lib.hid hw2
      replace hp2 := Lib.hid hp2
      clear hw2o
      clear hw1s hq1 r0 r1 r2 r3 t0 t1 t2 t3
      obtain ⟨r0, r1, r2, r3⟩ := four_cells hw2.out.dk
      obtain ⟨t0, t1, t2, t3⟩ := four_soft hw2.out.dk
      have hw3 := hw2
      have hp3 := hp2
      obtain ⟨x0, x1, x2, x3⟩ := four_cells hw3.out.res
      obtain ⟨y0, y1, y2, y3⟩ := four_soft hw3.out.res
      obtain ⟨p0, p1, p2, p3⟩ := four_cells hw3.out.dk
      obtain ⟨o1, o2, o3⟩ := DkW.out (z := fuse) (b := dn) hw3.out hw3.out.files hw3.out.loose
      have ho3 := Lib.hid (ownO_keep hp3.out hw3.out.res (four_turned _ (w.heap.size + 1) (.slice a3 L.length c3) (.slice a4 os.length c4) (.int .i64 fuse) (.bool dn)))
      replace o1 := Lib.hid o1
      replace o2 := Lib.hid o2
      replace o3 := Lib.hid o3
      have hne : w.heap.size ≠ w.heap.size + 1 := by omega
      go_wp2_with fail
      refine hide_world (K := fun a w' => bodyPost _ _ _ Exit.ret a w') (R := fun W' => ArrAt W' (w.heap.size + 1) 25 [.slice a3 L.length c3, .slice a4 os.length c4, .int .i64 fuse, .bool dn] ∧ OwnV W' w.heap.size (.agg #[.slice a3 L.length c3, .slice a4 os.length c4, .int .i64 fuse, .bool dn]) ⟨L, os, fuse, dn⟩ ∧ Below w.heap.size w W') ⟨o1.out, ownV_of o2.out hBw ho3.out hlo, o3.out⟩ ?_
      intro wf hwf
      clear r0 r1 r2 r3 t0 t1 t2 t3 ho3 o1 o2 o3 x0 x1 x2 x3 y0 y1 y2 y3 p0 p1 p2 p3
      obtain ⟨k0, k1, k2, k3⟩ := four_cells hwf.out.1
      refine bodyPost_ret (v := .tuple #[.agg #[.slice a3 L.length c3, .slice a4 os.length c4, .int .i64 fuse, .bool dn], .int .i64 0]) (by simp [results, Try.results28, go_sem, k0, k1, k2, k3]) rfl ?_
      exact ⟨_, rfl, hwf.out.2.1, hwf.out.2.2⟩
end Go.Proofs.Ytahndjgamoojkaa
