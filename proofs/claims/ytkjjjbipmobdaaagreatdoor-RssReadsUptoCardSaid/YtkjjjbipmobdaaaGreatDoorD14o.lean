/- Layer 14's laws: what is laid; awake. -/
import Derived.Test.YtkjjjbipmobdaaaGreatDoorD14m
import Derived.Test.YtkjjjbipmobdaaaGreatDoorD14l
namespace Go.Proofs.YtkjjjbipmobdaaaGreatDoor
open Go.RowKit

/-- What the listed variables hold. -/
structure Laid14 (w : World) : Prop where
  ty : EnvT w
  dt : Env13 w
theorem Laid14.below {w w' : World} (h : Laid14 w) (hb : Below w.heap.size w w') : Laid14 w' := ⟨h.ty.below hb, h.dt.below hb⟩
theorem items14_doc {l : List Nd} {o : ItsO} {many most : Int} (ho : itsB l r822C many most = o) (hl : l.length ≤ 1000000) (hs : sumT l ≤ 2000000) (P : List (Nd × Value)) (hP : nodes P = l) (v : Value) (w : World) (h : NdSl w v P) (hL : Laid14 w) :
    Calls Tryz.prog 20 #[v, .int .i64 many, .int .i64 most] w (ItsPost w o) := by
  subst ho hP
  rw [nodes_len] at hl
  exact items14_any P v many most w h hl hs hL.dt hL.ty
set_option maxRecDepth 100000 in
set_option maxHeartbeats 4000000 in
theorem awake14_any (w : World) (hL : Laid14 w) : Calls Tryz.prog 19 #[] w (LawPost w) := by
  have n1 := Lib.hid (fun W => nodes14_any wake1 W (by decide))
  have n2 := Lib.hid (fun W => nodes14_any wake2 W (by decide))
  have n3 := Lib.hid (fun W => nodes14_any wake3 W (by decide))
  have i1 := Lib.hid (@items14_doc _ _ _ _ wake_one (Nat.le_trans wake_len.1 (by decide)) wake_sum.1)
  have i2 := Lib.hid (@items14_doc _ _ _ _ wake_two (Nat.le_trans wake_len.1 (by decide)) wake_sum.1)
  have i3 := Lib.hid (@items14_doc _ _ _ _ wake_three (Nat.le_trans wake_len.2.1 (by decide)) wake_sum.2.1)
  have i4 := Lib.hid (@items14_doc _ _ _ _ wake_four (Nat.le_trans wake_len.2.2 (by decide)) wake_sum.2.2)
  replace hL := Lib.hid hL
  go_enter Tryz.func19, Tryz.ntmps19
  go_wp2_with fail
  refine (n1.out _).mono ?_
  rintro e w1 ⟨v1, P1, rfl, h1, hP1, hb1⟩
  have j1 := i1.out P1 hP1 v1 w1 h1 (hL.out.below hb1)
  have hlow1 := hb1.size
  obtain ⟨a1, c1, rfl⟩ := h1.form
  replace h1 := Lib.hid h1
  replace hP1 := Lib.hid hP1
  replace hb1 := Lib.hid hb1
  replace j1 := Lib.hid j1
  clear n1 i1
  go_wp2_with fail
  refine j1.out.mono ?_
  rintro e w2 hh
  obtain ⟨g, cg, hcg, rfl, hx, hb2⟩ := hh.one
  clear hh j1
  have h2 := h1.out.next hb2
  have hb12 := hb1.out.andThen hb2
  have j2 := i2.out P1 hP1.out _ w2 h2 (hL.out.below hb12)
  replace hx := Lib.hid hx
  replace hb12 := Lib.hid hb12
  replace j2 := Lib.hid j2
  clear i2 h1 h2 hP1 hb1 hb2
  go_wp2_with fail
  refine j2.out.mono ?_
  rintro e w3 hh
  obtain ⟨f1, rfl, hf1, hb3⟩ := hh.no
  clear hh j2
  replace hx := Lib.hid (hx.out.next hb3)
  replace hb12 := Lib.hid (hb12.out.andThen hb3)
  replace hf1 := Lib.hid hf1
  clear hb3
  go_wp2_with fail
  refine (n2.out _).mono ?_
  rintro e w4 ⟨v4, P4, rfl, h4, hP4, hb4⟩
  clear n2
  replace hx := Lib.hid (hx.out.next hb4)
  replace hb12 := Lib.hid (hb12.out.andThen hb4)
  replace hf1 := Lib.hid (hf1.out.below hb4)
  have j3 := i3.out P4 hP4 _ w4 h4 (hL.out.below hb12.out)
  obtain ⟨a4, c4, rfl⟩ := h4.form
  replace j3 := Lib.hid j3
  clear i3 h4 hP4 hb4
  go_wp2_with fail
  refine j3.out.mono ?_
  rintro e w5 hh
  obtain ⟨f2, rfl, hf2, hb5⟩ := hh.no
  clear hh j3
  replace hx := Lib.hid (hx.out.next hb5)
  replace hb12 := Lib.hid (hb12.out.andThen hb5)
  replace hf1 := Lib.hid (hf1.out.below hb5)
  replace hf2 := Lib.hid hf2
  clear hb5
  go_wp2_with fail
  refine (n3.out _).mono ?_
  rintro e w6 ⟨v6, P6, rfl, h6, hP6, hb6⟩
  clear n3
  replace hx := Lib.hid (hx.out.next hb6)
  replace hb12 := Lib.hid (hb12.out.andThen hb6)
  replace hf1 := Lib.hid (hf1.out.below hb6)
  replace hf2 := Lib.hid (hf2.out.below hb6)
  have j4 := i4.out P6 hP6 _ w6 h6 (hL.out.below hb12.out)
  obtain ⟨a6, c6, rfl⟩ := h6.form
  replace j4 := Lib.hid j4
  clear i4 h6 hP6 hb6
  go_wp2_with fail
  refine j4.out.mono ?_
  rintro e w7 hh
  obtain ⟨f3, rfl, hf3, hb7⟩ := hh.no
  clear hh j4
  replace hx := Lib.hid (hx.out.next hb7)
  replace hb12 := Lib.hid (hb12.out.andThen hb7)
  have k1 := code14_fault f1 6 w7 (hf1.out.below hb7) (by decide) (by decide)
  have k2 := code14_fault f2 7 w7 (hf2.out.below hb7) (by decide) (by decide)
  have k3 := code14_fault f3 5 w7 hf3 (by decide) (by decide)
  obtain ⟨x0, x1, x2, x3, x4, x5⟩ := hx.out
  unfold wakeIt strV at x0 x1 x2 x3
  unfold wakeIt at x4 x5
  simp only [Nat.zero_add] at x0 x1 x2 x3 x4 x5
  replace k1 := Lib.hid k1
  replace k2 := Lib.hid k2
  replace k3 := Lib.hid k3
  clear hf1 hf2 hf3 hb7 hx
  have hc1 : (0 : Int) < cg := by omega
  have hc2 : 0 < cg := by omega
  go_wp2_with fail
  refine k1.out.mono ?_
  rintro e w' ⟨rfl, rfl⟩
  go_wp2_with fail
  refine k2.out.mono ?_
  rintro e w' ⟨rfl, rfl⟩
  go_wp2_with fail
  refine k3.out.mono ?_
  rintro e w' ⟨rfl, rfl⟩
  go_wp2_with fail
  go_ret
  exact ⟨rfl, hb12.out⟩
end Go.Proofs.YtkjjjbipmobdaaaGreatDoor
