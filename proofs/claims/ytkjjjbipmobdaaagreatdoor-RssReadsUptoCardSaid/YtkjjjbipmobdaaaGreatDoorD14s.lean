/- Layer 14's laws: RssReads, RssTexts, RssFields. -/
import Derived.Test.YtkjjjbipmobdaaaGreatDoorD14t
import Derived.Test.YtkjjjbipmobdaaaGreatDoorD14o
import Derived.Test.YtkjjjbipmobdaaaGreatDoorBR03
namespace Go.Proofs.YtkjjjbipmobdaaaGreatDoor
open Go.RowKit

set_option maxRecDepth 100000 in
set_option maxHeartbeats 4000000 in
/-- The law RssReads. -/
theorem reads14_law (P : List (Nd × Value)) (v : Value) (many most : Int) (w : World) (h : NdSl w v P) (hsum : sumT (nodes P) ≤ 1048576) (hL : Laid14 w) :
    Calls Tryz.prog 6 #[v, .int .i64 many, .int .i64 most] w (LawPost w) := by
  obtain ⟨va, vc, rfl⟩ := h.form
  by_cases hlen : 60 < P.length
  · have hl1 : (60 : Int) < P.length := by omega
    have ha := awake14_any w hL
    clear h hL hsum
    replace ha := Lib.hid ha
    go_enter Tryz.func6, Tryz.ntmps6
    go_wp2_with fail
    refine ha.out.mono ?_
    rintro e w1 ⟨rfl, b1⟩
    go_wp2_with fail
    go_ret
    exact ⟨rfl, b1⟩
  have hl1 : ¬ ((60 : Int) < P.length) := by omega
  have hPl : P.length ≤ 1000000 := by omega
  have hS : sumT (nodes P) ≤ 2000000 := by omega
  clear hsum
  obtain ⟨o, ho⟩ : ∃ o, itsB (nodes P) r822C many most = o := ⟨_, rfl⟩
  have hA := items14_any P _ many most _ h hPl hS hL.dt hL.ty
  have hB := fun W (hb : Below w.heap.size w W) => refitems14_any P _ many most W (h.next hb) hPl hS
  simp only [← itsB_alike] at hB
  rw [ho] at hA
  simp only [ho] at hB
  have haw := fun W (hb : Below w.heap.size w W) => awake14_any W (hL.below hb)
  replace haw := Lib.hid haw
  replace hA := Lib.hid hA
  replace hB := Lib.hid hB
  clear h hL hS
  cases o with
  | bad q =>
    have hq := itsB_codes ho
    have hq1 : 1 ≤ q := by omega
    have hq2 : q ≤ 15 := by omega
    have hqq : (q == q) = true := beq_self_eq_true q
    clear ho hq
    go_enter Tryz.func6, Tryz.ntmps6
    go_wp2_with fail
    refine hA.out.mono ?_
    rintro e w2 hh
    obtain ⟨f, rfl, hf, hb2⟩ := hh.no
    clear hh hA
    have hB2 := Lib.hid (hB.out w2 hb2)
    replace hf := Lib.hid hf
    replace hb2 := Lib.hid hb2
    clear hB
    go_wp2_with fail
    refine hB2.out.mono ?_
    rintro e w3 hh
    obtain ⟨rfl, hb3⟩ := hh.no
    clear hh hB2
    replace hf := Lib.hid (hf.out.below hb3)
    replace hb2 := Lib.hid (hb2.out.andThen hb3)
    clear hb3
    go_wp2_with fail
    refine (haw.out w3 hb2.out).mono ?_
    rintro e w4 ⟨rfl, hb4⟩
    replace hf := Lib.hid (hf.out.below hb4)
    replace hb2 := Lib.hid (hb2.out.andThen hb4)
    clear hb4 haw
    go_wp2_with fail
    refine (same14_any [] _ _ 0 0 w4 (World.ownsRow_nil _ _ _ _) (World.ownsRow_nil _ _ _ _) (by decide)).mono ?_
    rintro e w5 ⟨rfl, hd5⟩
    have hc := Lib.hid (code14_fault f q w5 (hf.out.below (hd5.below _)) hq1 hq2)
    replace hb2 := Lib.hid (hb2.out.andThen (hd5.below _))
    clear hd5 hf
    go_wp2_with fail
    refine hc.out.mono ?_
    rintro e w6 ⟨rfl, rfl⟩
    go_wp2_with fail
    go_ret
    exact ⟨rfl, hb2.out⟩
  | its l =>
    have hl := (itsB_len ho).1
    rw [nodes_len] at hl
    clear ho
    go_enter Tryz.func6, Tryz.ntmps6
    go_wp2_with fail
    refine hA.out.mono ?_
    rintro e w2 hh
    obtain ⟨u1, rfl, hu1, hb2⟩ := hh.good
    clear hh hA
    obtain ⟨ua, uc, rfl⟩ := own_form hu1
    have hB2 := Lib.hid (hB.out w2 hb2)
    replace hu1 := Lib.hid hu1
    replace hb2 := Lib.hid hb2
    clear hB
    go_wp2_with fail
    refine hB2.out.mono ?_
    rintro e w3 hh
    obtain ⟨u2, rfl, hu2, hb3⟩ := hh.good
    clear hh hB2
    obtain ⟨ub, ud, rfl⟩ := own_form hu2
    replace hu1 := Lib.hid (ownsRow_below hu1.out hb3)
    replace hb2 := Lib.hid (hb2.out.andThen hb3)
    replace hu2 := Lib.hid hu2
    clear hb3
    go_wp2_with fail
    refine (haw.out w3 hb2.out).mono ?_
    rintro e w4 ⟨rfl, hb4⟩
    have hs := same14_any l _ _ _ _ w4 (ownsRow_below hu1.out hb4) (ownsRow_below hu2.out hb4) (by omega)
    replace hs := Lib.hid hs
    replace hb2 := Lib.hid (hb2.out.andThen hb4)
    clear hb4 haw hu1 hu2
    go_wp2_with fail
    refine hs.out.mono ?_
    rintro e w5 ⟨rfl, hd5⟩
    replace hb2 := Lib.hid (hb2.out.andThen (hd5.below _))
    clear hd5 hs
    go_wp2_with fail
    refine (code14_nil _).mono ?_
    rintro e w6 ⟨rfl, rfl⟩
    go_wp2_with fail
    go_ret
    exact ⟨rfl, hb2.out⟩
set_option maxRecDepth 100000 in
set_option maxHeartbeats 4000000 in
/-- The law RssTexts. -/
theorem texts14_law (s : List UInt8) (many most : Int) (w : World) (hL : Laid14 w) :
    Calls Tryz.prog 7 #[.string ⟨s.toArray⟩, .int .i64 many, .int .i64 most] w (LawPost w) := by
  by_cases hlen : 2000 < s.length
  · have hl1 : (2000 : Int) < s.length := by omega
    have ha := awake14_any w hL
    clear hL
    replace ha := Lib.hid ha
    go_enter Tryz.func7, Tryz.ntmps7
    go_wp2_with fail
    refine ha.out.mono ?_
    rintro e w1 ⟨rfl, b1⟩
    go_wp2_with fail
    go_ret
    exact ⟨rfl, b1⟩
  have hl1 : ¬ ((2000 : Int) < s.length) := by omega
  have hn := nodes14_any s w (by omega)
  have hdl := docN_len 30 s
  have hds := docN_sum 30 s
  generalize docN 30 s = d at hn hdl hds
  replace hn := Lib.hid hn
  replace hL := Lib.hid hL

  go_enter Tryz.func7, Tryz.ntmps7
  go_wp2_with fail
  refine hn.out.mono ?_
  rintro e w1 ⟨v1, P, rfl, h, rfl, hb1⟩
  clear hn
  obtain ⟨va, vc, rfl⟩ := h.form
  rw [nodes_len] at hdl
  have hPl : P.length ≤ 1000000 := by omega
  have hS : sumT (nodes P) ≤ 2000000 := by omega
  have hL1 := hL.out.below hb1
  clear hL
  have hL := hL1
  clear hL1
  replace hb1 := Lib.hid hb1
  obtain ⟨o, ho⟩ : ∃ o, itsB (nodes P) r822C many most = o := ⟨_, rfl⟩
  have hA := items14_any P _ many most _ h hPl hS hL.dt hL.ty
  have hB := fun W (hb : Below w1.heap.size w1 W) => refitems14_any P _ many most W (h.next hb) hPl hS
  simp only [← itsB_alike] at hB
  rw [ho] at hA
  simp only [ho] at hB
  have haw := fun W (hb : Below w1.heap.size w1 W) => awake14_any W (hL.below hb)
  replace haw := Lib.hid haw
  replace hA := Lib.hid hA
  replace hB := Lib.hid hB
  clear h hL hS
  cases o with
  | bad q =>
    have hq := itsB_codes ho
    have hq1 : 1 ≤ q := by omega
    have hq2 : q ≤ 15 := by omega
    have hqq : (q == q) = true := beq_self_eq_true q
    clear ho hq
    go_wp2_with fail
    refine hA.out.mono ?_
    rintro e w2 hh
    obtain ⟨f, rfl, hf, hb2⟩ := hh.no
    clear hh hA
    have hB2 := Lib.hid (hB.out w2 hb2)
    replace hf := Lib.hid hf
    replace hb2 := Lib.hid hb2
    clear hB
    go_wp2_with fail
    refine hB2.out.mono ?_
    rintro e w3 hh
    obtain ⟨rfl, hb3⟩ := hh.no
    clear hh hB2
    replace hf := Lib.hid (hf.out.below hb3)
    replace hb2 := Lib.hid (hb2.out.andThen hb3)
    clear hb3
    go_wp2_with fail
    refine (haw.out w3 hb2.out).mono ?_
    rintro e w4 ⟨rfl, hb4⟩
    replace hf := Lib.hid (hf.out.below hb4)
    replace hb2 := Lib.hid (hb2.out.andThen hb4)
    clear hb4 haw
    go_wp2_with fail
    refine (same14_any [] _ _ 0 0 w4 (World.ownsRow_nil _ _ _ _) (World.ownsRow_nil _ _ _ _) (by decide)).mono ?_
    rintro e w5 ⟨rfl, hd5⟩
    have hc := Lib.hid (code14_fault f q w5 (hf.out.below (hd5.below _)) hq1 hq2)
    replace hb2 := Lib.hid (hb2.out.andThen (hd5.below _))
    clear hd5 hf
    go_wp2_with fail
    refine hc.out.mono ?_
    rintro e w6 ⟨rfl, rfl⟩
    go_wp2_with fail
    go_ret
    exact ⟨rfl, hb1.out.andThen hb2.out⟩
  | its l =>
    have hl := (itsB_len ho).1
    rw [nodes_len] at hl
    clear ho
    go_wp2_with fail
    refine hA.out.mono ?_
    rintro e w2 hh
    obtain ⟨u1, rfl, hu1, hb2⟩ := hh.good
    clear hh hA
    obtain ⟨ua, uc, rfl⟩ := own_form hu1
    have hB2 := Lib.hid (hB.out w2 hb2)
    replace hu1 := Lib.hid hu1
    replace hb2 := Lib.hid hb2
    clear hB
    go_wp2_with fail
    refine hB2.out.mono ?_
    rintro e w3 hh
    obtain ⟨u2, rfl, hu2, hb3⟩ := hh.good
    clear hh hB2
    obtain ⟨ub, ud, rfl⟩ := own_form hu2
    replace hu1 := Lib.hid (ownsRow_below hu1.out hb3)
    replace hb2 := Lib.hid (hb2.out.andThen hb3)
    replace hu2 := Lib.hid hu2
    clear hb3
    go_wp2_with fail
    refine (haw.out w3 hb2.out).mono ?_
    rintro e w4 ⟨rfl, hb4⟩
    have hs := same14_any l _ _ _ _ w4 (ownsRow_below hu1.out hb4) (ownsRow_below hu2.out hb4) (by omega)
    replace hs := Lib.hid hs
    replace hb2 := Lib.hid (hb2.out.andThen hb4)
    clear hb4 haw hu1 hu2
    go_wp2_with fail
    refine hs.out.mono ?_
    rintro e w5 ⟨rfl, hd5⟩
    replace hb2 := Lib.hid (hb2.out.andThen (hd5.below _))
    clear hd5 hs
    go_wp2_with fail
    refine (code14_nil _).mono ?_
    rintro e w6 ⟨rfl, rfl⟩
    go_wp2_with fail
    go_ret
    exact ⟨rfl, hb1.out.andThen hb2.out⟩
set_option maxRecDepth 100000 in
set_option maxHeartbeats 4000000 in
/-- The law RssFields. -/
theorem fields14_law (P : List (Nd × Value)) (v : Value) (i : Int) (nm : List UInt8) (w : World) (h : NdSl w v P) (hsum : sumT (nodes P) ≤ 1048576) (hL : Laid14 w) :
    Calls Tryz.prog 8 #[v, .int .i64 i, .string ⟨nm.toArray⟩] w (LawPost w) := by
  obtain ⟨va, vc, rfl⟩ := h.form
  by_cases hlen : 60 < P.length
  · have hl1 : (60 : Int) < P.length := by omega
    have ha := awake14_any w hL
    clear h hL hsum
    replace ha := Lib.hid ha
    go_enter Tryz.func8, Tryz.ntmps8
    go_wp2_with fail
    refine ha.out.mono ?_
    rintro e w1 ⟨rfl, b1⟩
    go_wp2_with fail
    go_ret
    exact ⟨rfl, b1⟩
  have hl1 : ¬ ((60 : Int) < P.length) := by omega
  have hPl : P.length ≤ 1000000 := by omega
  have hS : sumT (nodes P) ≤ 2000000 := by omega
  clear hsum
  have c1 := fun W (hb : Below w.heap.size w W) => field14_any P _ i nm W (h.next hb) hPl hS
  have c2 := fun W (hb : Below w.heap.size w W) => reffield14_any P _ i nm W (h.next hb) hPl hS
  have c3 := fun W (hb : Below w.heap.size w W) => channel14_any P _ W (h.next hb) hPl
  have c4 := fun W (hb : Below w.heap.size w W) => refchannel14_any P _ W (h.next hb) hPl
  have haw := fun W (hb : Below w.heap.size w W) => awake14_any W (hL.below hb)
  generalize fieldB (nodes P) i nm = o at c1 c2
  generalize chanB (nodes P) = c at c3 c4
  replace c1 := Lib.hid c1
  replace c2 := Lib.hid c2
  replace c3 := Lib.hid c3
  replace c4 := Lib.hid c4
  replace haw := Lib.hid haw
  clear h hL hS
  have hcc : ∀ z : Int, (z == z) = true := beq_self_eq_true
  have hss : ((o.getD []) == (o.getD [])) = true := beq_self_eq_true _
  have hbb : ∀ z : Bool, (z == z) = true := beq_self_eq_true
  go_enter Tryz.func8, Tryz.ntmps8
  go_wp2_with fail
  refine (c1.out w (Below.refl _ _)).mono ?_
  rintro e w1 ⟨rfl, b1⟩
  replace b1 := Lib.hid b1
  go_wp2_with fail
  refine (c2.out w1 b1.out).mono ?_
  rintro e w2 ⟨rfl, b2⟩
  replace b1 := Lib.hid (b1.out.andThen b2)
  clear b2
  go_wp2_with fail
  refine (c3.out w2 b1.out).mono ?_
  rintro e w3 ⟨rfl, b2⟩
  replace b1 := Lib.hid (b1.out.andThen b2)
  clear b2
  go_wp2_with fail
  refine (c4.out w3 b1.out).mono ?_
  rintro e w4 ⟨rfl, b2⟩
  replace b1 := Lib.hid (b1.out.andThen b2)
  clear b2
  go_wp2_with fail
  refine (haw.out w4 b1.out).mono ?_
  rintro e w5 ⟨rfl, b2⟩
  replace b1 := Lib.hid (b1.out.andThen b2)
  clear b2 c1 c2 c3 c4 haw
  cases o <;> cases c
  all_goals
    go_wp2_with fail
    go_ret
    exact ⟨rfl, b1.out⟩
end Go.Proofs.YtkjjjbipmobdaaaGreatDoor
