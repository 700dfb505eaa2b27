/- Layer 15's law AtomDates. -/
import Derived.Test.YtkjjjbipmobdaaaGreatDoorD15m
import Derived.Test.YtkjjjbipmobdaaaGreatDoorD14k
namespace Go.Proofs.YtkjjjbipmobdaaaGreatDoor
open Go.RowKit

set_option maxRecDepth 100000 in
set_option maxHeartbeats 8000000 in
/-- The law AtomDates. -/
theorem dates15_law (s : List UInt8) (a b : Int) (w : World) (ha : 0 ≤ a ∧ a ≤ 255) (hb : 0 ≤ b ∧ b ≤ 255) (hL : Laid15 w) :
    Calls Tryz.prog 5 #[.string ⟨s.toArray⟩, .int .u8 a, .int .u8 b] w (LawPost w) := by
  have haw := Lib.hid (fun W (hb : Below w.heap.size w W) => awake15_any W (hL.below hb))
  have hLn := Lib.hid (fun W (hb : Below w.heap.size w W) => hL.below hb)
  clear hL
  by_cases hlen : 2000 < s.length
  · have hl1 : (2000 : Int) < s.length := by omega
    go_enter Tryz.func5, Tryz.ntmps5
    go_wp2_with fail
    refine (haw.out _ (Below.refl _ _)).mono ?_
    rintro e w1 ⟨rfl, b1⟩
    go_wp2_with fail
    go_ret
    exact ⟨rfl, b1⟩
  have hl1 : ¬ ((2000 : Int) < s.length) := by omega
  have hn := Lib.hid (nodes15_any s w (by omega))
  have hdl := docN_len 30 s
  have hok := docN_ok (l := s) (by omega)
  generalize docN 30 s = d at hn hdl hok
  obtain ⟨o, ho⟩ : ∃ o, itsA d r3339C a b = o := ⟨_, rfl⟩
  have i1 := Lib.hid (@items15_doc _ _ _ _ ho hok)
  have e1 := IntWalk.i64_in a (by omega)
  have e2 := IntWalk.i64_in b (by omega)
  replace ho := Lib.hid ho
  clear hok
  go_enter Tryz.func5, Tryz.ntmps5
  go_wp2_with fail
  refine hn.out.mono ?_
  rintro e w1 ⟨v1, P, rfl, h1, hP, hb1⟩
  clear hn
  obtain ⟨va, vc, rfl⟩ := h1.form
  have j1 := Lib.hid (i1.out P hP _ w1 h1 (hLn.out w1 hb1))
  replace hb1 := Lib.hid hb1
  clear i1 h1 hP hLn
  cases o with
  | bad q =>
    go_wp2_with fail
    refine j1.out.mono ?_
    rintro e w2 hh
    obtain ⟨f, rfl, hf, hb2⟩ := hh.no
    replace hb1 := Lib.hid (hb1.out.andThen hb2)
    clear hh j1 hb2 hf ho
    unfold faultV
    go_wp2_with fail
    refine (haw.out w2 hb1.out).mono ?_
    rintro e w4 ⟨rfl, hb4⟩
    replace hb1 := Lib.hid (hb1.out.andThen hb4)
    clear hb4
    go_wp2_with fail
    go_ret
    exact ⟨rfl, hb1.out⟩
  | its l =>
    obtain ⟨hla, hlm, hall⟩ := itsA_its ho.out
    replace hall := Lib.hid hall
    clear ho
    go_wp2_with fail
    refine j1.out.mono ?_
    rintro e w2 hh
    obtain ⟨u1, rfl, hu1, hb2⟩ := hh.good
    obtain ⟨ua, uc, rfl, huc, hat⟩ := hu1.all
    replace hat := Lib.hid hat
    replace hb1 := Lib.hid (hb1.out.andThen hb2)
    clear hh j1 hb2 hu1
    go_wp2_with fail
    go_loopw [9] (fun ii wr => ∃ k : Nat, ii = .int .i64 k ∧ k ≤ l.length ∧ Hid (Below w2.heap.size w2 wr)) (fun ii _ => l.length - (intOf ii).toNat)
    case atStart => exact ⟨0, rfl, Nat.zero_le _, Below.refl _ _⟩
    case round =>
      obtain ⟨k, rfl, hk, hbl⟩ := hrel
      by_cases hlt : k < l.length
      · have hlt1 : (k : Int) < l.length := by omega
        have hkc : (k : Int) < uc := by omega
        have hkm : (k : Int) + 1 ≤ 9223372036854775807 := by omega
        obtain ⟨g, rfl, hx⟩ := hat.out k hlt
        obtain ⟨hg, hd⟩ := hall.out _ (List.getElem_mem hlt)
        obtain ⟨g1, g2, g3⟩ := hg
        obtain ⟨g4, g5⟩ := g3 hd
        have hx1 := hx.next hbl.out
        obtain ⟨x0, x1, x2, x3, x4, x5⟩ := hx1
        generalize l[k]'hlt = x at g1 g2 g4 g5 hd x0 x1 x2 x3 x4 x5
        clear hx g3
        obtain ⟨xg, xt, xl, xb, xd, xk⟩ := x
        simp only at g1 g2 g4 g5 hd x0 x1 x2 x3 x4 x5
        subst hd
        unfold strV at x0 x1 x2 x3
        have hsh := refshort14_any ⟨xg, xt, xl, xb, xd, true⟩ b wr
        rw [g2] at hsh
        unfold itV itC strV at hsh
        replace hsh := Lib.hid hsh
        have hg1 : (xg == []) = false := by rw [beq_eq_false_iff_ne]; exact g1
        have g6 : ¬ (xd < 0) := by omega
        have g7 : ¬ (253402300799 < xd) := by omega
        replace g1 := Lib.hid g1
        clear g2
        go_wp2_with fail
        refine hsh.out.mono ?_
        rintro e w4 ⟨rfl, hb4⟩
        have hb5 := Lib.hid (hbl.out.andThen hb4)
        clear hsh hb4 hbl x0 x1 x2 x3 x4 x5
        go_wp2_with fail
        exact ⟨⟨k + 1, by go_num, by omega, hb5⟩, by simp [intOf]; omega⟩
      · have hlt2 : ¬ ((k : Int) < l.length) := by omega
        replace hb1 := Lib.hid (hb1.out.andThen hbl.out)
        clear hbl hat hall
        go_wp2_with fail
        refine (haw.out wr hb1.out).mono ?_
        rintro e w4 ⟨rfl, hb4⟩
        replace hb1 := Lib.hid (hb1.out.andThen hb4)
        clear hb4
        go_wp2_with fail
        go_ret
        exact ⟨rfl, hb1.out⟩
end Go.Proofs.YtkjjjbipmobdaaaGreatDoor
