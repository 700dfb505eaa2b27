/- Layer 15's laws AtomReads, AtomTexts. -/
import Derived.Test.YtkjjjbipmobdaaaGreatDoorD15m
import Derived.Test.YtkjjjbipmobdaaaGreatDoorD15e
namespace Go.Proofs.YtkjjjbipmobdaaaGreatDoor
open Go.RowKit

theorem itsA_codes {l : List Nd} {R : List UInt8 → Int × Bool} {many most q : Int} (h : itsA l R many most = .bad q) : q = 5 ∨ q = 6 ∨ q = 7 := by
  unfold itsA readB at h
  split at h
  · injection h with h; exact Or.inl h.symm
  · split at h
    · injection h with h; exact Or.inr (Or.inl h.symm)
    · exact Or.inr (gatherB_codes _ _ _ _ h)

set_option maxRecDepth 100000 in
set_option maxHeartbeats 4000000 in
/-- The law AtomReads. -/
theorem reads15_law (P : List (Nd × Value)) (v : Value) (many most : Int) (w : World) (h : NdSl w v P) (hsum : sumT (nodes P) ≤ 1048576) (hK : ∀ x ∈ nodes P, AtOk x.attrs) (hL : Laid15 w) :
    Calls Tryz.prog 3 #[v, .int .i64 many, .int .i64 most] w (LawPost w) := by
  obtain ⟨va, vc, rfl⟩ := h.form
  by_cases hlen : 60 < P.length
  · have hl1 : (60 : Int) < P.length := by omega
    have ha := awake15_any w hL
    clear h hL hsum
    replace ha := Lib.hid ha
    go_enter Tryz.func3, Tryz.ntmps3
    go_wp2_with fail
    refine ha.out.mono ?_
    rintro e w1 ⟨rfl, b1⟩
    go_wp2_with fail
    go_ret
    exact ⟨rfl, b1⟩
  have hl1 : ¬ ((60 : Int) < P.length) := by omega
  have hPl : P.length ≤ 1000000 := by omega
  have hS : sumT (nodes P) ≤ 2000000 := by omega
  clear hsum
  obtain ⟨o, ho⟩ : ∃ o, itsA (nodes P) r3339C many most = o := ⟨_, rfl⟩
  have hA := items15_any P _ many most _ h hPl hS hK hL.ty
  have hB := fun W (hb : Below w.heap.size w W) => refitems15_any P _ many most W (h.next hb) hPl hS hK
  simp only [← itsA_alike] at hB
  rw [ho] at hA
  simp only [ho] at hB
  have haw := fun W (hb : Below w.heap.size w W) => awake15_any W (hL.below hb)
  replace haw := Lib.hid haw
  replace hA := Lib.hid hA
  replace hB := Lib.hid hB
  have hlk := fun W (k : Int) (hb : Below w.heap.size w W) => link15_any P _ k W (h.next hb) hPl hK
  have hrk := fun W (k : Int) (hb : Below w.heap.size w W) => reflink15_any P _ k W (h.next hb) hPl hK
  have hss : ∀ x : List UInt8, (x != x) = false := fun x => by simp
  replace hlk := Lib.hid hlk
  replace hrk := Lib.hid hrk
  clear h hL hS hK
  cases o with
  | bad q =>
    have hq := itsA_codes ho
    have hq1 : 1 ≤ q := by omega
    have hq2 : q ≤ 15 := by omega
    have hqq : (q == q) = true := beq_self_eq_true q
    clear ho hq
    go_enter Tryz.func3, Tryz.ntmps3
    go_wp2_with fail
    refine hA.out.mono ?_
    rintro e w2 hh
    obtain ⟨f, rfl, hf, hb2⟩ := hh.no
    clear hh hA
    have hB2 := Lib.hid (hB.out w2 hb2)
    replace hf := Lib.hid hf
    replace hb2 := Lib.hid hb2
    clear hB
    go_wp2_with fail
    refine hB2.out.mono ?_
    rintro e w3 hh
    obtain ⟨rfl, hb3⟩ := hh.no
    clear hh hB2
    replace hf := Lib.hid (hf.out.below hb3)
    replace hb2 := Lib.hid (hb2.out.andThen hb3)
    clear hb3
    go_wp2_with fail
    go_loopw [11] (fun ii wr => ∃ k : Nat, ii = .int .i64 k ∧ k ≤ P.length ∧ Hid (Below w3.heap.size w3 wr)) (fun ii _ => P.length - (intOf ii).toNat)
    case atStart => exact ⟨0, rfl, Nat.zero_le _, Below.refl _ _⟩
    case round =>
      obtain ⟨k, rfl, hk, hbl⟩ := hrel
      by_cases hlt : k < P.length
      · have hlt1 : (k : Int) < P.length := by omega
        have hkm : (k : Int) + 1 ≤ 9223372036854775807 := by omega
        have q1 := hlk.out wr k (hb2.out.andThen hbl.out)
        have q2 := fun W (hb : Below wr.heap.size wr W) => hrk.out W k ((hb2.out.andThen hbl.out).andThen hb)
        generalize linkB (nodes P) (k : Int) = ok at q1 q2
        unfold FldPost at q1 q2
        generalize ok.getD [] = s at q1 q2
        generalize ok.isSome = b at q1 q2
        have hsx := hss s
        replace q1 := Lib.hid q1
        replace q2 := Lib.hid q2
        go_wp2_with fail
        refine q1.out.mono ?_
        rintro e w4 ⟨rfl, hb4⟩
        have q3 := Lib.hid (q2.out w4 hb4)
        replace hb4 := Lib.hid hb4
        clear q1 q2
        go_wp2_with fail
        refine q3.out.mono ?_
        rintro e w5 ⟨rfl, hb5⟩
        have hb6 := Lib.hid (hbl.out.andThen (hb4.out.andThen hb5))
        clear q3 hb4 hb5 hbl
        cases b <;>
        · go_wp2_with fail
          exact ⟨⟨k + 1, by go_num, by omega, hb6⟩, by simp [intOf]; omega⟩
      · have hlt2 : ¬ ((k : Int) < P.length) := by omega
        replace hb2 := Lib.hid (hb2.out.andThen hbl.out)
        replace hf := Lib.hid (hf.out.below hbl.out)
        clear hbl hlk hrk
        go_wp2_with fail
        refine (haw.out wr hb2.out).mono ?_
        rintro e w4 ⟨rfl, hb4⟩
        replace hf := Lib.hid (hf.out.below hb4)
        replace hb2 := Lib.hid (hb2.out.andThen hb4)
        clear hb4 haw
        go_wp2_with fail
        refine (same14_any [] _ _ 0 0 w4 (World.ownsRow_nil _ _ _ _) (World.ownsRow_nil _ _ _ _) (by decide)).mono ?_
        rintro e w5 ⟨rfl, hd5⟩
        have hc := Lib.hid (code15_fault f q w5 (hf.out.below (hd5.below _)) hq1 hq2)
        replace hb2 := Lib.hid (hb2.out.andThen (hd5.below _))
        clear hd5 hf
        go_wp2_with fail
        refine hc.out.mono ?_
        rintro e w6 ⟨rfl, rfl⟩
        go_wp2_with fail
        go_ret
        exact ⟨rfl, hb2.out⟩
  | its l =>
    have hl := (itsA_its ho).2.1
    rw [nodes_len] at hl
    clear ho
    go_enter Tryz.func3, Tryz.ntmps3
    go_wp2_with fail
    refine hA.out.mono ?_
    rintro e w2 hh
    obtain ⟨u1, rfl, hu1, hb2⟩ := hh.good
    clear hh hA
    obtain ⟨ua, uc, rfl⟩ := own_form hu1
    have hB2 := Lib.hid (hB.out w2 hb2)
    replace hu1 := Lib.hid hu1
    replace hb2 := Lib.hid hb2
    clear hB
    go_wp2_with fail
    refine hB2.out.mono ?_
    rintro e w3 hh
    obtain ⟨u2, rfl, hu2, hb3⟩ := hh.good
    clear hh hB2
    obtain ⟨ub, ud, rfl⟩ := own_form hu2
    replace hu1 := Lib.hid (ownsRow_below hu1.out hb3)
    replace hb2 := Lib.hid (hb2.out.andThen hb3)
    replace hu2 := Lib.hid hu2
    clear hb3
    go_wp2_with fail
    go_loopw [11] (fun ii wr => ∃ k : Nat, ii = .int .i64 k ∧ k ≤ P.length ∧ Hid (Below w3.heap.size w3 wr)) (fun ii _ => P.length - (intOf ii).toNat)
    case atStart => exact ⟨0, rfl, Nat.zero_le _, Below.refl _ _⟩
    case round =>
      obtain ⟨k, rfl, hk, hbl⟩ := hrel
      by_cases hlt : k < P.length
      · have hlt1 : (k : Int) < P.length := by omega
        have hkm : (k : Int) + 1 ≤ 9223372036854775807 := by omega
        have q1 := hlk.out wr k (hb2.out.andThen hbl.out)
        have q2 := fun W (hb : Below wr.heap.size wr W) => hrk.out W k ((hb2.out.andThen hbl.out).andThen hb)
        generalize linkB (nodes P) (k : Int) = ok at q1 q2
        unfold FldPost at q1 q2
        generalize ok.getD [] = s at q1 q2
        generalize ok.isSome = b at q1 q2
        have hsx := hss s
        replace q1 := Lib.hid q1
        replace q2 := Lib.hid q2
        go_wp2_with fail
        refine q1.out.mono ?_
        rintro e w4 ⟨rfl, hb4⟩
        have q3 := Lib.hid (q2.out w4 hb4)
        replace hb4 := Lib.hid hb4
        clear q1 q2
        go_wp2_with fail
        refine q3.out.mono ?_
        rintro e w5 ⟨rfl, hb5⟩
        have hb6 := Lib.hid (hbl.out.andThen (hb4.out.andThen hb5))
        clear q3 hb4 hb5 hbl
        cases b <;>
        · go_wp2_with fail
          exact ⟨⟨k + 1, by go_num, by omega, hb6⟩, by simp [intOf]; omega⟩
      · have hlt2 : ¬ ((k : Int) < P.length) := by omega
        replace hb2 := Lib.hid (hb2.out.andThen hbl.out)
        replace hu1 := Lib.hid (ownsRow_below hu1.out hbl.out)
        replace hu2 := Lib.hid (ownsRow_below hu2.out hbl.out)
        clear hbl hlk hrk
        go_wp2_with fail
        refine (haw.out wr hb2.out).mono ?_
        rintro e w4 ⟨rfl, hb4⟩
        have hs := same14_any l _ _ _ _ w4 (ownsRow_below hu1.out hb4) (ownsRow_below hu2.out hb4) (by omega)
        replace hs := Lib.hid hs
        replace hb2 := Lib.hid (hb2.out.andThen hb4)
        clear hb4 haw hu1 hu2
        go_wp2_with fail
        refine hs.out.mono ?_
        rintro e w5 ⟨rfl, hd5⟩
        replace hb2 := Lib.hid (hb2.out.andThen (hd5.below _))
        clear hd5 hs
        go_wp2_with fail
        refine (code15_nil _).mono ?_
        rintro e w6 ⟨rfl, rfl⟩
        go_wp2_with fail
        go_ret
        exact ⟨rfl, hb2.out⟩
set_option maxRecDepth 100000 in
set_option maxHeartbeats 4000000 in
/-- The law AtomTexts. -/
theorem texts15_law (s : List UInt8) (many most : Int) (w : World) (hL : Laid15 w) :
    Calls Tryz.prog 4 #[.string ⟨s.toArray⟩, .int .i64 many, .int .i64 most] w (LawPost w) := by
  by_cases hlen : 2000 < s.length
  · have hl1 : (2000 : Int) < s.length := by omega
    have ha := awake15_any w hL
    clear hL
    replace ha := Lib.hid ha
    go_enter Tryz.func4, Tryz.ntmps4
    go_wp2_with fail
    refine ha.out.mono ?_
    rintro e w1 ⟨rfl, b1⟩
    go_wp2_with fail
    go_ret
    exact ⟨rfl, b1⟩
  have hl1 : ¬ ((2000 : Int) < s.length) := by omega
  have hn := nodes15_any s w (by omega)
  have hdl := docN_len 30 s
  have hds := docN_sum 30 s
  have hK : ∀ x ∈ docN 30 s, AtOk x.attrs := (docN_ok (by omega)).2.2
  generalize docN 30 s = d at hn hdl hds hK
  replace hK := Lib.hid hK
  replace hn := Lib.hid hn
  replace hL := Lib.hid hL

  go_enter Tryz.func4, Tryz.ntmps4
  go_wp2_with fail
  refine hn.out.mono ?_
  rintro e w1 ⟨v1, P, rfl, h, rfl, hb1⟩
  clear hn
  obtain ⟨va, vc, rfl⟩ := h.form
  rw [nodes_len] at hdl
  have hPl : P.length ≤ 1000000 := by omega
  have hS : sumT (nodes P) ≤ 2000000 := by omega
  replace hK := hK.out
  have hL1 := hL.out.below hb1
  clear hL
  have hL := hL1
  clear hL1
  replace hb1 := Lib.hid hb1
  obtain ⟨o, ho⟩ : ∃ o, itsA (nodes P) r3339C many most = o := ⟨_, rfl⟩
  have hA := items15_any P _ many most _ h hPl hS hK hL.ty
  have hB := fun W (hb : Below w1.heap.size w1 W) => refitems15_any P _ many most W (h.next hb) hPl hS hK
  simp only [← itsA_alike] at hB
  rw [ho] at hA
  simp only [ho] at hB
  have haw := fun W (hb : Below w1.heap.size w1 W) => awake15_any W (hL.below hb)
  replace haw := Lib.hid haw
  replace hA := Lib.hid hA
  replace hB := Lib.hid hB
  clear h hL hS hK
  cases o with
  | bad q =>
    have hq := itsA_codes ho
    have hq1 : 1 ≤ q := by omega
    have hq2 : q ≤ 15 := by omega
    have hqq : (q == q) = true := beq_self_eq_true q
    clear ho hq
    go_wp2_with fail
    refine hA.out.mono ?_
    rintro e w2 hh
    obtain ⟨f, rfl, hf, hb2⟩ := hh.no
    clear hh hA
    have hB2 := Lib.hid (hB.out w2 hb2)
    replace hf := Lib.hid hf
    replace hb2 := Lib.hid hb2
    clear hB
    go_wp2_with fail
    refine hB2.out.mono ?_
    rintro e w3 hh
    obtain ⟨rfl, hb3⟩ := hh.no
    clear hh hB2
    replace hf := Lib.hid (hf.out.below hb3)
    replace hb2 := Lib.hid (hb2.out.andThen hb3)
    clear hb3
    go_wp2_with fail
    refine (haw.out w3 hb2.out).mono ?_
    rintro e w4 ⟨rfl, hb4⟩
    replace hf := Lib.hid (hf.out.below hb4)
    replace hb2 := Lib.hid (hb2.out.andThen hb4)
    clear hb4 haw
    go_wp2_with fail
    refine (same14_any [] _ _ 0 0 w4 (World.ownsRow_nil _ _ _ _) (World.ownsRow_nil _ _ _ _) (by decide)).mono ?_
    rintro e w5 ⟨rfl, hd5⟩
    have hc := Lib.hid (code15_fault f q w5 (hf.out.below (hd5.below _)) hq1 hq2)
    replace hb2 := Lib.hid (hb2.out.andThen (hd5.below _))
    clear hd5 hf
    go_wp2_with fail
    refine hc.out.mono ?_
    rintro e w6 ⟨rfl, rfl⟩
    go_wp2_with fail
    go_ret
    exact ⟨rfl, hb1.out.andThen hb2.out⟩
  | its l =>
    have hl := (itsA_its ho).2.1
    rw [nodes_len] at hl
    clear ho
    go_wp2_with fail
    refine hA.out.mono ?_
    rintro e w2 hh
    obtain ⟨u1, rfl, hu1, hb2⟩ := hh.good
    clear hh hA
    obtain ⟨ua, uc, rfl⟩ := own_form hu1
    have hB2 := Lib.hid (hB.out w2 hb2)
    replace hu1 := Lib.hid hu1
    replace hb2 := Lib.hid hb2
    clear hB
    go_wp2_with fail
    refine hB2.out.mono ?_
    rintro e w3 hh
    obtain ⟨u2, rfl, hu2, hb3⟩ := hh.good
    clear hh hB2
    obtain ⟨ub, ud, rfl⟩ := own_form hu2
    replace hu1 := Lib.hid (ownsRow_below hu1.out hb3)
    replace hb2 := Lib.hid (hb2.out.andThen hb3)
    replace hu2 := Lib.hid hu2
    clear hb3
    go_wp2_with fail
    refine (haw.out w3 hb2.out).mono ?_
    rintro e w4 ⟨rfl, hb4⟩
    have hs := same14_any l _ _ _ _ w4 (ownsRow_below hu1.out hb4) (ownsRow_below hu2.out hb4) (by omega)
    replace hs := Lib.hid hs
    replace hb2 := Lib.hid (hb2.out.andThen hb4)
    clear hb4 haw hu1 hu2
    go_wp2_with fail
    refine hs.out.mono ?_
    rintro e w5 ⟨rfl, hd5⟩
    replace hb2 := Lib.hid (hb2.out.andThen (hd5.below _))
    clear hd5 hs
    go_wp2_with fail
    refine (code15_nil _).mono ?_
    rintro e w6 ⟨rfl, rfl⟩
    go_wp2_with fail
    go_ret
    exact ⟨rfl, hb1.out.andThen hb2.out⟩
end Go.Proofs.YtkjjjbipmobdaaaGreatDoor
