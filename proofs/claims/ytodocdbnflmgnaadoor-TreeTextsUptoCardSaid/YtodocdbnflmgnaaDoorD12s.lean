/- Layer 12's laws: TreeTexts. -/
import Derived.Test.YtodocdbnflmgnaaDoorD12o
import Derived.Deep.RegionHeld3
namespace Go.Proofs.YtodocdbnflmgnaaDoor
open Go.RowKit

/-- What the law's last region keeps. -/
structure Fin12 (w : World) (A : Addr) (v : Value) (P : List (Nd × Value)) (b o : Nat) (xt : List UInt8) (W : World) : Prop where
  nds : NdSl W v P
  laid : Laid12 W A
  below : Below w.heap.size w W
  cell : W.cell? ⟨b, o, none⟩ = some (.string ⟨xt.toArray⟩)
section
variable {w W W' : World} {A : Addr} {v : Value} {P : List (Nd × Value)} {b o : Nat} {xt : List UInt8}
theorem Fin12.next (h : Fin12 w A v P b o xt W) (hb : Below W.heap.size W W') : Fin12 w A v P b o xt W' :=
  ⟨h.nds.next hb, h.laid.below hb, h.below.andThen hb, (hb.cell (p := ⟨b, o, none⟩) (World.block_lt_of_cell? W ⟨b, o, none⟩ h.cell)).trans h.cell⟩
theorem fin12_drew (h : Hid (Fin12 w A v P b o xt W)) : Hid (Fin12 w A v P b o xt W.drew) := Lib.hid (h.out.next ((drawn_drew W).below _))
theorem fin12_cell (h : Hid (Fin12 w A v P b o xt W)) : W.cell? ⟨b, o, none⟩ = some (.string ⟨xt.toArray⟩) := h.out.cell
theorem fin12_awake (h : Hid (Fin12 w A v P b o xt W)) : Calls Tryd.prog 7 #[] W fun e w' => e = .returned (.bool true) ∧ Hid (Fin12 w A v P b o xt w') :=
  (awake12_any A W h.out.laid).mono fun _ _ hh => ⟨hh.1, Lib.hid (h.out.next hh.2)⟩
theorem fin12_text (h : Hid (Fin12 w A v P b o xt W)) (i : Int) (hn : P.length ≤ 1000000) (hT : sumT (nodes P) ≤ 1000000000) (he : textB (nodes P) i = xt) : Calls Tryd.prog 17 #[v, .int .i64 i] W fun e w' => e = .returned (.string ⟨xt.toArray⟩) ∧ Hid (Fin12 w A v P b o xt w') :=
  (text12_any P v i W h.out.nds hn hT).mono fun _ _ hh => ⟨by rw [hh.1, he], Lib.hid (h.out.next hh.2)⟩
theorem fin12_kids (h : Hid (Fin12 w A v P b o xt W)) (i : Int) (hn : P.length ≤ 1000000) (he : kidsB (nodes P) i = []) : Calls Tryd.prog 13 #[v, .int .i64 i] W fun e w' => ∃ a c, e = .returned (.slice a 0 c) ∧ Hid (Fin12 w A v P b o xt w') :=
  (kids12_any P v i W h.out.nds hn).mono fun _ _ hh => by
    obtain ⟨u, rfl, hu, hb⟩ := hh
    rw [he] at hu
    obtain ⟨a, c, rfl⟩ := own_form hu
    exact ⟨a, c, rfl, Lib.hid (h.out.next hb)⟩
end
theorem flat_take (f : Int → List UInt8) (xs : List Int) (j : Nat) (h : j < xs.length) : (xs.take (j + 1)).flatMap f = (xs.take j).flatMap f ++ f (xs.getD j 0) := by
  rw [List.take_add_one, List.getElem?_eq_getElem h, Option.toList_some, List.flatMap_append]
  simp [List.getD, List.getElem?_eq_getElem h]
theorem flat_take_len (f : Int → List UInt8) (xs : List Int) (j : Nat) : ((xs.take j).flatMap f).length ≤ (xs.flatMap f).length := by
  have h : xs.flatMap f = (xs.take j).flatMap f ++ (xs.drop j).flatMap f := by rw [← List.flatMap_append, List.take_append_drop]
  rw [h, List.length_append]; omega

set_option maxRecDepth 100000 in
set_option maxHeartbeats 4000000 in
/-- The law TreeTexts. -/
theorem texts12_law (PT : List (Tk × Value)) (v : Value) (x : Int) (A : Addr) (w : World) (h : TkSl w v PT) (hx : ∀ p ∈ PT, p.1.attrs.length * 32 ≤ 140737488355328) (hsum : sumK (PT.map Prod.fst) ≤ 1048576) (x0 : 0 ≤ x) (x1 : x ≤ 255) (hL : Laid12 w A) :
    Calls Tryd.prog 6 #[v, .int .u8 x] w (LawPost w) := by
  obtain ⟨va, vc, rfl⟩ := h.form
  by_cases hlen : 100 < PT.length
  · have hl1 : (100 : Int) < PT.length := by omega
    have ha := awake12_any A w hL
    clear h hx hL
    replace ha := Lib.hid ha
    go_enter Tryd.func6, Tryd.ntmps6
    go_wp2_with fail
    refine ha.out.mono ?_; rintro e w1 ⟨rfl, b1⟩
    go_wp2_with fail
    go_ret
    exact ⟨rfl, b1⟩
  have hl1 : ¬ ((100 : Int) < PT.length) := by omega
  have c1 := build12_any PT _ A w h hL (by omega) hx
  clear hx h
  cases hb : buildB (PT.map Prod.fst) with
  | none =>
    rw [hb] at c1
    replace c1 := Lib.hid c1
    replace hL := Lib.hid hL
    replace hb := Lib.hid hb
    go_enter Tryd.func6, Tryd.ntmps6
    go_wp2_with fail
    refine c1.out.mono ?_; rintro e w1 ⟨f, q, rfl, hfa, b1⟩
    have hne := neq_fault f
    have hL1 := hL.out.below b1
    clear c1 hfa
    replace b1 := Lib.hid b1
    unfold faultV
    go_wp2_with fail
    refine (awake12_any A w1 hL1).mono ?_; rintro e w3 ⟨rfl, b3⟩
    go_wp2_with fail
    go_ret
    exact ⟨rfl, b1.out.andThen b3⟩
  | some nds =>
    rw [hb] at c1
    obtain ⟨htree, hnn, hcnt, hsumT, _⟩ := buildB_tree hb
    have h2 : cntB (PT.map Prod.fst) ≤ (PT.map Prod.fst).length := List.countP_le_length
    rw [List.length_map] at h2
    have hpl : nds.length ≤ 100 := by omega
    have hpos : 0 < nds.length := List.length_pos_iff.2 hnn
    have hsumN : sumT nds ≤ 1048576 := by omega
    clear hb h2 hnn hcnt hsumT hsum
    replace c1 := Lib.hid c1
    replace hL := Lib.hid hL
    replace htree := Lib.hid htree
    replace hsumN := Lib.hid hsumN
    go_enter Tryd.func6, Tryd.ntmps6
    go_wp2_with fail
    refine c1.out.mono ?_; rintro e w1 ⟨v1, P, rfl, s1, rfl, b1⟩
    rw [nodes_len] at hpl hpos
    obtain ⟨b2, off2, cap2, hcap2, hbl2, rfl, hc2⟩ := s1.some hpos
    have hlen0 : ((P.length : Int) == 0) = false := by rw [beq_eq_false_iff_ne]; omega
    obtain ⟨xn, rfl⟩ : ∃ xn : Nat, x = xn := ⟨x.toNat, by omega⟩
    obtain ⟨q, hq⟩ : ∃ q, xn % P.length = q := ⟨_, rfl⟩
    have hqP : q < P.length := by rw [← hq]; exact Nat.mod_lt _ hpos
    have htm : (xn : Int).tmod (P.length : Int) = (q : Int) := by rw [Int.tmod_eq_emod_of_nonneg (by omega), ← hq, Int.natCast_emod]
    have hem : (xn : Int) % (P.length : Int) = (q : Int) := by rw [← hq, Int.natCast_emod]
    have hPne : ¬ ((P.length : Int) = 0) := by omega
    obtain ⟨t0, _, t2, _⟩ := hc2 q hqP
    rw [nodes_at hqP] at t0 t2
    have hs1 := b1.size
    clear c1 hc2
    replace b1 := Lib.hid b1
    replace s1 := Lib.hid s1
    replace hq := Lib.hid hq
    unfold strV at t0 t2
    have hqP1 : (q : Int) < P.length := by omega
    by_cases hnm : (atN (nodes P) (q : Int)).name = []
    · obtain ⟨hk, ht⟩ := htree.out.text (i := q) (by rw [nodes_len]; exact hqP) hnm
      have he1 := (empty_iff _).1.2 hnm
      have hPl : P.length ≤ 1000000 := by omega
      have hfin : Hid (Fin12 w A (.slice (some ⟨b2, off2, none⟩) P.length cap2) P b2 (off2 + q * 4 + 2) (atN (nodes P) (q : Int)).text w1) := Lib.hid ⟨s1.out, hL.out.below b1.out, b1.out, t2⟩
      generalize (atN (nodes P) (q : Int)).name = xm at t0 he1 hnm
      generalize (atN (nodes P) (q : Int)).text = xt at t2 ht hfin
      have hsum9 : sumT (nodes P) ≤ 1000000000 := Nat.le_trans hsumN.out (by decide)
      replace hk := Lib.hid hk
      replace ht := Lib.hid ht
      replace hnm := Lib.hid hnm
      replace hsum9 := Lib.hid hsum9
      go_wp2_with fail
      have hfd := fin12_drew hfin
      go_region_held3 (fun W => W.cell? ⟨b2, off2 + q * 4 + 2, none⟩ = some (.string ⟨xt.toArray⟩)) (first | exact fin12_cell (by assumption) | exact fin12_cell (fin12_drew (by assumption)))
        (first
          | (go_at_call 7; ((with_reducible refine (fin12_awake (by assumption)).mono ?_); rintro e w' ⟨rfl, hf1⟩))
          | (go_at_call 17; ((with_reducible refine (fin12_text (by assumption) (q : Int) hPl hsum9.out ht.out).mono ?_); rintro e w' ⟨rfl, hf2⟩))
          | (go_at_call 13; ((with_reducible refine (fin12_kids (by assumption) (q : Int) hPl hk.out).mono ?_); rintro e w' ⟨ka, kc, rfl, hf3⟩)))
      all_goals
        go_wp2_with fail
        go_ret
        exact ⟨rfl, (Hid.out (by assumption : Hid (Fin12 _ _ _ _ _ _ _ _))).below⟩
    · have ht := htree.out.kids (i := q) (by rw [nodes_len]; exact hqP) hnm
      have he1 := (empty_iff _).2.2 hnm
      have hPl : P.length ≤ 1000000 := by omega
      have hsum9 : sumT (nodes P) ≤ 1000000000 := Nat.le_trans hsumN.out (by decide)
      have hk := kids12_any P _ (q : Int) w1 s1.out hPl
      have htl := textB_len (nodes P) (q : Int)
      rw [ht] at htl
      have htl2 : ((kidsB (nodes P) (q : Int)).flatMap (textB (nodes P))).length ≤ 1048576 := Nat.le_trans htl hsumN.out
      have hkl := kidsB_len (nodes P) (q : Int)
      rw [nodes_len] at hkl
      generalize kidsB (nodes P) (q : Int) = xs at hk ht htl2 hkl
      generalize (atN (nodes P) (q : Int)).name = xm at t0 he1 hnm
      clear htl t2
      replace hk := Lib.hid hk
      replace ht := Lib.hid ht
      replace hnm := Lib.hid hnm
      replace hsum9 := Lib.hid hsum9
      replace htl2 := Lib.hid htl2
      go_wp2_with fail
      refine hk.out.mono ?_; rintro e w2 ⟨u, rfl, hu, b2⟩
      have s2 := s1.out.next b2
      have bb2 := b1.out.andThen b2
      have hrd := hu.rd
      obtain ⟨ua, uc, rfl⟩ := own_form hu
      clear hk hu s1 b1 b2 t0
      replace s2 := Lib.hid s2
      replace bb2 := Lib.hid bb2
      replace hrd := Lib.hid hrd
      go_wp2_with fail
      go_loopw [8, 10] (fun ss ii wr => ∃ (j : Nat) (T : List UInt8), ss = .string ⟨T.toArray⟩ ∧ ii = .int .i64 j ∧ j ≤ xs.length ∧ T.length ≤ 1048576 ∧ Hid (T = (xs.take j).flatMap (textB (nodes P))) ∧ Hid (Below w2.heap.size w2 wr)) (fun _ ii _ => xs.length - (intOf ii).toNat)
      case atStart => exact ⟨0, [], rfl, rfl, Nat.zero_le _, Nat.zero_le _, rfl, Below.refl _ _⟩
      case round =>
        obtain ⟨j, T, rfl, rfl, hj, hTl, hTe, hb⟩ := hrel
        by_cases hjl : j < xs.length
        · have hjl1 : (j : Int) < xs.length := by omega
          have hne : xs ≠ [] := by intro e; rw [e] at hjl; simp at hjl
          obtain ⟨ub, uo, uc', ue, uh⟩ := (hrd.out.next hb.out).sl.some hne
          injection ue with ue ue2 ue3
          clear ue2
          subst ue ue3
          have g1 := uh j hjl
          have hfl := flat_take (textB (nodes P)) xs j hjl
          have hfn := flat_take_len (textB (nodes P)) xs (j + 1)
          rw [← hTe.out] at hfl
          rw [hfl, List.length_append] at hfn
          have hfn2 := Nat.le_trans hfn htl2.out
          have hcall := fun W (hW : NdSl W (.slice (some ⟨b2, off2, none⟩) P.length cap2) P) => text12_any P _ (xs.getD j 0) W hW hPl hsum9.out
          clear uh hne hfn
          generalize xs.getD j 0 = c at g1 hfl hfn2 hcall
          have htx : (textB (nodes P) c).length ≤ 1048576 := by omega
          generalize textB (nodes P) c = tx at hfl hfn2 hcall htx
          have hc3 := hcall wr (s2.out.next hb.out)
          clear hcall
          replace hc3 := Lib.hid hc3
          replace hfl := Lib.hid hfl
          have hfn3 := Lib.hid (show (T ++ tx).length ≤ 1048576 by rw [List.length_append]; exact hfn2)
          go_wp2_with fail
          refine hc3.out.mono ?_; rintro e w3 ⟨rfl, b3⟩
          have hb3 := hb.out.andThen b3
          clear hc3 b3
          replace hb3 := Lib.hid hb3
          go_wp2_with fail
          all_goals try (exfalso; omega)
          exact ⟨⟨j + 1, T ++ tx, rfl, by go_num, by omega, hfn3.out, Lib.hid hfl.out.symm, hb3⟩, by simp [intOf]; omega⟩
        · have hjl2 : ¬ ((j : Int) < xs.length) := by omega
          have hTt : T = textB (nodes P) (q : Int) := by rw [hTe.out, ht.out, List.take_of_length_le (by omega)]
          have s3 := s2.out.next hb.out
          have bb3 := bb2.out.andThen hb.out
          have hL3 := hL.out.below bb3
          clear hTe hb s2 bb2 hrd
          replace s3 := Lib.hid s3
          replace bb3 := Lib.hid bb3
          replace hTt := Lib.hid hTt
          go_wp2_with fail
          refine (awake12_any A _ hL3).mono ?_; rintro e w4 ⟨rfl, b4⟩
          have hc5 := text12_any P _ (q : Int) w4 (s3.out.next b4) hPl hsum9.out
          rw [← hTt.out] at hc5
          have bb4 := bb3.out.andThen b4
          clear b4 bb3 s3
          replace hc5 := Lib.hid hc5
          replace bb4 := Lib.hid bb4
          go_wp2_with fail
          refine hc5.out.mono ?_; rintro e w5 ⟨rfl, b5⟩
          go_wp2_with fail
          go_ret
          exact ⟨rfl, bb4.out.andThen b5⟩
end Go.Proofs.YtodocdbnflmgnaaDoor
