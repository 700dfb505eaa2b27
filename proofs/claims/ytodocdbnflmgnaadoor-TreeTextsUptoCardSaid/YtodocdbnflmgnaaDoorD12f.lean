/- Layer 12: the text of a node. -/
import Derived.Test.YtodocdbnflmgnaaDoorD12e
import Derived.Test.YtodocdbnflmgnaaDoorTx
namespace Go.Proofs.YtodocdbnflmgnaaDoor
open Go.RowKit

/-- What the loop of Text keeps. -/
structure TxtAt (P : List (Nd × Value)) (i : Int) (w1 : World) (k : Nat) (T : List UInt8) (u : Value) (wr : World) : Prop where
  own : Txt wr w1.heap.size u T
  text : T = textTo (nodes P) i k
  below : Below w1.heap.size w1 wr

set_option maxRecDepth 100000 in
set_option maxHeartbeats 2000000 in
theorem text12_any (P : List (Nd × Value)) (v : Value) (i : Int) (w : World) (h : NdSl w v P) (hn : P.length ≤ 1000000) (hT : sumT (nodes P) ≤ 1000000000) :
    Calls Tryd.prog 17 #[v, .int .i64 i] w (StrPost (textB (nodes P) i) w) := by
  have hplb := place_nodes (P := P) (i := i)
  cases hpl : placeB (nodes P) i
  · have hk : textB (nodes P) i = [] := by unfold textB; rw [if_neg (by rw [hpl]; decide)]
    obtain ⟨a, c, rfl⟩ := h.form
    have hp := fun W : World => place12_any a P.length c i W
    rw [← hplb, hpl] at hp
    clear h hplb hpl hT
    replace hp := Lib.hid hp
    go_enter Tryd.func17, Tryd.ntmps17
    go_wp2_with fail
    refine (hp.out _).mono ?_; rintro e w1 ⟨rfl, rfl⟩
    go_wp2_with fail
    go_ret
    exact StrPost.mk (t := []) hk (Below.refl _ _)
  have hk : textB (nodes P) i = textTo (nodes P) i P.length := by unfold textB; rw [if_pos hpl, nodes_len]
  have hwi := within12_any P v i w h hn hpl
  have hpos : 0 < P.length := by have := place_iff.1 hpl; rw [nodes_len] at this; omega
  obtain ⟨b, off, cap, hcap, hbl, rfl, hcl⟩ := h.some hpos
  have hp := fun W : World => place12_any (some ⟨b, off, none⟩) P.length cap i W
  rw [← hplb, hpl] at hp
  have htl := fun k => textTo_len (nodes P) i k
  rw [nodes_len] at htl
  generalize sumT (nodes P) = S at hT htl
  clear h hplb hpl
  replace hp := Lib.hid hp
  replace hk := Lib.hid hk
  replace hwi := Lib.hid hwi
  replace htl := Lib.hid htl
  replace hcl := Lib.hid hcl
  replace hpos := Lib.hid hpos
  go_enter Tryd.func17, Tryd.ntmps17
  go_wp2_with fail
  refine (hp.out _).mono ?_; rintro e w0 ⟨rfl, rfl⟩
  go_wp2_with fail
  refine hwi.out.mono ?_; rintro e w1 ⟨rfl, hin, hb1⟩
  have hgl := hin.lt
  have hs1 := hb1.size
  clear hwi
  replace hin := Lib.hid hin
  replace hb1 := Lib.hid hb1
  go_wp2_with fail
  go_loopw [5, 16] (fun u ii wr => ∃ (k m : Nat) (T : List UInt8) (a' : Option Addr) (c' : Nat), ii = .int .i64 k ∧ u = .slice a' m c' ∧ k ≤ P.length ∧ m ≤ S ∧ Hid (m = T.length) ∧ Hid (TxtAt P i w1 k T u wr)) (fun _ ii _ => P.length - (intOf ii).toNat)
  case atStart => exact ⟨0, 0, [], none, 0, rfl, rfl, Nat.zero_le _, Nat.zero_le _, rfl, ⟨txt_nil _ _, rfl, Below.refl _ _⟩⟩
  case round =>
    obtain ⟨k, m, T, a', c', rfl, rfl, hkl, hmS, hm, hc⟩ := hrel
    by_cases hlt : k < P.length
    · have hsz := hc.out.below.size
      obtain ⟨d0, d1, d2, d3⟩ := ((hcl.out k hlt).next hb1.out).next hc.out.below
      rw [nodes_at hlt] at d0 d2
      clear d1 d3
      have hi0 : wr.cell? ⟨w.heap.size, k, none⟩ = some (.bool (winB (nodes P) i (k : Int))) := by
        rw [(hin.out.next hc.out.below).cell]
        simp [hlt]
      have hnx := textTo_next (nodes P) i k
      rw [← hc.out.text] at hnx
      have hlt1 : (k : Int) < P.length := by omega
      have hno := bitB_no (l := nodes P) (i := i) (j := k)
      have hyes := bitB_yes (l := nodes P) (i := i) (j := k)
      have htl2 := htl.out (k + 1) (by omega)
      have hbw : b < wr.heap.size := by omega
      have hgw : w.heap.size < wr.heap.size := by omega
      generalize atN (nodes P) (k : Int) = x at d0 d2 hno hyes
      obtain ⟨xn, xa, xt, xu⟩ := x
      unfold strV at d0 d2
      simp only at d0 d2 hno hyes
      cases hwk : winB (nodes P) i (k : Int)
      · rw [hwk] at hi0
        rw [hno (fun e => by rw [hwk] at e; cases e.2), List.append_nil] at hnx
        clear hno hyes
        replace hnx := Lib.hid hnx
        replace hwk := Lib.hid hwk
        go_wp2_with fail
        exact ⟨⟨k + 1, m, T, a', c', by go_num, rfl, by omega, hmS, hm, ⟨hc.out.own, hnx.out.symm, hc.out.below⟩⟩, by simp [intOf]; omega⟩
      · rw [hwk] at hi0
        cases hem : xn.isEmpty
        · have hne : ¬ xn = [] := by simpa using hem
          rw [hno (fun e => hne e.1), List.append_nil] at hnx
          clear hno hyes
          replace hne := Lib.hid hne
          replace hnx := Lib.hid hnx
          replace hwk := Lib.hid hwk
          go_wp2_with fail
          exact ⟨⟨k + 1, m, T, a', c', by go_num, rfl, by omega, hmS, hm, ⟨hc.out.own, hnx.out.symm, hc.out.below⟩⟩, by simp [intOf]; omega⟩
        · have hne : xn = [] := by simpa using hem
          rw [hyes hne hwk] at hnx
          rw [hnx, List.length_append] at htl2
          clear hno hyes
          replace hne := Lib.hid hne
          replace hnx := Lib.hid hnx
          replace hwk := Lib.hid hwk
          go_wp2_with (at_builtin; go_must (refine wpList_append1s rfl _ _ 61 9 5 rfl Tryd.underlying61 Tryd.underlying9 info_u8 w1.heap.size _ T xt hc.out.own rfl rfl (by omega) (by omega) ?_))
          intro v2 w2 ho2 hb2
          replace ho2 : Txt w2 w1.heap.size v2 (T ++ xt) := by unfold Txt; rw [List.length_append]; exact ho2
          obtain ⟨T2, hT2⟩ : ∃ T2, T ++ xt = T2 := ⟨_, rfl⟩
          rw [hT2] at ho2 hnx
          have hl2 : T2.length ≤ S := by rw [← hT2, List.length_append]; exact htl2
          obtain ⟨a2, c2, rfl⟩ := own_form ho2
          replace ho2 := Lib.hid ho2
          have hb12 := Lib.hid (hc.out.below.trans hb2)
          clear hb2 htl2
          replace hT2 := Lib.hid hT2
          go_wp2_with fail
          exact ⟨⟨k + 1, T2.length, T2, a2, c2, by go_num, rfl, by omega, hl2, rfl, ⟨ho2.out, hnx.out.symm, hb12.out⟩⟩, by simp [intOf]; omega⟩
    · have hke : ¬ ((k : Int) < P.length) := by omega
      have hkk := Lib.hid (show k = P.length by omega)
      have hcv := txt_str hc.out.own
      go_wp2_with fail
      go_ret
      exact StrPost.mk (hk.out.trans (by rw [hc.out.text, hkk.out])) (hb1.out.andThen hc.out.below)
end Go.Proofs.YtodocdbnflmgnaaDoor
