/- Layer 12's laws: TreeTells. -/
import Derived.Test.YtodocdbnflmgnaaDoorD12m
namespace Go.Proofs.YtodocdbnflmgnaaDoor
open Go.RowKit

set_option maxRecDepth 100000 in
set_option maxHeartbeats 4000000 in
/-- The law TreeTells. -/
theorem tells12_law (P : List (Nd × Value)) (v : Value) (i : Int) (nm : List UInt8) (A : Addr) (w : World) (h : NdSl w v P) (hsum : sumT (nodes P) ≤ 1048576) (hmx : ∀ p ∈ P, p.1.attrs.length ≤ 9223372036854775807) (hL : Laid12 w A) :
    Calls Tryd.prog 4 #[v, .int .i64 i, .string ⟨nm.toArray⟩] w (LawPost w) := by
  obtain ⟨va, vc, rfl⟩ := h.form
  by_cases hlen : 60 < P.length
  · have hl1 : (60 : Int) < P.length := by omega
    have ha := awake12_any A w hL
    clear h hmx hL hsum
    replace ha := Lib.hid ha
    go_enter Tryd.func4, Tryd.ntmps4
    go_wp2_with fail
    refine ha.out.mono ?_; rintro e w1 ⟨rfl, b1⟩
    go_wp2_with fail
    go_ret
    exact ⟨rfl, b1⟩
  have hl1 : ¬ ((60 : Int) < P.length) := by omega
  have hPl : P.length ≤ 1000000 := by omega
  have hsum9 : sumT (nodes P) ≤ 1000000000 := Nat.le_trans hsum (by decide)
  have hkl : (kidsB (nodes P) i).length ≤ 1000000 := by have := kidsB_len (nodes P) i; rw [nodes_len] at this; omega
  have hnl : (namedB (nodes P) i nm).length ≤ 1000000 := by
    rw [namedB_eq]
    exact Nat.le_trans (List.length_filter_le _ _) hkl
  have ha := awake12_any A w hL
  have c1 := fun W (hW : NdSl W (.slice va P.length vc) P) => kids12_any P _ i W hW hPl
  have c2 := fun W (hW : NdSl W (.slice va P.length vc) P) => refkids12_any P _ i W hW hPl
  have c3 := fun W (hW : NdSl W (.slice va P.length vc) P) => named12_any P _ i nm W hW hPl
  have c4 := fun W (hW : NdSl W (.slice va P.length vc) P) => refnamed12_any P _ i nm W hW hPl
  have c5 := fun W (hW : NdSl W (.slice va P.length vc) P) => text12_any P _ i W hW hPl hsum9
  have c6 := fun W (hW : NdSl W (.slice va P.length vc) P) => reftext12_any P _ i W hW hPl hsum9
  generalize kidsB (nodes P) i = ks at hkl c1 c2
  generalize namedB (nodes P) i nm = ns at hnl c3 c4
  generalize textB (nodes P) i = tx at c5 c6
  clear hL hsum hsum9
  replace h := Lib.hid h
  replace ha := Lib.hid ha
  replace c1 := Lib.hid c1
  replace c2 := Lib.hid c2
  replace c3 := Lib.hid c3
  replace c4 := Lib.hid c4
  replace c5 := Lib.hid c5
  replace c6 := Lib.hid c6
  replace hmx := Lib.hid hmx
  go_enter Tryd.func4, Tryd.ntmps4
  go_wp2_with fail
  refine ha.out.mono ?_; rintro e w1 ⟨rfl, b1⟩
  have h1 := h.out.next b1
  clear ha h
  replace b1 := Lib.hid b1
  replace h1 := Lib.hid h1
  go_wp2_with fail
  refine (c1.out w1 h1.out).mono ?_; rintro e w2 ⟨u1, rfl, hu1, b2⟩
  have h2 := h1.out.next b2
  have bb2 := b1.out.andThen b2
  have r1 := hu1.rd
  clear c1 h1 b1 b2 hu1
  replace bb2 := Lib.hid bb2
  replace h2 := Lib.hid h2
  replace r1 := Lib.hid r1
  go_wp2_with fail
  refine (c2.out w2 h2.out).mono ?_; rintro e w3 ⟨u2, rfl, hu2, b3⟩
  have h3 := h2.out.next b3
  have bb3 := bb2.out.andThen b3
  have hs := same12i_any ks u1 u2 w3 (r1.out.next b3) hu2.rd hkl
  clear c2 h2 b3 hu2 r1 bb2
  replace bb3 := Lib.hid bb3
  replace h3 := Lib.hid h3
  replace hs := Lib.hid hs
  go_wp2_with fail
  refine hs.out.mono ?_; rintro e w4 ⟨rfl, d4⟩
  have h4 := h3.out.next (d4.below _)
  have bb4 := bb3.out.andThen (d4.below _)
  clear h3 bb3 hs d4
  replace bb4 := Lib.hid bb4
  replace h4 := Lib.hid h4
  go_wp2_with fail
  refine (c3.out w4 h4.out).mono ?_; rintro e w5 ⟨u3, rfl, hu3, b5⟩
  have h5 := h4.out.next b5
  have bb5 := bb4.out.andThen b5
  have r3 := hu3.rd
  clear c3 h4 bb4 b5 hu3
  replace bb5 := Lib.hid bb5
  replace h5 := Lib.hid h5
  replace r3 := Lib.hid r3
  go_wp2_with fail
  refine (c4.out w5 h5.out).mono ?_; rintro e w6 ⟨u4, rfl, hu4, b6⟩
  have h6 := h5.out.next b6
  have bb6 := bb5.out.andThen b6
  have hs := same12i_any ns u3 u4 w6 (r3.out.next b6) hu4.rd hnl
  clear c4 h5 b6 hu4 r3 bb5
  replace bb6 := Lib.hid bb6
  replace h6 := Lib.hid h6
  replace hs := Lib.hid hs
  go_wp2_with fail
  refine hs.out.mono ?_; rintro e w7 ⟨rfl, d7⟩
  have h7 := h6.out.next (d7.below _)
  have bb7 := bb6.out.andThen (d7.below _)
  clear h6 bb6 hs d7
  replace bb7 := Lib.hid bb7
  replace h7 := Lib.hid h7
  go_wp2_with fail
  refine (c5.out w7 h7.out).mono ?_; rintro e w8 ⟨rfl, b8⟩
  have h8 := h7.out.next b8
  have bb8 := bb7.out.andThen b8
  clear c5 h7 bb7 b8
  replace bb8 := Lib.hid bb8
  replace h8 := Lib.hid h8
  go_wp2_with fail
  refine (c6.out w8 h8.out).mono ?_; rintro e w9 ⟨rfl, b9⟩
  have h9 := h8.out.next b9
  have bb9 := bb8.out.andThen b9
  clear c6 h8 bb8 b9
  replace bb9 := Lib.hid bb9
  replace h9 := Lib.hid h9
  go_wp2_with fail
  go_loopw [7] (fun ii wr => ∃ k : Nat, ii = .int .i64 k ∧ k ≤ P.length ∧ Hid (Below w9.heap.size w9 wr)) (fun ii _ => P.length - (intOf ii).toNat)
  case atStart => exact ⟨0, rfl, Nat.zero_le _, Below.refl _ _⟩
  case round =>
    obtain ⟨k, rfl, hk, hb⟩ := hrel
    by_cases hlt : k < P.length
    · have hlt1 : (k : Int) < P.length := by omega
      have hN := h9.out.next hb.out
      obtain ⟨b, off, cap, hcap, hbl, hve, hcl⟩ := hN.some (by omega)
      injection hve with hve1 hve2 hve3
      clear hve2
      subst hve1 hve3
      obtain ⟨d0, d1, d2, d3⟩ := hcl k hlt
      have ats := hN.atsAt k hlt
      have hm := hmx.out _ (List.getElem_mem hlt)
      clear hcl
      generalize P[k]'hlt = p at d0 d1 d2 d3 ats hm
      obtain ⟨⟨xn, xa, xt, xu⟩, xv⟩ := p
      simp only at d0 d1 d2 d3 ats hm
      obtain ⟨ta, tc, rfl⟩ := ats.form
      have e1 := attr12_any ⟨xn, xa, xt, xu⟩ (.slice ta xa.length tc) nm wr ats hm
      have e2 := fun W (hW : AtSl W (.slice ta xa.length tc) xa) => refattr12_any ⟨xn, xa, xt, xu⟩ (.slice ta xa.length tc) nm W hW hm
      have e0 := fun W (hW : Below wr.heap.size wr W) => (show NdAt wr b (off + k * 4) ⟨xn, xa, xt, xu⟩ (.slice ta xa.length tc) from ⟨d0, d1, d2, d3⟩).next hW
      unfold ndA at e1 e2
      unfold strV at d0 d2
      simp only at e1 e2
      obtain ⟨s, f⟩ := attrB xa nm
      replace e0 := Lib.hid e0
      replace e1 := Lib.hid e1
      replace e2 := Lib.hid e2
      replace ats := Lib.hid ats
      clear hN
      go_wp2_with fail
      refine e1.out.mono ?_; rintro e w10 ⟨rfl, b10⟩
      obtain ⟨g0, g1, g2, g3⟩ := e0.out w10 b10
      unfold strV at g0 g2
      simp only at g0 g1 g2 g3
      have hat := ats.out.next b10
      have hb10 := hb.out.andThen b10
      have hs10 := b10.size
      have hbw : b < w10.heap.size := by omega
      have e3 := e2.out w10 hat
      clear e1 e2 e0 d0 d1 d2 d3 b10 hat
      replace e3 := Lib.hid e3
      replace hb10 := Lib.hid hb10
      go_wp2_with fail
      refine e3.out.mono ?_; rintro e w11 ⟨rfl, b11⟩
      have hb11 := hb10.out.andThen b11
      clear e3 hb10 b11 g0 g1 g2 g3
      replace hb11 := Lib.hid hb11
      go_wp2_with fail
      exact ⟨⟨k + 1, by go_num, by omega, hb11⟩, by simp [intOf]; omega⟩
    · have hlt2 : ¬ ((k : Int) < P.length) := by omega
      go_wp2_with fail
      go_ret
      exact ⟨rfl, bb9.out.andThen hb.out⟩
end Go.Proofs.YtodocdbnflmgnaaDoor
