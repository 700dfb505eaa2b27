/- Layer 12's laws: TreeBuilds, TreeUp. -/
import Derived.Test.YtodocdbnflmgnaaDoorD12m
import Derived.Test.YtodocdbnflmgnaaDoorD12r
namespace Go.Proofs.YtodocdbnflmgnaaDoor
open Go.RowKit

theorem nds_max {PT : List (Tk × Value)} {P : List (Nd × Value)} {nds : List Nd} (hx : ∀ p ∈ PT, p.1.attrs.length * 32 ≤ 140737488355328) (hb : buildB (PT.map Prod.fst) = some nds) (hP : nodes P = nds) : ∀ p ∈ P, p.1.attrs.length ≤ 9223372036854775806 := by
  intro p hp
  have hm : p.1 ∈ nds := by rw [← hP]; exact List.mem_map.2 ⟨p, hp, rfl⟩
  rcases (buildB_tree hb).2.2.2.2 _ hm with e | ⟨t, ht, e⟩
  · rw [e]; simp
  · obtain ⟨q, hq, rfl⟩ := List.mem_map.1 ht
    have := hx q hq
    rw [e]; omega

set_option maxRecDepth 100000 in
set_option maxHeartbeats 4000000 in
/-- The law TreeBuilds. -/
theorem builds12_law (PT : List (Tk × Value)) (v : Value) (A : Addr) (w : World) (h : TkSl w v PT) (hx : ∀ p ∈ PT, p.1.attrs.length * 32 ≤ 140737488355328) (hL : Laid12 w A) :
    Calls Tryd.prog 3 #[v] w (LawPost w) := by
  obtain ⟨va, vc, rfl⟩ := h.form
  by_cases hlen : 300 < PT.length
  · have hl1 : (300 : Int) < PT.length := by omega
    have ha := awake12_any A w hL
    clear h hx hL
    replace ha := Lib.hid ha
    go_enter Tryd.func3, Tryd.ntmps3
    go_wp2_with fail
    refine ha.out.mono ?_; rintro e w1 ⟨rfl, b1⟩
    go_wp2_with fail
    go_ret
    exact ⟨rfl, b1⟩
  have hl1 : ¬ ((300 : Int) < PT.length) := by omega
  have c1 := build12_any PT _ A w h hL (by omega) hx
  have c2 := fun (W : World) (hW : TkSl W (.slice va PT.length vc) PT) => refbuild12_any PT _ W hW (by omega)
  have hmax := fun (P : List (Nd × Value)) (nds : List Nd) hb hP => @nds_max PT P nds hx hb hP
  clear hx
  cases hb : buildB (PT.map Prod.fst) with
  | some nds =>
    rw [hb] at c1
    simp only [hb] at c2
    have hpl : nds.length ≤ 300 := by
      have h1 := (buildB_tree hb).2.2.1
      have h2 : cntB (PT.map Prod.fst) ≤ (PT.map Prod.fst).length := List.countP_le_length
      rw [List.length_map] at h2
      omega
    replace c1 := Lib.hid c1
    replace c2 := Lib.hid c2
    replace hmax := Lib.hid hmax
    replace h := Lib.hid h
    replace hL := Lib.hid hL
    replace hb := Lib.hid hb
    go_enter Tryd.func3, Tryd.ntmps3
    go_wp2_with fail
    refine c1.out.mono ?_; rintro e w1 ⟨v1, P, rfl, s1, e1, b1⟩
    have h1 := h.out.next b1
    clear c1
    replace b1 := Lib.hid b1
    replace s1 := Lib.hid s1
    replace e1 := Lib.hid e1
    go_wp2_with fail
    refine (c2.out w1 h1).mono ?_; rintro e w2 ⟨v2, Q, rfl, s2, e2, b2⟩
    have bb2 := b1.out.andThen b2
    have s12 := s1.out.next b2
    have hL2 := hL.out.below bb2
    clear c2 b1 b2 s1 h1 h
    replace bb2 := Lib.hid bb2
    replace s12 := Lib.hid s12
    replace s2 := Lib.hid s2
    replace e2 := Lib.hid e2
    go_wp2_with fail
    refine (awake12_any A w2 hL2).mono ?_; rintro e w3 ⟨rfl, b3⟩
    have hPl : P.length ≤ 1000000 := by rw [← nodes_len, e1.out]; omega
    have hs := same12_any v1 v2 P Q w3 (s12.out.next b3) (s2.out.next b3) (e1.out.trans e2.out.symm) hPl (hmax.out P nds hb.out e1.out)
    have bb3 := bb2.out.andThen b3
    clear b3 bb2 s12 s2 hL2
    replace bb3 := Lib.hid bb3
    replace hs := Lib.hid hs
    go_wp2_with fail
    refine hs.out.mono ?_; rintro e w4 ⟨rfl, d4⟩
    have bb4 := bb3.out.andThen (d4.below _)
    clear hs bb3 d4
    replace bb4 := Lib.hid bb4
    go_wp2_with fail
    refine (code12_nil _).mono ?_; rintro e w5 ⟨rfl, rfl⟩
    go_wp2_with fail
    go_ret
    exact ⟨rfl, bb4.out⟩
  | none =>
    rw [hb] at c1
    simp only [hb] at c2
    clear hmax
    replace c1 := Lib.hid c1
    replace c2 := Lib.hid c2
    replace h := Lib.hid h
    replace hL := Lib.hid hL
    replace hb := Lib.hid hb
    go_enter Tryd.func3, Tryd.ntmps3
    go_wp2_with fail
    refine c1.out.mono ?_; rintro e w1 ⟨f, q, rfl, hfa, b1⟩
    have h1 := h.out.next b1
    clear c1
    replace b1 := Lib.hid b1
    replace hfa := Lib.hid hfa
    unfold faultV
    go_wp2_with fail
    refine (c2.out w1 h1).mono ?_; rintro e w2 ⟨rfl, b2⟩
    have bb2 := b1.out.andThen b2
    have hL2 := hL.out.below bb2
    have hfa2 := hfa.out.below b2
    clear c2 b1 b2 h1 h hfa
    replace bb2 := Lib.hid bb2
    replace hfa2 := Lib.hid hfa2
    go_wp2_with fail
    refine (awake12_any A w2 hL2).mono ?_; rintro e w3 ⟨rfl, b3⟩
    have hnil : NdSl w3 (.slice none 0 0) [] := ⟨Or.inl ⟨rfl, _, _, rfl⟩, fun p hp => by simp at hp⟩
    have hs := same12_any _ _ [] [] w3 hnil hnil rfl (by simp) (fun p hp => by simp at hp)
    have bb3 := bb2.out.andThen b3
    have hfa3 := hfa2.out.below b3
    clear b3 bb2 hL2 hfa2 hnil
    replace bb3 := Lib.hid bb3
    replace hs := Lib.hid hs
    replace hfa3 := Lib.hid hfa3
    go_wp2_with fail
    refine hs.out.mono ?_; rintro e w4 ⟨rfl, d4⟩
    have bb4 := bb3.out.andThen (d4.below _)
    have c5 := code12_fault f q 2 w4 (hfa3.out.below (d4.below _)) (by omega) (by omega)
    clear hs bb3 d4 hfa3
    unfold faultV at c5
    replace bb4 := Lib.hid bb4
    replace c5 := Lib.hid c5
    go_wp2_with fail
    refine c5.out.mono ?_; rintro e w5 ⟨rfl, rfl⟩
    go_wp2_with fail
    go_ret
    exact ⟨rfl, bb4.out⟩
end Go.Proofs.YtodocdbnflmgnaaDoor
