/- The reference of layer 11: begin, end. -/
import Derived.Test.YtahohmdbiiknoaaGreatDoorBR23
import Derived.Deep.RegionHeld
namespace Go.Proofs.YtahohmdbiiknoaaGreatDoor
open Go.RowKit

/-- What a step comes to: a fault's number, or the state that follows. -/
def SpPost (w : World) (B R : Nat) (l : List UInt8) (dep : Int) (k : Nat) : Rs Sc Int → Ending → World → Prop
  | .bad q, e, w' => e = .returned (.int .i64 q) ∧ Below B w w'
  | .stop, _, _ => False
  | .go s' n, e, w' => e = .returned (.int .i64 0) ∧ (∃ c' P', c'.l = l ∧ c'.dep = dep ∧ Hid (SnM w' B R c' (k + n) s' P')) ∧ Below B w w'
section
variable {w w' : World} {B R : Nat} {l : List UInt8} {dep : Int} {k : Nat} {r : Rs Sc Int}
theorem SpPost.bad {q : Int} (hr : r = .bad q) (hb : Below B w w') : SpPost w B R l dep k r (.returned (.int .i64 q)) w' := by subst hr; exact ⟨rfl, hb⟩
theorem SpPost.go {n : Nat} {s' : Sc} {c' : SC} {P' : List (Tk × Value)} (hr : r = .go s' n) (h1 : c'.l = l) (h2 : c'.dep = dep) (h : Hid (SnM w' B R c' (k + n) s' P')) (hb : Below B w w') : SpPost w B R l dep k r (.returned (.int .i64 0)) w' := by subst hr; exact ⟨rfl, ⟨c', P', h1, h2, h⟩, hb⟩
end

set_option maxHeartbeats 4000000 in
theorem rbegin_any (B R : Nat) (c : SC) (k : Nat) (s : Sc) (P : List (Tk × Value)) (w : World) (h : Hid (SnM w B R c k s P)) (hk : k < c.l.length) (hl : c.l.length ≤ 100000) (hb : s.toks.length ≤ 900000) (ho : s.opn.length ≤ 100000) :
    Calls Tryz.prog 51 #[.pointer (some ⟨R, 0, none⟩)] w (SpPost w B R c.l c.dep k (beginR c.dep s (c.l.drop k))) := by
  have hP := show beginR c.dep s (c.l.drop k) = _ from by unfold beginR; rfl
  simp only [List.drop_drop] at hP
  generalize hoo : beginR c.dep s (c.l.drop k) = o at hP
  replace hoo := Lib.hid hoo
  have c2 := h.out.rd.c2
  have c3 := h.out.rd.c3
  have hbase := h.out.base
  obtain ⟨va, vc, hv⟩ := own_form h.out.opn
  rw [hv] at c3
  replace hv := Lib.hid hv
  by_cases h1 : (s.opn.length : Int) = c.dep
  · replace hP := Lib.hid (hP.trans (if_pos (Or.inl h1)))
    have h1' : ((s.opn.length : Int) == c.dep) = true := by rw [beq_iff_eq]; exact h1
    replace h1 := Lib.hid h1
    go_enter Tryz.func51, Tryz.ntmps51
    go_wp2_with fail
    go_quiet (fail)
    go_wp2_with fail
    go_ret
    exact SpPost.bad hP.out (Drawn.below (drawn_drewN _ _) _)
  have h1' : ((s.opn.length : Int) == c.dep) = false := by rw [beq_eq_false_iff_ne]; exact h1
  by_cases h2 : c.dep < 1
  · replace hP := Lib.hid (hP.trans (if_pos (Or.inr h2)))
    have h2' : decide (c.dep < 1) = true := by rw [decide_eq_true_eq]; exact h2
    replace h1 := Lib.hid h1
    replace h2 := Lib.hid h2
    go_enter Tryz.func51, Tryz.ntmps51
    go_wp2_with fail
    go_quiet (fail)
    go_wp2_with fail
    go_ret
    exact SpPost.bad hP.out (Drawn.below (drawn_drewN _ _) _)
  have h2' : decide (c.dep < 1) = false := by rw [decide_eq_false_iff_not]; exact h2
  replace hP := Lib.hid (hP.trans (if_neg (by rintro (e | e); exact h1 e; exact h2 e)))
  replace h1 := Lib.hid h1
  replace h2 := Lib.hid h2
  have s0 : ∀ n : Nat, Hid (SnM (w.drewN n) B R c k s P) := fun n => SnM.below h (Drawn.below (drawn_drewN w n) _)
  have k1 := h.out.rd.c1
  have k1f := h.out.rd.fz 1
  go_enter Tryz.func51, Tryz.ntmps51
  go_wp2_with fail
  go_quiet (fail)
  have b0 : Below B w (w.drewN nq) := Drawn.below (drawn_drewN w nq) _
  replace b0 := Lib.hid b0
  have s1 := SnM.call (s0 nq) (sf_put (SnM.sf (s0 nq)) (k + 1) (x := (k : Int) + 1) (by omega)).out
  have b1 := Lib.hid (b0.out.trans (SnM.toBelow (s0 nq) (sf_put (SnM.sf (s0 nq)) (k + 1) (x := (k : Int) + 1) (by omega)).out))
  clear s0 b0
  go_wp2_with fail
  refine (sf_name (SnM.sf s1) hk hl).mono ?_
  rintro e w2 ⟨nm, nb, rfl, hN, r2, hk2⟩
  have s2 := SnM.call s1 r2.out
  have b2 := Lib.hid (b1.out.trans (SnM.toBelow s1 r2.out))
  clear s1 b1 r2 k1 k1f c2 c3
  cases nb with
  | false =>
    replace hN := Lib.hid (hN.out.trans (if_neg (by decide)))
    go_wp2_with fail
    go_ret
    exact SpPost.bad (hP.out.trans (by rw [hN.out])) b2.out
  | true =>
    replace hN := Lib.hid (hN.out.trans (if_pos rfl))
    obtain ⟨n, hn⟩ : ∃ n, nm.length = n := ⟨_, rfl⟩
    rw [hn] at s2 hk2
    replace hN : Hid (nameP (c.l.drop (k + 1)) = some (nm, n)) := by rw [← hn]; exact hN
    replace hn := Lib.hid hn
    replace hP := Lib.hid (hP.out.trans (by rw [hN.out]))
    go_wp2_with fail
    have hat := rattrs_any R c (k + 1 + n) _ s2.out.rd hk2 hl
    simp only [← Nat.add_assoc] at hP
    obtain ⟨r, hr⟩ : ∃ r, attrsR (c.l.drop (k + 1 + n)) = r := ⟨_, rfl⟩
    rw [hr] at hat
    replace hP := Lib.hid (hP.out.trans (by rw [hr]))
    have hle := fun (l : List At) (b : Bool) (m : Nat) (e : r = some ((l, b), m)) => attrsR_le (hr.trans e)
    replace hr := Lib.hid hr
    cases r with
    | none =>
      clear hle
      refine hat.mono ?_
      rintro e w3 ⟨rfl, k3, r3⟩
      have b3 := Lib.hid (b2.out.trans (SnM.toBelow s2 r3))
      clear hat s2 b2 r3
      go_wp2_with fail
      go_ret
      exact SpPost.bad hP.out b3.out
    | some y =>
      obtain ⟨⟨l, em⟩, m⟩ := y
      obtain ⟨m1, m2⟩ := hle l em m rfl
      clear hle
      rw [List.length_drop] at m2
      refine hat.mono ?_
      rintro e w3 ⟨v, rfl, r3⟩
      have s3 := SnM.call s2 (AsSf.post r3)
      have b3 := Lib.hid (b2.out.trans (SnM.toBelow s2 (AsSf.post r3)))
      have a3 : Hid (Ats w3 B v l) := ownsRow_mono r3.out.ats s2.out.base
      clear hat s2 b2 r3
      obtain ⟨la, lc, rfl⟩ := own_form a3.out
      have g6 := s3.out.rd.c6
      have g6f := s3.out.rd.fz 6
      have s4 : Hid (SnM (w3.setCell ⟨R, 6, none⟩ (.bool true)) B R { c with rt := true } (k + 1 + n + m) { s with rooted := true } P) := s3.out.root true
      have b4 := Lib.hid (b3.out.trans (s3.out.setB 6 (.bool true)))
      have a4 : Hid (Ats (w3.setCell ⟨R, 6, none⟩ (.bool true)) B (.slice la l.length lc) l) := s3.out.keepA2 a3.out
      clear s3 b3 a3
      have hpl : P.length ≤ 900000 := by rw [s4.out.plen]; exact hb
      cases em with
      | true =>
        go_wp2_with fail
        refine (push11_any B R _ _ _ P ⟨3, nm, l, []⟩ (.slice la l.length lc) _ s4 a4.out (by omega)).mono ?_
        rintro e w5 ⟨rfl, ⟨c5, P5, e1, e2, s5⟩, b5⟩
        have b6 := Lib.hid (b4.out.trans b5)
        clear s4 b4 a4 b5
        go_wp2_with fail
        go_ret
        exact SpPost.go (n := 1 + n + m) hP.out e1 e2 (by rw [show k + (1 + n + m) = k + 1 + n + m by omega]; exact s5) b6.out
      | false =>
        go_wp2_with fail
        refine (push11_any B R _ _ _ P ⟨1, nm, l, []⟩ (.slice la l.length lc) _ s4 a4.out (by omega)).mono ?_
        rintro e w5 ⟨rfl, ⟨c5, P5, e1, e2, s5⟩, b5⟩
        have b6 := Lib.hid (b4.out.trans b5)
        clear s4 b4 a4 b5
        have d3 := s5.out.rd.c3
        have hop : Strs w5 B c5.vO s.opn := s5.out.opn
        obtain ⟨oa, oc, hov⟩ := own_form hop
        have hlow := hop.low
        have hsl := hop.sl
        rw [hov] at d3 hlow hsl
        replace hov := Lib.hid hov
        replace hop := Lib.hid hop
        have d3' := fun X => (World.cell?_alloc_lt w5 X ⟨R, 3, none⟩ s5.out.rd.lt).trans d3
        have hem := ownsRow_empty w5 9 1
        have hsl' := fun X : Obj => hsl.below ((Below.refl w5.heap.size w5).alloc (Nat.le_refl _) X) hlow
        replace hsl := Lib.hid hsl
        replace hem := Lib.hid hem
        replace hsl' := Lib.hid hsl'
        replace hlow := Lib.hid hlow
        clear hpl
        go_wp2_with (at_builtin; go_must (refine wpList_append_strs rfl (.tmp 61) (.tmp 65) 60 9 rfl Tryz.underlying60 (.string ⟨#[]⟩) 16 info_str rfl (by decide) w5.heap.size _ 0 [] hem.out _ s.opn (hsl'.out _) rfl rfl (by omega) (by simp) ?_))
        intro v6 w6 hown6 hb6
        have hb7 : Below w5.heap.size w5 w6 := ((Below.refl _ w5).alloc (Nat.le_refl _) _).trans hb6
        clear hb6
        have hst6 : Strs w6 w5.heap.size v6 s.opn := by simpa [Strs] using hown6
        clear hown6
        have hsz6 := hb7.size
        replace hb7 := Lib.hid hb7
        replace hst6 := Lib.hid hst6
        clear d3 d3'
        go_wp2_with (at_builtin; go_must (refine wpList_append1 rfl _ _ 60 9 rfl Tryz.underlying60 (.string ⟨#[]⟩) 16 info_str rfl (by decide) w5.heap.size _ s.opn.length (s.opn.map strV) (.string ⟨nm.toArray⟩) hst6.out rfl rfl rfl (by omega) hsz6 ?_))
        intro v7 w7 hown7 hb8 hg8
        have hst7 : Hid (Strs w7 w5.heap.size v7 (s.opn ++ [nm])) := strs_mk hown7
        have hb9 := Lib.hid (hb7.out.trans hb8)
        clear hown7 hb8 hg8
        have s7 := SnM.below s5 hb9.out
        have e3 := s7.out.rd.c3
        have e3f := s7.out.rd.fz 3
        have hopn : Strs w7 B v7 (s.opn ++ [nm]) := ownsRow_mono hst7.out s5.out.base
        have s8 := Lib.hid (s7.out.opens hopn)
        have b10 := Lib.hid ((b6.out.trans (hb9.out.mono s5.out.base)).trans (s7.out.setB 3 v7))
        obtain ⟨a7, q7, rfl⟩ := own_form hopn
        replace hopn := Lib.hid hopn
        have hl7 : (s.opn ++ [nm]).length = s.opn.length + 1 := by simp
        rw [hl7] at s8 b10
        go_wp2_with fail
        go_ret
        exact SpPost.go (n := 1 + n + m) (c' := { c5 with vO := .slice a7 (s.opn.length + 1) q7 }) hP.out e1 e2 (by rw [show k + (1 + n + m) = k + 1 + n + m by omega]; exact s8) b10.out

/-- What end comes to. -/
def EePost (w : World) (B R : Nat) (l : List UInt8) (dep : Int) (k : Nat) : Rs Sc Int → Ending → World → Prop
  | .go s' n, e, w' => e = .returned (.bool true) ∧ (∃ c' P', c'.l = l ∧ c'.dep = dep ∧ Hid (SnM w' B R c' (k + n) s' P')) ∧ Below B w w'
  | .bad q, e, w' => e = .returned (.bool false) ∧ q = 3 ∧ Below B w w'
  | .stop, _, _ => False
section
variable {w w' : World} {B R : Nat} {l : List UInt8} {dep : Int} {k : Nat} {r : Rs Sc Int}
theorem EePost.bad (hr : r = .bad 3) (hb : Below B w w') : EePost w B R l dep k r (.returned (.bool false)) w' := by subst hr; exact ⟨rfl, rfl, hb⟩
theorem EePost.go {n : Nat} {s' : Sc} {c' : SC} {P' : List (Tk × Value)} (hr : r = .go s' n) (h1 : c'.l = l) (h2 : c'.dep = dep) (h : Hid (SnM w' B R c' (k + n) s' P')) (hb : Below B w w') : EePost w B R l dep k r (.returned (.bool true)) w' := by subst hr; exact ⟨rfl, ⟨c', P', h1, h2, h⟩, hb⟩
end

set_option maxHeartbeats 4000000 in
theorem rend_any (B R : Nat) (c : SC) (k : Nat) (s : Sc) (P : List (Tk × Value)) (w : World) (h : Hid (SnM w B R c k s P)) (hk : k + 2 ≤ c.l.length) (hl : c.l.length ≤ 100000) (hb : s.toks.length ≤ 900000) (ho : s.opn.length ≤ 100000) :
    Calls Tryz.prog 48 #[.pointer (some ⟨R, 0, none⟩)] w (EePost w B R c.l c.dep k (endR s (c.l.drop k))) := by
  have hP := show endR s (c.l.drop k) = _ from by unfold endR; rfl
  simp only [List.drop_drop] at hP
  generalize hoo : endR s (c.l.drop k) = o at hP
  replace hoo := Lib.hid hoo
  replace hP := Lib.hid hP
  have hb1 := spanN_le blI
  replace hb1 := Lib.hid hb1
  have k1 := h.out.rd.c1
  have k1f := h.out.rd.fz 1
  have s1 := SnM.call h (sf_put (SnM.sf h) (k + 2) (x := (k : Int) + 2) (by omega)).out
  have b1 := Lib.hid (SnM.toBelow h (sf_put (SnM.sf h) (k + 2) (x := (k : Int) + 2) (by omega)).out)
  go_enter Tryz.func48, Tryz.ntmps48
  go_wp2_with fail
  refine (sf_name (SnM.sf s1) hk hl).mono ?_
  rintro e w2 ⟨nm, nb, rfl, hN, r2, hk2⟩
  have s2 := SnM.call s1 r2.out
  have b2 := Lib.hid (b1.out.trans (SnM.toBelow s1 r2.out))
  clear s1 b1 r2 k1 k1f
  have c3 := s2.out.rd.c3
  cases nb with
  | false =>
    obtain ⟨va, vc, hv⟩ := own_form s2.out.opn
    rw [hv] at c3
    replace hv := Lib.hid hv
    replace hN := Lib.hid (hN.out.trans (if_neg (by decide)))
    go_wp2_with fail
    go_ret
    exact EePost.bad (hP.out.trans (by rw [hN.out])) b2.out
  | true =>
    replace hN := Lib.hid (hN.out.trans (if_pos rfl))
    obtain ⟨n, hn⟩ : ∃ n, nm.length = n := ⟨_, rfl⟩
    rw [hn] at s2 hk2
    replace hN : Hid (nameP (c.l.drop (k + 2)) = some (nm, n)) := by rw [← hn]; exact hN
    replace hn := Lib.hid hn
    replace hP := Lib.hid (hP.out.trans (by rw [hN.out]))
    simp only [← Nat.add_assoc] at hP
    by_cases hop0 : s.opn = []
    · replace hP := Lib.hid (hP.out.trans (if_pos hop0))
      obtain ⟨va, vc, hv⟩ := own_form s2.out.opn
      rw [hop0] at hv
      rw [hv] at c3
      replace hv := Lib.hid hv
      replace hop0 := Lib.hid hop0
      go_wp2_with fail
      go_ret
      exact EePost.bad hP.out b2.out
    replace hP := Lib.hid (hP.out.trans (if_neg hop0))
    obtain ⟨op, lst, hop, hgl, hdl⟩ := snoc_of ([] : List UInt8) hop0
    rw [hgl, hdl] at hP
    have hopn := s2.out.opn
    rw [hop] at hopn
    obtain ⟨g, cap, hv, hcap, hgl2, cg, _, _⟩ := opn_last hopn
    rw [hv] at c3
    have hol : op.length ≤ 100000 := by rw [hop] at ho; simp at ho; omega
    replace hopn := Lib.hid hopn
    replace hv := Lib.hid hv
    replace hop0 := Lib.hid hop0
    replace hgl := Lib.hid hgl
    replace hdl := Lib.hid hdl
    by_cases hne : lst = nm
    case neg =>
      replace hP := Lib.hid (hP.out.trans (if_pos hne))
      have hne2 : (lst == nm) = false := by rw [beq_eq_false_iff_ne]; exact hne
      replace hne := Lib.hid hne
      go_wp2_with fail
      go_ret
      exact EePost.bad hP.out b2.out
    case pos =>
      replace hP := Lib.hid (hP.out.trans (if_neg (fun e => e hne)))
      subst hne
      go_wp2_with fail
      refine (sf_blanks (SnM.sf s2) hk2 hl).mono ?_
      rintro e w3 ⟨rfl, r3⟩
      have s3 := SnM.call s2 r3.out
      have b3 := Lib.hid (b2.out.trans (SnM.toBelow s2 r3.out))
      clear b2 r3 c3 cg
      have hbd := hb1.out (c.l.drop (k + 2 + n))
      rw [List.length_drop] at hbd
      obtain ⟨bn, hbn⟩ : ∃ bn, spanN blI (c.l.drop (k + 2 + n)) = bn := ⟨_, rfl⟩
      rw [hbn] at hbd s3
      have hP2 := hP.out
      rw [hbn] at hP2
      rw [hbn]
      replace hP := Lib.hid hP2
      clear hP2
      replace hbn := Lib.hid hbn
      have hq : k + 2 + n + bn ≤ c.l.length := by omega
      clear s2
      go_wp2_with fail
      refine (sf_has (SnM.sf s3) [62] hq hl (by decide)).mono ?_
      rintro e w4 ⟨rfl, r4⟩
      have s4 := SnM.call s3 r4.out
      have b4 := Lib.hid (b3.out.trans (SnM.toBelow s3 r4.out))
      clear s3 b3 r4
      cases hp : Lib.hasPrefix (c.l.drop (k + 2 + n + bn)) [62]
      · replace hP := Lib.hid (hP.out.trans (if_neg (by rw [hp]; decide)))
        replace hp := Lib.hid hp
        go_wp2_with fail
        go_ret
        exact EePost.bad hP.out b4.out
      replace hP := Lib.hid (hP.out.trans (if_pos hp))
      have hpl := prefix_len hp
      rw [List.length_drop] at hpl
      have hpl2 : k + 2 + n + bn + 1 ≤ c.l.length := by simp at hpl; omega
      clear hpl
      replace hp := Lib.hid hp
      have k1 := s4.out.rd.c1
      have k1f := s4.out.rd.fz 1
      have s5 := SnM.call s4 (sf_put (SnM.sf s4) (k + 2 + n + bn + 1) (x := ((k + 2 + n + bn : Nat) : Int) + 1) (by omega)).out
      have b5 := Lib.hid (b4.out.trans (SnM.toBelow s4 (sf_put (SnM.sf s4) (k + 2 + n + bn + 1) (x := ((k + 2 + n + bn : Nat) : Int) + 1) (by omega)).out))
      have hpl3 : P.length ≤ 900000 := by rw [s4.out.plen]; exact hb
      go_wp2_with fail
      refine (push11_any B R _ _ _ P ⟨2, lst, [], []⟩ (.slice none 0 0) _ s5 (ats_nil _ _) (by omega)).mono ?_
      rintro e w6 ⟨rfl, ⟨c6, P6, e1, e2, s6⟩, b6⟩
      have b7 := Lib.hid (b5.out.trans b6)
      clear s4 s5 b4 b5 b6 k1 k1f hopn hv
      have hopn6 : Strs w6 B c6.vO (op ++ [lst]) := by have := s6.out.opn; rw [← hop]; exact this
      obtain ⟨g6, cap6, hv6, hcap6, hgl6, _, _, hst6⟩ := opn_last hopn6
      have d3 := s6.out.rd.c3
      have d3f := s6.out.rd.fz 3
      rw [hv6] at d3
      have s7 := Lib.hid (s6.out.opens hst6)
      have b8 := Lib.hid (b7.out.trans (s6.out.setB 3 (.slice (some ⟨g6, 0, none⟩) op.length cap6)))
      have hsl : s.opn.length = op.length + 1 := by rw [hop]; simp
      replace hv6 := Lib.hid hv6
      replace hopn6 := Lib.hid hopn6
      replace hst6 := Lib.hid hst6
      replace hop := Lib.hid hop
      go_wp2_with fail
      go_ret
      exact EePost.go (n := 2 + n + bn + 1) (c' := { c6 with vO := .slice (some ⟨g6, 0, none⟩) op.length cap6 }) hP.out e1 e2 (by rw [show k + (2 + n + bn + 1) = k + 2 + n + bn + 1 by omega]; exact s7) b8.out
end Go.Proofs.YtahohmdbiiknoaaGreatDoor

/- A region that draws its order, and whose last operation writes what others of it read: the condition S is asked behind every operation but that last one, z, which waits for all others. -/
namespace Go.Proofs.YtahohmdbiiknoaaGreatDoor

section
variable {P : Program} {ops : Array Oper} {Q : Exit → Act → World → Prop} {md : Region.Mode} {S : World → Prop} {z : Nat}

/-- What is listed has listed what it waits for. -/
def Closed (md : Region.Mode) (ops : Array Oper) (listed : Array Bool) : Prop :=
  ∀ j oj, ops[j]? = some oj → listed.getD j false = true → ∀ e ∈ oj.after, Region.binds md e = true → listed.getD e.on false = true
/-- Operation j waits for i, over others or by itself. -/
def waitsB (md : Region.Mode) (ops : Array Oper) (i : Nat) : Nat → Nat → Bool
  | 0, _ => false
  | n + 1, j => j == i || ((ops[j]?).map fun o => o.after.toList.any fun e => Region.binds md e && waitsB md ops i n e.on).getD false
theorem closed_waits {listed : Array Bool} {i : Nat} (hc : Closed md ops listed) : ∀ n j, waitsB md ops i n j = true → listed.getD j false = true → listed.getD i false = true
  | 0, _, h, _ => by simp [waitsB] at h
  | n + 1, j, h, hj => by
    simp only [waitsB, Bool.or_eq_true] at h
    rcases h with h | h
    · rw [beq_iff_eq] at h; subst h; exact hj
    · cases ho : ops[j]? with
      | none => simp [ho] at h
      | some o =>
        rw [ho] at h
        simp only [Option.map_some, Option.getD_some] at h
        obtain ⟨e, he, hb⟩ := List.any_eq_true.1 h
        rw [Bool.and_eq_true] at hb
        exact closed_waits hc n e.on hb.2 (hc j o ho hj e (Array.mem_toList_iff.1 he) hb.1)
theorem closed_none (n : Nat) : Closed md ops (Array.replicate n false) := fun j _ _ h => by
  exfalso
  rw [Array.getD_eq_getD_getElem?, Array.getElem?_replicate] at h
  split at h <;> simp at h
theorem ready_new {listed : Array Bool} {i : Nat} (hr : i ∈ Region.ready md ops listed) : listed.getD i false = false := by
  have h := (mem_ready.1 hr).1
  rw [Array.getD_eq_getD_getElem?] at h ⊢
  cases hx : listed[i]? with
  | none => rw [hx] at h; simp at h
  | some b => rw [hx] at h; simpa using h
theorem Closed.set {listed : Array Bool} {i : Nat} (hc : Closed md ops listed) (hr : i ∈ Region.ready md ops listed) : Closed md ops (listed.setIfInBounds i true) := fun j oj hj hl e he hb => by
  by_cases hij : i = j
  · subst hij
    obtain ⟨_, o, ho, ha⟩ := mem_ready.1 hr
    rw [hj] at ho
    injection ho with ho
    subst ho
    exact getD_set_true (ha e he hb)
  · rw [getD_set_ne false hij] at hl
    exact getD_set_true (hc j oj hj hl e he hb)
/-- The last one does not come up before i has. -/
theorem last_late {listed : Array Bool} {i n : Nat} (hc : Closed md ops listed) (hne : z ≠ i) (hw : waitsB md ops i n z = true) (hr : i ∈ Region.ready md ops listed) : z ∉ Region.ready md ops listed := fun hz => by
  obtain ⟨_, o, ho, ha⟩ := mem_ready.1 hz
  have hi := ready_new hr
  have : listed.getD i false = true := by
    cases n with
    | zero => simp [waitsB] at hw
    | succ n =>
      simp only [waitsB, Bool.or_eq_true, beq_iff_eq] at hw
      rcases hw with hw | hw
      · exact absurd hw hne
      · rw [ho] at hw
        simp only [Option.map_some, Option.getD_some] at hw
        obtain ⟨e, he, hb⟩ := List.any_eq_true.1 hw
        rw [Bool.and_eq_true] at hb
        exact closed_waits hc n e.on hb.2 (ha e (Array.mem_toList_iff.1 he) hb.1)
  rw [this] at hi
  cases hi

/-- Whatever order is picked from here on, and S holds behind every operation but z. -/
def wpAnyZ (P : Program) (md : Region.Mode) (ops : Array Oper) (Q : Exit → Act → World → Prop) (S : World → Prop) (z : Nat) : Nat → Array Bool → Act → World → Prop
  | 0, listed, a, w => Region.ready md ops listed = [] ∧ Q .normal a w
  | fuel + 1, listed, a, w =>
    (Region.ready md ops listed = [] → Q .normal a w) ∧
    ∀ i ∈ Region.ready md ops listed, wpOp P ops Q i (fun a' w' => (i ≠ z → S w') ∧ wpAnyZ P md ops Q S z fuel (listed.setIfInBounds i true) a' w') a w
theorem wpAny_of_z : ∀ (fuel : Nat) (listed : Array Bool) (a : Act) (w : World), wpAnyZ P md ops Q S z fuel listed a w → wpAny P md ops Q fuel listed a w
  | 0, _, _, _, h => h
  | fuel + 1, _, _, _, h => ⟨h.1, fun i hi => wpOp_mono (fun a' w' h' => wpAny_of_z fuel _ a' w' h'.2) (h.2 i hi)⟩
theorem wpAnyZ_first {i n : Nat} {oi : Oper} {v : Value} (hi : ops[i]? = some oi) (hsel : ∀ (j : Nat) (o : Oper) cs b, ops[j]? = some o → o.op ≠ .select cs b)
    (hQ : ∀ c a w, Q (.panic c) (a.put oi.dst v) w → Q (.panic c) a w) (hne : z ≠ i) (hw : waitsB md ops i n z = true) :
    ∀ (fuel : Nat) (listed : Array Bool) (a : Act) (w : World), Closed md ops listed →
      (∀ j oj, ops[j]? = some oj → j ≠ i → listed.getD j true = false → (∀ e ∈ oj.after, Region.binds md e = true → e.on ≠ i) → oi.apart ops oj = true) →
      i ∈ Region.ready md ops listed → YieldsIf P ops S oi v a → S w →
      wpAnyZ P md ops Q S z fuel (listed.setIfInBounds i true) (a.put oi.dst v) w → wpAnyZ P md ops Q S z (fuel + 1) listed a w := by
  intro fuel
  induction fuel with
  | zero =>
    intro listed a w _ _ hr hy hS H
    refine ⟨fun e => absurd hr (by rw [e]; simp), fun j hj => ?_⟩
    by_cases hji : j = i
    · rw [hji]; exact hy.wpOp hi hS ⟨fun _ => hS, H⟩
    · have hj' := ready_mono hj hji
      rw [H.1] at hj'
      cases hj'
  | succ fuel ih =>
    intro listed a w hc hfree hr hy hS H
    refine ⟨fun e => absurd hr (by rw [e]; simp), fun j hj => ?_⟩
    by_cases hji : j = i
    · rw [hji]; exact hy.wpOp hi hS ⟨fun _ => hS, H⟩
    · have hjz : j ≠ z := fun e => last_late hc hne hw hr (e ▸ hj)
      obtain ⟨hun, oj, hoj, hall⟩ := mem_ready.1 hj
      have hno : ∀ e ∈ oj.after, Region.binds md e = true → e.on ≠ i := fun e he hb e' => by
        have h1 := hall e he hb
        rw [e', ready_new hr] at h1
        cases h1
      refine wpOp_mono (fun a' w' h3 => ⟨fun _ => h3.2.1 hjz, ih (listed.setIfInBounds j true) a' w' (hc.set hj) (fun k ok hk hki hku hko => ?_) (ready_mono hr (Ne.symm hji)) h3.1 (h3.2.1 hjz) (by rw [Array.setIfInBounds_comm _ _ hji]; exact h3.2.2)⟩)
        (wpOp_putIf hoj (hfree j oj hoj hji hun hno) (fun cs b => hsel i oi cs b hi) (fun cs b => hsel j oj cs b hoj) hQ hy (H.2 j (ready_mono hj hji)))
      refine hfree k ok hk hki ?_ hko
      by_cases hjk : j = k
      · rw [← hjk]; exact hun
      · rw [getD_set_ne true hjk] at hku; exact hku

/-- The walk's goal. -/
def ZGo (P : Program) (md : Region.Mode) (ops : Array Oper) (Q : Exit → Act → World → Prop) (S : World → Prop) (z fuel : Nat) (listed : Array Bool) (a : Act) (w : World) : Prop :=
  Closed md ops listed → wpAnyZ P md ops Q S z fuel listed a w
/-- The beginning. -/
theorem zgo_begin {id : Nat} {a : Act} {w : World} (z : Nat) (S : World → Prop) (hm : P.follows .mixedOrders = true) (hS : S w.drew)
    (h : S w.drew → ZGo P .any ops Q S z ops.size (Array.replicate ops.size false) a w.drew) : (Code.region id ops true).wp P Q a w :=
  wp_region_any hm (wpAny_of_z _ _ _ _ (h hS (closed_none _)))
/-- Number i is taken first: it reads alone, under S. -/
theorem zgo_take {fuel : Nat} {listed : Array Bool} {a : Act} {w : World} (i : Nat) {oi : Oper} {v : Value} (hi : ops.toList[i]? = some oi)
    (hs : Region.noSelect ops = true) (hf : Region.free md ops listed i = true) (hr : (Region.ready md ops listed).contains i = true) (hz : (z != i && waitsB md ops i ops.size z) = true)
    (hQ : ∀ c a w, Q (.panic c) (a.put oi.dst v) w → Q (.panic c) a w) (hw : Region.wanted oi (yielded ops a.tmps) = true) (hy : ∀ w, S w → (execOp a.eval oi).run P w = .ok (.value v) w) (hS : S w)
    (h : ZGo P md ops Q S z fuel (listed.setIfInBounds i true) (a.put oi.dst v) w) : ZGo P md ops Q S z (fuel + 1) listed a w := fun hc => by
  rw [Array.getElem?_toList] at hi
  rw [Bool.and_eq_true, bne_iff_ne] at hz
  have hr' : i ∈ Region.ready md ops listed := by simpa using hr
  exact wpAnyZ_first hi (Region.noSelect_spec hs) hQ hz.1 hz.2 fuel listed a w hc (Region.free_spec hi hf) hr' (Or.inl ⟨hw, hy⟩) hS (h (hc.set hr'))
/-- What may come up next, one by one. -/
def ZAll (P : Program) (md : Region.Mode) (ops : Array Oper) (Q : Exit → Act → World → Prop) (S : World → Prop) (z fuel : Nat) (listed : Array Bool) (a : Act) (w : World) (rs : List Nat) : Prop :=
  ∀ i ∈ rs, i ∈ Region.ready md ops listed → Closed md ops listed → wpOp P ops Q i (fun a' w' => (i ≠ z → S w') ∧ wpAnyZ P md ops Q S z fuel (listed.setIfInBounds i true) a' w') a w
theorem ZAll.nil {fuel : Nat} {listed : Array Bool} {a : Act} {w : World} : ZAll P md ops Q S z fuel listed a w [] := fun _ h => by cases h
theorem ZAll.cons {fuel : Nat} {listed : Array Bool} {a : Act} {w : World} {i : Nat} {o : Oper} {rs : List Nat} (ho : ops.toList[i]? = some o)
    (hs : ∀ K' : Act → World → Prop, Shut (∀ a w, S w → (S w → ZGo P md ops Q S z fuel (listed.setIfInBounds i true) a w) → K' a w) → if Region.wanted o (yielded ops a.tmps) = true then Oper.wp P o a w K' Q else K' (a.put o.dst undef) w)
    (h : ZAll P md ops Q S z fuel listed a w rs) : ZAll P md ops Q S z fuel listed a w (i :: rs) := fun j hj hr hc => by
  rcases List.mem_cons.1 hj with rfl | hj
  · rw [Array.getElem?_toList] at ho
    exact wpOp_step ho fun K' hK => hs K' fun a w hS hW => hK a w ⟨fun _ => hS, hW hS (hc.set hr)⟩
  · exact h j hj hr hc
theorem zgo_ready {fuel : Nat} {listed : Array Bool} {a : Act} {w : World} (rs : List Nat) (hr : Region.ready md ops listed = rs) (hne : rs ≠ []) (h : ZAll P md ops Q S z fuel listed a w rs) : ZGo P md ops Q S z (fuel + 1) listed a w :=
  fun hc => ⟨fun e => absurd (hr ▸ e) hne, fun i hi => h i (hr ▸ hi) hi hc⟩
/-- The last one. -/
theorem zgo_last {fuel : Nat} {listed : Array Bool} {a : Act} {w : World} {o : Oper} (hr : Region.ready md ops listed = [z]) (hl : Region.ready md ops (listed.setIfInBounds z true) = []) (ho : ops.toList[z]? = some o)
    (hs : ∀ K' : Act → World → Prop, Shut (∀ a w, Q .normal a w → K' a w) → if Region.wanted o (yielded ops a.tmps) = true then Oper.wp P o a w K' Q else K' (a.put o.dst undef) w) : ZGo P md ops Q S z (fuel + 1) listed a w := fun _ => by
  refine ⟨fun e => absurd (hr ▸ e) (by simp), fun i hi => ?_⟩
  rw [hr] at hi
  rw [List.mem_singleton.1 hi]
  rw [Array.getElem?_toList] at ho
  refine wpOp_step ho fun K' hK => hs K' fun a w hQ => hK a w ⟨fun e => absurd rfl e, ?_⟩
  cases fuel with
  | zero => exact ⟨hl, hQ⟩
  | succ n => exact ⟨fun _ => hQ, by rw [hl]; simp⟩
end
end Go.Proofs.YtahohmdbiiknoaaGreatDoor
