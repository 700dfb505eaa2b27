/- Layer 11: step. -/
import Derived.Test.YtkgjbamkinfmeaaGreatDoorBR13
import Derived.Test.YtkgjbamkinfmeaaGreatDoorBR01
import Derived.Test.YtkgjbamkinfmeaaGreatDoorBR03
namespace Go.Proofs.YtkgjbamkinfmeaaGreatDoor
open Go.RowKit

set_option maxRecDepth 100000 in
set_option maxHeartbeats 4000000 in
theorem step11_any (B R : Nat) (c : RC) (k : Nat) (s : Sc) (P : List (Tk × Value)) (A : Addr) (w : World) (hE : Env w B A) (h : RdM w B R c k s P) (hk : k ≤ c.l.length) (hl : c.l.length ≤ 100000) (ho : s.opn.length ≤ 1000000) (hb : s.toks.length ≤ 1000000) (ht : s.text.length ≤ 500000) :
    Calls Tryz.prog 82 #[.pointer (some ⟨R, 0, none⟩)] w (StepPost w B R c.l c.dep k s A (docF c.dep s (c.l.drop k))) := by
  have c0 := h.rd.c0
  have c1 := h.rd.c1
  have hende := hE.ende
  by_cases hlt : k < c.l.length
  case neg =>
    have hke : c.l.length = k := by omega
    have hd : c.l.drop k = [] := List.drop_eq_nil_of_le (by omega)
    rw [hd, docF_nil]
    have hend : ∀ n : Nat, Hid (StepPost w B R c.l c.dep k s A (.bad .fin) (.returned (endV A)) (w.drewN n)) := fun n =>
      ⟨rfl, ⟨c, P, rfl, rfl, h.below (Drawn.below (drawn_drewN w n) _)⟩, Drawn.below (drawn_drewN w n) _⟩
    have heq : ((k : Int) == (c.l.length : Int)) = true := by rw [beq_iff_eq]; omega
    replace hke := Lib.hid hke
    replace hd := Lib.hid hd
    replace h := Lib.hid h
    replace hE := Lib.hid hE
    go_enter Tryz.func82, Tryz.ntmps82
    go_wp2_with fail
    go_quiet (fail)
    go_wp2_with fail
    go_ret
    exact (hend _).out
  have heq : ((k : Int) == (c.l.length : Int)) = false := by rw [beq_eq_false_iff_ne]; omega
  have hd0 : c.l.drop k ≠ [] := by intro e; have := congrArg List.length e; rw [List.length_drop] at this; simp at this; omega
  have hne : ¬ ((k : Int) = c.l.length) := by omega
  obtain ⟨o, hoo⟩ : ∃ o, docF c.dep s (c.l.drop k) = o := ⟨_, rfl⟩
  rw [hoo]
  replace hoo := Lib.hid hoo
  replace hd0 := Lib.hid hd0
  have hq0 : ∀ n : Nat, Hid (RdM (w.drewN n) B R c k s P ∧ Below B w (w.drewN n) ∧ Env (w.drewN n) B A) := fun n =>
    ⟨h.below (Drawn.below (drawn_drewN w n) _), Drawn.below (drawn_drewN w n) _, hE.below (Drawn.below (drawn_drewN w n) _)⟩
  clear h hE hende
  go_enter Tryz.func82, Tryz.ntmps82
  go_wp2_with fail
  go_quiet (fail)
  go_wp2_with fail
  obtain ⟨m0, b0, E0⟩ := (hq0 nq).out
  clear hq0 c0 c1
  generalize w.drewN nq = W at m0 b0 E0 ⊢
  replace b0 := Lib.hid b0
  refine (take11_any R c k [60, 33, 45, 45] W m0.rd hk hl).mono ?_; rintro e w1 ⟨rfl, r1, t1⟩
  have m1 := m0.call r1 t1
  have b1 := b0.out.trans (m0.toTurned t1)
  have E1 := E0.below (m0.toTurned t1)
  clear m0 b0 r1 t1 E0
  replace b1 := Lib.hid b1
  cases hp1 : Lib.hasPrefix (c.l.drop k) [60, 33, 45, 45]
  case true =>
    rw [hp1, if_pos rfl] at m1
    have hpl := prefix_len hp1
    rw [List.length_drop] at hpl
    have hdoc := docF_comment (dep := c.dep) (s := s) hd0.out hp1
    rw [List.drop_drop] at hdoc
    replace hdoc := Lib.hid hdoc
    replace hp1 := Lib.hid hp1
    have hpl2 : k + 4 ≤ c.l.length := by simp at hpl; omega
    clear hpl
    have hun := until11_any R c (k + 4) [45, 45, 62] [45, 45] w1 E1.maxl m1.rd hpl2 hl
    have hbd := fun x n => untilP_bd (p := [45, 45, 62]) (bar := [45, 45]) (d := c.l.drop (k + 4)) (x := x) (n := n)
    rw [List.length_drop] at hbd
    generalize hu : untilP [45, 45, 62] [45, 45] (c.l.drop (k + 4)) = u at hun hbd
    replace hu := Lib.hid hu
    replace m1 := Lib.hid m1
    replace E1 := Lib.hid E1
    replace hun := Lib.hid hun
    cases u with
    | none =>
      clear hbd
      go_wp2_with fail
      refine hun.out.mono ?_; rintro e w2 ⟨rfl, k2, hk2, r2, t2⟩
      have hend := Lib.hid (ErrPost.mk (B := B) (v := synV) (Q := fun _ => True) (w := w) rfl hk2 trivial r2 (b1.out.trans (m1.out.toTurned t2)))
      replace r2 := Lib.hid r2
      replace t2 := Lib.hid t2
      go_wp2_with fail
      go_ret
      exact StepPost.syn (hoo.out.symm.trans (hdoc.out.trans (by rw [hu.out]))) hend.out
    | some y =>
      obtain ⟨x, n⟩ := y
      have hbd := hbd x n rfl
      go_wp2_with fail
      refine hun.out.mono ?_; rintro e w2 ⟨rfl, r2, t2⟩
      have m2 := m1.out.call r2 t2
      have hend := Lib.hid (NilPost.mk (w := w) (dep := c.dep) rfl rfl m2 (b1.out.trans (m1.out.toTurned t2)))
      replace m2 := Lib.hid m2
      replace r2 := Lib.hid r2
      replace t2 := Lib.hid t2
      go_wp2_with fail
      go_ret
      exact StepPost.go (n := 4 + n) (hoo.out.symm.trans (hdoc.out.trans (by rw [hu.out]))) (by rw [← Nat.add_assoc]; exact hend.out)
  rw [hp1, if_neg (by decide)] at m1
  replace hp1 := Lib.hid hp1
  replace E1 := Lib.hid E1
  replace m1 := Lib.hid m1
  go_wp2_with fail
  refine (atElement11_any R c k w1 m1.out.rd hk hl).mono ?_; rintro e w2 ⟨rfl, n2, rfl⟩
  have m2 := m1.out.below (Drawn.below (drawn_drewN w1 n2) _)
  have b2 := b1.out.trans (Drawn.below (drawn_drewN w1 n2) _)
  have E2 := E1.out.below (Drawn.below (drawn_drewN w1 n2) _)
  clear m1 b1 E1
  generalize w1.drewN n2 = W2 at m2 b2 E2 ⊢
  replace b2 := Lib.hid b2
  replace E2 := Lib.hid E2
  cases hel : elemB (c.l.drop k)
  case true =>
    by_cases hx3 : s.rooted = true ∧ s.opn = []
    · have hbeg := begin11_two B R c k s P W2 m2 hk hx3.1 hx3.2
      have hdoc := docF_two (dep := c.dep) (s := s) hd0.out hp1.out hel hx3
      replace hdoc := Lib.hid hdoc
      replace hel := Lib.hid hel
      replace hx3 := Lib.hid hx3
      replace m2 := Lib.hid m2
      replace hbeg := Lib.hid hbeg
      go_wp2_with fail
      refine hbeg.out.mono ?_; rintro e w3 ⟨rfl, hq, hb3⟩
      replace hq := Lib.hid hq
      replace hb3 := Lib.hid hb3
      go_wp2_with fail
      go_ret
      exact StepPost.syn (hoo.out.symm.trans hdoc.out) ⟨rfl, hq.out, b2.out.trans hb3.out⟩
    by_cases hx4 : c.dep ≤ s.opn.length
    · have hbeg := begin11_deep B R c k s P W2 m2 hk hx3 hx4 ho
      have hdoc := docF_deep (dep := c.dep) (s := s) hd0.out hp1.out hel hx3 hx4
      replace hdoc := Lib.hid hdoc
      replace hel := Lib.hid hel
      replace hx3 := Lib.hid hx3
      replace hx4 := Lib.hid hx4
      replace m2 := Lib.hid m2
      replace hbeg := Lib.hid hbeg
      go_wp2_with fail
      refine hbeg.out.mono ?_; rintro e w3 ⟨rfl, hq, hb3⟩
      replace hq := Lib.hid hq
      replace hb3 := Lib.hid hb3
      go_wp2_with fail
      go_ret
      exact StepPost.deep (hoo.out.symm.trans hdoc.out) ⟨rfl, hq.out, b2.out.trans hb3.out⟩
    have hbeg := begin11_go B R c k s P W2 m2 hlt hl hx3 hx4 ho hb
    have hdoc := docF_begin (dep := c.dep) (s := s) hd0.out hp1.out hel hx3 hx4
    rw [List.drop_drop] at hdoc
    generalize hbo : beginP (c.l.drop (k + 1)) = bo at hbeg hdoc
    replace hbo := Lib.hid hbo
    replace hdoc := Lib.hid hdoc
    replace hel := Lib.hid hel
    replace hx3 := Lib.hid hx3
    replace hx4 := Lib.hid hx4
    replace m2 := Lib.hid m2
    replace hbeg := Lib.hid hbeg
    rcases bo with _ | ⟨⟨nm, al, b⟩, n⟩
    · go_wp2_with fail
      refine hbeg.out.mono ?_; rintro e w3 ⟨rfl, hq, hb3⟩
      replace hq := Lib.hid hq
      replace hb3 := Lib.hid hb3
      go_wp2_with fail
      go_ret
      exact StepPost.syn (hoo.out.symm.trans hdoc.out) ⟨rfl, hq.out, b2.out.trans hb3.out⟩
    cases b
    all_goals
      go_wp2_with fail
      refine hbeg.out.mono ?_; rintro e w3 ⟨rfl, hq, hb3⟩
      replace hq := Lib.hid hq
      replace hb3 := Lib.hid hb3
      go_wp2_with fail
      go_ret
      exact StepPost.go (n := 1 + n) (hoo.out.symm.trans hdoc.out) ⟨rfl, by rw [← Nat.add_assoc]; exact hq.out, b2.out.trans hb3.out⟩
  replace hel := Lib.hid hel
  have c4 := m2.rd.c4
  obtain ⟨a4, e4, hv⟩ := own_form m2.opn
  rw [hv] at c4
  replace hv := Lib.hid hv
  replace m2 := Lib.hid m2
  by_cases hop : s.opn = []
  · have h0 : s.opn.length = 0 := by rw [hop]; rfl
    rw [h0] at c4
    have hdoc := docF_gap (dep := c.dep) (s := s) hd0.out hp1.out hel.out hop
    have hgap := gap11_any R c k W2 m2.out.rd hk hl
    have hsp := spanN_le blI (c.l.drop k)
    rw [List.length_drop] at hsp
    generalize spanN blI (c.l.drop k) = bn at hgap hdoc hsp
    replace h0 := Lib.hid h0
    replace hop := Lib.hid hop
    replace hgap := Lib.hid hgap
    replace hdoc := Lib.hid hdoc
    go_wp2_with fail
    refine hgap.out.mono ?_; rintro e w3 ⟨rfl, r3, t3⟩
    have m3 := m2.out.call r3 t3
    have b3 := b2.out.trans (m2.out.toTurned t3)
    replace m3 := Lib.hid m3
    replace b3 := Lib.hid b3
    clear r3 t3
    by_cases hb0 : 0 < bn
    · rw [if_pos hb0]
      go_wp2_with fail
      go_ret
      exact StepPost.go (n := bn) (hoo.out.symm.trans (hdoc.out.trans (if_neg (by omega)))) (NilPost.mk rfl rfl m3.out b3.out)
    · rw [if_neg hb0]
      go_wp2_with fail
      go_ret
      exact StepPost.syn (hoo.out.symm.trans (hdoc.out.trans (if_pos (by omega)))) (ErrPost.mk rfl (by omega) trivial m3.out.rd b3.out)
  obtain ⟨op, nm, hs, hlast, hdrop⟩ := snoc_of ([] : List UInt8) hop
  have hlo : s.opn.length = op.length + 1 := by rw [hs]; simp
  have hlen0 : ((s.opn.length : Int) == 0) = false := by rw [beq_eq_false_iff_ne]; omega
  have hol : op.length ≤ 1000000 := by omega
  replace hs := Lib.hid hs
  replace hop := Lib.hid hop
  replace hlast := Lib.hid hlast
  replace hdrop := Lib.hid hdrop
  replace hlo := Lib.hid hlo
  go_wp2_with fail
  refine (take11_any R c k [60, 47] W2 m2.out.rd hk hl).mono ?_; rintro e w3 ⟨rfl, r3, t3⟩
  have m3 := m2.out.call r3 t3
  have b3 := b2.out.trans (m2.out.toTurned t3)
  have E3 := E2.out.below (m2.out.toTurned t3)
  clear m2 b2 E2 r3 t3 c4 hlen0
  replace b3 := Lib.hid b3
  replace E3 := Lib.hid E3
  cases hp3 : Lib.hasPrefix (c.l.drop k) [60, 47]
  case true =>
    rw [hp3, if_pos rfl] at m3
    have hpl := prefix_len hp3
    rw [List.length_drop] at hpl
    have hpl2 : k + 2 ≤ c.l.length := by simp at hpl; omega
    clear hpl
    have hdoc := docF_end (dep := c.dep) (s := s) hd0.out hp1.out hel.out hop.out hp3
    rw [List.drop_drop, hlast.out, hdrop.out] at hdoc
    have hen := end11_any B R c (k + 2) s P op nm w3 hs.out m3 hpl2 hl hb hol
    generalize heo : endP nm (c.l.drop (k + 2)) = eo at hen hdoc
    replace heo := Lib.hid heo
    replace hp3 := Lib.hid hp3
    replace m3 := Lib.hid m3
    replace hen := Lib.hid hen
    replace hdoc := Lib.hid hdoc
    cases eo with
    | none =>
      go_wp2_with fail
      refine hen.out.mono ?_; rintro e w4 ⟨rfl, hq, hb4⟩
      replace hq := Lib.hid hq
      replace hb4 := Lib.hid hb4
      go_wp2_with fail
      go_ret
      exact StepPost.syn (hoo.out.symm.trans hdoc.out) ⟨rfl, hq.out, b3.out.trans hb4.out⟩
    | some n =>
      go_wp2_with fail
      refine hen.out.mono ?_; rintro e w4 ⟨rfl, hq, hb4⟩
      replace hq := Lib.hid hq
      replace hb4 := Lib.hid hb4
      go_wp2_with fail
      go_ret
      exact StepPost.go (n := 2 + n) (hoo.out.symm.trans hdoc.out) ⟨rfl, by rw [← Nat.add_assoc]; exact hq.out, b3.out.trans hb4.out⟩
  rw [hp3, if_neg (by decide)] at m3
  replace hp3 := Lib.hid hp3
  replace m3 := Lib.hid m3
  go_wp2_with fail
  refine (take11_any R c k [60, 33, 91, 67, 68, 65, 84, 65, 91] w3 m3.out.rd hk hl).mono ?_; rintro e w4 ⟨rfl, r4, t4⟩
  have m4 := m3.out.call r4 t4
  have b4 := b3.out.trans (m3.out.toTurned t4)
  have E4 := E3.out.below (m3.out.toTurned t4)
  clear m3 b3 E3 r4 t4
  replace b4 := Lib.hid b4
  cases hp4 : Lib.hasPrefix (c.l.drop k) [60, 33, 91, 67, 68, 65, 84, 65, 91]
  case true =>
    rw [hp4, if_pos rfl] at m4
    have hpl := prefix_len hp4
    rw [List.length_drop] at hpl
    have hpl2 : k + 9 ≤ c.l.length := by simp at hpl; omega
    clear hpl
    have hdoc := docF_cdata (dep := c.dep) (s := s) hd0.out hp1.out hel.out hop.out hp3.out hp4
    rw [List.drop_drop] at hdoc
    have hun := until11_any R c (k + 9) [93, 93, 62] [93, 93, 62] w4 E4.maxl m4.rd hpl2 hl
    have hbd := fun x n => untilP_bd (p := [93, 93, 62]) (bar := [93, 93, 62]) (d := c.l.drop (k + 9)) (x := x) (n := n)
    rw [List.length_drop] at hbd
    generalize hu : untilP [93, 93, 62] [93, 93, 62] (c.l.drop (k + 9)) = u at hun hbd hdoc
    replace hu := Lib.hid hu
    replace m4 := Lib.hid m4
    replace E4 := Lib.hid E4
    replace hun := Lib.hid hun
    replace hp4 := Lib.hid hp4
    replace hdoc := Lib.hid hdoc
    cases u with
    | none =>
      clear hbd
      go_wp2_with fail
      refine hun.out.mono ?_; rintro e w5 ⟨rfl, k5, hk5, r5, t5⟩
      have m5 := m4.out.call r5 t5
      have b5 := b4.out.trans (m4.out.toTurned t5)
      clear r5 t5
      replace m5 := Lib.hid m5
      replace b5 := Lib.hid b5
      go_wp2_with fail
      refine (keep11_any B R c k5 s P [] synV w5 m5.out (by simp; omega)).mono ?_; rintro e w6 ⟨rfl, ⟨v1, m6⟩, b6⟩
      replace m6 := Lib.hid m6
      replace b6 := Lib.hid b6
      go_wp2_with fail
      go_ret
      exact StepPost.syn (hoo.out.symm.trans hdoc.out) (ErrPost.mk (c' := { c with vT := v1 }) rfl hk5 trivial m6.out.rd (b5.out.trans b6.out))
    | some y =>
      obtain ⟨x, n⟩ := y
      have hbd := hbd x n rfl
      go_wp2_with fail
      refine hun.out.mono ?_; rintro e w5 ⟨rfl, r5, t5⟩
      have m5 := m4.out.call r5 t5
      have b5 := b4.out.trans (m4.out.toTurned t5)
      clear r5 t5
      replace m5 := Lib.hid m5
      replace b5 := Lib.hid b5
      go_wp2_with fail
      refine (keep11_any B R c (k + 9 + n) s P x .nilIface w5 m5.out (by omega)).mono ?_; rintro e w6 ⟨rfl, ⟨v1, m6⟩, b6⟩
      replace m6 := Lib.hid m6
      replace b6 := Lib.hid b6
      go_wp2_with fail
      go_ret
      exact StepPost.go (n := 9 + n) (hoo.out.symm.trans hdoc.out) (NilPost.mk (c' := { c with vT := v1 }) rfl rfl (by rw [← Nat.add_assoc]; exact m6.out) (b5.out.trans b6.out))
  rw [hp4, if_neg (by decide)] at m4
  replace hp4 := Lib.hid hp4
  replace m4 := Lib.hid m4
  replace E4 := Lib.hid E4
  go_wp2_with fail
  refine (has11_any R c k [60] w4 m4.out.rd hk hl).mono ?_; rintro e w5 ⟨rfl, n5, rfl⟩
  have m5 := m4.out.below (Drawn.below (drawn_drewN w4 n5) _)
  have b5 := b4.out.trans (Drawn.below (drawn_drewN w4 n5) _)
  clear m4 b4 E4
  generalize w4.drewN n5 = W5 at m5 b5 ⊢
  replace b5 := Lib.hid b5
  cases hp5 : Lib.hasPrefix (c.l.drop k) [60]
  case true =>
    have hdoc := docF_lt (dep := c.dep) (s := s) hd0.out hp1.out hel.out hop.out hp3.out hp4.out hp5
    replace hdoc := Lib.hid hdoc
    replace hp5 := Lib.hid hp5
    replace m5 := Lib.hid m5
    go_wp2_with fail
    go_ret
    exact StepPost.syn (hoo.out.symm.trans hdoc.out) (ErrPost.mk rfl hk trivial m5.out.rd b5.out)
  have hdoc := docF_run (dep := c.dep) (s := s) hd0.out hp1.out hel.out hop.out hp3.out hp4.out hp5
  have hrun := run11_any R c k [60] W5 m5.rd hk hl
  have hrl := fun x n => runP_len (ends := [60]) (d := c.l.drop k) (x := x) (n := n)
  have hle := fun x n => runP_le (ends := [60]) (d := c.l.drop k) (x := x) (n := n)
  rw [List.length_drop] at hle
  generalize hro : runP [60] (c.l.drop k) = ro at hrun hrl hle hdoc
  replace hro := Lib.hid hro
  replace hp5 := Lib.hid hp5
  replace m5 := Lib.hid m5
  replace hrun := Lib.hid hrun
  replace hdoc := Lib.hid hdoc
  cases ro with
  | none =>
    clear hle hrl
    go_wp2_with fail
    refine hrun.out.mono ?_; rintro e w6 ⟨rfl, k6, hk6, r6, t6⟩
    have m6 := m5.out.call r6 t6
    have b6 := b5.out.trans (m5.out.toTurned t6)
    clear r6 t6
    replace m6 := Lib.hid m6
    replace b6 := Lib.hid b6
    go_wp2_with fail
    refine (keep11_any B R c k6 s P [] synV w6 m6.out (by simp; omega)).mono ?_; rintro e w7 ⟨rfl, ⟨v1, m7⟩, b7⟩
    replace m7 := Lib.hid m7
    replace b7 := Lib.hid b7
    go_wp2_with fail
    go_ret
    exact StepPost.syn (hoo.out.symm.trans hdoc.out) (ErrPost.mk (c' := { c with vT := v1 }) rfl hk6 trivial m7.out.rd (b6.out.trans b7.out))
  | some y =>
    obtain ⟨x, n⟩ := y
    have hrl := hrl x n rfl
    have hle := hle x n rfl
    go_wp2_with fail
    refine hrun.out.mono ?_; rintro e w6 ⟨rfl, r6, t6⟩
    have m6 := m5.out.call r6 t6
    have b6 := b5.out.trans (m5.out.toTurned t6)
    clear r6 t6
    replace m6 := Lib.hid m6
    replace b6 := Lib.hid b6
    go_wp2_with fail
    refine (keep11_any B R c (k + n) s P x .nilIface w6 m6.out (by omega)).mono ?_; rintro e w7 ⟨rfl, ⟨v1, m7⟩, b7⟩
    replace m7 := Lib.hid m7
    replace b7 := Lib.hid b7
    go_wp2_with fail
    go_ret
    exact StepPost.go (n := n) (hoo.out.symm.trans hdoc.out) (NilPost.mk (c' := { c with vT := v1 }) rfl rfl m7.out (b6.out.trans b7.out))
end Go.Proofs.YtkgjbamkinfmeaaGreatDoor

/- Layer 11: head. -/
namespace Go.Proofs.YtkgjbamkinfmeaaGreatDoor
open Go.RowKit

/-- What head comes to. -/
def HeadPost (w : World) (R : Nat) (c : RC) : Option Nat → Ending → World → Prop
  | some n, e, w' => e = .returned .nilIface ∧ n ≤ c.l.length ∧ Rd w' R c n ∧ Turned (fun b => b = R) w w'
  | none, e, w' => e = .returned synV ∧ ∃ k, k ≤ c.l.length ∧ Rd w' R c k ∧ Turned (fun b => b = R) w w'
theorem HeadPost.ok {w w' : World} {R : Nat} {c : RC} {n : Nat} {o : Option Nat} {e : Ending} (ho : o = some n) (h : e = .returned .nilIface ∧ n ≤ c.l.length ∧ Rd w' R c n ∧ Turned (fun b => b = R) w w') : HeadPost w R c o e w' := by subst ho; exact h
theorem HeadPost.no {w w' : World} {R : Nat} {c : RC} {o : Option Nat} {e : Ending} (ho : o = none) (h : e = .returned synV ∧ ∃ k, k ≤ c.l.length ∧ Rd w' R c k ∧ Turned (fun b => b = R) w w') : HeadPost w R c o e w' := by subst ho; exact h
theorem headP_eq (l : List UInt8) (m : Nat) (hm : (if Lib.hasPrefix l [239, 187, 191] then 3 else 0) = m) : headP l = if Lib.hasPrefix (l.drop m) [60, 63, 120, 109, 108] then
    if spanN blI (l.drop (m + 5)) = 0 then none else
    match untilP [63, 62] [63, 62] (l.drop (m + 5 + spanN blI (l.drop (m + 5)))) with
    | none => none
    | some (_, n) => some (m + 5 + spanN blI (l.drop (m + 5)) + n)
  else some m := by
  unfold headP
  rw [hm]
  simp only
  split
  · split
    · rfl
    · cases untilP [63, 62] [63, 62] (l.drop (m + 5 + spanN blI (l.drop (m + 5)))) <;> rfl
  · rfl

set_option maxHeartbeats 1000000 in
theorem head11_any (R : Nat) (c : RC) (w : World) (hm : MaxL w) (hml : 5 < R) (h : Rd w R c 0) (hl : c.l.length ≤ 100000) :
    Calls Tryz.prog 81 #[.pointer (some ⟨R, 0, none⟩)] w (HeadPost w R c (headP c.l)) := by
  have hmx : ∀ W, Turned (fun b => b = R) w W → MaxL W := by
    intro W hW
    obtain ⟨m, hm⟩ := hm
    have hlt : 5 < w.heap.size := by have := h.lt; omega
    refine ⟨m, ?_⟩
    have hne : ¬ (5 = R) := by omega
    rw [World.cell?_of_block (a := ⟨5, 0, none⟩) (hW.block _ hlt hne)]
    exact hm
  obtain ⟨o, hoo⟩ : ∃ o, headP c.l = o := ⟨_, rfl⟩
  rw [hoo]
  obtain ⟨m, hmm⟩ : ∃ m, (if Lib.hasPrefix c.l [239, 187, 191] then 3 else 0) = m := ⟨_, rfl⟩
  have hP := headP_eq c.l m hmm
  rw [hoo] at hP
  replace hoo := Lib.hid hoo
  have hml2 : m ≤ c.l.length := by
    rw [← hmm]
    split
    · rename_i hp; exact prefix_len hp
    · exact Nat.zero_le _
  have r0 := Lib.hid h
  clear h
  replace hmx := Lib.hid hmx
  replace hm := Lib.hid hm
  go_enter Tryz.func81, Tryz.ntmps81
  replace hP := Lib.hid hP
  replace hmm := Lib.hid hmm
  go_wp2_with fail
  refine (take11_any R c 0 [239, 187, 191] w r0.out (Nat.zero_le _) hl).mono ?_; rintro e w1 ⟨rfl, r1, t1⟩
  rw [List.drop_zero] at r1 ⊢
  have r1' : Rd w1 R c m := by
    have := r1
    rw [← hmm.out]
    cases hp : Lib.hasPrefix c.l [239, 187, 191] <;> rw [hp] at this <;> exact this
  clear r1
  replace r1' := Lib.hid r1'
  replace t1 := Lib.hid t1
  generalize Lib.hasPrefix c.l [239, 187, 191] = bb
  have hgo : ∀ bq : Bool, bq = bb → True := fun _ _ => trivial
  clear hgo
  go_wp2_with fail
  all_goals
    refine (take11_any R c m [60, 63, 120, 109, 108] w1 r1'.out hml2 hl).mono ?_; rintro e w2 ⟨rfl, r2, t2⟩
    have t2 := turned2 t1.out t2
    cases hp2 : Lib.hasPrefix (c.l.drop m) [60, 63, 120, 109, 108]
    · rw [hp2, if_neg (by decide)] at r2
      replace hp2 := Lib.hid hp2
      replace r2 := Lib.hid r2
      replace t2 := Lib.hid t2
      go_wp2_with fail
      go_ret
      exact HeadPost.ok (hP.out.trans (by rw [if_neg (by rw [hp2.out]; decide)])) ⟨rfl, hml2, r2.out, t2.out⟩
    rw [hp2, if_pos rfl] at r2
    have hpl := prefix_len hp2
    rw [List.length_drop] at hpl
    have hpl2 : m + 5 ≤ c.l.length := by simp at hpl; omega
    clear hpl
    replace hp2 := Lib.hid hp2
    replace t2 := Lib.hid t2
    have hbl := blanks11_any R c (m + 5) w2 r2 hpl2 hl
    have hsp := spanN_le blI (c.l.drop (m + 5))
    rw [List.length_drop] at hsp
    obtain ⟨bn, hbn⟩ : ∃ bn, spanN blI (c.l.drop (m + 5)) = bn := ⟨_, rfl⟩
    rw [hbn] at hbl hsp
    replace hbn := Lib.hid hbn
    replace r2 := Lib.hid r2
    by_cases hb0 : 0 < bn
    · rw [decide_eq_true hb0] at hbl
      replace hbl := Lib.hid hbl
      go_wp2_with fail
      refine hbl.out.mono ?_; rintro e w3 ⟨rfl, r3, t3⟩
      have t3 := turned2 t2.out t3
      have hun := until11_any R c (m + 5 + bn) [63, 62] [63, 62] w3 (hmx.out _ t3) r3 (by omega) hl
      have hbd := fun x n => untilP_bd (p := [63, 62]) (bar := [63, 62]) (d := c.l.drop (m + 5 + bn)) (x := x) (n := n)
      rw [List.length_drop] at hbd
      generalize hu : untilP [63, 62] [63, 62] (c.l.drop (m + 5 + bn)) = u at hun hbd
      replace hu := Lib.hid hu
      replace r3 := Lib.hid r3
      replace t3 := Lib.hid t3
      replace hun := Lib.hid hun
      cases u with
      | none =>
        clear hbd
        go_wp2_with fail
        refine hun.out.mono ?_; rintro e w4 ⟨rfl, k4, hk4, r4, t4⟩
        have t4 := turned2 t3.out t4
        replace r4 := Lib.hid r4
        replace t4 := Lib.hid t4
        go_wp2_with fail
        go_ret
        exact HeadPost.no (hP.out.trans (by rw [if_pos hp2.out, hbn.out, if_neg (by omega), hu.out])) ⟨rfl, k4, hk4, r4.out, t4.out⟩
      | some y =>
        obtain ⟨x, n⟩ := y
        have hbd := hbd x n rfl
        go_wp2_with fail
        refine hun.out.mono ?_; rintro e w4 ⟨rfl, r4, t4⟩
        have t4 := turned2 t3.out t4
        replace r4 := Lib.hid r4
        replace t4 := Lib.hid t4
        go_wp2_with fail
        go_ret
        exact HeadPost.ok (hP.out.trans (by rw [if_pos hp2.out, hbn.out, if_neg (by omega), hu.out])) ⟨rfl, by omega, r4.out, t4.out⟩
    · rw [decide_eq_false hb0] at hbl
      replace hbl := Lib.hid hbl
      go_wp2_with fail
      refine hbl.out.mono ?_; rintro e w3 ⟨rfl, r3, t3⟩
      have t3 := turned2 t2.out t3
      replace r3 := Lib.hid r3
      replace t3 := Lib.hid t3
      go_wp2_with fail
      go_ret
      exact HeadPost.no (hP.out.trans (by rw [if_pos hp2.out, hbn.out, if_pos (by omega)])) ⟨rfl, m + 5 + bn, by omega, r3.out, t3.out⟩
end Go.Proofs.YtkgjbamkinfmeaaGreatDoor

/- The walks of utf.follow, utf.cut, utf.Next and of the reference's lead and Next. -/
namespace Go.Proofs.YtkgjbamkinfmeaaGreatDoor
open Go.RowKit

theorem fl_ret {c x y z : Int} (h : fl c = (x, y, z)) : Ending.returned (.tuple #[.int .i64 x, .int .u8 y, .int .u8 z]) = .returned (.tuple #[.int .i64 (fl c).1, .int .u8 (fl c).2.1, .int .u8 (fl c).2.2]) := by rw [h]

set_option maxHeartbeats 400000 in
theorem follow_any (c : Int) (w : World) (h0 : 0 ≤ c) (h1 : c ≤ 255) :
    Calls Tryz.prog 162 #[.int .u8 c] w fun e w' => e = .returned (.tuple #[.int .i64 (fl c).1, .int .u8 (fl c).2.1, .int .u8 (fl c).2.2]) ∧ w = w' := by
  go_enter Tryz.func162, Tryz.ntmps162
  go_wp2
  all_goals go_ret3
  all_goals refine ⟨fl_ret ?_, rfl⟩
  all_goals try simp only [beq_iff_eq, beq_eq_false_iff_ne, ne_eq] at *
  all_goals (unfold fl; repeat (first | rw [if_pos (by omega)] | rw [if_neg (by omega)]))

set_option maxHeartbeats 400000 in
theorem reflead_any (c : Int) (w : World) (h0 : 0 ≤ c) (h1 : c ≤ 255) :
    Calls Tryz.prog 76 #[.int .u8 c] w fun e w' => e = .returned (.tuple #[.int .i64 (fl c).1, .int .u8 (fl c).2.1, .int .u8 (fl c).2.2]) ∧ w = w' := by
  go_enter Tryz.func76, Tryz.ntmps76
  go_wp2
  all_goals go_ret3
  all_goals refine ⟨fl_ret ?_, rfl⟩
  all_goals try simp only [beq_iff_eq, beq_eq_false_iff_ne, ne_eq] at *
  all_goals (unfold fl; repeat (first | rw [if_pos (by omega)] | rw [if_neg (by omega)]))

/-- What a loop over the bytes behind a lead keeps. -/
structure CutAt (l : List UInt8) (n : Int) (k : Nat) (lo hi r : Int) : Prop where
  one : 1 ≤ k
  kn : (k : Int) ≤ n + 1
  kl : k ≤ l.length
  lo0 : 0 ≤ lo
  lo1 : lo ≤ 255
  hi0 : 0 ≤ hi
  hi1 : hi ≤ 255
  r0 : 0 ≤ r
  r1 : (k = 1 ∧ r < 32) ∨ (k = 2 ∧ r < 2048) ∨ (k = 3 ∧ r < 131072) ∨ (k = 4 ∧ r < 8388608)
  go : cutGo l n (5 - k) k lo hi r = cutS l

theorem CutAt.step {l : List UInt8} {n : Int} {k : Nat} {lo hi r : Int} (h : CutAt l n k lo hi r) (hn : n ≤ 3) (h0 : (k : Int) ≤ n) (h1 : ¬ ((k : Int) = l.length)) (h2 : lo ≤ bt l k) (h3 : bt l k ≤ hi) :
    CutAt l n (k + 1) 128 191 (r * 64 + bt l k % 64) := by
  have hkl := h.kl
  have hr := h.r1
  have hr0 := h.r0
  refine ⟨by omega, by omega, by omega, by omega, by omega, by omega, by omega, by omega, by omega, ?_⟩
  rw [← h.go, cutGo_step h0 (by omega) (by omega) h2 h3]
theorem CutAt.bad {l : List UInt8} {n : Int} {k : Nat} {lo hi r : Int} (h : CutAt l n k lo hi r) (hn : n ≤ 3) (h0 : (k : Int) ≤ n) (h1 : (k : Int) = l.length ∨ bt l k < lo ∨ hi < bt l k) :
    cutS l = (65533, (k : Int), false) := by
  rw [← h.go, cutGo_bad h0 (by omega) (by omega)]
theorem CutAt.out {l : List UInt8} {n : Int} {k : Nat} {lo hi r : Int} (h : CutAt l n k lo hi r) (hn : n ≤ 3) (h0 : (k : Int) ≤ n) (h1 : (k : Int) = l.length) :
    cutS l = (65533, (l.length : Int), false) := by
  rw [h.bad hn h0 (Or.inl h1), h1]
theorem CutAt.done {l : List UInt8} {n : Int} {k : Nat} {lo hi r : Int} (h : CutAt l n k lo hi r) (hn : n ≤ 3) (h0 : n < (k : Int)) :
    cutS l = (r, n + 1, true) := by
  have := h.kn
  rw [← h.go, cutGo_done h0 (by omega)]
theorem CutAt.start {l : List UInt8} {n lo hi : Int} (h0 : l ≠ []) (_hx : 128 ≤ bt l 0) (hf : fl (bt l 0) = (n, lo, hi)) (hn : 1 ≤ n) (r : Int) (hr : r = bt l 0 % (2 ^ (6 - n.toNat) : Nat)) (hr0 : 0 ≤ r) (hr1 : r < 32) : CutAt l n 1 lo hi r := by
  have hl := len_pos h0
  rcases fl_cases (bt l 0) with ⟨hf', hc⟩ | ⟨n', lo', hi', hf', c1, c2, c3, c4, c5, c6, hc⟩
  · rw [hf'] at hf; simp at hf; omega
  rw [hf'] at hf; simp at hf
  obtain ⟨rfl, rfl, rfl⟩ := hf
  refine ⟨by omega, by omega, by omega, by omega, by omega, by omega, by omega, hr0, by omega, ?_⟩
  unfold cutS
  rw [if_neg h0, if_neg (by omega), hf', if_neg (by simp only; omega), ← hr]

theorem cut_ret {l : List UInt8} {x y : Int} {z : Bool} (h : cutS l = (x, y, z)) : Ending.returned (.tuple #[.int .i32 x, .int .i64 y, .bool z]) = .returned (.tuple #[.int .i32 (cutS l).1, .int .i64 (cutS l).2.1, .bool (cutS l).2.2]) := by rw [h]
theorem next_ret {l : List UInt8} {x y : Int} {z : Bool} (h : cutS l = (x, y, z)) : Ending.returned (.tuple #[.int .i32 x, .int .i64 y]) = .returned (.tuple #[.int .i32 (cutS l).1, .int .i64 (cutS l).2.1]) := by rw [h]

theorem cutS_lo {l : List UInt8} (h : l ≠ []) (hx : bt l 0 < 128) : cutS l = (bt l 0, 1, true) := by unfold cutS; rw [if_neg h, if_pos hx]
theorem cutS_not {l : List UInt8} (h : l ≠ []) (hx : 128 ≤ bt l 0) {lo hi : Int} (hf : fl (bt l 0) = (0, lo, hi)) : cutS l = (65533, 1, false) := by unfold cutS; rw [if_neg h, if_neg (by omega), if_pos (by rw [hf])]

set_option maxRecDepth 100000 in
set_option maxHeartbeats 400000 in
theorem cut_any (l : List UInt8) (w : World) (hs : l.length ≤ maxLen) :
    Calls Tryz.prog 124 #[.string ⟨l.toArray⟩] w fun e w' => e = .returned (.tuple #[.int .i32 (cutS l).1, .int .i64 (cutS l).2.1, .bool (cutS l).2.2]) ∧ Drawn w w' := by
  unfold maxLen at hs
  by_cases h0 : l = []
  · subst h0
    go_enter Tryz.func124, Tryz.ntmps124
    go_wp2_with fail
    go_ret3
    exact ⟨rfl, Drawn.refl _⟩
  have hl := len_pos h0
  have he : l.isEmpty = false := by cases l <;> simp_all
  have hb := bt_lt l 0
  replace h0 := Lib.hid h0
  by_cases hx : bt l 0 < 128
  · go_enter Tryz.func124, Tryz.ntmps124
    go_wp2_with fail
    go_ret3
    exact ⟨cut_ret (cutS_lo h0.out hx), Drawn.refl _⟩
  obtain ⟨n, lo, hi, hf⟩ : ∃ n lo hi, fl (bt l 0) = (n, lo, hi) := ⟨_, _, _, rfl⟩
  have hn : n = 0 ∨ n = 1 ∨ n = 2 ∨ n = 3 := by
    rcases fl_cases (bt l 0) with ⟨hf', hc⟩ | ⟨n', lo', hi', hf', c1, c2, c3, c4, c5, c6, hc⟩ <;> (rw [hf] at hf'; simp at hf'; omega)
  replace hf := Lib.hid hf
  obtain ⟨m, hm⟩ : ∃ m : Int, m = n := ⟨n, rfl⟩
  have hm0 : m ≤ n ∧ n ≤ m := by omega
  replace hm := Lib.hid hm
  rcases hn with rfl | rfl | rfl | rfl
  · go_enter Tryz.func124, Tryz.ntmps124
    go_wp2_with fail
    refine (follow_any _ _ (by omega) (by omega)).mono ?_; rintro e w' ⟨rfl, rfl⟩
    rw [hf.out]
    go_wp2_with fail
    go_ret3
    exact ⟨cut_ret (cutS_not h0.out (by omega) hf.out), Drawn.refl _⟩
  all_goals
    go_enter Tryz.func124, Tryz.ntmps124
    go_wp2_with fail
    refine (follow_any _ _ (by omega) (by omega)).mono ?_; rintro e w' ⟨rfl, rfl⟩
    rw [hf.out]
    go_wp2_with fail
    go_quiet (fail)
    go_wp2_with fail
  all_goals
    go_loopw [2, 3, 4, 6, 7, 8] (fun r s3 s4 s6 s7 i wr => ∃ k : Nat, ∃ lo hi rr : Int, CutAt l m k lo hi rr ∧ i = .int .i64 k ∧ s6 = .int .u8 lo ∧ s7 = .int .u8 hi ∧ r = .int .i32 rr ∧ Drawn w wr) (fun _ _ _ _ _ i _ => 4 - (intOf i).toNat)
    case atStart =>
      refine ⟨1, lo, hi, _, ?_, rfl, rfl, rfl, rfl, ⟨_, rfl⟩⟩
      rw [hm.out]
      exact CutAt.start h0.out (by omega) hf.out (by omega) _ rfl (by omega) (by first | omega | (simp; omega))
    case round =>
      obtain ⟨k, lo, hi, rr, hc, rfl, rfl, rfl, rfl, hw⟩ := hrel
      have hbk := bt_lt l k
      obtain ⟨q1, q2, q3, q4, q5, q6, q7, q8, q9, q10⟩ := id hc
      clear q10
      go_wp2
      all_goals rw [hm.out] at hc
      case roundEnd =>
        exact ⟨⟨k + 1, 128, 191, _, hm.out ▸ hc.step (by omega) (by assumption) (by assumption) (by assumption) (by omega), by go_num, rfl, rfl, rfl, hw⟩, by simp [intOf]; omega⟩
      all_goals go_ret3
      all_goals try simp only [beq_iff_eq] at *
      all_goals first
        | exact ⟨cut_ret (hc.done (by omega) (by omega)), hw⟩
        | exact ⟨cut_ret (hc.bad (by omega) (by omega) (by omega)), hw⟩
        | exact ⟨cut_ret (hc.out (by omega) (by omega) (by omega)), hw⟩

set_option maxHeartbeats 400000 in
theorem next_any (l : List UInt8) (w : World) (hs : l.length ≤ maxLen) :
    Calls Tryz.prog 83 #[.string ⟨l.toArray⟩] w fun e w' => e = .returned (.tuple #[.int .i32 (cutS l).1, .int .i64 (cutS l).2.1]) ∧ Drawn w w' := by
  go_enter Tryz.func83, Tryz.ntmps83
  go_wp2_with fail
  refine (cut_any _ _ hs).mono ?_; rintro e w' ⟨rfl, hw⟩
  go_wp2_with fail
  go_ret2
  exact ⟨rfl, hw⟩

set_option maxRecDepth 100000 in
set_option maxHeartbeats 400000 in
theorem refnext_any (l : List UInt8) (w : World) (hs : l.length ≤ maxLen) :
    Calls Tryz.prog 48 #[.string ⟨l.toArray⟩] w fun e w' => e = .returned (.tuple #[.int .i32 (cutS l).1, .int .i64 (cutS l).2.1]) ∧ Drawn w w' := by
  unfold maxLen at hs
  by_cases h0 : l = []
  · subst h0
    go_enter Tryz.func48, Tryz.ntmps48
    go_wp2_with fail
    go_ret2
    exact ⟨rfl, Drawn.refl _⟩
  have hl := len_pos h0
  have he : l.isEmpty = false := by cases l <;> simp_all
  have hb := bt_lt l 0
  replace h0 := Lib.hid h0
  by_cases hx : bt l 0 < 128
  · go_enter Tryz.func48, Tryz.ntmps48
    go_wp2_with fail
    go_ret2
    exact ⟨next_ret (cutS_lo h0.out hx), Drawn.refl _⟩
  obtain ⟨n, lo, hi, hf⟩ : ∃ n lo hi, fl (bt l 0) = (n, lo, hi) := ⟨_, _, _, rfl⟩
  have hn : n = 0 ∨ n = 1 ∨ n = 2 ∨ n = 3 := by
    rcases fl_cases (bt l 0) with ⟨hf', hc⟩ | ⟨n', lo', hi', hf', c1, c2, c3, c4, c5, c6, hc⟩ <;> (rw [hf] at hf'; simp at hf'; omega)
  replace hf := Lib.hid hf
  obtain ⟨m, hm⟩ : ∃ m : Int, m = n := ⟨n, rfl⟩
  have hm0 : m ≤ n ∧ n ≤ m := by omega
  replace hm := Lib.hid hm
  have e1 : bits .and .i32 (bt l 0) 31 = bt l 0 % 32 := bits_mask .i32 31 (by decide) wraps_i32 5 (by decide) _ (by omega) (by omega)
  have e2 : bits .and .i32 (bt l 0) 15 = bt l 0 % 16 := bits_mask .i32 31 (by decide) wraps_i32 4 (by decide) _ (by omega) (by omega)
  have e3 : bits .and .i32 (bt l 0) 7 = bt l 0 % 8 := bits_mask .i32 31 (by decide) wraps_i32 3 (by decide) _ (by omega) (by omega)
  rcases hn with rfl | rfl | rfl | rfl
  · go_enter Tryz.func48, Tryz.ntmps48
    go_wp2_with fail
    refine (reflead_any _ _ (by omega) (by omega)).mono ?_; rintro e w' ⟨rfl, rfl⟩
    rw [hf.out]
    go_wp2_with fail
    go_ret2
    exact ⟨next_ret (cutS_not h0.out (by omega) hf.out), Drawn.refl _⟩
  all_goals
    go_enter Tryz.func48, Tryz.ntmps48
    go_wp2_with fail
    refine (reflead_any _ _ (by omega) (by omega)).mono ?_; rintro e w' ⟨rfl, rfl⟩
    rw [hf.out]
    go_wp2_with fail
  all_goals clear e1 e2 e3
  all_goals
    go_loop [5, 6, 7, 8] (fun s6 s7 r i => ∃ k : Nat, ∃ lo hi rr : Int, CutAt l m k lo hi rr ∧ i = .int .i64 k ∧ s6 = .int .u8 lo ∧ s7 = .int .u8 hi ∧ r = .int .i32 rr) (fun _ _ _ i => 4 - (intOf i).toNat)
    case atStart =>
      refine ⟨1, lo, hi, _, ?_, rfl, rfl, rfl, rfl⟩
      rw [hm.out]
      exact CutAt.start h0.out (by omega) hf.out (by omega) _ rfl (by omega) (by first | omega | (simp; omega))
    case round =>
      obtain ⟨k, lo, hi, rr, hc, rfl, rfl, rfl, rfl⟩ := hrel
      have hbk := bt_lt l k
      obtain ⟨q1, q2, q3, q4, q5, q6, q7, q8, q9, q10⟩ := id hc
      clear q10
      go_wp2
      all_goals rw [hm.out] at hc
      case roundEnd =>
        exact ⟨⟨k + 1, 128, 191, _, hm.out ▸ hc.step (by omega) (by assumption) (by assumption) (by assumption) (by omega), by go_num, rfl, rfl, rfl⟩, by simp [intOf]; omega⟩
      all_goals go_ret2
      all_goals try simp only [beq_iff_eq] at *
      all_goals first
        | exact ⟨next_ret (hc.done (by omega) (by omega)), Drawn.refl _⟩
        | exact ⟨next_ret (hc.bad (by omega) (by omega) (by omega)), Drawn.refl _⟩
        | exact ⟨next_ret (hc.out (by omega) (by omega) (by omega)), Drawn.refl _⟩
end Go.Proofs.YtkgjbamkinfmeaaGreatDoor
