/- Layer 11: the begin of an element. -/
import Derived.Test.YtkgjbamkinfmeaaGreatDoorBR12
namespace Go.Proofs.YtkgjbamkinfmeaaGreatDoor
open Go.RowKit

set_option maxRecDepth 100000 in
set_option maxHeartbeats 1000000 in
theorem begin11_two (B R : Nat) (c : RC) (k : Nat) (s : Sc) (P : List (Tk × Value)) (w : World) (h : RdM w B R c k s P) (hk : k ≤ c.l.length) (h1 : s.rooted = true) (h2 : s.opn = []) :
    Calls Tryz.prog 118 #[.pointer (some ⟨R, 0, none⟩)] w (ErrPost w B R c.l synV fun _ => True) := by
  have c3 := h.rd.c3
  have c4 := h.rd.c4
  rw [h.rt, h1] at c3
  obtain ⟨a4, e4, hv⟩ := own_form h.opn
  rw [hv, h2] at c4
  have hend := Lib.hid (ErrPost.mk (B := B) (v := synV) (Q := fun _ => True) rfl hk trivial h.rd (Below.refl B w))
  clear h
  replace hv := Lib.hid hv
  replace h2 := Lib.hid h2
  replace h1 := Lib.hid h1
  go_enter Tryz.func118, Tryz.ntmps118
  go_wp2_with fail
  go_ret
  exact hend.out

set_option maxRecDepth 100000 in
set_option maxHeartbeats 1000000 in
theorem begin11_deep (B R : Nat) (c : RC) (k : Nat) (s : Sc) (P : List (Tk × Value)) (w : World) (h : RdM w B R c k s P) (hk : k ≤ c.l.length) (h1 : ¬ (s.rooted = true ∧ s.opn = [])) (h2 : c.dep ≤ s.opn.length) (_ho : s.opn.length ≤ 1000000) :
    Calls Tryz.prog 118 #[.pointer (some ⟨R, 0, none⟩)] w (ErrPost w B R c.l deepV fun k' => k' = k) := by
  have c2 := h.rd.c2
  have c3 := h.rd.c3
  have c4 := h.rd.c4
  obtain ⟨a4, e4, hv⟩ := own_form h.opn
  rw [hv] at c4
  rw [h.rt] at c3
  have hend' := Lib.hid (fun n : Nat => ErrPost.mk (w := w) (B := B) (v := deepV) (Q := fun k' => k' = k) rfl hk rfl (h.below (Drawn.below (drawn_drewN w n) _)).rd (Drawn.below (drawn_drewN w n) _))
  clear h
  have hd : decide (c.dep ≤ (s.opn.length : Int)) = true := by rw [decide_eq_true_eq]; exact h2
  have h0 : s.rooted = true → ((s.opn.length : Int) == 0) = false := by
    intro e
    rw [beq_eq_false_iff_ne]
    intro e2
    exact h1 ⟨e, List.length_eq_zero_iff.1 (by omega)⟩
  replace hv := Lib.hid hv
  generalize s.opn.length = L at *
  replace h1 := Lib.hid h1
  cases hr : s.rooted
  all_goals
    rw [hr] at c3 h0
    replace hr := Lib.hid hr
    have h0 := h0
    go_enter Tryz.func118, Tryz.ntmps118
    go_wp2_with fail
    go_quiet (fail)
    go_wp2_with fail
    go_ret
    exact hend'.out _

/-- What begin comes to, where an element may stand. -/
def BeginPost (w : World) (B R : Nat) (l : List UInt8) (dep : Int) (k : Nat) (s : Sc) : Option ((List UInt8 × List At × Bool) × Nat) → Ending → World → Prop
  | some ((nm, a, true), n) => NilPost w B R l dep (k + 1 + n) ⟨true, s.opn, [], addT s.text s.toks ⟨3, nm, a, []⟩⟩
  | some ((nm, a, false), n) => NilPost w B R l dep (k + 1 + n) ⟨true, s.opn ++ [nm], [], addT s.text s.toks ⟨1, nm, a, []⟩⟩
  | none => ErrPost w B R l synV fun _ => True
theorem BeginPost.no {w w' : World} {B R : Nat} {l : List UInt8} {dep : Int} {k : Nat} {s : Sc} {o : Option ((List UInt8 × List At × Bool) × Nat)} {e : Ending} (ho : o = none) (h : ErrPost w B R l synV (fun _ => True) e w') : BeginPost w B R l dep k s o e w' := by subst ho; exact h
theorem BeginPost.empty {w w' : World} {B R : Nat} {l : List UInt8} {dep : Int} {k n : Nat} {s : Sc} {nm : List UInt8} {a : List At} {o : Option ((List UInt8 × List At × Bool) × Nat)} {e : Ending} (ho : o = some ((nm, a, true), n)) (h : NilPost w B R l dep (k + 1 + n) ⟨true, s.opn, [], addT s.text s.toks ⟨3, nm, a, []⟩⟩ e w') : BeginPost w B R l dep k s o e w' := by subst ho; exact h
theorem BeginPost.start {w w' : World} {B R : Nat} {l : List UInt8} {dep : Int} {k n : Nat} {s : Sc} {nm : List UInt8} {a : List At} {o : Option ((List UInt8 × List At × Bool) × Nat)} {e : Ending} (ho : o = some ((nm, a, false), n)) (h : NilPost w B R l dep (k + 1 + n) ⟨true, s.opn ++ [nm], [], addT s.text s.toks ⟨1, nm, a, []⟩⟩ e w') : BeginPost w B R l dep k s o e w' := by subst ho; exact h
theorem attrsP_le {d : List UInt8} {l : List At} {n : Nat} (h : attrsP d = some (l, n)) : n ≤ d.length := by
  unfold attrsP at h
  have h1 := loopK_le attrsF_steps [] d 0
  cases e : loopK attrsF [] d 0 with
  | mk o y =>
    rw [e] at h h1
    cases o with
    | some _ => cases h
    | none =>
      obtain ⟨y1, y2⟩ := y
      simp only at h h1
      injection h with h
      injection h with _ h
      subst h
      have := spanN_le blI (d.drop y2)
      rw [List.length_drop] at this
      omega
theorem decide_eq_len (L : Nat) (h : L ≠ 0) : ((L : Int) == 0) = false := by rw [beq_eq_false_iff_ne]; omega

set_option maxRecDepth 100000 in
set_option maxHeartbeats 4000000 in
theorem begin11_go (B R : Nat) (c : RC) (k : Nat) (s : Sc) (P : List (Tk × Value)) (w : World) (h : RdM w B R c k s P) (hk : k < c.l.length) (hl : c.l.length ≤ 100000) (h1 : ¬ (s.rooted = true ∧ s.opn = [])) (h2 : ¬ c.dep ≤ s.opn.length) (ho : s.opn.length ≤ 1000000) (hb : s.toks.length ≤ 1000000) :
    Calls Tryz.prog 118 #[.pointer (some ⟨R, 0, none⟩)] w (BeginPost w B R c.l c.dep k s (beginP (c.l.drop (k + 1)))) := by
  have c2 := h.rd.c2
  have c3 := h.rd.c3
  have c4 := h.rd.c4
  obtain ⟨a4, e4, hv⟩ := own_form h.opn
  rw [hv] at c4
  rw [h.rt] at c3
  have hd : decide (c.dep ≤ (s.opn.length : Int)) = false := by rw [decide_eq_false_iff_not]; exact h2
  have h0 : s.rooted = true → ((s.opn.length : Int) == 0) = false := fun e => decide_eq_len _ fun e2 => h1 ⟨e, List.length_eq_zero_iff.1 e2⟩
  have hP := show beginP (c.l.drop (k + 1)) = _ from by unfold beginP; rfl
  simp only [List.drop_drop] at hP
  generalize hoo : beginP (c.l.drop (k + 1)) = o at hP
  replace hoo := Lib.hid hoo
  replace hP := Lib.hid hP
  have c1 := h.rd.c1
  have f3 := h.rd.fz 3
  have f1 := h.rd.fz 1
  have hcut : ∀ n : Nat, Hid (RdM (((w.drewN n).setCell ⟨R, 3, none⟩ (.bool true)).setCell ⟨R, 1, none⟩ (.int .i64 ((k : Int) + 1))) B R { c with rt := true } (k + 1) { s with rooted := true } P ∧ Below B w (((w.drewN n).setCell ⟨R, 3, none⟩ (.bool true)).setCell ⟨R, 1, none⟩ (.int .i64 ((k : Int) + 1)))) := by
    intro n
    have hA := (h.below (Drawn.below (drawn_drewN w n) _)).root
    have hB := hA.1.move (k + 1) (x := (k : Int) + 1) (by omega)
    exact ⟨hB.1, ((Drawn.below (drawn_drewN w n) _).trans hA.2).trans hB.2⟩
  replace h := Lib.hid h
  replace h1 := Lib.hid h1
  replace h2 := Lib.hid h2
  replace hv := Lib.hid hv
  obtain ⟨L, hL⟩ : ∃ L, s.opn.length = L := ⟨_, rfl⟩
  rw [hL] at c4 hd h0 ho
  replace hL := Lib.hid hL
  obtain ⟨r, hr⟩ : ∃ r, s.rooted = r := ⟨_, rfl⟩
  rw [hr] at c3 h0
  replace hr := Lib.hid hr
  cases r
  all_goals
    go_enter Tryz.func118, Tryz.ntmps118
    go_wp2_with fail
    go_quiet (fail)
    go_wp2_with fail
    obtain ⟨m1, b1⟩ := (hcut nq).out
    clear hcut c1 c2 c3 c4 f1 f3
    generalize ((w.drewN nq).setCell ⟨R, 3, none⟩ (.bool true)).setCell ⟨R, 1, none⟩ (.int .i64 ((k : Int) + 1)) = W at m1 b1 ⊢
    have hname : Calls _ _ _ _ (Str11Post W R { c with rt := true } (k + 1) (nameP (c.l.drop (k + 1)))) := name11m_any R _ (k + 1) W m1.rd (by show k + 1 ≤ c.l.length; omega) hl
    have hle := fun x n => nameP_le (d := c.l.drop (k + 1)) (x := x) (n := n)
    rw [List.length_drop] at hle
    replace m1 := Lib.hid m1
    replace b1 := Lib.hid b1
    generalize hno : nameP (c.l.drop (k + 1)) = no at hname hle
    replace hno := Lib.hid hno
    cases no with
    | none =>
      clear hle
      refine hname.mono ?_; rintro e w1 ⟨rfl, k1, hk1, r1, t1⟩
      clear hname
      have hend := Lib.hid (ErrPost.mk (B := B) (v := synV) (Q := fun _ => True) (w := w) rfl hk1 trivial r1 (b1.out.trans (m1.out.toTurned t1)))
      replace r1 := Lib.hid r1
      replace t1 := Lib.hid t1
      go_wp2_with fail
      go_ret
      exact BeginPost.no (hP.out.trans (by rw [hno.out])) hend.out
    | some y =>
      obtain ⟨nm, n⟩ := y
      obtain ⟨l1, l2, e1, e2⟩ := hle nm n rfl
      clear e1 e2 hle
      refine hname.mono ?_; rintro e w1 ⟨rfl, r1, t1⟩
      have m2 := m1.out.call r1 t1
      have b2 := b1.out.trans (m1.out.toTurned t1)
      clear hname m1 b1 r1 t1
      go_wp2_with fail
      have hattrs : Calls _ _ _ _ (AttrsPost w1 R { c with rt := true } (k + 1 + n) (attrsP (c.l.drop (k + 1 + n)))) := attrs11_any R _ (k + 1 + n) w1 m2.rd (by show k + 1 + n ≤ c.l.length; omega) hl
      have hle := fun x n' => attrsP_le (d := c.l.drop (k + 1 + n)) (l := x) (n := n')
      rw [List.length_drop] at hle
      have hb2 := m2.base
      replace m2 := Lib.hid m2
      replace b2 := Lib.hid b2
      generalize hao : attrsP (c.l.drop (k + 1 + n)) = ao at hattrs hle
      replace hao := Lib.hid hao
      cases ao with
      | none =>
        clear hle
        refine hattrs.mono ?_; rintro e w2 ⟨rfl, k2, hk2, r2, t2⟩
        clear hattrs
        have hend := Lib.hid (ErrPost.mk (B := B) (v := synV) (Q := fun _ => True) (w := w) rfl hk2 trivial r2 (b2.out.trans (m2.out.toTurned t2)))
        replace r2 := Lib.hid r2
        replace t2 := Lib.hid t2
        go_wp2_with fail
        go_ret
        exact BeginPost.no (hP.out.trans (by rw [hno.out]; simp only [hao.out])) hend.out
      | some y =>
        obtain ⟨al, m⟩ := y
        have hml := hle al m rfl
        clear hle
        refine hattrs.mono ?_; rintro e w2 ⟨va, rfl, a2⟩
        have m3 := m2.out.call a2.rd a2.turned
        have b3 := b2.out.trans (m2.out.toTurned a2.turned)
        have hats : Ats w2 B va al := ownsRow_mono a2.ats hb2
        clear hattrs m2 b2 a2
        obtain ⟨aa, ac, rfl⟩ := own_form hats
        replace b3 := Lib.hid b3
        go_wp2_with fail
        refine (take11_any R _ (k + 1 + n + m) [47, 62] w2 m3.rd (by show k + 1 + n + m ≤ c.l.length; omega) hl).mono ?_; rintro e w3 ⟨rfl, r3, t3⟩
        have hats3 := ownsRow_turned hats t3 fun b hb e => own_ne_arr hats m3.rd (Ne.symm t_attr) (by rw [hb]; exact congrArg some e)
        have m4 := m3.call r3 t3
        have b4 := b3.out.trans (m3.toTurned t3)
        clear m3 b3 r3 t3 hats
        replace hats3 := Lib.hid hats3
        replace b4 := Lib.hid b4
        change RdM w3 B R { c with rt := true } (if Lib.hasPrefix (c.l.drop (k + 1 + n + m)) [47, 62] = true then k + 1 + n + m + 2 else k + 1 + n + m) _ P at m4
        show _
        simp only
        cases hp : Lib.hasPrefix (c.l.drop (k + 1 + n + m)) [47, 62]
        · rw [hp, if_neg (by decide)] at m4
          replace hp := Lib.hid hp
          replace m4 := Lib.hid m4
          go_wp2_with fail
          refine (take11_any R _ (k + 1 + n + m) [62] w3 m4.out.rd (by show k + 1 + n + m ≤ c.l.length; omega) hl).mono ?_; rintro e w4 ⟨rfl, r4, t4⟩
          have hats4 := ownsRow_turned hats3.out t4 fun b hb e => own_ne_arr hats3.out m4.out.rd (Ne.symm t_attr) (by rw [hb]; exact congrArg some e)
          have m5 := m4.out.call r4 t4
          have b5 := b4.out.trans (m4.out.toTurned t4)
          clear m4 b4 r4 t4 hats3
          replace hats4 := Lib.hid hats4
          replace b5 := Lib.hid b5
          change RdM w4 B R { c with rt := true } (if Lib.hasPrefix (c.l.drop (k + 1 + n + m)) [62] = true then k + 1 + n + m + 1 else k + 1 + n + m) _ P at m5
          simp only
          cases hp2 : Lib.hasPrefix (c.l.drop (k + 1 + n + m)) [62]
          · rw [hp2, if_neg (by decide)] at m5
            replace hp2 := Lib.hid hp2
            have hend := Lib.hid (ErrPost.mk (B := B) (v := synV) (Q := fun _ => True) (w := w) (l := c.l) (c' := { c with rt := true }) rfl (show k + 1 + n + m ≤ c.l.length by omega) trivial m5.rd b5.out)
            replace m5 := Lib.hid m5
            go_wp2_with fail
            go_ret
            exact BeginPost.no (hP.out.trans (by rw [hno.out]; simp only [← Nat.add_assoc, hao.out, hp.out, hp2.out]; rfl)) hend.out
          · rw [hp2, if_pos rfl] at m5
            replace hp2 := Lib.hid hp2
            replace m5 := Lib.hid m5
            go_wp2_with fail
            refine (add11_any B R _ (k + 1 + n + m + 1) _ P ⟨1, nm, al, []⟩ (.slice aa al.length ac) w4 m5.out hats4.out (by rw [m5.out.plen]; exact hb)).mono ?_
            rintro e w5 ⟨rfl, ⟨c', P', e1, e2, e3, m6⟩, b6⟩
            have d4 := m6.rd.c4
            have g4 := m6.rd.fz 4
            have hb6 := m6.base
            have hoL : ({ s with rooted := true, text := [], toks := addT s.text s.toks ⟨1, nm, al, []⟩ } : Sc).opn.length ≤ 1000000 := by show s.opn.length ≤ _; rw [hL.out]; exact ho
            replace m6 := Lib.hid m6
            go_wp2_with (at_builtin; go_must (refine wpList_appendk rfl _ _ 68 9 rfl Tryz.underlying68 (.string ⟨#[]⟩) 1 16 info_str rfl (by decide) (by decide) B _ s.opn.length (s.opn.map strV) [strV nm] rfl m6.out.opn rfl rfl (by intro u hu; simp at hu; subst hu; rfl) (by rw [hL.out]; omega) hb6 ?_))
            intro v7 w7 hown7 hgr7 hwh7
            obtain ⟨a7, e7, rfl⟩ := own_form hown7.out
            have r7 := m6.out.rd.turned (Turned.of_grown (S := fun b => c'.vO.ownBlock = some b) hgr7.out fun _ e => e) (own_ne_arr m6.out.opn m6.out.rd t_str)
            have hfin := m6.out.opens (o1 := s.opn ++ [nm]) (show Strs _ _ _ _ from by rw [Strs, List.length_append, List.map_append]; exact hown7.out) hgr7.out
            have d7 := r7.c4
            have g7 := r7.fz 4
            have hend := Lib.hid (NilPost.mk (w := w) (c' := { c' with vO := .slice a7 (s.opn.length + 1) e7 }) e1 e2 hfin.1 ((b5.out.trans b6).trans hfin.2))
            clear hwh7 hgr7 hown7
            replace r7 := Lib.hid r7
            replace hfin := Lib.hid hfin
            replace b6 := Lib.hid b6
            clear d4 g4
            go_wp2_with fail
            go_ret
            exact BeginPost.start (n := n + m + 1) (hP.out.trans (by rw [hno.out]; simp only [← Nat.add_assoc, hao.out, hp.out, hp2.out]; rfl)) (by rw [show k + 1 + (n + m + 1) = k + 1 + n + m + 1 by omega]; exact hend.out)
        · rw [hp, if_pos rfl] at m4
          replace hp := Lib.hid hp
          replace m4 := Lib.hid m4
          go_wp2_with fail
          refine (add11_any B R _ (k + 1 + n + m + 2) _ P ⟨3, nm, al, []⟩ (.slice aa al.length ac) w3 m4.out hats3.out (by rw [m4.out.plen]; exact hb)).mono ?_
          rintro e w5 ⟨rfl, ⟨c', P', e1, e2, e3, m5⟩, b5⟩
          have hend := Lib.hid (NilPost.mk (w := w) e1 e2 m5 (b4.out.trans b5))
          replace m5 := Lib.hid m5
          replace b5 := Lib.hid b5
          go_wp2_with fail
          go_ret
          exact BeginPost.empty (n := n + m + 2) (hP.out.trans (by rw [hno.out]; simp only [← Nat.add_assoc, hao.out, hp.out]; rfl)) (by rw [show k + 1 + (n + m + 2) = k + 1 + n + m + 2 by omega]; exact hend.out)
end Go.Proofs.YtkgjbamkinfmeaaGreatDoor

/- Layer 11: gap, step. -/
namespace Go.Proofs.YtkgjbamkinfmeaaGreatDoor
open Go.RowKit

section
variable {σ ε : Type}
theorem loopK_inv {f : σ → List UInt8 → Rs σ ε} (h : Steps f) {I : σ → Nat → Prop} (hi : ∀ s d s' n k, f s d = .go s' n → I s k → I s' (k + n)) : ∀ s d k, I s k → I (loopK f s d k).2.1 (loopK f s d k).2.2 := by
  refine loopK_ind h (P := fun s d => ∀ k, I s k → I (loopK f s d k).2.1 (loopK f s d k).2.2) ?_ ?_ ?_
  · intro s d x e k hk; rw [loopK_bad k e]; exact hk
  · intro s d e k hk; rw [loopK_stop k e]; exact hk
  · intro s d s' n e ih k hk; rw [loopK_go h k e]; exact ih _ (hi s d s' n k e hk)
end
theorem runF_len {ends acc d acc' : List UInt8} {n : Nat} (h : runF ends acc d = .go acc' n) : acc'.length ≤ acc.length + 4 * n := by
  cases d with
  | nil => cases h
  | cons c t =>
    rw [runF] at h
    split at h
    · cases h
    · split at h
      · injection h with h1 h; subst h h1; simp
      · revert h
        cases e : refP (c :: t) with
        | none => intro h; cases h
        | some y =>
          obtain ⟨x, m⟩ := y
          intro h
          injection h with h1 h
          subst h h1
          have := refP_bd e
          simp; omega
theorem runP_len {ends d x : List UInt8} {n : Nat} (h : runP ends d = some (x, n)) : x.length ≤ 4 * n := by
  unfold runP at h
  have h1 := loopK_inv (runF_steps ends) (I := fun s k => s.length ≤ 4 * k) (fun s d s' n k e hk => by have := runF_len e; omega) [] d 0 (by simp)
  cases e : loopK (runF ends) [] d 0 with
  | mk o y =>
    rw [e] at h h1
    cases o with
    | some _ => cases h
    | none =>
      obtain ⟨y1, y2⟩ := y
      injection h with h
      injection h with h2 h
      subst h h2
      exact h1
theorem untilP_bd {p bar d x : List UInt8} {n : Nat} (h : untilP p bar d = some (x, n)) : x.length ≤ d.length ∧ n ≤ d.length := by
  unfold untilP at h
  have hr := Lib.index_room d p
  split at h
  · cases h
  · split at h
    · cases h
    · injection h with h
      injection h with h1 h
      subst h h1
      rw [List.length_take]
      omega

section
variable {dep : Int} {s : Sc} {d : List UInt8}
theorem docF_nil : docF dep s [] = .bad .fin := by unfold docF; rw [if_pos rfl]
theorem docF_comment (h0 : d ≠ []) (h1 : Lib.hasPrefix d [60, 33, 45, 45] = true) : docF dep s d = match untilP [45, 45, 62] [45, 45] (d.drop 4) with | none => .bad .syn | some (_, n) => .go s (4 + n) := by
  unfold docF; rw [if_neg h0, if_pos h1]; cases untilP [45, 45, 62] [45, 45] (d.drop 4) <;> rfl
theorem docF_two (h0 : d ≠ []) (h1 : Lib.hasPrefix d [60, 33, 45, 45] = false) (h2 : elemB d = true) (h3 : s.rooted = true ∧ s.opn = []) : docF dep s d = .bad .syn := by
  unfold docF; rw [if_neg h0, if_neg (by rw [h1]; decide), if_pos h2, if_pos h3]
theorem docF_deep (h0 : d ≠ []) (h1 : Lib.hasPrefix d [60, 33, 45, 45] = false) (h2 : elemB d = true) (h3 : ¬ (s.rooted = true ∧ s.opn = [])) (h4 : dep ≤ s.opn.length) : docF dep s d = .bad .deep := by
  unfold docF; rw [if_neg h0, if_neg (by rw [h1]; decide), if_pos h2, if_neg h3, if_pos h4]
theorem docF_begin (h0 : d ≠ []) (h1 : Lib.hasPrefix d [60, 33, 45, 45] = false) (h2 : elemB d = true) (h3 : ¬ (s.rooted = true ∧ s.opn = [])) (h4 : ¬ dep ≤ s.opn.length) : docF dep s d = match beginP (d.drop 1) with
    | none => .bad .syn
    | some ((nm, l, true), n) => .go ⟨true, s.opn, [], addT s.text s.toks ⟨3, nm, l, []⟩⟩ (1 + n)
    | some ((nm, l, false), n) => .go ⟨true, s.opn ++ [nm], [], addT s.text s.toks ⟨1, nm, l, []⟩⟩ (1 + n) := by
  unfold docF; rw [if_neg h0, if_neg (by rw [h1]; decide), if_pos h2, if_neg h3, if_neg h4]
  rcases beginP (d.drop 1) with _ | ⟨⟨nm, l, b⟩, n⟩
  · rfl
  · cases b <;> rfl
theorem docF_gap (h0 : d ≠ []) (h1 : Lib.hasPrefix d [60, 33, 45, 45] = false) (h2 : elemB d = false) (h3 : s.opn = []) : docF dep s d = if spanN blI d = 0 then .bad .syn else .go s (spanN blI d) := by
  unfold docF; rw [if_neg h0, if_neg (by rw [h1]; decide), if_neg (by rw [h2]; decide), if_pos h3]
theorem docF_end (h0 : d ≠ []) (h1 : Lib.hasPrefix d [60, 33, 45, 45] = false) (h2 : elemB d = false) (h3 : s.opn ≠ []) (h4 : Lib.hasPrefix d [60, 47] = true) : docF dep s d = match endP (s.opn.getLastD []) (d.drop 2) with
    | none => .bad .syn
    | some n => .go ⟨s.rooted, s.opn.dropLast, [], addT s.text s.toks ⟨2, s.opn.getLastD [], [], []⟩⟩ (2 + n) := by
  unfold docF; rw [if_neg h0, if_neg (by rw [h1]; decide), if_neg (by rw [h2]; decide), if_neg h3, if_pos h4]
  cases endP (s.opn.getLastD []) (d.drop 2) <;> rfl
theorem docF_cdata (h0 : d ≠ []) (h1 : Lib.hasPrefix d [60, 33, 45, 45] = false) (h2 : elemB d = false) (h3 : s.opn ≠ []) (h4 : Lib.hasPrefix d [60, 47] = false) (h5 : Lib.hasPrefix d [60, 33, 91, 67, 68, 65, 84, 65, 91] = true) : docF dep s d = match untilP [93, 93, 62] [93, 93, 62] (d.drop 9) with
    | none => .bad .syn
    | some (x, n) => .go ⟨s.rooted, s.opn, s.text ++ x, s.toks⟩ (9 + n) := by
  unfold docF; rw [if_neg h0, if_neg (by rw [h1]; decide), if_neg (by rw [h2]; decide), if_neg h3, if_neg (by rw [h4]; decide), if_pos h5]
  cases untilP [93, 93, 62] [93, 93, 62] (d.drop 9) <;> rfl
theorem docF_lt (h0 : d ≠ []) (h1 : Lib.hasPrefix d [60, 33, 45, 45] = false) (h2 : elemB d = false) (h3 : s.opn ≠ []) (h4 : Lib.hasPrefix d [60, 47] = false) (h5 : Lib.hasPrefix d [60, 33, 91, 67, 68, 65, 84, 65, 91] = false) (h6 : Lib.hasPrefix d [60] = true) : docF dep s d = .bad .syn := by
  unfold docF; rw [if_neg h0, if_neg (by rw [h1]; decide), if_neg (by rw [h2]; decide), if_neg h3, if_neg (by rw [h4]; decide), if_neg (by rw [h5]; decide), if_pos h6]
theorem docF_run (h0 : d ≠ []) (h1 : Lib.hasPrefix d [60, 33, 45, 45] = false) (h2 : elemB d = false) (h3 : s.opn ≠ []) (h4 : Lib.hasPrefix d [60, 47] = false) (h5 : Lib.hasPrefix d [60, 33, 91, 67, 68, 65, 84, 65, 91] = false) (h6 : Lib.hasPrefix d [60] = false) : docF dep s d = match runP [60] d with
    | none => .bad .syn
    | some (x, n) => .go ⟨s.rooted, s.opn, s.text ++ x, s.toks⟩ n := by
  unfold docF; rw [if_neg h0, if_neg (by rw [h1]; decide), if_neg (by rw [h2]; decide), if_neg h3, if_neg (by rw [h4]; decide), if_neg (by rw [h5]; decide), if_neg (by rw [h6]; decide)]
  cases runP [60] d <;> rfl
end
/-- What lies there of the program's own variables: the library's number, and the error that tells the text's end. -/
structure Env (w : World) (B : Nat) (A : Addr) : Prop where
  maxl : MaxL w
  ende : w.cell? ⟨2, 0, none⟩ = some (.iface 224 (.pointer (some A)))
  lowm : 5 < B
  lowe : 2 < B
theorem Env.below {w w' : World} {B : Nat} {A : Addr} (h : Env w B A) (hb : Below B w w') : Env w' B A := by
  obtain ⟨m, hm⟩ := h.maxl
  exact ⟨⟨m, (hb.cell (p := ⟨5, 0, none⟩) h.lowm).trans hm⟩, (hb.cell (p := ⟨2, 0, none⟩) h.lowe).trans h.ende, h.lowm, h.lowe⟩
def endV (A : Addr) : Value := .iface 224 (.pointer (some A))
/-- What step comes to. -/
def StepPost (w : World) (B R : Nat) (l : List UInt8) (dep : Int) (k : Nat) (s : Sc) (A : Addr) : Rs Sc Flt → Ending → World → Prop
  | .go s' n, e, w' => NilPost w B R l dep (k + n) s' e w'
  | .bad .fin, e, w' => e = .returned (endV A) ∧ (∃ c' P', c'.l = l ∧ c'.dep = dep ∧ RdM w' B R c' k s P') ∧ Below B w w'
  | .bad .syn, e, w' => ErrPost w B R l synV (fun _ => True) e w'
  | .bad .deep, e, w' => ErrPost w B R l deepV (fun k' => k' = k) e w'
  | .stop, _, _ => False
section
variable {w w' : World} {B R : Nat} {l : List UInt8} {dep : Int} {k : Nat} {s s' : Sc} {A : Addr} {o : Rs Sc Flt} {e : Ending}
theorem StepPost.go {n : Nat} (ho : o = .go s' n) (h : NilPost w B R l dep (k + n) s' e w') : StepPost w B R l dep k s A o e w' := by subst ho; exact h
theorem StepPost.syn (ho : o = .bad .syn) (h : ErrPost w B R l synV (fun _ => True) e w') : StepPost w B R l dep k s A o e w' := by subst ho; exact h
theorem StepPost.deep (ho : o = .bad .deep) (h : ErrPost w B R l deepV (fun k' => k' = k) e w') : StepPost w B R l dep k s A o e w' := by subst ho; exact h
theorem NilPost.from {w0 : World} (hb : Below B w0 w) (h : NilPost w B R l dep k s e w') : NilPost w0 B R l dep k s e w' := ⟨h.1, h.2.1, hb.trans h.2.2⟩
theorem ErrPost.from {w0 : World} {v : Value} {Q : Nat → Prop} (hb : Below B w0 w) (h : ErrPost w B R l v Q e w') : ErrPost w0 B R l v Q e w' := ⟨h.1, h.2.1, hb.trans h.2.2⟩
end

theorem gap11_any (R : Nat) (c : RC) (k : Nat) (w : World) (h : Rd w R c k) (hk : k ≤ c.l.length) (hl : c.l.length ≤ 100000) :
    Calls Tryz.prog 119 #[.pointer (some ⟨R, 0, none⟩)] w fun e w' => e = .returned (if 0 < spanN blI (c.l.drop k) then .nilIface else synV) ∧ Rd w' R c (k + spanN blI (c.l.drop k)) ∧ Turned (fun b => b = R) w w' := by
  have hbl := blanks11_any R c k w h hk hl
  clear h
  by_cases h0 : 0 < spanN blI (c.l.drop k)
  · rw [decide_eq_true h0] at hbl
    rw [if_pos h0]
    replace hbl := Lib.hid hbl
    replace h0 := Lib.hid h0
    go_enter Tryz.func119, Tryz.ntmps119
    go_wp2_with fail
    refine hbl.out.mono ?_; rintro e w1 ⟨rfl, r1, t1⟩
    replace r1 := Lib.hid r1
    replace t1 := Lib.hid t1
    go_wp2_with fail
    go_ret
    exact ⟨rfl, r1.out, t1.out⟩
  · rw [decide_eq_false h0] at hbl
    rw [if_neg h0]
    replace hbl := Lib.hid hbl
    replace h0 := Lib.hid h0
    go_enter Tryz.func119, Tryz.ntmps119
    go_wp2_with fail
    refine hbl.out.mono ?_; rintro e w1 ⟨rfl, r1, t1⟩
    replace r1 := Lib.hid r1
    replace t1 := Lib.hid t1
    go_wp2_with fail
    go_ret
    exact ⟨rfl, r1.out, t1.out⟩
end Go.Proofs.YtkgjbamkinfmeaaGreatDoor
