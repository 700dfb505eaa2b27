/- The reference of layer 11: attrs. -/
import Derived.Test.YtahohmdbiiknoaaGreatDoorBR22
import Derived.Test.YtahohmdbiiknoaaGreatDoorBR01
namespace Go.Proofs.YtahohmdbiiknoaaGreatDoor
open Go.RowKit

/-- The reader, and attributes that the call itself makes. -/
structure AsSf (w0 w : World) (R : Nat) (c : SC) (k : Nat) (v : Value) (l : List At) : Prop where
  ats : Ats w w0.heap.size v l
  rd : Sn w R c k
  turned : Turned (fun b => b = R) w0 w
section
variable {w0 w w' : World} {R : Nat} {c : SC} {k : Nat} {v v1 : Value} {l l1 : List At}
theorem AsSf.base (h : AsSf w0 w R c k v l) : w0.heap.size ≤ w.heap.size := h.turned.size
theorem AsSf.call {k' : Nat} (h : Hid (AsSf w0 w R c k v l)) (hs : Sf w w' R c k') : Hid (AsSf w0 w' R c k' v l) :=
  ⟨ownsRow_turned h.out.ats hs.2 fun i hi e => own_ne_arr h.out.ats h.out.rd (Ne.symm t_attr11) (by rw [hi]; exact congrArg some e), hs.1, turned2 h.out.turned hs.2⟩
theorem AsSf.below (h : Hid (AsSf w0 w R c k v l)) (hb : Below w.heap.size w w') : Hid (AsSf w0 w' R c k v l) := AsSf.call h ⟨h.out.rd.below hb, Turned.of_below hb⟩
theorem AsSf.sf (h : Hid (AsSf w0 w R c k v l)) : Hid (Sf w w R c k) := sf_start h.out.rd
theorem AsSf.post (h : Hid (AsSf w0 w R c k v l)) : Sf w0 w R c k := ⟨h.out.rd, h.out.turned⟩
theorem AsSf.put (h : Hid (AsSf w0 w R c k v l)) (ho : Ats w' w0.heap.size v1 l1) (hg : w.grownBy w' v.ownBlock) : Hid (AsSf w0 w' R c k v1 l1) := by
  have h := h.out
  have hT := Turned.of_grown (S := fun b => v.ownBlock = some b) hg fun _ e => e
  refine ⟨ho, h.rd.turned hT (own_ne_arr h.ats h.rd (Ne.symm t_attr11)), h.turned.trans hT fun i hi e => ?_⟩
  have := (World.ownsRow.lt h.ats i e).1
  omega
end
/-- What attrs comes to. -/
def RasPost (w : World) (R : Nat) (c : SC) (k : Nat) : Option ((List At × Bool) × Nat) → Ending → World → Prop
  | some ((l, b), n), e, w' => ∃ v, e = .returned (.tuple #[v, .bool b, .bool true]) ∧ Hid (AsSf w w' R c (k + n) v l)
  | none, e, w' => e = .returned (.tuple #[.slice none 0 0, .bool false, .bool false]) ∧ ∃ k', Sf w w' R c k'
section
variable {w w' : World} {R : Nat} {c : SC} {k k' n : Nat} {l : List At} {b : Bool} {o : Option ((List At × Bool) × Nat)} {e : Ending}
theorem RasPost.ok (ho : o = some ((l, b), n)) (v : Value) (he : e = .returned (.tuple #[v, .bool b, .bool true])) (h : Hid (AsSf w w' R c (k + n) v l)) : RasPost w R c k o e w' := by subst ho; exact ⟨v, he, h⟩
theorem RasPost.no (ho : o = none) (he : e = .returned (.tuple #[.slice none 0 0, .bool false, .bool false])) (h : Sf w w' R c k') : RasPost w R c k o e w' := by subst ho; exact ⟨he, k', h⟩
end
theorem any_no {l : List At} {nm : List UInt8} (h : ∀ j, j < l.length → ((l.getD j ([], [])).1 == nm) = false) : (l.any fun y => y.1 == nm) = false := by
  rw [Bool.eq_false_iff]
  intro ha
  obtain ⟨y, hy, e⟩ := List.any_eq_true.1 ha
  obtain ⟨j, hj, rfl⟩ := List.mem_iff_getElem.1 hy
  have := h j hj
  simp only [List.getD, List.getElem?_eq_getElem hj, Option.getD_some] at this
  rw [this] at e; cases e
theorem any_yes {l : List At} {nm : List UInt8} {j : Nat} (hj : j < l.length) (h : ((l.getD j ([], [])).1 == nm) = true) : (l.any fun y => y.1 == nm) = true :=
  List.any_eq_true.2 ⟨l[j]'hj, List.getElem_mem hj, by simpa [List.getD, hj] using h⟩

set_option maxRecDepth 100000 in
set_option maxHeartbeats 4000000 in
theorem rattrs_any (R : Nat) (c : SC) (k : Nat) (w : World) (h : Sn w R c k) (hk : k ≤ c.l.length) (hl : c.l.length ≤ 100000) :
    Calls Tryz.prog 69 #[.pointer (some ⟨R, 0, none⟩)] w (RasPost w R c k (attrsR (c.l.drop k))) := by
  have r0 : Hid (AsSf w w R c k (.slice none 0 0) []) := ⟨ats_nil _ _, h, Turned.refl _ _⟩
  clear h
  have hdl : (c.l.drop k).length = c.l.length - k := List.length_drop
  replace hdl := Lib.hid hdl
  generalize hoo : attrsR (c.l.drop k) = o
  replace hoo := Lib.hid hoo
  go_enter Tryz.func69, Tryz.ntmps69
  go_wp2_with fail
  go_loopw [5] (fun v wr => ∃ (m : Nat) (l : List At) (a : Option Addr) (q : Nat), v = .slice a l.length q ∧ k ≤ m ∧ m ≤ c.l.length ∧ l.length ≤ 16 ∧ Hid (AsSf w wr R c m (.slice a l.length q) l) ∧ Hid (ArAt (c.l.drop k) (m - k) l)) (fun v wr => c.l.length - (intOf ((wr.cell? ⟨R, 1, none⟩).getD undef)).toNat)
  case atStart => exact ⟨k, [], none, 0, rfl, Nat.le_refl _, hk, by simp, r0, by rw [Nat.sub_self]; exact ArAt.zero _⟩
  case round =>
    clear r0
    obtain ⟨m, l, a, cp, rfl, hkm, hm, hl16, hs, hq⟩ := hrel
    have cM := hs.out.rd.c1
    replace cM := Lib.hid cM
    have hdm : (c.l.drop k).drop (m - k) = c.l.drop m := by rw [List.drop_drop]; congr 1; omega
    have hF := show attrsRF l (c.l.drop m) = _ from by unfold attrsRF; rfl
    simp only [List.drop_drop] at hF
    have hstop := hq.out.stop
    have hbad := hq.out.bad
    have hgo := fun l' n => hq.out.step (l' := l') (n := n)
    have hmk : k + (m - k) = m := by omega
    simp only [List.drop_drop, ← Nat.add_assoc, hmk] at hstop hbad hgo
    rw [hoo.out] at hstop hbad
    have hbd := spanN_le blI (c.l.drop m)
    rw [List.length_drop] at hbd
    go_wp2_with fail
    refine (sf_blanks (AsSf.sf hs) hm hl).mono ?_; rintro e w1 ⟨rfl, r1⟩
    have s1 := AsSf.call hs r1.out
    clear hs r1
    obtain ⟨bn, hbn⟩ : ∃ bn, spanN blI (c.l.drop m) = bn := ⟨_, rfl⟩
    rw [hbn] at hbd s1 hF hstop
    rw [hbn]
    clear hbn
    have hq1 : m + bn ≤ c.l.length := by omega
    replace hstop := Lib.hid hstop
    replace hbad := Lib.hid hbad
    replace hgo := Lib.hid hgo
    replace hF := Lib.hid hF
    go_wp2_with fail
    refine (sf_has (AsSf.sf s1) [62] hq1 hl (by decide)).mono ?_; rintro e w2 ⟨rfl, r2⟩
    have s2 := AsSf.call s1 r2.out
    clear s1 r2
    cases h1 : Lib.hasPrefix (c.l.drop (m + bn)) [62]
    case true =>
      have hP := hstop.out (hF.out.trans (by rw [if_pos h1]))
      rw [if_pos h1] at hP
      have hpl := prefix_len h1
      rw [List.length_drop] at hpl
      have hpl2 : m + bn + 1 ≤ c.l.length := by simp at hpl; omega
      clear hpl
      replace hP := Lib.hid hP
      replace h1 := Lib.hid h1
      have c1 := s2.out.rd.c1
      have f1 := s2.out.rd.fz 1
      have s3 := AsSf.call s2 (sf_put (AsSf.sf s2) (m + bn + 1) (x := ((m + bn : Nat) : Int) + 1) (by omega)).out
      go_wp2_with fail
      refine bodyPost_ret (v := .tuple #[.slice a l.length cp, .bool false, .bool true]) (by simp [results, Tryz.results69, go_sem]) rfl ?_
      exact RasPost.ok (hP.out) _ rfl (by rw [show k + (m - k + bn + 1) = m + bn + 1 by omega]; exact s3)
    case false =>
      replace h1 := Lib.hid h1
      go_wp2_with fail
      refine (sf_has (AsSf.sf s2) [47, 62] hq1 hl (by decide)).mono ?_; rintro e w3 ⟨rfl, r3⟩
      have s3 := AsSf.call s2 r3.out
      clear s2 r3
      cases h2 : Lib.hasPrefix (c.l.drop (m + bn)) [47, 62]
      case true =>
        have hP := hstop.out (hF.out.trans (by rw [if_neg (by rw [h1.out]; decide), if_pos h2]))
        rw [if_neg (by rw [h1.out]; decide), if_pos h2] at hP
        have hpl := prefix_len h2
        rw [List.length_drop] at hpl
        have hpl2 : m + bn + 2 ≤ c.l.length := by simp at hpl; omega
        clear hpl
        replace hP := Lib.hid hP
        replace h2 := Lib.hid h2
        have c1 := s3.out.rd.c1
        have f1 := s3.out.rd.fz 1
        have s4 := AsSf.call s3 (sf_put (AsSf.sf s3) (m + bn + 2) (x := ((m + bn : Nat) : Int) + 2) (by omega)).out
        go_wp2_with fail
        refine bodyPost_ret (v := .tuple #[.slice a l.length cp, .bool true, .bool true]) (by simp [results, Tryz.results69, go_sem]) rfl ?_
        exact RasPost.ok (hP.out) _ rfl (by rw [show k + (m - k + bn + 2) = m + bn + 2 by omega]; exact s4)
      case false =>
        have hF2 := Lib.hid (hF.out.trans (by rw [if_neg (by rw [h1.out]; decide), if_neg (by rw [h2]; decide)]))
        clear hstop
        replace h2 := Lib.hid h2
        by_cases hbn0 : bn = 0
        · have hP := Lib.hid (hbad.out (hF2.out.trans (if_pos (Or.inl hbn0))))
          subst hbn0
          go_wp2_with fail
          refine bodyPost_ret (v := .tuple #[.slice none 0 0, .bool false, .bool false]) (by simp [results, Tryz.results69, go_sem]) rfl ?_
          exact RasPost.no hP.out rfl (AsSf.post s3)
        have hb0 : ((bn : Int) == 0) = false := by rw [beq_eq_false_iff_ne]; omega
        have hb1 : (bn == 0) = false := by rw [beq_eq_false_iff_ne]; omega
        by_cases h16 : l.length = 16
        · have hP := Lib.hid (hbad.out (hF2.out.trans (if_pos (Or.inr h16))))
          have h16' : ((l.length : Int) == 16) = true := by rw [beq_iff_eq]; omega
          have h16'' : (l.length == 16) = true := by rw [beq_iff_eq]; omega
          replace h16 := Lib.hid h16
          replace hbn0 := Lib.hid hbn0
          go_wp2_with fail
          refine bodyPost_ret (v := .tuple #[.slice none 0 0, .bool false, .bool false]) (by simp [results, Tryz.results69, go_sem]) rfl ?_
          exact RasPost.no hP.out rfl (AsSf.post s3)
        have h16' : ((l.length : Int) == 16) = false := by rw [beq_eq_false_iff_ne]; omega
        have h16'' : (l.length == 16) = false := by rw [beq_eq_false_iff_ne]; omega
        have hF3 := Lib.hid (hF2.out.trans (if_neg (by rintro (e | e); exact hbn0 e; exact h16 e)))
        replace hbn0 := Lib.hid hbn0
        go_wp2_with fail
        have hat := rattr_any R c (m + bn) _ s3.out.rd hq1 hl
        have hle := fun x n => attrP_le (d := c.l.drop (m + bn)) (x := x) (n := n)
        rw [List.length_drop] at hle
        obtain ⟨r, hr⟩ : ∃ r, attrP (c.l.drop (m + bn)) = r := ⟨_, rfl⟩
        rw [hr] at hat hle
        have hF4 := hF3.out
        rw [hr] at hF4
        replace hr := Lib.hid hr
        cases r with
        | none =>
          have hP := Lib.hid (hbad.out hF4)
          clear hle hF4
          refine hat.mono ?_; rintro e w4 ⟨⟨x1, x2, rfl⟩, k4, r4⟩
          have s4 := AsSf.call s3 r4
          clear hat s3 r4
          unfold strV
          go_wp2_with fail
          refine bodyPost_ret (v := .tuple #[.slice none 0 0, .bool false, .bool false]) (by simp [results, Tryz.results69, go_sem]) rfl ?_
          have hb := (Below.refl w4.heap.size w4).alloc (Nat.le_refl _) (.cells #[strV x1, strV x2] 112)
          exact RasPost.no hP.out rfl (AsSf.post (AsSf.below s4 hb))
        | some y =>
          obtain ⟨⟨nm, va⟩, n⟩ := y
          obtain ⟨n1, n2⟩ := hle _ n rfl
          clear hle
          have hF5 : Hid (attrsRF l (c.l.drop m) = if (l.any fun y => y.1 == nm) = true then .bad () else .go (l ++ [(nm, va)]) (bn + n)) := hF4
          clear hF4
          refine hat.mono ?_; rintro e w4 ⟨rfl, r4⟩
          have s4 := AsSf.call s3 r4
          clear hat s3 r4
          unfold strV
          have hb4 : Below w4.heap.size w4 (w4.alloc (.cells #[.string ⟨nm.toArray⟩, .string ⟨va.toArray⟩] 112)) := (Below.refl _ w4).alloc (Nat.le_refl _) _
          have s5 := AsSf.below s4 hb4
          have hx := arrAt_new w4 112 [.string ⟨nm.toArray⟩, .string ⟨va.toArray⟩]
          have x0 := hx.cell 0
          have x1 := hx.cell 1
          replace hx := Lib.hid hx
          clear hb4
          obtain ⟨w7, hw7⟩ : ∃ w7, w4.alloc (.cells #[.string ⟨nm.toArray⟩, .string ⟨va.toArray⟩] 112) = w7 := ⟨_, rfl⟩
          go_wp2_with fail
          simp only [hw7] at s5 x0 x1 hx ⊢
          replace hw7 := Lib.hid hw7
          go_loopw [9] (fun i wr => ∃ j : Nat, i = .int .i64 j ∧ j ≤ l.length ∧ Hid (∀ t, t < j → ((l.getD t ([], [])).1 == nm) = false) ∧ Drawn w7 wr) (fun i _ => l.length - (intOf i).toNat)
          case atStart => exact ⟨0, rfl, Nat.zero_le _, fun t ht => by omega, Drawn.refl _⟩
          case round =>
            obtain ⟨j, rfl, hj, hno, n0, rfl⟩ := hrel
            by_cases hjl : j < l.length
            · have hjl1 : (j : Int) < l.length := by omega
              have hne : l ≠ [] := by intro e; rw [e] at hjl; simp at hjl
              obtain ⟨g, cap, hv, hg, hBg, hcl⟩ := s5.out.ats.cells hne
              injection hv with hv1 hv2 hv3
              clear hv2
              subst hv1 hv3
              obtain ⟨d0, d1⟩ := hcl j hjl
              clear hcl hne hBg
              have hyes := any_yes (l := l) (nm := nm) hjl
              obtain ⟨x, hxx⟩ : ∃ x, l.getD j ([], []) = x := ⟨_, rfl⟩
              rw [hxx] at d0 d1 hyes
              unfold strV at d0 d1
              cases hq2 : (x.1 == nm)
              · have hno2 : Hid (∀ t, t < j + 1 → ((l.getD t ([], [])).1 == nm) = false) := by
                  intro t ht
                  by_cases e : t = j
                  · subst e; rw [hxx]; exact hq2
                  · exact hno.out t (by omega)
                clear hno hyes
                replace hxx := Lib.hid hxx
                go_wp2_with fail
                go_quiet (fail)
                go_wp2_with fail
                exact ⟨⟨j + 1, by go_num, by omega, hno2, ⟨_, rfl⟩⟩, by simp [intOf]; omega⟩
              · have hP := Lib.hid (hbad.out (hF5.out.trans (if_pos (hyes hq2))))
                clear hno hyes
                replace hxx := Lib.hid hxx
                go_wp2_with fail
                go_quiet (fail)
                go_wp2_with fail
                refine bodyPost_ret (v := .tuple #[.slice none 0 0, .bool false, .bool false]) (by simp [results, Tryz.results69, go_sem]) rfl ?_
                exact RasPost.no hP.out rfl (AsSf.post (AsSf.below (AsSf.below s5 (Drawn.below (drawn_drewN _ _) _)) (Drawn.below (drawn_drewN _ _) _)))
            · have hjl1 : ¬ ((j : Int) < l.length) := by omega
              have hany := any_no (l := l) (nm := nm) fun t ht => hno.out t (by omega)
              have hg := hgo.out _ _ (hF5.out.trans (if_neg (by rw [hany]; decide))) (by simp; omega)
              clear hno
              replace hany := Lib.hid hany
              have s6 := AsSf.below s5 (Drawn.below (drawn_drewN w7 n0) _)
              have e1 := s6.out.rd.c1
              have hb7 := s6.out.base
              go_wp2_with (at_builtin; go_must (refine wpList_appendk rfl _ _ 47 112 rfl Tryz.underlying47 (.agg #[.string ⟨#[]⟩, .string ⟨#[]⟩]) 2 32 info_attr rfl (by decide) (by decide) w.heap.size _ l.length (cellsA l) [.string ⟨nm.toArray⟩, .string ⟨va.toArray⟩] rfl s6.out.ats rfl rfl (by intro u hu; simp at hu; rcases hu with rfl | rfl <;> rfl) (by omega) hb7 ?_))
              intro v1 w8 hown8 hgr8 hwh8
              have s8 := AsSf.put (v1 := v1) (l1 := l ++ [(nm, va)]) s6 (show Ats _ _ _ _ from by rw [Ats, List.length_append, cellsA_app]; exact hown8.out) hgr8.out
              have hfm := own_form hown8.out
              clear hown8 hgr8 hwh8
              obtain ⟨a8, c8, rfl⟩ := hfm
              have hl8 : (l ++ [(nm, va)]).length = l.length + 1 := by simp
              rw [← hl8] at s8
              go_wp2_with fail
              exact ⟨⟨m + bn + n, l ++ [(nm, va)], a8, c8, by rw [hl8], by omega, by omega, by omega, s8, by rw [show m + bn + n - k = m - k + (bn + n) by omega]; exact hg⟩, by rw [cM.out, s8.out.rd.c1]; simp [intOf]; omega⟩
end Go.Proofs.YtahohmdbiiknoaaGreatDoor

/- The reference of layer 11: its reader and all that it holds, in memory; push. -/
namespace Go.Proofs.YtahohmdbiiknoaaGreatDoor
open Go.RowKit

theorem t_str11 : 9 ≠ 62 := by decide
theorem t_tok11 : 65 ≠ 62 := by decide
theorem t_at11 : 112 ≠ 62 := by decide
/-- The reader, and what it holds. -/
structure SnM (w : World) (B R : Nat) (c : SC) (k : Nat) (s : Sc) (P : List (Tk × Value)) : Prop where
  rd : Sn w R c k
  rt : c.rt = s.rooted
  tx : c.tx = s.text
  opn : Strs w B c.vO s.opn
  tks : Tks w B c.vK P
  ptk : P.map Prod.fst = s.toks
  low : B ≤ R
section
variable {w w' w1 : World} {B R : Nat} {c c' : SC} {k k' : Nat} {s s' : Sc} {P P' : List (Tk × Value)}
theorem SnM.base (h : SnM w B R c k s P) : B ≤ w.heap.size := by have := h.low; have := h.rd.lt; omega
theorem SnM.plen (h : SnM w B R c k s P) : P.length = s.toks.length := by rw [← h.ptk]; simp
/-- Only blocks of S have turned, and S is none but the reader's own. -/
theorem SnM.turned {S : Nat → Prop} (h : SnM w B R c k s P) (hr : Sn w' R c k') (ht : Turned S w w') (hS : ∀ b, S b → b = R) : SnM w' B R c k' s P :=
  ⟨hr, h.rt, h.tx, ownsRow_turned h.opn ht fun b hb hs => own_ne_arr h.opn h.rd t_str11 (by rw [hb, hS b hs]),
    h.tks.turned ht (fun b hb hs => own_ne_arr h.tks.row h.rd t_tok11 (by rw [hb, hS b hs])) fun p hp b hb hs => own_ne_arr (h.tks.ats p hp) h.rd t_at11 (by rw [hb, hS b hs]), h.ptk, h.low⟩
theorem SnM.call (h : Hid (SnM w B R c k s P)) (hs : Sf w w' R c k') : Hid (SnM w' B R c k' s P) := h.out.turned hs.1 hs.2 fun _ e => e
theorem SnM.below (h : Hid (SnM w B R c k s P)) (hb : Below w.heap.size w w') : Hid (SnM w' B R c k s P) :=
  h.out.turned (S := fun _ => False) (h.out.rd.below hb) (Turned.of_below hb) fun _ e => e.elim
theorem SnM.sf (h : Hid (SnM w B R c k s P)) : Hid (Sf w w R c k) := sf_start h.out.rd
theorem SnM.toBelow (h : Hid (SnM w B R c k s P)) (hs : Sf w w' R c k') : Below B w w' := hs.2.below (fun i _ e => by have : i = R := e; have := h.out.low; omega) h.out.base
/-- One of the reader's cells is set. -/
theorem SnM.set (h : SnM w B R c k s P) (i : Nat) (v : Value) (hc : (c.cells k).set i v = c'.cells k') (hrt : c'.rt = s'.rooted) (htx : c'.tx = s'.text) (ho : Strs w B c'.vO s'.opn) (ht : Tks w B c'.vK P') (hp : P'.map Prod.fst = s'.toks) :
    SnM (w.setCell ⟨R, i, none⟩ v) B R c' k' s' P' := by
  have hst := turned_setCell w ⟨R, i, none⟩ v
  have hr : Sn (w.setCell ⟨R, i, none⟩ v) R c' k' := by have := ArrAt.set h.rd i v; rw [hc] at this; exact this
  exact ⟨hr, hrt, htx, ownsRow_turned ho hst fun b hb e => own_ne_arr ho h.rd t_str11 (by rw [hb]; exact congrArg some e),
    ht.turned hst (fun b hb e => own_ne_arr ht.row h.rd t_tok11 (by rw [hb]; exact congrArg some e)) fun p hp b hb e => own_ne_arr (ht.ats p hp) h.rd t_at11 (by rw [hb]; exact congrArg some e), hp, h.low⟩
theorem SnM.setB (h : SnM w B R c k s P) (i : Nat) (v : Value) : Below B w (w.setCell ⟨R, i, none⟩ v) :=
  (turned_setCell w ⟨R, i, none⟩ v).below (fun j _ e => by have : j = R := e; have := h.low; omega) h.base
theorem SnM.text (h : SnM w B R c k s P) (t : List UInt8) : SnM (w.setCell ⟨R, 4, none⟩ (.string ⟨t.toArray⟩)) B R { c with tx := t } k { s with text := t } P :=
  h.set 4 _ rfl h.rt rfl h.opn h.tks h.ptk
theorem SnM.root (h : SnM w B R c k s P) (b : Bool) : SnM (w.setCell ⟨R, 6, none⟩ (.bool b)) B R { c with rt := b } k { s with rooted := b } P :=
  h.set 6 _ rfl rfl h.tx h.opn h.tks h.ptk
theorem SnM.opens (h : SnM w B R c k s P) {v : Value} {op : List (List UInt8)} (ho : Strs w B v op) : SnM (w.setCell ⟨R, 3, none⟩ v) B R { c with vO := v } k { s with opn := op } P :=
  h.set 3 _ rfl h.rt h.tx ho h.tks h.ptk
/-- A token more. -/
theorem SnM.token {v1 : Value} {x : Tk} {va : Value} (h : SnM w B R c k s P) (ha : Ats w B va x.attrs) (ho : w1.ownsRow B 65 4 v1 (P.length + 1) (cellsK P ++ tkV (x, va))) (hg : w.grownBy w1 c.vK.ownBlock) :
    SnM (w1.setCell ⟨R, 5, none⟩ v1) B R { c with vK := v1 } k { s with toks := s.toks ++ [x] } (P ++ [(x, va)]) ∧ Below B w (w1.setCell ⟨R, 5, none⟩ v1) := by
  have hT := Turned.of_grown (S := fun b => c.vK.ownBlock = some b) hg fun _ e => e
  have hr1 := h.rd.turned hT (own_ne_arr h.tks.row h.rd t_tok11)
  have hst := turned_setCell w1 ⟨R, 5, none⟩ v1
  have hr2 : Sn (w1.setCell ⟨R, 5, none⟩ v1) R { c with vK := v1 } k := ArrAt.set hr1 5 _
  have ho2 : w1.ownsRow B 65 4 v1 (P ++ [(x, va)]).length (cellsK (P ++ [(x, va)])) := by
    rw [List.length_append, cellsK_app]
    have e : cellsK [(x, va)] = tkV (x, va) := by simp [cellsK]
    rw [e]; exact ho
  have k1 : Strs w1 B c.vO s.opn := ownsRow_turned h.opn hT fun b hb e => own_apart h.opn h.tks.row (by decide) hb e
  have k3 : ∀ v a, Ats w B v a → Ats w1 B v a := fun v a hv => ownsRow_turned hv hT fun b hb e => own_apart hv h.tks.row (by decide) hb e
  refine ⟨⟨hr2, h.rt, h.tx, ?_, ⟨?_, ?_⟩, by rw [List.map_append, h.ptk]; rfl, h.low⟩, ?_⟩
  · exact ownsRow_turned k1 hst fun b hb e => own_ne_arr k1 hr1 t_str11 (by rw [hb]; exact congrArg some e)
  · exact ownsRow_turned ho2 hst fun b hb e => own_ne_arr ho2 hr1 t_tok11 (by rw [hb]; exact congrArg some e)
  · intro p hp
    have hp1 : Ats w1 B p.2 p.1.attrs := by
      rcases List.mem_append.1 hp with hp | hp
      · exact k3 _ _ (h.tks.ats p hp)
      · rw [List.mem_singleton] at hp; subst hp; exact k3 _ _ ha
    exact ownsRow_turned hp1 hst fun b hb e => own_ne_arr hp1 hr1 t_at11 (by rw [hb]; exact congrArg some e)
  · exact (((Below.refl B w).grown hg h.base fun k hk => (World.ownsRow.lt h.tks.row k hk).1)).setCell h.low _
/-- Other attributes of the call's own, beside it. -/
theorem SnM.keepA {v1 va : Value} {a : List At} (h : SnM w B R c k s P) (ha : Ats w B va a) (hg : w.grownBy w1 c.vK.ownBlock) : Ats (w1.setCell ⟨R, 5, none⟩ v1) B va a := by
  have hT := Turned.of_grown (S := fun b => c.vK.ownBlock = some b) hg fun _ e => e
  have h1 : Ats w1 B va a := ownsRow_turned ha hT fun b hb e => own_apart ha h.tks.row (by decide) hb e
  have hr1 := h.rd.turned hT (own_ne_arr h.tks.row h.rd t_tok11)
  exact ownsRow_turned h1 (turned_setCell w1 ⟨R, 5, none⟩ v1) fun b hb e => own_ne_arr h1 hr1 t_at11 (by rw [hb]; exact congrArg some e)
theorem SnM.keepA2 {va v : Value} {a : List At} {i : Nat} (h : SnM w B R c k s P) (ha : Ats w B va a) : Ats (w.setCell ⟨R, i, none⟩ v) B va a :=
  ownsRow_turned ha (turned_setCell w ⟨R, i, none⟩ v) fun b hb e => own_ne_arr ha h.rd t_at11 (by rw [hb]; exact congrArg some e)
end
/-- What push comes to: the reader's state is s'. -/
def PushPost (w : World) (B R : Nat) (c : SC) (k : Nat) (s' : Sc) (e : Ending) (w' : World) : Prop :=
  e = .returned (.tuple #[]) ∧ (∃ c' P', c'.l = c.l ∧ c'.dep = c.dep ∧ Hid (SnM w' B R c' k s' P')) ∧ Below B w w'
theorem PushPost.mk {w w' : World} {B R : Nat} {c c' : SC} {k : Nat} {s' : Sc} {P' : List (Tk × Value)} (h : SnM w' B R c' k s' P') (hc : c'.l = c.l ∧ c'.dep = c.dep) (hb : Below B w w') : PushPost w B R c k s' (.returned (.tuple #[])) w' := ⟨rfl, ⟨c', P', hc.1, hc.2, h⟩, hb⟩

set_option maxHeartbeats 4000000 in
/-- push, where no text waits. -/
theorem push11_no (B R : Nat) (c : SC) (k : Nat) (s : Sc) (P : List (Tk × Value)) (x : Tk) (va : Value) (w : World) (h : SnM w B R c k s P) (ha : Ats w B va x.attrs) (hb : P.length ≤ 1000000) (h0 : s.text = []) :
    Calls Tryz.prog 68 #[.pointer (some ⟨R, 0, none⟩), .agg #[.int .i64 x.kind, .string ⟨x.name.toArray⟩, va, .string ⟨x.text.toArray⟩]] w (PushPost w B R c k { s with text := [], toks := s.toks ++ [x] }) := by
  obtain ⟨aa, ac, rfl⟩ := own_form ha
  generalize hva : Value.slice aa x.attrs.length ac = va at ha
  have hb1 : Below w.heap.size w (w.alloc (.cells #[.int .i64 x.kind, .string ⟨x.name.toArray⟩, va, .string ⟨x.text.toArray⟩] 65)) := (Below.refl _ _).alloc (Nat.le_refl _) _
  have h1 := (SnM.below (Lib.hid h) hb1).out
  have ha1 : Ats _ B va x.attrs := ownsRow_below ha hb1
  have hx := arrAt_new w 65 [.int .i64 x.kind, .string ⟨x.name.toArray⟩, va, .string ⟨x.text.toArray⟩]
  have hR := h1.rd.lt
  have hRx : R ≠ w.heap.size := by have := h.rd.lt; omega
  have c4 := h1.rd.c4
  rw [h1.tx, h0] at c4
  have f4 := h1.rd.fz 4
  have h2 := h1.text []
  have hall := (hb1.mono h.base).trans (h1.setB 4 (.string ⟨([] : List UInt8).toArray⟩))
  have ha2 := h1.keepA2 (v := .string ⟨([] : List UInt8).toArray⟩) (i := 4) ha1
  have hx2 := hx.turned (turned_setCell _ ⟨R, 4, none⟩ (.string ⟨([] : List UInt8).toArray⟩)) (fun e => hRx e.symm)
  have hlow := h2.base
  have c5 := h2.rd.c5
  have f5 := h2.rd.fz 5
  have x0 := hx2.cell 0
  have x1 := hx2.cell 1
  have x2 := hx2.cell 2
  have x3 := hx2.cell 3
  have h3 := SnM.below (Lib.hid h2) ((drawn_drew _).below _)
  have ha3 := ownsRow_drawn ha2 (drawn_drew _)
  have c5y := (SnM.below (Lib.hid h2) ((Below.refl _ _).alloc (Nat.le_refl _) (.cells #[.int .i64 x.kind, .string ⟨x.name.toArray⟩, va, .string ⟨x.text.toArray⟩] 65))).out.rd.c5
  replace hx := Lib.hid hx
  replace hx2 := Lib.hid hx2
  replace h1 := Lib.hid h1
  replace h2 := Lib.hid h2
  replace ha1 := Lib.hid ha1
  replace ha2 := Lib.hid ha2
  replace ha3 := Lib.hid ha3
  replace h := Lib.hid h
  replace ha := Lib.hid ha
  replace h0 := Lib.hid h0
  replace hb1 := Lib.hid hb1
  replace hall := Lib.hid hall
  go_enter Tryz.func68, Tryz.ntmps68
  go_wp2_with fail
  go_region_law (refine step_append1 rfl (.tmp 30) (.tmp 32) 41 65 rfl Tryz.underlying41 (.agg #[.int .i64 0, .string ⟨#[]⟩, .slice none 0 0, .string ⟨#[]⟩]) 4 64 info_tok rfl (by decide) (by decide) B _ P.length (cellsK P) [.int .i64 x.kind, .string ⟨x.name.toArray⟩, va, .string ⟨x.text.toArray⟩] rfl h3.out.tks.row (by simp [Act.eval]) (by simp [Act.eval]) (by intro u hu; simp at hu; rcases hu with rfl | rfl | rfl | rfl <;> first | rfl | (subst hva; rfl)) (by omega) (by simpa using hlow) ?_; intro v1 w1 hown1 hgr1 hwh1; obtain ⟨a1, e1, rfl⟩ := own_form hown1.out; have r1 := h3.out.rd.turned (Turned.of_grown (S := fun b => c.vK.ownBlock = some b) hgr1.out fun _ e => e) (own_ne_arr h3.out.tks.row h3.out.rd t_tok11); have c5' := r1.c5; have f5' := r1.fz 5; replace r1 := Lib.hid r1)
  all_goals go_wp2_with fail
  all_goals
    have hfin := h3.out.token (x := x) ha3.out hown1.out hgr1.out
    refine bodyPost_end (v := .tuple #[]) (by simp [results, Tryz.results68, go_sem]) rfl ?_
    exact PushPost.mk hfin.1 ⟨rfl, rfl⟩ ((hall.out.trans ((drawn_drew _).below _)).trans hfin.2)
end Go.Proofs.YtahohmdbiiknoaaGreatDoor

/- The reference of layer 11: push, where a text waits. -/
namespace Go.Proofs.YtahohmdbiiknoaaGreatDoor
open Go.RowKit

set_option maxHeartbeats 4000000 in
/-- push, where a text waits: it is a token first. -/
theorem push11_yes (B R : Nat) (c : SC) (k : Nat) (s : Sc) (P : List (Tk × Value)) (x : Tk) (va : Value) (w : World) (h : SnM w B R c k s P) (ha : Ats w B va x.attrs) (hb : P.length ≤ 1000000) (h0 : 0 < s.text.length) :
    Calls Tryz.prog 68 #[.pointer (some ⟨R, 0, none⟩), .agg #[.int .i64 x.kind, .string ⟨x.name.toArray⟩, va, .string ⟨x.text.toArray⟩]] w (PushPost w B R c k { s with text := [], toks := s.toks ++ [⟨4, [], [], s.text⟩, x] }) := by
  obtain ⟨aa, ac, rfl⟩ := own_form ha
  generalize hva : Value.slice aa x.attrs.length ac = va at ha
  have hb1 : Below w.heap.size w (w.alloc (.cells #[.int .i64 x.kind, .string ⟨x.name.toArray⟩, va, .string ⟨x.text.toArray⟩] 65)) := (Below.refl _ _).alloc (Nat.le_refl _) _
  have h1 := (SnM.below (Lib.hid h) hb1).out
  have ha1 : Ats _ B va x.attrs := ownsRow_below ha hb1
  have hx := arrAt_new w 65 [.int .i64 x.kind, .string ⟨x.name.toArray⟩, va, .string ⟨x.text.toArray⟩]
  have hlow := h1.base
  have hR := h1.rd.lt
  have hRx : R ≠ w.heap.size := by have := h.rd.lt; omega
  have c4 := h1.rd.c4
  rw [h1.tx] at c4
  have hne : s.text.isEmpty = false := by
    cases e : s.text with
    | nil => rw [e] at h0; simp at h0
    | cons _ _ => rfl
  have c5 := h1.rd.c5
  have f5 := h1.rd.fz 5
  have x0 := hx.cell 0
  have x1 := hx.cell 1
  have x2 := hx.cell 2
  have x3 := hx.cell 3
  have h2 := SnM.below (Lib.hid h1) ((drawn_drew _).below _)
  have ha2 := ownsRow_drawn ha1 (drawn_drew _)
  have c5y := (SnM.below (Lib.hid h1) ((Below.refl _ _).alloc (Nat.le_refl _) (.cells #[.int .i64 4, .string ⟨#[]⟩, .slice none 0 0, .string ⟨s.text.toArray⟩] 65))).out.rd.c5
  have c4y := (SnM.below (Lib.hid h1) ((Below.refl _ _).alloc (Nat.le_refl _) (.cells #[.int .i64 4, .string ⟨#[]⟩, .slice none 0 0, .string ⟨s.text.toArray⟩] 65))).out.rd.c4
  rw [h1.tx] at c4y
  have htxt : ∃ t, s.text = t := ⟨_, rfl⟩
  replace hx := Lib.hid hx
  replace h1 := Lib.hid h1
  replace ha2 := Lib.hid ha2
  replace ha1 := Lib.hid ha1
  replace h := Lib.hid h
  replace ha := Lib.hid ha
  replace hb1 := Lib.hid hb1
  go_enter Tryz.func68, Tryz.ntmps68
  go_wp2_with fail
  go_region_law (refine step_append1 rfl (.tmp 13) (.tmp 19) 41 65 rfl Tryz.underlying41 (.agg #[.int .i64 0, .string ⟨#[]⟩, .slice none 0 0, .string ⟨#[]⟩]) 4 64 info_tok rfl (by decide) (by decide) B _ P.length (cellsK P) [.int .i64 4, .string ⟨#[]⟩, .slice none 0 0, .string ⟨s.text.toArray⟩] rfl h2.out.tks.row (by simp [Act.eval]) (by simp [Act.eval]) (by intro u hu; simp at hu; rcases hu with rfl | rfl | rfl | rfl <;> rfl) (by omega) (by simpa using hlow) ?_; intro v1 w1 hown1 hgr1 hwh1; obtain ⟨a1, e1, rfl⟩ := own_form hown1.out; have r1 := h2.out.rd.turned (Turned.of_grown (S := fun b => c.vK.ownBlock = some b) hgr1.out fun _ e => e) (own_ne_arr h2.out.tks.row h2.out.rd t_tok11); have c5' := r1.c5; have f5' := r1.fz 5; replace r1 := Lib.hid r1)
  all_goals
    have hA := h2.out.token (x := ⟨4, [], [], s.text⟩) (va := .slice none 0 0) (ats_nil _ _) hown1.out hgr1.out
    have hX := (hx.out.drawn (drawn_drew _)).grown hgr1.out (fun e => by have := (World.ownsRow.lt h.out.tks.row _ e.symm).2; omega)
    have hX2 := hX.turned (turned_setCell w1 ⟨R, 5, none⟩ (.slice a1 (P.length + 1) e1)) (fun e => hRx e.symm)
    have haA := h2.out.keepA (v1 := .slice a1 (P.length + 1) e1) ha2.out hgr1.out
    have d4 := hA.1.rd.fz 4
    have d4c := hA.1.rd.c4
    have hA2 := hA.1.text []
    have hX3 := hX2.turned (turned_setCell (w1.setCell ⟨R, 5, none⟩ (.slice a1 (P.length + 1) e1)) ⟨R, 4, none⟩ (.string ⟨([] : List UInt8).toArray⟩)) (fun e => hRx e.symm)
    have hall := (((hb1.out.mono h.out.base).trans ((drawn_drew _).below _)).trans hA.2).trans (hA.1.setB 4 (.string ⟨([] : List UInt8).toArray⟩))
    have haA2 := hA.1.keepA2 (v := .string ⟨([] : List UInt8).toArray⟩) (i := 4) haA
    have dx0 := hX3.cell 0
    have dx1 := hX3.cell 1
    have dx2 := hX3.cell 2
    have dx3 := hX3.cell 3
    have d5 := hA2.rd.c5
    have dz5 := hA2.rd.fz 5
    have hb3 := hA2.base
    have hB3 := SnM.below (Lib.hid hA2) ((drawn_drew _).below _)
    have haB := ownsRow_drawn haA2 (drawn_drew _)
    have d5y := (SnM.below (Lib.hid hA2) ((Below.refl _ _).alloc (Nat.le_refl _) (.cells #[.int .i64 x.kind, .string ⟨x.name.toArray⟩, va, .string ⟨x.text.toArray⟩] 65))).out.rd.c5
    clear c4 c5 f5 x0 x1 x2 x3 c5' f5' c5y c4y hX hX2 hX3 haA haA2 htxt
    replace hA := Lib.hid hA
    replace hA2 := Lib.hid hA2
    replace haB := Lib.hid haB
    replace hall := Lib.hid hall
    replace hown1 := Lib.hid hown1
    replace hgr1 := Lib.hid hgr1
    go_wp2_with fail
    go_region_law (refine step_append1 rfl (.tmp 30) (.tmp 32) 41 65 rfl Tryz.underlying41 (.agg #[.int .i64 0, .string ⟨#[]⟩, .slice none 0 0, .string ⟨#[]⟩]) 4 64 info_tok rfl (by decide) (by decide) B _ (P ++ [((⟨4, [], [], s.text⟩ : Tk), Value.slice none 0 0)]).length (cellsK (P ++ [((⟨4, [], [], s.text⟩ : Tk), Value.slice none 0 0)])) [.int .i64 x.kind, .string ⟨x.name.toArray⟩, va, .string ⟨x.text.toArray⟩] rfl hB3.out.tks.row (by simp [Act.eval]) (by simp [Act.eval]) (by intro u hu; simp at hu; rcases hu with rfl | rfl | rfl | rfl <;> first | rfl | (subst hva; rfl)) (by simp; omega) (by simpa using hb3) ?_; intro v4 w4 hown4 hgr4 hwh4; obtain ⟨a4, e4, rfl⟩ := own_form hown4.out; have r4 := hB3.out.rd.turned (Turned.of_grown (S := fun b => (Value.slice a1 (P.length + 1) e1).ownBlock = some b) hgr4.out fun _ e => e) (own_ne_arr hB3.out.tks.row hB3.out.rd t_tok11); have c4' := r4.c5; have f4' := r4.fz 5; replace r4 := Lib.hid r4)
    all_goals go_wp2_with fail
    all_goals
      have hfin := hB3.out.token (x := x) haB.out hown4.out hgr4.out
      simp only [List.append_assoc, List.cons_append, List.nil_append, List.length_append, List.length_cons, List.length_nil, Nat.zero_add] at hfin
      refine bodyPost_end (v := .tuple #[]) (by simp [results, Tryz.results68, go_sem]) rfl ?_
      exact PushPost.mk hfin.1 ⟨rfl, rfl⟩ ((hall.out.trans ((drawn_drew _).below _)).trans hfin.2)
theorem push11_any (B R : Nat) (c : SC) (k : Nat) (s : Sc) (P : List (Tk × Value)) (x : Tk) (va : Value) (w : World) (h : Hid (SnM w B R c k s P)) (ha : Ats w B va x.attrs) (hb : P.length ≤ 1000000) :
    Calls Tryz.prog 68 #[.pointer (some ⟨R, 0, none⟩), .agg #[.int .i64 x.kind, .string ⟨x.name.toArray⟩, va, .string ⟨x.text.toArray⟩]] w (PushPost w B R c k ⟨s.rooted, s.opn, [], addT s.text s.toks x⟩) := by
  by_cases h0 : 0 < s.text.length
  · have := push11_yes B R c k s P x va w h.out ha hb h0
    unfold addT
    rw [if_pos h0, List.append_assoc]
    exact this
  · have := push11_no B R c k s P x va w h.out ha hb (List.length_eq_zero_iff.1 (by omega))
    unfold addT
    rw [if_neg h0]
    exact this
end Go.Proofs.YtahohmdbiiknoaaGreatDoor

/- Append of a whole slice of texts, wherever it lies, to one that the call itself made. -/
namespace Go.Proofs.YtahohmdbiiknoaaGreatDoor
open Go.RowKit

/-- A row with nothing in it, just made. -/
theorem ownsRow_empty (w : World) (E : TypeId) (z : Nat) : (w.alloc (.cells #[] E)).ownsRow w.heap.size E z (.slice (some ⟨w.heap.size, 0, none⟩) 0 0) 0 [] :=
  ⟨by simp, Or.inr ⟨_, 0, #[], rfl, Nat.le_refl _, heap_alloc_new w _, Nat.le_refl _, Nat.zero_le _, by simp, by simp⟩⟩
/-- Append of texts. -/
theorem wpList_append_strs {P : Program} {ops : Array Oper} {rest : List Oper} {o : Oper} {a : Act} {Q : Exit → Act → World → Prop} {w : World} (hw : Region.wanted o (yielded ops a.tmps) = true) (s x : Operand) (t e : TypeId)
    (ho : o.op = .call { callee := .builtin .append, args := #[s, x], argTypes := #[t, t] }) (ht : P.underlying t = some (.slice e))
    (z : Value) (bytes : Nat) (hi : (P.info? e).map (fun i => (i.zero, i.size, i.bytes)) = some (some z, 1, bytes)) (hzs : z.cells.size = 1) (hby : 0 < bytes)
    (B : Nat) (v : Value) (n : Nat) (xs : List Value) (hown : w.ownsRow B e 1 v n xs) (v2 : Value) (ys : List (List UInt8)) (hsl : StrSl w v2 ys) (hs : a.eval s = v) (hx : a.eval x = v2)
    (hn : (n + ys.length) * bytes ≤ 140737488355328) (hB : B ≤ w.heap.size)
    (h : ∀ v' w', w'.ownsRow B e 1 v' (n + ys.length) (xs ++ ys.map strV) → Below B w w' → wpList P ops Q rest (a.put o.dst v') w') : wpList P ops Q (o :: rest) a w := by
  obtain ⟨i0, hi, hz0, hz1, hz2⟩ := info_parts hi
  have hn1 : n + ys.length ≤ (n + ys.length) * bytes := Nat.le_mul_of_pos_right _ hby
  have hone : ∀ u ∈ ys.map strV, u.oneCell' = true := by
    intro u hu
    obtain ⟨y, _, rfl⟩ := List.mem_map.1 hu
    rfl
  rcases hsl with ⟨rfl, ad, c, rfl⟩ | ⟨b, off, c, _, rfl, hc⟩
  · cases ad with
    | none =>
      refine BigFrame.wpList_want hw fun K hK => ?_
      have hrun := run_append_none (P := P) (w := w) B t o.type e i0 1 ht hi v n c xs hown
      have hK' := hK _ _ (h v w (by simpa using hown) (Below.refl _ _))
      unfold Oper.wp
      simp [execOp, ho, resolve, invoke, builtin, hs, hx, hrun, Result.andThen]
      exact hK'
    | some ad =>
      refine BigFrame.wpList_want hw fun K hK => wp_append_own _ s x t ho B e i0 z 1 bytes ht hi hz0 hz1 hz2 hzs (by decide) v n xs hs hown ad 0 c [] hx rfl (by simp) (by simp) (by unfold maxLen; simp at hn1 hn ⊢; omega) (by simpa using hn) hB ?_
      intro v' w' h1 h2 _
      exact hK _ _ (h v' w' (by simpa using h1) ((Below.refl B w).grown h2 hB fun k hk => (hown.lt k hk).1))
  · refine BigFrame.wpList_want hw fun K hK => wp_append_own _ s x t ho B e i0 z 1 bytes ht hi hz0 hz1 hz2 hzs (by decide) v n xs hs hown ⟨b, off, none⟩ ys.length c (ys.map strV) hx (by simp) ?_ hone (by unfold maxLen; omega) hn hB ?_
    · intro j u hu
      rw [addr_mid, hc j (by have := (List.getElem?_eq_some_iff.1 hu).1; simpa using this)]
      rw [List.getElem?_map] at hu
      cases hj : ys[j]? with
      | none => simp [hj] at hu
      | some y => simp [hj] at hu; subst hu; simp [List.getD, hj]
    · intro v' w' h1 h2 _
      exact hK _ _ (h v' w' h1 ((Below.refl B w).grown h2 hB fun k hk => (hown.lt k hk).1))
end Go.Proofs.YtahohmdbiiknoaaGreatDoor
