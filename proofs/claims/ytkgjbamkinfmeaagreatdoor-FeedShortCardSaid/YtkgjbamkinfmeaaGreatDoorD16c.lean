/- Layer 16: read and Parse. -/
import Derived.Test.YtkgjbamkinfmeaaGreatDoorD16h
import Derived.Test.YtkgjbamkinfmeaaGreatDoorD11y
import Derived.Test.YtkgjbamkinfmeaaGreatDoorBR27
import Derived.Test.YtkgjbamkinfmeaaGreatDoorBR28
import Derived.Test.YtkgjbamkinfmeaaGreatDoorBR29
import Derived.Test.YtkgjbamkinfmeaaGreatDoorBR31
import Derived.Test.YtkgjbamkinfmeaaGreatDoorBR33
namespace Go.Proofs.YtkgjbamkinfmeaaGreatDoor
open Go.RowKit

theorem few_ok {N : Nat} {l : List At} (h : AtFew N l) (hN : N ≤ 500000) : AtOk l := ⟨by have := h.1; omega, fun a ha => by have := h.2 a ha; omega⟩
theorem tokB_doc {dep : Int} {l : List UInt8} {t : List Tk} (h : tokB dep l = .toks t) : docB dep l = .toks t := by
  unfold tokB at h
  split at h
  · rename_i t' hd _
    injection h with h
    subst h
    exact hd
  · cases h
  · cases h
  · cases h
  · split at h <;> cases h
/-- What tokens of a document come to. -/
theorem doc_bd {dep : Int} {l : List UInt8} {t : List Tk} (h : tokB dep l = .toks t) (hl : l.length ≤ 20000) : t.length ≤ 40000 ∧ (∀ x ∈ t, x.attrs.length ≤ 16) ∧ ∀ ns, buildB t = some ns → ns.length ≤ 1000000 ∧ sumT ns ≤ 2000000 ∧ ∀ x ∈ ns, AtOk x.attrs := by
  have hd := tokB_doc h
  have h1 := docB_len hd
  obtain ⟨h2, h3⟩ := docB_tk hd
  refine ⟨by omega, fun x hx => (h2 x hx).1, fun ns hns => ?_⟩
  obtain ⟨_, _, h5, h6, h7⟩ := buildB_tree hns
  have h8 : cntB t ≤ t.length := List.countP_le_length
  refine ⟨by omega, by omega, fun x hx => ?_⟩
  rcases h7 x hx with e | ⟨y, hy, e⟩
  · rw [e]; exact ⟨by simp, by simp⟩
  · rw [e]; exact few_ok (h2 y hy) (by omega)
theorem parseB_arg {doc dep many most : Int} (l : List UInt8) (h : checkB doc dep many most = false) : parseB doc dep many most l = .bad 1 := if_pos h
theorem parseB_long {doc dep many most : Int} {l : List UInt8} (h : checkB doc dep many most = true) (hd : doc < l.length) : parseB doc dep many most l = .bad 8 := by
  unfold parseB; rw [if_neg (by rw [h]; decide), if_pos hd]
theorem parseB_toks {doc dep many most : Int} {l : List UInt8} (h : checkB doc dep many most = true) (hd : ¬ doc < l.length) : parseB doc dep many most l = tokenB (tokB dep l) many most := by
  unfold parseB; rw [if_neg (by rw [h]; decide), if_neg hd]
theorem tokenB_none {t : List Tk} (many most : Int) (h : buildB t = none) : tokenB (.toks t) many most = .bad 2 := by unfold tokenB; simp only [h]
theorem tokenB_some {t : List Tk} {ns : List Nd} (many most : Int) (h : buildB t = some ns) : tokenB (.toks t) many most = rootB ns many most := by unfold tokenB; simp only [h]
theorem rootB_ok {ns : List Nd} {many most : Int} {x : List It} (h : itsA ns r3339C many most = .its x) : rootB ns many most = .its x := by unfold rootB; rw [h]
theorem rootB_five {ns : List Nd} {many most : Int} (h : itsA ns r3339C many most = .bad 5) : rootB ns many most = itsB ns r822C many most := by unfold rootB; rw [h]; rfl
theorem rootB_bad {ns : List Nd} {many most q : Int} (h : itsA ns r3339C many most = .bad q) (hq : q ≠ 5) : rootB ns many most = .bad q := by unfold rootB; rw [h]; exact if_neg hq
/-- What of the program's own variables lies in memory. -/
structure Laid16 (w : World) (A B : Addr) : Prop where
  lx : Laid11 w A
  tr : Laid12 w B
  dt : Env13 w
theorem Laid16.below {w w' : World} {A B : Addr} (h : Laid16 w A B) (hb : Below w.heap.size w w') : Laid16 w' A B := ⟨h.lx.below hb, h.tr.below hb, h.dt.below hb⟩
theorem Laid16.ty {w : World} {A B : Addr} (h : Laid16 w A B) : EnvT w := h.lx.ty
/-- What read and Parse answer: an error is a number that is wrapped at most N times. -/
def FeedPost (N : Nat) (w : World) (o : ItsO) (e : Ending) (w' : World) : Prop :=
  match o with
  | .its l => ∃ v, e = .returned (.tuple #[v, .nilIface]) ∧ OwnI w' w.heap.size v l ∧ Below w.heap.size w w'
  | .bad q => ∃ n v, n ≤ N ∧ e = .returned (.tuple #[.slice none 0 0, v]) ∧ Chain w' q n v ∧ Below w.heap.size w w'
theorem FeedPost.lacks {N : Nat} {w w' : World} {q : Int} {n : Nat} {v : Value} {o : ItsO} (ho : o = .bad q) (hn : n ≤ N) (h : Chain w' q n v) (hb : Below w.heap.size w w') : FeedPost N w o (.returned (.tuple #[.slice none 0 0, v])) w' := by subst ho; exact ⟨n, v, hn, rfl, h, hb⟩
theorem FeedPost.has {N : Nat} {w w' : World} {l : List It} {v : Value} {o : ItsO} (ho : o = .its l) (h : OwnI w' w.heap.size v l) (hb : Below w.heap.size w w') : FeedPost N w o (.returned (.tuple #[v, .nilIface])) w' := by subst ho; exact ⟨v, rfl, h, hb⟩
theorem chain_one {w : World} {f q : Nat} {x : Int} (h : FaultAt w f q (cdV x)) : Chain w x 1 (faultV f) := ⟨f, q, _, rfl, h, rfl⟩

set_option maxRecDepth 100000 in
set_option maxHeartbeats 8000000 in
theorem read16_any (l : List UInt8) (p : Prm) (A B : Addr) (w : World) (hL : Laid16 w A B) (hl : l.length ≤ 20000) :
    Calls Tryz.prog 19 #[.string ⟨l.toArray⟩, prmV p] w (FeedPost 1 w (parseB p.doc p.dep p.many p.most l)) := by
  obtain ⟨o, ho⟩ : ∃ o, parseB p.doc p.dep p.many p.most l = o := ⟨_, rfl⟩
  rw [ho]
  have hb0 : Below w.heap.size w (w.alloc (.cells (prmC p).toArray 23)) := (Below.refl _ _).alloc (Nat.le_refl _) _
  have hr0 := arrAt_new w 23 (prmC p)
  have hch := Lib.hid (check16_any p (w.alloc (.cells (prmC p).toArray 23)))
  obtain ⟨p0, p1, p2, p3, p4, p5, p6, p7, p8, p9, p10⟩ := p
  have hcells : ∀ W : World, ArrAt W w.heap.size 23 (prmC ⟨p0, p1, p2, p3, p4, p5, p6, p7, p8, p9, p10⟩) → W.cell? ⟨w.heap.size, 1, none⟩ = some (.int .i64 p1) ∧ W.cell? ⟨w.heap.size, 2, none⟩ = some (.int .i64 p2) ∧ W.cell? ⟨w.heap.size, 4, none⟩ = some (.int .i64 p4) ∧ W.cell? ⟨w.heap.size, 5, none⟩ = some (.int .i64 p5) := fun _ h => ⟨h.cell 1, h.cell 2, h.cell 4, h.cell 5⟩
  replace hcells := Lib.hid hcells
  replace hb0 := Lib.hid hb0
  replace hr0 := Lib.hid hr0
  replace hL := Lib.hid hL
  simp only at ho hch
  unfold prmV prmC at *
  simp only at hch ⊢
  cases hcB : checkB p1 p2 p4 p5 with
  | false =>
    have he := Lib.hid (ho.symm.trans (parseB_arg l hcB))
    rw [hcB] at hch
    clear ho
    go_enter Tryz.func19, Tryz.ntmps19
    go_wp2_with fail
    refine hch.out.mono ?_
    rintro e w1 ⟨rfl, hb1⟩
    have hb2 := Lib.hid (hb0.out.andThen hb1)
    clear hb1
    go_wp2_with fail
    go_ret2
    exact FeedPost.lacks he.out (Nat.zero_le 1) (show Chain _ _ 0 (cdV 1) from rfl) hb2.out
  | true =>
    rw [hcB] at hch
    by_cases hd : p1 < (l.length : Int)
    · have he := Lib.hid (ho.symm.trans (parseB_long hcB hd))
      clear ho hcB
      go_enter Tryz.func19, Tryz.ntmps19
      go_wp2_with fail
      refine hch.out.mono ?_
      rintro e w1 ⟨rfl, hb1⟩
      obtain ⟨c1, c2, c4, c5⟩ := hcells.out w1 (hr0.out.next hb1)
      have hb2 := Lib.hid (hb0.out.andThen hb1)
      clear hb1 hch
      go_wp2_with fail
      go_ret2
      exact FeedPost.lacks he.out (Nat.zero_le 1) (show Chain _ _ 0 (cdV 8) from rfl) hb2.out
    have he := ho.symm.trans (parseB_toks hcB hd)
    clear ho hcB
    obtain ⟨ot, hot⟩ : ∃ ot, tokB p2 l = ot := ⟨_, rfl⟩
    have hT := fun W (hW : Laid11 W A) => tokens11_any l p2 A W hW hl
    have hbd := fun t (ht : ot = .toks t) => doc_bd (hot.trans ht) hl
    rw [hot] at he hT
    clear hot
    replace he := Lib.hid he
    replace hT := Lib.hid hT
    replace hbd := Lib.hid hbd
    go_enter Tryz.func19, Tryz.ntmps19
    go_wp2_with fail
    refine hch.out.mono ?_
    rintro e w1 ⟨rfl, hb1⟩
    have hr1 := hr0.out.next hb1
    obtain ⟨c1, c2, c4, c5⟩ := hcells.out w1 hr1
    have hb2 := hb0.out.andThen hb1
    have hT1 := Lib.hid (hT.out w1 (hL.out.below hb2).lx)
    replace hb2 := Lib.hid hb2
    replace hr1 := Lib.hid hr1
    clear hb1 hch hr0 hb0 hT
    go_wp2_with fail
    refine hT1.out.mono ?_
    rintro e w2 hh
    clear hT1 c1 c2 c4 c5
    cases ot with
    | syn =>
      obtain ⟨f, q, rfl, _, hf, hb3⟩ := hh
      have hb4 := Lib.hid (hb2.out.andThen hb3)
      replace hf := Lib.hid hf
      clear hb3
      unfold faultV
      go_wp2_with fail
      go_ret2
      exact FeedPost.lacks he.out (Nat.le_refl 1) (chain_one hf.out) hb4.out
    | deep =>
      obtain ⟨f, q, rfl, _, hf, hb3⟩ := hh
      have hb4 := Lib.hid (hb2.out.andThen hb3)
      replace hf := Lib.hid hf
      clear hb3
      unfold faultV
      go_wp2_with fail
      go_ret2
      exact FeedPost.lacks he.out (Nat.le_refl 1) (chain_one hf.out) hb4.out
    | toks t =>
      obtain ⟨v, P, rfl, hK, rfl, hb3⟩ := hh
      obtain ⟨h1, h2, h3⟩ := hbd.out _ rfl
      have hK1 := hK.sl
      have hb4 := hb2.out.andThen hb3
      have hB := build12_any P v B w2 hK1 (hL.out.below hb4).tr (by simp at h1; omega) (fun y hy => by have := h2 y.1 (List.mem_map.2 ⟨y, hy, rfl⟩); omega)
      obtain ⟨va, vc, rfl⟩ := hK1.form
      obtain ⟨ob, hob⟩ : ∃ ob, buildB (P.map Prod.fst) = ob := ⟨_, rfl⟩
      rw [hob] at hB
      replace hB := Lib.hid hB
      replace hob := Lib.hid hob
      replace h3 := Lib.hid h3
      replace hr1 := Lib.hid (hr1.out.next hb3)
      replace hb4 := Lib.hid hb4
      clear hK hK1 hb3 hb2 h1 h2 hbd
      go_wp2_with fail
      refine hB.out.mono ?_
      rintro e w3 hh
      clear hB
      cases ob with
      | none =>
        obtain ⟨f, q, rfl, hf, hb5⟩ := hh
        have hb6 := Lib.hid (hb4.out.andThen hb5)
        replace hf := Lib.hid hf
        have he2 := Lib.hid (he.out.trans (tokenB_none p4 p5 hob.out))
        clear hb5
        unfold faultV
        go_wp2_with fail
        go_ret2
        exact FeedPost.lacks he2.out (Nat.le_refl 1) (chain_one hf.out) hb6.out
      | some ns =>
        obtain ⟨v2, Q, rfl, hN, rfl, hb5⟩ := hh
        obtain ⟨g1, g2, g3⟩ := h3.out _ hob.out
        have he2 := he.out.trans (tokenB_some p4 p5 hob.out)
        have hb6 := hb4.out.andThen hb5
        have hr3 := hr1.out.next hb5
        obtain ⟨c1, c2, c4, c5⟩ := hcells.out w3 hr3
        rw [nodes_len] at g1
        obtain ⟨oa, hoa⟩ : ∃ oa, itsA (nodes Q) r3339C p4 p5 = oa := ⟨_, rfl⟩
        have hA := items15_any Q v2 p4 p5 w3 hN g1 g2 g3 (hL.out.below hb6).ty
        rw [hoa] at hA
        have hR := fun W (hb : Below w3.heap.size w3 W) => items14_any Q v2 p4 p5 W (hN.next hb) g1 g2 ((hL.out.below hb6).below hb).dt ((hL.out.below hb6).below hb).ty
        obtain ⟨va2, vc2, rfl⟩ := hN.form
        replace hA := Lib.hid hA
        replace hR := Lib.hid hR
        replace hoa := Lib.hid hoa
        replace he2 := Lib.hid he2
        replace hb6 := Lib.hid hb6
        replace hr3 := Lib.hid hr3
        clear hN hb5 hb4 hr1 he hob h3 g1 g2 g3
        go_wp2_with fail
        refine hA.out.mono ?_
        rintro e w4 hh
        clear hA c1 c2 c4 c5
        cases oa with
        | its x =>
          obtain ⟨u, rfl, hu, hb7⟩ := hh
          have he3 := Lib.hid (he2.out.trans (rootB_ok hoa.out))
          have hb8 := Lib.hid (hb6.out.andThen hb7)
          have hu1 := Lib.hid (ownsRow_mono hu hb6.out.size)
          have hI := Lib.hid (is14_nil 5 w4)
          unfold codeV at hI
          obtain ⟨ua, uc, rfl⟩ := own_form hu
          clear hu hb7
          go_wp2_with fail
          refine hI.out.mono ?_
          rintro e w' ⟨rfl, rfl⟩
          go_wp2_with fail
          go_ret2
          exact FeedPost.has he3.out hu1.out hb8.out
        | bad q =>
          obtain ⟨f, rfl, hf, hb7⟩ := hh
          have hI := is16_any 1 (faultV f) q 5 w4 (chain_one hf)
          by_cases hq : q = 5
          · subst hq
            have he3 := he2.out.trans (rootB_five hoa.out)
            have hb8 := hb6.out.andThen hb7
            obtain ⟨c1, c2, c4, c5⟩ := hcells.out w4 (hr3.out.next hb7)
            obtain ⟨os, hos⟩ : ∃ os, itsB (nodes Q) r822C p4 p5 = os := ⟨_, rfl⟩
            have hS := hR.out w4 hb7
            rw [hos] at hS he3
            rw [show ((5 : Int) == 5) = true from rfl] at hI
            unfold cdV faultV at hI
            unfold faultV
            replace hI := Lib.hid hI
            replace hS := Lib.hid hS
            replace he3 := Lib.hid he3
            replace hb8 := Lib.hid hb8
            clear hf hb7 hos hoa
            go_wp2_with fail
            refine hI.out.mono ?_
            rintro e w' ⟨rfl, rfl⟩
            go_wp2_with fail
            refine hS.out.mono ?_
            rintro e w5 hh
            cases os with
            | its x =>
              obtain ⟨u, rfl, hu, hb9⟩ := hh
              have hu1 := Lib.hid (ownsRow_mono hu hb8.out.size)
              have hb10 := Lib.hid (hb8.out.andThen hb9)
              obtain ⟨ua, uc, rfl⟩ := own_form hu
              clear hu hb9
              go_wp2_with fail
              go_ret2
              exact FeedPost.has he3.out hu1.out hb10.out
            | bad q2 =>
              obtain ⟨f2, rfl, hf2, hb9⟩ := hh
              have hb10 := Lib.hid (hb8.out.andThen hb9)
              replace hf2 := Lib.hid hf2
              clear hb9
              unfold faultV
              go_wp2_with fail
              go_ret2
              exact FeedPost.lacks he3.out (Nat.le_refl 1) (chain_one hf2.out) hb10.out
          · have he3 := Lib.hid (he2.out.trans (rootB_bad hoa.out hq))
            have hb8 := Lib.hid (hb6.out.andThen hb7)
            rw [show (q == 5) = false from by rw [beq_eq_false_iff_ne]; exact hq] at hI
            unfold cdV faultV at hI
            unfold faultV
            replace hI := Lib.hid hI
            replace hf := Lib.hid hf
            replace hq := Lib.hid hq
            clear hb7
            go_wp2_with fail
            refine hI.out.mono ?_
            rintro e w' ⟨rfl, rfl⟩
            go_wp2_with fail
            go_ret2
            exact FeedPost.lacks he3.out (Nat.le_refl 1) (chain_one hf.out) hb8.out

set_option maxRecDepth 100000 in
set_option maxHeartbeats 4000000 in
theorem parse16_any (l : List UInt8) (p : Prm) (A B : Addr) (w : World) (hL : Laid16 w A B) (hl : l.length ≤ 20000) :
    Calls Tryz.prog 8 #[.string ⟨l.toArray⟩, prmV p] w (FeedPost 2 w (parseB p.doc p.dep p.many p.most l)) := by
  have hb0 : Below w.heap.size w (w.alloc (.cells (prmC p).toArray 23)) := (Below.refl _ _).alloc (Nat.le_refl _) _
  have hR := Lib.hid (read16_any l p A B _ (hL.below hb0) hl)
  obtain ⟨o, ho⟩ : ∃ o, parseB p.doc p.dep p.many p.most l = o := ⟨_, rfl⟩
  rw [ho] at hR ⊢
  obtain ⟨p0, p1, p2, p3, p4, p5, p6, p7, p8, p9, p10⟩ := p
  have hnil := eq_nil16
  replace hb0 := Lib.hid hb0
  replace hL := Lib.hid hL
  clear ho
  unfold prmV prmC at *
  simp only at hR hb0 ⊢
  go_enter Tryz.func8, Tryz.ntmps8
  go_wp2_with fail
  refine hR.out.mono ?_
  rintro e w1 hh
  clear hR
  cases o with
  | its x =>
    obtain ⟨v, rfl, hv, hb1⟩ := hh
    have hb2 := Lib.hid (hb0.out.andThen hb1)
    have hv1 := Lib.hid (ownsRow_mono hv hb0.out.size)
    obtain ⟨va, vc, rfl⟩ := own_form hv
    clear hv hb1
    go_wp2_with fail
    go_ret2
    exact FeedPost.has rfl hv1.out hb2.out
  | bad q =>
    obtain ⟨n, v, hn, rfl, hc, hb1⟩ := hh
    have hb2 := hb0.out.andThen hb1
    have hF := Lib.hid (fault16_any n v q w1 hc (hL.out.below hb2).ty)
    obtain ⟨T, y, rfl⟩ := hc.form
    replace hb2 := Lib.hid hb2
    clear hc hb1
    go_wp2_with fail
    refine hF.out.mono ?_
    rintro e w2 ⟨f, rfl, hc, hb3⟩
    have hb4 := Lib.hid (hb2.out.andThen hb3)
    replace hc := Lib.hid hc
    clear hb3 hF
    go_wp2_with fail
    go_ret2
    exact FeedPost.lacks rfl (show n + 1 ≤ 2 by omega) hc.out hb4.out
end Go.Proofs.YtkgjbamkinfmeaaGreatDoor
