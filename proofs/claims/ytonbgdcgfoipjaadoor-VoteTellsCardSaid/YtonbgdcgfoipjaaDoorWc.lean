/- The walk of the reference's Words. -/
import Derived.Test.YtonbgdcgfoipjaaDoorWb
namespace Go.Proofs.YtonbgdcgfoipjaaDoor
open Go.RowKit

/-- What the loop of the reference's Words keeps. -/
structure RefAt (ds : List Int) (w : World) (k : Nat) (acc : List (List UInt8)) (v : Value) (wr : World) : Prop where
  le : k ≤ ds.length
  own : Strs wr w.heap.size v acc
  below : Below w.heap.size w wr
  eq : acc ++ ((runs (ds.drop k)).map fit).take (4096 - acc.length) = wordsR ds
  len : acc.length ≤ 4096
theorem drop_getD {ds : List Int} {k : Nat} (h : k < ds.length) : ds.drop k = ds.getD k 0 :: ds.drop (k + 1) := by rw [List.drop_eq_getElem_cons h]; simp [List.getD, h]
theorem RefAt.skip {ds : List Int} {w : World} {k : Nat} {acc : List (List UInt8)} {v : Value} {wr wr' : World} (h : RefAt ds w k acc v wr) (hk : k < ds.length) (hs : sg (ds.getD k 0) = false) (hb : Below wr.heap.size wr wr') : RefAt ds w (k + 1) acc v wr' :=
  ⟨by omega, ownsRow_below h.own hb, h.below.andThen hb, by have := h.eq; rw [drop_getD hk, runs_skip hs] at this; exact this, h.len⟩
/-- What the inner loop keeps. -/
structure InAt (ds : List Int) (k m : Nat) : Prop where
  le : m ≤ ds.length
  ge : k ≤ m
  sgs : ∀ x ∈ (ds.drop k).take (m - k), sg x = true
theorem InAt.start {ds : List Int} {k : Nat} (h : k ≤ ds.length) : InAt ds k k := ⟨h, Nat.le_refl _, by simp⟩
theorem InAt.step {ds : List Int} {k m : Nat} (h : InAt ds k m) (hm : m < ds.length) (hs : sg (ds.getD m 0) = true) : InAt ds k (m + 1) := by
  have hge := h.ge
  refine ⟨by omega, by omega, ?_⟩
  rw [show m + 1 - k = (m - k) + 1 from by omega, List.take_succ_eq_append_getElem (by simp; omega)]
  intro x hx
  rcases List.mem_append.1 hx with hx | hx
  · exact h.sgs x hx
  · rw [List.mem_singleton.1 hx, List.getElem_drop]
    have : ds.getD m 0 = ds[k + (m - k)]'(by omega) := by simp [List.getD, hm, show k + (m - k) = m from by omega]
    rw [← this]; exact hs
theorem InAt.run {ds : List Int} {k m : Nat} (h : InAt ds k m) (h0 : k < ds.length) (hs : sg (ds.getD k 0) = true) (he : m = ds.length ∨ sg (ds.getD m 0) = false) :
    runs (ds.drop k) = (ds.drop k).take (m - k) :: runs (ds.drop m) := by
  have hge := h.ge
  have hle := h.le
  have hm : k < m := by
    rcases Nat.lt_or_ge k m with hm | hm
    · exact hm
    · have : m = k := by omega
      subst this
      rcases he with he | he
      · omega
      · rw [hs] at he; cases he
  have e : ds.drop k = (ds.drop k).take (m - k) ++ ds.drop m := by
    have := (List.take_append_drop (m - k) (ds.drop k)).symm
    rw [List.drop_drop, show k + (m - k) = m from by omega] at this
    exact this
  conv => lhs; rw [e]
  refine runs_signs _ h.sgs ?_ _ ?_
  · intro e2
    have := congrArg List.length e2
    simp at this; omega
  · rcases he with he | he
    · rw [he, List.drop_length]; rfl
    · rcases Nat.lt_or_ge m ds.length with hm2 | hm2
      · rw [drop_getD hm2]; simp only [noSg, he]; rfl
      · rw [List.drop_eq_nil_of_le hm2]; rfl
theorem RefAt.word {ds : List Int} {w : World} {k m : Nat} {acc : List (List UInt8)} {v v' : Value} {wr wr' : World} (h : RefAt ds w k acc v wr) (hi : InAt ds k m) (h0 : k < ds.length) (hs : sg (ds.getD k 0) = true) (he : m = ds.length ∨ sg (ds.getD m 0) = false)
    (hacc : acc.length < 4096) (ho : Strs wr' w.heap.size v' (acc ++ [fit ((ds.drop k).take (m - k))])) (hb : Below w.heap.size w wr') : RefAt ds w m (acc ++ [fit ((ds.drop k).take (m - k))]) v' wr' := by
  refine ⟨hi.le, ho, hb, ?_, by simp; omega⟩
  rw [← h.eq, hi.run h0 hs he, List.map_cons, show 4096 - acc.length = (4096 - (acc ++ [fit ((ds.drop k).take (m - k))]).length) + 1 from by simp; omega, List.take_succ_cons]
  simp

set_option maxRecDepth 100000 in
set_option maxHeartbeats 2000000 in
theorem refwords_any (l : List UInt8) (w : World) (hs : l.length ≤ 20000) :
    Calls Tryd.prog 16 #[.string ⟨l.toArray⟩] w (WordsPost l w) := by
  go_enter Tryd.func16, Tryd.ntmps16
  go_wp2_with fail
  refine (refdecode_any l _ hs).mono ?_; rintro e w1 ⟨vl, rfl, hown, hb⟩
  have hdl := dec_len l
  have hil := intSl_own hown
  have hlow := slBelow_own hown
  obtain ⟨al, cl, hvl, hcap⟩ := own_cap hown
  clear hown
  have hw : wordsR (dec l) = wordsB l := rfl
  replace hw := Lib.hid hw
  generalize dec l = ds at hdl hil hw hvl hcap
  replace hb := Lib.hid hb
  subst hvl
  replace hil := Lib.hid hil
  replace hlow := Lib.hid hlow
  go_wp2_with fail
  go_loopw [3, 5, 6] (fun v i _ wr => ∃ (k : Nat) (acc : List (List UInt8)) (a : Option Addr) (c : Nat), i = .int .i64 k ∧ v = .slice a acc.length c ∧ Hid (RefAt ds w1 k acc v wr)) (fun _ i _ _ => ds.length - (intOf i).toNat)
  case atStart => exact ⟨0, [], none, 0, rfl, rfl, ⟨Nat.zero_le _, World.ownsRow_nil _ _ _ _, Below.refl _ _, by simp; rfl, by simp⟩⟩
  case round =>
    obtain ⟨k, acc, a, c, rfl, rfl, hc⟩ := hrel
    have hk := hc.out.le
    have hal := hc.out.len
    by_cases hlt : k < ds.length
    · by_cases hl4 : acc.length < 4096
      · have hne : ds ≠ [] := by intro e; subst e; simp at hlt
        obtain ⟨b, off, c2, e2, h1⟩ := (hil.out.below hc.out.below hlow.out).some hne
        injection e2 with e2 e2'' e2'
        clear e2''
        subst e2 e2'
        have g1 := h1 k hlt
        cases hsg : sg (ds.getD k 0)
        · replace hsg := Lib.hid hsg
          generalize hx : ds.getD k 0 = x at g1
          have hsx := hx ▸ hsg.out
          replace hx := Lib.hid hx
          clear h1 hne
          go_wp2_with fail
          refine (refsign_any x _).mono ?_; rintro e w2 ⟨rfl, hb2⟩
          rw [hsx]
          clear hsx
          go_wp2_with fail
          exact ⟨⟨k + 1, acc, a, c, by go_num, rfl, hc.out.skip hlt hsg.out hb2⟩, by simp [intOf]; omega⟩
        · replace hsg := Lib.hid hsg
          generalize hx : ds.getD k 0 = x at g1
          have hsx := hx ▸ hsg.out
          replace hx := Lib.hid hx
          clear h1
          replace hne := Lib.hid hne
          go_wp2_with fail
          refine (refsign_any x _).mono ?_; rintro e w2 ⟨rfl, hb2⟩
          rw [hsx]
          clear hsx
          replace hb2 := Lib.hid hb2
          have hb1w := Lib.hid (show Below w1.heap.size w1 w2 from hc.out.below.andThen hb2.out)
          have ho2 := Lib.hid (show Strs w2 w1.heap.size _ acc from ownsRow_below hc.out.own hb2.out)
          go_wp2_with fail
          go_loopw [6] (fun j w3 => ∃ m : Nat, j = .int .i64 m ∧ Hid (InAt ds k m) ∧ Hid (Below w2.heap.size w2 w3)) (fun j _ => ds.length - (intOf j).toNat)
          case atStart => exact ⟨k, rfl, InAt.start (by omega), Below.refl _ _⟩
          case round =>
            obtain ⟨m, rfl, hi, hb3⟩ := hrel
            have hmk := hi.out.ge
            have hml := hi.out.le
            by_cases hm : m < ds.length
            · obtain ⟨b5, off5, c5, e5, h5⟩ := (hil.out.below (hb1w.out.andThen hb3.out) hlow.out).some hne.out
              injection e5 with e5 e5'' e5'
              clear e5''
              injection e5 with e5
              injection e5 with e6 e7
              subst e6 e7 e5'
              have g5 := h5 m hm
              clear h5
              cases hsm : sg (ds.getD m 0)
              · replace hsm := Lib.hid hsm
                generalize hy : ds.getD m 0 = y at g5
                have hsy := hy ▸ hsm.out
                have he := Lib.hid (show m = ds.length ∨ sg (ds.getD m 0) = false from Or.inr hsm.out)
                replace hy := Lib.hid hy
                go_wp2_with fail
                refine (refsign_any y _).mono ?_; rintro e w4 ⟨rfl, hb4⟩
                rw [hsy]
                clear hsy
                replace hb4 := Lib.hid (hb3.out.andThen hb4)
                go_wp2_with fail
                have hbk : b < w1.heap.size := hlow.out ⟨b, off, none⟩ _ _ rfl (by omega)
                have hsub := (intSl_sub (hil.out.below (hb1w.out.andThen hb4.out) hlow.out) hne.out k m (cl - k) hmk hml)
                refine (fitting_any _ _ _ hsub ?f1 ?f2).mono ?_
                case f1 =>
                  intro a' n' c' e _
                  injection e with e
                  injection e with e
                  subst e
                  have := (hb1w.out.andThen hb4.out).size
                  show b < _
                  omega
                case f2 => simp; omega
                rintro e w5 ⟨rfl, hb5⟩
                have ho5 := Lib.hid (show Strs w5 w1.heap.size _ acc from ownsRow_below (ownsRow_below ho2.out hb4.out) hb5)
                replace hb5 := Lib.hid ((hb1w.out.andThen hb4.out).andThen hb5)
                have hsz5 := hb5.out.size
                clear hsub
                go_wp2_with (at_builtin; go_must (refine wpList_append1 rfl _ _ 31 9 rfl Tryd.underlying31 (.string ⟨#[]⟩) 16 info_str rfl (by decide) w1.heap.size _ _ _ _ ho5.out rfl rfl rfl (by omega) (by omega) ?_))
                intro v6 w6 ho6 hb6 _
                have ho6 := Lib.hid (strs_mk ho6)
                replace hb6 := Lib.hid (hb5.out.trans hb6)
                obtain ⟨a6, c6, hv6⟩ := own_form ho6.out
                rw [List.length_append, List.length_singleton] at hv6
                subst hv6
                go_wp2_with fail
                have hmk2 : k < m := by
                  rcases Nat.lt_or_ge k m with h | h
                  · exact h
                  · have e : m = k := by omega
                    rcases he.out with he | he
                    · omega
                    · rw [e, hsg.out] at he; cases he
                exact ⟨⟨m, acc ++ [fit ((ds.drop k).take (m - k))], a6, c6, rfl, by simp, hc.out.word hi.out hlt hsg.out he.out hl4 ho6.out hb6.out⟩, by simp [intOf]; omega⟩
              · replace hsm := Lib.hid hsm
                generalize hy : ds.getD m 0 = y at g5
                have hsy := hy ▸ hsm.out
                replace hy := Lib.hid hy
                go_wp2_with fail
                refine (refsign_any y _).mono ?_; rintro e w4 ⟨rfl, hb4⟩
                rw [hsy]
                clear hsy
                replace hb4 := Lib.hid (hb3.out.andThen hb4)
                go_wp2_with fail
                exact ⟨⟨m + 1, by go_num, hi.out.step hm hsm.out, hb4⟩, by simp [intOf]; omega⟩
            · have he := Lib.hid (show m = ds.length ∨ sg (ds.getD m 0) = false from Or.inl (by omega))
              have hm2 : ¬ ((m : Int) < ds.length) := by omega
              go_wp2_with fail
              have hbk : b < w1.heap.size := hlow.out ⟨b, off, none⟩ _ _ rfl (by omega)
              have hsub := (intSl_sub (hil.out.below (hb1w.out.andThen hb3.out) hlow.out) hne.out k m (cl - k) hmk hml)
              refine (fitting_any _ _ _ hsub ?f1 ?f2).mono ?_
              case f1 =>
                intro a' n' c' e _
                injection e with e
                injection e with e
                subst e
                have := (hb1w.out.andThen hb3.out).size
                show b < _
                omega
              case f2 => simp; omega
              rintro e w5 ⟨rfl, hb5⟩
              have ho5 := Lib.hid (show Strs w5 w1.heap.size _ acc from ownsRow_below (ownsRow_below ho2.out hb3.out) hb5)
              replace hb5 := Lib.hid ((hb1w.out.andThen hb3.out).andThen hb5)
              have hsz5 := hb5.out.size
              clear hsub
              go_wp2_with (at_builtin; go_must (refine wpList_append1 rfl _ _ 31 9 rfl Tryd.underlying31 (.string ⟨#[]⟩) 16 info_str rfl (by decide) w1.heap.size _ _ _ _ ho5.out rfl rfl rfl (by omega) (by omega) ?_))
              intro v6 w6 ho6 hb6 _
              have ho6 := Lib.hid (strs_mk ho6)
              replace hb6 := Lib.hid (hb5.out.trans hb6)
              obtain ⟨a6, c6, hv6⟩ := own_form ho6.out
              rw [List.length_append, List.length_singleton] at hv6
              subst hv6
              go_wp2_with fail
              have hmk2 : k < m := by
                rcases Nat.lt_or_ge k m with h | h
                · exact h
                · have e : m = k := by omega
                  rcases he.out with he | he
                  · omega
                  · rw [e, hsg.out] at he; cases he
              exact ⟨⟨m, acc ++ [fit ((ds.drop k).take (m - k))], a6, c6, rfl, by simp, hc.out.word hi.out hlt hsg.out he.out hl4 ho6.out hb6.out⟩, by simp [intOf]; omega⟩
      · have hk4 : acc.length = 4096 := by omega
        have he2 := Lib.hid (show acc = wordsB l by rw [← hw.out, ← hc.out.eq, hk4]; simp)
        replace hk4 := Lib.hid hk4
        go_wp2_with fail
        go_ret
        exact ⟨_, rfl, by rw [← he2.out]; exact ownsRow_mono hc.out.own hb.out.size, hb.out.andThen hc.out.below⟩
    · have he2 := Lib.hid (show acc = wordsB l by rw [← hw.out, ← hc.out.eq, List.drop_eq_nil_of_le (by omega)]; simp [runs_nil])
      have hlt2 : ¬ ((k : Int) < ds.length) := by omega
      go_wp2_with fail
      go_ret
      exact ⟨_, rfl, by rw [← he2.out]; exact ownsRow_mono hc.out.own hb.out.size, hb.out.andThen hc.out.below⟩
end Go.Proofs.YtonbgdcgfoipjaaDoor
