/- The walk of the reference's Scan of layer 19. -/
import Derived.Test.YtkckddcibhbalaaD19c
import Derived.Test.YtkckddcibhbalaaD19f
namespace Go.Proofs.Ytkckddcibhbalaa
open Go.RowKit

/-- What is left of the reference's scan behind i blocks. -/
def leftR (s : List UInt8) (i : Nat) (st : SS) : List (List UInt8) × Nat := ((scan19 ((chunks19 s).drop i) i st).out, (scan19 ((chunks19 s).drop i) i st).fin)
theorem leftR_all (s : List UInt8) : leftR s 0 ss0 = scanB s := rfl
theorem leftR_end {s : List UInt8} {i : Nat} {st : SS} (h : s.length < 64 * (i + 1)) : leftR s i st = (st.out, st.fin) := by
  unfold leftR
  rw [List.drop_eq_nil_of_le (by rw [chunks_len]; omega)]
  rfl
theorem leftR_cons {s : List UInt8} {i : Nat} (st : SS) (h : 64 * (i + 1) ≤ s.length) : leftR s i st = match step19 st i ((s.drop (64 * i)).take 64) with | none => (st.out, st.fin) | some st' => leftR s (i + 1) st' := by
  have hl : i < (chunks19 s).length := by rw [chunks_len]; omega
  have he : (chunks19 s)[i]'hl = (s.drop (64 * i)).take 64 := by
    have := chunks_get s (i := i) (by omega)
    rw [List.getElem?_eq_getElem hl] at this
    exact Option.some.inj this
  unfold leftR
  rw [List.drop_eq_getElem_cons hl, he, scan19]
  cases step19 st i ((s.drop (64 * i)).take 64) <;> rfl
theorem rrPost_no {w w' : World} {e : Ending} (h : rrPost w none e w') : e = .returned (.tuple #[.int .i64 0, .string ⟨#[]⟩]) ∧ Below w.heap.size w w' := h
theorem rrPost_yes {w w' : World} {e : Ending} {k : Nat} {t : List UInt8} (h : rrPost w (some (k, t)) e w') : e = .returned (.tuple #[.int .i64 k, .string ⟨t.toArray⟩]) ∧ Below w.heap.size w w' := h
set_option maxRecDepth 100000 in
set_option maxHeartbeats 2000000 in
theorem refscan19_any (s : List UInt8) (w : World) (hs : s.length ≤ 100000000) :
    Calls Try.prog 13 #[.string ⟨s.toArray⟩] w (ScanPost w s) := by
  have hst := Lib.hid (show Strs w w.heap.size (.slice none 0 0) [] from World.ownsRow_nil _ _ _ _)
  go_enter Try.func13, Try.ntmps13
  go_wp2_with fail
  go_loopw [4, 5, 6, 7, 8] (fun v fv ov tv iv wr => ∃ (i : Nat) (out : List (List UInt8)) (fin : Nat) (opn : Bool) (text : List UInt8) (a : Option Addr) (c : Nat), v = .slice a out.length c ∧ fv = .int .i64 fin ∧ ov = .bool opn ∧ tv = .string ⟨text.toArray⟩ ∧ iv = .int .i64 i ∧ 64 * i ≤ s.length ∧ out.length ≤ i ∧ text.length ≤ 262144 ∧ Hid (leftR s i ⟨opn, text, out, fin⟩ = scanB s) ∧ Hid (Strs wr w.heap.size (.slice a out.length c) out) ∧ Hid (Below w.heap.size w wr)) (fun _ _ _ _ iv _ => s.length - (intOf iv).toNat)
  case atStart => exact ⟨0, [], 0, false, [], none, 0, rfl, rfl, rfl, rfl, rfl, by omega, by simp, by simp, Lib.hid (leftR_all s), hst, Lib.hid (Below.refl _ _)⟩
  case round =>
    obtain ⟨i, out, fin, opn, text, a, c, rfl, rfl, rfl, rfl, rfl, hi, hoi, htx, hlf, ho, hbl⟩ := hrel
    clear hst
    by_cases hlt : 64 * (i + 1) ≤ s.length
    · have hli : ((i : Int) + 1) * 64 ≤ s.length := by omega
      have hrd := refread19_any ((s.drop (64 * i)).take 64) i wr (by rw [List.length_take, List.length_drop]; omega) (by omega)
      have hst := leftR_cons ⟨opn, text, out, fin⟩ hlt
      unfold step19 at hst
      have hspell : (s.drop (64 * i)).take 64 = (s.take ((i + 1) * 64)).drop (i * 64) := by
        rw [List.drop_take, show (i + 1) * 64 - i * 64 = 64 by omega, Nat.mul_comm]
      rw [hspell] at hrd hst
      have hR : ∀ k t, read19 ((s.take ((i + 1) * 64)).drop (i * 64)) i = some (k, t) → (k = 1 ∨ k = 2 ∨ k = 3 ∨ k = 4) ∧ t.length ≤ 54 := by
        intro k t e
        obtain ⟨h1, h2, h3⟩ := okKind_bd (read_is e).2.1
        exact ⟨by omega, h3⟩
      generalize read19 ((s.take ((i + 1) * 64)).drop (i * 64)) i = R at hrd hst hR
      clear hspell
      cases R with
      | none =>
        simp only at hst
        rw [hlf.out] at hst
        replace hst := Lib.hid hst.symm
        replace hrd := Lib.hid hrd
        clear hlf hR
        go_wp2_with fail
        refine hrd.out.mono ?_; rintro e w1 hp
        obtain ⟨rfl, hb⟩ := rrPost_no hp
        replace ho := Lib.hid (show Strs w1 w.heap.size _ out from ownsRow_below ho.out hb)
        replace hb := Lib.hid (hbl.out.andThen hb)
        clear hp hrd
        go_wp2_with fail
        go_ret2
        exact scanPost_of hst.out ho.out hb.out
      | some x =>
        obtain ⟨kd, t⟩ := x
        obtain ⟨hkd, htl⟩ := hR kd t rfl
        clear hR
        simp only at hst
        rw [hlf.out] at hst
        replace hrd := Lib.hid hrd
        clear hlf
        rcases hkd with rfl | rfl | rfl | rfl
        · cases opn
          · rw [if_neg (by decide), List.length_append] at hst
            by_cases hlong : 262144 < text.length + t.length
            · rw [if_pos hlong] at hst
              simp only at hst
              replace hst := Lib.hid hst.symm
              go_wp2_with fail
              refine hrd.out.mono ?_; rintro e w1 hp
              obtain ⟨rfl, hb⟩ := rrPost_yes hp
              replace ho := Lib.hid (show Strs w1 w.heap.size _ out from ownsRow_below ho.out hb)
              replace hb := Lib.hid (hbl.out.andThen hb)
              clear hp hrd
              go_wp2_with fail
              go_ret2
              exact scanPost_of hst.out ho.out hb.out
            · rw [if_neg hlong, if_neg (by decide)] at hst
              simp only at hst
              replace hst := Lib.hid hst.symm
              go_wp2_with fail
              refine hrd.out.mono ?_; rintro e w1 hp
              obtain ⟨rfl, hb⟩ := rrPost_yes hp
              replace ho := Lib.hid (show Strs w1 w.heap.size _ out from ownsRow_below ho.out hb)
              replace hb := Lib.hid (hbl.out.andThen hb)
              clear hp hrd
              have hsz := hb.out.size
              go_wp2_with (at_builtin; go_must (refine wpList_append1 rfl _ _ 28 9 rfl Try.underlying28 (.string ⟨#[]⟩) 16 info_str rfl (by decide) w.heap.size _ _ _ _ ho.out rfl rfl rfl (by omega) (by omega) ?_))
              intro v4 w4 ho4 hb4 _
              replace ho4 := Lib.hid (strs_mk ho4)
              replace hb4 := Lib.hid (hb.out.trans hb4)
              obtain ⟨a4, c4, hv4⟩ := own_form ho4.out
              rw [List.length_append, List.length_singleton] at hv4
              subst hv4
              clear hb hsz
              go_wp2_with fail
              have hl1 : (out ++ [text ++ t]).length = out.length + 1 := by simp
              rw [← hl1] at ho4 ⊢
              exact ⟨⟨i + 1, out ++ [text ++ t], 64 * (i + 1), false, [], a4, c4, rfl, vi64 (by omega), rfl, rfl, by go_num, by omega, by omega, by simp, hst, ho4, hb4⟩, by simp [intOf]; omega⟩
          · rw [if_pos (by decide)] at hst
            simp only at hst
            replace hst := Lib.hid hst.symm
            go_wp2_with fail
            refine hrd.out.mono ?_; rintro e w1 hp
            obtain ⟨rfl, hb⟩ := rrPost_yes hp
            replace ho := Lib.hid (show Strs w1 w.heap.size _ out from ownsRow_below ho.out hb)
            replace hb := Lib.hid (hbl.out.andThen hb)
            clear hp hrd
            go_wp2_with fail
            go_ret2
            exact scanPost_of hst.out ho.out hb.out
        · cases opn
          · rw [if_neg (by decide), List.length_append] at hst
            by_cases hlong : 262144 < text.length + t.length
            · rw [if_pos hlong] at hst
              simp only at hst
              replace hst := Lib.hid hst.symm
              go_wp2_with fail
              refine hrd.out.mono ?_; rintro e w1 hp
              obtain ⟨rfl, hb⟩ := rrPost_yes hp
              replace ho := Lib.hid (show Strs w1 w.heap.size _ out from ownsRow_below ho.out hb)
              replace hb := Lib.hid (hbl.out.andThen hb)
              clear hp hrd
              go_wp2_with fail
              go_ret2
              exact scanPost_of hst.out ho.out hb.out
            · rw [if_neg hlong, if_pos (by decide)] at hst
              simp only at hst
              replace hst := Lib.hid hst.symm
              go_wp2_with fail
              refine hrd.out.mono ?_; rintro e w1 hp
              obtain ⟨rfl, hb⟩ := rrPost_yes hp
              replace ho := Lib.hid (show Strs w1 w.heap.size _ out from ownsRow_below ho.out hb)
              replace hb := Lib.hid (hbl.out.andThen hb)
              clear hp hrd
              go_wp2_with fail
              exact ⟨⟨i + 1, out, fin, true, text ++ t, a, c, rfl, rfl, rfl, rfl, by go_num, by omega, by omega, by rw [List.length_append]; omega, hst, ho, hb⟩, by simp [intOf]; omega⟩
          · rw [if_pos (by decide)] at hst
            simp only at hst
            replace hst := Lib.hid hst.symm
            go_wp2_with fail
            refine hrd.out.mono ?_; rintro e w1 hp
            obtain ⟨rfl, hb⟩ := rrPost_yes hp
            replace ho := Lib.hid (show Strs w1 w.heap.size _ out from ownsRow_below ho.out hb)
            replace hb := Lib.hid (hbl.out.andThen hb)
            clear hp hrd
            go_wp2_with fail
            go_ret2
            exact scanPost_of hst.out ho.out hb.out
        · cases opn
          · rw [if_pos (by decide)] at hst
            simp only at hst
            replace hst := Lib.hid hst.symm
            go_wp2_with fail
            refine hrd.out.mono ?_; rintro e w1 hp
            obtain ⟨rfl, hb⟩ := rrPost_yes hp
            replace ho := Lib.hid (show Strs w1 w.heap.size _ out from ownsRow_below ho.out hb)
            replace hb := Lib.hid (hbl.out.andThen hb)
            clear hp hrd
            go_wp2_with fail
            go_ret2
            exact scanPost_of hst.out ho.out hb.out
          · rw [if_neg (by decide), List.length_append] at hst
            by_cases hlong : 262144 < text.length + t.length
            · rw [if_pos hlong] at hst
              simp only at hst
              replace hst := Lib.hid hst.symm
              go_wp2_with fail
              refine hrd.out.mono ?_; rintro e w1 hp
              obtain ⟨rfl, hb⟩ := rrPost_yes hp
              replace ho := Lib.hid (show Strs w1 w.heap.size _ out from ownsRow_below ho.out hb)
              replace hb := Lib.hid (hbl.out.andThen hb)
              clear hp hrd
              go_wp2_with fail
              go_ret2
              exact scanPost_of hst.out ho.out hb.out
            · rw [if_neg hlong, if_pos (by decide)] at hst
              simp only at hst
              replace hst := Lib.hid hst.symm
              go_wp2_with fail
              refine hrd.out.mono ?_; rintro e w1 hp
              obtain ⟨rfl, hb⟩ := rrPost_yes hp
              replace ho := Lib.hid (show Strs w1 w.heap.size _ out from ownsRow_below ho.out hb)
              replace hb := Lib.hid (hbl.out.andThen hb)
              clear hp hrd
              go_wp2_with fail
              exact ⟨⟨i + 1, out, fin, true, text ++ t, a, c, rfl, rfl, rfl, rfl, by go_num, by omega, by omega, by rw [List.length_append]; omega, hst, ho, hb⟩, by simp [intOf]; omega⟩
        · cases opn
          · rw [if_pos (by decide)] at hst
            simp only at hst
            replace hst := Lib.hid hst.symm
            go_wp2_with fail
            refine hrd.out.mono ?_; rintro e w1 hp
            obtain ⟨rfl, hb⟩ := rrPost_yes hp
            replace ho := Lib.hid (show Strs w1 w.heap.size _ out from ownsRow_below ho.out hb)
            replace hb := Lib.hid (hbl.out.andThen hb)
            clear hp hrd
            go_wp2_with fail
            go_ret2
            exact scanPost_of hst.out ho.out hb.out
          · rw [if_neg (by decide), List.length_append] at hst
            by_cases hlong : 262144 < text.length + t.length
            · rw [if_pos hlong] at hst
              simp only at hst
              replace hst := Lib.hid hst.symm
              go_wp2_with fail
              refine hrd.out.mono ?_; rintro e w1 hp
              obtain ⟨rfl, hb⟩ := rrPost_yes hp
              replace ho := Lib.hid (show Strs w1 w.heap.size _ out from ownsRow_below ho.out hb)
              replace hb := Lib.hid (hbl.out.andThen hb)
              clear hp hrd
              go_wp2_with fail
              go_ret2
              exact scanPost_of hst.out ho.out hb.out
            · rw [if_neg hlong, if_neg (by decide)] at hst
              simp only at hst
              replace hst := Lib.hid hst.symm
              go_wp2_with fail
              refine hrd.out.mono ?_; rintro e w1 hp
              obtain ⟨rfl, hb⟩ := rrPost_yes hp
              replace ho := Lib.hid (show Strs w1 w.heap.size _ out from ownsRow_below ho.out hb)
              replace hb := Lib.hid (hbl.out.andThen hb)
              clear hp hrd
              have hsz := hb.out.size
              go_wp2_with (at_builtin; go_must (refine wpList_append1 rfl _ _ 28 9 rfl Try.underlying28 (.string ⟨#[]⟩) 16 info_str rfl (by decide) w.heap.size _ _ _ _ ho.out rfl rfl rfl (by omega) (by omega) ?_))
              intro v4 w4 ho4 hb4 _
              replace ho4 := Lib.hid (strs_mk ho4)
              replace hb4 := Lib.hid (hb.out.trans hb4)
              obtain ⟨a4, c4, hv4⟩ := own_form ho4.out
              rw [List.length_append, List.length_singleton] at hv4
              subst hv4
              clear hb hsz
              go_wp2_with fail
              have hl1 : (out ++ [text ++ t]).length = out.length + 1 := by simp
              rw [← hl1] at ho4 ⊢
              exact ⟨⟨i + 1, out ++ [text ++ t], 64 * (i + 1), false, [], a4, c4, rfl, vi64 (by omega), rfl, rfl, by go_num, by omega, by omega, by simp, hst, ho4, hb4⟩, by simp [intOf]; omega⟩
    · have hle := leftR_end (st := ⟨opn, text, out, fin⟩) (show s.length < 64 * (i + 1) by omega)
      rw [hlf.out] at hle
      have hli : ¬ ((i : Int) + 1) * 64 ≤ s.length := by omega
      replace hle := Lib.hid hle.symm
      clear hlf
      go_wp2_with fail
      go_ret2
      exact scanPost_of hle.out ho.out hbl.out
end Go.Proofs.Ytkckddcibhbalaa
