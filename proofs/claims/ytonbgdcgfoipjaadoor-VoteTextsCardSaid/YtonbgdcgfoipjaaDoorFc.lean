/- The walks of the reference of layer 2: the search, its three calls; the law's comparison. -/
import Derived.Test.YtonbgdcgfoipjaaDoorFb
namespace Go.Proofs.YtonbgdcgfoipjaaDoor
open Go.RowKit

/-- What the search answers: the range, or an empty one. -/
def rgOf : Option Rg → Rg
  | some g => g
  | none => ⟨0, 0, 0, false⟩
theorem find_step {l : List Rg} {r : Int} {k : Nat} (h : findR (l.drop k) r = findR l r) (hk : k < l.length) (h1 : ¬ (l[k].f ≤ r ∧ r ≤ l[k].t)) : findR (l.drop (k + 1)) r = findR l r := by
  rw [← h, List.drop_eq_getElem_cons hk, findR, if_neg h1]
theorem find_hit {l : List Rg} {r : Int} {k : Nat} (h : findR (l.drop k) r = findR l r) (hk : k < l.length) (h1 : l[k].f ≤ r) (h2 : r ≤ l[k].t) : findR l r = some l[k] := by
  rw [← h, List.drop_eq_getElem_cons hk, findR, if_pos ⟨h1, h2⟩]
theorem find_end {l : List Rg} {r : Int} (h : findR (l.drop l.length) r = findR l r) : findR l r = none := by
  rw [← h, List.drop_length]; rfl

set_option maxHeartbeats 400000 in
theorem in_any (l : List Rg) (r : Int) (v : Value) (w : World) (hl : l.length ≤ 1000) (hv : RgSl w v l) :
    Calls Tryd.prog 41 #[v, .int .i32 r] w fun e w' => e = .returned (.tuple #[.agg #[.int .i32 (rgOf (findR l r)).f, .int .i32 (rgOf (findR l r)).t, .int .i32 (rgOf (findR l r)).a, .bool (rgOf (findR l r)).p], .bool (findR l r).isSome]) ∧ Below w.heap.size w w' := by
  obtain ⟨b, off, c, hc1, rfl, hc⟩ := hv
  go_enter Tryd.func41, Tryd.ntmps41
  go_wp2
  go_loop [6] (fun i => ∃ k : Nat, k ≤ l.length ∧ i = .int .i64 k ∧ findR (l.drop k) r = findR l r) (fun i => l.length - (intOf i).toNat)
  case atStart => exact ⟨0, Nat.zero_le _, rfl, rfl⟩
  case round =>
    obtain ⟨k, hk, rfl, hs⟩ := hrel
    replace hs := Lib.hid hs
    have hbb : Below w.heap.size w (w.alloc (.cells #[.int .i32 0, .int .i32 0, .int .i32 0, .bool false] 56)) := (Below.refl _ _).alloc (Nat.le_refl _) _
    replace hc := Lib.hid hc
    by_cases hlt : k < l.length
    · obtain ⟨c0, c1, c2, c3⟩ := (hc.out.below hbb) k _ (List.getElem?_eq_getElem hlt)
      replace hbb := Lib.hid hbb
      by_cases hf : l[k].f ≤ r
      · by_cases ht : r ≤ l[k].t
        · go_wp2
          refine bodyPost_ret (v := .tuple #[.agg #[.int .i32 l[k].f, .int .i32 l[k].t, .int .i32 l[k].a, .bool l[k].p], .bool true]) (by simp [results, Tryd.results41, go_sem]) rfl ?_
          refine ⟨?_, ?_⟩
          · rw [find_hit hs.out hlt hf ht]; rfl
          · exact (Below.refl _ _).alloc (Nat.le_refl _) _
        · go_wp2
          exact ⟨⟨k + 1, by omega, by go_num, find_step hs.out hlt (by omega)⟩, by simp [intOf]; omega⟩
      · go_wp2
        exact ⟨⟨k + 1, by omega, by go_num, find_step hs.out hlt (by omega)⟩, by simp [intOf]; omega⟩
    · have hkl : k = l.length := by omega
      have hn : findR l r = none := by have h := hs.out; rw [hkl] at h; exact find_end h
      replace hn := Lib.hid hn
      go_wp2
      refine bodyPost_ret (v := .tuple #[.agg #[.int .i32 0, .int .i32 0, .int .i32 0, .bool false], .bool false]) (by simp [results, Tryd.results41, go_sem]) rfl ?_
      refine ⟨?_, ?_⟩
      · rw [hn.out]; rfl
      · exact (Below.refl _ _).alloc (Nat.le_refl _) _

set_option maxHeartbeats 400000 in
theorem refletter_any (r : Int) (w : World) : Calls Tryd.prog 31 #[.int .i32 r] w fun e w' => e = .returned (.bool (letB r)) ∧ Below w.heap.size w w' := by
  go_enter Tryd.func31, Tryd.ntmps31
  go_wp2_with fail
  refine (refletters_any _).mono ?_; rintro e w1 ⟨v, rfl, hv, hb1⟩
  go_wp2_with fail
  refine (in_any lettersL r v _ (by decide) hv).mono ?_; rintro e w2 ⟨rfl, hb2⟩
  go_wp2_with fail
  go_ret
  exact ⟨rfl, (hb1.andThen hb2).alloc (hb1.andThen hb2).size _⟩

set_option maxHeartbeats 400000 in
theorem refdigit_any (r : Int) (w : World) : Calls Tryd.prog 32 #[.int .i32 r] w fun e w' => e = .returned (.bool (digB r)) ∧ Below w.heap.size w w' := by
  go_enter Tryd.func32, Tryd.ntmps32
  go_wp2_with fail
  refine (refdigits_any _).mono ?_; rintro e w1 ⟨v, rfl, hv, hb1⟩
  go_wp2_with fail
  refine (in_any digitsL r v _ (by decide) hv).mono ?_; rintro e w2 ⟨rfl, hb2⟩
  go_wp2_with fail
  go_ret
  exact ⟨rfl, (hb1.andThen hb2).alloc (hb1.andThen hb2).size _⟩

set_option maxHeartbeats 400000 in
theorem reffold_any (r : Int) (w : World) : Calls Tryd.prog 34 #[.int .i32 r] w fun e w' => e = .returned (.int .i32 (foldI r)) ∧ Below w.heap.size w w' := by
  have hin := fun v W => in_any lettersL r v W (by decide)
  have hfi : foldI r = foldBy (findR lettersL r) r := rfl
  replace hfi := Lib.hid hfi
  cases hf : findR lettersL r with
  | none =>
    rw [hf] at hin
    replace hf := Lib.hid hf
    replace hin := Lib.hid hin
    go_enter Tryd.func34, Tryd.ntmps34
    go_wp2_with fail
    refine (refletters_any _).mono ?_; rintro e w1 ⟨v, rfl, hv, hb1⟩
    go_wp2_with fail
    refine (hin.out v _ hv).mono ?_; rintro e w2 ⟨rfl, hb2⟩
    go_wp2_with fail
    go_ret
    exact ⟨ret_i32 (by rw [hfi.out, hf.out]; rfl), (hb1.andThen hb2).alloc (hb1.andThen hb2).size _⟩
  | some g =>
    obtain ⟨hm, h1, h2⟩ := findR_mem _ _ _ hf
    obtain ⟨p1, p2, p3, p4, p5⟩ := plain_of plain_letters hm
    rw [hf] at hin
    have hfg : foldI r = smallI g r := by rw [hfi.out, hf]; rfl
    replace hfg := Lib.hid hfg
    clear hm hfi
    replace hf := Lib.hid hf
    replace hin := Lib.hid hin
    cases hp : g.p
    all_goals
      replace hp := Lib.hid hp
      go_enter Tryd.func34, Tryd.ntmps34
      go_wp2_with fail
      refine (refletters_any _).mono ?_; rintro e w1 ⟨v, rfl, hv, hb1⟩
      go_wp2_with fail
      refine (hin.out v _ hv).mono ?_; rintro e w2 ⟨rfl, hb2⟩
      rw [show rgOf (some g) = g from rfl, hp.out]
      go_wp2
    all_goals go_ret
    all_goals refine ⟨ret_i32 ?_, (hb1.andThen hb2).alloc (hb1.andThen hb2).size _⟩
    all_goals try simp only [beq_iff_eq, beq_eq_false_iff_ne, ne_eq] at *
    all_goals (rw [hfg.out]; unfold smallI; rw [if_neg (by omega), hp.out]; first | rw [if_pos rfl, if_pos (by omega)] | rw [if_pos rfl, if_neg (by omega)] | simp)
end Go.Proofs.YtonbgdcgfoipjaaDoor
