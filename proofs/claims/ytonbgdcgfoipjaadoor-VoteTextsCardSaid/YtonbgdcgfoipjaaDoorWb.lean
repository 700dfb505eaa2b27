/- The walks of the reference of layer 3: Sign, fitting, Words; of the law's comparison. -/
import Derived.Test.YtonbgdcgfoipjaaDoorWa
import Derived.Test.YtonbgdcgfoipjaaDoorFc
namespace Go.Proofs.YtonbgdcgfoipjaaDoor
open Go.RowKit

set_option maxHeartbeats 400000 in
theorem refsign_any (r : Int) (w : World) : Calls Tryd.prog 23 #[.int .i32 r] w fun e w' => e = .returned (.bool (sg r)) ∧ Below w.heap.size w w' := by
  have e1 : sg r = (letB r || digB r) := rfl
  replace e1 := Lib.hid e1
  cases hl : letB r
  all_goals
    have hl1 := hl
    replace hl := Lib.hid hl
    go_enter Tryd.func23, Tryd.ntmps23
    go_wp2_with fail
    refine (refletter_any r _).mono ?_; rintro e w1 ⟨rfl, hb1⟩
    rw [hl1]
    clear hl1
    replace hb1 := Lib.hid hb1
    go_wp2_with fail
  · refine (refdigit_any r _).mono ?_; rintro e w2 ⟨rfl, hb2⟩
    go_wp2_with fail
    go_ret
    exact ⟨ret_bool (by rw [e1.out, hl.out]; rfl), hb1.out.andThen hb2⟩
  · go_ret
    exact ⟨ret_bool (by rw [e1.out, hl.out]; rfl), hb1.out⟩

/-- What the loop of fitting keeps. -/
structure FitAt (xs : List Int) (w : World) (k : Nat) (acc : List UInt8) (wr : World) : Prop where
  le : k ≤ xs.length
  below : Below w.heap.size w wr
  eq : fitGo acc (xs.drop k) = fit xs
  len : acc.length ≤ 64

set_option maxHeartbeats 1000000 in
theorem fitting_any (xs : List Int) (v : Value) (w : World) (hv : IntSl .i32 w v xs) (hlow : SlBelow w.heap.size v) (hs : xs.length ≤ 20000) :
    Calls Tryd.prog 24 #[v] w fun e w' => e = .returned (.string ⟨(fit xs).toArray⟩) ∧ Below w.heap.size w w' := by
  rcases hv with ⟨rfl, a, c, rfl⟩ | ⟨b, off, c, rfl, h1⟩
  · go_enter Tryd.func24, Tryd.ntmps24
    go_wp2_with fail
    refine wp_loop_rounds 1 ?_; rw [rounds_succ]
    go_wp2_with fail
    go_ret
    exact ⟨rfl, Below.refl _ _⟩
  have hbb : 0 < xs.length → b < w.heap.size := fun h => hlow _ _ _ rfl h
  replace hbb := Lib.hid hbb
  replace h1 := Lib.hid h1
  go_enter Tryd.func24, Tryd.ntmps24
  go_wp2_with fail
  go_loopw [3, 4, 5] (fun s i _ wr => ∃ (k : Nat) (acc : List UInt8), i = .int .i64 k ∧ s = .string ⟨acc.toArray⟩ ∧ Hid (FitAt xs w k acc wr)) (fun _ i _ _ => xs.length - (intOf i).toNat)
  case atStart => exact ⟨0, [], rfl, rfl, ⟨Nat.zero_le _, Below.refl _ _, rfl, by simp⟩⟩
  case round =>
    obtain ⟨k, acc, rfl, rfl, hc⟩ := hrel
    have hk := hc.out.le
    have hal := hc.out.len
    have hsz := hc.out.below.size
    by_cases hlt : k < xs.length
    · have g1 := (hc.out.below.cell (p := ⟨b, off + k, none⟩) (hbb.out (by omega))).trans (h1.out k hlt)
      have hx : xs.drop k = xs.getD k 0 :: xs.drop (k + 1) := by rw [List.drop_eq_getElem_cons hlt]; simp [List.getD, hlt]
      have heq := hc.out.eq
      rw [hx] at heq
      clear hx
      replace heq := Lib.hid heq
      generalize xs.getD k 0 = x at g1 heq
      go_wp2_with fail
      refine (reffold_any _ _).mono ?_; rintro e w1 ⟨rfl, hb1⟩
      replace hb1 := Lib.hid (hc.out.below.andThen hb1)
      go_wp2_with fail
      refine (refbytes_any _ _).mono ?_; rintro e w2 ⟨rfl, hb2⟩
      replace hb2 := Lib.hid (hb1.out.andThen hb2)
      have hfl := enc_bd (foldI x)
      clear hb1 g1
      by_cases hfit : acc.length + (enc (foldI x)).length ≤ 64
      · have heq2 := Lib.hid (show fitGo (acc ++ enc (foldI x)) (xs.drop (k + 1)) = fit xs by rw [← heq.out, fitGo, if_pos hfit])
        go_wp2_with fail
        exact ⟨⟨k + 1, acc ++ enc (foldI x), by go_num, rfl, ⟨by omega, hb2.out, heq2.out, by simp; omega⟩⟩, by simp [intOf]; omega⟩
      · have heq2 := Lib.hid (show acc = fit xs by rw [← heq.out, fitGo, if_neg hfit])
        go_wp2_with fail
        go_ret
        exact ⟨ret_str heq2.out, hb2.out⟩
    · have he := Lib.hid (show acc = fit xs by rw [← hc.out.eq, List.drop_eq_nil_of_le (by omega)]; rfl)
      have hke : ¬ ((k : Int) < xs.length) := by omega
      go_wp2_with fail
      go_ret
      exact ⟨ret_str he.out, hc.out.below⟩

end Go.Proofs.YtonbgdcgfoipjaaDoor
