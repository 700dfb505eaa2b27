/- Layer 17: what the law PrintBack asks of texts, and what it makes of entries. -/
import Derived.Test.YtahohmdbiiknoaaGreatDoorBR20
import Derived.Test.YtahohmdbiiknoaaGreatDoorBR12
import Derived.Test.YtahohmdbiiknoaaGreatDoorBR29
import Derived.BigRegion
namespace Go.Proofs.YtahohmdbiiknoaaGreatDoor
open Go.RowKit

/-- What 'fine' tells. -/
def FinePost (w : World) (l : List UInt8) (e : Ending) (w' : World) : Prop := ∃ b, e = .returned (.bool b) ∧ Below w.heap.size w w' ∧ (b = true → goodT l = true)
set_option maxHeartbeats 1000000 in
theorem fine17_any (l : List UInt8) (w : World) (hl : l.length ≤ 1000000) : Calls Tryz.prog 6 #[.string ⟨l.toArray⟩] w (FinePost w l) := by
  obtain ⟨R, c, w1, hrun, hn, h0, hcell, hb, -⟩ := runes_conv (P := Tryz.prog) l w 9 37 21 Tryz.underlying9 Tryz.underlying37 Tryz.underlying21 hl
  have hback := runes_str (P := Tryz.prog) w1 37 9 21 Tryz.underlying37 Tryz.underlying21 Tryz.underlying9 w.heap.size c R hcell
  have hcap : R.length ≤ c ∨ R.length = 0 ∨ True := Or.inr (Or.inr trivial)
  clear hcap
  have hfin := Lib.hid (fun (h1 : ∀ r ∈ R, charB r = true) (h2 : encAll R = l) => fine_good h1 h2)
  generalize encAll R = L at hback hfin
  replace h0 := Lib.hid h0
  replace hback := Lib.hid hback
  go_enter Tryz.func6, Tryz.ntmps6
  go_wp2_with fail
  clear hrun
  go_loopw [4] (fun i wr => ∃ k : Nat, i = .int .i64 k ∧ k ≤ R.length ∧ Hid (∀ j, j < k → charB (R.getD j 0) = true) ∧ wr = w1) (fun i _ => R.length - (intOf i).toNat)
  case atStart => exact ⟨0, rfl, Nat.zero_le _, fun j hj => absurd hj (by omega), rfl⟩
  case round =>
    obtain ⟨k, rfl, hk, hgood, rfl⟩ := hrel
    by_cases hlt : k < R.length
    · have hlt1 : (k : Int) < R.length := by omega
      have hc := hcell.out k hlt
      have hch := fun W : World => refchar_any (R.getD k 0) W
      generalize hr : R.getD k 0 = r at hc hch
      replace hr := Lib.hid hr
      cases hq : charB r
      · rw [hq] at hch
        replace hch := Lib.hid hch
        go_wp2_with fail
        refine (hch.out _).mono ?_
        rintro e w' ⟨rfl, rfl⟩
        go_wp2_with fail
        go_ret
        exact ⟨false, rfl, hb.out, fun e => by cases e⟩
      · rw [hq] at hch
        replace hch := Lib.hid hch
        replace hq := Lib.hid hq
        go_wp2_with fail
        refine (hch.out _).mono ?_
        rintro e w' ⟨rfl, rfl⟩
        go_wp2_with fail
        refine ⟨⟨k + 1, by go_num, by omega, fun j hj => ?_, trivial⟩, by simp [intOf]; omega⟩
        by_cases hjk : j = k
        · rw [hjk, hr.out]; exact hq.out
        · exact hgood.out j (by omega)
    · have hlt1 : ¬ ((k : Int) < R.length) := by omega
      have hcv := hback.out
      have hall : ∀ r ∈ R, charB r = true := by
        intro r hr
        obtain ⟨j, hj, rfl⟩ := List.mem_iff_getElem.1 hr
        have := hgood.out j (by omega)
        simpa [List.getD, hj] using this
      replace hall := Lib.hid hall
      cases hq : (L == l)
      · go_wp2_with fail
        go_ret
        exact ⟨false, rfl, hb.out, fun e => by cases e⟩
      · have hLl := Lib.hid (beq_iff_eq.1 hq)
        go_wp2_with fail
        go_ret
        exact ⟨true, rfl, hb.out, fun _ => hfin.out hall.out hLl.out⟩

/-- An entry in a row, cell by cell. -/
def Row6 (w : World) (b : Nat) (x : It) : Prop := (w.cell? ⟨b, 0, none⟩ = some (.string ⟨x.guid.toArray⟩) ∧ w.frozen? ⟨b, 0, none⟩ = false) ∧ (w.cell? ⟨b, 1, none⟩ = some (.string ⟨x.title.toArray⟩) ∧ w.frozen? ⟨b, 1, none⟩ = false) ∧ (w.cell? ⟨b, 2, none⟩ = some (.string ⟨x.link.toArray⟩) ∧ w.frozen? ⟨b, 2, none⟩ = false) ∧ (w.cell? ⟨b, 3, none⟩ = some (.string ⟨x.body.toArray⟩) ∧ w.frozen? ⟨b, 3, none⟩ = false) ∧ (w.cell? ⟨b, 4, none⟩ = some (.int .i64 x.date) ∧ w.frozen? ⟨b, 4, none⟩ = false) ∧ (w.cell? ⟨b, 5, none⟩ = some (.bool x.dated) ∧ w.frozen? ⟨b, 5, none⟩ = false)
theorem row6 {w : World} {b : Nat} {x : It} {t : TypeId} (h : ArrAt w b t (itC x)) : Row6 w b x := row14 h
/-- The rows of 'cleaned': its variable, its result. -/
structure Cw (w0 : World) (x : It) (w : World) : Prop where
  r1 : ArrAt w w0.heap.size 26 (itC x)
  r0 : ArrAt w (w0.heap.size + 1) 26 (itC it0)
  below : Below w0.heap.size w0 w
section
variable {w0 w w' : World} {x : It}
theorem Cw.next (h : Cw w0 x w) (hb : Below w.heap.size w w') : Cw w0 x w' := ⟨h.r1.next hb, h.r0.next hb, h.below.andThen hb⟩
theorem Cw.set (h : Cw w0 x w) (k : Nat) (u : Value) (y : It) (e : (itC x).set k u = itC y) : Cw w0 y (w.setCell ⟨w0.heap.size, k, none⟩ u) :=
  ⟨e ▸ h.r1.set k u, h.r0.far k u (by omega), h.below.setCell (p := ⟨w0.heap.size, k, none⟩) (by show w0.heap.size ≤ w0.heap.size; omega) u⟩
theorem Cw.drew (h : Hid (Cw w0 x w)) : Hid (Cw w0 x w.drew) := h.out.next ((drawn_drew w).below _)
theorem Cw.new (w : World) (x : It) : Cw w x ((w.alloc (.cells (itC x).toArray 26)).alloc (.cells (itC it0).toArray 26)) := by
  have h0 := arrAt_new w 26 (itC x)
  have hb1 : Below w.heap.size w (w.alloc (.cells (itC x).toArray 26)) := (Below.refl _ _).alloc (Nat.le_refl _) _
  have h1 := arrAt_new (w.alloc (.cells (itC x).toArray 26)) 26 (itC it0)
  rw [show (w.alloc (.cells (itC x).toArray 26)).heap.size = w.heap.size + 1 by simp] at h1
  exact ⟨h0.next ((Below.refl _ _).alloc (Nat.le_refl _) _), h1, hb1.andThen ((Below.refl _ _).alloc (Nat.le_refl _) _)⟩
theorem Cw.clean (s : List UInt8) (hs : s.length ≤ 2000000) (W : World) (h : Hid (Cw w0 x W)) : Calls Tryz.prog 7 #[.string ⟨s.toArray⟩] W fun e W' => e = .returned (.string ⟨(cleanB s).toArray⟩) ∧ Row6 W' w0.heap.size x ∧ Hid (Cw w0 x W') :=
  (refclean_any s W hs).mono fun _ _ hh => ⟨hh.1, row6 (h.out.next hh.2).r1, h.out.next hh.2⟩
end
set_option maxRecDepth 100000 in
set_option maxHeartbeats 4000000 in
theorem cleaned17_any (x : It) (w : World) (h1 : x.guid.length ≤ 100000) (h2 : x.title.length ≤ 100000) (h3 : x.link.length ≤ 100000) (h4 : x.body.length ≤ 100000) :
    Calls Tryz.prog 8 #[itV x] w fun e w' => e = .returned (itV (cleanI x)) ∧ Below w.heap.size w w' := by
  have hQ := Cw.new w x
  obtain ⟨xg, xt, xl, xb, xd, xk⟩ := x
  simp only at h1 h2 h3 h4
  have f1 := Lib.hid (fun (y : It) W (h : Hid (Cw w y W)) => Cw.clean xg (by omega) W h)
  have f2 := Lib.hid (fun (y : It) W (h : Hid (Cw w y W)) => Cw.clean xt (by omega) W h)
  have f3 := Lib.hid (fun (y : It) W (h : Hid (Cw w y W)) => Cw.clean xl (by omega) W h)
  have f4 := Lib.hid (fun (y : It) W (h : Hid (Cw w y W)) => Cw.clean xb (by omega) W h)
  unfold cleanI
  simp only
  generalize cleanB xg = yg at *
  generalize cleanB xt = yt at *
  generalize cleanB xl = yl at *
  generalize cleanB xb = yb at *
  clear h1 h2 h3 h4
  replace hQ := Lib.hid hQ
  unfold itV
  unfold itC strV at hQ ⊢
  unfold it0 at hQ
  simp only at hQ ⊢
  go_enter Tryz.func8, Tryz.ntmps8
  go_upto_region 1 with (fail)
  generalize (w.alloc (.cells #[.string ⟨xg.toArray⟩, .string ⟨xt.toArray⟩, .string ⟨xl.toArray⟩, .string ⟨xb.toArray⟩, .int .i64 xd, .bool xk] 26)).alloc (.cells #[.string ⟨#[]⟩, .string ⟨#[]⟩, .string ⟨#[]⟩, .string ⟨#[]⟩, .int .i64 0, .bool false] 26) = W at *
  obtain ⟨⟨g0, k0⟩, ⟨g1, k1⟩, ⟨g2, k2⟩, ⟨g3, k3⟩, ⟨g4, k4⟩, ⟨g5, k5⟩⟩ := row6 hQ.out.r1
  simp only at g0 g1 g2 g3 g4 g5
  have hQd := Cw.drew hQ
  go_wp2_with fail
  go_region_with (first | (go_at_call 7; ((with_reducible refine (f1.out _ _ (by assumption)).mono ?_); rintro e w' ⟨rfl, ⟨⟨g0, k0⟩, ⟨g1, k1⟩, ⟨g2, k2⟩, ⟨g3, k3⟩, ⟨g4, k4⟩, ⟨g5, k5⟩⟩, hQ⟩)) | (go_at_call 7; ((with_reducible refine (f2.out _ _ (by assumption)).mono ?_); rintro e w' ⟨rfl, ⟨⟨g0, k0⟩, ⟨g1, k1⟩, ⟨g2, k2⟩, ⟨g3, k3⟩, ⟨g4, k4⟩, ⟨g5, k5⟩⟩, hQ⟩)))
  all_goals
    have hQ1 := Lib.hid ((hQ.out.set 0 (.string ⟨yg.toArray⟩) ⟨yg, xt, xl, xb, xd, xk⟩ rfl).set 1 (.string ⟨yt.toArray⟩) ⟨yg, yt, xl, xb, xd, xk⟩ rfl)
    generalize (w'.setCell ⟨w.heap.size, 0, none⟩ (.string ⟨yg.toArray⟩)).setCell ⟨w.heap.size, 1, none⟩ (.string ⟨yt.toArray⟩) = W1 at hQ1 ⊢
    clear hQ hQd g0 g1 g2 g3 g4 g5 k0 k1 k2 k3 k4 k5
    obtain ⟨⟨g0, k0⟩, ⟨g1, k1⟩, ⟨g2, k2⟩, ⟨g3, k3⟩, ⟨g4, k4⟩, ⟨g5, k5⟩⟩ := row6 hQ1.out.r1
    simp only at g0 g1 g2 g3 g4 g5
    have hQd := Cw.drew hQ1
    go_wp2_with fail
    go_region_with (first | (go_at_call 7; ((with_reducible refine (f3.out _ _ (by assumption)).mono ?_); rintro e w' ⟨rfl, ⟨⟨g0, k0⟩, ⟨g1, k1⟩, ⟨g2, k2⟩, ⟨g3, k3⟩, ⟨g4, k4⟩, ⟨g5, k5⟩⟩, hQ⟩)) | (go_at_call 7; ((with_reducible refine (f4.out _ _ (by assumption)).mono ?_); rintro e w' ⟨rfl, ⟨⟨g0, k0⟩, ⟨g1, k1⟩, ⟨g2, k2⟩, ⟨g3, k3⟩, ⟨g4, k4⟩, ⟨g5, k5⟩⟩, hQ⟩)))
    all_goals
      have hQ2 := Lib.hid ((hQ.out.set 2 (.string ⟨yl.toArray⟩) ⟨yg, yt, yl, xb, xd, xk⟩ rfl).set 3 (.string ⟨yb.toArray⟩) ⟨yg, yt, yl, yb, xd, xk⟩ rfl)
      generalize (w'.setCell ⟨w.heap.size, 2, none⟩ (.string ⟨yl.toArray⟩)).setCell ⟨w.heap.size, 3, none⟩ (.string ⟨yb.toArray⟩) = W2 at hQ2 ⊢
      clear hQ hQ1 hQd g0 g1 g2 g3 g4 g5 k0 k1 k2 k3 k4 k5
      cases xk
      · have hQ3 := Lib.hid (hQ2.out.set 4 (.int .i64 0) ⟨yg, yt, yl, yb, 0, false⟩ rfl)
        obtain ⟨⟨g0, k0⟩, ⟨g1, k1⟩, ⟨g2, k2⟩, ⟨g3, k3⟩, ⟨g4, k4⟩, ⟨g5, k5⟩⟩ := row6 hQ2.out.r1
        simp only at g0 g1 g2 g3 g4 g5
        clear hQ2
        go_upto_region 5 with (fail)
        generalize W2.setCell ⟨w.heap.size, 4, none⟩ (.int .i64 0) = W3 at hQ3 ⊢
        clear g0 g1 g2 g3 g4 g5 k0 k1 k2 k3 k4 k5
        obtain ⟨⟨g0, k0⟩, ⟨g1, k1⟩, ⟨g2, k2⟩, ⟨g3, k3⟩, ⟨g4, k4⟩, ⟨g5, k5⟩⟩ := row6 hQ3.out.r1
        simp only at g0 g1 g2 g3 g4 g5
        obtain ⟨⟨q0, j0⟩, ⟨q1, j1⟩, ⟨q2, j2⟩, ⟨q3, j3⟩, ⟨q4, j4⟩, ⟨q5, j5⟩⟩ := row14_zero hQ3.out.r0
        have hz := row14 (row14_set hQ3.out.r0 ⟨yg, yt, yl, yb, 0, false⟩)
        unfold strV at hz
        simp only at hz
        have hbw := Lib.hid hQ3.out.below
        replace hz := Lib.hid hz
        clear hQ3
        go_wp2_with fail
        obtain ⟨⟨z0, -⟩, ⟨z1, -⟩, ⟨z2, -⟩, ⟨z3, -⟩, ⟨z4, -⟩, ⟨z5, -⟩⟩ := hz.out
        (try simp only [Exit.inBlock, Exit.then])
        refine bodyPost_ret (v := .agg #[.string ⟨yg.toArray⟩, .string ⟨yt.toArray⟩, .string ⟨yl.toArray⟩, .string ⟨yb.toArray⟩, .int .i64 0, .bool false]) (by simp [results, Tryz.results8, go_sem, z0, z1, z2, z3, z4, z5]) rfl ⟨by simp, ?_⟩
        exact setIt_below ⟨yg, yt, yl, yb, 0, false⟩ hbw.out (by omega)
      · skip
        obtain ⟨⟨g0, k0⟩, ⟨g1, k1⟩, ⟨g2, k2⟩, ⟨g3, k3⟩, ⟨g4, k4⟩, ⟨g5, k5⟩⟩ := row6 hQ2.out.r1
        simp only at g0 g1 g2 g3 g4 g5
        obtain ⟨⟨q0, j0⟩, ⟨q1, j1⟩, ⟨q2, j2⟩, ⟨q3, j3⟩, ⟨q4, j4⟩, ⟨q5, j5⟩⟩ := row14_zero hQ2.out.r0
        have hz := row14 (row14_set hQ2.out.r0 ⟨yg, yt, yl, yb, xd, true⟩)
        unfold strV at hz
        simp only at hz
        have hbw := Lib.hid hQ2.out.below
        replace hz := Lib.hid hz
        clear hQ2
        go_wp2_with fail
        obtain ⟨⟨z0, -⟩, ⟨z1, -⟩, ⟨z2, -⟩, ⟨z3, -⟩, ⟨z4, -⟩, ⟨z5, -⟩⟩ := hz.out
        (try simp only [Exit.inBlock, Exit.then])
        refine bodyPost_ret (v := .agg #[.string ⟨yg.toArray⟩, .string ⟨yt.toArray⟩, .string ⟨yl.toArray⟩, .string ⟨yb.toArray⟩, .int .i64 xd, .bool true]) (by simp [results, Tryz.results8, go_sem, z0, z1, z2, z3, z4, z5]) rfl ⟨by simp, ?_⟩
        exact setIt_below ⟨yg, yt, yl, yb, xd, true⟩ hbw.out (by omega)
end Go.Proofs.YtahohmdbiiknoaaGreatDoor
