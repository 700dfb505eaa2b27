/- The walk of layer 9's Join. -/
import Derived.Test.YtkegealaagphgaaD09b
import Derived.Test.YtkegealaagphgaaRz
namespace Go.Proofs.Ytkegealaagphgaa
open Go.RowKit

theorem join9_no (p : Value) (n : Nat) (a b : Int) (w : World) (hl : LenC p n w) (h : (inB n a && inB n b) = false) :
    Calls Try.prog 11 #[p, .int .i64 a, .int .i64 b] w fun e w' => e = .returned (.bool false) ∧ w = w' := by
  have h1 := has9_any p n a w hl
  have h2 := has9_any p n b w hl
  rcases and_false9 h with h | ⟨h, h'⟩
  · rw [h] at h1
    clear h h2 hl
    replace h1 := Lib.hid h1
    go_enter Try.func11, Try.ntmps11
    go_wp2_with fail
    refine h1.out.mono ?_; rintro e w' ⟨rfl, rfl⟩
    go_wp2_with fail
    go_ret
    exact ⟨rfl, rfl⟩
  · rw [h] at h1
    rw [h'] at h2
    clear h h' hl
    replace h1 := Lib.hid h1
    replace h2 := Lib.hid h2
    go_enter Try.func11, Try.ntmps11
    go_wp2_with fail
    refine h1.out.mono ?_; rintro e w' ⟨rfl, rfl⟩
    go_wp2_with fail
    refine h2.out.mono ?_; rintro e w' ⟨rfl, rfl⟩
    go_wp2_with fail
    go_ret
    exact ⟨rfl, rfl⟩
def JoinPost9 (w : World) (X g n : Nat) (M : Nat → Nat) (v : Bool) (e : Ending) (w' : World) : Prop := e = .returned (.bool v) ∧ UfAt w' X g n M ∧ Turned (fun b => b = g) w w'
/-- What Join asks of the two roots, and what of its last stores: c goes under t. -/
def Tail9 (w W : World) (X g n : Nat) (M : Nat → Nat) (c t : Nat) (lc lt : Nat) : Prop :=
  (W.cell? ⟨X, 0, none⟩ = some (.slice (some ⟨g, 0, none⟩) n n) ∧ (∃ u, W.cell? ⟨g, c * 3, none⟩ = some u) ∧ W.frozen? ⟨g, c * 3, none⟩ = false) ∧
  ((W.setCell ⟨g, c * 3, none⟩ (.int .i64 t)).cell? ⟨X, 0, none⟩ = some (.slice (some ⟨g, 0, none⟩) n n) ∧ (W.setCell ⟨g, c * 3, none⟩ (.int .i64 t)).cell? ⟨g, c * 3 + 2, none⟩ = some (.int .i64 lc) ∧
    (W.setCell ⟨g, c * 3, none⟩ (.int .i64 t)).cell? ⟨g, t * 3 + 2, none⟩ = some (.int .i64 lt) ∧ (W.setCell ⟨g, c * 3, none⟩ (.int .i64 t)).frozen? ⟨g, t * 3 + 2, none⟩ = false) ∧
  Hid (∀ (v : Nat) (W' : World), v = min lc lt → Drawn ((W.setCell ⟨g, c * 3, none⟩ (.int .i64 t)).setCell ⟨g, t * 3 + 2, none⟩ (.int .i64 v)) W' → JoinPost9 w X g n M true (.returned (.bool true)) W')
theorem tail9 {w W : World} {X g n : Nat} {U L M R D : Nat → Nat} {T : Nat → Int} (h : ForIn W X g n U T L) (hF : Fo n U L M R D) (hT : Turned (fun b => b = g) w W) (hn : n ≤ 1048576) {p q : Nat} (hp : p < n) (hq : q < n) (hne : R p ≠ R q) :
    Tail9 w W X g n (joinM M p q) (R p) (R q) (M p) (M q) := by
  have hc := hF.rlt p hp
  have ht := hF.rlt q hq
  have h1 := h.setU hc (R q)
  have hF1 := hF.link hp hq hne
  have l1 := hF.least p hp
  have l2 := hF.least q hq
  refine ⟨⟨h.c0, ⟨_, (h.row.at hc).1⟩, h.row.soft _⟩, ⟨h1.c0, ?_, ?_, h1.row.soft _⟩, ?_⟩
  · rw [(h1.row.at hc).2.2, l1]
  · rw [(h1.row.at ht).2.2, l2]
  · rintro v W' rfl hW'
    have h3 := h1.setL ht (min (M p) (M q))
    rw [l1, l2] at hF1
    have hT1 := hT.trans (turned_setCell W ⟨g, R p * 3, none⟩ (.int .i64 (R q : Nat))) fun _ _ e => e
    have hT2 := hT1.trans (turned_setCell _ ⟨g, R q * 3 + 2, none⟩ (.int .i64 (min (M p) (M q) : Nat))) fun _ _ e => e
    have hT3 := hT2.trans (Turned.of_below (S := fun _ => False) (hW'.below _)) fun _ _ h => h.elim
    have h4 := h3.turned (S := fun _ => False) (Turned.of_below (hW'.below _)) (fun h => h) fun h => h
    have hX := h4.cells.lt
    have hg := h4.row.lt
    exact ⟨rfl, ⟨hn, hF1.lab, hX, hg, Or.inr ⟨by omega, _, _, _, _, _, h4, hF1⟩⟩, hT3⟩
/-- Behind both roots. -/
def Roots9 (w W : World) (X g n : Nat) (M : Nat → Nat) (x y : Nat) (tx ty : Int) (lx ly : Nat) : Prop :=
  (W.cell? ⟨X, 0, none⟩ = some (.slice (some ⟨g, 0, none⟩) n n) ∧ W.cell? ⟨g, x * 3 + 1, none⟩ = some (.int .i64 tx) ∧ W.cell? ⟨g, y * 3 + 1, none⟩ = some (.int .i64 ty) ∧ W.frozen? ⟨g, y * 3 + 1, none⟩ = false) ∧
  Hid (∀ W', Drawn W W' → Tail9 w W' X g n M x y lx ly ∧ Tail9 w W' X g n M y x ly lx ∧ ∀ z, Tail9 w (W'.setCell ⟨g, y * 3 + 1, none⟩ (.int .i64 z)) X g n M x y lx ly)
theorem roots9 {w W : World} {X g n : Nat} {U L M R D : Nat → Nat} {T : Nat → Int} (h : ForIn W X g n U T L) (hF : Fo n U L M R D) (hT : Turned (fun b => b = g) w W) (hn : n ≤ 1048576) {k m : Nat} (hk : k < n) (hm : m < n) (hne : R k ≠ R m) :
    Roots9 w W X g n (joinM M k m) (R k) (R m) (T (R k)) (T (R m)) (M k) (M m) := by
  have hc := hF.rlt k hk
  have ht := hF.rlt m hm
  refine ⟨⟨h.c0, (h.row.at hc).2.1, (h.row.at ht).2.1, h.row.soft _⟩, fun W' hW' => ?_⟩
  have h2 : ForIn W' X g n U T L := h.turned (S := fun _ => False) (Turned.of_below (hW'.below _)) (fun h => h) fun h => h
  have hT2 := hT.trans (Turned.of_below (S := fun _ => False) (hW'.below _)) fun _ _ h => h.elim
  refine ⟨tail9 h2 hF hT2 hn hk hm hne, ?_, fun z => ?_⟩
  · rw [joinM_comm]; exact tail9 h2 hF hT2 hn hm hk (Ne.symm hne)
  · exact tail9 (h2.setT ht z) hF (hT2.trans (turned_setCell W' ⟨g, R m * 3 + 1, none⟩ (.int .i64 z)) fun _ _ e => e) hn hk hm hne
set_option maxHeartbeats 1000000 in
set_option maxRecDepth 100000 in
theorem join9_yes {w : World} {X g n : Nat} {M : Nat → Nat} {a b : Int} {x y : Nat} {tx ty : Int} {lx ly : Nat} (h1 : Calls Try.prog 21 #[.pointer (some ⟨X, 0, none⟩), .int .i64 a] w fun e w' => e = .returned (.bool true) ∧ w = w')
    (h2 : Calls Try.prog 21 #[.pointer (some ⟨X, 0, none⟩), .int .i64 b] w fun e w' => e = .returned (.bool true) ∧ w = w')
    (hr : Calls Try.prog 22 #[.pointer (some ⟨X, 0, none⟩), .int .i64 a] w fun e w1 => e = .returned (.int .i64 x) ∧ Calls Try.prog 22 #[.pointer (some ⟨X, 0, none⟩), .int .i64 b] w1 fun e w2 => e = .returned (.int .i64 y) ∧ Roots9 w w2 X g n M x y tx ty lx ly)
    (hx : x < n) (hy : y < n) (hne : x ≠ y) : Calls Try.prog 11 #[.pointer (some ⟨X, 0, none⟩), .int .i64 a, .int .i64 b] w (JoinPost9 w X g n M true) := by
  have x0 : (0 : Int) ≤ x := by omega
  have x1 : (x : Int) < n := by omega
  have y0 : (0 : Int) ≤ y := by omega
  have y1 : (y : Int) < n := by omega
  have hne1 : ¬ (x : Int) = y := by omega
  replace h1 := Lib.hid h1
  replace h2 := Lib.hid h2
  replace hr := Lib.hid hr
  -- CASES
  by_cases hgt : ty < tx
  · by_cases hmin : (ly : Int) ≤ lx
    · go_enter Try.func11, Try.ntmps11
      go_wp2_with fail
      refine h1.out.mono ?_; rintro e w' ⟨rfl, rfl⟩
      go_wp2_with fail
      refine h2.out.mono ?_; rintro e w' ⟨rfl, rfl⟩
      go_wp2_with fail
      refine hr.out.mono ?_; rintro e w1 ⟨rfl, hr2⟩
      replace hr2 := Lib.hid hr2
      clear h1 h2 hr
      go_wp2_with fail
      refine hr2.out.mono ?_; rintro e w2 ⟨rfl, ⟨c0, c1, c2, f2⟩, hT⟩
      clear hr2
      go_wp2_with fail
      go_quiet (fail)
      obtain ⟨n1, rfl⟩ : ∃ n1, n1 = nq := ⟨_, rfl⟩
      go_wp2_with fail
      go_quiet (fail)
      have hT1 := hT.out ((w2.drewN n1).drewN nq) (Drawn.trans ⟨n1, rfl⟩ ⟨nq, rfl⟩)
      obtain ⟨⟨d0, ⟨u, du⟩, f3⟩, ⟨d1, d2, d3, f4⟩, hQ⟩ := hT1.2.1
      clear hT hT1 c0 c1 c2 f2
      generalize (w2.drewN n1).drewN nq = W at d0 du d1 d2 d3 f3 f4 hQ ⊢
      go_wp2_with fail
      generalize W.setCell ⟨g, y * 3, none⟩ (.int .i64 x) = W1 at d1 d2 d3 f4 hQ ⊢
      clear d0 du f3
      go_region
      go_wp2_with fail
      go_ret
      exact hQ.out ly _ (by omega) (drawn_drew _)
    · go_enter Try.func11, Try.ntmps11
      go_wp2_with fail
      refine h1.out.mono ?_; rintro e w' ⟨rfl, rfl⟩
      go_wp2_with fail
      refine h2.out.mono ?_; rintro e w' ⟨rfl, rfl⟩
      go_wp2_with fail
      refine hr.out.mono ?_; rintro e w1 ⟨rfl, hr2⟩
      replace hr2 := Lib.hid hr2
      clear h1 h2 hr
      go_wp2_with fail
      refine hr2.out.mono ?_; rintro e w2 ⟨rfl, ⟨c0, c1, c2, f2⟩, hT⟩
      clear hr2
      go_wp2_with fail
      go_quiet (fail)
      obtain ⟨n1, rfl⟩ : ∃ n1, n1 = nq := ⟨_, rfl⟩
      go_wp2_with fail
      go_quiet (fail)
      have hT1 := hT.out ((w2.drewN n1).drewN nq) (Drawn.trans ⟨n1, rfl⟩ ⟨nq, rfl⟩)
      obtain ⟨⟨d0, ⟨u, du⟩, f3⟩, ⟨d1, d2, d3, f4⟩, hQ⟩ := hT1.2.1
      clear hT hT1 c0 c1 c2 f2
      generalize (w2.drewN n1).drewN nq = W at d0 du d1 d2 d3 f3 f4 hQ ⊢
      go_wp2_with fail
      generalize W.setCell ⟨g, y * 3, none⟩ (.int .i64 x) = W1 at d1 d2 d3 f4 hQ ⊢
      clear d0 du f3
      go_region
      go_wp2_with fail
      go_ret
      exact hQ.out lx _ (by omega) (drawn_drew _)
  · by_cases heq : tx = ty
    · have heq2 : (tx == ty) = true := by simpa using heq
      by_cases hmin : (lx : Int) ≤ ly
      · go_enter Try.func11, Try.ntmps11
        go_wp2_with fail
        refine h1.out.mono ?_; rintro e w' ⟨rfl, rfl⟩
        go_wp2_with fail
        refine h2.out.mono ?_; rintro e w' ⟨rfl, rfl⟩
        go_wp2_with fail
        refine hr.out.mono ?_; rintro e w1 ⟨rfl, hr2⟩
        replace hr2 := Lib.hid hr2
        clear h1 h2 hr
        go_wp2_with fail
        refine hr2.out.mono ?_; rintro e w2 ⟨rfl, ⟨c0, c1, c2, f2⟩, hT⟩
        clear hr2
        go_wp2_with fail
        go_quiet (fail)
        obtain ⟨n1, rfl⟩ : ∃ n1, n1 = nq := ⟨_, rfl⟩
        go_wp2_with fail
        go_quiet (fail)
        have hT1 := hT.out ((w2.drewN n1).drewN nq) (Drawn.trans ⟨n1, rfl⟩ ⟨nq, rfl⟩)
        obtain ⟨p0, p1, p2⟩ : ((w2.drewN n1).drewN nq).cell? ⟨X, 0, none⟩ = some (.slice (some ⟨g, 0, none⟩) n n) ∧ ((w2.drewN n1).drewN nq).cell? ⟨g, y * 3 + 1, none⟩ = some (.int .i64 ty) ∧ ((w2.drewN n1).drewN nq).frozen? ⟨g, y * 3 + 1, none⟩ = false := ⟨c0, c2, f2⟩
        obtain ⟨_, ⟨d1, d2, d3, f4⟩, hQ⟩ := hT1.2.2 (wrap64 (ty + 1))
        obtain ⟨⟨_, ⟨u, du⟩, f3⟩, _⟩ := hT1.1
        clear hT hT1 c0 c1 c2 f2
        generalize (w2.drewN n1).drewN nq = W at p0 p1 p2 du d1 d2 d3 f3 f4 hQ ⊢
        go_wp2_with fail
        generalize (W.setCell ⟨g, y * 3 + 1, none⟩ (.int .i64 (wrap64 (ty + 1)))).setCell ⟨g, x * 3, none⟩ (.int .i64 y) = W1 at d1 d2 d3 f4 hQ ⊢
        clear p0 p1 p2 du f3
        go_region
        go_wp2_with fail
        go_ret
        exact hQ.out lx _ (by omega) (drawn_drew _)
      · go_enter Try.func11, Try.ntmps11
        go_wp2_with fail
        refine h1.out.mono ?_; rintro e w' ⟨rfl, rfl⟩
        go_wp2_with fail
        refine h2.out.mono ?_; rintro e w' ⟨rfl, rfl⟩
        go_wp2_with fail
        refine hr.out.mono ?_; rintro e w1 ⟨rfl, hr2⟩
        replace hr2 := Lib.hid hr2
        clear h1 h2 hr
        go_wp2_with fail
        refine hr2.out.mono ?_; rintro e w2 ⟨rfl, ⟨c0, c1, c2, f2⟩, hT⟩
        clear hr2
        go_wp2_with fail
        go_quiet (fail)
        obtain ⟨n1, rfl⟩ : ∃ n1, n1 = nq := ⟨_, rfl⟩
        go_wp2_with fail
        go_quiet (fail)
        have hT1 := hT.out ((w2.drewN n1).drewN nq) (Drawn.trans ⟨n1, rfl⟩ ⟨nq, rfl⟩)
        obtain ⟨p0, p1, p2⟩ : ((w2.drewN n1).drewN nq).cell? ⟨X, 0, none⟩ = some (.slice (some ⟨g, 0, none⟩) n n) ∧ ((w2.drewN n1).drewN nq).cell? ⟨g, y * 3 + 1, none⟩ = some (.int .i64 ty) ∧ ((w2.drewN n1).drewN nq).frozen? ⟨g, y * 3 + 1, none⟩ = false := ⟨c0, c2, f2⟩
        obtain ⟨_, ⟨d1, d2, d3, f4⟩, hQ⟩ := hT1.2.2 (wrap64 (ty + 1))
        obtain ⟨⟨_, ⟨u, du⟩, f3⟩, _⟩ := hT1.1
        clear hT hT1 c0 c1 c2 f2
        generalize (w2.drewN n1).drewN nq = W at p0 p1 p2 du d1 d2 d3 f3 f4 hQ ⊢
        go_wp2_with fail
        generalize (W.setCell ⟨g, y * 3 + 1, none⟩ (.int .i64 (wrap64 (ty + 1)))).setCell ⟨g, x * 3, none⟩ (.int .i64 y) = W1 at d1 d2 d3 f4 hQ ⊢
        clear p0 p1 p2 du f3
        go_region
        go_wp2_with fail
        go_ret
        exact hQ.out ly _ (by omega) (drawn_drew _)
    · have heq2 : (tx == ty) = false := by simpa using heq
      by_cases hmin : (lx : Int) ≤ ly
      · go_enter Try.func11, Try.ntmps11
        go_wp2_with fail
        refine h1.out.mono ?_; rintro e w' ⟨rfl, rfl⟩
        go_wp2_with fail
        refine h2.out.mono ?_; rintro e w' ⟨rfl, rfl⟩
        go_wp2_with fail
        refine hr.out.mono ?_; rintro e w1 ⟨rfl, hr2⟩
        replace hr2 := Lib.hid hr2
        clear h1 h2 hr
        go_wp2_with fail
        refine hr2.out.mono ?_; rintro e w2 ⟨rfl, ⟨c0, c1, c2, f2⟩, hT⟩
        clear hr2
        go_wp2_with fail
        go_quiet (fail)
        obtain ⟨n1, rfl⟩ : ∃ n1, n1 = nq := ⟨_, rfl⟩
        go_wp2_with fail
        go_quiet (fail)
        have hT1 := hT.out ((w2.drewN n1).drewN nq) (Drawn.trans ⟨n1, rfl⟩ ⟨nq, rfl⟩)
        obtain ⟨⟨d0, ⟨u, du⟩, f3⟩, ⟨d1, d2, d3, f4⟩, hQ⟩ := hT1.1
        clear hT hT1 c0 c1 c2 f2
        generalize (w2.drewN n1).drewN nq = W at d0 du d1 d2 d3 f3 f4 hQ ⊢
        go_wp2_with fail
        generalize W.setCell ⟨g, x * 3, none⟩ (.int .i64 y) = W1 at d1 d2 d3 f4 hQ ⊢
        clear d0 du f3
        go_region
        go_wp2_with fail
        go_ret
        exact hQ.out lx _ (by omega) (drawn_drew _)
      · go_enter Try.func11, Try.ntmps11
        go_wp2_with fail
        refine h1.out.mono ?_; rintro e w' ⟨rfl, rfl⟩
        go_wp2_with fail
        refine h2.out.mono ?_; rintro e w' ⟨rfl, rfl⟩
        go_wp2_with fail
        refine hr.out.mono ?_; rintro e w1 ⟨rfl, hr2⟩
        replace hr2 := Lib.hid hr2
        clear h1 h2 hr
        go_wp2_with fail
        refine hr2.out.mono ?_; rintro e w2 ⟨rfl, ⟨c0, c1, c2, f2⟩, hT⟩
        clear hr2
        go_wp2_with fail
        go_quiet (fail)
        obtain ⟨n1, rfl⟩ : ∃ n1, n1 = nq := ⟨_, rfl⟩
        go_wp2_with fail
        go_quiet (fail)
        have hT1 := hT.out ((w2.drewN n1).drewN nq) (Drawn.trans ⟨n1, rfl⟩ ⟨nq, rfl⟩)
        obtain ⟨⟨d0, ⟨u, du⟩, f3⟩, ⟨d1, d2, d3, f4⟩, hQ⟩ := hT1.1
        clear hT hT1 c0 c1 c2 f2
        generalize (w2.drewN n1).drewN nq = W at d0 du d1 d2 d3 f3 f4 hQ ⊢
        go_wp2_with fail
        generalize W.setCell ⟨g, x * 3, none⟩ (.int .i64 y) = W1 at d1 d2 d3 f4 hQ ⊢
        clear d0 du f3
        go_region
        go_wp2_with fail
        go_ret
        exact hQ.out ly _ (by omega) (drawn_drew _)
  -- END CASES
end Go.Proofs.Ytkegealaagphgaa
