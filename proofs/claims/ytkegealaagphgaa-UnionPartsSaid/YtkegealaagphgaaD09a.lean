/- Layer 9's forest in memory; the walks of Len, has, root. -/
import Derived.Test.YtkegealaagphgaaD09p
import Derived.Test.YtkegealaagphgaaTn
import Derived.Test.YtkegealaagphgaaMk
namespace Go.Proofs.Ytkegealaagphgaa
open Go.RowKit

theorem arr_apart {w : World} {g g' : Nat} {t t' : TypeId} {c c' : List Value} (h : ArrAt w g t c) (h' : ArrAt w g' t' c') (ht : t ≠ t') : g ≠ g' := fun e => by
  subst e
  unfold ArrAt at h h'
  rw [h] at h'
  injection h' with h'
  injection h' with _ h'
  exact ht h'

/-- The nodes' row: three cells a number. -/
def NodeRow (w : World) (g n : Nat) (U : Nat → Nat) (T : Nat → Int) (L : Nat → Nat) : Prop :=
  ∃ c : List Value, ArrAt w g 43 c ∧ c.length = n * 3 ∧ ∀ i, i < n → c[i * 3]? = some (.int .i64 (U i : Nat)) ∧ c[i * 3 + 1]? = some (.int .i64 (T i)) ∧ c[i * 3 + 2]? = some (.int .i64 (L i : Nat))
section
variable {w : World} {X g n : Nat} {U L M R D : Nat → Nat} {T : Nat → Int}
theorem NodeRow.at (h : NodeRow w g n U T L) {i : Nat} (hi : i < n) :
    w.cell? ⟨g, i * 3, none⟩ = some (.int .i64 (U i : Nat)) ∧ w.cell? ⟨g, i * 3 + 1, none⟩ = some (.int .i64 (T i)) ∧ w.cell? ⟨g, i * 3 + 2, none⟩ = some (.int .i64 (L i : Nat)) := by
  obtain ⟨c, h1, _, h2⟩ := h
  rw [h1.cell, h1.cell, h1.cell]
  exact h2 i hi
theorem NodeRow.soft (h : NodeRow w g n U T L) (k : Nat) : w.frozen? ⟨g, k, none⟩ = false := by
  obtain ⟨c, h1, _⟩ := h
  exact h1.soft k
theorem NodeRow.lt (h : NodeRow w g n U T L) : g < w.heap.size := by
  obtain ⟨c, h1, _⟩ := h
  exact h1.lt
theorem NodeRow.turned {S : Nat → Prop} {w' : World} (h : NodeRow w g n U T L) (ht : Turned S w w') (hS : ¬ S g) : NodeRow w' g n U T L := by
  obtain ⟨c, h1, h2⟩ := h
  exact ⟨c, h1.turned ht hS, h2⟩
theorem NodeRow.setU (h : NodeRow w g n U T L) {k : Nat} (hk : k < n) (x : Nat) : NodeRow (w.setCell ⟨g, k * 3, none⟩ (.int .i64 x)) g n (updN U k x) T L := by
  obtain ⟨c, h1, h2, h3⟩ := h
  refine ⟨_, h1.set _ _, by simpa using h2, fun i hi => ?_⟩
  obtain ⟨a, b, d⟩ := h3 i hi
  rw [List.getElem?_set, List.getElem?_set, List.getElem?_set, if_neg (show k * 3 ≠ i * 3 + 1 by omega), if_neg (show k * 3 ≠ i * 3 + 2 by omega)]
  refine ⟨?_, b, d⟩
  by_cases e : i = k
  · subst e; rw [if_pos rfl, if_pos (by omega), updN_at]
  · rw [if_neg (by omega), updN_ne _ _ e]; exact a
theorem NodeRow.setT (h : NodeRow w g n U T L) {k : Nat} (hk : k < n) (x : Int) : NodeRow (w.setCell ⟨g, k * 3 + 1, none⟩ (.int .i64 x)) g n U (updN T k x) L := by
  obtain ⟨c, h1, h2, h3⟩ := h
  refine ⟨_, h1.set _ _, by simpa using h2, fun i hi => ?_⟩
  obtain ⟨a, b, d⟩ := h3 i hi
  rw [List.getElem?_set, List.getElem?_set, List.getElem?_set, if_neg (show k * 3 + 1 ≠ i * 3 by omega), if_neg (show k * 3 + 1 ≠ i * 3 + 2 by omega)]
  refine ⟨a, ?_, d⟩
  by_cases e : i = k
  · subst e; rw [if_pos rfl, if_pos (by omega), updN_at]
  · rw [if_neg (by omega), updN_ne _ _ e]; exact b
theorem NodeRow.setL (h : NodeRow w g n U T L) {k : Nat} (hk : k < n) (x : Nat) : NodeRow (w.setCell ⟨g, k * 3 + 2, none⟩ (.int .i64 x)) g n U T (updN L k x) := by
  obtain ⟨c, h1, h2, h3⟩ := h
  refine ⟨_, h1.set _ _, by simpa using h2, fun i hi => ?_⟩
  obtain ⟨a, b, d⟩ := h3 i hi
  rw [List.getElem?_set, List.getElem?_set, List.getElem?_set, if_neg (show k * 3 + 2 ≠ i * 3 by omega), if_neg (show k * 3 + 2 ≠ i * 3 + 1 by omega)]
  refine ⟨a, b, ?_⟩
  by_cases e : i = k
  · subst e; rw [if_pos rfl, if_pos (by omega), updN_at]
  · rw [if_neg (by omega), updN_ne _ _ e]; exact d

/-- A forest of some numbers. -/
structure ForIn (w : World) (X g n : Nat) (U : Nat → Nat) (T : Nat → Int) (L : Nat → Nat) : Prop where
  cells : ArrAt w X 41 [.slice (some ⟨g, 0, none⟩) n n]
  row : NodeRow w g n U T L
theorem ForIn.ne (h : ForIn w X g n U T L) : X ≠ g := by
  obtain ⟨c, h1, _⟩ := h.row
  exact arr_apart h.cells h1 (by decide)
theorem ForIn.c0 (h : ForIn w X g n U T L) : w.cell? ⟨X, 0, none⟩ = some (.slice (some ⟨g, 0, none⟩) n n) := by rw [h.cells.cell]; rfl
theorem ForIn.turned {S : Nat → Prop} {w' : World} (h : ForIn w X g n U T L) (ht : Turned S w w') (hX : ¬ S X) (hg : ¬ S g) : ForIn w' X g n U T L := ⟨h.cells.turned ht hX, h.row.turned ht hg⟩
theorem ForIn.setU (h : ForIn w X g n U T L) {k : Nat} (hk : k < n) (x : Nat) : ForIn (w.setCell ⟨g, k * 3, none⟩ (.int .i64 x)) X g n (updN U k x) T L := ⟨h.cells.turned (turned_setCell w _ _) h.ne, h.row.setU hk x⟩
theorem ForIn.setT (h : ForIn w X g n U T L) {k : Nat} (hk : k < n) (x : Int) : ForIn (w.setCell ⟨g, k * 3 + 1, none⟩ (.int .i64 x)) X g n U (updN T k x) L := ⟨h.cells.turned (turned_setCell w _ _) h.ne, h.row.setT hk x⟩
theorem ForIn.setL (h : ForIn w X g n U T L) {k : Nat} (hk : k < n) (x : Nat) : ForIn (w.setCell ⟨g, k * 3 + 2, none⟩ (.int .i64 x)) X g n U T (updN L k x) := ⟨h.cells.turned (turned_setCell w _ _) h.ne, h.row.setL hk x⟩

/-- A forest in memory: its object X, its row g; M: the least number of each one's set. -/
def UfAt (w : World) (X g n : Nat) (M : Nat → Nat) : Prop :=
  n ≤ 1048576 ∧ Lab n M ∧ X < w.heap.size ∧ g < w.heap.size ∧ ((n = 0 ∧ ∃ a c, ArrAt w X 41 [.slice a 0 c]) ∨ (0 < n ∧ ∃ U T L R D, ForIn w X g n U T L ∧ Fo n U L M R D))
theorem UfAt.turned {S : Nat → Prop} {w' : World} (h : UfAt w X g n M) (ht : Turned S w w') (hX : ¬ S X) (hg : ¬ S g) : UfAt w' X g n M := by
  obtain ⟨h1, h2, h3, h4, h5⟩ := h
  have := ht.size
  refine ⟨h1, h2, by omega, by omega, ?_⟩
  rcases h5 with ⟨h0, a, c, h5⟩ | ⟨h0, U, T, L, R, D, h5, h6⟩
  · exact Or.inl ⟨h0, a, c, h5.turned ht hX⟩
  · exact Or.inr ⟨h0, U, T, L, R, D, h5.turned ht hX hg, h6⟩
theorem UfAt.below {w' : World} (h : UfAt w X g n M) (hb : Below w.heap.size w w') : UfAt w' X g n M := h.turned (S := fun _ => False) (Turned.of_below hb) (fun h => h) fun h => h
theorem UfAt.head (h : UfAt w X g n M) : ∃ a c, w.cell? ⟨X, 0, none⟩ = some (.slice a n c) := by
  obtain ⟨_, _, _, _, h5⟩ := h
  rcases h5 with ⟨rfl, a, c, h5⟩ | ⟨_, U, T, L, R, D, h5, _⟩
  · exact ⟨a, c, by rw [h5.cell]; rfl⟩
  · exact ⟨_, _, h5.c0⟩
end

theorem len9_nil (w : World) : Calls Try.prog 16 #[.pointer none] w fun e w' => e = .returned (.int .i64 0) ∧ w = w' := by
  go_enter Try.func16, Try.ntmps16
  go_wp2_with fail
  go_ret
  exact ⟨rfl, rfl⟩
theorem len9_any (X g n : Nat) (M : Nat → Nat) (w : World) (h : UfAt w X g n M) : Calls Try.prog 16 #[.pointer (some ⟨X, 0, none⟩)] w fun e w' => e = .returned (.int .i64 (n : Nat)) ∧ w = w' := by
  obtain ⟨a, c, c0⟩ := h.head
  clear h
  go_enter Try.func16, Try.ntmps16
  go_wp2_with fail
  go_ret
  exact ⟨rfl, rfl⟩
/-- What has asks of Len. -/
def LenC (p : Value) (n : Nat) (w : World) : Prop := Calls Try.prog 16 #[p] w fun e w' => e = .returned (.int .i64 (n : Nat)) ∧ w = w'
theorem has9_any (p : Value) (n : Nat) (a : Int) (w : World) (hl : LenC p n w) : Calls Try.prog 21 #[p, .int .i64 a] w fun e w' => e = .returned (.bool (inB n a)) ∧ w = w' := by
  unfold LenC at hl
  unfold inB
  replace hl := Lib.hid hl
  by_cases h0 : 0 ≤ a
  · by_cases h1 : a < n
    · rw [decide_eq_true h0, decide_eq_true h1]
      go_enter Try.func21, Try.ntmps21
      go_wp2_with fail
      refine hl.out.mono ?_; rintro e w' ⟨rfl, rfl⟩
      go_wp2_with fail
      go_ret
      exact ⟨rfl, rfl⟩
    · have hd : decide (a < n) = false := decide_eq_false h1
      rw [decide_eq_true h0, hd]
      go_enter Try.func21, Try.ntmps21
      go_wp2_with fail
      refine hl.out.mono ?_; rintro e w' ⟨rfl, rfl⟩
      go_wp2_with fail
      go_ret
      exact ⟨rfl, rfl⟩
  · rw [decide_eq_false h0]
    go_enter Try.func21, Try.ntmps21
    go_wp2_with fail
    go_ret
    exact ⟨rfl, rfl⟩

/-- What root comes to. -/
def RootPost (w : World) (X g n : Nat) (T : Nat → Int) (L M R D : Nat → Nat) (r : Nat) (e : Ending) (w' : World) : Prop :=
  ∃ U, e = .returned (.int .i64 (r : Nat)) ∧ ForIn w' X g n U T L ∧ Fo n U L M R D ∧ Turned (fun b => b = g) w w'
set_option maxHeartbeats 1000000 in
theorem root9_any (X g n : Nat) (U : Nat → Nat) (T : Nat → Int) (L M R D : Nat → Nat) (a : Nat) (w : World) (h : ForIn w X g n U T L) (hF : Fo n U L M R D) (ha : a < n) (_hn : n ≤ 1048576) :
    Calls Try.prog 22 #[.pointer (some ⟨X, 0, none⟩), .int .i64 a] w (RootPost w X g n T L M R D (R a)) := by
  have hst : Hid (∃ U, ForIn w X g n U T L ∧ Fo n U L M R D ∧ Turned (fun b => b = g) w w) := ⟨U, h, hF, Turned.refl _ _⟩
  clear h hF
  go_enter Try.func22, Try.ntmps22
  go_wp2_with fail
  go_loopw [1] (fun i wr => ∃ k : Nat, i = .int .i64 k ∧ k < n ∧ Hid (R k = R a) ∧ Hid (∃ U, ForIn wr X g n U T L ∧ Fo n U L M R D ∧ Turned (fun b => b = g) w wr)) (fun i _ => D (intOf i).toNat)
  case atStart => exact ⟨a, rfl, ha, rfl, hst.out⟩
  case round =>
    clear hst
    obtain ⟨k, rfl, hk, hR, hr⟩ := hrel
    obtain ⟨U, h1, h2, h3⟩ := hr.out
    clear hr
    have c0 := h1.c0
    have c1 := (h1.row.at hk).1
    have hfz := fun i => h1.row.soft i
    have k0 : (0 : Int) ≤ k := by omega
    have k1 : (k : Int) < n := by omega
    by_cases hu : U k = k
    · rw [hu] at c1
      have hend : Hid (RootPost w X g n T L M R D (R a) (.returned (.int .i64 k)) wr) := ⟨U, by rw [← hR.out, h2.top k hk hu], h1, h2, h3⟩
      clear h1 h2 h3 hR hu
      go_wp2_with fail
      go_ret
      exact hend.out
    · have hu1 := h2.lt k hk
      have c2 := (h1.row.at hu1).1
      have hv1 := h2.lt _ hu1
      have hnext : Hid (∀ W, Drawn wr W → (D (U (U k)) < D k) ∧ ∃ U', ForIn (W.setCell ⟨g, k * 3, none⟩ (.int .i64 ((U (U k)) : Nat))) X g n U' T L ∧ Fo n U' L M R D ∧ Turned (fun b => b = g) w (W.setCell ⟨g, k * 3, none⟩ (.int .i64 ((U (U k)) : Nat)))) := by
        intro W hW
        have hT : Turned (fun _ => False) wr W := Turned.of_below (hW.below _)
        have h1' := h1.turned hT (fun h => h) fun h => h
        refine ⟨?_, _, h1'.setU hk _, h2.halve hk hu, ?_⟩
        · have := h2.deep k hk hu
          by_cases e : U (U k) = U k
          · rw [e]; exact this
          · exact Nat.lt_trans (h2.deep _ hu1 e) this
        · exact (h3.trans hT fun _ _ h => h.elim).trans (turned_setCell W _ _) fun _ _ e => e
      have hR2 : Hid (R (U (U k)) = R a) := by rw [Hid, h2.root _ hu1, h2.root _ hk]; exact hR.out
      clear h1 h2 h3 hR
      have hne : ¬ ((U k : Nat) : Int) = k := by omega
      have hfz1 := hfz (k * 3)
      clear hfz
      generalize hv : U (U k) = v at c2 hv1 hnext hR2
      clear hv
      generalize U k = u at c1 c2 hu hu1 hne
      have u0 : (0 : Int) ≤ u := by omega
      have u1 : (u : Int) < n := by omega
      go_wp2_with fail
      go_quiet (fail)
      go_wp2_with fail
      obtain ⟨hd, U', g1, g2, g3⟩ := hnext.out (wr.drewN nq) ⟨nq, rfl⟩
      exact ⟨⟨v, rfl, hv1, hR2.out, U', g1, g2, g3⟩, by simpa [intOf] using hd⟩
end Go.Proofs.Ytkegealaagphgaa
