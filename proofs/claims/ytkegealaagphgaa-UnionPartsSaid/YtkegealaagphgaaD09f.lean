/- Layer 9's reference in memory; the walks of its New, Len, is, Same, Join, Least. -/
import Derived.Test.YtkegealaagphgaaD09a
namespace Go.Proofs.Ytkegealaagphgaa
open Go.RowKit

/-- The labels' row: n of them, perhaps with room behind. -/
def LabRow (w : World) (h n : Nat) (O : Nat → Nat) : Prop :=
  ∃ c : List Value, ArrAt w h 3 c ∧ n ≤ c.length ∧ ∀ i, i < n → c[i]? = some (.int .i64 (O i : Nat))
section
variable {w : World} {Y h n : Nat} {O M : Nat → Nat}
theorem LabRow.at (hr : LabRow w h n O) {i : Nat} (hi : i < n) : w.cell? ⟨h, i, none⟩ = some (.int .i64 (O i : Nat)) := by
  obtain ⟨c, h1, _, h2⟩ := hr
  rw [h1.cell]; exact h2 i hi
theorem LabRow.soft (hr : LabRow w h n O) (k : Nat) : w.frozen? ⟨h, k, none⟩ = false := by
  obtain ⟨c, h1, _⟩ := hr
  exact h1.soft k
theorem LabRow.lt (hr : LabRow w h n O) : h < w.heap.size := by
  obtain ⟨c, h1, _⟩ := hr
  exact h1.lt
theorem LabRow.turned {S : Nat → Prop} {w' : World} (hr : LabRow w h n O) (ht : Turned S w w') (hS : ¬ S h) : LabRow w' h n O := by
  obtain ⟨c, h1, h2⟩ := hr
  exact ⟨c, h1.turned ht hS, h2⟩
theorem LabRow.set (hr : LabRow w h n O) {k : Nat} (hk : k < n) (x : Nat) : LabRow (w.setCell ⟨h, k, none⟩ (.int .i64 x)) h n (updN O k x) := by
  obtain ⟨c, h1, h2, h3⟩ := hr
  refine ⟨_, h1.set _ _, by simpa using h2, fun i hi => ?_⟩
  rw [List.getElem?_set]
  by_cases e : i = k
  · subst e; rw [if_pos rfl, if_pos (by omega), updN_at]
  · rw [if_neg (by omega), updN_ne _ _ e]; exact h3 i hi
/-- The reference's object Y, its row h, its labels O. -/
structure RefIn (w : World) (Y h n c : Nat) (O : Nat → Nat) : Prop where
  cells : ArrAt w Y 45 [.slice (some ⟨h, 0, none⟩) n c]
  cap : n ≤ c
  row : LabRow w h n O
theorem RefIn.ne {c : Nat} (hr : RefIn w Y h n c O) : Y ≠ h := by
  obtain ⟨c, h1, _⟩ := hr.row
  exact arr_apart hr.cells h1 (by decide)
theorem RefIn.c0 {c : Nat} (hr : RefIn w Y h n c O) : w.cell? ⟨Y, 0, none⟩ = some (.slice (some ⟨h, 0, none⟩) n c) := by rw [hr.cells.cell]; rfl
theorem RefIn.turned {c : Nat} {S : Nat → Prop} {w' : World} (hr : RefIn w Y h n c O) (ht : Turned S w w') (hY : ¬ S Y) (hh : ¬ S h) : RefIn w' Y h n c O := ⟨hr.cells.turned ht hY, hr.cap, hr.row.turned ht hh⟩
theorem RefIn.set {c : Nat} (hr : RefIn w Y h n c O) {k : Nat} (hk : k < n) (x : Nat) : RefIn (w.setCell ⟨h, k, none⟩ (.int .i64 x)) Y h n c (updN O k x) := ⟨hr.cells.turned (turned_setCell w _ _) hr.ne, hr.cap, hr.row.set hk x⟩
def RfAt (w : World) (Y h n : Nat) (M : Nat → Nat) : Prop :=
  n ≤ 1048576 ∧ Lab n M ∧ Y < w.heap.size ∧ h < w.heap.size ∧ ((n = 0 ∧ ∃ a c, ArrAt w Y 45 [.slice a 0 c]) ∨ (0 < n ∧ ∃ c O, RefIn w Y h n c O ∧ Alike n O M))
theorem RfAt.turned {S : Nat → Prop} {w' : World} (hr : RfAt w Y h n M) (ht : Turned S w w') (hY : ¬ S Y) (hh : ¬ S h) : RfAt w' Y h n M := by
  obtain ⟨h1, h2, h3, h4, h5⟩ := hr
  have := ht.size
  refine ⟨h1, h2, by omega, by omega, ?_⟩
  rcases h5 with ⟨h0, a, c, h5⟩ | ⟨h0, c, O, h5, h6⟩
  · exact Or.inl ⟨h0, a, c, h5.turned ht hY⟩
  · exact Or.inr ⟨h0, c, O, h5.turned ht hY hh, h6⟩
theorem RfAt.below {w' : World} (hr : RfAt w Y h n M) (hb : Below w.heap.size w w') : RfAt w' Y h n M := hr.turned (S := fun _ => False) (Turned.of_below hb) (fun h => h) fun h => h
theorem RfAt.head (hr : RfAt w Y h n M) : ∃ a c, w.cell? ⟨Y, 0, none⟩ = some (.slice a n c) := by
  obtain ⟨_, _, _, _, h5⟩ := hr
  rcases h5 with ⟨rfl, a, c, h5⟩ | ⟨_, c, O, h5, _⟩
  · exact ⟨a, c, by rw [h5.cell]; rfl⟩
  · exact ⟨_, _, h5.c0⟩

theorem rlen9_any (hr : RfAt w Y h n M) : Calls Try.prog 17 #[.pointer (some ⟨Y, 0, none⟩)] w fun e w' => e = .returned (.int .i64 (n : Nat)) ∧ w = w' := by
  obtain ⟨a, c, c0⟩ := hr.head
  clear hr
  go_enter Try.func17, Try.ntmps17
  go_wp2_with fail
  go_ret
  exact ⟨rfl, rfl⟩
theorem ris9_any (a : Int) (hr : RfAt w Y h n M) : Calls Try.prog 23 #[.pointer (some ⟨Y, 0, none⟩), .int .i64 a] w fun e w' => e = .returned (.bool (inB n a)) ∧ w = w' := by
  obtain ⟨A, c, c0⟩ := hr.head
  clear hr
  unfold inB
  by_cases h0 : 0 ≤ a
  · by_cases h1 : a < n
    · rw [decide_eq_true h0, decide_eq_true h1]
      go_enter Try.func23, Try.ntmps23
      go_wp2_with fail
      go_ret
      exact ⟨rfl, rfl⟩
    · have hd : decide (a < n) = false := decide_eq_false h1
      rw [decide_eq_true h0, hd]
      go_enter Try.func23, Try.ntmps23
      go_wp2_with fail
      go_ret
      exact ⟨rfl, rfl⟩
  · have hd : decide (0 ≤ a) = false := decide_eq_false h0
    rw [hd]
    go_enter Try.func23, Try.ntmps23
    go_wp2_with fail
    go_ret
    exact ⟨rfl, rfl⟩
end
end Go.Proofs.Ytkegealaagphgaa
