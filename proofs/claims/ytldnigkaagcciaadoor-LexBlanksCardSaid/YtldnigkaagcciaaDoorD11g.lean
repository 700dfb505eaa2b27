/- Layer 11: attributes in memory; holds. -/
import Derived.Test.YtldnigkaagcciaaDoorD11f
namespace Go.Proofs.YtldnigkaagcciaaDoor
open Go.RowKit

def atV (x : At) : List Value := [strV x.1, strV x.2]
def cellsA (l : List At) : List Value := l.flatMap atV
theorem cellsA_len (l : List At) : (cellsA l).length = l.length * 2 := by
  induction l with
  | nil => rfl
  | cons x t ih => simp [cellsA, atV] at ih ⊢; omega
theorem cellsA_app (l m : List At) : cellsA (l ++ m) = cellsA l ++ cellsA m := by simp [cellsA]
theorem cellsA_one (x : At) : cellsA [x] = [strV x.1, strV x.2] := rfl
theorem cellsA_at : ∀ (l : List At) (j : Nat), j < l.length → (cellsA l)[j * 2]? = some (strV (l.getD j ([], [])).1) ∧ (cellsA l)[j * 2 + 1]? = some (strV (l.getD j ([], [])).2)
  | [], j, h => by simp at h
  | x :: t, 0, _ => ⟨rfl, rfl⟩
  | x :: t, j + 1, h => by
    have := cellsA_at t j (by simpa using h)
    have e : cellsA (x :: t) = strV x.1 :: strV x.2 :: cellsA t := rfl
    rw [e, show (j + 1) * 2 = j * 2 + 1 + 1 by omega, show j * 2 + 1 + 1 + 1 = (j * 2 + 1) + 1 + 1 by omega]
    simpa using this
theorem cellsA_one' (l : List At) : ∀ u ∈ cellsA l, u.oneCell' = true := by
  intro u hu
  simp only [cellsA, List.mem_flatMap, atV] at hu
  obtain ⟨x, _, hu⟩ := hu
  simp at hu
  rcases hu with rfl | rfl <;> rfl
/-- A slice of attributes that the call itself made. -/
def Ats (w : World) (B : Nat) (v : Value) (l : List At) : Prop := w.ownsRow B 40 2 v l.length (cellsA l)
theorem Ats.cells {w : World} {B : Nat} {v : Value} {l : List At} (h : Ats w B v l) (h0 : l ≠ []) : ∃ g cap, v = .slice (some ⟨g, 0, none⟩) l.length cap ∧ g < w.heap.size ∧ B ≤ g ∧
    ∀ j, j < l.length → w.cell? ⟨g, j * 2, none⟩ = some (strV (l.getD j ([], [])).1) ∧ w.cell? ⟨g, j * 2 + 1, none⟩ = some (strV (l.getD j ([], [])).2) := by
  have hlt := World.ownsRow.lt h
  rcases h.2 with ⟨_, hn⟩ | ⟨g, cap, cur, hv, _⟩
  · exact absurd (List.length_eq_zero_iff.1 hn) h0
  · refine ⟨g, cap, hv, (hlt g (by rw [hv]; rfl)).2, (hlt g (by rw [hv]; rfl)).1, fun j hj => ?_⟩
    have hcg := World.ownsRow.cells h (g := g) (by rw [hv]; rfl)
    obtain ⟨e1, e2⟩ := cellsA_at l j hj
    have hadd : ∀ i, (⟨g, 0, none⟩ : Addr).add i = ⟨g, i, none⟩ := fun i => by unfold Addr.add; split <;> simp_all
    have h1 := hcg _ _ e1
    have h2 := hcg _ _ e2
    rw [hadd] at h1 h2
    exact ⟨h1, h2⟩
theorem ats_nil (w : World) (B : Nat) : Ats w B (.slice none 0 0) [] := World.ownsRow_nil _ _ _ _

set_option maxHeartbeats 1000000 in
theorem holds11_any (B : Nat) (v : Value) (l : List At) (nm : List UInt8) (w : World) (h : Ats w B v l) (hn : l.length ≤ 1000000) :
    Calls Tryd.prog 60 #[v, .string ⟨nm.toArray⟩] w fun e w' => e = .returned (.bool (l.any fun y => y.1 == nm)) ∧ Below w.heap.size w w' := by
  by_cases h0 : l = []
  · obtain ⟨a, c, rfl⟩ := own_form h
    subst h0
    clear h
    go_enter Tryd.func60, Tryd.ntmps60
    go_wp2_with fail
    refine wp_loop_rounds 1 ?_; rw [rounds_succ]
    go_wp2_with fail
    go_ret
    exact ⟨rfl, Below.refl _ _⟩
  obtain ⟨g, cap, rfl, hg, hBg, hcl⟩ := h.cells h0
  clear h hBg
  have hpos : 0 < l.length := List.length_pos_iff.2 h0
  replace h0 := Lib.hid h0
  replace hcl := Lib.hid hcl
  go_enter Tryd.func60, Tryd.ntmps60
  go_wp2_with fail
  go_loopw [9] (fun i wr => ∃ k : Nat, i = .int .i64 k ∧ k ≤ l.length ∧ Hid (∀ j, j < k → ((l.getD j ([], [])).1 == nm) = false) ∧ Hid (Below w.heap.size w wr)) (fun i _ => l.length - (intOf i).toNat)
  case atStart => exact ⟨0, rfl, Nat.zero_le _, fun j hj => by omega, Below.refl _ _⟩
  case round =>
    obtain ⟨k, rfl, hk, hno, hb⟩ := hrel
    by_cases hlt : k < l.length
    · obtain ⟨c0, c1⟩ := hcl.out k hlt
      have d0 := (hb.out.cell (p := ⟨g, k * 2, none⟩) hg).trans c0
      have d1 := (hb.out.cell (p := ⟨g, k * 2 + 1, none⟩) hg).trans c1
      clear c0 c1
      have hgl : l.getD k ([], []) = l[k]'hlt := by simp [List.getD, hlt]
      have hany : ((l.getD k ([], [])).1 == nm) = true → (l.any fun y => y.1 == nm) = true := fun e => List.any_eq_true.2 ⟨_, by rw [hgl]; exact List.getElem_mem hlt, e⟩
      replace hany := Lib.hid hany
      clear hgl
      unfold strV at d0 d1
      have hsz := hb.out.size
      have hgw : g < wr.heap.size := by omega
      obtain ⟨x, hx⟩ : ∃ x, l.getD k ([], []) = x := ⟨_, rfl⟩
      rw [hx] at d0 d1 hany
      replace hx := Lib.hid hx
      cases hq : (x.1 == nm)
      · have hno2 : Hid (∀ j, j < k + 1 → ((l.getD j ([], [])).1 == nm) = false) := by
          intro j hj
          by_cases e : j = k
          · subst e; rw [hx.out]; exact hq
          · exact hno.out j (by omega)
        go_wp2_with fail
        exact ⟨⟨k + 1, by go_num, by omega, hno2, hb.out.alloc hsz _⟩, by simp [intOf]; omega⟩
      · have hend := Lib.hid (hany.out hq)
        go_wp2_with fail
        go_ret
        exact ⟨ret_bool hend.out.symm, hb.out.alloc hsz _⟩
    · have hend : Hid ((l.any fun y => y.1 == nm) = false) := by
        show _ = _
        rw [Bool.eq_false_iff]
        intro ha
        obtain ⟨y, hy, e⟩ := List.any_eq_true.1 ha
        obtain ⟨j, hj, rfl⟩ := List.mem_iff_getElem.1 hy
        have := hno.out j (by omega)
        simp only [List.getD, List.getElem?_eq_getElem hj, Option.getD_some] at this
        rw [this] at e; cases e
      have hlt2 : ¬ ((k : Int) < l.length) := by omega
      go_wp2_with fail
      go_ret
      exact ⟨ret_bool hend.out.symm, hb.out⟩
end Go.Proofs.YtldnigkaagcciaaDoor
