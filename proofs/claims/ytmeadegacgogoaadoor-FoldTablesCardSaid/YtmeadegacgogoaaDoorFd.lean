/- The walks of the law's comparison, of slices.Clone, of fold's tables. -/
import Derived.Test.YtmeadegacgogoaaDoorFc
import Derived.Test.YtmeadegacgogoaaDoorApp
namespace Go.Proofs.YtmeadegacgogoaaDoor
open Go.RowKit

set_option maxHeartbeats 400000 in
theorem same_any (l : List Rg) (v1 v2 : Value) (w : World) (hl : l.length ≤ 1000) (h1 : RgSl w v1 l) (h2 : RgSl w v2 l) :
    Calls Tryd.prog 16 #[v1, v2] w fun e w' => e = .returned (.bool true) ∧ Drawn w w' := by
  obtain ⟨b, off, c, hc1, rfl, hc⟩ := h1
  obtain ⟨b', off', c', hc1', rfl, hc'⟩ := h2
  replace hc := Lib.hid hc
  replace hc' := Lib.hid hc'
  go_enter Tryd.func16, Tryd.ntmps16
  go_wp2
  go_loopw [5] (fun i wr => ∃ k : Nat, k ≤ l.length ∧ i = .int .i64 k ∧ Drawn w wr) (fun i _ => l.length - (intOf i).toNat)
  case atStart => exact ⟨0, Nat.zero_le _, rfl, Drawn.refl _⟩
  case round =>
    obtain ⟨k, hk, rfl, hd⟩ := hrel
    by_cases hlt : k < l.length
    · obtain ⟨c0, c1, c2, c3⟩ := (hc.out.below (hd.below _)) k _ (List.getElem?_eq_getElem hlt)
      obtain ⟨d0, d1, d2, d3⟩ := (hc'.out.below (hd.below _)) k _ (List.getElem?_eq_getElem hlt)
      go_wp2
      go_quiet (fail)
      go_wp2
      exact ⟨⟨k + 1, by omega, by go_num, hd.trans ⟨_, rfl⟩⟩, by simp [intOf]; omega⟩
    · go_wp2
      go_ret
      exact ⟨rfl, hd⟩

theorem range_info : (Tryd.prog.info? 29).map (fun i => (i.zero, i.size, i.bytes)) = some (some (.agg #[.int .i32 0, .int .i32 0, .int .i32 0, .bool false]), 4, 16) := by kernel_rfl
/-- A row with nothing in it, just made. -/
theorem ownsRow_empty (w : World) (E : TypeId) (z : Nat) : (w.alloc (.cells #[] E)).ownsRow w.heap.size E z (.slice (some ⟨w.heap.size, 0, none⟩) 0 0) 0 [] :=
  ⟨by simp, Or.inr ⟨_, 0, #[], rfl, Nat.le_refl _, heap_alloc_new w _, Nat.le_refl _, Nat.zero_le _, by simp, by simp⟩⟩
theorem flatR_one : ∀ (l : List Rg), ∀ u ∈ flatR l, u.oneCell' = true
  | [], u, h => by simp [flatR] at h
  | g :: l, u, h => by
    simp only [flatR, List.mem_cons] at h
    rcases h with rfl | rfl | rfl | rfl | h
    · rfl
    · rfl
    · rfl
    · rfl
    · exact flatR_one l u h
theorem rgAt_flat {w : World} {b off : Nat} {l : List Rg} (h : RgAt w b off l) (j : Nat) (u : Value) (hu : (flatR l)[j]? = some u) : w.cell? ((⟨b, off, none⟩ : Addr).add j) = some u := by
  have hj : j < l.length * 4 := by
    rcases Nat.lt_or_ge j (l.length * 4) with hj | hj
    · exact hj
    · rw [List.getElem?_eq_none (by rw [flatR_length]; exact hj)] at hu; cases hu
  have hg : l[j / 4]? = some l[j / 4] := List.getElem?_eq_getElem (by omega)
  obtain ⟨c0, c1, c2, c3⟩ := h _ _ hg
  obtain ⟨f0, f1, f2, f3⟩ := flatR_at _ _ _ hg
  have hadd : (⟨b, off, none⟩ : Addr).add j = ⟨b, off + j, none⟩ := by unfold Addr.add; split <;> simp_all
  rw [hadd]
  have hm : j % 4 = 0 ∨ j % 4 = 1 ∨ j % 4 = 2 ∨ j % 4 = 3 := by omega
  rcases hm with hm | hm | hm | hm
  · have e : j = j / 4 * 4 := by omega
    rw [← e] at f0 c0; rw [hu] at f0; rw [c0, f0]
  · have e : j = j / 4 * 4 + 1 := by omega
    rw [← e] at f1; rw [hu] at f1; rw [show off + j = off + j / 4 * 4 + 1 by omega, c1, f1]
  · have e : j = j / 4 * 4 + 2 := by omega
    rw [← e] at f2; rw [hu] at f2; rw [show off + j = off + j / 4 * 4 + 2 by omega, c2, f2]
  · have e : j = j / 4 * 4 + 3 := by omega
    rw [← e] at f3; rw [hu] at f3; rw [show off + j = off + j / 4 * 4 + 3 by omega, c3, f3]
theorem rgAt_own {w : World} {B : Nat} {E : TypeId} {v : Value} {n : Nat} {l : List Rg} (h : w.ownsRow B E 4 v n (flatR l)) (hn : n = l.length) (h0 : 0 < l.length) : RgSl w v l := by
  subst hn
  rcases id h.2 with ⟨_, hz⟩ | ⟨g, cap, cur, hv, _, _, hc, _⟩
  · omega
  · refine ⟨g, 0, cap, hc, hv, fun j x hj => ?_⟩
    obtain ⟨f0, f1, f2, f3⟩ := flatR_at _ _ _ hj
    have hcell := h.cells (g := g) (by rw [hv]; rfl)
    have hadd : ∀ k, (⟨g, 0, none⟩ : Addr).add k = ⟨g, 0 + k, none⟩ := by intro k; unfold Addr.add; split <;> simp_all
    exact ⟨by have := hcell _ _ f0; rwa [hadd] at this, by have := hcell _ _ f1; rwa [hadd] at this, by have := hcell _ _ f2; rwa [hadd] at this, by have := hcell _ _ f3; rwa [hadd] at this⟩

set_option maxHeartbeats 400000 in
theorem clone_any (l : List Rg) (b off c : Nat) (w : World) (hl : l.length ≤ 1000) (h1 : RgAt w b off l) (h0 : 0 < l.length) :
    Calls Tryd.prog 21 #[.slice (some ⟨b, off, none⟩) l.length c] w fun e w' => ∃ v, e = .returned v ∧ RgSl w' v l ∧ Below w.heap.size w w' := by
  have heq := fun W => Lib.run_eql_slice_nil (P := Tryd.prog) W 25 29 (some ⟨b, off, none⟩) l.length c 0 0 Tryd.underlying25
  obtain ⟨i0, hi, hz0, hz1, hz2⟩ := info_parts range_info
  replace hz0 := Lib.hid hz0
  replace hz1 := Lib.hid hz1
  replace hz2 := Lib.hid hz2
  have ha := h1.below (w' := w.alloc (.cells #[] 29)) ((Below.refl _ _).alloc (Nat.le_refl _) _)
  go_enter Tryd.func21, Tryd.ntmps21
  go_wp2_with (at_builtin; refine wpList_append_own _ rfl (.tmp 5) (.tmp 6) 25 rfl w.heap.size 29 i0 _ 4 16 Tryd.underlying25 hi hz0.out hz1.out hz2.out rfl (by decide) _ 0 [] rfl (ownsRow_empty w _ _) ⟨b, off, none⟩ l.length c (flatR l) rfl (flatR_length l) (rgAt_flat ha) (flatR_one l) ?c1 ?c2 ?c3 ?_)
  case c1 => unfold maxLen; omega
  case c2 => omega
  case c3 => simp
  intro v' w1 hown hg _
  go_wp2
  go_ret
  refine ⟨_, rfl, rgAt_own hown (by omega) h0, ?_⟩
  exact ((Below.refl _ _).alloc (Nat.le_refl _) _).grown hg (by simp) (by simp [Value.ownBlock])
end Go.Proofs.YtmeadegacgogoaaDoor
