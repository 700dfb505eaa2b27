/- The walks of fold: Letter, Digit, Fold, small. -/
import Derived.Test.YtonbgdcgfoipjaaDoorTab
namespace Go.Proofs.YtonbgdcgfoipjaaDoor
open Go.RowKit


set_option maxHeartbeats 400000 in
theorem small_any (g : Rg) (r : Int) (w : World) (h0 : 0 ≤ g.f) (h2 : r ≤ 65535) (h3 : -200 ≤ g.a) (h4 : g.a ≤ 200) :
    Calls Tryd.prog 50 #[.agg #[.int .i32 g.f, .int .i32 g.t, .int .i32 g.a, .bool g.p], .int .i32 r] w fun e w' => e = .returned (.int .i32 (smallI g r)) ∧ Below w.heap.size w w' := by
  by_cases h1 : r < g.f
  · go_enter Tryd.func50, Tryd.ntmps50
    go_wp2
    go_ret
    exact ⟨ret_i32 (by unfold smallI; rw [if_pos h1]), (Below.refl _ _).alloc (Nat.le_refl _) _⟩
  have h1 : g.f ≤ r := by omega
  cases hp : g.p
  · replace hp := Lib.hid hp
    go_enter Tryd.func50, Tryd.ntmps50
    go_wp2
    go_ret
    exact ⟨ret_i32 (by unfold smallI; rw [if_neg (by omega), hp.out]; simp), (Below.refl _ _).alloc (Nat.le_refl _) _⟩
  · replace hp := Lib.hid hp
    go_enter Tryd.func50, Tryd.ntmps50
    go_wp2
    all_goals go_ret
    all_goals refine ⟨ret_i32 ?_, (Below.refl _ _).alloc (Nat.le_refl _) _⟩
    all_goals try simp only [beq_iff_eq, beq_eq_false_iff_ne, ne_eq] at *
    all_goals (unfold smallI; rw [if_neg (by omega), hp.out]; first | rw [if_pos rfl, if_pos (by omega)] | rw [if_pos rfl, if_neg (by omega)])

/-- The small form by what a search tells. -/
def foldBy (o : Option Rg) (r : Int) : Int := match o with | none => r | some g => smallI g r

/-- What a search keeps: what is still to be looked through tells what all tells. -/
theorem scan_step {l : List Rg} {r : Int} {k : Nat} {g : Rg} (h : scanR (l.drop k) r = scanR l r) (hg : l[k]? = some g) (h1 : ¬ r ≤ g.t) : scanR (l.drop (k + 1)) r = scanR l r := by
  have hk : k < l.length := by
    rcases Nat.lt_or_ge k l.length with h | h
    · exact h
    · rw [List.getElem?_eq_none h] at hg; cases hg
  rw [List.getElem?_eq_getElem hk] at hg
  injection hg with hg
  rw [← h, List.drop_eq_getElem_cons hk, hg, scanR, if_neg h1]
theorem scan_hit {l : List Rg} {r : Int} {k : Nat} {g : Rg} (h : scanR (l.drop k) r = scanR l r) (hg : l[k]? = some g) (h1 : r ≤ g.t) : scanR l r = if g.f ≤ r then some g else none := by
  have hk : k < l.length := by
    rcases Nat.lt_or_ge k l.length with h | h
    · exact h
    · rw [List.getElem?_eq_none h] at hg; cases hg
  rw [List.getElem?_eq_getElem hk] at hg
  injection hg with hg
  rw [← h, List.drop_eq_getElem_cons hk, hg, scanR, if_pos h1]
theorem scan_end {l : List Rg} {r : Int} (h : scanR (l.drop l.length) r = scanR l r) : scanR l r = none := by
  rw [← h, List.drop_length]; rfl

set_option maxHeartbeats 400000 in
/-- The loop of Letter, over any table. -/
theorem letter_at (l : List Rg) (r : Int) (w : World) (b off c : Nat) (hl : l.length ≤ 1000) (hv : w.cell? ⟨0, 0, none⟩ = some (.slice (some ⟨b, off, none⟩) l.length c)) (hc : RgAt w b off l) :
    Calls Tryd.prog 47 #[.int .i32 r] w fun e w' => e = .returned (.bool (scanR l r).isSome) ∧ Below w.heap.size w w' := by
  go_enter Tryd.func47, Tryd.ntmps47
  go_wp2
  go_loopw [7] (fun i wr => ∃ k : Nat, k ≤ l.length ∧ i = .int .i64 k ∧ scanR (l.drop k) r = scanR l r ∧ Below w.heap.size w wr) (fun i _ => l.length - (intOf i).toNat)
  case atStart => exact ⟨0, Nat.zero_le _, rfl, rfl, Below.refl _ _⟩
  case round =>
    obtain ⟨k, hk, rfl, hs, hbw⟩ := hrel
    replace hs := Lib.hid hs
    replace hc := Lib.hid hc
    have hz := hbw.size
    by_cases hlt : k < l.length
    · have hg : l[k]? = some l[k] := List.getElem?_eq_getElem hlt
      obtain ⟨c0, c1, c2, c3⟩ := (hc.out.below hbw) k _ hg
      replace hg := Lib.hid hg
      by_cases hle : r ≤ l[k].t
      · go_wp2
        go_ret
        refine ⟨ret_bool ?_, ?_⟩
        · rw [scan_hit hs.out hg.out hle]
          by_cases hf : l[k].f ≤ r
          · rw [if_pos hf]; simp [hf]
          · rw [if_neg hf]; simp [hf]
        · exact hbw.alloc hz _
      · go_wp2
        refine ⟨⟨k + 1, by omega, by go_num, scan_step hs.out hg.out hle, ?_⟩, by simp [intOf]; omega⟩
        exact hbw.alloc hz _
    · have : k = l.length := by omega
      go_wp2
      go_ret
      refine ⟨ret_bool ?_, hbw⟩
      rw [this] at hs
      rw [scan_end hs.out]; rfl

set_option maxHeartbeats 400000 in
/-- The loop of Digit, over any table. -/
theorem digit_at (l : List Rg) (r : Int) (w : World) (b off c : Nat) (hl : l.length ≤ 1000) (hv : w.cell? ⟨1, 0, none⟩ = some (.slice (some ⟨b, off, none⟩) l.length c)) (hc : RgAt w b off l) :
    Calls Tryd.prog 48 #[.int .i32 r] w fun e w' => e = .returned (.bool (scanR l r).isSome) ∧ Below w.heap.size w w' := by
  go_enter Tryd.func48, Tryd.ntmps48
  go_wp2
  go_loopw [7] (fun i wr => ∃ k : Nat, k ≤ l.length ∧ i = .int .i64 k ∧ scanR (l.drop k) r = scanR l r ∧ Below w.heap.size w wr) (fun i _ => l.length - (intOf i).toNat)
  case atStart => exact ⟨0, Nat.zero_le _, rfl, rfl, Below.refl _ _⟩
  case round =>
    obtain ⟨k, hk, rfl, hs, hbw⟩ := hrel
    replace hs := Lib.hid hs
    replace hc := Lib.hid hc
    have hz := hbw.size
    by_cases hlt : k < l.length
    · have hg : l[k]? = some l[k] := List.getElem?_eq_getElem hlt
      obtain ⟨c0, c1, c2, c3⟩ := (hc.out.below hbw) k _ hg
      replace hg := Lib.hid hg
      by_cases hle : r ≤ l[k].t
      · go_wp2
        go_ret
        refine ⟨ret_bool ?_, ?_⟩
        · rw [scan_hit hs.out hg.out hle]
          by_cases hf : l[k].f ≤ r
          · rw [if_pos hf]; simp [hf]
          · rw [if_neg hf]; simp [hf]
        · exact hbw.alloc hz _
      · go_wp2
        refine ⟨⟨k + 1, by omega, by go_num, scan_step hs.out hg.out hle, ?_⟩, by simp [intOf]; omega⟩
        exact hbw.alloc hz _
    · have : k = l.length := by omega
      go_wp2
      go_ret
      refine ⟨ret_bool ?_, hbw⟩
      rw [this] at hs
      rw [scan_end hs.out]; rfl

set_option maxHeartbeats 400000 in
/-- The loop of Fold, over any table. -/
theorem fold_at (l : List Rg) (r : Int) (w : World) (b off c : Nat) (hl : l.length ≤ 1000) (hp : plainB l = true) (hv : w.cell? ⟨0, 0, none⟩ = some (.slice (some ⟨b, off, none⟩) l.length c)) (hc : RgAt w b off l) :
    Calls Tryd.prog 39 #[.int .i32 r] w fun e w' => e = .returned (.int .i32 (foldBy (scanR l r) r)) ∧ Below w.heap.size w w' := by
  replace hp := Lib.hid hp
  go_enter Tryd.func39, Tryd.ntmps39
  go_wp2
  go_loopw [7] (fun i wr => ∃ k : Nat, k ≤ l.length ∧ i = .int .i64 k ∧ scanR (l.drop k) r = scanR l r ∧ Below w.heap.size w wr) (fun i _ => l.length - (intOf i).toNat)
  case atStart => exact ⟨0, Nat.zero_le _, rfl, rfl, Below.refl _ _⟩
  case round =>
    obtain ⟨k, hk, rfl, hs, hbw⟩ := hrel
    replace hs := Lib.hid hs
    replace hc := Lib.hid hc
    have hz := hbw.size
    by_cases hlt : k < l.length
    · have hg : l[k]? = some l[k] := List.getElem?_eq_getElem hlt
      obtain ⟨c0, c1, c2, c3⟩ := (hc.out.below hbw) k _ hg
      have hpg := plain_of hp.out (List.getElem_mem hlt)
      replace hg := Lib.hid hg
      by_cases hle : r ≤ l[k].t
      · go_wp2_with fail
        refine (small_any l[k] r _ (by omega) (by omega) (by omega) (by omega)).mono ?_; rintro e w1 ⟨rfl, hb1⟩
        go_wp2
        go_ret
        refine ⟨ret_i32 ?_, ?_⟩
        · rw [scan_hit hs.out hg.out hle]
          by_cases hf : l[k].f ≤ r
          · rw [if_pos hf]; rfl
          · rw [if_neg hf]; show smallI _ _ = r; unfold smallI; rw [if_pos (by omega)]
        · exact (hbw.alloc hz _).trans (hb1.mono (by simp; omega))
      · go_wp2
        refine ⟨⟨k + 1, by omega, by go_num, scan_step hs.out hg.out hle, ?_⟩, by simp [intOf]; omega⟩
        exact hbw.alloc hz _
    · have : k = l.length := by omega
      go_wp2
      go_ret
      refine ⟨ret_i32 ?_, hbw⟩
      have hs' := hs.out
      rw [this] at hs'
      rw [scan_end hs']; rfl

/-- The three calls over the program's own tables. -/
theorem letter_any (r : Int) (w : World) (h : Tab w) : Calls Tryd.prog 47 #[.int .i32 r] w fun e w' => e = .returned (.bool (letB r)) ∧ Below w.heap.size w w' := by
  obtain ⟨⟨b, off, c, _, h1, h2⟩, _⟩ := h
  have := letter_at lettersL r w b off c (by decide) h1 h2
  rw [scanR_eq _ _ _ rises_letters] at this
  exact this
theorem digit_any (r : Int) (w : World) (h : Tab w) : Calls Tryd.prog 48 #[.int .i32 r] w fun e w' => e = .returned (.bool (digB r)) ∧ Below w.heap.size w w' := by
  obtain ⟨_, b, off, c, _, h1, h2⟩ := h
  have := digit_at digitsL r w b off c (by decide) h1 h2
  rw [scanR_eq _ _ _ rises_digits] at this
  exact this
theorem fold_any (r : Int) (w : World) (h : Tab w) : Calls Tryd.prog 39 #[.int .i32 r] w fun e w' => e = .returned (.int .i32 (foldI r)) ∧ Below w.heap.size w w' := by
  obtain ⟨⟨b, off, c, _, h1, h2⟩, _⟩ := h
  have := fold_at lettersL r w b off c (by decide) plain_letters h1 h2
  rw [scanR_eq _ _ _ rises_letters] at this
  exact this
end Go.Proofs.YtonbgdcgfoipjaaDoor
