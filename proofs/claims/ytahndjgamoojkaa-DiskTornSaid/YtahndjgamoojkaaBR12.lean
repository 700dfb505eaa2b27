/- The walk of the reference's put of layer 20. -/
import Derived.Test.YtahndjgamoojkaaBR10
import Derived.Test.YtahndjgamoojkaaBR11
import Derived.Deep.CutBlock
namespace Go.Proofs.Ytahndjgamoojkaa
open Go.RowKit

theorem less_list (x y : List UInt8) : Op.bytesLess x y = decide (x < y) := by
  induction x generalizing y with
  | nil => cases y <;> simp [Op.bytesLess]
  | cons a r ih =>
    cases y with
    | nil => simp [Op.bytesLess]
    | cons b s =>
      rw [Op.bytesLess, ih, Bool.eq_iff_iff]
      simp only [List.cons_lt_cons_iff, decide_eq_true_eq]
      by_cases h1 : a < b
      · simp [h1]
      · by_cases h2 : a = b <;> simp [h1, h2]
theorem at_here (l : List Fl20) (n : List UInt8) {k : Nat} (hk : k ≤ l.length) (h : at20 l n = k + at20 (l.drop k) n) (hs : k = l.length ∨ ∃ hlt : k < l.length, ¬ (l[k]'hlt).1 < n) : at20 l n = k := by
  rcases hs with rfl | ⟨hlt, hn⟩
  · rw [List.drop_of_length_le (Nat.le_refl _)] at h
    exact h
  · rw [at_next l n hlt, if_neg hn] at h
    exact h
theorem cellsA_set : ∀ (l : List Fl20) (k : Nat) (x : Fl20) (h : k < l.length), (l[k]'h).1 = x.1 → cellsA (l.set k x) = (cellsA l).set (k * 2 + 1) (strV x.2)
  | [], _, _, h, _ => by simp at h
  | f :: r, 0, x, _, e => by
    have e1 : ∀ (a : Fl20) (l : List Fl20), cellsA (a :: l) = strV a.1 :: strV a.2 :: cellsA l := fun _ _ => rfl
    rw [List.set_cons_zero, e1, e1, ← e]
    rfl
  | f :: r, k + 1, x, h, e => by
    have e1 : ∀ (a : Fl20) (l : List Fl20), cellsA (a :: l) = strV a.1 :: strV a.2 :: cellsA l := fun _ _ => rfl
    rw [List.set_cons_succ, e1, e1, cellsA_set r k x (by simpa using h) (by simpa using e), show (k + 1) * 2 + 1 = k * 2 + 1 + 1 + 1 by omega]
    rfl
/-- A cell of an own row, written. -/
theorem own_set {w : World} {B n z g cap : Nat} {E : TypeId} {xs : List Value} (h : w.ownsRow B E z (.slice (some ⟨g, 0, none⟩) n cap) n xs) (j : Nat) (u : Value) (hj : j < n * z) :
    (w.setCell ⟨g, j, none⟩ u).ownsRow B E z (.slice (some ⟨g, 0, none⟩) n cap) n (xs.set j u) ∧ (∃ u0, w.cell? ⟨g, j, none⟩ = some u0) ∧ w.frozen? ⟨g, j, none⟩ = false ∧ B ≤ g := by
  obtain ⟨g', cap', c, e, ha, hx, hcl, hnc, hcm⟩ := owns_arr h (by intro e; cases e)
  injection e with e1 e2 e3
  injection e1 with e1
  injection e1 with e1
  subst e1 e3
  have hle : n * z ≤ cap * z := Nat.mul_le_mul_right _ hnc
  refine ⟨?_, ⟨c.getD j u, by rw [ha.cell, List.getElem?_eq_getElem (by omega)]; simp [List.getD, List.getElem?_eq_getElem (show j < c.length by omega)]⟩, ha.soft j, (h.lt g rfl).1⟩
  have h2 := (ha.set j u).owns (n := n) (cap := cap) (z := z) (xs := xs.set j u) (by rw [List.take_set, hx]) (by simpa using hcl) hnc hcm
  exact ⟨h2.1, by
    rcases h2.2 with ⟨e, _⟩ | ⟨g2, cap2, cur, e, _, h3⟩
    · cases e
    · injection e with e1 e2 e3
      injection e1 with e1
      injection e1 with e1
      subst e1 e3
      exact Or.inr ⟨g, cap, cur, rfl, (h.lt g rfl).1, h3⟩⟩
theorem PartOf.front2 {w : World} {g : Nat} {L : List Fl20} (h : PartOf w (some ⟨g, 0, none⟩) (cellsA L)) (k : Nat) : PartOf w (some ⟨g, 0, none⟩) (cellsA (L.take k)) := fun j u hu => by
  have e : cellsA L = cellsA (L.take k) ++ cellsA (L.drop k) := by rw [← cellsA_app, List.take_append_drop]
  refine h j u ?_
  rw [e, List.getElem?_append_left (List.getElem?_eq_some_iff.1 hu).1]
  exact hu
theorem PartOf.back2 {w : World} {g : Nat} {L : List Fl20} (h : PartOf w (some ⟨g, 0, none⟩) (cellsA L)) (k : Nat) (hk : k ≤ L.length) : PartOf w (some ⟨g, k * 2, none⟩) (cellsA (L.drop k)) := fun j u hu => by
  have e : cellsA L = cellsA (L.take k) ++ cellsA (L.drop k) := by rw [← cellsA_app, List.take_append_drop]
  have hl : (cellsA (L.take k)).length = k * 2 := by rw [cellsA_len, List.length_take]; omega
  obtain ⟨ad, e1, e2⟩ := h (k * 2 + j) u (by rw [e, List.getElem?_append_right (by omega), hl, show k * 2 + j - k * 2 = j by omega]; exact hu)
  injection e1 with e1
  subst e1
  refine ⟨_, rfl, ?_⟩
  rw [addr_mid] at e2 ⊢
  rw [Nat.zero_add] at e2
  exact e2
set_option maxHeartbeats 4000000 in
set_option maxRecDepth 100000 in
theorem refput20_any (L : List Fl20) (n d : List UInt8) (v : Value) (w : World) (hv : AtSl w v L) (hL : L.length ≤ 1000000) :
    Calls Try.prog 52 #[v, .string ⟨n.toArray⟩, .string ⟨d.toArray⟩] w (FilesPost w (put20 L n d)) := by
  obtain ⟨A, c, rfl⟩ := hv.form
  have hpt := (hv.next ((Below.refl w.heap.size w).alloc (Nat.le_refl _) (.cells #[] 47))).part
  have hem := ownsRow_empty w 47 2
  have hsz : w.heap.size ≤ (w.alloc (.cells #[] 47)).heap.size := by simp
  replace hpt := Lib.hid hpt
  replace hem := Lib.hid hem
  clear hv
  go_enter Try.func52, Try.ntmps52
  go_wp2_with (at_builtin; go_must (refine wpList_append_part rfl _ _ 22 rfl w.heap.size 47 (.agg #[.string ⟨#[]⟩, .string ⟨#[]⟩]) 2 32 Try.underlying22 info_file rfl (by decide) _ 0 [] rfl hem.out A L.length c (cellsA L) rfl (cellsA_len L) hpt.out (cellsA_one' L) L.length (Nat.zero_add _) (by unfold maxLen; omega) (by omega) hsz ?_))
  intro a' c' w1 ho1 hb1 _ hnn
  replace hb1 := Lib.hid (((Below.refl w.heap.size w).alloc (Nat.le_refl _) (.cells #[] 47)).trans hb1.out)
  replace ho1 : Hid (Fls w1 w.heap.size (.slice a' L.length c') L) := Lib.hid ho1.out
  clear hpt hem hsz
  have hfd := Lib.hid (reffind20_any L n (.slice a' L.length c') w1 ho1.out.sl (by unfold maxLen; omega))
  have hput := put_pos L n d
  by_cases hpos : pos20 L n < L.length
  · rw [if_pos hpos] at hput
    rw [find_yes hpos] at hfd
    have hnm := pos_name L n hpos
    generalize hk : pos20 L n = k at *
    have hcs := cellsA_set L k (n, d) hpos hnm
    have hne : (Value.slice a' L.length c') ≠ .slice none 0 0 := by intro e; injection e with _ e _; omega
    obtain ⟨g, cap, cr, e, ha, hx, hcl, hnc, hcm⟩ := owns_arr ho1.out hne
    injection e with e1 e2 e3
    subst e1 e3
    have hos := own_set ho1.out (k * 2 + 1) (strV d) (by omega)
    rw [← hcs] at hos
    obtain ⟨hos, ⟨u0, hu0⟩, hfz, hBg⟩ := hos
    unfold strV at hos
    have hkc : (k : Int) < L.length := by omega
    have hk0 : (0 : Int) ≤ k := by omega
    have hbb := Lib.hid (hb1.out.setCell (p := ⟨g, k * 2 + 1, none⟩) hBg (.string ⟨d.toArray⟩))
    replace hos := Lib.hid hos
    replace hput := Lib.hid hput
    replace hk := Lib.hid hk
    replace hnm := Lib.hid hnm
    replace hx := Lib.hid hx
    clear hcs ha hcl hb1 ho1 hne
    go_wp2_with fail
    refine hfd.out.mono ?_; rintro e w2 ⟨rfl, rfl⟩
    clear hfd
    go_wp2_with fail
    go_ret
    refine ⟨_, rfl, ?_, hbb.out⟩
    rw [hput.out]
    unfold Fls
    rw [List.length_set]
    exact hos.out
  · rw [if_neg hpos] at hput
    rw [find_no hpos] at hfd
    have hk0 : ¬ (0 : Int) ≤ -1 := by omega
    clear hpos
    go_wp2_with fail
    refine hfd.out.mono ?_; rintro e w2 ⟨rfl, rfl⟩
    clear hfd
    go_upto_block 0 with fail
    go_cut [8] from 23 to 37 (fun s8 wx => ∃ k : Nat, s8 = .int .i64 k ∧ k ≤ L.length ∧ Hid (at20 L n = k) ∧ Hid (wx = w1))
    case first =>
      clear hput
      by_cases h0 : L = []
      · have e0 : Hid (at20 L n = 0) := by subst h0; exact Lib.hid rfl
        have hl1 : ¬ ((0 : Int) < L.length) := by rw [h0]; simp
        clear h0
        go_wp2_with fail
        refine wp_loop_rounds 1 ?_; rw [rounds_succ]
        go_wp2_with fail
        go_meet
        exact ⟨0, rfl, by omega, e0, Lib.hid rfl⟩
      · obtain ⟨b, off, cc, _, _, e, hc⟩ := ho1.out.sl.some h0
        injection e with e1 e2 e3
        subst e1 e3
        replace hc := Lib.hid hc
        clear h0 e2
        go_wp2_with fail
        go_loop [8] (fun i => ∃ k : Nat, i = .int .i64 k ∧ k ≤ L.length ∧ Hid (at20 L n = k + at20 (L.drop k) n)) (fun i => L.length - (intOf i).toNat)
        case atStart => exact ⟨0, rfl, Nat.zero_le _, Lib.hid (by simp)⟩
        case round =>
          obtain ⟨k, rfl, hk, hP⟩ := hrel
          by_cases hlt : k < L.length
          · obtain ⟨g1, _⟩ := hc.out k hlt
            have hP2 := hP.out
            have hnx := at_next L n hlt
            have e : L.getD k ([], []) = L[k] := by simp [List.getD, hlt]
            rw [e] at g1
            unfold strV at g1
            have hkl : (k : Int) < L.length := by omega
            have hls := less_list (L[k]'hlt).1 n
            by_cases hn : (L[k]'hlt).1 < n
            · rw [if_pos hn] at hnx
              rw [decide_eq_true hn] at hls
              replace hP2 := Lib.hid (show at20 L n = ((k + 1 : Nat) + at20 (L.drop (k + 1)) n) by omega)
              generalize (L[k]'hlt).1 = x at g1 hls
              clear hP hn e hnx
              go_wp2_with fail
              go_round
              case rel => exact ⟨k + 1, by go_num, by omega, hP2⟩
              case measure => simp [intOf]; omega
            · rw [decide_eq_false hn] at hls
              have hh := Lib.hid (at_here L n hk hP.out (Or.inr ⟨hlt, hn⟩))
              generalize (L[k]'hlt).1 = x at g1 hls
              clear hP hn e hnx hP2
              go_wp2_with fail
              go_meet
              exact ⟨k, rfl, by omega, hh, Lib.hid rfl⟩
          · have hh := Lib.hid (at_here L n hk hP.out (Or.inl (by omega)))
            have hke : ¬ ((k : Int) < L.length) := by omega
            clear hP
            go_wp2_with fail
            go_meet
            exact ⟨k, rfl, by omega, hh, Lib.hid rfl⟩
    case rest =>
      obtain ⟨k, rfl, hk, hat, hwx⟩ := hcut
      have hwx2 := hwx.out
      subst hwx2
      rw [hat.out] at hput
      have hfin0 : ∀ W v, W.ownsRow wc.heap.size 47 2 v (L.length + 1) (cellsA (L.take k) ++ [.string ⟨n.toArray⟩, .string ⟨d.toArray⟩] ++ cellsA (L.drop k)) → Fls W w.heap.size v (put20 L n d) := by
        intro W v hW
        rw [hput]
        unfold Fls
        have e1 : cellsA (L.take k ++ (n, d) :: L.drop k) = cellsA (L.take k) ++ [.string ⟨n.toArray⟩, .string ⟨d.toArray⟩] ++ cellsA (L.drop k) := by
          rw [cellsA_app, List.append_assoc]
          rfl
        have e2 : (L.take k ++ (n, d) :: L.drop k).length = L.length + 1 := by simp; omega
        rw [e1, e2]
        exact ownsRow_mono hW hb1.out.size
      have hfin := Lib.hid hfin0
      have hne : (Value.slice a' L.length c') ≠ .slice none 0 0 := by
        intro e
        rcases hnn.out with h | h
        · rw [e] at h; cases h
        · rw [e] at h; cases h
      obtain ⟨g, cap, cr, e, ha, hx, hcl, hnc, hcm⟩ := owns_arr ho1.out hne
      injection e with e1 e2 e3
      subst e1 e3
      have hgl := (World.ownsRow.lt ho1.out g rfl).2
      have hpw := ho1.out.sl.part
      have hfr : Hid (∀ W, Below wc.heap.size wc W → PartOf W (some ⟨g, 0, none⟩) (cellsA (L.take k))) := Lib.hid fun W hW => (hpw.below hW (fun ad e => by injection e with e; subst e; exact hgl)).front2 k
      have hbk : Hid (∀ W, Below wc.heap.size wc W → PartOf W (some ⟨g, k * 2, none⟩) (cellsA (L.drop k))) := Lib.hid fun W hW => (hpw.below hW (fun ad e => by injection e with e; subst e; exact hgl)).back2 k hk
      have one_f : ∀ u ∈ [Value.string ⟨n.toArray⟩, .string ⟨d.toArray⟩], u.oneCell' = true := by
        intro u hu
        simp at hu
        rcases hu with rfl | rfl <;> rfl
      have one_no : ∀ u ∈ ([] : List Value), u.oneCell' = true := fun u hu => by simp at hu
      have hcm2 : c' ≤ 9223372036854775807 := by unfold maxLen at hcm; omega
      have k0 : (0 : Int) ≤ k := by omega
      have k1 : (k : Int) ≤ c' := by omega
      have k2 : (k : Int) ≤ L.length := by omega
      clear hwx hat hput hfin0 hne ha hx hcl hpw e2 hcm
      by_cases hkc : c' = k
      · have hdn : cellsA (L.drop k) = [] := by rw [List.drop_of_length_le (by omega)]; rfl
        rw [hdn] at hfin
        have hlk : L.length = k := by omega
        rw [hlk] at hfin
        replace hdn := Lib.hid hdn
        replace hlk := Lib.hid hlk
        go_wp2_with fail
        refine wp_region_held_drew (S := fun _ => True) (by kernel_rfl) trivial (fun hHeld => ?_)
        refine held_take 1 (v := ?_) rfl (by kernel_rfl) (by kernel_rfl) (by kernel_rfl) (fun _ _ _ h => h) (by rfl) ?_ (by assumption) ?_
        rotate_left
        · (intro w hSw; (try dsimp only at hSw); go_simp; all_goals (with_reducible rfl))
        try simp only [Act.put, List.setIfInBounds_toArray, List.set_cons_zero, List.set_cons_succ]
        refine held_take 2 (v := ?_) rfl (by kernel_rfl) (by kernel_rfl) (by kernel_rfl) (fun _ _ _ h => h) (by rfl) ?_ (by assumption) ?_
        rotate_left
        · (intro w hSw; (try dsimp only at hSw); go_simp; all_goals (with_reducible rfl))
        try simp only [Act.put, List.setIfInBounds_toArray, List.set_cons_zero, List.set_cons_succ]
        refine held_take 3 (v := ?_) rfl (by kernel_rfl) (by kernel_rfl) (by kernel_rfl) (fun _ _ _ h => h) (by rfl) ?_ (by assumption) ?_
        rotate_left
        · (intro w hSw; (try dsimp only at hSw); go_simp; all_goals (with_reducible rfl))
        try simp only [Act.put, List.setIfInBounds_toArray, List.set_cons_zero, List.set_cons_succ]
        refine held_take 5 (v := ?_) rfl (by kernel_rfl) (by kernel_rfl) (by kernel_rfl) (fun _ _ _ h => h) (by rfl) ?_ (by assumption) ?_
        rotate_left
        · (intro w hSw; (try dsimp only at hSw); go_simp; all_goals (with_reducible rfl))
        try simp only [Act.put, List.setIfInBounds_toArray, List.set_cons_zero, List.set_cons_succ]
        refine held_take 6 (v := ?_) rfl (by kernel_rfl) (by kernel_rfl) (by kernel_rfl) (fun _ _ _ h => h) (by rfl) ?_ (by assumption) ?_
        rotate_left
        · (intro w hSw; (try dsimp only at hSw); go_simp; all_goals (with_reducible rfl))
        try simp only [Act.put, List.setIfInBounds_toArray, List.set_cons_zero, List.set_cons_succ]
        refine held_take 7 (v := ?_) rfl (by kernel_rfl) (by kernel_rfl) (by kernel_rfl) (fun _ _ _ h => h) (by rfl) ?_ (by assumption) ?_
        rotate_left
        · (intro w hSw; (try dsimp only at hSw); go_simp; all_goals (with_reducible rfl))
        try simp only [Act.put, List.setIfInBounds_toArray, List.set_cons_zero, List.set_cons_succ]
        refine held_take 10 (v := ?_) rfl (by kernel_rfl) (by kernel_rfl) (by kernel_rfl) (fun _ _ _ h => h) (by rfl) ?_ (by assumption) ?_
        rotate_left
        · (intro w hSw; (try dsimp only at hSw); go_simp; all_goals (with_reducible rfl))
        try simp only [Act.put, List.setIfInBounds_toArray, List.set_cons_zero, List.set_cons_succ]
        refine held_take 11 (v := ?_) rfl (by kernel_rfl) (by kernel_rfl) (by kernel_rfl) (fun _ _ _ h => h) (by rfl) ?_ (by assumption) ?_
        rotate_left
        · (intro w hSw; (try dsimp only at hSw); go_simp; all_goals (with_reducible rfl))
        try simp only [Act.put, List.setIfInBounds_toArray, List.set_cons_zero, List.set_cons_succ]
        refine held_take 12 (v := ?_) rfl (by kernel_rfl) (by kernel_rfl) (by kernel_rfl) (fun _ _ _ h => h) (by rfl) ?_ (by assumption) ?_
        rotate_left
        · (intro w hSw; (try dsimp only at hSw); go_simp; all_goals (with_reducible rfl))
        try simp only [Act.put, List.setIfInBounds_toArray, List.set_cons_zero, List.set_cons_succ]
        refine wpAnyH_ready (rs := [0, 8]) (by kernel_rfl) (by simp) ?_
        refine held_call rfl (fun K hK => ?_) (held_call rfl (fun K hK => ?_) AllReadyH.nil)
        · skip
          go_simp
          refine hide_world (R := fun w' => ArrAt w' wc.heap.size 47 [] ∧ Below wc.heap.size wc w' ∧ Below wc.heap.size wc w') (new_in_drew 47 [] (Below.refl _ _) (Nat.le_refl _)) ?_
          intro w2 hw2
          refine hK.out _ _ trivial (fun hHeld => ?_)
          clear hK K
          try simp only [Act.put, List.setIfInBounds_toArray, List.set_cons_zero, List.set_cons_succ]
          refine wpAnyH_ready (rs := [4, 8]) (by kernel_rfl) (by simp) ?_
          refine held_call rfl (fun K hK => ?_) (held_call rfl (fun K hK => ?_) AllReadyH.nil)
          · skip
            refine step_append_part rfl _ _ 22 rfl wc.heap.size 47 (.agg #[.string ⟨#[]⟩, .string ⟨#[]⟩]) 2 32 Try.underlying22 info_file rfl (by decide) (.slice (some ⟨wc.heap.size, 0, none⟩) 0 0) 0 [] rfl (empty_own hw2.out.1 (Nat.le_refl _)) (some ⟨g, 0, none⟩) k _ (cellsA (L.take k)) rfl (by rw [cellsA_len, List.length_take]; omega) (hfr.out w2 hw2.out.2.1) (cellsA_one' _) (k) (by omega) (by unfold maxLen; omega) (by omega) hw2.out.2.1.size ?_
            intro aw4 cw4 w4 how4 hbw4 hgw4
            refine hK.out _ _ trivial (fun hHeld => ?_)
            clear hK K
            try simp only [Act.put, List.setIfInBounds_toArray, List.set_cons_zero, List.set_cons_succ]
            have hb4 := Lib.hid (hw2.out.2.1.trans hbw4.out)
            refine wpAnyH_ready (rs := [8]) (by kernel_rfl) (by simp) ?_
            refine held_call rfl (fun K hK => ?_) AllReadyH.nil
            go_simp
            refine hide_world (R := fun w' => ArrAt w' w4.heap.size 47 [.string ⟨n.toArray⟩, .string ⟨d.toArray⟩] ∧ Below wc.heap.size wc w' ∧ Below w4.heap.size w4 w') (new_in 47 [.string ⟨n.toArray⟩, .string ⟨d.toArray⟩] hb4.out hb4.out.size) ?_
            intro w8 hw8
            refine hK.out _ _ trivial (fun hHeld => ?_)
            clear hK K
            try simp only [Act.put, List.setIfInBounds_toArray, List.set_cons_zero, List.set_cons_succ]
            refine wpAnyH_ready (rs := [9]) (by kernel_rfl) (by simp) ?_
            refine held_call rfl (fun K hK => ?_) AllReadyH.nil
            refine step_append_part rfl _ _ 22 rfl wc.heap.size 47 (.agg #[.string ⟨#[]⟩, .string ⟨#[]⟩]) 2 32 Try.underlying22 info_file rfl (by decide) (.slice aw4 k cw4) k (cellsA (L.take k)) rfl (ownsRow_below how4.out hw8.out.2.2) (some ⟨w4.heap.size, 0, none⟩) 1 1 [.string ⟨n.toArray⟩, .string ⟨d.toArray⟩] rfl rfl (part_one hw8.out.1) one_f (k + 1) rfl (by unfold maxLen; omega) (by omega) hw8.out.2.1.size ?_
            intro aw9 cw9 w9 how9 hbw9 hgw9
            refine hK.out _ _ trivial (fun hHeld => ?_)
            clear hK K
            try simp only [Act.put, List.setIfInBounds_toArray, List.set_cons_zero, List.set_cons_succ]
            have hb9 := Lib.hid (hw8.out.2.1.trans hbw9.out)
            refine wpAnyH_ready (rs := [13]) (by kernel_rfl) (by simp) ?_
            refine held_call rfl (fun K hK => ?_) AllReadyH.nil
            refine step_append_part rfl _ _ 22 rfl wc.heap.size 47 (.agg #[.string ⟨#[]⟩, .string ⟨#[]⟩]) 2 32 Try.underlying22 info_file rfl (by decide) (.slice aw9 (k + 1) cw9) (k + 1) ((cellsA (L.take k)) ++ [.string ⟨n.toArray⟩, .string ⟨d.toArray⟩]) rfl how9.out _ (L.length - k) _ [] rfl (by rw [hlk.out]; simp) (partOf_nil _ _) one_no (k + 1) (by have := hlk.out; omega) (by unfold maxLen; omega) (by omega) hb9.out.size ?_
            intro aw13 cw13 w13 how13 hbw13 hgw13
            refine hK.out _ _ trivial (fun hHeld => ?_)
            clear hK K
            try simp only [Act.put, List.setIfInBounds_toArray, List.set_cons_zero, List.set_cons_succ]
            have hb13 := Lib.hid (hb9.out.trans hbw13.out)
            refine held_take 14 (v := ?_) rfl (by kernel_rfl) (by kernel_rfl) (by kernel_rfl) (fun _ _ _ h => h) (by rfl) ?_ (by assumption) ?_
            rotate_left
            · (intro w hSw; (try dsimp only at hSw); go_simp; all_goals (with_reducible rfl))
            try simp only [Act.put, List.setIfInBounds_toArray, List.set_cons_zero, List.set_cons_succ]
            refine wpAnyH_done (by kernel_rfl) ?_ _
            go_wp2_with fail
            go_ret
            refine ⟨_, rfl, ?_, hb1.out.next hb13.out hb1.out.size⟩
            exact hfin.out w13 _ how13.out
          · skip
            go_simp
            refine hide_world (R := fun w' => ArrAt w' w2.heap.size 47 [.string ⟨n.toArray⟩, .string ⟨d.toArray⟩] ∧ Below wc.heap.size wc w' ∧ Below w2.heap.size w2 w') (new_in 47 [.string ⟨n.toArray⟩, .string ⟨d.toArray⟩] hw2.out.2.1 hw2.out.2.1.size) ?_
            intro w8 hw8
            refine hK.out _ _ trivial (fun hHeld => ?_)
            clear hK K
            try simp only [Act.put, List.setIfInBounds_toArray, List.set_cons_zero, List.set_cons_succ]
            refine wpAnyH_ready (rs := [4]) (by kernel_rfl) (by simp) ?_
            refine held_call rfl (fun K hK => ?_) AllReadyH.nil
            refine step_append_part rfl _ _ 22 rfl wc.heap.size 47 (.agg #[.string ⟨#[]⟩, .string ⟨#[]⟩]) 2 32 Try.underlying22 info_file rfl (by decide) (.slice (some ⟨wc.heap.size, 0, none⟩) 0 0) 0 [] rfl (empty_own (hw2.out.1.next hw8.out.2.2) (Nat.le_refl _)) (some ⟨g, 0, none⟩) k _ (cellsA (L.take k)) rfl (by rw [cellsA_len, List.length_take]; omega) (hfr.out w8 hw8.out.2.1) (cellsA_one' _) (k) (by omega) (by unfold maxLen; omega) (by omega) hw8.out.2.1.size ?_
            intro aw4 cw4 w4 how4 hbw4 hgw4
            refine hK.out _ _ trivial (fun hHeld => ?_)
            clear hK K
            try simp only [Act.put, List.setIfInBounds_toArray, List.set_cons_zero, List.set_cons_succ]
            have hb4 := Lib.hid (hw8.out.2.1.trans hbw4.out)
            refine wpAnyH_ready (rs := [9]) (by kernel_rfl) (by simp) ?_
            refine held_call rfl (fun K hK => ?_) AllReadyH.nil
            refine step_append_part rfl _ _ 22 rfl wc.heap.size 47 (.agg #[.string ⟨#[]⟩, .string ⟨#[]⟩]) 2 32 Try.underlying22 info_file rfl (by decide) (.slice aw4 k cw4) k (cellsA (L.take k)) rfl how4.out (some ⟨w2.heap.size, 0, none⟩) 1 1 [.string ⟨n.toArray⟩, .string ⟨d.toArray⟩] rfl rfl (part_one (hw8.out.1.grown hgw4.out (by have := hw2.out.1.lt; intro e; injection e with e; dsimp only at e; omega))) one_f (k + 1) rfl (by unfold maxLen; omega) (by omega) hb4.out.size ?_
            intro aw9 cw9 w9 how9 hbw9 hgw9
            refine hK.out _ _ trivial (fun hHeld => ?_)
            clear hK K
            try simp only [Act.put, List.setIfInBounds_toArray, List.set_cons_zero, List.set_cons_succ]
            have hb9 := Lib.hid (hb4.out.trans hbw9.out)
            refine wpAnyH_ready (rs := [13]) (by kernel_rfl) (by simp) ?_
            refine held_call rfl (fun K hK => ?_) AllReadyH.nil
            refine step_append_part rfl _ _ 22 rfl wc.heap.size 47 (.agg #[.string ⟨#[]⟩, .string ⟨#[]⟩]) 2 32 Try.underlying22 info_file rfl (by decide) (.slice aw9 (k + 1) cw9) (k + 1) ((cellsA (L.take k)) ++ [.string ⟨n.toArray⟩, .string ⟨d.toArray⟩]) rfl how9.out _ (L.length - k) _ [] rfl (by rw [hlk.out]; simp) (partOf_nil _ _) one_no (k + 1) (by have := hlk.out; omega) (by unfold maxLen; omega) (by omega) hb9.out.size ?_
            intro aw13 cw13 w13 how13 hbw13 hgw13
            refine hK.out _ _ trivial (fun hHeld => ?_)
            clear hK K
            try simp only [Act.put, List.setIfInBounds_toArray, List.set_cons_zero, List.set_cons_succ]
            have hb13 := Lib.hid (hb9.out.trans hbw13.out)
            refine held_take 14 (v := ?_) rfl (by kernel_rfl) (by kernel_rfl) (by kernel_rfl) (fun _ _ _ h => h) (by rfl) ?_ (by assumption) ?_
            rotate_left
            · (intro w hSw; (try dsimp only at hSw); go_simp; all_goals (with_reducible rfl))
            try simp only [Act.put, List.setIfInBounds_toArray, List.set_cons_zero, List.set_cons_succ]
            refine wpAnyH_done (by kernel_rfl) ?_ _
            go_wp2_with fail
            go_ret
            refine ⟨_, rfl, ?_, hb1.out.next hb13.out hb1.out.size⟩
            exact hfin.out w13 _ how13.out
        · skip
          go_simp
          refine hide_world (R := fun w' => ArrAt w' wc.heap.size 47 [.string ⟨n.toArray⟩, .string ⟨d.toArray⟩] ∧ Below wc.heap.size wc w' ∧ Below wc.heap.size wc w') (new_in_drew 47 [.string ⟨n.toArray⟩, .string ⟨d.toArray⟩] (Below.refl _ _) (Nat.le_refl _)) ?_
          intro w8 hw8
          refine hK.out _ _ trivial (fun hHeld => ?_)
          clear hK K
          try simp only [Act.put, List.setIfInBounds_toArray, List.set_cons_zero, List.set_cons_succ]
          refine wpAnyH_ready (rs := [0]) (by kernel_rfl) (by simp) ?_
          refine held_call rfl (fun K hK => ?_) AllReadyH.nil
          go_simp
          refine hide_world (R := fun w' => ArrAt w' w8.heap.size 47 [] ∧ Below wc.heap.size wc w' ∧ Below w8.heap.size w8 w') (new_in 47 [] hw8.out.2.1 hw8.out.2.1.size) ?_
          intro w2 hw2
          refine hK.out _ _ trivial (fun hHeld => ?_)
          clear hK K
          try simp only [Act.put, List.setIfInBounds_toArray, List.set_cons_zero, List.set_cons_succ]
          refine wpAnyH_ready (rs := [4]) (by kernel_rfl) (by simp) ?_
          refine held_call rfl (fun K hK => ?_) AllReadyH.nil
          refine step_append_part rfl _ _ 22 rfl wc.heap.size 47 (.agg #[.string ⟨#[]⟩, .string ⟨#[]⟩]) 2 32 Try.underlying22 info_file rfl (by decide) (.slice (some ⟨w8.heap.size, 0, none⟩) 0 0) 0 [] rfl (empty_own hw2.out.1 hw8.out.2.1.size) (some ⟨g, 0, none⟩) k _ (cellsA (L.take k)) rfl (by rw [cellsA_len, List.length_take]; omega) (hfr.out w2 hw2.out.2.1) (cellsA_one' _) (k) (by omega) (by unfold maxLen; omega) (by omega) hw2.out.2.1.size ?_
          intro aw4 cw4 w4 how4 hbw4 hgw4
          refine hK.out _ _ trivial (fun hHeld => ?_)
          clear hK K
          try simp only [Act.put, List.setIfInBounds_toArray, List.set_cons_zero, List.set_cons_succ]
          have hb4 := Lib.hid (hw2.out.2.1.trans hbw4.out)
          refine wpAnyH_ready (rs := [9]) (by kernel_rfl) (by simp) ?_
          refine held_call rfl (fun K hK => ?_) AllReadyH.nil
          refine step_append_part rfl _ _ 22 rfl wc.heap.size 47 (.agg #[.string ⟨#[]⟩, .string ⟨#[]⟩]) 2 32 Try.underlying22 info_file rfl (by decide) (.slice aw4 k cw4) k (cellsA (L.take k)) rfl how4.out (some ⟨wc.heap.size, 0, none⟩) 1 1 [.string ⟨n.toArray⟩, .string ⟨d.toArray⟩] rfl rfl (part_one ((hw8.out.1.next hw2.out.2.2).grown hgw4.out (by have := hw8.out.1.lt; intro e; injection e with e; dsimp only at e; omega))) one_f (k + 1) rfl (by unfold maxLen; omega) (by omega) hb4.out.size ?_
          intro aw9 cw9 w9 how9 hbw9 hgw9
          refine hK.out _ _ trivial (fun hHeld => ?_)
          clear hK K
          try simp only [Act.put, List.setIfInBounds_toArray, List.set_cons_zero, List.set_cons_succ]
          have hb9 := Lib.hid (hb4.out.trans hbw9.out)
          refine wpAnyH_ready (rs := [13]) (by kernel_rfl) (by simp) ?_
          refine held_call rfl (fun K hK => ?_) AllReadyH.nil
          refine step_append_part rfl _ _ 22 rfl wc.heap.size 47 (.agg #[.string ⟨#[]⟩, .string ⟨#[]⟩]) 2 32 Try.underlying22 info_file rfl (by decide) (.slice aw9 (k + 1) cw9) (k + 1) ((cellsA (L.take k)) ++ [.string ⟨n.toArray⟩, .string ⟨d.toArray⟩]) rfl how9.out _ (L.length - k) _ [] rfl (by rw [hlk.out]; simp) (partOf_nil _ _) one_no (k + 1) (by have := hlk.out; omega) (by unfold maxLen; omega) (by omega) hb9.out.size ?_
          intro aw13 cw13 w13 how13 hbw13 hgw13
          refine hK.out _ _ trivial (fun hHeld => ?_)
          clear hK K
          try simp only [Act.put, List.setIfInBounds_toArray, List.set_cons_zero, List.set_cons_succ]
          have hb13 := Lib.hid (hb9.out.trans hbw13.out)
          refine held_take 14 (v := ?_) rfl (by kernel_rfl) (by kernel_rfl) (by kernel_rfl) (fun _ _ _ h => h) (by rfl) ?_ (by assumption) ?_
          rotate_left
          · (intro w hSw; (try dsimp only at hSw); go_simp; all_goals (with_reducible rfl))
          try simp only [Act.put, List.setIfInBounds_toArray, List.set_cons_zero, List.set_cons_succ]
          refine wpAnyH_done (by kernel_rfl) ?_ _
          go_wp2_with fail
          go_ret
          refine ⟨_, rfl, ?_, hb1.out.next hb13.out hb1.out.size⟩
          exact hfin.out w13 _ how13.out
      · go_wp2_with fail
        refine wp_region_held_drew (S := fun _ => True) (by kernel_rfl) trivial (fun hHeld => ?_)
        refine held_take 1 (v := ?_) rfl (by kernel_rfl) (by kernel_rfl) (by kernel_rfl) (fun _ _ _ h => h) (by rfl) ?_ (by assumption) ?_
        rotate_left
        · (intro w hSw; (try dsimp only at hSw); go_simp; all_goals (with_reducible rfl))
        try simp only [Act.put, List.setIfInBounds_toArray, List.set_cons_zero, List.set_cons_succ]
        refine held_take 2 (v := ?_) rfl (by kernel_rfl) (by kernel_rfl) (by kernel_rfl) (fun _ _ _ h => h) (by rfl) ?_ (by assumption) ?_
        rotate_left
        · (intro w hSw; (try dsimp only at hSw); go_simp; all_goals (with_reducible rfl))
        try simp only [Act.put, List.setIfInBounds_toArray, List.set_cons_zero, List.set_cons_succ]
        refine held_take 3 (v := ?_) rfl (by kernel_rfl) (by kernel_rfl) (by kernel_rfl) (fun _ _ _ h => h) (by rfl) ?_ (by assumption) ?_
        rotate_left
        · (intro w hSw; (try dsimp only at hSw); go_simp; all_goals (with_reducible rfl))
        try simp only [Act.put, List.setIfInBounds_toArray, List.set_cons_zero, List.set_cons_succ]
        refine held_take 5 (v := ?_) rfl (by kernel_rfl) (by kernel_rfl) (by kernel_rfl) (fun _ _ _ h => h) (by rfl) ?_ (by assumption) ?_
        rotate_left
        · (intro w hSw; (try dsimp only at hSw); go_simp; all_goals (with_reducible rfl))
        try simp only [Act.put, List.setIfInBounds_toArray, List.set_cons_zero, List.set_cons_succ]
        refine held_take 6 (v := ?_) rfl (by kernel_rfl) (by kernel_rfl) (by kernel_rfl) (fun _ _ _ h => h) (by rfl) ?_ (by assumption) ?_
        rotate_left
        · (intro w hSw; (try dsimp only at hSw); go_simp; all_goals (with_reducible rfl))
        try simp only [Act.put, List.setIfInBounds_toArray, List.set_cons_zero, List.set_cons_succ]
        refine held_take 7 (v := ?_) rfl (by kernel_rfl) (by kernel_rfl) (by kernel_rfl) (fun _ _ _ h => h) (by rfl) ?_ (by assumption) ?_
        rotate_left
        · (intro w hSw; (try dsimp only at hSw); go_simp; all_goals (with_reducible rfl))
        try simp only [Act.put, List.setIfInBounds_toArray, List.set_cons_zero, List.set_cons_succ]
        refine held_take 10 (v := ?_) rfl (by kernel_rfl) (by kernel_rfl) (by kernel_rfl) (fun _ _ _ h => h) (by rfl) ?_ (by assumption) ?_
        rotate_left
        · (intro w hSw; (try dsimp only at hSw); go_simp; all_goals (with_reducible rfl))
        try simp only [Act.put, List.setIfInBounds_toArray, List.set_cons_zero, List.set_cons_succ]
        refine held_take 11 (v := ?_) rfl (by kernel_rfl) (by kernel_rfl) (by kernel_rfl) (fun _ _ _ h => h) (by rfl) ?_ (by assumption) ?_
        rotate_left
        · (intro w hSw; (try dsimp only at hSw); go_simp; all_goals (with_reducible rfl))
        try simp only [Act.put, List.setIfInBounds_toArray, List.set_cons_zero, List.set_cons_succ]
        refine held_take 12 (v := ?_) rfl (by kernel_rfl) (by kernel_rfl) (by kernel_rfl) (fun _ _ _ h => h) (by rfl) ?_ (by assumption) ?_
        rotate_left
        · (intro w hSw; (try dsimp only at hSw); go_simp; all_goals (with_reducible rfl))
        try simp only [Act.put, List.setIfInBounds_toArray, List.set_cons_zero, List.set_cons_succ]
        refine wpAnyH_ready (rs := [0, 8]) (by kernel_rfl) (by simp) ?_
        refine held_call rfl (fun K hK => ?_) (held_call rfl (fun K hK => ?_) AllReadyH.nil)
        · skip
          go_simp
          refine hide_world (R := fun w' => ArrAt w' wc.heap.size 47 [] ∧ Below wc.heap.size wc w' ∧ Below wc.heap.size wc w') (new_in_drew 47 [] (Below.refl _ _) (Nat.le_refl _)) ?_
          intro w2 hw2
          refine hK.out _ _ trivial (fun hHeld => ?_)
          clear hK K
          try simp only [Act.put, List.setIfInBounds_toArray, List.set_cons_zero, List.set_cons_succ]
          refine wpAnyH_ready (rs := [4, 8]) (by kernel_rfl) (by simp) ?_
          refine held_call rfl (fun K hK => ?_) (held_call rfl (fun K hK => ?_) AllReadyH.nil)
          · skip
            refine step_append_part rfl _ _ 22 rfl wc.heap.size 47 (.agg #[.string ⟨#[]⟩, .string ⟨#[]⟩]) 2 32 Try.underlying22 info_file rfl (by decide) (.slice (some ⟨wc.heap.size, 0, none⟩) 0 0) 0 [] rfl (empty_own hw2.out.1 (Nat.le_refl _)) (some ⟨g, 0, none⟩) k _ (cellsA (L.take k)) rfl (by rw [cellsA_len, List.length_take]; omega) (hfr.out w2 hw2.out.2.1) (cellsA_one' _) (k) (by omega) (by unfold maxLen; omega) (by omega) hw2.out.2.1.size ?_
            intro aw4 cw4 w4 how4 hbw4 hgw4
            refine hK.out _ _ trivial (fun hHeld => ?_)
            clear hK K
            try simp only [Act.put, List.setIfInBounds_toArray, List.set_cons_zero, List.set_cons_succ]
            have hb4 := Lib.hid (hw2.out.2.1.trans hbw4.out)
            refine wpAnyH_ready (rs := [8]) (by kernel_rfl) (by simp) ?_
            refine held_call rfl (fun K hK => ?_) AllReadyH.nil
            go_simp
            refine hide_world (R := fun w' => ArrAt w' w4.heap.size 47 [.string ⟨n.toArray⟩, .string ⟨d.toArray⟩] ∧ Below wc.heap.size wc w' ∧ Below w4.heap.size w4 w') (new_in 47 [.string ⟨n.toArray⟩, .string ⟨d.toArray⟩] hb4.out hb4.out.size) ?_
            intro w8 hw8
            refine hK.out _ _ trivial (fun hHeld => ?_)
            clear hK K
            try simp only [Act.put, List.setIfInBounds_toArray, List.set_cons_zero, List.set_cons_succ]
            refine wpAnyH_ready (rs := [9]) (by kernel_rfl) (by simp) ?_
            refine held_call rfl (fun K hK => ?_) AllReadyH.nil
            refine step_append_part rfl _ _ 22 rfl wc.heap.size 47 (.agg #[.string ⟨#[]⟩, .string ⟨#[]⟩]) 2 32 Try.underlying22 info_file rfl (by decide) (.slice aw4 k cw4) k (cellsA (L.take k)) rfl (ownsRow_below how4.out hw8.out.2.2) (some ⟨w4.heap.size, 0, none⟩) 1 1 [.string ⟨n.toArray⟩, .string ⟨d.toArray⟩] rfl rfl (part_one hw8.out.1) one_f (k + 1) rfl (by unfold maxLen; omega) (by omega) hw8.out.2.1.size ?_
            intro aw9 cw9 w9 how9 hbw9 hgw9
            refine hK.out _ _ trivial (fun hHeld => ?_)
            clear hK K
            try simp only [Act.put, List.setIfInBounds_toArray, List.set_cons_zero, List.set_cons_succ]
            have hb9 := Lib.hid (hw8.out.2.1.trans hbw9.out)
            refine wpAnyH_ready (rs := [13]) (by kernel_rfl) (by simp) ?_
            refine held_call rfl (fun K hK => ?_) AllReadyH.nil
            refine step_append_part rfl _ _ 22 rfl wc.heap.size 47 (.agg #[.string ⟨#[]⟩, .string ⟨#[]⟩]) 2 32 Try.underlying22 info_file rfl (by decide) (.slice aw9 (k + 1) cw9) (k + 1) ((cellsA (L.take k)) ++ [.string ⟨n.toArray⟩, .string ⟨d.toArray⟩]) rfl how9.out (some ⟨g, k * 2, none⟩) (L.length - k) _ (cellsA (L.drop k)) rfl (by rw [cellsA_len, List.length_drop]) (hbk.out w9 hb9.out) (cellsA_one' _) (L.length + 1) (by omega) (by unfold maxLen; omega) (by omega) hb9.out.size ?_
            intro aw13 cw13 w13 how13 hbw13 hgw13
            refine hK.out _ _ trivial (fun hHeld => ?_)
            clear hK K
            try simp only [Act.put, List.setIfInBounds_toArray, List.set_cons_zero, List.set_cons_succ]
            have hb13 := Lib.hid (hb9.out.trans hbw13.out)
            refine held_take 14 (v := ?_) rfl (by kernel_rfl) (by kernel_rfl) (by kernel_rfl) (fun _ _ _ h => h) (by rfl) ?_ (by assumption) ?_
            rotate_left
            · (intro w hSw; (try dsimp only at hSw); go_simp; all_goals (with_reducible rfl))
            try simp only [Act.put, List.setIfInBounds_toArray, List.set_cons_zero, List.set_cons_succ]
            refine wpAnyH_done (by kernel_rfl) ?_ _
            go_wp2_with fail
            go_ret
            refine ⟨_, rfl, ?_, hb1.out.next hb13.out hb1.out.size⟩
            exact hfin.out w13 _ how13.out
          · skip
            go_simp
            refine hide_world (R := fun w' => ArrAt w' w2.heap.size 47 [.string ⟨n.toArray⟩, .string ⟨d.toArray⟩] ∧ Below wc.heap.size wc w' ∧ Below w2.heap.size w2 w') (new_in 47 [.string ⟨n.toArray⟩, .string ⟨d.toArray⟩] hw2.out.2.1 hw2.out.2.1.size) ?_
            intro w8 hw8
            refine hK.out _ _ trivial (fun hHeld => ?_)
            clear hK K
            try simp only [Act.put, List.setIfInBounds_toArray, List.set_cons_zero, List.set_cons_succ]
            refine wpAnyH_ready (rs := [4]) (by kernel_rfl) (by simp) ?_
            refine held_call rfl (fun K hK => ?_) AllReadyH.nil
            refine step_append_part rfl _ _ 22 rfl wc.heap.size 47 (.agg #[.string ⟨#[]⟩, .string ⟨#[]⟩]) 2 32 Try.underlying22 info_file rfl (by decide) (.slice (some ⟨wc.heap.size, 0, none⟩) 0 0) 0 [] rfl (empty_own (hw2.out.1.next hw8.out.2.2) (Nat.le_refl _)) (some ⟨g, 0, none⟩) k _ (cellsA (L.take k)) rfl (by rw [cellsA_len, List.length_take]; omega) (hfr.out w8 hw8.out.2.1) (cellsA_one' _) (k) (by omega) (by unfold maxLen; omega) (by omega) hw8.out.2.1.size ?_
            intro aw4 cw4 w4 how4 hbw4 hgw4
            refine hK.out _ _ trivial (fun hHeld => ?_)
            clear hK K
            try simp only [Act.put, List.setIfInBounds_toArray, List.set_cons_zero, List.set_cons_succ]
            have hb4 := Lib.hid (hw8.out.2.1.trans hbw4.out)
            refine wpAnyH_ready (rs := [9]) (by kernel_rfl) (by simp) ?_
            refine held_call rfl (fun K hK => ?_) AllReadyH.nil
            refine step_append_part rfl _ _ 22 rfl wc.heap.size 47 (.agg #[.string ⟨#[]⟩, .string ⟨#[]⟩]) 2 32 Try.underlying22 info_file rfl (by decide) (.slice aw4 k cw4) k (cellsA (L.take k)) rfl how4.out (some ⟨w2.heap.size, 0, none⟩) 1 1 [.string ⟨n.toArray⟩, .string ⟨d.toArray⟩] rfl rfl (part_one (hw8.out.1.grown hgw4.out (by have := hw2.out.1.lt; intro e; injection e with e; dsimp only at e; omega))) one_f (k + 1) rfl (by unfold maxLen; omega) (by omega) hb4.out.size ?_
            intro aw9 cw9 w9 how9 hbw9 hgw9
            refine hK.out _ _ trivial (fun hHeld => ?_)
            clear hK K
            try simp only [Act.put, List.setIfInBounds_toArray, List.set_cons_zero, List.set_cons_succ]
            have hb9 := Lib.hid (hb4.out.trans hbw9.out)
            refine wpAnyH_ready (rs := [13]) (by kernel_rfl) (by simp) ?_
            refine held_call rfl (fun K hK => ?_) AllReadyH.nil
            refine step_append_part rfl _ _ 22 rfl wc.heap.size 47 (.agg #[.string ⟨#[]⟩, .string ⟨#[]⟩]) 2 32 Try.underlying22 info_file rfl (by decide) (.slice aw9 (k + 1) cw9) (k + 1) ((cellsA (L.take k)) ++ [.string ⟨n.toArray⟩, .string ⟨d.toArray⟩]) rfl how9.out (some ⟨g, k * 2, none⟩) (L.length - k) _ (cellsA (L.drop k)) rfl (by rw [cellsA_len, List.length_drop]) (hbk.out w9 hb9.out) (cellsA_one' _) (L.length + 1) (by omega) (by unfold maxLen; omega) (by omega) hb9.out.size ?_
            intro aw13 cw13 w13 how13 hbw13 hgw13
            refine hK.out _ _ trivial (fun hHeld => ?_)
            clear hK K
            try simp only [Act.put, List.setIfInBounds_toArray, List.set_cons_zero, List.set_cons_succ]
            have hb13 := Lib.hid (hb9.out.trans hbw13.out)
            refine held_take 14 (v := ?_) rfl (by kernel_rfl) (by kernel_rfl) (by kernel_rfl) (fun _ _ _ h => h) (by rfl) ?_ (by assumption) ?_
            rotate_left
            · (intro w hSw; (try dsimp only at hSw); go_simp; all_goals (with_reducible rfl))
            try simp only [Act.put, List.setIfInBounds_toArray, List.set_cons_zero, List.set_cons_succ]
            refine wpAnyH_done (by kernel_rfl) ?_ _
            go_wp2_with fail
            go_ret
            refine ⟨_, rfl, ?_, hb1.out.next hb13.out hb1.out.size⟩
            exact hfin.out w13 _ how13.out
        · skip
          go_simp
          refine hide_world (R := fun w' => ArrAt w' wc.heap.size 47 [.string ⟨n.toArray⟩, .string ⟨d.toArray⟩] ∧ Below wc.heap.size wc w' ∧ Below wc.heap.size wc w') (new_in_drew 47 [.string ⟨n.toArray⟩, .string ⟨d.toArray⟩] (Below.refl _ _) (Nat.le_refl _)) ?_
          intro w8 hw8
          refine hK.out _ _ trivial (fun hHeld => ?_)
          clear hK K
          try simp only [Act.put, List.setIfInBounds_toArray, List.set_cons_zero, List.set_cons_succ]
          refine wpAnyH_ready (rs := [0]) (by kernel_rfl) (by simp) ?_
          refine held_call rfl (fun K hK => ?_) AllReadyH.nil
          go_simp
          refine hide_world (R := fun w' => ArrAt w' w8.heap.size 47 [] ∧ Below wc.heap.size wc w' ∧ Below w8.heap.size w8 w') (new_in 47 [] hw8.out.2.1 hw8.out.2.1.size) ?_
          intro w2 hw2
          refine hK.out _ _ trivial (fun hHeld => ?_)
          clear hK K
          try simp only [Act.put, List.setIfInBounds_toArray, List.set_cons_zero, List.set_cons_succ]
          refine wpAnyH_ready (rs := [4]) (by kernel_rfl) (by simp) ?_
          refine held_call rfl (fun K hK => ?_) AllReadyH.nil
          refine step_append_part rfl _ _ 22 rfl wc.heap.size 47 (.agg #[.string ⟨#[]⟩, .string ⟨#[]⟩]) 2 32 Try.underlying22 info_file rfl (by decide) (.slice (some ⟨w8.heap.size, 0, none⟩) 0 0) 0 [] rfl (empty_own hw2.out.1 hw8.out.2.1.size) (some ⟨g, 0, none⟩) k _ (cellsA (L.take k)) rfl (by rw [cellsA_len, List.length_take]; omega) (hfr.out w2 hw2.out.2.1) (cellsA_one' _) (k) (by omega) (by unfold maxLen; omega) (by omega) hw2.out.2.1.size ?_
          intro aw4 cw4 w4 how4 hbw4 hgw4
          refine hK.out _ _ trivial (fun hHeld => ?_)
          clear hK K
          try simp only [Act.put, List.setIfInBounds_toArray, List.set_cons_zero, List.set_cons_succ]
          have hb4 := Lib.hid (hw2.out.2.1.trans hbw4.out)
          refine wpAnyH_ready (rs := [9]) (by kernel_rfl) (by simp) ?_
          refine held_call rfl (fun K hK => ?_) AllReadyH.nil
          refine step_append_part rfl _ _ 22 rfl wc.heap.size 47 (.agg #[.string ⟨#[]⟩, .string ⟨#[]⟩]) 2 32 Try.underlying22 info_file rfl (by decide) (.slice aw4 k cw4) k (cellsA (L.take k)) rfl how4.out (some ⟨wc.heap.size, 0, none⟩) 1 1 [.string ⟨n.toArray⟩, .string ⟨d.toArray⟩] rfl rfl (part_one ((hw8.out.1.next hw2.out.2.2).grown hgw4.out (by have := hw8.out.1.lt; intro e; injection e with e; dsimp only at e; omega))) one_f (k + 1) rfl (by unfold maxLen; omega) (by omega) hb4.out.size ?_
          intro aw9 cw9 w9 how9 hbw9 hgw9
          refine hK.out _ _ trivial (fun hHeld => ?_)
          clear hK K
          try simp only [Act.put, List.setIfInBounds_toArray, List.set_cons_zero, List.set_cons_succ]
          have hb9 := Lib.hid (hb4.out.trans hbw9.out)
          refine wpAnyH_ready (rs := [13]) (by kernel_rfl) (by simp) ?_
          refine held_call rfl (fun K hK => ?_) AllReadyH.nil
          refine step_append_part rfl _ _ 22 rfl wc.heap.size 47 (.agg #[.string ⟨#[]⟩, .string ⟨#[]⟩]) 2 32 Try.underlying22 info_file rfl (by decide) (.slice aw9 (k + 1) cw9) (k + 1) ((cellsA (L.take k)) ++ [.string ⟨n.toArray⟩, .string ⟨d.toArray⟩]) rfl how9.out (some ⟨g, k * 2, none⟩) (L.length - k) _ (cellsA (L.drop k)) rfl (by rw [cellsA_len, List.length_drop]) (hbk.out w9 hb9.out) (cellsA_one' _) (L.length + 1) (by omega) (by unfold maxLen; omega) (by omega) hb9.out.size ?_
          intro aw13 cw13 w13 how13 hbw13 hgw13
          refine hK.out _ _ trivial (fun hHeld => ?_)
          clear hK K
          try simp only [Act.put, List.setIfInBounds_toArray, List.set_cons_zero, List.set_cons_succ]
          have hb13 := Lib.hid (hb9.out.trans hbw13.out)
          refine held_take 14 (v := ?_) rfl (by kernel_rfl) (by kernel_rfl) (by kernel_rfl) (fun _ _ _ h => h) (by rfl) ?_ (by assumption) ?_
          rotate_left
          · (intro w hSw; (try dsimp only at hSw); go_simp; all_goals (with_reducible rfl))
          try simp only [Act.put, List.setIfInBounds_toArray, List.set_cons_zero, List.set_cons_succ]
          refine wpAnyH_done (by kernel_rfl) ?_ _
          go_wp2_with fail
          go_ret
          refine ⟨_, rfl, ?_, hb1.out.next hb13.out hb1.out.size⟩
          exact hfin.out w13 _ how13.out
end Go.Proofs.Ytahndjgamoojkaa
