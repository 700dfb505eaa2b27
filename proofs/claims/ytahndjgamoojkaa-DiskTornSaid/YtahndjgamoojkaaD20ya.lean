/- The law DiskTorn of layer 20. -/
import Derived.Test.YtahndjgamoojkaaBR41
import Derived.Test.YtahndjgamoojkaaD20y
import Derived.Deep.RegionHeld3
namespace Go.Proofs.Ytahndjgamoojkaa
open Go.RowKit

set_option maxHeartbeats 4000000 in
set_option maxRecDepth 100000 in
theorem torn_law (t m : List UInt8) (cr : Cr20) (w : World) (ht : t.length ≤ 9223372036854775807) (hm : m.length ≤ 9223372036854775807)
    (hk : -9223372036854775808 ≤ cr.keep ∧ cr.keep ≤ 9223372036854775807) (hb : -9223372036854775808 ≤ cr.bytes ∧ cr.bytes ≤ 9223372036854775807) (hat : -9223372036854775808 ≤ cr.at_ ∧ cr.at_ ≤ 9223372036854775807) (hbi0 : 0 ≤ cr.bits) (hbi1 : cr.bits ≤ 4294967295) :
    Calls Try.prog 6 #[.string ⟨t.toArray⟩, .string ⟨m.toArray⟩, crV cr] w fun e w' => e = .returned (.bool true) ∧ Below w.heap.size w w' := by
  have haw := Lib.hid awake20_any
  obtain ⟨kp, by_, bu, at_, bi⟩ := cr
  unfold crV crC at *
  simp only at *
  by_cases hgt : t.length ≤ 5000 ∧ m.length ≤ 5000
  · obtain ⟨h5, h6⟩ := hgt
    have s1 : ¬ (5000 : Int) < (t.length : Int) := by omega
    have s2 : ¬ (5000 : Int) < (m.length : Int) := by omega
    have bd0 : DkBd dT0 := by unfold DkBd dT0; simp
    have bd1 : DkBd (dT1 t) := by unfold DkBd dT1 oT; simp; omega
    have bd2 : DkBd (dT2 t) := by unfold DkBd dT2; simp; omega
    have bd3 : DkBd (dT3 t m) := by unfold DkBd dT3 oT; simp; omega
    have n0 : (t ++ []).length ≤ 5000 := by simpa using h5
    obtain ⟨F, x, hX, hF1, hF2, hG1, hG2, hx1, hx2⟩ := fall_T3 h5 h6 ⟨kp, by_, bu, at_, bi⟩
    have bdF : DkBd ⟨F, [], -1, false⟩ := ⟨by simp only; omega, by simp, fun f hf => by have := hF2 f hf; omega, by simp⟩
    have hdo := Lib.hid (fun V v (h : DkV V v dT0) => dskdo20_any dT0 (oT t) v V h bd0 (by decide) (by decide) (by decide) ⟨by simp [oT], by simp [oT], by simp only [oT]; omega⟩ (by simp [oT]))
    have hsy := Lib.hid (fun V v (h : DkV V v (dT1 t)) => dsksync20_any (dT1 t) v V h bd1 (by simp [dT1]) (by simp [dT1]) (by simp [dT1]))
    have hdp := Lib.hid (fun V v (h : DkV V v (dT2 t)) => dskdo20_any (dT2 t) (oT m) v V h bd2 (by simp [dT2]) (by simp [dT2]) (by simp [dT2]) ⟨by simp [oT], by simp [oT], by simp only [oT]; omega⟩ (by simp [oT]))
    have hfl := Lib.hid (fun V v (h : DkV V v (dT3 t m)) => dskfall20_any (dT3 t m) ⟨kp, by_, bu, at_, bi⟩ (-1) v V h bd3 hk hb hat hbi0 hbi1 (by simp [dT3, oT, apps20]; omega) (by simp [dT3]) (by simp [dT3]))
    have hge := Lib.hid (fun V v (h : DkV V v ⟨F, [], -1, false⟩) => dskget20_any ⟨F, [], -1, false⟩ [97] v V h bdF)
    rw [do_T0 h5] at hdo
    rw [sync_T1 h5] at hsy
    rw [do_T2 h5 h6] at hdp
    rw [hX] at hfl
    rw [hG1, hG2] at hge
    unfold opV opC strV oT at hdo hdp
    unfold crV crC at hfl
    simp only at hdo hdp hfl
    obtain ⟨a1, b1, c1⟩ := new_in (H := w.heap.size) 41 [Value.int .i64 kp, .int .i64 by_, .bool bu, .int .i64 at_, .int .u32 bi] (Below.refl _ w) (Nat.le_refl _)
    have e1 : (w.alloc (.cells [Value.int .i64 kp, .int .i64 by_, .bool bu, .int .i64 at_, .int .u32 bi].toArray 41)).heap.size = w.heap.size + 1 := by simp
    obtain ⟨a2, b2, c2⟩ := new_in (H := w.heap.size) 25 [Value.slice none 0 0, .slice none 0 0, .int .i64 (-1), .bool false] b1 b1.size
    obtain ⟨W, hW⟩ : ∃ W, (w.alloc (.cells [Value.int .i64 kp, .int .i64 by_, .bool bu, .int .i64 at_, .int .u32 bi].toArray 41)).alloc (.cells [Value.slice none 0 0, .slice none 0 0, .int .i64 (-1), .bool false].toArray 25) = W := ⟨_, rfl⟩
    rw [e1] at a2
    have a3 := a1.next c2
    rw [hW] at a2 a3 b2
    have hg1 := Lib.hid (hdo.out W _ (dkV_mk (fv := .slice none 0 0) (lv := .slice none 0 0) (Or.inl ⟨rfl, none, 0, rfl⟩) (slOf_nil _ _ _)))
    have hbC := Lib.hid a3
    have hbD := Lib.hid a2
    have hbx := Lib.hid b2
    subst hW
    clear hdo a1 b1 c1 a2 b2 c2 a3 e1 bd0 bd1 bd2 bd3 bdF n0 hX hF1 hF2 hG1 hG2 hk hb hat hbi0 hbi1 ht hm
    go_enter Try.func6, Try.ntmps6
    go_wp2_with fail
    (with_reducible refine hg1.out.mono ?_); rintro e w1 ⟨v1, rfl, hd1, hb1⟩
    clear hg1
    unfold dT1 at hd1
    obtain ⟨f1, g1, f1', g1', rfl, hf1, hl1⟩ := dkV_open hd1
    replace hbx := Lib.hid (hbx.out.next hb1 hbx.out.size)
    replace hbD := Lib.hid (hbD.out.next hb1)
    replace hbC := Lib.hid (hbC.out.next hb1)
    obtain ⟨s0, s1, s2, s3⟩ := four_soft hbD.out
    obtain ⟨r0, r1, r2, r3⟩ := four_cells hbD.out
    clear hb1 hd1
    obtain ⟨hB, hbs⟩ := dkBox_set (B := w.heap.size) (x := dT1 t) hbD.out hf1 hl1 (by omega)
    replace hbC := Lib.hid (four_far (g' := w.heap.size + 1) hbC.out (.slice f1 ([] : List Fl20).length g1) (.slice f1' [oT t].length g1') (.int .i64 (-1)) (.bool false) (by omega))
    replace hbx := Lib.hid (hbx.out.trans hbs)
    have hg1 := Lib.hid (hsy.out _ _ hB.val)
    replace hB := Lib.hid hB
    clear hbs hsy hf1 hl1 hbD
    unfold dkC dT1 at hg1
    simp only [List.length_cons, List.length_nil, Nat.zero_add] at hg1
    go_wp2_with fail
    (with_reducible refine hg1.out.mono ?_); rintro e w3 ⟨v3, rfl, hd3, hb3⟩
    clear hg1 s0 s1 s2 s3 r0 r1 r2 r3
    unfold dT2 at hd3
    obtain ⟨f3, g3, f3', g3', rfl, hf3, hl3⟩ := dkV_open hd3
    replace hbx := Lib.hid (hbx.out.next hb3 hbx.out.size)
    have hbD := Lib.hid (hB.out.1.next hb3)
    replace hbC := Lib.hid (hbC.out.next hb3)
    unfold dkC at hbD
    obtain ⟨s0, s1, s2, s3⟩ := four_soft hbD.out
    obtain ⟨r0, r1, r2, r3⟩ := four_cells hbD.out
    clear hb3 hd3 hB
    obtain ⟨hB, hbs⟩ := dkBox_set (B := w.heap.size) (x := dT2 t) hbD.out hf3 hl3 (by omega)
    replace hbC := Lib.hid (four_far (g' := w.heap.size + 1) hbC.out (.slice f3 [(([97] : List UInt8), t)].length g3) (.slice f3' ([] : List Op20).length g3') (.int .i64 (-1)) (.bool false) (by omega))
    replace hbx := Lib.hid (hbx.out.trans hbs)
    have hg1 := Lib.hid (hdp.out _ _ hB.val)
    replace hB := Lib.hid hB
    clear hbs hdp hf3 hl3 hbD
    unfold dkC dT2 at hg1
    simp only [List.length_cons, List.length_nil, Nat.zero_add] at hg1
    go_wp2_with fail
    (with_reducible refine hg1.out.mono ?_); rintro e w5 ⟨v5, rfl, hd5, hb5⟩
    clear hg1 s0 s1 s2 s3 r0 r1 r2 r3
    unfold dT3 at hd5
    obtain ⟨f5, g5, f5', g5', rfl, hf5, hl5⟩ := dkV_open hd5
    replace hbx := Lib.hid (hbx.out.next hb5 hbx.out.size)
    have hbD := Lib.hid (hB.out.1.next hb5)
    replace hbC := Lib.hid (hbC.out.next hb5)
    unfold dkC at hbD
    obtain ⟨s0, s1, s2, s3⟩ := four_soft hbD.out
    obtain ⟨r0, r1, r2, r3⟩ := four_cells hbD.out
    clear hb5 hd5 hB
    obtain ⟨t0, t1, t2, t3, t4⟩ := five_cells hbC.out
    obtain ⟨hB, hbs⟩ := dkBox_set (B := w.heap.size) (x := dT3 t m) hbD.out hf5 hl5 (by omega)
    replace hbC := Lib.hid (four_far (g' := w.heap.size + 1) hbC.out (.slice f5 [(([97] : List UInt8), t)].length g5) (.slice f5' [oT m].length g5') (.int .i64 (-1)) (.bool false) (by omega))
    replace hbx := Lib.hid (hbx.out.trans hbs)
    have hg1 := Lib.hid (hfl.out _ _ hB.val)
    clear hB hbs hfl hf5 hl5 hbD
    unfold dkC dT3 at hg1
    simp only [List.length_cons, List.length_nil, Nat.zero_add] at hg1
    go_wp2_with fail
    (with_reducible refine hg1.out.mono ?_); rintro e w7 ⟨v7, rfl, hd7, hb7⟩
    clear hg1 s0 s1 s2 s3 r0 r1 r2 r3 t0 t1 t2 t3 t4
    obtain ⟨f7, g7, f7', g7', rfl, hf7, hl7⟩ := dkV_open hd7
    replace hbx := Lib.hid (hbx.out.next hb7 hbx.out.size)
    replace hbC := Lib.hid (hbC.out.next hb7)
    clear hb7 hd7
    have hn5 := arrAt_new w7 25 [Value.slice none 0 0, .slice none 0 0, .int .i64 0, .bool false]
    obtain ⟨u0, u1, u2, u3⟩ := four_cells hn5
    obtain ⟨s0, s1, s2, s3⟩ := four_soft hn5
    have hba := (Below.refl w7.heap.size w7).alloc (Nat.le_refl _) (.cells [Value.slice f7 F.length g7, .slice f7' ([] : List Op20).length g7', .int .i64 (-1), .bool false].toArray 25)
    have hX : DkBox _ w7.heap.size (.slice f7 F.length g7) (.slice f7' ([] : List Op20).length g7') ⟨F, [], -1, false⟩ := ⟨arrAt_new w7 25 [.slice f7 F.length g7, .slice f7' ([] : List Op20).length g7', .int .i64 (-1), .bool false], hf7.next hba, hl7.next hba⟩
    have hg1 := Lib.hid (hge.out _ _ hX.val)
    replace hbC := Lib.hid (hbC.out.next hba)
    replace hbx := Lib.hid (hbx.out.trans (hba.mono hbx.out.size))
    clear hX hge hn5 hf7 hl7 hba
    unfold dkC at hg1
    simp only [List.length_nil] at hg1
    go_wp2_with fail
    refine hg1.out.mono ?_; rintro e w8 ⟨rfl, hb8⟩
    replace hbx := Lib.hid (hbx.out.next hb8 hbx.out.size)
    replace hbC := Lib.hid (hbC.out.next hb8)
    clear hb8 hg1 u0 u1 u2 u3 s0 s1 s2 s3
    obtain ⟨S, hS⟩ : ∃ S, t ++ x = S := ⟨_, rfl⟩
    rw [hS]
    have hSl : S.length ≤ t.length + x.length ∧ t.length + x.length ≤ S.length := by rw [← hS, List.length_append]; exact ⟨Nat.le_refl _, Nat.le_refl _⟩
    have hSt : S.take t.length = t := by rw [← hS]; simp
    have hSx : Hid (∀ i, S[t.length + i]? = x[i]?) := Lib.hid (by intro i; rw [← hS, List.getElem?_append_right (by omega)]; congr 1; omega)
    clear hS
    have v1 : ¬ (S.length : Int) < (t.length : Int) := by omega
    have v2 : ¬ (t.length : Int) + (m.length : Int) < (S.length : Int) := by omega
    have v3 : IntKind.i64.wrap ((t.length : Int) + (m.length : Int)) = (t.length : Int) + (m.length : Int) := IntWalk.i64_in _ (by omega)
    have v4 : (t.length : Int) ≤ (S.length : Int) := by omega
    have d1 : decide (S.length < t.length) = false := decide_eq_false (by omega)
    have d2 : decide ((t.length : Int) + (m.length : Int) < (S.length : Int)) = false := decide_eq_false (by omega)
    have d3 : decide ((S.length : Int) < (t.length : Int)) = false := decide_eq_false (by omega)
    obtain ⟨P, hP⟩ : ∃ P : Nat, Hid (∀ i, i < x.length → x[i]? ≠ m[i]? → bu = true ∧ P ≤ i ∧ i ≤ P + 4) := by
      rcases hx2 with h | ⟨hbu, p, hp⟩
      · exact ⟨0, Lib.hid fun i hi hn => absurd (h i hi) hn⟩
      · refine ⟨p / 8, Lib.hid fun i hi hn => ?_⟩
        obtain ⟨g1, g2⟩ := hp i hi hn
        exact ⟨hbu, g1, by omega⟩
    clear hx2
    go_wp2_with fail
    go_loopw [15, 16, 17] (fun a b c wr => ∃ (f l : Int) (k : Nat), a = .int .i64 f ∧ b = .int .i64 l ∧ c = .int .i64 (k : Int) ∧ (t.length ≤ k ∧ k ≤ S.length) ∧ (-1 ≤ f ∧ f ≤ 10000 ∧ -1 ≤ l ∧ l ≤ 10000) ∧ Hid (f < 0 ∨ (bu = true ∧ f ≤ l ∧ l ≤ f + 4 ∧ (t.length + P : Nat) ≤ f ∧ l ≤ (t.length + P + 4 : Nat) ∧ l < k)) ∧ Drawn w8 wr) (fun _ _ c _ => S.length - (intOf c).toNat)
    case atStart => exact ⟨-1, -1, t.length, rfl, rfl, rfl, ⟨Nat.le_refl _, by omega⟩, by omega, Lib.hid (Or.inl (by decide)), Drawn.refl _⟩
    case round =>
      obtain ⟨f, l, k, rfl, rfl, rfl, ⟨hk0, hk1⟩, hfl, hv, n0, rfl⟩ := hrel
      by_cases hlt : k < S.length
      · obtain ⟨i, hi⟩ : ∃ i : Nat, Hid (k = t.length + i) := ⟨k - t.length, Lib.hid (by omega)⟩
        have hix : i < x.length := by have := hi.out; omega
        have g0 : (k : Int) < (S.length : Int) := by omega
        have g1 : (0 : Int) ≤ (k : Int) := by omega
        have g2 : IntKind.i64.wrap ((k : Int) - (t.length : Int)) = (i : Int) := by rw [show (k : Int) - (t.length : Int) = (i : Int) by have := hi.out; omega]; exact IntWalk.i64_in _ (by omega)
        have g3 : (i : Int) < (m.length : Int) := by omega
        have g5 : IntKind.i64.wrap ((k : Int) + 1) = ((k + 1 : Nat) : Int) := by rw [show (k : Int) + 1 = ((k + 1 : Nat) : Int) by omega]; exact IntWalk.i64_in _ (by omega)
        have g8 : bt S k = bt x i := by
          have := hSx.out i
          rw [hi.out]
          unfold bt
          simp only [List.getD, this]
        by_cases he : x[i]? = m[i]?
        · have g4 : (bt S k == bt m i) = true := by
            rw [g8]
            unfold bt
            simp only [List.getD, he]
            simp
          clear g8
          go_wp2_with fail
          go_region_held3 (fun _ => True) (first | trivial) (fail)
          go_wp2_with fail
          all_goals exact ⟨⟨f, l, k + 1, rfl, rfl, by first | rfl | go_num, ⟨by omega, by omega⟩, hfl, Lib.hid (hv.out.imp id fun ⟨q1, q2, q3, q4, q5, q6⟩ => ⟨q1, q2, q3, q4, q5, by omega⟩), ⟨_, rfl⟩⟩, by simp [intOf]; omega⟩
        · obtain ⟨q1, q2, q3⟩ := hP.out i hix he
          replace q1 := Lib.hid q1
          have g4 : (bt S k == bt m i) = false := by
            rw [g8]
            unfold bt
            have hxi := List.getElem?_eq_getElem hix
            have hmi := List.getElem?_eq_getElem (show i < m.length by omega)
            rw [hxi, hmi] at he
            simp only [List.getD, hxi, hmi]
            simp only [Option.getD_some, beq_eq_false_iff_ne, ne_eq]
            intro hh
            exact he (congrArg some (UInt8.toNat_inj.1 (by omega)))
          clear g8
          by_cases hf : f < 0
          · go_wp2_with fail
            go_region_held3 (fun _ => True) (first | trivial) (fail)
            go_wp2_with fail
            all_goals exact ⟨⟨k, k, k + 1, rfl, rfl, by first | rfl | go_num, ⟨by omega, by omega⟩, by omega, Lib.hid (Or.inr ⟨q1.out, by omega, by omega, by have := hi.out; omega, by have := hi.out; omega, by omega⟩), ⟨_, rfl⟩⟩, by simp [intOf]; omega⟩
          · obtain ⟨-, y2, y3, y4, y5, y6⟩ := hv.out.resolve_left hf
            go_wp2_with fail
            go_region_held3 (fun _ => True) (first | trivial) (fail)
            go_wp2_with fail
            all_goals exact ⟨⟨f, k, k + 1, rfl, rfl, by first | rfl | go_num, ⟨by omega, by omega⟩, by omega, Lib.hid (Or.inr ⟨q1.out, by omega, by have := hi.out; omega, y4, by have := hi.out; omega, by omega⟩), ⟨_, rfl⟩⟩, by simp [intOf]; omega⟩
      · have g0 : ¬ (k : Int) < (S.length : Int) := by omega
        have hdr : Hid (Below w8.heap.size w8 (w8.drewN n0)) := Lib.hid ((show Drawn w8 (w8.drewN n0) from ⟨n0, rfl⟩).below _)
        by_cases hf : f < 0
        · go_wp2_with fail
          refine (haw.out _).mono ?_; rintro e w9 ⟨rfl, hb9⟩
          go_wp2_with fail
          go_ret
          exact ⟨rfl, hbx.out.next (hdr.out.andThen hb9) hbx.out.size⟩
        · obtain ⟨y1, y2, y3, y4, y5, y6⟩ := hv.out.resolve_left hf
          subst y1
          have z1 : IntKind.i64.wrap (l - f) = l - f := IntWalk.i64_in _ (by omega)
          have z2 : l - f < 5 := by omega
          go_wp2_with fail
          refine (haw.out _).mono ?_; rintro e w9 ⟨rfl, hb9⟩
          obtain ⟨t0, t1, t2, t3, t4⟩ := five_cells (hbC.out.next (hdr.out.andThen hb9))
          go_wp2_with fail
          go_ret
          exact ⟨rfl, hbx.out.next (hdr.out.andThen hb9) hbx.out.size⟩
  · have hbx := (Below.refl w.heap.size w).alloc (Nat.le_refl _) (.cells [Value.int .i64 kp, .int .i64 by_, .bool bu, .int .i64 at_, .int .u32 bi].toArray 41)
    by_cases h5 : (5000 : Int) < (t.length : Int)
    · go_enter Try.func6, Try.ntmps6
      go_wp2_with fail
      refine (haw.out _).mono ?_; rintro e w2 ⟨rfl, hb2⟩
      go_wp2_with fail
      go_ret
      exact ⟨rfl, hbx.next hb2 hbx.size⟩
    · have h6 : (5000 : Int) < (m.length : Int) := by omega
      go_enter Try.func6, Try.ntmps6
      go_wp2_with fail
      refine (haw.out _).mono ?_; rintro e w2 ⟨rfl, hb2⟩
      go_wp2_with fail
      go_ret
      exact ⟨rfl, hbx.next hb2 hbx.size⟩
end Go.Proofs.Ytahndjgamoojkaa
