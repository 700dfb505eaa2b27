/- The walk of the reference's hurt of layer 20. -/
import Derived.Test.YtahndjgamoojkaaBR07
import Derived.Test.YtahndjgamoojkaaBR18
namespace Go.Proofs.Ytahndjgamoojkaa
open Go.RowKit

theorem apps_next (os : List Op20) {k : Nat} (h : k < os.length) : apps20 (os.take (k + 1)) = apps20 (os.take k) ++ if (os[k]'h).kind = 1 then (os[k]'h).data else [] := by
  unfold apps20
  rw [List.take_succ_eq_append_getElem h, List.flatMap_append]
  simp
theorem apps_drop (os : List Op20) {k : Nat} (h : k < os.length) : apps20 (os.drop k) = (if (os[k]'h).kind = 1 then (os[k]'h).data else []) ++ apps20 (os.drop (k + 1)) := by
  unfold apps20
  rw [List.drop_eq_getElem_cons h, List.flatMap_cons]
theorem apps_le (os : List Op20) (k : Nat) : (apps20 (os.take k)).length ≤ (apps20 os).length := by
  have e : apps20 os = apps20 (os.take k) ++ apps20 (os.drop k) := by unfold apps20; rw [← List.flatMap_append, List.take_append_drop]
  rw [e, List.length_append]
  omega
theorem set_op (P R : List Op20) (o : Op20) (b : List UInt8) : ((P ++ o :: R).flatMap opC).set (P.length * 5 + 3) (strV b) = (P ++ { o with data := b } :: R).flatMap opC := by
  have hl : (P.flatMap opC).length = P.length * 5 := flat_len opC_len P
  rw [List.flatMap_append, List.flatMap_append, List.flatMap_cons, List.flatMap_cons, List.set_append_right _ _ (by omega), hl, show P.length * 5 + 3 - P.length * 5 = 3 by omega]
  rfl
def OpsSPost (w : World) (os : List Op20) (e : Ending) (w' : World) : Prop := ∃ a c, e = .returned (.slice a os.length c) ∧ OpSl w' (.slice a os.length c) os ∧ Below w.heap.size w w'
set_option maxHeartbeats 4000000 in
set_option maxRecDepth 100000 in
theorem refhurt20_any (os : List Op20) (cr : Cr20) (v : Value) (w : World) (hv : OpSl w v os) (hL : os.length ≤ 100000) (hk : -9223372036854775808 ≤ cr.at_ ∧ cr.at_ ≤ 9223372036854775807) (hb0 : 0 ≤ cr.bits) (hb1 : cr.bits ≤ 4294967295) (hod : (apps20 os).length ≤ 1000000000) (hod2 : ∀ o ∈ os, o.data.length ≤ 90000000) :
    Calls Try.prog 40 #[v, crV cr] w (OpsSPost w (hurt20 os cr.burst cr.at_ cr.bits.toNat)) := by
  obtain ⟨A, c, rfl⟩ := hv.form
  obtain ⟨kp, by_, bu, at_, bi⟩ := cr
  unfold crV crC
  simp only at hk hb0 hb1 ⊢
  obtain ⟨W, hW⟩ : ∃ W, w.alloc (.cells [Value.int .i64 kp, .int .i64 by_, .bool bu, .int .i64 at_, .int .u32 bi].toArray 41) = W := ⟨_, rfl⟩
  have hbox := arrAt_new w 41 [Value.int .i64 kp, .int .i64 by_, .bool bu, .int .i64 at_, .int .u32 bi]
  have hbx := Lib.hid ((Below.refl w.heap.size w).alloc (Nat.le_refl _) (.cells [Value.int .i64 kp, .int .i64 by_, .bool bu, .int .i64 at_, .int .u32 bi].toArray 41))
  rw [hW] at hbx hbox
  have hvW := Lib.hid (hv.next hbx.out)
  have hbox' := Lib.hid hbox
  obtain ⟨q0, q1, q2, q3, q4⟩ := five_cells hbox
  obtain ⟨T, hT⟩ : ∃ T, hurt20 os bu at_ bi.toNat = T := ⟨_, rfl⟩
  rw [hT]
  replace hT := Lib.hid hT
  clear hv hbox
  go_enter Try.func40, Try.ntmps40
  go_upto_block 0 with fail
  go_cut [5] from 10 to 28 (fun s5 wx => s5 = .string ⟨(apps20 os).toArray⟩ ∧ Hid (wx = W))
  case first =>
    clear hW
    by_cases h0 : os = []
    · subst h0
      obtain ⟨a, c', e⟩ := hvW.out.nil rfl
      go_wp2_with fail
      refine wp_loop_rounds 1 ?_; rw [rounds_succ]
      go_wp2_with fail
      go_meet
      exact ⟨rfl, Lib.hid rfl⟩
    · obtain ⟨b, off, cc, _, hblt, e, hc⟩ := hvW.out.some opC_len (by decide) h0
      injection e with e1 e2 e3
      subst e1 e3
      replace hc := Lib.hid hc
      clear h0 e2 hT
      go_wp2_with fail
      go_loop [5, 6] (fun s i => ∃ (k : Nat) (l : List UInt8), s = .string ⟨l.toArray⟩ ∧ i = .int .i64 k ∧ k ≤ os.length ∧ l.length ≤ 1000000000 ∧ Hid (l = apps20 (os.take k))) (fun _ i => os.length - (intOf i).toNat)
      case atStart => exact ⟨0, [], rfl, rfl, Nat.zero_le _, by simp, Lib.hid rfl⟩
      case round =>
        obtain ⟨k, l, rfl, rfl, hkk, hll, hl⟩ := hrel
        by_cases hlt : k < os.length
        · have c0 := hc.out k hlt 0 _ (by decide) rfl
          have c3 := hc.out k hlt 3 _ (by decide) rfl
          rw [Nat.add_zero] at c0
          have han := apps_next os hlt
          have hal := apps_le os (k + 1)
          have hdl := hod2 _ (List.getElem_mem hlt)
          rw [← hl.out] at han
          generalize os[k]'hlt = o at c0 c3 han hdl
          unfold strV at c3
          have hkO : (k : Int) < os.length := by omega
          by_cases h1 : o.kind = 1
          · rw [if_pos h1] at han
            have g1 : (o.kind == 1) = true := by simpa using h1
            rw [han, List.length_append] at hal
            replace han := Lib.hid han
            clear h1
            go_wp2_with fail
            exact ⟨⟨k + 1, l ++ o.data, rfl, by go_num, by omega, by rw [List.length_append]; omega, Lib.hid han.out.symm⟩, by simp [intOf]; omega⟩
          · rw [if_neg h1, List.append_nil] at han
            have g1 : (o.kind == 1) = false := by simpa using h1
            replace han := Lib.hid han
            clear h1
            go_wp2_with fail
            exact ⟨⟨k + 1, l, rfl, by go_num, by omega, hll, Lib.hid han.out.symm⟩, by simp [intOf]; omega⟩
        · have hke : ¬ ((k : Int) < os.length) := by omega
          have hl2 := hl.out
          rw [List.take_of_length_le (by omega)] at hl2
          subst hl2
          clear hl
          go_wp2_with fail
          go_meet
          exact ⟨rfl, Lib.hid rfl⟩
  case rest =>
    obtain ⟨rfl, hwx⟩ := hcut
    have hwx2 := hwx.out
    subst hwx2
    clear hwx hW
    obtain ⟨B, hB⟩ : ∃ B, apps20 os = B := ⟨_, rfl⟩
    rw [hB] at hod
    rw [hB]
    cases bu with
    | false =>
      have hTo : Hid (T = os) := Lib.hid (by rw [← hT.out]; unfold hurt20; rw [if_pos (Or.inl rfl)])
      clear hT
      go_wp2_with fail
      go_ret
      refine ⟨A, c, ?_, ?_, hbx.out⟩
      · rw [hTo.out]; rfl
      · rw [hTo.out]; exact hvW.out
    | true =>
      by_cases hBe : B = []
      · have hTo : Hid (T = os) := Lib.hid (by rw [← hT.out]; unfold hurt20; rw [hB, if_pos (Or.inr hBe)])
        clear hT
        subst hBe
        go_wp2_with fail
        go_ret
        refine ⟨A, c, ?_, ?_, hbx.out⟩
        · rw [hTo.out]; rfl
        · rw [hTo.out]; exact hvW.out
      · have hBb : (B == []) = false := by simpa using hBe
        have hBl : 0 < B.length := List.length_pos_iff.2 hBe
        obtain ⟨q, hq⟩ : ∃ q, (at_ % 18446744073709551616) % (8 * (B.length : Int)) = q := ⟨_, rfl⟩
        have hqb : 0 ≤ q ∧ q < 8 * (B.length : Int) := by
          rw [← hq]
          exact ⟨Int.emod_nonneg _ (by omega), Int.emod_lt_of_pos _ (by omega)⟩
        have hT2 : Hid (T = lay20 os (burstB B q bi)) := by
          refine Lib.hid ?_
          rw [← hT.out, ← hq, ← hB]
          unfold hurt20 burstB
          rw [hB, if_neg (by simp [hBe])]
        have hbu := Lib.hid (fun W => refburst18_any B q bi W (by omega) hb0 hb1 (by omega))
        have hBln : (burstB B q bi).length = B.length := burstB_len _ _ _
        generalize burstB B q bi = B2 at hT2 hbu hBln
        have hkp : Hid (∀ V, Below wc.heap.size wc V → (V.cell? ⟨w.heap.size, 3, none⟩ = some (.int .i64 at_) ∧ V.cell? ⟨w.heap.size, 4, none⟩ = some (.int .u32 bi))) := Lib.hid fun V hV => ⟨(hbox'.out.next hV).cell 3, (hbox'.out.next hV).cell 4⟩
        clear hT
        have hw1 : wrap64 (8 * (B.length : Int)) = 8 * (B.length : Int) := IntWalk.wrap64_in _ (by omega)

        have hw3 : IntKind.i64.wrap (8 * (B.length : Int)) = 8 * (B.length : Int) := IntWalk.i64_in _ (by omega)
        have hw2 : IntKind.u64.wrap (8 * (B.length : Int)) = 8 * (B.length : Int) := IntWalk.u64_in _ (by omega)
        obtain ⟨u, hu⟩ : ∃ u, IntKind.u64.wrap at_ = u := ⟨_, rfl⟩
        have hu2 : at_ % 18446744073709551616 = u := by rw [← hu, IntKind.wrap_u64]
        have hw4 : (8 * (B.length : Int)) % 18446744073709551616 = 8 * (B.length : Int) := by omega
        have hub : 0 ≤ u := by rw [← hu, IntKind.wrap_u64]; omega
        have huq : u.tmod (8 * (B.length : Int)) = q := by rw [← hq, ← hu, IntKind.wrap_u64]; exact Int.tmod_eq_emod_of_nonneg (by omega)
        have hnz : ¬ (8 * (B.length : Int) = 0) := by omega
        have hnz2 : (8 * (B.length : Int) == 0) = false := by simp; omega
        have hq1 : IntKind.u64.wrap q = q := IntWalk.u64_in _ (by omega)
        have hq3 : IntKind.i64.wrap q = q := IntWalk.i64_in _ (by omega)
        have hq2 : wrap64 q = q := IntWalk.wrap64_in _ (by omega)

        go_wp2_with fail
        go_region_held3 (fun V => V.cell? ⟨w.heap.size, 3, none⟩ = some (.int .i64 at_) ∧ V.cell? ⟨w.heap.size, 4, none⟩ = some (.int .u32 bi)) (first | exact hkp.out _ hb5.out | exact hkp.out _ ((drawn_drew _).below _))
          (first
            | (go_at_call 57; ((with_reducible refine (hbu.out _).mono ?_); rintro e w5 ⟨rfl, hb5⟩; replace hb5 := Lib.hid (((drawn_drew _).below _).andThen hb5))))
        have hlt5 := hbox'.out.lt
        clear hbu hq hqb hw1 hw2 hw3 hw4 hu hu2 hub huq hnz hnz2 hq1 hq2 hq3 hbox' hkp q0 q1 q2 q3 q4
        have hos0 : os ≠ [] := by rintro rfl; exact hBe hB.symm
        have hv5 := Lib.hid (hvW.out.next hb5.out)
        have hbx5 := Lib.hid (hbx.out.trans (hb5.out.mono (Nat.le_of_lt hlt5)))
        obtain ⟨W5, hW5⟩ : ∃ W, w5 = W := ⟨_, rfl⟩
        have hpt := ((SlOf.next hv5.out ((Below.refl w5.heap.size w5).alloc (Nat.le_refl _) (.cells #[] 27))).part opC_len)
        have hem := ownsRow_empty w5 27 5
        have hsz : w5.heap.size ≤ (w5.alloc (.cells #[] 27)).heap.size := by simp
        have hfl : (os.flatMap opC).length = os.length * 5 := flat_len opC_len os
        replace hpt := Lib.hid hpt
        replace hem := Lib.hid hem
        clear hW5
        go_wp2_with (at_builtin; go_must (refine wpList_append_part rfl _ _ 23 rfl w5.heap.size 27 (.agg #[.int .i64 0, .string ⟨#[]⟩, .string ⟨#[]⟩, .string ⟨#[]⟩, .int .i64 0]) 5 64 Try.underlying23 info_op20 rfl (by decide) _ 0 [] rfl hem.out A os.length c (os.flatMap opC) rfl hfl hpt.out (opC_one _) os.length (Nat.zero_add _) (by unfold maxLen; omega) (by omega) hsz ?_))
        intro a' c' w6 ho1 hb1 _ _
        replace hb1 := Lib.hid (((Below.refl w5.heap.size w5).alloc (Nat.le_refl _) (.cells #[] 27)).trans hb1.out)
        have hsz5 := hb5.out.size
        have hbx6 := Lib.hid (hbx5.out.trans (hb1.out.mono (by omega)))
        have hne : (Value.slice a' os.length c') ≠ .slice none 0 0 := by
          intro e; injection e with _ e _; exact hos0 (List.length_eq_zero_iff.1 e)
        obtain ⟨g, cap, cr, e, ha, hx, hcl, hnc, hcm⟩ := owns_arr ho1.out hne
        injection e with e1 e2 e3
        subst e1 e3
        have hOw : Hid (OwnO w6 w5.heap.size (.slice (some ⟨g, 0, none⟩) os.length c') os) := Lib.hid ho1.out
        have hBg : w5.heap.size ≤ g := (own_set ho1.out 0 (strV []) (by have := List.length_pos_iff.2 hos0; omega)).2.2.2
        have hgw : w.heap.size ≤ g := by omega
        clear ho1 hpt hem hsz hfl ha hx hcl hnc hcm hvW hv5 hb1 hb5 hbx5 hne
        go_wp2_with fail
        go_loopw [5, 8] (fun s i wr => ∃ (P : List Op20) (b : List UInt8), s = .string ⟨b.toArray⟩ ∧ i = .int .i64 P.length ∧ P.length ≤ os.length ∧ b.length = (apps20 (os.drop P.length)).length ∧ b.length ≤ 1000000000 ∧ Hid (P ++ lay20 (os.drop P.length) b = T) ∧ Hid (OwnO wr w5.heap.size (.slice (some ⟨g, 0, none⟩) os.length c') (P ++ os.drop P.length)) ∧ Hid (Below w.heap.size w wr)) (fun _ i _ => os.length - (intOf i).toNat)
        case atStart => exact ⟨[], B2, rfl, rfl, Nat.zero_le _, by rw [List.length_nil, List.drop_zero, hB]; exact hBln, by omega, Lib.hid hT2.out.symm, hOw, hbx6⟩
        case round =>
          obtain ⟨P, b, rfl, rfl, hP, hbl, hbm, hPT, hOr, hbr⟩ := hrel
          by_cases hlt : P.length < os.length
          · have hdr : os.drop P.length = os[P.length] :: os.drop (P.length + 1) := List.drop_eq_getElem_cons hlt
            have had := apps_drop os hlt
            have hdl := hod2 _ (List.getElem_mem hlt)
            rw [had, List.length_append] at hbl
            obtain ⟨R, hR⟩ : ∃ R, os.drop (P.length + 1) = R := ⟨_, rfl⟩
            generalize os[P.length]'hlt = o at hdr had hdl hbl
            rw [hR] at hdr hbl
            have hOr2 := hOr.out
            have hPT2 := hPT.out
            rw [hdr] at hOr2 hPT2
            have hPR : os.length = P.length + (R.length + 1) := by rw [← hR, List.length_drop]; omega
            have hlen : (P ++ o :: R).length = os.length := by rw [List.length_append, List.length_cons, hPR]
            unfold OwnO at hOr2
            rw [hlen] at hOr2
            have hcells := fun t u (ht : t < 5) (h : (opC o)[t]? = some u) => (show wr.cell? ⟨g, P.length * 5 + t, none⟩ = some u from by
              have hsl : OpSl wr (.slice (some ⟨g, 0, none⟩) os.length c') (P ++ o :: R) := slOf_own opC_len (by rw [hlen]; exact hOr2)
              obtain ⟨b0, off, cc, _, _, e, hc⟩ := hsl.some opC_len (by decide) (by simp)
              injection e with e1 e2 e3
              injection e1 with e1
              injection e1 with e1 e4
              subst e1 e4
              have := hc P.length (by simp) t u ht (by simpa using h)
              rwa [Nat.zero_add] at this)
            have c0 := hcells 0 _ (by decide) rfl
            have c3 := hcells 3 _ (by decide) rfl
            rw [Nat.add_zero] at c0
            unfold strV at c3
            clear hcells had
            have hkO : (P.length : Int) < os.length := by omega
            rw [lay20] at hPT2
            by_cases h1 : o.kind = 1
            · rw [if_pos h1] at hPT2 hbl
              have g1 : (o.kind == 1) = true := by simpa using h1
              have hnb : o.data.length ≤ b.length := by omega
              have hnbi : (o.data.length : Int) ≤ b.length := by omega
              have hn0 : (0 : Int) ≤ o.data.length := by omega
              have hos := own_set hOr2 (P.length * 5 + 3) (strV (b.take o.data.length)) (by omega)
              rw [set_op] at hos
              obtain ⟨hos, ⟨u0, hu0⟩, hfz, _⟩ := hos
              have hbb := Lib.hid (hbr.out.setCell (p := ⟨g, P.length * 5 + 3, none⟩) hgw (strV (b.take o.data.length)))
              unfold strV at hos hbb
              replace hos := Lib.hid hos
              replace hPT2 := Lib.hid hPT2
              clear hOr2 h1 hOr hPT hOw hbx6
              have hPl : (P ++ [({ o with data := b.take o.data.length } : Op20)]).length = P.length + 1 := by simp
              have hPT3 := Lib.hid (show (P ++ [({ o with data := b.take o.data.length } : Op20)]) ++ lay20 R (b.drop o.data.length) = T by rw [← hPT2.out]; simp)
              have hOr3 := Lib.hid (show OwnO (wr.setCell ⟨g, P.length * 5 + 3, none⟩ (.string ⟨(b.take o.data.length).toArray⟩)) w5.heap.size (.slice (some ⟨g, 0, none⟩) os.length c') ((P ++ [({ o with data := b.take o.data.length } : Op20)]) ++ R) by
                unfold OwnO
                rw [List.append_assoc, List.singleton_append, List.length_append, List.length_cons, ← hPR]
                exact hos.out)
              clear hPT2 hos
              go_wp2_with fail
              exact ⟨⟨P ++ [({ o with data := b.take o.data.length } : Op20)], b.drop o.data.length, by rw [List.take_of_length_le (by omega)], by rw [hPl]; go_num, by rw [hPl]; omega, by rw [hPl, hR, List.length_drop]; omega, by rw [List.length_drop]; omega, by rw [hPl, hR]; exact hPT3, by rw [hPl, hR]; exact hOr3, hbb⟩, by simp [intOf]; omega⟩
            · rw [if_neg h1, List.length_nil, Nat.zero_add] at hbl
              rw [if_neg h1] at hPT2
              have g1 : (o.kind == 1) = false := by simpa using h1
              have hPT3 := Lib.hid (show (P ++ [o]) ++ lay20 R b = T by simpa using hPT2)
              have hOr3 := Lib.hid (show OwnO wr w5.heap.size (.slice (some ⟨g, 0, none⟩) os.length c') ((P ++ [o]) ++ R) by unfold OwnO; rw [show (P ++ [o]) ++ R = P ++ o :: R by simp, hlen]; exact hOr2)
              have hPl : (P ++ [o]).length = P.length + 1 := by simp
              clear hOr2 hPT2 h1 hOr hPT hOw hbx6
              go_wp2_with fail
              exact ⟨⟨P ++ [o], b, rfl, by rw [hPl]; go_num, by rw [hPl]; omega, by rw [hPl, hR]; exact hbl, hbm, by rw [hPl, hR]; exact hPT3, by rw [hPl, hR]; exact hOr3, hbr⟩, by simp [intOf]; omega⟩
          · have hke : ¬ ((P.length : Int) < os.length) := by omega
            have hOr2 := hOr.out
            have hPT2 := hPT.out
            rw [List.drop_of_length_le (by omega)] at hOr2 hPT2
            rw [List.append_nil] at hOr2
            rw [lay20, List.append_nil] at hPT2
            have hPl : P.length = os.length := by omega
            replace hOr2 := Lib.hid hOr2
            replace hPT2 := Lib.hid hPT2
            clear hOr hPT hOw hbx6
            go_wp2_with fail
            go_ret
            have hTl : T.length = os.length := by rw [← hPT2.out, hPl]
            refine ⟨some ⟨g, 0, none⟩, c', ?_, ?_, hbr.out⟩
            · rw [hTl]; rfl
            · rw [hTl, ← hPT2.out]
              refine slOf_own opC_len (E := 27) (B := w5.heap.size) ?_
              rw [hPl]
              have := hOr2.out
              unfold OwnO at this
              rw [hPl] at this
              exact this
end Go.Proofs.Ytahndjgamoojkaa
