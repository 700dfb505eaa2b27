/- Layer 21, the reference: answers as bytes. -/
import Derived.Test.YtpfcamebkcengaaR21p
import Derived.Test.YtpfcamebkcengaaD21f
namespace Go.Proofs.Ytpfcamebkcengaa
open Go.RowKit

theorem ClLn.next {w w' : World} {x : Cl21} (h : ClLn w x) (hb : Below w.heap.size w w') : ClLn w' x := { h with sl := h.sl.next hb }
/-- An answer that can be read, and whose parts aren't long. -/
structure AnLn (w : World) (a : An21) : Prop where
  c1 : -9223372036854775808 ≤ a.code
  c2 : a.code ≤ 9223372036854775807
  new1 : -9223372036854775808 ≤ a.new
  new2 : a.new ≤ 9223372036854775807
  ep1 : -9223372036854775808 ≤ a.epoch
  ep2 : a.epoch ≤ 9223372036854775807
  cs : SlOf 7 clC w (.slice a.ca a.clusters.length a.cc) a.clusters
  cn : a.clusters.length ≤ 9223372036854775807
  cb : ∀ y ∈ a.clusters, ClLn w y
  ct : (a.clusters.flatMap cl21).length ≤ 140737488355328
  es : SlOf 7 enC w (.slice a.ea a.entries.length a.ec) a.entries
  en : a.entries.length ≤ 9223372036854775807
  eb : ∀ y ∈ a.entries, EnLn y 140737488355000
  et : (a.entries.flatMap ent21).length ≤ 140737488355328
  cu : a.cursor.length ≤ 140737488355000
  cnt : ∀ n ∈ [a.n0, a.n1, a.n2, a.n3, a.n4], -9223372036854775808 ≤ n ∧ n ≤ 9223372036854775807
set_option maxHeartbeats 8000000 in
set_option maxRecDepth 100000 in
theorem rans_any (a : An21) (w : World) (hx : AnLn w a) :
    Calls Try.prog 31 #[anV a] w (StrW w (ans21 a)) := by
  have hb0 := Lib.hid ((Below.refl w.heap.size w).alloc (Nat.le_refl _) (.cells (anC a).toArray 57))
  have hK := Lib.hid (arrAt_new w 57 (anC a))
  obtain ⟨co, ne, ep, cs, es, cu, n0, n1, n2, n3, n4, ca, cc, ea, ec⟩ := a
  obtain ⟨y1, y2, a1, a2, b1, b2, q1, f1, p1, m1, q2, f2, p2, m2, l1, cn⟩ := hx
  simp only at y1 y2 a1 a2 b1 b2 q1 f1 p1 m1 q2 f2 p2 m2 l1 cn
  have hsl := Lib.hid (fun V (hb : Below w.heap.size w V) => (⟨q1.next hb, q2.next hb⟩ : SlOf 7 clC V (.slice ca cs.length cc) cs ∧ SlOf 7 enC V (.slice ea es.length ec) es))
  have hwc : IntKind.i64.wrap co = co := IntWalk.i64_in _ (by omega)
  have tc := Lib.hid (fun W => rint_any co W y1 y2)
  have tn := Lib.hid (fun W => rint_any ne W a1 a2)
  have te := Lib.hid (fun W => rint_any ep W b1 b2)
  have t1 := Lib.hid (fun W => rint_any cs.length W (by omega) (by omega))
  have t2 := Lib.hid (fun W => rint_any es.length W (by omega) (by omega))
  have t3 := Lib.hid (fun W => rtext_any cu W (by omega))
  have mc := (int_len_bd y1 y2).2
  have mn := (int_len_bd a1 a2).2
  have me := (int_len_bd b1 b2).2
  have m4 := (int_len_bd (n := (cs.length : Int)) (by omega) (by omega)).2
  have m5 := (int_len_bd (n := (es.length : Int)) (by omega) (by omega)).2
  have m6 := text_len_big cu l1
  replace p1 := Lib.hid p1
  replace p2 := Lib.hid p2
  replace cn := Lib.hid cn
  obtain ⟨O, hO⟩ : ∃ O, ans21 ⟨co, ne, ep, cs, es, cu, n0, n1, n2, n3, n4, ca, cc, ea, ec⟩ = O := ⟨_, rfl⟩
  rw [hO]
  unfold ans21 rest21 at hO
  unfold anV
  unfold anC at *
  simp only at *
  obtain ⟨zc, hzc⟩ : ∃ y, int21 co = y := ⟨_, rfl⟩
  rw [hzc] at tc mc hO
  clear hzc
  obtain ⟨zn, hzn⟩ : ∃ y, int21 ne = y := ⟨_, rfl⟩
  rw [hzn] at tn mn hO
  clear hzn
  obtain ⟨ze, hze⟩ : ∃ y, int21 ep = y := ⟨_, rfl⟩
  rw [hze] at te me hO
  clear hze
  obtain ⟨z1, hz1⟩ : ∃ y, int21 (cs.length : Int) = y := ⟨_, rfl⟩
  rw [hz1] at t1 m4 hO
  clear hz1
  obtain ⟨z2, hz2⟩ : ∃ y, int21 (es.length : Int) = y := ⟨_, rfl⟩
  rw [hz2] at t2 m5 hO
  clear hz2
  obtain ⟨z3, hz3⟩ : ∃ y, text21 cu = y := ⟨_, rfl⟩
  rw [hz3] at t3 m6 hO
  clear hz3
  clear q1 q2 y1 y2 a1 a2 b1 b2
  go_enter Try.func31, Try.ntmps31
  go_upto_region 1 with fail
  refine hide_world (K := fun a w' => Code.wp _ _ _ a w') (R := fun W => ArrAt W w.heap.size 57 [.int .i64 co, .int .i64 ne, .int .i64 ep, .slice ca cs.length cc, .slice ea es.length ec, .string ⟨cu.toArray⟩, .int .i64 n0, .int .i64 n1, .int .i64 n2, .int .i64 n3, .int .i64 n4] ∧ Below w.heap.size w W) ⟨hK.out, hb0.out⟩ ?_
  intro W2 hW2
  clear hK hb0
  obtain ⟨hK, hb⟩ := hW2.out
  have hcell := fun i => hK.cell i
  have c0 := hcell 0
  have c1 := hcell 1
  have c2 := hcell 2
  have c3 := hcell 3
  have c4 := hcell 4
  have c5 := hcell 5
  simp only [List.getElem?_cons_zero, List.getElem?_cons_succ] at c0 c1 c2 c3 c4 c5
  have hkp := Lib.hid (fun V (hb : Below W2.heap.size W2 V) i => (hK.next hb).cell i)
  replace hb := Lib.hid hb
  clear hcell hK hW2
  go_wp2_with fail
  refine (tc.out _).mono ?_
  rintro e w3 ⟨rfl, bb⟩
  replace hb := Lib.hid (hb.out.trans (bb.mono hb.out.size))
  replace hkp := Lib.hid (fun V (hv : Below w3.heap.size w3 V) i => hkp.out V (bb.trans (hv.mono bb.size)) i)
  clear c0 c1 c2 c3 c4 c5 bb tc
  have c0 := hkp.out _ (Below.refl _ _) 0
  have c1 := hkp.out _ (Below.refl _ _) 1
  have c2 := hkp.out _ (Below.refl _ _) 2
  have c3 := hkp.out _ (Below.refl _ _) 3
  simp only [List.getElem?_cons_zero, List.getElem?_cons_succ] at c0 c1 c2 c3
  by_cases hco : ¬ co = 0
  · rw [if_neg hco, List.append_nil] at hO
    have hcb : (co == 0) = false := by simpa using hco
    replace hO := Lib.hid hO
    go_wp2_with fail
    go_ret
    exact ⟨ret_str hO.out, hb.out⟩
  replace hco : co = 0 := Decidable.not_not.1 hco
  rw [if_pos hco] at hO
  subst hco
  replace hO := Lib.hid hO
  have a1 : ¬ 9223372036854775807 < zc.length + zn.length := by omega
  have a2 : ¬ 9223372036854775807 < zc.length + zn.length + ze.length := by omega
  have a3 : ¬ 9223372036854775807 < zc.length + (zn.length + ze.length) + z1.length := by omega
  go_wp2_with fail
  go_region_held3 (fun W => W.cell? ⟨w.heap.size, 1, none⟩ = some (.int .i64 ne) ∧ W.cell? ⟨w.heap.size, 2, none⟩ = some (.int .i64 ep) ∧ W.cell? ⟨w.heap.size, 3, none⟩ = some (.slice ca cs.length cc)) (first | exact ⟨hkp.out _ b3.out 1, hkp.out _ b3.out 2, hkp.out _ b3.out 3⟩ | exact ⟨hkp.out _ b2.out 1, hkp.out _ b2.out 2, hkp.out _ b2.out 3⟩ | exact ⟨hkp.out _ b1.out 1, hkp.out _ b1.out 2, hkp.out _ b1.out 3⟩ | exact ⟨hkp.out _ ((drawn_drew _).below _) 1, hkp.out _ ((drawn_drew _).below _) 2, hkp.out _ ((drawn_drew _).below _) 3⟩) (first
    | (go_at_call 17; ((with_reducible refine (tn.out _).mono ?_); rintro e w4 ⟨rfl, bb⟩; have b1 := Lib.hid (((drawn_drew w3).below w3.heap.size).andThen bb); clear bb))
    | (go_at_call 17; ((with_reducible refine (te.out _).mono ?_); rintro e w5 ⟨rfl, bb⟩; have b2 := Lib.hid (b1.out.andThen bb); clear bb))
    | (go_at_call 17; ((with_reducible refine (t1.out _).mono ?_); rintro e w6 ⟨rfl, bb⟩; have b3 := Lib.hid (b2.out.andThen bb); clear bb)))
  obtain ⟨A0, hA0⟩ : ∃ A0, zc ++ (zn ++ (ze ++ z1)) = A0 := ⟨_, rfl⟩
  have l0 : A0.length ≤ 40 := by rw [← hA0]; simp only [List.length_append]; omega
  replace hA0 := Lib.hid hA0
  replace hb := Lib.hid (hb.out.trans (b3.out.mono hb.out.size))
  replace hkp := Lib.hid (fun V (hv : Below w6.heap.size w6 V) i => hkp.out V (b3.out.trans (hv.mono b3.out.size)) i)
  clear b1 b2 b3 c0 c1 c2 c3 a1 a2 a3 mn me m4 mc tn te t1
  go_wp2_with fail
  go_loopw [3, 4] (fun a b wr => ∃ (j : Nat) (p : List UInt8), b = .int .i64 (j : Int) ∧ a = .string ⟨p.toArray⟩ ∧ j ≤ cs.length ∧ p.length ≤ A0.length + 140737488355328 ∧ Hid (p = A0 ++ (cs.take j).flatMap cl21) ∧ Hid (Below w6.heap.size w6 wr)) (fun a b _ => cs.length - (intOf b).toNat)
  case atStart => exact ⟨0, A0, rfl, by rw [← hA0.out], Nat.zero_le _, by omega, Lib.hid (by rw [List.take_zero, List.flatMap_nil, List.append_nil]), Lib.hid (Below.refl _ _)⟩
  case round =>
    obtain ⟨j, p, rfl, rfl, hj, hpl, hp, hbr⟩ := hrel
    have x1 := hkp.out _ hbr.out 3
    simp only [List.getElem?_cons_zero, List.getElem?_cons_succ] at x1
    by_cases hlt : j < cs.length
    · have h0 : cs ≠ [] := by intro e; rw [e] at hlt; simp at hlt
      have hsl2 := hsl.out _ (hb.out.trans (hbr.out.mono hb.out.size))
      obtain ⟨b1, off1, cc1, _, hblt1, e, hc1⟩ := hsl2.1.some clC_len (by decide) h0
      injection e with e1 e2 e3
      subst e1 e3
      clear e2
      have hj0 : (0 : Int) ≤ (j : Int) := by omega
      have hjL : (j : Int) < (cs.length : Int) := by omega
      have u0 := hc1 j hlt 0 _ (by decide) rfl
      have u1 := hc1 j hlt 1 _ (by decide) rfl
      have u2 := hc1 j hlt 2 _ (by decide) rfl
      have u3 := hc1 j hlt 3 _ (by decide) rfl
      have u4 := hc1 j hlt 4 _ (by decide) rfl
      have u5 := hc1 j hlt 5 _ (by decide) rfl
      have u6 := hc1 j hlt 6 _ (by decide) rfl
      rw [Nat.add_zero] at u0
      have hy := p1.out _ (List.getElem_mem hlt)
      obtain ⟨ht1, ht2⟩ := flat_step cl21 cs j hlt
      generalize cs[j]'hlt = y at u0 u1 u2 u3 u4 u5 u6 hy ht1 ht2
      have hcall := Lib.hid (fun W (hv : Below w.heap.size w W) => rcluster_any y W (hy.next hv))
      have hnx := Lib.hid (show p ++ cl21 y = A0 ++ (cs.take (j + 1)).flatMap cl21 by rw [hp.out, ht1, List.append_assoc])
      have hpl2 : p.length + (cl21 y).length ≤ A0.length + 140737488355328 := by
        have := congrArg List.length hp.out
        rw [List.length_append] at this
        omega
      obtain ⟨Y, hY⟩ : ∃ Y, cl21 y = Y := ⟨_, rfl⟩
      rw [hY] at hcall hnx hpl2
      have hov : ¬ 9223372036854775807 < p.length + Y.length := by omega
      obtain ⟨⟨f, g⟩, ms, fe, ne2, sc, rd, ma, mc⟩ := y
      unfold clV at hcall
      unfold clC at hcall
      simp only at hcall u0 u1 u2 u3 u4 u5 u6
      clear hsl2 hc1 h0 ht1 ht2 hy hY hp
      go_wp2_with fail
      refine (hcall.out _ (hb.out.trans (hbr.out.mono hb.out.size))).mono ?_
      rintro e w7 ⟨rfl, bb⟩
      have hb7 := Lib.hid (hbr.out.trans (bb.mono hbr.out.size))
      clear bb
      go_wp2_with fail
      exact ⟨⟨j + 1, p ++ Y, by go_num, by simp, by omega, by rw [List.length_append]; exact hpl2, hnx, hb7⟩, by simp [intOf]; omega⟩
    · have hjL : ¬ (j : Int) < (cs.length : Int) := by omega
      have hp2 := hp.out
      rw [List.take_of_length_le (by omega)] at hp2
      replace hp2 := Lib.hid hp2
      clear hp
      have hkc := hkp.out _ hbr.out 4
      simp only [List.getElem?_cons_zero, List.getElem?_cons_succ] at hkc
      have hov : ¬ 9223372036854775807 < p.length + z2.length := by omega
      go_wp2_with fail
      refine (t2.out _).mono ?_
      rintro e w7 ⟨rfl, bb⟩
      replace hbr := Lib.hid (hbr.out.trans (bb.mono hbr.out.size))
      obtain ⟨A1, hA1⟩ : ∃ A, p ++ z2 = A := ⟨_, rfl⟩
      have l1 : A1.length ≤ 140737488355500 := by rw [← hA1, List.length_append]; omega
      replace hp2 := Lib.hid (show A0 ++ ((cs.flatMap cl21) ++ z2) = A1 by rw [← hA1, hp2.out, List.append_assoc])
      have hA1q := hp2
      clear hp2 bb hkc x1 hpl t2 hj hlt hjL
      go_wp2_with fail
      clear hov
      try rw [hA1]
      replace hA1 := Lib.hid hA1
      go_wp2_with fail
      go_loopw [3, 5] (fun a b wr => ∃ (j : Nat) (p : List UInt8), b = .int .i64 (j : Int) ∧ a = .string ⟨p.toArray⟩ ∧ j ≤ es.length ∧ p.length ≤ A1.length + 140737488355328 ∧ Hid (p = A1 ++ (es.take j).flatMap ent21) ∧ Hid (Below w6.heap.size w6 wr)) (fun a b _ => es.length - (intOf b).toNat)
      case atStart => exact ⟨0, A1, rfl, by rw [← hA1.out], Nat.zero_le _, by omega, Lib.hid (by rw [List.take_zero, List.flatMap_nil, List.append_nil]), hbr⟩
      case round =>
        obtain ⟨j, p, rfl, rfl, hj, hpl, hp, hbr⟩ := hrel
        have x1 := hkp.out _ hbr.out 4
        simp only [List.getElem?_cons_zero, List.getElem?_cons_succ] at x1
        by_cases hlt : j < es.length
        · have h0 : es ≠ [] := by intro e; rw [e] at hlt; simp at hlt
          have hsl2 := hsl.out _ (hb.out.trans (hbr.out.mono hb.out.size))
          obtain ⟨b1, off1, cc1, _, hblt1, e, hc1⟩ := hsl2.2.some enC_len (by decide) h0
          injection e with e1 e2 e3
          subst e1 e3
          clear e2
          have hj0 : (0 : Int) ≤ (j : Int) := by omega
          have hjL : (j : Int) < (es.length : Int) := by omega
          have u0 := hc1 j hlt 0 _ (by decide) rfl
          have u1 := hc1 j hlt 1 _ (by decide) rfl
          have u2 := hc1 j hlt 2 _ (by decide) rfl
          have u3 := hc1 j hlt 3 _ (by decide) rfl
          have u4 := hc1 j hlt 4 _ (by decide) rfl
          have u5 := hc1 j hlt 5 _ (by decide) rfl
          have u6 := hc1 j hlt 6 _ (by decide) rfl
          rw [Nat.add_zero] at u0
          have hy := p2.out _ (List.getElem_mem hlt)
          obtain ⟨ht1, ht2⟩ := flat_step ent21 es j hlt
          generalize es[j]'hlt = y at u0 u1 u2 u3 u4 u5 u6 hy ht1 ht2
          have hcall := Lib.hid (fun W (_ : Below w.heap.size w W) => rentry_any y W hy)
          have hnx := Lib.hid (show p ++ ent21 y = A1 ++ (es.take (j + 1)).flatMap ent21 by rw [hp.out, ht1, List.append_assoc])
          have hpl2 : p.length + (ent21 y).length ≤ A1.length + 140737488355328 := by
            have := congrArg List.length hp.out
            rw [List.length_append] at this
            omega
          obtain ⟨Y, hY⟩ : ∃ Y, ent21 y = Y := ⟨_, rfl⟩
          rw [hY] at hcall hnx hpl2
          have hov : ¬ 9223372036854775807 < p.length + Y.length := by omega
          obtain ⟨⟨f, g⟩, tt, lk, by_, sm, sg⟩ := y
          unfold enV at hcall
          unfold enC at hcall
          simp only at hcall u0 u1 u2 u3 u4 u5 u6
          clear hsl2 hc1 h0 ht1 ht2 hy hY hp
          go_wp2_with fail
          refine (hcall.out _ (hb.out.trans (hbr.out.mono hb.out.size))).mono ?_
          rintro e w7 ⟨rfl, bb⟩
          have hb7 := Lib.hid (hbr.out.trans (bb.mono hbr.out.size))
          clear bb
          go_wp2_with fail
          exact ⟨⟨j + 1, p ++ Y, by go_num, by simp, by omega, by rw [List.length_append]; exact hpl2, hnx, hb7⟩, by simp [intOf]; omega⟩
        · have hjL : ¬ (j : Int) < (es.length : Int) := by omega
          have hp2 := hp.out
          rw [List.take_of_length_le (by omega)] at hp2
          replace hp2 := Lib.hid hp2
          clear hp
          have hkc := hkp.out _ hbr.out 5
          simp only [List.getElem?_cons_zero, List.getElem?_cons_succ] at hkc
          have hov : ¬ 9223372036854775807 < p.length + z3.length := by omega
          go_wp2_with fail
          refine (t3.out _).mono ?_
          rintro e w7 ⟨rfl, bb⟩
          replace hbr := Lib.hid (hbr.out.trans (bb.mono hbr.out.size))
          obtain ⟨A2, hA2⟩ : ∃ A, p ++ z3 = A := ⟨_, rfl⟩
          have l2 : A2.length ≤ 500000000000000 := by rw [← hA2, List.length_append]; omega
          replace hp2 := Lib.hid (show A1 ++ ((es.flatMap ent21) ++ z3) = A2 by rw [← hA2, hp2.out, List.append_assoc])
          have hA2q := hp2
          clear hp2 bb hkc x1 hpl t3 hj hlt hjL
          go_wp2_with fail
          clear hov
          try rw [hA2]
          replace hA2 := Lib.hid hA2
          go_wp2_with fail
          go_loopw [3, 6] (fun a b wr' => ∃ (j : Nat) (p : List UInt8), b = .int .i64 (j : Int) ∧ a = .string ⟨p.toArray⟩ ∧ j ≤ 5 ∧ p.length ≤ A2.length + 10 * j ∧ Hid (p = A2 ++ ([n0, n1, n2, n3, n4].take j).flatMap int21) ∧ Hid (Below w6.heap.size w6 wr')) (fun a b _ => 5 - (intOf b).toNat)
          case atStart => exact ⟨0, A2, rfl, rfl, Nat.zero_le _, by omega, Lib.hid (by rw [List.take_zero, List.flatMap_nil, List.append_nil]), hbr⟩
          case round =>
            obtain ⟨j, p, rfl, rfl, hj, hpl, hp, hbr⟩ := hrel
            have h5 : j = 0 ∨ j = 1 ∨ j = 2 ∨ j = 3 ∨ j = 4 ∨ j = 5 := by omega
            rcases h5 with rfl | rfl | rfl | rfl | rfl | rfl
            · have x1 := hkp.out _ hbr.out 6
              simp only [List.getElem?_cons_zero, List.getElem?_cons_succ] at x1
              have hbn := cn.out n0 (by simp)
              have hcall := Lib.hid (fun W => rint_any n0 W hbn.1 hbn.2)
              have hml := (int_len_bd hbn.1 hbn.2).2
              have hnx := Lib.hid (show p ++ int21 n0 = A2 ++ ([n0, n1, n2, n3, n4].take 1).flatMap int21 by rw [hp.out]; simp)
              obtain ⟨Y, hY⟩ : ∃ Y, int21 n0 = Y := ⟨_, rfl⟩
              rw [hY] at hcall hml hnx
              have hov : ¬ 9223372036854775807 < p.length + Y.length := by omega
              clear hY hp hbn
              go_wp2_with fail
              refine (hcall.out _).mono ?_
              rintro e w7 ⟨rfl, bb⟩
              have hb7 := Lib.hid (hbr.out.trans (bb.mono hbr.out.size))
              clear bb
              go_wp2_with fail
              exact ⟨⟨1, p ++ Y, rfl, by simp, by omega, by rw [List.length_append]; omega, hnx, hb7⟩, by simp [intOf]⟩
            · have x1 := hkp.out _ hbr.out 7
              simp only [List.getElem?_cons_zero, List.getElem?_cons_succ] at x1
              have hbn := cn.out n1 (by simp)
              have hcall := Lib.hid (fun W => rint_any n1 W hbn.1 hbn.2)
              have hml := (int_len_bd hbn.1 hbn.2).2
              have hnx := Lib.hid (show p ++ int21 n1 = A2 ++ ([n0, n1, n2, n3, n4].take 2).flatMap int21 by rw [hp.out]; simp)
              obtain ⟨Y, hY⟩ : ∃ Y, int21 n1 = Y := ⟨_, rfl⟩
              rw [hY] at hcall hml hnx
              have hov : ¬ 9223372036854775807 < p.length + Y.length := by omega
              clear hY hp hbn
              go_wp2_with fail
              refine (hcall.out _).mono ?_
              rintro e w7 ⟨rfl, bb⟩
              have hb7 := Lib.hid (hbr.out.trans (bb.mono hbr.out.size))
              clear bb
              go_wp2_with fail
              exact ⟨⟨2, p ++ Y, rfl, by simp, by omega, by rw [List.length_append]; omega, hnx, hb7⟩, by simp [intOf]⟩
            · have x1 := hkp.out _ hbr.out 8
              simp only [List.getElem?_cons_zero, List.getElem?_cons_succ] at x1
              have hbn := cn.out n2 (by simp)
              have hcall := Lib.hid (fun W => rint_any n2 W hbn.1 hbn.2)
              have hml := (int_len_bd hbn.1 hbn.2).2
              have hnx := Lib.hid (show p ++ int21 n2 = A2 ++ ([n0, n1, n2, n3, n4].take 3).flatMap int21 by rw [hp.out]; simp)
              obtain ⟨Y, hY⟩ : ∃ Y, int21 n2 = Y := ⟨_, rfl⟩
              rw [hY] at hcall hml hnx
              have hov : ¬ 9223372036854775807 < p.length + Y.length := by omega
              clear hY hp hbn
              go_wp2_with fail
              refine (hcall.out _).mono ?_
              rintro e w7 ⟨rfl, bb⟩
              have hb7 := Lib.hid (hbr.out.trans (bb.mono hbr.out.size))
              clear bb
              go_wp2_with fail
              exact ⟨⟨3, p ++ Y, rfl, by simp, by omega, by rw [List.length_append]; omega, hnx, hb7⟩, by simp [intOf]⟩
            · have x1 := hkp.out _ hbr.out 9
              simp only [List.getElem?_cons_zero, List.getElem?_cons_succ] at x1
              have hbn := cn.out n3 (by simp)
              have hcall := Lib.hid (fun W => rint_any n3 W hbn.1 hbn.2)
              have hml := (int_len_bd hbn.1 hbn.2).2
              have hnx := Lib.hid (show p ++ int21 n3 = A2 ++ ([n0, n1, n2, n3, n4].take 4).flatMap int21 by rw [hp.out]; simp)
              obtain ⟨Y, hY⟩ : ∃ Y, int21 n3 = Y := ⟨_, rfl⟩
              rw [hY] at hcall hml hnx
              have hov : ¬ 9223372036854775807 < p.length + Y.length := by omega
              clear hY hp hbn
              go_wp2_with fail
              refine (hcall.out _).mono ?_
              rintro e w7 ⟨rfl, bb⟩
              have hb7 := Lib.hid (hbr.out.trans (bb.mono hbr.out.size))
              clear bb
              go_wp2_with fail
              exact ⟨⟨4, p ++ Y, rfl, by simp, by omega, by rw [List.length_append]; omega, hnx, hb7⟩, by simp [intOf]⟩
            · have x1 := hkp.out _ hbr.out 10
              simp only [List.getElem?_cons_zero, List.getElem?_cons_succ] at x1
              have hbn := cn.out n4 (by simp)
              have hcall := Lib.hid (fun W => rint_any n4 W hbn.1 hbn.2)
              have hml := (int_len_bd hbn.1 hbn.2).2
              have hnx := Lib.hid (show p ++ int21 n4 = A2 ++ ([n0, n1, n2, n3, n4].take 5).flatMap int21 by rw [hp.out]; simp)
              obtain ⟨Y, hY⟩ : ∃ Y, int21 n4 = Y := ⟨_, rfl⟩
              rw [hY] at hcall hml hnx
              have hov : ¬ 9223372036854775807 < p.length + Y.length := by omega
              clear hY hp hbn
              go_wp2_with fail
              refine (hcall.out _).mono ?_
              rintro e w7 ⟨rfl, bb⟩
              have hb7 := Lib.hid (hbr.out.trans (bb.mono hbr.out.size))
              clear bb
              go_wp2_with fail
              exact ⟨⟨5, p ++ Y, rfl, by simp, by omega, by rw [List.length_append]; omega, hnx, hb7⟩, by simp [intOf]⟩
            · have hp2 := Lib.hid (show p = A2 ++ [n0, n1, n2, n3, n4].flatMap int21 from hp.out)
              clear hp
              go_wp2_with fail
              go_ret
              exact ⟨ret_str (by rw [hp2.out, ← hA2q.out, ← hA1q.out, ← hA0.out, ← hO.out]; simp only [List.append_assoc]), hb.out.trans (hbr.out.mono hb.out.size)⟩
end Go.Proofs.Ytpfcamebkcengaa
