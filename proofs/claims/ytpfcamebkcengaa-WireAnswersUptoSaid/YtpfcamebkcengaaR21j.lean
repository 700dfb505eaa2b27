/- Layer 21, the reference: states as bytes. -/
import Derived.Test.YtpfcamebkcengaaR21i
import Derived.Test.YtpfcamebkcengaaR21g
namespace Go.Proofs.Ytpfcamebkcengaa
open Go.RowKit

/-- A state whose parts aren't long. -/
structure StLn (x : St21) : Prop where
  a1 : -9223372036854775808 ≤ x.now
  a2 : x.now ≤ 9223372036854775807
  b1 : -9223372036854775808 ≤ x.floor
  b2 : x.floor ≤ 9223372036854775807
  c1 : -9223372036854775808 ≤ x.epoch
  c2 : x.epoch ≤ 9223372036854775807
  fs : ∀ f ∈ x.feeds, f.length ≤ 100000000
  es : ∀ y ∈ x.entries, EnLn y 140737488355000
  ks : ∀ k ∈ x.read, k.feed.length ≤ 140737488355000 ∧ k.guid.length ≤ 140737488355000
  fl : (x.feeds.flatMap text21).length ≤ 100000000
  el : (x.entries.flatMap ent21).length ≤ 100000000
  kl : (x.read.flatMap key21).length ≤ 100000000
set_option maxHeartbeats 8000000 in
set_option maxRecDepth 100000 in
theorem rstate_any (x : Sv21) (w : World) (hx : SvR w x) (hl : StLn x.st) :
    Calls Try.prog 28 #[svV x] w (StrW w (state21 x.st)) := by
  have hb0 := Lib.hid ((Below.refl w.heap.size w).alloc (Nat.le_refl _) (.cells (svC x).toArray 43))
  have hK := Lib.hid (arrAt_new w 43 (svC x))
  obtain ⟨⟨no, fl, ep, fs, es, rs⟩, fa, fc, ea, ec, ra, rc⟩ := x
  obtain ⟨q1, q2, q3, n1, n2, n3⟩ := hx
  obtain ⟨a1, a2, b1, b2, d1, d2, p1, p2, p3, m1, m2, m3⟩ := hl
  simp only at q1 q2 q3 n1 n2 n3 a1 a2 b1 b2 d1 d2 p1 p2 p3 m1 m2 m3
  have hsl := Lib.hid (fun V (hb : Below w.heap.size w V) => (⟨q1.next hb, q2.next hb, q3.next hb⟩ : SlOf 1 stC V (.slice fa fs.length fc) fs ∧ SlOf 7 enC V (.slice ea es.length ec) es ∧ SlOf 2 kyC V (.slice ra rs.length rc) rs))
  have tn := Lib.hid (fun W => rint_any no W a1 a2)
  have tf := Lib.hid (fun W => rint_any fl W b1 b2)
  have te := Lib.hid (fun W => rint_any ep W d1 d2)
  have t1 := Lib.hid (fun W => rint_any fs.length W (by omega) (by omega))
  have t2 := Lib.hid (fun W => rint_any es.length W (by omega) (by omega))
  have t3 := Lib.hid (fun W => rint_any rs.length W (by omega) (by omega))
  have mn := (int_len_bd a1 a2).2
  have mf := (int_len_bd b1 b2).2
  have me := (int_len_bd d1 d2).2
  have m4 := (int_len_bd (n := (fs.length : Int)) (by omega) (by omega)).2
  have m5 := (int_len_bd (n := (es.length : Int)) (by omega) (by omega)).2
  have m6 := (int_len_bd (n := (rs.length : Int)) (by omega) (by omega)).2
  replace p1 := Lib.hid p1
  replace p2 := Lib.hid p2
  replace p3 := Lib.hid p3
  obtain ⟨O, hO⟩ : ∃ O, state21 ⟨no, fl, ep, fs, es, rs⟩ = O := ⟨_, rfl⟩
  rw [hO]
  unfold state21 at hO
  unfold svV
  unfold svC at *
  simp only at *
  obtain ⟨zn, hzn⟩ : ∃ y, int21 no = y := ⟨_, rfl⟩
  rw [hzn] at tn mn hO
  obtain ⟨zf, hzf⟩ : ∃ y, int21 fl = y := ⟨_, rfl⟩
  rw [hzf] at tf mf hO
  obtain ⟨ze, hze⟩ : ∃ y, int21 ep = y := ⟨_, rfl⟩
  rw [hze] at te me hO
  obtain ⟨z1, hz1⟩ : ∃ y, int21 (fs.length : Int) = y := ⟨_, rfl⟩
  rw [hz1] at t1 m4 hO
  obtain ⟨z2, hz2⟩ : ∃ y, int21 (es.length : Int) = y := ⟨_, rfl⟩
  rw [hz2] at t2 m5 hO
  obtain ⟨z3, hz3⟩ : ∃ y, int21 (rs.length : Int) = y := ⟨_, rfl⟩
  rw [hz3] at t3 m6 hO
  replace hO := Lib.hid hO
  clear hzn hzf hze hz1 hz2 hz3 q1 q2 q3 a1 a2 b1 b2 d1 d2
  go_enter Try.func28, Try.ntmps28
  go_upto_region 1 with fail
  refine hide_world (K := fun a w' => Code.wp _ _ _ a w') (R := fun W => ArrAt W w.heap.size 43 [.slice fa fs.length fc, .slice ea es.length ec, .slice ra rs.length rc, .int .i64 no, .int .i64 fl, .int .i64 ep] ∧ Below w.heap.size w W) ⟨hK.out, hb0.out⟩ ?_
  intro W2 hW2
  clear hK hb0
  obtain ⟨hK, hb⟩ := hW2.out
  have hcell := fun i => hK.cell i
  have c0 := hcell 0
  have c1 := hcell 1
  have c2 := hcell 2
  have c3 := hcell 3
  have c4 := hcell 4
  have c5 := hcell 5
  simp only [List.getElem?_cons_zero, List.getElem?_cons_succ] at c0 c1 c2 c3 c4 c5
  have hkp := Lib.hid (fun V (hb : Below W2.heap.size W2 V) i => (hK.next hb).cell i)
  replace hb := Lib.hid hb
  clear hcell hK hW2
  have a1 : ¬ 9223372036854775807 < zn.length + zf.length := by omega
  have a2 : ¬ 9223372036854775807 < zn.length + zf.length + ze.length := by omega
  have a3 : ¬ 9223372036854775807 < zn.length + (zf.length + ze.length) + z1.length := by omega
  go_region_held3 (fun W => W.cell? ⟨w.heap.size, 3, none⟩ = some (.int .i64 no) ∧ W.cell? ⟨w.heap.size, 4, none⟩ = some (.int .i64 fl) ∧ W.cell? ⟨w.heap.size, 5, none⟩ = some (.int .i64 ep) ∧ W.cell? ⟨w.heap.size, 0, none⟩ = some (.slice fa fs.length fc)) (first | exact ⟨hkp.out _ b4.out 3, hkp.out _ b4.out 4, hkp.out _ b4.out 5, hkp.out _ b4.out 0⟩ | exact ⟨hkp.out _ b3.out 3, hkp.out _ b3.out 4, hkp.out _ b3.out 5, hkp.out _ b3.out 0⟩ | exact ⟨hkp.out _ b2.out 3, hkp.out _ b2.out 4, hkp.out _ b2.out 5, hkp.out _ b2.out 0⟩ | exact ⟨hkp.out _ b1.out 3, hkp.out _ b1.out 4, hkp.out _ b1.out 5, hkp.out _ b1.out 0⟩ | exact ⟨hkp.out _ ((drawn_drew _).below _) 3, hkp.out _ ((drawn_drew _).below _) 4, hkp.out _ ((drawn_drew _).below _) 5, hkp.out _ ((drawn_drew _).below _) 0⟩) (first
    | (go_at_call 17; ((with_reducible refine (tn.out _).mono ?_); rintro e w3 ⟨rfl, bb⟩; have b1 := Lib.hid (((drawn_drew W2).below W2.heap.size).andThen bb); clear bb))
    | (go_at_call 17; ((with_reducible refine (tf.out _).mono ?_); rintro e w4 ⟨rfl, bb⟩; have b2 := Lib.hid (b1.out.andThen bb); clear bb))
    | (go_at_call 17; ((with_reducible refine (te.out _).mono ?_); rintro e w5 ⟨rfl, bb⟩; have b3 := Lib.hid (b2.out.andThen bb); clear bb))
    | (go_at_call 17; ((with_reducible refine (t1.out _).mono ?_); rintro e w6 ⟨rfl, bb⟩; have b4 := Lib.hid (b3.out.andThen bb); clear bb)))
  · obtain ⟨A0, hA0⟩ : ∃ A0, zn ++ (zf ++ (ze ++ z1)) = A0 := ⟨_, rfl⟩
    have l0 : A0.length ≤ 40 := by rw [← hA0]; simp only [List.length_append]; omega
    replace hA0 := Lib.hid hA0
    replace hb := Lib.hid (hb.out.trans (b4.out.mono hb.out.size))
    replace hkp := Lib.hid (fun V (hv : Below w6.heap.size w6 V) i => hkp.out V (b4.out.trans (hv.mono b4.out.size)) i)
    clear b1 b2 b3 b4 c0 c1 c2 c3 c4 c5 a1 a2 a3 mn mf me m4 tn tf te t1
    go_wp2_with fail
    go_loopw [3, 4] (fun a b wr => ∃ (j : Nat) (p : List UInt8), b = .int .i64 (j : Int) ∧ a = .string ⟨p.toArray⟩ ∧ j ≤ fs.length ∧ p.length ≤ A0.length + 100000000 ∧ Hid (p = A0 ++ (fs.take j).flatMap text21) ∧ Hid (Below w6.heap.size w6 wr)) (fun a b _ => fs.length - (intOf b).toNat)
    case atStart => exact ⟨0, A0, rfl, by rw [← hA0.out],  Nat.zero_le _, by omega, Lib.hid (by rw [List.take_zero, List.flatMap_nil, List.append_nil]), Lib.hid (Below.refl _ _)⟩
    case round =>
      obtain ⟨j, p, rfl, rfl, hj, hpl, hp, hbr⟩ := hrel
      have x1 := hkp.out _ hbr.out 0
      simp only [List.getElem?_cons_zero] at x1
      by_cases hlt : j < fs.length
      · have h0 : fs ≠ [] := by intro e; rw [e] at hlt; simp at hlt
        have hsl2 := hsl.out _ (hb.out.trans (hbr.out.mono hb.out.size))
        obtain ⟨b1, off1, cc1, _, hblt1, e, hc1⟩ := hsl2.1.some stC_len (by decide) h0
        injection e with e1 e2 e3
        subst e1 e3
        clear e2
        have hj0 : (0 : Int) ≤ (j : Int) := by omega
        have hjL : (j : Int) < (fs.length : Int) := by omega
        have u0 := hc1 j hlt 0 _ (by decide) rfl
        rw [Nat.mul_one, Nat.add_zero] at u0
        have hy := p1.out _ (List.getElem_mem hlt)
        obtain ⟨ht1, ht2⟩ := flat_step text21 fs j hlt
        generalize fs[j]'hlt = y at u0 hy ht1 ht2
        have hcall := Lib.hid (fun W => rtext_any y W (by omega))
        have hnx := Lib.hid (show p ++ text21 y = A0 ++ (fs.take (j + 1)).flatMap text21 by rw [hp.out, ht1, List.append_assoc])
        have hpl2 : p.length + (text21 y).length ≤ A0.length + 100000000 := by
          have := congrArg List.length hp.out
          rw [List.length_append] at this
          omega
        obtain ⟨Y, hY⟩ : ∃ Y, text21 y = Y := ⟨_, rfl⟩
        rw [hY] at hcall hnx hpl2
        have hov : ¬ 9223372036854775807 < p.length + Y.length := by omega
        try simp only at u0
        clear hsl2 hc1 h0 ht1 ht2 hy hY hp
        go_wp2_with fail
        refine (hcall.out _).mono ?_
        rintro e w7 ⟨rfl, bb⟩
        have hb7 := Lib.hid (hbr.out.trans (bb.mono hbr.out.size))
        clear bb
        go_wp2_with fail
        exact ⟨⟨j + 1, p ++ Y, by go_num, by simp, by omega, by rw [List.length_append]; exact hpl2, hnx, hb7⟩, by simp [intOf]; omega⟩
      · have hjL : ¬ (j : Int) < (fs.length : Int) := by omega
        have hp2 := hp.out
        rw [List.take_of_length_le (by omega)] at hp2
        replace hp2 := Lib.hid hp2
        clear hp
        have hkc := hkp.out _ hbr.out 1
        simp only [List.getElem?_cons_zero, List.getElem?_cons_succ] at hkc
        have hov : ¬ 9223372036854775807 < p.length + z2.length := by omega
        go_wp2_with fail
        refine (t2.out _).mono ?_
        rintro e w7 ⟨rfl, bb⟩
        replace hbr := Lib.hid (hbr.out.trans (bb.mono hbr.out.size))
        obtain ⟨A1, hA1⟩ : ∃ A, p ++ z2 = A := ⟨_, rfl⟩
        have l1 : A1.length ≤ 100000060 := by rw [← hA1, List.length_append]; omega
        replace hp2 := Lib.hid (show A0 ++ ((fs.flatMap text21) ++ z2) = A1 by rw [← hA1, hp2.out, List.append_assoc])
        have hA1q := hp2
        clear hp2 bb hkc x1 hpl t2 hj hlt hjL
        go_wp2_with fail
        clear hov
        try rw [hA1]
        replace hA1 := Lib.hid hA1
        go_wp2_with fail
        go_loopw [3, 5] (fun a b wr => ∃ (j : Nat) (p : List UInt8), b = .int .i64 (j : Int) ∧ a = .string ⟨p.toArray⟩ ∧ j ≤ es.length ∧ p.length ≤ A1.length + 100000000 ∧ Hid (p = A1 ++ (es.take j).flatMap ent21) ∧ Hid (Below w6.heap.size w6 wr)) (fun a b _ => es.length - (intOf b).toNat)
        case atStart => exact ⟨0, A1, rfl, by rw [← hA1.out],  Nat.zero_le _, by omega, Lib.hid (by rw [List.take_zero, List.flatMap_nil, List.append_nil]), hbr⟩
        case round =>
          obtain ⟨j, p, rfl, rfl, hj, hpl, hp, hbr⟩ := hrel
          have x1 := hkp.out _ hbr.out 1
          simp only [List.getElem?_cons_zero, List.getElem?_cons_succ] at x1
          by_cases hlt : j < es.length
          · have h0 : es ≠ [] := by intro e; rw [e] at hlt; simp at hlt
            have hsl2 := hsl.out _ (hb.out.trans (hbr.out.mono hb.out.size))
            obtain ⟨b1, off1, cc1, _, hblt1, e, hc1⟩ := hsl2.2.1.some enC_len (by decide) h0
            injection e with e1 e2 e3
            subst e1 e3
            clear e2
            have hj0 : (0 : Int) ≤ (j : Int) := by omega
            have hjL : (j : Int) < (es.length : Int) := by omega
            have u0 := hc1 j hlt 0 _ (by decide) rfl
            have u1 := hc1 j hlt 1 _ (by decide) rfl
            have u2 := hc1 j hlt 2 _ (by decide) rfl
            have u3 := hc1 j hlt 3 _ (by decide) rfl
            have u4 := hc1 j hlt 4 _ (by decide) rfl
            have u5 := hc1 j hlt 5 _ (by decide) rfl
            have u6 := hc1 j hlt 6 _ (by decide) rfl
            rw [Nat.add_zero] at u0
            have hy := p2.out _ (List.getElem_mem hlt)
            obtain ⟨ht1, ht2⟩ := flat_step ent21 es j hlt
            generalize es[j]'hlt = y at u0 u1 u2 u3 u4 u5 u6 hy ht1 ht2
            have hcall := Lib.hid (fun W => rentry_any y W hy)
            have hnx := Lib.hid (show p ++ ent21 y = A1 ++ (es.take (j + 1)).flatMap ent21 by rw [hp.out, ht1, List.append_assoc])
            have hpl2 : p.length + (ent21 y).length ≤ A1.length + 100000000 := by
              have := congrArg List.length hp.out
              rw [List.length_append] at this
              omega
            obtain ⟨Y, hY⟩ : ∃ Y, ent21 y = Y := ⟨_, rfl⟩
            rw [hY] at hcall hnx hpl2
            have hov : ¬ 9223372036854775807 < p.length + Y.length := by omega
            obtain ⟨⟨f, g⟩, tt, lk, by_, sm, sg⟩ := y
            unfold enV at hcall
            unfold enC at hcall
            simp only at hcall u0 u1 u2 u3 u4 u5 u6
            clear hsl2 hc1 h0 ht1 ht2 hy hY hp
            go_wp2_with fail
            refine (hcall.out _).mono ?_
            rintro e w7 ⟨rfl, bb⟩
            have hb7 := Lib.hid (hbr.out.trans (bb.mono hbr.out.size))
            clear bb
            go_wp2_with fail
            exact ⟨⟨j + 1, p ++ Y, by go_num, by simp, by omega, by rw [List.length_append]; exact hpl2, hnx, hb7⟩, by simp [intOf]; omega⟩
          · have hjL : ¬ (j : Int) < (es.length : Int) := by omega
            have hp2 := hp.out
            rw [List.take_of_length_le (by omega)] at hp2
            replace hp2 := Lib.hid hp2
            clear hp
            have hkc := hkp.out _ hbr.out 2
            simp only [List.getElem?_cons_zero, List.getElem?_cons_succ] at hkc
            have hov : ¬ 9223372036854775807 < p.length + z3.length := by omega
            go_wp2_with fail
            refine (t3.out _).mono ?_
            rintro e w7 ⟨rfl, bb⟩
            replace hbr := Lib.hid (hbr.out.trans (bb.mono hbr.out.size))
            obtain ⟨A2, hA2⟩ : ∃ A, p ++ z3 = A := ⟨_, rfl⟩
            have l2 : A2.length ≤ 200000080 := by rw [← hA2, List.length_append]; omega
            replace hp2 := Lib.hid (show A1 ++ ((es.flatMap ent21) ++ z3) = A2 by rw [← hA2, hp2.out, List.append_assoc])
            have hA2q := hp2
            clear hp2 bb hkc x1 hpl t3 hj hlt hjL
            go_wp2_with fail
            clear hov
            try rw [hA2]
            replace hA2 := Lib.hid hA2
            go_wp2_with fail
            go_loopw [3, 6] (fun a b wr => ∃ (j : Nat) (p : List UInt8), b = .int .i64 (j : Int) ∧ a = .string ⟨p.toArray⟩ ∧ j ≤ rs.length ∧ p.length ≤ A2.length + 100000000 ∧ Hid (p = A2 ++ (rs.take j).flatMap key21) ∧ Hid (Below w6.heap.size w6 wr)) (fun a b _ => rs.length - (intOf b).toNat)
            case atStart => exact ⟨0, A2, rfl, by rw [← hA2.out],  Nat.zero_le _, by omega, Lib.hid (by rw [List.take_zero, List.flatMap_nil, List.append_nil]), hbr⟩
            case round =>
              obtain ⟨j, p, rfl, rfl, hj, hpl, hp, hbr⟩ := hrel
              have x1 := hkp.out _ hbr.out 2
              simp only [List.getElem?_cons_zero, List.getElem?_cons_succ] at x1
              by_cases hlt : j < rs.length
              · have h0 : rs ≠ [] := by intro e; rw [e] at hlt; simp at hlt
                have hsl2 := hsl.out _ (hb.out.trans (hbr.out.mono hb.out.size))
                obtain ⟨b1, off1, cc1, _, hblt1, e, hc1⟩ := hsl2.2.2.some kyC_len (by decide) h0
                injection e with e1 e2 e3
                subst e1 e3
                clear e2
                have hj0 : (0 : Int) ≤ (j : Int) := by omega
                have hjL : (j : Int) < (rs.length : Int) := by omega
                have u0 := hc1 j hlt 0 _ (by decide) rfl
                have u1 := hc1 j hlt 1 _ (by decide) rfl
                rw [Nat.add_zero] at u0
                have hy := p3.out _ (List.getElem_mem hlt)
                obtain ⟨ht1, ht2⟩ := flat_step key21 rs j hlt
                generalize rs[j]'hlt = y at u0 u1 hy ht1 ht2
                have hcall := Lib.hid (fun W => rkey_any y W hy.1 hy.2)
                have hnx := Lib.hid (show p ++ key21 y = A2 ++ (rs.take (j + 1)).flatMap key21 by rw [hp.out, ht1, List.append_assoc])
                have hpl2 : p.length + (key21 y).length ≤ A2.length + 100000000 := by
                  have := congrArg List.length hp.out
                  rw [List.length_append] at this
                  omega
                obtain ⟨Y, hY⟩ : ∃ Y, key21 y = Y := ⟨_, rfl⟩
                rw [hY] at hcall hnx hpl2
                have hov : ¬ 9223372036854775807 < p.length + Y.length := by omega
                obtain ⟨f, g⟩ := y
                unfold kyV at hcall
                unfold kyC at hcall
                simp only at hcall u0 u1
                clear hsl2 hc1 h0 ht1 ht2 hy hY hp
                go_wp2_with fail
                refine (hcall.out _).mono ?_
                rintro e w7 ⟨rfl, bb⟩
                have hb7 := Lib.hid (hbr.out.trans (bb.mono hbr.out.size))
                clear bb
                go_wp2_with fail
                exact ⟨⟨j + 1, p ++ Y, by go_num, by simp, by omega, by rw [List.length_append]; exact hpl2, hnx, hb7⟩, by simp [intOf]; omega⟩
              · have hjL : ¬ (j : Int) < (rs.length : Int) := by omega
                have hp2 := hp.out
                rw [List.take_of_length_le (by omega)] at hp2
                replace hp2 := Lib.hid hp2
                clear hp
                go_wp2_with fail
                go_ret
                exact ⟨ret_str (by rw [hp2.out, ← hA2q.out, ← hA1q.out, ← hA0.out, ← hO.out]; simp only [List.append_assoc]), hb.out.trans (hbr.out.mono hb.out.size)⟩
end Go.Proofs.Ytpfcamebkcengaa
