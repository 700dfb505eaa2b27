/- Layer 21, the reference: clusters as bytes. -/
import Derived.Test.YtpfcamebkcengaaR21j
namespace Go.Proofs.Ytpfcamebkcengaa
open Go.RowKit

/-- A cluster that can be read, and whose parts aren't long. -/
structure ClLn (w : World) (x : Cl21) : Prop where
  f : x.rep.feed.length ≤ 140737488355000
  g : x.rep.guid.length ≤ 140737488355000
  sl : SlOf 2 kyC w (.slice x.ma x.members.length x.mc) x.members
  few : x.members.length ≤ 9223372036854775807
  all : ∀ k ∈ x.members, k.feed.length ≤ 140737488355000 ∧ k.guid.length ≤ 140737488355000
  tot : (x.members.flatMap key21).length ≤ 140737488355328
  f1 : -9223372036854775808 ≤ x.feeds
  f2 : x.feeds ≤ 9223372036854775807
  n1 : -9223372036854775808 ≤ x.newest
  n2 : x.newest ≤ 9223372036854775807
  s1 : -9223372036854775808 ≤ x.score
  s2 : x.score ≤ 9223372036854775807
set_option maxHeartbeats 8000000 in
set_option maxRecDepth 100000 in
theorem rcluster_any (x : Cl21) (w : World) (hx : ClLn w x) :
    Calls Try.prog 49 #[clV x] w (StrW w (cl21 x)) := by
  have hb0 := Lib.hid ((Below.refl w.heap.size w).alloc (Nat.le_refl _) (.cells (clC x).toArray 59))
  have hK := Lib.hid (arrAt_new w 59 (clC x))
  obtain ⟨⟨f, g⟩, ms, fe, ne, sc, rd, ma, mc⟩ := x
  obtain ⟨l1, l2, q1, n1, p1, m1, a1, a2, b1, b2, d1, d2⟩ := hx
  simp only at l1 l2 q1 n1 p1 m1 a1 a2 b1 b2 d1 d2
  have hsl := Lib.hid (fun V (hb : Below w.heap.size w V) => (q1.next hb : SlOf 2 kyC V (.slice ma ms.length mc) ms))
  have tk := Lib.hid (fun W => rkey_any ⟨f, g⟩ W l1 l2)
  have t1 := Lib.hid (fun W => rint_any ms.length W (by omega) (by omega))
  have tf := Lib.hid (fun W => rint_any fe W a1 a2)
  have tn := Lib.hid (fun W => rint_any ne W b1 b2)
  have ts := Lib.hid (fun W => rint_any sc W d1 d2)
  have tr := Lib.hid (fun W => rint_any (if rd then 1 else 0) W (by cases rd <;> decide) (by cases rd <;> decide))
  have mk : (key21 ⟨f, g⟩).length ≤ 281474976710020 := by
    have := text_len_big f l1
    have := text_len_big g l2
    unfold key21
    rw [List.length_append]
    simp only
    omega
  have m4 := (int_len_bd (n := (ms.length : Int)) (by omega) (by omega)).2
  have mf := (int_len_bd a1 a2).2
  have mn := (int_len_bd b1 b2).2
  have mz := (int_len_bd d1 d2).2
  have mr := (int_len_bd (n := (if rd then 1 else 0)) (by cases rd <;> decide) (by cases rd <;> decide)).2
  replace p1 := Lib.hid p1
  obtain ⟨O, hO⟩ : ∃ O, cl21 ⟨⟨f, g⟩, ms, fe, ne, sc, rd, ma, mc⟩ = O := ⟨_, rfl⟩
  rw [hO]
  unfold cl21 truth21 at hO
  unfold clV
  unfold clC kyV kyC at *
  simp only at *
  obtain ⟨zk, hzk⟩ : ∃ y, key21 ⟨f, g⟩ = y := ⟨_, rfl⟩
  rw [hzk] at tk mk hO
  obtain ⟨z1, hz1⟩ : ∃ y, int21 (ms.length : Int) = y := ⟨_, rfl⟩
  rw [hz1] at t1 m4 hO
  obtain ⟨zf, hzf⟩ : ∃ y, int21 fe = y := ⟨_, rfl⟩
  rw [hzf] at tf mf hO
  obtain ⟨zn, hzn⟩ : ∃ y, int21 ne = y := ⟨_, rfl⟩
  rw [hzn] at tn mn hO
  obtain ⟨zs, hzs⟩ : ∃ y, int21 sc = y := ⟨_, rfl⟩
  rw [hzs] at ts mz hO
  obtain ⟨zr, hzr⟩ : ∃ y, int21 (if rd then 1 else 0) = y := ⟨_, rfl⟩
  rw [hzr] at tr mr hO
  replace hO := Lib.hid hO
  clear hzk hz1 hzf hzn hzs hzr q1 a1 a2 b1 b2 d1 d2 l1 l2
  go_enter Try.func49, Try.ntmps49
  go_upto_region 1 with fail
  refine hide_world (K := fun a w' => Code.wp _ _ _ a w') (R := fun W => ArrAt W w.heap.size 59 [.string ⟨f.toArray⟩, .string ⟨g.toArray⟩, .slice ma ms.length mc, .int .i64 fe, .int .i64 ne, .int .i64 sc, .bool rd] ∧ Below w.heap.size w W) ⟨hK.out, hb0.out⟩ ?_
  intro W2 hW2
  clear hK hb0
  obtain ⟨hK, hb⟩ := hW2.out
  have hcell := fun i => hK.cell i
  have c0 := hcell 0
  have c1 := hcell 1
  have c2 := hcell 2
  simp only [List.getElem?_cons_zero, List.getElem?_cons_succ] at c0 c1 c2
  have hkp := Lib.hid (fun V (hb : Below W2.heap.size W2 V) i => (hK.next hb).cell i)
  replace hb := Lib.hid hb
  clear hcell hK hW2
  have a1 : ¬ 9223372036854775807 < zk.length + z1.length := by omega
  go_region_held3 (fun W => W.cell? ⟨w.heap.size, 0, none⟩ = some (.string ⟨f.toArray⟩) ∧ W.cell? ⟨w.heap.size, 1, none⟩ = some (.string ⟨g.toArray⟩) ∧ W.cell? ⟨w.heap.size, 2, none⟩ = some (.slice ma ms.length mc)) (first | exact ⟨hkp.out _ b2.out 0, hkp.out _ b2.out 1, hkp.out _ b2.out 2⟩ | exact ⟨hkp.out _ b1.out 0, hkp.out _ b1.out 1, hkp.out _ b1.out 2⟩ | exact ⟨hkp.out _ ((drawn_drew _).below _) 0, hkp.out _ ((drawn_drew _).below _) 1, hkp.out _ ((drawn_drew _).below _) 2⟩) (first
    | (go_at_call 47; ((with_reducible refine (tk.out _).mono ?_); rintro e w3 ⟨rfl, bb⟩; have b1 := Lib.hid (((drawn_drew W2).below W2.heap.size).andThen bb); clear bb))
    | (go_at_call 17; ((with_reducible refine (t1.out _).mono ?_); rintro e w4 ⟨rfl, bb⟩; have b2 := Lib.hid (b1.out.andThen bb); clear bb)))
  obtain ⟨A0, hA0⟩ : ∃ A0, zk ++ z1 = A0 := ⟨_, rfl⟩
  have l0 : A0.length ≤ 281474976710030 := by rw [← hA0]; simp only [List.length_append]; omega
  replace hA0 := Lib.hid hA0
  replace hb := Lib.hid (hb.out.trans (b2.out.mono hb.out.size))
  replace hkp := Lib.hid (fun V (hv : Below w4.heap.size w4 V) i => hkp.out V (b2.out.trans (hv.mono b2.out.size)) i)
  clear b1 b2 c0 c1 c2 a1 mk m4 tk t1
  go_wp2_with fail
  go_loopw [3, 4] (fun a b wr => ∃ (j : Nat) (p : List UInt8), b = .int .i64 (j : Int) ∧ a = .string ⟨p.toArray⟩ ∧ j ≤ ms.length ∧ p.length ≤ A0.length + 140737488355328 ∧ Hid (p = A0 ++ (ms.take j).flatMap key21) ∧ Hid (Below w4.heap.size w4 wr)) (fun _ b _ => ms.length - (intOf b).toNat)
  case atStart => exact ⟨0, A0, rfl, by rw [← hA0.out], Nat.zero_le _, by omega, Lib.hid (by rw [List.take_zero, List.flatMap_nil, List.append_nil]), Lib.hid (Below.refl _ _)⟩
  case round =>
    obtain ⟨j, p, rfl, rfl, hj, hpl, hp, hbr⟩ := hrel
    have x1 := hkp.out _ hbr.out 2
    simp only [List.getElem?_cons_zero, List.getElem?_cons_succ] at x1
    by_cases hlt : j < ms.length
    · have h0 : ms ≠ [] := by intro e; rw [e] at hlt; simp at hlt
      have hsl2 := hsl.out _ (hb.out.trans (hbr.out.mono hb.out.size))
      obtain ⟨b1, off1, cc1, _, hblt1, e, hc1⟩ := hsl2.some kyC_len (by decide) h0
      injection e with e1 e2 e3
      subst e1 e3
      clear e2
      have hj0 : (0 : Int) ≤ (j : Int) := by omega
      have hjL : (j : Int) < (ms.length : Int) := by omega
      have u0 := hc1 j hlt 0 _ (by decide) rfl
      have u1 := hc1 j hlt 1 _ (by decide) rfl
      rw [Nat.add_zero] at u0
      have hy := p1.out _ (List.getElem_mem hlt)
      obtain ⟨ht1, ht2⟩ := flat_step key21 ms j hlt
      generalize ms[j]'hlt = y at u0 u1 hy ht1 ht2
      have hcall := Lib.hid (fun W => rkey_any y W hy.1 hy.2)
      have hnx := Lib.hid (show p ++ key21 y = A0 ++ (ms.take (j + 1)).flatMap key21 by rw [hp.out, ht1, List.append_assoc])
      have hpl2 : p.length + (key21 y).length ≤ A0.length + 140737488355328 := by
        have := congrArg List.length hp.out
        rw [List.length_append] at this
        omega
      obtain ⟨Y, hY⟩ : ∃ Y, key21 y = Y := ⟨_, rfl⟩
      rw [hY] at hcall hnx hpl2
      have hov : ¬ 9223372036854775807 < p.length + Y.length := by omega
      obtain ⟨f', g'⟩ := y
      unfold kyV at hcall
      unfold kyC at hcall
      simp only at hcall u0 u1
      clear hsl2 hc1 h0 ht1 ht2 hy hY hp
      go_wp2_with fail
      refine (hcall.out _).mono ?_
      rintro e w7 ⟨rfl, bb⟩
      have hb7 := Lib.hid (hbr.out.trans (bb.mono hbr.out.size))
      clear bb
      go_wp2_with fail
      exact ⟨⟨j + 1, p ++ Y, by go_num, by simp, by omega, by rw [List.length_append]; exact hpl2, hnx, hb7⟩, by simp [intOf]; omega⟩
    · have hjL : ¬ (j : Int) < (ms.length : Int) := by omega
      have hp2 := hp.out
      rw [List.take_of_length_le (by omega)] at hp2
      replace hp2 := Lib.hid hp2
      replace hkp := Lib.hid (fun V (hv : Below wr.heap.size wr V) i => hkp.out V (hbr.out.trans (hv.mono hbr.out.size)) i)
      have c3 := hkp.out _ (Below.refl _ _) 3
      have c4 := hkp.out _ (Below.refl _ _) 4
      have c5 := hkp.out _ (Below.refl _ _) 5
      have c6 := hkp.out _ (Below.refl _ _) 6
      simp only [List.getElem?_cons_zero, List.getElem?_cons_succ] at c3 c4 c5 c6
      have g1 : ¬ 9223372036854775807 < p.length + zf.length := by omega
      have g2 : ¬ 9223372036854775807 < p.length + zf.length + zn.length := by omega
      have g3 : ¬ 9223372036854775807 < p.length + (zf.length + zn.length) + zs.length := by omega
      have g4 : ¬ 9223372036854775807 < p.length + (zf.length + (zn.length + zs.length)) + zr.length := by omega
      clear hp hj
      cases rd
      all_goals
        simp only [Bool.false_eq_true, if_true, if_false] at tr
        go_wp2_with fail
        go_region_held3 (fun W => W.cell? ⟨w.heap.size, 3, none⟩ = some (.int .i64 fe) ∧ W.cell? ⟨w.heap.size, 4, none⟩ = some (.int .i64 ne) ∧ W.cell? ⟨w.heap.size, 5, none⟩ = some (.int .i64 sc)) (first | exact ⟨hkp.out _ y4.out 3, hkp.out _ y4.out 4, hkp.out _ y4.out 5⟩ | exact ⟨hkp.out _ y3.out 3, hkp.out _ y3.out 4, hkp.out _ y3.out 5⟩ | exact ⟨hkp.out _ y2.out 3, hkp.out _ y2.out 4, hkp.out _ y2.out 5⟩ | exact ⟨hkp.out _ y1.out 3, hkp.out _ y1.out 4, hkp.out _ y1.out 5⟩ | exact ⟨hkp.out _ ((drawn_drew _).below _) 3, hkp.out _ ((drawn_drew _).below _) 4, hkp.out _ ((drawn_drew _).below _) 5⟩) (first
          | (go_at_call 17; ((with_reducible refine (tf.out _).mono ?_); rintro e v1 ⟨rfl, bb⟩; have y1 := Lib.hid (((drawn_drew wr).below wr.heap.size).andThen bb); clear bb))
          | (go_at_call 17; ((with_reducible refine (tn.out _).mono ?_); rintro e v2 ⟨rfl, bb⟩; have y2 := Lib.hid (y1.out.andThen bb); clear bb))
          | (go_at_call 17; ((with_reducible refine (ts.out _).mono ?_); rintro e v3 ⟨rfl, bb⟩; have y3 := Lib.hid (y2.out.andThen bb); clear bb))
          | (go_at_call 17; ((with_reducible refine (tr.out _).mono ?_); rintro e v4 ⟨rfl, bb⟩; have y4 := Lib.hid (y3.out.andThen bb); clear bb)))
        all_goals go_wp2_with fail
        all_goals go_ret
        all_goals exact ⟨ret_str (by rw [hp2.out, ← hA0.out, ← hO.out]; simp only [List.append_assoc]), hb.out.trans ((hbr.out.trans (y4.out.mono hbr.out.size)).mono hb.out.size)⟩
end Go.Proofs.Ytpfcamebkcengaa
