/- Layer 21, the reference: commands as bytes. -/
import Derived.Test.YtpfcamebkcengaaR21c
import Derived.Test.YtpfcamebkcengaaD21e
import Derived.Deep.Cut
namespace Go.Proofs.Ytpfcamebkcengaa
open Go.RowKit

theorem text_len_le (s : List UInt8) (h : s.length ≤ 100000000) : (text21 s).length ≤ 100000010 := by
  unfold text21
  rw [List.length_append]
  have := (int_len_bd (n := (s.length : Int)) (by omega) (by omega)).2
  omega
set_option maxHeartbeats 8000000 in
set_option maxRecDepth 100000 in
theorem rcmd_any (c : Cm21) (w : World) (hx : CmBd c) (l1 : c.feed.length ≤ 100000000) (l2 : c.guid.length ≤ 100000000) (l3 : c.doc.length ≤ 100000000) (l4 : c.cursor.length ≤ 100000000) :
    Calls Try.prog 23 #[cmV c] w (StrW w (cmd21 c)) := by
  obtain ⟨D, hD⟩ : ∃ D, body21 c = D := ⟨_, rfl⟩
  obtain ⟨z, hz⟩ : ∃ z : Int, c.kind % 256 = z := ⟨_, rfl⟩
  have hzk : IntKind.u8.wrap c.kind = z := by rw [IntKind.wrap_u8]; exact hz
  obtain ⟨Q, hQ⟩ : ∃ Q, [u8 z] = Q := ⟨_, rfl⟩
  have hQl : Q.length ≤ 1 := by rw [← hQ]; exact Nat.le_refl _
  have hO2 := Lib.hid (show Q ++ D = cmd21 c by
    unfold cmd21
    rw [hD, hz, ← hQ, List.singleton_append, List.cons.injEq, and_comm]
    refine ⟨rfl, ?_⟩
    unfold u8
    rfl)
  obtain ⟨O, hO⟩ : ∃ O, cmd21 c = O := ⟨_, rfl⟩
  rw [hO] at hO2 ⊢
  have hb0 := (Below.refl w.heap.size w).alloc (Nat.le_refl _) (.cells (cmC c).toArray 32)
  have hb1 := (Below.refl (w.alloc (.cells (cmC c).toArray 32)).heap.size (w.alloc (.cells (cmC c).toArray 32))).alloc (Nat.le_refl _) (.cells #[.int .u8 z] 5)
  have hK := Lib.hid ((arrAt_new w 32 (cmC c)).next hb1)
  have hbw := Lib.hid (hb0.trans (hb1.mono hb0.size))
  have e0 : (w.alloc (.cells (cmC c).toArray 32)).heap.size = w.heap.size + 1 := by simp
  have hc1 := fun (w : World) (a : Int) => run_str_new (P := Try.prog) w 68 9 5 5 Try.underlying68 Try.underlying5 Try.underlying9 [a] 1 1 rfl
  simp only [List.map_cons, List.map_nil] at hc1
  replace hc1 := hc1 (w.alloc (.cells (cmC c).toArray 32)) z
  rw [e0, hQ] at hc1
  replace hQ := Lib.hid hQ
  obtain ⟨kd, f, g, d, cu, n, fi⟩ := c
  obtain ⟨x1, x2, x3, x4, x5, x6, x7, x8, x9, x10⟩ := hx
  have tf := Lib.hid (fun W => rtext_any f W (by simp only at l1; omega))
  have tg := Lib.hid (fun W => rtext_any g W (by simp only at l2; omega))
  have td := Lib.hid (fun W => rtext_any d W (by simp only at l3; omega))
  have tcu := Lib.hid (fun W => rtext_any cu W (by simp only at l4; omega))
  have tn := Lib.hid (fun W => rint_any n W x7 x8)
  have tfi := Lib.hid (fun W => rint_any fi W x9 x10)
  have mf := text_len_le f l1
  have mg := text_len_le g l2
  have md := text_len_le d l3
  have mcu := text_len_le cu l4
  have mn := (int_len_bd x7 x8).2
  have mfi := (int_len_bd x9 x10).2
  simp only at l1 l2 l3 l4 x1 x2 hzk
  have hBD := Lib.hid hD
  unfold cmV
  unfold cmC at *
  simp only at *
  clear hb0 hb1 e0 hO hz hD x3 x4 x5 x6 x7 x8 x9 x10
  go_enter Try.func23, Try.ntmps23
  go_upto_region 2 with fail
  refine hide_world (K := fun a w' => Code.wp _ _ _ a w') (R := fun W => ArrAt W w.heap.size 32 [.int .i64 kd, .string ⟨f.toArray⟩, .string ⟨g.toArray⟩, .string ⟨d.toArray⟩, .int .i64 n, .int .i64 fi, .string ⟨cu.toArray⟩] ∧ Below w.heap.size w W) ⟨hK.out, hbw.out⟩ ?_
  intro W2 hW2
  clear hK hbw hc1 hzk
  obtain ⟨hK, hb⟩ := hW2.out
  have hcell := fun i => hK.cell i
  have c0 := hcell 0
  have c1 := hcell 1
  have c2 := hcell 2
  have c3 := hcell 3
  have c4 := hcell 4
  have c5 := hcell 5
  have c6 := hcell 6
  simp only [List.getElem?_cons_zero, List.getElem?_cons_succ] at c0 c1 c2 c3 c4 c5 c6
  have hkp := Lib.hid (fun V (hb : Below W2.heap.size W2 V) i => (hK.next hb).cell i)
  replace hb := Lib.hid hb
  clear hcell hK hW2
  by_cases e1 : kd = 1
  · subst e1
    have hB : Hid (text21 f = D) := Lib.hid (by rw [← hBD.out]; simp [body21])
    clear hBD
    obtain ⟨zf, hzf⟩ : ∃ y, text21 f = y := ⟨_, rfl⟩
    rw [hzf] at tf mf hB
    clear hzf
    go_wp2_with fail
    refine (tf.out _).mono ?_
    rintro e w3 ⟨rfl, bb⟩
    have b1 := Lib.hid (hb.out.trans (bb.mono hb.out.size))
    clear bb
    go_wp2_with fail
    go_ret
    exact ⟨ret_str (by rw [← hO2.out, ← hB.out]), b1.out⟩
  by_cases e2 : kd = 2
  · subst e2
    have hB : Hid (text21 f = D) := Lib.hid (by rw [← hBD.out]; simp [body21])
    clear hBD
    obtain ⟨zf, hzf⟩ : ∃ y, text21 f = y := ⟨_, rfl⟩
    rw [hzf] at tf mf hB
    clear hzf
    go_wp2_with fail
    refine (tf.out _).mono ?_
    rintro e w3 ⟨rfl, bb⟩
    have b1 := Lib.hid (hb.out.trans (bb.mono hb.out.size))
    clear bb
    go_wp2_with fail
    go_ret
    exact ⟨ret_str (by rw [← hO2.out, ← hB.out]), b1.out⟩
  by_cases e3 : kd = 3
  · subst e3
    have hB : Hid (text21 f ++ text21 d = D) := Lib.hid (by rw [← hBD.out]; simp [body21])
    clear hBD
    obtain ⟨zf, hzf⟩ : ∃ y, text21 f = y := ⟨_, rfl⟩
    rw [hzf] at tf mf hB
    clear hzf
    obtain ⟨zd, hzd⟩ : ∃ y, text21 d = y := ⟨_, rfl⟩
    rw [hzd] at td md hB
    clear hzd
    have a0 : ¬ 9223372036854775807 < Q.length + zf.length := by omega
    have a1 : ¬ 9223372036854775807 < Q.length + zf.length + zd.length := by omega
    go_wp2_with fail
    go_region_held3 (fun W => W.cell? ⟨w.heap.size, 1, none⟩ = some (.string ⟨f.toArray⟩) ∧ W.cell? ⟨w.heap.size, 3, none⟩ = some (.string ⟨d.toArray⟩)) (first | exact ⟨hkp.out _ b2.out 1, hkp.out _ b2.out 3⟩ | exact ⟨hkp.out _ b1.out 1, hkp.out _ b1.out 3⟩ | exact ⟨hkp.out _ ((drawn_drew _).below _) 1, hkp.out _ ((drawn_drew _).below _) 3⟩) (first
      | (go_at_call 19; ((with_reducible refine (tf.out _).mono ?_); rintro e w3 ⟨rfl, bb⟩; have b1 := Lib.hid (((drawn_drew W2).below W2.heap.size).andThen bb); clear bb))
      | (go_at_call 19; ((with_reducible refine (td.out _).mono ?_); rintro e w4 ⟨rfl, bb⟩; have b2 := Lib.hid (b1.out.andThen bb); clear bb)))
    all_goals go_wp2_with fail
    all_goals go_ret
    all_goals exact ⟨ret_str (by rw [← hO2.out, ← hB.out]), hb.out.trans (b2.out.mono hb.out.size)⟩
  by_cases e4 : kd = 4
  · subst e4
    have hB : Hid (int21 n = D) := Lib.hid (by rw [← hBD.out]; simp [body21])
    clear hBD
    obtain ⟨zn, hzn⟩ : ∃ y, int21 n = y := ⟨_, rfl⟩
    rw [hzn] at tn mn hB
    clear hzn
    go_wp2_with fail
    refine (tn.out _).mono ?_
    rintro e w3 ⟨rfl, bb⟩
    have b1 := Lib.hid (hb.out.trans (bb.mono hb.out.size))
    clear bb
    go_wp2_with fail
    go_ret
    exact ⟨ret_str (by rw [← hO2.out, ← hB.out]), b1.out⟩
  by_cases e5 : kd = 5
  · subst e5
    have hB : Hid (text21 f ++ text21 g = D) := Lib.hid (by rw [← hBD.out]; simp [body21])
    clear hBD
    obtain ⟨zf, hzf⟩ : ∃ y, text21 f = y := ⟨_, rfl⟩
    rw [hzf] at tf mf hB
    clear hzf
    obtain ⟨zg, hzg⟩ : ∃ y, text21 g = y := ⟨_, rfl⟩
    rw [hzg] at tg mg hB
    clear hzg
    have a0 : ¬ 9223372036854775807 < Q.length + zf.length := by omega
    have a1 : ¬ 9223372036854775807 < Q.length + zf.length + zg.length := by omega
    go_wp2_with fail
    go_region_held3 (fun W => W.cell? ⟨w.heap.size, 1, none⟩ = some (.string ⟨f.toArray⟩) ∧ W.cell? ⟨w.heap.size, 2, none⟩ = some (.string ⟨g.toArray⟩)) (first | exact ⟨hkp.out _ b2.out 1, hkp.out _ b2.out 2⟩ | exact ⟨hkp.out _ b1.out 1, hkp.out _ b1.out 2⟩ | exact ⟨hkp.out _ ((drawn_drew _).below _) 1, hkp.out _ ((drawn_drew _).below _) 2⟩) (first
      | (go_at_call 19; ((with_reducible refine (tf.out _).mono ?_); rintro e w3 ⟨rfl, bb⟩; have b1 := Lib.hid (((drawn_drew W2).below W2.heap.size).andThen bb); clear bb))
      | (go_at_call 19; ((with_reducible refine (tg.out _).mono ?_); rintro e w4 ⟨rfl, bb⟩; have b2 := Lib.hid (b1.out.andThen bb); clear bb)))
    all_goals go_wp2_with fail
    all_goals go_ret
    all_goals exact ⟨ret_str (by rw [← hO2.out, ← hB.out]), hb.out.trans (b2.out.mono hb.out.size)⟩
  by_cases e6 : kd = 6
  · subst e6
    have hB : Hid (text21 f ++ text21 g = D) := Lib.hid (by rw [← hBD.out]; simp [body21])
    clear hBD
    obtain ⟨zf, hzf⟩ : ∃ y, text21 f = y := ⟨_, rfl⟩
    rw [hzf] at tf mf hB
    clear hzf
    obtain ⟨zg, hzg⟩ : ∃ y, text21 g = y := ⟨_, rfl⟩
    rw [hzg] at tg mg hB
    clear hzg
    have a0 : ¬ 9223372036854775807 < Q.length + zf.length := by omega
    have a1 : ¬ 9223372036854775807 < Q.length + zf.length + zg.length := by omega
    go_wp2_with fail
    go_region_held3 (fun W => W.cell? ⟨w.heap.size, 1, none⟩ = some (.string ⟨f.toArray⟩) ∧ W.cell? ⟨w.heap.size, 2, none⟩ = some (.string ⟨g.toArray⟩)) (first | exact ⟨hkp.out _ b2.out 1, hkp.out _ b2.out 2⟩ | exact ⟨hkp.out _ b1.out 1, hkp.out _ b1.out 2⟩ | exact ⟨hkp.out _ ((drawn_drew _).below _) 1, hkp.out _ ((drawn_drew _).below _) 2⟩) (first
      | (go_at_call 19; ((with_reducible refine (tf.out _).mono ?_); rintro e w3 ⟨rfl, bb⟩; have b1 := Lib.hid (((drawn_drew W2).below W2.heap.size).andThen bb); clear bb))
      | (go_at_call 19; ((with_reducible refine (tg.out _).mono ?_); rintro e w4 ⟨rfl, bb⟩; have b2 := Lib.hid (b1.out.andThen bb); clear bb)))
    all_goals go_wp2_with fail
    all_goals go_ret
    all_goals exact ⟨ret_str (by rw [← hO2.out, ← hB.out]), hb.out.trans (b2.out.mono hb.out.size)⟩
  by_cases e9 : kd = 9
  · subst e9
    have hB : Hid (text21 f ++ text21 g = D) := Lib.hid (by rw [← hBD.out]; simp [body21])
    clear hBD
    obtain ⟨zf, hzf⟩ : ∃ y, text21 f = y := ⟨_, rfl⟩
    rw [hzf] at tf mf hB
    clear hzf
    obtain ⟨zg, hzg⟩ : ∃ y, text21 g = y := ⟨_, rfl⟩
    rw [hzg] at tg mg hB
    clear hzg
    have a0 : ¬ 9223372036854775807 < Q.length + zf.length := by omega
    have a1 : ¬ 9223372036854775807 < Q.length + zf.length + zg.length := by omega
    go_wp2_with fail
    go_region_held3 (fun W => W.cell? ⟨w.heap.size, 1, none⟩ = some (.string ⟨f.toArray⟩) ∧ W.cell? ⟨w.heap.size, 2, none⟩ = some (.string ⟨g.toArray⟩)) (first | exact ⟨hkp.out _ b2.out 1, hkp.out _ b2.out 2⟩ | exact ⟨hkp.out _ b1.out 1, hkp.out _ b1.out 2⟩ | exact ⟨hkp.out _ ((drawn_drew _).below _) 1, hkp.out _ ((drawn_drew _).below _) 2⟩) (first
      | (go_at_call 19; ((with_reducible refine (tf.out _).mono ?_); rintro e w3 ⟨rfl, bb⟩; have b1 := Lib.hid (((drawn_drew W2).below W2.heap.size).andThen bb); clear bb))
      | (go_at_call 19; ((with_reducible refine (tg.out _).mono ?_); rintro e w4 ⟨rfl, bb⟩; have b2 := Lib.hid (b1.out.andThen bb); clear bb)))
    all_goals go_wp2_with fail
    all_goals go_ret
    all_goals exact ⟨ret_str (by rw [← hO2.out, ← hB.out]), hb.out.trans (b2.out.mono hb.out.size)⟩
  by_cases e8 : kd = 8
  · subst e8
    have hB : Hid (int21 fi ++ int21 n ++ text21 cu = D) := Lib.hid (by rw [← hBD.out]; simp [body21])
    clear hBD
    obtain ⟨zfi, hzfi⟩ : ∃ y, int21 fi = y := ⟨_, rfl⟩
    rw [hzfi] at tfi mfi hB
    clear hzfi
    obtain ⟨zn, hzn⟩ : ∃ y, int21 n = y := ⟨_, rfl⟩
    rw [hzn] at tn mn hB
    clear hzn
    obtain ⟨zcu, hzcu⟩ : ∃ y, text21 cu = y := ⟨_, rfl⟩
    rw [hzcu] at tcu mcu hB
    clear hzcu
    have a0 : ¬ 9223372036854775807 < Q.length + zfi.length := by omega
    have a1 : ¬ 9223372036854775807 < Q.length + zfi.length + zn.length := by omega
    have a2 : ¬ 9223372036854775807 < Q.length + (zfi.length + zn.length) + zcu.length := by omega
    go_wp2_with fail
    go_region_held3 (fun W => W.cell? ⟨w.heap.size, 5, none⟩ = some (.int .i64 fi) ∧ W.cell? ⟨w.heap.size, 4, none⟩ = some (.int .i64 n) ∧ W.cell? ⟨w.heap.size, 6, none⟩ = some (.string ⟨cu.toArray⟩)) (first | exact ⟨hkp.out _ b3.out 5, hkp.out _ b3.out 4, hkp.out _ b3.out 6⟩ | exact ⟨hkp.out _ b2.out 5, hkp.out _ b2.out 4, hkp.out _ b2.out 6⟩ | exact ⟨hkp.out _ b1.out 5, hkp.out _ b1.out 4, hkp.out _ b1.out 6⟩ | exact ⟨hkp.out _ ((drawn_drew _).below _) 5, hkp.out _ ((drawn_drew _).below _) 4, hkp.out _ ((drawn_drew _).below _) 6⟩) (first
      | (go_at_call 17; ((with_reducible refine (tfi.out _).mono ?_); rintro e w3 ⟨rfl, bb⟩; have b1 := Lib.hid (((drawn_drew W2).below W2.heap.size).andThen bb); clear bb))
      | (go_at_call 17; ((with_reducible refine (tn.out _).mono ?_); rintro e w4 ⟨rfl, bb⟩; have b2 := Lib.hid (b1.out.andThen bb); clear bb))
      | (go_at_call 19; ((with_reducible refine (tcu.out _).mono ?_); rintro e w5 ⟨rfl, bb⟩; have b3 := Lib.hid (b2.out.andThen bb); clear bb)))
    all_goals go_wp2_with fail
    all_goals go_ret
    all_goals exact ⟨ret_str (by rw [← hO2.out, ← hB.out]; simp), hb.out.trans (b3.out.mono hb.out.size)⟩
  have hB := Lib.hid (show D = [] by rw [← hBD.out]; exact body_else e1 e2 e3 e4 e5 e6 e8 e9)
  have q1 : (kd == 1) = false := by simpa using e1
  have q2 : (kd == 2) = false := by simpa using e2
  have q3 : (kd == 3) = false := by simpa using e3
  have q4 : (kd == 4) = false := by simpa using e4
  have q5 : (kd == 5) = false := by simpa using e5
  have q6 : (kd == 6) = false := by simpa using e6
  have q8 : (kd == 8) = false := by simpa using e8
  have q9 : (kd == 9) = false := by simpa using e9
  clear e1 e2 e3 e4 e5 e6 e8 e9 hBD
  go_wp2_with fail
  go_ret
  exact ⟨ret_str (by rw [← hO2.out, hB.out, List.append_nil]), hb.out⟩
end Go.Proofs.Ytpfcamebkcengaa
