/- Layer 21: the law WireCommands. -/
import Derived.Test.YtpfcamebkcengaaD21t
import Derived.Test.YtpfcamebkcengaaR21f
namespace Go.Proofs.Ytpfcamebkcengaa
open Go.RowKit

set_option maxHeartbeats 8000000 in
set_option maxRecDepth 100000 in
theorem cmds_law (c : Cm21) (s : List UInt8) (w : World) (hc : CmBd c) (hs : s.length ≤ 9223372036854775807) :
    Calls Try.prog 5 #[cmV c, .string ⟨s.toArray⟩] w (LawPost w) := by
  have haw := Lib.hid awake21_any
  have hb0 := (Below.refl w.heap.size w).alloc (Nat.le_refl _) (.cells (cmC c).toArray 32)
  have hK := arrAt_new w 32 (cmC c)
  by_cases hlong : 5000 < (c.feed.length : Int) ∨ (¬ 5000 < (c.feed.length : Int) ∧ 5000 < (c.guid.length : Int)) ∨ (¬ 5000 < (c.feed.length : Int) ∧ ¬ 5000 < (c.guid.length : Int) ∧ 5000 < (c.doc.length : Int)) ∨ (¬ 5000 < (c.feed.length : Int) ∧ ¬ 5000 < (c.guid.length : Int) ∧ ¬ 5000 < (c.doc.length : Int) ∧ 5000 < (c.cursor.length : Int)) ∨ (¬ 5000 < (c.feed.length : Int) ∧ ¬ 5000 < (c.guid.length : Int) ∧ ¬ 5000 < (c.doc.length : Int) ∧ ¬ 5000 < (c.cursor.length : Int) ∧ 5000 < (s.length : Int))
  · obtain ⟨x1, x2, x3, x4, x5, x6, x7, x8, x9, x10⟩ := hc
    obtain ⟨kd, f, g, d, cu, n, fi⟩ := c
    unfold cmV
    unfold cmC at *
    simp only at *
    replace hK := Lib.hid hK
    replace hb0 := Lib.hid hb0
    rcases hlong with h | ⟨h1, h⟩ | ⟨h1, h2, h⟩ | ⟨h1, h2, h3, h⟩ | ⟨h1, h2, h3, h4, h⟩
    all_goals
      go_enter Try.func5, Try.ntmps5
      go_wp2_with fail
      refine (haw.out _).mono ?_
      rintro e w1 ⟨rfl, b1⟩
      have hb1 := Lib.hid (hb0.out.trans (b1.mono hb0.out.size))
      clear b1
      go_wp2_with fail
      go_ret
      exact ⟨rfl, hb1.out⟩
  have l1 : ¬ 5000 < (c.feed.length : Int) := by omega
  have l2 : ¬ 5000 < (c.guid.length : Int) := by omega
  have l3 : ¬ 5000 < (c.doc.length : Int) := by omega
  have l4 : ¬ 5000 < (c.cursor.length : Int) := by omega
  have l5 : ¬ 5000 < (s.length : Int) := by omega
  clear hlong
  have hra := fun W => readCommand21_any s W (by omega)
  have hrb := fun W => rreadCommand_any s W (by omega)
  obtain ⟨⟨co, a⟩, hca⟩ : ∃ p, readC21 s = p := ⟨_, rfl⟩
  rw [hca] at hra hrb
  simp only at hra hrb
  have hlc := cmd_len hc (by omega) (by omega) (by omega) (by omega)
  have hcC := fun W => cmd21_any W c hc (by omega)
  have hcD := fun W => rcmd_any c W hc (by omega) (by omega) (by omega) (by omega)
  unfold StrW at hcD
  generalize cmd21 c = D at *
  obtain ⟨kd, f, g, d, cu, n, fi⟩ := c
  obtain ⟨ak, af, ag, ad, acu, an, afi⟩ := a
  unfold cmV
  unfold cmV at hra hrb hcC hcD
  unfold cmC at *
  simp only at *
  replace hK := Lib.hid hK
  replace hb0 := Lib.hid hb0
  replace hra := Lib.hid hra
  replace hrb := Lib.hid hrb
  replace hcC := Lib.hid hcC
  replace hcD := Lib.hid hcD
  clear hca hc
  go_enter Try.func5, Try.ntmps5
  go_wp2_with fail
  refine (hra.out _).mono ?_
  rintro e w1 ⟨rfl, b1⟩
  have hbk := (Below.refl w1.heap.size w1).alloc (Nat.le_refl _) (.cells [Value.int .i64 ak, .string ⟨af.toArray⟩, .string ⟨ag.toArray⟩, .string ⟨ad.toArray⟩, .int .i64 an, .int .i64 afi, .string ⟨acu.toArray⟩].toArray 32)
  have hK1 := Lib.hid ((hK.out.next b1).next hbk)
  have hb1 := Lib.hid ((hb0.out.trans (b1.mono hb0.out.size)).trans (hbk.mono (Nat.le_trans hb0.out.size b1.size)))
  have hA := Lib.hid (arrAt_new w1 32 [Value.int .i64 ak, .string ⟨af.toArray⟩, .string ⟨ag.toArray⟩, .string ⟨ad.toArray⟩, .int .i64 an, .int .i64 afi, .string ⟨acu.toArray⟩])
  clear b1 hra hbk hb0 hK
  go_upto_region 4 with fail
  refine hide_world (K := fun a w' => Code.wp _ _ _ a w') (R := fun W => ArrAt W w.heap.size 32 [Value.int .i64 kd, .string ⟨f.toArray⟩, .string ⟨g.toArray⟩, .string ⟨d.toArray⟩, .int .i64 n, .int .i64 fi, .string ⟨cu.toArray⟩] ∧ ArrAt W w1.heap.size 32 [Value.int .i64 ak, .string ⟨af.toArray⟩, .string ⟨ag.toArray⟩, .string ⟨ad.toArray⟩, .int .i64 an, .int .i64 afi, .string ⟨acu.toArray⟩] ∧ Below w.heap.size w W) ⟨hK1.out, hA.out, hb1.out⟩ ?_
  intro W2 hW2
  clear hK1 hA hb1
  obtain ⟨hK2, hA2, hb2⟩ := hW2.out
  obtain ⟨K5, hK5⟩ : ∃ K5, w1.heap.size = K5 := ⟨_, rfl⟩
  rw [hK5] at hA2 ⊢
  replace hK5 := Lib.hid hK5
  replace hK2 := Lib.hid hK2
  replace hA2 := Lib.hid hA2
  replace hb2 := Lib.hid hb2
  clear hW2
  go_wp2_with fail
  refine (hrb.out _).mono ?_
  rintro e w3 ⟨rfl, b3⟩
  have hbk := (Below.refl w3.heap.size w3).alloc (Nat.le_refl _) (.cells [Value.int .i64 ak, .string ⟨af.toArray⟩, .string ⟨ag.toArray⟩, .string ⟨ad.toArray⟩, .int .i64 an, .int .i64 afi, .string ⟨acu.toArray⟩].toArray 32)
  have hK3 := Lib.hid ((hK2.out.next b3).next hbk)
  have hA3 := Lib.hid ((hA2.out.next b3).next hbk)
  have hb3 := Lib.hid ((hb2.out.trans (b3.mono hb2.out.size)).trans (hbk.mono (Nat.le_trans hb2.out.size b3.size)))
  have hB := Lib.hid (arrAt_new w3 32 [Value.int .i64 ak, .string ⟨af.toArray⟩, .string ⟨ag.toArray⟩, .string ⟨ad.toArray⟩, .int .i64 an, .int .i64 afi, .string ⟨acu.toArray⟩])
  clear b3 hrb hbk hb2 hK2 hA2
  go_upto_region 5 with fail
  refine hide_world (K := fun a w' => Code.wp _ _ _ a w') (R := fun W => ArrAt W w.heap.size 32 [Value.int .i64 kd, .string ⟨f.toArray⟩, .string ⟨g.toArray⟩, .string ⟨d.toArray⟩, .int .i64 n, .int .i64 fi, .string ⟨cu.toArray⟩] ∧ ArrAt W K5 32 [Value.int .i64 ak, .string ⟨af.toArray⟩, .string ⟨ag.toArray⟩, .string ⟨ad.toArray⟩, .int .i64 an, .int .i64 afi, .string ⟨acu.toArray⟩] ∧ ArrAt W w3.heap.size 32 [Value.int .i64 ak, .string ⟨af.toArray⟩, .string ⟨ag.toArray⟩, .string ⟨ad.toArray⟩, .int .i64 an, .int .i64 afi, .string ⟨acu.toArray⟩] ∧ Below w.heap.size w W) ⟨hK3.out, hA3.out, hB.out, hb3.out⟩ ?_
  intro W8 hW8
  clear hK3 hA3 hB hb3
  obtain ⟨hK8, hA8, hB8, hb8⟩ := hW8.out
  obtain ⟨K7, hK7⟩ : ∃ K7, w3.heap.size = K7 := ⟨_, rfl⟩
  rw [hK7] at hB8 ⊢
  replace hK7 := Lib.hid hK7
  have hkp := Lib.hid (fun V (hb : Below W8.heap.size W8 V) => (⟨(hK8.next hb).cell 0, (hK8.next hb).cell 1, (hK8.next hb).cell 2, (hK8.next hb).cell 3, (hK8.next hb).cell 4, (hK8.next hb).cell 5, (hK8.next hb).cell 6, (hA8.next hb).cell 0, (hA8.next hb).cell 1, (hA8.next hb).cell 2, (hA8.next hb).cell 3, (hA8.next hb).cell 4, (hA8.next hb).cell 5, (hA8.next hb).cell 6, (hB8.next hb).cell 0, (hB8.next hb).cell 1, (hB8.next hb).cell 2, (hB8.next hb).cell 3, (hB8.next hb).cell 4, (hB8.next hb).cell 5, (hB8.next hb).cell 6⟩ : V.cell? ⟨w.heap.size, 0, none⟩ = some (.int .i64 kd) ∧ V.cell? ⟨w.heap.size, 1, none⟩ = some (.string ⟨f.toArray⟩) ∧ V.cell? ⟨w.heap.size, 2, none⟩ = some (.string ⟨g.toArray⟩) ∧ V.cell? ⟨w.heap.size, 3, none⟩ = some (.string ⟨d.toArray⟩) ∧ V.cell? ⟨w.heap.size, 4, none⟩ = some (.int .i64 n) ∧ V.cell? ⟨w.heap.size, 5, none⟩ = some (.int .i64 fi) ∧ V.cell? ⟨w.heap.size, 6, none⟩ = some (.string ⟨cu.toArray⟩) ∧ V.cell? ⟨K5, 0, none⟩ = some (.int .i64 ak) ∧ V.cell? ⟨K5, 1, none⟩ = some (.string ⟨af.toArray⟩) ∧ V.cell? ⟨K5, 2, none⟩ = some (.string ⟨ag.toArray⟩) ∧ V.cell? ⟨K5, 3, none⟩ = some (.string ⟨ad.toArray⟩) ∧ V.cell? ⟨K5, 4, none⟩ = some (.int .i64 an) ∧ V.cell? ⟨K5, 5, none⟩ = some (.int .i64 afi) ∧ V.cell? ⟨K5, 6, none⟩ = some (.string ⟨acu.toArray⟩) ∧ V.cell? ⟨K7, 0, none⟩ = some (.int .i64 ak) ∧ V.cell? ⟨K7, 1, none⟩ = some (.string ⟨af.toArray⟩) ∧ V.cell? ⟨K7, 2, none⟩ = some (.string ⟨ag.toArray⟩) ∧ V.cell? ⟨K7, 3, none⟩ = some (.string ⟨ad.toArray⟩) ∧ V.cell? ⟨K7, 4, none⟩ = some (.int .i64 an) ∧ V.cell? ⟨K7, 5, none⟩ = some (.int .i64 afi) ∧ V.cell? ⟨K7, 6, none⟩ = some (.string ⟨acu.toArray⟩)))
  replace hb8 := Lib.hid hb8
  clear hK8 hA8 hB8 hW8
  go_region_held3 (fun W => W.cell? ⟨w.heap.size, 0, none⟩ = some (.int .i64 kd) ∧ W.cell? ⟨w.heap.size, 1, none⟩ = some (.string ⟨f.toArray⟩) ∧ W.cell? ⟨w.heap.size, 2, none⟩ = some (.string ⟨g.toArray⟩) ∧ W.cell? ⟨w.heap.size, 3, none⟩ = some (.string ⟨d.toArray⟩) ∧ W.cell? ⟨w.heap.size, 4, none⟩ = some (.int .i64 n) ∧ W.cell? ⟨w.heap.size, 5, none⟩ = some (.int .i64 fi) ∧ W.cell? ⟨w.heap.size, 6, none⟩ = some (.string ⟨cu.toArray⟩) ∧ W.cell? ⟨K5, 0, none⟩ = some (.int .i64 ak) ∧ W.cell? ⟨K5, 1, none⟩ = some (.string ⟨af.toArray⟩) ∧ W.cell? ⟨K5, 2, none⟩ = some (.string ⟨ag.toArray⟩) ∧ W.cell? ⟨K5, 3, none⟩ = some (.string ⟨ad.toArray⟩) ∧ W.cell? ⟨K5, 4, none⟩ = some (.int .i64 an) ∧ W.cell? ⟨K5, 5, none⟩ = some (.int .i64 afi) ∧ W.cell? ⟨K5, 6, none⟩ = some (.string ⟨acu.toArray⟩) ∧ W.cell? ⟨K7, 0, none⟩ = some (.int .i64 ak) ∧ W.cell? ⟨K7, 1, none⟩ = some (.string ⟨af.toArray⟩) ∧ W.cell? ⟨K7, 2, none⟩ = some (.string ⟨ag.toArray⟩) ∧ W.cell? ⟨K7, 3, none⟩ = some (.string ⟨ad.toArray⟩) ∧ W.cell? ⟨K7, 4, none⟩ = some (.int .i64 an) ∧ W.cell? ⟨K7, 5, none⟩ = some (.int .i64 afi) ∧ W.cell? ⟨K7, 6, none⟩ = some (.string ⟨acu.toArray⟩)) (first | exact hkp.out _ b12.out | exact hkp.out _ b11.out | exact hkp.out _ b10.out | exact hkp.out _ ((drawn_drew _).below _)) (first
    | (go_at_call 11; ((with_reducible refine (haw.out _).mono ?_); rintro e w10 ⟨rfl, bb⟩; have b10 := Lib.hid (((drawn_drew W8).below W8.heap.size).andThen bb); clear bb))
    | (go_at_call 22; ((with_reducible refine (hcC.out _).mono ?_); rintro e w11 ⟨rfl, bb⟩; have b11 := Lib.hid (b10.out.andThen bb); clear bb))
    | (go_at_call 23; ((with_reducible refine (hcD.out _).mono ?_); rintro e w12 ⟨rfl, bb⟩; have b12 := Lib.hid (b11.out.andThen bb); clear bb)))
  go_wp2_with fail
  go_ret
  exact ⟨rfl, hb8.out.trans (b12.out.mono hb8.out.size)⟩
end Go.Proofs.Ytpfcamebkcengaa
