/- Layer 21, the reference: entries as bytes. -/
import Derived.Test.YtpfcamebkcengaaR21h
namespace Go.Proofs.Ytpfcamebkcengaa
open Go.RowKit

/-- An entry with texts that aren't long. -/
structure EnLn (x : En21) (n : Nat) : Prop where
  f : x.key.feed.length ≤ n
  g : x.key.guid.length ≤ n
  t : x.title.length ≤ n
  l : x.link.length ≤ n
  b : x.body.length ≤ n
  s1 : -9223372036854775808 ≤ x.stamp
  s2 : x.stamp ≤ 9223372036854775807
  sg : x.sig < 18446744073709551616
set_option maxHeartbeats 8000000 in
set_option maxRecDepth 100000 in
theorem rentry_any (x : En21) (w : World) (hx : EnLn x 140737488355000) :
    Calls Try.prog 46 #[enV x] w (StrW w (ent21 x)) := by
  have hb0 := Lib.hid ((Below.refl w.heap.size w).alloc (Nat.le_refl _) (.cells (enC x).toArray 53))
  have hK := Lib.hid (arrAt_new w 53 (enC x))
  obtain ⟨⟨f, g⟩, t, lk, by_, st, sg⟩ := x
  obtain ⟨l1, l2, l3, l4, l5, s1, s2, s3⟩ := hx
  simp only at l1 l2 l3 l4 l5 s1 s2 s3
  have tk := Lib.hid (fun W => rkey_any ⟨f, g⟩ W l1 l2)
  have tt := Lib.hid (fun W => rtext_any t W (by omega))
  have tl := Lib.hid (fun W => rtext_any lk W (by omega))
  have tb := Lib.hid (fun W => rtext_any by_ W (by omega))
  have ts := Lib.hid (fun W => rint_any st W s1 s2)
  have tg := Lib.hid (fun W => reight_any sg W s3)
  have mk : (key21 ⟨f, g⟩).length ≤ 281474976710020 := by
    have := text_len_big f l1
    have := text_len_big g l2
    unfold key21
    rw [List.length_append]
    simp only
    omega
  have mt := text_len_big t l3
  have ml := text_len_big lk l4
  have mb := text_len_big by_ l5
  have ms := (int_len_bd s1 s2).2
  have mg := Nat.le_of_eq (le_len 8 sg)
  unfold enV ent21
  unfold enC kyV kyC at *
  simp only at *
  obtain ⟨zk, hzk⟩ : ∃ y, key21 ⟨f, g⟩ = y := ⟨_, rfl⟩
  rw [hzk] at tk mk ⊢
  clear hzk
  obtain ⟨zt, hzt⟩ : ∃ y, text21 t = y := ⟨_, rfl⟩
  rw [hzt] at tt mt ⊢
  clear hzt
  obtain ⟨zl, hzl⟩ : ∃ y, text21 lk = y := ⟨_, rfl⟩
  rw [hzl] at tl ml ⊢
  clear hzl
  obtain ⟨zb, hzb⟩ : ∃ y, text21 by_ = y := ⟨_, rfl⟩
  rw [hzb] at tb mb ⊢
  clear hzb
  obtain ⟨zs, hzs⟩ : ∃ y, int21 st = y := ⟨_, rfl⟩
  rw [hzs] at ts ms ⊢
  clear hzs
  obtain ⟨zg, hzg⟩ : ∃ y, le21 8 sg = y := ⟨_, rfl⟩
  rw [hzg] at tg mg ⊢
  clear hzg
  clear s1 s2 s3 l1 l2 l3 l4 l5
  go_enter Try.func46, Try.ntmps46
  go_upto_region 1 with fail
  refine hide_world (K := fun a w' => Code.wp _ _ _ a w') (R := fun W => ArrAt W w.heap.size 53 [.string ⟨f.toArray⟩, .string ⟨g.toArray⟩, .string ⟨t.toArray⟩, .string ⟨lk.toArray⟩, .string ⟨by_.toArray⟩, .int .i64 st, .int .u64 sg] ∧ Below w.heap.size w W) ⟨hK.out, hb0.out⟩ ?_
  intro W2 hW2
  clear hK hb0
  obtain ⟨hK, hb⟩ := hW2.out
  have hcell := fun i => hK.cell i
  have c0 := hcell 0
  have c1 := hcell 1
  have c2 := hcell 2
  have c3 := hcell 3
  have c4 := hcell 4
  have c5 := hcell 5
  have c6 := hcell 6
  simp only [List.getElem?_cons_zero, List.getElem?_cons_succ] at c0 c1 c2 c3 c4 c5 c6
  have hkp := Lib.hid (fun V (hb : Below W2.heap.size W2 V) i => (hK.next hb).cell i)
  replace hb := Lib.hid hb
  clear hcell hK hW2
  have a1 : ¬ 9223372036854775807 < zk.length + zt.length := by omega
  have a2 : ¬ 9223372036854775807 < zk.length + zt.length + zl.length := by omega
  have a3 : ¬ 9223372036854775807 < zk.length + (zt.length + zl.length) + zb.length := by omega
  have a4 : ¬ 9223372036854775807 < zk.length + (zt.length + (zl.length + zb.length)) + zs.length := by omega
  have a5 : ¬ 9223372036854775807 < zk.length + (zt.length + (zl.length + (zb.length + zs.length))) + zg.length := by omega
  go_region_held3 (fun W => W.cell? ⟨w.heap.size, 0, none⟩ = some (.string ⟨f.toArray⟩) ∧ W.cell? ⟨w.heap.size, 1, none⟩ = some (.string ⟨g.toArray⟩) ∧ W.cell? ⟨w.heap.size, 2, none⟩ = some (.string ⟨t.toArray⟩) ∧ W.cell? ⟨w.heap.size, 3, none⟩ = some (.string ⟨lk.toArray⟩) ∧ W.cell? ⟨w.heap.size, 4, none⟩ = some (.string ⟨by_.toArray⟩) ∧ W.cell? ⟨w.heap.size, 5, none⟩ = some (.int .i64 st) ∧ W.cell? ⟨w.heap.size, 6, none⟩ = some (.int .u64 sg)) (first | exact ⟨hkp.out _ b6.out 0, hkp.out _ b6.out 1, hkp.out _ b6.out 2, hkp.out _ b6.out 3, hkp.out _ b6.out 4, hkp.out _ b6.out 5, hkp.out _ b6.out 6⟩ | exact ⟨hkp.out _ b5.out 0, hkp.out _ b5.out 1, hkp.out _ b5.out 2, hkp.out _ b5.out 3, hkp.out _ b5.out 4, hkp.out _ b5.out 5, hkp.out _ b5.out 6⟩ | exact ⟨hkp.out _ b4.out 0, hkp.out _ b4.out 1, hkp.out _ b4.out 2, hkp.out _ b4.out 3, hkp.out _ b4.out 4, hkp.out _ b4.out 5, hkp.out _ b4.out 6⟩ | exact ⟨hkp.out _ b3.out 0, hkp.out _ b3.out 1, hkp.out _ b3.out 2, hkp.out _ b3.out 3, hkp.out _ b3.out 4, hkp.out _ b3.out 5, hkp.out _ b3.out 6⟩ | exact ⟨hkp.out _ b2.out 0, hkp.out _ b2.out 1, hkp.out _ b2.out 2, hkp.out _ b2.out 3, hkp.out _ b2.out 4, hkp.out _ b2.out 5, hkp.out _ b2.out 6⟩ | exact ⟨hkp.out _ b1.out 0, hkp.out _ b1.out 1, hkp.out _ b1.out 2, hkp.out _ b1.out 3, hkp.out _ b1.out 4, hkp.out _ b1.out 5, hkp.out _ b1.out 6⟩ | exact ⟨hkp.out _ ((drawn_drew _).below _) 0, hkp.out _ ((drawn_drew _).below _) 1, hkp.out _ ((drawn_drew _).below _) 2, hkp.out _ ((drawn_drew _).below _) 3, hkp.out _ ((drawn_drew _).below _) 4, hkp.out _ ((drawn_drew _).below _) 5, hkp.out _ ((drawn_drew _).below _) 6⟩) (first
    | (go_at_call 47; ((with_reducible refine (tk.out _).mono ?_); rintro e w3 ⟨rfl, bb⟩; have b1 := Lib.hid (((drawn_drew W2).below W2.heap.size).andThen bb); clear bb))
    | (go_at_call 19; ((with_reducible refine (tt.out _).mono ?_); rintro e w4 ⟨rfl, bb⟩; have b2 := Lib.hid (b1.out.andThen bb); clear bb))
    | (go_at_call 19; ((with_reducible refine (tl.out _).mono ?_); rintro e w5 ⟨rfl, bb⟩; have b3 := Lib.hid (b2.out.andThen bb); clear bb))
    | (go_at_call 19; ((with_reducible refine (tb.out _).mono ?_); rintro e w6 ⟨rfl, bb⟩; have b4 := Lib.hid (b3.out.andThen bb); clear bb))
    | (go_at_call 17; ((with_reducible refine (ts.out _).mono ?_); rintro e w7 ⟨rfl, bb⟩; have b5 := Lib.hid (b4.out.andThen bb); clear bb))
    | (go_at_call 68; ((with_reducible refine (tg.out _).mono ?_); rintro e w8 ⟨rfl, bb⟩; have b6 := Lib.hid (b5.out.andThen bb); clear bb)))
  all_goals go_wp2_with fail
  all_goals go_ret
  all_goals exact ⟨ret_str (by simp), hb.out.trans (b6.out.mono hb.out.size)⟩
end Go.Proofs.Ytpfcamebkcengaa
