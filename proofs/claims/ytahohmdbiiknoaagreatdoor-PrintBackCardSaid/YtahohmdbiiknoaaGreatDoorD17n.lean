/- Layer 17, the program: item, entry (both printed by wip/tools/gen_print17.py), Rss, Atom. -/
import Derived.Lib.SlBytesConst
import Derived.Test.YtahohmdbiiknoaaGreatDoorD17m
import Derived.Test.YtahohmdbiiknoaaGreatDoorIa
import Derived.Test.YtahohmdbiiknoaaGreatDoorBR18
namespace Go.Proofs.YtahohmdbiiknoaaGreatDoor
open Go.RowKit

theorem item_u8 : 26 ≠ 5 := by decide
theorem ArrAt.u8 {w w' : World} {g : Nat} {t : TypeId} {c : List Value} (h : ArrAt w g t c) (o : U8Only w w') (ht : t ≠ 5) : ArrAt w' g t c := o _ _ _ _ h ht
theorem elB_len (nm x : List UInt8) : (elB nm x).length = 5 + 2 * nm.length + (escB x).length := el_len nm x

set_option maxHeartbeats 4000000 in
theorem item17_any (w0 w : World) (v : Value) (l : List UInt8) (x : It) (h : TxOn w0 w v l) (hE : Env13 w0) (hn : l.length + 6 * bytesI x ≤ 800000000000) :
    Calls Tryz.prog 25 #[v, itV x] w (TxPost w0 w (l ++ itemP itemL (rssF x))) := by
  have hbw : Below w.heap.size w (w.alloc (.cells (itC x).toArray 26)) := (Below.refl _ w).alloc (Nat.le_refl _) _
  have hr := arrAt_new w 26 (itC x)
  have ht := h.next hbw
  have hO := u8Only_below hbw
  clear h hbw
  obtain ⟨xg, xt, xl, xb, xd, xk⟩ := x
  unfold bytesI at hn
  simp only at hn
  replace hE := Lib.hid hE
  unfold itV itC
  unfold itC at hr ht hO
  simp only at hr ht hO ⊢
  replace hr := Lib.hid hr
  replace ht := Lib.hid ht
  replace hO := Lib.hid hO
  go_enter Tryz.func25, Tryz.ntmps25
  go_wp2_with (at_builtin; go_must (refine wpList_appendE rfl _ _ 51 9 rfl Tryz.underlying51 Tryz.underlying9 info_u8 w0.heap.size _ l [60, 105, 116, 101, 109, 62] ht.out.1 rfl rfl (by simp only [List.length_cons, List.length_nil]; omega) ht.out.low ?_))
  intro v W h1 hb o1
  replace ht := ht.out.step h1 hb
  replace hr := Lib.hid (hr.out.u8 o1 item_u8)
  replace hO := Lib.hid (hO.out.trans o1)
  clear h1 hb o1
  obtain ⟨T1, hT1⟩ : ∃ T, l ++ [60, 105, 116, 101, 109, 62] = T := ⟨_, rfl⟩
  have hl1 : T1.length = l.length + 6 := by rw [← hT1, List.length_append]; simp only [List.length_cons, List.length_nil] <;> omega
  rw [hT1] at ht
  replace hT1 := Lib.hid hT1
  replace ht := Lib.hid ht
  have c0 : W.cell? ⟨w.heap.size, 0, none⟩ = some (.string ⟨xg.toArray⟩) := hr.out.cell 0
  have hc := Lib.hid (element17_any w0 W v T1 [103, 117, 105, 100] xg ht.out (by decide) (by omega))
  go_wp2_with fail
  refine hc.out.mono ?_
  rintro e W ⟨v, rfl, ht, o1⟩
  replace hr := Lib.hid (hr.out.u8 o1 item_u8)
  replace hO := Lib.hid (hO.out.trans o1)
  clear hc o1
  obtain ⟨T2, hT2⟩ : ∃ T, T1 ++ elB [103, 117, 105, 100] xg = T := ⟨_, rfl⟩
  have hl2 : T2.length = T1.length + (13 + (escB xg).length) := by rw [← hT2, List.length_append]; have := elB_len [103, 117, 105, 100] xg; simp only [List.length_cons, List.length_nil] at this; omega
  rw [hT2] at ht
  replace hT2 := Lib.hid hT2
  replace ht := Lib.hid ht
  have he0 := escB_len xg
  clear c0
  have c1 : W.cell? ⟨w.heap.size, 1, none⟩ = some (.string ⟨xt.toArray⟩) := hr.out.cell 1
  have hc := Lib.hid (element17_any w0 W v T2 [116, 105, 116, 108, 101] xt ht.out (by decide) (by omega))
  go_wp2_with fail
  refine hc.out.mono ?_
  rintro e W ⟨v, rfl, ht, o1⟩
  replace hr := Lib.hid (hr.out.u8 o1 item_u8)
  replace hO := Lib.hid (hO.out.trans o1)
  clear hc o1
  obtain ⟨T3, hT3⟩ : ∃ T, T2 ++ elB [116, 105, 116, 108, 101] xt = T := ⟨_, rfl⟩
  have hl3 : T3.length = T2.length + (15 + (escB xt).length) := by rw [← hT3, List.length_append]; have := elB_len [116, 105, 116, 108, 101] xt; simp only [List.length_cons, List.length_nil] at this; omega
  rw [hT3] at ht
  replace hT3 := Lib.hid hT3
  replace ht := Lib.hid ht
  have he1 := escB_len xt
  clear c1
  have c2 : W.cell? ⟨w.heap.size, 2, none⟩ = some (.string ⟨xl.toArray⟩) := hr.out.cell 2
  have hc := Lib.hid (element17_any w0 W v T3 [108, 105, 110, 107] xl ht.out (by decide) (by omega))
  go_wp2_with fail
  refine hc.out.mono ?_
  rintro e W ⟨v, rfl, ht, o1⟩
  replace hr := Lib.hid (hr.out.u8 o1 item_u8)
  replace hO := Lib.hid (hO.out.trans o1)
  clear hc o1
  obtain ⟨T4, hT4⟩ : ∃ T, T3 ++ elB [108, 105, 110, 107] xl = T := ⟨_, rfl⟩
  have hl4 : T4.length = T3.length + (13 + (escB xl).length) := by rw [← hT4, List.length_append]; have := elB_len [108, 105, 110, 107] xl; simp only [List.length_cons, List.length_nil] at this; omega
  rw [hT4] at ht
  replace hT4 := Lib.hid hT4
  replace ht := Lib.hid ht
  have he2 := escB_len xl
  clear c2
  have c3 : W.cell? ⟨w.heap.size, 3, none⟩ = some (.string ⟨xb.toArray⟩) := hr.out.cell 3
  have hc := Lib.hid (element17_any w0 W v T4 [100, 101, 115, 99, 114, 105, 112, 116, 105, 111, 110] xb ht.out (by decide) (by omega))
  go_wp2_with fail
  refine hc.out.mono ?_
  rintro e W ⟨v, rfl, ht, o1⟩
  replace hr := Lib.hid (hr.out.u8 o1 item_u8)
  replace hO := Lib.hid (hO.out.trans o1)
  clear hc o1
  obtain ⟨T5, hT5⟩ : ∃ T, T4 ++ elB [100, 101, 115, 99, 114, 105, 112, 116, 105, 111, 110] xb = T := ⟨_, rfl⟩
  have hl5 : T5.length = T4.length + (27 + (escB xb).length) := by rw [← hT5, List.length_append]; have := elB_len [100, 101, 115, 99, 114, 105, 112, 116, 105, 111, 110] xb; simp only [List.length_cons, List.length_nil] at this; omega
  rw [hT5] at ht
  replace hT5 := Lib.hid hT5
  replace ht := Lib.hid ht
  have he3 := escB_len xb
  clear c3
  have c5 : W.cell? ⟨w.heap.size, 5, none⟩ = some (.bool xk) := hr.out.cell 5
  cases xk
  · skip
    go_wp2_with (at_builtin; go_must (refine wpList_appendE rfl _ _ 51 9 rfl Tryz.underlying51 Tryz.underlying9 info_u8 w0.heap.size _ T5 [60, 47, 105, 116, 101, 109, 62, 10] ht.out.1 rfl rfl (by simp only [List.length_cons, List.length_nil]; omega) ht.out.low ?_))
    intro v W h1 hb o1
    replace ht := ht.out.step h1 hb
    replace hr := Lib.hid (hr.out.u8 o1 item_u8)
    replace hO := Lib.hid (hO.out.trans o1)
    clear h1 hb o1
    obtain ⟨T6, hT6⟩ : ∃ T, T5 ++ [60, 47, 105, 116, 101, 109, 62, 10] = T := ⟨_, rfl⟩
    have hl6 : T6.length = T5.length + 8 := by rw [← hT6, List.length_append]; simp only [List.length_cons, List.length_nil] <;> omega
    rw [hT6] at ht
    replace hT6 := Lib.hid hT6
    replace ht := Lib.hid ht
    have ht2 := Lib.hid (show TxOn w0 W v (l ++ itemP itemL (rssF ⟨xg, xt, xl, xb, xd, false⟩)) from ht.out.to (by rw [← hT6.out, ← hT5.out, ← hT4.out, ← hT3.out, ← hT2.out, ← hT1.out]; simp [itemP, rssF, elB, Pf.bytes, guidL, titleL, linkL, descL, itemL, List.flatMap_cons]))
    clear ht
    go_wp2_with fail
    go_ret
    exact ⟨_, rfl, ht2.out, hO.out⟩
  · skip
    have c4 : W.cell? ⟨w.heap.size, 4, none⟩ = some (.int .i64 xd) := hr.out.cell 4
    have hc := Lib.hid (print82_any xd W (hE.out.below ht.out.2))
    go_wp2_with fail
    refine hc.out.mono ?_
    rintro e W1 ⟨rfl, hb1⟩
    replace ht := ht.out.next hb1
    replace hr := Lib.hid (hr.out.next hb1)
    replace hO := Lib.hid (hO.out.trans (u8Only_below hb1))
    have hp := print82_len xd
    clear hc hb1 c4 c5
    obtain ⟨pd, hpd⟩ : ∃ pd, print82 xd = pd := ⟨_, rfl⟩
    rw [hpd] at hp ⊢
    replace hpd := Lib.hid hpd
    replace ht := Lib.hid ht
    have hc := Lib.hid (element17_any w0 W1 v T5 [112, 117, 98, 68, 97, 116, 101] pd ht.out (by decide) (by omega))
    go_wp2_with fail
    refine hc.out.mono ?_
    rintro e W ⟨v, rfl, ht, o1⟩
    replace hr := Lib.hid (hr.out.u8 o1 item_u8)
    replace hO := Lib.hid (hO.out.trans o1)
    clear hc o1
    obtain ⟨T7, hT7⟩ : ∃ T, T5 ++ elB [112, 117, 98, 68, 97, 116, 101] pd = T := ⟨_, rfl⟩
    have hl7 : T7.length = T5.length + (19 + (escB pd).length) := by rw [← hT7, List.length_append]; have := elB_len [112, 117, 98, 68, 97, 116, 101] pd; simp only [List.length_cons, List.length_nil] at this; omega
    rw [hT7] at ht
    replace hT7 := Lib.hid hT7
    replace ht := Lib.hid ht
    have hep := escB_len pd
    go_wp2_with (at_builtin; go_must (refine wpList_appendE rfl _ _ 51 9 rfl Tryz.underlying51 Tryz.underlying9 info_u8 w0.heap.size _ T7 [60, 47, 105, 116, 101, 109, 62, 10] ht.out.1 rfl rfl (by simp only [List.length_cons, List.length_nil]; omega) ht.out.low ?_))
    intro v W h1 hb o1
    replace ht := ht.out.step h1 hb
    replace hr := Lib.hid (hr.out.u8 o1 item_u8)
    replace hO := Lib.hid (hO.out.trans o1)
    clear h1 hb o1
    obtain ⟨T8, hT8⟩ : ∃ T, T7 ++ [60, 47, 105, 116, 101, 109, 62, 10] = T := ⟨_, rfl⟩
    have hl8 : T8.length = T7.length + 8 := by rw [← hT8, List.length_append]; simp only [List.length_cons, List.length_nil] <;> omega
    rw [hT8] at ht
    replace hT8 := Lib.hid hT8
    replace ht := Lib.hid ht
    have ht2 := Lib.hid (show TxOn w0 W v (l ++ itemP itemL (rssF ⟨xg, xt, xl, xb, xd, true⟩)) from ht.out.to (by rw [← hT8.out, ← hT7.out, ← hT5.out, ← hT4.out, ← hT3.out, ← hT2.out, ← hT1.out]; rw [← hpd.out]; simp [itemP, rssF, elB, Pf.bytes, guidL, titleL, linkL, descL, pubL, itemL, List.flatMap_cons]))
    clear ht
    go_wp2_with fail
    go_ret
    exact ⟨_, rfl, ht2.out, hO.out⟩

set_option maxHeartbeats 4000000 in
theorem entry17_any (w0 w : World) (v : Value) (l : List UInt8) (x : It) (h : TxOn w0 w v l) (hE : Env13 w0) (hn : l.length + 6 * bytesI x ≤ 800000000000) :
    Calls Tryz.prog 26 #[v, itV x] w (TxPost w0 w (l ++ itemP entryL (atomF x))) := by
  have hbw : Below w.heap.size w (w.alloc (.cells (itC x).toArray 26)) := (Below.refl _ w).alloc (Nat.le_refl _) _
  have hr := arrAt_new w 26 (itC x)
  have ht := h.next hbw
  have hO := u8Only_below hbw
  clear h hbw
  obtain ⟨xg, xt, xl, xb, xd, xk⟩ := x
  unfold bytesI at hn
  simp only at hn
  replace hE := Lib.hid hE
  unfold itV itC
  unfold itC at hr ht hO
  simp only at hr ht hO ⊢
  replace hr := Lib.hid hr
  replace ht := Lib.hid ht
  replace hO := Lib.hid hO
  go_enter Tryz.func26, Tryz.ntmps26
  go_wp2_with (at_builtin; go_must (refine wpList_appendE rfl _ _ 51 9 rfl Tryz.underlying51 Tryz.underlying9 info_u8 w0.heap.size _ l [60, 101, 110, 116, 114, 121, 62] ht.out.1 rfl rfl (by simp only [List.length_cons, List.length_nil]; omega) ht.out.low ?_))
  intro v W h1 hb o1
  replace ht := ht.out.step h1 hb
  replace hr := Lib.hid (hr.out.u8 o1 item_u8)
  replace hO := Lib.hid (hO.out.trans o1)
  clear h1 hb o1
  obtain ⟨T1, hT1⟩ : ∃ T, l ++ [60, 101, 110, 116, 114, 121, 62] = T := ⟨_, rfl⟩
  have hl1 : T1.length = l.length + 7 := by rw [← hT1, List.length_append]; simp only [List.length_cons, List.length_nil] <;> omega
  rw [hT1] at ht
  replace hT1 := Lib.hid hT1
  replace ht := Lib.hid ht
  have c0 : W.cell? ⟨w.heap.size, 0, none⟩ = some (.string ⟨xg.toArray⟩) := hr.out.cell 0
  have hc := Lib.hid (element17_any w0 W v T1 [105, 100] xg ht.out (by decide) (by omega))
  go_wp2_with fail
  refine hc.out.mono ?_
  rintro e W ⟨v, rfl, ht, o1⟩
  replace hr := Lib.hid (hr.out.u8 o1 item_u8)
  replace hO := Lib.hid (hO.out.trans o1)
  clear hc o1
  obtain ⟨T2, hT2⟩ : ∃ T, T1 ++ elB [105, 100] xg = T := ⟨_, rfl⟩
  have hl2 : T2.length = T1.length + (9 + (escB xg).length) := by rw [← hT2, List.length_append]; have := elB_len [105, 100] xg; simp only [List.length_cons, List.length_nil] at this; omega
  rw [hT2] at ht
  replace hT2 := Lib.hid hT2
  replace ht := Lib.hid ht
  have he0 := escB_len xg
  clear c0
  have c1 : W.cell? ⟨w.heap.size, 1, none⟩ = some (.string ⟨xt.toArray⟩) := hr.out.cell 1
  have hc := Lib.hid (element17_any w0 W v T2 [116, 105, 116, 108, 101] xt ht.out (by decide) (by omega))
  go_wp2_with fail
  refine hc.out.mono ?_
  rintro e W ⟨v, rfl, ht, o1⟩
  replace hr := Lib.hid (hr.out.u8 o1 item_u8)
  replace hO := Lib.hid (hO.out.trans o1)
  clear hc o1
  obtain ⟨T3, hT3⟩ : ∃ T, T2 ++ elB [116, 105, 116, 108, 101] xt = T := ⟨_, rfl⟩
  have hl3 : T3.length = T2.length + (15 + (escB xt).length) := by rw [← hT3, List.length_append]; have := elB_len [116, 105, 116, 108, 101] xt; simp only [List.length_cons, List.length_nil] at this; omega
  rw [hT3] at ht
  replace hT3 := Lib.hid hT3
  replace ht := Lib.hid ht
  have he1 := escB_len xt
  clear c1
  go_wp2_with (at_builtin; go_must (refine wpList_appendE rfl _ _ 51 9 rfl Tryz.underlying51 Tryz.underlying9 info_u8 w0.heap.size _ T3 [60, 108, 105, 110, 107, 32, 104, 114, 101, 102, 61, 34] ht.out.1 rfl rfl (by simp only [List.length_cons, List.length_nil]; omega) ht.out.low ?_))
  intro v W h1 hb o1
  replace ht := ht.out.step h1 hb
  replace hr := Lib.hid (hr.out.u8 o1 item_u8)
  replace hO := Lib.hid (hO.out.trans o1)
  clear h1 hb o1
  obtain ⟨T4, hT4⟩ : ∃ T, T3 ++ [60, 108, 105, 110, 107, 32, 104, 114, 101, 102, 61, 34] = T := ⟨_, rfl⟩
  have hl4 : T4.length = T3.length + 12 := by rw [← hT4, List.length_append]; simp only [List.length_cons, List.length_nil] <;> omega
  rw [hT4] at ht
  replace hT4 := Lib.hid hT4
  replace ht := Lib.hid ht
  have c2 : W.cell? ⟨w.heap.size, 2, none⟩ = some (.string ⟨xl.toArray⟩) := hr.out.cell 2
  have hc := Lib.hid (hide17_any w0 W v T4 xl ht.out (by omega))
  go_wp2_with fail
  refine hc.out.mono ?_
  rintro e W ⟨v, rfl, ht, o1⟩
  replace hr := Lib.hid (hr.out.u8 o1 item_u8)
  replace hO := Lib.hid (hO.out.trans o1)
  clear hc o1
  obtain ⟨T5, hT5⟩ : ∃ T, T4 ++ escB xl = T := ⟨_, rfl⟩
  have hl5 : T5.length = T4.length + (escB xl).length := by rw [← hT5, List.length_append]
  rw [hT5] at ht
  replace hT5 := Lib.hid hT5
  replace ht := Lib.hid ht
  have he2 := escB_len xl
  clear c2
  go_wp2_with (at_builtin; go_must (refine wpList_appendE rfl _ _ 51 9 rfl Tryz.underlying51 Tryz.underlying9 info_u8 w0.heap.size _ T5 [34, 47, 62] ht.out.1 rfl rfl (by simp only [List.length_cons, List.length_nil]; omega) ht.out.low ?_))
  intro v W h1 hb o1
  replace ht := ht.out.step h1 hb
  replace hr := Lib.hid (hr.out.u8 o1 item_u8)
  replace hO := Lib.hid (hO.out.trans o1)
  clear h1 hb o1
  obtain ⟨T6, hT6⟩ : ∃ T, T5 ++ [34, 47, 62] = T := ⟨_, rfl⟩
  have hl6 : T6.length = T5.length + 3 := by rw [← hT6, List.length_append]; simp only [List.length_cons, List.length_nil] <;> omega
  rw [hT6] at ht
  replace hT6 := Lib.hid hT6
  replace ht := Lib.hid ht
  have c3 : W.cell? ⟨w.heap.size, 3, none⟩ = some (.string ⟨xb.toArray⟩) := hr.out.cell 3
  have hc := Lib.hid (element17_any w0 W v T6 [115, 117, 109, 109, 97, 114, 121] xb ht.out (by decide) (by omega))
  go_wp2_with fail
  refine hc.out.mono ?_
  rintro e W ⟨v, rfl, ht, o1⟩
  replace hr := Lib.hid (hr.out.u8 o1 item_u8)
  replace hO := Lib.hid (hO.out.trans o1)
  clear hc o1
  obtain ⟨T7, hT7⟩ : ∃ T, T6 ++ elB [115, 117, 109, 109, 97, 114, 121] xb = T := ⟨_, rfl⟩
  have hl7 : T7.length = T6.length + (19 + (escB xb).length) := by rw [← hT7, List.length_append]; have := elB_len [115, 117, 109, 109, 97, 114, 121] xb; simp only [List.length_cons, List.length_nil] at this; omega
  rw [hT7] at ht
  replace hT7 := Lib.hid hT7
  replace ht := Lib.hid ht
  have he3 := escB_len xb
  clear c3
  have c5 : W.cell? ⟨w.heap.size, 5, none⟩ = some (.bool xk) := hr.out.cell 5
  cases xk
  · skip
    go_wp2_with (at_builtin; go_must (refine wpList_appendE rfl _ _ 51 9 rfl Tryz.underlying51 Tryz.underlying9 info_u8 w0.heap.size _ T7 [60, 47, 101, 110, 116, 114, 121, 62, 10] ht.out.1 rfl rfl (by simp only [List.length_cons, List.length_nil]; omega) ht.out.low ?_))
    intro v W h1 hb o1
    replace ht := ht.out.step h1 hb
    replace hr := Lib.hid (hr.out.u8 o1 item_u8)
    replace hO := Lib.hid (hO.out.trans o1)
    clear h1 hb o1
    obtain ⟨T8, hT8⟩ : ∃ T, T7 ++ [60, 47, 101, 110, 116, 114, 121, 62, 10] = T := ⟨_, rfl⟩
    have hl8 : T8.length = T7.length + 9 := by rw [← hT8, List.length_append]; simp only [List.length_cons, List.length_nil] <;> omega
    rw [hT8] at ht
    replace hT8 := Lib.hid hT8
    replace ht := Lib.hid ht
    have ht2 := Lib.hid (show TxOn w0 W v (l ++ itemP entryL (atomF ⟨xg, xt, xl, xb, xd, false⟩)) from ht.out.to (by rw [← hT8.out, ← hT7.out, ← hT6.out, ← hT5.out, ← hT4.out, ← hT3.out, ← hT2.out, ← hT1.out]; simp [itemP, atomF, elB, Pf.bytes, titleL, linkL, idL, sumL, entryL, hrefL, List.flatMap_cons]))
    clear ht
    go_wp2_with fail
    go_ret
    exact ⟨_, rfl, ht2.out, hO.out⟩
  · skip
    have c4 : W.cell? ⟨w.heap.size, 4, none⟩ = some (.int .i64 xd) := hr.out.cell 4
    have hc := Lib.hid (print39_any xd W (hE.out.below ht.out.2))
    go_wp2_with fail
    refine hc.out.mono ?_
    rintro e W1 ⟨rfl, hb1⟩
    replace ht := ht.out.next hb1
    replace hr := Lib.hid (hr.out.next hb1)
    replace hO := Lib.hid (hO.out.trans (u8Only_below hb1))
    have hp := print39_len xd
    clear hc hb1 c4 c5
    obtain ⟨pd, hpd⟩ : ∃ pd, print39 xd = pd := ⟨_, rfl⟩
    rw [hpd] at hp ⊢
    replace hpd := Lib.hid hpd
    replace ht := Lib.hid ht
    have hc := Lib.hid (element17_any w0 W1 v T7 [117, 112, 100, 97, 116, 101, 100] pd ht.out (by decide) (by omega))
    go_wp2_with fail
    refine hc.out.mono ?_
    rintro e W ⟨v, rfl, ht, o1⟩
    replace hr := Lib.hid (hr.out.u8 o1 item_u8)
    replace hO := Lib.hid (hO.out.trans o1)
    clear hc o1
    obtain ⟨T9, hT9⟩ : ∃ T, T7 ++ elB [117, 112, 100, 97, 116, 101, 100] pd = T := ⟨_, rfl⟩
    have hl9 : T9.length = T7.length + (19 + (escB pd).length) := by rw [← hT9, List.length_append]; have := elB_len [117, 112, 100, 97, 116, 101, 100] pd; simp only [List.length_cons, List.length_nil] at this; omega
    rw [hT9] at ht
    replace hT9 := Lib.hid hT9
    replace ht := Lib.hid ht
    have hep := escB_len pd
    go_wp2_with (at_builtin; go_must (refine wpList_appendE rfl _ _ 51 9 rfl Tryz.underlying51 Tryz.underlying9 info_u8 w0.heap.size _ T9 [60, 47, 101, 110, 116, 114, 121, 62, 10] ht.out.1 rfl rfl (by simp only [List.length_cons, List.length_nil]; omega) ht.out.low ?_))
    intro v W h1 hb o1
    replace ht := ht.out.step h1 hb
    replace hr := Lib.hid (hr.out.u8 o1 item_u8)
    replace hO := Lib.hid (hO.out.trans o1)
    clear h1 hb o1
    obtain ⟨T10, hT10⟩ : ∃ T, T9 ++ [60, 47, 101, 110, 116, 114, 121, 62, 10] = T := ⟨_, rfl⟩
    have hl10 : T10.length = T9.length + 9 := by rw [← hT10, List.length_append]; simp only [List.length_cons, List.length_nil] <;> omega
    rw [hT10] at ht
    replace hT10 := Lib.hid hT10
    replace ht := Lib.hid ht
    have ht2 := Lib.hid (show TxOn w0 W v (l ++ itemP entryL (atomF ⟨xg, xt, xl, xb, xd, true⟩)) from ht.out.to (by rw [← hT10.out, ← hT9.out, ← hT7.out, ← hT6.out, ← hT5.out, ← hT4.out, ← hT3.out, ← hT2.out, ← hT1.out]; rw [← hpd.out]; simp [itemP, atomF, elB, Pf.bytes, titleL, linkL, idL, sumL, updL, entryL, hrefL, List.flatMap_cons]))
    clear ht
    go_wp2_with fail
    go_ret
    exact ⟨_, rfl, ht2.out, hO.out⟩

/-- What a document of RSS begins with, and what it ends with. -/
def rssHd : List UInt8 := [60, 63, 120, 109, 108, 32, 118, 101, 114, 115, 105, 111, 110, 61, 34, 49, 46, 48, 34, 63, 62, 10, 60, 114, 115, 115, 32, 118, 101, 114, 115, 105, 111, 110, 61, 34, 50, 46, 48, 34, 62, 60, 99, 104, 97, 110, 110, 101, 108, 62, 60, 116, 105, 116, 108, 101, 62, 110, 101, 119, 115, 114, 101, 101, 108, 60, 47, 116, 105, 116, 108, 101, 62, 10]
def rssTl : List UInt8 := [60, 47, 99, 104, 97, 110, 110, 101, 108, 62, 60, 47, 114, 115, 115, 62, 10]
def atomHd : List UInt8 := [60, 63, 120, 109, 108, 32, 118, 101, 114, 115, 105, 111, 110, 61, 34, 49, 46, 48, 34, 63, 62, 10, 60, 102, 101, 101, 100, 32, 120, 109, 108, 110, 115, 61, 34, 104, 116, 116, 112, 58, 47, 47, 119, 119, 119, 46, 119, 51, 46, 111, 114, 103, 47, 50, 48, 48, 53, 47, 65, 116, 111, 109, 34, 62, 60, 116, 105, 116, 108, 101, 62, 110, 101, 119, 115, 114, 101, 101, 108, 60, 47, 116, 105, 116, 108, 101, 62, 10]
def atomTl : List UInt8 := [60, 47, 102, 101, 101, 100, 62, 10]
theorem rssB_eq (l : List It) : rssB l = rssHd ++ (l.flatMap fun x => itemP itemL (rssF x)) ++ rssTl := by
  have e : (l.map rssF).flatMap (itemP itemL) = l.flatMap fun x => itemP itemL (rssF x) := by rw [List.flatMap_map]
  unfold rssB rssD
  rw [e]
  rfl
theorem atomB_eq (l : List It) : atomB l = atomHd ++ (l.flatMap fun x => itemP entryL (atomF x)) ++ atomTl := by
  have e : (l.map atomF).flatMap (itemP entryL) = l.flatMap fun x => itemP entryL (atomF x) := by rw [List.flatMap_map]
  unfold atomB atomD
  rw [e]
  rfl
theorem its_take {α : Type} (f : α → List UInt8) (l : List α) (k : Nat) (h : k < l.length) : (l.take (k + 1)).flatMap f = (l.take k).flatMap f ++ f (l[k]'h) := by
  rw [List.take_add_one, List.getElem?_eq_getElem h, List.flatMap_append]
  simp
theorem bytesL_take (l : List It) (k : Nat) (h : k < l.length) : bytesL (l.take k) + bytesI (l[k]'h) ≤ bytesL l := by
  have e : bytesL l = bytesL (l.take k) + bytesL (l.drop k) := by
    unfold bytesL
    rw [← List.sum_append, ← List.map_append, List.take_append_drop]
  rw [e, List.drop_eq_getElem_cons h]
  unfold bytesL
  simp only [List.map_cons, List.sum_cons]
  omega
theorem bytesL_le (l : List It) (k : Nat) : bytesL (l.take k) ≤ bytesL l := by
  have e : bytesL l = bytesL (l.take k) + bytesL (l.drop k) := by
    unfold bytesL
    rw [← List.sum_append, ← List.map_append, List.take_append_drop]
  omega
/-- A row of bytes that a literal laid, under its mark. -/
theorem txE_const (w : World) (C : Array Value) (l : List UInt8) (n : Nat) (fz : Nat × Nat) (hC : C = ((nums l).map (Value.int .u8)).toArray) (hn : n = l.length) (hz : n ≤ fz.1) (hl : l.length ≤ 1000) :
    TxE (w.alloc (.cells C 5 fz)) w.heap.size (.slice (some ⟨w.heap.size, 0, none⟩) n n) l := by
  subst hC hn
  refine Or.inr ⟨w.heap.size, _, _, fz, rfl, Nat.le_refl _, heap_alloc_new w _, hz, Nat.le_refl _, by unfold maxLen; omega, by simp [nums_len], ?_⟩
  rw [List.take_of_length_le (by simp [nums_len])]

set_option maxHeartbeats 4000000 in
set_option maxRecDepth 100000 in
theorem rss17_any (L : List It) (src : Value) (w : World) (hS : ItSl w src L) (hE : Env13 w) (h1 : L.length ≤ 1000000) (h2 : bytesL L ≤ 1000000) :
    Calls Tryz.prog 11 #[src] w (StrB w (rssB L)) := by
  have kc := fun (w : World) (C : Array Value) (n c : Nat) => Lib.run_convert_bytes_const (P := Tryz.prog) w 51 5 C n c Tryz.underlying51 Tryz.underlying5
  obtain ⟨sa, sc, rfl, hS2⟩ := (show ∃ sa sc, src = .slice sa L.length sc ∧ ItSl w (.slice sa L.length sc) L by obtain ⟨a, c, e⟩ := hS.form; exact ⟨a, c, e, e ▸ hS⟩)
  clear hS
  replace hS2 := Lib.hid hS2
  replace hE := Lib.hid hE
  go_enter Tryz.func11, Tryz.ntmps11
  go_wp2_with fail
  clear kc
  go_loopw [3, 10] (fun v i wr => ∃ k : Nat, i = .int .i64 k ∧ k ≤ L.length ∧ Hid (TxOn w wr v (rssHd ++ (L.take k).flatMap fun x => itemP itemL (rssF x)))) (fun _ i _ => L.length - (intOf i).toNat)
  case atStart =>
    refine ⟨0, rfl, Nat.zero_le _, Lib.hid ⟨?_, ?_⟩⟩
    · rw [List.take_zero, List.flatMap_nil, List.append_nil]
      exact txE_const w _ rssHd 74 _ rfl rfl (Nat.le_refl _) (by decide)
    · exact (Below.refl _ w).alloc (Nat.le_refl _) _
  case round =>
    obtain ⟨k, rfl, hk, ht⟩ := hrel
    by_cases hlt : k < L.length
    · have hlt1 : (k : Int) < L.length := by omega
      have hsr := hS2.out.next (show Below w.heap.size w wr from ht.out.2)
      obtain ⟨a', c', ec, hat⟩ := hsr.all
      injection ec with e1 e2 e3
      subst e1 e3
      clear e2 hsr
      obtain ⟨b, off, rfl, hc, hit⟩ := hat k hlt
      clear hat
      obtain ⟨x0, x1, x2, x3, x4, x5⟩ := hit
      have hkc : (k : Int) < sc := by omega
      have hnx := its_take (fun x => itemP itemL (rssF x)) L k hlt
      have hb1 := bytesL_take L k hlt
      have hb2 := items_len (fun x => itemP itemL (rssF x)) rss_item_len (L.take k)
      have hb3 : (L.take k).length ≤ 1000000 := by rw [List.length_take]; omega
      have hb4 := bytesL_le L k
      have hlT : (rssHd ++ (L.take k).flatMap fun x => itemP itemL (rssF x)).length = 74 + ((L.take k).flatMap fun x => itemP itemL (rssF x)).length := by rw [List.length_append]; rfl
      obtain ⟨T, hT⟩ : ∃ T, (rssHd ++ (L.take k).flatMap fun x => itemP itemL (rssF x)) = T := ⟨_, rfl⟩
      have hfin : T ++ itemP itemL (rssF (L[k]'hlt)) = rssHd ++ (L.take (k + 1)).flatMap fun x => itemP itemL (rssF x) := by rw [hnx, ← List.append_assoc, hT]
      rw [hT] at ht hlT
      generalize L[k]'hlt = x at *
      replace hfin := Lib.hid hfin
      replace hT := Lib.hid hT
      clear hnx
      have hbw := (Below.refl wr.heap.size wr).alloc (Nat.le_refl _) (.cells (itC x).toArray 26)
      have hc := Lib.hid (item17_any w _ _ T x (ht.out.next hbw) hE.out (by omega))
      clear hbw ht
      obtain ⟨xg, xt, xl, xb, xd, xk⟩ := x
      unfold itV itC at hc
      simp only at hc
      unfold strV at x0 x1 x2 x3 hc
      simp only at x0 x1 x2 x3 x4 x5
      clear hb1 hb2 hb3 hb4 hlT
      go_wp2_with fail
      refine hc.out.mono ?_
      rintro e w2 ⟨v2, rfl, ht2, -⟩
      have ht3 := Lib.hid (ht2.to hfin.out)
      clear ht2 hc
      go_wp2_with fail
      exact ⟨⟨k + 1, by go_num, by omega, ht3⟩, by simp [intOf]; omega⟩
    · have hlt1 : ¬ ((k : Int) < L.length) := by omega
      have hs : L.take k = L := List.take_of_length_le (by omega)
      rw [hs] at ht
      have hb2 := items_len (fun x => itemP itemL (rssF x)) rss_item_len L
      have hlT : (rssHd ++ L.flatMap fun x => itemP itemL (rssF x)).length = 74 + (L.flatMap fun x => itemP itemL (rssF x)).length := by rw [List.length_append]; rfl
      have hfin := Lib.hid (rssB_eq L)
      obtain ⟨T, hT⟩ : ∃ T, (rssHd ++ L.flatMap fun x => itemP itemL (rssF x)) = T := ⟨_, rfl⟩
      rw [hT] at ht hlT hfin
      clear hT
      go_wp2_with (at_builtin; go_must (refine wpList_appendE rfl _ _ 51 9 rfl Tryz.underlying51 Tryz.underlying9 info_u8 w.heap.size _ T rssTl ht.out.1 rfl rfl (by show T.length + 17 ≤ _; omega) ht.out.low ?_))
      intro v2 w2 h1 hb o1
      have ht2 := ht.out.step h1 hb
      have hcv := txE_str ht2.1
      have he2 := ht2.2
      rw [← hfin.out] at hcv
      clear h1 hb o1 ht ht2 hb2 hlT
      replace he2 := Lib.hid he2
      go_wp2_with fail
      go_ret
      exact ⟨rfl, he2.out⟩
set_option maxHeartbeats 4000000 in
set_option maxRecDepth 100000 in
theorem atom17_any (L : List It) (src : Value) (w : World) (hS : ItSl w src L) (hE : Env13 w) (h1 : L.length ≤ 1000000) (h2 : bytesL L ≤ 1000000) :
    Calls Tryz.prog 12 #[src] w (StrB w (atomB L)) := by
  have kc := fun (w : World) (C : Array Value) (n c : Nat) => Lib.run_convert_bytes_const (P := Tryz.prog) w 51 5 C n c Tryz.underlying51 Tryz.underlying5
  obtain ⟨sa, sc, rfl, hS2⟩ := (show ∃ sa sc, src = .slice sa L.length sc ∧ ItSl w (.slice sa L.length sc) L by obtain ⟨a, c, e⟩ := hS.form; exact ⟨a, c, e, e ▸ hS⟩)
  clear hS
  replace hS2 := Lib.hid hS2
  replace hE := Lib.hid hE
  go_enter Tryz.func12, Tryz.ntmps12
  go_wp2_with fail
  clear kc
  go_loopw [3, 10] (fun v i wr => ∃ k : Nat, i = .int .i64 k ∧ k ≤ L.length ∧ Hid (TxOn w wr v (atomHd ++ (L.take k).flatMap fun x => itemP entryL (atomF x)))) (fun _ i _ => L.length - (intOf i).toNat)
  case atStart =>
    refine ⟨0, rfl, Nat.zero_le _, Lib.hid ⟨?_, ?_⟩⟩
    · rw [List.take_zero, List.flatMap_nil, List.append_nil]
      exact txE_const w _ atomHd 88 _ rfl rfl (Nat.le_refl _) (by decide)
    · exact (Below.refl _ w).alloc (Nat.le_refl _) _
  case round =>
    obtain ⟨k, rfl, hk, ht⟩ := hrel
    by_cases hlt : k < L.length
    · have hlt1 : (k : Int) < L.length := by omega
      have hsr := hS2.out.next (show Below w.heap.size w wr from ht.out.2)
      obtain ⟨a', c', ec, hat⟩ := hsr.all
      injection ec with e1 e2 e3
      subst e1 e3
      clear e2 hsr
      obtain ⟨b, off, rfl, hc, hit⟩ := hat k hlt
      clear hat
      obtain ⟨x0, x1, x2, x3, x4, x5⟩ := hit
      have hkc : (k : Int) < sc := by omega
      have hnx := its_take (fun x => itemP entryL (atomF x)) L k hlt
      have hb1 := bytesL_take L k hlt
      have hb2 := items_len (fun x => itemP entryL (atomF x)) atom_item_len (L.take k)
      have hb3 : (L.take k).length ≤ 1000000 := by rw [List.length_take]; omega
      have hb4 := bytesL_le L k
      have hlT : (atomHd ++ (L.take k).flatMap fun x => itemP entryL (atomF x)).length = 88 + ((L.take k).flatMap fun x => itemP entryL (atomF x)).length := by rw [List.length_append]; rfl
      obtain ⟨T, hT⟩ : ∃ T, (atomHd ++ (L.take k).flatMap fun x => itemP entryL (atomF x)) = T := ⟨_, rfl⟩
      have hfin : T ++ itemP entryL (atomF (L[k]'hlt)) = atomHd ++ (L.take (k + 1)).flatMap fun x => itemP entryL (atomF x) := by rw [hnx, ← List.append_assoc, hT]
      rw [hT] at ht hlT
      generalize L[k]'hlt = x at *
      replace hfin := Lib.hid hfin
      replace hT := Lib.hid hT
      clear hnx
      have hbw := (Below.refl wr.heap.size wr).alloc (Nat.le_refl _) (.cells (itC x).toArray 26)
      have hc := Lib.hid (entry17_any w _ _ T x (ht.out.next hbw) hE.out (by omega))
      clear hbw ht
      obtain ⟨xg, xt, xl, xb, xd, xk⟩ := x
      unfold itV itC at hc
      simp only at hc
      unfold strV at x0 x1 x2 x3 hc
      simp only at x0 x1 x2 x3 x4 x5
      clear hb1 hb2 hb3 hb4 hlT
      go_wp2_with fail
      refine hc.out.mono ?_
      rintro e w2 ⟨v2, rfl, ht2, -⟩
      have ht3 := Lib.hid (ht2.to hfin.out)
      clear ht2 hc
      go_wp2_with fail
      exact ⟨⟨k + 1, by go_num, by omega, ht3⟩, by simp [intOf]; omega⟩
    · have hlt1 : ¬ ((k : Int) < L.length) := by omega
      have hs : L.take k = L := List.take_of_length_le (by omega)
      rw [hs] at ht
      have hb2 := items_len (fun x => itemP entryL (atomF x)) atom_item_len L
      have hlT : (atomHd ++ L.flatMap fun x => itemP entryL (atomF x)).length = 88 + (L.flatMap fun x => itemP entryL (atomF x)).length := by rw [List.length_append]; rfl
      have hfin := Lib.hid (atomB_eq L)
      obtain ⟨T, hT⟩ : ∃ T, (atomHd ++ L.flatMap fun x => itemP entryL (atomF x)) = T := ⟨_, rfl⟩
      rw [hT] at ht hlT hfin
      clear hT
      go_wp2_with (at_builtin; go_must (refine wpList_appendE rfl _ _ 51 9 rfl Tryz.underlying51 Tryz.underlying9 info_u8 w.heap.size _ T atomTl ht.out.1 rfl rfl (by show T.length + 8 ≤ _; omega) ht.out.low ?_))
      intro v2 w2 h1 hb o1
      have ht2 := ht.out.step h1 hb
      have hcv := txE_str ht2.1
      have he2 := ht2.2
      rw [← hfin.out] at hcv
      clear h1 hb o1 ht ht2 hb2 hlT
      replace he2 := Lib.hid he2
      go_wp2_with fail
      go_ret
      exact ⟨rfl, he2.out⟩
end Go.Proofs.YtahohmdbiiknoaaGreatDoor
