/- Walks of layer 20's disk: left. -/
import Derived.Test.YtahndjgamoojkaaBR39
import Derived.Test.YtahndjgamoojkaaBR34
import Derived.Lib.MinMax
namespace Go.Proofs.Ytahndjgamoojkaa
open Go.RowKit

theorem kept_split (os : List Op20) (keep bytes : Int) : kept20 os keep bytes = os.take (min (max keep 0) (os.length : Int)).toNat ++ tornO os[(min (max keep 0) (os.length : Int)).toNat]? bytes := by
  rw [kept_eq]
  by_cases h : keep.toNat ≤ os.length
  · rw [show (min (max keep 0) (os.length : Int)).toNat = keep.toNat by omega]
  · rw [show (min (max keep 0) (os.length : Int)).toNat = os.length by omega, List.take_of_length_le (by omega), List.take_of_length_le (by omega), List.getElem?_eq_none (by omega), List.getElem?_eq_none (by omega)]
set_option maxHeartbeats 4000000 in
set_option maxRecDepth 100000 in
theorem left20_any (os : List Op20) (cr : Cr20) (v : Value) (w : World) (hv : OpSl w v os) (hL : os.length ≤ 90000) (hk : -9223372036854775808 ≤ cr.keep ∧ cr.keep ≤ 9223372036854775807) (hb : -9223372036854775808 ≤ cr.bytes ∧ cr.bytes ≤ 9223372036854775807) (hat : -9223372036854775808 ≤ cr.at_ ∧ cr.at_ ≤ 9223372036854775807) (hy0 : 0 ≤ cr.bits) (hy1 : cr.bits ≤ 4294967295) (hod : (apps20 (kept20 os cr.keep cr.bytes)).length ≤ 1000000000) (hod2 : ∀ o ∈ os, o.data.length ≤ 90000000) :
    Calls Try.prog 39 #[v, crV cr] w (OpsPost w (hurt20 (kept20 os cr.keep cr.bytes) cr.burst cr.at_ cr.bits.toNat)) := by
  obtain ⟨A, c, rfl⟩ := hv.form
  obtain ⟨kp, by_, bu, at_, bi⟩ := cr
  unfold crV crC
  simp only at hk hb hat hy0 hy1 hod ⊢
  obtain ⟨W, hW⟩ : ∃ W, w.alloc (.cells [Value.int .i64 kp, .int .i64 by_, .bool bu, .int .i64 at_, .int .u32 bi].toArray 41) = W := ⟨_, rfl⟩
  have hbox := arrAt_new w 41 [Value.int .i64 kp, .int .i64 by_, .bool bu, .int .i64 at_, .int .u32 bi]
  have hbx := (Below.refl w.heap.size w).alloc (Nat.le_refl _) (.cells [Value.int .i64 kp, .int .i64 by_, .bool bu, .int .i64 at_, .int .u32 bi].toArray 41)
  rw [hW] at hbx hbox
  have hvW := SlOf.next hv hbx
  obtain ⟨q0, q1, q2, q3, q4⟩ := five_cells hbox
  have hks := kept_split os kp by_
  obtain ⟨n, hn⟩ : ∃ n : Nat, min (max kp 0) (os.length : Int) = n := ⟨(min (max kp 0) (os.length : Int)).toNat, by omega⟩
  have hnl : n ≤ os.length := by omega
  rw [hn, Int.toNat_natCast] at hks
  have hn2 : min (max kp 0) (os.length : Int) = n := hn
  generalize kept20 os kp by_ = K at hks hod ⊢
  replace hv := Lib.hid hv
  replace hks := Lib.hid hks
  replace hbox := Lib.hid hbox
  replace hbx := Lib.hid hbx
  replace hvW := Lib.hid hvW
  clear hn
  have hsub : Hid (∀ V A' c', OpSl V (.slice A' n c') (os.take n) → Calls Try.prog 44 #[.slice A' n c'] V fun e w' => ∃ v', e = .returned v' ∧ OpSl w' v' (os.take n) ∧ Below V.heap.size V w' ∧ OwnO w' V.heap.size v' (os.take n) ∧ (∃ a c, v' = .slice a n c)) := Lib.hid fun V A' c' hV => by
    have h := cloneo20_any (os.take n) _ V hV (by rw [List.length_take]; omega)
    rw [show (os.take n).length = n by rw [List.length_take]; omega] at h
    exact h
  have hnc : n ≤ c := by
    by_cases h0 : os = []
    · subst h0; simp at hnl; omega
    · obtain ⟨_, _, cc, hcc, _, e, _⟩ := SlOf.some opC_len (by decide) hv.out h0
      injection e with _ _ e
      omega
  have hn0 : (0 : Int) ≤ n := by omega
  have hn1 : (n : Int) ≤ c := by omega
  have htk : OpSl W (.slice A n c) (os.take n) := by
    rcases hvW.out with ⟨rfl, a, c', e⟩ | ⟨b, off, c', hc, e, h⟩
    · obtain rfl : n = 0 := by simpa using hnl
      exact Or.inl ⟨rfl, _, _, rfl⟩
    · injection e with e1 e2 e3
      subst e1 e3
      have hl : (os.take n).length = n := by rw [List.length_take]; omega
      refine Or.inr ⟨b, off, c, by omega, by rw [hl], fun i hi t u ht hu => h i (by omega) t u ht (by rw [List.getElem_take] at hu; exact hu)⟩
  have hcl := hsub.out W A c htk
  have hbB := hbx.out.size
  obtain ⟨ua, hua⟩ : ∃ ua, IntKind.u64.wrap at_ = ua := ⟨_, rfl⟩
  have hua2 : ua = at_ % 18446744073709551616 := by rw [← hua, IntKind.wrap_u64]
  have huab : 0 ≤ ua ∧ ua ≤ 18446744073709551615 := by omega
  have hK1 : K.length ≤ 100000 := by
    rw [hks.out, List.length_append, List.length_take]
    have : (tornO os[n]? by_).length ≤ 1 := by
      unfold tornO torn20
      split
      · simp
      · split <;> simp
    omega
  have hK2 : ∀ o ∈ K, o.data.length ≤ 90000000 := by
    intro o ho
    rw [hks.out] at ho
    rcases List.mem_append.1 ho with h | h
    · exact hod2 o (List.mem_of_mem_take h)
    · unfold tornO torn20 at h
      split at h
      · cases h
      · rename_i o' heq
        split at h
        · rw [List.mem_singleton.1 h]
          have h3 := hod2 o' (List.mem_of_getElem? heq)
          simp only [List.length_take]
          omega
        · cases h
  have hfin : Hid (∀ V v, OwnO V w.heap.size v (if bu = true then (if apps20 K = [] then K else turnL K (ua % (8 * ((apps20 K).length : Int))) bi) else K) → Below w.heap.size w V → OpsPost w (hurt20 K bu at_ bi.toNat) (.returned v) V) := Lib.hid fun V v h1 h2 => by
    refine ⟨v, rfl, ?_, h2⟩
    cases bu with
    | false => unfold hurt20; rw [if_pos (Or.inl rfl)]; simpa using h1
    | true =>
      rw [if_pos rfl] at h1
      by_cases ha : apps20 K = []
      · unfold hurt20; rw [if_pos (Or.inr ha)]; rw [if_pos ha] at h1; exact h1
      · rw [hurt_turn K at_ bi hy0 (by omega) ha, ← hua2]; rw [if_neg ha] at h1; exact h1
  have htn := fun V v (hV : OwnO V w.heap.size v K) (hB : w.heap.size ≤ V.heap.size) => turn20_any K ua bi v w.heap.size V hV hB hK1 hod hK2 huab hy0 hy1
  replace htn := Lib.hid htn
  replace hcl := Lib.hid hcl
  replace hua2 := Lib.hid hua2
  clear hsub htk hK2 hv
  by_cases hlt : n < os.length
  · obtain ⟨o, hoe⟩ : ∃ o, os[n]'hlt = o := ⟨_, rfl⟩
    have hge : os[n]? = some o := by rw [List.getElem?_eq_getElem hlt, hoe]
    rw [hge] at hks
    have hdl := hod2 o (by rw [← hoe]; exact List.getElem_mem hlt)
    obtain ⟨kd, nm, tn, dt, sz⟩ := o
    unfold tornO torn20 at hks
    simp only at hks hdl
    replace hoe := Lib.hid hoe
    clear hge
    by_cases h1 : kd = 1
    · subst h1
      by_cases h2 : 0 < by_
      · obtain ⟨bm, hbm⟩ : ∃ bm : Nat, min by_ (dt.length : Int) = bm := ⟨(min by_ (dt.length : Int)).toNat, by omega⟩
        have hbm2 : dt.take by_.toNat = dt.take bm := by
          by_cases h : by_.toNat ≤ dt.length
          · rw [show by_.toNat = bm by omega]
          · rw [List.take_of_length_le (by omega), List.take_of_length_le (by omega)]
        have hbml : bm ≤ dt.length := by omega
        have hkn : Hid (K = os.take n ++ [(⟨1, nm, tn, dt.take bm, sz⟩ : Op20)]) := Lib.hid (by rw [hks.out, if_pos ⟨rfl, h2⟩, hbm2])
        clear hks hbm2
        cases bu with
        | false =>
          go_enter Try.func39, Try.ntmps39
          go_wp2_with fail
          refine hcl.out.mono ?_; rintro e w1 ⟨_, rfl, _, hb1, ho1, a1, c1, rfl⟩
          have hs1 := hb1.size
          have hx1 := Lib.hid (hbox.out.next hb1)
          have hv1 := Lib.hid (SlOf.next hvW.out hb1)
          have hbw := Lib.hid (hbx.out.trans (hb1.mono hbB))
          replace ho1 : Hid (OwnO w1 w.heap.size (.slice a1 n c1) (os.take n)) := Lib.hid (ownsRow_mono ho1 hbB)
          obtain ⟨r0, r1, r2, r3, r4⟩ := five_cells hx1.out
          clear hcl hb1 q0 q1 q2 q3 q4
          obtain ⟨b, off, cc, _, _, e, hc⟩ := SlOf.some opC_len (by decide) hv1.out (by rintro rfl; simp at hlt)
          injection e with e1 e2 e3
          subst e1 e3
          have x0 := hc n hlt 0 (.int .i64 1) (by decide) (by rw [hoe.out]; rfl)
          have x1 := hc n hlt 1 (.string ⟨nm.toArray⟩) (by decide) (by rw [hoe.out]; rfl)
          have x2 := hc n hlt 2 (.string ⟨tn.toArray⟩) (by decide) (by rw [hoe.out]; rfl)
          have x3 := hc n hlt 3 (.string ⟨dt.toArray⟩) (by decide) (by rw [hoe.out]; rfl)
          have x4 := hc n hlt 4 (.int .i64 sz) (by decide) (by rw [hoe.out]; rfl)
          rw [Nat.add_zero] at x0
          have kk1 : (n : Int) < os.length := by omega
          clear hc e2
          have hbb := (Below.refl w1.heap.size w1).alloc (Nat.le_refl _) (.cells [Value.int .i64 1, .string ⟨nm.toArray⟩, .string ⟨tn.toArray⟩, .string ⟨(dt.take bm).toArray⟩, .int .i64 sz].toArray 27)
          have hna := arrAt_new w1 27 [Value.int .i64 1, .string ⟨nm.toArray⟩, .string ⟨tn.toArray⟩, .string ⟨(dt.take bm).toArray⟩, .int .i64 sz]
          have hone : ∀ u ∈ [Value.int .i64 1, .string ⟨nm.toArray⟩, .string ⟨tn.toArray⟩, .string ⟨(dt.take bm).toArray⟩, .int .i64 sz], u.oneCell' = true := by
            intro u hu
            simp at hu
            rcases hu with rfl | rfl | rfl | rfl | rfl <;> rfl
          have hx2 := hx1.out.next hbb
          have ho2 := ownsRow_below ho1.out hbb
          have hbw2 := Lib.hid (hbw.out.trans (hbb.mono hbw.out.size))
          have hsb := hbb.size
          obtain ⟨d0, d1, d2, d3, d4⟩ := five_cells hna
          have hnb := arrAt_new (w1.alloc (.cells [Value.int .i64 1, .string ⟨nm.toArray⟩, .string ⟨tn.toArray⟩, .string ⟨(dt.take bm).toArray⟩, .int .i64 sz].toArray 27)) 27 [Value.int .i64 1, .string ⟨nm.toArray⟩, .string ⟨tn.toArray⟩, .string ⟨(dt.take bm).toArray⟩, .int .i64 sz]
          have hbc := (Below.refl (w1.alloc (.cells [Value.int .i64 1, .string ⟨nm.toArray⟩, .string ⟨tn.toArray⟩, .string ⟨(dt.take bm).toArray⟩, .int .i64 sz].toArray 27)).heap.size (w1.alloc (.cells [Value.int .i64 1, .string ⟨nm.toArray⟩, .string ⟨tn.toArray⟩, .string ⟨(dt.take bm).toArray⟩, .int .i64 sz].toArray 27))).alloc (Nat.le_refl _) (.cells [Value.int .i64 1, .string ⟨nm.toArray⟩, .string ⟨tn.toArray⟩, .string ⟨(dt.take bm).toArray⟩, .int .i64 sz].toArray 27)
          have hx3 := hx2.next hbc
          have ho3 : World.ownsRow ((w1.alloc (.cells [Value.int .i64 1, .string ⟨nm.toArray⟩, .string ⟨tn.toArray⟩, .string ⟨(dt.take bm).toArray⟩, .int .i64 sz].toArray 27)).alloc (.cells [Value.int .i64 1, .string ⟨nm.toArray⟩, .string ⟨tn.toArray⟩, .string ⟨(dt.take bm).toArray⟩, .int .i64 sz].toArray 27)) w.heap.size 27 5 (.slice a1 n c1) n ((os.take n).flatMap opC) := by
            have h := ownsRow_below ho2 hbc
            rw [show (os.take n).length = n by rw [List.length_take]; omega] at h
            exact h
          have hbw3 := Lib.hid (hbw2.out.trans (hbc.mono hbw2.out.size))
          have hwB3 := hbw3.out.size
          have hsz : (w1.alloc (.cells [Value.int .i64 1, .string ⟨nm.toArray⟩, .string ⟨tn.toArray⟩, .string ⟨(dt.take bm).toArray⟩, .int .i64 sz].toArray 27)).heap.size = w1.heap.size + 1 := by simp
          rw [hsz] at hnb
          replace hnb := Lib.hid hnb
          replace ho3 := Lib.hid ho3
          replace hx3 := Lib.hid hx3
          clear hx2 ho2 hbb hbc hna hsz
          have hbo := (Below.refl w1.heap.size w1).alloc (Nat.le_refl _) (.cells [Value.int .i64 1, .string ⟨nm.toArray⟩, .string ⟨tn.toArray⟩, .string ⟨dt.toArray⟩, .int .i64 sz].toArray 27)
          obtain ⟨_, z1, _, _, _⟩ := five_cells (hx1.out.next hbo)
          clear hbo
          have hbm0 : (0 : Int) ≤ bm := by omega
          have hbm1 : (bm : Int) ≤ dt.length := by omega
          go_wp2_with (at_builtin; go_must (refine wpList_append_part rfl _ _ 23 rfl w.heap.size 27 (.agg #[.int .i64 0, .string ⟨#[]⟩, .string ⟨#[]⟩, .string ⟨#[]⟩, .int .i64 0]) 5 64 Try.underlying23 info_op20 rfl (by decide) (.slice a1 n c1) n ((os.take n).flatMap opC) rfl ho3.out (some ⟨w1.heap.size + 1, 0, none⟩) 1 1 [Value.int .i64 1, .string ⟨nm.toArray⟩, .string ⟨tn.toArray⟩, .string ⟨(dt.take bm).toArray⟩, .int .i64 sz] rfl rfl (part_one hnb.out) hone (n + 1) rfl (by unfold maxLen; omega) (by omega) hwB3 ?_))
          intro av6 cv6 v6 hov6 hbv6 hgv6 _
          have hoK : Hid (OwnO v6 w.heap.size (.slice av6 (n + 1) cv6) K) := Lib.hid (by
            unfold OwnO
            have hl : (os.take n ++ [(⟨1, nm, tn, dt.take bm, sz⟩ : Op20)]).length = n + 1 := by simp; omega
            rw [hkn.out, hl, List.flatMap_append]
            exact hov6.out)
          have hx6 : ArrAt v6 w.heap.size 41 _ := hx3.out.turned (Turned.of_grown (S := fun b => (Value.slice a1 n c1).ownBlock = some b) hgv6.out fun _ e => e) (fun e => own_ne_arr ho3.out hx3.out (by decide) e)
          replace hbw3 := Lib.hid (hbw3.out.trans hbv6.out)
          obtain ⟨r0, r1, r2, r3, r4⟩ := five_cells hx6
          clear hov6 hgv6 hbv6 ho3 hx3 hnb
          go_wp2_with fail
          go_ret
          exact hfin.out _ _ (by simpa using hoK.out) hbw3.out

        | true =>
          go_enter Try.func39, Try.ntmps39
          go_wp2_with fail
          refine hcl.out.mono ?_; rintro e w1 ⟨_, rfl, _, hb1, ho1, a1, c1, rfl⟩
          have hs1 := hb1.size
          have hx1 := Lib.hid (hbox.out.next hb1)
          have hv1 := Lib.hid (SlOf.next hvW.out hb1)
          have hbw := Lib.hid (hbx.out.trans (hb1.mono hbB))
          replace ho1 : Hid (OwnO w1 w.heap.size (.slice a1 n c1) (os.take n)) := Lib.hid (ownsRow_mono ho1 hbB)
          obtain ⟨r0, r1, r2, r3, r4⟩ := five_cells hx1.out
          clear hcl hb1 q0 q1 q2 q3 q4
          obtain ⟨b, off, cc, _, _, e, hc⟩ := SlOf.some opC_len (by decide) hv1.out (by rintro rfl; simp at hlt)
          injection e with e1 e2 e3
          subst e1 e3
          have x0 := hc n hlt 0 (.int .i64 1) (by decide) (by rw [hoe.out]; rfl)
          have x1 := hc n hlt 1 (.string ⟨nm.toArray⟩) (by decide) (by rw [hoe.out]; rfl)
          have x2 := hc n hlt 2 (.string ⟨tn.toArray⟩) (by decide) (by rw [hoe.out]; rfl)
          have x3 := hc n hlt 3 (.string ⟨dt.toArray⟩) (by decide) (by rw [hoe.out]; rfl)
          have x4 := hc n hlt 4 (.int .i64 sz) (by decide) (by rw [hoe.out]; rfl)
          rw [Nat.add_zero] at x0
          have kk1 : (n : Int) < os.length := by omega
          clear hc e2
          have hbb := (Below.refl w1.heap.size w1).alloc (Nat.le_refl _) (.cells [Value.int .i64 1, .string ⟨nm.toArray⟩, .string ⟨tn.toArray⟩, .string ⟨(dt.take bm).toArray⟩, .int .i64 sz].toArray 27)
          have hna := arrAt_new w1 27 [Value.int .i64 1, .string ⟨nm.toArray⟩, .string ⟨tn.toArray⟩, .string ⟨(dt.take bm).toArray⟩, .int .i64 sz]
          have hone : ∀ u ∈ [Value.int .i64 1, .string ⟨nm.toArray⟩, .string ⟨tn.toArray⟩, .string ⟨(dt.take bm).toArray⟩, .int .i64 sz], u.oneCell' = true := by
            intro u hu
            simp at hu
            rcases hu with rfl | rfl | rfl | rfl | rfl <;> rfl
          have hx2 := hx1.out.next hbb
          have ho2 := ownsRow_below ho1.out hbb
          have hbw2 := Lib.hid (hbw.out.trans (hbb.mono hbw.out.size))
          have hsb := hbb.size
          obtain ⟨d0, d1, d2, d3, d4⟩ := five_cells hna
          have hnb := arrAt_new (w1.alloc (.cells [Value.int .i64 1, .string ⟨nm.toArray⟩, .string ⟨tn.toArray⟩, .string ⟨(dt.take bm).toArray⟩, .int .i64 sz].toArray 27)) 27 [Value.int .i64 1, .string ⟨nm.toArray⟩, .string ⟨tn.toArray⟩, .string ⟨(dt.take bm).toArray⟩, .int .i64 sz]
          have hbc := (Below.refl (w1.alloc (.cells [Value.int .i64 1, .string ⟨nm.toArray⟩, .string ⟨tn.toArray⟩, .string ⟨(dt.take bm).toArray⟩, .int .i64 sz].toArray 27)).heap.size (w1.alloc (.cells [Value.int .i64 1, .string ⟨nm.toArray⟩, .string ⟨tn.toArray⟩, .string ⟨(dt.take bm).toArray⟩, .int .i64 sz].toArray 27))).alloc (Nat.le_refl _) (.cells [Value.int .i64 1, .string ⟨nm.toArray⟩, .string ⟨tn.toArray⟩, .string ⟨(dt.take bm).toArray⟩, .int .i64 sz].toArray 27)
          have hx3 := hx2.next hbc
          have ho3 : World.ownsRow ((w1.alloc (.cells [Value.int .i64 1, .string ⟨nm.toArray⟩, .string ⟨tn.toArray⟩, .string ⟨(dt.take bm).toArray⟩, .int .i64 sz].toArray 27)).alloc (.cells [Value.int .i64 1, .string ⟨nm.toArray⟩, .string ⟨tn.toArray⟩, .string ⟨(dt.take bm).toArray⟩, .int .i64 sz].toArray 27)) w.heap.size 27 5 (.slice a1 n c1) n ((os.take n).flatMap opC) := by
            have h := ownsRow_below ho2 hbc
            rw [show (os.take n).length = n by rw [List.length_take]; omega] at h
            exact h
          have hbw3 := Lib.hid (hbw2.out.trans (hbc.mono hbw2.out.size))
          have hwB3 := hbw3.out.size
          have hsz : (w1.alloc (.cells [Value.int .i64 1, .string ⟨nm.toArray⟩, .string ⟨tn.toArray⟩, .string ⟨(dt.take bm).toArray⟩, .int .i64 sz].toArray 27)).heap.size = w1.heap.size + 1 := by simp
          rw [hsz] at hnb
          replace hnb := Lib.hid hnb
          replace ho3 := Lib.hid ho3
          replace hx3 := Lib.hid hx3
          clear hx2 ho2 hbb hbc hna hsz
          have hbo := (Below.refl w1.heap.size w1).alloc (Nat.le_refl _) (.cells [Value.int .i64 1, .string ⟨nm.toArray⟩, .string ⟨tn.toArray⟩, .string ⟨dt.toArray⟩, .int .i64 sz].toArray 27)
          obtain ⟨_, z1, _, _, _⟩ := five_cells (hx1.out.next hbo)
          clear hbo
          have hbm0 : (0 : Int) ≤ bm := by omega
          have hbm1 : (bm : Int) ≤ dt.length := by omega
          go_wp2_with (at_builtin; go_must (refine wpList_append_part rfl _ _ 23 rfl w.heap.size 27 (.agg #[.int .i64 0, .string ⟨#[]⟩, .string ⟨#[]⟩, .string ⟨#[]⟩, .int .i64 0]) 5 64 Try.underlying23 info_op20 rfl (by decide) (.slice a1 n c1) n ((os.take n).flatMap opC) rfl ho3.out (some ⟨w1.heap.size + 1, 0, none⟩) 1 1 [Value.int .i64 1, .string ⟨nm.toArray⟩, .string ⟨tn.toArray⟩, .string ⟨(dt.take bm).toArray⟩, .int .i64 sz] rfl rfl (part_one hnb.out) hone (n + 1) rfl (by unfold maxLen; omega) (by omega) hwB3 ?_))
          intro av6 cv6 v6 hov6 hbv6 hgv6 _
          have hoK : Hid (OwnO v6 w.heap.size (.slice av6 (n + 1) cv6) K) := Lib.hid (by
            unfold OwnO
            have hl : (os.take n ++ [(⟨1, nm, tn, dt.take bm, sz⟩ : Op20)]).length = n + 1 := by simp; omega
            rw [hkn.out, hl, List.flatMap_append]
            exact hov6.out)
          have hx6 : ArrAt v6 w.heap.size 41 _ := hx3.out.turned (Turned.of_grown (S := fun b => (Value.slice a1 n c1).ownBlock = some b) hgv6.out fun _ e => e) (fun e => own_ne_arr ho3.out hx3.out (by decide) e)
          replace hbw3 := Lib.hid (hbw3.out.trans hbv6.out)
          obtain ⟨r0, r1, r2, r3, r4⟩ := five_cells hx6
          clear hov6 hgv6 hbv6 ho3 hx3 hnb
          go_wp2_with fail
          refine (htn.out _ _ hoK.out hbw3.out.size).mono ?_; rintro e w9 ⟨rfl, ho9, hb9⟩
          replace ho9 := Lib.hid ho9
          replace hb9 := Lib.hid (hbw3.out.trans hb9)
          clear htn
          go_wp2_with fail
          go_ret
          exact hfin.out _ _ (by simpa using ho9.out) hb9.out

      · have hkn : Hid (K = os.take n) := Lib.hid (by rw [hks.out, if_neg (by omega), List.append_nil])
        clear hks
        cases bu with
        | false =>
          go_enter Try.func39, Try.ntmps39
          go_wp2_with fail
          refine hcl.out.mono ?_; rintro e w1 ⟨_, rfl, _, hb1, ho1, a1, c1, rfl⟩
          have hs1 := hb1.size
          have hx1 := Lib.hid (hbox.out.next hb1)
          have hv1 := Lib.hid (SlOf.next hvW.out hb1)
          have hbw := Lib.hid (hbx.out.trans (hb1.mono hbB))
          replace ho1 : Hid (OwnO w1 w.heap.size (.slice a1 n c1) (os.take n)) := Lib.hid (ownsRow_mono ho1 hbB)
          obtain ⟨r0, r1, r2, r3, r4⟩ := five_cells hx1.out
          clear hcl hb1 q0 q1 q2 q3 q4
          obtain ⟨b, off, cc, _, _, e, hc⟩ := SlOf.some opC_len (by decide) hv1.out (by rintro rfl; simp at hlt)
          injection e with e1 e2 e3
          subst e1 e3
          have x0 := hc n hlt 0 (.int .i64 1) (by decide) (by rw [hoe.out]; rfl)
          have x1 := hc n hlt 1 (.string ⟨nm.toArray⟩) (by decide) (by rw [hoe.out]; rfl)
          have x2 := hc n hlt 2 (.string ⟨tn.toArray⟩) (by decide) (by rw [hoe.out]; rfl)
          have x3 := hc n hlt 3 (.string ⟨dt.toArray⟩) (by decide) (by rw [hoe.out]; rfl)
          have x4 := hc n hlt 4 (.int .i64 sz) (by decide) (by rw [hoe.out]; rfl)
          rw [Nat.add_zero] at x0
          have kk1 : (n : Int) < os.length := by omega
          clear hc e2
          replace ho1 : Hid (OwnO w1 w.heap.size (.slice a1 n c1) K) := Lib.hid (by rw [hkn.out]; exact ho1.out)
          go_wp2_with fail
          go_ret
          exact hfin.out _ _ (by simpa using ho1.out) hbw.out
        | true =>
          go_enter Try.func39, Try.ntmps39
          go_wp2_with fail
          refine hcl.out.mono ?_; rintro e w1 ⟨_, rfl, _, hb1, ho1, a1, c1, rfl⟩
          have hs1 := hb1.size
          have hx1 := Lib.hid (hbox.out.next hb1)
          have hv1 := Lib.hid (SlOf.next hvW.out hb1)
          have hbw := Lib.hid (hbx.out.trans (hb1.mono hbB))
          replace ho1 : Hid (OwnO w1 w.heap.size (.slice a1 n c1) (os.take n)) := Lib.hid (ownsRow_mono ho1 hbB)
          obtain ⟨r0, r1, r2, r3, r4⟩ := five_cells hx1.out
          clear hcl hb1 q0 q1 q2 q3 q4
          obtain ⟨b, off, cc, _, _, e, hc⟩ := SlOf.some opC_len (by decide) hv1.out (by rintro rfl; simp at hlt)
          injection e with e1 e2 e3
          subst e1 e3
          have x0 := hc n hlt 0 (.int .i64 1) (by decide) (by rw [hoe.out]; rfl)
          have x1 := hc n hlt 1 (.string ⟨nm.toArray⟩) (by decide) (by rw [hoe.out]; rfl)
          have x2 := hc n hlt 2 (.string ⟨tn.toArray⟩) (by decide) (by rw [hoe.out]; rfl)
          have x3 := hc n hlt 3 (.string ⟨dt.toArray⟩) (by decide) (by rw [hoe.out]; rfl)
          have x4 := hc n hlt 4 (.int .i64 sz) (by decide) (by rw [hoe.out]; rfl)
          rw [Nat.add_zero] at x0
          have kk1 : (n : Int) < os.length := by omega
          clear hc e2
          replace ho1 : Hid (OwnO w1 w.heap.size (.slice a1 n c1) K) := Lib.hid (by rw [hkn.out]; exact ho1.out)
          go_wp2_with fail
          refine (htn.out _ _ ho1.out hbw.out.size).mono ?_; rintro e w9 ⟨rfl, ho9, hb9⟩
          replace ho9 := Lib.hid ho9
          replace hb9 := Lib.hid (hbw.out.trans hb9)
          clear htn
          go_wp2_with fail
          go_ret
          exact hfin.out _ _ (by simpa using ho9.out) hb9.out
    · have hkn : Hid (K = os.take n) := Lib.hid (by rw [hks.out, if_neg (fun h => h1 h.1), List.append_nil])
      have g1 : (kd == 1) = false := by simpa using h1
      clear hks
      cases bu with
      | false =>
        go_enter Try.func39, Try.ntmps39
        go_wp2_with fail
        refine hcl.out.mono ?_; rintro e w1 ⟨_, rfl, _, hb1, ho1, a1, c1, rfl⟩
        have hs1 := hb1.size
        have hx1 := Lib.hid (hbox.out.next hb1)
        have hv1 := Lib.hid (SlOf.next hvW.out hb1)
        have hbw := Lib.hid (hbx.out.trans (hb1.mono hbB))
        replace ho1 : Hid (OwnO w1 w.heap.size (.slice a1 n c1) (os.take n)) := Lib.hid (ownsRow_mono ho1 hbB)
        obtain ⟨r0, r1, r2, r3, r4⟩ := five_cells hx1.out
        clear hcl hb1 q0 q1 q2 q3 q4
        obtain ⟨b, off, cc, _, _, e, hc⟩ := SlOf.some opC_len (by decide) hv1.out (by rintro rfl; simp at hlt)
        injection e with e1 e2 e3
        subst e1 e3
        have x0 := hc n hlt 0 (.int .i64 kd) (by decide) (by rw [hoe.out]; rfl)
        have x1 := hc n hlt 1 (.string ⟨nm.toArray⟩) (by decide) (by rw [hoe.out]; rfl)
        have x2 := hc n hlt 2 (.string ⟨tn.toArray⟩) (by decide) (by rw [hoe.out]; rfl)
        have x3 := hc n hlt 3 (.string ⟨dt.toArray⟩) (by decide) (by rw [hoe.out]; rfl)
        have x4 := hc n hlt 4 (.int .i64 sz) (by decide) (by rw [hoe.out]; rfl)
        rw [Nat.add_zero] at x0
        have kk1 : (n : Int) < os.length := by omega
        clear hc e2
        replace ho1 : Hid (OwnO w1 w.heap.size (.slice a1 n c1) K) := Lib.hid (by rw [hkn.out]; exact ho1.out)
        go_wp2_with fail
        go_ret
        exact hfin.out _ _ (by simpa using ho1.out) hbw.out
      | true =>
        go_enter Try.func39, Try.ntmps39
        go_wp2_with fail
        refine hcl.out.mono ?_; rintro e w1 ⟨_, rfl, _, hb1, ho1, a1, c1, rfl⟩
        have hs1 := hb1.size
        have hx1 := Lib.hid (hbox.out.next hb1)
        have hv1 := Lib.hid (SlOf.next hvW.out hb1)
        have hbw := Lib.hid (hbx.out.trans (hb1.mono hbB))
        replace ho1 : Hid (OwnO w1 w.heap.size (.slice a1 n c1) (os.take n)) := Lib.hid (ownsRow_mono ho1 hbB)
        obtain ⟨r0, r1, r2, r3, r4⟩ := five_cells hx1.out
        clear hcl hb1 q0 q1 q2 q3 q4
        obtain ⟨b, off, cc, _, _, e, hc⟩ := SlOf.some opC_len (by decide) hv1.out (by rintro rfl; simp at hlt)
        injection e with e1 e2 e3
        subst e1 e3
        have x0 := hc n hlt 0 (.int .i64 kd) (by decide) (by rw [hoe.out]; rfl)
        have x1 := hc n hlt 1 (.string ⟨nm.toArray⟩) (by decide) (by rw [hoe.out]; rfl)
        have x2 := hc n hlt 2 (.string ⟨tn.toArray⟩) (by decide) (by rw [hoe.out]; rfl)
        have x3 := hc n hlt 3 (.string ⟨dt.toArray⟩) (by decide) (by rw [hoe.out]; rfl)
        have x4 := hc n hlt 4 (.int .i64 sz) (by decide) (by rw [hoe.out]; rfl)
        rw [Nat.add_zero] at x0
        have kk1 : (n : Int) < os.length := by omega
        clear hc e2
        replace ho1 : Hid (OwnO w1 w.heap.size (.slice a1 n c1) K) := Lib.hid (by rw [hkn.out]; exact ho1.out)
        go_wp2_with fail
        refine (htn.out _ _ ho1.out hbw.out.size).mono ?_; rintro e w9 ⟨rfl, ho9, hb9⟩
        replace ho9 := Lib.hid ho9
        replace hb9 := Lib.hid (hbw.out.trans hb9)
        clear htn
        go_wp2_with fail
        go_ret
        exact hfin.out _ _ (by simpa using ho9.out) hb9.out
  · have hkn : Hid (K = os.take n) := Lib.hid (by rw [hks.out, List.getElem?_eq_none (by omega)]; unfold tornO; simp)
    have kk1 : ¬ (n : Int) < os.length := by omega
    clear hks
    cases bu with
    | false =>
      go_enter Try.func39, Try.ntmps39
      go_wp2_with fail
      refine hcl.out.mono ?_; rintro e w1 ⟨_, rfl, _, hb1, ho1, a1, c1, rfl⟩
      have hs1 := hb1.size
      have hx1 := Lib.hid (hbox.out.next hb1)
      have hv1 := Lib.hid (SlOf.next hvW.out hb1)
      have hbw := Lib.hid (hbx.out.trans (hb1.mono hbB))
      replace ho1 : Hid (OwnO w1 w.heap.size (.slice a1 n c1) (os.take n)) := Lib.hid (ownsRow_mono ho1 hbB)
      obtain ⟨r0, r1, r2, r3, r4⟩ := five_cells hx1.out
      clear hcl hb1 q0 q1 q2 q3 q4
      replace ho1 : Hid (OwnO w1 w.heap.size (.slice a1 n c1) K) := Lib.hid (by rw [hkn.out]; exact ho1.out)
      go_wp2_with fail
      go_ret
      exact hfin.out _ _ (by simpa using ho1.out) hbw.out
    | true =>
      go_enter Try.func39, Try.ntmps39
      go_wp2_with fail
      refine hcl.out.mono ?_; rintro e w1 ⟨_, rfl, _, hb1, ho1, a1, c1, rfl⟩
      have hs1 := hb1.size
      have hx1 := Lib.hid (hbox.out.next hb1)
      have hv1 := Lib.hid (SlOf.next hvW.out hb1)
      have hbw := Lib.hid (hbx.out.trans (hb1.mono hbB))
      replace ho1 : Hid (OwnO w1 w.heap.size (.slice a1 n c1) (os.take n)) := Lib.hid (ownsRow_mono ho1 hbB)
      obtain ⟨r0, r1, r2, r3, r4⟩ := five_cells hx1.out
      clear hcl hb1 q0 q1 q2 q3 q4
      replace ho1 : Hid (OwnO w1 w.heap.size (.slice a1 n c1) K) := Lib.hid (by rw [hkn.out]; exact ho1.out)
      go_wp2_with fail
      refine (htn.out _ _ ho1.out hbw.out.size).mono ?_; rintro e w9 ⟨rfl, ho9, hb9⟩
      replace ho9 := Lib.hid ho9
      replace hb9 := Lib.hid (hbw.out.trans hb9)
      clear htn
      go_wp2_with fail
      go_ret
      exact hfin.out _ _ (by simpa using ho9.out) hb9.out
end Go.Proofs.Ytahndjgamoojkaa
