/- Walks of layer 20's disk: turn. -/
import Derived.Test.YtahndjgamoojkaaBR38
import Derived.Test.YtahndjgamoojkaaBR35
import Derived.Test.YtahndjgamoojkaaBR26
import Derived.Test.YtahndjgamoojkaaBR07
namespace Go.Proofs.Ytahndjgamoojkaa
open Go.RowKit

/-- The turned list, k operations of it turned. -/
def partL (os : List Op20) (q y : Int) (k : Nat) : List Op20 := turnL (os.take k) q y ++ os.drop k
theorem partL_len (os : List Op20) (q y : Int) (k : Nat) : (partL os q y k).length = os.length := by
  unfold partL
  rw [List.length_append, turn_len, List.length_take, List.length_drop]
  omega
theorem partL_at (os : List Op20) (q y : Int) {k : Nat} (h : k < os.length) : partL os q y k = turnL (os.take k) q y ++ os[k]'h :: os.drop (k + 1) := by
  unfold partL
  rw [List.drop_eq_getElem_cons h]
theorem partL_next (os : List Op20) (q y : Int) {k : Nat} (h : k < os.length) : partL os q y (k + 1) = turnL (os.take k) q y ++ (if (os[k]'h).kind = 1 then { os[k]'h with data := shotB (os[k]'h).data (offL (os.take k) q) y } else os[k]'h) :: os.drop (k + 1) := by
  unfold partL
  rw [List.take_succ_eq_append_getElem h, turn_next, turnL]
  by_cases hk : (os[k]'h).kind = 1
  · rw [if_pos hk, if_pos hk, turnL]; simp
  · rw [if_neg hk, if_neg hk, turnL]; simp
theorem apps_one (o : Op20) : (apps20 [o]).length = if o.kind = 1 then o.data.length else 0 := by
  unfold apps20
  simp only [List.flatMap_cons, List.flatMap_nil, List.append_nil]
  split <;> rfl
theorem own_some {w : World} {B : Nat} {v : Value} {os : List Op20} (h : OwnO w B v os) (h0 : 0 < os.length) : ∃ g cap, v = .slice (some ⟨g, 0, none⟩) os.length cap ∧ os.length ≤ cap ∧ cap ≤ 9223372036854775807 ∧ B ≤ g ∧ g < w.heap.size ∧ ∀ i (hi : i < os.length) t u, t < 5 → (opC (os[i]'hi))[t]? = some u → w.cell? ⟨g, i * 5 + t, none⟩ = some u := by
  rcases id h.2 with ⟨_, h2⟩ | ⟨g, cap, cur, hv, _, hg, hn, hc, _⟩
  · omega
  · have hl := h.lt g (by rw [hv]; rfl)
    unfold maxLen at hc
    unfold OwnO at h
    rw [hv] at h
    refine ⟨g, cap, hv, hn, hc, hl.1, hl.2, fun i hi t u ht hu => ?_⟩
    have hf := flat_at (f := opC) opC_len os i t hi ht
    rw [h.cellAt _ (by omega), hf]
    exact hu
theorem ownO_one {w : World} {g i c : Nat} {o : Op20} (h : ∀ t u, t < 5 → (opC o)[t]? = some u → w.cell? ⟨g, i * 5 + t, none⟩ = some u) (hc : 1 ≤ c) : OpSl w (.slice (some ⟨g, i * 5, none⟩) 1 c) [o] :=
  Or.inr ⟨g, i * 5, c, hc, rfl, fun j hj t u ht hu => by
    obtain rfl : j = 0 := by simp at hj; omega
    rw [Nat.zero_mul, Nat.add_zero]
    exact h t u ht hu⟩
/-- One operation's bytes stored. -/
theorem ownO_set {w : World} {B g cap n : Nat} {P R : List Op20} {o : Op20} {k : Nat} (hk : P.length = k) (hn : (P ++ o :: R).length = n) (h : OwnO w B (.slice (some ⟨g, 0, none⟩) n cap) (P ++ o :: R)) (d : List UInt8) : OwnO (w.setCell ⟨g, k * 5 + 3, none⟩ (strV d)) B (.slice (some ⟨g, 0, none⟩) n cap) (P ++ { o with data := d } :: R) := by
  subst hk
  unfold OwnO at h ⊢
  have hl : (P ++ { o with data := d } :: R).length = (P ++ o :: R).length := by simp
  rw [hl]
  rw [hn] at h ⊢
  have h2 := (own_set h (P.length * 5 + 3) (strV d) (by rw [← hn]; simp; omega)).1
  rw [set_op] at h2
  exact h2
set_option maxHeartbeats 4000000 in
set_option maxRecDepth 100000 in
theorem turn20_any (os : List Op20) (a y : Int) (v : Value) (B : Nat) (w : World) (hv : OwnO w B v os) (hB : B ≤ w.heap.size) (hL : os.length ≤ 100000) (hod : (apps20 os).length ≤ 1000000000) (hod2 : ∀ o ∈ os, o.data.length ≤ 90000000) (ha : 0 ≤ a ∧ a ≤ 18446744073709551615) (hy0 : 0 ≤ y) (hy1 : y ≤ 4294967295) :
    Calls Try.prog 56 #[v, .int .u64 a, .int .u32 y] w fun e w' => e = .returned (.tuple #[]) ∧ OwnO w' B v (if apps20 os = [] then os else turnL os (a % (8 * ((apps20 os).length : Int))) y) ∧ Below B w w' := by
  have hbt := bits20_any os v w (slOf_own opC_len (E := 27) (B := B) hv) hL hod hod2
  obtain ⟨av, cv, rfl⟩ := own_form hv
  obtain ⟨T, hT⟩ : ∃ T, (apps20 os).length = T := ⟨_, rfl⟩
  rw [hT] at hbt hod ⊢
  replace hbt := Lib.hid hbt
  by_cases h0 : apps20 os = []
  · rw [if_pos h0]
    have hT0 : T = 0 := by rw [← hT, h0]; rfl
    subst hT0
    replace hv := Lib.hid hv
    clear hT h0
    go_enter Try.func56, Try.ntmps56
    go_wp2_with fail
    refine hbt.out.mono ?_; rintro e w1 ⟨rfl, hb1⟩
    replace hv := Lib.hid (ownsRow_below hv.out hb1)
    replace hb1 := Lib.hid (hb1.mono hB)
    clear hbt
    go_wp2_with fail
    refine bodyPost_ret (v := .tuple #[]) (by simp [results, Try.results56, go_sem]) rfl ?_
    exact ⟨rfl, hv.out, hb1.out⟩
  · rw [if_neg h0]
    have hT0 : 0 < T := by rw [← hT]; exact List.length_pos_iff.2 h0
    obtain ⟨q, hq⟩ : ∃ q, a % (8 * (T : Int)) = q := ⟨_, rfl⟩
    have hqb : 0 ≤ q ∧ q < 8 * (T : Int) := by
      rw [← hq]
      exact ⟨Int.emod_nonneg _ (by omega), Int.emod_lt_of_pos _ (by omega)⟩
    rw [hq]
    have k1 : IntKind.u64.wrap (8 * (T : Int)) = 8 * T := by rw [IntKind.wrap_u64]; omega
    have k2 : a.tmod (8 * (T : Int)) = q := by rw [Int.tmod_eq_emod_of_nonneg ha.1]; exact hq
    have k3 : IntKind.i64.wrap q = q := by rw [IntKind.wrap_i64]; omega
    have k4 : ¬ 8 * (T : Int) = 0 := by omega
    have k5 : (8 * (T : Int) == 0) = false := by simpa using k4
    have hoff := fun P => off_eq P q
    have hal := apps_le os
    rw [hT] at hal
    replace hv := Lib.hid hv
    replace hoff := Lib.hid hoff
    replace hal := Lib.hid hal
    clear hq h0 hT
    go_enter Try.func56, Try.ntmps56
    go_wp2_with fail
    refine hbt.out.mono ?_; rintro e w1 ⟨rfl, hb1⟩
    have hs1 := hb1.size
    have hst : Hid (OwnO w1 B (.slice av os.length cv) (partL os q y 0)) := Lib.hid (by unfold partL; exact ownsRow_below hv.out hb1)
    replace hb1 := Lib.hid (hb1.mono hB)
    clear hbt hv
    go_wp2_with fail
    go_loopw [7, 22] (fun f i wr => ∃ (k : Nat) (z : Int), f = .int .i64 z ∧ i = .int .i64 k ∧ k ≤ os.length ∧ Hid (z = offL (os.take k) q) ∧ (-8000000000 ≤ z ∧ z < 8000000000) ∧ Hid (OwnO wr B (.slice av os.length cv) (partL os q y k)) ∧ Hid (Below B w wr)) (fun _ i _ => os.length - (intOf i).toNat)
    case atStart => exact ⟨0, q, rfl, rfl, Nat.zero_le _, Lib.hid rfl, by omega, hst, hb1⟩
    case round =>
      clear hst hb1 hs1
      obtain ⟨k, z, rfl, rfl, hk, hz, hzb, hv, hb⟩ := hrel
      have hszr := hb.out.size
      by_cases hlt : k < os.length
      · have hpl := partL_len os q y k
        obtain ⟨g, cap, e, hc1, hc2, hBg, hg, hc⟩ := own_some hv.out (by omega)
        rw [hpl] at e hc1
        injection e with e1 e2 e3
        subst e1 e3
        have hat := partL_at os q y hlt
        have hnx := partL_next os q y hlt
        have hPl : (turnL (os.take k) q y).length = k := by rw [turn_len, List.length_take]; omega
        have hgk : (partL os q y k)[k]'(by omega) = os[k]'hlt := by simp only [hat]; rw [List.getElem_append_right (by omega)]; simp [hPl]
        have c0 := hc k (by omega) 0 (.int .i64 (os[k]'hlt).kind) (by decide) (by rw [hgk]; rfl)
        have c1 := hc k (by omega) 1 (strV (os[k]'hlt).name) (by decide) (by rw [hgk]; rfl)
        have c2 := hc k (by omega) 2 (strV (os[k]'hlt).to) (by decide) (by rw [hgk]; rfl)
        have c3 := hc k (by omega) 3 (strV (os[k]'hlt).data) (by decide) (by rw [hgk]; rfl)
        have c4 := hc k (by omega) 4 (.int .i64 (os[k]'hlt).size) (by decide) (by rw [hgk]; rfl)
        rw [Nat.add_zero] at c0
        have hone : OpSl wr (.slice (some ⟨g, k * 5, none⟩) 1 (cv - k)) [os[k]'hlt] := ownO_one (fun t u ht hu => hc k (by omega) t u ht (by rw [hgk]; exact hu)) (by omega)
        have hdl := hod2 _ (List.getElem_mem hlt)
        have han := apps_next os hlt
        have hak := hal.out (k + 1)
        have ho1 := hoff.out (os.take (k + 1))
        have hsz1 := off_app (os.take k) (os[k]'hlt) q
        rw [← List.take_succ_eq_append_getElem hlt, ← hz.out] at hsz1
        have hv2 := hv.out
        rw [hat] at hv2
        rw [← hz.out] at hnx
        have hb1 := apps_one (os[k]'hlt)
        generalize os[k]'hlt = o at c0 c1 c2 c3 c4 hone hdl han hnx hsz1 hv2 hb1
        have hbits := fun V (hV : OpSl V (.slice (some ⟨g, k * 5, none⟩) 1 (cv - k)) [o]) => bits20_any [o] _ V hV (show 1 ≤ 100000 by omega) (by rw [hb1]; split <;> omega) (by intro o' h; rw [List.mem_singleton.1 h]; exact hdl)
        rw [hb1] at hbits
        obtain ⟨kd, nm, tn, dt, sz⟩ := o
        unfold strV at c1 c2 c3
        simp only at c0 c1 c2 c3 c4 hdl hnx hsz1 hbits
        have hbb := (Below.refl wr.heap.size wr).alloc (Nat.le_refl _) (.cells [Value.int .i64 kd, .string ⟨nm.toArray⟩, .string ⟨tn.toArray⟩, .string ⟨dt.toArray⟩, .int .i64 sz].toArray 27)
        have hna := arrAt_new wr 27 [Value.int .i64 kd, .string ⟨nm.toArray⟩, .string ⟨tn.toArray⟩, .string ⟨dt.toArray⟩, .int .i64 sz]
        have hone2 := Lib.hid (SlOf.next hone hbb)
        have hv3 := ownsRow_below hv2 hbb
        have hBr : B ≤ wr.heap.size := Nat.le_trans hB hszr
        have hbw := Lib.hid (hb.out.trans (hbb.mono hBr))
        have hsb := hbb.size
        have hkO : (k : Int) < os.length := by omega
        have kk0 : (0 : Int) ≤ k := by omega
        have kw : IntKind.i64.wrap ((k : Int) + 1) = (k : Int) + 1 := by rw [IntKind.wrap_i64]; omega
        have kc : k + 1 ≤ cv := by omega
        replace hna := Lib.hid hna
        replace hv3 := Lib.hid (show OwnO _ B (.slice (some ⟨g, 0, none⟩) os.length cv) (turnL (os.take k) q y ++ (⟨kd, nm, tn, dt, sz⟩ : Op20) :: os.drop (k + 1)) from hv3)
        replace hPl := Lib.hid hPl
        clear hc hat hgk hone han hv hv2 hb hbb e2 hb1 hpl
        by_cases h1 : kd = 1
        · subst h1
          rw [if_pos rfl] at hbits hsz1 hnx
          have hzn : -8000000000 ≤ z - 8 * (dt.length : Int) := by omega
          have hw0 : IntKind.i64.wrap (z - 8 * (dt.length : Int)) = z - 8 * dt.length := by rw [IntKind.wrap_i64]; omega
          replace hbits := Lib.hid hbits
          replace hnx := Lib.hid hnx
          replace hsz1 := Lib.hid hsz1.symm
          replace ho1 := Lib.hid ho1
          by_cases hn0 : dt.length = 0
          · have hsh : Hid (shotB dt z y = dt) := Lib.hid (by unfold shotB; rw [if_neg (by omega)])
            have g1 : ¬ (0 : Int) < 8 * dt.length := by omega
            replace hn0 := Lib.hid hn0
            go_wp2_with fail
            refine (hbits.out _ hone2.out).mono ?_; rintro e w5 ⟨rfl, hb5⟩
            have hs5 := hb5.size
            have hv5 := Lib.hid (show OwnO w5 B (.slice (some ⟨g, 0, none⟩) os.length cv) (turnL (os.take k) q y ++ (⟨1, nm, tn, dt, sz⟩ : Op20) :: os.drop (k + 1)) from ownsRow_below hv3.out hb5)
            have hx5 := Lib.hid (hna.out.next hb5)
            have hbw5 := Lib.hid (hbw.out.trans (hb5.mono (by omega)))
            clear hbits hone2 hb5 hna hv3 hbw
            have hnn : Hid (OwnO w5 B (.slice (some ⟨g, 0, none⟩) os.length cv) (partL os q y (k + 1))) := Lib.hid (by
              rw [hnx.out, hsh.out]
              exact hv5.out)
            go_wp2_with fail
            exact ⟨⟨k + 1, z - 8 * (dt.length : Int), rfl, by go_num, by omega, hsz1, by omega, hnn, hbw5⟩, by simp [intOf]; omega⟩
          have g1 : (0 : Int) < 8 * dt.length := by omega
          by_cases hz1 : z < 8 * (dt.length : Int)
          · by_cases hz2 : -32 < z
            · by_cases hz3 : 0 ≤ z
              · skip
                go_wp2_with fail
                refine (hbits.out _ hone2.out).mono ?_; rintro e w5 ⟨rfl, hb5⟩
                have hs5 := hb5.size
                have hv5 := Lib.hid (show OwnO w5 B (.slice (some ⟨g, 0, none⟩) os.length cv) (turnL (os.take k) q y ++ (⟨1, nm, tn, dt, sz⟩ : Op20) :: os.drop (k + 1)) from ownsRow_below hv3.out hb5)
                have hx5 := Lib.hid (hna.out.next hb5)
                have hbw5 := Lib.hid (hbw.out.trans (hb5.mono (by omega)))
                clear hbits hone2 hb5 hna hv3 hbw
                go_wp2_with fail
                have hbu := Lib.hid (fun V => burst18_any dt z y V (by omega) (by omega) (by omega) (by omega))
                have hsh : Hid (shotB dt z y = burstB dt z y) := Lib.hid (by
                  unfold shotB gB
                  rw [if_pos ⟨by omega, hz1, hz2⟩, show max z 0 = z by omega, show max (-z) 0 = 0 by omega]
                  simp)
                generalize burstB dt z y = d2 at hbu hsh
                have hx6 := hx5.out.next ((drawn_drew w5).below _)
                have hv6 := ownsRow_drawn hv5.out (drawn_drew w5)
                have hb6 := hbw5.out.trans ((drawn_drew w5).below _)
                have hs6 : g < w5.drew.heap.size := (hv6.lt g rfl).2
                obtain ⟨u0, u1, u2, u3, u4⟩ := five_cells hx6
                have m1 : max z 0 = z := by omega
                have m2 : max (-z) 0 = 0 := by omega
                have m3 : IntKind.i64.wrap (-z) = -z := by rw [IntKind.wrap_i64]; omega
                refine zgo_begin 14 (fun W' => W'.cell? ⟨wr.heap.size, 3, none⟩ = some (.string ⟨dt.toArray⟩)) (by kernel_rfl) u3 ?_
                intro hHeld
                generalize w5.drew = w6 at hHeld hx6 hv6 hb6 hs6 u3 ⊢
                replace hx6 := Lib.hid hx6
                replace hv6 := Lib.hid (show OwnO w6 B (.slice (some ⟨g, 0, none⟩) os.length cv) (turnL (os.take k) q y ++ (⟨1, nm, tn, dt, sz⟩ : Op20) :: os.drop (k + 1)) from hv6)
                replace hb6 := Lib.hid hb6
                clear u0 u1 u2 u4 hx5 hv5 hbw5
                refine zgo_take 0 (v := ?_) rfl (by kernel_rfl) (by kernel_rfl) (by kernel_rfl) (by kernel_rfl) (fun _ _ _ h => h) (by rfl) ?_ (by assumption) ?_
                rotate_left
                · (intro w hSw; (try dsimp only at hSw); go_simp; all_goals (with_reducible rfl))
                try simp only [Act.put, List.setIfInBounds_toArray, List.set_cons_zero, List.set_cons_succ]
                refine zgo_take 1 (v := ?_) rfl (by kernel_rfl) (by kernel_rfl) (by kernel_rfl) (by kernel_rfl) (fun _ _ _ h => h) (by rfl) ?_ (by assumption) ?_
                rotate_left
                · (intro w hSw; (try dsimp only at hSw); go_simp; all_goals (with_reducible rfl))
                try simp only [Act.put, List.setIfInBounds_toArray, List.set_cons_zero, List.set_cons_succ]
                refine zgo_take 2 (v := ?_) rfl (by kernel_rfl) (by kernel_rfl) (by kernel_rfl) (by kernel_rfl) (fun _ _ _ h => h) (by rfl) ?_ (by assumption) ?_
                rotate_left
                · (intro w hSw; (try dsimp only at hSw); go_simp; all_goals (with_reducible rfl))
                try simp only [Act.put, List.setIfInBounds_toArray, List.set_cons_zero, List.set_cons_succ]
                refine zgo_take 3 (v := ?_) rfl (by kernel_rfl) (by kernel_rfl) (by kernel_rfl) (by kernel_rfl) (fun _ _ _ h => h) (by rfl) ?_ (by assumption) ?_
                rotate_left
                · (intro w hSw; (try dsimp only at hSw); go_simp; all_goals (with_reducible rfl))
                try simp only [Act.put, List.setIfInBounds_toArray, List.set_cons_zero, List.set_cons_succ]
                refine zgo_take 4 (v := ?_) rfl (by kernel_rfl) (by kernel_rfl) (by kernel_rfl) (by kernel_rfl) (fun _ _ _ h => h) (by rfl) ?_ (by assumption) ?_
                rotate_left
                · (intro w hSw; (try dsimp only at hSw); go_simp; all_goals (with_reducible rfl))
                try simp only [Act.put, List.setIfInBounds_toArray, List.set_cons_zero, List.set_cons_succ]
                refine zgo_take 5 (v := ?_) rfl (by kernel_rfl) (by kernel_rfl) (by kernel_rfl) (by kernel_rfl) (fun _ _ _ h => h) (by rfl) ?_ (by assumption) ?_
                rotate_left
                · (intro w hSw; (try dsimp only at hSw); go_simp; all_goals (with_reducible rfl))
                try simp only [Act.put, List.setIfInBounds_toArray, List.set_cons_zero, List.set_cons_succ]
                refine zgo_take 6 (v := ?_) rfl (by kernel_rfl) (by kernel_rfl) (by kernel_rfl) (by kernel_rfl) (fun _ _ _ h => h) (by rfl) ?_ (by assumption) ?_
                rotate_left
                · (intro w hSw; (try dsimp only at hSw); go_simp; all_goals (with_reducible rfl))
                try simp only [Act.put, List.setIfInBounds_toArray, List.set_cons_zero, List.set_cons_succ]
                refine zgo_take 7 (v := ?_) rfl (by kernel_rfl) (by kernel_rfl) (by kernel_rfl) (by kernel_rfl) (fun _ _ _ h => h) (by rfl) ?_ (by assumption) ?_
                rotate_left
                · (intro w hSw; (try dsimp only at hSw); go_simp; all_goals (with_reducible rfl))
                try simp only [Act.put, List.setIfInBounds_toArray, List.set_cons_zero, List.set_cons_succ]
                refine zgo_take 8 (v := ?_) rfl (by kernel_rfl) (by kernel_rfl) (by kernel_rfl) (by kernel_rfl) (fun _ _ _ h => h) (by rfl) ?_ (by assumption) ?_
                rotate_left
                · (intro w hSw; (try dsimp only at hSw); go_simp; all_goals (with_reducible rfl))
                try simp only [Act.put, List.setIfInBounds_toArray, List.set_cons_zero, List.set_cons_succ]
                refine zgo_take 9 (v := ?_) rfl (by kernel_rfl) (by kernel_rfl) (by kernel_rfl) (by kernel_rfl) (fun _ _ _ h => h) (by rfl) ?_ (by assumption) ?_
                rotate_left
                · (intro w hSw; (try dsimp only at hSw); go_simp; all_goals (with_reducible rfl))
                try simp only [Act.put, List.setIfInBounds_toArray, List.set_cons_zero, List.set_cons_succ]
                refine zgo_take 10 (v := ?_) rfl (by kernel_rfl) (by kernel_rfl) (by kernel_rfl) (by kernel_rfl) (fun _ _ _ h => h) (by rfl) ?_ (by assumption) ?_
                rotate_left
                · (intro w hSw; (try dsimp only at hSw); go_simp; all_goals (with_reducible rfl))
                try simp only [Act.put, List.setIfInBounds_toArray, List.set_cons_zero, List.set_cons_succ]
                refine zgo_ready [11] (by kernel_rfl) (by simp) ?_
                refine ZAll.cons rfl (fun K hK => ?_) ZAll.nil
                go_simp
                go_at_call 67
                (with_reducible refine (hbu.out _).mono ?_)
                rintro e w7 ⟨rfl, hb7⟩
                have hx7 := hx6.out.next hb7
                have hv7 := Lib.hid (show OwnO w7 B (.slice (some ⟨g, 0, none⟩) os.length cv) (turnL (os.take k) q y ++ (⟨1, nm, tn, dt, sz⟩ : Op20) :: os.drop (k + 1)) from ownsRow_below hv6.out hb7)
                replace hb6 := Lib.hid (hb6.out.trans (hb7.mono (by omega)))
                obtain ⟨u0, u1, u2, u3', u4⟩ := five_cells hx7
                refine hK.out _ _ (u3') (fun hHeld => ?_)
                clear hK K
                try simp only [Act.put, List.setIfInBounds_toArray, List.set_cons_zero, List.set_cons_succ]
                have hlen : (turnL (os.take k) q y ++ (⟨1, nm, tn, dt, sz⟩ : Op20) :: os.drop (k + 1)).length = os.length := by rw [List.length_append, List.length_cons, List.length_drop, hPl.out]; omega
                obtain ⟨_, ⟨z0, e0⟩, ef, _⟩ := own_set (show w7.ownsRow B 27 5 (.slice (some ⟨g, 0, none⟩) os.length cv) os.length ((turnL (os.take k) q y ++ (⟨1, nm, tn, dt, sz⟩ : Op20) :: os.drop (k + 1)).flatMap opC) from by
                  have h := hv7.out
                  unfold OwnO at h
                  rw [hlen] at h
                  exact h) (k * 5 + 3) (strV d2) (by omega)
                have hset := ownO_set hPl.out hlen hv7.out d2
                have hst : OwnO (w7.setCell ⟨g, k * 5 + 3, none⟩ (strV d2)) B (.slice (some ⟨g, 0, none⟩) os.length cv) (partL os q y (k + 1)) := by
                  rw [hnx.out, hsh.out]
                  exact hset
                have hbs := hb6.out.setCell (p := ⟨g, k * 5 + 3, none⟩) hBg (strV d2)
                unfold strV at hst hbs
                replace hst := Lib.hid hst
                replace hbs := Lib.hid hbs
                clear hset hlen hx7 u0 u1 u2 u4
                refine zgo_take 12 (v := ?_) rfl (by kernel_rfl) (by kernel_rfl) (by kernel_rfl) (by kernel_rfl) (fun _ _ _ h => h) (by rfl) ?_ (by assumption) ?_
                rotate_left
                · (intro w hSw; (try dsimp only at hSw); go_simp; all_goals (with_reducible rfl))
                try simp only [Act.put, List.setIfInBounds_toArray, List.set_cons_zero, List.set_cons_succ]
                refine zgo_take 13 (v := ?_) rfl (by kernel_rfl) (by kernel_rfl) (by kernel_rfl) (by kernel_rfl) (fun _ _ _ h => h) (by rfl) ?_ (by assumption) ?_
                rotate_left
                · (intro w hSw; (try dsimp only at hSw); go_simp; all_goals (with_reducible rfl))
                try simp only [Act.put, List.setIfInBounds_toArray, List.set_cons_zero, List.set_cons_succ]
                refine zgo_last (by kernel_rfl) (by kernel_rfl) rfl (fun K hK => ?_)
                go_simp
                refine hK.out _ _ ?_
                clear hK K
                refine hide_world (R := fun W => OwnO W B (.slice (some ⟨g, 0, none⟩) os.length cv) (partL os q y (k + 1)) ∧ Below B w W) ⟨hst.out, hbs.out⟩ ?_
                intro w8 hw8
                clear hst hbs e0 ef u3' hv7 hb6 hHeld
                go_wp2_with fail
                exact ⟨⟨k + 1, z - 8 * (dt.length : Int), rfl, by go_num, by omega, hsz1, by omega, Lib.hid hw8.out.1, Lib.hid hw8.out.2⟩, by simp [intOf]; omega⟩
              · skip
                go_wp2_with fail
                refine (hbits.out _ hone2.out).mono ?_; rintro e w5 ⟨rfl, hb5⟩
                have hs5 := hb5.size
                have hv5 := Lib.hid (show OwnO w5 B (.slice (some ⟨g, 0, none⟩) os.length cv) (turnL (os.take k) q y ++ (⟨1, nm, tn, dt, sz⟩ : Op20) :: os.drop (k + 1)) from ownsRow_below hv3.out hb5)
                have hx5 := Lib.hid (hna.out.next hb5)
                have hbw5 := Lib.hid (hbw.out.trans (hb5.mono (by omega)))
                clear hbits hone2 hb5 hna hv3 hbw
                go_wp2_with fail
                have hbu := Lib.hid (fun V => burst18_any dt 0 (y / 2 ^ (-z).toNat) V (by omega) (by exact Int.ediv_nonneg hy0 (by exact Int.le_of_lt (Int.pow_pos (by decide)))) (by exact Int.le_trans (Int.ediv_le_self _ hy0) hy1) (by omega))
                have hsh : Hid (shotB dt z y = burstB dt 0 (y / 2 ^ (-z).toNat)) := Lib.hid (by
                  unfold shotB gB
                  rw [if_pos ⟨by omega, hz1, hz2⟩, show max z 0 = 0 by omega, show max (-z) 0 = (-z) by omega])
                generalize burstB dt 0 (y / 2 ^ (-z).toNat) = d2 at hbu hsh
                have hx6 := hx5.out.next ((drawn_drew w5).below _)
                have hv6 := ownsRow_drawn hv5.out (drawn_drew w5)
                have hb6 := hbw5.out.trans ((drawn_drew w5).below _)
                have hs6 : g < w5.drew.heap.size := (hv6.lt g rfl).2
                obtain ⟨u0, u1, u2, u3, u4⟩ := five_cells hx6
                have m1 : max z 0 = 0 := by omega
                have m2 : max (-z) 0 = -z := by omega
                have m3 : IntKind.i64.wrap (-z) = -z := by rw [IntKind.wrap_i64]; omega
                refine zgo_begin 14 (fun W' => W'.cell? ⟨wr.heap.size, 3, none⟩ = some (.string ⟨dt.toArray⟩)) (by kernel_rfl) u3 ?_
                intro hHeld
                generalize w5.drew = w6 at hHeld hx6 hv6 hb6 hs6 u3 ⊢
                replace hx6 := Lib.hid hx6
                replace hv6 := Lib.hid (show OwnO w6 B (.slice (some ⟨g, 0, none⟩) os.length cv) (turnL (os.take k) q y ++ (⟨1, nm, tn, dt, sz⟩ : Op20) :: os.drop (k + 1)) from hv6)
                replace hb6 := Lib.hid hb6
                clear u0 u1 u2 u4 hx5 hv5 hbw5
                refine zgo_take 0 (v := ?_) rfl (by kernel_rfl) (by kernel_rfl) (by kernel_rfl) (by kernel_rfl) (fun _ _ _ h => h) (by rfl) ?_ (by assumption) ?_
                rotate_left
                · (intro w hSw; (try dsimp only at hSw); go_simp; all_goals (with_reducible rfl))
                try simp only [Act.put, List.setIfInBounds_toArray, List.set_cons_zero, List.set_cons_succ]
                refine zgo_take 1 (v := ?_) rfl (by kernel_rfl) (by kernel_rfl) (by kernel_rfl) (by kernel_rfl) (fun _ _ _ h => h) (by rfl) ?_ (by assumption) ?_
                rotate_left
                · (intro w hSw; (try dsimp only at hSw); go_simp; all_goals (with_reducible rfl))
                try simp only [Act.put, List.setIfInBounds_toArray, List.set_cons_zero, List.set_cons_succ]
                refine zgo_take 2 (v := ?_) rfl (by kernel_rfl) (by kernel_rfl) (by kernel_rfl) (by kernel_rfl) (fun _ _ _ h => h) (by rfl) ?_ (by assumption) ?_
                rotate_left
                · (intro w hSw; (try dsimp only at hSw); go_simp; all_goals (with_reducible rfl))
                try simp only [Act.put, List.setIfInBounds_toArray, List.set_cons_zero, List.set_cons_succ]
                refine zgo_take 3 (v := ?_) rfl (by kernel_rfl) (by kernel_rfl) (by kernel_rfl) (by kernel_rfl) (fun _ _ _ h => h) (by rfl) ?_ (by assumption) ?_
                rotate_left
                · (intro w hSw; (try dsimp only at hSw); go_simp; all_goals (with_reducible rfl))
                try simp only [Act.put, List.setIfInBounds_toArray, List.set_cons_zero, List.set_cons_succ]
                refine zgo_take 4 (v := ?_) rfl (by kernel_rfl) (by kernel_rfl) (by kernel_rfl) (by kernel_rfl) (fun _ _ _ h => h) (by rfl) ?_ (by assumption) ?_
                rotate_left
                · (intro w hSw; (try dsimp only at hSw); go_simp; all_goals (with_reducible rfl))
                try simp only [Act.put, List.setIfInBounds_toArray, List.set_cons_zero, List.set_cons_succ]
                refine zgo_take 5 (v := ?_) rfl (by kernel_rfl) (by kernel_rfl) (by kernel_rfl) (by kernel_rfl) (fun _ _ _ h => h) (by rfl) ?_ (by assumption) ?_
                rotate_left
                · (intro w hSw; (try dsimp only at hSw); go_simp; all_goals (with_reducible rfl))
                try simp only [Act.put, List.setIfInBounds_toArray, List.set_cons_zero, List.set_cons_succ]
                refine zgo_take 6 (v := ?_) rfl (by kernel_rfl) (by kernel_rfl) (by kernel_rfl) (by kernel_rfl) (fun _ _ _ h => h) (by rfl) ?_ (by assumption) ?_
                rotate_left
                · (intro w hSw; (try dsimp only at hSw); go_simp; all_goals (with_reducible rfl))
                try simp only [Act.put, List.setIfInBounds_toArray, List.set_cons_zero, List.set_cons_succ]
                refine zgo_take 7 (v := ?_) rfl (by kernel_rfl) (by kernel_rfl) (by kernel_rfl) (by kernel_rfl) (fun _ _ _ h => h) (by rfl) ?_ (by assumption) ?_
                rotate_left
                · (intro w hSw; (try dsimp only at hSw); go_simp; all_goals (with_reducible rfl))
                try simp only [Act.put, List.setIfInBounds_toArray, List.set_cons_zero, List.set_cons_succ]
                refine zgo_take 8 (v := ?_) rfl (by kernel_rfl) (by kernel_rfl) (by kernel_rfl) (by kernel_rfl) (fun _ _ _ h => h) (by rfl) ?_ (by assumption) ?_
                rotate_left
                · (intro w hSw; (try dsimp only at hSw); go_simp; all_goals (with_reducible rfl))
                try simp only [Act.put, List.setIfInBounds_toArray, List.set_cons_zero, List.set_cons_succ]
                refine zgo_take 9 (v := ?_) rfl (by kernel_rfl) (by kernel_rfl) (by kernel_rfl) (by kernel_rfl) (fun _ _ _ h => h) (by rfl) ?_ (by assumption) ?_
                rotate_left
                · (intro w hSw; (try dsimp only at hSw); go_simp; all_goals (with_reducible rfl))
                try simp only [Act.put, List.setIfInBounds_toArray, List.set_cons_zero, List.set_cons_succ]
                refine zgo_take 10 (v := ?_) rfl (by kernel_rfl) (by kernel_rfl) (by kernel_rfl) (by kernel_rfl) (fun _ _ _ h => h) (by rfl) ?_ (by assumption) ?_
                rotate_left
                · (intro w hSw; (try dsimp only at hSw); go_simp; all_goals (with_reducible rfl))
                try simp only [Act.put, List.setIfInBounds_toArray, List.set_cons_zero, List.set_cons_succ]
                refine zgo_ready [11] (by kernel_rfl) (by simp) ?_
                refine ZAll.cons rfl (fun K hK => ?_) ZAll.nil
                go_simp
                go_at_call 67
                (with_reducible refine (hbu.out _).mono ?_)
                rintro e w7 ⟨rfl, hb7⟩
                have hx7 := hx6.out.next hb7
                have hv7 := Lib.hid (show OwnO w7 B (.slice (some ⟨g, 0, none⟩) os.length cv) (turnL (os.take k) q y ++ (⟨1, nm, tn, dt, sz⟩ : Op20) :: os.drop (k + 1)) from ownsRow_below hv6.out hb7)
                replace hb6 := Lib.hid (hb6.out.trans (hb7.mono (by omega)))
                obtain ⟨u0, u1, u2, u3', u4⟩ := five_cells hx7
                refine hK.out _ _ (u3') (fun hHeld => ?_)
                clear hK K
                try simp only [Act.put, List.setIfInBounds_toArray, List.set_cons_zero, List.set_cons_succ]
                have hlen : (turnL (os.take k) q y ++ (⟨1, nm, tn, dt, sz⟩ : Op20) :: os.drop (k + 1)).length = os.length := by rw [List.length_append, List.length_cons, List.length_drop, hPl.out]; omega
                obtain ⟨_, ⟨z0, e0⟩, ef, _⟩ := own_set (show w7.ownsRow B 27 5 (.slice (some ⟨g, 0, none⟩) os.length cv) os.length ((turnL (os.take k) q y ++ (⟨1, nm, tn, dt, sz⟩ : Op20) :: os.drop (k + 1)).flatMap opC) from by
                  have h := hv7.out
                  unfold OwnO at h
                  rw [hlen] at h
                  exact h) (k * 5 + 3) (strV d2) (by omega)
                have hset := ownO_set hPl.out hlen hv7.out d2
                have hst : OwnO (w7.setCell ⟨g, k * 5 + 3, none⟩ (strV d2)) B (.slice (some ⟨g, 0, none⟩) os.length cv) (partL os q y (k + 1)) := by
                  rw [hnx.out, hsh.out]
                  exact hset
                have hbs := hb6.out.setCell (p := ⟨g, k * 5 + 3, none⟩) hBg (strV d2)
                unfold strV at hst hbs
                replace hst := Lib.hid hst
                replace hbs := Lib.hid hbs
                clear hset hlen hx7 u0 u1 u2 u4
                refine zgo_take 12 (v := ?_) rfl (by kernel_rfl) (by kernel_rfl) (by kernel_rfl) (by kernel_rfl) (fun _ _ _ h => h) (by rfl) ?_ (by assumption) ?_
                rotate_left
                · (intro w hSw; (try dsimp only at hSw); go_simp; all_goals (with_reducible rfl))
                try simp only [Act.put, List.setIfInBounds_toArray, List.set_cons_zero, List.set_cons_succ]
                refine zgo_take 13 (v := ?_) rfl (by kernel_rfl) (by kernel_rfl) (by kernel_rfl) (by kernel_rfl) (fun _ _ _ h => h) (by rfl) ?_ (by assumption) ?_
                rotate_left
                · (intro w hSw; (try dsimp only at hSw); go_simp; all_goals (with_reducible rfl))
                try simp only [Act.put, List.setIfInBounds_toArray, List.set_cons_zero, List.set_cons_succ]
                refine zgo_last (by kernel_rfl) (by kernel_rfl) rfl (fun K hK => ?_)
                go_simp
                refine hK.out _ _ ?_
                clear hK K
                refine hide_world (R := fun W => OwnO W B (.slice (some ⟨g, 0, none⟩) os.length cv) (partL os q y (k + 1)) ∧ Below B w W) ⟨hst.out, hbs.out⟩ ?_
                intro w8 hw8
                clear hst hbs e0 ef u3' hv7 hb6 hHeld
                go_wp2_with fail
                exact ⟨⟨k + 1, z - 8 * (dt.length : Int), rfl, by go_num, by omega, hsz1, by omega, Lib.hid hw8.out.1, Lib.hid hw8.out.2⟩, by simp [intOf]; omega⟩
            · have hsh : Hid (shotB dt z y = dt) := Lib.hid (by unfold shotB; rw [if_neg (by omega)])
              go_wp2_with fail
              refine (hbits.out _ hone2.out).mono ?_; rintro e w5 ⟨rfl, hb5⟩
              have hs5 := hb5.size
              have hv5 := Lib.hid (show OwnO w5 B (.slice (some ⟨g, 0, none⟩) os.length cv) (turnL (os.take k) q y ++ (⟨1, nm, tn, dt, sz⟩ : Op20) :: os.drop (k + 1)) from ownsRow_below hv3.out hb5)
              have hx5 := Lib.hid (hna.out.next hb5)
              have hbw5 := Lib.hid (hbw.out.trans (hb5.mono (by omega)))
              clear hbits hone2 hb5 hna hv3 hbw
              have hnn : Hid (OwnO w5 B (.slice (some ⟨g, 0, none⟩) os.length cv) (partL os q y (k + 1))) := Lib.hid (by
                rw [hnx.out, hsh.out]
                exact hv5.out)
              go_wp2_with fail
              exact ⟨⟨k + 1, z - 8 * (dt.length : Int), rfl, by go_num, by omega, hsz1, by omega, hnn, hbw5⟩, by simp [intOf]; omega⟩
          · have hsh : Hid (shotB dt z y = dt) := Lib.hid (by unfold shotB; rw [if_neg (by omega)])
            go_wp2_with fail
            refine (hbits.out _ hone2.out).mono ?_; rintro e w5 ⟨rfl, hb5⟩
            have hs5 := hb5.size
            have hv5 := Lib.hid (show OwnO w5 B (.slice (some ⟨g, 0, none⟩) os.length cv) (turnL (os.take k) q y ++ (⟨1, nm, tn, dt, sz⟩ : Op20) :: os.drop (k + 1)) from ownsRow_below hv3.out hb5)
            have hx5 := Lib.hid (hna.out.next hb5)
            have hbw5 := Lib.hid (hbw.out.trans (hb5.mono (by omega)))
            clear hbits hone2 hb5 hna hv3 hbw
            have hnn : Hid (OwnO w5 B (.slice (some ⟨g, 0, none⟩) os.length cv) (partL os q y (k + 1))) := Lib.hid (by
              rw [hnx.out, hsh.out]
              exact hv5.out)
            go_wp2_with fail
            exact ⟨⟨k + 1, z - 8 * (dt.length : Int), rfl, by go_num, by omega, hsz1, by omega, hnn, hbw5⟩, by simp [intOf]; omega⟩
        · rw [if_neg h1] at hbits hsz1 hnx
          simp only [Int.ofNat_zero, Int.mul_zero] at hbits
          replace hbits := Lib.hid hbits
          replace hnx := Lib.hid hnx
          replace hsz1 := Lib.hid hsz1.symm
          replace ho1 := Lib.hid ho1
          have hw0 : IntKind.i64.wrap (z - 0) = z := by rw [IntKind.wrap_i64]; omega
          have hw1 : IntKind.i64.wrap z = z := by rw [IntKind.wrap_i64]; omega
          go_wp2_with fail
          refine (hbits.out _ hone2.out).mono ?_; rintro e w5 ⟨rfl, hb5⟩
          have hs5 := hb5.size
          have hv5 := Lib.hid (show OwnO w5 B (.slice (some ⟨g, 0, none⟩) os.length cv) (turnL (os.take k) q y ++ (⟨kd, nm, tn, dt, sz⟩ : Op20) :: os.drop (k + 1)) from ownsRow_below hv3.out hb5)
          have hx5 := Lib.hid (hna.out.next hb5)
          have hbw5 := Lib.hid (hbw.out.trans (hb5.mono (by omega)))
          clear hbits hone2 hb5 hna hv3 hbw
          have hnn : Hid (OwnO w5 B (.slice (some ⟨g, 0, none⟩) os.length cv) (partL os q y (k + 1))) := Lib.hid (by
            rw [hnx.out]
            exact hv5.out)
          go_wp2_with fail
          exact ⟨⟨k + 1, z, rfl, by go_num, by omega, hsz1, by omega, hnn, hbw5⟩, by simp [intOf]; omega⟩
      · have hke : ¬ ((k : Int) < os.length) := by omega
        have hv2 := hv.out
        unfold partL at hv2
        rw [List.take_of_length_le (by omega), List.drop_of_length_le (by omega), List.append_nil] at hv2
        replace hv2 := Lib.hid hv2
        clear hv hz
        go_wp2_with fail
        refine bodyPost_end (v := .tuple #[]) (by simp [results, Try.results56, go_sem]) rfl ?_
        exact ⟨rfl, hv2.out, hb.out⟩
end Go.Proofs.Ytahndjgamoojkaa
