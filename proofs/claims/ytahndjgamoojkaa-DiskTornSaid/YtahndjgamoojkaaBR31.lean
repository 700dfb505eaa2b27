/- The walk of disk.step of layer 20: kinds 3, 4; all of it. (Printed by wip/tools/gen_step20.py.) -/
import Derived.Test.YtahndjgamoojkaaBR29
import Derived.Test.YtahndjgamoojkaaBR30
import Derived.Test.YtahndjgamoojkaaBR10
namespace Go.Proofs.Ytahndjgamoojkaa
open Go.RowKit

set_option maxHeartbeats 4000000 in
set_option maxRecDepth 100000 in
theorem step20_3 (ds : List Dr20) (nm tn dt : List UInt8) (sz : Int) (v : Value) (B N : Nat) (w : World) (hv : DrAt w B v ds) (hvl : Val20 (fls20 ds)) (hps : ∀ d ∈ ds, d.ps.length ≤ N) (_hN : N ≤ 900000) (hm : may20 (fls20 ds) ⟨3, nm, tn, dt, sz⟩ = 0) (hB : B ≤ w.heap.size) :
    Calls Try.prog 55 #[v, opV ⟨3, nm, tn, dt, sz⟩] w (StepPost w B (N + 1) (done20 (fls20 ds) ⟨3, nm, tn, dt, sz⟩)) := by
  have hbd := DrBd.of_val hvl hps
  have hok := may_ok hm
  have hfl := fls_len ds
  have hfew := hvl.few
  have hs := hvl.rise
  simp only at hok
  rw [hfl] at hfew
  obtain ⟨a, c, rfl⟩ := hv.form
  obtain ⟨n, hn⟩ : ∃ n, ds.length = n := ⟨_, rfl⟩
  rw [hn] at hfl hfew hv ⊢
  have hbx := Lib.hid ((Below.refl w.heap.size w).alloc (Nat.le_refl _) (.cells [Value.int .i64 3, .string ⟨nm.toArray⟩, .string ⟨tn.toArray⟩, .string ⟨dt.toArray⟩, .int .i64 sz].toArray 27))
  have hv1 := hv.below hbx.out
  have hbox := arrAt_new w 27 [Value.int .i64 3, .string ⟨nm.toArray⟩, .string ⟨tn.toArray⟩, .string ⟨dt.toArray⟩, .int .i64 sz]
  unfold opV opC strV
  simp only
  obtain ⟨W, hW⟩ : ∃ W, w.alloc (.cells [Value.int .i64 3, .string ⟨nm.toArray⟩, .string ⟨tn.toArray⟩, .string ⟨dt.toArray⟩, .int .i64 sz].toArray 27) = W := ⟨_, rfl⟩
  rw [hW] at hbx hv1 hbox
  obtain ⟨b0, b1, b2, b3, b4⟩ := five_cells hbox
  have hfd := dskfind20_any (.slice a n c) ds nm B W hv1 hs (by omega)
  replace hfd := Lib.hid hfd
  replace hbox := Lib.hid hbox
  replace hv1 := Lib.hid hv1
  replace hs := Lib.hid hs
  clear hv
  have hp := hok.1 (by decide)
  have hpd : pos20 (fls20 ds) nm < ds.length := by omega
  have hat := at_pos hs.out hp
  have hpn := pos_name (fls20 ds) nm hp
  rw [fls_at ds _ hpd] at hpn
  have hdp := data_pos (fls20 ds) nm hp
  rw [fls_at ds _ hpd] at hdp
  simp only at hpn hdp
  have hpk : decide (pos20 (fls20 ds) nm < (fls20 ds).length) = true := decide_eq_true hp
  unfold FindPost20 at hfd
  rw [hpk, hat] at hfd
  obtain ⟨i, hi⟩ : ∃ i, pos20 (fls20 ds) nm = i := ⟨_, rfl⟩
  simp only [hi] at hfd hpd hpn hdp
  have hmid := mid_eq ds i hpd
  have hAl : (ds.take i).length = i := by rw [List.length_take]; omega
  obtain ⟨x, hx0⟩ : ∃ x, ds[i]'hpd = x := ⟨_, rfl⟩
  rw [hx0] at hmid hpn hdp
  generalize ds.take i = A at hmid hAl
  generalize ds.drop (i + 1) = C at hmid
  clear hx0 hi hpk hat
  subst hmid
  subst hAl
  replace hn := Lib.hid hn
  replace hpn := Lib.hid hpn
  replace hdp := Lib.hid hdp
  go_enter Try.func55, Try.ntmps55
  go_wp2_with fail
  refine hfd.out.mono ?_; rintro e w1 ⟨rfl, hb1⟩
  have hbox1 := hbox.out.next hb1
  obtain ⟨c0, c1, c2, c3, c4⟩ := five_cells hbox1
  have hv2 := hv1.out.below hb1
  have hlw := hbox.out.lt
  have hs1 := hb1.size
  replace hb1 : Hid (Below B w w1) := Lib.hid ((hbx.out.next hb1 hbx.out.size).mono hB)
  clear b0 b1 b2 b3 b4 hfd
  have hre := renamed20_any A C x n c a tn B N w1 hv2 hn.out hvl hps (by omega)
  rw [hpn.out] at hre
  replace hre := Lib.hid hre
  clear hv2
  go_wp2_with fail
  refine hre.out.mono ?_; rintro e w5 ⟨v5, es, rfl, hv5, hL5, hN5, hb5⟩
  replace hv5 := Lib.hid hv5
  replace hL5 := Lib.hid hL5
  replace hb5 := Lib.hid (hb1.out.trans hb5)
  obtain ⟨a5, c5, rfl⟩ := hv5.out.form
  clear hre c0 c1 c2 c3 c4
  go_wp2_with fail
  go_ret
  refine ⟨_, es, rfl, hv5.out, ?_, fun d hd => Nat.le_succ_of_le (hN5 d hd), hb5.out⟩
  rw [hL5.out]
  unfold done20
  rw [if_neg (by simp), if_neg (by simp), if_pos rfl]
  simp only
  rw [hdp.out]
set_option maxHeartbeats 4000000 in
set_option maxRecDepth 100000 in
theorem step20_4 (ds : List Dr20) (nm tn dt : List UInt8) (sz : Int) (v : Value) (B N : Nat) (w : World) (hv : DrAt w B v ds) (hvl : Val20 (fls20 ds)) (hps : ∀ d ∈ ds, d.ps.length ≤ N) (_hN : N ≤ 900000) (hm : may20 (fls20 ds) ⟨4, nm, tn, dt, sz⟩ = 0) (hB : B ≤ w.heap.size) :
    Calls Try.prog 55 #[v, opV ⟨4, nm, tn, dt, sz⟩] w (StepPost w B (N + 1) (done20 (fls20 ds) ⟨4, nm, tn, dt, sz⟩)) := by
  have hbd := DrBd.of_val hvl hps
  have hok := may_ok hm
  have hfl := fls_len ds
  have hfew := hvl.few
  have hs := hvl.rise
  simp only at hok
  rw [hfl] at hfew
  obtain ⟨a, c, rfl⟩ := hv.form
  obtain ⟨n, hn⟩ : ∃ n, ds.length = n := ⟨_, rfl⟩
  rw [hn] at hfl hfew hv ⊢
  have hbx := Lib.hid ((Below.refl w.heap.size w).alloc (Nat.le_refl _) (.cells [Value.int .i64 4, .string ⟨nm.toArray⟩, .string ⟨tn.toArray⟩, .string ⟨dt.toArray⟩, .int .i64 sz].toArray 27))
  have hv1 := hv.below hbx.out
  have hbox := arrAt_new w 27 [Value.int .i64 4, .string ⟨nm.toArray⟩, .string ⟨tn.toArray⟩, .string ⟨dt.toArray⟩, .int .i64 sz]
  unfold opV opC strV
  simp only
  obtain ⟨W, hW⟩ : ∃ W, w.alloc (.cells [Value.int .i64 4, .string ⟨nm.toArray⟩, .string ⟨tn.toArray⟩, .string ⟨dt.toArray⟩, .int .i64 sz].toArray 27) = W := ⟨_, rfl⟩
  rw [hW] at hbx hv1 hbox
  obtain ⟨b0, b1, b2, b3, b4⟩ := five_cells hbox
  have hfd := dskfind20_any (.slice a n c) ds nm B W hv1 hs (by omega)
  replace hfd := Lib.hid hfd
  replace hbox := Lib.hid hbox
  replace hv1 := Lib.hid hv1
  replace hs := Lib.hid hs
  clear hv
  have hp := hok.1 (by decide)
  have hpd : pos20 (fls20 ds) nm < ds.length := by omega
  have hat := at_pos hs.out hp
  have hpn := pos_name (fls20 ds) nm hp
  rw [fls_at ds _ hpd] at hpn
  have hdp := data_pos (fls20 ds) nm hp
  rw [fls_at ds _ hpd] at hdp
  simp only at hpn hdp
  have hpk : decide (pos20 (fls20 ds) nm < (fls20 ds).length) = true := decide_eq_true hp
  unfold FindPost20 at hfd
  rw [hpk, hat] at hfd
  obtain ⟨i, hi⟩ : ∃ i, pos20 (fls20 ds) nm = i := ⟨_, rfl⟩
  simp only [hi] at hfd hpd hpn hdp
  have hmid := mid_eq ds i hpd
  have hAl : (ds.take i).length = i := by rw [List.length_take]; omega
  obtain ⟨x, hx0⟩ : ∃ x, ds[i]'hpd = x := ⟨_, rfl⟩
  rw [hx0] at hmid hpn hdp
  generalize ds.take i = A at hmid hAl
  generalize ds.drop (i + 1) = C at hmid
  clear hx0 hi hpk hat
  subst hmid
  subst hAl
  replace hn := Lib.hid hn
  replace hpn := Lib.hid hpn
  replace hdp := Lib.hid hdp
  go_enter Try.func55, Try.ntmps55
  go_wp2_with fail
  refine hfd.out.mono ?_; rintro e w1 ⟨rfl, hb1⟩
  have hbox1 := hbox.out.next hb1
  obtain ⟨c0, c1, c2, c3, c4⟩ := five_cells hbox1
  have hv2 := hv1.out.below hb1
  have hlw := hbox.out.lt
  have hs1 := hb1.size
  replace hb1 : Hid (Below B w w1) := Lib.hid ((hbx.out.next hb1 hbx.out.size).mono hB)
  clear b0 b1 b2 b3 b4 hfd
  have hdl := drdel_any (.slice a n c) (A ++ x :: C) A.length B w1 hv2 (by simp) (by omega)
  rw [drop_mid] at hdl
  replace hdl := Lib.hid hdl
  have hrl := Lib.hid (fun b hb => (hv2.row.lt b hb).1)
  have kA : (A.length : Int) < n := by have := hn.out; simp at this; omega
  have kw : IntKind.i64.wrap ((A.length : Int) + 1) = (A.length : Int) + 1 := by rw [IntKind.wrap_i64]; omega
  clear hv2
  go_wp2_with fail
  refine hdl.out.mono ?_; rintro e w5 ⟨v5, rfl, hv5, _, hg5, _⟩
  obtain ⟨a5, c5, rfl⟩ := hv5.form
  obtain ⟨n5, hn5⟩ : ∃ n5, (A ++ C).length = n5 := ⟨_, rfl⟩
  rw [hn5] at hv5 ⊢
  replace hv5 := Lib.hid hv5
  replace hb5 := Lib.hid (hb1.out.trans ((Below.refl B w1).grown hg5 (by omega) hrl.out))
  clear hn5 hdl c0 c1 c2 c3 c4 hg5
  go_wp2_with fail
  go_ret
  refine ⟨_, A ++ C, rfl, hv5.out, ?_, fun d hd => Nat.le_succ_of_le (hps d (by rcases List.mem_append.1 hd with h | h <;> simp [h])), hb5.out⟩
  unfold done20
  rw [if_neg (by simp), if_neg (by simp), if_neg (by simp)]
  exact (fls_drop hs.out hpn.out).symm
theorem step20_any (ds : List Dr20) (o : Op20) (v : Value) (B N : Nat) (w : World) (hv : DrAt w B v ds) (hvl : Val20 (fls20 ds)) (hps : ∀ d ∈ ds, d.ps.length ≤ N) (hN : N ≤ 900000) (hm : may20 (fls20 ds) o = 0) (hB : B ≤ w.heap.size) :
    Calls Try.prog 55 #[v, opV o] w (StepPost w B (N + 1) (done20 (fls20 ds) o)) := by
  obtain ⟨kd, nm, tn, dt, sz⟩ := o
  have hk : 1 ≤ kd ∧ kd ≤ 4 := by
    unfold may20 at hm
    simp only at hm
    by_cases c1 : kd < 1 ∨ 4 < kd ∨ name20 nm = false ∨ kd = 3 ∧ name20 tn = false
    · rw [if_pos c1] at hm; cases hm
    · omega
  rcases (show kd = 1 ∨ kd = 2 ∨ kd = 3 ∨ kd = 4 by omega) with rfl | rfl | rfl | rfl
  · exact step20_1 ds nm tn dt sz v B N w hv hvl hps hN hm hB
  · exact step20_2 ds nm tn dt sz v B N w hv hvl hps hN hm hB
  · exact step20_3 ds nm tn dt sz v B N w hv hvl hps hN hm hB
  · exact step20_4 ds nm tn dt sz v B N w hv hvl hps hN hm hB
end Go.Proofs.Ytahndjgamoojkaa

/- Walks of layer 20's disk: Name, tooLong. -/
namespace Go.Proofs.Ytahndjgamoojkaa
open Go.RowKit

set_option maxHeartbeats 1000000 in
theorem dskname20_any (s : List UInt8) (w : World) (hs : s.length ≤ maxLen) :
    Calls Try.prog 18 #[.string ⟨s.toArray⟩] w fun e w' => e = .returned (.bool (name20 s)) ∧ w = w' := by
  unfold maxLen at hs
  by_cases h1 : s.length < 1
  · have hn : name20 s = false := by rw [name_eq, decide_eq_false (show ¬ 1 ≤ s.length by omega)]; simp
    have g1 : (s.length : Int) < 1 := by omega
    replace hn := Lib.hid hn
    go_enter Try.func18, Try.ntmps18
    go_wp2_with fail
    go_ret
    exact ⟨ret_bool hn.out.symm, rfl⟩
  have g1 : ¬ (s.length : Int) < 1 := by omega
  by_cases h2 : 16 < s.length
  · have hn : name20 s = false := by rw [name_eq, decide_eq_false (show ¬ s.length ≤ 16 by omega)]; simp
    have g2 : (16 : Int) < s.length := by omega
    replace hn := Lib.hid hn
    go_enter Try.func18, Try.ntmps18
    go_wp2_with fail
    go_ret
    exact ⟨ret_bool hn.out.symm, rfl⟩
  have g2 : ¬ (16 : Int) < s.length := by omega
  have hn0 : name20 s = s.all azB := by rw [name_eq, decide_eq_true (show 1 ≤ s.length by omega), decide_eq_true (show s.length ≤ 16 by omega), Bool.and_true, Bool.and_true]
  rw [hn0]
  clear hn0
  go_enter Try.func18, Try.ntmps18
  go_wp2_with fail
  go_loop [14] (fun i => ∃ k : Nat, i = .int .i64 k ∧ k ≤ s.length ∧ Hid (s.all azB = (s.drop k).all azB)) (fun i => s.length - (intOf i).toNat)
  case atStart => exact ⟨0, rfl, Nat.zero_le _, Lib.hid rfl⟩
  case round =>
    obtain ⟨k, rfl, hk, hA⟩ := hrel
    by_cases hlt : k < s.length
    · have hb : bt s k = ((s.getD k 0).toNat : Int) := rfl
      have hA2 : s.all azB = (azB (s.getD k 0) && (s.drop (k + 1)).all azB) := by
        rw [hA.out, List.drop_eq_getElem_cons hlt, List.all_cons]
        simp [List.getD, hlt]
      generalize s.getD k 0 = c at hb hA2
      by_cases h1 : (c.toNat : Int) < 97
      · have hno : s.all azB = false := by
          rw [hA2]
          unfold azB
          rw [decide_eq_false (show ¬ 97 ≤ c.toNat by omega)]
          rfl
        replace hno := Lib.hid hno
        clear hA hA2
        go_wp2_with fail
        go_ret
        exact ⟨ret_bool hno.out.symm, rfl⟩
      · by_cases h2 : (122 : Int) < c.toNat
        · have hno : s.all azB = false := by
            rw [hA2]
            unfold azB
            rw [decide_eq_false (show ¬ c.toNat ≤ 122 by omega)]
            simp
          replace hno := Lib.hid hno
          clear hA hA2
          go_wp2_with fail
          go_ret
          exact ⟨ret_bool hno.out.symm, rfl⟩
        · have hA3 : s.all azB = (s.drop (k + 1)).all azB := by
            rw [hA2]
            unfold azB
            rw [decide_eq_true (show 97 ≤ c.toNat by omega), decide_eq_true (show c.toNat ≤ 122 by omega)]
            rfl
          replace hA3 := Lib.hid hA3
          clear hA hA2
          go_wp2_with fail
          go_round
          case rel => exact ⟨k + 1, by go_num, by omega, hA3⟩
          case measure => simp [intOf]; omega
    · have hke : ¬ ((k : Int) < s.length) := by omega
      have hA2 := hA.out
      rw [List.drop_of_length_le (by omega), List.all_nil] at hA2
      replace hA2 := Lib.hid hA2
      clear hA
      go_wp2_with fail
      go_ret
      exact ⟨ret_bool hA2.out.symm, rfl⟩
theorem dsklong20_any (n : Int) (w : World) : Calls Try.prog 42 #[.int .i64 n] w fun e w' => e = .returned (.int .i64 (if 1048576 < n then 8 else 0)) ∧ w = w' := by
  by_cases h : 1048576 < n
  · rw [if_pos h]
    go_enter Try.func42, Try.ntmps42
    go_wp2_with fail
    go_ret
    exact ⟨rfl, rfl⟩
  · rw [if_neg h]
    go_enter Try.func42, Try.ntmps42
    go_wp2_with fail
    go_ret
    exact ⟨rfl, rfl⟩
end Go.Proofs.Ytahndjgamoojkaa
