/- Layer 20, plain: a burst over the bytes that operations append, operation by operation. -/
import Derived.Test.YtahndjgamoojkaaBR09
import Derived.Test.YtahndjgamoojkaaBR05
import Derived.Test.YtahndjgamoojkaaBR18
import Derived.Test.YtahndjgamoojkaaBR19
namespace Go.Proofs.Ytahndjgamoojkaa

/-- The burst in one text of several: its beginning may lie ahead of it. -/
def gB (l : List UInt8) (f y : Int) : List UInt8 := burstB l (max f 0) (y / 2 ^ (max (-f) 0).toNat)
theorem gB_len (l : List UInt8) (f y : Int) : (gB l f y).length = l.length := burstB_len _ _ _
theorem gB_bit (l : List UInt8) (f y : Int) (hy0 : 0 ≤ y) (hy1 : y < 4294967296) (m : Nat) (hm : m < 8 * l.length) : ((gB l f y).getD (m / 8) 0).toNat.testBit (m % 8) = ((l.getD (m / 8) 0).toNat.testBit (m % 8) ^^ (decide (f ≤ m) && y.toNat.testBit ((m : Int) - f).toNat)) := by
  obtain ⟨Y, rfl⟩ := Int.eq_ofNat_of_zero_le hy0
  have hY : Y < 2 ^ 32 := by omega
  have hbig : ∀ i, 32 ≤ i → Y.testBit i = false := fun i hi => Nat.testBit_lt_two_pow (Nat.lt_of_lt_of_le hY (Nat.pow_le_pow_right (by decide) hi))
  unfold gB burstB burst18
  rw [if_neg (by omega)]
  rw [burst_get _ _ _ _ _ hm]
  congr 1
  by_cases hf : 0 ≤ f
  · obtain ⟨F, rfl⟩ := Int.eq_ofNat_of_zero_le hf
    rw [show max (-(F : Int)) 0 = 0 by omega, show (max (F : Int) 0).toNat = F by omega]
    simp only [Int.toNat_zero, Int.pow_zero, Int.ediv_one, Int.toNat_natCast]
    by_cases h1 : F ≤ m
    · rw [show ((m : Int) - F).toNat = m - F by omega]
      by_cases h2 : m < F + 32
      · rw [decide_eq_true (show F ≤ m ∧ m < F + 32 from ⟨h1, h2⟩), decide_eq_true (show (F : Int) ≤ m by omega)]
      · rw [decide_eq_false (show ¬ (F ≤ m ∧ m < F + 32) by omega), hbig (m - F) (by omega)]
        simp
    · rw [decide_eq_false (show ¬ (F ≤ m ∧ m < F + 32) by omega), decide_eq_false (show ¬ (F : Int) ≤ m by omega)]
      rfl
  · obtain ⟨s, hs⟩ : ∃ s : Nat, f = -(s : Int) := ⟨(-f).toNat, by omega⟩
    subst hs
    rw [show max (- -(s : Int)) 0 = s by omega, show (max (-(s : Int)) 0).toNat = 0 by omega, decide_eq_true (show -(s : Int) ≤ m by omega), Int.toNat_natCast]
    rw [show ((Y : Int) / 2 ^ s).toNat = Y / 2 ^ s by rw [show ((2 : Int) ^ s) = ((2 ^ s : Nat) : Int) by simp, ← Int.natCast_ediv, Int.toNat_natCast]]
    rw [Nat.testBit_div_two_pow, show ((m : Int) - -(s : Int)).toNat = s + m by omega, Int.toNat_natCast, Nat.sub_zero, Bool.true_and]
    by_cases h2 : m < 32
    · rw [decide_eq_true (show 0 ≤ m ∧ m < 0 + 32 by omega), Bool.true_and, Nat.add_comm]
    · rw [decide_eq_false (show ¬ (0 ≤ m ∧ m < 0 + 32) by omega), hbig (s + m) (by omega)]
      rfl
theorem getD_app (a b : List UInt8) (i : Nat) : (a ++ b).getD i 0 = if i < a.length then a.getD i 0 else b.getD (i - a.length) 0 := by
  simp only [List.getD, List.getElem?_append]
  split <;> rfl
theorem gB_app (a b : List UInt8) (f y : Int) (hy0 : 0 ≤ y) (hy1 : y < 4294967296) : gB (a ++ b) f y = gB a f y ++ gB b (f - 8 * (a.length : Int)) y := by
  refine bits_inj (by rw [gB_len, List.length_append, List.length_append, gB_len, gB_len]) fun m hm => ?_
  rw [gB_len] at hm
  rw [gB_bit _ _ _ hy0 hy1 m hm, getD_app, getD_app, gB_len]
  rw [List.length_append] at hm
  by_cases h : m / 8 < a.length
  · rw [if_pos h, if_pos h, gB_bit _ _ _ hy0 hy1 m (by omega)]
  · rw [if_neg h, if_neg h]
    have e1 : m / 8 - a.length = (m - 8 * a.length) / 8 := by omega
    have e2 : m % 8 = (m - 8 * a.length) % 8 := by omega
    rw [e1, e2, gB_bit _ _ _ hy0 hy1 (m - 8 * a.length) (by omega)]
    congr 2
    · rw [decide_eq_decide]; omega
    · congr 1; omega
/-- One text, as the program does it. -/
def shotB (d : List UInt8) (f y : Int) : List UInt8 := if 0 < d.length ∧ f < 8 * (d.length : Int) ∧ -32 < f then gB d f y else d
theorem shot_gB (d : List UInt8) (f y : Int) (hy0 : 0 ≤ y) (hy1 : y < 4294967296) : shotB d f y = gB d f y := by
  unfold shotB
  split
  · rfl
  · rename_i h
    refine bits_inj (by rw [gB_len]) fun m hm => ?_
    rw [gB_bit _ _ _ hy0 hy1 m hm]
    have : (decide (f ≤ m) && y.toNat.testBit ((m : Int) - f).toNat) = false := by
      by_cases h1 : f ≤ m
      · have h2 : f ≤ -32 := by omega
        rw [Nat.testBit_lt_two_pow (Nat.lt_of_lt_of_le (show y.toNat < 2 ^ 32 by omega) (Nat.pow_le_pow_right (by decide) (by omega))), Bool.and_false]
      · rw [decide_eq_false h1, Bool.false_and]
    rw [this, Bool.xor_false]
def turnL : List Op20 → Int → Int → List Op20
  | [], _, _ => []
  | o :: r, f, y => if o.kind = 1 then { o with data := shotB o.data f y } :: turnL r (f - 8 * (o.data.length : Int)) y else o :: turnL r f y
theorem lay_turn : ∀ (os : List Op20) (f y : Int), 0 ≤ y → y < 4294967296 → lay20 os (gB (apps20 os) f y) = turnL os f y
  | [], _, _, _, _ => rfl
  | o :: r, f, y, h0, h1 => by
    rw [lay20, turnL]
    by_cases hk : o.kind = 1
    · have ha : apps20 (o :: r) = o.data ++ apps20 r := by unfold apps20; rw [List.flatMap_cons, if_pos hk]
      rw [if_pos hk, if_pos hk, ha, gB_app _ _ _ _ h0 h1, List.take_left' (gB_len _ _ _), List.drop_left' (gB_len _ _ _), lay_turn r _ _ h0 h1, shot_gB _ _ _ h0 h1]
    · have ha : apps20 (o :: r) = apps20 r := by unfold apps20; rw [List.flatMap_cons, if_neg hk, List.nil_append]
      rw [if_neg hk, if_neg hk, ha, lay_turn r _ _ h0 h1]
theorem hurt_turn (os : List Op20) (at_ y : Int) (h0 : 0 ≤ y) (h1 : y < 4294967296) (ha : apps20 os ≠ []) : hurt20 os true at_ y.toNat = turnL os ((at_ % 18446744073709551616) % (8 * ((apps20 os).length : Int))) y := by
  unfold hurt20
  rw [if_neg (by simp [ha]), ← lay_turn _ _ _ h0 h1]
  unfold gB burstB
  have hp : 0 < (apps20 os).length := List.length_pos_iff.2 ha
  have hq := Int.emod_nonneg (at_ % 18446744073709551616) (show 8 * ((apps20 os).length : Int) ≠ 0 by omega)
  generalize (at_ % 18446744073709551616) % (8 * ((apps20 os).length : Int)) = q at *
  rw [show max q 0 = q by omega, show max (-q) 0 = 0 by omega]
  simp
/-- A list of operations of which the first k have been turned. -/
def offL : List Op20 → Int → Int
  | [], f => f
  | o :: r, f => offL r (if o.kind = 1 then f - 8 * (o.data.length : Int) else f)
theorem turn_next : ∀ (P R : List Op20) (f y : Int), turnL (P ++ R) f y = turnL P f y ++ turnL R (offL P f) y
  | [], _, _, _ => rfl
  | o :: P, R, f, y => by
    rw [List.cons_append, turnL, turnL, offL]
    by_cases hk : o.kind = 1
    · rw [if_pos hk, if_pos hk, if_pos hk, turn_next P R, List.cons_append]
    · rw [if_neg hk, if_neg hk, if_neg hk, turn_next P R, List.cons_append]
theorem off_app : ∀ (P : List Op20) (o : Op20) (f : Int), offL (P ++ [o]) f = if o.kind = 1 then offL P f - 8 * (o.data.length : Int) else offL P f
  | [], o, f => by simp [offL]
  | p :: P, o, f => by
    rw [List.cons_append, offL, off_app P o, offL]
theorem turn_len : ∀ (P : List Op20) (f y : Int), (turnL P f y).length = P.length
  | [], _, _ => rfl
  | o :: P, f, y => by
    rw [turnL]
    split
    · rw [List.length_cons, turn_len P, List.length_cons]
    · rw [List.length_cons, turn_len P, List.length_cons]
end Go.Proofs.Ytahndjgamoojkaa

/- Walks of layer 20's disk: bits. -/
namespace Go.Proofs.Ytahndjgamoojkaa
open Go.RowKit

theorem off_eq : ∀ (P : List Op20) (f : Int), offL P f = f - 8 * ((apps20 P).length : Int)
  | [], f => by simp [offL, apps20]
  | o :: P, f => by
    rw [offL, off_eq P]
    unfold apps20
    rw [List.flatMap_cons, List.length_append]
    by_cases h : o.kind = 1
    · rw [if_pos h, if_pos h]; omega
    · rw [if_neg h, if_neg h]; simp
set_option maxHeartbeats 2000000 in
theorem bits20_any (os : List Op20) (v : Value) (w : World) (hv : OpSl w v os) (hL : os.length ≤ 100000) (hod : (apps20 os).length ≤ 1000000000) (hod2 : ∀ o ∈ os, o.data.length ≤ 90000000) :
    Calls Try.prog 66 #[v] w fun e w' => e = .returned (.int .i64 (8 * ((apps20 os).length : Int))) ∧ Below w.heap.size w w' := by
  obtain ⟨a, c, rfl⟩ := hv.form
  obtain ⟨T, hT⟩ : ∃ T, (apps20 os).length = T := ⟨_, rfl⟩
  rw [hT]
  replace hT := Lib.hid hT
  replace hv := Lib.hid hv
  go_enter Try.func66, Try.ntmps66
  go_wp2_with fail
  go_loopw [3, 8] (fun s i wr => ∃ (k n : Nat), s = .int .i64 (8 * (n : Int)) ∧ i = .int .i64 k ∧ k ≤ os.length ∧ n ≤ 1000000000 ∧ Hid (n = (apps20 (os.take k)).length) ∧ Hid (Below w.heap.size w wr)) (fun _ i _ => os.length - (intOf i).toNat)
  case atStart => exact ⟨0, 0, rfl, rfl, Nat.zero_le _, by omega, Lib.hid rfl, Lib.hid (Below.refl _ _)⟩
  case round =>
    obtain ⟨k, n, rfl, rfl, hk, hn, hne, hb⟩ := hrel
    have hszr := hb.out.size
    by_cases hlt : k < os.length
    · obtain ⟨b, off, cc, _, hblt, e, hc⟩ := hv.out.some opC_len (by decide) (by rintro rfl; simp at hlt)
      injection e with e1 e2 e3
      subst e1 e3
      have c0 := (hb.out.cell (p := ⟨b, off + k * 5 + 0, none⟩) hblt).trans (hc k hlt 0 _ (by decide) rfl)
      have c1 := (hb.out.cell (p := ⟨b, off + k * 5 + 1, none⟩) hblt).trans (hc k hlt 1 _ (by decide) rfl)
      have c2 := (hb.out.cell (p := ⟨b, off + k * 5 + 2, none⟩) hblt).trans (hc k hlt 2 _ (by decide) rfl)
      have c3 := (hb.out.cell (p := ⟨b, off + k * 5 + 3, none⟩) hblt).trans (hc k hlt 3 _ (by decide) rfl)
      have c4 := (hb.out.cell (p := ⟨b, off + k * 5 + 4, none⟩) hblt).trans (hc k hlt 4 _ (by decide) rfl)
      rw [Nat.add_zero] at c0
      have han := apps_next os hlt
      have hal := apps_le os (k + 1)
      have hdl := hod2 _ (List.getElem_mem hlt)
      rw [han, List.length_append, ← hne.out, hT.out] at hal
      rw [hT.out] at hod
      generalize os[k]'hlt = o at c0 c1 c2 c3 c4 han hdl hal
      obtain ⟨kd, nm, tn, dt, sz⟩ := o
      unfold strV at c1 c2 c3
      simp only at c0 c1 c2 c3 c4 han hdl hal
      have hbb := (Below.refl wr.heap.size wr).alloc (Nat.le_refl _) (.cells [Value.int .i64 kd, .string ⟨nm.toArray⟩, .string ⟨tn.toArray⟩, .string ⟨dt.toArray⟩, .int .i64 sz].toArray 27)
      have hna := arrAt_new wr 27 [Value.int .i64 kd, .string ⟨nm.toArray⟩, .string ⟨tn.toArray⟩, .string ⟨dt.toArray⟩, .int .i64 sz]
      obtain ⟨q0, q1, q2, q3, q4⟩ := five_cells hna
      have hbw := Lib.hid (hb.out.trans (hbb.mono hszr))
      have hkO : (k : Int) < os.length := by omega
      clear hc e2 hna hbb hb
      by_cases h1 : kd = 1
      · rw [if_pos h1] at han hal
        have g1 : (kd == 1) = true := by simpa using h1
        have hnn : Hid (n + dt.length = (apps20 (os.take (k + 1))).length) := Lib.hid (by rw [han, List.length_append, ← hne.out])
        have w1 : IntKind.i64.wrap (8 * (dt.length : Int)) = 8 * dt.length := by rw [IntKind.wrap_i64]; omega
        have w2 : IntKind.i64.wrap (8 * (n : Int) + 8 * dt.length) = 8 * ((n + dt.length : Nat) : Int) := by rw [IntKind.wrap_i64]; omega
        replace han := Lib.hid han
        clear h1 hne
        go_wp2_with fail
        exact ⟨⟨k + 1, n + dt.length, rfl, by go_num, by omega, by omega, hnn, hbw⟩, by simp [intOf]; omega⟩
      · rw [if_neg h1, List.append_nil] at han
        have g1 : (kd == 1) = false := by simpa using h1
        have hnn : Hid (n = (apps20 (os.take (k + 1))).length) := Lib.hid (by rw [han, ← hne.out])
        replace han := Lib.hid han
        clear h1 hne hal
        go_wp2_with fail
        exact ⟨⟨k + 1, n, rfl, by go_num, by omega, by omega, hnn, hbw⟩, by simp [intOf]; omega⟩
    · have hke : ¬ ((k : Int) < os.length) := by omega
      have hn2 := hne.out
      rw [List.take_of_length_le (by omega), hT.out] at hn2
      replace hn2 := Lib.hid hn2
      clear hne
      go_wp2_with fail
      go_ret
      exact ⟨by rw [hn2.out]; rfl, hb.out⟩
end Go.Proofs.Ytahndjgamoojkaa
