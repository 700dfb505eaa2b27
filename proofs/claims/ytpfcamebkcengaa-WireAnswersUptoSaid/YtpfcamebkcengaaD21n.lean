/- Layer 21: commands read; ReadCommand. -/
import Derived.Test.YtpfcamebkcengaaD21m
import Derived.Test.YtpfcamebkcengaaD21e
namespace Go.Proofs.Ytpfcamebkcengaa
open Go.RowKit

/-- A command, and what stands behind it. -/
def cmN (s : List UInt8) : Option (Cm21 × List UInt8) := match s with | [] => none | b :: r => fields21 b.toNat r
theorem readC_cmN (s : List UInt8) (h : s.length ≤ 131072) : readC21 s = match cmN s with | some (c, []) => (0, c) | _ => (2, cm0 0) := by
  unfold readC21 cmN
  rw [if_neg (by omega)]
  cases s with
  | nil => rfl
  | cons b r => rfl
theorem cm_bad (o : Option (List UInt8)) (h : o.bind (pieceO 1) = none) : o.bind cmN = none := by
  cases o with
  | none => rfl
  | some l =>
    cases l with
    | nil => rfl
    | cons b r =>
      simp only [Option.bind_some, pieceO] at h
      rw [if_neg (by simp only [List.length_cons]; omega)] at h
      cases h
theorem cm_good (o : Option (List UInt8)) {S r : List UInt8} (h : o.bind (pieceO 1) = some (S, r)) : ∃ b, S = [b] ∧ o.bind cmN = fields21 b.toNat r ∧ r.length ≤ (o.getD []).length := by
  cases o with
  | none => cases h
  | some l =>
    cases l with
    | nil => simp [pieceO] at h
    | cons b q =>
      simp only [Option.bind_some, pieceO] at h
      rw [if_neg (by simp only [List.length_cons]; omega)] at h
      simp only [Int.toNat_one, List.take_succ_cons, List.take_zero, List.drop_succ_cons, List.drop_zero, Option.some.injEq, Prod.mk.injEq] at h
      obtain ⟨h1, h2⟩ := h
      subst h1 h2
      exact ⟨b, rfl, rfl, by simp⟩
theorem fl1 {k : Int} (hk : k = 1 ∨ k = 2) {r : List UInt8} {T1 : Option (List UInt8 × List UInt8)} (h1 : readT21 r 131072 = T1) : resO (fields21 k r) = resO T1 ∧ ∀ y t, fields21 k r = some (y, t) → (⟨k, valO [] T1, [], [], [], 0, 0⟩ : Cm21) = y := by
  unfold fields21
  rw [if_pos hk, h1]
  cases T1 with
  | none => exact ⟨rfl, fun y t h => by cases h⟩
  | some p => exact ⟨rfl, fun y t h => by simp only [Option.some.injEq, Prod.mk.injEq] at h; rw [← h.1]; rfl⟩
theorem fl3 {k : Int} (hk : k = 3) {r : List UInt8} {T1 T2 : Option (List UInt8 × List UInt8)} (h1 : readT21 r 131072 = T1) (h2 : (resO T1).bind (readT21 · 131072) = T2) : resO (fields21 k r) = resO T2 ∧ ∀ y t, fields21 k r = some (y, t) → (⟨k, valO [] T1, [], valO [] T2, [], 0, 0⟩ : Cm21) = y := by
  unfold fields21
  rw [if_neg (by omega), if_pos hk, h1]
  cases T1 with
  | none => subst h2; exact ⟨rfl, fun y t h => by cases h⟩
  | some p =>
    obtain ⟨f, u⟩ := p
    simp only [resO, Option.map_some, Option.bind_some] at h2 ⊢
    rw [h2]
    cases T2 with
    | none => exact ⟨rfl, fun y t h => by cases h⟩
    | some p => exact ⟨rfl, fun y t h => by simp only [Option.some.injEq, Prod.mk.injEq] at h; rw [← h.1]; rfl⟩
theorem fl4 {k : Int} (hk : k = 4) {r : List UInt8} {T1 : Option (Int × List UInt8)} (h1 : readI21 r = T1) : resO (fields21 k r) = resO T1 ∧ ∀ y t, fields21 k r = some (y, t) → (⟨k, [], [], [], [], valO 0 T1, 0⟩ : Cm21) = y := by
  unfold fields21
  rw [if_neg (by omega), if_neg (by omega), if_pos hk, h1]
  cases T1 with
  | none => exact ⟨rfl, fun y t h => by cases h⟩
  | some p => exact ⟨rfl, fun y t h => by simp only [Option.some.injEq, Prod.mk.injEq] at h; rw [← h.1]; rfl⟩
theorem fl5 {k : Int} (hk : k = 5 ∨ k = 6 ∨ k = 9) {r : List UInt8} {T1 T2 : Option (List UInt8 × List UInt8)} (h1 : readT21 r 131072 = T1) (h2 : (resO T1).bind (readT21 · 131072) = T2) : resO (fields21 k r) = resO T2 ∧ ∀ y t, fields21 k r = some (y, t) → (⟨k, valO [] T1, valO [] T2, [], [], 0, 0⟩ : Cm21) = y := by
  unfold fields21
  rw [if_neg (by omega), if_neg (by omega), if_neg (by omega), if_pos hk, h1]
  cases T1 with
  | none => subst h2; exact ⟨rfl, fun y t h => by cases h⟩
  | some p =>
    obtain ⟨f, u⟩ := p
    simp only [resO, Option.map_some, Option.bind_some] at h2 ⊢
    rw [h2]
    cases T2 with
    | none => exact ⟨rfl, fun y t h => by cases h⟩
    | some p => exact ⟨rfl, fun y t h => by simp only [Option.some.injEq, Prod.mk.injEq] at h; rw [← h.1]; rfl⟩
theorem fl8 {k : Int} (hk : k = 8) {r : List UInt8} {T1 T2 : Option (Int × List UInt8)} {T3 : Option (List UInt8 × List UInt8)} (h1 : readI21 r = T1) (h2 : (resO T1).bind readI21 = T2) (h3 : (resO T2).bind (readT21 · 131072) = T3) : resO (fields21 k r) = resO T3 ∧ ∀ y t, fields21 k r = some (y, t) → (⟨k, [], [], [], valO [] T3, valO 0 T2, valO 0 T1⟩ : Cm21) = y := by
  unfold fields21
  rw [if_neg (by omega), if_neg (by omega), if_neg (by omega), if_neg (by omega), if_pos hk, h1]
  cases T1 with
  | none => subst h2 h3; exact ⟨rfl, fun y t h => by cases h⟩
  | some p =>
    obtain ⟨f, u⟩ := p
    simp only [resO, Option.map_some, Option.bind_some] at h2 ⊢
    rw [h2]
    cases T2 with
    | none => subst h3; exact ⟨rfl, fun y t h => by cases h⟩
    | some p =>
      obtain ⟨g, v⟩ := p
      simp only [resO, Option.map_some, Option.bind_some] at h3 ⊢
      rw [h3]
      cases T3 with
      | none => exact ⟨rfl, fun y t h => by cases h⟩
      | some p => exact ⟨rfl, fun y t h => by simp only [Option.some.injEq, Prod.mk.injEq] at h; rw [← h.1]; rfl⟩
theorem fl7 {k : Int} (hk : k = 7 ∨ k = 10) (r : List UInt8) : fields21 k r = some (⟨k, [], [], [], [], 0, 0⟩, r) := by
  unfold fields21
  rw [if_neg (by omega), if_neg (by omega), if_neg (by omega), if_neg (by omega), if_neg (by omega), if_pos hk]
  rfl
theorem fl0 {k : Int} (h1 : k ≠ 1) (h2 : k ≠ 2) (h3 : k ≠ 3) (h4 : k ≠ 4) (h5 : k ≠ 5) (h6 : k ≠ 6) (h7 : k ≠ 7) (h8 : k ≠ 8) (h9 : k ≠ 9) (h10 : k ≠ 10) (r : List UInt8) : fields21 k r = none := by
  unfold fields21
  rw [if_neg (by omega), if_neg (by omega), if_neg (by omega), if_neg (by omega), if_neg (by omega), if_neg (by omega)]

/-- Within command: the result's block K1, the command's own block K2. -/
structure CmM (w : World) (R K2 : Nat) (c : List Value) (o : Option (List UInt8)) (W : World) : Prop where
  k1 : ArrAt W w.heap.size 32 [.int .i64 0, .string ⟨#[]⟩, .string ⟨#[]⟩, .string ⟨#[]⟩, .int .i64 0, .int .i64 0, .string ⟨#[]⟩]
  k2 : ArrAt W K2 32 c
  rd : RdO W R o
  tn : Turned (fun b => b = R) w W
theorem CmM.step {w W W' : World} {R K2 : Nat} {c : List Value} {o o' : Option (List UInt8)} (h : CmM w R K2 c o W) (hR : R < w.heap.size) (hK : w.heap.size < K2) (k : RdO W' R o') (j : Turned (fun b => b = R) W W') : CmM w R K2 c o' W' :=
  ⟨h.k1.turned j (by show ¬ w.heap.size = R; omega), h.k2.turned j (by show ¬ K2 = R; omega), k, turn_on h.tn j⟩
theorem CmM.put {w W : World} {R K2 : Nat} {c : List Value} {o : Option (List UInt8)} (h : CmM w R K2 c o W) (hR : R < w.heap.size) (hK : w.heap.size < K2) (i : Nat) (v : Value) : CmM w R K2 (c.set i v) o (W.setCell ⟨K2, i, none⟩ v) :=
  ⟨h.k1.far i v (by omega), h.k2.set i v, ArrAt.far h.rd i v (by omega), turn_own h.tn (by omega) i v⟩

set_option maxHeartbeats 8000000 in
set_option maxRecDepth 100000 in
theorem rd_command {w : World} {R : Nat} {o : Option (List UInt8)} (h : RdO w R o) (hl : (o.getD []).length ≤ 1000000000) :
    Calls Try.prog 38 #[.pointer (some ⟨R, 0, none⟩)] w (RdGot w R cmV (o.bind cmN)) := by
  have hb := (Below.refl w.heap.size w).alloc (Nat.le_refl _) (.cells #[.int .i64 0, .string ⟨#[]⟩, .string ⟨#[]⟩, .string ⟨#[]⟩, .int .i64 0, .int .i64 0, .string ⟨#[]⟩] 32)
  have hRw := ArrAt.lt h
  have hx0 := Lib.hid (arrAt_new w 32 [Value.int .i64 0, .string ⟨#[]⟩, .string ⟨#[]⟩, .string ⟨#[]⟩, .int .i64 0, .int .i64 0, .string ⟨#[]⟩])
  have hn0 := Lib.hid (rd_piece (h.next hb) 1)
  obtain ⟨Z, hZ⟩ : ∃ Z, o.bind cmN = Z := ⟨_, rfl⟩
  rw [hZ]
  replace h := Lib.hid h
  replace hb := Lib.hid hb
  cases hp : o.bind (pieceO 1) with
  | none =>
    have hZ2 := Lib.hid (hZ.symm.trans (cm_bad o hp))
    rw [hp] at hn0
    unfold valO resO at hn0
    simp only [Option.map_none] at hn0
    replace hp := Lib.hid hp
    clear hZ
    go_enter Try.func38, Try.ntmps38
    go_wp2_with fail
    refine hn0.out.mono ?_
    rintro e w1 ⟨rfl, k1, k2⟩
    have c1 := k1.c1
    simp only [Option.isNone_none] at c1
    have hx1 := hx0.out.turned k2 (by show ¬ w.heap.size = R; omega)
    have hcell := fun i => hx1.cell i
    have hsoft := fun i => hx1.soft i
    have z0 := hcell 0
    have s0 := hsoft 0
    have z1 := hcell 1
    have s1 := hsoft 1
    have z2 := hcell 2
    have s2 := hsoft 2
    have z3 := hcell 3
    have s3 := hsoft 3
    have z4 := hcell 4
    have s4 := hsoft 4
    have z5 := hcell 5
    have s5 := hsoft 5
    have z6 := hcell 6
    have s6 := hsoft 6
    simp only [List.getElem?_cons_zero, List.getElem?_cons_succ] at z0 z1 z2 z3 z4 z5 z6
    replace k1 := Lib.hid k1
    have t1 := Lib.hid (turn_ahead hb.out k2)
    clear hcell hsoft k2 hx1 hn0
    go_wp2_with fail
    refine bodyPost_ret (v := cmV (cm0 0)) (by simp [results, Try.results38, cmV, cmC, cm0, go_sem, z0, z1, z2, z3, z4, z5, z6]) rfl ?_
    exact RdGot.mk _ (fun y u e => by rw [hZ2.out] at e; cases e) (by rw [hZ2.out]; exact ArrAt.far (ArrAt.far (ArrAt.far (ArrAt.far (ArrAt.far (ArrAt.far (ArrAt.far k1.out _ _ (Nat.ne_of_lt hRw)) _ _ (Nat.ne_of_lt hRw)) _ _ (Nat.ne_of_lt hRw)) _ _ (Nat.ne_of_lt hRw)) _ _ (Nat.ne_of_lt hRw)) _ _ (Nat.ne_of_lt hRw)) _ _ (Nat.ne_of_lt hRw)) (turn_own (turn_own (turn_own (turn_own (turn_own (turn_own (turn_own t1.out (Nat.le_refl _) _ _) (Nat.le_refl _) _ _) (Nat.le_refl _) _ _) (Nat.le_refl _) _ _) (Nat.le_refl _) _ _) (Nat.le_refl _) _ _) (Nat.le_refl _) _ _)
  | some p =>
    obtain ⟨S, r⟩ := p
    obtain ⟨b, hS, hF, hrl⟩ := cm_good o hp
    rw [hp] at hn0
    unfold valO resO at hn0
    simp only [Option.map_some] at hn0
    obtain ⟨kd, hkd⟩ : ∃ kd : Int, (b.toNat : Int) = kd := ⟨_, rfl⟩
    have hkb : 0 ≤ kd ∧ kd ≤ 255 := by have := b.toNat_lt; omega
    have hbt : bt S 0 = kd := by rw [hS, ← hkd]; rfl
    have hSl : 0 < S.length := by rw [hS]; simp
    have hSi : (0 : Int) < (S.length : Int) := by omega
    rw [hkd] at hF
    have hZ2 := hZ.symm.trans hF
    replace hp := Lib.hid hp
    clear hZ hF hS hkd
    go_enter Try.func38, Try.ntmps38
    go_wp2_with fail
    refine hn0.out.mono ?_
    rintro e w1 ⟨rfl, k1, k2⟩
    have c1 := k1.c1
    simp only [Option.isNone_some] at c1
    have hx1 := hx0.out.turned k2 (by show ¬ w.heap.size = R; omega)
    have hK2 : w.heap.size < w1.heap.size := hx1.lt
    have hbn := (Below.refl w1.heap.size w1).alloc (Nat.le_refl _) (.cells #[.int .i64 kd, .string ⟨#[]⟩, .string ⟨#[]⟩, .string ⟨#[]⟩, .int .i64 0, .int .i64 0, .string ⟨#[]⟩] 32)
    have hM : CmM w R w1.heap.size [.int .i64 kd, .string ⟨#[]⟩, .string ⟨#[]⟩, .string ⟨#[]⟩, .int .i64 0, .int .i64 0, .string ⟨#[]⟩] (some r) (w1.alloc (.cells #[.int .i64 kd, .string ⟨#[]⟩, .string ⟨#[]⟩, .string ⟨#[]⟩, .int .i64 0, .int .i64 0, .string ⟨#[]⟩] 32)) :=
      ⟨hx1.next hbn, arrAt_new w1 32 [Value.int .i64 kd, .string ⟨#[]⟩, .string ⟨#[]⟩, .string ⟨#[]⟩, .int .i64 0, .int .i64 0, .string ⟨#[]⟩], k1.next hbn, turn_more (turn_ahead hb.out k2) hbn⟩
    replace hM := Lib.hid hM
    replace hZ2 := Lib.hid hZ2
    clear k1 k2 hx1 hx0 hb hn0 hbn
    go_upto_region 5 with fail
    refine hide_world (K := fun a w' => Code.wp _ _ _ a w') (R := fun W => CmM w R w1.heap.size [.int .i64 kd, .string ⟨#[]⟩, .string ⟨#[]⟩, .string ⟨#[]⟩, .int .i64 0, .int .i64 0, .string ⟨#[]⟩] (some r) W) hM.out ?_
    intro W4 hM4
    obtain ⟨K2, hKK⟩ : ∃ K2, w1.heap.size = K2 := ⟨_, rfl⟩
    rw [hKK] at hM4 hK2 ⊢
    have c0 := hM4.out.k2.cell 0
    simp only [List.getElem?_cons_zero] at c0
    replace hKK := Lib.hid hKK
    clear hM c1 hbt hSl hSi
    by_cases e1 : kd = 1
    · subst e1
      have hr0 := hM4.out.rd
      obtain ⟨T1, h1⟩ : ∃ T, readT21 r 131072 = T := ⟨_, rfl⟩
      obtain ⟨hf1, hf2⟩ := fl1 (Or.inl rfl) h1
      have l1 := resT_len (some r) 131072
      simp only [Option.bind_some, Option.getD_some] at l1
      rw [h1] at l1
      have hn1 := rd_text hr0 (by simp only [Option.getD_some]; omega) 131072
      simp only [Option.bind_some] at hn1
      rw [h1] at hn1
      replace hn1 := Lib.hid hn1
      replace hf1 := Lib.hid hf1
      replace hf2 := Lib.hid hf2
      clear hr0
      replace h1 := Lib.hid h1
      go_wp2_with fail
      refine hn1.out.mono ?_
      rintro e v1 ⟨rfl, k1, k2⟩
      have m1 := Lib.hid (hM4.out.step hRw hK2 k1 k2)
      clear k1 k2 hn1
      have hcell := fun i => m1.out.k2.cell i
      have hsoft := fun i => m1.out.k2.soft i
      have p1 := hcell 1
      have u1 := hsoft 1
      simp only [List.getElem?_cons_zero, List.getElem?_cons_succ] at p1
      clear hcell hsoft
      go_upto_region 22 with fail
      refine hide_world (K := fun a w' => Code.wp _ _ _ a w') (R := fun W => CmM w R K2 [.int .i64 1, .string ⟨(valO [] T1).toArray⟩, .string ⟨#[]⟩, .string ⟨#[]⟩, .int .i64 0, .int .i64 0, .string ⟨#[]⟩] (resO T1) W) (m1.out.put hRw hK2 1 _) ?_
      intro W7 hM7
      have hcell := fun i => hM7.out.k2.cell i
      have hc1 := fun i => hM7.out.k1.cell i
      have hsoft := fun i => hM7.out.k1.soft i
      have d0 := hcell 0
      have z0 := hc1 0
      have s0 := hsoft 0
      have d1 := hcell 1
      have z1 := hc1 1
      have s1 := hsoft 1
      have d2 := hcell 2
      have z2 := hc1 2
      have s2 := hsoft 2
      have d3 := hcell 3
      have z3 := hc1 3
      have s3 := hsoft 3
      have d4 := hcell 4
      have z4 := hc1 4
      have s4 := hsoft 4
      have d5 := hcell 5
      have z5 := hc1 5
      have s5 := hsoft 5
      have d6 := hcell 6
      have z6 := hc1 6
      have s6 := hsoft 6
      simp only [List.getElem?_cons_zero, List.getElem?_cons_succ] at d0 z0 d1 z1 d2 z2 d3 z3 d4 z4 d5 z5 d6 z6
      clear hcell hc1 hsoft
      go_wp2_with fail
      refine bodyPost_ret (v := .agg #[.int .i64 1, .string ⟨(valO [] T1).toArray⟩, .string ⟨#[]⟩, .string ⟨#[]⟩, .int .i64 0, .int .i64 0, .string ⟨#[]⟩]) (by simp [results, Try.results38, go_sem, z0, z1, z2, z3, z4, z5, z6]) rfl ?_
      exact RdGot.mk (enc := cmV) (⟨1, valO [] T1, [], [], [], 0, 0⟩) (fun y u e => hf2.out y u (hZ2.out.symm.trans e)) (by rw [hZ2.out]; exact hf1.out.symm ▸ (ArrAt.far (ArrAt.far (ArrAt.far (ArrAt.far (ArrAt.far (ArrAt.far (ArrAt.far hM7.out.rd _ _ (Nat.ne_of_lt hRw)) _ _ (Nat.ne_of_lt hRw)) _ _ (Nat.ne_of_lt hRw)) _ _ (Nat.ne_of_lt hRw)) _ _ (Nat.ne_of_lt hRw)) _ _ (Nat.ne_of_lt hRw)) _ _ (Nat.ne_of_lt hRw))) (turn_own (turn_own (turn_own (turn_own (turn_own (turn_own (turn_own hM7.out.tn (Nat.le_refl _) _ _) (Nat.le_refl _) _ _) (Nat.le_refl _) _ _) (Nat.le_refl _) _ _) (Nat.le_refl _) _ _) (Nat.le_refl _) _ _) (Nat.le_refl _) _ _)
    by_cases e2 : kd = 2
    · subst e2
      have hr0 := hM4.out.rd
      obtain ⟨T1, h1⟩ : ∃ T, readT21 r 131072 = T := ⟨_, rfl⟩
      obtain ⟨hf1, hf2⟩ := fl1 (Or.inr rfl) h1
      have l1 := resT_len (some r) 131072
      simp only [Option.bind_some, Option.getD_some] at l1
      rw [h1] at l1
      have hn1 := rd_text hr0 (by simp only [Option.getD_some]; omega) 131072
      simp only [Option.bind_some] at hn1
      rw [h1] at hn1
      replace hn1 := Lib.hid hn1
      replace hf1 := Lib.hid hf1
      replace hf2 := Lib.hid hf2
      clear hr0
      replace h1 := Lib.hid h1
      go_wp2_with fail
      refine hn1.out.mono ?_
      rintro e v1 ⟨rfl, k1, k2⟩
      have m1 := Lib.hid (hM4.out.step hRw hK2 k1 k2)
      clear k1 k2 hn1
      have hcell := fun i => m1.out.k2.cell i
      have hsoft := fun i => m1.out.k2.soft i
      have p1 := hcell 1
      have u1 := hsoft 1
      simp only [List.getElem?_cons_zero, List.getElem?_cons_succ] at p1
      clear hcell hsoft
      go_upto_region 22 with fail
      refine hide_world (K := fun a w' => Code.wp _ _ _ a w') (R := fun W => CmM w R K2 [.int .i64 2, .string ⟨(valO [] T1).toArray⟩, .string ⟨#[]⟩, .string ⟨#[]⟩, .int .i64 0, .int .i64 0, .string ⟨#[]⟩] (resO T1) W) (m1.out.put hRw hK2 1 _) ?_
      intro W7 hM7
      have hcell := fun i => hM7.out.k2.cell i
      have hc1 := fun i => hM7.out.k1.cell i
      have hsoft := fun i => hM7.out.k1.soft i
      have d0 := hcell 0
      have z0 := hc1 0
      have s0 := hsoft 0
      have d1 := hcell 1
      have z1 := hc1 1
      have s1 := hsoft 1
      have d2 := hcell 2
      have z2 := hc1 2
      have s2 := hsoft 2
      have d3 := hcell 3
      have z3 := hc1 3
      have s3 := hsoft 3
      have d4 := hcell 4
      have z4 := hc1 4
      have s4 := hsoft 4
      have d5 := hcell 5
      have z5 := hc1 5
      have s5 := hsoft 5
      have d6 := hcell 6
      have z6 := hc1 6
      have s6 := hsoft 6
      simp only [List.getElem?_cons_zero, List.getElem?_cons_succ] at d0 z0 d1 z1 d2 z2 d3 z3 d4 z4 d5 z5 d6 z6
      clear hcell hc1 hsoft
      go_wp2_with fail
      refine bodyPost_ret (v := .agg #[.int .i64 2, .string ⟨(valO [] T1).toArray⟩, .string ⟨#[]⟩, .string ⟨#[]⟩, .int .i64 0, .int .i64 0, .string ⟨#[]⟩]) (by simp [results, Try.results38, go_sem, z0, z1, z2, z3, z4, z5, z6]) rfl ?_
      exact RdGot.mk (enc := cmV) (⟨2, valO [] T1, [], [], [], 0, 0⟩) (fun y u e => hf2.out y u (hZ2.out.symm.trans e)) (by rw [hZ2.out]; exact hf1.out.symm ▸ (ArrAt.far (ArrAt.far (ArrAt.far (ArrAt.far (ArrAt.far (ArrAt.far (ArrAt.far hM7.out.rd _ _ (Nat.ne_of_lt hRw)) _ _ (Nat.ne_of_lt hRw)) _ _ (Nat.ne_of_lt hRw)) _ _ (Nat.ne_of_lt hRw)) _ _ (Nat.ne_of_lt hRw)) _ _ (Nat.ne_of_lt hRw)) _ _ (Nat.ne_of_lt hRw))) (turn_own (turn_own (turn_own (turn_own (turn_own (turn_own (turn_own hM7.out.tn (Nat.le_refl _) _ _) (Nat.le_refl _) _ _) (Nat.le_refl _) _ _) (Nat.le_refl _) _ _) (Nat.le_refl _) _ _) (Nat.le_refl _) _ _) (Nat.le_refl _) _ _)
    by_cases e3 : kd = 3
    · subst e3
      have hr0 := hM4.out.rd
      obtain ⟨T1, h1⟩ : ∃ T, readT21 r 131072 = T := ⟨_, rfl⟩
      obtain ⟨T2, h2⟩ : ∃ T, (resO T1).bind (readT21 · 131072) = T := ⟨_, rfl⟩
      obtain ⟨hf1, hf2⟩ := fl3 rfl h1 h2
      have l1 := resT_len (some r) 131072
      simp only [Option.bind_some, Option.getD_some] at l1
      rw [h1] at l1
      have l2 := resT_len (resO T1) 131072
      rw [h2] at l2
      have hn1 := rd_text hr0 (by simp only [Option.getD_some]; omega) 131072
      simp only [Option.bind_some] at hn1
      rw [h1] at hn1
      replace hn1 := Lib.hid hn1
      replace hf1 := Lib.hid hf1
      replace hf2 := Lib.hid hf2
      clear hr0
      replace h1 := Lib.hid h1
      replace h2 := Lib.hid h2
      go_wp2_with fail
      refine hn1.out.mono ?_
      rintro e v1 ⟨rfl, k1, k2⟩
      have m1 := Lib.hid (hM4.out.step hRw hK2 k1 k2)
      have hn2 := rd_text k1 (by omega) 131072
      rw [h2.out] at hn2
      replace hn2 := Lib.hid hn2
      clear k1 k2 hn1
      go_wp2_with fail
      refine hn2.out.mono ?_
      rintro e v2 ⟨rfl, k1, k2⟩
      have m2 := Lib.hid (m1.out.step hRw hK2 k1 k2)
      clear k1 k2 hn2
      have hcell := fun i => m2.out.k2.cell i
      have hsoft := fun i => m2.out.k2.soft i
      have p1 := hcell 1
      have u1 := hsoft 1
      have p3 := hcell 3
      have u3 := hsoft 3
      simp only [List.getElem?_cons_zero, List.getElem?_cons_succ] at p1 p3
      clear hcell hsoft
      go_upto_region 22 with fail
      refine hide_world (K := fun a w' => Code.wp _ _ _ a w') (R := fun W => CmM w R K2 [.int .i64 3, .string ⟨(valO [] T1).toArray⟩, .string ⟨#[]⟩, .string ⟨(valO [] T2).toArray⟩, .int .i64 0, .int .i64 0, .string ⟨#[]⟩] (resO T2) W) ((m2.out.put hRw hK2 1 _).put hRw hK2 3 _) ?_
      intro W7 hM7
      have hcell := fun i => hM7.out.k2.cell i
      have hc1 := fun i => hM7.out.k1.cell i
      have hsoft := fun i => hM7.out.k1.soft i
      have d0 := hcell 0
      have z0 := hc1 0
      have s0 := hsoft 0
      have d1 := hcell 1
      have z1 := hc1 1
      have s1 := hsoft 1
      have d2 := hcell 2
      have z2 := hc1 2
      have s2 := hsoft 2
      have d3 := hcell 3
      have z3 := hc1 3
      have s3 := hsoft 3
      have d4 := hcell 4
      have z4 := hc1 4
      have s4 := hsoft 4
      have d5 := hcell 5
      have z5 := hc1 5
      have s5 := hsoft 5
      have d6 := hcell 6
      have z6 := hc1 6
      have s6 := hsoft 6
      simp only [List.getElem?_cons_zero, List.getElem?_cons_succ] at d0 z0 d1 z1 d2 z2 d3 z3 d4 z4 d5 z5 d6 z6
      clear hcell hc1 hsoft
      go_wp2_with fail
      refine bodyPost_ret (v := .agg #[.int .i64 3, .string ⟨(valO [] T1).toArray⟩, .string ⟨#[]⟩, .string ⟨(valO [] T2).toArray⟩, .int .i64 0, .int .i64 0, .string ⟨#[]⟩]) (by simp [results, Try.results38, go_sem, z0, z1, z2, z3, z4, z5, z6]) rfl ?_
      exact RdGot.mk (enc := cmV) (⟨3, valO [] T1, [], valO [] T2, [], 0, 0⟩) (fun y u e => hf2.out y u (hZ2.out.symm.trans e)) (by rw [hZ2.out]; exact hf1.out.symm ▸ (ArrAt.far (ArrAt.far (ArrAt.far (ArrAt.far (ArrAt.far (ArrAt.far (ArrAt.far hM7.out.rd _ _ (Nat.ne_of_lt hRw)) _ _ (Nat.ne_of_lt hRw)) _ _ (Nat.ne_of_lt hRw)) _ _ (Nat.ne_of_lt hRw)) _ _ (Nat.ne_of_lt hRw)) _ _ (Nat.ne_of_lt hRw)) _ _ (Nat.ne_of_lt hRw))) (turn_own (turn_own (turn_own (turn_own (turn_own (turn_own (turn_own hM7.out.tn (Nat.le_refl _) _ _) (Nat.le_refl _) _ _) (Nat.le_refl _) _ _) (Nat.le_refl _) _ _) (Nat.le_refl _) _ _) (Nat.le_refl _) _ _) (Nat.le_refl _) _ _)
    by_cases e4 : kd = 4
    · subst e4
      have hr0 := hM4.out.rd
      obtain ⟨T1, h1⟩ : ∃ T, readI21 r = T := ⟨_, rfl⟩
      obtain ⟨hf1, hf2⟩ := fl4 rfl h1
      have l1 := resI_len (some r)
      simp only [Option.bind_some, Option.getD_some] at l1
      rw [h1] at l1
      have hn1 := rd_number hr0 (by simp only [Option.getD_some]; omega)
      simp only [Option.bind_some] at hn1
      rw [h1] at hn1
      replace hn1 := Lib.hid hn1
      replace hf1 := Lib.hid hf1
      replace hf2 := Lib.hid hf2
      clear hr0
      replace h1 := Lib.hid h1
      go_wp2_with fail
      refine hn1.out.mono ?_
      rintro e v1 ⟨rfl, k1, k2⟩
      have m1 := Lib.hid (hM4.out.step hRw hK2 k1 k2)
      clear k1 k2 hn1
      have hcell := fun i => m1.out.k2.cell i
      have hsoft := fun i => m1.out.k2.soft i
      have p4 := hcell 4
      have u4 := hsoft 4
      simp only [List.getElem?_cons_zero, List.getElem?_cons_succ] at p4
      clear hcell hsoft
      go_upto_region 22 with fail
      refine hide_world (K := fun a w' => Code.wp _ _ _ a w') (R := fun W => CmM w R K2 [.int .i64 4, .string ⟨#[]⟩, .string ⟨#[]⟩, .string ⟨#[]⟩, .int .i64 (valO 0 T1), .int .i64 0, .string ⟨#[]⟩] (resO T1) W) (m1.out.put hRw hK2 4 _) ?_
      intro W7 hM7
      have hcell := fun i => hM7.out.k2.cell i
      have hc1 := fun i => hM7.out.k1.cell i
      have hsoft := fun i => hM7.out.k1.soft i
      have d0 := hcell 0
      have z0 := hc1 0
      have s0 := hsoft 0
      have d1 := hcell 1
      have z1 := hc1 1
      have s1 := hsoft 1
      have d2 := hcell 2
      have z2 := hc1 2
      have s2 := hsoft 2
      have d3 := hcell 3
      have z3 := hc1 3
      have s3 := hsoft 3
      have d4 := hcell 4
      have z4 := hc1 4
      have s4 := hsoft 4
      have d5 := hcell 5
      have z5 := hc1 5
      have s5 := hsoft 5
      have d6 := hcell 6
      have z6 := hc1 6
      have s6 := hsoft 6
      simp only [List.getElem?_cons_zero, List.getElem?_cons_succ] at d0 z0 d1 z1 d2 z2 d3 z3 d4 z4 d5 z5 d6 z6
      clear hcell hc1 hsoft
      go_wp2_with fail
      refine bodyPost_ret (v := .agg #[.int .i64 4, .string ⟨#[]⟩, .string ⟨#[]⟩, .string ⟨#[]⟩, .int .i64 (valO 0 T1), .int .i64 0, .string ⟨#[]⟩]) (by simp [results, Try.results38, go_sem, z0, z1, z2, z3, z4, z5, z6]) rfl ?_
      exact RdGot.mk (enc := cmV) (⟨4, [], [], [], [], valO 0 T1, 0⟩) (fun y u e => hf2.out y u (hZ2.out.symm.trans e)) (by rw [hZ2.out]; exact hf1.out.symm ▸ (ArrAt.far (ArrAt.far (ArrAt.far (ArrAt.far (ArrAt.far (ArrAt.far (ArrAt.far hM7.out.rd _ _ (Nat.ne_of_lt hRw)) _ _ (Nat.ne_of_lt hRw)) _ _ (Nat.ne_of_lt hRw)) _ _ (Nat.ne_of_lt hRw)) _ _ (Nat.ne_of_lt hRw)) _ _ (Nat.ne_of_lt hRw)) _ _ (Nat.ne_of_lt hRw))) (turn_own (turn_own (turn_own (turn_own (turn_own (turn_own (turn_own hM7.out.tn (Nat.le_refl _) _ _) (Nat.le_refl _) _ _) (Nat.le_refl _) _ _) (Nat.le_refl _) _ _) (Nat.le_refl _) _ _) (Nat.le_refl _) _ _) (Nat.le_refl _) _ _)
    by_cases e5 : kd = 5
    · subst e5
      have hr0 := hM4.out.rd
      obtain ⟨T1, h1⟩ : ∃ T, readT21 r 131072 = T := ⟨_, rfl⟩
      obtain ⟨T2, h2⟩ : ∃ T, (resO T1).bind (readT21 · 131072) = T := ⟨_, rfl⟩
      obtain ⟨hf1, hf2⟩ := fl5 (Or.inl rfl) h1 h2
      have l1 := resT_len (some r) 131072
      simp only [Option.bind_some, Option.getD_some] at l1
      rw [h1] at l1
      have l2 := resT_len (resO T1) 131072
      rw [h2] at l2
      have hn1 := rd_text hr0 (by simp only [Option.getD_some]; omega) 131072
      simp only [Option.bind_some] at hn1
      rw [h1] at hn1
      replace hn1 := Lib.hid hn1
      replace hf1 := Lib.hid hf1
      replace hf2 := Lib.hid hf2
      clear hr0
      replace h1 := Lib.hid h1
      replace h2 := Lib.hid h2
      go_wp2_with fail
      refine hn1.out.mono ?_
      rintro e v1 ⟨rfl, k1, k2⟩
      have m1 := Lib.hid (hM4.out.step hRw hK2 k1 k2)
      have hn2 := rd_text k1 (by omega) 131072
      rw [h2.out] at hn2
      replace hn2 := Lib.hid hn2
      clear k1 k2 hn1
      go_wp2_with fail
      refine hn2.out.mono ?_
      rintro e v2 ⟨rfl, k1, k2⟩
      have m2 := Lib.hid (m1.out.step hRw hK2 k1 k2)
      clear k1 k2 hn2
      have hcell := fun i => m2.out.k2.cell i
      have hsoft := fun i => m2.out.k2.soft i
      have p1 := hcell 1
      have u1 := hsoft 1
      have p2 := hcell 2
      have u2 := hsoft 2
      simp only [List.getElem?_cons_zero, List.getElem?_cons_succ] at p1 p2
      clear hcell hsoft
      go_upto_region 22 with fail
      refine hide_world (K := fun a w' => Code.wp _ _ _ a w') (R := fun W => CmM w R K2 [.int .i64 5, .string ⟨(valO [] T1).toArray⟩, .string ⟨(valO [] T2).toArray⟩, .string ⟨#[]⟩, .int .i64 0, .int .i64 0, .string ⟨#[]⟩] (resO T2) W) ((m2.out.put hRw hK2 1 _).put hRw hK2 2 _) ?_
      intro W7 hM7
      have hcell := fun i => hM7.out.k2.cell i
      have hc1 := fun i => hM7.out.k1.cell i
      have hsoft := fun i => hM7.out.k1.soft i
      have d0 := hcell 0
      have z0 := hc1 0
      have s0 := hsoft 0
      have d1 := hcell 1
      have z1 := hc1 1
      have s1 := hsoft 1
      have d2 := hcell 2
      have z2 := hc1 2
      have s2 := hsoft 2
      have d3 := hcell 3
      have z3 := hc1 3
      have s3 := hsoft 3
      have d4 := hcell 4
      have z4 := hc1 4
      have s4 := hsoft 4
      have d5 := hcell 5
      have z5 := hc1 5
      have s5 := hsoft 5
      have d6 := hcell 6
      have z6 := hc1 6
      have s6 := hsoft 6
      simp only [List.getElem?_cons_zero, List.getElem?_cons_succ] at d0 z0 d1 z1 d2 z2 d3 z3 d4 z4 d5 z5 d6 z6
      clear hcell hc1 hsoft
      go_wp2_with fail
      refine bodyPost_ret (v := .agg #[.int .i64 5, .string ⟨(valO [] T1).toArray⟩, .string ⟨(valO [] T2).toArray⟩, .string ⟨#[]⟩, .int .i64 0, .int .i64 0, .string ⟨#[]⟩]) (by simp [results, Try.results38, go_sem, z0, z1, z2, z3, z4, z5, z6]) rfl ?_
      exact RdGot.mk (enc := cmV) (⟨5, valO [] T1, valO [] T2, [], [], 0, 0⟩) (fun y u e => hf2.out y u (hZ2.out.symm.trans e)) (by rw [hZ2.out]; exact hf1.out.symm ▸ (ArrAt.far (ArrAt.far (ArrAt.far (ArrAt.far (ArrAt.far (ArrAt.far (ArrAt.far hM7.out.rd _ _ (Nat.ne_of_lt hRw)) _ _ (Nat.ne_of_lt hRw)) _ _ (Nat.ne_of_lt hRw)) _ _ (Nat.ne_of_lt hRw)) _ _ (Nat.ne_of_lt hRw)) _ _ (Nat.ne_of_lt hRw)) _ _ (Nat.ne_of_lt hRw))) (turn_own (turn_own (turn_own (turn_own (turn_own (turn_own (turn_own hM7.out.tn (Nat.le_refl _) _ _) (Nat.le_refl _) _ _) (Nat.le_refl _) _ _) (Nat.le_refl _) _ _) (Nat.le_refl _) _ _) (Nat.le_refl _) _ _) (Nat.le_refl _) _ _)
    by_cases e6 : kd = 6
    · subst e6
      have hr0 := hM4.out.rd
      obtain ⟨T1, h1⟩ : ∃ T, readT21 r 131072 = T := ⟨_, rfl⟩
      obtain ⟨T2, h2⟩ : ∃ T, (resO T1).bind (readT21 · 131072) = T := ⟨_, rfl⟩
      obtain ⟨hf1, hf2⟩ := fl5 (Or.inr (Or.inl rfl)) h1 h2
      have l1 := resT_len (some r) 131072
      simp only [Option.bind_some, Option.getD_some] at l1
      rw [h1] at l1
      have l2 := resT_len (resO T1) 131072
      rw [h2] at l2
      have hn1 := rd_text hr0 (by simp only [Option.getD_some]; omega) 131072
      simp only [Option.bind_some] at hn1
      rw [h1] at hn1
      replace hn1 := Lib.hid hn1
      replace hf1 := Lib.hid hf1
      replace hf2 := Lib.hid hf2
      clear hr0
      replace h1 := Lib.hid h1
      replace h2 := Lib.hid h2
      go_wp2_with fail
      refine hn1.out.mono ?_
      rintro e v1 ⟨rfl, k1, k2⟩
      have m1 := Lib.hid (hM4.out.step hRw hK2 k1 k2)
      have hn2 := rd_text k1 (by omega) 131072
      rw [h2.out] at hn2
      replace hn2 := Lib.hid hn2
      clear k1 k2 hn1
      go_wp2_with fail
      refine hn2.out.mono ?_
      rintro e v2 ⟨rfl, k1, k2⟩
      have m2 := Lib.hid (m1.out.step hRw hK2 k1 k2)
      clear k1 k2 hn2
      have hcell := fun i => m2.out.k2.cell i
      have hsoft := fun i => m2.out.k2.soft i
      have p1 := hcell 1
      have u1 := hsoft 1
      have p2 := hcell 2
      have u2 := hsoft 2
      simp only [List.getElem?_cons_zero, List.getElem?_cons_succ] at p1 p2
      clear hcell hsoft
      go_upto_region 22 with fail
      refine hide_world (K := fun a w' => Code.wp _ _ _ a w') (R := fun W => CmM w R K2 [.int .i64 6, .string ⟨(valO [] T1).toArray⟩, .string ⟨(valO [] T2).toArray⟩, .string ⟨#[]⟩, .int .i64 0, .int .i64 0, .string ⟨#[]⟩] (resO T2) W) ((m2.out.put hRw hK2 1 _).put hRw hK2 2 _) ?_
      intro W7 hM7
      have hcell := fun i => hM7.out.k2.cell i
      have hc1 := fun i => hM7.out.k1.cell i
      have hsoft := fun i => hM7.out.k1.soft i
      have d0 := hcell 0
      have z0 := hc1 0
      have s0 := hsoft 0
      have d1 := hcell 1
      have z1 := hc1 1
      have s1 := hsoft 1
      have d2 := hcell 2
      have z2 := hc1 2
      have s2 := hsoft 2
      have d3 := hcell 3
      have z3 := hc1 3
      have s3 := hsoft 3
      have d4 := hcell 4
      have z4 := hc1 4
      have s4 := hsoft 4
      have d5 := hcell 5
      have z5 := hc1 5
      have s5 := hsoft 5
      have d6 := hcell 6
      have z6 := hc1 6
      have s6 := hsoft 6
      simp only [List.getElem?_cons_zero, List.getElem?_cons_succ] at d0 z0 d1 z1 d2 z2 d3 z3 d4 z4 d5 z5 d6 z6
      clear hcell hc1 hsoft
      go_wp2_with fail
      refine bodyPost_ret (v := .agg #[.int .i64 6, .string ⟨(valO [] T1).toArray⟩, .string ⟨(valO [] T2).toArray⟩, .string ⟨#[]⟩, .int .i64 0, .int .i64 0, .string ⟨#[]⟩]) (by simp [results, Try.results38, go_sem, z0, z1, z2, z3, z4, z5, z6]) rfl ?_
      exact RdGot.mk (enc := cmV) (⟨6, valO [] T1, valO [] T2, [], [], 0, 0⟩) (fun y u e => hf2.out y u (hZ2.out.symm.trans e)) (by rw [hZ2.out]; exact hf1.out.symm ▸ (ArrAt.far (ArrAt.far (ArrAt.far (ArrAt.far (ArrAt.far (ArrAt.far (ArrAt.far hM7.out.rd _ _ (Nat.ne_of_lt hRw)) _ _ (Nat.ne_of_lt hRw)) _ _ (Nat.ne_of_lt hRw)) _ _ (Nat.ne_of_lt hRw)) _ _ (Nat.ne_of_lt hRw)) _ _ (Nat.ne_of_lt hRw)) _ _ (Nat.ne_of_lt hRw))) (turn_own (turn_own (turn_own (turn_own (turn_own (turn_own (turn_own hM7.out.tn (Nat.le_refl _) _ _) (Nat.le_refl _) _ _) (Nat.le_refl _) _ _) (Nat.le_refl _) _ _) (Nat.le_refl _) _ _) (Nat.le_refl _) _ _) (Nat.le_refl _) _ _)
    by_cases e9 : kd = 9
    · subst e9
      have hr0 := hM4.out.rd
      obtain ⟨T1, h1⟩ : ∃ T, readT21 r 131072 = T := ⟨_, rfl⟩
      obtain ⟨T2, h2⟩ : ∃ T, (resO T1).bind (readT21 · 131072) = T := ⟨_, rfl⟩
      obtain ⟨hf1, hf2⟩ := fl5 (Or.inr (Or.inr rfl)) h1 h2
      have l1 := resT_len (some r) 131072
      simp only [Option.bind_some, Option.getD_some] at l1
      rw [h1] at l1
      have l2 := resT_len (resO T1) 131072
      rw [h2] at l2
      have hn1 := rd_text hr0 (by simp only [Option.getD_some]; omega) 131072
      simp only [Option.bind_some] at hn1
      rw [h1] at hn1
      replace hn1 := Lib.hid hn1
      replace hf1 := Lib.hid hf1
      replace hf2 := Lib.hid hf2
      clear hr0
      replace h1 := Lib.hid h1
      replace h2 := Lib.hid h2
      go_wp2_with fail
      refine hn1.out.mono ?_
      rintro e v1 ⟨rfl, k1, k2⟩
      have m1 := Lib.hid (hM4.out.step hRw hK2 k1 k2)
      have hn2 := rd_text k1 (by omega) 131072
      rw [h2.out] at hn2
      replace hn2 := Lib.hid hn2
      clear k1 k2 hn1
      go_wp2_with fail
      refine hn2.out.mono ?_
      rintro e v2 ⟨rfl, k1, k2⟩
      have m2 := Lib.hid (m1.out.step hRw hK2 k1 k2)
      clear k1 k2 hn2
      have hcell := fun i => m2.out.k2.cell i
      have hsoft := fun i => m2.out.k2.soft i
      have p1 := hcell 1
      have u1 := hsoft 1
      have p2 := hcell 2
      have u2 := hsoft 2
      simp only [List.getElem?_cons_zero, List.getElem?_cons_succ] at p1 p2
      clear hcell hsoft
      go_upto_region 22 with fail
      refine hide_world (K := fun a w' => Code.wp _ _ _ a w') (R := fun W => CmM w R K2 [.int .i64 9, .string ⟨(valO [] T1).toArray⟩, .string ⟨(valO [] T2).toArray⟩, .string ⟨#[]⟩, .int .i64 0, .int .i64 0, .string ⟨#[]⟩] (resO T2) W) ((m2.out.put hRw hK2 1 _).put hRw hK2 2 _) ?_
      intro W7 hM7
      have hcell := fun i => hM7.out.k2.cell i
      have hc1 := fun i => hM7.out.k1.cell i
      have hsoft := fun i => hM7.out.k1.soft i
      have d0 := hcell 0
      have z0 := hc1 0
      have s0 := hsoft 0
      have d1 := hcell 1
      have z1 := hc1 1
      have s1 := hsoft 1
      have d2 := hcell 2
      have z2 := hc1 2
      have s2 := hsoft 2
      have d3 := hcell 3
      have z3 := hc1 3
      have s3 := hsoft 3
      have d4 := hcell 4
      have z4 := hc1 4
      have s4 := hsoft 4
      have d5 := hcell 5
      have z5 := hc1 5
      have s5 := hsoft 5
      have d6 := hcell 6
      have z6 := hc1 6
      have s6 := hsoft 6
      simp only [List.getElem?_cons_zero, List.getElem?_cons_succ] at d0 z0 d1 z1 d2 z2 d3 z3 d4 z4 d5 z5 d6 z6
      clear hcell hc1 hsoft
      go_wp2_with fail
      refine bodyPost_ret (v := .agg #[.int .i64 9, .string ⟨(valO [] T1).toArray⟩, .string ⟨(valO [] T2).toArray⟩, .string ⟨#[]⟩, .int .i64 0, .int .i64 0, .string ⟨#[]⟩]) (by simp [results, Try.results38, go_sem, z0, z1, z2, z3, z4, z5, z6]) rfl ?_
      exact RdGot.mk (enc := cmV) (⟨9, valO [] T1, valO [] T2, [], [], 0, 0⟩) (fun y u e => hf2.out y u (hZ2.out.symm.trans e)) (by rw [hZ2.out]; exact hf1.out.symm ▸ (ArrAt.far (ArrAt.far (ArrAt.far (ArrAt.far (ArrAt.far (ArrAt.far (ArrAt.far hM7.out.rd _ _ (Nat.ne_of_lt hRw)) _ _ (Nat.ne_of_lt hRw)) _ _ (Nat.ne_of_lt hRw)) _ _ (Nat.ne_of_lt hRw)) _ _ (Nat.ne_of_lt hRw)) _ _ (Nat.ne_of_lt hRw)) _ _ (Nat.ne_of_lt hRw))) (turn_own (turn_own (turn_own (turn_own (turn_own (turn_own (turn_own hM7.out.tn (Nat.le_refl _) _ _) (Nat.le_refl _) _ _) (Nat.le_refl _) _ _) (Nat.le_refl _) _ _) (Nat.le_refl _) _ _) (Nat.le_refl _) _ _) (Nat.le_refl _) _ _)
    by_cases e8 : kd = 8
    · subst e8
      have hr0 := hM4.out.rd
      obtain ⟨T1, h1⟩ : ∃ T, readI21 r = T := ⟨_, rfl⟩
      obtain ⟨T2, h2⟩ : ∃ T, (resO T1).bind readI21 = T := ⟨_, rfl⟩
      obtain ⟨T3, h3⟩ : ∃ T, (resO T2).bind (readT21 · 131072) = T := ⟨_, rfl⟩
      obtain ⟨hf1, hf2⟩ := fl8 rfl h1 h2 h3
      have l1 := resI_len (some r)
      simp only [Option.bind_some, Option.getD_some] at l1
      rw [h1] at l1
      have l2 := resI_len (resO T1)
      rw [h2] at l2
      have l3 := resT_len (resO T2) 131072
      rw [h3] at l3
      have hn1 := rd_number hr0 (by simp only [Option.getD_some]; omega)
      simp only [Option.bind_some] at hn1
      rw [h1] at hn1
      replace hn1 := Lib.hid hn1
      replace hf1 := Lib.hid hf1
      replace hf2 := Lib.hid hf2
      clear hr0
      replace h1 := Lib.hid h1
      replace h2 := Lib.hid h2
      replace h3 := Lib.hid h3
      go_wp2_with fail
      refine hn1.out.mono ?_
      rintro e v1 ⟨rfl, k1, k2⟩
      have m1 := Lib.hid (hM4.out.step hRw hK2 k1 k2)
      have hn2 := rd_number k1 (by omega)
      rw [h2.out] at hn2
      replace hn2 := Lib.hid hn2
      clear k1 k2 hn1
      go_wp2_with fail
      refine hn2.out.mono ?_
      rintro e v2 ⟨rfl, k1, k2⟩
      have m2 := Lib.hid (m1.out.step hRw hK2 k1 k2)
      have hn3 := rd_text k1 (by omega) 131072
      rw [h3.out] at hn3
      replace hn3 := Lib.hid hn3
      clear k1 k2 hn2
      go_wp2_with fail
      refine hn3.out.mono ?_
      rintro e v3 ⟨rfl, k1, k2⟩
      have m3 := Lib.hid (m2.out.step hRw hK2 k1 k2)
      clear k1 k2 hn3
      have hcell := fun i => m3.out.k2.cell i
      have hsoft := fun i => m3.out.k2.soft i
      have p4 := hcell 4
      have u4 := hsoft 4
      have p5 := hcell 5
      have u5 := hsoft 5
      have p6 := hcell 6
      have u6 := hsoft 6
      simp only [List.getElem?_cons_zero, List.getElem?_cons_succ] at p4 p5 p6
      clear hcell hsoft
      go_upto_region 22 with fail
      refine hide_world (K := fun a w' => Code.wp _ _ _ a w') (R := fun W => CmM w R K2 [.int .i64 8, .string ⟨#[]⟩, .string ⟨#[]⟩, .string ⟨#[]⟩, .int .i64 (valO 0 T2), .int .i64 (valO 0 T1), .string ⟨(valO [] T3).toArray⟩] (resO T3) W) (((m3.out.put hRw hK2 5 _).put hRw hK2 4 _).put hRw hK2 6 _) ?_
      intro W7 hM7
      have hcell := fun i => hM7.out.k2.cell i
      have hc1 := fun i => hM7.out.k1.cell i
      have hsoft := fun i => hM7.out.k1.soft i
      have d0 := hcell 0
      have z0 := hc1 0
      have s0 := hsoft 0
      have d1 := hcell 1
      have z1 := hc1 1
      have s1 := hsoft 1
      have d2 := hcell 2
      have z2 := hc1 2
      have s2 := hsoft 2
      have d3 := hcell 3
      have z3 := hc1 3
      have s3 := hsoft 3
      have d4 := hcell 4
      have z4 := hc1 4
      have s4 := hsoft 4
      have d5 := hcell 5
      have z5 := hc1 5
      have s5 := hsoft 5
      have d6 := hcell 6
      have z6 := hc1 6
      have s6 := hsoft 6
      simp only [List.getElem?_cons_zero, List.getElem?_cons_succ] at d0 z0 d1 z1 d2 z2 d3 z3 d4 z4 d5 z5 d6 z6
      clear hcell hc1 hsoft
      go_wp2_with fail
      refine bodyPost_ret (v := .agg #[.int .i64 8, .string ⟨#[]⟩, .string ⟨#[]⟩, .string ⟨#[]⟩, .int .i64 (valO 0 T2), .int .i64 (valO 0 T1), .string ⟨(valO [] T3).toArray⟩]) (by simp [results, Try.results38, go_sem, z0, z1, z2, z3, z4, z5, z6]) rfl ?_
      exact RdGot.mk (enc := cmV) (⟨8, [], [], [], valO [] T3, valO 0 T2, valO 0 T1⟩) (fun y u e => hf2.out y u (hZ2.out.symm.trans e)) (by rw [hZ2.out]; exact hf1.out.symm ▸ (ArrAt.far (ArrAt.far (ArrAt.far (ArrAt.far (ArrAt.far (ArrAt.far (ArrAt.far hM7.out.rd _ _ (Nat.ne_of_lt hRw)) _ _ (Nat.ne_of_lt hRw)) _ _ (Nat.ne_of_lt hRw)) _ _ (Nat.ne_of_lt hRw)) _ _ (Nat.ne_of_lt hRw)) _ _ (Nat.ne_of_lt hRw)) _ _ (Nat.ne_of_lt hRw))) (turn_own (turn_own (turn_own (turn_own (turn_own (turn_own (turn_own hM7.out.tn (Nat.le_refl _) _ _) (Nat.le_refl _) _ _) (Nat.le_refl _) _ _) (Nat.le_refl _) _ _) (Nat.le_refl _) _ _) (Nat.le_refl _) _ _) (Nat.le_refl _) _ _)
    by_cases e7 : kd = 7
    · subst e7
      have hf := Lib.hid (fl7 (Or.inl rfl) r)
      go_upto_region 22 with fail
      refine hide_world (K := fun a w' => Code.wp _ _ _ a w') (R := fun W => CmM w R K2 [.int .i64 7, .string ⟨#[]⟩, .string ⟨#[]⟩, .string ⟨#[]⟩, .int .i64 0, .int .i64 0, .string ⟨#[]⟩] (some r) W) hM4.out ?_
      intro W7 hM7
      have hcell := fun i => hM7.out.k2.cell i
      have hc1 := fun i => hM7.out.k1.cell i
      have hsoft := fun i => hM7.out.k1.soft i
      have d0 := hcell 0
      have z0 := hc1 0
      have s0 := hsoft 0
      have d1 := hcell 1
      have z1 := hc1 1
      have s1 := hsoft 1
      have d2 := hcell 2
      have z2 := hc1 2
      have s2 := hsoft 2
      have d3 := hcell 3
      have z3 := hc1 3
      have s3 := hsoft 3
      have d4 := hcell 4
      have z4 := hc1 4
      have s4 := hsoft 4
      have d5 := hcell 5
      have z5 := hc1 5
      have s5 := hsoft 5
      have d6 := hcell 6
      have z6 := hc1 6
      have s6 := hsoft 6
      simp only [List.getElem?_cons_zero, List.getElem?_cons_succ] at d0 z0 d1 z1 d2 z2 d3 z3 d4 z4 d5 z5 d6 z6
      clear hcell hc1 hsoft
      go_wp2_with fail
      refine bodyPost_ret (v := .agg #[.int .i64 7, .string ⟨#[]⟩, .string ⟨#[]⟩, .string ⟨#[]⟩, .int .i64 0, .int .i64 0, .string ⟨#[]⟩]) (by simp [results, Try.results38, go_sem, z0, z1, z2, z3, z4, z5, z6]) rfl ?_
      exact RdGot.mk (enc := cmV) (⟨7, [], [], [], [], 0, 0⟩) (fun y u e => by rw [hZ2.out, hf.out] at e; simp only [Option.some.injEq, Prod.mk.injEq] at e; exact e.1) (by rw [hZ2.out]; exact (show (some r : Option (List UInt8)) = resO (fields21 7 r) by rw [hf.out]; rfl) ▸ (ArrAt.far (ArrAt.far (ArrAt.far (ArrAt.far (ArrAt.far (ArrAt.far (ArrAt.far hM7.out.rd _ _ (Nat.ne_of_lt hRw)) _ _ (Nat.ne_of_lt hRw)) _ _ (Nat.ne_of_lt hRw)) _ _ (Nat.ne_of_lt hRw)) _ _ (Nat.ne_of_lt hRw)) _ _ (Nat.ne_of_lt hRw)) _ _ (Nat.ne_of_lt hRw))) (turn_own (turn_own (turn_own (turn_own (turn_own (turn_own (turn_own hM7.out.tn (Nat.le_refl _) _ _) (Nat.le_refl _) _ _) (Nat.le_refl _) _ _) (Nat.le_refl _) _ _) (Nat.le_refl _) _ _) (Nat.le_refl _) _ _) (Nat.le_refl _) _ _)
    by_cases e10 : kd = 10
    · subst e10
      have hf := Lib.hid (fl7 (Or.inr rfl) r)
      go_upto_region 22 with fail
      refine hide_world (K := fun a w' => Code.wp _ _ _ a w') (R := fun W => CmM w R K2 [.int .i64 10, .string ⟨#[]⟩, .string ⟨#[]⟩, .string ⟨#[]⟩, .int .i64 0, .int .i64 0, .string ⟨#[]⟩] (some r) W) hM4.out ?_
      intro W7 hM7
      have hcell := fun i => hM7.out.k2.cell i
      have hc1 := fun i => hM7.out.k1.cell i
      have hsoft := fun i => hM7.out.k1.soft i
      have d0 := hcell 0
      have z0 := hc1 0
      have s0 := hsoft 0
      have d1 := hcell 1
      have z1 := hc1 1
      have s1 := hsoft 1
      have d2 := hcell 2
      have z2 := hc1 2
      have s2 := hsoft 2
      have d3 := hcell 3
      have z3 := hc1 3
      have s3 := hsoft 3
      have d4 := hcell 4
      have z4 := hc1 4
      have s4 := hsoft 4
      have d5 := hcell 5
      have z5 := hc1 5
      have s5 := hsoft 5
      have d6 := hcell 6
      have z6 := hc1 6
      have s6 := hsoft 6
      simp only [List.getElem?_cons_zero, List.getElem?_cons_succ] at d0 z0 d1 z1 d2 z2 d3 z3 d4 z4 d5 z5 d6 z6
      clear hcell hc1 hsoft
      go_wp2_with fail
      refine bodyPost_ret (v := .agg #[.int .i64 10, .string ⟨#[]⟩, .string ⟨#[]⟩, .string ⟨#[]⟩, .int .i64 0, .int .i64 0, .string ⟨#[]⟩]) (by simp [results, Try.results38, go_sem, z0, z1, z2, z3, z4, z5, z6]) rfl ?_
      exact RdGot.mk (enc := cmV) (⟨10, [], [], [], [], 0, 0⟩) (fun y u e => by rw [hZ2.out, hf.out] at e; simp only [Option.some.injEq, Prod.mk.injEq] at e; exact e.1) (by rw [hZ2.out]; exact (show (some r : Option (List UInt8)) = resO (fields21 10 r) by rw [hf.out]; rfl) ▸ (ArrAt.far (ArrAt.far (ArrAt.far (ArrAt.far (ArrAt.far (ArrAt.far (ArrAt.far hM7.out.rd _ _ (Nat.ne_of_lt hRw)) _ _ (Nat.ne_of_lt hRw)) _ _ (Nat.ne_of_lt hRw)) _ _ (Nat.ne_of_lt hRw)) _ _ (Nat.ne_of_lt hRw)) _ _ (Nat.ne_of_lt hRw)) _ _ (Nat.ne_of_lt hRw))) (turn_own (turn_own (turn_own (turn_own (turn_own (turn_own (turn_own hM7.out.tn (Nat.le_refl _) _ _) (Nat.le_refl _) _ _) (Nat.le_refl _) _ _) (Nat.le_refl _) _ _) (Nat.le_refl _) _ _) (Nat.le_refl _) _ _) (Nat.le_refl _) _ _)
    have hf := Lib.hid (fl0 e1 e2 e3 e4 e5 e6 e7 e8 e9 e10 r)
    have q1 : (kd == 1) = false := by simpa using e1
    have q2 : (kd == 2) = false := by simpa using e2
    have q3 : (kd == 3) = false := by simpa using e3
    have q4 : (kd == 4) = false := by simpa using e4
    have q5 : (kd == 5) = false := by simpa using e5
    have q6 : (kd == 6) = false := by simpa using e6
    have q7 : (kd == 7) = false := by simpa using e7
    have q8 : (kd == 8) = false := by simpa using e8
    have q9 : (kd == 9) = false := by simpa using e9
    have q10 : (kd == 10) = false := by simpa using e10
    have hfl := Lib.hid (rd_fail hM4.out.rd)
    clear e1 e2 e3 e4 e5 e6 e7 e8 e9 e10
    go_wp2_with fail
    refine hfl.out.mono ?_
    rintro e v1 ⟨rfl, k1, k2⟩
    have m1 := Lib.hid (hM4.out.step hRw hK2 k1 k2)
    clear k1 k2 hfl
    go_upto_region 22 with fail
    refine hide_world (K := fun a w' => Code.wp _ _ _ a w') (R := fun W => CmM w R K2 [.int .i64 kd, .string ⟨#[]⟩, .string ⟨#[]⟩, .string ⟨#[]⟩, .int .i64 0, .int .i64 0, .string ⟨#[]⟩] (none) W) m1.out ?_
    intro W7 hM7
    have hcell := fun i => hM7.out.k2.cell i
    have hc1 := fun i => hM7.out.k1.cell i
    have hsoft := fun i => hM7.out.k1.soft i
    have d0 := hcell 0
    have z0 := hc1 0
    have s0 := hsoft 0
    have d1 := hcell 1
    have z1 := hc1 1
    have s1 := hsoft 1
    have d2 := hcell 2
    have z2 := hc1 2
    have s2 := hsoft 2
    have d3 := hcell 3
    have z3 := hc1 3
    have s3 := hsoft 3
    have d4 := hcell 4
    have z4 := hc1 4
    have s4 := hsoft 4
    have d5 := hcell 5
    have z5 := hc1 5
    have s5 := hsoft 5
    have d6 := hcell 6
    have z6 := hc1 6
    have s6 := hsoft 6
    simp only [List.getElem?_cons_zero, List.getElem?_cons_succ] at d0 z0 d1 z1 d2 z2 d3 z3 d4 z4 d5 z5 d6 z6
    clear hcell hc1 hsoft
    go_wp2_with fail
    refine bodyPost_ret (v := .agg #[.int .i64 kd, .string ⟨#[]⟩, .string ⟨#[]⟩, .string ⟨#[]⟩, .int .i64 0, .int .i64 0, .string ⟨#[]⟩]) (by simp [results, Try.results38, go_sem, z0, z1, z2, z3, z4, z5, z6]) rfl ?_
    exact RdGot.mk (enc := cmV) (⟨kd, [], [], [], [], 0, 0⟩) (fun y u e => by rw [hZ2.out, hf.out] at e; cases e) (by rw [hZ2.out]; exact (show (none : Option (List UInt8)) = resO (fields21 kd r) by rw [hf.out]; rfl) ▸ (ArrAt.far (ArrAt.far (ArrAt.far (ArrAt.far (ArrAt.far (ArrAt.far (ArrAt.far hM7.out.rd _ _ (Nat.ne_of_lt hRw)) _ _ (Nat.ne_of_lt hRw)) _ _ (Nat.ne_of_lt hRw)) _ _ (Nat.ne_of_lt hRw)) _ _ (Nat.ne_of_lt hRw)) _ _ (Nat.ne_of_lt hRw)) _ _ (Nat.ne_of_lt hRw))) (turn_own (turn_own (turn_own (turn_own (turn_own (turn_own (turn_own hM7.out.tn (Nat.le_refl _) _ _) (Nat.le_refl _) _ _) (Nat.le_refl _) _ _) (Nat.le_refl _) _ _) (Nat.le_refl _) _ _) (Nat.le_refl _) _ _) (Nat.le_refl _) _ _)
end Go.Proofs.Ytpfcamebkcengaa
