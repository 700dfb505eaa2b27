/- Layer 21, the reference: commands read. -/
import Derived.Test.YtpfcamebkcengaaR21d
import Derived.Test.YtpfcamebkcengaaD21o
namespace Go.Proofs.Ytpfcamebkcengaa
open Go.RowKit

/-- Behind the reference's reading of a command's fields. -/
def FlPost (w : World) (F : Option (Cm21 × List UInt8)) (e : Ending) (w' : World) : Prop := ∃ x rest, e = .returned (.tuple #[cmV x, .string ⟨rest.toArray⟩, .bool F.isSome]) ∧ (∀ y t, F = some (y, t) → x = y ∧ rest = t) ∧ Below w.heap.size w w'
/-- Within it: the command's block, the result's. -/
structure FM (w : World) (c : List Value) (W : World) : Prop where
  k0 : ArrAt W w.heap.size 32 c
  k1 : ArrAt W (w.heap.size + 1) 32 [.int .i64 0, .string ⟨#[]⟩, .string ⟨#[]⟩, .string ⟨#[]⟩, .int .i64 0, .int .i64 0, .string ⟨#[]⟩]
  bl : Below w.heap.size w W
theorem FM.next {w W W' : World} {c : List Value} (h : FM w c W) (hb : Below W.heap.size W W') : FM w c W' := ⟨h.k0.next hb, h.k1.next hb, h.bl.trans (hb.mono h.bl.size)⟩
theorem FM.put {w W : World} {c : List Value} (h : FM w c W) (i : Nat) (v : Value) : FM w (c.set i v) (W.setCell ⟨w.heap.size, i, none⟩ v) :=
  ⟨h.k0.set i v, h.k1.far i v (by omega), h.bl.setCell (p := ⟨w.heap.size, i, none⟩) (Nat.le_refl _) v⟩

theorem readI_len2 {s t : List UInt8} {n : Int} (h : readI21 s = some (n, t)) : t.length < s.length := readI_len h
theorem readT_len2 {s t x : List UInt8} {m : Int} (h : readT21 s m = some (x, t)) : t.length < s.length := (readT_len h).1
set_option maxHeartbeats 8000000 in
set_option maxRecDepth 100000 in
theorem rfields_any (kd : Int) (l : List UInt8) (w : World) (hl : l.length ≤ 1000000000) (k1 : -9223372036854775808 ≤ kd) (k2 : kd ≤ 9223372036854775807) :
    Calls Try.prog 40 #[cmV (cm0 kd), .string ⟨l.toArray⟩] w (FlPost w (fields21 kd l)) := by
  have hb0 := (Below.refl w.heap.size w).alloc (Nat.le_refl _) (.cells #[.int .i64 kd, .string ⟨#[]⟩, .string ⟨#[]⟩, .string ⟨#[]⟩, .int .i64 0, .int .i64 0, .string ⟨#[]⟩] 32)
  have e0 : (w.alloc (.cells #[.int .i64 kd, .string ⟨#[]⟩, .string ⟨#[]⟩, .string ⟨#[]⟩, .int .i64 0, .int .i64 0, .string ⟨#[]⟩] 32)).heap.size = w.heap.size + 1 := by simp
  have hb1 := (Below.refl (w.alloc (.cells #[.int .i64 kd, .string ⟨#[]⟩, .string ⟨#[]⟩, .string ⟨#[]⟩, .int .i64 0, .int .i64 0, .string ⟨#[]⟩] 32)).heap.size (w.alloc (.cells #[.int .i64 kd, .string ⟨#[]⟩, .string ⟨#[]⟩, .string ⟨#[]⟩, .int .i64 0, .int .i64 0, .string ⟨#[]⟩] 32))).alloc (Nat.le_refl _) (.cells #[.int .i64 0, .string ⟨#[]⟩, .string ⟨#[]⟩, .string ⟨#[]⟩, .int .i64 0, .int .i64 0, .string ⟨#[]⟩] 32)
  have hK1 := arrAt_new (w.alloc (.cells #[.int .i64 kd, .string ⟨#[]⟩, .string ⟨#[]⟩, .string ⟨#[]⟩, .int .i64 0, .int .i64 0, .string ⟨#[]⟩] 32)) 32 [Value.int .i64 0, .string ⟨#[]⟩, .string ⟨#[]⟩, .string ⟨#[]⟩, .int .i64 0, .int .i64 0, .string ⟨#[]⟩]
  rw [e0] at hK1
  have hM := Lib.hid (⟨(arrAt_new w 32 [Value.int .i64 kd, .string ⟨#[]⟩, .string ⟨#[]⟩, .string ⟨#[]⟩, .int .i64 0, .int .i64 0, .string ⟨#[]⟩]).next hb1, hK1, hb0.trans (hb1.mono hb0.size)⟩ : FM w [.int .i64 kd, .string ⟨#[]⟩, .string ⟨#[]⟩, .string ⟨#[]⟩, .int .i64 0, .int .i64 0, .string ⟨#[]⟩] _)
  obtain ⟨F, hF⟩ : ∃ F, fields21 kd l = F := ⟨_, rfl⟩
  rw [hF]
  replace hF := Lib.hid hF
  unfold cmV cmC cm0
  simp only
  clear hb0 e0 hb1 hK1
  go_enter Try.func40, Try.ntmps40
  go_upto_region 2 with fail
  refine hide_world (K := fun a w' => Code.wp _ _ _ a w') (R := fun W => FM w [.int .i64 kd, .string ⟨#[]⟩, .string ⟨#[]⟩, .string ⟨#[]⟩, .int .i64 0, .int .i64 0, .string ⟨#[]⟩] W) hM.out ?_
  intro W2 hM2
  clear hM
  have c0 := hM2.out.k0.cell 0
  simp only [List.getElem?_cons_zero] at c0
  by_cases e1 : kd = 1
  · subst e1
    have hr1 := fun W => rreadText_any l 131072 W (by omega)
    unfold RiPost at hr1
    cases h1 : readT21 l 131072 with
    | none =>
      rw [h1] at hr1
      simp only [valO, resO, Option.map_none, Option.getD_none, Option.isSome_none] at hr1
      replace hr1 := Lib.hid hr1
      have hFN := Lib.hid (show F = none by rw [← hF.out]; simp [fields21, h1])
      go_wp2_with fail
      refine (hr1.out _).mono ?_
      rintro e w11 ⟨rfl, bb⟩
      have m1 := Lib.hid (hM2.out.next bb)
      have p1 := m1.out.k0.cell 1
      have u1 := m1.out.k0.soft 1
      simp only [List.getElem?_cons_zero, List.getElem?_cons_succ] at p1
      clear bb hr1
      go_upto_region 27 with fail
      refine hide_world (K := fun a w' => Code.wp _ _ _ a w') (R := fun W => FM w [.int .i64 1, .string ⟨#[]⟩, .string ⟨#[]⟩, .string ⟨#[]⟩, .int .i64 0, .int .i64 0, .string ⟨#[]⟩] W) (m1.out.put 1 _) ?_
      intro W7 hM7
      have hcell := fun i => hM7.out.k0.cell i
      have hc1 := fun i => hM7.out.k1.cell i
      have hsoft := fun i => hM7.out.k1.soft i
      have d0 := hcell 0
      have z0 := hc1 0
      have s0 := hsoft 0
      have d1 := hcell 1
      have z1 := hc1 1
      have s1 := hsoft 1
      have d2 := hcell 2
      have z2 := hc1 2
      have s2 := hsoft 2
      have d3 := hcell 3
      have z3 := hc1 3
      have s3 := hsoft 3
      have d4 := hcell 4
      have z4 := hc1 4
      have s4 := hsoft 4
      have d5 := hcell 5
      have z5 := hc1 5
      have s5 := hsoft 5
      have d6 := hcell 6
      have z6 := hc1 6
      have s6 := hsoft 6
      simp only [List.getElem?_cons_zero, List.getElem?_cons_succ] at d0 z0 d1 z1 d2 z2 d3 z3 d4 z4 d5 z5 d6 z6
      clear hcell hc1 hsoft
      go_wp2_with fail
      refine bodyPost_ret (v := .tuple #[.agg #[.int .i64 1, .string ⟨#[]⟩, .string ⟨#[]⟩, .string ⟨#[]⟩, .int .i64 0, .int .i64 0, .string ⟨#[]⟩], .string ⟨(([] : List UInt8)).toArray⟩, .bool false]) (by simp [results, Try.results40, go_sem, z0, z1, z2, z3, z4, z5, z6]) rfl ?_
      exact ⟨⟨1, [], [], [], [], 0, 0⟩, ([] : List UInt8), by rw [hFN.out]; rfl, (fun y t e => by rw [hFN.out] at e; cases e), (((((((hM7.out.bl).setCell (p := ⟨w.heap.size + 1, 0, none⟩) (Nat.le_succ _) _).setCell (p := ⟨w.heap.size + 1, 1, none⟩) (Nat.le_succ _) _).setCell (p := ⟨w.heap.size + 1, 2, none⟩) (Nat.le_succ _) _).setCell (p := ⟨w.heap.size + 1, 3, none⟩) (Nat.le_succ _) _).setCell (p := ⟨w.heap.size + 1, 4, none⟩) (Nat.le_succ _) _).setCell (p := ⟨w.heap.size + 1, 5, none⟩) (Nat.le_succ _) _).setCell (p := ⟨w.heap.size + 1, 6, none⟩) (Nat.le_succ _) _⟩
    | some p1 =>
      obtain ⟨vf, r1⟩ := p1
      have hl1 : r1.length ≤ 1000000000 := by have := readT_len2 h1; omega
      rw [h1] at hr1
      simp only [valO, resO, Option.map_some, Option.getD_some, Option.isSome_some] at hr1
      replace hr1 := Lib.hid hr1
      go_wp2_with fail
      refine (hr1.out _).mono ?_
      rintro e w11 ⟨rfl, bb⟩
      have m1 := Lib.hid (hM2.out.next bb)
      have p1 := m1.out.k0.cell 1
      have u1 := m1.out.k0.soft 1
      simp only [List.getElem?_cons_zero, List.getElem?_cons_succ] at p1
      clear bb hr1
      have hFN := Lib.hid (show F = some (⟨1, vf, [], [], [], 0, 0⟩, r1) by rw [← hF.out]; simp [fields21, cm0, h1])
      go_upto_region 27 with fail
      refine hide_world (K := fun a w' => Code.wp _ _ _ a w') (R := fun W => FM w [.int .i64 1, .string ⟨vf.toArray⟩, .string ⟨#[]⟩, .string ⟨#[]⟩, .int .i64 0, .int .i64 0, .string ⟨#[]⟩] W) (m1.out.put 1 _) ?_
      intro W7 hM7
      have hcell := fun i => hM7.out.k0.cell i
      have hc1 := fun i => hM7.out.k1.cell i
      have hsoft := fun i => hM7.out.k1.soft i
      have d0 := hcell 0
      have z0 := hc1 0
      have s0 := hsoft 0
      have d1 := hcell 1
      have z1 := hc1 1
      have s1 := hsoft 1
      have d2 := hcell 2
      have z2 := hc1 2
      have s2 := hsoft 2
      have d3 := hcell 3
      have z3 := hc1 3
      have s3 := hsoft 3
      have d4 := hcell 4
      have z4 := hc1 4
      have s4 := hsoft 4
      have d5 := hcell 5
      have z5 := hc1 5
      have s5 := hsoft 5
      have d6 := hcell 6
      have z6 := hc1 6
      have s6 := hsoft 6
      simp only [List.getElem?_cons_zero, List.getElem?_cons_succ] at d0 z0 d1 z1 d2 z2 d3 z3 d4 z4 d5 z5 d6 z6
      clear hcell hc1 hsoft
      go_wp2_with fail
      refine bodyPost_ret (v := .tuple #[.agg #[.int .i64 1, .string ⟨vf.toArray⟩, .string ⟨#[]⟩, .string ⟨#[]⟩, .int .i64 0, .int .i64 0, .string ⟨#[]⟩], .string ⟨(r1).toArray⟩, .bool true]) (by simp [results, Try.results40, go_sem, z0, z1, z2, z3, z4, z5, z6]) rfl ?_
      exact ⟨⟨1, vf, [], [], [], 0, 0⟩, r1, by rw [hFN.out]; rfl, (fun y t e => by rw [hFN.out] at e; simp only [Option.some.injEq, Prod.mk.injEq] at e; exact e), (((((((hM7.out.bl).setCell (p := ⟨w.heap.size + 1, 0, none⟩) (Nat.le_succ _) _).setCell (p := ⟨w.heap.size + 1, 1, none⟩) (Nat.le_succ _) _).setCell (p := ⟨w.heap.size + 1, 2, none⟩) (Nat.le_succ _) _).setCell (p := ⟨w.heap.size + 1, 3, none⟩) (Nat.le_succ _) _).setCell (p := ⟨w.heap.size + 1, 4, none⟩) (Nat.le_succ _) _).setCell (p := ⟨w.heap.size + 1, 5, none⟩) (Nat.le_succ _) _).setCell (p := ⟨w.heap.size + 1, 6, none⟩) (Nat.le_succ _) _⟩
  by_cases e2 : kd = 2
  · subst e2
    have hr1 := fun W => rreadText_any l 131072 W (by omega)
    unfold RiPost at hr1
    cases h1 : readT21 l 131072 with
    | none =>
      rw [h1] at hr1
      simp only [valO, resO, Option.map_none, Option.getD_none, Option.isSome_none] at hr1
      replace hr1 := Lib.hid hr1
      have hFN := Lib.hid (show F = none by rw [← hF.out]; simp [fields21, h1])
      go_wp2_with fail
      refine (hr1.out _).mono ?_
      rintro e w11 ⟨rfl, bb⟩
      have m1 := Lib.hid (hM2.out.next bb)
      have p1 := m1.out.k0.cell 1
      have u1 := m1.out.k0.soft 1
      simp only [List.getElem?_cons_zero, List.getElem?_cons_succ] at p1
      clear bb hr1
      go_upto_region 27 with fail
      refine hide_world (K := fun a w' => Code.wp _ _ _ a w') (R := fun W => FM w [.int .i64 2, .string ⟨#[]⟩, .string ⟨#[]⟩, .string ⟨#[]⟩, .int .i64 0, .int .i64 0, .string ⟨#[]⟩] W) (m1.out.put 1 _) ?_
      intro W7 hM7
      have hcell := fun i => hM7.out.k0.cell i
      have hc1 := fun i => hM7.out.k1.cell i
      have hsoft := fun i => hM7.out.k1.soft i
      have d0 := hcell 0
      have z0 := hc1 0
      have s0 := hsoft 0
      have d1 := hcell 1
      have z1 := hc1 1
      have s1 := hsoft 1
      have d2 := hcell 2
      have z2 := hc1 2
      have s2 := hsoft 2
      have d3 := hcell 3
      have z3 := hc1 3
      have s3 := hsoft 3
      have d4 := hcell 4
      have z4 := hc1 4
      have s4 := hsoft 4
      have d5 := hcell 5
      have z5 := hc1 5
      have s5 := hsoft 5
      have d6 := hcell 6
      have z6 := hc1 6
      have s6 := hsoft 6
      simp only [List.getElem?_cons_zero, List.getElem?_cons_succ] at d0 z0 d1 z1 d2 z2 d3 z3 d4 z4 d5 z5 d6 z6
      clear hcell hc1 hsoft
      go_wp2_with fail
      refine bodyPost_ret (v := .tuple #[.agg #[.int .i64 2, .string ⟨#[]⟩, .string ⟨#[]⟩, .string ⟨#[]⟩, .int .i64 0, .int .i64 0, .string ⟨#[]⟩], .string ⟨(([] : List UInt8)).toArray⟩, .bool false]) (by simp [results, Try.results40, go_sem, z0, z1, z2, z3, z4, z5, z6]) rfl ?_
      exact ⟨⟨2, [], [], [], [], 0, 0⟩, ([] : List UInt8), by rw [hFN.out]; rfl, (fun y t e => by rw [hFN.out] at e; cases e), (((((((hM7.out.bl).setCell (p := ⟨w.heap.size + 1, 0, none⟩) (Nat.le_succ _) _).setCell (p := ⟨w.heap.size + 1, 1, none⟩) (Nat.le_succ _) _).setCell (p := ⟨w.heap.size + 1, 2, none⟩) (Nat.le_succ _) _).setCell (p := ⟨w.heap.size + 1, 3, none⟩) (Nat.le_succ _) _).setCell (p := ⟨w.heap.size + 1, 4, none⟩) (Nat.le_succ _) _).setCell (p := ⟨w.heap.size + 1, 5, none⟩) (Nat.le_succ _) _).setCell (p := ⟨w.heap.size + 1, 6, none⟩) (Nat.le_succ _) _⟩
    | some p1 =>
      obtain ⟨vf, r1⟩ := p1
      have hl1 : r1.length ≤ 1000000000 := by have := readT_len2 h1; omega
      rw [h1] at hr1
      simp only [valO, resO, Option.map_some, Option.getD_some, Option.isSome_some] at hr1
      replace hr1 := Lib.hid hr1
      go_wp2_with fail
      refine (hr1.out _).mono ?_
      rintro e w11 ⟨rfl, bb⟩
      have m1 := Lib.hid (hM2.out.next bb)
      have p1 := m1.out.k0.cell 1
      have u1 := m1.out.k0.soft 1
      simp only [List.getElem?_cons_zero, List.getElem?_cons_succ] at p1
      clear bb hr1
      have hFN := Lib.hid (show F = some (⟨2, vf, [], [], [], 0, 0⟩, r1) by rw [← hF.out]; simp [fields21, cm0, h1])
      go_upto_region 27 with fail
      refine hide_world (K := fun a w' => Code.wp _ _ _ a w') (R := fun W => FM w [.int .i64 2, .string ⟨vf.toArray⟩, .string ⟨#[]⟩, .string ⟨#[]⟩, .int .i64 0, .int .i64 0, .string ⟨#[]⟩] W) (m1.out.put 1 _) ?_
      intro W7 hM7
      have hcell := fun i => hM7.out.k0.cell i
      have hc1 := fun i => hM7.out.k1.cell i
      have hsoft := fun i => hM7.out.k1.soft i
      have d0 := hcell 0
      have z0 := hc1 0
      have s0 := hsoft 0
      have d1 := hcell 1
      have z1 := hc1 1
      have s1 := hsoft 1
      have d2 := hcell 2
      have z2 := hc1 2
      have s2 := hsoft 2
      have d3 := hcell 3
      have z3 := hc1 3
      have s3 := hsoft 3
      have d4 := hcell 4
      have z4 := hc1 4
      have s4 := hsoft 4
      have d5 := hcell 5
      have z5 := hc1 5
      have s5 := hsoft 5
      have d6 := hcell 6
      have z6 := hc1 6
      have s6 := hsoft 6
      simp only [List.getElem?_cons_zero, List.getElem?_cons_succ] at d0 z0 d1 z1 d2 z2 d3 z3 d4 z4 d5 z5 d6 z6
      clear hcell hc1 hsoft
      go_wp2_with fail
      refine bodyPost_ret (v := .tuple #[.agg #[.int .i64 2, .string ⟨vf.toArray⟩, .string ⟨#[]⟩, .string ⟨#[]⟩, .int .i64 0, .int .i64 0, .string ⟨#[]⟩], .string ⟨(r1).toArray⟩, .bool true]) (by simp [results, Try.results40, go_sem, z0, z1, z2, z3, z4, z5, z6]) rfl ?_
      exact ⟨⟨2, vf, [], [], [], 0, 0⟩, r1, by rw [hFN.out]; rfl, (fun y t e => by rw [hFN.out] at e; simp only [Option.some.injEq, Prod.mk.injEq] at e; exact e), (((((((hM7.out.bl).setCell (p := ⟨w.heap.size + 1, 0, none⟩) (Nat.le_succ _) _).setCell (p := ⟨w.heap.size + 1, 1, none⟩) (Nat.le_succ _) _).setCell (p := ⟨w.heap.size + 1, 2, none⟩) (Nat.le_succ _) _).setCell (p := ⟨w.heap.size + 1, 3, none⟩) (Nat.le_succ _) _).setCell (p := ⟨w.heap.size + 1, 4, none⟩) (Nat.le_succ _) _).setCell (p := ⟨w.heap.size + 1, 5, none⟩) (Nat.le_succ _) _).setCell (p := ⟨w.heap.size + 1, 6, none⟩) (Nat.le_succ _) _⟩
  by_cases e3 : kd = 3
  · subst e3
    have hr1 := fun W => rreadText_any l 131072 W (by omega)
    unfold RiPost at hr1
    cases h1 : readT21 l 131072 with
    | none =>
      rw [h1] at hr1
      simp only [valO, resO, Option.map_none, Option.getD_none, Option.isSome_none] at hr1
      replace hr1 := Lib.hid hr1
      have hFN := Lib.hid (show F = none by rw [← hF.out]; simp [fields21, h1])
      go_wp2_with fail
      refine (hr1.out _).mono ?_
      rintro e w11 ⟨rfl, bb⟩
      have m1 := Lib.hid (hM2.out.next bb)
      have p1 := m1.out.k0.cell 1
      have u1 := m1.out.k0.soft 1
      simp only [List.getElem?_cons_zero, List.getElem?_cons_succ] at p1
      clear bb hr1
      go_upto_region 27 with fail
      refine hide_world (K := fun a w' => Code.wp _ _ _ a w') (R := fun W => FM w [.int .i64 3, .string ⟨#[]⟩, .string ⟨#[]⟩, .string ⟨#[]⟩, .int .i64 0, .int .i64 0, .string ⟨#[]⟩] W) (m1.out.put 1 _) ?_
      intro W7 hM7
      have hcell := fun i => hM7.out.k0.cell i
      have hc1 := fun i => hM7.out.k1.cell i
      have hsoft := fun i => hM7.out.k1.soft i
      have d0 := hcell 0
      have z0 := hc1 0
      have s0 := hsoft 0
      have d1 := hcell 1
      have z1 := hc1 1
      have s1 := hsoft 1
      have d2 := hcell 2
      have z2 := hc1 2
      have s2 := hsoft 2
      have d3 := hcell 3
      have z3 := hc1 3
      have s3 := hsoft 3
      have d4 := hcell 4
      have z4 := hc1 4
      have s4 := hsoft 4
      have d5 := hcell 5
      have z5 := hc1 5
      have s5 := hsoft 5
      have d6 := hcell 6
      have z6 := hc1 6
      have s6 := hsoft 6
      simp only [List.getElem?_cons_zero, List.getElem?_cons_succ] at d0 z0 d1 z1 d2 z2 d3 z3 d4 z4 d5 z5 d6 z6
      clear hcell hc1 hsoft
      go_wp2_with fail
      refine bodyPost_ret (v := .tuple #[.agg #[.int .i64 3, .string ⟨#[]⟩, .string ⟨#[]⟩, .string ⟨#[]⟩, .int .i64 0, .int .i64 0, .string ⟨#[]⟩], .string ⟨(([] : List UInt8)).toArray⟩, .bool false]) (by simp [results, Try.results40, go_sem, z0, z1, z2, z3, z4, z5, z6]) rfl ?_
      exact ⟨⟨3, [], [], [], [], 0, 0⟩, ([] : List UInt8), by rw [hFN.out]; rfl, (fun y t e => by rw [hFN.out] at e; cases e), (((((((hM7.out.bl).setCell (p := ⟨w.heap.size + 1, 0, none⟩) (Nat.le_succ _) _).setCell (p := ⟨w.heap.size + 1, 1, none⟩) (Nat.le_succ _) _).setCell (p := ⟨w.heap.size + 1, 2, none⟩) (Nat.le_succ _) _).setCell (p := ⟨w.heap.size + 1, 3, none⟩) (Nat.le_succ _) _).setCell (p := ⟨w.heap.size + 1, 4, none⟩) (Nat.le_succ _) _).setCell (p := ⟨w.heap.size + 1, 5, none⟩) (Nat.le_succ _) _).setCell (p := ⟨w.heap.size + 1, 6, none⟩) (Nat.le_succ _) _⟩
    | some p1 =>
      obtain ⟨vf, r1⟩ := p1
      have hl1 : r1.length ≤ 1000000000 := by have := readT_len2 h1; omega
      rw [h1] at hr1
      simp only [valO, resO, Option.map_some, Option.getD_some, Option.isSome_some] at hr1
      replace hr1 := Lib.hid hr1
      go_wp2_with fail
      refine (hr1.out _).mono ?_
      rintro e w11 ⟨rfl, bb⟩
      have m1 := Lib.hid (hM2.out.next bb)
      have p1 := m1.out.k0.cell 1
      have u1 := m1.out.k0.soft 1
      simp only [List.getElem?_cons_zero, List.getElem?_cons_succ] at p1
      clear bb hr1
      go_upto_region 9 with fail
      refine hide_world (K := fun a w' => Code.wp _ _ _ a w') (R := fun W => FM w [.int .i64 3, .string ⟨vf.toArray⟩, .string ⟨#[]⟩, .string ⟨#[]⟩, .int .i64 0, .int .i64 0, .string ⟨#[]⟩] W) (m1.out.put 1 _) ?_
      intro V1 hV1
      clear m1 p1 u1
      have hr2 := fun W => rreadText_any r1 131072 W (by omega)
      unfold RiPost at hr2
      cases h2 : readT21 r1 131072 with
      | none =>
        rw [h2] at hr2
        simp only [valO, resO, Option.map_none, Option.getD_none, Option.isSome_none] at hr2
        replace hr2 := Lib.hid hr2
        have hFN := Lib.hid (show F = none by rw [← hF.out]; simp [fields21, h1, h2])
        go_wp2_with fail
        refine (hr2.out _).mono ?_
        rintro e w12 ⟨rfl, bb⟩
        have m2 := Lib.hid (hV1.out.next bb)
        have p2 := m2.out.k0.cell 3
        have u2 := m2.out.k0.soft 3
        simp only [List.getElem?_cons_zero, List.getElem?_cons_succ] at p2
        clear bb hr2
        go_upto_region 27 with fail
        refine hide_world (K := fun a w' => Code.wp _ _ _ a w') (R := fun W => FM w [.int .i64 3, .string ⟨vf.toArray⟩, .string ⟨#[]⟩, .string ⟨#[]⟩, .int .i64 0, .int .i64 0, .string ⟨#[]⟩] W) (m2.out.put 3 _) ?_
        intro W7 hM7
        have hcell := fun i => hM7.out.k0.cell i
        have hc1 := fun i => hM7.out.k1.cell i
        have hsoft := fun i => hM7.out.k1.soft i
        have d0 := hcell 0
        have z0 := hc1 0
        have s0 := hsoft 0
        have d1 := hcell 1
        have z1 := hc1 1
        have s1 := hsoft 1
        have d2 := hcell 2
        have z2 := hc1 2
        have s2 := hsoft 2
        have d3 := hcell 3
        have z3 := hc1 3
        have s3 := hsoft 3
        have d4 := hcell 4
        have z4 := hc1 4
        have s4 := hsoft 4
        have d5 := hcell 5
        have z5 := hc1 5
        have s5 := hsoft 5
        have d6 := hcell 6
        have z6 := hc1 6
        have s6 := hsoft 6
        simp only [List.getElem?_cons_zero, List.getElem?_cons_succ] at d0 z0 d1 z1 d2 z2 d3 z3 d4 z4 d5 z5 d6 z6
        clear hcell hc1 hsoft
        go_wp2_with fail
        refine bodyPost_ret (v := .tuple #[.agg #[.int .i64 3, .string ⟨vf.toArray⟩, .string ⟨#[]⟩, .string ⟨#[]⟩, .int .i64 0, .int .i64 0, .string ⟨#[]⟩], .string ⟨(([] : List UInt8)).toArray⟩, .bool false]) (by simp [results, Try.results40, go_sem, z0, z1, z2, z3, z4, z5, z6]) rfl ?_
        exact ⟨⟨3, vf, [], [], [], 0, 0⟩, ([] : List UInt8), by rw [hFN.out]; rfl, (fun y t e => by rw [hFN.out] at e; cases e), (((((((hM7.out.bl).setCell (p := ⟨w.heap.size + 1, 0, none⟩) (Nat.le_succ _) _).setCell (p := ⟨w.heap.size + 1, 1, none⟩) (Nat.le_succ _) _).setCell (p := ⟨w.heap.size + 1, 2, none⟩) (Nat.le_succ _) _).setCell (p := ⟨w.heap.size + 1, 3, none⟩) (Nat.le_succ _) _).setCell (p := ⟨w.heap.size + 1, 4, none⟩) (Nat.le_succ _) _).setCell (p := ⟨w.heap.size + 1, 5, none⟩) (Nat.le_succ _) _).setCell (p := ⟨w.heap.size + 1, 6, none⟩) (Nat.le_succ _) _⟩
      | some p2 =>
        obtain ⟨vd, r2⟩ := p2
        have hl2 : r2.length ≤ 1000000000 := by have := readT_len2 h2; omega
        rw [h2] at hr2
        simp only [valO, resO, Option.map_some, Option.getD_some, Option.isSome_some] at hr2
        replace hr2 := Lib.hid hr2
        go_wp2_with fail
        refine (hr2.out _).mono ?_
        rintro e w12 ⟨rfl, bb⟩
        have m2 := Lib.hid (hV1.out.next bb)
        have p2 := m2.out.k0.cell 3
        have u2 := m2.out.k0.soft 3
        simp only [List.getElem?_cons_zero, List.getElem?_cons_succ] at p2
        clear bb hr2
        have hFN := Lib.hid (show F = some (⟨3, vf, [], vd, [], 0, 0⟩, r2) by rw [← hF.out]; simp [fields21, cm0, h1, h2])
        go_upto_region 27 with fail
        refine hide_world (K := fun a w' => Code.wp _ _ _ a w') (R := fun W => FM w [.int .i64 3, .string ⟨vf.toArray⟩, .string ⟨#[]⟩, .string ⟨vd.toArray⟩, .int .i64 0, .int .i64 0, .string ⟨#[]⟩] W) (m2.out.put 3 _) ?_
        intro W7 hM7
        have hcell := fun i => hM7.out.k0.cell i
        have hc1 := fun i => hM7.out.k1.cell i
        have hsoft := fun i => hM7.out.k1.soft i
        have d0 := hcell 0
        have z0 := hc1 0
        have s0 := hsoft 0
        have d1 := hcell 1
        have z1 := hc1 1
        have s1 := hsoft 1
        have d2 := hcell 2
        have z2 := hc1 2
        have s2 := hsoft 2
        have d3 := hcell 3
        have z3 := hc1 3
        have s3 := hsoft 3
        have d4 := hcell 4
        have z4 := hc1 4
        have s4 := hsoft 4
        have d5 := hcell 5
        have z5 := hc1 5
        have s5 := hsoft 5
        have d6 := hcell 6
        have z6 := hc1 6
        have s6 := hsoft 6
        simp only [List.getElem?_cons_zero, List.getElem?_cons_succ] at d0 z0 d1 z1 d2 z2 d3 z3 d4 z4 d5 z5 d6 z6
        clear hcell hc1 hsoft
        go_wp2_with fail
        refine bodyPost_ret (v := .tuple #[.agg #[.int .i64 3, .string ⟨vf.toArray⟩, .string ⟨#[]⟩, .string ⟨vd.toArray⟩, .int .i64 0, .int .i64 0, .string ⟨#[]⟩], .string ⟨(r2).toArray⟩, .bool true]) (by simp [results, Try.results40, go_sem, z0, z1, z2, z3, z4, z5, z6]) rfl ?_
        exact ⟨⟨3, vf, [], vd, [], 0, 0⟩, r2, by rw [hFN.out]; rfl, (fun y t e => by rw [hFN.out] at e; simp only [Option.some.injEq, Prod.mk.injEq] at e; exact e), (((((((hM7.out.bl).setCell (p := ⟨w.heap.size + 1, 0, none⟩) (Nat.le_succ _) _).setCell (p := ⟨w.heap.size + 1, 1, none⟩) (Nat.le_succ _) _).setCell (p := ⟨w.heap.size + 1, 2, none⟩) (Nat.le_succ _) _).setCell (p := ⟨w.heap.size + 1, 3, none⟩) (Nat.le_succ _) _).setCell (p := ⟨w.heap.size + 1, 4, none⟩) (Nat.le_succ _) _).setCell (p := ⟨w.heap.size + 1, 5, none⟩) (Nat.le_succ _) _).setCell (p := ⟨w.heap.size + 1, 6, none⟩) (Nat.le_succ _) _⟩
  by_cases e4 : kd = 4
  · subst e4
    have hr1 := fun W => rreadInt_any l W (by omega)
    unfold RiPost at hr1
    cases h1 : readI21 l with
    | none =>
      rw [h1] at hr1
      simp only [valO, resO, Option.map_none, Option.getD_none, Option.isSome_none] at hr1
      replace hr1 := Lib.hid hr1
      have hFN := Lib.hid (show F = none by rw [← hF.out]; simp [fields21, h1])
      go_wp2_with fail
      refine (hr1.out _).mono ?_
      rintro e w11 ⟨rfl, bb⟩
      have m1 := Lib.hid (hM2.out.next bb)
      have p1 := m1.out.k0.cell 4
      have u1 := m1.out.k0.soft 4
      simp only [List.getElem?_cons_zero, List.getElem?_cons_succ] at p1
      clear bb hr1
      go_upto_region 27 with fail
      refine hide_world (K := fun a w' => Code.wp _ _ _ a w') (R := fun W => FM w [.int .i64 4, .string ⟨#[]⟩, .string ⟨#[]⟩, .string ⟨#[]⟩, .int .i64 0, .int .i64 0, .string ⟨#[]⟩] W) (m1.out.put 4 _) ?_
      intro W7 hM7
      have hcell := fun i => hM7.out.k0.cell i
      have hc1 := fun i => hM7.out.k1.cell i
      have hsoft := fun i => hM7.out.k1.soft i
      have d0 := hcell 0
      have z0 := hc1 0
      have s0 := hsoft 0
      have d1 := hcell 1
      have z1 := hc1 1
      have s1 := hsoft 1
      have d2 := hcell 2
      have z2 := hc1 2
      have s2 := hsoft 2
      have d3 := hcell 3
      have z3 := hc1 3
      have s3 := hsoft 3
      have d4 := hcell 4
      have z4 := hc1 4
      have s4 := hsoft 4
      have d5 := hcell 5
      have z5 := hc1 5
      have s5 := hsoft 5
      have d6 := hcell 6
      have z6 := hc1 6
      have s6 := hsoft 6
      simp only [List.getElem?_cons_zero, List.getElem?_cons_succ] at d0 z0 d1 z1 d2 z2 d3 z3 d4 z4 d5 z5 d6 z6
      clear hcell hc1 hsoft
      go_wp2_with fail
      refine bodyPost_ret (v := .tuple #[.agg #[.int .i64 4, .string ⟨#[]⟩, .string ⟨#[]⟩, .string ⟨#[]⟩, .int .i64 0, .int .i64 0, .string ⟨#[]⟩], .string ⟨(([] : List UInt8)).toArray⟩, .bool false]) (by simp [results, Try.results40, go_sem, z0, z1, z2, z3, z4, z5, z6]) rfl ?_
      exact ⟨⟨4, [], [], [], [], 0, 0⟩, ([] : List UInt8), by rw [hFN.out]; rfl, (fun y t e => by rw [hFN.out] at e; cases e), (((((((hM7.out.bl).setCell (p := ⟨w.heap.size + 1, 0, none⟩) (Nat.le_succ _) _).setCell (p := ⟨w.heap.size + 1, 1, none⟩) (Nat.le_succ _) _).setCell (p := ⟨w.heap.size + 1, 2, none⟩) (Nat.le_succ _) _).setCell (p := ⟨w.heap.size + 1, 3, none⟩) (Nat.le_succ _) _).setCell (p := ⟨w.heap.size + 1, 4, none⟩) (Nat.le_succ _) _).setCell (p := ⟨w.heap.size + 1, 5, none⟩) (Nat.le_succ _) _).setCell (p := ⟨w.heap.size + 1, 6, none⟩) (Nat.le_succ _) _⟩
    | some p1 =>
      obtain ⟨vn, r1⟩ := p1
      have hl1 : r1.length ≤ 1000000000 := by have := readI_len2 h1; omega
      rw [h1] at hr1
      simp only [valO, resO, Option.map_some, Option.getD_some, Option.isSome_some] at hr1
      replace hr1 := Lib.hid hr1
      go_wp2_with fail
      refine (hr1.out _).mono ?_
      rintro e w11 ⟨rfl, bb⟩
      have m1 := Lib.hid (hM2.out.next bb)
      have p1 := m1.out.k0.cell 4
      have u1 := m1.out.k0.soft 4
      simp only [List.getElem?_cons_zero, List.getElem?_cons_succ] at p1
      clear bb hr1
      have hFN := Lib.hid (show F = some (⟨4, [], [], [], [], vn, 0⟩, r1) by rw [← hF.out]; simp [fields21, cm0, h1])
      go_upto_region 27 with fail
      refine hide_world (K := fun a w' => Code.wp _ _ _ a w') (R := fun W => FM w [.int .i64 4, .string ⟨#[]⟩, .string ⟨#[]⟩, .string ⟨#[]⟩, .int .i64 vn, .int .i64 0, .string ⟨#[]⟩] W) (m1.out.put 4 _) ?_
      intro W7 hM7
      have hcell := fun i => hM7.out.k0.cell i
      have hc1 := fun i => hM7.out.k1.cell i
      have hsoft := fun i => hM7.out.k1.soft i
      have d0 := hcell 0
      have z0 := hc1 0
      have s0 := hsoft 0
      have d1 := hcell 1
      have z1 := hc1 1
      have s1 := hsoft 1
      have d2 := hcell 2
      have z2 := hc1 2
      have s2 := hsoft 2
      have d3 := hcell 3
      have z3 := hc1 3
      have s3 := hsoft 3
      have d4 := hcell 4
      have z4 := hc1 4
      have s4 := hsoft 4
      have d5 := hcell 5
      have z5 := hc1 5
      have s5 := hsoft 5
      have d6 := hcell 6
      have z6 := hc1 6
      have s6 := hsoft 6
      simp only [List.getElem?_cons_zero, List.getElem?_cons_succ] at d0 z0 d1 z1 d2 z2 d3 z3 d4 z4 d5 z5 d6 z6
      clear hcell hc1 hsoft
      go_wp2_with fail
      refine bodyPost_ret (v := .tuple #[.agg #[.int .i64 4, .string ⟨#[]⟩, .string ⟨#[]⟩, .string ⟨#[]⟩, .int .i64 vn, .int .i64 0, .string ⟨#[]⟩], .string ⟨(r1).toArray⟩, .bool true]) (by simp [results, Try.results40, go_sem, z0, z1, z2, z3, z4, z5, z6]) rfl ?_
      exact ⟨⟨4, [], [], [], [], vn, 0⟩, r1, by rw [hFN.out]; rfl, (fun y t e => by rw [hFN.out] at e; simp only [Option.some.injEq, Prod.mk.injEq] at e; exact e), (((((((hM7.out.bl).setCell (p := ⟨w.heap.size + 1, 0, none⟩) (Nat.le_succ _) _).setCell (p := ⟨w.heap.size + 1, 1, none⟩) (Nat.le_succ _) _).setCell (p := ⟨w.heap.size + 1, 2, none⟩) (Nat.le_succ _) _).setCell (p := ⟨w.heap.size + 1, 3, none⟩) (Nat.le_succ _) _).setCell (p := ⟨w.heap.size + 1, 4, none⟩) (Nat.le_succ _) _).setCell (p := ⟨w.heap.size + 1, 5, none⟩) (Nat.le_succ _) _).setCell (p := ⟨w.heap.size + 1, 6, none⟩) (Nat.le_succ _) _⟩
  by_cases e5 : kd = 5
  · subst e5
    have hr1 := fun W => rreadText_any l 131072 W (by omega)
    unfold RiPost at hr1
    cases h1 : readT21 l 131072 with
    | none =>
      rw [h1] at hr1
      simp only [valO, resO, Option.map_none, Option.getD_none, Option.isSome_none] at hr1
      replace hr1 := Lib.hid hr1
      have hFN := Lib.hid (show F = none by rw [← hF.out]; simp [fields21, h1])
      go_wp2_with fail
      refine (hr1.out _).mono ?_
      rintro e w11 ⟨rfl, bb⟩
      have m1 := Lib.hid (hM2.out.next bb)
      have p1 := m1.out.k0.cell 1
      have u1 := m1.out.k0.soft 1
      simp only [List.getElem?_cons_zero, List.getElem?_cons_succ] at p1
      clear bb hr1
      go_upto_region 27 with fail
      refine hide_world (K := fun a w' => Code.wp _ _ _ a w') (R := fun W => FM w [.int .i64 5, .string ⟨#[]⟩, .string ⟨#[]⟩, .string ⟨#[]⟩, .int .i64 0, .int .i64 0, .string ⟨#[]⟩] W) (m1.out.put 1 _) ?_
      intro W7 hM7
      have hcell := fun i => hM7.out.k0.cell i
      have hc1 := fun i => hM7.out.k1.cell i
      have hsoft := fun i => hM7.out.k1.soft i
      have d0 := hcell 0
      have z0 := hc1 0
      have s0 := hsoft 0
      have d1 := hcell 1
      have z1 := hc1 1
      have s1 := hsoft 1
      have d2 := hcell 2
      have z2 := hc1 2
      have s2 := hsoft 2
      have d3 := hcell 3
      have z3 := hc1 3
      have s3 := hsoft 3
      have d4 := hcell 4
      have z4 := hc1 4
      have s4 := hsoft 4
      have d5 := hcell 5
      have z5 := hc1 5
      have s5 := hsoft 5
      have d6 := hcell 6
      have z6 := hc1 6
      have s6 := hsoft 6
      simp only [List.getElem?_cons_zero, List.getElem?_cons_succ] at d0 z0 d1 z1 d2 z2 d3 z3 d4 z4 d5 z5 d6 z6
      clear hcell hc1 hsoft
      go_wp2_with fail
      refine bodyPost_ret (v := .tuple #[.agg #[.int .i64 5, .string ⟨#[]⟩, .string ⟨#[]⟩, .string ⟨#[]⟩, .int .i64 0, .int .i64 0, .string ⟨#[]⟩], .string ⟨(([] : List UInt8)).toArray⟩, .bool false]) (by simp [results, Try.results40, go_sem, z0, z1, z2, z3, z4, z5, z6]) rfl ?_
      exact ⟨⟨5, [], [], [], [], 0, 0⟩, ([] : List UInt8), by rw [hFN.out]; rfl, (fun y t e => by rw [hFN.out] at e; cases e), (((((((hM7.out.bl).setCell (p := ⟨w.heap.size + 1, 0, none⟩) (Nat.le_succ _) _).setCell (p := ⟨w.heap.size + 1, 1, none⟩) (Nat.le_succ _) _).setCell (p := ⟨w.heap.size + 1, 2, none⟩) (Nat.le_succ _) _).setCell (p := ⟨w.heap.size + 1, 3, none⟩) (Nat.le_succ _) _).setCell (p := ⟨w.heap.size + 1, 4, none⟩) (Nat.le_succ _) _).setCell (p := ⟨w.heap.size + 1, 5, none⟩) (Nat.le_succ _) _).setCell (p := ⟨w.heap.size + 1, 6, none⟩) (Nat.le_succ _) _⟩
    | some p1 =>
      obtain ⟨vf, r1⟩ := p1
      have hl1 : r1.length ≤ 1000000000 := by have := readT_len2 h1; omega
      rw [h1] at hr1
      simp only [valO, resO, Option.map_some, Option.getD_some, Option.isSome_some] at hr1
      replace hr1 := Lib.hid hr1
      go_wp2_with fail
      refine (hr1.out _).mono ?_
      rintro e w11 ⟨rfl, bb⟩
      have m1 := Lib.hid (hM2.out.next bb)
      have p1 := m1.out.k0.cell 1
      have u1 := m1.out.k0.soft 1
      simp only [List.getElem?_cons_zero, List.getElem?_cons_succ] at p1
      clear bb hr1
      go_upto_region 17 with fail
      refine hide_world (K := fun a w' => Code.wp _ _ _ a w') (R := fun W => FM w [.int .i64 5, .string ⟨vf.toArray⟩, .string ⟨#[]⟩, .string ⟨#[]⟩, .int .i64 0, .int .i64 0, .string ⟨#[]⟩] W) (m1.out.put 1 _) ?_
      intro V1 hV1
      clear m1 p1 u1
      have hr2 := fun W => rreadText_any r1 131072 W (by omega)
      unfold RiPost at hr2
      cases h2 : readT21 r1 131072 with
      | none =>
        rw [h2] at hr2
        simp only [valO, resO, Option.map_none, Option.getD_none, Option.isSome_none] at hr2
        replace hr2 := Lib.hid hr2
        have hFN := Lib.hid (show F = none by rw [← hF.out]; simp [fields21, h1, h2])
        go_wp2_with fail
        refine (hr2.out _).mono ?_
        rintro e w12 ⟨rfl, bb⟩
        have m2 := Lib.hid (hV1.out.next bb)
        have p2 := m2.out.k0.cell 2
        have u2 := m2.out.k0.soft 2
        simp only [List.getElem?_cons_zero, List.getElem?_cons_succ] at p2
        clear bb hr2
        go_upto_region 27 with fail
        refine hide_world (K := fun a w' => Code.wp _ _ _ a w') (R := fun W => FM w [.int .i64 5, .string ⟨vf.toArray⟩, .string ⟨#[]⟩, .string ⟨#[]⟩, .int .i64 0, .int .i64 0, .string ⟨#[]⟩] W) (m2.out.put 2 _) ?_
        intro W7 hM7
        have hcell := fun i => hM7.out.k0.cell i
        have hc1 := fun i => hM7.out.k1.cell i
        have hsoft := fun i => hM7.out.k1.soft i
        have d0 := hcell 0
        have z0 := hc1 0
        have s0 := hsoft 0
        have d1 := hcell 1
        have z1 := hc1 1
        have s1 := hsoft 1
        have d2 := hcell 2
        have z2 := hc1 2
        have s2 := hsoft 2
        have d3 := hcell 3
        have z3 := hc1 3
        have s3 := hsoft 3
        have d4 := hcell 4
        have z4 := hc1 4
        have s4 := hsoft 4
        have d5 := hcell 5
        have z5 := hc1 5
        have s5 := hsoft 5
        have d6 := hcell 6
        have z6 := hc1 6
        have s6 := hsoft 6
        simp only [List.getElem?_cons_zero, List.getElem?_cons_succ] at d0 z0 d1 z1 d2 z2 d3 z3 d4 z4 d5 z5 d6 z6
        clear hcell hc1 hsoft
        go_wp2_with fail
        refine bodyPost_ret (v := .tuple #[.agg #[.int .i64 5, .string ⟨vf.toArray⟩, .string ⟨#[]⟩, .string ⟨#[]⟩, .int .i64 0, .int .i64 0, .string ⟨#[]⟩], .string ⟨(([] : List UInt8)).toArray⟩, .bool false]) (by simp [results, Try.results40, go_sem, z0, z1, z2, z3, z4, z5, z6]) rfl ?_
        exact ⟨⟨5, vf, [], [], [], 0, 0⟩, ([] : List UInt8), by rw [hFN.out]; rfl, (fun y t e => by rw [hFN.out] at e; cases e), (((((((hM7.out.bl).setCell (p := ⟨w.heap.size + 1, 0, none⟩) (Nat.le_succ _) _).setCell (p := ⟨w.heap.size + 1, 1, none⟩) (Nat.le_succ _) _).setCell (p := ⟨w.heap.size + 1, 2, none⟩) (Nat.le_succ _) _).setCell (p := ⟨w.heap.size + 1, 3, none⟩) (Nat.le_succ _) _).setCell (p := ⟨w.heap.size + 1, 4, none⟩) (Nat.le_succ _) _).setCell (p := ⟨w.heap.size + 1, 5, none⟩) (Nat.le_succ _) _).setCell (p := ⟨w.heap.size + 1, 6, none⟩) (Nat.le_succ _) _⟩
      | some p2 =>
        obtain ⟨vg, r2⟩ := p2
        have hl2 : r2.length ≤ 1000000000 := by have := readT_len2 h2; omega
        rw [h2] at hr2
        simp only [valO, resO, Option.map_some, Option.getD_some, Option.isSome_some] at hr2
        replace hr2 := Lib.hid hr2
        go_wp2_with fail
        refine (hr2.out _).mono ?_
        rintro e w12 ⟨rfl, bb⟩
        have m2 := Lib.hid (hV1.out.next bb)
        have p2 := m2.out.k0.cell 2
        have u2 := m2.out.k0.soft 2
        simp only [List.getElem?_cons_zero, List.getElem?_cons_succ] at p2
        clear bb hr2
        have hFN := Lib.hid (show F = some (⟨5, vf, vg, [], [], 0, 0⟩, r2) by rw [← hF.out]; simp [fields21, cm0, h1, h2])
        go_upto_region 27 with fail
        refine hide_world (K := fun a w' => Code.wp _ _ _ a w') (R := fun W => FM w [.int .i64 5, .string ⟨vf.toArray⟩, .string ⟨vg.toArray⟩, .string ⟨#[]⟩, .int .i64 0, .int .i64 0, .string ⟨#[]⟩] W) (m2.out.put 2 _) ?_
        intro W7 hM7
        have hcell := fun i => hM7.out.k0.cell i
        have hc1 := fun i => hM7.out.k1.cell i
        have hsoft := fun i => hM7.out.k1.soft i
        have d0 := hcell 0
        have z0 := hc1 0
        have s0 := hsoft 0
        have d1 := hcell 1
        have z1 := hc1 1
        have s1 := hsoft 1
        have d2 := hcell 2
        have z2 := hc1 2
        have s2 := hsoft 2
        have d3 := hcell 3
        have z3 := hc1 3
        have s3 := hsoft 3
        have d4 := hcell 4
        have z4 := hc1 4
        have s4 := hsoft 4
        have d5 := hcell 5
        have z5 := hc1 5
        have s5 := hsoft 5
        have d6 := hcell 6
        have z6 := hc1 6
        have s6 := hsoft 6
        simp only [List.getElem?_cons_zero, List.getElem?_cons_succ] at d0 z0 d1 z1 d2 z2 d3 z3 d4 z4 d5 z5 d6 z6
        clear hcell hc1 hsoft
        go_wp2_with fail
        refine bodyPost_ret (v := .tuple #[.agg #[.int .i64 5, .string ⟨vf.toArray⟩, .string ⟨vg.toArray⟩, .string ⟨#[]⟩, .int .i64 0, .int .i64 0, .string ⟨#[]⟩], .string ⟨(r2).toArray⟩, .bool true]) (by simp [results, Try.results40, go_sem, z0, z1, z2, z3, z4, z5, z6]) rfl ?_
        exact ⟨⟨5, vf, vg, [], [], 0, 0⟩, r2, by rw [hFN.out]; rfl, (fun y t e => by rw [hFN.out] at e; simp only [Option.some.injEq, Prod.mk.injEq] at e; exact e), (((((((hM7.out.bl).setCell (p := ⟨w.heap.size + 1, 0, none⟩) (Nat.le_succ _) _).setCell (p := ⟨w.heap.size + 1, 1, none⟩) (Nat.le_succ _) _).setCell (p := ⟨w.heap.size + 1, 2, none⟩) (Nat.le_succ _) _).setCell (p := ⟨w.heap.size + 1, 3, none⟩) (Nat.le_succ _) _).setCell (p := ⟨w.heap.size + 1, 4, none⟩) (Nat.le_succ _) _).setCell (p := ⟨w.heap.size + 1, 5, none⟩) (Nat.le_succ _) _).setCell (p := ⟨w.heap.size + 1, 6, none⟩) (Nat.le_succ _) _⟩
  by_cases e6 : kd = 6
  · subst e6
    have hr1 := fun W => rreadText_any l 131072 W (by omega)
    unfold RiPost at hr1
    cases h1 : readT21 l 131072 with
    | none =>
      rw [h1] at hr1
      simp only [valO, resO, Option.map_none, Option.getD_none, Option.isSome_none] at hr1
      replace hr1 := Lib.hid hr1
      have hFN := Lib.hid (show F = none by rw [← hF.out]; simp [fields21, h1])
      go_wp2_with fail
      refine (hr1.out _).mono ?_
      rintro e w11 ⟨rfl, bb⟩
      have m1 := Lib.hid (hM2.out.next bb)
      have p1 := m1.out.k0.cell 1
      have u1 := m1.out.k0.soft 1
      simp only [List.getElem?_cons_zero, List.getElem?_cons_succ] at p1
      clear bb hr1
      go_upto_region 27 with fail
      refine hide_world (K := fun a w' => Code.wp _ _ _ a w') (R := fun W => FM w [.int .i64 6, .string ⟨#[]⟩, .string ⟨#[]⟩, .string ⟨#[]⟩, .int .i64 0, .int .i64 0, .string ⟨#[]⟩] W) (m1.out.put 1 _) ?_
      intro W7 hM7
      have hcell := fun i => hM7.out.k0.cell i
      have hc1 := fun i => hM7.out.k1.cell i
      have hsoft := fun i => hM7.out.k1.soft i
      have d0 := hcell 0
      have z0 := hc1 0
      have s0 := hsoft 0
      have d1 := hcell 1
      have z1 := hc1 1
      have s1 := hsoft 1
      have d2 := hcell 2
      have z2 := hc1 2
      have s2 := hsoft 2
      have d3 := hcell 3
      have z3 := hc1 3
      have s3 := hsoft 3
      have d4 := hcell 4
      have z4 := hc1 4
      have s4 := hsoft 4
      have d5 := hcell 5
      have z5 := hc1 5
      have s5 := hsoft 5
      have d6 := hcell 6
      have z6 := hc1 6
      have s6 := hsoft 6
      simp only [List.getElem?_cons_zero, List.getElem?_cons_succ] at d0 z0 d1 z1 d2 z2 d3 z3 d4 z4 d5 z5 d6 z6
      clear hcell hc1 hsoft
      go_wp2_with fail
      refine bodyPost_ret (v := .tuple #[.agg #[.int .i64 6, .string ⟨#[]⟩, .string ⟨#[]⟩, .string ⟨#[]⟩, .int .i64 0, .int .i64 0, .string ⟨#[]⟩], .string ⟨(([] : List UInt8)).toArray⟩, .bool false]) (by simp [results, Try.results40, go_sem, z0, z1, z2, z3, z4, z5, z6]) rfl ?_
      exact ⟨⟨6, [], [], [], [], 0, 0⟩, ([] : List UInt8), by rw [hFN.out]; rfl, (fun y t e => by rw [hFN.out] at e; cases e), (((((((hM7.out.bl).setCell (p := ⟨w.heap.size + 1, 0, none⟩) (Nat.le_succ _) _).setCell (p := ⟨w.heap.size + 1, 1, none⟩) (Nat.le_succ _) _).setCell (p := ⟨w.heap.size + 1, 2, none⟩) (Nat.le_succ _) _).setCell (p := ⟨w.heap.size + 1, 3, none⟩) (Nat.le_succ _) _).setCell (p := ⟨w.heap.size + 1, 4, none⟩) (Nat.le_succ _) _).setCell (p := ⟨w.heap.size + 1, 5, none⟩) (Nat.le_succ _) _).setCell (p := ⟨w.heap.size + 1, 6, none⟩) (Nat.le_succ _) _⟩
    | some p1 =>
      obtain ⟨vf, r1⟩ := p1
      have hl1 : r1.length ≤ 1000000000 := by have := readT_len2 h1; omega
      rw [h1] at hr1
      simp only [valO, resO, Option.map_some, Option.getD_some, Option.isSome_some] at hr1
      replace hr1 := Lib.hid hr1
      go_wp2_with fail
      refine (hr1.out _).mono ?_
      rintro e w11 ⟨rfl, bb⟩
      have m1 := Lib.hid (hM2.out.next bb)
      have p1 := m1.out.k0.cell 1
      have u1 := m1.out.k0.soft 1
      simp only [List.getElem?_cons_zero, List.getElem?_cons_succ] at p1
      clear bb hr1
      go_upto_region 17 with fail
      refine hide_world (K := fun a w' => Code.wp _ _ _ a w') (R := fun W => FM w [.int .i64 6, .string ⟨vf.toArray⟩, .string ⟨#[]⟩, .string ⟨#[]⟩, .int .i64 0, .int .i64 0, .string ⟨#[]⟩] W) (m1.out.put 1 _) ?_
      intro V1 hV1
      clear m1 p1 u1
      have hr2 := fun W => rreadText_any r1 131072 W (by omega)
      unfold RiPost at hr2
      cases h2 : readT21 r1 131072 with
      | none =>
        rw [h2] at hr2
        simp only [valO, resO, Option.map_none, Option.getD_none, Option.isSome_none] at hr2
        replace hr2 := Lib.hid hr2
        have hFN := Lib.hid (show F = none by rw [← hF.out]; simp [fields21, h1, h2])
        go_wp2_with fail
        refine (hr2.out _).mono ?_
        rintro e w12 ⟨rfl, bb⟩
        have m2 := Lib.hid (hV1.out.next bb)
        have p2 := m2.out.k0.cell 2
        have u2 := m2.out.k0.soft 2
        simp only [List.getElem?_cons_zero, List.getElem?_cons_succ] at p2
        clear bb hr2
        go_upto_region 27 with fail
        refine hide_world (K := fun a w' => Code.wp _ _ _ a w') (R := fun W => FM w [.int .i64 6, .string ⟨vf.toArray⟩, .string ⟨#[]⟩, .string ⟨#[]⟩, .int .i64 0, .int .i64 0, .string ⟨#[]⟩] W) (m2.out.put 2 _) ?_
        intro W7 hM7
        have hcell := fun i => hM7.out.k0.cell i
        have hc1 := fun i => hM7.out.k1.cell i
        have hsoft := fun i => hM7.out.k1.soft i
        have d0 := hcell 0
        have z0 := hc1 0
        have s0 := hsoft 0
        have d1 := hcell 1
        have z1 := hc1 1
        have s1 := hsoft 1
        have d2 := hcell 2
        have z2 := hc1 2
        have s2 := hsoft 2
        have d3 := hcell 3
        have z3 := hc1 3
        have s3 := hsoft 3
        have d4 := hcell 4
        have z4 := hc1 4
        have s4 := hsoft 4
        have d5 := hcell 5
        have z5 := hc1 5
        have s5 := hsoft 5
        have d6 := hcell 6
        have z6 := hc1 6
        have s6 := hsoft 6
        simp only [List.getElem?_cons_zero, List.getElem?_cons_succ] at d0 z0 d1 z1 d2 z2 d3 z3 d4 z4 d5 z5 d6 z6
        clear hcell hc1 hsoft
        go_wp2_with fail
        refine bodyPost_ret (v := .tuple #[.agg #[.int .i64 6, .string ⟨vf.toArray⟩, .string ⟨#[]⟩, .string ⟨#[]⟩, .int .i64 0, .int .i64 0, .string ⟨#[]⟩], .string ⟨(([] : List UInt8)).toArray⟩, .bool false]) (by simp [results, Try.results40, go_sem, z0, z1, z2, z3, z4, z5, z6]) rfl ?_
        exact ⟨⟨6, vf, [], [], [], 0, 0⟩, ([] : List UInt8), by rw [hFN.out]; rfl, (fun y t e => by rw [hFN.out] at e; cases e), (((((((hM7.out.bl).setCell (p := ⟨w.heap.size + 1, 0, none⟩) (Nat.le_succ _) _).setCell (p := ⟨w.heap.size + 1, 1, none⟩) (Nat.le_succ _) _).setCell (p := ⟨w.heap.size + 1, 2, none⟩) (Nat.le_succ _) _).setCell (p := ⟨w.heap.size + 1, 3, none⟩) (Nat.le_succ _) _).setCell (p := ⟨w.heap.size + 1, 4, none⟩) (Nat.le_succ _) _).setCell (p := ⟨w.heap.size + 1, 5, none⟩) (Nat.le_succ _) _).setCell (p := ⟨w.heap.size + 1, 6, none⟩) (Nat.le_succ _) _⟩
      | some p2 =>
        obtain ⟨vg, r2⟩ := p2
        have hl2 : r2.length ≤ 1000000000 := by have := readT_len2 h2; omega
        rw [h2] at hr2
        simp only [valO, resO, Option.map_some, Option.getD_some, Option.isSome_some] at hr2
        replace hr2 := Lib.hid hr2
        go_wp2_with fail
        refine (hr2.out _).mono ?_
        rintro e w12 ⟨rfl, bb⟩
        have m2 := Lib.hid (hV1.out.next bb)
        have p2 := m2.out.k0.cell 2
        have u2 := m2.out.k0.soft 2
        simp only [List.getElem?_cons_zero, List.getElem?_cons_succ] at p2
        clear bb hr2
        have hFN := Lib.hid (show F = some (⟨6, vf, vg, [], [], 0, 0⟩, r2) by rw [← hF.out]; simp [fields21, cm0, h1, h2])
        go_upto_region 27 with fail
        refine hide_world (K := fun a w' => Code.wp _ _ _ a w') (R := fun W => FM w [.int .i64 6, .string ⟨vf.toArray⟩, .string ⟨vg.toArray⟩, .string ⟨#[]⟩, .int .i64 0, .int .i64 0, .string ⟨#[]⟩] W) (m2.out.put 2 _) ?_
        intro W7 hM7
        have hcell := fun i => hM7.out.k0.cell i
        have hc1 := fun i => hM7.out.k1.cell i
        have hsoft := fun i => hM7.out.k1.soft i
        have d0 := hcell 0
        have z0 := hc1 0
        have s0 := hsoft 0
        have d1 := hcell 1
        have z1 := hc1 1
        have s1 := hsoft 1
        have d2 := hcell 2
        have z2 := hc1 2
        have s2 := hsoft 2
        have d3 := hcell 3
        have z3 := hc1 3
        have s3 := hsoft 3
        have d4 := hcell 4
        have z4 := hc1 4
        have s4 := hsoft 4
        have d5 := hcell 5
        have z5 := hc1 5
        have s5 := hsoft 5
        have d6 := hcell 6
        have z6 := hc1 6
        have s6 := hsoft 6
        simp only [List.getElem?_cons_zero, List.getElem?_cons_succ] at d0 z0 d1 z1 d2 z2 d3 z3 d4 z4 d5 z5 d6 z6
        clear hcell hc1 hsoft
        go_wp2_with fail
        refine bodyPost_ret (v := .tuple #[.agg #[.int .i64 6, .string ⟨vf.toArray⟩, .string ⟨vg.toArray⟩, .string ⟨#[]⟩, .int .i64 0, .int .i64 0, .string ⟨#[]⟩], .string ⟨(r2).toArray⟩, .bool true]) (by simp [results, Try.results40, go_sem, z0, z1, z2, z3, z4, z5, z6]) rfl ?_
        exact ⟨⟨6, vf, vg, [], [], 0, 0⟩, r2, by rw [hFN.out]; rfl, (fun y t e => by rw [hFN.out] at e; simp only [Option.some.injEq, Prod.mk.injEq] at e; exact e), (((((((hM7.out.bl).setCell (p := ⟨w.heap.size + 1, 0, none⟩) (Nat.le_succ _) _).setCell (p := ⟨w.heap.size + 1, 1, none⟩) (Nat.le_succ _) _).setCell (p := ⟨w.heap.size + 1, 2, none⟩) (Nat.le_succ _) _).setCell (p := ⟨w.heap.size + 1, 3, none⟩) (Nat.le_succ _) _).setCell (p := ⟨w.heap.size + 1, 4, none⟩) (Nat.le_succ _) _).setCell (p := ⟨w.heap.size + 1, 5, none⟩) (Nat.le_succ _) _).setCell (p := ⟨w.heap.size + 1, 6, none⟩) (Nat.le_succ _) _⟩
  by_cases e9 : kd = 9
  · subst e9
    have hr1 := fun W => rreadText_any l 131072 W (by omega)
    unfold RiPost at hr1
    cases h1 : readT21 l 131072 with
    | none =>
      rw [h1] at hr1
      simp only [valO, resO, Option.map_none, Option.getD_none, Option.isSome_none] at hr1
      replace hr1 := Lib.hid hr1
      have hFN := Lib.hid (show F = none by rw [← hF.out]; simp [fields21, h1])
      go_wp2_with fail
      refine (hr1.out _).mono ?_
      rintro e w11 ⟨rfl, bb⟩
      have m1 := Lib.hid (hM2.out.next bb)
      have p1 := m1.out.k0.cell 1
      have u1 := m1.out.k0.soft 1
      simp only [List.getElem?_cons_zero, List.getElem?_cons_succ] at p1
      clear bb hr1
      go_upto_region 27 with fail
      refine hide_world (K := fun a w' => Code.wp _ _ _ a w') (R := fun W => FM w [.int .i64 9, .string ⟨#[]⟩, .string ⟨#[]⟩, .string ⟨#[]⟩, .int .i64 0, .int .i64 0, .string ⟨#[]⟩] W) (m1.out.put 1 _) ?_
      intro W7 hM7
      have hcell := fun i => hM7.out.k0.cell i
      have hc1 := fun i => hM7.out.k1.cell i
      have hsoft := fun i => hM7.out.k1.soft i
      have d0 := hcell 0
      have z0 := hc1 0
      have s0 := hsoft 0
      have d1 := hcell 1
      have z1 := hc1 1
      have s1 := hsoft 1
      have d2 := hcell 2
      have z2 := hc1 2
      have s2 := hsoft 2
      have d3 := hcell 3
      have z3 := hc1 3
      have s3 := hsoft 3
      have d4 := hcell 4
      have z4 := hc1 4
      have s4 := hsoft 4
      have d5 := hcell 5
      have z5 := hc1 5
      have s5 := hsoft 5
      have d6 := hcell 6
      have z6 := hc1 6
      have s6 := hsoft 6
      simp only [List.getElem?_cons_zero, List.getElem?_cons_succ] at d0 z0 d1 z1 d2 z2 d3 z3 d4 z4 d5 z5 d6 z6
      clear hcell hc1 hsoft
      go_wp2_with fail
      refine bodyPost_ret (v := .tuple #[.agg #[.int .i64 9, .string ⟨#[]⟩, .string ⟨#[]⟩, .string ⟨#[]⟩, .int .i64 0, .int .i64 0, .string ⟨#[]⟩], .string ⟨(([] : List UInt8)).toArray⟩, .bool false]) (by simp [results, Try.results40, go_sem, z0, z1, z2, z3, z4, z5, z6]) rfl ?_
      exact ⟨⟨9, [], [], [], [], 0, 0⟩, ([] : List UInt8), by rw [hFN.out]; rfl, (fun y t e => by rw [hFN.out] at e; cases e), (((((((hM7.out.bl).setCell (p := ⟨w.heap.size + 1, 0, none⟩) (Nat.le_succ _) _).setCell (p := ⟨w.heap.size + 1, 1, none⟩) (Nat.le_succ _) _).setCell (p := ⟨w.heap.size + 1, 2, none⟩) (Nat.le_succ _) _).setCell (p := ⟨w.heap.size + 1, 3, none⟩) (Nat.le_succ _) _).setCell (p := ⟨w.heap.size + 1, 4, none⟩) (Nat.le_succ _) _).setCell (p := ⟨w.heap.size + 1, 5, none⟩) (Nat.le_succ _) _).setCell (p := ⟨w.heap.size + 1, 6, none⟩) (Nat.le_succ _) _⟩
    | some p1 =>
      obtain ⟨vf, r1⟩ := p1
      have hl1 : r1.length ≤ 1000000000 := by have := readT_len2 h1; omega
      rw [h1] at hr1
      simp only [valO, resO, Option.map_some, Option.getD_some, Option.isSome_some] at hr1
      replace hr1 := Lib.hid hr1
      go_wp2_with fail
      refine (hr1.out _).mono ?_
      rintro e w11 ⟨rfl, bb⟩
      have m1 := Lib.hid (hM2.out.next bb)
      have p1 := m1.out.k0.cell 1
      have u1 := m1.out.k0.soft 1
      simp only [List.getElem?_cons_zero, List.getElem?_cons_succ] at p1
      clear bb hr1
      go_upto_region 17 with fail
      refine hide_world (K := fun a w' => Code.wp _ _ _ a w') (R := fun W => FM w [.int .i64 9, .string ⟨vf.toArray⟩, .string ⟨#[]⟩, .string ⟨#[]⟩, .int .i64 0, .int .i64 0, .string ⟨#[]⟩] W) (m1.out.put 1 _) ?_
      intro V1 hV1
      clear m1 p1 u1
      have hr2 := fun W => rreadText_any r1 131072 W (by omega)
      unfold RiPost at hr2
      cases h2 : readT21 r1 131072 with
      | none =>
        rw [h2] at hr2
        simp only [valO, resO, Option.map_none, Option.getD_none, Option.isSome_none] at hr2
        replace hr2 := Lib.hid hr2
        have hFN := Lib.hid (show F = none by rw [← hF.out]; simp [fields21, h1, h2])
        go_wp2_with fail
        refine (hr2.out _).mono ?_
        rintro e w12 ⟨rfl, bb⟩
        have m2 := Lib.hid (hV1.out.next bb)
        have p2 := m2.out.k0.cell 2
        have u2 := m2.out.k0.soft 2
        simp only [List.getElem?_cons_zero, List.getElem?_cons_succ] at p2
        clear bb hr2
        go_upto_region 27 with fail
        refine hide_world (K := fun a w' => Code.wp _ _ _ a w') (R := fun W => FM w [.int .i64 9, .string ⟨vf.toArray⟩, .string ⟨#[]⟩, .string ⟨#[]⟩, .int .i64 0, .int .i64 0, .string ⟨#[]⟩] W) (m2.out.put 2 _) ?_
        intro W7 hM7
        have hcell := fun i => hM7.out.k0.cell i
        have hc1 := fun i => hM7.out.k1.cell i
        have hsoft := fun i => hM7.out.k1.soft i
        have d0 := hcell 0
        have z0 := hc1 0
        have s0 := hsoft 0
        have d1 := hcell 1
        have z1 := hc1 1
        have s1 := hsoft 1
        have d2 := hcell 2
        have z2 := hc1 2
        have s2 := hsoft 2
        have d3 := hcell 3
        have z3 := hc1 3
        have s3 := hsoft 3
        have d4 := hcell 4
        have z4 := hc1 4
        have s4 := hsoft 4
        have d5 := hcell 5
        have z5 := hc1 5
        have s5 := hsoft 5
        have d6 := hcell 6
        have z6 := hc1 6
        have s6 := hsoft 6
        simp only [List.getElem?_cons_zero, List.getElem?_cons_succ] at d0 z0 d1 z1 d2 z2 d3 z3 d4 z4 d5 z5 d6 z6
        clear hcell hc1 hsoft
        go_wp2_with fail
        refine bodyPost_ret (v := .tuple #[.agg #[.int .i64 9, .string ⟨vf.toArray⟩, .string ⟨#[]⟩, .string ⟨#[]⟩, .int .i64 0, .int .i64 0, .string ⟨#[]⟩], .string ⟨(([] : List UInt8)).toArray⟩, .bool false]) (by simp [results, Try.results40, go_sem, z0, z1, z2, z3, z4, z5, z6]) rfl ?_
        exact ⟨⟨9, vf, [], [], [], 0, 0⟩, ([] : List UInt8), by rw [hFN.out]; rfl, (fun y t e => by rw [hFN.out] at e; cases e), (((((((hM7.out.bl).setCell (p := ⟨w.heap.size + 1, 0, none⟩) (Nat.le_succ _) _).setCell (p := ⟨w.heap.size + 1, 1, none⟩) (Nat.le_succ _) _).setCell (p := ⟨w.heap.size + 1, 2, none⟩) (Nat.le_succ _) _).setCell (p := ⟨w.heap.size + 1, 3, none⟩) (Nat.le_succ _) _).setCell (p := ⟨w.heap.size + 1, 4, none⟩) (Nat.le_succ _) _).setCell (p := ⟨w.heap.size + 1, 5, none⟩) (Nat.le_succ _) _).setCell (p := ⟨w.heap.size + 1, 6, none⟩) (Nat.le_succ _) _⟩
      | some p2 =>
        obtain ⟨vg, r2⟩ := p2
        have hl2 : r2.length ≤ 1000000000 := by have := readT_len2 h2; omega
        rw [h2] at hr2
        simp only [valO, resO, Option.map_some, Option.getD_some, Option.isSome_some] at hr2
        replace hr2 := Lib.hid hr2
        go_wp2_with fail
        refine (hr2.out _).mono ?_
        rintro e w12 ⟨rfl, bb⟩
        have m2 := Lib.hid (hV1.out.next bb)
        have p2 := m2.out.k0.cell 2
        have u2 := m2.out.k0.soft 2
        simp only [List.getElem?_cons_zero, List.getElem?_cons_succ] at p2
        clear bb hr2
        have hFN := Lib.hid (show F = some (⟨9, vf, vg, [], [], 0, 0⟩, r2) by rw [← hF.out]; simp [fields21, cm0, h1, h2])
        go_upto_region 27 with fail
        refine hide_world (K := fun a w' => Code.wp _ _ _ a w') (R := fun W => FM w [.int .i64 9, .string ⟨vf.toArray⟩, .string ⟨vg.toArray⟩, .string ⟨#[]⟩, .int .i64 0, .int .i64 0, .string ⟨#[]⟩] W) (m2.out.put 2 _) ?_
        intro W7 hM7
        have hcell := fun i => hM7.out.k0.cell i
        have hc1 := fun i => hM7.out.k1.cell i
        have hsoft := fun i => hM7.out.k1.soft i
        have d0 := hcell 0
        have z0 := hc1 0
        have s0 := hsoft 0
        have d1 := hcell 1
        have z1 := hc1 1
        have s1 := hsoft 1
        have d2 := hcell 2
        have z2 := hc1 2
        have s2 := hsoft 2
        have d3 := hcell 3
        have z3 := hc1 3
        have s3 := hsoft 3
        have d4 := hcell 4
        have z4 := hc1 4
        have s4 := hsoft 4
        have d5 := hcell 5
        have z5 := hc1 5
        have s5 := hsoft 5
        have d6 := hcell 6
        have z6 := hc1 6
        have s6 := hsoft 6
        simp only [List.getElem?_cons_zero, List.getElem?_cons_succ] at d0 z0 d1 z1 d2 z2 d3 z3 d4 z4 d5 z5 d6 z6
        clear hcell hc1 hsoft
        go_wp2_with fail
        refine bodyPost_ret (v := .tuple #[.agg #[.int .i64 9, .string ⟨vf.toArray⟩, .string ⟨vg.toArray⟩, .string ⟨#[]⟩, .int .i64 0, .int .i64 0, .string ⟨#[]⟩], .string ⟨(r2).toArray⟩, .bool true]) (by simp [results, Try.results40, go_sem, z0, z1, z2, z3, z4, z5, z6]) rfl ?_
        exact ⟨⟨9, vf, vg, [], [], 0, 0⟩, r2, by rw [hFN.out]; rfl, (fun y t e => by rw [hFN.out] at e; simp only [Option.some.injEq, Prod.mk.injEq] at e; exact e), (((((((hM7.out.bl).setCell (p := ⟨w.heap.size + 1, 0, none⟩) (Nat.le_succ _) _).setCell (p := ⟨w.heap.size + 1, 1, none⟩) (Nat.le_succ _) _).setCell (p := ⟨w.heap.size + 1, 2, none⟩) (Nat.le_succ _) _).setCell (p := ⟨w.heap.size + 1, 3, none⟩) (Nat.le_succ _) _).setCell (p := ⟨w.heap.size + 1, 4, none⟩) (Nat.le_succ _) _).setCell (p := ⟨w.heap.size + 1, 5, none⟩) (Nat.le_succ _) _).setCell (p := ⟨w.heap.size + 1, 6, none⟩) (Nat.le_succ _) _⟩
  by_cases e8 : kd = 8
  · subst e8
    have hr1 := fun W => rreadInt_any l W (by omega)
    unfold RiPost at hr1
    cases h1 : readI21 l with
    | none =>
      rw [h1] at hr1
      simp only [valO, resO, Option.map_none, Option.getD_none, Option.isSome_none] at hr1
      replace hr1 := Lib.hid hr1
      have hFN := Lib.hid (show F = none by rw [← hF.out]; simp [fields21, h1])
      go_wp2_with fail
      refine (hr1.out _).mono ?_
      rintro e w11 ⟨rfl, bb⟩
      have m1 := Lib.hid (hM2.out.next bb)
      have p1 := m1.out.k0.cell 5
      have u1 := m1.out.k0.soft 5
      simp only [List.getElem?_cons_zero, List.getElem?_cons_succ] at p1
      clear bb hr1
      go_upto_region 27 with fail
      refine hide_world (K := fun a w' => Code.wp _ _ _ a w') (R := fun W => FM w [.int .i64 8, .string ⟨#[]⟩, .string ⟨#[]⟩, .string ⟨#[]⟩, .int .i64 0, .int .i64 0, .string ⟨#[]⟩] W) (m1.out.put 5 _) ?_
      intro W7 hM7
      have hcell := fun i => hM7.out.k0.cell i
      have hc1 := fun i => hM7.out.k1.cell i
      have hsoft := fun i => hM7.out.k1.soft i
      have d0 := hcell 0
      have z0 := hc1 0
      have s0 := hsoft 0
      have d1 := hcell 1
      have z1 := hc1 1
      have s1 := hsoft 1
      have d2 := hcell 2
      have z2 := hc1 2
      have s2 := hsoft 2
      have d3 := hcell 3
      have z3 := hc1 3
      have s3 := hsoft 3
      have d4 := hcell 4
      have z4 := hc1 4
      have s4 := hsoft 4
      have d5 := hcell 5
      have z5 := hc1 5
      have s5 := hsoft 5
      have d6 := hcell 6
      have z6 := hc1 6
      have s6 := hsoft 6
      simp only [List.getElem?_cons_zero, List.getElem?_cons_succ] at d0 z0 d1 z1 d2 z2 d3 z3 d4 z4 d5 z5 d6 z6
      clear hcell hc1 hsoft
      go_wp2_with fail
      refine bodyPost_ret (v := .tuple #[.agg #[.int .i64 8, .string ⟨#[]⟩, .string ⟨#[]⟩, .string ⟨#[]⟩, .int .i64 0, .int .i64 0, .string ⟨#[]⟩], .string ⟨(([] : List UInt8)).toArray⟩, .bool false]) (by simp [results, Try.results40, go_sem, z0, z1, z2, z3, z4, z5, z6]) rfl ?_
      exact ⟨⟨8, [], [], [], [], 0, 0⟩, ([] : List UInt8), by rw [hFN.out]; rfl, (fun y t e => by rw [hFN.out] at e; cases e), (((((((hM7.out.bl).setCell (p := ⟨w.heap.size + 1, 0, none⟩) (Nat.le_succ _) _).setCell (p := ⟨w.heap.size + 1, 1, none⟩) (Nat.le_succ _) _).setCell (p := ⟨w.heap.size + 1, 2, none⟩) (Nat.le_succ _) _).setCell (p := ⟨w.heap.size + 1, 3, none⟩) (Nat.le_succ _) _).setCell (p := ⟨w.heap.size + 1, 4, none⟩) (Nat.le_succ _) _).setCell (p := ⟨w.heap.size + 1, 5, none⟩) (Nat.le_succ _) _).setCell (p := ⟨w.heap.size + 1, 6, none⟩) (Nat.le_succ _) _⟩
    | some p1 =>
      obtain ⟨vi, r1⟩ := p1
      have hl1 : r1.length ≤ 1000000000 := by have := readI_len2 h1; omega
      rw [h1] at hr1
      simp only [valO, resO, Option.map_some, Option.getD_some, Option.isSome_some] at hr1
      replace hr1 := Lib.hid hr1
      go_wp2_with fail
      refine (hr1.out _).mono ?_
      rintro e w11 ⟨rfl, bb⟩
      have m1 := Lib.hid (hM2.out.next bb)
      have p1 := m1.out.k0.cell 5
      have u1 := m1.out.k0.soft 5
      simp only [List.getElem?_cons_zero, List.getElem?_cons_succ] at p1
      clear bb hr1
      go_upto_region 21 with fail
      refine hide_world (K := fun a w' => Code.wp _ _ _ a w') (R := fun W => FM w [.int .i64 8, .string ⟨#[]⟩, .string ⟨#[]⟩, .string ⟨#[]⟩, .int .i64 0, .int .i64 vi, .string ⟨#[]⟩] W) (m1.out.put 5 _) ?_
      intro V1 hV1
      clear m1 p1 u1
      have hr2 := fun W => rreadInt_any r1 W (by omega)
      unfold RiPost at hr2
      cases h2 : readI21 r1 with
      | none =>
        rw [h2] at hr2
        simp only [valO, resO, Option.map_none, Option.getD_none, Option.isSome_none] at hr2
        replace hr2 := Lib.hid hr2
        have hFN := Lib.hid (show F = none by rw [← hF.out]; simp [fields21, h1, h2])
        go_wp2_with fail
        refine (hr2.out _).mono ?_
        rintro e w12 ⟨rfl, bb⟩
        have m2 := Lib.hid (hV1.out.next bb)
        have p2 := m2.out.k0.cell 4
        have u2 := m2.out.k0.soft 4
        simp only [List.getElem?_cons_zero, List.getElem?_cons_succ] at p2
        clear bb hr2
        go_upto_region 27 with fail
        refine hide_world (K := fun a w' => Code.wp _ _ _ a w') (R := fun W => FM w [.int .i64 8, .string ⟨#[]⟩, .string ⟨#[]⟩, .string ⟨#[]⟩, .int .i64 0, .int .i64 vi, .string ⟨#[]⟩] W) (m2.out.put 4 _) ?_
        intro W7 hM7
        have hcell := fun i => hM7.out.k0.cell i
        have hc1 := fun i => hM7.out.k1.cell i
        have hsoft := fun i => hM7.out.k1.soft i
        have d0 := hcell 0
        have z0 := hc1 0
        have s0 := hsoft 0
        have d1 := hcell 1
        have z1 := hc1 1
        have s1 := hsoft 1
        have d2 := hcell 2
        have z2 := hc1 2
        have s2 := hsoft 2
        have d3 := hcell 3
        have z3 := hc1 3
        have s3 := hsoft 3
        have d4 := hcell 4
        have z4 := hc1 4
        have s4 := hsoft 4
        have d5 := hcell 5
        have z5 := hc1 5
        have s5 := hsoft 5
        have d6 := hcell 6
        have z6 := hc1 6
        have s6 := hsoft 6
        simp only [List.getElem?_cons_zero, List.getElem?_cons_succ] at d0 z0 d1 z1 d2 z2 d3 z3 d4 z4 d5 z5 d6 z6
        clear hcell hc1 hsoft
        go_wp2_with fail
        refine bodyPost_ret (v := .tuple #[.agg #[.int .i64 8, .string ⟨#[]⟩, .string ⟨#[]⟩, .string ⟨#[]⟩, .int .i64 0, .int .i64 vi, .string ⟨#[]⟩], .string ⟨(([] : List UInt8)).toArray⟩, .bool false]) (by simp [results, Try.results40, go_sem, z0, z1, z2, z3, z4, z5, z6]) rfl ?_
        exact ⟨⟨8, [], [], [], [], 0, vi⟩, ([] : List UInt8), by rw [hFN.out]; rfl, (fun y t e => by rw [hFN.out] at e; cases e), (((((((hM7.out.bl).setCell (p := ⟨w.heap.size + 1, 0, none⟩) (Nat.le_succ _) _).setCell (p := ⟨w.heap.size + 1, 1, none⟩) (Nat.le_succ _) _).setCell (p := ⟨w.heap.size + 1, 2, none⟩) (Nat.le_succ _) _).setCell (p := ⟨w.heap.size + 1, 3, none⟩) (Nat.le_succ _) _).setCell (p := ⟨w.heap.size + 1, 4, none⟩) (Nat.le_succ _) _).setCell (p := ⟨w.heap.size + 1, 5, none⟩) (Nat.le_succ _) _).setCell (p := ⟨w.heap.size + 1, 6, none⟩) (Nat.le_succ _) _⟩
      | some p2 =>
        obtain ⟨vn, r2⟩ := p2
        have hl2 : r2.length ≤ 1000000000 := by have := readI_len2 h2; omega
        rw [h2] at hr2
        simp only [valO, resO, Option.map_some, Option.getD_some, Option.isSome_some] at hr2
        replace hr2 := Lib.hid hr2
        go_wp2_with fail
        refine (hr2.out _).mono ?_
        rintro e w12 ⟨rfl, bb⟩
        have m2 := Lib.hid (hV1.out.next bb)
        have p2 := m2.out.k0.cell 4
        have u2 := m2.out.k0.soft 4
        simp only [List.getElem?_cons_zero, List.getElem?_cons_succ] at p2
        clear bb hr2
        go_upto_region 23 with fail
        refine hide_world (K := fun a w' => Code.wp _ _ _ a w') (R := fun W => FM w [.int .i64 8, .string ⟨#[]⟩, .string ⟨#[]⟩, .string ⟨#[]⟩, .int .i64 vn, .int .i64 vi, .string ⟨#[]⟩] W) (m2.out.put 4 _) ?_
        intro V2 hV2
        clear m2 p2 u2
        have hr3 := fun W => rreadText_any r2 131072 W (by omega)
        unfold RiPost at hr3
        cases h3 : readT21 r2 131072 with
        | none =>
          rw [h3] at hr3
          simp only [valO, resO, Option.map_none, Option.getD_none, Option.isSome_none] at hr3
          replace hr3 := Lib.hid hr3
          have hFN := Lib.hid (show F = none by rw [← hF.out]; simp [fields21, h1, h2, h3])
          go_wp2_with fail
          refine (hr3.out _).mono ?_
          rintro e w13 ⟨rfl, bb⟩
          have m3 := Lib.hid (hV2.out.next bb)
          have p3 := m3.out.k0.cell 6
          have u3 := m3.out.k0.soft 6
          simp only [List.getElem?_cons_zero, List.getElem?_cons_succ] at p3
          clear bb hr3
          go_upto_region 27 with fail
          refine hide_world (K := fun a w' => Code.wp _ _ _ a w') (R := fun W => FM w [.int .i64 8, .string ⟨#[]⟩, .string ⟨#[]⟩, .string ⟨#[]⟩, .int .i64 vn, .int .i64 vi, .string ⟨#[]⟩] W) (m3.out.put 6 _) ?_
          intro W7 hM7
          have hcell := fun i => hM7.out.k0.cell i
          have hc1 := fun i => hM7.out.k1.cell i
          have hsoft := fun i => hM7.out.k1.soft i
          have d0 := hcell 0
          have z0 := hc1 0
          have s0 := hsoft 0
          have d1 := hcell 1
          have z1 := hc1 1
          have s1 := hsoft 1
          have d2 := hcell 2
          have z2 := hc1 2
          have s2 := hsoft 2
          have d3 := hcell 3
          have z3 := hc1 3
          have s3 := hsoft 3
          have d4 := hcell 4
          have z4 := hc1 4
          have s4 := hsoft 4
          have d5 := hcell 5
          have z5 := hc1 5
          have s5 := hsoft 5
          have d6 := hcell 6
          have z6 := hc1 6
          have s6 := hsoft 6
          simp only [List.getElem?_cons_zero, List.getElem?_cons_succ] at d0 z0 d1 z1 d2 z2 d3 z3 d4 z4 d5 z5 d6 z6
          clear hcell hc1 hsoft
          go_wp2_with fail
          refine bodyPost_ret (v := .tuple #[.agg #[.int .i64 8, .string ⟨#[]⟩, .string ⟨#[]⟩, .string ⟨#[]⟩, .int .i64 vn, .int .i64 vi, .string ⟨#[]⟩], .string ⟨(([] : List UInt8)).toArray⟩, .bool false]) (by simp [results, Try.results40, go_sem, z0, z1, z2, z3, z4, z5, z6]) rfl ?_
          exact ⟨⟨8, [], [], [], [], vn, vi⟩, ([] : List UInt8), by rw [hFN.out]; rfl, (fun y t e => by rw [hFN.out] at e; cases e), (((((((hM7.out.bl).setCell (p := ⟨w.heap.size + 1, 0, none⟩) (Nat.le_succ _) _).setCell (p := ⟨w.heap.size + 1, 1, none⟩) (Nat.le_succ _) _).setCell (p := ⟨w.heap.size + 1, 2, none⟩) (Nat.le_succ _) _).setCell (p := ⟨w.heap.size + 1, 3, none⟩) (Nat.le_succ _) _).setCell (p := ⟨w.heap.size + 1, 4, none⟩) (Nat.le_succ _) _).setCell (p := ⟨w.heap.size + 1, 5, none⟩) (Nat.le_succ _) _).setCell (p := ⟨w.heap.size + 1, 6, none⟩) (Nat.le_succ _) _⟩
        | some p3 =>
          obtain ⟨vc, r3⟩ := p3
          have hl3 : r3.length ≤ 1000000000 := by have := readT_len2 h3; omega
          rw [h3] at hr3
          simp only [valO, resO, Option.map_some, Option.getD_some, Option.isSome_some] at hr3
          replace hr3 := Lib.hid hr3
          go_wp2_with fail
          refine (hr3.out _).mono ?_
          rintro e w13 ⟨rfl, bb⟩
          have m3 := Lib.hid (hV2.out.next bb)
          have p3 := m3.out.k0.cell 6
          have u3 := m3.out.k0.soft 6
          simp only [List.getElem?_cons_zero, List.getElem?_cons_succ] at p3
          clear bb hr3
          have hFN := Lib.hid (show F = some (⟨8, [], [], [], vc, vn, vi⟩, r3) by rw [← hF.out]; simp [fields21, cm0, h1, h2, h3])
          go_upto_region 27 with fail
          refine hide_world (K := fun a w' => Code.wp _ _ _ a w') (R := fun W => FM w [.int .i64 8, .string ⟨#[]⟩, .string ⟨#[]⟩, .string ⟨#[]⟩, .int .i64 vn, .int .i64 vi, .string ⟨vc.toArray⟩] W) (m3.out.put 6 _) ?_
          intro W7 hM7
          have hcell := fun i => hM7.out.k0.cell i
          have hc1 := fun i => hM7.out.k1.cell i
          have hsoft := fun i => hM7.out.k1.soft i
          have d0 := hcell 0
          have z0 := hc1 0
          have s0 := hsoft 0
          have d1 := hcell 1
          have z1 := hc1 1
          have s1 := hsoft 1
          have d2 := hcell 2
          have z2 := hc1 2
          have s2 := hsoft 2
          have d3 := hcell 3
          have z3 := hc1 3
          have s3 := hsoft 3
          have d4 := hcell 4
          have z4 := hc1 4
          have s4 := hsoft 4
          have d5 := hcell 5
          have z5 := hc1 5
          have s5 := hsoft 5
          have d6 := hcell 6
          have z6 := hc1 6
          have s6 := hsoft 6
          simp only [List.getElem?_cons_zero, List.getElem?_cons_succ] at d0 z0 d1 z1 d2 z2 d3 z3 d4 z4 d5 z5 d6 z6
          clear hcell hc1 hsoft
          go_wp2_with fail
          refine bodyPost_ret (v := .tuple #[.agg #[.int .i64 8, .string ⟨#[]⟩, .string ⟨#[]⟩, .string ⟨#[]⟩, .int .i64 vn, .int .i64 vi, .string ⟨vc.toArray⟩], .string ⟨(r3).toArray⟩, .bool true]) (by simp [results, Try.results40, go_sem, z0, z1, z2, z3, z4, z5, z6]) rfl ?_
          exact ⟨⟨8, [], [], [], vc, vn, vi⟩, r3, by rw [hFN.out]; rfl, (fun y t e => by rw [hFN.out] at e; simp only [Option.some.injEq, Prod.mk.injEq] at e; exact e), (((((((hM7.out.bl).setCell (p := ⟨w.heap.size + 1, 0, none⟩) (Nat.le_succ _) _).setCell (p := ⟨w.heap.size + 1, 1, none⟩) (Nat.le_succ _) _).setCell (p := ⟨w.heap.size + 1, 2, none⟩) (Nat.le_succ _) _).setCell (p := ⟨w.heap.size + 1, 3, none⟩) (Nat.le_succ _) _).setCell (p := ⟨w.heap.size + 1, 4, none⟩) (Nat.le_succ _) _).setCell (p := ⟨w.heap.size + 1, 5, none⟩) (Nat.le_succ _) _).setCell (p := ⟨w.heap.size + 1, 6, none⟩) (Nat.le_succ _) _⟩
  by_cases e7 : kd = 7
  · subst e7
    have hFN := Lib.hid (show F = some (⟨7, [], [], [], [], 0, 0⟩, l) by rw [← hF.out]; simp [fields21, cm0])
    go_upto_region 27 with fail
    refine hide_world (K := fun a w' => Code.wp _ _ _ a w') (R := fun W => FM w [.int .i64 7, .string ⟨#[]⟩, .string ⟨#[]⟩, .string ⟨#[]⟩, .int .i64 0, .int .i64 0, .string ⟨#[]⟩] W) hM2.out ?_
    intro W7 hM7
    have hcell := fun i => hM7.out.k0.cell i
    have hc1 := fun i => hM7.out.k1.cell i
    have hsoft := fun i => hM7.out.k1.soft i
    have d0 := hcell 0
    have z0 := hc1 0
    have s0 := hsoft 0
    have d1 := hcell 1
    have z1 := hc1 1
    have s1 := hsoft 1
    have d2 := hcell 2
    have z2 := hc1 2
    have s2 := hsoft 2
    have d3 := hcell 3
    have z3 := hc1 3
    have s3 := hsoft 3
    have d4 := hcell 4
    have z4 := hc1 4
    have s4 := hsoft 4
    have d5 := hcell 5
    have z5 := hc1 5
    have s5 := hsoft 5
    have d6 := hcell 6
    have z6 := hc1 6
    have s6 := hsoft 6
    simp only [List.getElem?_cons_zero, List.getElem?_cons_succ] at d0 z0 d1 z1 d2 z2 d3 z3 d4 z4 d5 z5 d6 z6
    clear hcell hc1 hsoft
    go_wp2_with fail
    refine bodyPost_ret (v := .tuple #[.agg #[.int .i64 7, .string ⟨#[]⟩, .string ⟨#[]⟩, .string ⟨#[]⟩, .int .i64 0, .int .i64 0, .string ⟨#[]⟩], .string ⟨(l).toArray⟩, .bool true]) (by simp [results, Try.results40, go_sem, z0, z1, z2, z3, z4, z5, z6]) rfl ?_
    exact ⟨⟨7, [], [], [], [], 0, 0⟩, l, by rw [hFN.out]; rfl, (fun y t e => by rw [hFN.out] at e; simp only [Option.some.injEq, Prod.mk.injEq] at e; exact e), (((((((hM7.out.bl).setCell (p := ⟨w.heap.size + 1, 0, none⟩) (Nat.le_succ _) _).setCell (p := ⟨w.heap.size + 1, 1, none⟩) (Nat.le_succ _) _).setCell (p := ⟨w.heap.size + 1, 2, none⟩) (Nat.le_succ _) _).setCell (p := ⟨w.heap.size + 1, 3, none⟩) (Nat.le_succ _) _).setCell (p := ⟨w.heap.size + 1, 4, none⟩) (Nat.le_succ _) _).setCell (p := ⟨w.heap.size + 1, 5, none⟩) (Nat.le_succ _) _).setCell (p := ⟨w.heap.size + 1, 6, none⟩) (Nat.le_succ _) _⟩
  by_cases e10 : kd = 10
  · subst e10
    have hFN := Lib.hid (show F = some (⟨10, [], [], [], [], 0, 0⟩, l) by rw [← hF.out]; simp [fields21, cm0])
    go_upto_region 27 with fail
    refine hide_world (K := fun a w' => Code.wp _ _ _ a w') (R := fun W => FM w [.int .i64 10, .string ⟨#[]⟩, .string ⟨#[]⟩, .string ⟨#[]⟩, .int .i64 0, .int .i64 0, .string ⟨#[]⟩] W) hM2.out ?_
    intro W7 hM7
    have hcell := fun i => hM7.out.k0.cell i
    have hc1 := fun i => hM7.out.k1.cell i
    have hsoft := fun i => hM7.out.k1.soft i
    have d0 := hcell 0
    have z0 := hc1 0
    have s0 := hsoft 0
    have d1 := hcell 1
    have z1 := hc1 1
    have s1 := hsoft 1
    have d2 := hcell 2
    have z2 := hc1 2
    have s2 := hsoft 2
    have d3 := hcell 3
    have z3 := hc1 3
    have s3 := hsoft 3
    have d4 := hcell 4
    have z4 := hc1 4
    have s4 := hsoft 4
    have d5 := hcell 5
    have z5 := hc1 5
    have s5 := hsoft 5
    have d6 := hcell 6
    have z6 := hc1 6
    have s6 := hsoft 6
    simp only [List.getElem?_cons_zero, List.getElem?_cons_succ] at d0 z0 d1 z1 d2 z2 d3 z3 d4 z4 d5 z5 d6 z6
    clear hcell hc1 hsoft
    go_wp2_with fail
    refine bodyPost_ret (v := .tuple #[.agg #[.int .i64 10, .string ⟨#[]⟩, .string ⟨#[]⟩, .string ⟨#[]⟩, .int .i64 0, .int .i64 0, .string ⟨#[]⟩], .string ⟨(l).toArray⟩, .bool true]) (by simp [results, Try.results40, go_sem, z0, z1, z2, z3, z4, z5, z6]) rfl ?_
    exact ⟨⟨10, [], [], [], [], 0, 0⟩, l, by rw [hFN.out]; rfl, (fun y t e => by rw [hFN.out] at e; simp only [Option.some.injEq, Prod.mk.injEq] at e; exact e), (((((((hM7.out.bl).setCell (p := ⟨w.heap.size + 1, 0, none⟩) (Nat.le_succ _) _).setCell (p := ⟨w.heap.size + 1, 1, none⟩) (Nat.le_succ _) _).setCell (p := ⟨w.heap.size + 1, 2, none⟩) (Nat.le_succ _) _).setCell (p := ⟨w.heap.size + 1, 3, none⟩) (Nat.le_succ _) _).setCell (p := ⟨w.heap.size + 1, 4, none⟩) (Nat.le_succ _) _).setCell (p := ⟨w.heap.size + 1, 5, none⟩) (Nat.le_succ _) _).setCell (p := ⟨w.heap.size + 1, 6, none⟩) (Nat.le_succ _) _⟩
  have hFN := Lib.hid (show F = none by rw [← hF.out]; exact fl0 e1 e2 e3 e4 e5 e6 e7 e8 e9 e10 l)
  have q1 : (kd == 1) = false := by simpa using e1
  have q2 : (kd == 2) = false := by simpa using e2
  have q3 : (kd == 3) = false := by simpa using e3
  have q4 : (kd == 4) = false := by simpa using e4
  have q5 : (kd == 5) = false := by simpa using e5
  have q6 : (kd == 6) = false := by simpa using e6
  have q7 : (kd == 7) = false := by simpa using e7
  have q8 : (kd == 8) = false := by simpa using e8
  have q9 : (kd == 9) = false := by simpa using e9
  have q10 : (kd == 10) = false := by simpa using e10
  clear e1 e2 e3 e4 e5 e6 e7 e8 e9 e10
  go_upto_region 27 with fail
  refine hide_world (K := fun a w' => Code.wp _ _ _ a w') (R := fun W => FM w [.int .i64 kd, .string ⟨#[]⟩, .string ⟨#[]⟩, .string ⟨#[]⟩, .int .i64 0, .int .i64 0, .string ⟨#[]⟩] W) hM2.out ?_
  intro W7 hM7
  have hcell := fun i => hM7.out.k0.cell i
  have hc1 := fun i => hM7.out.k1.cell i
  have hsoft := fun i => hM7.out.k1.soft i
  have d0 := hcell 0
  have z0 := hc1 0
  have s0 := hsoft 0
  have d1 := hcell 1
  have z1 := hc1 1
  have s1 := hsoft 1
  have d2 := hcell 2
  have z2 := hc1 2
  have s2 := hsoft 2
  have d3 := hcell 3
  have z3 := hc1 3
  have s3 := hsoft 3
  have d4 := hcell 4
  have z4 := hc1 4
  have s4 := hsoft 4
  have d5 := hcell 5
  have z5 := hc1 5
  have s5 := hsoft 5
  have d6 := hcell 6
  have z6 := hc1 6
  have s6 := hsoft 6
  simp only [List.getElem?_cons_zero, List.getElem?_cons_succ] at d0 z0 d1 z1 d2 z2 d3 z3 d4 z4 d5 z5 d6 z6
  clear hcell hc1 hsoft
  go_wp2_with fail
  refine bodyPost_ret (v := .tuple #[.agg #[.int .i64 kd, .string ⟨#[]⟩, .string ⟨#[]⟩, .string ⟨#[]⟩, .int .i64 0, .int .i64 0, .string ⟨#[]⟩], .string ⟨(l).toArray⟩, .bool false]) (by simp [results, Try.results40, go_sem, z0, z1, z2, z3, z4, z5, z6]) rfl ?_
  exact ⟨⟨kd, [], [], [], [], 0, 0⟩, l, by rw [hFN.out]; rfl, (fun y t e => by rw [hFN.out] at e; cases e), (((((((hM7.out.bl).setCell (p := ⟨w.heap.size + 1, 0, none⟩) (Nat.le_succ _) _).setCell (p := ⟨w.heap.size + 1, 1, none⟩) (Nat.le_succ _) _).setCell (p := ⟨w.heap.size + 1, 2, none⟩) (Nat.le_succ _) _).setCell (p := ⟨w.heap.size + 1, 3, none⟩) (Nat.le_succ _) _).setCell (p := ⟨w.heap.size + 1, 4, none⟩) (Nat.le_succ _) _).setCell (p := ⟨w.heap.size + 1, 5, none⟩) (Nat.le_succ _) _).setCell (p := ⟨w.heap.size + 1, 6, none⟩) (Nat.le_succ _) _⟩
end Go.Proofs.Ytpfcamebkcengaa
