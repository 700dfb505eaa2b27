/- Layer 21: the law WireSame. -/
import Derived.Test.YtpfcamebkcengaaD21s
namespace Go.Proofs.Ytpfcamebkcengaa
open Go.RowKit

theorem valI_bd (o : Option (List UInt8)) : -9223372036854775808 ≤ valO 0 (o.bind readI21) ∧ valO 0 (o.bind readI21) ≤ 9223372036854775807 := by
  cases h : o.bind readI21 with
  | none => simp [valO]
  | some p =>
    obtain ⟨n, t⟩ := p
    rw [bindI] at h
    exact (int_read h).2
theorem fields_bd {k : Int} {s t : List UInt8} {c : Cm21} (hk : 0 ≤ k ∧ k ≤ 255) (hs : s.length ≤ 1000000000) (h : fields21 k s = some (c, t)) : CmBd c := by
  have z1 := valT_len (some s) 131072
  have z2 := resT_len (some s) 131072
  have z3 := valI_bd (some s)
  have z4 := resI_len (some s)
  simp only [Option.bind_some, Option.getD_some] at z1 z2 z3 z4
  by_cases c1 : k = 1 ∨ k = 2
  · rw [← (fl1 c1 rfl).2 _ _ h]
    exact ⟨by simp only; omega, by simp only; omega, by simp only; omega, by simp, by simp, by simp, by simp, by simp, by simp, by simp⟩
  by_cases c3 : k = 3
  · have z5 := valT_len (resO (readT21 s 131072)) 131072
    rw [← (fl3 c3 rfl rfl).2 _ _ h]
    exact ⟨by simp only; omega, by simp only; omega, by simp only; omega, by simp, by simp only; omega, by simp, by simp, by simp, by simp, by simp⟩
  by_cases c4 : k = 4
  · rw [← (fl4 c4 rfl).2 _ _ h]
    exact ⟨by simp only; omega, by simp only; omega, by simp, by simp, by simp, by simp, z3.1, z3.2, by simp, by simp⟩
  by_cases c5 : k = 5 ∨ k = 6 ∨ k = 9
  · have z5 := valT_len (resO (readT21 s 131072)) 131072
    rw [← (fl5 c5 rfl rfl).2 _ _ h]
    exact ⟨by simp only; omega, by simp only; omega, by simp only; omega, by simp only; omega, by simp, by simp, by simp, by simp, by simp, by simp⟩
  by_cases c8 : k = 8
  · have z5 := valI_bd (resO (readI21 s))
    have z6 := resI_len (resO (readI21 s))
    have z7 := valT_len (resO ((resO (readI21 s)).bind readI21)) 131072
    rw [← (fl8 c8 rfl rfl rfl).2 _ _ h]
    exact ⟨by simp only; omega, by simp only; omega, by simp, by simp, by simp, by simp only; omega, z5.1, z5.2, z3.1, z3.2⟩
  by_cases c7 : k = 7 ∨ k = 10
  · rw [fl7 c7] at h
    simp only [Option.some.injEq, Prod.mk.injEq] at h
    rw [← h.1]
    exact ⟨by simp only; omega, by simp only; omega, by simp, by simp, by simp, by simp, by simp, by simp, by simp, by simp⟩
  · rw [fl0 (by omega) (by omega) (by omega) (by omega) (by omega) (by omega) (by omega) (by omega) (by omega) (by omega)] at h
    cases h
theorem readC_bd (s : List UInt8) (hs : s.length ≤ 1000000000) : CmBd (readC21 s).2 := by
  have h0 : ∀ k : Int, -9223372036854775808 ≤ k → k ≤ 9223372036854775807 → CmBd (cm0 k) := fun k h1 h2 => ⟨h1, h2, by simp [cm0], by simp [cm0], by simp [cm0], by simp [cm0], by simp [cm0], by simp [cm0], by simp [cm0], by simp [cm0]⟩
  unfold readC21
  split
  · exact h0 0 (by omega) (by omega)
  · cases s with
    | nil => exact h0 0 (by omega) (by omega)
    | cons b r =>
      simp only
      cases h : fields21 b.toNat r with
      | none => exact h0 0 (by omega) (by omega)
      | some p =>
        obtain ⟨c, t⟩ := p
        cases t with
        | nil => exact fields_bd (by have := b.toNat_lt; omega) (by simp only [List.length_cons] at hs; omega) h
        | cons _ _ => exact h0 0 (by omega) (by omega)
theorem only_bd {c : Cm21} (h : CmBd c) : CmBd (only21 c) := by
  unfold only21
  split
  · exact ⟨h.k1, h.k2, h.feed, by simp [cm0], by simp [cm0], by simp [cm0], by simp [cm0], by simp [cm0], by simp [cm0], by simp [cm0]⟩
  · split
    · exact ⟨h.k1, h.k2, h.feed, by simp [cm0], h.doc, by simp [cm0], by simp [cm0], by simp [cm0], by simp [cm0], by simp [cm0]⟩
    · split
      · exact ⟨h.k1, h.k2, by simp [cm0], by simp [cm0], by simp [cm0], by simp [cm0], h.n1, h.n2, by simp [cm0], by simp [cm0]⟩
      · split
        · exact ⟨h.k1, h.k2, h.feed, h.guid, by simp [cm0], by simp [cm0], by simp [cm0], by simp [cm0], by simp [cm0], by simp [cm0]⟩
        · split
          · exact ⟨h.k1, h.k2, by simp [cm0], by simp [cm0], by simp [cm0], h.cursor, h.n1, h.n2, h.f1, h.f2⟩
          · exact ⟨h.k1, h.k2, by simp [cm0], by simp [cm0], by simp [cm0], by simp [cm0], by simp [cm0], by simp [cm0], by simp [cm0], by simp [cm0]⟩
theorem text_len (s : List UInt8) (h : s.length ≤ 1000000000) : (text21 s).length ≤ s.length + 10 := by
  unfold text21
  rw [List.length_append]
  have := (int_len_bd (n := (s.length : Int)) (by omega) (by omega)).2
  omega
theorem cmd_len {c : Cm21} (h : CmBd c) (h1 : c.feed.length ≤ 5000) (h2 : c.guid.length ≤ 5000) (h3 : c.doc.length ≤ 5000) (h4 : c.cursor.length ≤ 5000) : (cmd21 c).length ≤ 20000 := by
  have a1 := text_len c.feed (by omega)
  have a2 := text_len c.guid (by omega)
  have a3 := text_len c.doc (by omega)
  have a4 := text_len c.cursor (by omega)
  have a5 := (int_len_bd h.n1 h.n2).2
  have a6 := (int_len_bd h.f1 h.f2).2
  unfold cmd21 body21
  rw [List.length_cons]
  split
  · omega
  · split
    · rw [List.length_append]; omega
    · split
      · omega
      · split
        · rw [List.length_append]; omega
        · split
          · rw [List.length_append, List.length_append]; omega
          · simp

set_option maxHeartbeats 8000000 in
set_option maxRecDepth 100000 in
theorem same_law (c : Cm21) (s : List UInt8) (w : World) (hc : CmBd c) (hs : s.length ≤ 9223372036854775807) :
    Calls Try.prog 6 #[cmV c, .string ⟨s.toArray⟩] w (LawPost w) := by
  have haw := Lib.hid awake21_any
  have hb0 := (Below.refl w.heap.size w).alloc (Nat.le_refl _) (.cells (cmC c).toArray 32)
  have hK := arrAt_new w 32 (cmC c)
  by_cases hlong : 5000 < (c.feed.length : Int) ∨ (¬ 5000 < (c.feed.length : Int) ∧ 5000 < (c.guid.length : Int)) ∨ (¬ 5000 < (c.feed.length : Int) ∧ ¬ 5000 < (c.guid.length : Int) ∧ 5000 < (c.doc.length : Int)) ∨ (¬ 5000 < (c.feed.length : Int) ∧ ¬ 5000 < (c.guid.length : Int) ∧ ¬ 5000 < (c.doc.length : Int) ∧ 5000 < (c.cursor.length : Int)) ∨ (¬ 5000 < (c.feed.length : Int) ∧ ¬ 5000 < (c.guid.length : Int) ∧ ¬ 5000 < (c.doc.length : Int) ∧ ¬ 5000 < (c.cursor.length : Int) ∧ 5000 < (s.length : Int))
  · obtain ⟨x1, x2, x3, x4, x5, x6, x7, x8, x9, x10⟩ := hc
    obtain ⟨kd, f, g, d, cu, n, fi⟩ := c
    unfold cmV
    unfold cmC at *
    simp only at *
    replace hK := Lib.hid hK
    replace hb0 := Lib.hid hb0
    rcases hlong with h | ⟨h1, h⟩ | ⟨h1, h2, h⟩ | ⟨h1, h2, h3, h⟩ | ⟨h1, h2, h3, h4, h⟩
    all_goals
      go_enter Try.func6, Try.ntmps6
      go_wp2_with fail
      refine (haw.out _).mono ?_
      rintro e w1 ⟨rfl, b1⟩
      have hb1 := Lib.hid (hb0.out.trans (b1.mono hb0.out.size))
      clear b1
      go_wp2_with fail
      go_ret
      exact ⟨rfl, hb1.out⟩
  have l1 : ¬ 5000 < (c.feed.length : Int) := by omega
  have l2 : ¬ 5000 < (c.guid.length : Int) := by omega
  have l3 : ¬ 5000 < (c.doc.length : Int) := by omega
  have l4 : ¬ 5000 < (c.cursor.length : Int) := by omega
  have l5 : ¬ 5000 < (s.length : Int) := by omega
  clear hlong
  have hra := fun W => readCommand21_any s W (by omega)
  have hbdA := readC_bd s (by omega)
  have hcr := fun a (e : readC21 s = (0, a)) => cmd_read e
  obtain ⟨⟨co, a⟩, hca⟩ : ∃ p, readC21 s = p := ⟨_, rfl⟩
  rw [hca] at hra hbdA hcr
  simp only at hra hbdA
  obtain ⟨z0, hz0⟩ : ∃ z : Int, IntKind.u64.wrap c.kind = z := ⟨_, rfl⟩
  have hz1 : 0 ≤ z0 ∧ z0 ≤ 18446744073709551615 := by
    have h3 : IntKind.wrap .u64 c.kind = c.kind % 18446744073709551616 := by simp [IntKind.wrap, IntKind.bits, IntKind.signed]
    rw [← hz0, h3]; omega
  obtain ⟨z1, hz1'⟩ := hz1
  obtain ⟨k', hk'⟩ : ∃ k' : Int, 1 + z0 % 10 = k' := ⟨_, rfl⟩
  have hkb : 1 ≤ k' ∧ k' ≤ 10 := by omega
  have hbc : CmBd { c with kind := k' } := { hc with k1 := by simp only; omega, k2 := by simp only; omega }
  have hlc := cmd_len hbc (by simp only; omega) (by simp only; omega) (by simp only; omega) (by simp only; omega)
  have hok : CmOk { c with kind := k' } := ⟨hc.n1, hc.n2, hc.f1, hc.f2, by simp only; omega, by simp only; omega, by simp only; omega, by simp only; omega⟩
  have hcC := fun W => cmd21_any W { c with kind := k' } hbc (by omega)
  have hrB := fun W => readCommand21_any (cmd21 { c with kind := k' }) W (by omega)
  rw [read_cmd hok (by simp only; omega) (by simp only; omega) (by omega)] at hrB
  simp only at hrB
  have hcD := fun W => cmd21_any W (only21 { c with kind := k' }) (only_bd hbc) (by rw [only_cmd]; omega)
  rw [only_cmd] at hcD
  have hok2 := only_kind { c with kind := k' }
  simp only at hok2
  obtain ⟨D, hD⟩ : ∃ D, cmd21 { c with kind := k' } = D := ⟨_, rfl⟩
  rw [hD] at hcC hrB hcD hlc
  obtain ⟨b2, hb2⟩ : ∃ b2, only21 { c with kind := k' } = b2 := ⟨_, rfl⟩
  rw [hb2] at hrB hcD hok2
  have hcA : co = 0 → Hid (∀ W, Calls Try.prog 22 #[cmV a] W fun e w' => e = .returned (.string ⟨s.toArray⟩) ∧ Below W.heap.size W w') := fun e => by
    subst e
    have := fun W => cmd21_any W a hbdA (by rw [hcr a rfl]; omega)
    rw [hcr a rfl] at this
    exact Lib.hid this
  obtain ⟨kd, f, g, d, cu, n, fi⟩ := c
  obtain ⟨bk, bf, bg, bd_, bcu, bn, bfi⟩ := b2
  obtain ⟨ak, af, ag, ad, acu, an, afi⟩ := a
  simp only at hok2
  subst hok2
  unfold cmV
  unfold cmV at hra hrB hcC hcD hcA
  unfold cmC at *
  simp only at *
  replace hK := Lib.hid hK
  replace hb0 := Lib.hid hb0
  replace hra := Lib.hid hra
  replace hrB := Lib.hid hrB
  replace hcC := Lib.hid hcC
  replace hcD := Lib.hid hcD
  clear hbdA hcr hca hc hbc hok hD hb2
  by_cases hc0 : co = 0
  · have hcA2 := hcA hc0
    subst hc0
    clear hcA
    go_enter Try.func6, Try.ntmps6
    go_wp2_with fail
    refine (hra.out _).mono ?_
    rintro e w1 ⟨rfl, b1⟩
    have hbk := (Below.refl w1.heap.size w1).alloc (Nat.le_refl _) (.cells [Value.int .i64 ak, .string ⟨af.toArray⟩, .string ⟨ag.toArray⟩, .string ⟨ad.toArray⟩, .int .i64 an, .int .i64 afi, .string ⟨acu.toArray⟩].toArray 32)
    have hK1 := Lib.hid ((hK.out.next b1).next hbk)
    have hb1 := Lib.hid ((hb0.out.trans (b1.mono hb0.out.size)).trans (hbk.mono (Nat.le_trans hb0.out.size b1.size)))
    have hA := Lib.hid (arrAt_new w1 32 [Value.int .i64 ak, .string ⟨af.toArray⟩, .string ⟨ag.toArray⟩, .string ⟨ad.toArray⟩, .int .i64 an, .int .i64 afi, .string ⟨acu.toArray⟩])
    clear b1 hra hbk hb0 hK
    go_upto_region 4 with fail
    refine hide_world (K := fun a w' => Code.wp _ _ _ a w') (R := fun W => ArrAt W w.heap.size 32 [Value.int .i64 kd, .string ⟨f.toArray⟩, .string ⟨g.toArray⟩, .string ⟨d.toArray⟩, .int .i64 n, .int .i64 fi, .string ⟨cu.toArray⟩] ∧ ArrAt W w1.heap.size 32 [Value.int .i64 ak, .string ⟨af.toArray⟩, .string ⟨ag.toArray⟩, .string ⟨ad.toArray⟩, .int .i64 an, .int .i64 afi, .string ⟨acu.toArray⟩] ∧ Below w.heap.size w W) ⟨hK1.out, hA.out, hb1.out⟩ ?_
    intro W2 hW2
    clear hK1 hA hb1
    obtain ⟨hK2, hA2, hb2⟩ := hW2.out
    have a0 := hA2.cell 0
    have a1 := hA2.cell 1
    have a2 := hA2.cell 2
    have a3 := hA2.cell 3
    have a4 := hA2.cell 4
    have a5 := hA2.cell 5
    have a6 := hA2.cell 6
    simp only [List.getElem?_cons_zero, List.getElem?_cons_succ] at a0 a1 a2 a3 a4 a5 a6
    replace hK2 := Lib.hid hK2
    replace hb2 := Lib.hid hb2
    clear hA2 hW2
    go_wp2_with fail
    refine (hcA2.out _).mono ?_
    rintro e w3 ⟨rfl, b3⟩
    replace hK2 := Lib.hid (hK2.out.next b3)
    replace hb2 := Lib.hid (hb2.out.trans (b3.mono hb2.out.size))
    clear b3 hcA2 a0 a1 a2 a3 a4 a5 a6
    have c0 := hK2.out.cell 0
    have s0 := hK2.out.soft 0
    simp only [List.getElem?_cons_zero] at c0
    go_upto_region 7 with fail
    refine hide_world (K := fun a w' => Code.wp _ _ _ a w') (R := fun W => ArrAt W w.heap.size 32 [Value.int .i64 bk, .string ⟨f.toArray⟩, .string ⟨g.toArray⟩, .string ⟨d.toArray⟩, .int .i64 n, .int .i64 fi, .string ⟨cu.toArray⟩] ∧ Below w.heap.size w W) ⟨hK2.out.set 0 _, hb2.out.setCell (p := ⟨w.heap.size, 0, none⟩) (Nat.le_refl _) _⟩ ?_
    intro W4 hW4
    clear hK2 hb2 c0 s0
    obtain ⟨hK4, hb4⟩ := hW4.out
    have c0 := hK4.cell 0
    have c1 := hK4.cell 1
    have c2 := hK4.cell 2
    have c3 := hK4.cell 3
    have c4 := hK4.cell 4
    have c5 := hK4.cell 5
    have c6 := hK4.cell 6
    simp only [List.getElem?_cons_zero, List.getElem?_cons_succ] at c0 c1 c2 c3 c4 c5 c6
    replace hK4 := Lib.hid hK4
    replace hb4 := Lib.hid hb4
    clear hW4
    go_wp2_with fail
    refine (hcC.out _).mono ?_
    rintro e w5 ⟨rfl, b5⟩
    replace hK4 := Lib.hid (hK4.out.next b5)
    replace hb4 := Lib.hid (hb4.out.trans (b5.mono hb4.out.size))
    clear b5 c0 c1 c2 c3 c4 c5 c6
    go_wp2_with fail
    refine (hrB.out _).mono ?_
    rintro e w6 ⟨rfl, b6⟩
    have hbk := (Below.refl w6.heap.size w6).alloc (Nat.le_refl _) (.cells [Value.int .i64 bk, .string ⟨bf.toArray⟩, .string ⟨bg.toArray⟩, .string ⟨bd_.toArray⟩, .int .i64 bn, .int .i64 bfi, .string ⟨bcu.toArray⟩].toArray 32)
    have hK6 := Lib.hid ((hK4.out.next b6).next hbk)
    have hb6 := Lib.hid ((hb4.out.trans (b6.mono hb4.out.size)).trans (hbk.mono (Nat.le_trans hb4.out.size b6.size)))
    have hB := Lib.hid (arrAt_new w6 32 [Value.int .i64 bk, .string ⟨bf.toArray⟩, .string ⟨bg.toArray⟩, .string ⟨bd_.toArray⟩, .int .i64 bn, .int .i64 bfi, .string ⟨bcu.toArray⟩])
    clear b6 hrB hbk hb4 hK4
    go_upto_region 8 with fail
    refine hide_world (K := fun a w' => Code.wp _ _ _ a w') (R := fun W => ArrAt W w.heap.size 32 [Value.int .i64 bk, .string ⟨f.toArray⟩, .string ⟨g.toArray⟩, .string ⟨d.toArray⟩, .int .i64 n, .int .i64 fi, .string ⟨cu.toArray⟩] ∧ ArrAt W w6.heap.size 32 [Value.int .i64 bk, .string ⟨bf.toArray⟩, .string ⟨bg.toArray⟩, .string ⟨bd_.toArray⟩, .int .i64 bn, .int .i64 bfi, .string ⟨bcu.toArray⟩] ∧ Below w.heap.size w W) ⟨hK6.out, hB.out, hb6.out⟩ ?_
    intro W8 hW8
    clear hK6 hB hb6
    obtain ⟨hK8, hB8, hb8⟩ := hW8.out
    obtain ⟨K7, hK7⟩ : ∃ K7, w6.heap.size = K7 := ⟨_, rfl⟩
    rw [hK7] at hB8 ⊢
    replace hK7 := Lib.hid hK7
    have hkp := Lib.hid (fun V (hb : Below W8.heap.size W8 V) => (⟨(hK8.next hb).cell 0, (hK8.next hb).cell 1, (hK8.next hb).cell 2, (hK8.next hb).cell 3, (hK8.next hb).cell 4, (hK8.next hb).cell 5, (hK8.next hb).cell 6, (hB8.next hb).cell 0, (hB8.next hb).cell 1, (hB8.next hb).cell 2, (hB8.next hb).cell 3, (hB8.next hb).cell 4, (hB8.next hb).cell 5, (hB8.next hb).cell 6⟩ : V.cell? ⟨w.heap.size, 0, none⟩ = some (.int .i64 bk) ∧ V.cell? ⟨w.heap.size, 1, none⟩ = some (.string ⟨f.toArray⟩) ∧ V.cell? ⟨w.heap.size, 2, none⟩ = some (.string ⟨g.toArray⟩) ∧ V.cell? ⟨w.heap.size, 3, none⟩ = some (.string ⟨d.toArray⟩) ∧ V.cell? ⟨w.heap.size, 4, none⟩ = some (.int .i64 n) ∧ V.cell? ⟨w.heap.size, 5, none⟩ = some (.int .i64 fi) ∧ V.cell? ⟨w.heap.size, 6, none⟩ = some (.string ⟨cu.toArray⟩) ∧ V.cell? ⟨K7, 0, none⟩ = some (.int .i64 bk) ∧ V.cell? ⟨K7, 1, none⟩ = some (.string ⟨bf.toArray⟩) ∧ V.cell? ⟨K7, 2, none⟩ = some (.string ⟨bg.toArray⟩) ∧ V.cell? ⟨K7, 3, none⟩ = some (.string ⟨bd_.toArray⟩) ∧ V.cell? ⟨K7, 4, none⟩ = some (.int .i64 bn) ∧ V.cell? ⟨K7, 5, none⟩ = some (.int .i64 bfi) ∧ V.cell? ⟨K7, 6, none⟩ = some (.string ⟨bcu.toArray⟩)))
    replace hb8 := Lib.hid hb8
    clear hK8 hB8 hW8
    go_region_held3 (fun W => W.cell? ⟨w.heap.size, 0, none⟩ = some (.int .i64 bk) ∧ W.cell? ⟨w.heap.size, 1, none⟩ = some (.string ⟨f.toArray⟩) ∧ W.cell? ⟨w.heap.size, 2, none⟩ = some (.string ⟨g.toArray⟩) ∧ W.cell? ⟨w.heap.size, 3, none⟩ = some (.string ⟨d.toArray⟩) ∧ W.cell? ⟨w.heap.size, 4, none⟩ = some (.int .i64 n) ∧ W.cell? ⟨w.heap.size, 5, none⟩ = some (.int .i64 fi) ∧ W.cell? ⟨w.heap.size, 6, none⟩ = some (.string ⟨cu.toArray⟩) ∧ W.cell? ⟨K7, 0, none⟩ = some (.int .i64 bk) ∧ W.cell? ⟨K7, 1, none⟩ = some (.string ⟨bf.toArray⟩) ∧ W.cell? ⟨K7, 2, none⟩ = some (.string ⟨bg.toArray⟩) ∧ W.cell? ⟨K7, 3, none⟩ = some (.string ⟨bd_.toArray⟩) ∧ W.cell? ⟨K7, 4, none⟩ = some (.int .i64 bn) ∧ W.cell? ⟨K7, 5, none⟩ = some (.int .i64 bfi) ∧ W.cell? ⟨K7, 6, none⟩ = some (.string ⟨bcu.toArray⟩)) (first | exact hkp.out _ b12.out | exact hkp.out _ b11.out | exact hkp.out _ b10.out | exact hkp.out _ ((drawn_drew _).below _)) (first
      | (go_at_call 11; ((with_reducible refine (haw.out _).mono ?_); rintro e w10 ⟨rfl, bb⟩; have b10 := Lib.hid (((drawn_drew W8).below W8.heap.size).andThen bb); clear bb))
      | (go_at_call 22; ((with_reducible refine (hcD.out _).mono ?_); rintro e w11 ⟨rfl, bb⟩; have b11 := Lib.hid (b10.out.andThen bb); clear bb))
      | (go_at_call 22; ((with_reducible refine (hcC.out _).mono ?_); rintro e w12 ⟨rfl, bb⟩; have b12 := Lib.hid (b11.out.andThen bb); clear bb)))
    go_wp2_with fail
    go_ret
    exact ⟨rfl, hb8.out.trans (b12.out.mono hb8.out.size)⟩
  · have q0 : (co == 0) = false := by simpa using hc0
    clear hc0 hcA
    go_enter Try.func6, Try.ntmps6
    go_wp2_with fail
    refine (hra.out _).mono ?_
    rintro e w1 ⟨rfl, b1⟩
    have hbk := (Below.refl w1.heap.size w1).alloc (Nat.le_refl _) (.cells [Value.int .i64 ak, .string ⟨af.toArray⟩, .string ⟨ag.toArray⟩, .string ⟨ad.toArray⟩, .int .i64 an, .int .i64 afi, .string ⟨acu.toArray⟩].toArray 32)
    have hK1 := Lib.hid ((hK.out.next b1).next hbk)
    have hb1 := Lib.hid ((hb0.out.trans (b1.mono hb0.out.size)).trans (hbk.mono (Nat.le_trans hb0.out.size b1.size)))
    have hA := Lib.hid (arrAt_new w1 32 [Value.int .i64 ak, .string ⟨af.toArray⟩, .string ⟨ag.toArray⟩, .string ⟨ad.toArray⟩, .int .i64 an, .int .i64 afi, .string ⟨acu.toArray⟩])
    clear b1 hra hbk hb0 hK
    go_upto_region 4 with fail
    refine hide_world (K := fun a w' => Code.wp _ _ _ a w') (R := fun W => ArrAt W w.heap.size 32 [Value.int .i64 kd, .string ⟨f.toArray⟩, .string ⟨g.toArray⟩, .string ⟨d.toArray⟩, .int .i64 n, .int .i64 fi, .string ⟨cu.toArray⟩] ∧ ArrAt W w1.heap.size 32 [Value.int .i64 ak, .string ⟨af.toArray⟩, .string ⟨ag.toArray⟩, .string ⟨ad.toArray⟩, .int .i64 an, .int .i64 afi, .string ⟨acu.toArray⟩] ∧ Below w.heap.size w W) ⟨hK1.out, hA.out, hb1.out⟩ ?_
    intro W2 hW2
    clear hK1 hA hb1
    obtain ⟨hK2, hA2, hb2⟩ := hW2.out
    replace hK2 := Lib.hid hK2
    replace hb2 := Lib.hid hb2
    clear hA2 hW2
    have c0 := hK2.out.cell 0
    have s0 := hK2.out.soft 0
    simp only [List.getElem?_cons_zero] at c0
    go_upto_region 7 with fail
    refine hide_world (K := fun a w' => Code.wp _ _ _ a w') (R := fun W => ArrAt W w.heap.size 32 [Value.int .i64 bk, .string ⟨f.toArray⟩, .string ⟨g.toArray⟩, .string ⟨d.toArray⟩, .int .i64 n, .int .i64 fi, .string ⟨cu.toArray⟩] ∧ Below w.heap.size w W) ⟨hK2.out.set 0 _, hb2.out.setCell (p := ⟨w.heap.size, 0, none⟩) (Nat.le_refl _) _⟩ ?_
    intro W4 hW4
    clear hK2 hb2 c0 s0
    obtain ⟨hK4, hb4⟩ := hW4.out
    have c0 := hK4.cell 0
    have c1 := hK4.cell 1
    have c2 := hK4.cell 2
    have c3 := hK4.cell 3
    have c4 := hK4.cell 4
    have c5 := hK4.cell 5
    have c6 := hK4.cell 6
    simp only [List.getElem?_cons_zero, List.getElem?_cons_succ] at c0 c1 c2 c3 c4 c5 c6
    replace hK4 := Lib.hid hK4
    replace hb4 := Lib.hid hb4
    clear hW4
    go_wp2_with fail
    refine (hcC.out _).mono ?_
    rintro e w5 ⟨rfl, b5⟩
    replace hK4 := Lib.hid (hK4.out.next b5)
    replace hb4 := Lib.hid (hb4.out.trans (b5.mono hb4.out.size))
    clear b5 c0 c1 c2 c3 c4 c5 c6
    go_wp2_with fail
    refine (hrB.out _).mono ?_
    rintro e w6 ⟨rfl, b6⟩
    have hbk := (Below.refl w6.heap.size w6).alloc (Nat.le_refl _) (.cells [Value.int .i64 bk, .string ⟨bf.toArray⟩, .string ⟨bg.toArray⟩, .string ⟨bd_.toArray⟩, .int .i64 bn, .int .i64 bfi, .string ⟨bcu.toArray⟩].toArray 32)
    have hK6 := Lib.hid ((hK4.out.next b6).next hbk)
    have hb6 := Lib.hid ((hb4.out.trans (b6.mono hb4.out.size)).trans (hbk.mono (Nat.le_trans hb4.out.size b6.size)))
    have hB := Lib.hid (arrAt_new w6 32 [Value.int .i64 bk, .string ⟨bf.toArray⟩, .string ⟨bg.toArray⟩, .string ⟨bd_.toArray⟩, .int .i64 bn, .int .i64 bfi, .string ⟨bcu.toArray⟩])
    clear b6 hrB hbk hb4 hK4
    go_upto_region 8 with fail
    refine hide_world (K := fun a w' => Code.wp _ _ _ a w') (R := fun W => ArrAt W w.heap.size 32 [Value.int .i64 bk, .string ⟨f.toArray⟩, .string ⟨g.toArray⟩, .string ⟨d.toArray⟩, .int .i64 n, .int .i64 fi, .string ⟨cu.toArray⟩] ∧ ArrAt W w6.heap.size 32 [Value.int .i64 bk, .string ⟨bf.toArray⟩, .string ⟨bg.toArray⟩, .string ⟨bd_.toArray⟩, .int .i64 bn, .int .i64 bfi, .string ⟨bcu.toArray⟩] ∧ Below w.heap.size w W) ⟨hK6.out, hB.out, hb6.out⟩ ?_
    intro W8 hW8
    clear hK6 hB hb6
    obtain ⟨hK8, hB8, hb8⟩ := hW8.out
    obtain ⟨K7, hK7⟩ : ∃ K7, w6.heap.size = K7 := ⟨_, rfl⟩
    rw [hK7] at hB8 ⊢
    replace hK7 := Lib.hid hK7
    have hkp := Lib.hid (fun V (hb : Below W8.heap.size W8 V) => (⟨(hK8.next hb).cell 0, (hK8.next hb).cell 1, (hK8.next hb).cell 2, (hK8.next hb).cell 3, (hK8.next hb).cell 4, (hK8.next hb).cell 5, (hK8.next hb).cell 6, (hB8.next hb).cell 0, (hB8.next hb).cell 1, (hB8.next hb).cell 2, (hB8.next hb).cell 3, (hB8.next hb).cell 4, (hB8.next hb).cell 5, (hB8.next hb).cell 6⟩ : V.cell? ⟨w.heap.size, 0, none⟩ = some (.int .i64 bk) ∧ V.cell? ⟨w.heap.size, 1, none⟩ = some (.string ⟨f.toArray⟩) ∧ V.cell? ⟨w.heap.size, 2, none⟩ = some (.string ⟨g.toArray⟩) ∧ V.cell? ⟨w.heap.size, 3, none⟩ = some (.string ⟨d.toArray⟩) ∧ V.cell? ⟨w.heap.size, 4, none⟩ = some (.int .i64 n) ∧ V.cell? ⟨w.heap.size, 5, none⟩ = some (.int .i64 fi) ∧ V.cell? ⟨w.heap.size, 6, none⟩ = some (.string ⟨cu.toArray⟩) ∧ V.cell? ⟨K7, 0, none⟩ = some (.int .i64 bk) ∧ V.cell? ⟨K7, 1, none⟩ = some (.string ⟨bf.toArray⟩) ∧ V.cell? ⟨K7, 2, none⟩ = some (.string ⟨bg.toArray⟩) ∧ V.cell? ⟨K7, 3, none⟩ = some (.string ⟨bd_.toArray⟩) ∧ V.cell? ⟨K7, 4, none⟩ = some (.int .i64 bn) ∧ V.cell? ⟨K7, 5, none⟩ = some (.int .i64 bfi) ∧ V.cell? ⟨K7, 6, none⟩ = some (.string ⟨bcu.toArray⟩)))
    replace hb8 := Lib.hid hb8
    clear hK8 hB8 hW8
    go_region_held3 (fun W => W.cell? ⟨w.heap.size, 0, none⟩ = some (.int .i64 bk) ∧ W.cell? ⟨w.heap.size, 1, none⟩ = some (.string ⟨f.toArray⟩) ∧ W.cell? ⟨w.heap.size, 2, none⟩ = some (.string ⟨g.toArray⟩) ∧ W.cell? ⟨w.heap.size, 3, none⟩ = some (.string ⟨d.toArray⟩) ∧ W.cell? ⟨w.heap.size, 4, none⟩ = some (.int .i64 n) ∧ W.cell? ⟨w.heap.size, 5, none⟩ = some (.int .i64 fi) ∧ W.cell? ⟨w.heap.size, 6, none⟩ = some (.string ⟨cu.toArray⟩) ∧ W.cell? ⟨K7, 0, none⟩ = some (.int .i64 bk) ∧ W.cell? ⟨K7, 1, none⟩ = some (.string ⟨bf.toArray⟩) ∧ W.cell? ⟨K7, 2, none⟩ = some (.string ⟨bg.toArray⟩) ∧ W.cell? ⟨K7, 3, none⟩ = some (.string ⟨bd_.toArray⟩) ∧ W.cell? ⟨K7, 4, none⟩ = some (.int .i64 bn) ∧ W.cell? ⟨K7, 5, none⟩ = some (.int .i64 bfi) ∧ W.cell? ⟨K7, 6, none⟩ = some (.string ⟨bcu.toArray⟩)) (first | exact hkp.out _ b12.out | exact hkp.out _ b11.out | exact hkp.out _ b10.out | exact hkp.out _ ((drawn_drew _).below _)) (first
      | (go_at_call 11; ((with_reducible refine (haw.out _).mono ?_); rintro e w10 ⟨rfl, bb⟩; have b10 := Lib.hid (((drawn_drew W8).below W8.heap.size).andThen bb); clear bb))
      | (go_at_call 22; ((with_reducible refine (hcD.out _).mono ?_); rintro e w11 ⟨rfl, bb⟩; have b11 := Lib.hid (b10.out.andThen bb); clear bb))
      | (go_at_call 22; ((with_reducible refine (hcC.out _).mono ?_); rintro e w12 ⟨rfl, bb⟩; have b12 := Lib.hid (b11.out.andThen bb); clear bb)))
    go_wp2_with fail
    go_ret
    exact ⟨rfl, hb8.out.trans (b12.out.mono hb8.out.size)⟩
end Go.Proofs.Ytpfcamebkcengaa
