/- Layer 21, the reference: ReadCommand. -/
import Derived.Test.YtpfcamebkcengaaR21e
namespace Go.Proofs.Ytpfcamebkcengaa
open Go.RowKit

theorem FlPost.open {w : World} {F : Option (Cm21 × List UInt8)} {e : Ending} {w' : World} (h : FlPost w F e w') : ∃ (kx : Int) (fx gx dx cx : List UInt8) (nx ix : Int) (rest : List UInt8), e = .returned (.tuple #[.agg #[.int .i64 kx, .string ⟨fx.toArray⟩, .string ⟨gx.toArray⟩, .string ⟨dx.toArray⟩, .int .i64 nx, .int .i64 ix, .string ⟨cx.toArray⟩], .string ⟨rest.toArray⟩, .bool F.isSome]) ∧ Hid (∀ y t, F = some (y, t) → (⟨kx, fx, gx, dx, cx, nx, ix⟩ : Cm21) = y ∧ rest = t) ∧ Hid (Below w.heap.size w w') := by
  obtain ⟨⟨kx, fx, gx, dx, cx, nx, ix⟩, rest, h1, h2, h3⟩ := h
  exact ⟨kx, fx, gx, dx, cx, nx, ix, rest, h1, Lib.hid h2, Lib.hid h3⟩
set_option maxHeartbeats 8000000 in
set_option maxRecDepth 100000 in
theorem rreadCommand_any (s : List UInt8) (w : World) (hl : s.length ≤ 1000000000) :
    Calls Try.prog 21 #[.string ⟨s.toArray⟩] w fun e w' => e = .returned (.tuple #[cmV (readC21 s).2, .int .i64 (readC21 s).1]) ∧ Below w.heap.size w w' := by
  have hb0 := (Below.refl w.heap.size w).alloc (Nat.le_refl _) (.cells #[.int .i64 0, .string ⟨#[]⟩, .string ⟨#[]⟩, .string ⟨#[]⟩, .int .i64 0, .int .i64 0, .string ⟨#[]⟩] 32)
  have hx0 := arrAt_new w 32 [Value.int .i64 0, .string ⟨#[]⟩, .string ⟨#[]⟩, .string ⟨#[]⟩, .int .i64 0, .int .i64 0, .string ⟨#[]⟩]
  replace hx0 := Lib.hid hx0
  replace hb0 := Lib.hid hb0
  obtain ⟨⟨co, cm⟩, hrc⟩ : ∃ p, readC21 s = p := ⟨_, rfl⟩
  rw [hrc]
  cases s with
  | nil =>
    have hv : (co, cm) = (2, cm0 0) := by rw [← hrc]; rfl
    injection hv with hv1 hv2
    subst hv1 hv2
    clear hrc
    go_enter Try.func21, Try.ntmps21
    go_upto_region 1 with fail
    refine hide_world (K := fun a w' => Code.wp _ _ _ a w') (R := fun W => ArrAt W w.heap.size 32 [.int .i64 0, .string ⟨#[]⟩, .string ⟨#[]⟩, .string ⟨#[]⟩, .int .i64 0, .int .i64 0, .string ⟨#[]⟩] ∧ Below w.heap.size w W) ⟨hx0.out, hb0.out⟩ ?_
    intro W4 hW4
    clear hx0 hb0
    obtain ⟨hx0, hb0⟩ := hW4.out
    have hcell := fun i => hx0.cell i
    have hsoft := fun i => hx0.soft i
    have z0 := hcell 0
    have s0 := hsoft 0
    have z1 := hcell 1
    have s1 := hsoft 1
    have z2 := hcell 2
    have s2 := hsoft 2
    have z3 := hcell 3
    have s3 := hsoft 3
    have z4 := hcell 4
    have s4 := hsoft 4
    have z5 := hcell 5
    have s5 := hsoft 5
    have z6 := hcell 6
    have s6 := hsoft 6
    simp only [List.getElem?_cons_zero, List.getElem?_cons_succ] at z0 z1 z2 z3 z4 z5 z6
    replace hb0 := Lib.hid hb0
    replace hx0 := Lib.hid hx0
    clear hcell hsoft hW4
    go_wp2_with fail
    refine bodyPost_ret (v := .tuple #[cmV (cm0 0), .int .i64 2]) (by simp [results, Try.results21, cmV, cmC, cm0, go_sem, z0, z1, z2, z3, z4, z5, z6]) rfl ?_
    exact ⟨rfl, (((((((hb0.out).setCell (p := ⟨w.heap.size, 0, none⟩) (Nat.le_refl _) _).setCell (p := ⟨w.heap.size, 1, none⟩) (Nat.le_refl _) _).setCell (p := ⟨w.heap.size, 2, none⟩) (Nat.le_refl _) _).setCell (p := ⟨w.heap.size, 3, none⟩) (Nat.le_refl _) _).setCell (p := ⟨w.heap.size, 4, none⟩) (Nat.le_refl _) _).setCell (p := ⟨w.heap.size, 5, none⟩) (Nat.le_refl _) _).setCell (p := ⟨w.heap.size, 6, none⟩) (Nat.le_refl _) _⟩
  | cons b r =>
    by_cases hlong : 131072 < (b :: r).length
    · have hv : (co, cm) = (8, cm0 0) := by rw [← hrc]; unfold readC21; rw [if_pos hlong]
      injection hv with hv1 hv2
      subst hv1 hv2
      have hli : (131072 : Int) < ((b :: r).length : Int) := by omega
      obtain ⟨S, hS⟩ : ∃ S, b :: r = S := ⟨_, rfl⟩
      rw [hS] at hli ⊢
      clear hrc hlong hS
      go_enter Try.func21, Try.ntmps21
      go_upto_region 1 with fail
      refine hide_world (K := fun a w' => Code.wp _ _ _ a w') (R := fun W => ArrAt W w.heap.size 32 [.int .i64 0, .string ⟨#[]⟩, .string ⟨#[]⟩, .string ⟨#[]⟩, .int .i64 0, .int .i64 0, .string ⟨#[]⟩] ∧ Below w.heap.size w W) ⟨hx0.out, hb0.out⟩ ?_
      intro W4 hW4
      clear hx0 hb0
      obtain ⟨hx0, hb0⟩ := hW4.out
      have hcell := fun i => hx0.cell i
      have hsoft := fun i => hx0.soft i
      have z0 := hcell 0
      have s0 := hsoft 0
      have z1 := hcell 1
      have s1 := hsoft 1
      have z2 := hcell 2
      have s2 := hsoft 2
      have z3 := hcell 3
      have s3 := hsoft 3
      have z4 := hcell 4
      have s4 := hsoft 4
      have z5 := hcell 5
      have s5 := hsoft 5
      have z6 := hcell 6
      have s6 := hsoft 6
      simp only [List.getElem?_cons_zero, List.getElem?_cons_succ] at z0 z1 z2 z3 z4 z5 z6
      replace hb0 := Lib.hid hb0
      replace hx0 := Lib.hid hx0
      clear hcell hsoft hW4
      go_wp2_with fail
      refine bodyPost_ret (v := .tuple #[cmV (cm0 0), .int .i64 8]) (by simp [results, Try.results21, cmV, cmC, cm0, go_sem, z0, z1, z2, z3, z4, z5, z6]) rfl ?_
      exact ⟨rfl, (((((((hb0.out).setCell (p := ⟨w.heap.size, 0, none⟩) (Nat.le_refl _) _).setCell (p := ⟨w.heap.size, 1, none⟩) (Nat.le_refl _) _).setCell (p := ⟨w.heap.size, 2, none⟩) (Nat.le_refl _) _).setCell (p := ⟨w.heap.size, 3, none⟩) (Nat.le_refl _) _).setCell (p := ⟨w.heap.size, 4, none⟩) (Nat.le_refl _) _).setCell (p := ⟨w.heap.size, 5, none⟩) (Nat.le_refl _) _).setCell (p := ⟨w.heap.size, 6, none⟩) (Nat.le_refl _) _⟩
    · have hli : ¬ (131072 : Int) < ((b :: r).length : Int) := by omega
      obtain ⟨S, hS⟩ : ∃ S, b :: r = S := ⟨_, rfl⟩
      obtain ⟨kd, hkd⟩ : ∃ kd : Int, (b.toNat : Int) = kd := ⟨_, rfl⟩
      have hkb : 0 ≤ kd ∧ kd ≤ 255 := by have := b.toNat_lt; omega
      have hwk : IntKind.i64.wrap kd = kd := IntWalk.i64_in _ (by omega)
      have hbt : bt S 0 = kd := by rw [← hS, ← hkd]; rfl
      have hdr : S.drop 1 = r := by rw [← hS]; rfl
      have hSl : 0 < S.length := by rw [← hS]; simp
      have hSl1 : 1 ≤ S.length := hSl
      have hSi : (0 : Int) < (S.length : Int) := by omega
      have hSi1 : (1 : Int) ≤ (S.length : Int) := by omega
      have hne : (S == []) = false := by rw [← hS]; rfl
      have hrl : r.length ≤ 1000000000 := by simp only [List.length_cons] at hl; omega
      have hf := Lib.hid (fun W => (rfields_any kd r W hrl (by omega) (by omega)).mono fun _ _ h => h.open)
      have hval : (co, cm) = match fields21 kd r with | some (c, []) => (0, c) | _ => (2, cm0 0) := by
        rw [← hrc, readC_cmN _ (by omega), ← hkd]
        rfl
      rw [hS] at hli ⊢
      unfold cmV cmC cm0 at hf
      simp only at hf
      obtain ⟨F, hF⟩ : ∃ F, fields21 kd r = F := ⟨_, rfl⟩
      rw [hF] at hf hval
      replace hval := Lib.hid hval
      clear hrc hlong hS hkd hF hl
      go_enter Try.func21, Try.ntmps21
      go_upto_region 1 with fail
      refine hide_world (K := fun a w' => Code.wp _ _ _ a w') (R := fun W => ArrAt W w.heap.size 32 [.int .i64 0, .string ⟨#[]⟩, .string ⟨#[]⟩, .string ⟨#[]⟩, .int .i64 0, .int .i64 0, .string ⟨#[]⟩] ∧ Below w.heap.size w W) ⟨hx0.out, hb0.out⟩ ?_
      intro W4 hW4
      clear hx0 hb0
      obtain ⟨hx0, hb0⟩ := hW4.out
      replace hb0 := Lib.hid hb0
      replace hx0 := Lib.hid hx0
      clear hW4
      go_wp2_with fail
      go_region_with ((go_at_call 40; ((with_reducible refine (hf.out _).mono ?_); rintro e w5 ⟨kx, fx, gx, dx, cx, nx, ix, rest, rfl, hx, hb5⟩; (try (have hA := ArrAt.next (arrAt_new W4.drew 32 [Value.int .i64 0, .string ⟨#[]⟩, .string ⟨#[]⟩, .string ⟨#[]⟩, .int .i64 0, .int .i64 0, .string ⟨#[]⟩]) hb5.out; have y0 : w5.cell? ⟨W4.heap.size, 0, none⟩ = some (.int .i64 0) := hA.cell 0; have v0 : w5.frozen? ⟨W4.heap.size, 0, none⟩ = false := hA.soft 0; have y1 : w5.cell? ⟨W4.heap.size, 1, none⟩ = some (.string ⟨#[]⟩) := hA.cell 1; have v1 : w5.frozen? ⟨W4.heap.size, 1, none⟩ = false := hA.soft 1; have y2 : w5.cell? ⟨W4.heap.size, 2, none⟩ = some (.string ⟨#[]⟩) := hA.cell 2; have v2 : w5.frozen? ⟨W4.heap.size, 2, none⟩ = false := hA.soft 2; have y3 : w5.cell? ⟨W4.heap.size, 3, none⟩ = some (.string ⟨#[]⟩) := hA.cell 3; have v3 : w5.frozen? ⟨W4.heap.size, 3, none⟩ = false := hA.soft 3; have y4 : w5.cell? ⟨W4.heap.size, 4, none⟩ = some (.int .i64 0) := hA.cell 4; have v4 : w5.frozen? ⟨W4.heap.size, 4, none⟩ = false := hA.soft 4; have y5 : w5.cell? ⟨W4.heap.size, 5, none⟩ = some (.int .i64 0) := hA.cell 5; have v5 : w5.frozen? ⟨W4.heap.size, 5, none⟩ = false := hA.soft 5; have y6 : w5.cell? ⟨W4.heap.size, 6, none⟩ = some (.string ⟨#[]⟩) := hA.cell 6; have v6 : w5.frozen? ⟨W4.heap.size, 6, none⟩ = false := hA.soft 6; replace hA := Lib.hid hA)))))
      · have hq : Below W4.heap.size W4 w5 := ((drawn_drew W4).below W4.heap.size).trans (hb5.out.mono (by simp))
        have hal := (Below.refl w5.heap.size w5).alloc (Nat.le_refl _) (.cells #[.int .i64 kx, .string ⟨fx.toArray⟩, .string ⟨gx.toArray⟩, .string ⟨dx.toArray⟩, .int .i64 nx, .int .i64 ix, .string ⟨cx.toArray⟩] 32)
        go_upto_region 6 with fail
        refine hide_world (K := fun a w' => Code.wp _ _ _ a w') (R := fun W => ArrAt W w5.heap.size 32 [.int .i64 kx, .string ⟨fx.toArray⟩, .string ⟨gx.toArray⟩, .string ⟨dx.toArray⟩, .int .i64 nx, .int .i64 ix, .string ⟨cx.toArray⟩] ∧ ArrAt W w.heap.size 32 [.int .i64 0, .string ⟨#[]⟩, .string ⟨#[]⟩, .string ⟨#[]⟩, .int .i64 0, .int .i64 0, .string ⟨#[]⟩] ∧ Below w.heap.size w W) ⟨arrAt_new w5 32 [Value.int .i64 kx, .string ⟨fx.toArray⟩, .string ⟨gx.toArray⟩, .string ⟨dx.toArray⟩, .int .i64 nx, .int .i64 ix, .string ⟨cx.toArray⟩], (hx0.out.next hq).next hal, (hb0.out.trans (hq.mono hb0.out.size)).trans (hal.mono (Nat.le_trans hb0.out.size hq.size))⟩ ?_
        intro W7 hW7
        clear hq hx0 hb0
        obtain ⟨hK7, hx7, hb7⟩ := hW7.out
        have hcK := fun i => hK7.cell i
        have hcell := fun i => hx7.cell i
        have hsoft := fun i => hx7.soft i
        have c0 := hcK 0
        have z0 := hcell 0
        have s0 := hsoft 0
        have c1 := hcK 1
        have z1 := hcell 1
        have s1 := hsoft 1
        have c2 := hcK 2
        have z2 := hcell 2
        have s2 := hsoft 2
        have c3 := hcK 3
        have z3 := hcell 3
        have s3 := hsoft 3
        have c4 := hcK 4
        have z4 := hcell 4
        have s4 := hsoft 4
        have c5 := hcK 5
        have z5 := hcell 5
        have s5 := hsoft 5
        have c6 := hcK 6
        have z6 := hcell 6
        have s6 := hsoft 6
        simp only [List.getElem?_cons_zero, List.getElem?_cons_succ] at c0 z0 c1 z1 c2 z2 c3 z3 c4 z4 c5 z5 c6 z6
        replace hb7 := Lib.hid hb7
        clear hcK hcell hsoft hK7 hx7 hW7
        cases F with
        | none =>
          have hv := hval.out
          injection hv with hv1 hv2
          subst hv1 hv2
          simp only [Option.isSome_none]
          go_wp2_with fail
          refine bodyPost_ret (v := .tuple #[cmV (cm0 0), .int .i64 2]) (by simp [results, Try.results21, cmV, cmC, cm0, go_sem, z0, z1, z2, z3, z4, z5, z6]) rfl ?_
          exact ⟨rfl, (((((((hb7.out).setCell (p := ⟨w.heap.size, 0, none⟩) (Nat.le_refl _) _).setCell (p := ⟨w.heap.size, 1, none⟩) (Nat.le_refl _) _).setCell (p := ⟨w.heap.size, 2, none⟩) (Nat.le_refl _) _).setCell (p := ⟨w.heap.size, 3, none⟩) (Nat.le_refl _) _).setCell (p := ⟨w.heap.size, 4, none⟩) (Nat.le_refl _) _).setCell (p := ⟨w.heap.size, 5, none⟩) (Nat.le_refl _) _).setCell (p := ⟨w.heap.size, 6, none⟩) (Nat.le_refl _) _⟩
        | some p =>
          obtain ⟨c, tt⟩ := p
          obtain ⟨hx1, hx2⟩ := hx.out c tt rfl
          subst hx1 hx2
          simp only [Option.isSome_some]
          cases rest with
          | nil =>
            have hv := hval.out
            injection hv with hv1 hv2
            subst hv1 hv2
            go_wp2_with fail
            refine bodyPost_ret (v := .tuple #[cmV ⟨kx, fx, gx, dx, cx, nx, ix⟩, .int .i64 0]) (by simp [results, Try.results21, cmV, cmC, go_sem, z0, z1, z2, z3, z4, z5, z6]) rfl ?_
            exact ⟨rfl, (((((((hb7.out).setCell (p := ⟨w.heap.size, 0, none⟩) (Nat.le_refl _) _).setCell (p := ⟨w.heap.size, 1, none⟩) (Nat.le_refl _) _).setCell (p := ⟨w.heap.size, 2, none⟩) (Nat.le_refl _) _).setCell (p := ⟨w.heap.size, 3, none⟩) (Nat.le_refl _) _).setCell (p := ⟨w.heap.size, 4, none⟩) (Nat.le_refl _) _).setCell (p := ⟨w.heap.size, 5, none⟩) (Nat.le_refl _) _).setCell (p := ⟨w.heap.size, 6, none⟩) (Nat.le_refl _) _⟩
          | cons y ys =>
            have hv := hval.out
            injection hv with hv1 hv2
            subst hv1 hv2
            have hrest : ((y :: ys : List UInt8) == []) = false := rfl
            obtain ⟨Y, hY⟩ : ∃ Y, y :: ys = Y := ⟨_, rfl⟩
            rw [hY] at hrest ⊢
            replace hY := Lib.hid hY
            go_wp2_with fail
            refine bodyPost_ret (v := .tuple #[cmV (cm0 0), .int .i64 2]) (by simp [results, Try.results21, cmV, cmC, cm0, go_sem, z0, z1, z2, z3, z4, z5, z6]) rfl ?_
            exact ⟨rfl, (((((((hb7.out).setCell (p := ⟨w.heap.size, 0, none⟩) (Nat.le_refl _) _).setCell (p := ⟨w.heap.size, 1, none⟩) (Nat.le_refl _) _).setCell (p := ⟨w.heap.size, 2, none⟩) (Nat.le_refl _) _).setCell (p := ⟨w.heap.size, 3, none⟩) (Nat.le_refl _) _).setCell (p := ⟨w.heap.size, 4, none⟩) (Nat.le_refl _) _).setCell (p := ⟨w.heap.size, 5, none⟩) (Nat.le_refl _) _).setCell (p := ⟨w.heap.size, 6, none⟩) (Nat.le_refl _) _⟩
      all_goals
        have hq : Below W4.heap.size W4 w5 := (((drawn_drew W4).below W4.heap.size).alloc (by simp) (.cells #[.int .i64 0, .string ⟨#[]⟩, .string ⟨#[]⟩, .string ⟨#[]⟩, .int .i64 0, .int .i64 0, .string ⟨#[]⟩] 32)).trans (hb5.out.mono (by simp))
        have hneq : w.heap.size ≠ W4.heap.size := Nat.ne_of_lt hx0.out.lt
        go_upto_region 6 with fail
        refine hide_world (K := fun a w' => Code.wp _ _ _ a w') (R := fun W => ArrAt W W4.heap.size 32 [.int .i64 kx, .string ⟨fx.toArray⟩, .string ⟨gx.toArray⟩, .string ⟨dx.toArray⟩, .int .i64 nx, .int .i64 ix, .string ⟨cx.toArray⟩] ∧ ArrAt W w.heap.size 32 [.int .i64 0, .string ⟨#[]⟩, .string ⟨#[]⟩, .string ⟨#[]⟩, .int .i64 0, .int .i64 0, .string ⟨#[]⟩] ∧ Below w.heap.size w W) ⟨(((((((hA.out).set 0 _).set 1 _).set 2 _).set 3 _).set 4 _).set 5 _).set 6 _, ((((((((hx0.out.next hq)).far 0 _ hneq).far 1 _ hneq).far 2 _ hneq).far 3 _ hneq).far 4 _ hneq).far 5 _ hneq).far 6 _ hneq, ((((((((hb0.out.trans (hq.mono hb0.out.size))).setCell (p := ⟨W4.heap.size, 0, none⟩) hb0.out.size _).setCell (p := ⟨W4.heap.size, 1, none⟩) hb0.out.size _).setCell (p := ⟨W4.heap.size, 2, none⟩) hb0.out.size _).setCell (p := ⟨W4.heap.size, 3, none⟩) hb0.out.size _).setCell (p := ⟨W4.heap.size, 4, none⟩) hb0.out.size _).setCell (p := ⟨W4.heap.size, 5, none⟩) hb0.out.size _).setCell (p := ⟨W4.heap.size, 6, none⟩) hb0.out.size _⟩ ?_
        intro W7 hW7
        clear hq hx0 hb0
        obtain ⟨hK7, hx7, hb7⟩ := hW7.out
        have hcK := fun i => hK7.cell i
        have hcell := fun i => hx7.cell i
        have hsoft := fun i => hx7.soft i
        have c0 := hcK 0
        have z0 := hcell 0
        have s0 := hsoft 0
        have c1 := hcK 1
        have z1 := hcell 1
        have s1 := hsoft 1
        have c2 := hcK 2
        have z2 := hcell 2
        have s2 := hsoft 2
        have c3 := hcK 3
        have z3 := hcell 3
        have s3 := hsoft 3
        have c4 := hcK 4
        have z4 := hcell 4
        have s4 := hsoft 4
        have c5 := hcK 5
        have z5 := hcell 5
        have s5 := hsoft 5
        have c6 := hcK 6
        have z6 := hcell 6
        have s6 := hsoft 6
        simp only [List.getElem?_cons_zero, List.getElem?_cons_succ] at c0 z0 c1 z1 c2 z2 c3 z3 c4 z4 c5 z5 c6 z6
        replace hb7 := Lib.hid hb7
        clear hcK hcell hsoft hK7 hx7 hW7
        cases F with
        | none =>
          have hv := hval.out
          injection hv with hv1 hv2
          subst hv1 hv2
          simp only [Option.isSome_none]
          go_wp2_with fail
          refine bodyPost_ret (v := .tuple #[cmV (cm0 0), .int .i64 2]) (by simp [results, Try.results21, cmV, cmC, cm0, go_sem, z0, z1, z2, z3, z4, z5, z6]) rfl ?_
          exact ⟨rfl, (((((((hb7.out).setCell (p := ⟨w.heap.size, 0, none⟩) (Nat.le_refl _) _).setCell (p := ⟨w.heap.size, 1, none⟩) (Nat.le_refl _) _).setCell (p := ⟨w.heap.size, 2, none⟩) (Nat.le_refl _) _).setCell (p := ⟨w.heap.size, 3, none⟩) (Nat.le_refl _) _).setCell (p := ⟨w.heap.size, 4, none⟩) (Nat.le_refl _) _).setCell (p := ⟨w.heap.size, 5, none⟩) (Nat.le_refl _) _).setCell (p := ⟨w.heap.size, 6, none⟩) (Nat.le_refl _) _⟩
        | some p =>
          obtain ⟨c, tt⟩ := p
          obtain ⟨hx1, hx2⟩ := hx.out c tt rfl
          subst hx1 hx2
          simp only [Option.isSome_some]
          cases rest with
          | nil =>
            have hv := hval.out
            injection hv with hv1 hv2
            subst hv1 hv2
            go_wp2_with fail
            refine bodyPost_ret (v := .tuple #[cmV ⟨kx, fx, gx, dx, cx, nx, ix⟩, .int .i64 0]) (by simp [results, Try.results21, cmV, cmC, go_sem, z0, z1, z2, z3, z4, z5, z6]) rfl ?_
            exact ⟨rfl, (((((((hb7.out).setCell (p := ⟨w.heap.size, 0, none⟩) (Nat.le_refl _) _).setCell (p := ⟨w.heap.size, 1, none⟩) (Nat.le_refl _) _).setCell (p := ⟨w.heap.size, 2, none⟩) (Nat.le_refl _) _).setCell (p := ⟨w.heap.size, 3, none⟩) (Nat.le_refl _) _).setCell (p := ⟨w.heap.size, 4, none⟩) (Nat.le_refl _) _).setCell (p := ⟨w.heap.size, 5, none⟩) (Nat.le_refl _) _).setCell (p := ⟨w.heap.size, 6, none⟩) (Nat.le_refl _) _⟩
          | cons y ys =>
            have hv := hval.out
            injection hv with hv1 hv2
            subst hv1 hv2
            have hrest : ((y :: ys : List UInt8) == []) = false := rfl
            obtain ⟨Y, hY⟩ : ∃ Y, y :: ys = Y := ⟨_, rfl⟩
            rw [hY] at hrest ⊢
            replace hY := Lib.hid hY
            go_wp2_with fail
            refine bodyPost_ret (v := .tuple #[cmV (cm0 0), .int .i64 2]) (by simp [results, Try.results21, cmV, cmC, cm0, go_sem, z0, z1, z2, z3, z4, z5, z6]) rfl ?_
            exact ⟨rfl, (((((((hb7.out).setCell (p := ⟨w.heap.size, 0, none⟩) (Nat.le_refl _) _).setCell (p := ⟨w.heap.size, 1, none⟩) (Nat.le_refl _) _).setCell (p := ⟨w.heap.size, 2, none⟩) (Nat.le_refl _) _).setCell (p := ⟨w.heap.size, 3, none⟩) (Nat.le_refl _) _).setCell (p := ⟨w.heap.size, 4, none⟩) (Nat.le_refl _) _).setCell (p := ⟨w.heap.size, 5, none⟩) (Nat.le_refl _) _).setCell (p := ⟨w.heap.size, 6, none⟩) (Nat.le_refl _) _⟩
end Go.Proofs.Ytpfcamebkcengaa
