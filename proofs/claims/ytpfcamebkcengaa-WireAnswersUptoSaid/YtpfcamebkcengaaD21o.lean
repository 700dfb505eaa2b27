/- Layer 21: ReadCommand. -/
import Derived.Test.YtpfcamebkcengaaD21n
namespace Go.Proofs.Ytpfcamebkcengaa
open Go.RowKit

theorem ended_cm (s : List UInt8) (h : s.length ≤ 131072) : readC21 s = match (resO (cmN s) == some []), cmN s with | true, some (c, _) => (0, c) | _, _ => (2, cm0 0) := by
  rw [readC_cmN s h]
  cases cmN s with
  | none => rfl
  | some p =>
    obtain ⟨x, t⟩ := p
    cases t with
    | nil => rfl
    | cons _ _ => rfl
set_option maxHeartbeats 4000000 in
set_option maxRecDepth 100000 in
theorem readCommand21_any (s : List UInt8) (w : World) (hl : s.length ≤ 1000000000) :
    Calls Try.prog 20 #[.string ⟨s.toArray⟩] w fun e w' => e = .returned (.tuple #[cmV (readC21 s).2, .int .i64 (readC21 s).1]) ∧ Below w.heap.size w w' := by
  have hb0 := (Below.refl w.heap.size w).alloc (Nat.le_refl _) (.cells #[.int .i64 0, .string ⟨#[]⟩, .string ⟨#[]⟩, .string ⟨#[]⟩, .int .i64 0, .int .i64 0, .string ⟨#[]⟩] 32)
  have hx0 := arrAt_new w 32 [Value.int .i64 0, .string ⟨#[]⟩, .string ⟨#[]⟩, .string ⟨#[]⟩, .int .i64 0, .int .i64 0, .string ⟨#[]⟩]
  by_cases hlong : 131072 < s.length
  · have hrc : readC21 s = (8, cm0 0) := by unfold readC21; rw [if_pos hlong]
    rw [hrc]
    have hli : (131072 : Int) < (s.length : Int) := by omega
    replace hx0 := Lib.hid hx0
    replace hb0 := Lib.hid hb0
    clear hrc hlong
    go_enter Try.func20, Try.ntmps20
    go_upto_region 1 with fail
    refine hide_world (K := fun a w' => Code.wp _ _ _ a w') (R := fun W => ArrAt W w.heap.size 32 [.int .i64 0, .string ⟨#[]⟩, .string ⟨#[]⟩, .string ⟨#[]⟩, .int .i64 0, .int .i64 0, .string ⟨#[]⟩] ∧ Below w.heap.size w W) ⟨hx0.out, hb0.out⟩ ?_
    intro W4 hW4
    clear hx0 hb0
    obtain ⟨hx0, hb0⟩ := hW4.out
    have hcell := fun i => hx0.cell i
    have hsoft := fun i => hx0.soft i
    have z0 := hcell 0
    have s0 := hsoft 0
    have z1 := hcell 1
    have s1 := hsoft 1
    have z2 := hcell 2
    have s2 := hsoft 2
    have z3 := hcell 3
    have s3 := hsoft 3
    have z4 := hcell 4
    have s4 := hsoft 4
    have z5 := hcell 5
    have s5 := hsoft 5
    have z6 := hcell 6
    have s6 := hsoft 6
    simp only [List.getElem?_cons_zero, List.getElem?_cons_succ] at z0 z1 z2 z3 z4 z5 z6
    replace hb0 := Lib.hid hb0
    replace hx0 := Lib.hid hx0
    clear hcell hsoft hW4
    go_wp2_with fail
    refine bodyPost_ret (v := .tuple #[cmV (cm0 0), .int .i64 8]) (by simp [results, Try.results20, cmV, cmC, cm0, go_sem, z0, z1, z2, z3, z4, z5, z6]) rfl ?_
    exact ⟨rfl, (((((((hb0.out).setCell (p := ⟨w.heap.size, 0, none⟩) (Nat.le_refl _) _).setCell (p := ⟨w.heap.size, 1, none⟩) (Nat.le_refl _) _).setCell (p := ⟨w.heap.size, 2, none⟩) (Nat.le_refl _) _).setCell (p := ⟨w.heap.size, 3, none⟩) (Nat.le_refl _) _).setCell (p := ⟨w.heap.size, 4, none⟩) (Nat.le_refl _) _).setCell (p := ⟨w.heap.size, 5, none⟩) (Nat.le_refl _) _).setCell (p := ⟨w.heap.size, 6, none⟩) (Nat.le_refl _) _⟩
  have hli : ¬ (131072 : Int) < (s.length : Int) := by omega
  have e0 : (w.alloc (.cells #[.int .i64 0, .string ⟨#[]⟩, .string ⟨#[]⟩, .string ⟨#[]⟩, .int .i64 0, .int .i64 0, .string ⟨#[]⟩] 32)).heap.size = w.heap.size + 1 := by simp
  have hR := rdO_new (w.alloc (.cells #[.int .i64 0, .string ⟨#[]⟩, .string ⟨#[]⟩, .string ⟨#[]⟩, .int .i64 0, .int .i64 0, .string ⟨#[]⟩] 32)) s
  have hbr := (Below.refl (w.alloc (.cells #[.int .i64 0, .string ⟨#[]⟩, .string ⟨#[]⟩, .string ⟨#[]⟩, .int .i64 0, .int .i64 0, .string ⟨#[]⟩] 32)).heap.size (w.alloc (.cells #[.int .i64 0, .string ⟨#[]⟩, .string ⟨#[]⟩, .string ⟨#[]⟩, .int .i64 0, .int .i64 0, .string ⟨#[]⟩] 32))).alloc (Nat.le_refl _) (.cells #[.string ⟨s.toArray⟩, .bool false] 64)
  have hx1 := hx0.next hbr
  have hbW := hb0.trans (hbr.mono hb0.size)
  rw [e0] at hR
  have hn := rd_command hR (by simp only [Option.getD_some]; omega)
  simp only [Option.bind_some] at hn
  replace hn := Lib.hid hn
  replace hx1 := Lib.hid hx1
  replace hbW := Lib.hid hbW
  have hend := ended_cm s (by omega)
  obtain ⟨⟨co, cm⟩, hcc⟩ : ∃ p, readC21 s = p := ⟨_, rfl⟩
  rw [hcc] at hend ⊢
  obtain ⟨Z, hZ⟩ : ∃ Z, cmN s = Z := ⟨_, rfl⟩
  rw [hZ] at hend hn
  replace hend := Lib.hid hend
  clear hb0 hx0 hbr hR e0 hcc hZ hlong
  go_enter Try.func20, Try.ntmps20
  go_wp2_with fail
  refine hn.out.mono ?_
  rintro e w1 ⟨x, rfl, hx, hr, ht⟩
  have hx2 := hx1.out.turned ht (by show ¬ w.heap.size = w.heap.size + 1; omega)
  have hb2 := hbW.out.trans (ht.below (B := w.heap.size) (fun i _ e => by have e' : i = w.heap.size + 1 := e; omega) (Nat.le_trans hbW.out.size (Nat.le_refl _)))
  have hbx := (Below.refl w1.heap.size w1).alloc (Nat.le_refl _) (.cells (cmC x).toArray 32)
  have hK := arrAt_new w1 32 (cmC x)
  have hlt1 : w.heap.size < w1.heap.size := hx2.lt
  have hr3 := hr.next hbx
  have hx3 := hx2.next hbx
  have hb3 := hb2.trans (hbx.mono hb2.size)
  replace hx := Lib.hid hx
  obtain ⟨kd, f, g, d, cu, n, fi⟩ := x
  unfold cmV
  unfold cmC at hK hr3 hx3 hb3 ⊢
  simp only at hK hr3 hx3 hb3 ⊢
  replace hK := Lib.hid hK
  replace hx3 := Lib.hid hx3
  replace hr3 := Lib.hid hr3
  replace hb3 := Lib.hid hb3
  clear hn hx1 hbW hr ht hx2 hb2 hbx
  go_upto_region 5 with fail
  refine hide_world (K := fun a w' => Code.wp _ _ _ a w') (R := fun W => ArrAt W w1.heap.size 32 [.int .i64 kd, .string ⟨f.toArray⟩, .string ⟨g.toArray⟩, .string ⟨d.toArray⟩, .int .i64 n, .int .i64 fi, .string ⟨cu.toArray⟩] ∧ ArrAt W w.heap.size 32 [.int .i64 0, .string ⟨#[]⟩, .string ⟨#[]⟩, .string ⟨#[]⟩, .int .i64 0, .int .i64 0, .string ⟨#[]⟩] ∧ RdO W (w.heap.size + 1) (resO Z) ∧ Below w.heap.size w W) ⟨hK.out, hx3.out, hr3.out, hb3.out⟩ ?_
  intro W4 hW4
  clear hK hx3 hr3 hb3
  obtain ⟨hK, hx0, hr3, hb0⟩ := hW4.out
  have hen := Lib.hid (rd_ended hr3)
  have hcellK := fun i => hK.cell i
  have c0 := hcellK 0
  have c1 := hcellK 1
  have c2 := hcellK 2
  have c3 := hcellK 3
  have c4 := hcellK 4
  have c5 := hcellK 5
  have c6 := hcellK 6
  simp only [List.getElem?_cons_zero, List.getElem?_cons_succ] at c0 c1 c2 c3 c4 c5 c6
  have hcell := fun i => hx0.cell i
  have hsoft := fun i => hx0.soft i
  have z0 := hcell 0
  have s0 := hsoft 0
  have z1 := hcell 1
  have s1 := hsoft 1
  have z2 := hcell 2
  have s2 := hsoft 2
  have z3 := hcell 3
  have s3 := hsoft 3
  have z4 := hcell 4
  have s4 := hsoft 4
  have z5 := hcell 5
  have s5 := hsoft 5
  have z6 := hcell 6
  have s6 := hsoft 6
  simp only [List.getElem?_cons_zero, List.getElem?_cons_succ] at z0 z1 z2 z3 z4 z5 z6
  replace hx0 := Lib.hid hx0
  replace hb0 := Lib.hid hb0
  clear hcellK hcell hsoft hK hr3 hW4
  go_wp2_with fail
  refine hen.out.mono ?_
  rintro e w2 ⟨rfl, rfl⟩
  clear hen
  cases hq : (resO Z == some []) with
  | false =>
    have hv := hend.out
    rw [hq] at hv
    simp only [Prod.mk.injEq] at hv
    obtain ⟨hv1, hv2⟩ := hv
    replace hv1 := Lib.hid hv1
    replace hv2 := Lib.hid hv2
    replace hq := Lib.hid hq
    go_wp2_with fail
    refine bodyPost_ret (v := .tuple #[cmV (cm0 0), .int .i64 2]) (by simp [results, Try.results20, cmV, cmC, cm0, go_sem, z0, z1, z2, z3, z4, z5, z6]) rfl ?_
    rw [hv1.out, hv2.out]
    exact ⟨rfl, (((((((hb0.out).setCell (p := ⟨w.heap.size, 0, none⟩) (Nat.le_refl _) _).setCell (p := ⟨w.heap.size, 1, none⟩) (Nat.le_refl _) _).setCell (p := ⟨w.heap.size, 2, none⟩) (Nat.le_refl _) _).setCell (p := ⟨w.heap.size, 3, none⟩) (Nat.le_refl _) _).setCell (p := ⟨w.heap.size, 4, none⟩) (Nat.le_refl _) _).setCell (p := ⟨w.heap.size, 5, none⟩) (Nat.le_refl _) _).setCell (p := ⟨w.heap.size, 6, none⟩) (Nat.le_refl _) _⟩
  | true =>
    have hv := hend.out
    rw [hq] at hv
    cases Z with
    | none => simp [resO] at hq
    | some p =>
      obtain ⟨z, tt⟩ := p
      simp only [Prod.mk.injEq] at hv
      obtain ⟨hv1, hv2⟩ := hv
      have hxz := hx.out _ _ rfl
      rw [← hxz] at hv2
      replace hv1 := Lib.hid hv1
      replace hv2 := Lib.hid hv2
      replace hxz := Lib.hid hxz
      replace hq := Lib.hid hq
      go_wp2_with fail
      refine bodyPost_ret (v := .tuple #[cmV ⟨kd, f, g, d, cu, n, fi⟩, .int .i64 0]) (by simp [results, Try.results20, cmV, cmC, go_sem, z0, z1, z2, z3, z4, z5, z6]) rfl ?_
      rw [hv1.out, hv2.out]
      exact ⟨rfl, (((((((hb0.out).setCell (p := ⟨w.heap.size, 0, none⟩) (Nat.le_refl _) _).setCell (p := ⟨w.heap.size, 1, none⟩) (Nat.le_refl _) _).setCell (p := ⟨w.heap.size, 2, none⟩) (Nat.le_refl _) _).setCell (p := ⟨w.heap.size, 3, none⟩) (Nat.le_refl _) _).setCell (p := ⟨w.heap.size, 4, none⟩) (Nat.le_refl _) _).setCell (p := ⟨w.heap.size, 5, none⟩) (Nat.le_refl _) _).setCell (p := ⟨w.heap.size, 6, none⟩) (Nat.le_refl _) _⟩
end Go.Proofs.Ytpfcamebkcengaa
