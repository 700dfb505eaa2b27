/- Layer 16: errors.As of a number that is wrapped so many times: it is found. -/
import Derived.Test.YtkgjbamkinfmeaaGreatDoorD16e
namespace Go.Proofs.YtkgjbamkinfmeaaGreatDoor
open Go.RowKit Go.Extern.Stop Go.Stop Go.Extern

/-- What errors.As leaves: the number lies where it was asked for. -/
def AsPost (w : World) (q : Nat) (x : Int) (e : Ending) (w' : World) : Prop := e = .returned (.bool true) ∧ ∃ w1, Below w.heap.size w w1 ∧ w' = w1.setCell ⟨q, 0, none⟩ (.int .i64 x)
set_option maxRecDepth 100000 in
set_option maxHeartbeats 1000000 in
theorem as16_in (n : Nat) (v : Value) (x : Int) (q h : Nat) (w : World) (T : Value) (hc : Chain w x n v) (hq : w.cell? ⟨q, 0, none⟩ = some T) (hf : w.frozen? ⟨q, 0, none⟩ = false) (hh : w.cell? ⟨h, 0, none⟩ = some (.pointer (some ⟨q, 0, none⟩))) :
    Calls Tryz.prog 47 #[v, .iface 65 (.pointer (some ⟨q, 0, none⟩)), .agg #[.pointer (some ⟨6, 65, none⟩), .pointer (some ⟨h, 0, none⟩), .int .u64 150], .iface 91 (.agg #[.pointer (some ⟨6, 30, none⟩)])] w (AsPost w q x) := by
  have x1 := @run_callFunc_extern Tryz.prog 44 _ rowValueOf Tryz.func44 (by kernel_rfl) (by kernel_rfl) (by kernel_rfl) (by kernel_rfl)
  have x7 := @run_callFunc_extern Tryz.prog 25 _ Extern.ReflectliteType.typeOf Tryz.func25 (by kernel_rfl) (by kernel_rfl) (by kernel_rfl) (by kernel_rfl)
  have x8 := @run_callFunc_extern Tryz.prog 237 _ rowAssi Tryz.func237 (by kernel_rfl) (by kernel_rfl) (by kernel_rfl) (by kernel_rfl)
  have x9 := @run_callFunc_extern Tryz.prog 74 _ rowElemV Tryz.func74 (by kernel_rfl) (by kernel_rfl) (by kernel_rfl) (by kernel_rfl)
  have x10 := @run_callFunc_extern Tryz.prog 75 _ Extern.ReflectliteValue.set Tryz.func75 (by kernel_rfl) (by kernel_rfl) (by kernel_rfl) (by kernel_rfl)
  have m4 := as_assi_m
  have r7 := ac_assi_c
  have r6 := ac_assi_f
  have r8 := ac_val_c
  have r9 := er_typeOf_c
  have ra := as_typeOf
  have n0 := ac_fo0
  have f2 := er_fo2
  have mU := er_unwrap
  have hnil := eq_nil16
  have hql : q < w.heap.size := World.block_lt_of_cell? w ⟨q, 0, none⟩ hq
  have hhl : h < w.heap.size := World.block_lt_of_cell? w ⟨h, 0, none⟩ hh
  obtain ⟨wb, hwb⟩ : ∃ wb, w.alloc (.cells #[.pointer (some ⟨6, 65, none⟩), .pointer (some ⟨h, 0, none⟩), .int .u64 150] 104) = wb := ⟨_, rfl⟩
  have hb0 : Below w.heap.size w wb := by rw [← hwb]; exact (Below.refl _ _).alloc (Nat.le_refl _) _
  have hsz : wb.heap.size = w.heap.size + 1 := by rw [← hwb]; simp
  have hbox : ArrAt wb w.heap.size 104 [.pointer (some ⟨6, 65, none⟩), .pointer (some ⟨h, 0, none⟩), .int .u64 150] := by rw [← hwb]; exact arrAt_new w _ [_, _, _]
  have hcb := Lib.hid (hc.below hb0)
  have hqb := Lib.hid ((hb0.cell (p := ⟨q, 0, none⟩) hql).trans hq)
  have hfb : Hid (wb.frozen? ⟨q, 0, none⟩ = false) := Lib.hid (by rw [← hf]; simp only [World.frozen?]; rw [hb0.block q hql])
  have hhb := (hb0.cell (p := ⟨h, 0, none⟩) hhl).trans hh
  have b0 := hbox.cell 0
  have b1 := hbox.cell 1
  have b2 := hbox.cell 2
  simp only [List.getElem?_cons_zero, List.getElem?_cons_succ] at b0 b1 b2
  have rb := ac_elemV h ⟨q, 0, none⟩ wb hhb
  replace hb0 := Lib.hid hb0
  replace hsz := Lib.hid hsz
  replace hwb := Lib.hid hwb
  clear hc hq hf hh hbox hhb
  go_enter Tryz.func47, Tryz.ntmps47
  go_wp2_with fail
  try rw [hwb.out]
  go_loopw [0] (fun u wr => ∃ k : Nat, k ≤ n ∧ Hid (Chain wb x k u) ∧ wr = wb) (fun u _ => deepN wb n u)
  case atStart => exact ⟨n, Nat.le_refl _, hcb, rfl⟩
  case round =>
    obtain ⟨k, hk, hch, rfl⟩ := hrel
    cases k with
    | zero =>
      obtain rfl := hch.out
      have rc : (Extern.ReflectliteValue.set #[.agg #[.pointer (some ⟨6, 30, none⟩), .pointer (some ⟨q, 0, none⟩), .int .u64 386], .agg #[.pointer (some ⟨6, 30, none⟩), .pointer (some ⟨wr.heap.size, 0, none⟩), .int .u64 130]]).run Tryz.prog (wr.alloc (.cells #[.int .i64 x] 30)) = .ok (.tuple #[]) ((wr.alloc (.cells #[.int .i64 x] 30)).setCell ⟨q, 0, none⟩ (.int .i64 x)) := by
        have hb1 : Below wr.heap.size wr (wr.alloc (.cells #[.int .i64 x] 30)) := (Below.refl _ _).alloc (Nat.le_refl _) _
        have hql1 : q < wr.heap.size := by rw [hsz.out]; omega
        refine ac_set _ x ⟨q, 0, none⟩ T _ (ArrAt.cell (arrAt_new wr _ [.int .i64 x]) 0) ((hb1.cell (p := ⟨q, 0, none⟩) hql1).trans hqb.out) ?_
        rw [← hfb.out]
        simp only [World.frozen?]
        rw [hb1.block q hql1]
      unfold cdV
      clear hch hcb
      go_wp2_with fail
      go_ret
      exact ⟨rfl, _, hb0.out.trans ((Below.refl _ _).alloc (by rw [hsz.out]; omega) _), rfl⟩
    | succ k =>
      have hd1 := Lib.hid (hch.out.deep hk)
      obtain ⟨f, p, u, rfl, hf, hu⟩ := hch.out
      have hd2 := Lib.hid (hu.deep (n := n) (by omega))
      obtain ⟨S, y, rfl⟩ := hu.form
      have hU := Lib.hid (unwrap16_any f p _ _ hf)
      replace hu := Lib.hid hu
      unfold faultV
      clear hf hch hcb
      go_wp2_with fail
      refine hU.out.mono ?_
      rintro e w' ⟨rfl, rfl⟩
      go_wp2_with fail
      exact ⟨⟨k, by omega, hu, trivial⟩, by rw [hd2.out]; unfold faultV at hd1; rw [hd1.out]; omega⟩

set_option maxRecDepth 100000 in
set_option maxHeartbeats 1000000 in
/-- errors.As of a number that is wrapped so many times: the number lies where it was asked for. -/
theorem as16_any (n : Nat) (v : Value) (x : Int) (q : Nat) (w : World) (T : Value) (hc : Chain w x n v) (hq : w.cell? ⟨q, 0, none⟩ = some T) (hf : w.frozen? ⟨q, 0, none⟩ = false) (hT : EnvT w) :
    Calls Tryz.prog 29 #[v, .iface 65 (.pointer (some ⟨q, 0, none⟩))] w (AsPost w q x) := by
  unfold EnvT at hT
  have heq1 := eq_nil16
  have heq2 : ∀ W : World, (binOp .eql 20 (.iface 65 (.pointer (some ⟨q, 0, none⟩))) .nilIface).run Tryz.prog W = .ok (.bool false) W := fun W => by kernel_rfl
  have x1 := @run_callFunc_extern Tryz.prog 44 _ rowValueOf Tryz.func44 (by kernel_rfl) (by kernel_rfl) (by kernel_rfl) (by kernel_rfl)
  have x2 := @run_callFunc_extern Tryz.prog 45 _ rowType Tryz.func45 (by kernel_rfl) (by kernel_rfl) (by kernel_rfl) (by kernel_rfl)
  have x3 := @run_callFunc_extern Tryz.prog 230 _ rowKind Tryz.func230 (by kernel_rfl) (by kernel_rfl) (by kernel_rfl) (by kernel_rfl)
  have x4 := @run_callFunc_extern Tryz.prog 46 _ rowIsNil Tryz.func46 (by kernel_rfl) (by kernel_rfl) (by kernel_rfl) (by kernel_rfl)
  have x5 := @run_callFunc_extern Tryz.prog 239 _ rowElemT Tryz.func239 (by kernel_rfl) (by kernel_rfl) (by kernel_rfl) (by kernel_rfl)
  have x6 := @run_callFunc_extern Tryz.prog 240 _ rowImpl Tryz.func240 (by kernel_rfl) (by kernel_rfl) (by kernel_rfl) (by kernel_rfl)
  have m1 := as_kind_m
  have m2 := as_elem_m
  have m3 := as_impl_m
  have r1 := ac_val_q
  have r2 := ac_type_r
  have r3 := ac_kind_p
  have r4 := ac_kind_q
  have r5 := ac_elem_r
  have r6 := ac_impl_r
  have ra := fun (x : Nat) (W : World) (h : W.cell? ⟨x, 0, none⟩ = some (.pointer (some ⟨q, 0, none⟩))) => ac_isNil x ⟨q, 0, none⟩ W h
  have hgl : 0 < w.heap.size := World.block_lt_of_cell? w ⟨0, 0, none⟩ hT
  have hql : q < w.heap.size := World.block_lt_of_cell? w ⟨q, 0, none⟩ hq
  have hT1 := fun X => (World.cell?_alloc_lt w X ⟨0, 0, none⟩ hgl).trans hT
  have hT2 := fun X Y => (World.cell?_alloc_lt (w.alloc X) Y ⟨0, 0, none⟩ (by show 0 < _; simp <;> omega)).trans (hT1 X)
  have hin : Hid (∀ X, Calls Tryz.prog 47 #[v, .iface 65 (.pointer (some ⟨q, 0, none⟩)), .agg #[.pointer (some ⟨6, 65, none⟩), .pointer (some ⟨w.heap.size, 0, none⟩), .int .u64 150], .iface 91 (.agg #[.pointer (some ⟨6, 30, none⟩)])] ((w.alloc (.cells #[.pointer (some ⟨q, 0, none⟩)] 65)).alloc X) (AsPost w q x)) := Lib.hid fun X => by
    have hb1 : Below w.heap.size w (w.alloc (.cells #[.pointer (some ⟨q, 0, none⟩)] 65)) := (Below.refl _ _).alloc (Nat.le_refl _) _
    have hb2 : Below w.heap.size w ((w.alloc (.cells #[.pointer (some ⟨q, 0, none⟩)] 65)).alloc X) := hb1.alloc (by simp) _
    have hc1 : ((w.alloc (.cells #[.pointer (some ⟨q, 0, none⟩)] 65)).alloc X).cell? ⟨w.heap.size, 0, none⟩ = some (.pointer (some ⟨q, 0, none⟩)) := by
      rw [World.cell?_alloc_lt _ _ _ (by show w.heap.size < _; simp), ArrAt.cell (arrAt_new w 65 [.pointer (some ⟨q, 0, none⟩)])]; rfl
    refine (as16_in n v x q w.heap.size _ T (hc.below hb2) ((hb2.cell (p := ⟨q, 0, none⟩) hql).trans hq) (by rw [← hf]; simp only [World.frozen?]; rw [hb2.block q hql]) hc1).mono ?_
    rintro e w' ⟨rfl, w1, h1, rfl⟩
    exact ⟨rfl, w1, hb2.andThen h1, rfl⟩
  obtain ⟨S, y, rfl⟩ := hc.form
  clear hc hq hf
  go_enter Tryz.func29, Tryz.ntmps29
  go_wp2_with fail
  refine (hin.out _).mono ?_
  rintro e w' ⟨rfl, w1, h1, rfl⟩
  replace h1 := Lib.hid h1
  go_wp2_with fail
  go_ret
  exact ⟨rfl, w1, h1.out, rfl⟩
end Go.Proofs.YtkgjbamkinfmeaaGreatDoor
