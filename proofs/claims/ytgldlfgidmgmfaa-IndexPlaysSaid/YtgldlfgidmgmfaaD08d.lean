/- The walks of layer 8's New, Get, Len, Add and Drop. -/
import Derived.Test.YtgldlfgidmgmfaaD08c
import Derived.Outline
namespace Go.Proofs.Ytgldlfgidmgmfaa
open Go.RowKit Go.Maps

theorem law_int : Keyed Try.prog 3 := int_keyed Try.underlying3
theorem zero_u64 (w : World) : (zeroValue 34).run Try.prog w = .ok (.int .u64 0) w := by kernel_rfl

def NewPost (d : Nat) (w : World) (e : Ending) (w' : World) : Prop :=
  ∃ X fp, e = .returned (.tuple #[.pointer (some ⟨X, 0, none⟩), .nilIface]) ∧ IdxAt w' X d [] 0 fp ∧ (∀ b, fp b → w.heap.size ≤ b) ∧ Below w.heap.size w w'
theorem new_no (d : Int) (w : World) (h : ¬ mayB d = true) : Calls Try.prog 7 #[.int .i64 d] w fun e w' => e = .returned (.tuple #[.pointer none, .iface 29 (.int .i64 1)]) ∧ w = w' := by
  have hc := check_any d w
  rw [Bool.eq_false_iff.2 h] at hc
  replace hc := Lib.hid hc
  clear h
  go_enter Try.func7, Try.ntmps7
  go_wp2_with fail
  refine hc.out.mono ?_; rintro e w' ⟨rfl, rfl⟩
  go_wp2_with fail
  go_ret2
  exact ⟨rfl, rfl⟩
theorem new_idx (w : World) (d : Nat) (hd : d < 16) :
    IdxAt (((w.alloc (.map #[] 0)).alloc (.cells (List.replicate (d + 1) (Value.slice none 0 0)).toArray 59)).alloc (.cells #[.int .i64 d, .map (some w.heap.size), .slice (some ⟨w.heap.size + 1, 0, none⟩) (d + 1) (d + 1)] 52)) (w.heap.size + 2) d [] 0
      (Mine (w.heap.size + 2) w.heap.size (w.heap.size + 1) d (fun _ => .slice none 0 0) (fun _ => [])) := by
  have hno : ∀ b, ¬ Foot (.slice none 0 0) [] b := fun b hb => by
    rcases hb with hb | ⟨k, hk, _⟩
    · cases hb
    · simp at hk
  refine ⟨w.heap.size, w.heap.size + 1, 0, .map [], fun _ => .slice none 0 0, fun _ => [], ⟨?_, ?_, ?_, fun i _ => TabAt.nil _, fun i _ => ?_, fun i j _ _ _ b hb => absurd hb (hno b), fun i _ b hb => absurd hb (hno b), ⟨by omega, by omega, by omega⟩⟩, MapIs.empty, ⟨by simp, by simp⟩, hd, ⟨Nat.le_refl _, Nat.le_refl _⟩, fun b => Iff.rfl⟩
  · have := arrAt_new ((w.alloc (.map #[] 0)).alloc (.cells (List.replicate (d + 1) (Value.slice none 0 0)).toArray 59)) 52 [.int .i64 d, .map (some w.heap.size), .slice (some ⟨w.heap.size + 1, 0, none⟩) (d + 1) (d + 1)]
    rw [show ((w.alloc (.map #[] 0)).alloc (.cells (List.replicate (d + 1) (Value.slice none 0 0)).toArray 59)).heap.size = w.heap.size + 2 by simp] at this
    exact this
  · exact ((World.ownsMap_made w Try.prog 3 (plainElem Try.prog 34)).alloc _).alloc _
  · have := (arrAt_new (w.alloc (.map #[] 0)) 59 (List.replicate (d + 1) (Value.slice none 0 0))).next ((Below.refl _ _).alloc (Nat.le_refl _) (.cells #[.int .i64 d, .map (some w.heap.size), .slice (some ⟨w.heap.size + 1, 0, none⟩) (d + 1) (d + 1)] 52))
    rw [show (w.alloc (.map #[] 0)).heap.size = w.heap.size + 1 by simp] at this
    rw [show (List.range (d + 1)).map (fun _ => Value.slice none 0 0) = List.replicate (d + 1) (Value.slice none 0 0) by rw [List.map_const', List.length_range]]
    exact this
  · exact TabHas.empty _ (fun b x ⟨s, hs, _⟩ => by simp at hs) _
theorem mine_new {H d b : Nat} (h : Mine (H + 2) H (H + 1) d (fun _ => .slice none 0 0) (fun _ => []) b) : H ≤ b := by
  rcases h with rfl | rfl | rfl | ⟨i, _, hb⟩
  · omega
  · exact Nat.le_refl _
  · omega
  · rcases hb with hb | ⟨k, hk, _⟩
    · cases hb
    · simp at hk
theorem new_yes (d : Nat) (w : World) (hd : d < 16) : Calls Try.prog 7 #[.int .i64 d] w (NewPost d w) := by
  have hc := check_any d w
  rw [may_nat hd] at hc
  replace hc := Lib.hid hc
  have hmm := @run_makeMap Try.prog
  have hmk := fun W => run_make_row (P := Try.prog) 50 59 (.slice none 0 0) 24 Try.underlying50 (by kernel_rfl) rfl ((d : Int) + 1) (d + 1) (by omega) (by omega) (by omega) W
  go_enter Try.func7, Try.ntmps7
  go_wp2_with fail
  refine hc.out.mono ?_; rintro e w' ⟨rfl, rfl⟩
  go_wp2_with fail
  go_ret2
  refine ⟨w.heap.size + 2, _, rfl, new_idx w d hd, fun b hb => mine_new hb, ?_⟩
  · exact (((Below.refl _ _).alloc (Nat.le_refl _) _).alloc (by simp) _).alloc (by simp; omega) _

/-- What Get finds. -/
def GetPost (L : List (Int × Int)) (id : Int) (w : World) (e : Ending) (w' : World) : Prop := w = w' ∧ ((∃ s, (id, s) ∈ L ∧ e = .returned (.tuple #[.int .u64 s, .bool true])) ∨ ((¬ ∃ s, (id, s) ∈ L) ∧ e = .returned (.tuple #[.int .u64 0, .bool false])))
theorem get_nil (id : Int) (w : World) : Calls Try.prog 15 #[.pointer none, .int .i64 id] w fun e w' => e = .returned (.tuple #[.int .u64 0, .bool false]) ∧ w = w' := by
  go_enter Try.func15, Try.ntmps15
  go_wp2_with fail
  go_ret2
  exact ⟨rfl, rfl⟩
theorem get_any (X d : Nat) (L : List (Int × Int)) (m : Nat) (fp : Nat → Prop) (id : Int) (w : World) (h : IdxAt w X d L m fp) (hid : (Lit.int .i64 id).wf = true) : Calls Try.prog 15 #[.pointer (some ⟨X, 0, none⟩), .int .i64 id] w (GetPost L id w) := by
  obtain ⟨M, T, n, D, V, TB, h1, h2, h3, h4, h5, h6⟩ := h
  have hkey := keyOf_int_mk Try.underlying3 hid
  have c1 : w.cell? ⟨X, 1, none⟩ = some (.map (some M)) := by rw [h1.cells.cell]; rfl
  have hown := h1.map
  have hy : ∀ c, Maps.has D (.int .i64 id) = true → D.atKey (.int .i64 id) (.lit (.int .u64 0)) = .lit (.int .u64 c) → (id, c) ∈ L := fun c hh hat => by
    obtain ⟨s, hs⟩ := (h2.has id).1 hh
    rw [h2.get id s hs] at hat
    simp only [DataW.lit.injEq, Lit.int.injEq, true_and] at hat
    rw [← hat]; exact hs
  have hz : ∀ c, Maps.has D (.int .i64 id) = false → D.atKey (.int .i64 id) (.lit (.int .u64 0)) = .lit (.int .u64 c) → c = 0 := fun c hh hat => by
    rw [atKey_of_not_has hh] at hat
    simp only [DataW.lit.injEq, Lit.int.injEq, true_and] at hat
    exact hat.symm
  have hnn : Maps.has D (.int .i64 id) = false → ¬ ∃ s, (id, s) ∈ L := fun hh hs => by rw [(h2.has id).2 hs] at hh; cases hh
  clear h1 h2 h3 h4 h5 h6
  cases hb : Maps.has D (.int .i64 id) with
  | true =>
    replace hy := Lib.hid (fun c => hy c hb)
    clear hz hnn
    go_enter Try.func15, Try.ntmps15
    go_wp2_with (at_lookup; refine wpList_lookup_own_ok_int _ rfl _ _ 49 rfl 3 34 .u64 law_int Try.underlying49 Try.underlying34 (zero_u64 _) M n D rfl hown _ _ rfl hkey ?_; intro c hat hwc; replace hat := Lib.hid hat)
    go_ret2
    exact ⟨rfl, Or.inl ⟨c, hy.out c hat.out, rfl⟩⟩
  | false =>
    replace hz := Lib.hid (fun c => hz c hb)
    replace hnn := Lib.hid (hnn hb)
    clear hy
    go_enter Try.func15, Try.ntmps15
    go_wp2_with (at_lookup; refine wpList_lookup_own_ok_int _ rfl _ _ 49 rfl 3 34 .u64 law_int Try.underlying49 Try.underlying34 (zero_u64 _) M n D rfl hown _ _ rfl hkey ?_; intro c hat hwc; obtain rfl := hz.out c hat; clear hat)
    go_ret2
    exact ⟨rfl, Or.inr ⟨hnn.out, rfl⟩⟩
end Go.Proofs.Ytgldlfgidmgmfaa
