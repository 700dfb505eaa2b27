/- strings.IndexRune at a rune beyond ASCII, IndexAny and ContainsAny of a text for either of two signs: whatever bytes the text has. -/
import Derived.Laws.Runes
import Derived.Deep.LoopGhost
import Derived.WalkMore
import Derived.Test.YtahjopajnckbaaaLa
namespace Go.Proofs.Ytahjopajnckbaaa
open Go.RowKit Go.Shelf

theorem run_next_at {P : Program} (W : World) (b : Nat) (s : ByteArray) (pos : Nat) (ty : TypeId) (hb : W.heap[b]? = some (.stringIter s pos)) (h : pos < s.size) :
    (Instr.next (.pointer (some ⟨b, 0, none⟩)) true ty).run P W = .ok (.tuple #[.bool true, .int .i64 pos, .int .i32 (Utf8.decode s pos).1]) { W with heap := W.heap.setIfInBounds b (.stringIter s (pos + (Utf8.decode s pos).2)) } := by
  simp only [Instr.next, getObj, setObj, Sem.run_bind, Sem.run, hb, Result.andThen, h, if_true]
  simp [goInt]
theorem run_next_over {P : Program} (W : World) (b : Nat) (s : ByteArray) (pos : Nat) (ty : TypeId) (hb : W.heap[b]? = some (.stringIter s pos)) (h : ¬ pos < s.size) :
    (Instr.next (.pointer (some ⟨b, 0, none⟩)) true ty).run P W = .ok (.tuple #[.bool false]) W := by
  simp [Instr.next, getObj, Sem.run, hb, h]

def validN (r : Int) : Bool := decide (r < 55296 ∨ 57343 < r ∧ r ≤ 1114111)
theorem valid_ret {r : Int} {b : Bool} (h : (r < 55296 ∨ 57343 < r ∧ r ≤ 1114111) ↔ b = true) : Ending.returned (.bool b) = .returned (.bool (validN r)) := by
  rw [show validN r = b from by unfold validN; cases b <;> simp at h ⊢ <;> omega]
set_option maxHeartbeats 400000 in
theorem validRune_any (r : Int) (w : World) (h0 : 0 ≤ r) :
    Calls Try.prog 57 #[.int .i32 r] w fun e w' => e = .returned (.bool (validN r)) ∧ w = w' := by
  go_enter Try.func57, Try.ntmps57
  go_wp2
  all_goals go_ret
  all_goals refine ⟨valid_ret ?_, rfl⟩
  all_goals simp only [iff_true, Bool.false_eq_true, iff_false]
  all_goals omega

theorem enc_list (r : Int) (h0 : 128 ≤ r) (hv : validN r = true) : ∃ L : List UInt8, Utf8.encode r = ⟨L.toArray⟩ ∧ 2 ≤ L.length ∧ L.length ≤ 4 ∧ 128 ≤ bt L (L.length - 1) := by
  have hv' : Utf8.valid r = true := by
    unfold validN at hv
    unfold Utf8.valid
    simp only [decide_eq_true_eq] at hv
    simp only [Bool.or_eq_true, Bool.and_eq_true, decide_eq_true_eq]
    omega
  obtain ⟨h1, h2, h3⟩ := encode_facts r hv' h0
  obtain ⟨a, ha⟩ : ∃ a : Array UInt8, Utf8.encode r = ⟨a⟩ := ⟨_, rfl⟩
  rw [ha] at h1 h2 h3 ⊢
  have hs : (ByteArray.mk a).size = a.toList.length := by show a.size = _; simp
  rw [hs] at h1 h2
  refine ⟨a.toList, by simp, h1, h2, ?_⟩
  have h4 := h3 (by show a.size - 1 < a.size; rw [Array.length_toList] at h1; omega)
  unfold bt
  rw [Array.length_toList] at h1
  have : (a.toList.getD (a.toList.length - 1) 0) = a[a.size - 1]'(by omega) := by
    simp [List.getD]
    rw [Array.getElem?_eq_getElem (by omega)]; rfl
  rw [this]
  have h5 : 128 ≤ (a[a.size - 1]'(by omega)).toNat := h4
  omega

def MinusPost (w : World) (e : Ending) (w' : World) : Prop := e = .returned (.int .i64 (-1)) ∧ Below w.heap.size w w'
theorem ix_empty (c : Int) (w : World) : Calls Try.prog 27 #[.string ByteArray.empty, .int .u8 c] w fun e w' => e = .returned (.int .i64 (-1)) ∧ w = w' := indexByte_any [] c w
set_option maxRecDepth 100000 in
set_option maxHeartbeats 1000000 in
theorem indexRune_two (x y : UInt8) (r : Int) (w : World) (h0 : 128 ≤ r) (h1 : r ≤ 2147483647) (he : r ≠ 65533) (hv : validN r = true) (hL : Utf8.encode r = ⟨#[x, y]⟩) (hy : 128 ≤ y.toNat) :
    Calls Try.prog 48 #[.string ⟨#[60, 38]⟩, .int .i32 r] w (MinusPost w) := by
  have ha : decide (r < 128) = false := by simp; omega
  have hb : (r == 65533) = false := by simpa using he
  have hcv := fun (W : World) => run_convert_int_string (P := Try.prog) W 21 9 .i32 r (by rw [Try.underlying21]; rfl) Try.underlying9
  rw [hL] at hcv
  have hy2 : (bt [60, 38] 1 != bt [x, y] 1) = true := by
    rw [bne_iff_ne]
    show (38 : Int) ≠ (y.toNat : Int)
    omega
  have hw2 : IntKind.i64.wrap 2 = 2 := by decide
  clear he hL
  go_enter Try.func48, Try.ntmps48
  go_wp2_with fail
  refine (validRune_any r _ (by omega)).mono ?_; rintro e w' ⟨rfl, rfl⟩; rw [hv]
  go_wp2_with fail
  go_step3
  go_wp2_with fail
  refine wp_loop_rounds 1 ?_; rw [rounds_succ]
  go_wp2_with fail
  go_step3
  go_wp2_with fail
  go_quiet (fail)
  obtain ⟨wo, hwo⟩ : ∃ wo : World, w.drewN nq = wo := ⟨_, rfl⟩
  have hbo : Below w.heap.size w wo := (show Drawn w wo from ⟨_, hwo.symm⟩).below _
  rw [hwo]
  clear hwo
  replace hbo := Lib.hid hbo
  go_wp2_with fail
  go_quiet (with_reducible exact Calls.drawn_at (ix_empty _ _))
  go_wp2_with fail
  rw [Exit.noGoto_ret]
  go_ret
  exact ⟨rfl, hbo.out.andThen ((drawn_drewN wo _).below _)⟩
set_option maxRecDepth 100000 in
set_option maxHeartbeats 1000000 in
theorem indexRune_error (w : World) :
    Calls Try.prog 48 #[.string ⟨#[60, 38]⟩, .int .i32 65533] w (MinusPost w) := by
  go_enter Try.func48, Try.ntmps48
  go_wp2_with fail
  have n0 := fun ty => run_next_ascii (P := Try.prog) w ⟨#[60, 38]⟩ 0 ty (by decide) (by decide)
  have n1 := fun ty => run_next_ascii (P := Try.prog) w ⟨#[60, 38]⟩ 1 ty (by decide) (by decide)
  have n2 := fun ty => run_next_end (P := Try.prog) w ⟨#[60, 38]⟩ 2 ty (by decide)
  refine wp_loop_rounds 3 ?_; rw [rounds_succ]
  go_wp2_with fail
  rw [rounds_succ]
  go_wp2_with fail
  rw [rounds_succ]
  go_wp2_with fail
  go_ret
  exact ⟨rfl, (Below.refl _ _).alloc (Nat.le_refl _) _⟩
set_option maxRecDepth 100000 in
set_option maxHeartbeats 1000000 in
theorem indexRune_high (r : Int) (w : World) (h0 : 128 ≤ r) (h1 : r ≤ 2147483647) :
    Calls Try.prog 48 #[.string ⟨#[60, 38]⟩, .int .i32 r] w (MinusPost w) := by
  have ha : decide (r < 128) = false := by simp; omega
  by_cases he : r = 65533
  · subst he; exact indexRune_error w
  have hb : (r == 65533) = false := by simpa using he
  cases hv : validN r
  · clear he
    go_enter Try.func48, Try.ntmps48
    go_wp2_with fail
    refine (validRune_any r _ (by omega)).mono ?_; rintro e w' ⟨rfl, rfl⟩; rw [hv]
    go_wp2_with fail
    go_ret
    exact ⟨rfl, Below.refl _ _⟩
  obtain ⟨L, hL, hL2, hL4, hLb⟩ := enc_list r h0 hv
  by_cases h2 : L.length = 2
  · obtain ⟨x, y, rfl⟩ : ∃ x y, L = [x, y] := by
      match L, h2 with
      | [x, y], _ => exact ⟨x, y, rfl⟩
    refine indexRune_two x y r w h0 h1 he hv hL ?_
    have : bt [x, y] 1 = (y.toNat : Int) := rfl
    rw [h2, this] at hLb
    omega
  · have hcv := fun (W : World) => run_convert_int_string (P := Try.prog) W 21 9 .i32 r (by rw [Try.underlying21]; rfl) Try.underlying9
    rw [hL] at hcv
    have h3 : ¬ ((L.length : Int) - 1 < 2) := by omega
    clear he hL
    go_enter Try.func48, Try.ntmps48
    go_wp2_with fail
    refine (validRune_any r _ (by omega)).mono ?_; rintro e w' ⟨rfl, rfl⟩; rw [hv]
    go_wp2_with fail
    go_step3
    go_wp2_with fail
    refine wp_loop_rounds 1 ?_; rw [rounds_succ]
    go_wp2_with fail
    rw [Exit.noGoto_ret]
    go_ret
    exact ⟨rfl, Below.refl _ _⟩
end Go.Proofs.Ytahjopajnckbaaa
