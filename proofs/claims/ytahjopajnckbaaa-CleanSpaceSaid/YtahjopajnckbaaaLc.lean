/- strings.IndexAny at a short text, ContainsAny at any: for either of two signs, whatever bytes the text has. -/
import Derived.Test.YtahjopajnckbaaaLb
namespace Go.Proofs.Ytahjopajnckbaaa
open Go.RowKit Go.Shelf

theorem get_list (l : List UInt8) (j : Nat) : (ByteArray.mk l.toArray).get! j = l.getD j 0 := by
  show l.toArray[j]! = l.getD j 0
  simp [List.getD, List.getElem!_eq_getElem?_getD]
  rfl
/-- What a rune beyond ASCII takes: no sign of ASCII. -/
theorem dec_wide (l : List UInt8) (pos : Nat) (h : pos < l.length) (ha : 128 ≤ (l.getD pos 0).toNat) : 1 ≤ (Utf8.decode ⟨l.toArray⟩ pos).2 ∧ pos + (Utf8.decode ⟨l.toArray⟩ pos).2 ≤ l.length ∧
    ∀ j, pos ≤ j → j < pos + (Utf8.decode ⟨l.toArray⟩ pos).2 → 128 ≤ (l.getD j 0).toNat := by
  have hn : ¬ (l.getD (pos + 0) 0).toNat < 128 := by rw [Nat.add_zero]; omega
  have hs : (ByteArray.mk l.toArray).size = l.length := rfl
  simp only [Utf8.decode, get_list, hs, hn, if_false, Bool.and_eq_true, decide_eq_true_eq, beq_iff_eq]
  have one : 1 ≤ 1 ∧ pos + 1 ≤ l.length ∧ ∀ j, pos ≤ j → j < pos + 1 → 128 ≤ (l.getD j 0).toNat := ⟨Nat.le_refl _, h, fun j h1 h2 => by rw [show j = pos from by omega]; exact ha⟩
  split
  · rename_i h1
    split
    · refine ⟨by omega, by show pos + 2 ≤ _; omega, fun j h2 h3 => ?_⟩
      rcases (show j = pos ∨ j = pos + 1 from by have h3 : j < pos + 2 := h3; omega) with rfl | rfl
      · exact ha
      · omega
    · exact one
  split
  · rename_i h1
    split
    · refine ⟨by omega, by show pos + 3 ≤ _; omega, fun j h2 h3 => ?_⟩
      rcases (show j = pos ∨ j = pos + 1 ∨ j = pos + 2 from by have h3 : j < pos + 3 := h3; omega) with rfl | rfl | rfl
      · exact ha
      · omega
      · omega
    · exact one
  split
  · rename_i h1
    split
    · refine ⟨by omega, by show pos + 4 ≤ _; omega, fun j h2 h3 => ?_⟩
      rcases (show j = pos ∨ j = pos + 1 ∨ j = pos + 2 ∨ j = pos + 3 from by have h3 : j < pos + 4 := h3; omega) with rfl | rfl | rfl | rfl
      · exact ha
      · omega
      · omega
      · omega
    · exact one
  · exact one
theorem noAny_wide {l : List UInt8} {i n : Nat} (h : Lib.NoAny l [60, 38] i) (hw : ∀ j, i ≤ j → j < i + n → 128 ≤ (l.getD j 0).toNat) : Lib.NoAny l [60, 38] (i + n) := by
  intro j b hj hb
  by_cases hji : j < i
  · exact h j b hji hb
  · have h2 := hw j (by omega) hj
    rw [List.getD, hb] at h2
    have h3 : 128 ≤ b.toNat := h2
    simp only [List.contains_cons, List.contains_nil, Bool.or_false, Bool.or_eq_false_iff, beq_eq_false_iff_ne]
    exact ⟨fun e => by subst e; revert h3; decide, fun e => by subst e; revert h3; decide⟩
theorem below_iter {B b : Nat} {w wr : World} {o : Obj} (h : Below B w wr) (hb : B ≤ b) : Below B w { wr with heap := wr.heap.setIfInBounds b o } :=
  ⟨h.os, h.tape, h.output, by simpa using h.size, fun k hk => by
    have : ({ wr with heap := wr.heap.setIfInBounds b o } : World).heap[k]? = wr.heap[k]? := by
      show (wr.heap.setIfInBounds b o)[k]? = _
      rw [Array.getElem?_setIfInBounds_ne (by omega)]
    rw [this]; exact h.block k hk⟩
/-- The text's iterator lies in block b, at place i. -/
structure ItAt (w : World) (l : List UInt8) (wx : World) (i : Nat) : Prop where
  it : wx.heap[w.heap.size]? = some (.stringIter ⟨l.toArray⟩ i)
  below : Below w.heap.size w wx
  no : Lib.NoAny l [60, 38] i
theorem ItAt.next {w : World} {l : List UInt8} {wx : World} {i : Nat} (h : ItAt w l wx i) (hi : i < l.length) :
    ∃ W', (∀ ty, (Instr.next (.pointer (some ⟨w.heap.size, 0, none⟩)) true ty).run Try.prog wx = .ok (.tuple #[.bool true, .int .i64 i, .int .i32 (Utf8.decode ⟨l.toArray⟩ i).1]) W') ∧
      W'.heap[w.heap.size]? = some (.stringIter ⟨l.toArray⟩ (i + (Utf8.decode ⟨l.toArray⟩ i).2)) ∧ Below w.heap.size w W' := by
  refine ⟨_, fun ty => run_next_at wx w.heap.size ⟨l.toArray⟩ i ty h.it hi, ?_, below_iter h.below (Nat.le_refl _)⟩
  have hlt : w.heap.size < wx.heap.size := by
    rcases Nat.lt_or_ge w.heap.size wx.heap.size with h1 | h1
    · exact h1
    · have := h.it; rw [Array.getElem?_eq_none h1] at this; cases this
  show (wx.heap.setIfInBounds _ _)[_]? = _
  rw [Array.getElem?_setIfInBounds_self_of_lt hlt]
theorem it_keep {w W W' : World} {o : Obj} (h : W.heap[w.heap.size]? = some o) (hb : Below W.heap.size W W') : W'.heap[w.heap.size]? = some o := by
  have hlt : w.heap.size < W.heap.size := by
    rcases Nat.lt_or_ge w.heap.size W.heap.size with h1 | h1
    · exact h1
    · rw [Array.getElem?_eq_none h1] at h; cases h
  rw [← h]; exact hb.block _ hlt
theorem byte_back (x : UInt8) : ((x.toNat : Int)).toNat.toUInt8 = x := by simp
theorem dec_low (l : List UInt8) (i : Nat) (hi : i < l.length) (hx : (l.getD i 0).toNat < 128) : Utf8.decode ⟨l.toArray⟩ i = ((l.getD i 0).toNat, 1) := by
  have e : (ByteArray.mk l.toArray)[i]'hi = l.getD i 0 := by
    simp [List.getD, List.getElem?_eq_getElem hi]; rfl
  rw [← e] at hx ⊢
  exact decode_ascii _ _ _ hx
theorem get_some (l : List UInt8) (i : Nat) (hi : i < l.length) : l[i]? = some (l.getD i 0) := by simp [List.getD, hi]

def AnyPost (w : World) (l : List UInt8) (e : Ending) (w' : World) : Prop := e = .returned (.int .i64 (Lib.indexAny l [60, 38])) ∧ Below w.heap.size w w'
set_option maxRecDepth 100000 in
set_option maxHeartbeats 1000000 in
theorem any_short (l : List UInt8) (w : World) (h8 : l.length ≤ 8) :
    Calls Try.prog 41 #[.string ⟨l.toArray⟩, .string ⟨#[60, 38]⟩] w (AnyPost w l) := by
  have h8z : decide ((8 : Int) < (l.length : Int)) = false := decide_eq_false (by omega)
  go_enter Try.func41, Try.ntmps41
  go_wp2_with fail
  refine (Laid.strings_shouldUseASCIISet _ _).mono ?_; rintro e w' ⟨rfl, hw⟩; rw [hw, h8z]; clear hw
  go_wp2_with fail
  go_loopg [9, 10] l.length (fun g _ _ wx => ∃ i : Nat, i + g = l.length ∧ ItAt w l wx i)
  case atStart => exact ⟨0, by omega, ⟨World.iter_heap w ⟨l.toArray⟩ 0, (Below.refl _ _).alloc (Nat.le_refl _) _, Lib.NoAny.zero _ _⟩⟩
  case round =>
    obtain ⟨i, hig, hat⟩ := hrel
    cases gk with
    | zero =>
      obtain rfl : i = l.length := by omega
      have hnx := fun ty => run_next_over (P := Try.prog) _ w.heap.size ⟨l.toArray⟩ l.length ty hat.it (by show ¬ l.length < l.length; omega)
      replace hat := Lib.hid hat
      go_wp2_with fail
      go_ret
      exact ⟨by rw [Lib.indexAny_none hat.out.no]; rfl, hat.out.below⟩
    | succ g =>
      have hi : i < l.length := by omega
      obtain ⟨W', hnx, hit, hbel⟩ := hat.next hi
      have hle := decode_le ⟨l.toArray⟩ i
      have hno := hat.no
      clear hat
      by_cases hx : (l.getD i 0).toNat < 128
      · rw [dec_low l i hi hx] at hnx hit
        have hg := get_some l i hi
        have hc := Lib.contains_iff_indexByte [60, 38] (l.getD i 0)
        generalize l.getD i 0 = x at hnx hit hx hg hc
        have hback := byte_back x
        replace hg := Lib.hid hg
        replace hno := Lib.hid hno
        replace hit := Lib.hid hit
        replace hbel := Lib.hid hbel
        cases hin : [(60 : UInt8), 38].contains x
        · have hlt : ¬ ((0 : Int) ≤ Lib.indexByte [60, 38] x) := by rw [hin] at hc; exact of_decide_eq_false hc.symm
          clear hc
          replace hin := Lib.hid hin
          go_wp2_with fail
          refine (Laid.strings_IndexRune_ascii ⟨#[60, 38]⟩ (x.toNat : Int) _ (by omega) (by omega)).mono ?_; rintro e w' ⟨rfl, hw⟩; rw [hw, hback]; clear hw
          go_wp2_with fail
          go_roundg g
          case measure => omega
          case rel => exact ⟨i + 1, by omega, hit.out, hbel.out, hno.out.succ hg.out hin.out⟩
        · have hge : (0 : Int) ≤ Lib.indexByte [60, 38] x := by rw [hin] at hc; exact of_decide_eq_true hc.symm
          clear hc
          replace hin := Lib.hid hin
          go_wp2_with fail
          refine (Laid.strings_IndexRune_ascii ⟨#[60, 38]⟩ (x.toNat : Int) _ (by omega) (by omega)).mono ?_; rintro e w' ⟨rfl, hw⟩; rw [hw, hback]; clear hw
          go_wp2_with fail
          go_ret
          exact ⟨by rw [Lib.indexAny_hit hno.out hg.out hin.out]; rfl, hbel.out⟩
      · obtain ⟨h1, h2, h3⟩ := dec_wide l i hi (by omega)
        have hh : 128 ≤ (Utf8.decode ⟨l.toArray⟩ i).1 := by
          refine (decode_high ⟨l.toArray⟩ i hi ?_).1
          have e : (ByteArray.mk l.toArray)[i]'hi = l.getD i 0 := by
            simp [List.getD, List.getElem?_eq_getElem hi]; rfl
          rw [e]; omega
        generalize (Utf8.decode ⟨l.toArray⟩ i).1 = r at hnx hh hle
        generalize (Utf8.decode ⟨l.toArray⟩ i).2 = n at hit h1 h2 h3
        have hno2 := Lib.hid (noAny_wide hno h3)
        clear h3 hno
        replace hit := Lib.hid hit
        replace hbel := Lib.hid hbel
        go_wp2_with fail
        refine (indexRune_high (r : Int) _ (by omega) (by omega)).mono ?_; rintro e w' ⟨rfl, hb2⟩
        replace hb2 := Lib.hid hb2
        go_wp2_with fail
        go_roundg (l.length - (i + n))
        case measure => omega
        case rel => exact ⟨i + n, by omega, it_keep hit.out hb2.out, hbel.out.andThen hb2.out, hno2.out⟩

theorem anyOf_any (l : List UInt8) (w : World) (hl : l.length ≤ 1000000) :
    Calls Try.prog 41 #[.string ⟨l.toArray⟩, .string ⟨#[60, 38]⟩] w (AnyPost w l) := by
  by_cases h8 : l.length ≤ 8
  · exact any_short l w h8
  · exact any_long l w (by omega) hl
theorem containsAny_any (l : List UInt8) (w : World) (hl : l.length ≤ 1000000) :
    Calls Try.prog 33 #[.string ⟨l.toArray⟩, .string ⟨#[60, 38]⟩] w fun e w' => e = .returned (.bool (Lib.containsAny l [60, 38])) ∧ Below w.heap.size w w' := by
  go_enter Try.func33, Try.ntmps33
  go_wp2_with fail
  refine (anyOf_any l _ hl).mono ?_; rintro e w' ⟨rfl, hb⟩
  go_wp2_with fail
  go_ret
  exact ⟨rfl, hb⟩
end Go.Proofs.Ytahjopajnckbaaa
