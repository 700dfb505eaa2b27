/- '[]rune(s)' and 'string(runes)' as steps: a fresh row of a text's runes, and the text of runes that can be read. -/
import Derived.Test.YtahohmdbiiknoaaGreatDoorBR01
import Derived.Test.YtahohmdbiiknoaaGreatDoorBR19
import Derived.Shelf.Strings.IndexAnyAll
import Derived.Deep.WholeRow
import Derived.Laws.RangeAny
import Derived.Test.YtahohmdbiiknoaaGreatDoorBR10
import Derived.Test.YtahohmdbiiknoaaGreatDoorBR02
import Derived.Laws.Runes
import Derived.Deep.LoopGhost
import Derived.WalkMore
import Derived.Test.YtahohmdbiiknoaaGreatDoorBR12
namespace Go.Proofs.YtahohmdbiiknoaaGreatDoor
open Go.RowKit

theorem runes_conv {P : Program} (l : List UInt8) (w : World) (src dst e : TypeId) (hs : P.underlying src = some .string) (hd : P.underlying dst = some (.slice e)) (he : P.underlying e = some (.int .i32)) (hl : l.length ≤ 1000000) :
    ∃ (R : List Int) (c : Nat) (w1 : World), (convert src dst (.string ⟨l.toArray⟩)).run P w = .ok (.slice (some ⟨w.heap.size, 0, none⟩) R.length c) w1 ∧ R.length ≤ l.length ∧ (∀ r ∈ R, 0 ≤ r) ∧
      Hid (∀ j, j < R.length → w1.cell? ⟨w.heap.size, j, none⟩ = some (.int .i32 (R.getD j 0))) ∧ Hid (Below w.heap.size w w1) ∧ w1.heap.size = w.heap.size + 1 := by
  obtain ⟨R, hR, hn, h0⟩ := runes_of l
  have hz : (ByteArray.mk l.toArray).size = l.length := by simp [ByteArray.size]
  have hk : (Conv.runesFrom ⟨l.toArray⟩ (ByteArray.mk l.toArray).size 0 #[]).size = R.length := by rw [hz, hR]; simp
  have h := run_runes_of_string (P := P) w src dst e ⟨l.toArray⟩ hs hd he (by rw [hk]; omega)
  rw [hk] at h
  generalize grownCap w R.length 0 e = c at h
  refine ⟨R, c, _, h, hn, h0, Lib.hid ?_, Lib.hid ?_, by simp⟩
  · intro j hj
    refine (World.cell?_alloc_mark w.drew _ _ _ j).trans ?_
    rw [hz, hR, Array.getElem?_append_left (by simpa using hj)]
    simp [List.getD, hj]
  · exact (Drawn.below ⟨1, rfl⟩ w.heap.size).alloc (Nat.le_refl _) _

theorem runes_str {P : Program} (w : World) (src dst e : TypeId) (hs : P.underlying src = some (.slice e)) (he : P.underlying e = some (.int .i32)) (hd : P.underlying dst = some .string) (b c : Nat) (R : List Int)
    (h : Hid (∀ j, j < R.length → w.cell? ⟨b, j, none⟩ = some (.int .i32 (R.getD j 0)))) :
    (convert src dst (.slice (some ⟨b, 0, none⟩) R.length c)).run P w = .ok (.string ⟨(encAll R).toArray⟩) w := by
  rw [run_convert_runes_string w src dst e _ _ _ hs he hd, ← runes_bytes]
  have hl := run_loadCells_list (P := P) (w := w) ⟨b, 0, none⟩ (R.map (Value.int .i32)) (fun j v hj => by
    have hj' : j < R.length := by
      have := (List.getElem?_eq_some_iff.1 hj).1
      simpa using this
    have hadd : (⟨b, 0, none⟩ : Addr).add j = ⟨b, 0 + j, none⟩ := by unfold Addr.add; split <;> simp_all
    rw [hadd, Nat.zero_add, h.out j hj']
    simp [List.getElem?_eq_getElem hj'] at hj
    rw [← hj]
    simp [List.getD, hj'])
  rw [List.length_map] at hl
  exact run_runesToString w ⟨b, 0, none⟩ R.length c R hl
end Go.Proofs.YtahohmdbiiknoaaGreatDoor

/- strings.IndexAny and ContainsAny of a text for either of two signs, whatever bytes the text has. -/
namespace Go.Proofs.YtahohmdbiiknoaaGreatDoor
open Go.RowKit Go.Shelf Go.Lib
end Go.Proofs.YtahohmdbiiknoaaGreatDoor

/- strings.IndexRune at a rune beyond ASCII, IndexAny and ContainsAny of a text for either of two signs: whatever bytes the text has. -/
namespace Go.Proofs.YtahohmdbiiknoaaGreatDoor
open Go.RowKit Go.Shelf

theorem run_next_at {P : Program} (W : World) (b : Nat) (s : ByteArray) (pos : Nat) (ty : TypeId) (hb : W.heap[b]? = some (.stringIter s pos)) (h : pos < s.size) :
    (Instr.next (.pointer (some ⟨b, 0, none⟩)) true ty).run P W = .ok (.tuple #[.bool true, .int .i64 pos, .int .i32 (Utf8.decode s pos).1]) { W with heap := W.heap.setIfInBounds b (.stringIter s (pos + (Utf8.decode s pos).2)) } := by
  simp only [Instr.next, getObj, setObj, Sem.run_bind, Sem.run, hb, Result.andThen, h, if_true]
  simp [goInt]
theorem run_next_over {P : Program} (W : World) (b : Nat) (s : ByteArray) (pos : Nat) (ty : TypeId) (hb : W.heap[b]? = some (.stringIter s pos)) (h : ¬ pos < s.size) :
    (Instr.next (.pointer (some ⟨b, 0, none⟩)) true ty).run P W = .ok (.tuple #[.bool false]) W := by
  simp [Instr.next, getObj, Sem.run, hb, h]

def validN (r : Int) : Bool := decide (r < 55296 ∨ 57343 < r ∧ r ≤ 1114111)
theorem valid_ret {r : Int} {b : Bool} (h : (r < 55296 ∨ 57343 < r ∧ r ≤ 1114111) ↔ b = true) : Ending.returned (.bool b) = .returned (.bool (validN r)) := by
  rw [show validN r = b from by unfold validN; cases b <;> simp at h ⊢ <;> omega]
theorem enc_list (r : Int) (h0 : 128 ≤ r) (hv : validN r = true) : ∃ L : List UInt8, Utf8.encode r = ⟨L.toArray⟩ ∧ 2 ≤ L.length ∧ L.length ≤ 4 ∧ 128 ≤ bt L (L.length - 1) := by
  have hv' : Utf8.valid r = true := by
    unfold validN at hv
    unfold Utf8.valid
    simp only [decide_eq_true_eq] at hv
    simp only [Bool.or_eq_true, Bool.and_eq_true, decide_eq_true_eq]
    omega
  obtain ⟨h1, h2, h3⟩ := encode_facts r hv' h0
  obtain ⟨a, ha⟩ : ∃ a : Array UInt8, Utf8.encode r = ⟨a⟩ := ⟨_, rfl⟩
  rw [ha] at h1 h2 h3 ⊢
  have hs : (ByteArray.mk a).size = a.toList.length := by show a.size = _; simp
  rw [hs] at h1 h2
  refine ⟨a.toList, by simp, h1, h2, ?_⟩
  have h4 := h3 (by show a.size - 1 < a.size; rw [Array.length_toList] at h1; omega)
  unfold bt
  rw [Array.length_toList] at h1
  have : (a.toList.getD (a.toList.length - 1) 0) = a[a.size - 1]'(by omega) := by
    simp [List.getD]
    rw [Array.getElem?_eq_getElem (by omega)]; rfl
  rw [this]
  have h5 : 128 ≤ (a[a.size - 1]'(by omega)).toNat := h4
  omega

def MinusPost (w : World) (e : Ending) (w' : World) : Prop := e = .returned (.int .i64 (-1)) ∧ Below w.heap.size w w'
end Go.Proofs.YtahohmdbiiknoaaGreatDoor

/- strings.IndexAny at a short text, ContainsAny at any: for either of two signs, whatever bytes the text has. -/
namespace Go.Proofs.YtahohmdbiiknoaaGreatDoor
open Go.RowKit Go.Shelf

theorem get_list (l : List UInt8) (j : Nat) : (ByteArray.mk l.toArray).get! j = l.getD j 0 := by
  show l.toArray[j]! = l.getD j 0
  simp [List.getD, List.getElem!_eq_getElem?_getD]
  rfl
/-- What a rune beyond ASCII takes: no sign of ASCII. -/
theorem dec_wide (l : List UInt8) (pos : Nat) (h : pos < l.length) (ha : 128 ≤ (l.getD pos 0).toNat) : 1 ≤ (Utf8.decode ⟨l.toArray⟩ pos).2 ∧ pos + (Utf8.decode ⟨l.toArray⟩ pos).2 ≤ l.length ∧
    ∀ j, pos ≤ j → j < pos + (Utf8.decode ⟨l.toArray⟩ pos).2 → 128 ≤ (l.getD j 0).toNat := by
  have hn : ¬ (l.getD (pos + 0) 0).toNat < 128 := by rw [Nat.add_zero]; omega
  have hs : (ByteArray.mk l.toArray).size = l.length := rfl
  simp only [Utf8.decode, get_list, hs, hn, if_false, Bool.and_eq_true, decide_eq_true_eq, beq_iff_eq]
  have one : 1 ≤ 1 ∧ pos + 1 ≤ l.length ∧ ∀ j, pos ≤ j → j < pos + 1 → 128 ≤ (l.getD j 0).toNat := ⟨Nat.le_refl _, h, fun j h1 h2 => by rw [show j = pos from by omega]; exact ha⟩
  split
  · rename_i h1
    split
    · refine ⟨by omega, by show pos + 2 ≤ _; omega, fun j h2 h3 => ?_⟩
      rcases (show j = pos ∨ j = pos + 1 from by have h3 : j < pos + 2 := h3; omega) with rfl | rfl
      · exact ha
      · omega
    · exact one
  split
  · rename_i h1
    split
    · refine ⟨by omega, by show pos + 3 ≤ _; omega, fun j h2 h3 => ?_⟩
      rcases (show j = pos ∨ j = pos + 1 ∨ j = pos + 2 from by have h3 : j < pos + 3 := h3; omega) with rfl | rfl | rfl
      · exact ha
      · omega
      · omega
    · exact one
  split
  · rename_i h1
    split
    · refine ⟨by omega, by show pos + 4 ≤ _; omega, fun j h2 h3 => ?_⟩
      rcases (show j = pos ∨ j = pos + 1 ∨ j = pos + 2 ∨ j = pos + 3 from by have h3 : j < pos + 4 := h3; omega) with rfl | rfl | rfl | rfl
      · exact ha
      · omega
      · omega
      · omega
    · exact one
  · exact one
theorem noAny_wide {l : List UInt8} {i n : Nat} (h : Lib.NoAny l [60, 38] i) (hw : ∀ j, i ≤ j → j < i + n → 128 ≤ (l.getD j 0).toNat) : Lib.NoAny l [60, 38] (i + n) := by
  intro j b hj hb
  by_cases hji : j < i
  · exact h j b hji hb
  · have h2 := hw j (by omega) hj
    rw [List.getD, hb] at h2
    have h3 : 128 ≤ b.toNat := h2
    simp only [List.contains_cons, List.contains_nil, Bool.or_false, Bool.or_eq_false_iff, beq_eq_false_iff_ne]
    exact ⟨fun e => by subst e; revert h3; decide, fun e => by subst e; revert h3; decide⟩
theorem below_iter {B b : Nat} {w wr : World} {o : Obj} (h : Below B w wr) (hb : B ≤ b) : Below B w { wr with heap := wr.heap.setIfInBounds b o } :=
  ⟨h.os, h.tape, h.output, by simpa using h.size, fun k hk => by
    have : ({ wr with heap := wr.heap.setIfInBounds b o } : World).heap[k]? = wr.heap[k]? := by
      show (wr.heap.setIfInBounds b o)[k]? = _
      rw [Array.getElem?_setIfInBounds_ne (by omega)]
    rw [this]; exact h.block k hk⟩
/-- The text's iterator lies in block b, at place i. -/
structure IxAt (w : World) (l : List UInt8) (wx : World) (i : Nat) : Prop where
  it : wx.heap[w.heap.size]? = some (.stringIter ⟨l.toArray⟩ i)
  below : Below w.heap.size w wx
  no : Lib.NoAny l [60, 38] i
theorem IxAt.next {w : World} {l : List UInt8} {wx : World} {i : Nat} (h : IxAt w l wx i) (hi : i < l.length) :
    ∃ W', (∀ ty, (Instr.next (.pointer (some ⟨w.heap.size, 0, none⟩)) true ty).run Tryz.prog wx = .ok (.tuple #[.bool true, .int .i64 i, .int .i32 (Utf8.decode ⟨l.toArray⟩ i).1]) W') ∧
      W'.heap[w.heap.size]? = some (.stringIter ⟨l.toArray⟩ (i + (Utf8.decode ⟨l.toArray⟩ i).2)) ∧ Below w.heap.size w W' := by
  refine ⟨_, fun ty => run_next_at wx w.heap.size ⟨l.toArray⟩ i ty h.it hi, ?_, below_iter h.below (Nat.le_refl _)⟩
  have hlt : w.heap.size < wx.heap.size := by
    rcases Nat.lt_or_ge w.heap.size wx.heap.size with h1 | h1
    · exact h1
    · have := h.it; rw [Array.getElem?_eq_none h1] at this; cases this
  show (wx.heap.setIfInBounds _ _)[_]? = _
  rw [Array.getElem?_setIfInBounds_self_of_lt hlt]
theorem it_keep {w W W' : World} {o : Obj} (h : W.heap[w.heap.size]? = some o) (hb : Below W.heap.size W W') : W'.heap[w.heap.size]? = some o := by
  have hlt : w.heap.size < W.heap.size := by
    rcases Nat.lt_or_ge w.heap.size W.heap.size with h1 | h1
    · exact h1
    · rw [Array.getElem?_eq_none h1] at h; cases h
  rw [← h]; exact hb.block _ hlt
theorem byte_back (x : UInt8) : ((x.toNat : Int)).toNat.toUInt8 = x := by simp
theorem dec_low (l : List UInt8) (i : Nat) (hi : i < l.length) (hx : (l.getD i 0).toNat < 128) : Utf8.decode ⟨l.toArray⟩ i = ((l.getD i 0).toNat, 1) := by
  have e : (ByteArray.mk l.toArray)[i]'hi = l.getD i 0 := by
    simp [List.getD, List.getElem?_eq_getElem hi]; rfl
  rw [← e] at hx ⊢
  exact decode_ascii _ _ _ hx
theorem get_some (l : List UInt8) (i : Nat) (hi : i < l.length) : l[i]? = some (l.getD i 0) := by simp [List.getD, hi]

def AnyPost (w : World) (l : List UInt8) (e : Ending) (w' : World) : Prop := e = .returned (.int .i64 (Lib.indexAny l [60, 38])) ∧ Below w.heap.size w w'
end Go.Proofs.YtahohmdbiiknoaaGreatDoor

/- Layer 10: the reference's Plain. -/
namespace Go.Proofs.YtahohmdbiiknoaaGreatDoor
open Go.RowKit

theorem badP_at (b : Bool) (l : List UInt8) (k : Nat) : badP b (l.drop k) = (bt l k == 60 || bt l k == 38 || decide (blankN (l.drop k) = 2) || decide (blankN (l.drop k) = 1) && (bt l k != 32 || !b || decide (l.length - k = 1) || bt l (k + 1) == 32)) := by
  unfold badP
  rw [bt_drop, bt_drop, List.length_drop, Nat.add_zero]
/-- What the loop keeps: what is still to be told. -/
def PlAt (l : List UInt8) (k : Nat) : Prop := k ≤ l.length ∧ plR (decide (k ≠ 0)) (l.drop k) = plainB l
theorem PlAt.bad {l : List UInt8} {k : Nat} (h : PlAt l k) (hk : k < l.length) (hb : badP (decide (k ≠ 0)) (l.drop k) = true) : plainB l = false := by
  rw [← h.2, plR_step _ _ (drop_ne hk), hb]; rfl
theorem PlAt.next {l : List UInt8} {k : Nat} (h : PlAt l k) (hk : k < l.length) (hb : badP (decide (k ≠ 0)) (l.drop k) = false) : PlAt l (k + 1) := by
  refine ⟨by omega, ?_⟩
  rw [← h.2, plR_step _ _ (drop_ne hk), hb, List.drop_drop]
  simp
theorem PlAt.done {l : List UInt8} {k : Nat} (h : PlAt l k) (hk : ¬ k < l.length) : plainB l = true := by
  rw [← h.2, List.drop_eq_nil_of_le (by omega)]; rfl
theorem PlAt.start (l : List UInt8) : PlAt l 0 := ⟨Nat.zero_le _, by rw [List.drop_zero]; exact plR_plain l⟩

set_option maxRecDepth 100000 in
set_option maxHeartbeats 2000000 in
theorem refplain_any (l : List UInt8) (w : World) (hl : l.length ≤ 2000000) :
    Calls Tryz.prog 9 #[.string ⟨l.toArray⟩] w fun e w' => e = .returned (.bool (plainB l)) ∧ w = w' := by
  go_enter Tryz.func9, Tryz.ntmps9
  go_wp2_with fail
  go_loop [3] (fun i => ∃ k : Nat, i = .int .i64 k ∧ PlAt l k) (fun i => l.length - (intOf i).toNat)
  case atStart => exact ⟨0, rfl, PlAt.start l⟩
  case round =>
    obtain ⟨k, rfl, hc⟩ := hrel
    have hk := hc.1
    by_cases hlt : k < l.length
    · have hb0 := bt_lt l k
      have hb1 := bt_lt l (k + 1)
      have hat := badP_at (decide (k ≠ 0)) l k
      have hcall : Hid (∀ W, Calls Tryz.prog 19 #[.string ⟨l.toArray⟩, .int .i64 k] W fun e w' => e = .returned (.int .i64 (blankN (l.drop k))) ∧ W = w') := fun W => refblank_any l k W hlt (by omega)
      have hbad := fun h => hc.bad hlt h
      have hnext := fun h => hc.next hlt h
      have h02 := blankN_02 (l.drop k)
      generalize badP (decide (k ≠ 0)) (l.drop k) = B at hat hbad hnext
      generalize blankN (l.drop k) = n at hat hcall h02
      replace hbad := Lib.hid hbad
      replace hnext := Lib.hid hnext
      clear hc
      by_cases h60 : bt l k = 60
      · replace hbad := Lib.hid (hbad.out (by rw [hat]; rw [h60]; rfl))
        clear hat hnext
        go_wp2_with fail
        refine (hcall.out _).mono ?_; rintro e w' ⟨rfl, rfl⟩
        go_wp2_with fail
        go_ret
        exact ⟨ret_bool hbad.out.symm, rfl⟩
      have b60 : (bt l k == 60) = false := by simpa using h60
      clear h60
      by_cases h38 : bt l k = 38
      · replace hbad := Lib.hid (hbad.out (by rw [hat]; rw [h38]; rfl))
        clear hat hnext
        go_wp2_with fail
        refine (hcall.out _).mono ?_; rintro e w' ⟨rfl, rfl⟩
        go_wp2_with fail
        go_ret
        exact ⟨ret_bool hbad.out.symm, rfl⟩
      have b38 : (bt l k == 38) = false := by simpa using h38
      clear h38
      rcases h02 with rfl | rfl | rfl
      · replace hnext := Lib.hid (hnext.out (by rw [hat]; rw [b60, b38]; rfl))
        clear hat hbad
        go_wp2_with fail
        refine (hcall.out _).mono ?_; rintro e w' ⟨rfl, rfl⟩
        go_wp2_with fail
        exact ⟨⟨k + 1, by go_num, hnext.out⟩, by simp [intOf]; omega⟩
      · by_cases h32 : bt l k = 32
        · clear b60 b38
          by_cases hk0 : k = 0
          · subst hk0
            replace hbad := Lib.hid (hbad.out (by rw [hat]; rw [h32]; rfl))
            clear hat hnext
            go_wp2_with fail
            refine (hcall.out _).mono ?_; rintro e w' ⟨rfl, rfl⟩
            go_wp2_with fail
            go_ret
            exact ⟨ret_bool hbad.out.symm, rfl⟩
          have hkz : ((k : Int) == 0) = false := by simp; omega
          by_cases hkl : k + 1 = l.length
          · have hke : ((k : Int) == (l.length : Int) - 1) = true := by simp; omega
            have hl1 : l.length - k = 1 := by omega
            clear hb1
            replace hbad := Lib.hid (hbad.out (by rw [hat]; rw [h32, hl1]; simp))
            clear hat hnext
            go_wp2_with fail
            refine (hcall.out _).mono ?_; rintro e w' ⟨rfl, rfl⟩
            go_wp2_with fail
            go_ret
            exact ⟨ret_bool hbad.out.symm, rfl⟩
          have hke : ((k : Int) == (l.length : Int) - 1) = false := by rw [beq_eq_false_iff_ne]; omega
          have hk1 : k + 1 < l.length := by omega
          by_cases h33 : bt l (k + 1) = 32
          · replace hbad := Lib.hid (hbad.out (by rw [hat]; rw [h32, h33]; simp))
            clear hat hnext
            go_wp2_with fail
            refine (hcall.out _).mono ?_; rintro e w' ⟨rfl, rfl⟩
            go_wp2_with fail
            go_ret
            exact ⟨ret_bool hbad.out.symm, rfl⟩
          have b33 : (bt l (k + 1) == 32) = false := by simpa using h33
          clear h33
          replace hnext := Lib.hid (hnext.out (by rw [hat]; rw [h32, b33, decide_eq_true hk0, decide_eq_false (show ¬ l.length - k = 1 by omega)]; rfl))
          clear hat hbad
          go_wp2_with fail
          refine (hcall.out _).mono ?_; rintro e w' ⟨rfl, rfl⟩
          go_wp2_with fail
          exact ⟨⟨k + 1, by go_num, hnext.out⟩, by simp [intOf]; omega⟩
        have b32 : (bt l k != 32) = true := by rw [bne_iff_ne]; exact h32
        clear h32
        replace hbad := Lib.hid (hbad.out (by rw [hat]; rw [b32]; simp))
        clear hat hnext
        go_wp2_with fail
        refine (hcall.out _).mono ?_; rintro e w' ⟨rfl, rfl⟩
        go_wp2_with fail
        go_ret
        exact ⟨ret_bool hbad.out.symm, rfl⟩
      · replace hbad := Lib.hid (hbad.out (by rw [hat]; simp))
        clear hat hnext
        go_wp2_with fail
        refine (hcall.out _).mono ?_; rintro e w' ⟨rfl, rfl⟩
        go_wp2_with fail
        go_ret
        exact ⟨ret_bool hbad.out.symm, rfl⟩
    · have hke : ¬ ((k : Int) < l.length) := by omega
      have hq := Lib.hid (hc.done hlt)
      replace hc := Lib.hid hc
      go_wp2_with fail
      go_ret
      exact ⟨ret_bool hq.out.symm, rfl⟩
end Go.Proofs.YtahohmdbiiknoaaGreatDoor

/- The model's numbers, as a value; whether a document's may be. -/
namespace Go.Proofs.YtahohmdbiiknoaaGreatDoor
open Go.RowKit

/-- May a document's numbers be? -/
def checkB (doc dep many most : Int) : Bool := decide (1 ≤ doc) && decide (doc ≤ 65536) && decide (1 ≤ dep) && decide (dep ≤ 64) && decide (1 ≤ many) && decide (many ≤ 64) && decide (1 ≤ most) && decide (most ≤ 1024)
/-- The model's numbers. -/
structure Prm where
  entries : Int
  doc : Int
  dep : Int
  feeds : Int
  many : Int
  most : Int
  page : Int
  tick : Int
  window : Int
  dist : Int
  words : Int
def prmC (p : Prm) : List Value := [.int .i64 p.entries, .int .i64 p.doc, .int .i64 p.dep, .int .i64 p.feeds, .int .i64 p.many, .int .i64 p.most, .int .i64 p.page, .int .i64 p.tick, .int .i64 p.window, .int .i64 p.dist, .int .i64 p.words]
def prmV (p : Prm) : Value := .agg (prmC p).toArray
end Go.Proofs.YtahohmdbiiknoaaGreatDoor
