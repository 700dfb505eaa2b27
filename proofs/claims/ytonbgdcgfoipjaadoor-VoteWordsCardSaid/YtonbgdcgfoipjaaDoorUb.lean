/- The walks of Decode and Valid, of the program and of the reference; and of same. -/
import Derived.Test.YtonbgdcgfoipjaaDoorUa
namespace Go.Proofs.YtonbgdcgfoipjaaDoor
open Go.RowKit

theorem info_rune : (Tryd.prog.info? 21).map (fun i => (i.zero, i.size, i.bytes)) = some (some (.int .i32 0), 1, 4) := by kernel_rfl

/-- A slice of runes that the call itself made. -/
def Runes (w : World) (B : Nat) (v : Value) (xs : List Int) : Prop := w.ownsRow B 21 1 v xs.length (xs.map (Value.int .i32))

/-- What a loop that decodes keeps. -/
structure DecAt (l : List UInt8) (w : World) (d : List UInt8) (v : Value) (acc : List Int) (wr : World) : Prop where
  own : Runes wr w.heap.size v acc
  below : Below w.heap.size w wr
  eq : acc ++ dec d = dec l
  len : acc.length + d.length ≤ l.length

theorem DecAt.step {l : List UInt8} {w : World} {d : List UInt8} {v v' : Value} {acc : List Int} {wr wr' : World} (h : DecAt l w d v acc wr) (hd : d ≠ [])
    (ho : wr'.ownsRow w.heap.size 21 1 v' (acc.length + 1) (acc.map (Value.int .i32) ++ [.int .i32 (cutS d).1])) (hb : Below w.heap.size w wr') :
    DecAt l w (d.drop (cutN d)) v' (acc ++ [(cutS d).1]) wr' := by
  refine ⟨?_, hb, ?_, ?_⟩
  · unfold Runes; rw [List.length_append, List.map_append]; exact ho
  · rw [← h.eq, dec_cons d hd, List.append_assoc]; rfl
  · have := drop_lt d hd; have := h.len; simp at *; omega

theorem take_drop_eq {d : List UInt8} {n : Int} (hn : n = (cutN d : Int)) : d.drop n.toNat = d.drop (cutN d) := by rw [hn]; simp

def DecPost (l : List UInt8) (w : World) (e : Ending) (w' : World) : Prop := ∃ v, e = .returned v ∧ Runes w' w.heap.size v (dec l) ∧ Below w.heap.size w w'

set_option maxHeartbeats 400000 in
theorem refdecode_any (l : List UInt8) (w : World) (hs : l.length ≤ 20000) :
    Calls Tryd.prog 22 #[.string ⟨l.toArray⟩] w (DecPost l w) := by
  obtain ⟨i0, hi, hz0, hz1, hz2⟩ := info_parts info_rune
  go_enter Tryd.func22, Tryd.ntmps22
  go_wp2_with fail
  go_loopw [0, 3, 4, 5] (fun s v _ _ wr => ∃ d acc, s = .string ⟨d.toArray⟩ ∧ DecAt l w d v acc wr) (fun s _ _ _ _ => strLen s)
  case atStart => exact ⟨l, [], rfl, World.ownsRow_nil _ _ _ _, Below.refl _ _, rfl, by simp⟩
  case round =>
    obtain ⟨d, acc, rfl, hc⟩ := hrel
    have hlen := hc.len
    replace hc := Lib.hid hc
    by_cases hd : d = []
    · subst hd
      go_wp2_with fail
      go_ret
      have := hc.out.eq
      simp [dec_nil] at this
      exact ⟨_, rfl, this ▸ hc.out.own, hc.out.below⟩
    · have he : 0 < d.length := len_pos hd
      replace hd := Lib.hid hd
      go_wp2_with fail
      refine (refnext_any d _ (by unfold maxLen; omega)).mono ?_; rintro e w' ⟨rfl, hw⟩
      obtain ⟨nq, rfl⟩ := hw
      have hb := cutN_bd d hd.out
      have hown := Lib.hid (ownsRow_drawn hc.out.own ⟨nq, rfl⟩)
      go_wp2_with (at_builtin; refine wpList_append_own _ rfl _ _ 40 rfl w.heap.size 21 i0 (.int .i32 0) 1 4 Tryd.underlying40 hi hz0 hz1 hz2 rfl (by decide) _ _ _ rfl (hown.out.alloc _) ⟨wr.heap.size, 0, none⟩ 1 1 [.int .i32 (cutS d).1] rfl rfl (cell_one_new _ _ _) ?c2 ?c3 ?c4 ?c5 ?_)
      case c2 => intro u hu; simp at hu; subst hu; rfl
      case c3 => unfold maxLen; omega
      case c4 => omega
      case c5 => have := hc.out.below.size; simp; omega
      intro v' w1 hown1 hgrow1 _
      replace hown1 := Lib.hid hown1
      replace hgrow1 := Lib.hid hgrow1
      go_wp2_with fail
      exact ⟨⟨_, _, rfl, hc.out.step hd.out hown1.out (((hc.out.below.trans ((Drawn.below ⟨nq, rfl⟩) _)).alloc (by have := hc.out.below.size; simpa using this) _).grown hgrow1.out (by have := hc.out.below.size; simp; omega) (fun k hk => (hc.out.own.lt k hk).1))⟩, by rw [strLen_mk, strLen_mk]; exact drop_lt d hd.out⟩

theorem take_eq {xs ys : List Int} {k : Nat} (h1 : k < xs.length) (h2 : k < ys.length) (h : xs.take k = ys.take k) (he : (xs[k] != ys[k]) = false) : xs.take (k + 1) = ys.take (k + 1) := by
  have e : xs[k] = ys[k] := by simpa using he
  rw [List.take_succ_eq_append_getElem h1, List.take_succ_eq_append_getElem h2, h, e]
theorem take_ne {xs ys : List Int} {k : Nat} (h1 : k < xs.length) (h2 : k < ys.length) (he : (xs[k] != ys[k]) = true) : decide (xs = ys) = false := by
  simp at he ⊢
  intro h; subst h; exact he rfl

end Go.Proofs.YtonbgdcgfoipjaaDoor
