/- The walks of Decode and Valid, of the program and of the reference; and of same. -/
import Derived.Test.YtldnigkaagcciaaDoorUa
namespace Go.Proofs.YtldnigkaagcciaaDoor
open Go.RowKit

theorem info_rune : (Tryd.prog.info? 21).map (fun i => (i.zero, i.size, i.bytes)) = some (some (.int .i32 0), 1, 4) := by kernel_rfl

/-- A slice of runes that the call itself made. -/
def Runes (w : World) (B : Nat) (v : Value) (xs : List Int) : Prop := w.ownsRow B 21 1 v xs.length (xs.map (Value.int .i32))

/-- What a loop that decodes keeps. -/
structure DecAt (l : List UInt8) (w : World) (d : List UInt8) (v : Value) (acc : List Int) (wr : World) : Prop where
  own : Runes wr w.heap.size v acc
  below : Below w.heap.size w wr
  eq : acc ++ dec d = dec l
  len : acc.length + d.length ≤ l.length

theorem DecAt.step {l : List UInt8} {w : World} {d : List UInt8} {v v' : Value} {acc : List Int} {wr wr' : World} (h : DecAt l w d v acc wr) (hd : d ≠ [])
    (ho : wr'.ownsRow w.heap.size 21 1 v' (acc.length + 1) (acc.map (Value.int .i32) ++ [.int .i32 (cutS d).1])) (hb : Below w.heap.size w wr') :
    DecAt l w (d.drop (cutN d)) v' (acc ++ [(cutS d).1]) wr' := by
  refine ⟨?_, hb, ?_, ?_⟩
  · unfold Runes; rw [List.length_append, List.map_append]; exact ho
  · rw [← h.eq, dec_cons d hd, List.append_assoc]; rfl
  · have := drop_lt d hd; have := h.len; simp at *; omega

theorem take_drop_eq {d : List UInt8} {n : Int} (hn : n = (cutN d : Int)) : d.drop n.toNat = d.drop (cutN d) := by rw [hn]; simp

def DecPost (l : List UInt8) (w : World) (e : Ending) (w' : World) : Prop := ∃ v, e = .returned v ∧ Runes w' w.heap.size v (dec l) ∧ Below w.heap.size w w'

set_option maxHeartbeats 400000 in
theorem valid_any (l : List UInt8) (w : World) (hs : l.length ≤ 20000) :
    Calls Tryd.prog 27 #[.string ⟨l.toArray⟩] w fun e w' => e = .returned (.bool (val l)) ∧ Drawn w w' := by
  go_enter Tryd.func27, Tryd.ntmps27
  go_wp2_with fail
  go_loopw [0, 3, 4, 5] (fun s _ _ _ wr => ∃ d : List UInt8, s = .string ⟨d.toArray⟩ ∧ d.length ≤ l.length ∧ Hid (val d = val l) ∧ Drawn w wr) (fun s _ _ _ _ => strLen s)
  case atStart => exact ⟨l, rfl, Nat.le_refl _, rfl, Drawn.refl _⟩
  case round =>
    obtain ⟨d, rfl, hlen, hc, hw⟩ := hrel
    replace hw := Lib.hid hw
    by_cases hd : d = []
    · subst hd
      go_wp2_with fail
      go_ret
      exact ⟨by rw [← hc.out]; rfl, hw.out⟩
    · have he : d.isEmpty = false := by cases d <;> simp_all
      replace hd := Lib.hid hd
      go_wp2_with fail
      refine (cut_any d _ (by unfold maxLen; omega)).mono ?_; rintro e w' ⟨rfl, hw'⟩
      obtain ⟨n0, rfl⟩ := hw.out
      obtain ⟨nq, rfl⟩ := hw'
      have hb := cutN_bd d hd.out
      cases hg : (cutS d).2.2
      · go_wp2_with fail
        go_ret
        exact ⟨by rw [← hc.out, val_cons d hd.out, hg]; rfl, ⟨_, rfl⟩⟩
      · go_wp2_with fail
        exact ⟨⟨_, rfl, by have := drop_lt d hd.out; simp at this ⊢; omega, by rw [← hc.out, val_cons d hd.out, hg]; rfl, ⟨_, rfl⟩⟩, by rw [strLen_mk, strLen_mk]; exact drop_lt d hd.out⟩

theorem take_eq {xs ys : List Int} {k : Nat} (h1 : k < xs.length) (h2 : k < ys.length) (h : xs.take k = ys.take k) (he : (xs[k] != ys[k]) = false) : xs.take (k + 1) = ys.take (k + 1) := by
  have e : xs[k] = ys[k] := by simpa using he
  rw [List.take_succ_eq_append_getElem h1, List.take_succ_eq_append_getElem h2, h, e]
theorem take_ne {xs ys : List Int} {k : Nat} (h1 : k < xs.length) (h2 : k < ys.length) (he : (xs[k] != ys[k]) = true) : decide (xs = ys) = false := by
  simp at he ⊢
  intro h; subst h; exact he rfl

end Go.Proofs.YtldnigkaagcciaaDoor
