/- The walks of Decode and Valid, of the program and of the reference; and of same. -/
import Derived.Test.YtjaacimgeckofaaUa
namespace Go.Proofs.Ytjaacimgeckofaa
open Go.RowKit

theorem info_rune : (Try.prog.info? 21).map (fun i => (i.zero, i.size, i.bytes)) = some (some (.int .i32 0), 1, 4) := by kernel_rfl

/-- A slice of runes that the call itself made. -/
def Runes (w : World) (B : Nat) (v : Value) (xs : List Int) : Prop := w.ownsRow B 21 1 v xs.length (xs.map (Value.int .i32))

/-- What a loop that decodes keeps. -/
structure DecAt (l : List UInt8) (w : World) (d : List UInt8) (v : Value) (acc : List Int) (wr : World) : Prop where
  own : Runes wr w.heap.size v acc
  below : Below w.heap.size w wr
  eq : acc ++ dec d = dec l
  len : acc.length + d.length ≤ l.length

theorem DecAt.step {l : List UInt8} {w : World} {d : List UInt8} {v v' : Value} {acc : List Int} {wr wr' : World} (h : DecAt l w d v acc wr) (hd : d ≠ [])
    (ho : wr'.ownsRow w.heap.size 21 1 v' (acc.length + 1) (acc.map (Value.int .i32) ++ [.int .i32 (cutS d).1])) (hb : Below w.heap.size w wr') :
    DecAt l w (d.drop (cutN d)) v' (acc ++ [(cutS d).1]) wr' := by
  refine ⟨?_, hb, ?_, ?_⟩
  · unfold Runes; rw [List.length_append, List.map_append]; exact ho
  · rw [← h.eq, dec_cons d hd, List.append_assoc]; rfl
  · have := drop_lt d hd; have := h.len; simp at *; omega

theorem take_drop_eq {d : List UInt8} {n : Int} (hn : n = (cutN d : Int)) : d.drop n.toNat = d.drop (cutN d) := by rw [hn]; simp

def DecPost (l : List UInt8) (w : World) (e : Ending) (w' : World) : Prop := ∃ v, e = .returned v ∧ Runes w' w.heap.size v (dec l) ∧ Below w.heap.size w w'

set_option maxHeartbeats 400000 in
theorem decode_any (l : List UInt8) (w : World) (hs : l.length ≤ 20000) :
    Calls Try.prog 12 #[.string ⟨l.toArray⟩] w (DecPost l w) := by
  obtain ⟨i0, hi, hz0, hz1, hz2⟩ := info_parts info_rune
  go_enter Try.func12, Try.ntmps12
  go_wp2_with fail
  go_loopw [0, 3, 4, 5] (fun s v _ _ wr => ∃ d acc, s = .string ⟨d.toArray⟩ ∧ DecAt l w d v acc wr) (fun s _ _ _ _ => strLen s)
  case atStart => exact ⟨l, [], rfl, World.ownsRow_nil _ _ _ _, Below.refl _ _, rfl, by simp⟩
  case round =>
    obtain ⟨d, acc, rfl, hc⟩ := hrel
    have hlen := hc.len
    have hc := Lib.hid hc
    by_cases hd : d = []
    · subst hd
      go_wp2_with fail
      go_ret
      have := hc.out.eq
      simp [dec_nil] at this
      exact ⟨_, rfl, this ▸ hc.out.own, hc.out.below⟩
    · have he : d.isEmpty = false := by cases d <;> simp_all
      have hd := Lib.hid hd
      go_wp2_with fail
      refine (next_any d _ (by unfold maxLen; omega)).mono ?_; rintro e w' ⟨rfl, hw⟩
      obtain ⟨nq, rfl⟩ := hw
      have hb := cutN_bd d hd.out
      have hown := Lib.hid (ownsRow_drawn hc.out.own ⟨nq, rfl⟩)
      go_wp2_with (at_builtin; refine wpList_append_own _ rfl _ _ 26 rfl w.heap.size 21 i0 (.int .i32 0) 1 4 Try.underlying26 hi hz0 hz1 hz2 rfl (by decide) _ _ _ rfl (hown.out.alloc _) ⟨wr.heap.size, 0, none⟩ 1 1 [.int .i32 (cutS d).1] rfl rfl (cell_one_new _ _ _) ?c2 ?c3 ?c4 ?c5 ?_)
      case c2 => intro u hu; simp at hu; subst hu; rfl
      case c3 => unfold maxLen; omega
      case c4 => omega
      case c5 => have := hc.out.below.size; simp; omega
      intro v' w1 hown1 hgrow1 _
      have hown1 := Lib.hid hown1
      have hgrow1 := Lib.hid hgrow1
      go_wp2_with fail
      exact ⟨⟨_, _, rfl, hc.out.step hd.out hown1.out (((hc.out.below.trans ((Drawn.below ⟨nq, rfl⟩) _)).alloc (by have := hc.out.below.size; simpa using this) _).grown hgrow1.out (by have := hc.out.below.size; simp; omega) (fun k hk => (hc.out.own.lt k hk).1))⟩, by rw [strLen_mk, strLen_mk]; exact drop_lt d hd.out⟩

set_option maxHeartbeats 400000 in
theorem refdecode_any (l : List UInt8) (w : World) (hs : l.length ≤ 20000) :
    Calls Try.prog 13 #[.string ⟨l.toArray⟩] w (DecPost l w) := by
  obtain ⟨i0, hi, hz0, hz1, hz2⟩ := info_parts info_rune
  go_enter Try.func13, Try.ntmps13
  go_wp2_with fail
  go_loopw [0, 3, 4, 5] (fun s v _ _ wr => ∃ d acc, s = .string ⟨d.toArray⟩ ∧ DecAt l w d v acc wr) (fun s _ _ _ _ => strLen s)
  case atStart => exact ⟨l, [], rfl, World.ownsRow_nil _ _ _ _, Below.refl _ _, rfl, by simp⟩
  case round =>
    obtain ⟨d, acc, rfl, hc⟩ := hrel
    have hlen := hc.len
    have hc := Lib.hid hc
    by_cases hd : d = []
    · subst hd
      go_wp2_with fail
      go_ret
      have := hc.out.eq
      simp [dec_nil] at this
      exact ⟨_, rfl, this ▸ hc.out.own, hc.out.below⟩
    · have he : 0 < d.length := len_pos hd
      have hd := Lib.hid hd
      go_wp2_with fail
      refine (refnext_any d _ (by unfold maxLen; omega)).mono ?_; rintro e w' ⟨rfl, hw⟩
      obtain ⟨nq, rfl⟩ := hw
      have hb := cutN_bd d hd.out
      have hown := Lib.hid (ownsRow_drawn hc.out.own ⟨nq, rfl⟩)
      go_wp2_with (at_builtin; refine wpList_append_own _ rfl _ _ 26 rfl w.heap.size 21 i0 (.int .i32 0) 1 4 Try.underlying26 hi hz0 hz1 hz2 rfl (by decide) _ _ _ rfl (hown.out.alloc _) ⟨wr.heap.size, 0, none⟩ 1 1 [.int .i32 (cutS d).1] rfl rfl (cell_one_new _ _ _) ?c2 ?c3 ?c4 ?c5 ?_)
      case c2 => intro u hu; simp at hu; subst hu; rfl
      case c3 => unfold maxLen; omega
      case c4 => omega
      case c5 => have := hc.out.below.size; simp; omega
      intro v' w1 hown1 hgrow1 _
      have hown1 := Lib.hid hown1
      have hgrow1 := Lib.hid hgrow1
      go_wp2_with fail
      exact ⟨⟨_, _, rfl, hc.out.step hd.out hown1.out (((hc.out.below.trans ((Drawn.below ⟨nq, rfl⟩) _)).alloc (by have := hc.out.below.size; simpa using this) _).grown hgrow1.out (by have := hc.out.below.size; simp; omega) (fun k hk => (hc.out.own.lt k hk).1))⟩, by rw [strLen_mk, strLen_mk]; exact drop_lt d hd.out⟩

set_option maxHeartbeats 400000 in
theorem valid_any (l : List UInt8) (w : World) (hs : l.length ≤ 20000) :
    Calls Try.prog 14 #[.string ⟨l.toArray⟩] w fun e w' => e = .returned (.bool (val l)) ∧ Drawn w w' := by
  go_enter Try.func14, Try.ntmps14
  go_wp2_with fail
  go_loopw [0, 3, 4, 5] (fun s _ _ _ wr => ∃ d : List UInt8, s = .string ⟨d.toArray⟩ ∧ d.length ≤ l.length ∧ Hid (val d = val l) ∧ Drawn w wr) (fun s _ _ _ _ => strLen s)
  case atStart => exact ⟨l, rfl, Nat.le_refl _, rfl, Drawn.refl _⟩
  case round =>
    obtain ⟨d, rfl, hlen, hc, hw⟩ := hrel
    have hw := Lib.hid hw
    by_cases hd : d = []
    · subst hd
      go_wp2_with fail
      go_ret
      exact ⟨by rw [← hc.out]; rfl, hw.out⟩
    · have he : d.isEmpty = false := by cases d <;> simp_all
      have hd := Lib.hid hd
      go_wp2_with fail
      refine (cut_any d _ (by unfold maxLen; omega)).mono ?_; rintro e w' ⟨rfl, hw'⟩
      obtain ⟨n0, rfl⟩ := hw.out
      obtain ⟨nq, rfl⟩ := hw'
      have hb := cutN_bd d hd.out
      cases hg : (cutS d).2.2
      · go_wp2_with fail
        go_ret
        exact ⟨by rw [← hc.out, val_cons d hd.out, hg]; rfl, ⟨_, rfl⟩⟩
      · go_wp2_with fail
        exact ⟨⟨_, rfl, by have := drop_lt d hd.out; simp at this ⊢; omega, by rw [← hc.out, val_cons d hd.out, hg]; rfl, ⟨_, rfl⟩⟩, by rw [strLen_mk, strLen_mk]; exact drop_lt d hd.out⟩

set_option maxHeartbeats 400000 in
theorem refvalid_any (l : List UInt8) (w : World) (hs : l.length ≤ 20000) :
    Calls Try.prog 15 #[.string ⟨l.toArray⟩] w fun e w' => e = .returned (.bool (val l)) ∧ Drawn w w' := by
  go_enter Try.func15, Try.ntmps15
  go_wp2_with fail
  go_loopw [0, 3, 4] (fun s _ _ wr => ∃ d : List UInt8, s = .string ⟨d.toArray⟩ ∧ d.length ≤ l.length ∧ Hid (val d = val l) ∧ Drawn w wr) (fun s _ _ _ => strLen s)
  case atStart => exact ⟨l, rfl, Nat.le_refl _, rfl, Drawn.refl _⟩
  case round =>
    obtain ⟨d, rfl, hlen, hc, hw⟩ := hrel
    have hw := Lib.hid hw
    by_cases hd : d = []
    · subst hd
      go_wp2_with fail
      go_ret
      exact ⟨by rw [← hc.out]; rfl, hw.out⟩
    · have he : 0 < d.length := len_pos hd
      have hd := Lib.hid hd
      go_wp2_with fail
      refine (refnext_any d _ (by unfold maxLen; omega)).mono ?_; rintro e w' ⟨rfl, hw'⟩
      obtain ⟨n0, rfl⟩ := hw.out
      obtain ⟨nq, rfl⟩ := hw'
      have hb := cutN_bd d hd.out
      go_wp2_with fail
      case roundEnd =>
        exact ⟨⟨_, rfl, by have := drop_lt d hd.out; simp at this ⊢; omega, by rw [← hc.out, val_cons d hd.out, good_sign d hd.out (by assumption)]; rfl, ⟨_, rfl⟩⟩, by rw [strLen_mk, strLen_mk]; exact drop_lt d hd.out⟩
      · go_ret
        exact ⟨by rw [← hc.out, val_cons d hd.out, bad_sign d hd.out (by assumption) (by assumption)]; rfl, ⟨_, rfl⟩⟩
      · exact ⟨⟨_, rfl, by have := drop_lt d hd.out; simp at this ⊢; omega, by rw [← hc.out, val_cons d hd.out, good_other d hd.out (by assumption)]; rfl, ⟨_, rfl⟩⟩, by rw [strLen_mk, strLen_mk]; exact drop_lt d hd.out⟩
theorem take_eq {xs ys : List Int} {k : Nat} (h1 : k < xs.length) (h2 : k < ys.length) (h : xs.take k = ys.take k) (he : (xs[k] != ys[k]) = false) : xs.take (k + 1) = ys.take (k + 1) := by
  have e : xs[k] = ys[k] := by simpa using he
  rw [List.take_succ_eq_append_getElem h1, List.take_succ_eq_append_getElem h2, h, e]
theorem take_ne {xs ys : List Int} {k : Nat} (h1 : k < xs.length) (h2 : k < ys.length) (he : (xs[k] != ys[k]) = true) : decide (xs = ys) = false := by
  simp at he ⊢
  intro h; subst h; exact he rfl

set_option maxHeartbeats 400000 in
theorem same_any (xs ys : List Int) (va vb : Value) (w : World) (ha : IntSl .i32 w va xs) (hb : IntSl .i32 w vb ys) (hx : xs.length ≤ 20000) (hy : ys.length ≤ 20000) :
    Calls Try.prog 11 #[va, vb] w fun e w' => e = .returned (.bool (decide (xs = ys))) ∧ Drawn w w' := by
  have nn (b : Bool) (h : decide (xs = ys) = b) : Ending.returned (.bool b) = .returned (.bool (decide (xs = ys))) := by rw [h]
  by_cases hl : xs.length = ys.length
  case neg =>
    have hne : ((xs.length : Int) != (ys.length : Int)) = true := by rw [bne_iff_ne]; omega
    have hd : decide (xs = ys) = false := by simp; intro h; exact hl (by rw [h])
    have hd := Lib.hid hd
    have hl := Lib.hid hl
    rcases ha with ⟨rfl, a, c, rfl⟩ | ⟨b1, o1, c1, rfl, h1⟩ <;> rcases hb with ⟨rfl, a', c', rfl⟩ | ⟨b2, o2, c2, rfl, h2⟩
    · exact absurd rfl hl.out
    · have hne' : ((0 : Int) != (ys.length : Int)) = true := hne
      go_enter Try.func11, Try.ntmps11
      go_wp2_with fail
      go_ret
      exact ⟨nn _ hd.out, Drawn.refl _⟩
    · have hne' : ((xs.length : Int) != (0 : Int)) = true := hne
      go_enter Try.func11, Try.ntmps11
      go_wp2_with fail
      go_ret
      exact ⟨nn _ hd.out, Drawn.refl _⟩
    · go_enter Try.func11, Try.ntmps11
      go_wp2_with fail
      go_ret
      exact ⟨nn _ hd.out, Drawn.refl _⟩
  by_cases hx0 : xs = []
  · have hy0 : ys = [] := by subst hx0; exact List.length_eq_zero_iff.1 hl.symm
    obtain ⟨a, c, rfl⟩ := ha.nil hx0
    obtain ⟨a', c', rfl⟩ := hb.nil hy0
    subst hx0 hy0
    go_enter Try.func11, Try.ntmps11
    go_wp2_with fail
    refine wp_loop_rounds 1 ?_; rw [rounds_succ]
    go_wp2_with fail
    go_ret
    exact ⟨rfl, Drawn.refl _⟩
  · have hy0 : ys ≠ [] := by intro h; subst h; exact hx0 (List.length_eq_zero_iff.1 hl)
    obtain ⟨b1, o1, c1, rfl, h1⟩ := ha.some hx0
    obtain ⟨b2, o2, c2, rfl, h2⟩ := hb.some hy0
    have hne : ((xs.length : Int) != (ys.length : Int)) = false := by rw [bne_eq_false_iff_eq]; omega
    have h1 := Lib.hid h1
    have h2 := Lib.hid h2
    have hlle : ys.length ≤ xs.length := by omega
    have hl := Lib.hid hl
    clear ha hb
    have hx0 := Lib.hid hx0
    have hy0 := Lib.hid hy0
    go_enter Try.func11, Try.ntmps11
    go_wp2_with fail
    go_loopw [5] (fun i wr => ∃ k : Nat, i = .int .i64 k ∧ k ≤ xs.length ∧ Hid (xs.take k = ys.take k) ∧ Drawn w wr) (fun i _ => xs.length - (intOf i).toNat)
    case atStart => exact ⟨0, rfl, Nat.zero_le _, rfl, Drawn.refl _⟩
    case round =>
      obtain ⟨k, rfl, hk, ht, n0, rfl⟩ := hrel
      by_cases hlt : k < xs.length
      · have g1 := h1.out k hlt
        have g2 := h2.out k (by have := hl.out; omega)
        have hy : k < ys.length := by have := hl.out; omega
        go_wp2_with fail
        go_quiet (fail)
        go_wp2_with fail
        · go_ret
          exact ⟨nn _ (take_ne hlt hy (by assumption)), ⟨n0 + nq, by simp⟩⟩
        · exact ⟨⟨k + 1, by go_num, by omega, take_eq hlt hy ht.out (by assumption), ⟨_, rfl⟩⟩, by simp [intOf]; omega⟩
      · have hke : xs.length = k := by omega
        have hke := Lib.hid hke
        have hlt2 : ¬ ((k : Int) < xs.length) := by omega
        go_wp2_with fail
        go_ret
        refine ⟨nn _ ?_, ⟨_, rfl⟩⟩
        have h := ht.out
        rw [List.take_of_length_le (by have := hke.out; omega), List.take_of_length_le (by have := hke.out; have := hl.out; omega)] at h
        simp [h]
end Go.Proofs.Ytjaacimgeckofaa
