/- The walks of the laws of layer 1. -/
import Derived.Test.YtjaacimgeckofaaUb
import Derived.Test.YtjaacimgeckofaaUd
import Derived.Test.YtjaacimgeckofaaUr
namespace Go.Proofs.Ytjaacimgeckofaa
open Go.RowKit

def AwakePost (w : World) (e : Ending) (w' : World) : Prop := e = .returned (.bool true) ∧ Below w.heap.size w w'

theorem dec_ex : dec [97, 226, 130, 172, 226, 130, 255] = [97, 8364, 65533, 65533] := by decide
theorem enc_ex : enc 55296 = [239, 191, 189] := by decide
theorem val_ex1 : val [255] = false := by decide
theorem val_ex2 : val [239, 191, 189] = true := by decide

set_option maxHeartbeats 400000 in
theorem awake_any (w : World) : Calls Try.prog 8 #[] w (AwakePost w) := by
  go_enter Try.func8, Try.ntmps8
  go_wp2_with fail
  refine (decode_any [97, 226, 130, 172, 226, 130, 255] w (by simp)).mono ?_
  rintro e w1 ⟨v, rfl, hown, hb⟩
  rw [dec_ex] at hown
  obtain ⟨b, off, c, rfl, h1⟩ := (intSl_own hown).some (by simp)
  have g0 := h1 0 (by decide)
  have g1 := h1 1 (by decide)
  have g2 := h1 2 (by decide)
  have g3 := h1 3 (by decide)
  simp only [List.getD_cons_zero, List.getD_cons_succ, Nat.add_zero] at g0 g1 g2 g3
  clear h1
  have hsz := hb.size
  have hb := Lib.hid hb
  clear hown
  go_wp2_with fail
  refine (bytes_any 55296 _).mono ?_
  rintro e w2 ⟨rfl, hb2⟩
  rw [enc_ex]
  have hsz2 := hb2.size
  have hb2 := Lib.hid hb2
  go_wp2_with fail
  refine (valid_any [255] _ (by simp)).mono ?_
  rintro e w3 ⟨rfl, n3, rfl⟩
  rw [val_ex1]
  go_wp2_with fail
  refine (valid_any [239, 191, 189] _ (by simp)).mono ?_
  rintro e w3 ⟨rfl, n4, rfl⟩
  rw [val_ex2]
  go_wp2_with fail
  go_ret
  exact ⟨rfl, (hb.out.trans (hb2.out.mono hsz)).trans (Drawn.below ⟨_, rfl⟩ _)⟩

theorem slBelow_own {w : World} {B : Nat} {E : TypeId} {z : Nat} {v : Value} {n : Nat} {xs : List Value} (h : w.ownsRow B E z v n xs) : SlBelow w.heap.size v := by
  intro a n' c e _
  subst e
  exact (h.lt a.block rfl).2

set_option maxHeartbeats 400000 in
theorem decodes_law (l : List UInt8) (w : World) (hs : l.length ≤ maxLen) : Calls Try.prog 3 #[.string ⟨l.toArray⟩] w (AwakePost w) := by
  unfold maxLen at hs
  by_cases hl : 20000 < l.length
  · go_enter Try.func3, Try.ntmps3
    go_wp2_with fail
    refine (awake_any w).mono ?_
    rintro e w1 ⟨rfl, hb⟩
    go_wp2_with fail
    go_ret
    exact ⟨rfl, hb⟩
  go_enter Try.func3, Try.ntmps3
  go_wp2_with fail
  refine (next_any l w (by unfold maxLen; omega)).mono ?_
  rintro e w0 ⟨rfl, n0, rfl⟩
  go_wp2_with fail
  refine (refnext_any l _ (by unfold maxLen; omega)).mono ?_
  rintro e w0 ⟨rfl, n1, rfl⟩
  go_wp2_with fail
  refine (awake_any _).mono ?_
  rintro e w1 ⟨rfl, hb1⟩
  have hs1 := hb1.size
  have hb1 := Lib.hid hb1
  go_wp2_with fail
  refine (decode_any l _ (by omega)).mono ?_
  rintro e w2 ⟨v2, rfl, hown2, hb2⟩
  have hs2 := hb2.size
  have hb2 := Lib.hid hb2
  have hown2 := Lib.hid hown2
  go_wp2_with fail
  refine (refdecode_any l _ (by omega)).mono ?_
  rintro e w3 ⟨v3, rfl, hown3, hb3⟩
  have hs3 := hb3.size
  have hb3 := Lib.hid hb3
  have hown3 := Lib.hid hown3
  go_wp2_with fail
  have hdl := dec_len l
  refine (same_any (dec l) (dec l) v2 v3 _ ((intSl_own hown2.out).below hb3.out (slBelow_own hown2.out)) (intSl_own hown3.out) (by omega) (by omega)).mono ?_
  rintro e w4 ⟨rfl, n4, rfl⟩
  rw [show decide (dec l = dec l) = true from by simp]
  go_wp2_with fail
  refine (valid_any l _ (by omega)).mono ?_
  rintro e w5 ⟨rfl, n5, rfl⟩
  go_wp2_with fail
  refine (refvalid_any l _ (by omega)).mono ?_
  rintro e w5 ⟨rfl, n6, rfl⟩
  go_wp2_with fail
  go_ret
  exact ⟨rfl, (((Drawn.below ⟨_, rfl⟩ _).trans (hb1.out.mono (by simp))).trans ((hb2.out.mono (by simpa using hs1)).trans (hb3.out.mono (by simp at hs1; omega)))).trans (Drawn.below ⟨_, rfl⟩ _)⟩

set_option maxHeartbeats 400000 in
theorem encodes_law (l : List Int) (v : Value) (r : Int) (w : World) (hl : IntSl .i32 w v l) (hv : SlBelow w.heap.size v) (hs : l.length ≤ maxLen) : Calls Try.prog 4 #[v, .int .i32 r] w (AwakePost w) := by
  unfold maxLen at hs
  obtain ⟨a, c, hvv⟩ : ∃ a c, v = .slice a l.length c := by
    rcases hl with ⟨rfl, a, c, h⟩ | ⟨b, o, c, h, _⟩
    · exact ⟨a, c, h⟩
    · exact ⟨_, c, h⟩
  have hl := Lib.hid hl
  by_cases hlen : 5000 < l.length
  · subst hvv
    go_enter Try.func4, Try.ntmps4
    go_wp2_with fail
    refine (awake_any w).mono ?_
    rintro e w1 ⟨rfl, hb⟩
    go_wp2_with fail
    go_ret
    exact ⟨rfl, hb⟩
  subst hvv
  go_enter Try.func4, Try.ntmps4
  go_wp2_with fail
  refine (awake_any _).mono ?_
  rintro e w1 ⟨rfl, hb1⟩
  have hs1 := hb1.size
  have hb1 := Lib.hid hb1
  have hv1 : Hid (SlBelow w1.heap.size (.slice a l.length c)) := hv.mono hs1
  have hl1 := Lib.hid (hl.out.below hb1.out hv)
  go_wp2_with fail
  refine (encode_any l _ _ hl1.out hv1.out (by omega)).mono ?_
  rintro e w2 ⟨rfl, hb2⟩
  have hs2 := hb2.size
  have hb2 := Lib.hid hb2
  have hv2 : Hid (SlBelow w2.heap.size (.slice a l.length c)) := hv1.out.mono hs2
  have hl2 := Lib.hid (hl1.out.below hb2.out hv1.out)
  go_wp2_with fail
  refine (refencode_any l _ _ hl2.out hv2.out (by omega)).mono ?_
  rintro e w3 ⟨rfl, hb3⟩
  have hs3 := hb3.size
  have hb3 := Lib.hid hb3
  go_wp2_with fail
  refine (bytes_any r _).mono ?_
  rintro e w4 ⟨rfl, hb4⟩
  have hs4 := hb4.size
  have hb4 := Lib.hid hb4
  go_wp2_with fail
  refine (refbytes_any r _).mono ?_
  rintro e w5 ⟨rfl, hb5⟩
  have hs5 := hb5.size
  have hb5 := Lib.hid hb5
  go_wp2_with fail
  refine (is_any r _).mono ?_
  rintro e w6 ⟨rfl, rfl⟩
  go_wp2_with fail
  refine (refis_any r _).mono ?_
  rintro e w6 ⟨rfl, rfl⟩
  go_wp2_with fail
  go_ret
  exact ⟨rfl, (((hb1.out.trans (hb2.out.mono hs1)).trans (hb3.out.mono (by omega))).trans (hb4.out.mono (by omega))).trans (hb5.out.mono (by omega))⟩

set_option maxHeartbeats 400000 in
theorem valid_law (l : List UInt8) (w : World) (hs : l.length ≤ maxLen) : Calls Try.prog 6 #[.string ⟨l.toArray⟩] w (AwakePost w) := by
  unfold maxLen at hs
  by_cases hl : 5000 < l.length
  · go_enter Try.func6, Try.ntmps6
    go_wp2_with fail
    refine (awake_any w).mono ?_
    rintro e w1 ⟨rfl, hb⟩
    go_wp2_with fail
    go_ret
    exact ⟨rfl, hb⟩
  have hvi := Lib.hid (val_iff l)
  go_enter Try.func6, Try.ntmps6
  go_wp2_with fail
  refine (awake_any _).mono ?_
  rintro e w1 ⟨rfl, hb1⟩
  have hs1 := hb1.size
  have hb1 := Lib.hid hb1
  go_wp2_with fail
  refine (valid_any l _ (by omega)).mono ?_
  rintro e w5 ⟨rfl, n5, rfl⟩
  go_wp2_with fail
  refine (decode_any l _ (by omega)).mono ?_
  rintro e w2 ⟨v2, rfl, hown2, hb2⟩
  have hs2 := hb2.size
  have hb2 := Lib.hid hb2
  have hown2 := Lib.hid hown2
  go_wp2_with fail
  have hdl := dec_len l
  refine (encode_any (dec l) v2 _ (intSl_own hown2.out) (slBelow_own hown2.out) (by omega)).mono ?_
  rintro e w3 ⟨rfl, hb3⟩
  have hs3 := hb3.size
  have hb3 := Lib.hid hb3
  go_wp2_with fail
  go_ret
  exact ⟨ret_bool (by rw [hvi.out]; by_cases h : encAll (dec l) = l <;> simp [h]), ((hb1.out.trans (Drawn.below ⟨_, rfl⟩ _)).trans (hb2.out.mono (by simpa using hs1))).trans (hb3.out.mono (by simp at hs2; omega))⟩

theorem is_no {x : Int} (h : isR x = false) (w : World) (n : Nat) : Calls Try.prog 20 #[.int .i32 x] (w.drewN n) fun e w' => e = .returned (.bool false) ∧ ∃ m, w' = w.drewN m := by
  have := is_any x (w.drewN n)
  rw [h] at this
  exact Calls.drawn_at this
theorem is_yes {x : Int} (h : isR x = true) (w : World) (n : Nat) : Calls Try.prog 20 #[.int .i32 x] (w.drewN n) fun e w' => e = .returned (.bool true) ∧ ∃ m, w' = w.drewN m := by
  have := is_any x (w.drewN n)
  rw [h] at this
  exact Calls.drawn_at this

set_option maxRecDepth 100000 in
set_option maxHeartbeats 400000 in
theorem back_law (l : List Int) (v : Value) (w : World) (hl : IntSl .i32 w v l) (hv : SlBelow w.heap.size v) (hs : l.length ≤ maxLen) : Calls Try.prog 5 #[v] w (AwakePost w) := by
  unfold maxLen at hs
  obtain ⟨a, c, hvv⟩ : ∃ a c, v = .slice a l.length c := by
    rcases hl with ⟨rfl, a, c, h⟩ | ⟨b, o, c, h, _⟩
    · exact ⟨a, c, h⟩
    · exact ⟨_, c, h⟩
  have hl := Lib.hid hl
  by_cases hlen : 5000 < l.length
  · subst hvv
    go_enter Try.func5, Try.ntmps5
    go_wp2_with fail
    refine (awake_any w).mono ?_
    rintro e w1 ⟨rfl, hb⟩
    go_wp2_with fail
    go_ret
    exact ⟨rfl, hb⟩
  subst hvv
  have hde := Lib.hid (dec_enc l)
  have hel := encAll_len l
  go_enter Try.func5, Try.ntmps5
  go_wp2_with fail
  refine (encode_any l _ _ hl.out hv (by omega)).mono ?_
  rintro e w1 ⟨rfl, hb1⟩
  have hs1 := hb1.size
  have hb1 := Lib.hid hb1
  have hv1 : Hid (SlBelow w1.heap.size (.slice a l.length c)) := hv.mono hs1
  have hl1 := Lib.hid (hl.out.below hb1.out hv)
  go_wp2_with fail
  refine (decode_any (encAll l) _ (by omega)).mono ?_
  rintro e w2 ⟨v2, rfl, hown2, hb2⟩
  have hs2 := hb2.size
  have hb2 := Lib.hid hb2
  rw [hde.out.1] at hown2
  have hm : Hid (IntSl .i32 w2 v2 (l.map fixR)) := intSl_own hown2
  obtain ⟨a2, c2, hv2⟩ : ∃ a c, v2 = .slice a l.length c := by
    rcases hm.out with ⟨h0, a, c, h⟩ | ⟨b, o, c, h, _⟩
    · rw [List.map_eq_nil_iff] at h0; subst h0; exact ⟨a, c, h⟩
    · rw [List.length_map] at h; exact ⟨_, c, h⟩
  clear hown2
  subst hv2
  have hl2 := Lib.hid (hl1.out.below hb2.out hv1.out)
  go_wp2_with fail
  refine (valid_any (encAll l) _ (by omega)).mono ?_
  rintro e w3 ⟨rfl, n3, rfl⟩
  rw [hde.out.2]
  go_wp2_with fail
  go_loopw [5] (fun i wr => ∃ k : Nat, i = .int .i64 k ∧ k ≤ l.length ∧ Hid (Drawn w2 wr)) (fun i _ => l.length - (intOf i).toNat)
  case atStart => exact ⟨0, rfl, Nat.zero_le _, ⟨_, rfl⟩⟩
  case round =>
    obtain ⟨k, rfl, hk, hd⟩ := hrel
    have hbw : Hid (Below w.heap.size w wr) := Lib.hid ((hb1.out.trans (hb2.out.mono hs1)).trans (hd.out.below _))
    by_cases hlt : k < l.length
    · have hne : l ≠ [] := by intro h; subst h; simp at hlt
      obtain ⟨b1, o1, c1, e1, h1⟩ := (hl2.out.drawn hd.out).some hne
      obtain ⟨b2, o2, c2, e2, h2⟩ := (hm.out.drawn hd.out).some (by simpa using hne)
      have g1 := h1 k hlt
      have g2 := h2 k (by simpa using hlt)
      injection e1 with e1 e1'' e1'
      injection e2 with e2 e2'' e2'
      clear e1'' e2''
      subst e1 e1' e2 e2'
      have hgx : (l.map fixR).getD k 0 = fixR (l.getD k 0) := by simp [List.getD, hlt]
      rw [hgx] at g2
      clear hgx h1 h2
      generalize l.getD k 0 = x at g1 g2
      cases hx : isR x
      · rw [show fixR x = 65533 from by unfold fixR; rw [hx]; rfl] at g2
        go_wp2_with fail
        go_quiet ((go_at_call 20; exact is_no hx _ _))
        go_wp2_with fail
        exact ⟨⟨k + 1, by go_num, by omega, Lib.hid (hd.out.trans ⟨_, rfl⟩)⟩, by simp [intOf]; omega⟩
      · rw [show fixR x = x from by unfold fixR; rw [hx]; rfl] at g2
        go_wp2_with fail
        go_quiet ((go_at_call 20; exact is_yes hx _ _))
        go_wp2_with fail
        exact ⟨⟨k + 1, by go_num, by omega, Lib.hid (hd.out.trans ⟨_, rfl⟩)⟩, by simp [intOf]; omega⟩
    · have hke : ¬ ((k : Int) < l.length) := by omega
      go_wp2_with fail
      refine (awake_any _).mono ?_
      rintro e w4 ⟨rfl, hb4⟩
      go_wp2_with fail
      go_ret
      exact ⟨rfl, hbw.out.trans (hb4.mono hbw.out.size)⟩
end Go.Proofs.Ytjaacimgeckofaa
