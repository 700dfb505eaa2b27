/- The walks of layer 6's laws. -/
import Derived.Test.YtonekkjodolmaaaD06b
namespace Go.Proofs.Ytonekkjodolmaaa
open Go.RowKit

theorem hamm_ex0 : wtB 255 = 8 := by decide +kernel
theorem hamm_ex1 : distB 5 6 = 2 := by decide +kernel
theorem hamm_ex2 : nearB [0, 1, 3, 7] 0 2 = [0, 1, 2] := by decide +kernel

set_option maxHeartbeats 400000 in
theorem awake6_any (w : World) : Calls Try.prog 7 #[] w (LawPost w) := by
  have hn1 := Lib.hid (intSl_new w .u64 22 [0, 1, 3, 7] 4 rfl)
  go_enter Try.func7, Try.ntmps7
  go_wp2_with fail
  refine (weight_any 255 w (by omega) (by omega)).mono ?_; rintro e w1 ⟨rfl, rfl⟩
  rw [hamm_ex0]
  go_wp2_with fail
  refine (dist_any 5 6 w (by omega) (by omega) (by omega) (by omega)).mono ?_; rintro e w1 ⟨rfl, rfl⟩
  rw [hamm_ex1]
  go_wp2_with fail
  refine (near_any [0, 1, 3, 7] _ 0 2 _ hn1.out (slBelow_new _ _ _ _ _) (by simp) (by simp) (by omega) (by omega)).mono ?_
  rintro e w1 ⟨v1, rfl, ho1, hb1⟩
  rw [hamm_ex2] at ho1
  obtain ⟨a1, c1, rfl⟩ := own_form ho1
  have hb := Lib.hid (((Below.refl w.heap.size w).alloc (Nat.le_refl _) _).trans (hb1.mono (by simp)))
  clear ho1 hb1
  go_wp2_with fail
  go_ret
  exact ⟨rfl, hb.out⟩

set_option maxHeartbeats 400000 in
theorem tells06_law (a b : Int) (w : World) (ha : (Lit.int .u64 a).wf = true) (hb : (Lit.int .u64 b).wf = true) : Calls Try.prog 3 #[.int .u64 a, .int .u64 b] w (LawPost w) := by
  obtain ⟨a0, a1⟩ := bd_u64 ha
  obtain ⟨b0, b1⟩ := bd_u64 hb
  clear ha hb
  have hw := fun W => weight_any a W a0 a1
  have hrw := fun W => refweight_any a W a0 a1
  have hd := fun W => dist_any a b W a0 a1 b0 b1
  have hrd := fun W => refdist_any a b W a0 a1 b0 b1
  generalize wtB a = x at hw hrw
  generalize distB a b = y at hd hrd
  replace hw := Lib.hid hw
  replace hrw := Lib.hid hrw
  replace hd := Lib.hid hd
  replace hrd := Lib.hid hrd
  go_enter Try.func3, Try.ntmps3
  go_wp2_with fail
  refine (awake6_any w).mono ?_; rintro e w1 ⟨rfl, hb⟩
  replace hb := Lib.hid hb
  go_wp2_with fail
  refine (hw.out _).mono ?_; rintro e w2 ⟨rfl, rfl⟩
  go_wp2_with fail
  refine (hrw.out _).mono ?_; rintro e w2 ⟨rfl, rfl⟩
  go_wp2_with fail
  refine (hd.out _).mono ?_; rintro e w2 ⟨rfl, rfl⟩
  go_wp2_with fail
  refine (hrd.out _).mono ?_; rintro e w2 ⟨rfl, rfl⟩
  go_wp2_with fail
  go_ret
  exact ⟨rfl, hb.out⟩

set_option maxHeartbeats 1000000 in
theorem near06_law (xs : List Int) (v : Value) (s d : Int) (w : World) (hv : IntSl .u64 w v xs) (hlow : SlBelow w.heap.size v) (hn : xs.length ≤ maxLen) (hx : ∀ x ∈ xs, (Lit.int .u64 x).wf = true) (hs : (Lit.int .u64 s).wf = true) :
    Calls Try.prog 4 #[v, .int .u64 s, .int .i64 d] w (LawPost w) := by
  unfold maxLen at hn
  obtain ⟨hs0, hs1⟩ := bd_u64 hs
  obtain ⟨a, c, rfl⟩ := hv.form
  by_cases hl : 2000 < xs.length
  · clear hv hlow hx
    go_enter Try.func4, Try.ntmps4
    go_wp2_with fail
    refine (awake6_any w).mono ?_; rintro e w1 ⟨rfl, hb⟩
    go_wp2_with fail
    go_ret
    exact ⟨rfl, hb⟩
  have hl' : xs.length ≤ 100000 := by omega
  have hr := Lib.hid (show RdSl .u64 w (.slice a xs.length c) xs from ⟨hv, hlow⟩)
  replace hx := Lib.hid (bd_u64s hx)
  clear hv hlow hs
  go_enter Try.func4, Try.ntmps4
  go_wp2_with fail
  refine (near_any xs _ s d w hr.out.sl hr.out.low hl' hx.out hs0 hs1).mono ?_; rintro e w1 ⟨v1, rfl, ho1, hb1⟩
  have hr1 := Lib.hid (hr.out.next hb1)
  replace ho1 := Lib.hid ho1.rd
  replace hb1 := Lib.hid hb1
  go_wp2_with fail
  refine (refnear_any xs _ s d w1 hr1.out.sl hr1.out.low hl' hx.out hs0 hs1).mono ?_; rintro e w2 ⟨v2, rfl, ho2, hb2⟩
  replace ho1 := Lib.hid (ho1.out.next hb2)
  replace ho2 := Lib.hid ho2.rd
  replace hb1 := Lib.hid (hb1.out.andThen hb2)
  clear hb2 hr1 hr
  have hml := nearTo_len xs s d xs.length
  rw [show nearTo xs s d xs.length = nearB xs s d from rfl] at hml
  generalize nearB xs s d = ys at ho1 ho2 hml
  obtain ⟨a1, c1, rfl⟩ := ho1.out.sl.form
  obtain ⟨a2, c2, rfl⟩ := ho2.out.sl.form
  go_wp2_with fail
  refine (awake6_any _).mono ?_; rintro e w3 ⟨rfl, hb3⟩
  replace ho1 := Lib.hid (ho1.out.next hb3)
  replace ho2 := Lib.hid (ho2.out.next hb3)
  replace hb1 := Lib.hid (hb1.out.andThen hb3)
  clear hb3
  go_wp2_with fail
  go_loopw [9] (fun i wr => ∃ k : Nat, i = .int .i64 k ∧ k ≤ ys.length ∧ Hid (RdSl .i64 wr (.slice a1 ys.length c1) ys ∧ RdSl .i64 wr (.slice a2 ys.length c2) ys ∧ Below w.heap.size w wr)) (fun i _ => ys.length - (intOf i).toNat)
  case atStart => exact ⟨0, rfl, Nat.zero_le _, ho1.out, ho2.out, hb1.out⟩
  case round =>
    clear ho1 ho2 hb1
    obtain ⟨k, rfl, hk, hr⟩ := hrel
    by_cases hlt : k < ys.length
    · have hne : ys ≠ [] := by intro e; subst e; simp at hlt
      obtain ⟨b1, o1, c1', e1, h1⟩ := hr.out.1.sl.some hne
      injection e1 with e1 e1a e1b
      clear e1a
      subst e1 e1b
      obtain ⟨b2, o2, c2', e2, h2⟩ := hr.out.2.1.sl.some hne
      injection e2 with e2 e2a e2b
      clear e2a
      subst e2 e2b
      have g1 := h1 k hlt
      have g2 := h2 k hlt
      generalize ys.getD k 0 = y at g1 g2
      clear h1 h2 hne
      have k0 : (0 : Int) ≤ k := by omega
      have k1 : (k : Int) < ys.length := by omega
      go_wp2_with fail
      go_quiet (fail)
      go_wp2_with fail
      have hd : ∀ n, Below wr.heap.size wr (wr.drewN n) := fun n => Drawn.below ⟨n, rfl⟩ _
      exact ⟨⟨k + 1, by go_num, by omega, hr.out.1.next (hd _), hr.out.2.1.next (hd _), hr.out.2.2.andThen (hd _)⟩, by simp [intOf]; omega⟩
    · have hke : ¬ ((k : Int) < ys.length) := by omega
      go_wp2_with fail
      go_ret
      exact ⟨rfl, hr.out.2.2⟩

set_option maxHeartbeats 1000000 in
theorem metric06_law (a b c : Int) (w : World) (ha : (Lit.int .u64 a).wf = true) (hb : (Lit.int .u64 b).wf = true) (hc : (Lit.int .u64 c).wf = true) : Calls Try.prog 5 #[.int .u64 a, .int .u64 b, .int .u64 c] w (LawPost w) := by
  obtain ⟨a0, a1⟩ := bd_u64 ha
  obtain ⟨b0, b1⟩ := bd_u64 hb
  obtain ⟨c0, c1⟩ := bd_u64 hc
  clear ha hb hc
  have x1 := xorB_bd a c a0 a1 c0 c1
  have x2 := xorB_bd b c b0 b1 c0 c1
  have d1 := fun W => dist_any a b W a0 a1 b0 b1
  have d2 := fun W => dist_any b a W b0 b1 a0 a1
  have d3 := fun W => dist_any a c W a0 a1 c0 c1
  have d4 := fun W => dist_any c b W c0 c1 b0 b1
  have d5 := fun W => dist_any _ _ W x1.1 x1.2 x2.1 x2.2
  rw [distB_mixed a b c a0 a1 b0 b1 c0 c1] at d5
  rw [distB_comm a b a0 a1 b0 b1] at d2
  have ht := distB_tri a b c a0 a1 b0 b1 c0 c1
  have hz := distB_self a b a0 a1 b0 b1
  have e1 := distB_bd a b
  have e3 := distB_bd a c
  have e4 := distB_bd c b
  generalize distB a b = m at d1 d2 d5 ht hz e1
  generalize distB a c = n at d3 ht e3
  generalize distB c b = l at d4 ht e4
  replace d1 := Lib.hid d1
  replace d2 := Lib.hid d2
  replace d3 := Lib.hid d3
  replace d4 := Lib.hid d4
  replace d5 := Lib.hid d5
  clear x1 x2
  have hzz : (m == 0) = (a == b) := by rw [Bool.eq_iff_iff]; simpa using hz
  clear hz
  go_enter Try.func5, Try.ntmps5
  go_wp2_with fail
  refine (d1.out _).mono ?_; rintro e w2 ⟨rfl, rfl⟩
  go_wp2_with fail
  refine (awake6_any w).mono ?_; rintro e w1 ⟨rfl, hb⟩
  replace hb := Lib.hid hb
  go_wp2_with fail
  refine (d2.out _).mono ?_; rintro e w2 ⟨rfl, rfl⟩
  go_wp2_with fail
  refine (d3.out _).mono ?_; rintro e w2 ⟨rfl, rfl⟩
  go_wp2_with fail
  refine (d4.out _).mono ?_; rintro e w2 ⟨rfl, rfl⟩
  go_wp2_with fail
  refine (d5.out _).mono ?_; rintro e w2 ⟨rfl, rfl⟩
  go_wp2_with fail
  go_ret
  exact ⟨rfl, hb.out⟩

set_option maxHeartbeats 1000000 in
theorem turned06_law (a k : Int) (w : World) (ha : (Lit.int .u64 a).wf = true) (hk : (Lit.int .u8 k).wf = true) : Calls Try.prog 6 #[.int .u64 a, .int .u8 k] w (LawPost w) := by
  obtain ⟨a0, a1⟩ := bd_u64 ha
  obtain ⟨k0, k1⟩ := bd_u8 hk
  clear ha hk
  obtain ⟨K, hK⟩ : ∃ K : Nat, k % 64 = (K : Int) := ⟨(k % 64).toNat, by omega⟩
  have hK1 : K < 64 := by omega
  have hwb := wrap_bit K hK1
  have hbn : bits .xor .u64 IntKind.u64.max a = 18446744073709551615 - a := bits_not a a0 a1
  have hnn := wtB_not a a0 a1
  have hp := xorB_bd a (2 ^ K) a0 a1 (by have := pow_lt K hK1; have e : (2 : Int) ^ K = ((2 ^ K : Nat) : Int) := by simp
                                         rw [e]; omega) (by have := pow_lt K hK1; have e : (2 : Int) ^ K = ((2 ^ K : Nat) : Int) := by simp
                                                            rw [e]; omega)
  have d1 := fun W => dist_any a _ W a0 a1 hp.1 hp.2
  have d2 := fun W => dist_any a (18446744073709551615 - a) W a0 a1 (by omega) (by omega)
  rw [distB_turned a K hK1 a0 a1] at d1
  rw [distB_not a a0 a1] at d2
  have d3 := fun W => weight_any a W a0 a1
  have d4 := fun W => weight_any (18446744073709551615 - a) W (by omega) (by omega)
  have e3 := wtB_bd a
  have e4 := wtB_bd (18446744073709551615 - a)
  generalize wtB a = x at d3 hnn e3
  generalize wtB (18446744073709551615 - a) = y at d4 hnn e4
  obtain ⟨e3, e3'⟩ := e3
  obtain ⟨e4, e4'⟩ := e4
  have hxy : x + y = 64 := hnn
  replace d1 := Lib.hid d1
  replace d2 := Lib.hid d2
  replace d3 := Lib.hid d3
  replace d4 := Lib.hid d4
  replace hnn := Lib.hid hnn
  replace hbn := Lib.hid hbn
  clear hp
  go_enter Try.func6, Try.ntmps6
  go_wp2_with fail
  refine (awake6_any w).mono ?_; rintro e w1 ⟨rfl, hb⟩
  replace hb := Lib.hid hb
  go_wp2_with fail
  refine (d1.out _).mono ?_; rintro e w2 ⟨rfl, rfl⟩
  go_wp2_with fail
  rw [hbn.out]
  refine (d2.out _).mono ?_; rintro e w2 ⟨rfl, rfl⟩
  go_wp2_with fail
  refine (d3.out _).mono ?_; rintro e w2 ⟨rfl, rfl⟩
  go_wp2_with fail
  rw [hbn.out]
  refine (d4.out _).mono ?_; rintro e w2 ⟨rfl, rfl⟩
  go_wp2_with fail
  go_ret
  exact ⟨rfl, hb.out⟩
end Go.Proofs.Ytonekkjodolmaaa
