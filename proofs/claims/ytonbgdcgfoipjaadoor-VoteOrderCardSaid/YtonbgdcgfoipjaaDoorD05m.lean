/- The walks of layer 5's laws VoteOrder, VoteEven. -/
import Derived.Test.YtonbgdcgfoipjaaDoorD05l
import Derived.Test.YtonbgdcgfoipjaaDoorAps
namespace Go.Proofs.YtonbgdcgfoipjaaDoor
open Go.RowKit

theorem u64_bds {xs : List Int} (hx : ∀ x ∈ xs, (Lit.int .u64 x).wf = true) : ∀ x ∈ xs, 0 ≤ x ∧ x ≤ 18446744073709551615 := fun x hm => by
  have := hx x hm
  simp [Lit.wf, IntKind.min, IntKind.max, IntKind.bits, IntKind.signed] at this
  omega
theorem u64_bd5 {x : Int} (hx : (Lit.int .u64 x).wf = true) : 0 ≤ x ∧ x ≤ 18446744073709551615 := by
  simp [Lit.wf, IntKind.min, IntKind.max, IntKind.bits, IntKind.signed] at hx
  omega
theorem u8_bd5 {n : Int} (h : (Lit.int .u8 n).wf = true) : 0 ≤ n ∧ n ≤ 255 := by
  simp [Lit.wf, IntKind.min, IntKind.max, IntKind.bits, IntKind.signed] at h
  omega

/-- The last m, turned round. -/
def back5 (xs : List Int) (m : Nat) : List Int := xs.reverse.take m
theorem back5_len (xs : List Int) (m : Nat) (h : m ≤ xs.length) : (back5 xs m).length = m := by unfold back5; simp; omega
theorem back5_next (xs : List Int) (m k : Nat) (h : m + (k + 1) = xs.length) : back5 xs (m + 1) = back5 xs m ++ [xs.getD k 0] := by
  unfold back5
  rw [take_last 0 (by simp; omega)]
  congr 2
  have hk : xs.length - 1 - m = k := by omega
  simp [List.getD, List.getElem?_reverse (show m < xs.length by omega), hk]
theorem back5_all (xs : List Int) : back5 xs xs.length = xs.reverse := by unfold back5; rw [List.take_of_length_le (by simp)]

/-- What the law keeps: the argument, three rows of its own. -/
structure OrdAt (w0 : World) (v : Value) (xs : List Int) (v1 v2 v3 : Value) (l1 l2 l3 : List Int) (w : World) : Prop where
  tab : Tab w
  num : NumSl w v xs
  o1 : U64s w w0.heap.size v1 l1
  o2 : U64s w w0.heap.size v2 l2
  o3 : U64s w w0.heap.size v3 l3
  below : Below w0.heap.size w0 w
theorem OrdAt.next {w0 w w' : World} {v : Value} {xs : List Int} {v1 v2 v3 : Value} {l1 l2 l3 : List Int} (h : OrdAt w0 v xs v1 v2 v3 l1 l2 l3 w) (hb : Below w.heap.size w w') : OrdAt w0 v xs v1 v2 v3 l1 l2 l3 w' :=
  ⟨h.tab.below hb, h.num.next hb, ownsRow_below h.o1 hb, ownsRow_below h.o2 hb, ownsRow_below h.o3 hb, h.below.andThen hb⟩
theorem ord_awake {w0 w : World} {v : Value} {xs : List Int} {v1 v2 v3 : Value} {l1 l2 l3 : List Int} (h : Hid (OrdAt w0 v xs v1 v2 v3 l1 l2 l3 w)) :
    Calls Tryd.prog 8 #[] w fun e w' => e = .returned (.bool true) ∧ Hid (OrdAt w0 v xs v1 v2 v3 l1 l2 l3 w') :=
  (awake5_any w h.out.tab).mono fun _ _ ⟨he, hb⟩ => ⟨he, Lib.hid (h.out.next hb)⟩
theorem ord_sig {w0 w : World} {v : Value} {xs : List Int} {v1 v2 v3 : Value} {l1 l2 l3 : List Int} (h : Hid (OrdAt w0 v xs v1 v2 v3 l1 l2 l3 w)) (u : Value) (ys : List Int) (hu : NumSl w u ys) (hn : ys.length ≤ 100000) (hx : ∀ x ∈ ys, 0 ≤ x ∧ x ≤ 18446744073709551615) (s : Int) (hs : sigB ys = s) :
    Calls Tryd.prog 11 #[u] w fun e w' => e = .returned (.int .u64 s) ∧ Hid (OrdAt w0 v xs v1 v2 v3 l1 l2 l3 w') := by
  subst hs
  exact (sig_any ys u w hu.sl hu.low hn hx).mono fun _ _ ⟨he, hb⟩ => ⟨he, Lib.hid (h.out.next hb)⟩
theorem U64s.num {w : World} {B : Nat} {v : Value} {xs : List Int} (h : U64s w B v xs) : NumSl w v xs := ⟨h.sl, h.low⟩

set_option maxRecDepth 100000 in
set_option maxHeartbeats 1000000 in
theorem order05_law (xs : List Int) (v : Value) (a n : Int) (w : World) (hv : IntSl .u64 w v xs) (hlow : SlBelow w.heap.size v) (hn : xs.length ≤ maxLen) (hx : ∀ x ∈ xs, (Lit.int .u64 x).wf = true) (ha : (Lit.int .u64 a).wf = true) (hk : (Lit.int .u8 n).wf = true) (h : Tab w) :
    Calls Tryd.prog 5 #[v, .int .u64 a, .int .u8 n] w (LawPost w) := by
  unfold maxLen at hn
  replace hx := u64_bds hx
  obtain ⟨ha0, ha1⟩ := u64_bd5 ha
  obtain ⟨hn0, hn1⟩ := u8_bd5 hk
  clear ha hk
  obtain ⟨ad, c, rfl⟩ := hv.form
  by_cases hl : 300 < xs.length
  · clear hv hlow hx
    go_enter Tryd.func5, Tryd.ntmps5
    go_wp2_with fail
    refine (awake5_any w h).mono ?_
    rintro e w1 ⟨rfl, hb⟩
    go_wp2_with fail
    go_ret
    exact ⟨rfl, hb⟩
  replace hx := Lib.hid hx
  have hst : Hid (OrdAt w (.slice ad xs.length c) xs (.slice none 0 0) (.slice none 0 0) (.slice none 0 0) (back5 xs 0) [] [] w) :=
    Lib.hid ⟨h, ⟨hv, hlow⟩, World.ownsRow_nil _ _ _ _, World.ownsRow_nil _ _ _ _, World.ownsRow_nil _ _ _ _, Below.refl _ _⟩
  clear h hv hlow
  go_enter Tryd.func5, Tryd.ntmps5
  go_wp2_with fail
  go_loopw [7, 10] (fun s i wr => ∃ (m k : Nat) (a' : Option Addr) (c' : Nat), i = .int .i64 k ∧ m + k = xs.length ∧ s = .slice a' m c' ∧ Hid (OrdAt w (.slice ad xs.length c) xs s (.slice none 0 0) (.slice none 0 0) (back5 xs m) [] [] wr)) (fun _ i _ => (intOf i).toNat)
  case atStart => exact ⟨0, xs.length, none, 0, rfl, by omega, rfl, hst⟩
  case round =>
    obtain ⟨m, k, a', c', rfl, hmk, rfl, hc⟩ := hrel
    by_cases hk0 : k = 0
    · subst hk0
      have hm : m = xs.length := by omega
      subst hm
      rw [back5_all] at hc
      clear hst hmk
      have hxl : xs.length ≤ 300 := by omega
      have hsz := hc.out.below.size
      go_wp2_with (at_builtin; go_must (refine wpList_append_sl rfl _ _ 22 26 rfl Tryd.underlying22 (.int .u64 0) 8 info_u64 rfl (by decide) wr.heap.size _ 0 [] (World.ownsRow_nil _ _ _ _) .u64 _ xs hc.out.num.sl rfl rfl (by omega) (by omega) ?_))
      intro v2 w2 ho2 hb2
      obtain ⟨a2, c2, rfl⟩ := own_form ho2
      replace ho2 := Lib.hid ho2
      replace hb2 := Lib.hid hb2
      have hsz2 := hb2.out.size
      go_wp2_with (at_builtin; go_must (refine wpList_append_sl rfl _ _ 22 26 rfl Tryd.underlying22 (.int .u64 0) 8 info_u64 rfl (by decide) wr.heap.size _ xs.length _ ho2.out .u64 _ xs (hc.out.num.sl.below hb2.out hc.out.num.low) rfl rfl (by omega) (by omega) ?_))
      intro v3 w3 ho3 hb3
      rw [← List.length_append] at ho3
      obtain ⟨ys, hys⟩ : ∃ ys, ys = xs ++ xs := ⟨_, rfl⟩
      replace ho3 := Lib.hid (show U64s w3 wr.heap.size v3 ys by rw [hys]; unfold U64s; rw [List.map_append]; exact ho3)
      have hyl : ys.length ≤ 600 := by rw [hys, List.length_append]; omega
      replace hys := Lib.hid hys
      obtain ⟨a3, c3, hv3⟩ := own_form ho3.out
      subst hv3
      replace hb3 := Lib.hid (hb2.out.trans hb3)
      have hc3 : Hid (OrdAt w (.slice ad xs.length c) xs (.slice a' xs.length c') (.slice a3 ys.length c3) (.slice none 0 0) xs.reverse ys (List.replicate 0 a) w3) := by
        have h3 := hc.out.next hb3.out
        exact Lib.hid ⟨h3.tab, h3.num, h3.o1, ownsRow_mono ho3.out hsz, World.ownsRow_nil _ _ _ _, h3.below⟩
      clear hc ho2 hb2 ho3 hb3 hsz hsz2
      go_wp2_with fail
      go_loopw [9, 11] (fun s i wq => ∃ (m : Nat) (a' : Option Addr) (c' : Nat), i = .int .i64 m ∧ m ≤ n + 1 ∧ s = .slice a' m c' ∧ Hid (U64s wq w3.heap.size s (List.replicate m a)) ∧ Hid (Below w3.heap.size w3 wq)) (fun _ i _ => (n + 1 - intOf i).toNat)
      case atStart => exact ⟨0, none, 0, rfl, by omega, rfl, World.ownsRow_nil _ _ _ _, Below.refl _ _⟩
      case round =>
        obtain ⟨m, a5, c5, rfl, hm, rfl, ho, hb⟩ := hrel
        by_cases hlt : (m : Int) ≤ n
        · have hsz := hb.out.size
          have hno := Lib.hid (show ∀ ww vv, ww.ownsRow w3.heap.size 26 1 vv (m + 1) (List.replicate m (.int .u64 a) ++ [.int .u64 a]) → U64s ww w3.heap.size vv (List.replicate (m + 1) a) by
            intro ww vv hh
            unfold U64s
            rw [List.length_replicate, List.replicate_succ', List.map_append, List.map_replicate]
            exact hh)
          go_wp2_with (at_builtin; go_must (refine wpList_append1 rfl _ _ 22 26 rfl Tryd.underlying22 (.int .u64 0) 8 info_u64 rfl (by decide) w3.heap.size _ m _ (.int .u64 a) (by have := ho.out; unfold U64s at this; rw [List.length_replicate] at this; exact this) rfl rfl rfl (by omega) (by omega) ?_))
          intro v6 w6 ho6 hb6 _
          replace ho6 := Lib.hid (hno.out _ _ ho6)
          obtain ⟨a6, c6, hv6⟩ := own_form ho6.out
          rw [List.length_replicate] at hv6
          subst hv6
          replace hb6 := Lib.hid (hb.out.trans hb6)
          clear hno ho hb
          go_wp2_with fail
          exact ⟨⟨m + 1, a6, c6, by go_num, by omega, rfl, ho6, hb6⟩, by simp [intOf]; omega⟩
        · have hm1 : (m : Int) = n + 1 := by omega
          have hc4 := Lib.hid (show OrdAt w (.slice ad xs.length c) xs (.slice a' xs.length c') (.slice a3 ys.length c3) (.slice a5 m c5) xs.reverse ys (List.replicate m a) wr from by
            have h3 := hc3.out.next hb.out
            exact ⟨h3.tab, h3.num, h3.o1, h3.o2, ownsRow_mono ho.out hc3.out.below.size, h3.below⟩)
          obtain ⟨r1, r2⟩ : sigB xs.reverse = sigB xs ∧ sigB ys = sigB xs := ⟨sigB_reverse xs, by rw [hys.out]; exact sigB_twice xs⟩
          obtain ⟨p, rfl⟩ : ∃ p, m = p + 1 := ⟨m - 1, by omega⟩
          have r3 := sigB_one p a ha0 ha1
          have x1 := Lib.hid (show ∀ x ∈ xs.reverse, 0 ≤ x ∧ x ≤ 18446744073709551615 from fun x hm => hx.out x (List.mem_reverse.1 hm))
          have x2 := Lib.hid (show ∀ x ∈ ys, 0 ≤ x ∧ x ≤ 18446744073709551615 from fun x hm => hx.out x (by rw [hys.out] at hm; simpa using hm))
          have x3 := Lib.hid (show ∀ x ∈ List.replicate (p + 1) a, 0 ≤ x ∧ x ≤ 18446744073709551615 from fun x hm => by rw [List.eq_of_mem_replicate hm]; exact ⟨ha0, ha1⟩)
          have n1 : xs.reverse.length ≤ 100000 := by simp; omega
          have n2 : ys.length ≤ 100000 := by omega
          have n3 : (List.replicate (p + 1) a).length ≤ 100000 := by simp; omega
          have n0 : xs.length ≤ 100000 := by omega
          generalize xs.reverse = zs at *
          generalize List.replicate (p + 1) a = os at *
          generalize hS : sigB xs = S at *
          replace r1 := Lib.hid r1
          replace r2 := Lib.hid r2
          replace r3 := Lib.hid r3
          replace hS := Lib.hid hS
          clear ho hb hc3 hm1
          go_wp2_with fail
          refine (ord_awake hc4).mono ?_; rintro e w5 ⟨rfl, h5⟩
          go_wp2_with fail
          refine (ord_sig h5 _ zs h5.out.o1.num n1 x1.out S r1.out).mono ?_; rintro e w6 ⟨rfl, h6⟩
          go_wp2_with fail
          refine (ord_sig h6 _ xs h6.out.num n0 hx.out S hS.out).mono ?_; rintro e w7 ⟨rfl, h7⟩
          go_wp2_with fail
          refine (ord_sig h7 _ ys h7.out.o2.num n2 x2.out S r2.out).mono ?_; rintro e w8 ⟨rfl, h8⟩
          go_wp2_with fail
          refine (ord_sig h8 _ xs h8.out.num n0 hx.out S hS.out).mono ?_; rintro e w9 ⟨rfl, h9⟩
          go_wp2_with fail
          refine (ord_sig h9 _ os h9.out.o3.num n3 x3.out a r3.out).mono ?_; rintro e w10 ⟨rfl, h10⟩
          go_wp2_with fail
          go_ret
          exact ⟨rfl, h10.out.below⟩
    · obtain ⟨j, rfl⟩ : ∃ j, k = j + 1 := ⟨k - 1, by omega⟩
      have hne : xs ≠ [] := by intro e; subst e; simp at hmk
      obtain ⟨b, off, c1, e1, h1⟩ := hc.out.num.sl.some hne
      injection e1 with e1 e1'' e1'
      clear e1''
      subst e1 e1'
      have g1 := h1 j (by omega)
      have hnx := Lib.hid (back5_next xs m j hmk)
      generalize xs.getD j 0 = x at g1 hnx
      have hbl := Lib.hid (back5_len xs m (by omega))
      have hsz := hc.out.below.size
      have hpos : (0 : Int) < ((j + 1 : Nat) : Int) := by omega
      have hj1 : ((j + 1 : Nat) : Int) - 1 = (j : Int) := by omega
      clear h1 hne hk0
      go_wp2_with (at_builtin; go_must (refine wpList_append1 rfl _ _ 22 26 rfl Tryd.underlying22 (.int .u64 0) 8 info_u64 rfl (by decide) w.heap.size _ m _ (.int .u64 x) (by have := hc.out.o1; unfold U64s at this; rw [hbl.out] at this; exact this) rfl rfl rfl (by omega) (by omega) ?_))
      intro v2 w2 ho2 hb2 _
      replace ho2 := Lib.hid (show U64s w2 w.heap.size v2 (back5 xs (m + 1)) by rw [hnx.out]; unfold U64s; rw [List.length_append, hbl.out, List.map_append]; exact ho2)
      obtain ⟨a2, c2, hv2⟩ := own_form ho2.out
      rw [back5_len xs (m + 1) (by omega)] at hv2
      subst hv2
      have hc2 : Hid (OrdAt w (.slice (some ⟨b, off, none⟩) xs.length c) xs (.slice a2 (m + 1) c2) (.slice none 0 0) (.slice none 0 0) (back5 xs (m + 1)) [] [] w2) :=
        Lib.hid ⟨hst.out.tab.below (hc.out.below.trans hb2), hst.out.num.next (hc.out.below.trans hb2), ho2.out, World.ownsRow_nil _ _ _ _, World.ownsRow_nil _ _ _ _, hc.out.below.trans hb2⟩
      clear hc ho2
      go_wp2_with fail
      exact ⟨⟨m + 1, j, a2, c2, by go_num, by omega, rfl, hc2⟩, by simp [intOf]⟩

theorem allN_step (xs : List Int) (k : Nat) (h : k < xs.length) (hx : 0 ≤ xs.getD k 0 ∧ xs.getD k 0 ≤ 18446744073709551615) : bits .and .u64 (allN (xs.take k) : Nat) (xs.getD k 0) = (allN (xs.take (k + 1)) : Nat) := by
  have h1 := allN_le (xs.take k)
  rw [take_last 0 h, allN_snoc, ← bits_and_u64_nat _ _ (by omega) (by omega), Int.toNat_of_nonneg hx.1]
theorem someN_step (xs : List Int) (k : Nat) (h : k < xs.length) (hx : ∀ x ∈ xs, 0 ≤ x ∧ x ≤ 18446744073709551615) : bits .or .u64 (someN (xs.take k) : Nat) (xs.getD k 0) = (someN (xs.take (k + 1)) : Nat) := by
  have h1 := someN_lt (xs.take k) fun x hm => hx x (List.mem_of_mem_take hm)
  have h2 := hx (xs.getD k 0) (by simp [List.getD, h])
  rw [take_last 0 h, someN_snoc, ← bits_or_u64_nat _ _ (by omega) (by omega), Int.toNat_of_nonneg h2.1]
theorem ownsRow_nothing (w : World) (E : TypeId) (z : Nat) : (w.alloc (.cells #[] E)).ownsRow w.heap.size E z (.slice (some ⟨w.heap.size, 0, none⟩) 0 0) 0 [] :=
  ⟨by simp, Or.inr ⟨_, 0, #[], rfl, Nat.le_refl _, heap_alloc_new w _, Nat.le_refl _, Nat.zero_le _, by simp, by simp⟩⟩

set_option maxRecDepth 100000 in
set_option maxHeartbeats 1000000 in
theorem even05_law (xs : List Int) (v : Value) (a : Int) (w : World) (hv : IntSl .u64 w v xs) (hlow : SlBelow w.heap.size v) (hn : xs.length ≤ maxLen) (hx : ∀ x ∈ xs, (Lit.int .u64 x).wf = true) (ha : (Lit.int .u64 a).wf = true) (h : Tab w) :
    Calls Tryd.prog 6 #[v, .int .u64 a] w (LawPost w) := by
  unfold maxLen at hn
  replace hx := u64_bds hx
  obtain ⟨ha0, ha1⟩ := u64_bd5 ha
  clear ha
  obtain ⟨ad, c, rfl⟩ := hv.form
  by_cases hl0 : xs.length = 0
  · clear hv hlow hx
    replace hl0 := Lib.hid hl0
    have hz : ((xs.length : Int) == 0) = true := by simp [hl0.out]
    go_enter Tryd.func6, Tryd.ntmps6
    go_wp2_with fail
    refine (awake5_any w h).mono ?_
    rintro e w1 ⟨rfl, hb⟩
    go_wp2_with fail
    go_ret
    exact ⟨rfl, hb⟩
  have hz : ((xs.length : Int) == 0) = false := by simpa using (show ¬ ((xs.length : Int) = 0) by omega)
  by_cases hl : 300 < xs.length
  · clear hv hlow hx
    go_enter Tryd.func6, Tryd.ntmps6
    go_wp2_with fail
    refine (awake5_any w h).mono ?_
    rintro e w1 ⟨rfl, hb⟩
    go_wp2_with fail
    go_ret
    exact ⟨rfl, hb⟩
  have hne : xs ≠ [] := by intro e; subst e; simp at hl0
  have hnum := Lib.hid (show NumSl w (.slice ad xs.length c) xs from ⟨hv, hlow⟩)
  obtain ⟨b, off, c1, e1, h1⟩ := hv.some hne
  injection e1 with e1 e1'' e1'
  clear e1''
  subst e1 e1'
  replace hx := Lib.hid hx
  replace h := Lib.hid h
  replace h1 := Lib.hid h1
  replace hne := Lib.hid hne
  clear hl0 hv hlow
  go_enter Tryd.func6, Tryd.ntmps6
  go_wp2_with fail
  go_loop [5, 6, 7] (fun p q i => ∃ (k : Nat), i = .int .i64 k ∧ k ≤ xs.length ∧ p = .int .u64 (allN (xs.take k) : Nat) ∧ q = .int .u64 (someN (xs.take k) : Nat)) (fun _ _ i => xs.length - (intOf i).toNat)
  case atStart => exact ⟨0, rfl, Nat.zero_le _, rfl, rfl⟩
  case round =>
    obtain ⟨k, rfl, hk, rfl, rfl⟩ := hrel
    by_cases hlt : k < xs.length
    · have g1 := h1.out k hlt
      have hxb := hx.out (xs.getD k 0) (by simp [List.getD, hlt])
      have s1 := Lib.hid (allN_step xs k hlt hxb)
      have s2 := Lib.hid (someN_step xs k hlt hx.out)
      have b1 := allN_le (xs.take k)
      have b2 := someN_lt (xs.take k) fun x hm => hx.out x (List.mem_of_mem_take hm)
      obtain ⟨hx0, hx1⟩ := hxb
      generalize xs.getD k 0 = x at g1 s1 s2 hx0 hx1
      generalize allN (xs.take k) = A at s1 b1 ⊢
      generalize someN (xs.take k) = S at s2 b2 ⊢
      replace b2 : S ≤ 18446744073709551615 := by omega
      go_wp2_with fail
      exact ⟨⟨k + 1, by go_num, by omega, by rw [← s1.out], by rw [← s2.out]⟩, by simp [intOf]; omega⟩
    · have hke : ¬ ((k : Int) < xs.length) := by omega
      have t1 := Lib.hid (show xs.take k = xs from List.take_of_length_le (by omega))
      rw [t1.out]
      have n0 : xs.length ≤ 100000 := by omega
      have r1 := sig_all xs hne.out hx.out
      have r2 := sig_some xs hx.out
      have r3 := Lib.hid (sigB_more xs a ha0 ha1)
      have r4 := Lib.hid (voteArr_congr fun k hk => vote_more xs a k hk ha0 ha1)
      have hs := sig_any xs _ w hnum.out.sl hnum.out.low n0 hx.out
      have b1 := allN_le xs
      have b2 := someN_lt xs hx.out
      have b3 := sigB_bd xs
      have hS : Hid (sigB xs = sigB xs) := rfl
      generalize hSS : sigB xs = S at r1 r2 r3 hs b3
      replace hSS := Lib.hid hSS
      generalize allN xs = A at r1 b1 ⊢
      generalize someN xs = O at r2 b2 ⊢
      replace b2 : O ≤ 18446744073709551615 := by omega
      clear hS t1
      go_wp2_with fail
      refine hs.mono ?_; rintro e w1 ⟨rfl, hb1⟩
      clear hs
      have hnum1 := Lib.hid (hnum.out.next hb1)
      replace hb1 := Lib.hid hb1
      go_wp2_with (at_builtin; go_must (refine wpList_append_sl rfl _ _ 22 26 rfl Tryd.underlying22 (.int .u64 0) 8 info_u64 rfl (by decide) w1.heap.size _ 0 [] (ownsRow_nothing w1 26 1) .u64 _ xs (hnum1.out.next ((Below.refl _ _).alloc (Nat.le_refl _) _)).sl rfl rfl (by omega) (by simp) ?_))
      intro v2 w2 ho2 hb2
      obtain ⟨a2, c2, rfl⟩ := own_form ho2
      replace ho2 := Lib.hid ho2
      replace hb2 := Lib.hid (((Below.refl w1.heap.size w1).alloc (Nat.le_refl _) _).trans hb2)
      have hsz2 := hb2.out.size
      have hnot := Lib.hid (bits_not a ha0 ha1)
      have hna : 0 ≤ 18446744073709551615 - a ∧ 18446744073709551615 - a ≤ 18446744073709551615 := by omega
      obtain ⟨na, hnae⟩ : ∃ na, na = 18446744073709551615 - a := ⟨_, rfl⟩
      rw [← hnae] at r3 r4 hna
      have hnot := Lib.hid (hnot.out.trans hnae.symm)
      replace hnae := Lib.hid hnae
      replace hna := Lib.hid hna
      go_wp2_with (at_builtin; rw [hnot.out]; go_must (refine wpList_append_sl rfl _ _ 22 26 rfl Tryd.underlying22 (.int .u64 0) 8 info_u64 rfl (by decide) w1.heap.size _ xs.length _ (ownsRow_below ho2.out ((Below.refl _ _).alloc (Nat.le_refl _) _)) .u64 _ [a, na] (intSl_new w2 .u64 26 [a, na] 2 rfl) rfl rfl (by simp; omega) (by simp; omega) ?_))
      intro v3 w3 ho3 hb3
      obtain ⟨ys, hys⟩ : ∃ ys, ys = xs ++ [a, na] := ⟨_, rfl⟩
      replace ho3 := Lib.hid (show U64s w3 w1.heap.size v3 ys by rw [hys]; unfold U64s; rw [List.length_append, List.map_append]; exact ho3)
      have hyl : ys.length ≤ 100000 := by rw [hys, List.length_append]; simp; omega
      rw [← hys] at r3 r4
      have hyx := Lib.hid (show ∀ x ∈ ys, 0 ≤ x ∧ x ≤ 18446744073709551615 from fun x hm => by
        rw [hys] at hm
        rcases List.mem_append.1 hm with hm | hm
        · exact hx.out x hm
        · simp at hm
          rcases hm with rfl | rfl
          · exact ⟨ha0, ha1⟩
          · exact hna.out)
      replace hys := Lib.hid hys
      replace hb3 := Lib.hid ((hb2.out.alloc hsz2 _).trans hb3)
      have hc : Hid (OrdAt w (.slice (some ⟨b, off, none⟩) xs.length c) xs v3 (.slice none 0 0) (.slice none 0 0) ys [] [] w3) := by
        have hb := hb1.out.andThen hb3.out
        exact Lib.hid ⟨h.out.below hb, hnum.out.next hb, ownsRow_mono ho3.out hb1.out.size, World.ownsRow_nil _ _ _ _, World.ownsRow_nil _ _ _ _, hb⟩
      obtain ⟨a3, c3, hv3⟩ := own_form ho3.out
      subst hv3
      have hq := run_equal_same (voteArr xs) (voteArr_ints xs)
      replace r3 := Lib.hid (show sigB ys = S from r3.out)
      obtain ⟨V, hV⟩ : ∃ V, V = voteArr xs := ⟨_, rfl⟩
      rw [← hV] at hq
      have r4 := Lib.hid (r4.out.trans hV.symm)
      replace hV := Lib.hid hV
      clear ho2 ho3 hb2 hb3 hnum1 h1 hnot hna hnae hsz2
      go_wp2_with fail
      refine (ord_awake hc).mono ?_; rintro e w5 ⟨rfl, h5⟩
      go_wp2_with fail
      refine (ord_sig h5 _ ys h5.out.o1.num hyl hyx.out S r3.out).mono ?_; rintro e w6 ⟨rfl, h6⟩
      go_wp2_with fail
      refine (votes_any ys _ w6 h6.out.o1.num.sl h6.out.o1.num.low hyl hyx.out).mono ?_; rintro e w7 ⟨rfl, hb7⟩
      have h7 := Lib.hid (h6.out.next hb7)
      rw [r4.out]
      clear hb7
      go_wp2_with fail
      refine (votes_any xs _ w7 h7.out.num.sl h7.out.num.low n0 hx.out).mono ?_; rintro e w8 ⟨rfl, hb8⟩
      have h8 := Lib.hid (h7.out.next hb8)
      rw [← hV.out]
      clear hb8
      go_wp2_with fail
      go_ret
      exact ⟨rfl, h8.out.below⟩
end Go.Proofs.YtonbgdcgfoipjaaDoor
