/- Layer 8's tables: buckets in a row; the search for a bucket. -/
import Derived.Test.YtgldlfgidmgmfaaKb
import Derived.Test.YtgldlfgidmgmfaaSw
import Derived.Deep.QuietTactic
namespace Go.Proofs.Ytgldlfgidmgmfaa
open Go.RowKit

/-- A bucket: its band, its names, and the block in which they lie. -/
structure Bk where
  band : Int
  g : Nat
  cap : Nat
  names : List Int
def Bk.val (k : Bk) : Value := .slice (some ⟨k.g, 0, none⟩) k.names.length k.cap
def Bk.cells (k : Bk) : List Value := [.int .u64 k.band, k.val]
def cellsT (tb : List Bk) : List Value := tb.flatMap Bk.cells
theorem cellsT_len : ∀ tb : List Bk, (cellsT tb).length = tb.length * 2
  | [] => rfl
  | k :: tb => by
    have := cellsT_len tb
    unfold cellsT at this ⊢
    rw [List.flatMap_cons, List.length_append, this, List.length_cons]
    show 2 + _ = _
    omega
theorem cellsT_app (a b : List Bk) : cellsT (a ++ b) = cellsT a ++ cellsT b := List.flatMap_append
theorem cellsT_one : ∀ (tb : List Bk), ∀ u ∈ cellsT tb, u.oneCell' = true := by
  intro tb u hu
  obtain ⟨k, _, hk⟩ := List.mem_flatMap.1 hu
  rcases List.mem_cons.1 hk with rfl | hk
  · rfl
  · obtain rfl := List.mem_singleton.1 hk; rfl
theorem cellsT_take : ∀ (tb : List Bk) (i : Nat), (cellsT tb).take (i * 2) = cellsT (tb.take i)
  | [], i => by simp [cellsT]
  | k :: tb, 0 => by simp [cellsT]
  | k :: tb, i + 1 => by
    have := cellsT_take tb i
    rw [List.take_succ_cons]
    show (k.cells ++ cellsT tb).take _ = k.cells ++ cellsT (tb.take i)
    rw [← this, List.take_append, List.take_of_length_le (by show 2 ≤ _; omega)]
    congr 2
    show (i + 1) * 2 - 2 = _
    omega
theorem cellsT_drop : ∀ (tb : List Bk) (i : Nat), (cellsT tb).drop (i * 2) = cellsT (tb.drop i)
  | [], i => by simp [cellsT]
  | k :: tb, 0 => by simp
  | k :: tb, i + 1 => by
    have := cellsT_drop tb i
    rw [List.drop_succ_cons, ← this]
    show (k.cells ++ cellsT tb).drop _ = _
    rw [List.drop_append, List.drop_of_length_le (by show 2 ≤ _; omega), List.nil_append]
    congr 1
    show (i + 1) * 2 - 2 = _
    omega
theorem cellsT_get (tb : List Bk) (i : Nat) (h : i < tb.length) : (cellsT tb)[i * 2]? = some (.int .u64 (tb[i]'h).band) ∧ (cellsT tb)[i * 2 + 1]? = some (tb[i]'h).val := by
  have e : tb = tb.take i ++ tb[i] :: tb.drop (i + 1) := by simp
  have hl : (cellsT (tb.take i)).length = i * 2 := by rw [cellsT_len, List.length_take]; omega
  have e2 : cellsT tb = cellsT (tb.take i) ++ ((tb[i]'h).cells ++ cellsT (tb.drop (i + 1))) := by
    conv => lhs; rw [e]
    rw [cellsT_app]; rfl
  rw [e2]
  constructor
  · rw [List.getElem?_append_right (by omega), hl, Nat.sub_self]; rfl
  · rw [List.getElem?_append_right (by omega), hl, show i * 2 + 1 - i * 2 = 1 by omega]; rfl

/-- A table that rises, as a slice of buckets. -/
def TbRow (w : World) (v : Value) (tb : List Bk) : Prop := w.ownsRow 0 78 2 v tb.length (cellsT tb)
theorem TbRow.nil_ {w : World} {v : Value} (h : TbRow w v []) : ∃ a c, v = .slice a 0 c := by
  rcases h.2 with ⟨h, _⟩ | ⟨g, cap, cur, h, _⟩
  · exact ⟨_, _, h⟩
  · exact ⟨_, _, h⟩
theorem TbRow.some_ {w : World} {v : Value} {tb : List Bk} (h : TbRow w v tb) (h0 : 0 < tb.length) : ∃ g cap, v = .slice (some ⟨g, 0, none⟩) tb.length cap ∧ tb.length ≤ cap ∧ cap ≤ 9223372036854775807 ∧ g < w.heap.size ∧
    ∀ i (hi : i < tb.length), w.cell? ⟨g, i * 2, none⟩ = some (.int .u64 (tb[i]'hi).band) ∧ w.cell? ⟨g, i * 2 + 1, none⟩ = some (tb[i]'hi).val := by
  rcases id h.2 with ⟨_, h⟩ | ⟨g, cap, cur, hv, _, hg, hn, hc, _⟩
  · omega
  · have hl := h.lt g (by rw [hv]; rfl)
    unfold maxLen at hc
    unfold TbRow at h
    rw [hv] at h
    exact ⟨g, cap, hv, hn, hc, hl.2, fun i hi => ⟨by rw [h.cellAt _ (by omega), (cellsT_get tb i hi).1], by rw [h.cellAt _ (by omega), (cellsT_get tb i hi).2]⟩⟩
theorem TbRow.below {w w' : World} {v : Value} {tb : List Bk} (h : TbRow w v tb) (hb : Below w.heap.size w w') : TbRow w' v tb := ownsRow_below h hb

theorem compare_any (x y : Int) (w : World) : Calls Try.prog 58 #[.int .u64 x, .int .u64 y] w fun e w' => e = .returned (.int .i64 (if x < y then -1 else if y < x then 1 else 0)) ∧ w = w' := by
  by_cases h1 : x < y
  · rw [if_pos h1]
    go_enter Try.func58, Try.ntmps58
    go_wp2_with go_in
    go_ret
    exact ⟨rfl, rfl⟩
  · rw [if_neg h1]
    by_cases h2 : y < x
    · rw [if_pos h2]
      go_enter Try.func58, Try.ntmps58
      go_wp2_with go_in
      go_ret
      exact ⟨rfl, rfl⟩
    · rw [if_neg h2]
      go_enter Try.func58, Try.ntmps58
      go_wp2_with go_in
      go_ret
      exact ⟨rfl, rfl⟩
def cmpI (x y : Int) : Int := if x < y then -1 else if y < x then 1 else 0
theorem cmpI_bd (x y : Int) : -1 ≤ cmpI x y ∧ cmpI x y ≤ 1 := by unfold cmpI; split <;> (try split) <;> omega
theorem cmpI_neg (x y : Int) : cmpI x y < 0 ↔ x < y := by unfold cmpI; split <;> (try split) <;> omega
theorem cmpI_zero (x y : Int) : cmpI x y = 0 ↔ x = y := by unfold cmpI; split <;> (try split) <;> omega
theorem findcls_any (x y : Int) (u : Value) (w : World) : Calls Try.prog 57 #[.agg #[.int .u64 x, u], .int .u64 y] w fun e w' => e = .returned (.int .i64 (cmpI x y)) ∧ Below w.heap.size w w' := by
  have hc := fun W => compare_any x y W
  change ∀ W, Calls _ _ _ W fun e w' => e = .returned (.int .i64 (cmpI x y)) ∧ W = w' at hc
  generalize cmpI x y = c at hc ⊢
  replace hc := Lib.hid hc
  go_enter Try.func57, Try.ntmps57
  go_wp2_with fail
  refine (hc.out _).mono ?_; rintro e w1 ⟨rfl, rfl⟩
  go_wp2_with fail
  go_ret
  exact ⟨rfl, (Below.refl _ _).alloc (Nat.le_refl _) _⟩

/-- What the search keeps: below i all bands are less, from j on none is. -/
def Part (tb : List Bk) (b : Int) (i j : Nat) : Prop := i ≤ j ∧ j ≤ tb.length ∧ (∀ t (h : t < tb.length), t < i → (tb[t]'h).band < b) ∧ ∀ t (h : t < tb.length), j ≤ t → b ≤ (tb[t]'h).band
theorem Part.start (tb : List Bk) (b : Int) : Part tb b 0 tb.length := ⟨Nat.zero_le _, Nat.le_refl _, fun t _ h => by omega, fun t h h2 => by omega⟩
theorem rises_get {tb : List Bk} (hs : (tb.map Bk.band).Pairwise (· < ·)) {i j : Nat} (hij : i < j) (hj : j < tb.length) : (tb[i]'(by omega)).band < (tb[j]'hj).band := by
  have := List.pairwise_iff_getElem.1 hs i j (by simp; omega) (by simpa using hj) hij
  simpa using this
theorem Part.up {tb : List Bk} {b : Int} {i j h : Nat} (hp : Part tb b i j) (hs : (tb.map Bk.band).Pairwise (· < ·)) (h1 : i ≤ h) (h2 : h < j) (hl : h < tb.length) (hb : (tb[h]'hl).band < b) : Part tb b (h + 1) j := by
  refine ⟨by omega, hp.2.1, fun t ht hlt => ?_, hp.2.2.2⟩
  rcases Nat.lt_or_ge t h with h' | h'
  · have := rises_get hs h' hl; omega
  · obtain rfl : t = h := by omega
    exact hb
theorem Part.down {tb : List Bk} {b : Int} {i j h : Nat} (hp : Part tb b i j) (hs : (tb.map Bk.band).Pairwise (· < ·)) (h1 : i ≤ h) (h2 : h < j) (hl : h < tb.length) (hb : b ≤ (tb[h]'hl).band) : Part tb b i h := by
  refine ⟨h1, by omega, hp.2.2.1, fun t ht hlt => ?_⟩
  rcases Nat.lt_or_ge h t with h' | h'
  · have := rises_get hs h' ht; omega
  · obtain rfl : t = h := by omega
    exact hb
/-- What the search comes to: the place, and whether there is such a bucket. -/
def Found (tb : List Bk) (b : Int) (i : Nat) (is : Bool) : Prop := Part tb b i i ∧ (is = true → ∃ h : i < tb.length, (tb[i]'h).band = b) ∧ (is = false → ∀ t (h : t < tb.length), (tb[t]'h).band ≠ b)
def FindPost (w : World) (tb : List Bk) (b : Int) (e : Ending) (w' : World) : Prop := ∃ (i : Nat) (is : Bool), e = .returned (.tuple #[.int .i64 i, .bool is]) ∧ Found tb b i is ∧ Below w.heap.size w w'

set_option maxHeartbeats 1000000 in
theorem bsf_any (v : Value) (tb : List Bk) (b : Int) (w : World) (h : TbRow w v tb) (hs : (tb.map Bk.band).Pairwise (· < ·)) (hn : tb.length ≤ 1000000) :
    Calls Try.prog 56 #[v, .int .u64 b, .func (.func 57) #[] #[]] w (FindPost w tb b) := by
  have hf : ∃ a c, v = .slice a tb.length c := by
    rcases Nat.eq_zero_or_pos tb.length with h0 | h0
    · obtain rfl := List.length_eq_zero_iff.1 h0
      exact h.nil_
    · obtain ⟨g, cap, hv, _⟩ := h.some_ h0
      exact ⟨_, _, hv⟩
  obtain ⟨a, c, rfl⟩ := hf
  have hst := Lib.hid (Part.start tb b)
  replace hs := Lib.hid hs
  replace h := Lib.hid h
  go_enter Try.func56, Try.ntmps56
  go_wp2_with fail
  go_loopw [9, 10] (fun i j wr => ∃ I J : Nat, i = .int .i64 I ∧ j = .int .i64 J ∧ I ≤ J ∧ J ≤ tb.length ∧ Hid (Part tb b I J) ∧ Hid (Below w.heap.size w wr)) (fun i j _ => (intOf j).toNat - (intOf i).toNat)
  case atStart => exact ⟨0, tb.length, rfl, rfl, Nat.zero_le _, Nat.le_refl _, hst, Below.refl _ _⟩
  case round =>
    clear hst
    obtain ⟨I, J, rfl, rfl, hIJ, hJ, hp, hb⟩ := hrel
    by_cases hlt : I < J
    · obtain ⟨H, hH⟩ : ∃ H : Nat, ((I : Int) + J) / 2 = H := ⟨(I + J) / 2, by omega⟩
      have hH1 : I ≤ H := by omega
      have hH2 : H < J := by omega
      have hHl : H < tb.length := by omega
      obtain ⟨g, cap, hv, hc1, hc2, hg, hcell⟩ := (h.out.below hb.out).some_ (by omega)
      injection hv with hv1 hv2 hv3
      subst hv1 hv3
      clear hv2
      obtain ⟨x0, x1⟩ := hcell H hHl
      clear hcell
      have hcl := fun W => findcls_any (tb[H]'hHl).band b (tb[H]'hHl).val W
      have hcn := cmpI_neg (tb[H]'hHl).band b
      have hcb := cmpI_bd (tb[H]'hHl).band b
      generalize cmpI (tb[H]'hHl).band b = r at hcl hcn hcb
      have hup := Lib.hid (hp.out.up hs.out hH1 hH2 hHl)
      have hdn := Lib.hid (hp.out.down hs.out hH1 hH2 hHl)
      generalize (tb[H]'hHl).band = x at hcl hcn x0 hup hdn
      generalize (tb[H]'hHl).val = y at hcl x1
      replace hcl := Lib.hid hcl
      replace hcn := Lib.hid hcn
      have k0 : (0 : Int) ≤ H := by omega
      have k1 : (H : Int) < tb.length := by omega
      by_cases hr : r < 0
      · have hU := Lib.hid (hup.out (hcn.out.1 hr))
        go_wp2_with (go_at_call 57; refine (hcl.out _).mono ?_; rintro e w1 ⟨rfl, hb1⟩; replace hb1 := Lib.hid (hb.out.andThen hb1))
        exact ⟨⟨H + 1, J, by go_num, rfl, by omega, hJ, hU.out, hb1.out⟩, by simp [intOf]; omega⟩
      · have hU := Lib.hid (hdn.out (Int.not_lt.1 (fun hx => hr (hcn.out.2 hx))))
        go_wp2_with (go_at_call 57; refine (hcl.out _).mono ?_; rintro e w1 ⟨rfl, hb1⟩; replace hb1 := Lib.hid (hb.out.andThen hb1))
        exact ⟨⟨I, H, rfl, rfl, hH1, by omega, hU.out, hb1.out⟩, by simp [intOf]; omega⟩
    · obtain rfl : I = J := by omega
      by_cases hIl : I < tb.length
      · obtain ⟨g, cap, hv, hc1, hc2, hg, hcell⟩ := (h.out.below hb.out).some_ (by omega)
        injection hv with hv1 hv2 hv3
        subst hv1 hv3
        clear hv2
        obtain ⟨x0, x1⟩ := hcell I hIl
        clear hcell
        have hcl := fun W => findcls_any (tb[I]'hIl).band b (tb[I]'hIl).val W
        have hcz := cmpI_zero (tb[I]'hIl).band b
        have hcb := cmpI_bd (tb[I]'hIl).band b
        generalize cmpI (tb[I]'hIl).band b = r at hcl hcz hcb
        have hyes : Hid ((tb[I]'hIl).band = b → Found tb b I true) := fun he => ⟨hp.out, fun _ => ⟨hIl, he⟩, fun hx => (by cases hx)⟩
        have hno : Hid ((tb[I]'hIl).band ≠ b → Found tb b I false) := fun he => ⟨hp.out, fun hx => (by cases hx), fun _ t ht => by
          rcases Nat.lt_or_ge t I with h' | h'
          · have := hp.out.2.2.1 t ht h'; omega
          · have h1 := hp.out.2.2.2 I hIl (Nat.le_refl _)
            rcases Nat.lt_or_ge I t with h'' | h''
            · have := rises_get hs.out h'' ht; omega
            · obtain rfl : t = I := by omega
              exact he⟩
        generalize (tb[I]'hIl).band = x at hcl hcz x0 hyes hno
        generalize (tb[I]'hIl).val = y at hcl x1
        replace hcl := Lib.hid hcl
        replace hcz := Lib.hid hcz
        have k0 : (0 : Int) ≤ I := by omega
        have k1 : (I : Int) < tb.length := by omega
        by_cases hr : r = 0
        · subst hr
          have hU := Lib.hid (hyes.out (hcz.out.1 rfl))
          go_wp2_with (go_at_call 57; refine (hcl.out _).mono ?_; rintro e w1 ⟨rfl, hb1⟩; replace hb1 := Lib.hid (hb.out.andThen hb1))
          go_ret2
          exact ⟨I, true, rfl, hU.out, hb1.out⟩
        · have hU := Lib.hid (hno.out (fun hx => hr (hcz.out.2 hx)))
          have hr' : (r == 0) = false := by simpa using hr
          go_wp2_with (go_at_call 57; refine (hcl.out _).mono ?_; rintro e w1 ⟨rfl, hb1⟩; replace hb1 := Lib.hid (hb.out.andThen hb1))
          go_ret2
          exact ⟨I, false, rfl, hU.out, hb1.out⟩
      · have k1 : ¬ ((I : Int) < tb.length) := by omega
        have hno : Hid (Found tb b I false) := ⟨hp.out, fun hx => (by cases hx), fun _ t ht => by have := hp.out.2.2.1 t ht (by omega); omega⟩
        go_wp2_with fail
        go_ret2
        exact ⟨I, false, rfl, hno.out, hb.out⟩

theorem find_any (v : Value) (tb : List Bk) (b : Int) (w : World) (h : TbRow w v tb) (hs : (tb.map Bk.band).Pairwise (· < ·)) (hn : tb.length ≤ 1000000) :
    Calls Try.prog 43 #[v, .int .u64 b] w (FindPost w tb b) := by
  have hc := Lib.hid (bsf_any v tb b w h hs hn)
  clear h hs
  go_enter Try.func43, Try.ntmps43
  go_wp2_with fail
  refine hc.out.mono ?_; rintro e w1 ⟨i, is, rfl, hf, hb⟩
  replace hf := Lib.hid hf
  replace hb := Lib.hid hb
  go_wp2_with fail
  go_ret2
  exact ⟨i, is, rfl, hf.out, hb.out⟩
end Go.Proofs.Ytgldlfgidmgmfaa
