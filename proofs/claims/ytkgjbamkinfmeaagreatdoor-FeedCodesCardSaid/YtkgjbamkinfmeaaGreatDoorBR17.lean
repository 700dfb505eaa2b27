/- Layer 12, plain: how what stands within a node is found, each node gone through once. -/
import Derived.Test.YtkgjbamkinfmeaaGreatDoorBR06
import Derived.Test.YtkgjbamkinfmeaaGreatDoorBR16
import Derived.Test.YtkgjbamkinfmeaaGreatDoorBR01
import Derived.Laws.OwnMore
import Derived.Deep.Cut
namespace Go.Proofs.YtkgjbamkinfmeaaGreatDoor

theorem getD_set (K : List Bool) (a j : Nat) (v : Bool) : (K.set a v).getD j false = if a = j ∧ a < K.length then v else K.getD j false := by
  by_cases e : a = j
  · subst e
    by_cases h : a < K.length
    · simp [List.getD, h]
    · simp [List.getD, h]
  · simp [List.getD, e]
/-- What is known, and of what it is known that it stands within i: behind k of the places. -/
structure WI (l : List Nd) (i : Int) (K I : List Bool) (k : Nat) : Prop where
  lk : K.length = l.length
  li : I.length = l.length
  ki : K.getD i.toNat false = true
  sub : ∀ j, I.getD j false = true → K.getD j false = true
  ok : ∀ j, j < l.length → K.getD j false = true → (I.getD j false = true ↔ Within l i (j : Int))
  done : ∀ j, j < k → K.getD j false = true
theorem WI.start {l : List Nd} {i : Int} (h : placeB l i = true) : WI l i ((List.replicate l.length false).set i.toNat true) ((List.replicate l.length false).set i.toNat true) 0 := by
  have hp := place_iff.1 h
  have hi : (i.toNat : Int) = i := by omega
  refine ⟨by simp, by simp, ?_, fun _ h => h, fun j hj h1 => ?_, fun j hj => by omega⟩
  · rw [getD_set, if_pos ⟨rfl, by simp; omega⟩]
  · refine ⟨fun _ => ?_, fun _ => h1⟩
    rw [getD_set] at h1
    split at h1
    · rename_i e
      rw [← e.1, hi]
      exact .here h
    · simp [List.getD, hj] at h1
/-- The way up from f. -/
def itN (l : List Nd) (f : Int) : Nat → Int
  | 0 => f
  | m + 1 => upN l (itN l f m)
/-- The way up from f, m nodes long, all of them new. -/
structure W2 (l : List Nd) (f : Int) (K0 K : List Bool) (m : Nat) : Prop where
  len : K.length = l.length
  fresh : ∀ a, a < m → placeB l (itN l f a) = true ∧ K0.getD (itN l f a).toNat false = false
  dist : ∀ a b, a < b → b < m → itN l f a ≠ itN l f b
  old : ∀ j, K0.getD j false = true → K.getD j false = true
  new : ∀ j, K.getD j false = true → K0.getD j false = true ∨ ∃ a, a < m ∧ itN l f a = (j : Int)
  mark : ∀ a, a < m → K.getD (itN l f a).toNat false = true
theorem W2.start {l : List Nd} {f : Int} {K : List Bool} (h : K.length = l.length) : W2 l f K K 0 :=
  ⟨h, fun a h => by omega, fun a b h1 h2 => by omega, fun _ h => h, fun _ h => Or.inl h, fun a h => by omega⟩
theorem W2.step {l : List Nd} {f : Int} {K0 K : List Bool} {m : Nat} (h : W2 l f K0 K m) (hp : placeB l (itN l f m) = true) (hk : K.getD (itN l f m).toNat false = false) : W2 l f K0 (K.set (itN l f m).toNat true) (m + 1) := by
  have hp' := place_iff.1 hp
  refine ⟨by simp [h.len], fun a ha => ?_, fun a b hab hb => ?_, fun j hj => ?_, fun j hj => ?_, fun a ha => ?_⟩
  · by_cases e : a = m
    · subst e
      refine ⟨hp, ?_⟩
      cases hq : K0.getD (itN l f a).toNat false
      · rfl
      · rw [h.old _ hq] at hk; cases hk
    · exact h.fresh a (by omega)
  · by_cases e : b = m
    · subst e
      intro e2
      have := h.mark a hab
      rw [e2, hk] at this
      cases this
    · exact h.dist a b hab (by omega)
  · rw [getD_set]
    split
    · rfl
    · exact h.old j hj
  · rw [getD_set] at hj
    split at hj
    · rename_i e
      exact Or.inr ⟨m, by omega, by omega⟩
    · rcases h.new j hj with e | ⟨a, ha, e⟩
      · exact Or.inl e
      · exact Or.inr ⟨a, by omega, e⟩
  · rw [getD_set]
    split
    · rfl
    · rename_i e
      by_cases e2 : a = m
      · subst e2
        exact absurd ⟨rfl, by rw [h.len]; omega⟩ e
      · exact h.mark a (by omega)
theorem W2.first {l : List Nd} {k : Nat} {K0 K : List Bool} {m : Nat} (h : W2 l (k : Int) K0 K m) (hk : k < l.length) (hend : placeB l (itN l k m) = true → K.getD (itN l k m).toNat false = true) : K.getD k false = true := by
  cases m with
  | zero => exact hend (place_nat hk)
  | succ m => exact h.mark 0 (by omega)
/-- The way ended outside, or at a node that doesn't stand within i: none of it does. -/
theorem W2.no {l : List Nd} {i : Int} {K0 K I : List Bool} {k m : Nat} (hW : WI l i K0 I k) (h : W2 l (k : Int) K0 K m) (hk : k < l.length) (hend : placeB l (itN l k m) = true → K.getD (itN l k m).toNat false = true)
    (hno : placeB l (itN l k m) = true → I.getD (itN l k m).toNat false = false) : WI l i K I (k + 1) := by
  have key : ∀ x, Within l i x → (∃ a, a < m ∧ itN l k a = x) → False := by
    intro x hx
    induction hx with
    | here _ =>
      rintro ⟨a, ha, e⟩
      have := (h.fresh a ha).2
      rw [e, hW.ki] at this
      cases this
    | up hp hw ih =>
      rintro ⟨a, ha, rfl⟩
      by_cases e : a + 1 < m
      · exact ih ⟨a + 1, e, rfl⟩
      · obtain rfl : m = a + 1 := by omega
        have hpl := hw.place
        have h1 := hend hpl
        have h2 := hno hpl
        have hpl' := place_iff.1 hpl
        rcases h.new _ h1 with h3 | ⟨b, hb, e2⟩
        · have hc : ((itN l k (a + 1)).toNat : Int) = itN l k (a + 1) := Int.toNat_of_nonneg hpl'.1
          have := (hW.ok (itN l k (a + 1)).toNat (by have : itN l k (a + 1) < l.length := hpl'.2; omega) h3).2 (by rw [hc]; exact hw)
          rw [this] at h2
          cases h2
        · exact ih ⟨b, hb, by rw [e2]; exact Int.toNat_of_nonneg hpl'.1⟩
  refine ⟨h.len, hW.li, h.old _ hW.ki, fun j hj => h.old j (hW.sub j hj), fun j hj h1 => ?_, fun j hj => ?_⟩
  · rcases h.new j h1 with h2 | ⟨a, ha, e⟩
    · exact hW.ok j hj h2
    · refine ⟨fun h3 => ?_, fun h3 => (key _ h3 ⟨a, ha, e⟩).elim⟩
      have := (h.fresh a ha).2
      rw [e, Int.toNat_natCast, hW.sub j h3] at this
      cases this
  · by_cases e : j = k
    · subst e; exact h.first hk hend
    · exact h.old j (hW.done j (by omega))
/-- What of the way is told to stand within i: its first c nodes. -/
structure W3 (l : List Nd) (f : Int) (I0 I : List Bool) (m c : Nat) : Prop where
  len : I.length = l.length
  le : c ≤ m
  old : ∀ j, I0.getD j false = true → I.getD j false = true
  new : ∀ j, I.getD j false = true → I0.getD j false = true ∨ ∃ a, a < c ∧ itN l f a = (j : Int)
  mark : ∀ a, a < c → I.getD (itN l f a).toNat false = true
theorem W3.start {l : List Nd} {f : Int} {I : List Bool} {m : Nat} (h : I.length = l.length) : W3 l f I I m 0 :=
  ⟨h, Nat.zero_le _, fun _ h => h, fun _ h => Or.inl h, fun a h => by omega⟩
section
variable {l : List Nd} {i : Int} {K0 K I I' : List Bool} {k m c : Nat}
theorem W3.place (_hW : WI l i K0 I k) (h2 : W2 l (k : Int) K0 K m) (h : W3 l (k : Int) I I' m c) (hp : placeB l (itN l k m) = true) : placeB l (itN l k c) = true := by
  by_cases e : c = m
  · rw [e]; exact hp
  · exact (h2.fresh c (by have := h.le; omega)).1
theorem W3.lt (h : W3 l (k : Int) I I' m c) (hin : I.getD (itN l k m).toNat false = true) (hc : I'.getD (itN l k c).toNat false = false) : c < m := by
  by_cases e : c = m
  · subst e
    rw [h.old _ hin] at hc
    cases hc
  · have := h.le; omega
theorem W3.step (h2 : W2 l (k : Int) K0 K m) (h : W3 l (k : Int) I I' m c) (hc : c < m) : W3 l (k : Int) I (I'.set (itN l k c).toNat true) m (c + 1) := by
  have hp := place_iff.1 (h2.fresh c hc).1
  refine ⟨by simp [h.len], by omega, fun j hj => ?_, fun j hj => ?_, fun a ha => ?_⟩
  · rw [getD_set]
    split
    · rfl
    · exact h.old j hj
  · rw [getD_set] at hj
    split at hj
    · exact Or.inr ⟨c, by omega, by omega⟩
    · rcases h.new j hj with e | ⟨a, ha, e⟩
      · exact Or.inl e
      · exact Or.inr ⟨a, by omega, e⟩
  · rw [getD_set]
    split
    · rfl
    · rename_i e
      by_cases e2 : a = c
      · subst e2
        exact absurd ⟨rfl, by rw [h.len]; omega⟩ e
      · exact h.mark a (by omega)
/-- It stops behind the whole way. -/
theorem W3.whole (hW : WI l i K0 I k) (h2 : W2 l (k : Int) K0 K m) (h : W3 l (k : Int) I I' m c) (hc : I'.getD (itN l k c).toNat false = true) : c = m := by
  by_cases e : c = m
  · exact e
  · exfalso
    have hcm : c < m := by have := h.le; omega
    have hf := h2.fresh c hcm
    have hp := place_iff.1 hf.1
    rcases h.new _ hc with h3 | ⟨a, ha, e2⟩
    · rw [hW.sub _ h3] at hf
      cases hf.2
    · refine h2.dist a c ha hcm ?_
      rw [e2]
      exact Int.toNat_of_nonneg hp.1
theorem W3.yes (hW : WI l i K0 I k) (h2 : W2 l (k : Int) K0 K m) (h : W3 l (k : Int) I I' m m) (hk : k < l.length) (hp : placeB l (itN l k m) = true) (hkn : K.getD (itN l k m).toNat false = true) (hin : I.getD (itN l k m).toNat false = true) : WI l i K I' (k + 1) := by
  have hp' := place_iff.1 hp
  have hm : Within l i (itN l k m) := by
    have := (hW.ok (itN l k m).toNat (by omega) (hW.sub _ hin)).1 hin
    rwa [Int.toNat_of_nonneg hp'.1] at this
  have hall : ∀ d a, a + d = m → Within l i (itN l k a) := by
    intro d
    induction d with
    | zero => intro a e; obtain rfl : a = m := by omega
              exact hm
    | succ d ih => intro a e; exact .up (h2.fresh a (by omega)).1 (ih (a + 1) (by omega))
  refine ⟨h2.len, h.len, h2.old _ hW.ki, fun j hj => ?_, fun j hj h1 => ?_, fun j hj => ?_⟩
  · rcases h.new j hj with e | ⟨a, ha, e⟩
    · exact h2.old j (hW.sub j e)
    · have := h2.mark a ha
      rw [e, Int.toNat_natCast] at this
      exact this
  · rcases h2.new j h1 with h3 | ⟨a, ha, e⟩
    · refine ⟨fun h4 => ?_, fun h4 => h.old j ((hW.ok j hj h3).2 h4)⟩
      rcases h.new j h4 with h5 | ⟨a, ha, e⟩
      · exact (hW.ok j hj h3).1 h5
      · rw [← e]; exact hall (m - a) a (by omega)
    · refine ⟨fun _ => ?_, fun _ => ?_⟩
      · rw [← e]; exact hall (m - a) a (by omega)
      · have := h.mark a ha
        rw [e, Int.toNat_natCast] at this
        exact this
  · by_cases e : j = k
    · subst e; exact h2.first hk fun _ => hkn
    · exact h2.old j (hW.done j (by omega))
end
/-- In the end: just what stands within i. -/
theorem WI.ends {l : List Nd} {i : Int} {K I : List Bool} (h : WI l i K I l.length) : I = (List.range l.length).map fun j : Nat => winB l i (j : Int) := by
  refine List.ext_getElem (by simp [h.li]) fun j h1 h2 => ?_
  have hj : j < l.length := by rw [← h.li]; exact h1
  have := h.ok j hj (h.done j hj)
  rw [List.getElem_map, List.getElem_range]
  rw [show I.getD j false = I[j] by simp [List.getD, h1]] at this
  rw [Bool.eq_iff_iff, winB_iff]
  exact this
end Go.Proofs.YtkgjbamkinfmeaaGreatDoor

/- Layer 12: what stands within a node, and its text: the reference's. -/
namespace Go.Proofs.YtkgjbamkinfmeaaGreatDoor
open Go.RowKit

theorem winF_no {l : List Nd} {i x : Int} (h : placeB l x = false) (F : Nat) : winF l i F x = false := win_no (by rw [h]; decide) F
theorem winF_here {l : List Nd} {x : Int} (F : Nat) (h : placeB l x = true) : winF l x (F + 1) x = true := by rw [winF, h]; simp
theorem winF_next {l : List Nd} {i x : Int} (F : Nat) (h : placeB l x = true) (hne : x ≠ i) : winF l i (F + 1) x = winF l i F (upN l x) := by
  rw [winF, h, Bool.true_and, show (x == i) = false by rw [beq_eq_false_iff_ne]; exact hne, Bool.false_or]

set_option maxHeartbeats 1000000 in
theorem refwithin12_any (P : List (Nd × Value)) (v : Value) (x0 i : Int) (w : World) (h : NdSl w v P) (hn : P.length ≤ 1000000) :
    Calls Tryz.prog 147 #[v, .int .i64 x0, .int .i64 i] w fun e w' => e = .returned (.bool (winB (nodes P) i x0)) ∧ w = w' := by
  obtain ⟨va, vc, rfl⟩ := h.form
  have hp := fun (x : Int) (W : World) => refis12_any va P.length vc x W
  simp only [← place_nodes] at hp
  obtain ⟨o, ho⟩ : ∃ o, winB (nodes P) i x0 = o := ⟨_, rfl⟩
  rw [ho]
  have hnl := nodes_len P
  have hst : o = winF (nodes P) i (P.length + 1 - 0) x0 := by rw [← ho]; unfold winB; rw [hnl]; rfl
  clear ho
  replace hp := Lib.hid hp
  replace h := Lib.hid h
  replace hnl := Lib.hid hnl
  go_enter Tryz.func147, Tryz.ntmps147
  go_wp2_with fail
  go_loopw [1, 7] (fun xx ii wr => ∃ (x : Int) (k : Nat), xx = .int .i64 x ∧ ii = .int .i64 k ∧ k ≤ P.length + 1 ∧ Hid (o = winF (nodes P) i (P.length + 1 - k) x) ∧ wr = w) (fun _ ii _ => P.length + 1 - (intOf ii).toNat)
  case atStart => exact ⟨x0, 0, rfl, rfl, Nat.zero_le _, hst, rfl⟩
  case round =>
    clear hst
    obtain ⟨x, k, rfl, rfl, hk, ho, rfl⟩ := hrel
    by_cases hle : k ≤ P.length
    · have hle1 : (k : Int) ≤ P.length := by omega
      have hpx := hp.out x
      have ho2 := ho.out
      rw [show P.length + 1 - k = P.length - k + 1 by omega] at ho2
      cases hpl : placeB (nodes P) x
      · rw [hpl] at hpx
        rw [winF_no hpl] at ho2
        replace hpx := Lib.hid hpx
        replace ho2 := Lib.hid ho2
        replace hpl := Lib.hid hpl
        go_wp2_with fail
        refine (hpx.out _).mono ?_; rintro e w1 ⟨rfl, rfl⟩
        go_wp2_with fail
        go_ret
        exact ⟨ret_bool ho2.out.symm, rfl⟩
      · rw [hpl] at hpx
        have hpl2 := place_iff.1 hpl
        rw [hnl.out] at hpl2
        obtain ⟨q, rfl⟩ : ∃ q : Nat, x = q := ⟨x.toNat, by omega⟩
        have hq : q < P.length := by omega
        obtain ⟨b, off, cap, hcap, hbl, hve, hcl⟩ := h.out.some (by omega)
        injection hve with hve1 hve2 hve3
        clear hve2
        subst hve1 hve3
        obtain ⟨d0, d1, d2, d3⟩ := hcl q hq
        rw [nodes_at hq] at d3
        clear d0 d1 d2 hcl hpl2
        replace hpx := Lib.hid hpx
        by_cases hqi : (q : Int) = i
        · subst hqi
          rw [winF_here _ hpl] at ho2
          have hqq : ((q : Int) == (q : Int)) = true := by simp
          replace ho2 := Lib.hid ho2
          replace hpl := Lib.hid hpl
          go_wp2_with fail
          refine (hpx.out _).mono ?_; rintro e w1 ⟨rfl, rfl⟩
          go_wp2_with fail
          go_ret
          exact ⟨ret_bool ho2.out.symm, rfl⟩
        · rw [winF_next _ hpl hqi] at ho2
          have hqq : ((q : Int) == i) = false := by rw [beq_eq_false_iff_ne]; exact hqi
          replace hqi := Lib.hid hqi
          replace hpl := Lib.hid hpl
          unfold upN at ho2
          generalize (atN (nodes P) (q : Int)).up = xu at d3 ho2
          replace ho2 := Lib.hid ho2
          go_wp2_with fail
          refine (hpx.out _).mono ?_; rintro e w1 ⟨rfl, rfl⟩
          go_wp2_with fail
          exact ⟨⟨xu, k + 1, rfl, by go_num, by omega, Lib.hid (by rw [show P.length + 1 - (k + 1) = P.length - k by omega]; exact ho2.out), trivial⟩, by simp [intOf]; omega⟩
    · have hle1 : ¬ ((k : Int) ≤ P.length) := by omega
      have ho2 := ho.out
      rw [show P.length + 1 - k = 0 by omega] at ho2
      replace ho2 := Lib.hid ho2
      go_wp2_with fail
      go_ret
      exact ⟨ret_bool ho2.out.symm, rfl⟩

theorem text_le (l : List Nd) (k : Nat) : (atN l (k : Int)).text.length ≤ sumT l := by
  unfold atN
  rw [Int.toNat_natCast]
  by_cases h : k < l.length
  · have h1 := sum_getD l (k + 1) (by omega)
    rw [List.range_succ, List.map_append, List.sum_append] at h1
    have h2 : sumT l = ((l.take (k + 1)).map fun x => x.text.length).sum + ((l.drop (k + 1)).map fun x => x.text.length).sum := by
      unfold sumT
      rw [← List.sum_append, ← List.map_append, List.take_append_drop]
    simp only [List.map_cons, List.map_nil, List.sum_cons, List.sum_nil] at h1
    omega
  · simp [List.getD, List.getElem?_eq_none (show l.length ≤ k by omega), nd0]
theorem bitB_no {l : List Nd} {i : Int} {j : Nat} (h : ¬ ((atN l (j : Int)).name = [] ∧ winB l i (j : Int) = true)) : bitB l i j = [] := by unfold bitB; rw [if_neg h]
theorem bitB_yes {l : List Nd} {i : Int} {j : Nat} (h1 : (atN l (j : Int)).name = []) (h2 : winB l i (j : Int) = true) : bitB l i j = (atN l (j : Int)).text := by unfold bitB; rw [if_pos ⟨h1, h2⟩]
/-- A text, as an answer. -/
def StrPost (s : List UInt8) (w : World) (e : Ending) (w' : World) : Prop := e = .returned (.string ⟨s.toArray⟩) ∧ Below w.heap.size w w'
theorem StrPost.mk {s t : List UInt8} {w w' : World} (h : s = t) (hb : Below w.heap.size w w') : StrPost s w (.returned (.string ⟨t.toArray⟩)) w' := by subst h; exact ⟨rfl, hb⟩

set_option maxHeartbeats 2000000 in
theorem reftext12_any (P : List (Nd × Value)) (v : Value) (i : Int) (w : World) (h : NdSl w v P) (hn : P.length ≤ 1000000) (hT : sumT (nodes P) ≤ 1000000000) :
    Calls Tryz.prog 98 #[v, .int .i64 i] w (StrPost (textB (nodes P) i) w) := by
  have hplb := place_nodes (P := P) (i := i)
  by_cases h0 : P = []
  · have hk : textB (nodes P) i = [] := by
      have : placeB (nodes P) i = false := by subst h0; rw [hplb, Bool.and_eq_false_iff]; simp; omega
      unfold textB; rw [if_neg (by rw [this]; decide)]
    obtain ⟨a, c, rfl⟩ := h.form
    clear h hplb hT
    subst h0
    go_enter Tryz.func98, Tryz.ntmps98
    go_wp2_with fail
    refine wp_loop_rounds 1 ?_; rw [rounds_succ]
    go_wp2_with fail
    go_ret
    exact StrPost.mk (t := []) hk (Below.refl _ _)
  have hpos : 0 < P.length := List.length_pos_iff.2 h0
  have hwin := fun (x : Int) => refwithin12_any P v x i w h hn
  obtain ⟨b, off, cap, hcap, hbl, rfl, hcl⟩ := h.some hpos
  have hp := fun W : World => refis12_any (some ⟨b, off, none⟩) P.length cap i W
  rw [← hplb] at hp
  clear h h0
  cases hpl : placeB (nodes P) i
  · have hk : textB (nodes P) i = [] := by unfold textB; rw [if_neg (by rw [hpl]; decide)]
    rw [hpl] at hp
    have hpos1 : (0 : Int) < P.length := by omega
    clear hplb hpl hcl hwin hT
    replace hp := Lib.hid hp
    go_enter Tryz.func98, Tryz.ntmps98
    go_wp2_with fail
    refine wp_loop_rounds 1 ?_; rw [rounds_succ]
    go_wp2_with fail
    refine (hp.out _).mono ?_; rintro e w1 ⟨rfl, rfl⟩
    go_wp2_with fail
    go_ret
    exact StrPost.mk (t := []) hk (Below.refl _ _)
  have hk : textB (nodes P) i = textTo (nodes P) i P.length := by unfold textB; rw [if_pos hpl, nodes_len]
  rw [hpl] at hp
  have htl := fun k => textTo_len (nodes P) i k
  have hxl := fun k => text_le (nodes P) k
  rw [nodes_len] at htl
  generalize sumT (nodes P) = S at hT htl hxl
  clear hplb hpl
  replace hp := Lib.hid hp
  replace hk := Lib.hid hk
  replace hcl := Lib.hid hcl
  replace hwin := Lib.hid hwin
  replace htl := Lib.hid htl
  replace hxl := Lib.hid hxl
  replace hpos := Lib.hid hpos
  go_enter Tryz.func98, Tryz.ntmps98
  go_wp2_with fail
  go_loopw [5, 6] (fun u ii wr => ∃ (k : Nat) (T : List UInt8), ii = .int .i64 k ∧ u = .string ⟨T.toArray⟩ ∧ k ≤ P.length ∧ T.length ≤ S ∧ Hid (T = textTo (nodes P) i k) ∧ wr = w) (fun _ ii _ => P.length - (intOf ii).toNat)
  case atStart => exact ⟨0, [], rfl, rfl, Nat.zero_le _, Nat.zero_le _, rfl, rfl⟩
  case round =>
    obtain ⟨k, T, rfl, rfl, hkl, hTl, hTe, rfl⟩ := hrel
    by_cases hlt : k < P.length
    · obtain ⟨d0, d1, d2, d3⟩ := hcl.out k hlt
      rw [nodes_at hlt] at d0 d2
      clear d1 d3
      have hnx := textTo_next (nodes P) i k
      rw [← hTe.out] at hnx
      have hw := hwin.out (k : Int)
      have hlt1 : (k : Int) < P.length := by omega
      have hno := bitB_no (l := nodes P) (i := i) (j := k)
      have hyes := bitB_yes (l := nodes P) (i := i) (j := k)
      have hx1 := hxl.out k
      have htl2 := htl.out (k + 1) (by omega)
      generalize atN (nodes P) (k : Int) = x at d0 d2 hno hyes hx1
      obtain ⟨xn, xa, xt, xu⟩ := x
      unfold strV at d0 d2
      simp only at d0 d2 hno hyes hx1
      cases hem : xn.isEmpty
      · have hne : ¬ xn = [] := by simpa using hem
        rw [hno (fun e => hne e.1), List.append_nil] at hnx
        clear hno hyes
        replace hne := Lib.hid hne
        replace hnx := Lib.hid hnx
        replace hw := Lib.hid hw
        go_wp2_with fail
        refine (hp.out _).mono ?_; rintro e w1 ⟨rfl, rfl⟩
        go_wp2_with fail
        exact ⟨⟨k + 1, T, by go_num, rfl, by omega, hTl, Lib.hid hnx.out.symm, trivial⟩, by simp [intOf]; omega⟩
      · have hne : xn = [] := by simpa using hem
        cases hwk : winB (nodes P) i (k : Int)
        · rw [hwk] at hw
          rw [hno (fun e => by rw [hwk] at e; cases e.2), List.append_nil] at hnx
          clear hno hyes
          replace hne := Lib.hid hne
          replace hnx := Lib.hid hnx
          replace hw := Lib.hid hw
          replace hwk := Lib.hid hwk
          go_wp2_with fail
          refine (hp.out _).mono ?_; rintro e w1 ⟨rfl, rfl⟩
          go_wp2_with fail
          refine hw.out.mono ?_; rintro e w1 ⟨rfl, rfl⟩
          go_wp2_with fail
          exact ⟨⟨k + 1, T, by go_num, rfl, by omega, hTl, Lib.hid hnx.out.symm, trivial⟩, by simp [intOf]; omega⟩
        · rw [hwk] at hw
          rw [hyes hne hwk] at hnx
          rw [hnx] at htl2
          clear hno hyes
          replace hne := Lib.hid hne
          replace hnx := Lib.hid hnx
          replace hw := Lib.hid hw
          replace hwk := Lib.hid hwk
          rw [List.length_append] at htl2
          have htl3 := Lib.hid (show (T ++ xt).length ≤ S by rw [List.length_append]; exact htl2)
          go_wp2_with fail
          refine (hp.out _).mono ?_; rintro e w1 ⟨rfl, rfl⟩
          go_wp2_with fail
          refine hw.out.mono ?_; rintro e w1 ⟨rfl, rfl⟩
          go_wp2_with fail
          all_goals try (exfalso; omega)
          exact ⟨⟨k + 1, T ++ xt, by go_num, rfl, by omega, htl3.out, Lib.hid hnx.out.symm, trivial⟩, by simp [intOf]; omega⟩
    · have hke : ¬ ((k : Int) < P.length) := by omega
      have hkk := Lib.hid (show k = P.length by omega)
      go_wp2_with fail
      go_ret
      exact StrPost.mk (hk.out.trans (by rw [hTe.out, hkk.out])) (Below.refl _ _)
end Go.Proofs.YtkgjbamkinfmeaaGreatDoor

/- make([]T, n) where T is one cell: a row of its own (ArrAt), cell by cell written, in the end a slice that the call itself made. -/
namespace Go.Proofs.YtkgjbamkinfmeaaGreatDoor
open Go.RowKit

theorem run_make_row {P : Program} (t e : TypeId) (z : Value) (bytes : Nat) (ht : P.underlying t = some (.slice e)) (hi : (P.info? e).map (fun i => (i.zero, i.size, i.bytes)) = some (some z, 1, bytes)) (hz : z.cells = #[z])
    (x : Int) (n : Nat) (hx : x = n) (hb : (bytes : Int) * x ≤ 281474976710656) (hn : x ≤ 9223372036854775807) (w : World) :
    (Instr.makeSlice t (.int .i64 x) (.int .i64 x)).run P w = .ok (.slice (some ⟨w.heap.size, 0, none⟩) n n) (w.alloc (.cells (List.replicate n z).toArray e)) := by
  obtain ⟨i0, hi, hz0, hz1, hz2⟩ := info_parts hi
  subst hx
  have hr := run_make (P := P) w t e i0 z ht hi hz0 .i64 .i64 n n (by omega) (by omega) (by rw [hz2]; exact hb) hn
  rw [hz, hz1, Int.toNat_natCast, Nat.mul_one] at hr
  rw [hr, ← toList_madeCells_one, Array.toArray_toList]
/-- A row as a slice that the call itself made. -/
theorem ArrAt.own {w : World} {g B n : Nat} {t : TypeId} {c : List Value} (h : ArrAt w g t c) (hn : n = c.length) (hb : B ≤ g) (hm : n ≤ maxLen) : w.ownsRow B t 1 (.slice (some ⟨g, 0, none⟩) n n) n c :=
  ⟨by simpa using hn.symm, Or.inr ⟨g, n, c.toArray, rfl, hb, h, Nat.le_refl _, hm, by simp [hn], by simp [hn]⟩⟩
end Go.Proofs.YtkgjbamkinfmeaaGreatDoor

/- Layer 12: what stands within a node, found with each node gone through once. -/
namespace Go.Proofs.YtkgjbamkinfmeaaGreatDoor
open Go.RowKit

theorem info_bool : (Tryz.prog.info? 4).map (fun i => (i.zero, i.size, i.bytes)) = some (some (.bool false), 1, 1) := by kernel_rfl
/-- The two rows of within in memory: what stands within, what is known. -/
structure Wm (w : World) (K I : List Bool) (wr : World) : Prop where
  ri : ArrAt wr w.heap.size 4 (I.map Value.bool)
  rk : ArrAt wr (w.heap.size + 1) 4 (K.map Value.bool)
  below : Below w.heap.size w wr
section
variable {w wr : World} {K I : List Bool}
theorem Wm.start (w : World) (n : Nat) : Wm w (List.replicate n false) (List.replicate n false) ((w.alloc (.cells (List.replicate n (Value.bool false)).toArray 4)).alloc (.cells (List.replicate n (Value.bool false)).toArray 4)) := by
  have h1 := arrAt_new w 4 (List.replicate n (Value.bool false))
  have h2 := arrAt_new (w.alloc (.cells (List.replicate n (Value.bool false)).toArray 4)) 4 (List.replicate n (Value.bool false))
  have hs : (w.alloc (.cells (List.replicate n (Value.bool false)).toArray 4)).heap.size = w.heap.size + 1 := by simp
  rw [hs] at h2
  have hb1 : Below w.heap.size w (w.alloc (.cells (List.replicate n (Value.bool false)).toArray 4)) := (Below.refl _ _).alloc (Nat.le_refl _) _
  refine ⟨?_, ?_, hb1.alloc (by omega) _⟩
  · rw [List.map_replicate]
    exact h1.next ((Below.refl _ _).alloc (Nat.le_refl _) _)
  · rw [List.map_replicate]
    exact h2
theorem Wm.setI (h : Wm w K I wr) (j : Nat) : Wm w K (I.set j true) (wr.setCell ⟨w.heap.size, j, none⟩ (.bool true)) :=
  ⟨by rw [List.map_set]; exact h.ri.set j _, h.rk.far j _ (by omega), h.below.setCell (p := ⟨w.heap.size, j, none⟩) (Nat.le_refl _) _⟩
theorem Wm.setK (h : Wm w K I wr) (j : Nat) : Wm w (K.set j true) I (wr.setCell ⟨w.heap.size + 1, j, none⟩ (.bool true)) :=
  ⟨h.ri.far j _ (by omega), by rw [List.map_set]; exact h.rk.set j _, h.below.setCell (p := ⟨w.heap.size + 1, j, none⟩) (by show w.heap.size ≤ w.heap.size + 1; omega) _⟩
theorem Wm.cellI (h : Wm w K I wr) {j : Nat} (hj : j < I.length) : wr.cell? ⟨w.heap.size, j, none⟩ = some (.bool (I.getD j false)) ∧ wr.frozen? ⟨w.heap.size, j, none⟩ = false :=
  ⟨by rw [h.ri.cell]; simp [List.getD, hj], h.ri.soft j⟩
theorem Wm.cellK (h : Wm w K I wr) {j : Nat} (hj : j < K.length) : wr.cell? ⟨w.heap.size + 1, j, none⟩ = some (.bool (K.getD j false)) ∧ wr.frozen? ⟨w.heap.size + 1, j, none⟩ = false :=
  ⟨by rw [h.rk.cell]; simp [List.getD, hj], h.rk.soft j⟩
end
/-- How many cells of a row are false yet. -/
def isF : Value → Bool
  | .bool false => true
  | _ => false
def falses (w : World) (g : Nat) : Nat :=
  match w.heap[g]? with
  | some (.cells c _ _) => c.toList.countP isF
  | _ => 0
theorem falses_at {w : World} {g : Nat} {t : TypeId} {c : List Value} (h : ArrAt w g t c) : falses w g = c.countP isF := by
  unfold ArrAt at h
  unfold falses
  rw [h]
theorem count_set : ∀ (K : List Bool) (j : Nat), j < K.length → K.getD j false = false → ((K.set j true).map Value.bool).countP isF < (K.map Value.bool).countP isF
  | [], j, h, _ => by simp at h
  | b :: t, 0, _, h => by
    obtain rfl : b = false := h
    simp [List.countP_cons, isF]
  | b :: t, j + 1, h, h2 => by
    have := count_set t j (by simpa using h) (by simpa [List.getD] using h2)
    rw [List.set_cons_succ, List.map_cons, List.map_cons, List.countP_cons, List.countP_cons]
    omega
/-- What within answers: of each node whether it stands within i. -/
def WithinPost (P : List (Nd × Value)) (i : Int) (w : World) (e : Ending) (w' : World) : Prop :=
  e = .returned (.slice (some ⟨w.heap.size, 0, none⟩) P.length P.length) ∧ ArrAt w' w.heap.size 4 (((List.range P.length).map fun j : Nat => winB (nodes P) i (j : Int)).map Value.bool) ∧ Below w.heap.size w w'

set_option maxRecDepth 100000 in
set_option maxHeartbeats 4000000 in
theorem within12_any (P : List (Nd × Value)) (v : Value) (i : Int) (w : World) (h : NdSl w v P) (hn : P.length ≤ 1000000) (hi : placeB (nodes P) i = true) :
    Calls Tryz.prog 172 #[v, .int .i64 i] w (WithinPost P i w) := by
  have hnl := nodes_len P
  have hi2 := place_iff.1 hi
  rw [hnl] at hi2
  obtain ⟨q, rfl⟩ : ∃ q : Nat, i = q := ⟨i.toNat, by omega⟩
  have hqn : q < P.length := by omega
  obtain ⟨b, off, cap, hcap, hbl, rfl, hcl⟩ := h.some (by omega)
  have hp := fun (x : Int) (W : World) => place12_any (some ⟨b, off, none⟩) P.length cap x W
  simp only [← place_nodes] at hp
  have hmk := run_make_row (P := Tryz.prog) 196 4 (.bool false) 1 Tryz.underlying196 info_bool rfl (P.length : Int) P.length rfl (by omega) (by omega)
  have hm0 := Wm.start w P.length
  have hW0 := WI.start hi
  rw [hnl, Int.toNat_natCast] at hW0
  clear h hi hi2
  simp only [List.toArray_replicate] at hm0
  replace hm0 := Lib.hid hm0
  replace hp := Lib.hid hp
  replace hcl := Lib.hid hcl
  replace hnl := Lib.hid hnl
  replace hW0 := Lib.hid hW0
  go_enter Tryz.func172, Tryz.ntmps172
  go_upto_region 3 with fail
  clear hmk
  generalize (w.alloc (.cells (Array.replicate P.length (Value.bool false)) 4)).alloc (.cells (Array.replicate P.length (Value.bool false)) 4) = w0 at hm0 ⊢
  have hm1 := hm0.out.setI q
  have hm2 := hm1.setK q
  obtain ⟨x1, x2⟩ := hm0.out.cellI (j := q) (by simp; exact hqn)
  obtain ⟨y1, y2⟩ := hm1.cellK (j := q) (by simp; exact hqn)
  rw [show (List.replicate P.length false).getD q false = false by simp [List.getD, hqn]] at x1 y1
  clear hm0 hm1
  replace hm2 := Lib.hid hm2
  go_wp2_with fail
  clear x1 x2 y1 y2
  go_loopw [23] (fun ii wr => ∃ (k : Nat) (K I : List Bool), ii = .int .i64 k ∧ k ≤ P.length ∧ Hid (Wm w K I wr) ∧ Hid (WI (nodes P) (q : Int) K I k)) (fun ii _ => P.length - (intOf ii).toNat)
  case atStart => exact ⟨0, _, _, rfl, Nat.zero_le _, hm2, hW0⟩
  case round =>
    clear hm2 hW0
    obtain ⟨k, K0, I0, rfl, hk, hM, hW⟩ := hrel
    by_cases hlt : k < P.length
    · have hlt1 : (k : Int) < P.length := by omega
      obtain ⟨wo, hwo⟩ : ∃ wo : World, wr = wo := ⟨_, rfl⟩
      rw [hwo] at hM ⊢
      clear hwo
      have hw2 := Lib.hid (W2.start (l := nodes P) (f := (k : Int)) hW.out.lk)
      go_wp2_with fail
      go_loopw [8] (fun aa wr => ∃ (x : Int) (m : Nat) (K : List Bool), aa = .int .i64 x ∧ Hid (x = itN (nodes P) k m) ∧ Hid (W2 (nodes P) k K0 K m) ∧ Hid (Wm w K I0 wr)) (fun _ wr => falses wr (w.heap.size + 1))
      case atStart => exact ⟨k, 0, K0, rfl, rfl, hw2, hM⟩
      case round =>
        clear hw2 hM
        obtain ⟨x, m, K, rfl, hx, h2, hM⟩ := hrel
        have hpx := hp.out x
        cases hpl : placeB (nodes P) x
        · rw [hpl] at hpx
          replace hpx := Lib.hid hpx
          have hW2 := Lib.hid (h2.out.no hW.out (by rw [hnl.out]; exact hlt) (fun e => by rw [← hx.out, hpl] at e; cases e) (fun e => by rw [← hx.out, hpl] at e; cases e))
          replace hpl := Lib.hid hpl
          go_wp2_with fail
          refine (hpx.out _).mono ?_; rintro e w1 ⟨rfl, rfl⟩
          go_wp2_with fail
          refine (hpx.out _).mono ?_; rintro e w1 ⟨rfl, rfl⟩
          go_wp2_with fail
          exact ⟨⟨k + 1, K, I0, by go_num, by omega, hM, hW2⟩, by simp [intOf]; omega⟩
        · rw [hpl] at hpx
          have hpl2 := place_iff.1 hpl
          rw [hnl.out] at hpl2
          obtain ⟨j, rfl⟩ : ∃ j : Nat, x = j := ⟨x.toNat, by omega⟩
          have hj : j < P.length := by omega
          have hjx : (itN (nodes P) k m).toNat = j := by rw [← hx.out]; rfl
          have hplx : placeB (nodes P) (itN (nodes P) k m) = true := by rw [← hx.out]; exact hpl
          obtain ⟨x1, x2⟩ := hM.out.cellK (j := j) (by rw [h2.out.len, hnl.out]; exact hj)
          clear hpl2
          replace hpx := Lib.hid hpx
          replace hpl := Lib.hid hpl
          replace hjx := Lib.hid hjx
          replace hplx := Lib.hid hplx
          cases hkj : K.getD j false
          · rw [hkj] at x1
            have hM2 := hM.out.setK j
            have h22 := h2.out.step hplx.out (by rw [hjx.out]; exact hkj)
            rw [hjx.out] at h22
            obtain ⟨d0, d1, d2, d3⟩ := (hcl.out j hj).next hM2.below
            rw [nodes_at hj] at d3
            clear d0 d1 d2
            have hup : upN (nodes P) (j : Int) = (atN (nodes P) (j : Int)).up := rfl
            generalize (atN (nodes P) (j : Int)).up = xu at d3 hup
            have hdec := Lib.hid (show falses (wr.setCell ⟨w.heap.size + 1, j, none⟩ (.bool true)) (w.heap.size + 1) < falses wr (w.heap.size + 1) by
              rw [falses_at hM2.rk, falses_at hM.out.rk]
              exact count_set K j (by rw [h2.out.len, hnl.out]; exact hj) hkj)
            have hx2 : Hid (xu = itN (nodes P) k (m + 1)) := Lib.hid (by rw [itN, ← hx.out, hup])
            clear hup
            replace hM2 := Lib.hid hM2
            replace h22 := Lib.hid h22
            replace hkj := Lib.hid hkj
            go_wp2_with fail
            refine (hpx.out _).mono ?_; rintro e w1 ⟨rfl, rfl⟩
            go_wp2_with fail
            exact ⟨⟨xu, m + 1, _, rfl, hx2, h22, hM2⟩, hdec.out⟩
          · rw [hkj] at x1
            obtain ⟨y1, y2⟩ := hM.out.cellI (j := j) (by rw [hW.out.li, hnl.out]; exact hj)
            clear x2 y2
            cases hij : I0.getD j false
            · rw [hij] at y1
              have hW2 := Lib.hid (h2.out.no hW.out (by rw [hnl.out]; exact hlt) (fun _ => by rw [hjx.out]; exact hkj) (fun _ => by rw [hjx.out]; exact hij))
              replace hkj := Lib.hid hkj
              replace hij := Lib.hid hij
              go_wp2_with fail
              refine (hpx.out _).mono ?_; rintro e w1 ⟨rfl, rfl⟩
              go_wp2_with fail
              refine (hpx.out _).mono ?_; rintro e w1 ⟨rfl, rfl⟩
              go_wp2_with fail
              exact ⟨⟨k + 1, K, I0, by go_num, by omega, hM, hW2⟩, by simp [intOf]; omega⟩
            · rw [hij] at y1
              have h3 := Lib.hid (W3.start (l := nodes P) (f := (k : Int)) (m := m) hW.out.li)
              have hin : Hid (I0.getD (itN (nodes P) k m).toNat false = true) := Lib.hid (by rw [hjx.out]; exact hij)
              have hkn : Hid (K.getD (itN (nodes P) k m).toNat false = true) := Lib.hid (by rw [hjx.out]; exact hkj)
              replace hkj := Lib.hid hkj
              replace hij := Lib.hid hij
              go_wp2_with fail
              refine (hpx.out _).mono ?_; rintro e w1 ⟨rfl, rfl⟩
              go_wp2_with fail
              refine (hpx.out _).mono ?_; rintro e w1 ⟨rfl, rfl⟩
              obtain ⟨wo2, hwo⟩ : ∃ wo : World, wr = wo := ⟨_, rfl⟩
              rw [hwo] at hM x1 y1 ⊢
              clear hwo
              go_wp2_with fail
              clear x1 y1
              go_loopw [8] (fun aa wr => ∃ (x : Int) (c : Nat) (I : List Bool), aa = .int .i64 x ∧ Hid (x = itN (nodes P) k c) ∧ Hid (W3 (nodes P) k I0 I m c) ∧ Hid (Wm w K I wr)) (fun _ wr => falses wr w.heap.size)
              case atStart => exact ⟨k, 0, I0, rfl, rfl, h3, hM⟩
              case round =>
                clear h3 hM
                obtain ⟨x, c, I, rfl, hx, h3, hM⟩ := hrel
                have hpc := h3.out.place hW.out h2.out hplx.out
                rw [← hx.out] at hpc
                have hpl2 := place_iff.1 hpc
                rw [hnl.out] at hpl2
                obtain ⟨a, rfl⟩ : ∃ a : Nat, x = a := ⟨x.toNat, by omega⟩
                have ha : a < P.length := by omega
                have hax : (itN (nodes P) k c).toNat = a := by rw [← hx.out]; rfl
                obtain ⟨y1, y2⟩ := hM.out.cellI (j := a) (by rw [h3.out.len, hnl.out]; exact ha)
                clear hpl2
                replace hpc := Lib.hid hpc
                replace hax := Lib.hid hax
                cases hia : I.getD a false
                · rw [hia] at y1
                  have hM2 := hM.out.setI a
                  have h32 := W3.step h2.out h3.out (h3.out.lt hin.out (by rw [hax.out]; exact hia))
                  rw [hax.out] at h32
                  obtain ⟨d0, d1, d2, d3⟩ := (hcl.out a ha).next hM2.below
                  rw [nodes_at ha] at d3
                  clear d0 d1 d2
                  have hup : upN (nodes P) (a : Int) = (atN (nodes P) (a : Int)).up := rfl
                  generalize (atN (nodes P) (a : Int)).up = xu at d3 hup
                  have hdec := Lib.hid (show falses (wr.setCell ⟨w.heap.size, a, none⟩ (.bool true)) w.heap.size < falses wr w.heap.size by
                    rw [falses_at hM2.ri, falses_at hM.out.ri]
                    exact count_set I a (by rw [h3.out.len, hnl.out]; exact ha) hia)
                  have hx2 : Hid (xu = itN (nodes P) k (c + 1)) := Lib.hid (by rw [itN, ← hx.out, hup])
                  clear hup
                  replace hM2 := Lib.hid hM2
                  replace h32 := Lib.hid h32
                  replace hia := Lib.hid hia
                  go_wp2_with fail
                  exact ⟨⟨xu, c + 1, _, rfl, hx2, h32, hM2⟩, hdec.out⟩
                · rw [hia] at y1
                  have hcm := h3.out.whole hW.out h2.out (by rw [hax.out]; exact hia)
                  subst hcm
                  have hW2 := Lib.hid (h3.out.yes hW.out h2.out (by rw [hnl.out]; exact hlt) hplx.out hkn.out hin.out)
                  clear y2
                  replace hia := Lib.hid hia
                  go_wp2_with fail
                  exact ⟨⟨k + 1, K, I, by go_num, by omega, hM, hW2⟩, by simp [intOf]; omega⟩
    · have hke : ¬ ((k : Int) < P.length) := by omega
      have hkk := Lib.hid (show k = P.length by omega)
      go_wp2_with fail
      go_ret
      have hri := hM.out.ri
      have hW' := hW.out
      rw [hkk.out, ← hnl.out] at hW'
      have := hW'.ends
      rw [hnl.out] at this
      rw [this] at hri
      exact ⟨rfl, hri, hM.out.below⟩
end Go.Proofs.YtkgjbamkinfmeaaGreatDoor
