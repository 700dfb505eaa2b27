/- Layer 12: the kids of a name, the program's and the reference's; same. -/
import Derived.Test.YtfmlgfeldlnlgaaGreatDoorBR20
import Derived.Test.YtfmlgfeldlnlgaaGreatDoorBR03
namespace Go.Proofs.YtfmlgfeldlnlgaaGreatDoor
open Go.RowKit

/-- Of the first k those that f lets through. -/
def filtTo (f : Int → Bool) (xs : List Int) (k : Nat) : List Int := (xs.take k).filter f
theorem filtTo_next (f : Int → Bool) (xs : List Int) (k : Nat) (h : k < xs.length) : filtTo f xs (k + 1) = filtTo f xs k ++ if f (xs.getD k 0) = true then [xs.getD k 0] else [] := by
  unfold filtTo
  rw [List.take_add_one, List.filter_append]
  congr 1
  simp only [List.getElem?_eq_getElem h, Option.toList_some, List.getD, Option.getD_some]
  by_cases e : f xs[k] = true
  · simp [e]
  · simp [e]
theorem filtTo_all (f : Int → Bool) (xs : List Int) : filtTo f xs xs.length = xs.filter f := by unfold filtTo; rw [List.take_length]
def nmF (l : List Nd) (nm : List UInt8) (j : Int) : Bool := (atN l j).name == nm && nm != []
theorem namedB_eq (l : List Nd) (i : Int) (nm : List UInt8) : namedB l i nm = (kidsB l i).filter (nmF l nm) := by
  unfold namedB nmF
  by_cases h : nm = []
  · subst h; simp
  · rw [if_neg h]
    congr 1
    funext j
    rw [show (nm != []) = true by rw [bne_iff_ne]; exact h, Bool.and_true]
/-- What the loop of Named keeps. -/
structure NamAt (f : Int → Bool) (xs : List Int) (w1 : World) (k : Nat) (u : Value) (wr : World) : Prop where
  own : Ints wr w1.heap.size u (filtTo f xs k)
  below : Below w1.heap.size w1 wr

set_option maxHeartbeats 2000000 in
theorem named12_any (P : List (Nd × Value)) (v : Value) (i : Int) (nm : List UInt8) (w : World) (h : NdSl w v P) (hn : P.length ≤ 1000000) :
    Calls Tryz.prog 20 #[v, .int .i64 i, .string ⟨nm.toArray⟩] w (IntsPost (namedB (nodes P) i nm) w) := by
  by_cases h0 : nm = []
  · have hk : namedB (nodes P) i nm = [] := by unfold namedB; rw [if_pos h0]
    have he : nm.isEmpty = true := by subst h0; rfl
    obtain ⟨a, c, rfl⟩ := h.form
    subst h0
    clear h
    replace hk := Lib.hid hk
    go_enter Tryz.func20, Tryz.ntmps20
    go_wp2_with fail
    go_ret
    exact IntsPost.nil hk.out (Below.refl _ _)
  have he : nm.isEmpty = false := by cases nm <;> simp_all
  have hk := namedB_eq (nodes P) i nm
  have hkid := kids12_any P v i w h hn
  have hbd : ∀ j ∈ kidsB (nodes P) i, placeB (nodes P) j = true := fun j hj => (kidsB_bd hj).1
  have hlen := kidsB_len (nodes P) i
  have hnl : (nodes P).length = P.length := by unfold nodes; simp
  rw [hnl] at hlen
  have hnmf : ∀ j, nmF (nodes P) nm j = ((atN (nodes P) j).name == nm) := fun j => by unfold nmF; rw [show (nm != []) = true by rw [bne_iff_ne]; exact h0, Bool.and_true]
  generalize kidsB (nodes P) i = xs at hk hkid hbd hlen
  generalize hf : nmF (nodes P) nm = f at hk hnmf
  clear hf
  obtain ⟨va, vc, hva⟩ := h.form
  subst hva
  replace hk := Lib.hid hk
  replace hkid := Lib.hid hkid
  replace hbd := Lib.hid hbd
  replace hnmf := Lib.hid hnmf
  replace h := Lib.hid h
  replace h0 := Lib.hid h0
  replace hnl := Lib.hid hnl
  go_enter Tryz.func20, Tryz.ntmps20
  go_wp2_with fail
  refine hkid.out.mono ?_; rintro e w1 ⟨u, rfl, hu, hb1⟩
  obtain ⟨ua, uc, rfl⟩ := own_form hu
  have hrd := hu.rd
  have hnd := h.out.next hb1
  clear hkid hu
  replace hrd := Lib.hid hrd
  replace hnd := Lib.hid hnd
  replace hb1 := Lib.hid hb1
  go_wp2_with fail
  go_loopw [7, 16] (fun u ii wr => ∃ (k m : Nat) (a' : Option Addr) (c' : Nat), ii = .int .i64 k ∧ u = .slice a' m c' ∧ k ≤ xs.length ∧ m ≤ k ∧ Hid (m = (filtTo f xs k).length) ∧ Hid (NamAt f xs w1 k u wr)) (fun _ ii _ => xs.length - (intOf ii).toNat)
  case atStart => exact ⟨0, 0, none, 0, rfl, rfl, Nat.zero_le _, Nat.le_refl _, rfl, ⟨World.ownsRow_nil _ _ _ _, Below.refl _ _⟩⟩
  case round =>
    obtain ⟨k, m, a', c', rfl, rfl, hkl, hmk, hm, hc⟩ := hrel
    by_cases hlt : k < xs.length
    · have hxne : xs ≠ [] := by intro e; rw [e] at hlt; simp at hlt
      obtain ⟨ub, uo, uc', ue, uh⟩ := (hrd.out.next hc.out.below).sl.some hxne
      injection ue with ue ue2 ue3
      clear ue2
      subst ue ue3
      have g1 := uh k hlt
      have hmem : xs.getD k 0 ∈ xs := by rw [show xs.getD k 0 = xs[k] by simp [List.getD, hlt]]; exact List.getElem_mem hlt
      have hpj := hbd.out _ hmem
      have hnx := filtTo_next f xs k hlt
      rw [hnmf.out] at hnx
      clear uh hmem hxne
      generalize xs.getD k 0 = j at g1 hpj hnx
      have hpj2 := place_iff.1 hpj
      rw [hnl.out] at hpj2
      obtain ⟨q, rfl⟩ : ∃ q : Nat, j = q := ⟨j.toNat, by omega⟩
      have hq : q < P.length := by omega
      obtain ⟨b, off, cap, hcap, hbl, hve, hcl⟩ := (hnd.out.next hc.out.below).some (by omega)
      injection hve with hve1 hve2 hve3
      clear hve2
      subst hve1 hve3
      obtain ⟨d0, d1, d2, d3⟩ := hcl q hq
      rw [nodes_at hq] at d0
      clear d1 d2 d3 hcl hpj hpj2
      generalize (atN (nodes P) (q : Int)).name = xn at d0 hnx
      unfold strV at d0
      have hsz := hc.out.below.size
      cases hc0 : (xn == nm)
      · rw [hc0, if_neg (by decide), List.append_nil] at hnx
        replace hnx := Lib.hid hnx
        go_wp2_with fail
        exact ⟨⟨k + 1, m, a', c', by go_num, rfl, by omega, by omega, Lib.hid (by rw [hnx.out]; exact hm.out), ⟨by rw [hnx.out]; exact hc.out.own, hc.out.below⟩⟩, by simp [intOf]; omega⟩
      · rw [hc0, if_pos rfl] at hnx
        replace hnx := Lib.hid hnx
        go_wp2_with (at_builtin; go_must (refine wpList_append1 rfl _ _ 48 3 rfl Tryz.underlying48 (.int .i64 0) 8 info_int rfl (by decide) w1.heap.size _ m _ (.int .i64 q) (by have := hc.out.own; unfold Ints at this; rw [← hm.out] at this; exact this) rfl (by first | rfl | simp [Act.eval]) rfl (by omega) (by omega) ?_))
        intro v2 w2 ho2 hb2 _
        have ho3 := Lib.hid (show Ints w2 w1.heap.size v2 (filtTo f xs (k + 1)) by rw [hnx.out]; rw [hm.out] at ho2; exact ints_one ho2)
        have hl := Lib.hid (show m + 1 = (filtTo f xs (k + 1)).length by rw [hnx.out, List.length_append, ← hm.out]; rfl)
        obtain ⟨a2, c2, rfl⟩ := own_form ho2
        have hb12 := Lib.hid (hc.out.below.trans hb2)
        clear ho2
        go_wp2_with fail
        exact ⟨⟨k + 1, m + 1, a2, c2, by go_num, rfl, by omega, by omega, hl, ⟨ho3.out, hb12.out⟩⟩, by simp [intOf]; omega⟩
    · have hke : ¬ ((k : Int) < xs.length) := by omega
      have hkk := Lib.hid (show k = xs.length by omega)
      go_wp2_with fail
      go_ret
      have ho := hc.out.own
      rw [hkk.out, filtTo_all] at ho
      exact IntsPost.mk hk.out (ownsRow_mono ho hb1.out.size) (hb1.out.andThen hc.out.below)

set_option maxHeartbeats 2000000 in
theorem refnamed12_any (P : List (Nd × Value)) (v : Value) (i : Int) (nm : List UInt8) (w : World) (h : NdSl w v P) (hn : P.length ≤ 1000000) :
    Calls Tryz.prog 25 #[v, .int .i64 i, .string ⟨nm.toArray⟩] w (IntsPost (namedB (nodes P) i nm) w) := by
  have hk := namedB_eq (nodes P) i nm
  have hkid := refkids12_any P v i w h hn
  have hbd : ∀ j ∈ kidsB (nodes P) i, placeB (nodes P) j = true := fun j hj => (kidsB_bd hj).1
  have hlen := kidsB_len (nodes P) i
  have hnl : (nodes P).length = P.length := by unfold nodes; simp
  rw [hnl] at hlen
  have hnmf : ∀ j, nmF (nodes P) nm j = ((atN (nodes P) j).name == nm && nm != []) := fun j => rfl
  generalize kidsB (nodes P) i = xs at hk hkid hbd hlen
  generalize hf : nmF (nodes P) nm = f at hk hnmf
  clear hf
  obtain ⟨va, vc, hva⟩ := h.form
  subst hva
  replace hk := Lib.hid hk
  replace hkid := Lib.hid hkid
  replace hbd := Lib.hid hbd
  replace hnmf := Lib.hid hnmf
  replace h := Lib.hid h
  replace hnl := Lib.hid hnl
  go_enter Tryz.func25, Tryz.ntmps25
  go_wp2_with fail
  refine hkid.out.mono ?_; rintro e w1 ⟨u, rfl, hu, hb1⟩
  obtain ⟨ua, uc, rfl⟩ := own_form hu
  have hrd := hu.rd
  have hnd := h.out.next hb1
  clear hkid hu
  replace hrd := Lib.hid hrd
  replace hnd := Lib.hid hnd
  replace hb1 := Lib.hid hb1
  go_wp2_with fail
  go_loopw [7, 9] (fun u ii wr => ∃ (k m : Nat) (a' : Option Addr) (c' : Nat), ii = .int .i64 k ∧ u = .slice a' m c' ∧ k ≤ xs.length ∧ m ≤ k ∧ Hid (m = (filtTo f xs k).length) ∧ Hid (NamAt f xs w1 k u wr)) (fun _ ii _ => xs.length - (intOf ii).toNat)
  case atStart => exact ⟨0, 0, none, 0, rfl, rfl, Nat.zero_le _, Nat.le_refl _, rfl, ⟨World.ownsRow_nil _ _ _ _, Below.refl _ _⟩⟩
  case round =>
    obtain ⟨k, m, a', c', rfl, rfl, hkl, hmk, hm, hc⟩ := hrel
    by_cases hlt : k < xs.length
    · have hxne : xs ≠ [] := by intro e; rw [e] at hlt; simp at hlt
      obtain ⟨ub, uo, uc', ue, uh⟩ := (hrd.out.next hc.out.below).sl.some hxne
      injection ue with ue ue2 ue3
      clear ue2
      subst ue ue3
      have g1 := uh k hlt
      have hmem : xs.getD k 0 ∈ xs := by rw [show xs.getD k 0 = xs[k] by simp [List.getD, hlt]]; exact List.getElem_mem hlt
      have hpj := hbd.out _ hmem
      have hnx := filtTo_next f xs k hlt
      rw [hnmf.out] at hnx
      clear uh hmem hxne
      generalize xs.getD k 0 = j at g1 hpj hnx
      have hpj2 := place_iff.1 hpj
      rw [hnl.out] at hpj2
      obtain ⟨q, rfl⟩ : ∃ q : Nat, j = q := ⟨j.toNat, by omega⟩
      have hq : q < P.length := by omega
      obtain ⟨b, off, cap, hcap, hbl, hve, hcl⟩ := (hnd.out.next hc.out.below).some (by omega)
      injection hve with hve1 hve2 hve3
      clear hve2
      subst hve1 hve3
      obtain ⟨d0, d1, d2, d3⟩ := hcl q hq
      rw [nodes_at hq] at d0
      clear d1 d2 d3 hcl hpj hpj2
      generalize (atN (nodes P) (q : Int)).name = xn at d0 hnx
      unfold strV at d0
      have hsz := hc.out.below.size
      have hlt1 : (k : Int) < xs.length := by omega
      have hex : nm.isEmpty = (nm == []) := by cases nm <;> rfl
      cases hc0 : (xn == nm)
      · rw [hc0, Bool.false_and, if_neg (by decide), List.append_nil] at hnx
        replace hnx := Lib.hid hnx
        clear hex
        go_wp2_with fail
        exact ⟨⟨k + 1, m, a', c', by go_num, rfl, by omega, by omega, Lib.hid (by rw [hnx.out]; exact hm.out), ⟨by rw [hnx.out]; exact hc.out.own, hc.out.below⟩⟩, by simp [intOf]; omega⟩
      · rw [hc0, Bool.true_and] at hnx
        cases hem : (nm != [])
        · rw [hem, if_neg (by decide), List.append_nil] at hnx
          have hem2 : nm.isEmpty = true := by rw [hex]; unfold bne at hem; simpa using hem
          have hem3 : nm = [] := by simpa using hem2
          replace hnx := Lib.hid hnx
          replace hem := Lib.hid hem
          replace hem3 := Lib.hid hem3
          clear hex
          go_wp2_with fail
          exact ⟨⟨k + 1, m, a', c', by go_num, rfl, by omega, by omega, Lib.hid (by rw [hnx.out]; exact hm.out), ⟨by rw [hnx.out]; exact hc.out.own, hc.out.below⟩⟩, by simp [intOf]; omega⟩
        · rw [hem, if_pos rfl] at hnx
          have hem2 : nm.isEmpty = false := by rw [hex]; unfold bne at hem; simpa using hem
          replace hnx := Lib.hid hnx
          replace hem := Lib.hid hem
          clear hex
          go_wp2_with (at_builtin; go_must (refine wpList_append1 rfl _ _ 48 3 rfl Tryz.underlying48 (.int .i64 0) 8 info_int rfl (by decide) w1.heap.size _ m _ (.int .i64 q) (by have := hc.out.own; unfold Ints at this; rw [← hm.out] at this; exact this) rfl (by first | rfl | simp [Act.eval]) rfl (by omega) (by omega) ?_))
          intro v2 w2 ho2 hb2 _
          have ho3 := Lib.hid (show Ints w2 w1.heap.size v2 (filtTo f xs (k + 1)) by rw [hnx.out]; rw [hm.out] at ho2; exact ints_one ho2)
          have hl := Lib.hid (show m + 1 = (filtTo f xs (k + 1)).length by rw [hnx.out, List.length_append, ← hm.out]; rfl)
          obtain ⟨a2, c2, rfl⟩ := own_form ho2
          have hb12 := Lib.hid (hc.out.below.trans hb2)
          clear ho2
          go_wp2_with fail
          exact ⟨⟨k + 1, m + 1, a2, c2, by go_num, rfl, by omega, by omega, hl, ⟨ho3.out, hb12.out⟩⟩, by simp [intOf]; omega⟩
    · have hke : ¬ ((k : Int) < xs.length) := by omega
      have hkk := Lib.hid (show k = xs.length by omega)
      go_wp2_with fail
      go_ret
      have ho := hc.out.own
      rw [hkk.out, filtTo_all] at ho
      exact IntsPost.mk hk.out (ownsRow_mono ho hb1.out.size) (hb1.out.andThen hc.out.below)

end Go.Proofs.YtfmlgfeldlnlgaaGreatDoor

/- Layer 12, plain: how what stands within a node is found, each node gone through once. -/
namespace Go.Proofs.YtfmlgfeldlnlgaaGreatDoor

theorem getD_set (K : List Bool) (a j : Nat) (v : Bool) : (K.set a v).getD j false = if a = j ∧ a < K.length then v else K.getD j false := by
  by_cases e : a = j
  · subst e
    by_cases h : a < K.length
    · simp [List.getD, h]
    · simp [List.getD, h]
  · simp [List.getD, e]
/-- What is known, and of what it is known that it stands within i: behind k of the places. -/
structure WI (l : List Nd) (i : Int) (K I : List Bool) (k : Nat) : Prop where
  lk : K.length = l.length
  li : I.length = l.length
  ki : K.getD i.toNat false = true
  sub : ∀ j, I.getD j false = true → K.getD j false = true
  ok : ∀ j, j < l.length → K.getD j false = true → (I.getD j false = true ↔ Within l i (j : Int))
  done : ∀ j, j < k → K.getD j false = true
theorem WI.start {l : List Nd} {i : Int} (h : placeB l i = true) : WI l i ((List.replicate l.length false).set i.toNat true) ((List.replicate l.length false).set i.toNat true) 0 := by
  have hp := place_iff.1 h
  have hi : (i.toNat : Int) = i := by omega
  refine ⟨by simp, by simp, ?_, fun _ h => h, fun j hj h1 => ?_, fun j hj => by omega⟩
  · rw [getD_set, if_pos ⟨rfl, by simp; omega⟩]
  · refine ⟨fun _ => ?_, fun _ => h1⟩
    rw [getD_set] at h1
    split at h1
    · rename_i e
      rw [← e.1, hi]
      exact .here h
    · simp [List.getD, hj] at h1
/-- The way up from f. -/
def itN (l : List Nd) (f : Int) : Nat → Int
  | 0 => f
  | m + 1 => upN l (itN l f m)
/-- The way up from f, m nodes long, all of them new. -/
structure W2 (l : List Nd) (f : Int) (K0 K : List Bool) (m : Nat) : Prop where
  len : K.length = l.length
  fresh : ∀ a, a < m → placeB l (itN l f a) = true ∧ K0.getD (itN l f a).toNat false = false
  dist : ∀ a b, a < b → b < m → itN l f a ≠ itN l f b
  old : ∀ j, K0.getD j false = true → K.getD j false = true
  new : ∀ j, K.getD j false = true → K0.getD j false = true ∨ ∃ a, a < m ∧ itN l f a = (j : Int)
  mark : ∀ a, a < m → K.getD (itN l f a).toNat false = true
theorem W2.start {l : List Nd} {f : Int} {K : List Bool} (h : K.length = l.length) : W2 l f K K 0 :=
  ⟨h, fun a h => by omega, fun a b h1 h2 => by omega, fun _ h => h, fun _ h => Or.inl h, fun a h => by omega⟩
theorem W2.step {l : List Nd} {f : Int} {K0 K : List Bool} {m : Nat} (h : W2 l f K0 K m) (hp : placeB l (itN l f m) = true) (hk : K.getD (itN l f m).toNat false = false) : W2 l f K0 (K.set (itN l f m).toNat true) (m + 1) := by
  have hp' := place_iff.1 hp
  refine ⟨by simp [h.len], fun a ha => ?_, fun a b hab hb => ?_, fun j hj => ?_, fun j hj => ?_, fun a ha => ?_⟩
  · by_cases e : a = m
    · subst e
      refine ⟨hp, ?_⟩
      cases hq : K0.getD (itN l f a).toNat false
      · rfl
      · rw [h.old _ hq] at hk; cases hk
    · exact h.fresh a (by omega)
  · by_cases e : b = m
    · subst e
      intro e2
      have := h.mark a hab
      rw [e2, hk] at this
      cases this
    · exact h.dist a b hab (by omega)
  · rw [getD_set]
    split
    · rfl
    · exact h.old j hj
  · rw [getD_set] at hj
    split at hj
    · rename_i e
      exact Or.inr ⟨m, by omega, by omega⟩
    · rcases h.new j hj with e | ⟨a, ha, e⟩
      · exact Or.inl e
      · exact Or.inr ⟨a, by omega, e⟩
  · rw [getD_set]
    split
    · rfl
    · rename_i e
      by_cases e2 : a = m
      · subst e2
        exact absurd ⟨rfl, by rw [h.len]; omega⟩ e
      · exact h.mark a (by omega)
theorem W2.first {l : List Nd} {k : Nat} {K0 K : List Bool} {m : Nat} (h : W2 l (k : Int) K0 K m) (hk : k < l.length) (hend : placeB l (itN l k m) = true → K.getD (itN l k m).toNat false = true) : K.getD k false = true := by
  cases m with
  | zero => exact hend (place_nat hk)
  | succ m => exact h.mark 0 (by omega)
/-- The way ended outside, or at a node that doesn't stand within i: none of it does. -/
theorem W2.no {l : List Nd} {i : Int} {K0 K I : List Bool} {k m : Nat} (hW : WI l i K0 I k) (h : W2 l (k : Int) K0 K m) (hk : k < l.length) (hend : placeB l (itN l k m) = true → K.getD (itN l k m).toNat false = true)
    (hno : placeB l (itN l k m) = true → I.getD (itN l k m).toNat false = false) : WI l i K I (k + 1) := by
  have key : ∀ x, Within l i x → (∃ a, a < m ∧ itN l k a = x) → False := by
    intro x hx
    induction hx with
    | here _ =>
      rintro ⟨a, ha, e⟩
      have := (h.fresh a ha).2
      rw [e, hW.ki] at this
      cases this
    | up hp hw ih =>
      rintro ⟨a, ha, rfl⟩
      by_cases e : a + 1 < m
      · exact ih ⟨a + 1, e, rfl⟩
      · obtain rfl : m = a + 1 := by omega
        have hpl := hw.place
        have h1 := hend hpl
        have h2 := hno hpl
        have hpl' := place_iff.1 hpl
        rcases h.new _ h1 with h3 | ⟨b, hb, e2⟩
        · have hc : ((itN l k (a + 1)).toNat : Int) = itN l k (a + 1) := Int.toNat_of_nonneg hpl'.1
          have := (hW.ok (itN l k (a + 1)).toNat (by have : itN l k (a + 1) < l.length := hpl'.2; omega) h3).2 (by rw [hc]; exact hw)
          rw [this] at h2
          cases h2
        · exact ih ⟨b, hb, by rw [e2]; exact Int.toNat_of_nonneg hpl'.1⟩
  refine ⟨h.len, hW.li, h.old _ hW.ki, fun j hj => h.old j (hW.sub j hj), fun j hj h1 => ?_, fun j hj => ?_⟩
  · rcases h.new j h1 with h2 | ⟨a, ha, e⟩
    · exact hW.ok j hj h2
    · refine ⟨fun h3 => ?_, fun h3 => (key _ h3 ⟨a, ha, e⟩).elim⟩
      have := (h.fresh a ha).2
      rw [e, Int.toNat_natCast, hW.sub j h3] at this
      cases this
  · by_cases e : j = k
    · subst e; exact h.first hk hend
    · exact h.old j (hW.done j (by omega))
/-- What of the way is told to stand within i: its first c nodes. -/
structure W3 (l : List Nd) (f : Int) (I0 I : List Bool) (m c : Nat) : Prop where
  len : I.length = l.length
  le : c ≤ m
  old : ∀ j, I0.getD j false = true → I.getD j false = true
  new : ∀ j, I.getD j false = true → I0.getD j false = true ∨ ∃ a, a < c ∧ itN l f a = (j : Int)
  mark : ∀ a, a < c → I.getD (itN l f a).toNat false = true
theorem W3.start {l : List Nd} {f : Int} {I : List Bool} {m : Nat} (h : I.length = l.length) : W3 l f I I m 0 :=
  ⟨h, Nat.zero_le _, fun _ h => h, fun _ h => Or.inl h, fun a h => by omega⟩
section
variable {l : List Nd} {i : Int} {K0 K I I' : List Bool} {k m c : Nat}
theorem W3.place (_hW : WI l i K0 I k) (h2 : W2 l (k : Int) K0 K m) (h : W3 l (k : Int) I I' m c) (hp : placeB l (itN l k m) = true) : placeB l (itN l k c) = true := by
  by_cases e : c = m
  · rw [e]; exact hp
  · exact (h2.fresh c (by have := h.le; omega)).1
theorem W3.lt (h : W3 l (k : Int) I I' m c) (hin : I.getD (itN l k m).toNat false = true) (hc : I'.getD (itN l k c).toNat false = false) : c < m := by
  by_cases e : c = m
  · subst e
    rw [h.old _ hin] at hc
    cases hc
  · have := h.le; omega
theorem W3.step (h2 : W2 l (k : Int) K0 K m) (h : W3 l (k : Int) I I' m c) (hc : c < m) : W3 l (k : Int) I (I'.set (itN l k c).toNat true) m (c + 1) := by
  have hp := place_iff.1 (h2.fresh c hc).1
  refine ⟨by simp [h.len], by omega, fun j hj => ?_, fun j hj => ?_, fun a ha => ?_⟩
  · rw [getD_set]
    split
    · rfl
    · exact h.old j hj
  · rw [getD_set] at hj
    split at hj
    · exact Or.inr ⟨c, by omega, by omega⟩
    · rcases h.new j hj with e | ⟨a, ha, e⟩
      · exact Or.inl e
      · exact Or.inr ⟨a, by omega, e⟩
  · rw [getD_set]
    split
    · rfl
    · rename_i e
      by_cases e2 : a = c
      · subst e2
        exact absurd ⟨rfl, by rw [h.len]; omega⟩ e
      · exact h.mark a (by omega)
/-- It stops behind the whole way. -/
theorem W3.whole (hW : WI l i K0 I k) (h2 : W2 l (k : Int) K0 K m) (h : W3 l (k : Int) I I' m c) (hc : I'.getD (itN l k c).toNat false = true) : c = m := by
  by_cases e : c = m
  · exact e
  · exfalso
    have hcm : c < m := by have := h.le; omega
    have hf := h2.fresh c hcm
    have hp := place_iff.1 hf.1
    rcases h.new _ hc with h3 | ⟨a, ha, e2⟩
    · rw [hW.sub _ h3] at hf
      cases hf.2
    · refine h2.dist a c ha hcm ?_
      rw [e2]
      exact Int.toNat_of_nonneg hp.1
theorem W3.yes (hW : WI l i K0 I k) (h2 : W2 l (k : Int) K0 K m) (h : W3 l (k : Int) I I' m m) (hk : k < l.length) (hp : placeB l (itN l k m) = true) (hkn : K.getD (itN l k m).toNat false = true) (hin : I.getD (itN l k m).toNat false = true) : WI l i K I' (k + 1) := by
  have hp' := place_iff.1 hp
  have hm : Within l i (itN l k m) := by
    have := (hW.ok (itN l k m).toNat (by omega) (hW.sub _ hin)).1 hin
    rwa [Int.toNat_of_nonneg hp'.1] at this
  have hall : ∀ d a, a + d = m → Within l i (itN l k a) := by
    intro d
    induction d with
    | zero => intro a e; obtain rfl : a = m := by omega
              exact hm
    | succ d ih => intro a e; exact .up (h2.fresh a (by omega)).1 (ih (a + 1) (by omega))
  refine ⟨h2.len, h.len, h2.old _ hW.ki, fun j hj => ?_, fun j hj h1 => ?_, fun j hj => ?_⟩
  · rcases h.new j hj with e | ⟨a, ha, e⟩
    · exact h2.old j (hW.sub j e)
    · have := h2.mark a ha
      rw [e, Int.toNat_natCast] at this
      exact this
  · rcases h2.new j h1 with h3 | ⟨a, ha, e⟩
    · refine ⟨fun h4 => ?_, fun h4 => h.old j ((hW.ok j hj h3).2 h4)⟩
      rcases h.new j h4 with h5 | ⟨a, ha, e⟩
      · exact (hW.ok j hj h3).1 h5
      · rw [← e]; exact hall (m - a) a (by omega)
    · refine ⟨fun _ => ?_, fun _ => ?_⟩
      · rw [← e]; exact hall (m - a) a (by omega)
      · have := h.mark a ha
        rw [e, Int.toNat_natCast] at this
        exact this
  · by_cases e : j = k
    · subst e; exact h2.first hk fun _ => hkn
    · exact h2.old j (hW.done j (by omega))
end
/-- In the end: just what stands within i. -/
theorem WI.ends {l : List Nd} {i : Int} {K I : List Bool} (h : WI l i K I l.length) : I = (List.range l.length).map fun j : Nat => winB l i (j : Int) := by
  refine List.ext_getElem (by simp [h.li]) fun j h1 h2 => ?_
  have hj : j < l.length := by rw [← h.li]; exact h1
  have := h.ok j hj (h.done j hj)
  rw [List.getElem_map, List.getElem_range]
  rw [show I.getD j false = I[j] by simp [List.getD, h1]] at this
  rw [Bool.eq_iff_iff, winB_iff]
  exact this
end Go.Proofs.YtfmlgfeldlnlgaaGreatDoor
