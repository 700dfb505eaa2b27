/- The walk of layer 8's Sharing. -/
import Derived.Test.YtgldlfgidmgmfaaD08f
import Derived.Test.YtgldlfgidmgmfaaAps
namespace Go.Proofs.Ytgldlfgidmgmfaa
open Go.RowKit Go.Maps

theorem TabHas.uniq {tb : List Bk} {R : Int → Int → Prop} {m : Nat} (h : TabHas tb R m) {k k' : Bk} (hk : k ∈ tb) (hk' : k' ∈ tb) (e : k.band = k'.band) : k = k' := by
  obtain ⟨i, hi, rfl⟩ := List.mem_iff_getElem.1 hk
  obtain ⟨j, hj, rfl⟩ := List.mem_iff_getElem.1 hk'
  rcases Nat.lt_trichotomy i j with h' | h' | h'
  · have := rises_get h.rises h' hj; omega
  · subst h'; rfl
  · have := rises_get h.rises h' hi; omega
/-- Bands in common, below k. -/
def ShareTo (L : List (Int × Int)) (s : Int) (d k : Nat) (x : Int) : Prop := ∃ j, j < k ∧ ∃ t, (x, t) ∈ L ∧ bdN t.toNat d j = bdN s.toNat d j
def OfRes (L : List (Int × Int)) (d k m : Nat) (bk : Int) (w : World) (e : Ending) (w' : World) : Prop :=
  ∃ u ys, e = .returned u ∧ Hid (IntSl .i64 w' u ys) ∧ Hid (∀ x, x ∈ ys ↔ ∃ t, (x, t) ∈ L ∧ ((bdN t.toNat d k : Nat) : Int) = bk) ∧ ys.length ≤ m ∧ Hid (Below w.heap.size w w')
theorem of_res {w : World} {v : Value} {tb : List Bk} {L : List (Int × Int)} {d k m : Nat} (h : TabAt w v tb) (hh : GOf d L m k tb) (bk : Int) (hm : m < 50000) :
    Calls Try.prog 35 #[v, .int .u64 bk] w (OfRes L d k m bk w) := by
  have hlen := hh.len
  refine (of_any v tb bk w h.rows hh.rises (by omega)).mono ?_
  rintro e w' ⟨u, rfl, hb, ⟨q, hq, rfl, rfl⟩ | ⟨rfl, hno⟩⟩
  · refine ⟨_, q.names, rfl, ?_, fun x => ?_, (hh.names q hq).2.2, hb⟩
    · exact intSl_own (ownsRow_below (h.names q hq) hb)
    · rw [hh.mem]
      exact ⟨fun hx => ⟨q, hq, rfl, hx⟩, fun ⟨q', hq', e, hx⟩ => by rw [hh.uniq hq' hq e] at hx; exact hx⟩
  · refine ⟨_, [], rfl, Or.inl ⟨rfl, none, 0, rfl⟩, fun x => ?_, Nat.zero_le _, hb⟩
    rw [hh.mem]
    exact ⟨fun hx => by simp at hx, fun ⟨q', hq', e, hx⟩ => absurd e (hno q' hq')⟩
def shareL (L : List (Int × Int)) (s : Int) (d : Nat) : List Int := (L.filter fun p => shareB p.2 s d).map Prod.fst
theorem shareB_iff {a b : Int} {d : Nat} (hd : d < 16) : shareB a b d = true ↔ ∃ j, j < d + 1 ∧ bdN a.toNat d j = bdN b.toNat d j := by
  unfold shareB
  rw [may_nat hd, Bool.true_and, Int.toNat_natCast]
  constructor
  · intro h
    refine Classical.byContradiction fun hn => ?_
    have : ∀ j, j ≤ d + 1 → shTo a.toNat b.toNat d j = false := by
      intro j
      induction j with
      | zero => intro _; rfl
      | succ j ih => intro hj; exact shTo_no (ih (by omega)) fun e => hn ⟨j, by omega, e⟩
    rw [this (d + 1) (Nat.le_refl _)] at h; cases h
  · rintro ⟨j, hj, e⟩
    exact shTo_yes hj e
theorem shareL_is {L : List (Int × Int)} (hL : Nums L) {s : Int} {d : Nat} (hd : d < 16) {zs : List Int} (hz : ∀ x, x ∈ zs ↔ ShareTo L s d (d + 1) x) : sortc zs = shareL L s d := by
  have hsub : (shareL L s d).Sublist (L.map Prod.fst) := List.filter_sublist.map _
  refine rises_eq (sortc_rises zs) (hL.rises.sublist hsub) fun x => ?_
  rw [mem_sortc, hz]
  unfold shareL ShareTo
  rw [List.mem_map]
  constructor
  · rintro ⟨j, hj, t, ht, e⟩
    exact ⟨(x, t), List.mem_filter.2 ⟨ht, (shareB_iff hd).2 ⟨j, hj, e⟩⟩, rfl⟩
  · rintro ⟨⟨y, t⟩, hp, rfl⟩
    obtain ⟨h1, h2⟩ := List.mem_filter.1 hp
    obtain ⟨j, hj, e⟩ := (shareB_iff hd).1 h2
    exact ⟨j, hj, t, h1, e⟩
theorem ownsRow_base {w : World} {B E z n : Nat} {v : Value} {xs : List Value} (h : w.ownsRow 0 E z v n xs) (hb : ∀ g, v.ownBlock = some g → B ≤ g) : w.ownsRow B E z v n xs := by
  rcases h with ⟨h1, h | ⟨g, cap, cur, rfl, _, h3⟩⟩
  · exact ⟨h1, Or.inl h⟩
  · exact ⟨h1, Or.inr ⟨g, cap, cur, rfl, hb g rfl, h3⟩⟩
/-- What Sharing and Near come to. -/
def ListPost (zs : List Int) (w : World) (e : Ending) (w' : World) : Prop := ∃ v, e = .returned v ∧ Ints w' w.heap.size v zs ∧ Below w.heap.size w w'
theorem sharing_nil (s : Int) (w : World) : Calls Try.prog 22 #[.pointer none, .int .u64 s] w fun e w' => e = .returned (.slice none 0 0) ∧ w = w' := by
  go_enter Try.func22, Try.ntmps22
  go_wp2_with fail
  go_ret
  exact ⟨rfl, rfl⟩
/-- Sharing within its loop. -/
def ShareMid (w : World) (d : Nat) (L : List (Int × Int)) (s : Int) (vb : Value) (k : Nat) (v : Value) (zs : List Int) (wr : World) : Prop :=
  Ints wr w.heap.size v zs ∧ (∀ x, x ∈ zs ↔ ShareTo L s d k x) ∧ U64s wr 0 vb (bandsB s d) ∧ Below w.heap.size w wr
set_option maxHeartbeats 1000000 in
set_option maxRecDepth 100000 in
theorem sharing_any (X d : Nat) (L : List (Int × Int)) (m : Nat) (fp : Nat → Prop) (s : Int) (w : World) (h : IdxAt w X d L m fp) (hs : (Lit.int .u64 s).wf = true) (hm : m < 50000) :
    Calls Try.prog 22 #[.pointer (some ⟨X, 0, none⟩), .int .u64 s] w (ListPost (shareL L s d) w) := by
  have hbd := bd_u64 hs
  have hbn := Lib.hid (fun W => bands_any s d W hbd.1 hbd.2)
  clear hbd
  have c0 : w.cell? ⟨X, 0, none⟩ = some (.int .i64 d) := by
    obtain ⟨M, T, n, D, V, TB, h1, _⟩ := h
    rw [h1.cells.cell]; rfl
  have h16 : d < 16 := by obtain ⟨_, _, _, _, _, _, _, _, _, h4, _⟩ := h; exact h4
  replace h := Lib.hid h
  go_enter Try.func22, Try.ntmps22
  go_wp2_with fail
  refine (hbn.out _).mono ?_; rintro e w1 ⟨vb, rfl, hu, hb⟩
  clear hbn c0
  have hl := bandsB_len s h16
  obtain ⟨gb, cb, rfl, _, _⟩ := World.ownsRow.form hu (by rw [hl]; omega)
  have hst : Hid (ShareMid w d L s (.slice (some ⟨gb, 0, none⟩) (d + 1) cb) 0 (.slice none 0 0) [] w1) := by
    refine ⟨World.ownsRow_nil _ _ _ _, fun x => ⟨fun hx => by simp at hx, fun ⟨j, hj, _⟩ => by omega⟩, by have hu2 := World.ownsRow.mono hu (Nat.zero_le _); unfold U64s; rw [hl] at hu2 ⊢; exact hu2, hb⟩
  rw [hl]
  replace hl := Lib.hid hl
  clear hu hb
  go_wp2_with fail
  go_loopw [5, 17] (fun v i wr => ∃ (k : Nat) (zs : List Int), i = .int .i64 k ∧ k ≤ d + 1 ∧ zs.length ≤ k * 50000 ∧ Hid (ShareMid w d L s (.slice (some ⟨gb, 0, none⟩) (d + 1) cb) k v zs wr)) (fun _ i _ => d + 1 - (intOf i).toNat)
  case atStart => exact ⟨0, [], rfl, Nat.zero_le _, Nat.zero_le _, hst.out⟩
  case round =>
    clear hst
    obtain ⟨k, zs, rfl, hk, hzl, hr⟩ := hrel
    obtain ⟨r1, r2, r4, r5⟩ := hr.out
    have r3 := h.out.below r5
    by_cases hlt : k ≤ d
    · obtain ⟨M, T, n, D, V, TB, h1, h2, h3, h4, h5, h6⟩ := r3
      have cX : wr.cell? ⟨X, 2, none⟩ = some (.slice (some ⟨T, 0, none⟩) (d + 1) (d + 1)) := by rw [h1.cells.cell]; rfl
      have cT := (h1.get hlt).1
      obtain ⟨bk, hbk⟩ : ∃ bk, ((bdN s.toNat d k : Nat) : Int) = bk := ⟨_, rfl⟩
      have hof := Lib.hid (of_res (h1.tab k hlt) (h1.has k hlt) bk hm)
      clear h1 h2 h3 h4 h5 h6
      generalize V k = vk at cT hof
      have hne : bandsB s d ≠ [] := by intro e; have := hl.out; rw [e] at this; simp at this
      obtain ⟨b1, o1, c1', e1, g1⟩ := (U64s.sl r4).some hne
      rw [hl.out] at e1 g1
      injection e1 with e1 e1a e1b
      clear e1a
      subst e1b
      replace g1 := g1 k (by omega)
      rw [bandsB_get s h16 hlt, hbk] at g1
      injection e1 with e1
      injection e1 with e1 e1o
      subst e1 e1o
      clear hne r2 r4 r5
      rw [Nat.zero_add] at g1
      replace r1 := Lib.hid r1
      replace hbk := Lib.hid hbk
      have k0 : (0 : Int) ≤ k := by omega
      have k1 : (k : Int) < (d : Int) + 1 := by omega
      have hB : w.heap.size ≤ wr.heap.size := hr.out.2.2.2.size
      go_wp2_with (first
        | (go_at_call 35; refine hof.out.mono ?_; rintro e w2 ⟨u, ys, rfl, hsl, hmem, hyl, hbw⟩; have hB2 := Nat.le_trans hB hbw.out.size; have hown2 := Lib.hid (ownsRow_below r1.out hbw.out))
        | (at_builtin; refine wpList_append_slg rfl _ _ 43 3 rfl Try.underlying43 (.int .i64 0) 8 info_int rfl (by decide) w.heap.size _ zs.length (zs.map (Value.int .i64)) hown2.out .i64 _ ys hsl.out rfl rfl (by omega) hB2 ?_; intro v' w3 ho3 hb3 hg3; replace hg3 := Lib.hid hg3; replace ho3 := Lib.hid ho3; replace hb3 := Lib.hid hb3))
      refine ⟨⟨k + 1, zs ++ ys, by go_num, by omega, by rw [List.length_append]; omega, ?_⟩, by simp [intOf]; omega⟩
      obtain ⟨q1, q2, q3, q4⟩ := hr.out
      refine ⟨?_, fun x => ?_, ?_, q4.trans ((hbw.out.mono hB).trans hb3.out)⟩
      · have := ho3.out
        unfold Ints
        rw [List.length_append, List.map_append]
        exact this
      · rw [List.mem_append, q2, hmem.out]
        constructor
        · rintro (⟨j, hj, t, ht⟩ | ⟨t, ht, e⟩)
          · exact ⟨j, by omega, t, ht⟩
          · exact ⟨k, by omega, t, ht, by have := e.trans hbk.out.symm; omega⟩
        · rintro ⟨j, hj, t, ht, e⟩
          rcases Nat.lt_or_ge j k with h' | h'
          · exact Or.inl ⟨j, h', t, ht, e⟩
          · obtain rfl : j = k := by omega
            exact Or.inr ⟨t, ht, by rw [e]; exact hbk.out⟩
      · have u2 := ownsRow_below q3 hbw.out
        exact ownsRow_turned u2 (Turned.of_grown (S := fun b => _ = some b) hg3.out fun _ e => e) fun g hg hS => own_apart u2 hown2.out (by decide) hg hS
    · obtain rfl : k = d + 1 := by omega
      have hke : ¬ (((d + 1 : Nat) : Int) < (d : Int) + 1) := by omega
      have hz1 : zs.length ≤ 1000000 := by omega
      have hL : Nums L := by obtain ⟨_, _, _, _, _, _, _, _, h3, _⟩ := h.out; exact h3
      have hfin : Hid (sortc zs = shareL L s d) := shareL_is hL h16 r2
      have r10 := World.ownsRow.mono r1 (Nat.zero_le _)
      have hlow : ∀ g, _ = some g → w.heap.size ≤ g := fun g hg => (r1.lt g hg).1
      have hso := Lib.hid (sort_own _ zs wr r10 hz1)
      have hco := (fun (v : Value) (_ : Ints wr w.heap.size v zs) W hW => compact_own v (zs.mergeSort fun x y => decide (x ≤ y)) W hW (by rw [List.length_mergeSort]; exact hz1)) _ r1
      replace hco := Lib.hid hco
      replace hlow := Lib.hid hlow
      replace r5 := Lib.hid r5
      clear r1 r2 r3 r4 r10 hr hL
      go_wp2_with fail
      refine hso.out.mono ?_; rintro e w2 ⟨rfl, ho2, hg2⟩
      have hb2 : Hid (Below w.heap.size w w2) := r5.out.trans ((Turned.of_grown (S := fun b => w.heap.size ≤ b) hg2 hlow.out).below (fun _ _ h => h) r5.out.size)
      replace ho2 := Lib.hid ho2
      clear hg2 hso
      go_wp2_with fail
      refine (hco.out _ (by rw [List.length_mergeSort]; exact ho2.out)).mono ?_; rintro e w3 ⟨v', rfl, ho3, hg3, hv3⟩
      have hb3 : Hid (Below w.heap.size w w3) := hb2.out.trans ((Turned.of_grown (S := fun b => w.heap.size ≤ b) hg3 hlow.out).below (fun _ _ h => h) hb2.out.size)
      have ho3' : Hid (Ints w3 w.heap.size v' (shareL L s d)) := by
        have e : Lib.compact (zs.mergeSort fun x y => decide (x ≤ y)) = shareL L s d := hfin.out
        rw [e] at ho3
        exact ownsRow_base ho3 fun g hg => hlow.out g (hv3.symm.trans hg)
      clear ho3 hg3 hv3 hco
      go_wp2_with fail
      go_ret
      exact ⟨v', rfl, ho3'.out, hb3.out⟩
end Go.Proofs.Ytgldlfgidmgmfaa
