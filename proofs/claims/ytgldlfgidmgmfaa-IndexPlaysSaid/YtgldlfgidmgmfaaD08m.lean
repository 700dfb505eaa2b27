/- Layer 8's law IndexNear. -/
import Derived.Test.YtgldlfgidmgmfaaD08l
namespace Go.Proofs.Ytgldlfgidmgmfaa
open Go.RowKit Go.Maps

theorem same8_any (ys : List Int) (va vb : Value) (w : World) (ha : IntSl .i64 w va ys) (hb : IntSl .i64 w vb ys) (hn : ys.length ≤ 1000000) :
    Calls Try.prog 19 #[va, vb] w fun e w' => e = .returned (.bool true) ∧ Drawn w w' := by
  obtain ⟨a1, c1, rfl⟩ := ha.form
  obtain ⟨a2, c2, rfl⟩ := hb.form
  replace ha := Lib.hid ha
  replace hb := Lib.hid hb
  go_enter Try.func19, Try.ntmps19
  go_wp2_with fail
  go_loopw [5] (fun i wr => ∃ k : Nat, i = .int .i64 k ∧ k ≤ ys.length ∧ Hid (Drawn w wr)) (fun i _ => ys.length - (intOf i).toNat)
  case atStart => exact ⟨0, rfl, Nat.zero_le _, Drawn.refl _⟩
  case round =>
    obtain ⟨k, rfl, hk, hd⟩ := hrel
    by_cases hlt : k < ys.length
    · have hne : ys ≠ [] := by intro e; subst e; simp at hlt
      obtain ⟨b1, o1, c1', e1, h1⟩ := (ha.out.drawn hd.out).some hne
      injection e1 with e1 e1a e1b
      clear e1a
      subst e1 e1b
      obtain ⟨b2, o2, c2', e2, h2⟩ := (hb.out.drawn hd.out).some hne
      injection e2 with e2 e2a e2b
      clear e2a
      subst e2 e2b
      have g1 := h1 k hlt
      have g2 := h2 k hlt
      generalize ys.getD k 0 = y at g1 g2
      clear h1 h2 hne
      have k0 : (0 : Int) ≤ k := by omega
      have k1 : (k : Int) < ys.length := by omega
      go_wp2_with fail
      go_quiet (fail)
      go_wp2_with fail
      exact ⟨⟨k + 1, by go_num, by omega, hd.out.trans ⟨nq, rfl⟩⟩, by simp [intOf]; omega⟩
    · have hke : ¬ ((k : Int) < ys.length) := by omega
      go_wp2_with fail
      go_ret
      exact ⟨rfl, hd.out⟩

/-- The numbers up to the k-th, by their places. -/
def pairs (xs : List Int) (k : Nat) : List (Int × Int) := (List.range k).map fun i : Nat => ((i : Int), xs.getD i 0)
theorem pairs_succ (xs : List Int) (k : Nat) : pairs xs (k + 1) = pairs xs k ++ [((k : Int), xs.getD k 0)] := by unfold pairs; rw [List.range_succ, List.map_append]; rfl
theorem mem_pairs {xs : List Int} {k : Nat} {p : Int × Int} : p ∈ pairs xs k ↔ ∃ i : Nat, i < k ∧ p = ((i : Int), xs.getD i 0) := by
  unfold pairs
  rw [List.mem_map]
  constructor
  · rintro ⟨i, hi, rfl⟩; exact ⟨i, List.mem_range.1 hi, rfl⟩
  · rintro ⟨i, hi, rfl⟩; exact ⟨i, List.mem_range.2 hi, rfl⟩
theorem pairs_len (xs : List Int) (k : Nat) : (pairs xs k).length = k := by unfold pairs; simp
theorem pairs_free {xs : List Int} {k : Nat} : ¬ ∃ t, ((k : Int), t) ∈ pairs xs k := fun ⟨t, ht⟩ => by
  obtain ⟨i, hi, e⟩ := mem_pairs.1 ht
  injection e with e _
  omega
theorem addL_end {L : List (Int × Int)} {id s : Int} (h : ∀ p ∈ L, p.1 < id) : addL L id s = L ++ [(id, s)] := by
  have hp : posL L id = L.length := by
    unfold posL
    rw [List.countP_eq_length.2 fun x hx => ?_, List.length_map]
    obtain ⟨p, hp, rfl⟩ := List.mem_map.1 hx
    simpa using h p hp
  unfold addL
  rw [hp, List.take_length, List.drop_length]
theorem add_pairs (xs : List Int) (k : Nat) : addL (pairs xs k) (k : Int) (xs.getD k 0) = pairs xs (k + 1) := by
  rw [pairs_succ, addL_end]
  intro p hp
  obtain ⟨i, hi, rfl⟩ := mem_pairs.1 hp
  show (i : Int) < k
  omega
theorem near_snoc (L : List (Int × Int)) (k x s : Int) (d : Nat) : nearL (L ++ [(k, x)]) s d = nearL L s d ++ if distB x s ≤ d then [k] else [] := by
  unfold nearL
  rw [List.filter_append, List.map_append]
  by_cases h : distB x s ≤ d
  · rw [if_pos h, List.filter_cons_of_pos (by simpa using h)]; rfl
  · rw [if_neg h, List.filter_cons_of_neg (by simpa using h)]; rfl
theorem near_len (L : List (Int × Int)) (s : Int) (d : Nat) : (nearL L s d).length ≤ L.length := by unfold nearL; rw [List.length_map]; exact List.length_filter_le _ _

/-- An index, and beside it a list that the law itself made. -/
def OwnA (B : Nat) (w : World) (X d : Nat) (L : List (Int × Int)) (m : Nat) (v : Value) (ys : List Int) : Prop :=
  ∃ fp, IdxAt w X d L m fp ∧ (∀ b, fp b → B ≤ b) ∧ w.ownsRow B 3 1 v ys.length (ys.map (Value.int .i64)) ∧ ∀ g, v.ownBlock = some g → ¬ fp g
section
variable {B X d m : Nat} {w w' : World} {L : List (Int × Int)} {v : Value} {ys : List Int}
theorem OwnA.own (h : OwnA B w X d L m v ys) : Own1 B w X d L m := by obtain ⟨fp, h1, h2, _⟩ := h; exact ⟨fp, h1, h2⟩
theorem OwnA.ints (h : OwnA B w X d L m v ys) : Ints w B v ys := by obtain ⟨fp, _, _, h3, _⟩ := h; exact h3
theorem OwnA.start {X : Nat} (h : Own1 B w X d L m) : OwnA B w X d L m (.slice none 0 0) [] := by
  obtain ⟨fp, h1, h2⟩ := h
  exact ⟨fp, h1, h2, World.ownsRow_nil _ _ _ _, fun g hg => by cases hg⟩
theorem OwnA.below (h : OwnA B w X d L m v ys) (hb : Below w.heap.size w w') : OwnA B w' X d L m v ys := by
  obtain ⟨fp, h1, h2, h3, h4⟩ := h
  exact ⟨fp, h1.below hb, h2, ownsRow_below h3 hb, h4⟩
theorem OwnA.add (h : OwnA B w X d L m v ys) (hB : B ≤ w.heap.size) {id s : Int} (hid : (Lit.int .i64 id).wf = true) (hs : (Lit.int .u64 s).wf = true) (hm : m < 40000) (hn : ¬ ∃ t, (id, t) ∈ L) :
    Calls Try.prog 11 #[.pointer (some ⟨X, 0, none⟩), .int .i64 id, .int .u64 s] w fun e w' => e = .returned (.bool true) ∧ OwnA B w' X d (addL L id s) (m + 1) v ys ∧ Below B w w' := by
  obtain ⟨fp, h1, h2, h3, h4⟩ := h
  refine (add_any X d L m fp id s w h1 hid hs (by omega)).mono ?_
  rintro e w' (⟨hex, _⟩ | ⟨_, rfl, fp', g1, g2, g3⟩)
  · exact absurd hex hn
  · refine ⟨rfl, ⟨fp', g1, fun b hb => ?_, ownsRow_turned h3 g2 h4, fun g hg hf => ?_⟩, g2.below (fun i _ hi => h2 i hi) hB⟩
    · rcases g3 b hb with h' | h'
      · exact h2 b h'
      · omega
    · rcases g3 g hf with h' | h'
      · exact h4 g hg h'
      · have := (h3.lt g hg).2; omega
theorem OwnA.more {w1 w2 : World} {v' : Value} {y : Int} (h : OwnA B w X d L m v ys) (hb : Below w.heap.size w w1) (ho : w2.ownsRow B 3 1 v' (ys.length + 1) (ys.map (Value.int .i64) ++ [.int .i64 y])) (hg : w1.grownBy w2 v.ownBlock) (hw : v'.ownBlock = v.ownBlock ∨ v'.ownBlock = some w1.heap.size) :
    OwnA B w2 X d L m v' (ys ++ [y]) := by
  obtain ⟨fp, h1, h2, h3, h4⟩ := h
  refine ⟨fp, (h1.below hb).turned (Turned.of_grown (S := fun b => v.ownBlock = some b) hg fun _ e => e) fun b hf e => h4 b e hf, h2, by rw [List.length_append, List.map_append]; exact ho, fun g hg' hf => ?_⟩
  rcases hw with hw | hw
  · exact h4 g (hw.symm.trans hg') hf
  · rw [hw] at hg'
    injection hg' with hg'
    have := h1.lt hf
    have := hb.size
    omega
end

set_option maxHeartbeats 1000000 in
set_option maxRecDepth 100000 in
theorem inear08_law (d s : Int) (xs : List Int) (v : Value) (w : World) (hv : IntSl .u64 w v xs) (hlow : SlBelow w.heap.size v) (hn : xs.length ≤ maxLen) (hx : ∀ x ∈ xs, (Lit.int .u64 x).wf = true) (hs : (Lit.int .u64 s).wf = true) :
    Calls Try.prog 4 #[.int .i64 d, v, .int .u64 s] w (LawPost w) := by
  unfold maxLen at hn
  obtain ⟨a, c, rfl⟩ := hv.form
  have hr := Lib.hid (show RdSl .u64 w (.slice a xs.length c) xs from ⟨hv, hlow⟩)
  clear hv hlow
  by_cases hd : mayB d = true
  case neg =>
    have c1 := Lib.hid (new_no d w hd)
    have hn2 : ∀ W, (binOp .neq 25 (.iface 29 (.int .i64 1)) .nilIface).run Try.prog W = .ok (.bool true) W := fun W => by kernel_rfl
    clear hd hs hx
    go_enter Try.func4, Try.ntmps4
    go_wp2_with fail
    refine c1.out.mono ?_; rintro e w1 ⟨rfl, rfl⟩
    go_wp2_with fail
    refine (awake8_any _).mono ?_; rintro e w1 ⟨rfl, hb⟩
    replace hb := Lib.hid hb
    go_wp2_with fail
    go_ret
    exact ⟨rfl, hb.out⟩
  obtain ⟨n, rfl, h16⟩ := may_form hd
  clear hd
  have c1 := Lib.hid (own_new (d := n) w h16 (Nat.le_refl w.heap.size))
  have hn1 : ∀ W, (binOp .neq 25 .nilIface .nilIface).run Try.prog W = .ok (.bool false) W := fun W => by kernel_rfl
  by_cases hl : 150 < xs.length
  · clear hs hx
    go_enter Try.func4, Try.ntmps4
    go_wp2_with fail
    refine c1.out.mono ?_; rintro e w1 ⟨X, rfl, ho, hb⟩
    replace hb := Lib.hid hb
    clear ho
    go_wp2_with fail
    refine (awake8_any _).mono ?_; rintro e w2 ⟨rfl, hb2⟩
    replace hb := Lib.hid (hb.out.andThen hb2)
    clear hb2
    go_wp2_with fail
    go_ret
    exact ⟨rfl, hb.out⟩
  have hl' : xs.length ≤ 150 := by omega
  obtain ⟨i0, hi0, hz0, hz1, hz2⟩ := info_parts info_int
  replace hx := Lib.hid hx
  have h150 : decide ((150 : Int) < (xs.length : Int)) = false := decide_eq_false (by omega)
  go_enter Try.func4, Try.ntmps4
  go_wp2_with fail
  refine c1.out.mono ?_; rintro e w1 ⟨X, rfl, ho, hb⟩
  replace ho := Lib.hid (OwnA.start ho)
  replace hb := Lib.hid hb
  clear c1
  go_wp2_with fail
  go_loopw [9, 10] (fun v i wr => ∃ k : Nat, i = .int .i64 k ∧ k ≤ xs.length ∧ Hid (OwnA w.heap.size wr X n (pairs xs k) k v (nearL (pairs xs k) s n) ∧ Below w.heap.size w wr)) (fun _ i _ => xs.length - (intOf i).toNat)
  case atStart => exact ⟨0, rfl, Nat.zero_le _, ho.out, hb.out⟩
  case round =>
    clear ho hb
    obtain ⟨k, rfl, hk, hq⟩ := hrel
    by_cases hlt : k < xs.length
    · have hne : xs ≠ [] := by intro e; subst e; simp at hlt
      obtain ⟨b1, o1, c1', e1, g1⟩ := (hr.out.next hq.out.2).sl.some hne
      injection e1 with e1 e1a e1b
      clear e1a
      subst e1 e1b
      replace g1 := g1 k hlt
      have hxw : (Lit.int .u64 (xs.getD k 0)).wf = true := hx.out _ (by rw [List.getD, List.getElem?_eq_getElem hlt]; exact List.getElem_mem hlt)
      have hadd := OwnA.add hq.out.1 hq.out.2.size (id := (k : Int)) (s := xs.getD k 0) (wf_i64 (by omega)) hxw (by omega) pairs_free
      rw [add_pairs] at hadd
      have hbx := bd_u64 hxw
      have hbs := bd_u64 hs
      have hdist := fun W => refdist_any (xs.getD k 0) s W hbx.1 hbx.2 hbs.1 hbs.2
      have hsn := near_snoc (pairs xs k) (k : Int) (xs.getD k 0) s n
      rw [← pairs_succ] at hsn
      have hnl := near_len (pairs xs k) s n
      rw [pairs_len] at hnl
      have hb2 := hq.out.2
      have hbl : b1 < w.heap.size := hr.out.low ⟨b1, o1, none⟩ _ _ rfl (by omega)
      clear hq hbx hbs hxw hne
      generalize distB (xs.getD k 0) s = r at hdist hsn
      generalize xs.getD k 0 = x at g1 hadd hdist
      replace hadd := Lib.hid hadd
      replace hdist := Lib.hid hdist
      replace hsn := Lib.hid hsn
      replace hb2 := Lib.hid hb2
      have k0 : (0 : Int) ≤ k := by omega
      have k1 : (k : Int) < xs.length := by omega
      by_cases hrn : r ≤ (n : Int)
      · have hsn' := hsn.out
        rw [if_pos hrn] at hsn'
        replace hsn' := Lib.hid hsn'
        clear hsn
        go_wp2_with fail
        refine hadd.out.mono ?_; rintro e w2 ⟨rfl, ho2, hb3⟩
        have ho3 := Lib.hid ho2.ints
        replace ho2 := Lib.hid ho2
        replace hb2 := Lib.hid (hb2.out.trans hb3)
        have g2 := (hb3.cell (p := ⟨b1, o1 + k, none⟩) hbl).trans g1
        clear hb3 hadd g1
        go_wp2_with fail
        refine (hdist.out _).mono ?_; rintro e w3 ⟨rfl, rfl⟩
        have hB := hb2.out.size
        go_wp2_with (at_builtin; refine wpList_append_own_at2 _ rfl _ _ 43 43 rfl w.heap.size 3 3 i0 _ 1 8 Try.underlying43 Try.underlying43 hi0 hz0 hz1 hz2 rfl (by decide) _ _ _ rfl (World.ownsRow.alloc ho3.out _) ⟨w2.heap.size, 0, none⟩ 1 1 [.int .i64 (k : Int)] rfl rfl (ArrAt.news (arrAt_new _ _ _)) (by simp [Value.oneCell']) (by unfold maxLen; omega) (by omega) (by simp; omega) ?_; intro v' w4 ho4 hg4 hw4; replace ho4 := Lib.hid ho4; replace hg4 := Lib.hid hg4; replace hw4 := Lib.hid hw4)
        refine ⟨⟨k + 1, by go_num, by omega, ?_⟩, by simp [intOf]; omega⟩
        rw [hsn'.out]
        have hba : Below w2.heap.size w2 (w2.alloc (.cells #[.int .i64 (k : Int)] 3)) := (Below.refl _ _).alloc (Nat.le_refl _) _
        refine ⟨OwnA.more ho2.out hba ho4.out hg4.out hw4.out, hb2.out.trans ((hba.mono hB).trans ?_)⟩
        exact (Turned.of_grown (S := fun b => w.heap.size ≤ b) hg4.out fun g hg => (ho3.out.lt g hg).1).below (fun _ _ h => h) (by simp; omega)
      · have hsn' := hsn.out
        rw [if_neg hrn, List.append_nil] at hsn'
        replace hsn' := Lib.hid hsn'
        clear hsn
        go_wp2_with fail
        refine hadd.out.mono ?_; rintro e w2 ⟨rfl, ho2, hb3⟩
        replace ho2 := Lib.hid ho2
        replace hb2 := Lib.hid (hb2.out.trans hb3)
        have g2 := (hb3.cell (p := ⟨b1, o1 + k, none⟩) hbl).trans g1
        clear hb3 hadd g1
        go_wp2_with fail
        refine (hdist.out _).mono ?_; rintro e w3 ⟨rfl, rfl⟩
        go_wp2_with fail
        refine ⟨⟨k + 1, by go_num, by omega, ?_⟩, by simp [intOf]; omega⟩
        rw [hsn'.out]
        exact ⟨ho2.out, hb2.out⟩
    · obtain rfl : k = xs.length := by omega
      have hke : ¬ ((xs.length : Int) < (xs.length : Int)) := by omega
      have hnl := near_len (pairs xs xs.length) s n
      have hpl := pairs_len xs xs.length
      rw [hpl] at hnl
      replace hpl := Lib.hid hpl
      go_wp2_with fail
      refine (awake8_any _).mono ?_; rintro e w2 ⟨rfl, hb2⟩
      have hq2 := Lib.hid (And.intro (OwnA.below hq.out.1 hb2) (hq.out.2.andThen hb2))
      clear hb2 hq
      go_wp2_with fail
      refine (own_near (OwnA.own hq2.out.1) hs (by omega)).mono ?_; rintro e w3 ⟨v3, rfl, ho3, hb3⟩
      have hq3 := Lib.hid (And.intro (OwnA.below hq2.out.1 hb3) (hq2.out.2.andThen hb3))
      replace ho3 := Lib.hid ho3
      clear hb3 hq2
      go_wp2_with fail
      refine (same8_any _ _ _ _ (intSl_own ho3.out) (intSl_own (OwnA.ints hq3.out.1)) (by omega)).mono ?_; rintro e w4 ⟨rfl, hd4⟩
      have hq4 := Lib.hid (And.intro (OwnA.below hq3.out.1 (hd4.below _)) (hq3.out.2.andThen (hd4.below _)))
      clear hd4 hq3 ho3
      go_wp2_with fail
      refine (own_len (OwnA.own hq4.out.1)).mono ?_; rintro e w5 ⟨rfl, rfl⟩
      rw [hpl.out]
      go_wp2_with fail
      go_ret
      exact ⟨rfl, hq4.out.2⟩
end Go.Proofs.Ytgldlfgidmgmfaa
