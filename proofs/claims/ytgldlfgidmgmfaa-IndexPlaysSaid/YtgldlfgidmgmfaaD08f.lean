/- The walk of layer 8's Drop. -/
import Derived.Test.YtgldlfgidmgmfaaD08e
namespace Go.Proofs.Ytgldlfgidmgmfaa
open Go.RowKit Go.Maps

def DropPost (X d : Nat) (L : List (Int × Int)) (m : Nat) (fp : Nat → Prop) (id : Int) (w : World) (e : Ending) (w' : World) : Prop :=
  ((¬ ∃ t, (id, t) ∈ L) ∧ e = .returned (.bool false) ∧ w = w') ∨
    ((∃ t, (id, t) ∈ L) ∧ e = .returned (.bool true) ∧ ∃ fp', IdxAt w' X d (dropL L id) m fp' ∧ Turned fp w w' ∧ ∀ b, fp' b → fp b ∨ w.heap.size ≤ b)
theorem drop_nil (id : Int) (w : World) : Calls Try.prog 13 #[.pointer none, .int .i64 id] w fun e w' => e = .returned (.bool false) ∧ w = w' := by
  have hc := Lib.hid (get_nil id w)
  go_enter Try.func13, Try.ntmps13
  go_wp2_with fail
  refine hc.out.mono ?_; rintro e w' ⟨rfl, rfl⟩
  go_wp2_with fail
  go_ret
  exact ⟨rfl, rfl⟩
set_option maxHeartbeats 1000000 in
set_option maxRecDepth 100000 in
theorem idrop_any (X d : Nat) (L : List (Int × Int)) (m : Nat) (fp : Nat → Prop) (id : Int) (w : World) (h : IdxAt w X d L m fp) (hid : (Lit.int .i64 id).wf = true) (hm : m < 90000) :
    Calls Try.prog 13 #[.pointer (some ⟨X, 0, none⟩), .int .i64 id] w (DropPost X d L m fp id w) := by
  have hc := Lib.hid (get_any X d L m fp id w h hid)
  have hkey := keyOf_int_mk Try.underlying3 hid
  replace h := Lib.hid h
  replace hid := Lib.hid hid
  go_enter Try.func13, Try.ntmps13
  go_wp2_with fail
  refine hc.out.mono ?_; rintro e w' ⟨rfl, ⟨s, hn, rfl⟩ | ⟨hn, rfl⟩⟩
  case inr =>
    clear hc
    replace hn := Lib.hid hn
    go_wp2_with fail
    go_ret
    exact Or.inl ⟨hn.out, rfl, rfl⟩
  case inl =>
    clear hc
    obtain ⟨M, T, n, D, V, TB, h1, h2, h3, h4, h5, h6⟩ := h.out
    clear h
    have c1 : w.cell? ⟨X, 1, none⟩ = some (.map (some M)) := by rw [h1.cells.cell]; rfl
    have hown := h1.map
    have hbd := Lib.hid (h3.bd _ hn)
    have hfa := Lib.hid (drop_facts h3 hn)
    replace hn := Lib.hid hn
    replace h1 := Lib.hid h1
    replace h2 := Lib.hid h2
    replace h3 := Lib.hid h3
    replace h6 := Lib.hid h6
    have hrem : Hid (∀ w1, w1.ownsMap Try.prog 3 (plainElem Try.prog 34) M n (D.del (.int .i64 id)) → w.mapTurned w1 M → w1.cell? ⟨X, 0, none⟩ = some (.int .i64 d) ∧
        Hid (IdxIn w1 X M T d n (D.del (.int .i64 id)) V TB (GOf d L m)) ∧ Hid (Turned fp w w1)) := by
      intro w1 hm1 ht1
      have hT : Turned (fun b => b = M) w w1 := Turned.of_grown ht1.grown fun k e => by injection e with e; exact e.symm
      have hi := h1.out.remap (G' := GOf d L m) hm1 hT fun i _ hg => hg
      exact ⟨by rw [hi.cells.cell]; rfl, hi, hT.mono fun b _ e => (h6.out b).2 (Or.inr (Or.inl e))⟩
    have hbn := Lib.hid (fun W => bands_any s d W hbd.out.2.1 hbd.out.2.2)
    have hmid : Hid (∀ w1 w2 vb, IdxIn w1 X M T d n (D.del (.int .i64 id)) V TB (GOf d L m) → Turned fp w w1 → U64s w2 w1.heap.size vb (bandsB s d) → Below w1.heap.size w1 w2 →
        ∃ gb cb, vb = .slice (some ⟨gb, 0, none⟩) (d + 1) cb ∧ d + 1 ≤ cb ∧ Hid (MidAt w X M T d n (D.del (.int .i64 id)) fp (.slice (some ⟨gb, 0, none⟩) (d + 1) cb) (bandsB s d) (GOf d L m)
          (fun i tb => TabHas tb (fun b x => (∃ s, (x, s) ∈ L ∧ ((bdN s.toNat d i : Nat) : Int) = b) ∧ ¬ (b = ((bdN s.toNat d i : Nat) : Int) ∧ x = id)) m) 0 w2)) := by
      intro w1 w2 vb hi hT hu hb
      have hl := bandsB_len s h4
      obtain ⟨gb, cb, rfl, hgb, _⟩ := World.ownsRow.form hu (by rw [hl]; omega)
      have hcb : d + 1 ≤ cb := by
        have hu2 := hu.2
        rcases hu2 with ⟨e, _⟩ | ⟨_, _, _, e, _, _, h, _⟩
        · cases e
        · injection e with _ _ e; rw [← hl]; omega
      rw [hl]
      refine ⟨gb, cb, rfl, hcb, V, TB, ?_, ?_, ?_, ?_, ?_⟩
      · have := hi.below hb
        exact ⟨this.cells, this.map, this.tabs, this.tab, fun i hi' => ⟨fun h => by omega, fun _ => this.has i hi'⟩, this.apart, this.far, this.three⟩
      · have := World.ownsRow.mono hu (Nat.zero_le _)
        unfold U64s
        rw [hl] at this ⊢
        exact this
      · intro g hg hm
        injection hg with hg
        have := hi.lt hm
        have : gb = g := hg
        omega
      · exact hT.trans (Turned.of_below hb) fun _ _ h => h
      · intro b hm
        exact Or.inl ((h6.out b).2 hm)
    have hdone : Hid (∀ vb wr, MidAt w X M T d n (D.del (.int .i64 id)) fp vb (bandsB s d) (GOf d L m)
          (fun i tb => TabHas tb (fun b x => (∃ s, (x, s) ∈ L ∧ ((bdN s.toNat d i : Nat) : Int) = b) ∧ ¬ (b = ((bdN s.toNat d i : Nat) : Int) ∧ x = id)) m) (d + 1) wr → DropPost X d L m fp id w (.returned (.bool true)) wr) := by
      rintro vb wr ⟨V', TB', g1, g2, g3, g4, g5⟩
      refine Or.inr ⟨⟨s, hn.out⟩, rfl, Mine X M T d V' TB', ⟨M, T, n, _, V', TB', ⟨g1.cells, g1.map, g1.tabs, g1.tab, fun i hi => ?_, g1.apart, g1.far, g1.three⟩, h2.out.del h3.out hn.out, hfa.out.2.1, h4, ⟨h5.1, by have := len_dropL hfa.out.1; have := h5.2; omega⟩, fun b => Iff.rfl⟩, g4, g5⟩
      refine ((g1.has i hi).1 (by omega)).congr fun b x => ?_
      constructor
      · rintro ⟨⟨t, ht, e⟩, hne⟩
        refine ⟨t, (hfa.out.2.2 _).2 ⟨ht, fun e' => ?_⟩, e⟩
        have e2 : x = id := e'
        subst e2
        have := fst_inj h3.out ht hn.out
        subst this
        exact hne ⟨e.symm, rfl⟩
      · rintro ⟨t, ht, e⟩
        obtain ⟨ht1, ht2⟩ := (hfa.out.2.2 _).1 ht
        exact ⟨⟨t, ht1, e⟩, fun e' => ht2 e'.2⟩
    clear h1 h2 h3 h6
    go_wp2_with (at_delete; refine wpList_delete_own _ rfl _ _ 49 3 rfl 34 law_int Try.underlying49 _ M n D rfl hown _ _ rfl hkey ?_; intro w1 hown1 hturn1; obtain ⟨c0, hi1, hT1⟩ := hrem.out w1 hown1 hturn1; clear hrem hown1 hturn1 hown c1)
    refine (hbn.out _).mono ?_; rintro e w2 ⟨vb, rfl, hu, hb⟩
    obtain ⟨gb, cb, rfl, hcb, hM⟩ := hmid.out w1 w2 vb hi1.out hT1.out hu hb
    clear hmid hbn hi1 hT1 hu hb c0
    go_wp2_with fail
    go_loopw [29] (fun i wr => ∃ k : Nat, i = .int .i64 k ∧ k ≤ d + 1 ∧ Hid (MidAt w X M T d n (D.del (.int .i64 id)) fp (.slice (some ⟨gb, 0, none⟩) (d + 1) cb) (bandsB s d) (GOf d L m)
          (fun i tb => TabHas tb (fun b x => (∃ s, (x, s) ∈ L ∧ ((bdN s.toNat d i : Nat) : Int) = b) ∧ ¬ (b = ((bdN s.toNat d i : Nat) : Int) ∧ x = id)) m) k wr)) (fun i _ => d + 1 - (intOf i).toNat)
    case atStart => exact ⟨0, rfl, Nat.zero_le _, hM.out⟩
    case round =>
      clear hM
      obtain ⟨k, rfl, hk, hr⟩ := hrel
      by_cases hlt : k ≤ d
      · obtain ⟨⟨cX, hu⟩, vk, tbk, hta, hg, cT, hnext⟩ := hr.out.round hlt
        clear hr
        have cB : wr.cell? ⟨gb, k, none⟩ = some (.int .u64 ((bdN s.toNat d k : Nat) : Int)) := by
          have hl := bandsB_len s h4
          unfold U64s at hu
          rw [hl] at hu
          rw [World.ownsRow.cellAt hu k (by omega), List.getElem?_map, ← bandsB_get s h4 hlt]
          rw [List.getElem?_eq_getElem (by omega), List.getD, List.getElem?_eq_getElem (by omega)]; rfl
        clear hu
        obtain ⟨bk, hbk⟩ : ∃ bk, ((bdN s.toNat d k : Nat) : Int) = bk := ⟨_, rfl⟩
        have hput : Hid (∀ W, Drawn wr W → Calls Try.prog 31 #[vk, .int .u64 bk, .int .i64 id] W (RoundPost X T d k vk (MidAt w X M T d n (D.del (.int .i64 id)) fp (.slice (some ⟨gb, 0, none⟩) (d + 1) cb) (bandsB s d) (GOf d L m)
          (fun i tb => TabHas tb (fun b x => (∃ s, (x, s) ∈ L ∧ ((bdN s.toNat d i : Nat) : Int) = b) ∧ ¬ (b = ((bdN s.toNat d i : Nat) : Int) ∧ x = id)) m) (k + 1)))) := by
          intro W hW
          rw [← hbk]
          refine (drop_any vk tbk _ m ((bdN s.toNat d k : Nat) : Int) id W (hta.below (hW.below _)) hg ⟨s, hn.out, rfl⟩ (by omega)).mono ?_
          rintro e w1 ⟨v', tb', rfl, q1, q2, q3, q4⟩
          obtain ⟨p1, p2, p3⟩ := hnext W w1 v' tb' hW q1 q2 q3 q4
          obtain ⟨a', c', rfl⟩ := q1.form
          exact ⟨a', _, c', rfl, p1, p2, p3⟩
        rw [hbk] at cB
        clear hnext hg hta hbk
        have k0 : (0 : Int) ≤ k := by omega
        have k1 : (k : Int) < (d : Int) + 1 := by omega
        go_wp2_with fail
        go_region_with (go_at_call 31; ((with_reducible refine (hput.out _ (drawn_drew _)).mono ?_); rintro e w' ⟨a', n', c', rfl, ⟨hS1, hS2⟩, hf, hQ⟩))
        all_goals
          go_wp2_with fail
          exact ⟨⟨k + 1, by go_num, by omega, hQ⟩, by simp [intOf]; omega⟩
      · obtain rfl : k = d + 1 := by omega
        have hke : ¬ (((d + 1 : Nat) : Int) < (d : Int) + 1) := by omega
        replace hdone := Lib.hid (hdone.out _ _ hr.out)
        clear hr
        go_wp2_with fail
        go_ret
        exact hdone.out
end Go.Proofs.Ytgldlfgidmgmfaa
