/- The walks of layer 8's Len, Add and Drop. -/
import Derived.Test.YtgldlfgidmgmfaaD08d
import Derived.Deep.RegionWith
namespace Go.Proofs.Ytgldlfgidmgmfaa
open Go.RowKit Go.Maps

theorem len_nil (w : World) : Calls Try.prog 17 #[.pointer none] w fun e w' => e = .returned (.int .i64 0) ∧ w = w' := by
  go_enter Try.func17, Try.ntmps17
  go_wp2_with fail
  go_ret
  exact ⟨rfl, rfl⟩
theorem len_any (X d : Nat) (L : List (Int × Int)) (m : Nat) (fp : Nat → Prop) (w : World) (h : IdxAt w X d L m fp) : Calls Try.prog 17 #[.pointer (some ⟨X, 0, none⟩)] w fun e w' => e = .returned (.int .i64 (L.length : Nat)) ∧ w = w' := by
  obtain ⟨M, T, n, D, V, TB, h1, h2, h3, h4, h5, h6⟩ := h
  have c1 : w.cell? ⟨X, 1, none⟩ = some (.map (some M)) := by rw [h1.cells.cell]; rfl
  have hown := h1.map
  have hs := h2.size
  clear h1 h2 h3 h4 h5 h6
  go_enter Try.func17, Try.ntmps17
  go_wp2_with (at_len; refine wpList_len_own _ rfl _ 49 rfl 3 34 Try.underlying49 _ M n D rfl hown ?_; rw [hs])
  go_ret
  exact ⟨rfl, rfl⟩

theorem drawn_drew (w : World) : Drawn w w.drew := ⟨1, rfl⟩
theorem drawn_drewN (w : World) (n : Nat) : Drawn w (w.drewN n) := ⟨n, rfl⟩
/-- An index within Add or Drop: the tables below k are done. -/
def MidAt (w0 : World) (X M T d n : Nat) (D : DataW Unit) (fp : Nat → Prop) (vb : Value) (bs : List Int) (G G' : Nat → List Bk → Prop) (k : Nat) (wr : World) : Prop :=
  ∃ V TB, IdxIn wr X M T d n D V TB (fun i tb => (i < k → G' i tb) ∧ (k ≤ i → G i tb)) ∧ U64s wr 0 vb bs ∧ (∀ g, vb.ownBlock = some g → ¬ Mine X M T d V TB g) ∧ Turned fp w0 wr ∧ ∀ b, Mine X M T d V TB b → fp b ∨ w0.heap.size ≤ b
section
variable {w0 wr : World} {X M T d n k : Nat} {D : DataW Unit} {fp : Nat → Prop} {vb : Value} {bs : List Int} {G G' : Nat → List Bk → Prop}
theorem MidAt.round (h : MidAt w0 X M T d n D fp vb bs G G' k wr) (hk : k ≤ d) :
    (wr.cell? ⟨X, 2, none⟩ = some (.slice (some ⟨T, 0, none⟩) (d + 1) (d + 1)) ∧ U64s wr 0 vb bs) ∧ ∃ vk tbk, TabAt wr vk tbk ∧ G k tbk ∧ wr.cell? ⟨T, k, none⟩ = some vk ∧ ∀ W w1 v' tb', Drawn wr W → TabAt w1 v' tb' → G' k tb' → Turned (Foot vk tbk) W w1 → (∀ b, Foot v' tb' b → Foot vk tbk b ∨ W.heap.size ≤ b) →
      (w1.cell? ⟨X, 2, none⟩ = some (.slice (some ⟨T, 0, none⟩) (d + 1) (d + 1)) ∧ w1.cell? ⟨T, k, none⟩ = some vk) ∧ w1.frozen? ⟨T, k, none⟩ = false ∧ MidAt w0 X M T d n D fp vb bs G G' (k + 1) (w1.setCell ⟨T, k, none⟩ v') := by
  obtain ⟨V, TB, h1, h2, h3, h4, h5⟩ := h
  refine ⟨⟨by rw [h1.cells.cell]; rfl, h2⟩, V k, TB k, h1.tab k hk, (h1.has k hk).2 (Nat.le_refl _), (h1.get hk).1, ?_⟩
  rintro W w1 v' tb' hW ht hg hT hf
  have hb := hW.below wr.heap.size
  have h1W := h1.below hb
  obtain ⟨s1, s2, s3⟩ := h1W.step hk (G' := fun i tb => (i < k + 1 → G' i tb) ∧ (k + 1 ≤ i → G i tb)) ht hT hf ⟨fun _ => hg, fun h => by omega⟩ (fun j hj hne hG => ⟨fun h => hG.1 (by omega), fun h => hG.2 (by omega)⟩)
  have hfa := h1W.far k hk
  have c1 := h1W.cells.turned hT fun e => (hfa _ e).1 rfl
  have t1 := h1W.tabs.turned hT fun e => (hfa _ e).2.2 rfl
  refine ⟨⟨by rw [c1.cell]; rfl, ?_⟩, t1.soft k, upd V k v', upd TB k tb', s1, ?_, ?_, ?_, ?_⟩
  · rw [t1.cell, List.getElem?_map, List.getElem?_range (by omega)]; rfl
  · exact ownsRow_turned (ownsRow_below h2 hb) s2 fun g hg hm => h3 g hg hm
  · intro g hg hm
    rcases s3 g hm with h' | h'
    · exact h3 g hg h'
    · have := (World.ownsRow.lt h2 g hg).2
      have := hb.size
      omega
  · exact (h4.trans (Turned.of_below hb) fun _ _ h => h).trans s2 fun i hi hm => by
      rcases h5 i hm with h' | h'
      · exact h'
      · omega
  · intro b hm
    rcases s3 b hm with h' | h'
    · exact h5 b h'
    · have := h4.size
      have := hb.size
      exact Or.inr (by omega)
end

theorem TabAt.form {w : World} {v : Value} {tb : List Bk} (h : TabAt w v tb) : ∃ a c, v = .slice a tb.length c := by
  rcases h.rows.2 with ⟨e, e0⟩ | ⟨g, cap, cur, e, _⟩
  · exact ⟨none, 0, by rw [e, e0]⟩
  · exact ⟨_, _, e⟩
def RoundPost (X T d k : Nat) (vk : Value) (Q : World → Prop) (e : Ending) (w1 : World) : Prop :=
  ∃ a n c, e = .returned (.slice a n c) ∧ (w1.cell? ⟨X, 2, none⟩ = some (.slice (some ⟨T, 0, none⟩) (d + 1) (d + 1)) ∧ w1.cell? ⟨T, k, none⟩ = some vk) ∧ w1.frozen? ⟨T, k, none⟩ = false ∧ Hid (Q (w1.setCell ⟨T, k, none⟩ (.slice a n c)))
theorem cell_far {w : World} {a b : Nat} {i j : Nat} {u v : Value} (h : a ≠ b) (hc : w.cell? ⟨a, i, none⟩ = some v) : (w.setCell ⟨b, j, none⟩ u).cell? ⟨a, i, none⟩ = some v := by
  rw [World.cell?_setCell_other w ⟨b, j, none⟩ ⟨a, i, none⟩ u (fun e => h (by injection e with e; exact e.symm))]; exact hc
theorem nums_free {L : List (Int × Int)} {id : Int} (hn : ¬ ∃ t, (id, t) ∈ L) {d i : Nat} : ∀ c, ¬ ∃ s, (id, s) ∈ L ∧ ((bdN s.toNat d i : Nat) : Int) = c := fun _ ⟨s, hs, _⟩ => hn ⟨s, hs⟩
def AddPost (X d : Nat) (L : List (Int × Int)) (m : Nat) (fp : Nat → Prop) (id s : Int) (w : World) (e : Ending) (w' : World) : Prop :=
  ((∃ t, (id, t) ∈ L) ∧ e = .returned (.bool false) ∧ w = w') ∨
    ((¬ ∃ t, (id, t) ∈ L) ∧ e = .returned (.bool true) ∧ ∃ fp', IdxAt w' X d (addL L id s) (m + 1) fp' ∧ Turned fp w w' ∧ ∀ b, fp' b → fp b ∨ w.heap.size ≤ b)
theorem add_nil (id s : Int) (w : World) : Calls Try.prog 11 #[.pointer none, .int .i64 id, .int .u64 s] w fun e w' => e = .returned (.bool false) ∧ w = w' := by
  have hc := Lib.hid (get_nil id w)
  go_enter Try.func11, Try.ntmps11
  go_wp2_with fail
  refine hc.out.mono ?_; rintro e w' ⟨rfl, rfl⟩
  go_wp2_with fail
  go_ret
  exact ⟨rfl, rfl⟩
set_option maxHeartbeats 1000000 in
set_option maxRecDepth 100000 in
theorem add_any (X d : Nat) (L : List (Int × Int)) (m : Nat) (fp : Nat → Prop) (id s : Int) (w : World) (h : IdxAt w X d L m fp) (hid : (Lit.int .i64 id).wf = true) (hs : (Lit.int .u64 s).wf = true) (hm : m < 90000) :
    Calls Try.prog 11 #[.pointer (some ⟨X, 0, none⟩), .int .i64 id, .int .u64 s] w (AddPost X d L m fp id s w) := by
  have hc := Lib.hid (get_any X d L m fp id w h hid)
  have hkey := keyOf_int_mk Try.underlying3 hid
  have hbd := Lib.hid (And.intro (bd_i64 hid) (bd_u64 hs))
  replace h := Lib.hid h
  replace hid := Lib.hid hid
  go_enter Try.func11, Try.ntmps11
  go_wp2_with fail
  refine hc.out.mono ?_; rintro e w' ⟨rfl, ⟨t, ht, rfl⟩ | ⟨hn, rfl⟩⟩
  · clear hc
    have hex : Hid (∃ t, (id, t) ∈ L) := ⟨t, ht⟩
    clear ht
    go_wp2_with fail
    go_ret
    exact Or.inl ⟨hex.out, rfl, rfl⟩
  · clear hc
    obtain ⟨M, T, n, D, V, TB, h1, h2, h3, h4, h5, h6⟩ := h.out
    clear h
    have c1 : w.cell? ⟨X, 1, none⟩ = some (.map (some M)) := by rw [h1.cells.cell]; rfl
    have c0 : w.cell? ⟨X, 0, none⟩ = some (.int .i64 d) := by rw [h1.cells.cell]; rfl
    have hown := h1.map
    replace hn := Lib.hid hn
    replace h1 := Lib.hid h1
    replace h2 := Lib.hid h2
    replace h3 := Lib.hid h3
    replace h6 := Lib.hid h6
    have hXT : X ≠ T := h1.out.three.2.1
    have hn2 : n < maxLen := by have := h5.1; unfold maxLen; omega
    replace hn2 := Lib.hid hn2
    have hval := plainElem_int (H := Unit) Try.underlying34 hs
    have hrem : Hid (∀ w1, w1.ownsMap Try.prog 3 (plainElem Try.prog 34) M (n + 1) (D.put (.int .i64 id) (.lit (.int .u64 s))) → w.mapTurned w1 M → w1.cell? ⟨X, 0, none⟩ = some (.int .i64 d) ∧
        Hid (IdxIn w1 X M T d (n + 1) (D.put (.int .i64 id) (.lit (.int .u64 s))) V TB (GOf d L m)) ∧ Hid (Turned fp w w1)) := by
      intro w1 hm1 ht1
      have hT : Turned (fun b => b = M) w w1 := Turned.of_grown ht1.grown fun k e => by injection e with e; exact e.symm
      have hi := h1.out.remap (G' := GOf d L m) hm1 hT fun i _ hg => hg
      exact ⟨by rw [hi.cells.cell]; rfl, hi, hT.mono fun b _ e => (h6.out b).2 (Or.inr (Or.inl e))⟩
    have hbn := Lib.hid (fun W => bands_any s d W hbd.out.2.1 hbd.out.2.2)
    have hmid : Hid (∀ w1 w2 vb, IdxIn w1 X M T d (n + 1) (D.put (.int .i64 id) (.lit (.int .u64 s))) V TB (GOf d L m) → Turned fp w w1 → U64s w2 w1.heap.size vb (bandsB s d) → Below w1.heap.size w1 w2 →
        ∃ gb cb, vb = .slice (some ⟨gb, 0, none⟩) (d + 1) cb ∧ d + 1 ≤ cb ∧ Hid (MidAt w X M T d (n + 1) (D.put (.int .i64 id) (.lit (.int .u64 s))) fp (.slice (some ⟨gb, 0, none⟩) (d + 1) cb) (bandsB s d) (GOf d L m)
          (fun i tb => TabHas tb (fun b x => (∃ s, (x, s) ∈ L ∧ ((bdN s.toNat d i : Nat) : Int) = b) ∨ (b = ((bdN s.toNat d i : Nat) : Int) ∧ x = id)) (m + 1)) 0 w2)) := by
      intro w1 w2 vb hi hT hu hb
      have hl := bandsB_len s h4
      obtain ⟨gb, cb, rfl, hgb, _⟩ := World.ownsRow.form hu (by rw [hl]; omega)
      have hcb : d + 1 ≤ cb := by
        have hu2 := hu.2
        rcases hu2 with ⟨e, _⟩ | ⟨_, _, _, e, _, _, h, _⟩
        · cases e
        · injection e with _ _ e; rw [← hl]; omega
      rw [hl]
      refine ⟨gb, cb, rfl, hcb, V, TB, ?_, ?_, ?_, ?_, ?_⟩
      · have := hi.below hb
        exact ⟨this.cells, this.map, this.tabs, this.tab, fun i hi' => ⟨fun h => by omega, fun _ => this.has i hi'⟩, this.apart, this.far, this.three⟩
      · have := World.ownsRow.mono hu (Nat.zero_le _)
        unfold U64s
        rw [hl] at this ⊢
        exact this
      · intro g hg hm
        injection hg with hg
        have := hi.lt hm
        have : gb = g := hg
        omega
      · exact hT.trans (Turned.of_below hb) fun _ _ h => h
      · intro b hm
        exact Or.inl ((h6.out b).2 hm)
    have hdone : Hid (∀ vb wr, MidAt w X M T d (n + 1) (D.put (.int .i64 id) (.lit (.int .u64 s))) fp vb (bandsB s d) (GOf d L m)
          (fun i tb => TabHas tb (fun b x => (∃ s, (x, s) ∈ L ∧ ((bdN s.toNat d i : Nat) : Int) = b) ∨ (b = ((bdN s.toNat d i : Nat) : Int) ∧ x = id)) (m + 1)) (d + 1) wr → AddPost X d L m fp id s w (.returned (.bool true)) wr) := by
      rintro vb wr ⟨V', TB', g1, g2, g3, g4, g5⟩
      refine Or.inr ⟨hn.out, rfl, Mine X M T d V' TB', ⟨M, T, n + 1, _, V', TB', ⟨g1.cells, g1.map, g1.tabs, g1.tab, fun i hi => ?_, g1.apart, g1.far, g1.three⟩, h2.out.put hn.out, h3.out.add hn.out hbd.out, h4, ⟨by have := h5.1; omega, by have := h5.2; rw [len_addL]; omega⟩, fun b => Iff.rfl⟩, g4, g5⟩
      refine ((g1.has i hi).1 (by omega)).congr fun b x => ?_
      constructor
      · rintro (⟨t, ht, e⟩ | ⟨rfl, rfl⟩)
        · exact ⟨t, (mem_addL _).2 (Or.inl ht), e⟩
        · exact ⟨s, (mem_addL _).2 (Or.inr rfl), rfl⟩
      · rintro ⟨t, ht, e⟩
        rcases (mem_addL _).1 ht with ht | ht
        · exact Or.inl ⟨t, ht, e⟩
        · injection ht with e1 e2
          subst e1 e2
          exact Or.inr ⟨e.symm, rfl⟩
    clear h1 h2 h3 h6 c0
    go_wp2_with (at_mapUpdate; refine wpList_mapUpdate_in _ rfl _ _ _ 49 rfl 3 34 law_int Try.underlying49 _ M n D rfl hown hn2.out _ _ _ rfl rfl hkey _ [] hval ?_; intro w1 hown1 hturn1; obtain ⟨c0, hi1, hT1⟩ := hrem.out w1 hown1 hturn1; clear hrem hown1 hturn1 hown c1 hval)
    refine (hbn.out _).mono ?_; rintro e w2 ⟨vb, rfl, hu, hb⟩
    obtain ⟨gb, cb, rfl, hcb, hM⟩ := hmid.out w1 w2 vb hi1.out hT1.out hu hb
    clear hmid hbn hi1 hT1 hu hb c0
    go_wp2_with fail
    go_loopw [35] (fun i wr => ∃ k : Nat, i = .int .i64 k ∧ k ≤ d + 1 ∧ Hid (MidAt w X M T d (n + 1) (D.put (.int .i64 id) (.lit (.int .u64 s))) fp (.slice (some ⟨gb, 0, none⟩) (d + 1) cb) (bandsB s d) (GOf d L m)
          (fun i tb => TabHas tb (fun b x => (∃ s, (x, s) ∈ L ∧ ((bdN s.toNat d i : Nat) : Int) = b) ∨ (b = ((bdN s.toNat d i : Nat) : Int) ∧ x = id)) (m + 1)) k wr)) (fun i _ => d + 1 - (intOf i).toNat)
    case atStart => exact ⟨0, rfl, Nat.zero_le _, hM.out⟩
    case round =>
      clear hM
      obtain ⟨k, rfl, hk, hr⟩ := hrel
      by_cases hlt : k ≤ d
      · obtain ⟨⟨cX, hu⟩, vk, tbk, hta, hg, cT, hnext⟩ := hr.out.round hlt
        clear hr
        have cB : wr.cell? ⟨gb, k, none⟩ = some (.int .u64 ((bdN s.toNat d k : Nat) : Int)) := by
          have hl := bandsB_len s h4
          unfold U64s at hu
          rw [hl] at hu
          rw [World.ownsRow.cellAt hu k (by omega), List.getElem?_map, ← bandsB_get s h4 hlt]
          rw [List.getElem?_eq_getElem (by omega), List.getD, List.getElem?_eq_getElem (by omega)]; rfl
        clear hu
        obtain ⟨bk, hbk⟩ : ∃ bk, ((bdN s.toNat d k : Nat) : Int) = bk := ⟨_, rfl⟩
        have hput : Hid (∀ W, Drawn wr W → Calls Try.prog 29 #[vk, .int .u64 bk, .int .i64 id] W (RoundPost X T d k vk (MidAt w X M T d (n + 1) (D.put (.int .i64 id) (.lit (.int .u64 s))) fp (.slice (some ⟨gb, 0, none⟩) (d + 1) cb) (bandsB s d) (GOf d L m)
          (fun i tb => TabHas tb (fun b x => (∃ s, (x, s) ∈ L ∧ ((bdN s.toNat d i : Nat) : Int) = b) ∨ (b = ((bdN s.toNat d i : Nat) : Int) ∧ x = id)) (m + 1)) (k + 1)))) := by
          intro W hW
          rw [← hbk]
          refine (put_any vk tbk _ m ((bdN s.toNat d k : Nat) : Int) id W (hta.below (hW.below _)) hg (nums_free hn.out) (by omega)).mono ?_
          rintro e w1 ⟨v', tb', rfl, q1, q2, q3, q4⟩
          obtain ⟨p1, p2, p3⟩ := hnext W w1 v' tb' hW q1 q2 q3 q4
          obtain ⟨a', c', rfl⟩ := q1.form
          exact ⟨a', _, c', rfl, p1, p2, p3⟩
        rw [hbk] at cB
        clear hnext hg hta hbk
        have k0 : (0 : Int) ≤ k := by omega
        have k1 : (k : Int) < (d : Int) + 1 := by omega
        go_wp2_with fail
        go_region_with (go_at_call 29; ((with_reducible refine (hput.out _ (drawn_drew _)).mono ?_); rintro e w' ⟨a', n', c', rfl, ⟨hS1, hS2⟩, hf, hQ⟩))
        all_goals
          go_wp2_with fail
          exact ⟨⟨k + 1, by go_num, by omega, hQ⟩, by simp [intOf]; omega⟩
      · obtain rfl : k = d + 1 := by omega
        have hke : ¬ (((d + 1 : Nat) : Int) < (d : Int) + 1) := by omega
        replace hdone := Lib.hid (hdone.out _ _ hr.out)
        clear hr
        go_wp2_with fail
        go_ret
        exact hdone.out
end Go.Proofs.Ytgldlfgidmgmfaa
