/- Walks of layer 20's drafts: the files that drafts are. -/
import Derived.Test.YtahndjgamoojkaaBR26
import Derived.Test.YtahndjgamoojkaaBR10
import Derived.Test.YtahndjgamoojkaaBR25
namespace Go.Proofs.Ytahndjgamoojkaa
open Go.RowKit

/-- What bounds drafts: few, of few pieces and bytes. -/
structure DrBd (N : Nat) (ds : List Dr20) : Prop where
  few : ds.length ≤ 1000000
  pcs : ∀ d ∈ ds, d.ps.length ≤ N
  txt : ∀ d ∈ ds, d.text.length ≤ 10000000
  nam : ∀ d ∈ ds, d.name.length ≤ 1000000
theorem fls_next (ds : List Dr20) {k : Nat} (h : k < ds.length) : fls20 (ds.take (k + 1)) = fls20 (ds.take k) ++ [((ds[k]'h).name, (ds[k]'h).text)] := by
  rw [List.take_succ_eq_append_getElem h, fls_app]
  rfl
theorem fls_take (ds : List Dr20) {k : Nat} (h : k ≤ ds.length) : (fls20 (ds.take k)).length = k := by rw [fls_len, List.length_take]; omega
set_option maxHeartbeats 4000000 in
set_option maxRecDepth 100000 in
theorem written20_any (v : Value) (ds : List Dr20) (B : Nat) (w : World) (h : DrAt w B v ds) (hd : DrBd 1000000 ds) :
    Calls Try.prog 32 #[v] w (FilesPost w (fls20 ds)) := by
  obtain ⟨a, c, rfl⟩ := h.form
  have hfew := hd.few
  have hst : Hid (Fls w w.heap.size (.slice none 0 0) (fls20 (ds.take 0))) := Lib.hid (World.ownsRow_nil _ _ _ _)
  replace h := Lib.hid h
  replace hd := Lib.hid hd
  go_enter Try.func32, Try.ntmps32
  go_wp2_with fail
  go_loopw [3, 8] (fun s i wr => ∃ (k : Nat) (a' : Option Addr) (c' : Nat), s = .slice a' k c' ∧ i = .int .i64 k ∧ k ≤ ds.length ∧ Hid (Fls wr w.heap.size (.slice a' k c') (fls20 (ds.take k))) ∧ Hid (Below w.heap.size w wr)) (fun _ i _ => ds.length - (intOf i).toNat)
  case atStart => exact ⟨0, none, 0, rfl, rfl, Nat.zero_le _, hst, Lib.hid (Below.refl _ _)⟩
  case round =>
    clear hst
    obtain ⟨k, a', c', rfl, rfl, hk, hf, hb⟩ := hrel
    have hszr := hb.out.size
    by_cases hlt : k < ds.length
    · obtain ⟨g, cap, hv, hc1, hc2, _, hg, hcell⟩ := (h.out.below hb.out).some_ (by omega)
      injection hv with hv1 hv2 hv3
      subst hv1 hv3
      clear hv2
      obtain ⟨x0, x1, x2⟩ := hcell k hlt
      clear hcell
      have hmem := List.getElem_mem hlt
      have hps := h.out.pcs.ins _ hmem
      have m1 := hd.out.pcs _ hmem
      have m2 := hd.out.txt _ hmem
      have m3 := hd.out.nam _ hmem
      have hfn := fls_next ds hlt
      have hfk := fls_take ds hk
      have hfk1 := fls_take ds (show k + 1 ≤ ds.length by omega)
      clear hmem
      generalize ds[k]'hlt = d at x0 x1 x2 hps m1 m2 m3 hfn
      obtain ⟨a2, c2, e2⟩ := own_form hps
      have htx := fun V (hV : Strs V B d.pv d.ps) => text20_any d B V hV m1 m2
      have hcl := fun V => clone_any d.name V (by omega)
      unfold drV drC strV at htx
      unfold strV at x0
      rw [e2] at x1
      rw [e2] at hps htx
      generalize d.name = nm at x0 hfn hcl htx
      generalize d.text = tx at x2 hfn htx m2
      generalize d.ps = ps at hps htx x1
      replace htx := Lib.hid htx
      replace hcl := Lib.hid hcl
      replace hfn := Lib.hid hfn
      replace hps := Lib.hid hps
      have hkP : (k : Int) < ds.length := by omega
      clear m1 m3 e2 hd
      go_wp2_with fail
      have hbx := arrAt_new wr 64 [.string ⟨nm.toArray⟩, .slice a2 ps.length c2, .int .i64 tx.length]
      have hbb := (Below.refl wr.heap.size wr).alloc (Nat.le_refl _) (.cells [.string ⟨nm.toArray⟩, .slice a2 ps.length c2, .int .i64 tx.length].toArray 64)
      refine hide_world (K := fun a w' => Code.wp _ _ _ a w') (R := fun W' => ArrAt W' wr.heap.size 64 [.string ⟨nm.toArray⟩, .slice a2 ps.length c2, .int .i64 tx.length] ∧ Below wr.heap.size wr W') ⟨hbx, hbb⟩ ?_
      intro W1 hW1
      have hkeep : Hid (∀ W', Below W1.heap.size W1 W' → (W'.cell? ⟨wr.heap.size, 0, none⟩ = some (.string ⟨nm.toArray⟩) ∧ W'.cell? ⟨wr.heap.size, 1, none⟩ = some (.slice a2 ps.length c2) ∧ W'.cell? ⟨wr.heap.size, 2, none⟩ = some (.int .i64 tx.length))) := Lib.hid fun W' hW' => three_cells (hW1.out.1.next hW')
      have hps1 : Hid (∀ W', Below W1.heap.size W1 W' → Strs W' B (.slice a2 ps.length c2) ps) := Lib.hid fun W' hW' => ownsRow_below (ownsRow_below (ownsRow_below hps.out hb.out) hW1.out.2) hW'
      have hf1 : Hid (∀ W', Below W1.heap.size W1 W' → Fls W' w.heap.size (.slice a' k c') (fls20 (ds.take k))) := Lib.hid fun W' hW' => ownsRow_below (ownsRow_below hf.out hW1.out.2) hW'
      have hb1 : Hid (∀ W', Below W1.heap.size W1 W' → Below w.heap.size w W') := Lib.hid fun W' hW' => (hb.out.trans (hW1.out.2.mono hszr)).trans (hW'.mono (Nat.le_trans hszr hW1.out.2.size))
      have hone : ∀ u ∈ [Value.string ⟨nm.toArray⟩, .string ⟨tx.toArray⟩], u.oneCell' = true := by
        intro u hu
        simp at hu
        rcases hu with rfl | rfl <;> rfl
      clear hbx hbb x0 x1 x2 hf hps
      refine zgo_begin 9 (fun W' => W'.cell? ⟨wr.heap.size, 0, none⟩ = some (.string ⟨nm.toArray⟩) ∧ W'.cell? ⟨wr.heap.size, 1, none⟩ = some (.slice a2 ps.length c2) ∧ W'.cell? ⟨wr.heap.size, 2, none⟩ = some (.int .i64 tx.length)) (by kernel_rfl) (hkeep.out _ ((drawn_drew _).below _)) ?_
      intro hHeld
      refine zgo_take 0 (v := ?_) rfl (by kernel_rfl) (by kernel_rfl) (by kernel_rfl) (by kernel_rfl) (fun _ _ _ h => h) (by rfl) ?_ (by assumption) ?_
      rotate_left
      · (intro w hSw; (try dsimp only at hSw); go_simp; all_goals (with_reducible rfl))
      try simp only [Act.put, List.setIfInBounds_toArray, List.set_cons_zero, List.set_cons_succ]
      refine zgo_take 1 (v := ?_) rfl (by kernel_rfl) (by kernel_rfl) (by kernel_rfl) (by kernel_rfl) (fun _ _ _ h => h) (by rfl) ?_ (by assumption) ?_
      rotate_left
      · (intro w hSw; (try dsimp only at hSw); go_simp; all_goals (with_reducible rfl))
      try simp only [Act.put, List.setIfInBounds_toArray, List.set_cons_zero, List.set_cons_succ]
      refine zgo_take 2 (v := ?_) rfl (by kernel_rfl) (by kernel_rfl) (by kernel_rfl) (by kernel_rfl) (fun _ _ _ h => h) (by rfl) ?_ (by assumption) ?_
      rotate_left
      · (intro w hSw; (try dsimp only at hSw); go_simp; all_goals (with_reducible rfl))
      try simp only [Act.put, List.setIfInBounds_toArray, List.set_cons_zero, List.set_cons_succ]
      refine zgo_take 4 (v := ?_) rfl (by kernel_rfl) (by kernel_rfl) (by kernel_rfl) (by kernel_rfl) (fun _ _ _ h => h) (by rfl) ?_ (by assumption) ?_
      rotate_left
      · (intro w hSw; (try dsimp only at hSw); go_simp; all_goals (with_reducible rfl))
      try simp only [Act.put, List.setIfInBounds_toArray, List.set_cons_zero, List.set_cons_succ]
      refine zgo_ready [3] (by kernel_rfl) (by simp) ?_
      refine ZAll.cons rfl (fun K hK => ?_) ZAll.nil
      go_simp
      go_at_call 45
      (with_reducible refine (hcl.out _).mono ?_)
      rintro e w2 ⟨rfl, hb2⟩
      replace hb2 := Lib.hid (((drawn_drew W1).below _).andThen hb2)
      refine hK.out _ _ (hkeep.out _ hb2.out) (fun hHeld => ?_)
      clear hK K
      try simp only [Act.put, List.setIfInBounds_toArray, List.set_cons_zero, List.set_cons_succ]
      refine zgo_ready [5] (by kernel_rfl) (by simp) ?_
      refine ZAll.cons rfl (fun K hK => ?_) ZAll.nil
      go_simp
      go_at_call 34
      (with_reducible refine (htx.out _ (hps1.out _ hb2.out)).mono ?_)
      rintro e w3 ⟨rfl, hb3⟩
      replace hb3 := Lib.hid (hb2.out.andThen hb3)
      refine hK.out _ _ (hkeep.out _ hb3.out) (fun hHeld => ?_)
      clear hK K
      try simp only [Act.put, List.setIfInBounds_toArray, List.set_cons_zero, List.set_cons_succ]
      refine zgo_take 6 (v := ?_) rfl (by kernel_rfl) (by kernel_rfl) (by kernel_rfl) (by kernel_rfl) (fun _ _ _ h => h) (by rfl) ?_ (by assumption) ?_
      rotate_left
      · (intro w hSw; (try dsimp only at hSw); go_simp; all_goals (with_reducible rfl))
      try simp only [Act.put, List.setIfInBounds_toArray, List.set_cons_zero, List.set_cons_succ]
      refine zgo_ready [7] (by kernel_rfl) (by simp) ?_
      refine ZAll.cons rfl (fun K hK => ?_) ZAll.nil
      go_simp
      refine hide_world (R := fun w' => ArrAt w' w3.heap.size 47 [Value.string ⟨nm.toArray⟩, .string ⟨tx.toArray⟩] ∧ Below W1.heap.size W1 w' ∧ Below w3.heap.size w3 w') (new_in 47 [Value.string ⟨nm.toArray⟩, .string ⟨tx.toArray⟩] hb3.out hb3.out.size) ?_
      intro v5 hv5
      refine hK.out _ _ (hkeep.out _ hv5.out.2.1) (fun hHeld => ?_)
      clear hK K
      try simp only [Act.put, List.setIfInBounds_toArray, List.set_cons_zero, List.set_cons_succ]
      have hfl5 : v5.ownsRow w.heap.size 47 2 (.slice a' k c') k (cellsA (fls20 (ds.take k))) := by
        have h5 := hf1.out _ hv5.out.2.1
        unfold Fls at h5
        rw [hfk] at h5
        exact h5
      replace hfl5 := Lib.hid hfl5
      refine zgo_ready [8] (by kernel_rfl) (by simp) ?_
      refine ZAll.cons rfl (fun K hK => ?_) ZAll.nil
      refine step_append_here rfl _ _ 22 rfl w.heap.size 47 (.agg #[.string ⟨#[]⟩, .string ⟨#[]⟩]) 2 32 Try.underlying22 info_file rfl (by decide) (.slice a' k c') k (cellsA (fls20 (ds.take k))) rfl hfl5.out (some ⟨w3.heap.size, 0, none⟩) 1 1 [Value.string ⟨nm.toArray⟩, .string ⟨tx.toArray⟩] rfl rfl (part_one hv5.out.1) hone (k + 1) rfl (by unfold maxLen; omega) (by omega) (hb1.out _ hv5.out.2.1).size ?_
      intro av6 cv6 v6 hov6 hbv6 hgv6 _
      have hbb6 : Hid (Below w.heap.size w v6) := Lib.hid ((hb1.out _ hv5.out.2.1).trans hbv6.out)
      have hx5 := hW1.out.1.next hv5.out.2.1
      have hx6 := hx5.turned (Turned.of_grown (S := fun b => (Value.slice a' k c').ownBlock = some b) hgv6.out fun _ e => e) (fun e => own_ne_arr hfl5.out hx5 (by decide) e)
      refine hK.out _ _ (three_cells hx6) (fun hHeld => ?_)
      clear hK K
      try simp only [Act.put, List.setIfInBounds_toArray, List.set_cons_zero, List.set_cons_succ]
      refine zgo_last (by kernel_rfl) (by kernel_rfl) rfl (fun K hK => ?_)
      go_simp
      refine hK.out _ _ ?_
      clear hK K
      go_wp2_with fail
      refine ⟨⟨k + 1, av6, cv6, rfl, by go_num, by omega, ?_, hbb6⟩, by simp [intOf]; omega⟩
      refine Lib.hid ?_
      unfold Fls
      rw [hfk1, hfn.out, cellsA_app]
      exact hov6.out
    · have hke : ¬ ((k : Int) < ds.length) := by omega
      have hf2 := hf.out
      obtain rfl : k = ds.length := by omega
      rw [List.take_of_length_le (Nat.le_refl _)] at hf2
      replace hf2 := Lib.hid hf2
      clear hf
      go_wp2_with fail
      go_ret
      exact ⟨_, rfl, hf2.out, hb.out⟩
end Go.Proofs.Ytahndjgamoojkaa

/- Layer 20's drafts: insertion, deletion, one turned, at the level of drafts. -/
namespace Go.Proofs.Ytahndjgamoojkaa
open Go.RowKit

theorem rise_drop {α : Type} {L : List (List UInt8 × α)} (hs : Rise20 L) (i : Nat) (hi : i < L.length) : drop20 L (L[i]'hi).1 = L.take i ++ L.drop (i + 1) := by
  have e : L = L.take i ++ L[i]'hi :: L.drop (i + 1) := by simp
  have h1 : ∀ f ∈ L.take i, f.1 ≠ (L[i]'hi).1 := fun f hf h => by
    obtain ⟨j, hj, rfl⟩ := List.mem_iff_getElem.1 hf
    rw [List.getElem_take] at h
    have := rise_get20 hs (show j < i by rw [List.length_take] at hj; omega) hi
    rw [h] at this
    exact lt_irr _ this
  have h2 : ∀ f ∈ L.drop (i + 1), f.1 ≠ (L[i]'hi).1 := fun f hf h => by
    obtain ⟨j, hj, rfl⟩ := List.mem_iff_getElem.1 hf
    rw [List.getElem_drop] at h
    have hj2 : i + 1 + j < L.length := by rw [List.length_drop] at hj; omega
    have := rise_get20 hs (show i < i + 1 + j by omega) hj2
    rw [h] at this
    exact lt_irr _ this
  have key : ∀ n, (L[i]'hi).1 = n → (∀ f ∈ L.take i, f.1 ≠ n) → (∀ f ∈ L.drop (i + 1), f.1 ≠ n) → drop20 (L.take i ++ L[i]'hi :: L.drop (i + 1)) n = L.take i ++ L.drop (i + 1) := by
    intro n hn a b
    unfold drop20
    rw [List.filter_append, List.filter_cons_of_neg (by simp [hn]), List.filter_eq_self.2 (fun f hf => by simp [a f hf]), List.filter_eq_self.2 (fun f hf => by simp [b f hf])]
  have := key _ rfl h1 h2
  rwa [← e] at this
theorem psAt_cons {w : World} {B : Nat} {k : Dr20} {ds : List Dr20} (h : PsAt w B ds) (h1 : Strs w B k.pv k.ps) (h2 : ∀ b, k.pv.ownBlock = some b → ∀ d ∈ ds, d.pv.ownBlock ≠ some b) : PsAt w B (k :: ds) :=
  ⟨fun d hd => by
    rcases List.mem_cons.1 hd with rfl | hd
    · exact h1
    · exact h.ins d hd, List.pairwise_cons.2 ⟨fun y hy b hb => h2 b hb y hy, h.apart⟩⟩
theorem drC_mid (ds : List Dr20) (k : Dr20) (i : Nat) : (ds.flatMap drC).take (i * 3) ++ drC k ++ (ds.flatMap drC).drop (i * 3) = (ds.take i ++ k :: ds.drop i).flatMap drC := by
  rw [drC_take, drC_drop, List.flatMap_append, List.flatMap_cons, List.append_assoc]
theorem drC_less (ds : List Dr20) (i : Nat) : (ds.flatMap drC).take (i * 3) ++ (ds.flatMap drC).drop ((i + 1) * 3) = (ds.take i ++ ds.drop (i + 1)).flatMap drC := by
  rw [drC_take, drC_drop, List.flatMap_append]
/-- slices.Insert of a draft. -/
theorem drins_any (v : Value) (ds : List Dr20) (k : Dr20) (i sb B : Nat) (w : World) (h : DrAt w B v ds) (hk : PsAt w B (k :: ds)) (hh : ArrAt w sb 64 (drC k)) (hne : v.ownBlock ≠ some sb) (hi : i ≤ ds.length) (hn : ds.length ≤ 1000000) (hB : B ≤ w.heap.size) :
    Calls Try.prog 62 #[v, .int .i64 i, .slice (some ⟨sb, 0, none⟩) 1 1] w fun e w' => ∃ v', e = .returned v' ∧ DrAt w' B v' (ds.take i ++ k :: ds.drop i) ∧ Below B w w' ∧ w.grownBy w' v.ownBlock := by
  have h1 : ∀ u ∈ drC k, u.oneCell' = true := fun u hu => hk.one u (by rw [List.flatMap_cons]; exact List.mem_append_left _ hu)
  refine (insert_d v ds.length i sb (ds.flatMap drC) (drC k) w (ownsRow_mono h.row (Nat.zero_le _)) _ hh rfl h1 h.pcs.one hne hi hn).mono ?_
  rintro e w' ⟨v', rfl, h2, h3, h4⟩
  rw [drC_mid] at h2
  have hl : (ds.take i ++ k :: ds.drop i).length = ds.length + 1 := by simp; omega
  refine ⟨v', rfl, ⟨owns_base (by rw [hl]; exact h2) fun g hg => ?_, ?_⟩, (Below.refl B w).grown h3 hB fun b hb => (h.row.lt b hb).1, h3⟩
  · rcases h4 with e | e
    · rw [e] at hg; exact (h.row.lt g hg).1
    · rw [e] at hg; injection hg with hg; omega
  · have h5 := hk.row h.row (Turned.of_grown (S := fun b => v.ownBlock = some b) h3 fun _ e => e)
    refine h5.perm ?_
    have h6 : (k :: (ds.take i ++ ds.drop i)).Perm (ds.take i ++ k :: ds.drop i) := List.perm_middle.symm
    rwa [List.take_append_drop] at h6
/-- slices.Delete of a draft. -/
theorem drdel_any (v : Value) (ds : List Dr20) (i B : Nat) (w : World) (h : DrAt w B v ds) (hi : i < ds.length) (_hB : B ≤ w.heap.size) :
    Calls Try.prog 65 #[v, .int .i64 i, .int .i64 ((i : Int) + 1)] w fun e w' => ∃ v', e = .returned v' ∧ DrAt w' B v' (ds.take i ++ ds.drop (i + 1)) ∧ PsAt w' B (ds[i]'hi :: (ds.take i ++ ds.drop (i + 1))) ∧ w.grownBy w' v.ownBlock ∧ v'.ownBlock = v.ownBlock := by
  refine (delete_d v ds.length i (ds.flatMap drC) w (ownsRow_mono h.row (Nat.zero_le _)) h.pcs.one hi).mono ?_
  rintro e w' ⟨v', rfl, h2, h3, h4⟩
  rw [drC_less] at h2
  have hl : (ds.take i ++ ds.drop (i + 1)).length = ds.length - 1 := by simp; omega
  have hp : PsAt w' B (ds[i]'hi :: (ds.take i ++ ds.drop (i + 1))) := by
    have h5 := h.pcs.row h.row (Turned.of_grown (S := fun b => v.ownBlock = some b) h3 fun _ e => e)
    refine h5.perm ?_
    have e : ds = ds.take i ++ ds[i]'hi :: ds.drop (i + 1) := by simp
    have h6 : (ds[i]'hi :: (ds.take i ++ ds.drop (i + 1))).Perm (ds.take i ++ ds[i]'hi :: ds.drop (i + 1)) := List.perm_middle.symm
    rw [← e] at h6
    exact h6.symm
  exact ⟨v', rfl, ⟨owns_base (by rw [hl]; exact h2) fun g hg => by rw [h4] at hg; exact (h.row.lt g hg).1, hp.tail⟩, hp, h3, h4⟩
theorem fls_put {A C : List Dr20} {k : Dr20} {n d : List UInt8} (hr : Rise20 (fls20 (A ++ k :: C))) (hn : k.name = n) {k' : Dr20} (h1 : k'.name = n) (h2 : k'.text = d) : fls20 (A ++ k' :: C) = put20 (fls20 (A ++ k :: C)) n d := by
  have hl : A.length < (fls20 (A ++ k :: C)).length := by rw [fls_len]; simp
  have hg : ((fls20 (A ++ k :: C))[A.length]'hl).1 = n := by rw [fls_at _ _ (by simp)]; simp [hn]
  have hp : pos20 (fls20 (A ++ k :: C)) n < (fls20 (A ++ k :: C)).length := by
    rcases Nat.lt_or_ge (pos20 (fls20 (A ++ k :: C)) n) (fls20 (A ++ k :: C)).length with h | h
    · exact h
    · exact absurd hg (at_no (by omega) _ hl)
  have he : pos20 (fls20 (A ++ k :: C)) n = A.length := by
    have hpn := pos_name _ n hp
    rcases Nat.lt_trichotomy (pos20 (fls20 (A ++ k :: C)) n) A.length with h | h | h
    · have := rise_get20 hr h hl; rw [hpn, hg] at this; exact absurd this (lt_irr _)
    · exact h
    · have := rise_get20 hr h hp; rw [hpn, hg] at this; exact absurd this (lt_irr _)
  rw [put_pos, if_pos hp, he, fls_app, fls_app]
  have hA : A.length = (fls20 A).length := (fls_len A).symm
  rw [hA, List.set_append_right _ _ (Nat.le_refl _), Nat.sub_self]
  show _ = fls20 A ++ ((k.name, k.text) :: fls20 C).set 0 (n, d)
  rw [List.set_cons_zero]
  show fls20 A ++ (k'.name, k'.text) :: fls20 C = _
  rw [h1, h2]
theorem fls_ins {ds : List Dr20} {n d : List UInt8} {k : Dr20} (hp : ¬ pos20 (fls20 ds) n < (fls20 ds).length) (h1 : k.name = n) (h2 : k.text = d) : fls20 (ds.take (at20 (fls20 ds) n) ++ k :: ds.drop (at20 (fls20 ds) n)) = put20 (fls20 ds) n d := by
  rw [put_pos, if_neg hp]
  generalize at20 (fls20 ds) n = i
  subst h1 h2
  simp [fls20]
theorem DrBd.of_val {N : Nat} {ds : List Dr20} (hv : Val20 (fls20 ds)) (hp : ∀ d ∈ ds, d.ps.length ≤ N) : DrBd N ds := by
  have hm : ∀ d ∈ ds, (d.name, d.text) ∈ fls20 ds := fun d hd => List.mem_map.2 ⟨d, hd, rfl⟩
  refine ⟨?_, hp, fun d hd => ?_, fun d hd => ?_⟩
  · have := hv.few; rw [fls_len] at this; omega
  · have := hv.room _ (hm d hd); simp only at this; omega
  · have := hv.name _ (hm d hd)
    rw [name_eq, Bool.and_eq_true, decide_eq_true_eq] at this
    have h2 : d.name.length ≤ 16 := this.2
    omega
theorem DrBd.up {N M : Nat} {ds : List Dr20} (h : DrBd N ds) (hN : N ≤ M) : DrBd M ds := ⟨h.few, fun d hd => Nat.le_trans (h.pcs d hd) hN, h.txt, h.nam⟩
/-- What a step comes to. -/
def StepPost (w : World) (B N : Nat) (L : List Fl20) (e : Ending) (w' : World) : Prop := ∃ v es, e = .returned v ∧ DrAt w' B v es ∧ fls20 es = L ∧ (∀ d ∈ es, d.ps.length ≤ N) ∧ Below B w w'
theorem mid_eq {α : Type} (ds : List α) (i : Nat) (hi : i < ds.length) : ds = ds.take i ++ ds[i]'hi :: ds.drop (i + 1) := by simp
/-- The walk's frame over drafts: one's pieces have turned, and it is stored. -/
theorem DrAt.swap {w w2 : World} {B : Nat} {A C : List Dr20} {k k' : Dr20} {g cap : Nat} {u : Value} (h : DrAt w B (.slice (some ⟨g, 0, none⟩) (A ++ k :: C).length cap) (A ++ k :: C)) (ho : Strs w2 B k'.pv k'.ps) (ht : Turned (fun b => k.pv.ownBlock = some b) w w2) (hw : k'.pv.ownBlock = k.pv.ownBlock ∨ ∀ b, k'.pv.ownBlock = some b → w.heap.size ≤ b) (hu : u = .int .i64 k'.text.length) :
    DrAt (((w2.setCell ⟨g, A.length * 3, none⟩ (strV k'.name)).setCell ⟨g, A.length * 3 + 1, none⟩ k'.pv).setCell ⟨g, A.length * 3 + 2, none⟩ u) B (.slice (some ⟨g, 0, none⟩) (A ++ k :: C).length cap) (A ++ k' :: C) ∧ Below B w2 (((w2.setCell ⟨g, A.length * 3, none⟩ (strV k'.name)).setCell ⟨g, A.length * 3 + 1, none⟩ k'.pv).setCell ⟨g, A.length * 3 + 2, none⟩ u) := by
  have hr2 := ownsRow_turned h.row ht fun b hb hS => own_apart h.row (h.pcs.ins k (by simp)) t_ds hb hS
  have hp : PsAt w B (k :: (A ++ C)) := h.pcs.perm List.perm_middle
  have hp2 := (hp.swap ho ht hw).perm List.perm_middle.symm
  exact DrAt.put hr2 hp2 hu (h.row.lt g rfl).1
theorem turned_below {w w2 : World} {B : Nat} {v : Value} {E : TypeId} {z n : Nat} {xs : List Value} (h : w.ownsRow B E z v n xs) (ht : Turned (fun b => v.ownBlock = some b) w w2) (hB : B ≤ w.heap.size) : Below B w w2 := ht.below (fun i _ e => (h.lt i e).1) hB
end Go.Proofs.Ytahndjgamoojkaa
