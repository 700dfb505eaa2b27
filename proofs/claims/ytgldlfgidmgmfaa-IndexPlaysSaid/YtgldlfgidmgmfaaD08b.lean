/- The walks of layer 8's table: of, put, drop. -/
import Derived.Test.YtgldlfgidmgmfaaD08a
import Derived.Test.YtgldlfgidmgmfaaNu
import Derived.Deep.Onto
import Derived.Deep.AppendLies
import Derived.Outline
namespace Go.Proofs.Ytgldlfgidmgmfaa
open Go.RowKit

def OfPost (w : World) (tb : List Bk) (b : Int) (e : Ending) (w' : World) : Prop :=
  ∃ u, e = .returned u ∧ Below w.heap.size w w' ∧ ((∃ k ∈ tb, k.band = b ∧ u = k.val) ∨ (u = .slice none 0 0 ∧ ∀ k ∈ tb, k.band ≠ b))
theorem of_any (v : Value) (tb : List Bk) (b : Int) (w : World) (h : TbRow w v tb) (hs : (tb.map Bk.band).Pairwise (· < ·)) (hn : tb.length ≤ 1000000) :
    Calls Try.prog 35 #[v, .int .u64 b] w (OfPost w tb b) := by
  have hc := Lib.hid (find_any v tb b w h hs hn)
  replace h := Lib.hid h
  clear hs
  go_enter Try.func35, Try.ntmps35
  go_wp2_with fail
  refine hc.out.mono ?_; rintro e w1 ⟨i, is, rfl, hf, hb⟩
  clear hc
  cases is with
  | false =>
    have hno : Hid (∀ k ∈ tb, k.band ≠ b) := fun k hk => by
      obtain ⟨t, ht, rfl⟩ := List.mem_iff_getElem.1 hk
      exact hf.2.2 rfl t ht
    clear hf
    replace hb := Lib.hid hb
    go_wp2_with fail
    go_ret
    exact ⟨_, rfl, hb.out, Or.inr ⟨rfl, hno.out⟩⟩
  | true =>
    obtain ⟨hi, hbd⟩ := hf.2.1 rfl
    clear hf
    obtain ⟨g, cap, rfl, hc1, hc2, hg, hcell⟩ := (h.out.below hb).some_ (by omega)
    obtain ⟨x0, x1⟩ := hcell i hi
    clear hcell x0
    have hk : Hid (∃ k ∈ tb, k.band = b ∧ (tb[i]'hi).val = k.val) := ⟨_, List.getElem_mem hi, hbd, rfl⟩
    clear hbd
    generalize (tb[i]'hi).val = y at x1 hk
    replace hb := Lib.hid hb
    have k0 : (0 : Int) ≤ i := by omega
    have k1 : (i : Int) < tb.length := by omega
    go_wp2_with fail
    go_ret
    exact ⟨_, rfl, hb.out, Or.inl hk.out⟩

/-- What put and drop come to. -/
def TabPost (w : World) (v : Value) (tb : List Bk) (R : Int → Int → Prop) (m : Nat) (e : Ending) (w' : World) : Prop :=
  ∃ v' tb', e = .returned v' ∧ TabAt w' v' tb' ∧ TabHas tb' R m ∧ Turned (Foot v tb) w w' ∧ ∀ b, Foot v' tb' b → Foot v tb b ∨ w.heap.size ≤ b

theorem part_split {tb : List Bk} {b : Int} {i : Nat} (hf : Found tb b i false) : ∃ A C, tb = A ++ C ∧ A.length = i ∧ (∀ j ∈ A, j.band < b) ∧ ∀ j ∈ C, b < j.band := by
  refine ⟨tb.take i, tb.drop i, by simp, by have := hf.1.2.1; simp; omega, fun j hj => ?_, fun j hj => ?_⟩
  · obtain ⟨t, ht, rfl⟩ := List.mem_iff_getElem.1 hj
    have ht' : t < i ∧ t < tb.length := by simp at ht; omega
    rw [List.getElem_take]
    exact hf.1.2.2.1 t ht'.2 ht'.1
  · obtain ⟨t, ht, rfl⟩ := List.mem_iff_getElem.1 hj
    have ht' : i + t < tb.length := by simp at ht; omega
    rw [List.getElem_drop]
    have h1 := hf.1.2.2.2 (i + t) ht' (by omega)
    have h2 := hf.2.2 rfl (i + t) ht'
    omega
theorem arrAt_new2 (w : World) (o : Obj) (t : TypeId) (c : List Value) : ArrAt ((w.alloc o).alloc (.cells c.toArray t)) (w.heap.size + 1) t c := by
  have := arrAt_new (w.alloc o) t c
  rw [show (w.alloc o).heap.size = w.heap.size + 1 by simp] at this
  exact this
theorem row_ins {w : World} {v : Value} {A C : List Bk} {k' : Bk} {i : Nat} (hA : A.length = i) (h : w.ownsRow 0 78 2 v ((A ++ C).length + 1) ((cellsT (A ++ C)).take (i * 2) ++ k'.cells ++ (cellsT (A ++ C)).drop (i * 2))) : TbRow w v (A ++ k' :: C) := by
  unfold TbRow
  rw [cellsT_take, cellsT_drop, List.take_left' hA, List.drop_left' hA, List.append_assoc] at h
  rw [cellsT_app, show (A ++ k' :: C).length = (A ++ C).length + 1 by simp <;> omega]
  exact h
theorem row_del {w : World} {v : Value} {A C : List Bk} {k : Bk} {i : Nat} (hA : A.length = i) (h : w.ownsRow 0 78 2 v ((A ++ k :: C).length - 1) ((cellsT (A ++ k :: C)).take (i * 2) ++ (cellsT (A ++ k :: C)).drop ((i + 1) * 2))) : TbRow w v (A ++ C) := by
  unfold TbRow
  rw [cellsT_take, cellsT_drop, List.take_left' hA, show A ++ k :: C = (A ++ [k]) ++ C by simp, List.drop_left' (by simp [hA])] at h
  rw [cellsT_app, show (A ++ C).length = (A ++ [k] ++ C).length - 1 by simp <;> omega]
  exact h
set_option maxHeartbeats 1000000 in
theorem put_any (v : Value) (tb : List Bk) (R : Int → Int → Prop) (m : Nat) (b x : Int) (w : World) (h : TabAt w v tb) (hh : TabHas tb R m) (hx : ∀ c, ¬ R c x) (hm : m < 100000) :
    Calls Try.prog 29 #[v, .int .u64 b, .int .i64 x] w (TabPost w v tb (fun c y => R c y ∨ (c = b ∧ y = x)) (m + 1)) := by
  have hlen := hh.len
  have hc := Lib.hid (find_any v tb b w h.rows hh.rises (by omega))
  replace hh := Lib.hid hh
  replace h := Lib.hid h
  replace hx := Lib.hid hx
  go_enter Try.func29, Try.ntmps29
  go_wp2_with fail
  refine hc.out.mono ?_; rintro e w1 ⟨i, is, rfl, hf, hb⟩
  clear hc
  cases is with
  | false =>
    obtain ⟨A, C, rfl, hAl, hA, hC⟩ := part_split hf
    clear hf
    have hins := fun W sb hown hhW hne => insert_b v (A ++ C).length i sb (cellsT (A ++ C)) [.int .u64 b, .slice (some ⟨w1.heap.size, 0, none⟩) 1 1] W hown 78 hhW rfl (by simp [Value.oneCell']) (cellsT_one _) hne (by simp; omega) (by omega)
    replace hins := Lib.hid hins
    replace hb := Lib.hid hb
    replace hA := Lib.hid hA
    replace hC := Lib.hid hC
    replace hAl := Lib.hid hAl
    have hnb : Hid (v.ownBlock ≠ some (w1.heap.size + 1)) := fun e => by have := (h.out.rows.lt _ e).2; have := hb.out.size; omega
    go_wp2_with fail
    refine (hins.out _ _ (((ownsRow_below h.out.rows hb.out).alloc _).alloc _) (arrAt_new2 _ _ _ _) hnb.out).mono ?_; rintro e w2 ⟨v', rfl, ho, hg, hw⟩
    replace ho := Lib.hid ho
    replace hg := Lib.hid hg
    replace hw := Lib.hid hw
    clear hins
    go_wp2_with fail
    go_ret
    have hsz := hb.out.size
    have hW := ((hb.out.alloc hb.out.size (.cells #[.int .i64 x] 3)).alloc (by simp; omega) (.cells #[.int .u64 b, .slice (some ⟨w1.heap.size, 0, none⟩) 1 1] 78))
    have hone := ((ownsRow_one w1 3 (.int .i64 x)).alloc (.cells #[.int .u64 b, .slice (some ⟨w1.heap.size, 0, none⟩) 1 1] 78)).mono (Nat.zero_le _)
    obtain ⟨h1, h2, h3⟩ := h.out.fresh (k' := ⟨b, w1.heap.size, 1, [x]⟩) hW hone hsz (row_ins hAl.out ho.out) hg.out (by simpa using hw.out)
    exact ⟨v', _, rfl, h1, hh.out.fresh x rfl hA.out hC.out, h2, h3⟩
  | true =>
    obtain ⟨hi, hbd⟩ := hf.2.1 rfl
    clear hf
    obtain ⟨A, C, he, hAl⟩ := split_at hi
    obtain ⟨g, cap, rfl, hc1, hc2, hg, hcell⟩ := (h.out.rows.below hb).some_ (by omega)
    obtain ⟨x0, x1⟩ := hcell i hi
    clear hcell x0
    have hgt := (cellsT_get tb i hi).2
    generalize tb[i]'hi = k at he hbd x1 hgt
    replace hgt := Lib.hid hgt
    subst hbd
    have hkm : k ∈ tb := by rw [he]; simp
    obtain ⟨kn0, kn1, kn2⟩ := hh.out.names k hkm
    have hxk : x ∉ k.names := fun hm => hx.out k.band ((hh.out.mem _ _).2 ⟨k, hkm, rfl, hm⟩)
    have hp := countP_le_len (zs := k.names) x
    obtain ⟨r1, r2⟩ := rise_ins kn1 hxk rfl
    have hko := h.out.names k hkm
    have hgk : k.g ≠ g := fun e => own_apart h.out.rows hko (by decide) rfl (by rw [← e]; rfl)
    have hgl : k.g < w.heap.size := (hko.lt k.g rfl).2
    have hgl2 : g < w.heap.size := (h.out.rows.lt g rfl).2
    have hsr := Lib.hid (search_own k.val k.names x w1 (ownsRow_below hko hb) (by omega) kn1)
    have hins := fun W sb hown hhW hne => insert_i k.val k.names.length (k.names.countP (· < x)) sb (k.names.map (Value.int .i64)) [.int .i64 x] W hown 3 hhW rfl (by simp [Value.oneCell']) (by intro u hu; obtain ⟨y, _, rfl⟩ := List.mem_map.1 hu; rfl) hne hp (by omega)
    replace hins := Lib.hid hins
    have hfin : Hid (∀ (w3 : World) (k' : Bk), k'.band = k.band → k'.names = k.names.take (k.names.countP (· < x)) ++ [x] ++ k.names.drop (k.names.countP (· < x)) → w3.ownsRow 0 3 1 k'.val k'.names.length (k'.names.map (Value.int .i64)) →
        Turned (fun b => b = k.g) w w3 → (k'.g = k.g ∨ w.heap.size ≤ k'.g) → TabPost w (.slice (some ⟨g, 0, none⟩) tb.length cap) tb (fun c y => R c y ∨ (c = k.band ∧ y = x)) (m + 1) (.returned (.slice (some ⟨g, 0, none⟩) tb.length cap)) (w3.setCell ⟨g, i * 2 + 1, none⟩ k'.val)) := by
      intro w3 k' hb' hn' ho' ht' hg'
      have hT := h.out
      have hH := hh.out
      rw [he] at hT hH ⊢
      obtain ⟨h1, h2, h3⟩ := hT.swap (k' := k') hb' ho' ht' hg' rfl
      rw [hAl] at h1 h2
      refine ⟨_, _, rfl, h1, hH.more x hb' (by rw [hn']; exact r1) ?_ (by rw [hn']; exact r2), h2, h3⟩
      rw [hn']; simp; omega
    clear hx hh r1 r2 hxk kn0 kn1 kn2 he hAl hkm
    generalize k.names.countP (· < x) = p at hp hsr hins hfin
    replace hko := Lib.hid hko
    replace hb := Lib.hid hb
    have hNi : i < tb.length := hi
    have k0 : (0 : Int) ≤ i := by omega
    have k1 : (i : Int) < tb.length := by omega
    go_wp2_with fail
    refine hsr.out.mono ?_; rintro e w2 ⟨rfl, hd⟩
    replace hd := Lib.hid (hb.out.andThen (hd.below _))
    clear hsr
    go_wp2_with fail
    have hnb : k.val.ownBlock ≠ some w2.heap.size := fun e => by
      have e' : k.g = w2.heap.size := by injection e
      have := hd.out.size; omega
    refine (hins.out _ _ ((ownsRow_below hko.out hd.out).alloc _) (arrAt_new _ _ _) hnb).mono ?_; rintro e w3 ⟨v1, rfl, ho, hgr, hw⟩
    have hAl : Hid (Below w.heap.size w (w2.alloc (.cells #[.int .i64 x] 3))) := hd.out.alloc hd.out.size _
    have hT3 : Hid (Turned (fun b => b = k.g) w w3) := (Turned.of_below hAl.out).trans (Turned.of_grown (S := fun b => b = k.g) hgr fun _ e => by injection e with e; exact e.symm) fun _ _ h => h
    obtain ⟨g', cap', rfl, _, hl'⟩ := ho.form (by omega)
    have hrow3 := ownsRow_turned h.out.rows hT3.out fun b e hS => by injection e with e; exact hgk ((show b = k.g from hS).symm.trans e.symm)
    have c3 : w3.cell? ⟨g, i * 2 + 1, none⟩ = some k.val := by rw [World.ownsRow.cellAt hrow3 _ (by omega)]; exact hgt.out
    have f3 : w3.frozen? ⟨g, i * 2 + 1, none⟩ = false := World.ownsRow.frozenAt hrow3 _
    have hl3 : (k.names.take p ++ [x] ++ k.names.drop p).length = k.names.length + 1 := by simp; omega
    have hend := hfin.out w3 ⟨k.band, g', cap', k.names.take p ++ [x] ++ k.names.drop p⟩ rfl rfl (by
      unfold Bk.val
      show w3.ownsRow 0 _ 1 (.slice (some ⟨g', 0, none⟩) (k.names.take p ++ [x] ++ k.names.drop p).length cap') (k.names.take p ++ [x] ++ k.names.drop p).length _
      rw [hl3]
      rw [Nat.mul_one] at ho
      simpa using ho) hT3.out (by
      rcases hw with hw | hw
      · exact Or.inl (by injection hw)
      · refine Or.inr ?_
        have e' : g' = (w2.alloc (.cells #[.int .i64 x] 3)).heap.size := by injection hw
        have := hAl.out.size
        show w.heap.size ≤ g'
        omega)
    unfold Bk.val at hend
    simp only [hl3] at hend
    clear hl3 hw hgr ho hrow3 hfin hins
    replace hend := Lib.hid hend
    clear x1
    have i0 : (0 : Int) ≤ i := by omega
    go_wp2_with fail
    go_ret
    exact hend.out

set_option maxHeartbeats 1000000 in
theorem drop_any (v : Value) (tb : List Bk) (R : Int → Int → Prop) (m : Nat) (b x : Int) (w : World) (h : TabAt w v tb) (hh : TabHas tb R m) (hx : R b x) (hm : m < 100000) :
    Calls Try.prog 31 #[v, .int .u64 b, .int .i64 x] w (TabPost w v tb (fun c y => R c y ∧ ¬ (c = b ∧ y = x)) m) := by
  have hlen := hh.len
  have hc := Lib.hid (find_any v tb b w h.rows hh.rises (by omega))
  obtain ⟨k, hkm, rfl, hxk⟩ := (hh.mem b x).1 hx
  clear hx
  replace hh := Lib.hid hh
  replace h := Lib.hid h
  replace hkm := Lib.hid hkm
  replace hxk := Lib.hid hxk
  go_enter Try.func31, Try.ntmps31
  go_wp2_with fail
  refine hc.out.mono ?_; rintro e w1 ⟨i, is, rfl, hf, hb⟩
  clear hc
  cases is with
  | false =>
    obtain ⟨t, ht, e⟩ := List.mem_iff_getElem.1 hkm.out
    exact absurd (by rw [e]) (hf.2.2 rfl t ht)
  | true =>
    obtain ⟨hi, hbd⟩ := hf.2.1 rfl
    clear hf
    have hik : tb[i]'hi = k := by
      obtain ⟨t, ht, e⟩ := List.mem_iff_getElem.1 hkm.out
      rcases Nat.lt_trichotomy i t with h' | h' | h'
      · have := rises_get hh.out.rises h' ht; rw [e] at this; omega
      · subst h'; exact e
      · have := rises_get hh.out.rises h' hi; rw [e] at this; omega
    obtain ⟨A, C, he, hAl⟩ := split_at hi
    obtain ⟨g, cap, rfl, hc1, hc2, hg, hcell⟩ := (h.out.rows.below hb).some_ (by omega)
    obtain ⟨x0, x1⟩ := hcell i hi
    clear hcell x0
    have hgt := (cellsT_get tb i hi).2
    rw [hik] at he x1 hgt
    clear hik hbd
    replace hgt := Lib.hid hgt
    obtain ⟨kn0, kn1, kn2⟩ := hh.out.names k hkm.out
    obtain ⟨hp, r1, r2⟩ := rise_del kn1 hxk.out rfl
    have hko := h.out.names k hkm.out
    have hgk : k.g ≠ g := fun e => own_apart h.out.rows hko (by decide) rfl (by rw [← e]; rfl)
    have hgl : k.g < w.heap.size := (hko.lt k.g rfl).2
    have hgl2 : g < w.heap.size := (h.out.rows.lt g rfl).2
    have k0 : (0 : Int) ≤ i := by omega
    have k1 : (i : Int) < tb.length := by omega
    unfold Bk.val at x1
    by_cases h1 : k.names.length = 1
    · have hkx : k.names = [x] := by
        obtain ⟨y, hy⟩ := List.length_eq_one_iff.1 h1
        have := hxk.out
        rw [hy] at this ⊢
        rw [List.mem_singleton.1 this]
      have hdl := Lib.hid (delete_b (.slice (some ⟨g, 0, none⟩) tb.length cap) tb.length i (cellsT tb) w1 (ownsRow_below h.out.rows hb) (cellsT_one _) hi)
      clear r1 r2 kn0 kn1 kn2 hp hxk hko
      replace he := Lib.hid he
      replace hAl := Lib.hid hAl
      replace hkx := Lib.hid hkx
      replace hb := Lib.hid hb
      replace hi := Lib.hid hi
      rw [h1] at x1
      clear h1
      go_wp2_with fail
      refine hdl.out.mono ?_; rintro e w2 ⟨v', rfl, ho, hgr, hw⟩
      replace ho := Lib.hid ho
      replace hgr := Lib.hid hgr
      replace hw := Lib.hid hw
      clear hdl
      go_wp2_with fail
      go_ret
      have hT := h.out
      have hH := hh.out
      have ho' := ho.out
      have hgr' := hgr.out
      have he' := he.out
      generalize tb.length = N at hT hgr' hw ⊢
      subst he'
      obtain ⟨g1, g2, g3⟩ := (hT.below hb.out).gone (row_del hAl.out ho') hgr' hw.out
      refine ⟨v', _, rfl, g1, hH.gone x hkx.out, (Turned.of_below hb.out).trans g2 fun i _ h => h, fun b hb' => ?_⟩
      rcases g3 b hb' with h' | h'
      · exact Or.inl h'
      · exact Or.inr (Nat.le_trans hb.out.size h')
    · have hsr := Lib.hid (search_own k.val k.names x w1 (ownsRow_below hko hb) (by omega) kn1)
      have hdl := fun W hown => delete_i k.val k.names.length (k.names.countP (· < x)) (k.names.map (Value.int .i64)) W hown (by intro u hu; obtain ⟨y, _, rfl⟩ := List.mem_map.1 hu; rfl) hp
      replace hdl := Lib.hid hdl
      have hn0 : k.names.take (k.names.countP (· < x)) ++ k.names.drop (k.names.countP (· < x) + 1) ≠ [] := fun e => by
        have := congrArg List.length e
        rw [List.length_append, List.length_take, List.length_drop, List.length_nil] at this
        omega
      have hfin : Hid (∀ (w3 : World) (k' : Bk), k'.band = k.band → k'.names = k.names.take (k.names.countP (· < x)) ++ k.names.drop (k.names.countP (· < x) + 1) → w3.ownsRow 0 3 1 k'.val k'.names.length (k'.names.map (Value.int .i64)) →
          Turned (fun b => b = k.g) w w3 → (k'.g = k.g ∨ w.heap.size ≤ k'.g) → TabPost w (.slice (some ⟨g, 0, none⟩) tb.length cap) tb (fun c y => R c y ∧ ¬ (c = k.band ∧ y = x)) m (.returned (.slice (some ⟨g, 0, none⟩) tb.length cap)) (w3.setCell ⟨g, i * 2 + 1, none⟩ k'.val)) := by
        intro w3 k' hb' hn' ho' ht' hg'
        have hT := h.out
        have hH := hh.out
        rw [he] at hT hH ⊢
        obtain ⟨h1, h2, h3⟩ := hT.swap (k' := k') hb' ho' ht' hg' rfl
        rw [hAl] at h1 h2
        refine ⟨_, _, rfl, h1, hH.less x hb' (by rw [hn']; exact r1) ?_ (by rw [hn']; exact hn0) (by rw [hn']; exact r2), h2, h3⟩
        have e := congrArg List.length hn'
        rw [List.length_append, List.length_take, List.length_drop] at e
        omega
      have hw1 : IntKind.i64.wrap ((k.names.countP (· < x) : Nat) + 1) = ((k.names.countP (· < x) : Nat) : Int) + 1 := by rw [IntKind.wrap_i64]; omega
      clear hh r1 r2 hxk kn0 kn1 he hAl hkm hn0
      generalize k.names.countP (· < x) = p at hp hsr hdl hfin hw1
      replace hko := Lib.hid hko
      replace hb := Lib.hid hb
      have hne1 : ((k.names.length : Int) == 1) = false := by simpa using (by omega : ¬ (k.names.length : Int) = 1)
      go_wp2_with fail
      refine hsr.out.mono ?_; rintro e w2 ⟨rfl, hd⟩
      replace hd := Lib.hid (hb.out.andThen (hd.below _))
      clear hsr
      go_wp2_with fail
      refine (hdl.out _ (ownsRow_below hko.out hd.out)).mono ?_; rintro e w3 ⟨v1, rfl, ho, hgr, hw⟩
      have hT3 : Hid (Turned (fun b => b = k.g) w w3) := (Turned.of_below hd.out).trans (Turned.of_grown (S := fun b => b = k.g) hgr fun _ e => by injection e with e; exact e.symm) fun _ _ h => h
      obtain ⟨g', cap', rfl, _, hl'⟩ := ho.form (by omega)
      have hrow3 := ownsRow_turned h.out.rows hT3.out fun b e hS => by injection e with e; exact hgk ((show b = k.g from hS).symm.trans e.symm)
      have c3 : w3.cell? ⟨g, i * 2 + 1, none⟩ = some k.val := by rw [World.ownsRow.cellAt hrow3 _ (by omega)]; exact hgt.out
      have f3 : w3.frozen? ⟨g, i * 2 + 1, none⟩ = false := World.ownsRow.frozenAt hrow3 _
      have hl3 : (k.names.take p ++ k.names.drop (p + 1)).length = k.names.length - 1 := by simp; omega
      have hend := hfin.out w3 ⟨k.band, g', cap', k.names.take p ++ k.names.drop (p + 1)⟩ rfl rfl (by
        unfold Bk.val
        show w3.ownsRow 0 _ 1 (.slice (some ⟨g', 0, none⟩) (k.names.take p ++ k.names.drop (p + 1)).length cap') (k.names.take p ++ k.names.drop (p + 1)).length _
        rw [hl3]
        rw [Nat.mul_one, Nat.mul_one] at ho
        simpa using ho) hT3.out (Or.inl (by injection hw))
      unfold Bk.val at hend
      simp only [hl3] at hend
      clear hl3 hw hgr ho hrow3 hfin hdl
      replace hend := Lib.hid hend
      clear x1
      go_wp2_with fail
      go_ret
      exact hend.out
end Go.Proofs.Ytgldlfgidmgmfaa
