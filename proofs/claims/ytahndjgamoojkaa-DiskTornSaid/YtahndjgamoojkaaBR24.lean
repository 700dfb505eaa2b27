/- slices.Insert and slices.Delete at []draft: made by gen_ins.py. -/
import Derived.Test.YtahndjgamoojkaaBR23
import Derived.Outline
namespace Go.Proofs.Ytahndjgamoojkaa
open Go.RowKit

theorem info_d : (Try.prog.info? 64).map (fun i => (i.zero, i.size, i.bytes)) = some (some (.agg #[.string ⟨#[]⟩, .slice none 0 0, .int .i64 0]), 3, 48) := by kernel_rfl
theorem one_d : (Try.prog.info? 64).map (·.size) = some 3 := by kernel_rfl
theorem overlaps_d (w : World) (g sb off la ca lb cb : Nat) (cg ch : List Value) (tg th : TypeId) (hg : ArrAt w g tg cg) (hh : ArrAt w sb th ch) (hne : sb ≠ g) (h0 : cg ≠ []) :
    (callFunc 71 #[.slice (some ⟨sb, 0, none⟩) la ca, .slice (some ⟨g, off, none⟩) lb cb]).run Try.prog w = .ok (.value (.bool false)) w := by
  rw [run_callFunc_extern Try.func71 (by kernel_rfl) (by kernel_rfl) (by kernel_rfl) (e := Extern.SlicesOverlaps.overlaps #[50, 50] #[4]) (by kernel_rfl),
    run_overlaps_row w 50 4 64 Try.underlying50 3 (fun _ => by kernel_rfl) g sb off la ca lb cb cg ch tg th hg hh hne h0]
  rfl

set_option maxHeartbeats 1000000 in
set_option maxRecDepth 100000 in
theorem ins_end_d (v : Value) (n sb : Nat) (xs news : List Value) (w : World) (hown : w.ownsRow 0 64 3 v n xs) (th : TypeId) (hh : ArrAt w sb th news) (hl : news.length = 3) (h1 : ∀ u ∈ news, u.oneCell' = true) (hn : n ≤ 1000000) :
    Calls Try.prog 62 #[v, .int .i64 n, .slice (some ⟨sb, 0, none⟩) 1 1] w (InsPost 64 3 w v (n + 1) (xs ++ news)) := by
  obtain ⟨i0, hi, hz0, hz1, hz2⟩ := info_parts info_d
  have hnews : Hid (∀ j u, news[j]? = some u → w.cell? ((⟨sb, 0, none⟩ : Addr).add j) = some u) := hh.news
  rcases id hown.2 with ⟨rfl, rfl⟩ | ⟨g, cap, cur, rfl, _, _, hnc, hcm, _, _⟩
  · replace hown := Lib.hid hown
    go_enter Try.func62, Try.ntmps62
    go_wp2_with (at_builtin; refine wpList_append_own_at2 _ rfl _ _ 50 50 rfl 0 64 64 i0 _ 3 48 Try.underlying50 Try.underlying50 hi hz0 hz1 hz2 rfl (by decide) _ 0 xs rfl hown.out ⟨sb, 0, none⟩ 1 1 news rfl (by rw [hl]) hnews.out h1 (by unfold maxLen; omega) (by decide) (Nat.zero_le _) ?_; intro v' w' ho hg hw; replace ho := Lib.hid ho; replace hg := Lib.hid hg; replace hw := Lib.hid hw)
    go_ret
    exact ⟨v', rfl, ho.out, hg.out, hw.out⟩
  · unfold maxLen at hcm
    replace hown := Lib.hid hown
    by_cases hce : cap = n
    · subst hce
      go_enter Try.func62, Try.ntmps62
      go_wp2_with (at_builtin; refine wpList_append_own_at2 _ rfl _ _ 50 50 rfl 0 64 64 i0 _ 3 48 Try.underlying50 Try.underlying50 hi hz0 hz1 hz2 rfl (by decide) _ cap xs rfl hown.out ⟨sb, 0, none⟩ 1 1 news rfl (by rw [hl]) hnews.out h1 (by unfold maxLen; omega) (by omega) (Nat.zero_le _) ?_; intro v' w' ho hg hw; replace ho := Lib.hid ho; replace hg := Lib.hid hg; replace hw := Lib.hid hw)
      go_ret
      exact ⟨v', rfl, ho.out, hg.out, hw.out⟩
    · go_enter Try.func62, Try.ntmps62
      go_wp2_with (at_builtin; refine wpList_append_own_at2 _ rfl _ _ 50 50 rfl 0 64 64 i0 _ 3 48 Try.underlying50 Try.underlying50 hi hz0 hz1 hz2 rfl (by decide) _ n xs rfl hown.out ⟨sb, 0, none⟩ 1 1 news rfl (by rw [hl]) hnews.out h1 (by unfold maxLen; omega) (by omega) (Nat.zero_le _) ?_; intro v' w' ho hg hw; replace ho := Lib.hid ho; replace hg := Lib.hid hg; replace hw := Lib.hid hw)
      go_ret
      exact ⟨v', rfl, ho.out, hg.out, hw.out⟩

set_option maxHeartbeats 1000000 in
set_option maxRecDepth 100000 in
theorem ins_shift_d (g n cap i sb : Nat) (cur news : List Value) (w : World) (hg : ArrAt w g 64 cur) (hcl : cur.length = cap * 3) (hcm : cap ≤ maxLen) (th : TypeId) (hh : ArrAt w sb th news) (hl : news.length = 3) (h1 : ∀ u ∈ news, u.oneCell' = true) (h1c : ∀ u ∈ cur.take (n * 3), u.oneCell' = true) (hne : sb ≠ g) (hi : i < n) (hroom : n + 1 ≤ cap) :
    Calls Try.prog 62 #[.slice (some ⟨g, 0, none⟩) n cap, .int .i64 i, .slice (some ⟨sb, 0, none⟩) 1 1] w (InsPost 64 3 w (.slice (some ⟨g, 0, none⟩) n cap) (n + 1) ((cur.take (n * 3)).take (i * 3) ++ news ++ (cur.take (n * 3)).drop (i * 3))) := by
  unfold maxLen at hcm
  have hov := fun la ca lb cb off => overlaps_d w g sb off la ca lb cb cur news _ _ hg hh hne (by intro e; subst e; simp at hcl; omega)
  obtain ⟨X, hX⟩ : ∃ X, (cur.take (n * 3)).drop (i * 3) = X := ⟨_, rfl⟩
  have hXl : X.length = (n - i) * 3 := by rw [← hX, List.length_drop, List.length_take, hcl]; omega
  have hXs : ∀ j u, X[j]? = some u → w.cell? ((⟨g, i * 3, none⟩ : Addr).add j) = some u := fun j u hu => by
    rw [addr_at, hg.cell]
    rw [← hX, List.getElem?_drop, List.getElem?_take] at hu
    split at hu
    · exact hu
    · cases hu
  have hX1 : ∀ u ∈ X, u.oneCell' = true := fun u hu => h1c u (by rw [← hX] at hu; exact List.mem_of_mem_drop hu)
  have hnews : ∀ W, ArrAt W sb th news → ∀ j u, news[j]? = some u → W.cell? ((⟨sb, 0, none⟩ : Addr).add j) = some u := fun W hW => hW.news
  have hfin := ins_shift cur news (n * 3) (i * 3) (by omega) (by rw [hl, hcl]; omega)
  rw [hX] at hfin ⊢
  rw [hl] at hfin
  have hlen2 : (splice cur (i * 3 + 3) X).length = cap * 3 := by rw [length_splice _ _ _ (by rw [hXl, hcl]; omega), hcl]
  have hlen3 : (splice (splice cur (i * 3 + 3) X) (i * 3) news).length = cap * 3 := by rw [length_splice _ _ _ (by rw [hlen2, hl]; omega), hlen2]
  generalize (cur.take (n * 3)).take (i * 3) ++ news ++ X = Y at hfin ⊢
  have hXm : X.length = Nat.min (n + 1 - i) (n - i) * 3 := by rw [hXl]; congr 1; exact (Nat.min_eq_right (by omega)).symm
  have hnm : news.length = Nat.min 1 (n + 1 - i) * 3 := by rw [hl, show Nat.min 1 (n + 1 - i) = 1 from Nat.min_eq_left (by omega)]
  have hf1 : (i + 1) * 3 + X.length ≤ cur.length := by rw [hXl, hcl]; omega
  have hf2 : i * 3 + news.length ≤ (splice cur (i * 3 + 3) X).length := by rw [hlen2, hl]; omega
  rw [show i * 3 + 3 = (i + 1) * 3 by omega] at hfin hlen2 hlen3 hf2
  try simp only [Nat.mul_one] at hX hXl hXs hf1 hf2 hfin hlen2 hlen3 hcl
  replace hXm := Lib.hid hXm
  replace hnm := Lib.hid hnm
  replace hf1 := Lib.hid hf1
  replace hf2 := Lib.hid hf2
  replace hX := Lib.hid hX
  replace hXl := Lib.hid hXl
  replace hfin := Lib.hid hfin
  replace hlen2 := Lib.hid hlen2
  replace hlen3 := Lib.hid hlen3
  replace hcl := Lib.hid hcl
  replace hl := Lib.hid hl
  have hgh := Lib.hid hg
  have hhh := Lib.hid hh
  clear hg hh
  replace h1 := Lib.hid h1
  replace hX1 := Lib.hid hX1
  replace hXs := Lib.hid hXs
  replace hnews := Lib.hid hnews
  clear h1c
  have q1 : ¬ ((i : Int) = (n : Int)) := by omega
  have q2 : ¬ (cap = i + 1) := by omega
  have q3 : ¬ (cap = i) := by omega
  have b0 : (0 : Int) ≤ (i : Int) := by omega
  have b1 : (i : Int) ≤ (n : Int) := by omega
  have b2 : (i : Int) + 1 ≤ (n : Int) := by omega
  have b3 : (0 : Int) ≤ (i : Int) + 1 := by omega
  have b4 : (i : Int) + 1 ≤ (n : Int) + 1 := by omega
  have b5 : (i : Int) ≤ (n : Int) + 1 := by omega
  have hw1 : IntKind.i64.wrap ((i : Int) + 1) = (i : Int) + 1 := by rw [IntKind.wrap_i64]; omega
  have ht : ((i : Int) + 1).toNat = i + 1 := by omega
  go_enter Try.func62, Try.ntmps62
  go_wp2_with (simp only [hov])
  go_region_law (refine step_copy_k rfl (.tmp 73) (.tmp 76) 50 50 rfl 64 3 Try.underlying50 one_d g ((i + 1) * 3) (n - i) (cap - (i + 1)) ⟨g, (i * 3), none⟩ (n + 1 - i) (cap - i) (by simp [Act.eval, Act.put]) (by simp [Act.eval, Act.put]) cur 64 hgh.out X hXm.out hXs.out hf1.out hX1.out ?_; intro w1 hg1 hgr1; replace hgr1 := Lib.hid (grown_drew hgr1))
  have hh1 := Lib.hid (hhh.out.grown hgr1.out (fun e => hne (by injection e)))
  go_wp2_with (with_reducible refine wpList_copy_k rfl (.tmp 80) (.tmp 81) 50 50 rfl 64 3 Try.underlying50 one_d g (i * 3) (n + 1 - i) (cap - i) ⟨sb, 0, none⟩ 1 1 rfl rfl _ 64 hg1.out news hnm.out (hnews.out _ hh1.out) hf2.out h1.out ?_; intro w2 hg2 hgr2)
  go_ret
  exact ⟨_, rfl, ArrAt.owns hg2.out (by rw [show (n + 1) * 3 = n * 3 + 3 by omega]; first | exact hfin.out | (simp only [Nat.mul_one]; exact hfin.out)) (by first | exact hlen3.out | (rw [Nat.mul_one]; exact hlen3.out)) (by omega) (by unfold maxLen; omega), grown_trans hgr1.out hgr2, Or.inl rfl⟩

set_option maxHeartbeats 1000000 in
set_option maxRecDepth 100000 in
theorem ins_grow_d (g n cap i sb : Nat) (cur news : List Value) (w : World) (hg : ArrAt w g 64 cur) (hcl : cur.length = cap * 3) (th : TypeId) (hh : ArrAt w sb th news) (hl : news.length = 3) (h1 : ∀ u ∈ news, u.oneCell' = true) (h1c : ∀ u ∈ cur.take (n * 3), u.oneCell' = true) (hi : i < n) (hnc : n ≤ cap) (hroom : cap < n + 1) (hn : n ≤ 1000000) :
    Calls Try.prog 62 #[.slice (some ⟨g, 0, none⟩) n cap, .int .i64 i, .slice (some ⟨sb, 0, none⟩) 1 1] w (InsPost 64 3 w (.slice (some ⟨g, 0, none⟩) n cap) (n + 1) ((cur.take (n * 3)).take (i * 3) ++ news ++ (cur.take (n * 3)).drop (i * 3))) := by
  obtain ⟨i0, hi0, hz0, hz1, hz2⟩ := info_parts info_d
  obtain ⟨xs, hxs⟩ : ∃ xs, cur.take (n * 3) = xs := ⟨_, rfl⟩
  have hxl : xs.length = n * 3 := by rw [← hxs, List.length_take, hcl]; omega
  have hcell : ∀ j u, xs[j]? = some u → w.cell? ⟨g, j, none⟩ = some u := fun j u hu => by
    rw [hg.cell]
    rw [← hxs, List.getElem?_take] at hu
    split at hu
    · exact hu
    · cases hu
  rw [hxs] at h1c ⊢
  obtain ⟨H, hH⟩ : ∃ H, w.heap.size = H := ⟨_, rfl⟩
  have gH : g < H := by rw [← hH]; exact hg.lt
  have hHl : sb < H := by rw [← hH]; exact hh.lt
  obtain ⟨X, hX⟩ : ∃ X, xs.drop (i * 3) = X := ⟨_, rfl⟩
  obtain ⟨O, hO⟩ : ∃ O, xs.take (i * 3) = O := ⟨_, rfl⟩
  have hXl : X.length = (n - i) * 3 := by rw [← hX, List.length_drop, hxl]; omega
  have hOl : O.length = i * 3 := by rw [← hO, List.length_take, hxl]; omega
  have hXm : X.length = Nat.min (n - i) (n - i) * 3 := by rw [hXl]; congr 1; exact (Nat.min_self _).symm
  have hnm : news.length = Nat.min 1 (n + 1 - i) * 3 := by rw [hl, show Nat.min 1 (n + 1 - i) = 1 from Nat.min_eq_left (by omega)]
  have hXs : ∀ j u, X[j]? = some u → w.cell? ((⟨g, i * 3, none⟩ : Addr).add j) = some u := fun j u hu => by
    rw [addr_at]
    exact hcell _ _ (by rw [← hX, List.getElem?_drop] at hu; exact hu)
  have hOs : ∀ j u, O[j]? = some u → w.cell? ((⟨g, 0, none⟩ : Addr).add j) = some u := fun j u hu => by
    rw [addr_at, Nat.zero_add]
    refine hcell _ _ ?_
    rw [← hO, List.getElem?_take] at hu
    split at hu
    · exact hu
    · cases hu
  have hX1 : ∀ u ∈ X, u.oneCell' = true := fun u hu => h1c u (by rw [← hX] at hu; exact List.mem_of_mem_drop hu)
  have hfin := fun tail hN => ins_grow xs tail news (n * 3) (i * 3) (by omega) hxl hN
  rw [hX, hO] at hfin
  rw [hX, hO]
  rw [hl] at hfin
  rw [show i * 3 + 3 = (i + 1) * 3 by omega] at hfin
  have hnews : ∀ W, ArrAt W sb th news → ∀ j u, news[j]? = some u → W.cell? ((⟨sb, 0, none⟩ : Addr).add j) = some u := fun W hW => hW.news
  have hlow : ∀ W', Below H w W' → ∀ j u, X[j]? = some u → W'.cell? ((⟨g, i * 3, none⟩ : Addr).add j) = some u := fun W' hb j u hu => by
    rw [hb.cell (by rw [addr_at]; exact gH)]; exact hXs j u hu
  obtain ⟨Y, hY⟩ : ∃ Y, O ++ news ++ X = Y := ⟨_, rfl⟩
  rw [hY] at hfin ⊢
  try simp only [Nat.mul_one] at hfin hXs hOl hlow
  replace hY := Lib.hid hY
  replace hX := Lib.hid hX
  replace hO := Lib.hid hO
  replace hxs := Lib.hid hxs
  replace hxl := Lib.hid hxl
  replace hXl := Lib.hid hXl
  replace hOl := Lib.hid hOl
  replace hXm := Lib.hid hXm
  replace hnm := Lib.hid hnm
  replace hXs := Lib.hid hXs
  replace hOs := Lib.hid hOs
  replace hX1 := Lib.hid hX1
  replace hfin := Lib.hid hfin
  replace hnews := Lib.hid hnews
  replace hlow := Lib.hid hlow
  replace hcell := Lib.hid hcell
  have hhh := Lib.hid hh
  replace hl := Lib.hid hl
  replace hcl := Lib.hid hcl
  replace h1 := Lib.hid h1
  clear hg hh h1c
  have hHH := Lib.hid hH
  clear hH
  have q1 : ¬ ((i : Int) = (n : Int)) := by omega
  have q3 : ¬ (cap = i) := by omega
  have b0 : (0 : Int) ≤ (i : Int) := by omega
  have b1 : (i : Int) ≤ (n : Int) := by omega
  have b2 : (i : Int) + 1 ≤ (n : Int) := by omega
  have b3 : (0 : Int) ≤ (i : Int) + 1 := by omega
  have b4 : (i : Int) + 1 ≤ (n : Int) + 1 := by omega
  have b5 : (i : Int) ≤ (n : Int) + 1 := by omega
  have hw1 : IntKind.i64.wrap ((i : Int) + 1) = (i : Int) + 1 := by rw [IntKind.wrap_i64]; omega
  have ht : ((i : Int) + 1).toNat = i + 1 := by omega
  have s1 : Hid (O.length = i * 3) := by show _ = _; have := hOl.out; omega
  have s2 : Hid ((n : Int) + 1 - i = ((n + 1 - i : Nat) : Int)) := by show _ = _; omega
  have s3 : 0 < n + 1 - i := by omega
  have s4 : Hid (i + (n + 1 - i) = n + 1) := by show _ = _; omega
  have s5 : (n + 1) * i0.bytes ≤ 140737488355328 := by rw [hz2]; omega
  have s6 : n + 1 ≤ 9223372036854775807 := by omega
  replace hz2 := Lib.hid hz2
  have q4 : (cap : Int) < (n : Int) + 1 := by omega
  go_enter Try.func62, Try.ntmps62
  go_wp2_with (first
    | (at_builtin; refine wpList_append_zeros rfl _ _ 50 3 rfl 64 i0 _ 3 .i64 Try.underlying50 Try.underlying3 hi0 hz0 hz1 rfl (by decide) ⟨g, 0, none⟩ i cap rfl O s1.out hOs.out (n + 1 - i) .i64 _ rfl s2.out s3 (n + 1) H s4.out hHH.out hroom s5 s6 ?_; intro G tail w1 hG1 hG2 hlen1 hr1 hb1 hs1; unfold maxLen at hG2; have hg0 : i < G := (by omega); have hg1 : i + 1 < G := (by omega); have hz5 : ¬ (G = i) := Nat.ne_of_gt hg0; have hz6 : ¬ (G = i + 1) := Nat.ne_of_gt hg1; replace hb1 := Lib.hid hb1)
    | (with_reducible refine wpList_copy_k rfl (.tmp 43) (.tmp 44) 50 50 rfl 64 3 Try.underlying50 one_d H (i * 3) (n + 1 - i) (G - i) ⟨sb, 0, none⟩ 1 1 rfl rfl _ 64 hr1.out news hnm.out (hnews.out _ (hhh.out.below hb1.out hHl)) (by have := hlen1.out; have := hl.out; omega) h1.out ?_; intro w2 hr2 hgr2; replace hgr2 := Lib.hid hgr2))
  have hlen2 : Hid ((splice (O ++ tail) (i * 3) news).length = G * 3) := by
    have h1 := hlen1.out
    have h2 := hl.out
    show _ = _
    rw [length_splice _ _ _ (by omega)]; exact h1
  have hlen3 : Hid ((splice (splice (O ++ tail) (i * 3) news) ((i + 1) * 3) X).length = G * 3) := by
    have h1 := hlen2.out
    have h2 := hXl.out
    show _ = _
    rw [length_splice _ _ _ (by omega)]; exact h1
  have hb2 : Hid (Below H w w2) := hb1.out.trans ⟨hgr2.out.os, hgr2.out.tape, hgr2.out.output, hgr2.out.size, fun k hk => hgr2.out.block k (by omega) (fun e => by injection e; omega)⟩
  have hX2 : Hid (∀ j u, X[j]? = some u → w2.cell? ((⟨g, (i * 3), none⟩ : Addr).add j) = some u) := hlow.out w2 hb2.out
  have hfin1 : Hid (((splice (splice (O ++ tail) (i * 3) news) ((i + 1) * 3) X)).take ((n + 1) * 3) = Y) := by
    have h1 := hlen1.out
    have h2 := hOl.out
    rw [List.length_append] at h1
    have h3 := hfin.out tail (by omega)
    show _ = _
    rw [show (n + 1) * 3 = n * 3 + 3 by omega]
    first | exact h3 | (simp only [Nat.mul_one]; exact h3)
  go_region_law (refine step_copy_k rfl (.tmp 50) (.tmp 53) 50 50 rfl 64 3 Try.underlying50 one_d H ((i + 1) * 3) (n - i) (G - (i + 1)) ⟨g, (i * 3), none⟩ (n - i) (cap - i) (by simp [Act.eval, Act.put]) (by simp [Act.eval, Act.put]) _ 64 hr2.out X hXm.out hX2.out (by have := hlen2.out; have := hXl.out; omega) hX1.out ?_; intro w3 hr3 hgr3; replace hgr3 := Lib.hid (grown_drew hgr3))
  go_wp2_with fail
  go_ret
  have hsz := hHH.out
  refine ⟨_, rfl, ArrAt.owns hr3.out hfin1.out hlen3.out (by omega) (by unfold maxLen; omega), ?_, Or.inr (by rw [hsz]; rfl)⟩
  exact ⟨(hgr3.out.os.trans hb2.out.os), (hgr3.out.tape.trans hb2.out.tape), (hgr3.out.output.trans hb2.out.output), Nat.le_trans hb2.out.size hgr3.out.size, fun k hk _ => (hgr3.out.block k (Nat.lt_of_lt_of_le hk hb2.out.size) (fun e => by injection e; omega)).trans (hb2.out.block k (by omega))⟩

/-- slices.Insert of one element, into a slice that is owned. -/
theorem insert_d (v : Value) (n i sb : Nat) (xs news : List Value) (w : World) (hown : w.ownsRow 0 64 3 v n xs) (th : TypeId) (hh : ArrAt w sb th news) (hl : news.length = 3) (h1 : ∀ u ∈ news, u.oneCell' = true) (hx1 : ∀ u ∈ xs, u.oneCell' = true) (hne : v.ownBlock ≠ some sb) (hi : i ≤ n) (hn : n ≤ 1000000) :
    Calls Try.prog 62 #[v, .int .i64 i, .slice (some ⟨sb, 0, none⟩) 1 1] w (InsPost 64 3 w v (n + 1) (xs.take (i * 3) ++ news ++ xs.drop (i * 3))) := by
  by_cases he : i = n
  · subst he
    rw [List.take_of_length_le (by rw [hown.1]; exact Nat.le_refl _), List.drop_of_length_le (by rw [hown.1]; exact Nat.le_refl _), List.append_nil]
    exact ins_end_d v i sb xs news w hown th hh hl h1 hn
  · have hv : v ≠ .slice none 0 0 := by
      rintro rfl
      rcases hown.2 with ⟨_, h0⟩ | ⟨_, _, _, h0, _⟩
      · omega
      · cases h0
    obtain ⟨g, cap, c, rfl, hg, rfl, hcl, hnc, hcm⟩ := owns_arr hown hv
    by_cases hroom : n + 1 ≤ cap
    · exact ins_shift_d g n cap i sb c news w hg hcl hcm th hh hl h1 hx1 (fun e => hne (by rw [e]; rfl)) (by omega) hroom
    · exact ins_grow_d g n cap i sb c news w hg hcl th hh hl h1 hx1 (by omega) hnc (by omega) hn

theorem zero_d : ∀ w, (zeroValue 64).run Try.prog w = .ok (.agg #[.string ⟨#[]⟩, .slice none 0 0, .int .i64 0]) w := fun _ => by kernel_rfl
set_option maxHeartbeats 1000000 in
set_option maxRecDepth 100000 in
theorem del_at_d (g p cap i : Nat) (cur : List Value) (w : World) (hg : ArrAt w g 64 cur) (hcl : cur.length = cap * 3) (hcm : cap ≤ maxLen) (h1c : ∀ u ∈ cur.take ((p + 1) * 3), u.oneCell' = true) (hi : i ≤ p) (hroom : p + 1 ≤ cap) :
    Calls Try.prog 65 #[.slice (some ⟨g, 0, none⟩) (p + 1 : Nat) cap, .int .i64 i, .int .i64 ((i : Int) + 1)] w (DelPost 64 3 w (.slice (some ⟨g, 0, none⟩) (p + 1) cap) p ((cur.take ((p + 1) * 3)).take (i * 3) ++ (cur.take ((p + 1) * 3)).drop ((i + 1) * 3))) := by
  unfold maxLen at hcm
  obtain ⟨i0, hi0, hz0, hz1, hz2⟩ := info_parts info_d
  obtain ⟨X, hX⟩ : ∃ X, (cur.take ((p + 1) * 3)).drop ((i + 1) * 3) = X := ⟨_, rfl⟩
  have hXl : X.length = (p - i) * 3 := by rw [← hX, List.length_drop, List.length_take, hcl]; omega
  have hXc : ∀ j u, X[j]? = some u → w.cell? ⟨g, (i + 1) * 3 + j, none⟩ = some u := fun j u hu => by
    rw [hg.cell]
    rw [← hX, List.getElem?_drop, List.getElem?_take] at hu
    split at hu
    · exact hu
    · cases hu
  have hX1 : ∀ u ∈ X, u.oneCell' = true := fun u hu => h1c u (by rw [← hX] at hu; exact List.mem_of_mem_drop hu)
  obtain ⟨A, hA, hXs⟩ : ∃ A : Addr, (if cap = i + 1 then some (⟨g, 0, none⟩ : Addr) else some ⟨g, ((i + 1) * 3), none⟩) = some A ∧ Hid (∀ j u, X[j]? = some u → w.cell? (A.add j) = some u) := by
    by_cases h : cap = i + 1
    · refine ⟨⟨g, 0, none⟩, by simp [h], fun j u hu => ?_⟩
      have h0 : X.length = 0 := by rw [hXl]; omega
      rw [List.length_eq_zero_iff.1 h0] at hu
      simp at hu
    · refine ⟨⟨g, ((i + 1) * 3), none⟩, by simp [h], fun j u hu => ?_⟩
      rw [addr_at]
      have := hXc j u hu
      try simp only [Nat.mul_one] at this
      exact this
  obtain ⟨Z, hZ⟩ : ∃ Z, (Builtin.zeroCells (.agg #[.string ⟨#[]⟩, .slice none 0 0, .int .i64 0] : Value).cells 1).toList = Z := ⟨_, rfl⟩
  have hZl : Z.length = 3 := by rw [← hZ, Array.length_toList, size_zeroCells]; rfl
  have hZ1 : ∀ u ∈ Z, u.oneCell' = true := by
    rw [← hZ]; intro u hu
    have : (Builtin.zeroCells (.agg #[.string ⟨#[]⟩, .slice none 0 0, .int .i64 0] : Value).cells 1).toList.all (·.oneCell') = true := by decide +kernel
    exact List.all_eq_true.1 this u hu
  have hfin := del_shift cur Z ((p + 1) * 3) (i * 3) ((i + 1) * 3) (by omega) (by omega) (by rw [hcl]; omega) (by rw [hZl]; omega)
  rw [hX, show i * 3 + ((p + 1) * 3 - (i + 1) * 3) = p * 3 by omega] at hfin
  rw [hX]
  have hlen2 : (splice cur (i * 3) X).length = cap * 3 := by rw [length_splice _ _ _ (by rw [hXl, hcl]; omega), hcl]
  have hlen3 : (splice (splice cur (i * 3) X) (p * 3) Z).length = cap * 3 := by rw [length_splice _ _ _ (by rw [hlen2, hZl]; omega), hlen2]
  have hf1 : i * 3 + X.length ≤ cur.length := by rw [hXl, hcl]; omega
  have hf2 : p * 3 + Z.length ≤ (splice cur (i * 3) X).length := by rw [hlen2, hZl]; omega
  generalize (cur.take ((p + 1) * 3)).take (i * 3) ++ X = Y at hfin ⊢
  have hZm := Lib.hid hZ
  clear hZ
  try simp only [Nat.mul_one] at hf1 hf2 hfin hlen2 hlen3 hcl
  have hZf : Hid ((p * 3) + (Builtin.zeroCells (.agg #[.string ⟨#[]⟩, .slice none 0 0, .int .i64 0] : Value).cells 1).toList.length ≤ (splice cur (i * 3) X).length) := by show _ ≤ _; rw [hZm.out]; exact hf2
  have hZ2 : Hid (∀ u ∈ (Builtin.zeroCells (.agg #[.string ⟨#[]⟩, .slice none 0 0, .int .i64 0] : Value).cells 1).toList, u.oneCell' = true) := by show ∀ u ∈ _, _; rw [hZm.out]; exact hZ1
  replace hZ1 := Lib.hid hZ1
  replace hf2 := Lib.hid hf2
  replace hZl := Lib.hid hZl
  replace hX := Lib.hid hX
  replace hXl := Lib.hid hXl
  replace hXc := Lib.hid hXc
  replace hX1 := Lib.hid hX1
  replace hfin := Lib.hid hfin
  replace hlen2 := Lib.hid hlen2
  replace hlen3 := Lib.hid hlen3
  replace hcl := Lib.hid hcl
  replace hf1 := Lib.hid hf1
  have hgh := Lib.hid hg
  clear hg h1c
  have hzz := Lib.hid hz1
  clear hz1 hz2 hz0
  have q1 : ¬ ((i : Int) = (i : Int) + 1) := by omega
  have b0 : (0 : Int) ≤ (i : Int) := by omega
  have b1 : (i : Int) + 1 ≤ (p : Int) + 1 := by omega
  have b2 : (i : Int) ≤ (i : Int) + 1 := by omega
  have b3 : (0 : Int) ≤ (i : Int) + 1 := by omega
  have ht : ((i : Int) + 1).toNat = i + 1 := by omega
  have hic : i ≤ cap := by omega
  have hjc : i + 1 ≤ cap := by omega
  go_enter Try.func65, Try.ntmps65
  go_wp2_with fail
  have s1 : Hid (i + (p - i) = p) := by show _ = _; omega
  have s2 : Hid ((i * 3) = i * 3) := by show _ = _; omega
  have s3 : p ≤ cap := by omega
  have s4 : ¬ (cap = p) := by omega
  go_region_law (refine step_append_k rfl (.tmp 22) (.tmp 25) 50 rfl 64 i0 3 Try.underlying50 hi0 hzz.out g i cap (by simp [Act.eval, Act.put]) A (p - i) (cap - (i + 1)) X (by simp [Act.eval, Act.put]) hXl.out hXs.out hX1.out cur 64 hgh.out p (i * 3) s1.out s2.out s3 hf1.out ?_; intro w1 hg1 hgr1; replace hgr1 := Lib.hid (grown_drew hgr1))
  go_wp2_with (with_reducible refine wpList_clear_k rfl (.tmp 31) 50 rfl 64 (.agg #[.string ⟨#[]⟩, .slice none 0 0, .int .i64 0]) Try.underlying50 zero_d g (p * 3) 1 (cap - p) hZ2.out rfl (by decide) _ 64 hg1.out hZf.out ?_; intro w2 hg2 hgr2)
  go_ret
  refine ⟨_, rfl, ArrAt.owns (c := splice (splice cur (i * 3) X) (p * 3) Z) (by rw [← hZm.out]; exact hg2.out) (by first | exact hfin.out | (simp only [Nat.mul_one]; exact hfin.out)) (by first | exact hlen3.out | (rw [Nat.mul_one]; exact hlen3.out)) (by omega) (by unfold maxLen; omega), grown_trans hgr1.out hgr2, rfl⟩

/-- slices.Delete of one element, out of a slice that is owned. -/
theorem delete_d (v : Value) (n i : Nat) (xs : List Value) (w : World) (hown : w.ownsRow 0 64 3 v n xs) (hx1 : ∀ u ∈ xs, u.oneCell' = true) (hi : i < n) :
    Calls Try.prog 65 #[v, .int .i64 i, .int .i64 ((i : Int) + 1)] w (DelPost 64 3 w v (n - 1) (xs.take (i * 3) ++ xs.drop ((i + 1) * 3))) := by
  have hv : v ≠ .slice none 0 0 := by
    rintro rfl
    rcases hown.2 with ⟨_, h0⟩ | ⟨_, _, _, h0, _⟩
    · omega
    · cases h0
  obtain ⟨g, cap, c, rfl, hg, rfl, hcl, hnc, hcm⟩ := owns_arr hown hv
  obtain ⟨p, rfl⟩ : ∃ p, n = p + 1 := ⟨n - 1, by omega⟩
  exact del_at_d g p cap i c w hg hcl hcm hx1 (by omega) hnc
end Go.Proofs.Ytahndjgamoojkaa
