/- copy, append and clear on rows of elements of any number of cells: laws for the walk. -/
import Derived.Test.YtfmlgfeldlnlgaaGreatDoorBR02
import Derived.Laws.CopyOwn
import Derived.Deep.RegionLaw
import Derived.Lib.AppendZerosOnto
import Derived.Lib.Overlaps
import Derived.Laws.BitsLemmas
import Derived.Test.YtfmlgfeldlnlgaaGreatDoorBR22
import Derived.Test.YtfmlgfeldlnlgaaGreatDoorBR20
namespace Go.Proofs.YtfmlgfeldlnlgaaGreatDoor
open Go.RowKit
section
variable {P : Program} {w : World} {ops : Array Oper} {rest : List Oper} {o : Oper} {a : Act} {K : Act → World → Prop} {Q : Exit → Act → World → Prop}

theorem run_copy_k (dT sT ty elem : TypeId) (z g off dLen dCap : Nat) (ad : Addr) (sLen sCap : Nat) (cur : List Value) (t : TypeId) (cs : List Value)
    (hu : P.underlying dT = some (.slice elem)) (hs : (P.info? elem).map (·.size) = some z)
    (hg : ArrAt w g t cur) (hn : cs.length = Nat.min sLen dLen * z)
    (hsrc : ∀ j v, cs[j]? = some v → w.cell? (ad.add j) = some v) (hfit : off + cs.length ≤ cur.length) (h1 : ∀ v ∈ cs, v.oneCell' = true) :
    (Builtin.copy_ #[dT, sT] ty #[.slice (some ⟨g, off, none⟩) dLen dCap, .slice (some ad) sLen sCap]).run P w =
      .ok (goInt (Nat.min sLen dLen)) (w.setRow g (splice cur off cs).toArray) := by
  have hl := run_loadCells_list (P := P) w ad cs hsrc
  have hst := run_storeCells_at P g off t cs 0 cur.toArray w hg (by simpa using hfit) h1
  rw [hn] at hl
  cases hq : P.info? elem with
  | none => simp [hq] at hs
  | some i =>
    have hi : i.size = z := by simpa [hq] using hs
    simp [Builtin.copy_, run_underlying hu, Builtin.lenOf, Builtin.firstCells, sizeOf, typeInfo, hq, hi, hl, hst, splice]

theorem wp_copy_k (d s : Operand) (dT sT : TypeId) (ho : o.op = .call { callee := .builtin .copy, args := #[d, s], argTypes := #[dT, sT] }) (elem : TypeId) (z : Nat) (hu : P.underlying dT = some (.slice elem)) (hsz : (P.info? elem).map (·.size) = some z)
    (g off dLen dCap : Nat) (ad : Addr) (sLen sCap : Nat) (hd : a.eval d = .slice (some ⟨g, off, none⟩) dLen dCap) (hs : a.eval s = .slice (some ad) sLen sCap)
    (cur : List Value) (t : TypeId) (hg : ArrAt w g t cur) (cs : List Value) (hn : cs.length = Nat.min sLen dLen * z)
    (hsrc : ∀ j v, cs[j]? = some v → w.cell? (ad.add j) = some v) (hfit : off + cs.length ≤ cur.length) (h1 : ∀ v ∈ cs, v.oneCell' = true)
    (h : ∀ w', Hid (ArrAt w' g t (splice cur off cs)) → w.grownBy w' (some g) → K (a.put o.dst (goInt (Nat.min sLen dLen))) w') : o.wp P a w K Q := by
  have hrun := run_copy_k (P := P) dT sT o.type elem z g off dLen dCap ad sLen sCap cur t cs hu hsz hg hn hsrc hfit h1
  unfold Oper.wp
  simp [execOp, ho, resolve, invoke, builtin, hd, hs, hrun, Result.andThen]
  exact h _ (setRow_heap w g _ _ t _ hg) (grown_setRow w g _)
theorem wpList_copy_k (hgd : o.guard = none) (d s : Operand) (dT sT : TypeId) (ho : o.op = .call { callee := .builtin .copy, args := #[d, s], argTypes := #[dT, sT] }) (elem : TypeId) (z : Nat) (hu : P.underlying dT = some (.slice elem)) (hsz : (P.info? elem).map (·.size) = some z)
    (g off dLen dCap : Nat) (ad : Addr) (sLen sCap : Nat) (hd : a.eval d = .slice (some ⟨g, off, none⟩) dLen dCap) (hs : a.eval s = .slice (some ad) sLen sCap)
    (cur : List Value) (t : TypeId) (hg : ArrAt w g t cur) (cs : List Value) (hn : cs.length = Nat.min sLen dLen * z)
    (hsrc : ∀ j v, cs[j]? = some v → w.cell? (ad.add j) = some v) (hfit : off + cs.length ≤ cur.length) (h1 : ∀ v ∈ cs, v.oneCell' = true)
    (h : ∀ w', Hid (ArrAt w' g t (splice cur off cs)) → w.grownBy w' (some g) → wpList P ops Q rest (a.put o.dst (goInt (Nat.min sLen dLen))) w') : wpList P ops Q (o :: rest) a w :=
  wpList_plain hgd fun _ hK => wp_copy_k d s dT sT ho elem z hu hsz g off dLen dCap ad sLen sCap hd hs cur t hg cs hn hsrc hfit h1 fun w' h2 h3 => hK _ _ (h w' h2 h3)
theorem step_copy_k {E : Prop} (hgd : o.guard = none) (d s : Operand) (dT sT : TypeId) (ho : o.op = .call { callee := .builtin .copy, args := #[d, s], argTypes := #[dT, sT] }) (elem : TypeId) (z : Nat) (hu : P.underlying dT = some (.slice elem)) (hsz : (P.info? elem).map (·.size) = some z)
    (g off dLen dCap : Nat) (ad : Addr) (sLen sCap : Nat) (hd : a.eval d = .slice (some ⟨g, off, none⟩) dLen dCap) (hs : a.eval s = .slice (some ad) sLen sCap)
    (cur : List Value) (t : TypeId) (hg : ArrAt w g t cur) (cs : List Value) (hn : cs.length = Nat.min sLen dLen * z)
    (hsrc : ∀ j v, cs[j]? = some v → w.cell? (ad.add j) = some v) (hfit : off + cs.length ≤ cur.length) (h1 : ∀ v ∈ cs, v.oneCell' = true)
    (h : ∀ w', Hid (ArrAt w' g t (splice cur off cs)) → w.grownBy w' (some g) → K (a.put o.dst (goInt (Nat.min sLen dLen))) w') :
    if Region.wanted o (yielded ops a.tmps) = true then Oper.wp P o a w K Q else E := by
  rw [if_pos (by simp [Region.wanted, hgd])]
  exact wp_copy_k d s dT sT ho elem z hu hsz g off dLen dCap ad sLen sCap hd hs cur t hg cs hn hsrc hfit h1 h

/-- append within a row that has room. -/
theorem step_append_k {E : Prop} (hgd : o.guard = none) (s x : Operand) (t : TypeId) (ho : o.op = .call { callee := .builtin .append, args := #[s, x], argTypes := #[t, t] })
    (e : TypeId) (i : TypeInfo) (z : Nat) (hu : P.underlying t = some (.slice e)) (hi : P.info? e = some i) (hz : i.size = z)
    (g n cap : Nat) (hs : a.eval s = .slice (some ⟨g, 0, none⟩) n cap) (ad : Addr) (m c : Nat) (news : List Value) (hx : a.eval x = .slice (some ad) m c) (hn : news.length = m * z)
    (hsrc : ∀ j v, news[j]? = some v → w.cell? (ad.add j) = some v) (h1 : ∀ v ∈ news, v.oneCell' = true)
    (cur : List Value) (te : TypeId) (hg : ArrAt w g te cur) (N off : Nat) (hN : n + m = N) (hoff : off = n * z) (hroom : N ≤ cap) (hfit : off + news.length ≤ cur.length)
    (h : ∀ w', Hid (ArrAt w' g te (splice cur off news)) → w.grownBy w' (some g) → K (a.put o.dst (.slice (some ⟨g, 0, none⟩) N cap)) w') :
    if Region.wanted o (yielded ops a.tmps) = true then Oper.wp P o a w K Q else E := by
  rw [if_pos (by simp [Region.wanted, hgd])]
  subst hz hN hoff
  have hspare : ∀ j, j < news.length → w.cell? ⟨g, 0 + n * i.size + j, none⟩ = some (cur.getD (n * i.size + j) undef) := fun j hj => by
    rw [Nat.zero_add, hg.cell, List.getElem?_eq_getElem (by omega)]; simp [List.getD, List.getElem?_eq_getElem (show n * i.size + j < cur.length by omega)]
  have hrun := run_append_room_cells (P := P) w t o.type e i hu hi g 0 n cap ad m c news hn hsrc h1 hroom (fun j hj => by rw [hspare j hj]; rfl) (fun j hj => hg.soft _)
  have hsp : w.setCells g (0 + n * i.size) news = w.setRow g (splice cur (n * i.size) news).toArray := by
    have h1 := run_storeCells_at P g (n * i.size) te news 0 cur.toArray w hg (by simpa using hfit) h1
    have h2 := run_storeCells_cells (P := P) g (n * i.size) news 0 w (fun j hj => by rw [Nat.add_zero, hg.cell, List.getElem?_eq_getElem (by omega)]; rfl) (fun j hj => hg.soft _) ‹_›
    rw [h2] at h1
    injection h1 with _ h1
    simpa [splice] using h1
  unfold Oper.wp
  simp [execOp, ho, resolve, invoke, builtin, hs, hx, hrun, Result.andThen]
  rw [Nat.zero_add] at hsp
  rw [hsp]
  exact h _ (setRow_heap w g _ _ te _ hg) (grown_setRow w g _)

/-- clear of a part of a row. -/
theorem wpList_clear_k (hgd : o.guard = none) (x : Operand) (t : TypeId) (ho : o.op = .call { callee := .builtin .clear, args := #[x], argTypes := #[t] })
    (e : TypeId) (zv : Value) (hu : P.underlying t = some (.slice e)) (hv : ∀ w, (zeroValue e).run P w = .ok zv w) (g off n c : Nat) (h1 : ∀ v ∈ (Builtin.zeroCells zv.cells n).toList, v.oneCell' = true)
    (hx : a.eval x = .slice (some ⟨g, off, none⟩) n c) (h0 : 0 < n) (cur : List Value) (te : TypeId) (hg : ArrAt w g te cur) (hfit : off + (Builtin.zeroCells zv.cells n).toList.length ≤ cur.length)
    (h : ∀ w', Hid (ArrAt w' g te (splice cur off (Builtin.zeroCells zv.cells n).toList)) → w.grownBy w' (some g) → wpList P ops Q rest (a.put o.dst (.tuple #[])) w') : wpList P ops Q (o :: rest) a w := by
  refine wpList_plain hgd fun K hK => ?_
  have hst := run_storeCells_at P g off te (Builtin.zeroCells zv.cells n).toList 0 cur.toArray w hg (by simpa using hfit) h1
  obtain ⟨m, rfl⟩ : ∃ m, n = m + 1 := ⟨n - 1, by omega⟩
  have hrun : (Builtin.clear_ #[t] o.type #[.slice (some ⟨g, off, none⟩) (m + 1) c]).run P w = .ok (.tuple #[]) (w.setRow g (splice cur off (Builtin.zeroCells zv.cells (m + 1)).toList).toArray) := by
    simp [Builtin.clear_, run_underlying hu, hv, hst, splice]
  unfold Oper.wp
  simp only [execOp, ho, resolve, invoke, builtin, Sem.run_bind, Sem.run_pure, Result.andThen_ok, List.map_toArray, List.map_cons, List.map_nil, hx, hrun]
  exact hK _ _ (h _ (setRow_heap w g _ _ te _ hg) (grown_setRow w g _))

/-- append(s[:i], make([]E, k)...) where there is no room: a new row. -/
theorem wpList_append_zeros (hgd : o.guard = none) (s x : Operand) (t tn : TypeId) (ho : o.op = .call { callee := .builtin .append, args := #[s, x], argTypes := #[t, tn] })
    (e : TypeId) (i : TypeInfo) (zv : Value) (z : Nat) (kn : IntKind) (hu : P.underlying t = some (.slice e)) (htn : P.underlying tn = some (.int kn)) (hi : P.info? e = some i) (hzv : i.zero = some zv) (hz : i.size = z) (hzc : zv.cells.size = z) (h0 : 0 < z)
    (ad : Addr) (n cap : Nat) (hs : a.eval s = .slice (some ad) n cap) (olds : List Value) (hol : olds.length = n * z) (hold : ∀ j v, olds[j]? = some v → w.cell? (ad.add j) = some v)
    (k : Nat) (kq : IntKind) (y : Int) (hx : a.eval x = .int kq y) (hy : y = k) (hk : 0 < k) (N H : Nat) (hN : n + k = N) (hH : w.heap.size = H) (hg : cap < N) (hbig : N * i.bytes ≤ 140737488355328) (h63 : N ≤ 9223372036854775807)
    (h : ∀ (G : Nat) (tail : List Value) w', N ≤ G → G ≤ maxLen → Hid ((olds ++ tail).length = G * z) → Hid (ArrAt w' H e (olds ++ tail)) → Below H w w' → H < w'.heap.size → wpList P ops Q rest (a.put o.dst (.slice (some ⟨H, 0, none⟩) N G)) w') :
    wpList P ops Q (o :: rest) a w := by
  subst hz hy hN hH
  have hf : (Builtin.firstCells i.size n (.slice (some ad) n cap)).run P w.drew = .ok olds.toArray w.drew := run_firstCells_some w.drew i.size n ad n cap olds hol hold
  have hrun := Lib.run_append_grow_zeros w t tn o.type e i zv kq kn hu htn hi hzv (some ad) n cap olds hf k hk h0 hg (by omega) (Nat.le_trans (Nat.mul_le_mul_right _ (Nat.le_add_left k n)) (Nat.le_trans hbig (by decide))) (growslice_fits hg hbig)
  have hge := grownCap_ge w (n + k) cap e
  have hcm : grownCap w (n + k) cap e ≤ maxLen := grownCap_le_maxLen w (n + k) cap e (by unfold maxLen; omega)
  refine Lib.wpList_append_run w hgd s x t tn ho _ _ hs hx _ _ hrun (h _ ((Builtin.zeroCells zv.cells k).toList ++ (Builtin.zeroCells zv.cells (grownCap w (n + k) cap e - (n + k))).toList) _ hge hcm ?_ ?_ ?_ ?_)
  · show _ = _
    simp only [List.length_append, Array.length_toList, size_zeroCells, hzc, hol, ← Nat.add_mul]
    congr 1; omega
  · show _ = _
    rw [show (olds ++ ((Builtin.zeroCells zv.cells k).toList ++ (Builtin.zeroCells zv.cells (grownCap w (n + k) cap e - (n + k))).toList)).toArray = olds.toArray ++ Builtin.zeroCells zv.cells k ++ Builtin.zeroCells zv.cells (grownCap w (n + k) cap e - (n + k)) by simp]
    exact heap_alloc_new w.drew _
  · exact (Below.refl _ _).drew.alloc (Nat.le_refl _) _
  · simp
end

/-- The model's slices.overlaps where the first slice is a row of one element just laid, in another block. -/
theorem run_overlaps_row {P : Program} (w : World) (tS tR e : TypeId) (ht : P.underlying tS = some (.slice e)) (z : Nat) (hz : ∀ w, (Go.sizeOf e).run P w = .ok z w) (g h off la ca lb cb : Nat) (cg ch : List Value) (tg th : TypeId)
    (hg : ArrAt w g tg cg) (hh : ArrAt w h th ch) (hne : h ≠ g) (h0 : cg ≠ []) :
    (Extern.SlicesOverlaps.overlaps #[tS, tS] #[tR] #[.slice (some ⟨h, 0, none⟩) la ca, .slice (some ⟨g, off, none⟩) lb cb]).run P w = .ok (.bool false) w :=
  Lib.run_overlaps_apart w tS tR e ht z hz ⟨h, 0, none⟩ ⟨g, off, none⟩ la ca lb cb hne th tg ch.length cg.length (by unfold ArrAt at hh; simp [World.shape?, hh]) (by unfold ArrAt at hg; simp [World.shape?, hg]) (by simpa using h0) (hh.soft 0) (hh.soft _)
end Go.Proofs.YtfmlgfeldlnlgaaGreatDoor

/- slices.Repeat of one number. -/
namespace Go.Proofs.YtfmlgfeldlnlgaaGreatDoor
open Go.RowKit

set_option maxHeartbeats 1000000 in
theorem mul64_one (n : Nat) (w : World) (hn : n ≤ 10000000) : Calls Tryz.prog 122 #[.int .u64 1, .int .u64 n] w fun e w' => e = .returned (.tuple #[.int .u64 0, .int .u64 n]) ∧ w = w' := by
  have hm : (n : Int) % 4294967296 = n := by omega
  have hd : (n : Int) / 4294967296 = 0 := by omega
  have w64 : ∀ z : Int, 0 ≤ z → z < 2 ^ 63 → IntKind.u64.wrap z = z := fun z h0 h1 => by rw [IntKind.wrap_u64]; omega
  have m0 : bits .and .u64 1 4294967295 = 1 := by have := bits_mask .u64 63 (by decide) w64 32 (by decide) 1 (by omega) (by omega); simpa using this
  have m1 : bits .and .u64 (n : Int) 4294967295 = n := by have := bits_mask .u64 63 (by decide) w64 32 (by decide) (n : Int) (by omega) (by omega); simp at this; omega
  have m2 : bits .and .u64 0 4294967295 = 0 := by have := bits_mask .u64 63 (by decide) w64 32 (by decide) 0 (by omega) (by omega); simpa using this
  clear w64
  go_enter Tryz.func122, Tryz.ntmps122
  go_wp2_with fail
  go_ret2
  exact ⟨rfl, rfl⟩
set_option maxHeartbeats 1000000 in
theorem mul_one (n : Nat) (w : World) (hn : n ≤ 10000000) : Calls Tryz.prog 101 #[.int .u64 1, .int .u64 n] w fun e w' => e = .returned (.tuple #[.int .u64 0, .int .u64 n]) ∧ w = w' := by
  go_enter Tryz.func101, Tryz.ntmps101
  go_wp2_with fail
  refine (mul64_one n _ hn).mono ?_; rintro e w' ⟨rfl, rfl⟩
  go_wp2_with fail
  go_ret2
  exact ⟨rfl, rfl⟩
/-- m numbers v, and zeroes behind them. -/
def fillV (n m : Nat) (v : Value) : List Value := List.replicate m v ++ List.replicate (n - m) (.int .i64 0)
theorem fillV_len {n m : Nat} {v : Value} (h : m ≤ n) : (fillV n m v).length = n := by unfold fillV; simp; omega
theorem fillV_at {n m j : Nat} {v : Value} (h : j < m) : (fillV n m v)[j]? = some v := by
  unfold fillV
  rw [List.getElem?_append_left (by simpa using h)]
  simp [h]
theorem fillV_put {n m q : Nat} {v : Value} (h : m + q ≤ n) : splice (fillV n m v) m (List.replicate q v) = fillV n (m + q) v := by
  unfold splice fillV
  have e : List.replicate (m + q) v = List.replicate m v ++ List.replicate q v := by
    rw [List.replicate_append_replicate]
  rw [List.take_left' (by simp), List.length_replicate, List.drop_append, List.drop_eq_nil_of_le (by simp), List.nil_append, List.length_replicate, List.drop_replicate, e, List.append_assoc]
  congr 3
  omega

set_option maxRecDepth 100000 in
set_option maxHeartbeats 4000000 in
theorem repeat_any (x : Int) (n c : Nat) (b off : Nat) (w : World) (h0 : 0 < n) (hn : n ≤ 10000000) (hx : w.cell? ⟨b, off, none⟩ = some (.int .i64 x)) :
    Calls Tryz.prog 63 #[.slice (some ⟨b, off, none⟩) 1 c, .int .i64 n] w fun e w' => ∃ g, e = .returned (.slice (some ⟨g, 0, none⟩) n n) ∧ ArrAt w' g 3 (List.replicate n (.int .i64 x)) ∧ w.heap.size ≤ g ∧ Below w.heap.size w w' := by
  have hmk := run_make_row (P := Tryz.prog) 48 3 (.int .i64 0) 8 Tryz.underlying48 info_int rfl n n rfl (by omega) (by omega)
  have hbw := World.block_lt_of_cell? w ⟨b, off, none⟩ hx
  have hmul := fun W : World => mul_one n W hn
  have hn0 : ¬ ((n : Int) < 0) := by omega
  have hn1 : ¬ (9223372036854775807 < (n : Int)) := by omega
  have hn2 : (0 : Int) ≤ n := by omega
  have hn3 : (n : Int) ≤ 9223372036854775807 := by omega
  have hsz : (Tryz.prog.info? 3).map (·.size) = some 1 := by kernel_rfl
  replace hmul := Lib.hid hmul
  replace hsz := Lib.hid hsz
  go_enter Tryz.func63, Tryz.ntmps63
  go_wp2_with fail
  refine (hmul.out _).mono ?_; rintro e w' ⟨rfl, rfl⟩
  have hg := arrAt_new w 3 (List.replicate n (Value.int .i64 0))
  rw [List.toArray_replicate] at hg
  have hbg : Below w.heap.size w (w.alloc (.cells (Array.replicate n (Value.int .i64 0)) 3)) := (Below.refl _ _).alloc (Nat.le_refl _) _
  have hx1 := (hbg.cell (p := ⟨b, off, none⟩) hbw).trans hx
  have hsrc0 : ∀ (j : Nat) (v : Value), [Value.int .i64 x][j]? = some v → (w.alloc (.cells (Array.replicate n (Value.int .i64 0)) 3)).cell? ((⟨b, off, none⟩ : Addr).add j) = some v := fun j v hj => by
    match j, hj with
    | 0, hj =>
      injection hj with hj
      subst hj
      have hadd : (⟨b, off, none⟩ : Addr).add 0 = ⟨b, off, none⟩ := by unfold Addr.add; split <;> simp_all
      rw [hadd]; exact hx1
    | j + 1, hj => simp at hj
  replace hsrc0 := Lib.hid hsrc0
  have hlen0 : Hid ([Value.int .i64 x].length = Nat.min 1 n * 1) := by
    have e : Nat.min 1 n = 1 := Nat.min_eq_left h0
    show _ = _
    rw [e]; rfl
  have hfit0 : Hid (0 + [Value.int .i64 x].length ≤ (List.replicate n (Value.int .i64 0)).length) := by show _ ≤ _; simp; omega
  have hone0 : Hid (∀ v ∈ [Value.int .i64 x], v.oneCell' = true) := by intro u hu; simp at hu; subst hu; rfl
  replace hg := Lib.hid hg
  replace hbg := Lib.hid hbg
  replace hx1 := Lib.hid hx1
  clear hmul hx
  go_wp2_with (with_reducible refine wpList_copy_k rfl (.tmp 31) (.tmp 32) 48 48 rfl 3 1 Tryz.underlying48 hsz.out w.heap.size 0 n n ⟨b, off, none⟩ 1 c rfl rfl (List.replicate n (Value.int .i64 0)) 3 hg.out [Value.int .i64 x] hlen0.out hsrc0.out hfit0.out hone0.out ?_)
  intro w2 hg2 hgr2
  have hb2 := Lib.hid ((hbg.out).grown hgr2 (by simp) (fun k hk => by injection hk with hk; omega))
  have hg3 : Hid (ArrAt w2 w.heap.size 3 (fillV n 1 (.int .i64 x))) := by
    have e : splice (List.replicate n (Value.int .i64 0)) 0 [Value.int .i64 x] = fillV n 1 (.int .i64 x) := by
      have := fillV_put (n := n) (m := 0) (q := 1) (v := .int .i64 x) (by omega)
      simpa [fillV] using this
    rw [← e]; exact hg2
  have hmin : Nat.min 1 n = 1 := Nat.min_eq_left h0
  rw [hmin]
  clear hg2 hgr2 hg hbg hx1 hmk hmin
  go_wp2_with fail
  go_loopw [8] (fun i wr => ∃ m : Nat, i = .int .i64 m ∧ 1 ≤ m ∧ m ≤ n ∧ Hid (ArrAt wr w.heap.size 3 (fillV n m (.int .i64 x))) ∧ Hid (Below w.heap.size w wr)) (fun i _ => n - (intOf i).toNat)
  case atStart => exact ⟨1, rfl, Nat.le_refl _, h0, hg3, hb2⟩
  case round =>
    clear hg3 hb2
    obtain ⟨m, rfl, hm1, hmn, hr, hb⟩ := hrel
    by_cases hlt : m < n
    · have hlt1 : (m : Int) < n := by omega
      have j0 : (0 : Int) ≤ m := by omega
      have j1 : (m : Int) ≤ n := by omega
      obtain ⟨q, hq⟩ : ∃ q, Nat.min m (n - m) = q := ⟨_, rfl⟩
      have hq1 : q ≤ m ∧ q ≤ n - m ∧ 1 ≤ q := by rw [← hq]; simp only [Nat.min_def]; split <;> omega
      have hlen := fillV_len (v := .int .i64 x) hmn
      have hrd := hr.out.drawn (drawn_drew _)
      have hsrc : ∀ (j : Nat) (v : Value), (List.replicate q (Value.int .i64 x))[j]? = some v → wr.drew.cell? ((⟨w.heap.size, 0, none⟩ : Addr).add j) = some v := fun j v hj => by
        have hjq : j < q := by have := (List.getElem?_eq_some_iff.1 hj).1; simpa using this
        have hadd : (⟨w.heap.size, 0, none⟩ : Addr).add j = ⟨w.heap.size, j, none⟩ := by unfold Addr.add; split <;> simp_all
        rw [hadd, hrd.cell, fillV_at (by omega)]
        rw [List.getElem?_replicate, if_pos hjq] at hj
        exact hj
      replace hrd := Lib.hid hrd
      replace hsrc := Lib.hid hsrc
      go_wp2_with fail
      go_region_law (refine step_copy_k rfl (.tmp 41) (.tmp 44) 48 48 rfl 3 1 Tryz.underlying48 hsz.out w.heap.size m (n - m) (n - m) ⟨w.heap.size, 0, none⟩ m n (by simp [Act.eval, Act.put]; omega) (by simp [Act.eval, Act.put]) (fillV n m (.int .i64 x)) 3 hrd.out (List.replicate q (Value.int .i64 x)) (by rw [hq]; simp) hsrc.out (by rw [hlen]; simp; omega) (by intro u hu; rw [List.mem_replicate] at hu; rw [hu.2]; rfl) ?_; intro w3 hg3 hgr3; rw [hq])
      all_goals
        have hg4 : Hid (ArrAt w3 w.heap.size 3 (fillV n (m + q) (.int .i64 x))) := by
          rw [← fillV_put (by omega)]; exact hg3
        have hb3 := Lib.hid (((hb.out.trans ((drawn_drew _).below _))).grown hgr3 (by have := hr.out.lt; simp; omega) (fun k hk => by injection hk with hk; omega))
        clear hg3 hgr3
        have hwr : IntKind.i64.wrap ((m : Int) + q) = (m : Int) + q := by rw [IntKind.wrap_i64]; omega
        replace hq := Lib.hid hq
        replace hlen := Lib.hid hlen
        go_wp2_with fail
        exact ⟨⟨m + q, by simp, by omega, by omega, hg4⟩, by simp [intOf]; omega⟩
    · have hlt1 : ¬ ((m : Int) < n) := by omega
      obtain rfl : m = n := by omega
      go_wp2_with fail
      go_ret
      exact ⟨_, rfl, by have := hr.out; unfold fillV at this; simpa using this, Nat.le_refl _, hb.out⟩
end Go.Proofs.YtfmlgfeldlnlgaaGreatDoor
