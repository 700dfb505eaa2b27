/- The walk of layer 8's Near. -/
import Derived.Test.YtgldlfgidmgmfaaD08g
import Derived.Test.YtgldlfgidmgmfaaD06a
namespace Go.Proofs.Ytgldlfgidmgmfaa
open Go.RowKit Go.Maps Go.Sort Go.Lib

def lookL (L : List (Int × Int)) (id : Int) : Int := ((L.find? fun p => p.1 == id).map Prod.snd).getD 0
theorem lookL_mem {L : List (Int × Int)} (h : Nums L) {id s : Int} (hm : (id, s) ∈ L) : lookL L id = s := by
  unfold lookL
  cases hf : L.find? fun p => p.1 == id with
  | none => exact absurd (List.find?_eq_none.1 hf _ hm) (by simp)
  | some q =>
    have h1 := List.mem_of_find?_eq_some hf
    have h2 := List.find?_some hf
    have e : q.1 = id := by simpa using h2
    have : (id, q.2) ∈ L := by rw [← e]; exact h1
    exact fst_inj h this hm
theorem lookL_none {L : List (Int × Int)} {id : Int} (hn : ¬ ∃ s, (id, s) ∈ L) : lookL L id = 0 := by
  have h0 : (L.find? fun p => p.1 == id) = none := List.find?_eq_none.2 fun p hp e => by
    have e' : p.1 = id := by simpa using e
    exact hn ⟨p.2, by rw [← e']; exact hp⟩
  unfold lookL
  rw [h0]
  rfl
theorem lookL_bd {L : List (Int × Int)} (h : Nums L) (id : Int) : 0 ≤ lookL L id ∧ lookL L id ≤ 18446744073709551615 := by
  by_cases hn : ∃ s, (id, s) ∈ L
  · obtain ⟨s, hs⟩ := hn
    rw [lookL_mem h hs]
    exact (h.bd _ hs).2
  · rw [lookL_none hn]; omega
def nearL (L : List (Int × Int)) (s : Int) (d : Nat) : List Int := (L.filter fun p => decide (distB p.2 s ≤ d)).map Prod.fst
def farB (L : List (Int × Int)) (s : Int) (d : Nat) (x : Int) : Bool := decide ((d : Int) < distB (lookL L x) s)
theorem near_key {x d : Int} {b : Bool} (h : ¬ d < x → b = true) : (!decide (d < x) && b) = decide (x ≤ d) := by
  by_cases hlt : d < x
  · rw [decide_eq_true hlt, decide_eq_false (show ¬ x ≤ d by omega)]; rfl
  · rw [decide_eq_false hlt, decide_eq_true (show x ≤ d by omega), h hlt]; rfl
theorem filter_two {L : List (Int × Int)} {f : Int → Bool} {g h : Int × Int → Bool} (hk : ∀ p ∈ L, (f p.1 && g p) = h p) : ((L.filter g).map Prod.fst).filter f = (L.filter h).map Prod.fst := by
  rw [List.filter_map, List.filter_filter]
  exact congrArg (List.map Prod.fst) (List.filter_congr hk)
theorem nearL_is {L : List (Int × Int)} (h : Nums L) {s : Int} (hs : 0 ≤ s ∧ s ≤ 18446744073709551615) {d : Nat} (hd : d < 16) : (shareL L s d).filter (fun x => !farB L s d x) = nearL L s d := by
  refine filter_two (g := fun p => shareB p.2 s d) (h := fun p => decide (distB p.2 s ≤ d)) fun p hp => ?_
  have hb := h.bd p hp
  have hn := share_near p.2 s d hb.2.1 hb.2.2 hs.1 hs.2 (may_nat hd)
  unfold farB
  rw [show lookL L p.1 = p.2 from lookL_mem h hp]
  exact near_key hn
set_option maxRecDepth 100000 in
theorem nearcls_any (X d : Nat) (L : List (Int × Int)) (m : Nat) (fp : Nat → Prop) (s id : Int) (b1 b2 : Nat) (w : World) (h : IdxAt w X d L m fp) (c1 : w.cell? ⟨b1, 0, none⟩ = some (.pointer (some ⟨X, 0, none⟩))) (c2 : w.cell? ⟨b2, 0, none⟩ = some (.int .u64 s))
    (hid : (Lit.int .i64 id).wf = true) (hs : (Lit.int .u64 s).wf = true) :
    Calls Try.prog 33 #[.int .i64 id, .pointer (some ⟨b1, 0, none⟩), .pointer (some ⟨b2, 0, none⟩)] w fun e w' => e = .returned (.bool (farB L s d id)) ∧ Drawn w w' := by
  obtain ⟨M, T, n, D, V, TB, h1, h2, h3, h4, h5, h6⟩ := h
  have hkey := keyOf_int_mk Try.underlying3 hid
  have c3 : w.cell? ⟨X, 1, none⟩ = some (.map (some M)) := by rw [h1.cells.cell]; rfl
  have c4 : w.cell? ⟨X, 0, none⟩ = some (.int .i64 d) := by rw [h1.cells.cell]; rfl
  have hrun : ∀ q, (Instr.lookup 49 (.map (some M)) (.int .i64 id) false).run Try.prog (w.drewN q) = .ok (.int .u64 (lookL L id)) (w.drewN q) := by
    intro q
    obtain ⟨c, hr, hat, hwc⟩ := (h1.below (Drawn.below ⟨q, rfl⟩ w.heap.size)).map.lookup_int law_int Try.underlying49 Try.underlying34 (zero_u64 (w.drewN q)) hkey
    rw [hr]
    have : c = lookL L id := by
      by_cases hn : ∃ t, (id, t) ∈ L
      · obtain ⟨t, ht⟩ := hn
        rw [h2.get id t ht] at hat
        simp only [DataW.lit.injEq, Lit.int.injEq, true_and] at hat
        rw [lookL_mem h3 ht, hat]
      · have hh : Maps.has D (.int .i64 id) = false := by
          cases e : Maps.has D (.int .i64 id) with
          | true => exact absurd ((h2.has id).1 e) hn
          | false => rfl
        rw [atKey_of_not_has hh] at hat
        simp only [DataW.lit.injEq, Lit.int.injEq, true_and] at hat
        rw [lookL_none hn, hat]
    rw [this]
  have hb := lookL_bd h3 id
  have hb2 := bd_u64 hs
  have hdist := fun W => dist_any (lookL L id) s W hb.1 hb.2 hb2.1 hb2.2
  have hdb := distB_bd (lookL L id) s
  unfold farB
  clear hb hb2 h1 h2 h3 h6 h5
  generalize lookL L id = c at hrun hdist hdb ⊢
  generalize distB c s = r at hdist hdb ⊢
  replace hdist := Lib.hid hdist
  go_enter Try.func33, Try.ntmps33
  go_wp2_with fail
  go_quiet ((go_at_call 34; exact Calls.drawn_at (hdist.out _)))
  go_wp2_with fail
  go_ret
  exact ⟨rfl, ⟨_, rfl⟩⟩

/-! Near: slices.DeleteFunc by the library's contract, over numbers of their kind. -/
structure I64 where
  val : Int
  wf : (Lit.int .i64 val).wf = true
instance : Inhabited I64 := ⟨⟨0, by decide⟩⟩
def encN (x : I64) : Value := .int .i64 x.1
theorem lift_i64 : ∀ zs : List Int, (∀ x ∈ zs, (Lit.int .i64 x).wf = true) → ∃ ys : List I64, ys.map I64.val = zs
  | [], _ => ⟨[], rfl⟩
  | x :: zs, h => by
    obtain ⟨ys, hy⟩ := lift_i64 zs fun y hy => h y (List.mem_cons_of_mem _ hy)
    exact ⟨⟨x, h x (by simp)⟩ :: ys, by rw [List.map_cons, hy]⟩
theorem map_encN (ys : List I64) : ys.map encN = (ys.map I64.val).map (Value.int .i64) := by rw [List.map_map]; rfl
theorem filter_val (f : Int → Bool) (ys : List I64) : ((ys.map I64.val).filter fun x => !f x) = (ys.filter fun x => !f x.val).map I64.val := by rw [List.filter_map]; rfl
theorem holds_encN {w : World} {g n cap : Nat} {ys : List I64} (h : w.ownsRow 0 3 1 (.slice (some ⟨g, 0, none⟩) n cap) n (ys.map encN)) : Holds encN w g 0 ys.toArray := by
  intro j hj
  have hl : ys.length = n := by simpa using h.1
  have hj' : j < ys.length := by simpa using hj
  rw [Nat.zero_add]
  refine ⟨?_, h.frozenAt j⟩
  rw [h.cellAt j (by omega), List.getElem?_map, List.getElem?_eq_getElem hj', getElem!_pos _ j (by simpa using hj')]
  rfl
set_option maxRecDepth 100000 in
theorem delfunc_empty (a : Option Addr) (c : Nat) (f : Value) (w : World) : Calls Try.prog 32 #[.slice a 0 c, f] w fun e w' => e = .returned (.slice a 0 c) ∧ w = w' := by
  have hi : ∀ W, Calls Try.prog 49 #[.slice a 0 c, f] W fun e w' => e = .returned (.int .i64 (-1)) ∧ W = w' := by
    intro W
    go_enter Try.func49, Try.ntmps49
    go_wp2_with fail
    go_loop [8] (fun i => i = .int .i64 0) (fun _ => 0)
    case atStart => rfl
    case round =>
      subst hrel
      go_wp2_with fail
      go_ret
      exact ⟨rfl, rfl⟩
  replace hi := Lib.hid hi
  go_enter Try.func32, Try.ntmps32
  go_wp2_with fail
  refine (hi.out _).mono ?_; rintro e w1 ⟨rfl, rfl⟩
  go_wp2_with fail
  go_ret
  exact ⟨rfl, rfl⟩
theorem delfunc_near (X d : Nat) (L : List (Int × Int)) (m : Nat) (fp : Nat → Prop) (s : Int) (b1 b2 : Nat) (v : Value) (zs : List Int) (w : World) (h : IdxAt w X d L m fp) (c1 : w.cell? ⟨b1, 0, none⟩ = some (.pointer (some ⟨X, 0, none⟩))) (c2 : w.cell? ⟨b2, 0, none⟩ = some (.int .u64 s))
    (hs : (Lit.int .u64 s).wf = true) (ho : w.ownsRow 0 3 1 v zs.length (zs.map (Value.int .i64))) (hz : ∀ x ∈ zs, (Lit.int .i64 x).wf = true) (hn : zs.length ≤ 1000000)
    (hfp : ∀ g, v.ownBlock = some g → ¬ fp g ∧ g ≠ b1 ∧ g ≠ b2) :
    Calls Try.prog 32 #[v, .func (.func 33) #[] #[.pointer (some ⟨b1, 0, none⟩), .pointer (some ⟨b2, 0, none⟩)]] w
      (DelPost 3 1 w v (zs.filter fun x => !farB L s d x).length ((zs.filter fun x => !farB L s d x).map (Value.int .i64))) := by
  by_cases h0 : zs = []
  · subst h0
    have hv : ∃ a c, v = .slice a 0 c := by
      rcases ho.2 with ⟨e, _⟩ | ⟨_, _, _, e, _⟩
      · exact ⟨_, _, e⟩
      · exact ⟨_, _, e⟩
    obtain ⟨a, c, rfl⟩ := hv
    refine (delfunc_empty a c _ w).mono ?_
    rintro e w' ⟨rfl, rfl⟩
    exact ⟨_, rfl, ho, ⟨rfl, rfl, rfl, Nat.le_refl _, fun _ _ _ => rfl⟩, rfl⟩
  · have hv : v ≠ .slice none 0 0 := by
      rintro rfl
      rcases ho.2 with ⟨_, e⟩ | ⟨_, _, _, e, _⟩
      · exact h0 (List.length_eq_zero_iff.1 e)
      · cases e
    obtain ⟨g, cap, cc, rfl, hg, hx, hcl, hnc, hcm⟩ := owns_arr ho hv
    obtain ⟨ys, rfl⟩ := lift_i64 zs hz
    have hgf := hfp g rfl
    have hl : (ys.map I64.val).length = ys.length := List.length_map _
    rw [hl] at ho hnc hn ⊢
    rw [← map_encN] at ho
    have eg : ∀ args w, (callFunc 33 args).run Try.prog w = .ok (.enter 33 args) w := enters_of Try.func33 (by kernel_rfl) rfl
    have hcls : ∀ (W : World) (x : I64), Turned (fun b => b = g) w W → FnGives Try.prog 33 #[.pointer (some ⟨b1, 0, none⟩), .pointer (some ⟨b2, 0, none⟩)] #[encN x] (.bool (farB L s d x.1)) W := by
      intro W x ht
      have e1 : W.cell? ⟨b1, 0, none⟩ = some (.pointer (some ⟨X, 0, none⟩)) := (World.cell?_of_block (w := w) (a := ⟨b1, 0, none⟩) (ht.block b1 (World.block_lt_of_cell? w _ c1) (Ne.symm hgf.2.1))).trans c1
      have e2 : W.cell? ⟨b2, 0, none⟩ = some (.int .u64 s) := (World.cell?_of_block (w := w) (a := ⟨b2, 0, none⟩) (ht.block b2 (World.block_lt_of_cell? w _ c2) (Ne.symm hgf.2.2))).trans c2
      exact nearcls_any X d L m fp s x.1 b1 b2 W (h.turned ht fun b hb e => hgf.1 (e ▸ hb)) e1 e2 x.2 hs
    have hcon := Laid.slices_DeleteFunc encN (fun _ => rfl) (fun x : I64 => farB L s d x.1) 33 #[.pointer (some ⟨b1, 0, none⟩), .pointer (some ⟨b2, 0, none⟩)] eg default Try.zeroValue3 g 0 cap ys.toArray w
      (fun W x hb => hcls W x (Turned.of_below hb))
      (fun n os dk x _ => hcls _ x (((Turned.of_grown (ahead_grown w n none) fun _ e => by cases e).trans (Turned.of_grown (S := fun b => b = g) (putRow_grown _ _ _ _ _) fun _ e => by injection e with e; exact e.symm) fun _ _ h => h).trans (Turned.of_grown (S := fun b => b = g) (grow_grown _ os none) fun _ e => by cases e) fun _ _ h => h))
      (holds_encN ho) (by simp; omega) (by simpa using hnc)
    clear hcls
    generalize farB L s d = f at hcon ⊢
    rw [filter_val f ys, List.length_map]
    have hsz : ys.toArray.size = ys.length := by simp
    have htl : ys.toArray.toList = ys := by simp
    rw [hsz, htl] at hcon
    refine hcon.mono ?_
    rintro e w' ⟨rfl, q, rfl⟩
    generalize hr : (ys.filter fun x => !f x.val) = r
    have hrl : r.length ≤ ys.length := by rw [← hr]; exact List.length_filter_le _ _
    have h1 : ArrAt (Sort.ahead w q) g 3 cc := hg
    have h2 := putRow_arr encN (r ++ List.replicate (ys.length - r.length) default) h1 (by simp; omega)
    refine ⟨_, rfl, h2.owns (by rw [List.map_append, List.append_assoc, ← map_encN]; exact List.take_left' (by simp)) (by simp; omega) (by omega) hcm, grown_trans (ahead_grown w q _) (putRow_grown _ _ _ _ _), rfl⟩

theorem wf_i64 {x : Int} (h : -9223372036854775808 ≤ x ∧ x ≤ 9223372036854775807) : (Lit.int .i64 x).wf = true := by
  simp [Lit.wf, IntKind.min, IntKind.max, IntKind.bits, IntKind.signed]; omega
theorem near_nil (s : Int) (w : World) : Calls Try.prog 20 #[.pointer none, .int .u64 s] w fun e w' => e = .returned (.slice none 0 0) ∧ Below w.heap.size w w' := by
  have hsh := Lib.hid (fun W => sharing_nil s W)
  have hdl := Lib.hid (fun f W => delfunc_empty none 0 f W)
  go_enter Try.func20, Try.ntmps20
  go_wp2_with fail
  refine (hsh.out _).mono ?_; rintro e w1 ⟨rfl, rfl⟩
  go_wp2_with fail
  refine (hdl.out _ _).mono ?_; rintro e w1 ⟨rfl, rfl⟩
  go_wp2_with fail
  go_ret
  exact ⟨rfl, ((Below.refl _ _).alloc (Nat.le_refl _) _).alloc (by simp) _⟩
set_option maxRecDepth 100000 in
theorem near_any (X d : Nat) (L : List (Int × Int)) (m : Nat) (fp : Nat → Prop) (s : Int) (w : World) (h : IdxAt w X d L m fp) (hs : (Lit.int .u64 s).wf = true) (hm : m < 50000) :
    Calls Try.prog 20 #[.pointer (some ⟨X, 0, none⟩), .int .u64 s] w (ListPost (nearL L s d) w) := by
  have hb0 := ((Below.refl w.heap.size w).alloc (Nat.le_refl _) (.cells #[.pointer (some ⟨X, 0, none⟩)] 23)).alloc (by simp) (.cells #[.int .u64 s] 34)
  have hW := h.below hb0
  have hsh := Lib.hid (sharing_any X d L m fp s _ hW hs hm)
  have hL : Nums L := by obtain ⟨_, _, _, _, _, _, _, _, h3, _⟩ := h; exact h3
  have h16 : d < 16 := by obtain ⟨_, _, _, _, _, _, _, _, _, h4, _⟩ := h; exact h4
  have hlen : L.length ≤ m := by obtain ⟨_, _, _, _, _, _, _, _, _, _, h5, _⟩ := h; exact h5.2
  have hsl : (shareL L s d).length ≤ 1000000 := by
    unfold shareL
    rw [List.length_map]
    have := List.length_filter_le (fun p => shareB p.2 s d) L
    omega
  have hwf : ∀ x ∈ shareL L s d, (Lit.int .i64 x).wf = true := fun x hx => by
    unfold shareL at hx
    obtain ⟨p, hp, rfl⟩ := List.mem_map.1 hx
    exact wf_i64 (hL.bd p (List.mem_filter.1 hp).1).1
  have hfin : Hid ((shareL L s d).filter (fun x => !farB L s d x) = nearL L s d) := nearL_is hL (bd_u64 hs) h16
  have c1 : ((w.alloc (.cells #[.pointer (some ⟨X, 0, none⟩)] 23)).alloc (.cells #[.int .u64 s] 34)).cell? ⟨w.heap.size, 0, none⟩ = some (.pointer (some ⟨X, 0, none⟩)) := by
    have := (arrAt_new w 23 [.pointer (some ⟨X, 0, none⟩)]).next ((Below.refl _ _).alloc (Nat.le_refl _) (.cells #[.int .u64 s] 34))
    rw [this.cell]; rfl
  have c2 : ((w.alloc (.cells #[.pointer (some ⟨X, 0, none⟩)] 23)).alloc (.cells #[.int .u64 s] 34)).cell? ⟨w.heap.size + 1, 0, none⟩ = some (.int .u64 s) := by
    rw [(arrAt_new2 w (.cells #[.pointer (some ⟨X, 0, none⟩)] 23) 34 [.int .u64 s]).cell]; rfl
  have hdf : Hid (∀ v w2, Ints w2 (w.heap.size + 2) v (shareL L s d) → Below (w.heap.size + 2) ((w.alloc (.cells #[.pointer (some ⟨X, 0, none⟩)] 23)).alloc (.cells #[.int .u64 s] 34)) w2 →
      Calls Try.prog 32 #[v, .func (.func 33) #[] #[.pointer (some ⟨w.heap.size, 0, none⟩), .pointer (some ⟨w.heap.size + 1, 0, none⟩)]] w2 (ListPost (nearL L s d) w)) := by
    intro v w2 ho hb
    have hsz : ((w.alloc (.cells #[.pointer (some ⟨X, 0, none⟩)] 23)).alloc (.cells #[.int .u64 s] 34)).heap.size = w.heap.size + 2 := by simp
    have hI : IdxAt w2 X d L m fp := hW.below (by rw [hsz]; exact hb)
    have e1 := (hb.cell (p := ⟨w.heap.size, 0, none⟩) (by show w.heap.size < _; omega)).trans c1
    have e2 := (hb.cell (p := ⟨w.heap.size + 1, 0, none⟩) (by show w.heap.size + 1 < _; omega)).trans c2
    have hlow : ∀ g, v.ownBlock = some g → w.heap.size + 2 ≤ g := fun g hg => (ho.lt g hg).1
    refine (delfunc_near X d L m fp s w.heap.size (w.heap.size + 1) v (shareL L s d) w2 hI e1 e2 hs (World.ownsRow.mono ho (Nat.zero_le _)) hwf hsl fun g hg => ⟨fun hf => ?_, ?_, ?_⟩).mono ?_
    · have := h.lt hf; have := hlow g hg; omega
    · have := hlow g hg; omega
    · have := hlow g hg; omega
    · rintro e w3 ⟨v', rfl, ho3, hg3, hv3⟩
      rw [hfin.out] at ho3
      have hsz2 := hb.size
      refine ⟨v', rfl, ownsRow_base ho3 fun g hg => by have := hlow g (hv3.symm.trans hg); omega, ?_⟩
      refine (hb0.trans (hb.mono (by omega))).trans ((Turned.of_grown (S := fun b => w.heap.size ≤ b) hg3 fun g hg => by have := hlow g hg; omega).below (fun _ _ h => h) (by omega))
  clear hW hL hsl hwf hfin c1 c2 hb0 hlen h h16
  go_enter Try.func20, Try.ntmps20
  go_wp2_with fail
  refine hsh.out.mono ?_; rintro e w1 ⟨v, rfl, ho, hb⟩
  have hcall := Lib.hid (hdf.out v w1 (by simpa using ho) (by simpa using hb))
  clear hdf hsh ho hb
  go_wp2_with fail
  refine hcall.out.mono ?_; rintro e w2 ⟨v2, rfl, ho2, hb2⟩
  replace ho2 := Lib.hid ho2
  replace hb2 := Lib.hid hb2
  go_wp2_with fail
  go_ret
  exact ⟨v2, rfl, ho2.out, hb2.out⟩
end Go.Proofs.Ytgldlfgidmgmfaa
