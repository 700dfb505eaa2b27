/- Layer 12: a builder in memory; element. -/
import Derived.Test.YtodocdbnflmgnaaDoorNd
import Derived.Test.YtodocdbnflmgnaaDoorAs
namespace Go.Proofs.YtodocdbnflmgnaaDoor
open Go.RowKit

theorem t_nb : 44 ≠ 53 := by decide
theorem t_ab : 50 ≠ 53 := by decide
theorem t_an : 50 ≠ 44 := by decide
theorem info_attr12 : (Tryd.prog.info? 50).map (fun i => (i.zero, i.size, i.bytes)) = some (some (.agg #[.string ⟨#[]⟩, .string ⟨#[]⟩]), 2, 32) := by kernel_rfl
/-- A builder, and what it holds. -/
structure BdM (w : World) (B R : Nat) (s : Bs) (P : List (Nd × Value)) (v : Value) : Prop where
  bd : ArrAt w R 53 [v, .int .i64 s.up]
  row : OwnN w B v P
  nds : nodes P = s.nds
  ats : ∀ p ∈ P, Ats w B p.2 p.1.attrs
  low : B ≤ R
section
variable {w w' : World} {B R : Nat} {s : Bs} {P : List (Nd × Value)} {v : Value}
theorem BdM.c0 (h : BdM w B R s P v) : w.cell? ⟨R, 0, none⟩ = some v := by rw [h.bd.cell]; rfl
theorem BdM.c1 (h : BdM w B R s P v) : w.cell? ⟨R, 1, none⟩ = some (.int .i64 s.up) := by rw [h.bd.cell]; rfl
theorem BdM.base (h : BdM w B R s P v) : B ≤ w.heap.size := by have := h.low; have := h.bd.lt; omega
theorem BdM.plen (h : BdM w B R s P v) : P.length = s.nds.length := by rw [← h.nds]; unfold nodes; simp
theorem BdM.turned {S : Nat → Prop} {u : Int} (h : BdM w B R s P v) (hr : ArrAt w' R 53 [v, .int .i64 u]) (ht : Turned S w w') (hS : ∀ b, S b → b = R) : BdM w' B R ⟨s.nds, u⟩ P v :=
  ⟨hr, ownsRow_turned h.row ht fun b hb hs => own_ne_arr h.row h.bd t_nb (by rw [hb, hS b hs]), h.nds,
    fun p hp => ownsRow_turned (h.ats p hp) ht fun b hb hs => own_ne_arr (h.ats p hp) h.bd t_ab (by rw [hb, hS b hs]), h.low⟩
theorem BdM.below (h : BdM w B R s P v) (hb : Below w.heap.size w w') : BdM w' B R s P v :=
  h.turned (S := fun _ => False) (u := s.up) (h.bd.next hb) (Turned.of_below hb) (fun _ e => e.elim)
theorem BdM.setUp (h : BdM w B R s P v) (u : Int) : BdM (w.setCell ⟨R, 1, none⟩ (.int .i64 u)) B R ⟨s.nds, u⟩ P v ∧ Below B w (w.setCell ⟨R, 1, none⟩ (.int .i64 u)) :=
  ⟨h.turned (h.bd.set 1 _) (turned_setCell w ⟨R, 1, none⟩ _) (fun _ e => e), (Below.refl B w).setCell h.low _⟩
/-- A node more. -/
theorem BdM.push {w1 : World} {v1 : Value} {y : Nd} {va : Value} (h : BdM w B R s P v) (ha : Ats w B va y.attrs) (ho : w1.ownsRow B 44 4 v1 (P.length + 1) (cellsN P ++ ndV (y, va))) (hg : w.grownBy w1 v.ownBlock) :
    BdM (w1.setCell ⟨R, 0, none⟩ v1) B R ⟨s.nds ++ [y], s.up⟩ (P ++ [(y, va)]) v1 ∧ Below B w (w1.setCell ⟨R, 0, none⟩ v1) := by
  have hT := Turned.of_grown (S := fun b => v.ownBlock = some b) hg fun _ e => e
  have hr1 := h.bd.turned hT (own_ne_arr h.row h.bd t_nb)
  have hst := turned_setCell w1 ⟨R, 0, none⟩ v1
  have ho2 : OwnN w1 B v1 (P ++ [(y, va)]) := by
    unfold OwnN
    rw [List.length_append, cellsN_app]
    have e : cellsN [(y, va)] = ndV (y, va) := by simp [cellsN]
    rw [e]; exact ho
  have k3 : ∀ u a, Ats w B u a → Ats w1 B u a := fun u a hu => ownsRow_turned hu hT fun b hb e => own_apart hu h.row t_an hb e
  refine ⟨⟨hr1.set 0 v1, ?_, ?_, ?_, h.low⟩, ?_⟩
  · exact ownsRow_turned ho2 hst fun b hb e => own_ne_arr ho2 hr1 t_nb (by rw [hb]; exact congrArg some e)
  · show nodes (P ++ [(y, va)]) = s.nds ++ [y]
    unfold nodes
    rw [List.map_append, ← h.nds]
    rfl
  · intro p hp
    have hp1 : Ats w1 B p.2 p.1.attrs := by
      rcases List.mem_append.1 hp with hp | hp
      · exact k3 _ _ (h.ats p hp)
      · rw [List.mem_singleton] at hp; subst hp; exact k3 _ _ ha
    exact ownsRow_turned hp1 hst fun b hb e => own_ne_arr hp1 hr1 t_ab (by rw [hb]; exact congrArg some e)
  · exact (((Below.refl B w).grown hg h.base fun k hk => (World.ownsRow.lt h.row k hk).1)).setCell h.low _
end
/-- Append of attributes that can be read. -/
theorem wpList_append_at {P : Program} {ops : Array Oper} {rest : List Oper} {o : Oper} {a : Act} {Q : Exit → Act → World → Prop} {w : World} (hw : Region.wanted o (yielded ops a.tmps) = true) (s x : Operand) (t e : TypeId)
    (ho : o.op = .call { callee := .builtin .append, args := #[s, x], argTypes := #[t, t] }) (ht : P.underlying t = some (.slice e))
    (z : Value) (bytes : Nat) (hi : (P.info? e).map (fun i => (i.zero, i.size, i.bytes)) = some (some z, 2, bytes)) (hzs : z.cells.size = 2) (hby : 0 < bytes)
    (B : Nat) (v : Value) (n : Nat) (xs : List Value) (hown : w.ownsRow B e 2 v n xs) (v2 : Value) (ys : List At) (hsl : AtSl w v2 ys) (hs : a.eval s = v) (hx : a.eval x = v2)
    (hn : (n + ys.length) * bytes ≤ 140737488355328) (hB : B ≤ w.heap.size)
    (h : ∀ v' w', w'.ownsRow B e 2 v' (n + ys.length) (xs ++ cellsA ys) → Below B w w' → wpList P ops Q rest (a.put o.dst v') w') : wpList P ops Q (o :: rest) a w := by
  obtain ⟨i0, hi, hz0, hz1, hz2⟩ := info_parts hi
  have hn1 : n + ys.length ≤ (n + ys.length) * bytes := Nat.le_mul_of_pos_right _ hby
  rcases hsl with ⟨rfl, ad, c, rfl⟩ | ⟨b, off, c, _, rfl, hc⟩
  · cases ad with
    | none =>
      refine BigFrame.wpList_want hw fun K hK => ?_
      have hrun := run_append_none (P := P) (w := w) B t o.type e i0 2 ht hi v n c xs hown
      have hK' := hK _ _ (h v w (by simpa [cellsA] using hown) (Below.refl _ _))
      unfold Oper.wp
      simp [execOp, ho, resolve, invoke, builtin, hs, hx, hrun, Result.andThen]
      exact hK'
    | some ad =>
      refine BigFrame.wpList_want hw fun K hK => wp_append_own _ s x t ho B e i0 z 2 bytes ht hi hz0 hz1 hz2 hzs (by decide) v n xs hs hown ad 0 c [] hx rfl (by simp) (by simp) (by unfold maxLen; simp at hn1 hn ⊢; omega) (by simpa using hn) hB ?_
      intro v' w' h1 h2 _
      exact hK _ _ (h v' w' (by simpa [cellsA] using h1) ((Below.refl B w).grown h2 hB fun k hk => (hown.lt k hk).1))
  · refine BigFrame.wpList_want hw fun K hK => wp_append_own _ s x t ho B e i0 z 2 bytes ht hi hz0 hz1 hz2 hzs (by decide) v n xs hs hown ⟨b, off, none⟩ ys.length c (cellsA ys) hx (cellsA_len ys) ?_ (cellsA_one' ys) (by unfold maxLen; omega) hn hB ?_
    · intro j u hu
      have hj : j < (cellsA ys).length := (List.getElem?_eq_some_iff.1 hu).1
      rw [cellsA_len] at hj
      have hj2 : j / 2 < ys.length := by omega
      obtain ⟨e0, e1⟩ := cellsA_at ys (j / 2) hj2
      obtain ⟨f0, f1⟩ := hc (j / 2) hj2
      rw [addr_mid]
      rcases Nat.mod_two_eq_zero_or_one j with hm | hm
      · have ej : j / 2 * 2 = j := by omega
        rw [ej] at e0 f0
        rw [f0, ← e0, hu]
      · have ej : j / 2 * 2 + 1 = j := by omega
        rw [Nat.add_assoc, ej] at f1
        rw [ej] at e1
        rw [f1, ← e1, hu]
    · intro v' w' h1 h2 _
      exact hK _ _ (h v' w' h1 ((Below.refl B w).grown h2 hB fun k hk => (hown.lt k hk).1))
/-- A token as an argument. -/
def tkA (x : Tk) (va : Value) : Value := .agg #[.int .i64 x.kind, .string ⟨x.name.toArray⟩, va, .string ⟨x.text.toArray⟩]
/-- A builder in some state. -/
def BdE (w : World) (B R : Nat) (s : Bs) : Prop := ∃ P v, BdM w B R s P v
/-- What a builder's call comes to. -/
def BdPost (w : World) (B R : Nat) (s : Bs) (u : Value) (e : Ending) (w' : World) : Prop := e = .returned u ∧ BdE w' B R s ∧ Below B w w'
theorem BdPost.mk {w w' : World} {B R : Nat} {s s' : Bs} {u : Value} {P : List (Nd × Value)} {v : Value} (hs : s = s') (h : BdM w' B R s' P v) (hb : Below B w w') : BdPost w B R s u (.returned u) w' := by subst hs; exact ⟨rfl, ⟨P, v, h⟩, hb⟩

set_option maxRecDepth 100000 in
set_option maxHeartbeats 4000000 in
theorem element12_any (B R : Nat) (s : Bs) (P : List (Nd × Value)) (v : Value) (x : Tk) (va : Value) (w : World) (h : BdM w B R s P v) (ha : AtSl w va x.attrs) (hn : P.length ≤ 1000000) (hx : x.attrs.length * 32 ≤ 140737488355328) :
    Calls Tryd.prog 29 #[.pointer (some ⟨R, 0, none⟩), tkA x va] w (BdPost w B R ⟨s.nds ++ [elemN x s.up], s.up⟩ (.tuple #[])) := by
  obtain ⟨a0, c0', rfl⟩ := own_form h.row
  obtain ⟨va0, vc0, rfl⟩ := ha.form
  have hb0 : Below w.heap.size w (w.alloc (.cells #[.int .i64 x.kind, .string ⟨x.name.toArray⟩, .slice va0 x.attrs.length vc0, .string ⟨x.text.toArray⟩] 47)) := (Below.refl _ _).alloc (Nat.le_refl _) _
  have hA := h.below hb0
  have haA := ha.next hb0
  have hbx : ArrAt (w.alloc (.cells #[.int .i64 x.kind, .string ⟨x.name.toArray⟩, .slice va0 x.attrs.length vc0, .string ⟨x.text.toArray⟩] 47)) w.heap.size 47 [.int .i64 x.kind, .string ⟨x.name.toArray⟩, .slice va0 x.attrs.length vc0, .string ⟨x.text.toArray⟩] := arrAt_new w _ _
  have hbB := h.base
  have hsz1 : (w.alloc (.cells #[.int .i64 x.kind, .string ⟨x.name.toArray⟩, .slice va0 x.attrs.length vc0, .string ⟨x.text.toArray⟩] 47)).heap.size = w.heap.size + 1 := by simp
  clear h ha
  replace hsz1 := Lib.hid hsz1
  unfold tkA
  replace hb0 := Lib.hid hb0
  replace hA := Lib.hid hA
  replace haA := Lib.hid haA
  replace hbx := Lib.hid hbx
  go_enter Tryd.func29, Tryd.ntmps29
  go_wp2_with (at_builtin; go_must (refine wpList_append_at rfl _ _ 42 50 rfl Tryd.underlying42 (.agg #[.string ⟨#[]⟩, .string ⟨#[]⟩]) 32 info_attr12 rfl (by decide) _ (.slice none 0 0) 0 [] (World.ownsRow_nil _ _ _ _) _ x.attrs haA.out rfl rfl (by omega) (Nat.le_refl _) ?_))
  intro v2 w2 ho2 hb2
  have ha2 : Ats w2 B v2 x.attrs := ownsRow_mono (by simpa using ho2) (Nat.le_succ_of_le hbB)
  rw [← hsz1.out] at hb2
  have h2 := hA.out.below hb2
  have hx2 := hbx.out.next hb2
  have hb02 := hb0.out.andThen hb2
  obtain ⟨a2, c2, rfl⟩ := own_form ha2
  clear ho2 hb2
  have c0 := h2.c0
  have c1 := h2.c1
  have f0 := h2.bd.soft 0
  have x1 : w2.cell? ⟨w.heap.size, 1, none⟩ = some (.string ⟨x.name.toArray⟩) := by rw [hx2.cell]; rfl
  have c0y := (h2.below ((Below.refl _ _).alloc (Nat.le_refl _) (.cells #[.string ⟨x.name.toArray⟩, .slice a2 x.attrs.length c2, .string ⟨#[]⟩, .int .i64 s.up] 44))).c0
  have hd := drawn_drew w2
  have h3 := h2.below (hd.below _)
  have ha3 : Ats w2.drew B (.slice a2 x.attrs.length c2) x.attrs := ownsRow_drawn ha2 hd
  have hlow := h3.base
  have hball := (hb02.mono hbB).trans (hd.below B)
  clear hx2 h2 ha2 hb02 hd
  replace h3 := Lib.hid h3
  replace ha3 := Lib.hid ha3
  replace hball := Lib.hid hball
  go_wp2_with fail
  go_region_law (refine step_append1 rfl (.tmp 12) (.tmp 21) 24 44 rfl Tryd.underlying24 (.agg #[.string ⟨#[]⟩, .slice none 0 0, .string ⟨#[]⟩, .int .i64 0]) 4 64 info_node rfl (by decide) (by decide) B _ P.length (cellsN P) [.string ⟨x.name.toArray⟩, .slice a2 x.attrs.length c2, .string ⟨#[]⟩, .int .i64 s.up] rfl h3.out.row (by simp [Act.eval]) (by simp [Act.eval]) (by intro u hu; simp at hu; rcases hu with rfl | rfl | rfl | rfl <;> rfl) (by omega) (by simpa using hlow) ?_; intro v1 w1 hown1 hgr1 hwh1; obtain ⟨a1, e1, rfl⟩ := own_form hown1.out; have r1 := h3.out.bd.turned (Turned.of_grown (S := fun b => (Value.slice a0 P.length c0').ownBlock = some b) hgr1.out fun _ e => e) (own_ne_arr h3.out.row h3.out.bd t_nb); have c0' : w1.cell? ⟨R, 0, none⟩ = some _ := (by rw [r1.cell]; rfl); have f0' := r1.soft 0; replace r1 := Lib.hid r1)
  all_goals go_wp2_with fail
  all_goals
    have hfin := h3.out.push (y := elemN x s.up) ha3.out hown1.out hgr1.out
    refine bodyPost_end (v := .tuple #[]) (by simp [results, Tryd.results29, go_sem]) rfl ?_
    exact BdPost.mk rfl hfin.1 (hball.out.trans hfin.2)
end Go.Proofs.YtodocdbnflmgnaaDoor
