/- Layer 11: a reader and all that it holds, in memory; keep, add. -/
import Derived.Test.YtkgjbamkinfmeaaGreatDoorBR11
namespace Go.Proofs.YtkgjbamkinfmeaaGreatDoor
open Go.RowKit

/-- A reader, and what it holds. -/
structure RdM (w : World) (B R : Nat) (c : RC) (k : Nat) (s : Sc) (P : List (Tk × Value)) : Prop where
  rd : Rd w R c k
  rt : c.rt = s.rooted
  opn : Strs w B c.vO s.opn
  txt : Txt w B c.vT s.text
  tks : Tks w B c.vK P
  ptk : P.map Prod.fst = s.toks
  low : B ≤ R
section
variable {w w' : World} {B R : Nat} {c : RC} {k k' : Nat} {s : Sc} {P : List (Tk × Value)}
theorem t_str : 9 ≠ 119 := by decide
theorem t_tok : 83 ≠ 119 := by decide
/-- Its other cells are as they were where only blocks of S have turned, and S is none of theirs. -/
theorem RdM.turned {S : Nat → Prop} (h : RdM w B R c k s P) {c' : RC} (hc : c'.vO = c.vO ∧ c'.vT = c.vT ∧ c'.vK = c.vK) (hr : Rd w' R c' k') (ht : Turned S w w') (hS : ∀ b, S b → b = R) {s' : Sc} (hs : c'.rt = s'.rooted ∧ s'.opn = s.opn ∧ s'.text = s.text ∧ s'.toks = s.toks) : RdM w' B R c' k' s' P := by
  obtain ⟨e1, e2, e3⟩ := hc
  obtain ⟨f0, f1, f2, f3⟩ := hs
  refine ⟨hr, f0, ?_, ?_, ?_, by rw [f3]; exact h.ptk, h.low⟩
  · rw [e1, f1]; exact ownsRow_turned h.opn ht fun b hb hs => own_ne_arr h.opn h.rd t_str (by rw [hb, hS b hs])
  · rw [e2, f2]; exact ownsRow_turned h.txt ht fun b hb hs => own_ne_arr h.txt h.rd t_reader (by rw [hb, hS b hs])
  · rw [e3]; exact h.tks.turned ht (fun b hb hs => own_ne_arr h.tks.row h.rd t_tok (by rw [hb, hS b hs])) fun p hp b hb hs => own_ne_arr (h.tks.ats p hp) h.rd (Ne.symm t_attr) (by rw [hb, hS b hs])
theorem RdM.call (h : RdM w B R c k s P) (hr : Rd w' R c k') (ht : Turned (fun b => b = R) w w') : RdM w' B R c k' s P :=
  h.turned ⟨rfl, rfl, rfl⟩ hr ht (fun _ e => e) ⟨h.rt, rfl, rfl, rfl⟩
theorem RdM.below (h : RdM w B R c k s P) (hb : Below w.heap.size w w') : RdM w' B R c k s P :=
  h.turned (S := fun _ => False) ⟨rfl, rfl, rfl⟩ (h.rd.below hb) (Turned.of_below hb) (fun _ e => e.elim) ⟨h.rt, rfl, rfl, rfl⟩
theorem RdM.base (h : RdM w B R c k s P) : B ≤ w.heap.size := by have := h.low; have := h.rd.lt; omega
theorem below_turned (hl : B ≤ R) (hb : B ≤ w.heap.size) (ht : Turned (fun b => b = R) w w') : Below B w w' := ht.below (fun i _ e => by have : i = R := e; omega) hb
/-- The text is another one. -/
theorem RdM.text {w1 : World} {v1 : Value} {t1 : List UInt8} (h : RdM w B R c k s P) (ho : Txt w1 B v1 t1) (hg : w.grownBy w1 c.vT.ownBlock) : RdM (w1.setCell ⟨R, 5, none⟩ v1) B R { c with vT := v1 } k { s with text := t1 } P ∧ Below B w (w1.setCell ⟨R, 5, none⟩ v1) := by
  have hT := Turned.of_grown (S := fun b => c.vT.ownBlock = some b) hg fun _ e => e
  have hr1 := h.rd.turned hT (own_ne_arr h.txt h.rd t_reader)
  have hst := turned_setCell w1 ⟨R, 5, none⟩ v1
  have hr2 : Rd (w1.setCell ⟨R, 5, none⟩ v1) R { c with vT := v1 } k := ArrAt.set hr1 5 _
  have hne : ∀ b, b = R → some b ≠ v1.ownBlock := fun b e e2 => own_ne_arr ho hr1 t_reader (by rw [← e2, e])
  refine ⟨⟨hr2, h.rt, ?_, ?_, ?_, h.ptk, h.low⟩, ?_⟩
  · exact ownsRow_turned (ownsRow_turned h.opn hT fun b hb e => own_apart h.opn h.txt (by decide) hb e) hst fun b hb e => own_ne_arr (ownsRow_turned h.opn hT fun b hb e => own_apart h.opn h.txt (by decide) hb e) hr1 t_str (by rw [hb]; exact congrArg some e)
  · exact ownsRow_turned ho hst fun b hb e => hne b e hb.symm
  · have ht1 := h.tks.turned hT (fun b hb e => own_apart h.tks.row h.txt (by decide) hb e) fun p hp b hb e => own_apart (h.tks.ats p hp) h.txt (by decide) hb e
    exact ht1.turned hst (fun b hb e => own_ne_arr ht1.row hr1 t_tok (by rw [hb]; exact congrArg some e)) fun p hp b hb e => own_ne_arr (ht1.ats p hp) hr1 (Ne.symm t_attr) (by rw [hb]; exact congrArg some e)
  · refine (((Below.refl B w).grown hg h.base fun k hk => (World.ownsRow.lt h.txt k hk).1)).setCell h.low _
/-- A token more. -/
theorem RdM.token {w1 : World} {v1 : Value} {x : Tk} {va : Value} (h : RdM w B R c k s P) (ha : Ats w B va x.attrs) (ho : w1.ownsRow B 83 4 v1 (P.length + 1) (cellsK P ++ tkV (x, va))) (hg : w.grownBy w1 c.vK.ownBlock) : RdM (w1.setCell ⟨R, 6, none⟩ v1) B R { c with vK := v1 } k { s with toks := s.toks ++ [x] } (P ++ [(x, va)]) ∧ Below B w (w1.setCell ⟨R, 6, none⟩ v1) := by
  have hT := Turned.of_grown (S := fun b => c.vK.ownBlock = some b) hg fun _ e => e
  have hr1 := h.rd.turned hT (own_ne_arr h.tks.row h.rd t_tok)
  have hst := turned_setCell w1 ⟨R, 6, none⟩ v1
  have hr2 : Rd (w1.setCell ⟨R, 6, none⟩ v1) R { c with vK := v1 } k := ArrAt.set hr1 6 _
  have ho2 : w1.ownsRow B 83 4 v1 (P ++ [(x, va)]).length (cellsK (P ++ [(x, va)])) := by rw [List.length_append, cellsK_app]; exact ho
  have k1 : Strs w1 B c.vO s.opn := ownsRow_turned h.opn hT fun b hb e => own_apart h.opn h.tks.row (by decide) hb e
  have k2 : Txt w1 B c.vT s.text := ownsRow_turned h.txt hT fun b hb e => own_apart h.txt h.tks.row (by decide) hb e
  have k3 : ∀ v a, Ats w B v a → Ats w1 B v a := fun v a hv => ownsRow_turned hv hT fun b hb e => own_apart hv h.tks.row (by decide) hb e
  refine ⟨⟨hr2, h.rt, ?_, ?_, ⟨?_, ?_⟩, by rw [List.map_append, h.ptk]; rfl, h.low⟩, ?_⟩
  · exact ownsRow_turned k1 hst fun b hb e => own_ne_arr k1 hr1 t_str (by rw [hb]; exact congrArg some e)
  · exact ownsRow_turned k2 hst fun b hb e => own_ne_arr k2 hr1 t_reader (by rw [hb]; exact congrArg some e)
  · exact ownsRow_turned ho2 hst fun b hb e => own_ne_arr ho2 hr1 t_tok (by rw [hb]; exact congrArg some e)
  · intro p hp
    have hp1 : Ats w1 B p.2 p.1.attrs := by
      rcases List.mem_append.1 hp with hp | hp
      · exact k3 _ _ (h.tks.ats p hp)
      · rw [List.mem_singleton] at hp; subst hp; exact k3 _ _ ha
    exact ownsRow_turned hp1 hst fun b hb e => own_ne_arr hp1 hr1 (Ne.symm t_attr) (by rw [hb]; exact congrArg some e)
  · exact (((Below.refl B w).grown hg h.base fun k hk => (World.ownsRow.lt h.tks.row k hk).1)).setCell h.low _
end

/-- Attributes lie apart from a text, and from tokens. -/
theorem ats_kept {w w1 : World} {B R E z n : Nat} {c : RC} {k : Nat} {v u : Value} {a : List At} {xs : List Value} (hr : Rd w R c k) (hv : Ats w B v a) (ho : w.ownsRow B E z u n xs) (hE : E = 5 ∨ E = 83) (hg : w.grownBy w1 u.ownBlock) (i : Nat) (x : Value) : Ats (w1.setCell ⟨R, i, none⟩ x) B v a := by
  have hT := Turned.of_grown (S := fun b => u.ownBlock = some b) hg fun _ e => e
  have h1 : Ats w1 B v a := ownsRow_turned hv hT fun b hb e => own_apart hv ho (by rcases hE with rfl | rfl <;> decide) hb e
  have hr1 := hr.turned hT (own_ne_arr ho hr (by rcases hE with rfl | rfl <;> decide))
  exact ownsRow_turned h1 (turned_setCell w1 ⟨R, i, none⟩ x) fun b hb e => own_ne_arr h1 hr1 (Ne.symm t_attr) (by rw [hb]; exact congrArg some e)
/-- As wpList_append1s; it tells of all other blocks, too. -/
theorem wpList_append1sg {P : Program} {ops : Array Oper} {rest : List Oper} {o : Oper} {a : Act} {Q : Exit → Act → World → Prop} {w : World} (hgd : o.guard = none) (s x : Operand) (t u e : TypeId)
    (ho : o.op = .call { callee := .builtin .append, args := #[s, x], argTypes := #[t, u] }) (ht : P.underlying t = some (.slice e)) (hu : P.underlying u = some .string)
    (hi : (P.info? e).map (fun i => (i.zero, i.size, i.bytes)) = some (some (.int .u8 0), 1, 1))
    (B : Nat) (v : Value) (l m : List UInt8) (hown : w.ownsRow B e 1 v l.length ((nums l).map (Value.int .u8))) (hs : a.eval s = v) (hx : a.eval x = .string ⟨m.toArray⟩)
    (hn : l.length + m.length ≤ 140737488355328) (hB : B ≤ w.heap.size)
    (h : ∀ v' w', w'.ownsRow B e 1 v' (l ++ m).length ((nums (l ++ m)).map (Value.int .u8)) → w.grownBy w' v.ownBlock → wpList P ops Q rest (a.put o.dst v') w') : wpList P ops Q (o :: rest) a w := by
  obtain ⟨i0, hi, hz0, hz1, hz2⟩ := info_parts hi
  refine Lib.wpList_append_own_string w hgd s x t u ho B e i0 ht hu hi hz0 hz1 hz2 v l.length _ hs hown ⟨m.toArray⟩ hx (by show l.length + m.length ≤ _; unfold maxLen; omega) hn hB ?_
  intro v' w' h1 h2 _
  refine h v' w' ?_ h2
  have e1 : Lib.strCells ⟨m.toArray⟩ = (nums m).map (Value.int .u8) := by simp [Lib.strCells, nums]
  rw [e1, ← List.map_append, ← nums_app] at h1
  rw [List.length_append]
  exact h1

set_option maxHeartbeats 1000000 in
theorem keep11_any (B R : Nat) (c : RC) (k : Nat) (s : Sc) (P : List (Tk × Value)) (x : List UInt8) (ev : Value) (w : World) (h : RdM w B R c k s P) (hb : s.text.length + x.length ≤ 1000000) :
    Calls Tryz.prog 121 #[.pointer (some ⟨R, 0, none⟩), .string ⟨x.toArray⟩, ev] w fun e w' => e = .returned ev ∧ (∃ v1, RdM w' B R { c with vT := v1 } k { s with text := s.text ++ x } P) ∧ Below B w w' := by
  have c5 := h.rd.c5
  have f5 := h.rd.fz 5
  have hlow := h.base
  replace h := Lib.hid h
  go_enter Tryz.func121, Tryz.ntmps121
  go_wp2_with (at_builtin; go_must (refine wpList_append1sg rfl _ _ 117 9 5 rfl Tryz.underlying117 Tryz.underlying9 info_byte B _ s.text x h.out.txt rfl rfl (by omega) hlow ?_))
  intro v1 w1 hown1 hg1
  obtain ⟨a1, e1, rfl⟩ := own_form hown1
  have hT := Turned.of_grown (S := fun b => c.vT.ownBlock = some b) hg1 fun _ e => e
  have r1 := h.out.rd.turned hT (own_ne_arr h.out.txt h.out.rd t_reader)
  have hfin := Lib.hid (h.out.text (t1 := s.text ++ x) (show Txt _ _ _ _ from by rw [Txt, List.length_append]; exact hown1) hg1)
  have c5' := r1.c5
  have f5' := r1.fz 5
  replace r1 := Lib.hid r1
  replace hT := Lib.hid hT
  replace hown1 := Lib.hid hown1
  replace hg1 := Lib.hid hg1
  clear c5 f5
  go_wp2_with fail
  go_ret
  exact ⟨rfl, ⟨_, hfin.out.1⟩, hfin.out.2⟩

/-- What add comes to: the reader's state is s'. -/
def AddPost (w : World) (B R : Nat) (c : RC) (k : Nat) (s' : Sc) (e : Ending) (w' : World) : Prop :=
  e = .returned (.tuple #[]) ∧ (∃ c' P', c'.l = c.l ∧ c'.dep = c.dep ∧ c'.rt = c.rt ∧ RdM w' B R c' k s' P') ∧ Below B w w'
theorem AddPost.mk {w w' : World} {B R : Nat} {c c' : RC} {k : Nat} {s' : Sc} {P' : List (Tk × Value)} (h : RdM w' B R c' k s' P') (hc : c'.l = c.l ∧ c'.dep = c.dep ∧ c'.rt = c.rt) (hb : Below B w w') : AddPost w B R c k s' (.returned (.tuple #[])) w' := ⟨rfl, ⟨c', P', hc.1, hc.2.1, hc.2.2, h⟩, hb⟩
/-- A slice of bytes, cut to nothing. -/
theorem txt_zero {w : World} {B : Nat} {v : Value} {l : List UInt8} (h : Txt w B v l) (h0 : 0 < l.length) : ∃ g c, v = .slice (some ⟨g, 0, none⟩) l.length c ∧ l.length ≤ c ∧ v.ownBlock = some g ∧ Txt w B (.slice (some ⟨g, 0, none⟩) 0 c) [] := by
  rcases h.2 with ⟨_, hn⟩ | ⟨g, cap, cur, hv, hb, hg, h1, h2, h3, h4⟩
  · omega
  · exact ⟨g, cap, hv, h1, by rw [hv]; rfl, rfl, Or.inr ⟨g, cap, cur, rfl, hb, hg, Nat.zero_le _, h2, h3, by simp [nums]⟩⟩

set_option maxHeartbeats 2000000 in
/-- add, where no text waits. -/
theorem add11_no (B R : Nat) (c : RC) (k : Nat) (s : Sc) (P : List (Tk × Value)) (x : Tk) (va : Value) (w : World) (h : RdM w B R c k s P) (ha : Ats w B va x.attrs) (hb : P.length ≤ 1000000) (h0 : s.text = []) :
    Calls Tryz.prog 158 #[.pointer (some ⟨R, 0, none⟩), .agg #[.int .i64 x.kind, .string ⟨x.name.toArray⟩, va, .string ⟨x.text.toArray⟩]] w (AddPost w B R c k { s with toks := s.toks ++ [x] }) := by
  obtain ⟨aa, ac, rfl⟩ := own_form ha
  generalize hva : Value.slice aa x.attrs.length ac = va at ha
  have hb1 : Below w.heap.size w (w.alloc (.cells #[.int .i64 x.kind, .string ⟨x.name.toArray⟩, va, .string ⟨x.text.toArray⟩] 83)) := (Below.refl _ _).alloc (Nat.le_refl _) _
  have h1 := h.below hb1
  have ha1 : Ats _ B va x.attrs := ownsRow_below ha hb1
  have hx := arrAt_new w 83 [.int .i64 x.kind, .string ⟨x.name.toArray⟩, va, .string ⟨x.text.toArray⟩]
  have hlow := h1.base
  have hR := h1.rd.lt
  have hRx : R ≠ w.heap.size := by have := h.rd.lt; omega
  obtain ⟨a5, e5, hv5⟩ := txt_len h.txt
  rw [h0] at hv5
  have c5 := h1.rd.c5
  have c6 := h1.rd.c6
  have f6 := h1.rd.fz 6
  rw [hv5] at c5
  have x0 := hx.cell 0
  have x1 := hx.cell 1
  have x2 := hx.cell 2
  have x3 := hx.cell 3
  replace hx := Lib.hid hx
  replace h1 := Lib.hid h1
  replace ha1 := Lib.hid ha1
  replace h := Lib.hid h
  replace ha := Lib.hid ha
  replace hv5 := Lib.hid hv5
  replace h0 := Lib.hid h0
  replace hb1 := Lib.hid hb1
  go_enter Tryz.func158, Tryz.ntmps158
  go_wp2_with fail
  have hd := fun W W' => (fun (h : RdM W B R c k s P) (hd : Drawn W W') => h.below (hd.below _))
  have h2 := h1.out.below ((drawn_drew _).below _)
  have ha2 := ownsRow_drawn ha1.out (drawn_drew _)
  clear hd
  have c6y := (h1.out.below ((Below.refl _ _).alloc (Nat.le_refl _) (.cells #[.int .i64 x.kind, .string ⟨x.name.toArray⟩, va, .string ⟨x.text.toArray⟩] 83))).rd.c6
  replace h2 := Lib.hid h2
  replace ha2 := Lib.hid ha2
  go_region_law (refine step_append1 rfl (.tmp 37) (.tmp 39) 44 83 rfl Tryz.underlying44 (.agg #[.int .i64 0, .string ⟨#[]⟩, .slice none 0 0, .string ⟨#[]⟩]) 4 64 info_tok rfl (by decide) (by decide) B _ P.length (cellsK P) [.int .i64 x.kind, .string ⟨x.name.toArray⟩, va, .string ⟨x.text.toArray⟩] rfl h2.out.tks.row (by simp [Act.eval]) (by simp [Act.eval]) (by intro u hu; simp at hu; rcases hu with rfl | rfl | rfl | rfl <;> first | rfl | (subst hva; rfl)) (by omega) (by simpa using hlow) ?_; intro v1 w1 hown1 hgr1 hwh1; obtain ⟨a1, e1, rfl⟩ := own_form hown1.out; have r1 := h2.out.rd.turned (Turned.of_grown (S := fun b => c.vK.ownBlock = some b) hgr1.out fun _ e => e) (own_ne_arr h2.out.tks.row h2.out.rd t_tok); have c6' := r1.c6; have f6' := r1.fz 6; replace r1 := Lib.hid r1)
  all_goals go_wp2_with fail
  all_goals
    have hfin := h2.out.token (x := x) ha2.out hown1.out hgr1.out
    refine bodyPost_end (v := .tuple #[]) (by simp [results, Tryz.results158, go_sem]) rfl ?_
    exact AddPost.mk hfin.1 ⟨rfl, rfl, rfl⟩ (((hb1.out.mono h.out.base).trans ((drawn_drew _).below _)).trans hfin.2)

set_option maxHeartbeats 4000000 in
/-- add, where a text waits: it is a token first. -/
theorem add11_yes (B R : Nat) (c : RC) (k : Nat) (s : Sc) (P : List (Tk × Value)) (x : Tk) (va : Value) (w : World) (h : RdM w B R c k s P) (ha : Ats w B va x.attrs) (hb : P.length ≤ 1000000) (h0 : 0 < s.text.length) :
    Calls Tryz.prog 158 #[.pointer (some ⟨R, 0, none⟩), .agg #[.int .i64 x.kind, .string ⟨x.name.toArray⟩, va, .string ⟨x.text.toArray⟩]] w (AddPost w B R c k { s with text := [], toks := s.toks ++ [⟨4, [], [], s.text⟩, x] }) := by
  obtain ⟨aa, ac, rfl⟩ := own_form ha
  generalize hva : Value.slice aa x.attrs.length ac = va at ha
  have hb1 : Below w.heap.size w (w.alloc (.cells #[.int .i64 x.kind, .string ⟨x.name.toArray⟩, va, .string ⟨x.text.toArray⟩] 83)) := (Below.refl _ _).alloc (Nat.le_refl _) _
  have h1 := h.below hb1
  have ha1 : Ats _ B va x.attrs := ownsRow_below ha hb1
  have hx := arrAt_new w 83 [.int .i64 x.kind, .string ⟨x.name.toArray⟩, va, .string ⟨x.text.toArray⟩]
  have hlow := h1.base
  have hR := h1.rd.lt
  have hRx : R ≠ w.heap.size := by have := h.rd.lt; omega
  obtain ⟨g5, e5, hv5, he5, hg5, htz⟩ := txt_zero h.txt h0
  have hcv := txt_str (h1.below ((drawn_drew _).below _)).txt
  have c5 := h1.rd.c5
  have c6 := h1.rd.c6
  have f6 := h1.rd.fz 6
  rw [hv5] at c5 hcv
  have x0 := hx.cell 0
  have x1 := hx.cell 1
  have x2 := hx.cell 2
  have x3 := hx.cell 3
  have h2 := h1.below ((drawn_drew _).below _)
  have ha2 := ownsRow_drawn ha1 (drawn_drew _)
  have c6y := (h1.below ((Below.refl _ _).alloc (Nat.le_refl _) (.cells #[.int .i64 4, .string ⟨#[]⟩, .slice none 0 0, .string ⟨s.text.toArray⟩] 83))).rd.c6
  replace hx := Lib.hid hx
  replace h1 := Lib.hid h1
  replace h2 := Lib.hid h2
  replace ha2 := Lib.hid ha2
  replace ha1 := Lib.hid ha1
  replace h := Lib.hid h
  replace ha := Lib.hid ha
  replace hv5 := Lib.hid hv5
  replace hb1 := Lib.hid hb1
  replace htz := Lib.hid htz
  replace hg5 := Lib.hid hg5
  go_enter Tryz.func158, Tryz.ntmps158
  go_wp2_with fail
  go_region_law (refine step_append1 rfl (.tmp 14) (.tmp 21) 44 83 rfl Tryz.underlying44 (.agg #[.int .i64 0, .string ⟨#[]⟩, .slice none 0 0, .string ⟨#[]⟩]) 4 64 info_tok rfl (by decide) (by decide) B _ P.length (cellsK P) [.int .i64 4, .string ⟨#[]⟩, .slice none 0 0, .string ⟨s.text.toArray⟩] rfl h2.out.tks.row (by simp [Act.eval]) (by simp [Act.eval]) (by intro u hu; simp at hu; rcases hu with rfl | rfl | rfl | rfl <;> rfl) (by omega) (by simpa using hlow) ?_; intro v1 w1 hown1 hgr1 hwh1; obtain ⟨a1, e1, rfl⟩ := own_form hown1.out; have r1 := h2.out.rd.turned (Turned.of_grown (S := fun b => c.vK.ownBlock = some b) hgr1.out fun _ e => e) (own_ne_arr h2.out.tks.row h2.out.rd t_tok); have c6' := r1.c6; have f6' := r1.fz 6; replace r1 := Lib.hid r1)
  all_goals
    have hA := h2.out.token (x := ⟨4, [], [], s.text⟩) (va := .slice none 0 0) (ats_nil _ _) hown1.out hgr1.out
    have hX := (hx.out.drawn (drawn_drew _)).grown hgr1.out (fun e => by have := (World.ownsRow.lt h.out.tks.row _ e.symm).2; omega)
    have hX2 := hX.turned (turned_setCell w1 ⟨R, 6, none⟩ (.slice a1 (P.length + 1) e1)) (fun e => hRx e.symm)
    have hz := txt_zero hA.1.txt h0
    obtain ⟨g5', e5', hv5', _, _, htz'⟩ := hz
    have hA2 := hA.1.text (v1 := .slice (some ⟨g5', 0, none⟩) 0 e5') (t1 := []) htz' ⟨rfl, rfl, rfl, Nat.le_refl _, fun _ _ _ => rfl⟩
    have hX3 := hX2.turned (turned_setCell (w1.setCell ⟨R, 6, none⟩ (.slice a1 (P.length + 1) e1)) ⟨R, 5, none⟩ (.slice (some ⟨g5', 0, none⟩) 0 e5')) (fun e => hRx e.symm)
    have d5 := hA.1.rd.c5
    have dz5 := hA.1.rd.fz 5
    rw [hv5'] at d5
    have hall := (((hb1.out.mono h.out.base).trans ((drawn_drew _).below _)).trans hA.2).trans hA2.2
    have haA := ats_kept hA.1.rd (ats_kept h2.out.rd ha2.out h2.out.tks.row (Or.inr rfl) hgr1.out 6 (.slice a1 (P.length + 1) e1)) hA.1.txt (Or.inl rfl) ⟨rfl, rfl, rfl, Nat.le_refl _, fun _ _ _ => rfl⟩ 5 (.slice (some ⟨g5', 0, none⟩) 0 e5')
    have dx0 := hX3.cell 0
    have dx1 := hX3.cell 1
    have dx2 := hX3.cell 2
    have dx3 := hX3.cell 3
    have d6 := hA2.1.rd.c6
    have dz6 := hA2.1.rd.fz 6
    have hb3 := hA2.1.base
    have hB3 := hA2.1.below ((drawn_drew _).below _)
    have haB := ownsRow_drawn haA (drawn_drew _)
    have d6y := (hA2.1.below ((Below.refl _ _).alloc (Nat.le_refl _) (.cells #[.int .i64 x.kind, .string ⟨x.name.toArray⟩, va, .string ⟨x.text.toArray⟩] 83))).rd.c6
    clear c5 c6 f6 x0 x1 x2 x3 c6' f6' c6y hcv hX hX2 hX3 haA
    replace hA := Lib.hid hA
    replace hA2 := Lib.hid hA2
    replace hB3 := Lib.hid hB3
    replace haB := Lib.hid haB
    replace hall := Lib.hid hall
    replace htz' := Lib.hid htz'
    replace hv5' := Lib.hid hv5'
    replace hown1 := Lib.hid hown1
    replace hgr1 := Lib.hid hgr1
    go_wp2_with fail
    go_region_law (refine step_append1 rfl (.tmp 37) (.tmp 39) 44 83 rfl Tryz.underlying44 (.agg #[.int .i64 0, .string ⟨#[]⟩, .slice none 0 0, .string ⟨#[]⟩]) 4 64 info_tok rfl (by decide) (by decide) B _ (P ++ [((⟨4, [], [], s.text⟩ : Tk), Value.slice none 0 0)]).length (cellsK (P ++ [((⟨4, [], [], s.text⟩ : Tk), Value.slice none 0 0)])) [.int .i64 x.kind, .string ⟨x.name.toArray⟩, va, .string ⟨x.text.toArray⟩] rfl hB3.out.tks.row (by simp [Act.eval]) (by simp [Act.eval]) (by intro u hu; simp at hu; rcases hu with rfl | rfl | rfl | rfl <;> first | rfl | (subst hva; rfl)) (by simp; omega) (by simpa using hb3) ?_; intro v4 w4 hown4 hgr4 hwh4; obtain ⟨a4, e4, rfl⟩ := own_form hown4.out; have r4 := hB3.out.rd.turned (Turned.of_grown (S := fun b => (Value.slice a1 (P.length + 1) e1).ownBlock = some b) hgr4.out fun _ e => e) (own_ne_arr hB3.out.tks.row hB3.out.rd t_tok); have c4' := r4.c6; have f4' := r4.fz 6; replace r4 := Lib.hid r4)
    all_goals go_wp2_with fail
    all_goals
      have hfin := hB3.out.token (x := x) haB.out hown4.out hgr4.out
      simp only [List.append_assoc, List.cons_append, List.nil_append, List.length_append, List.length_cons, List.length_nil, Nat.zero_add] at hfin
      refine bodyPost_end (v := .tuple #[]) (by simp [results, Tryz.results158, go_sem]) rfl ?_
      exact AddPost.mk hfin.1 ⟨rfl, rfl, rfl⟩ ((hall.out.trans ((drawn_drew _).below _)).trans hfin.2)
end Go.Proofs.YtkgjbamkinfmeaaGreatDoor

/- Layer 11: the end of an element. -/
namespace Go.Proofs.YtkgjbamkinfmeaaGreatDoor
open Go.RowKit

theorem add11_any (B R : Nat) (c : RC) (k : Nat) (s : Sc) (P : List (Tk × Value)) (x : Tk) (va : Value) (w : World) (h : RdM w B R c k s P) (ha : Ats w B va x.attrs) (hb : P.length ≤ 1000000) :
    Calls Tryz.prog 158 #[.pointer (some ⟨R, 0, none⟩), .agg #[.int .i64 x.kind, .string ⟨x.name.toArray⟩, va, .string ⟨x.text.toArray⟩]] w (AddPost w B R c k { s with text := [], toks := addT s.text s.toks x }) := by
  unfold addT
  by_cases h0 : 0 < s.text.length
  · rw [if_pos h0, List.append_assoc]
    exact add11_yes B R c k s P x va w h ha hb h0
  · rw [if_neg h0]
    have e : s.text = [] := List.length_eq_zero_iff.1 (by omega)
    have := add11_no B R c k s P x va w h ha hb e
    rw [e] at this
    exact this
section
variable {w w' : World} {B R : Nat} {c : RC} {k k' : Nat} {s : Sc} {P : List (Tk × Value)}
/-- The open elements are others. -/
theorem RdM.opens {w1 : World} {v1 : Value} {o1 : List (List UInt8)} (h : RdM w B R c k s P) (ho : Strs w1 B v1 o1) (hg : w.grownBy w1 c.vO.ownBlock) : RdM (w1.setCell ⟨R, 4, none⟩ v1) B R { c with vO := v1 } k { s with opn := o1 } P ∧ Below B w (w1.setCell ⟨R, 4, none⟩ v1) := by
  have hT := Turned.of_grown (S := fun b => c.vO.ownBlock = some b) hg fun _ e => e
  have hr1 := h.rd.turned hT (own_ne_arr h.opn h.rd t_str)
  have hst := turned_setCell w1 ⟨R, 4, none⟩ v1
  have hr2 : Rd (w1.setCell ⟨R, 4, none⟩ v1) R { c with vO := v1 } k := ArrAt.set hr1 4 _
  have k2 : Txt w1 B c.vT s.text := ownsRow_turned h.txt hT fun b hb e => own_apart h.txt h.opn (by decide) hb e
  have k3 := h.tks.turned hT (fun b hb e => own_apart h.tks.row h.opn (by decide) hb e) fun p hp b hb e => own_apart (h.tks.ats p hp) h.opn (by decide) hb e
  refine ⟨⟨hr2, h.rt, ?_, ?_, ?_, h.ptk, h.low⟩, ?_⟩
  · exact ownsRow_turned ho hst fun b hb e => own_ne_arr ho hr1 t_str (by rw [hb]; exact congrArg some e)
  · exact ownsRow_turned k2 hst fun b hb e => own_ne_arr k2 hr1 t_reader (by rw [hb]; exact congrArg some e)
  · exact k3.turned hst (fun b hb e => own_ne_arr k3.row hr1 t_tok (by rw [hb]; exact congrArg some e)) fun p hp b hb e => own_ne_arr (k3.ats p hp) hr1 (Ne.symm t_attr) (by rw [hb]; exact congrArg some e)
  · exact (((Below.refl B w).grown hg h.base fun k hk => (World.ownsRow.lt h.opn k hk).1)).setCell h.low _
theorem RdM.root (h : RdM w B R c k s P) : RdM (w.setCell ⟨R, 3, none⟩ (.bool true)) B R { c with rt := true } k { s with rooted := true } P ∧ Below B w (w.setCell ⟨R, 3, none⟩ (.bool true)) :=
  ⟨h.turned (c' := { c with rt := true }) ⟨rfl, rfl, rfl⟩ (ArrAt.set h.rd 3 _) (turned_setCell w ⟨R, 3, none⟩ _) (fun _ e => e) ⟨rfl, rfl, rfl, rfl⟩, (Below.refl B w).setCell h.low _⟩
theorem RdM.move (h : RdM w B R c k s P) (k' : Nat) {x : Int} (e : x = k') : RdM (w.setCell ⟨R, 1, none⟩ (.int .i64 x)) B R c k' s P ∧ Below B w (w.setCell ⟨R, 1, none⟩ (.int .i64 x)) :=
  ⟨h.call (h.rd.move k' e) (turned_setCell w ⟨R, 1, none⟩ _), (Below.refl B w).setCell h.low _⟩
theorem RdM.toTurned (h : RdM w B R c k s P) (ht : Turned (fun b => b = R) w w') : Below B w w' := below_turned h.low h.base ht
theorem RdM.plen (h : RdM w B R c k s P) : P.length = s.toks.length := by rw [← h.ptk, List.length_map]
end
/-- No error; the reader's state is s'. -/
def NilPost (w : World) (B R : Nat) (l : List UInt8) (dep : Int) (k : Nat) (s' : Sc) (e : Ending) (w' : World) : Prop :=
  e = .returned .nilIface ∧ (∃ c' P', c'.l = l ∧ c'.dep = dep ∧ RdM w' B R c' k s' P') ∧ Below B w w'
/-- An error; where the reader is then. -/
def ErrPost (w : World) (B R : Nat) (l : List UInt8) (v : Value) (Q : Nat → Prop) (e : Ending) (w' : World) : Prop :=
  e = .returned v ∧ (∃ c' k', c'.l = l ∧ k' ≤ l.length ∧ Q k' ∧ Rd w' R c' k') ∧ Below B w w'
def synV : Value := .iface 30 (.int .i64 3)
def deepV : Value := .iface 30 (.int .i64 4)
theorem NilPost.mk {w w' : World} {B R : Nat} {l : List UInt8} {dep : Int} {k : Nat} {s' : Sc} {c' : RC} {P' : List (Tk × Value)} (hl : c'.l = l) (hd : c'.dep = dep) (h : RdM w' B R c' k s' P') (hb : Below B w w') : NilPost w B R l dep k s' (.returned .nilIface) w' := ⟨rfl, ⟨c', P', hl, hd, h⟩, hb⟩
theorem ErrPost.mk {w w' : World} {B R : Nat} {l : List UInt8} {v : Value} {Q : Nat → Prop} {c' : RC} {k : Nat} (hl : c'.l = l) (hk : k ≤ l.length) (hQ : Q k) (h : Rd w' R c' k) (hb : Below B w w') : ErrPost w B R l v Q (.returned v) w' := ⟨rfl, ⟨c', k, hl, hk, hQ, h⟩, hb⟩
/-- What end comes to. -/
def EndPost (w : World) (B R : Nat) (l : List UInt8) (dep : Int) (k : Nat) (s' : Sc) : Option Nat → Ending → World → Prop
  | some n => NilPost w B R l dep (k + n) s'
  | none => ErrPost w B R l synV fun _ => True
theorem EndPost.ok {w w' : World} {B R : Nat} {l : List UInt8} {dep : Int} {k n : Nat} {s' : Sc} {o : Option Nat} {e : Ending} (ho : o = some n) (h : NilPost w B R l dep (k + n) s' e w') : EndPost w B R l dep k s' o e w' := by subst ho; exact h
theorem EndPost.no {w w' : World} {B R : Nat} {l : List UInt8} {dep : Int} {k : Nat} {s' : Sc} {o : Option Nat} {e : Ending} (ho : o = none) (h : ErrPost w B R l synV (fun _ => True) e w') : EndPost w B R l dep k s' o e w' := by subst ho; exact h
set_option maxHeartbeats 2000000 in
theorem end11_any (B R : Nat) (c : RC) (k : Nat) (s : Sc) (P : List (Tk × Value)) (op : List (List UInt8)) (nm : List UInt8) (w : World) (hs : s.opn = op ++ [nm]) (h : RdM w B R c k s P) (hk : k ≤ c.l.length) (hl : c.l.length ≤ 100000) (hb : s.toks.length ≤ 1000000) (ho : op.length ≤ 1000000) :
    Calls Tryz.prog 120 #[.pointer (some ⟨R, 0, none⟩)] w (EndPost w B R c.l c.dep k ⟨s.rooted, op, [], addT s.text s.toks ⟨2, nm, [], []⟩⟩ (endP nm (c.l.drop k))) := by
  have hopn := h.opn
  rw [hs] at hopn
  obtain ⟨g, cap, hv, hcap, hgl, cg, _, _⟩ := opn_last hopn
  have c4 := h.rd.c4
  rw [hv] at c4
  have hP := show endP nm (c.l.drop k) = _ from by unfold endP; rfl
  simp only [List.drop_drop] at hP
  have hb1 := spanN_le blI
  replace hb1 := Lib.hid hb1
  generalize hoo : endP nm (c.l.drop k) = o at hP
  replace hoo := Lib.hid hoo
  replace hP := Lib.hid hP
  replace h := Lib.hid h
  replace hs := Lib.hid hs
  replace hopn := Lib.hid hopn
  replace hv := Lib.hid hv
  go_enter Tryz.func120, Tryz.ntmps120
  go_wp2_with fail
  refine (take11_any R c k nm _ h.out.rd hk hl).mono ?_; rintro e w1 ⟨rfl, r1, t1⟩
  have s1 := h.out.call r1 t1
  have b1 := h.out.toTurned t1
  clear r1 t1
  replace b1 := Lib.hid b1
  cases hp : Lib.hasPrefix (c.l.drop k) nm
  · rw [hp, if_neg (by decide)] at s1
    replace hp := Lib.hid hp
    replace s1 := Lib.hid s1
    go_wp2_with fail
    go_ret
    exact EndPost.no (hP.out.trans (by rw [if_pos hp.out])) (ErrPost.mk rfl hk trivial s1.out.rd b1.out)
  rw [hp, if_pos rfl] at s1
  have hpl := prefix_len hp
  rw [List.length_drop] at hpl
  replace hp := Lib.hid hp
  have hpl2 : k + nm.length ≤ c.l.length := by omega
  clear hpl
  replace s1 := Lib.hid s1
  go_wp2_with fail
  have hb2 := hb1.out (c.l.drop (k + nm.length))
  rw [List.length_drop] at hb2
  refine (blanks11_any R c (k + nm.length) _ s1.out.rd hpl2 hl).mono ?_; rintro e w2 ⟨rfl, r2, t2⟩
  have s2 := s1.out.call r2 t2
  have b2 := b1.out.trans (s1.out.toTurned t2)
  clear s1 b1 r2 t2
  generalize hbn : spanN blI (c.l.drop (k + nm.length)) = bn at hb2 s2
  replace hbn := Lib.hid hbn
  replace b2 := Lib.hid b2
  replace s2 := Lib.hid s2
  go_wp2_with fail
  refine (take11_any R c (k + nm.length + bn) [62] _ s2.out.rd (by omega) hl).mono ?_; rintro e w3 ⟨rfl, r3, t3⟩
  have s3 := s2.out.call r3 t3
  have b3 := b2.out.trans (s2.out.toTurned t3)
  clear s2 b2 r3 t3
  replace b3 := Lib.hid b3
  cases hp3 : Lib.hasPrefix (c.l.drop (k + nm.length + bn)) [62]
  · rw [hp3, if_neg (by decide)] at s3
    replace hp3 := Lib.hid hp3
    replace s3 := Lib.hid s3
    go_wp2_with fail
    go_ret
    exact EndPost.no (hP.out.trans (by rw [if_neg (by rw [hp.out]; decide)]; simp only [hbn.out, ← Nat.add_assoc]; rw [if_neg (by rw [hp3.out]; decide)])) (ErrPost.mk rfl (by omega) trivial s3.out.rd b3.out)
  rw [hp3, if_pos rfl] at s3
  have hpl := prefix_len hp3
  rw [List.length_drop] at hpl
  replace hp3 := Lib.hid hp3
  have hpl3 : k + nm.length + bn + 1 ≤ c.l.length := by simp at hpl; omega
  clear hpl
  replace s3 := Lib.hid s3
  go_wp2_with fail
  refine (add11_any B R c (k + nm.length + bn + 1) s P ⟨2, nm, [], []⟩ (.slice none 0 0) _ s3.out (ats_nil _ _) (by rw [s3.out.plen]; exact hb)).mono ?_
  rintro e w4 ⟨rfl, ⟨c', P', e1, e2, e3, s4⟩, b4⟩
  have hopn4 := s4.opn
  simp only [hs.out] at hopn4
  obtain ⟨g4, cap4, hv4, hcap4, hgl4, _, _, hst4⟩ := opn_last hopn4
  have d4 := s4.rd.c4
  have f4 := s4.rd.fz 4
  rw [hv4] at d4
  have hfin := s4.opens hst4 ⟨rfl, rfl, rfl, Nat.le_refl _, fun _ _ _ => rfl⟩
  have hall := (b3.out.trans b4).trans hfin.2
  replace s4 := Lib.hid s4
  replace b4 := Lib.hid b4
  replace hopn4 := Lib.hid hopn4
  replace hv4 := Lib.hid hv4
  replace hst4 := Lib.hid hst4
  replace hfin := Lib.hid hfin
  replace hall := Lib.hid hall
  go_wp2_with fail
  go_ret
  exact EndPost.ok (n := nm.length + bn + 1) (hP.out.trans (by rw [if_neg (by rw [hp.out]; decide)]; simp only [hbn.out, ← Nat.add_assoc]; rw [if_pos hp3.out])) (NilPost.mk (c' := { c' with vO := .slice (some ⟨g4, 0, none⟩) op.length cap4 }) e1 e2 (by have := hfin.out.1; rw [show k + (nm.length + bn + 1) = k + nm.length + bn + 1 by omega]; exact this) hall.out)
end Go.Proofs.YtkgjbamkinfmeaaGreatDoor
