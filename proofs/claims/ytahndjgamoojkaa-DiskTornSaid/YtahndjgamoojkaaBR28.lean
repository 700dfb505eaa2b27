/- Walks of layer 20's drafts: more. -/
import Derived.Test.YtahndjgamoojkaaBR25
import Derived.Test.YtahndjgamoojkaaBR26
namespace Go.Proofs.Ytahndjgamoojkaa
open Go.RowKit

/-- A row of three cells, as a walk wants it. -/
theorem three_soft {w : World} {g : Nat} {t : TypeId} {a b c : Value} (h : ArrAt w g t [a, b, c]) : w.frozen? ⟨g, 0, none⟩ = false ∧ w.frozen? ⟨g, 1, none⟩ = false ∧ w.frozen? ⟨g, 2, none⟩ = false := ⟨h.soft 0, h.soft 1, h.soft 2⟩
theorem three_set {w : World} {g B : Nat} {t : TypeId} {a b c : Value} (h : ArrAt w g t [a, b, c]) (a' b' c' : Value) (hB : B ≤ g) :
    ArrAt (((w.setCell ⟨g, 0, none⟩ a').setCell ⟨g, 1, none⟩ b').setCell ⟨g, 2, none⟩ c') g t [a', b', c'] ∧ Below B w (((w.setCell ⟨g, 0, none⟩ a').setCell ⟨g, 1, none⟩ b').setCell ⟨g, 2, none⟩ c') :=
  ⟨((h.set 0 a').set 1 b').set 2 c', (((Below.refl B w).setCell (p := ⟨g, 0, none⟩) hB a').setCell (p := ⟨g, 1, none⟩) hB b').setCell (p := ⟨g, 2, none⟩) hB c'⟩
theorem three_turned (w : World) (g : Nat) (a b c : Value) : Turned (fun i => i = g) w (((w.setCell ⟨g, 0, none⟩ a).setCell ⟨g, 1, none⟩ b).setCell ⟨g, 2, none⟩ c) :=
  ((turned_setCell w ⟨g, 0, none⟩ a).trans (turned_setCell _ ⟨g, 1, none⟩ b) fun _ _ e => e).trans (turned_setCell _ ⟨g, 2, none⟩ c) fun _ _ e => e
def MorePost (w : World) (B : Nat) (d : Dr20) (s : List UInt8) (e : Ending) (w' : World) : Prop :=
  ∃ pv, e = .returned (drV ⟨d.name, d.ps ++ [s], pv⟩) ∧ Strs w' B pv (d.ps ++ [s]) ∧ Turned (fun b => d.pv.ownBlock = some b) w w' ∧ (pv.ownBlock = d.pv.ownBlock ∨ ∀ b, pv.ownBlock = some b → w.heap.size ≤ b)
def MorePostT (w : World) (B : Nat) (nm : List UInt8) (ps : List (List UInt8)) (v : Value) (s : List UInt8) (T : Nat) (e : Ending) (w' : World) : Prop :=
  ∃ pv, e = .returned (.agg #[.string ⟨nm.toArray⟩, pv, .int .i64 ((T : Int) + s.length)]) ∧ Strs w' B pv (ps ++ [s]) ∧ Turned (fun b => v.ownBlock = some b) w w' ∧ (pv.ownBlock = v.ownBlock ∨ ∀ b, pv.ownBlock = some b → w.heap.size ≤ b)
theorem flat_more (ps : List (List UInt8)) (s : List UInt8) : (ps ++ [s]).flatten.length = ps.flatten.length + s.length := by simp
theorem more_fin {w W w1 : World} {B a1' : Nat} {nm s : List UInt8} {ps : List (List UInt8)} {a a1 : Option Addr} {c e1 T : Nat} {u : Value} (hb1 : Below w.heap.size w W.drew) (hown1 : w1.ownsRow B 9 1 (.slice a1 (ps.length + 1) e1) (ps.length + 1) (ps.map strV ++ [.string ⟨s.toArray⟩])) (hr : ArrAt w1 (w.heap.size + 1) 64 [.string ⟨#[]⟩, .slice none 0 0, .int .i64 0])
    (htu : Turned (fun b => (Value.slice a ps.length c).ownBlock = some b) W.drew w1) (hwh : (Value.slice a1 (ps.length + 1) e1).ownBlock = (Value.slice a ps.length c).ownBlock ∨ ∃ b, (Value.slice a1 (ps.length + 1) e1).ownBlock = some b ∧ W.drew.heap.size ≤ b) (hT : a1' = T) :
    MorePostT w B nm ps (.slice a ps.length c) s T (.returned (.agg #[.string ⟨nm.toArray⟩, .slice a1 (ps.length + 1) e1, .int .i64 ((a1' : Int) + s.length)])) (((w1.setCell ⟨w.heap.size + 1, 0, none⟩ (.string ⟨nm.toArray⟩)).setCell ⟨w.heap.size + 1, 1, none⟩ (.slice a1 (ps.length + 1) e1)).setCell ⟨w.heap.size + 1, 2, none⟩ u) := by
  subst hT
  refine ⟨.slice a1 (ps.length + 1) e1, rfl, ?_, ?_, ?_⟩
  · exact strs_mk (ownsRow_turned hown1 (three_turned w1 _ _ _ _) fun b hb e => own_ne_arr hown1 hr (Ne.symm t_ds) (hb.trans (congrArg some e)))
  · exact ((Turned.of_below hb1).trans htu fun _ _ e => e).trans (three_turned w1 _ _ _ _) fun i hi e => absurd (show i = w.heap.size + 1 from e) (by omega)
  · rcases hwh with e | ⟨b, e, hb⟩
    · exact Or.inl e
    · exact Or.inr fun b' e' => by rw [e] at e'; injection e' with e'; have := hb1.size; omega
set_option maxHeartbeats 4000000 in
set_option maxRecDepth 100000 in
theorem more20_any (d : Dr20) (s : List UInt8) (B : Nat) (w : World) (hp : Strs w B d.pv d.ps) (hB : B ≤ w.heap.size) (hn : d.ps.length ≤ 1000000) (ht : d.text.length + s.length ≤ 100000000) :
    Calls Try.prog 54 #[drV d, .string ⟨s.toArray⟩] w (MorePost w B d s) := by
  obtain ⟨nm, ps, pv⟩ := d
  simp only at hp hn
  obtain ⟨a, c, rfl⟩ := own_form hp
  have hfm := flat_more ps s
  unfold Dr20.text at ht
  simp only at ht
  suffices hs : ∀ T : Nat, ps.flatten.length = T → Calls Try.prog 54 #[.agg #[.string ⟨nm.toArray⟩, .slice a ps.length c, .int .i64 T], .string ⟨s.toArray⟩] w (MorePostT w B nm ps (.slice a ps.length c) s T) by
    refine (hs _ rfl).mono ?_
    rintro e w' ⟨pv, rfl, h1, h2, h3⟩
    refine ⟨pv, ?_, h1, h2, h3⟩
    unfold drV drC Dr20.text strV
    simp only
    rw [hfm]
    simp
  intro T hTe
  rw [hTe] at ht
  clear hfm hTe
  have hb0 : Below w.heap.size w ((w.alloc (.cells [Value.string ⟨nm.toArray⟩, .slice a ps.length c, .int .i64 T].toArray 64)).alloc (.cells [Value.string ⟨#[]⟩, .slice none 0 0, .int .i64 0].toArray 64)) := ((Below.refl _ _).alloc (Nat.le_refl _) _).alloc (by simp) _
  have hbx := (arrAt_new w 64 [Value.string ⟨nm.toArray⟩, .slice a ps.length c, .int .i64 T]).next ((Below.refl _ _).alloc (Nat.le_refl _) (.cells [Value.string ⟨#[]⟩, .slice none 0 0, .int .i64 0].toArray 64))
  have hrs := arrAt_new (w.alloc (.cells [Value.string ⟨nm.toArray⟩, .slice a ps.length c, .int .i64 T].toArray 64)) 64 [Value.string ⟨#[]⟩, .slice none 0 0, .int .i64 0]
  have hsz : (w.alloc (.cells [Value.string ⟨nm.toArray⟩, .slice a ps.length c, .int .i64 T].toArray 64)).heap.size = w.heap.size + 1 := by simp
  rw [hsz] at hrs
  obtain ⟨W, hW⟩ : ∃ W, (w.alloc (.cells [Value.string ⟨nm.toArray⟩, .slice a ps.length c, .int .i64 T].toArray 64)).alloc (.cells [Value.string ⟨#[]⟩, .slice none 0 0, .int .i64 0].toArray 64) = W := ⟨_, rfl⟩
  rw [hW] at hb0 hbx hrs
  have hb1 := hb0.trans ((drawn_drew W).below _)
  have hpW : W.drew.ownsRow B 9 1 (.slice a ps.length c) ps.length (ps.map strV) := ownsRow_below (show w.ownsRow B 9 1 (.slice a ps.length c) ps.length (ps.map strV) from hp) hb1
  have hxW := hbx.next ((drawn_drew W).below _)
  have hrW := hrs.next ((drawn_drew W).below _)
  have hlow : B ≤ W.drew.heap.size := Nat.le_trans hB hb1.size
  have hxy := hbx.next ((Below.refl _ _).alloc (Nat.le_refl _) (.cells [Value.string ⟨s.toArray⟩].toArray 9))
  have c0 := hxW.cell 0
  have c1 := hxW.cell 1
  have c2 := hxW.cell 2
  have y0 := hxy.cell 0
  have y1 := hxy.cell 1
  have y2 := hxy.cell 2
  simp only [List.getElem?_cons_zero, List.getElem?_cons_succ] at c0 c1 c2 y0 y1 y2
  replace hb1 := Lib.hid hb1
  replace hpW := Lib.hid hpW
  replace hxW := Lib.hid hxW
  replace hrW := Lib.hid hrW
  clear hb0 hbx hrs hsz hxy hp
  have hwr : IntKind.i64.wrap ((T : Int) + s.length) = T + s.length := by rw [IntKind.wrap_i64]; omega
  go_enter Try.func54, Try.ntmps54
  go_wp2_with fail
  go_region_law (refine step_append1 rfl (.tmp 8) (.tmp 10) 62 9 rfl Try.underlying62 (.string ⟨#[]⟩) 1 16 info_str rfl (by decide) (by decide) B _ ps.length (ps.map strV) [.string ⟨s.toArray⟩] rfl hpW.out (by simp [Act.eval, Act.put]) (by simp [Act.eval, Act.put]) (by intro u hu; simp at hu; subst hu; rfl) (by omega) (by simpa using hlow) ?_; intro v1 w1 hown1 hgr1 hwh1; obtain ⟨a1, e1, rfl⟩ := own_form hown1.out; have htu := Lib.hid (Turned.of_grown (S := fun b => (Value.slice a ps.length c).ownBlock = some b) hgr1.out fun _ e => e); have x1 := hxW.out.turned htu.out (fun e => own_ne_arr hpW.out hxW.out (Ne.symm t_ds) e); have r1 := hrW.out.turned htu.out (fun e => own_ne_arr hpW.out hrW.out (Ne.symm t_ds) e); obtain ⟨z0, z1, z2⟩ := three_cells x1; obtain ⟨s0, s1, s2⟩ := three_soft r1; obtain ⟨k0, k1, k2⟩ := three_cells r1; replace r1 := Lib.hid r1; clear x1)
  all_goals
    obtain ⟨hset, hbs⟩ := three_set (B := w.heap.size) r1.out (.string ⟨nm.toArray⟩) (.slice a1 (ps.length + 1) e1) (.int .i64 (T + s.length)) (Nat.le_succ _)
    obtain ⟨u0, u1, u2⟩ := three_cells hset
    clear z0 z1 z2 s0 s1 s2 k0 k1 k2 y0 y1 y2 c0 c1 c2
  all_goals
    go_wp2_with fail
    refine bodyPost_ret (v := .agg #[.string ⟨nm.toArray⟩, .slice a1 (ps.length + 1) e1, .int .i64 (T + s.length)]) (by simp [results, Try.results54, go_sem, u0, u1, u2]) rfl ?_
    exact more_fin hb1.out hown1.out r1.out htu.out hwh1.out rfl
end Go.Proofs.Ytahndjgamoojkaa

/- Walks of layer 20's drafts: less. -/
namespace Go.Proofs.Ytahndjgamoojkaa
open Go.RowKit

theorem strs_pop {w : World} {B : Nat} {a : Option Addr} {c : Nat} {ps : List (List UInt8)} {p : List UInt8} (h : Strs w B (.slice a (ps ++ [p]).length c) (ps ++ [p])) : Strs w B (.slice a ps.length c) ps := by
  unfold Strs at h ⊢
  rcases h with ⟨h1, ⟨e, h0⟩ | ⟨g, cap, cur, e, hB, hg, hn, hc, hs, ht⟩⟩
  · simp at h0
  · injection e with e1 e2 e3
    subst e1 e3
    rw [List.length_append] at hn ht
    refine ⟨by simp, Or.inr ⟨g, c, cur, rfl, hB, hg, by simp at hn; omega, hc, hs, ?_⟩⟩
    rw [List.map_append] at ht
    have := congrArg (List.take (ps.length * 1)) ht
    rw [List.take_take, Nat.min_eq_left (by simp)] at this
    rw [this, List.take_left' (by simp)]
theorem less_keep {ps : List (List UInt8)} {p : List UInt8} {z : Nat} (h : z ≤ ps.flatten.length) : ((ps ++ [p]).flatten).take z = ps.flatten.take z := by
  rw [List.flatten_append, List.take_append, show z - ps.flatten.length = 0 by omega]
  simp
theorem less_more {ps : List (List UInt8)} {p : List UInt8} {z : Nat} (h : ps.flatten.length ≤ z) : (ps ++ [p.take (z - ps.flatten.length)]).flatten = ((ps ++ [p]).flatten).take z := by
  rw [List.flatten_append, List.flatten_append, List.take_append, List.take_of_length_le h]
  simp
/-- How many rounds are left: out of what the draft's box holds. -/
def lessN (g : Nat) (z : Int) (w : World) : Nat :=
  match w.cell? ⟨g, 2, none⟩ with
  | some (.int _ t) => if z < t then (match w.cell? ⟨g, 1, none⟩ with | some (.slice _ n _) => n + 1 | _ => 0) else 0
  | _ => 0
theorem lessN_eq {g : Nat} {z : Int} {w : World} {t : TypeId} {x : Value} {a : Option Addr} {n c T : Nat} (h : ArrAt w g t [x, .slice a n c, .int .i64 T]) : lessN g z w = if z < T then n + 1 else 0 := by
  obtain ⟨_, h1, h2⟩ := three_cells h
  unfold lessN
  rw [h2]
  simp only [h1]
/-- What less keeps: the draft's box, the result's, the pieces. -/
structure LessM (w : World) (B : Nat) (nm : List UInt8) (pv : Value) (a : Option Addr) (c : Nat) (qs : List (List UInt8)) (T : Nat) (w' : World) : Prop where
  box : ArrAt w' w.heap.size 64 [.string ⟨nm.toArray⟩, .slice a qs.length c, .int .i64 T]
  res : ArrAt w' (w.heap.size + 1) 64 [.string ⟨#[]⟩, .slice none 0 0, .int .i64 0]
  pcs : Strs w' B (.slice a qs.length c) qs
  tur : Turned (fun b => pv.ownBlock = some b) w w'
  whe : (Value.slice a qs.length c).ownBlock = pv.ownBlock ∨ ∀ b, (Value.slice a qs.length c).ownBlock = some b → w.heap.size ≤ b
structure LessW (w : World) (B : Nat) (nm : List UInt8) (pv : Value) (ps : List (List UInt8)) (z : Nat) (a : Option Addr) (c : Nat) (qs : List (List UInt8)) (T : Nat) (w' : World) : Prop extends LessM w B nm pv a c qs T w' where
  len : qs.flatten.length = T
  few : qs.length ≤ ps.length
  low : z ≤ T
  top : T ≤ 10000000
  txt : qs.flatten.take z = ps.flatten.take z
theorem LessM.drawn {w w1 w2 : World} {B : Nat} {nm : List UInt8} {pv : Value} {a : Option Addr} {c : Nat} {qs : List (List UInt8)} {T : Nat} (h : LessM w B nm pv a c qs T w1) (hd : Drawn w1 w2) : LessM w B nm pv a c qs T w2 :=
  ⟨h.box.next (hd.below _), h.res.next (hd.below _), ownsRow_drawn h.pcs hd, h.tur.trans (Turned.of_below (S := fun _ => False) (hd.below _)) (fun _ _ e => e.elim), h.whe⟩
/-- The box is stored anew, its pieces lying where they lay. -/
theorem LessM.store {w w1 : World} {B : Nat} {nm : List UInt8} {pv u : Value} {a' : Option Addr} {c' : Nat} {rs : List (List UInt8)} {T' : Nat} {x y z : Value} (hbox : ArrAt w1 w.heap.size 64 [x, y, z]) (hres : ArrAt w1 (w.heap.size + 1) 64 [.string ⟨#[]⟩, .slice none 0 0, .int .i64 0])
    (hp : Strs w1 B (.slice a' rs.length c') rs) (ht : Turned (fun b => pv.ownBlock = some b) w w1) (hw : (Value.slice a' rs.length c').ownBlock = pv.ownBlock ∨ ∀ b, (Value.slice a' rs.length c').ownBlock = some b → w.heap.size ≤ b) (hu : u = .int .i64 T') :
    LessM w B nm pv a' c' rs T' (((w1.setCell ⟨w.heap.size, 0, none⟩ (.string ⟨nm.toArray⟩)).setCell ⟨w.heap.size, 1, none⟩ (.slice a' rs.length c')).setCell ⟨w.heap.size, 2, none⟩ u) := by
  subst hu
  exact ⟨((hbox.set 0 _).set 1 _).set 2 _, ((hres.far 0 _ (by omega)).far 1 _ (by omega)).far 2 _ (by omega), ownsRow_turned hp (three_turned w1 _ _ _ _) fun b hb e => own_ne_arr hp hbox (Ne.symm t_ds) (hb.trans (congrArg some e)),
    ht.trans (three_turned w1 _ _ _ _) fun i hi e => absurd (show i = w.heap.size from e) (by omega), hw⟩
def LessPost (w : World) (B : Nat) (d : Dr20) (z : Nat) (e : Ending) (w' : World) : Prop :=
  ∃ pv qs, e = .returned (drV ⟨d.name, qs, pv⟩) ∧ Strs w' B pv qs ∧ qs.flatten = d.text.take z ∧ qs.length ≤ d.ps.length ∧ Turned (fun b => d.pv.ownBlock = some b) w w' ∧ (pv.ownBlock = d.pv.ownBlock ∨ ∀ b, pv.ownBlock = some b → w.heap.size ≤ b)
set_option maxHeartbeats 4000000 in
set_option maxRecDepth 100000 in
theorem less20_any (d : Dr20) (z B : Nat) (w : World) (hp : Strs w B d.pv d.ps) (hB : B ≤ w.heap.size) (hn : d.ps.length ≤ 1000000) (ht : d.text.length ≤ 10000000) (hz : z ≤ d.text.length) :
    Calls Try.prog 63 #[drV d, .int .i64 z] w (LessPost w B d z) := by
  obtain ⟨nm, ps, pv⟩ := d
  simp only at hp hn
  obtain ⟨a, c, rfl⟩ := own_form hp
  unfold Dr20.text at ht hz
  simp only at ht hz
  unfold LessPost drV drC strV Dr20.text
  simp only
  obtain ⟨T0, hT0⟩ : ∃ T, ps.flatten.length = T := ⟨_, rfl⟩
  rw [hT0] at ht hz ⊢
  have hb0 : Below w.heap.size w ((w.alloc (.cells [Value.string ⟨nm.toArray⟩, .slice a ps.length c, .int .i64 T0].toArray 64)).alloc (.cells [Value.string ⟨#[]⟩, .slice none 0 0, .int .i64 0].toArray 64)) := ((Below.refl _ _).alloc (Nat.le_refl _) _).alloc (by simp) _
  have hbx := (arrAt_new w 64 [Value.string ⟨nm.toArray⟩, .slice a ps.length c, .int .i64 T0]).next ((Below.refl _ _).alloc (Nat.le_refl _) (.cells [Value.string ⟨#[]⟩, .slice none 0 0, .int .i64 0].toArray 64))
  have hrs := arrAt_new (w.alloc (.cells [Value.string ⟨nm.toArray⟩, .slice a ps.length c, .int .i64 T0].toArray 64)) 64 [Value.string ⟨#[]⟩, .slice none 0 0, .int .i64 0]
  have hsz : (w.alloc (.cells [Value.string ⟨nm.toArray⟩, .slice a ps.length c, .int .i64 T0].toArray 64)).heap.size = w.heap.size + 1 := by simp
  rw [hsz] at hrs
  have hL0 : LessW w B nm (.slice a ps.length c) ps z a c ps T0 ((w.alloc (.cells [Value.string ⟨nm.toArray⟩, .slice a ps.length c, .int .i64 T0].toArray 64)).alloc (.cells [Value.string ⟨#[]⟩, .slice none 0 0, .int .i64 0].toArray 64)) :=
    ⟨⟨hbx, hrs, ownsRow_below hp hb0, Turned.of_below hb0, Or.inl rfl⟩, hT0, Nat.le_refl _, hz, ht, rfl⟩
  replace hL0 := Lib.hid hL0
  clear hbx hrs hsz hb0 hp
  replace hT0 := Lib.hid hT0
  go_enter Try.func63, Try.ntmps63
  go_wp2_with fail
  go_loopw [5] (fun _ wr => ∃ (a' : Option Addr) (c' : Nat) (qs : List (List UInt8)) (T : Nat), Hid (LessW w B nm (.slice a ps.length c) ps z a' c' qs T wr)) (fun _ wr => lessN w.heap.size z wr)
  case atStart => exact ⟨a, c, ps, T0, hL0⟩
  case round =>
    clear hL0
    obtain ⟨a1, c1, qs, T, hL⟩ := hrel
    have hm0 := lessN_eq (z := z) hL.out.box
    rw [hm0]
    obtain ⟨p0, p1, p2⟩ := three_cells hL.out.box
    by_cases hlt : z < T
    · rw [if_pos (by omega)]
      have hne : qs ≠ [] := by rintro rfl; have := hL.out.len; simp at this; omega
      obtain ⟨init, p, rfl⟩ : ∃ init p, qs = init ++ [p] := ⟨qs.dropLast, qs.getLast hne, (List.dropLast_concat_getLast hne).symm⟩
      have hl1 : (init ++ [p]).length = init.length + 1 := by simp
      have hf1 : (init ++ [p]).flatten.length = init.flatten.length + p.length := by simp
      have hlen := hL.out.len
      rw [hf1] at hlen
      obtain ⟨I, hI⟩ : ∃ I, init.flatten.length = I := ⟨_, rfl⟩
      rw [hI] at hlen
      have hfew := hL.out.few
      have hlow := hL.out.low
      have hTb := hL.out.top
      obtain ⟨b, off, cc, e, hc⟩ := hL.out.pcs.sl.some (by simp)
      injection e with e1 e2 e3
      subst e1 e3
      clear e2
      have c0 := hc init.length (by simp)
      rw [show (init ++ [p]).getD init.length [] = p by simp [List.getD]] at c0
      unfold strV at c0
      clear hc hne hm0 hf1
      rw [hl1] at p1
      have g0 : (z : Int) < T := by omega
      have g1 : IntKind.i64.wrap ((init.length : Int) + 1 - 1) = init.length := by rw [IntKind.wrap_i64]; omega
      have g2 : (init.length : Int) < (init.length : Int) + 1 := by omega
      have g3 : (0 : Int) ≤ init.length := by omega
      have hcc : init.length + 1 ≤ c1 := by
        obtain ⟨_, _, e, h⟩ := own_cap hL.out.pcs
        injection e with e1 e2 e3
        subst e3
        simpa using h
      replace hlen := Lib.hid hlen
      replace hI := Lib.hid hI
      go_wp2_with fail
      have hLd := hL.out.toLessM.drawn (drawn_drew wr)
      obtain ⟨k0, k1, k2⟩ := three_cells hLd.box
      obtain ⟨f0, f1, f2⟩ := three_soft hLd.box
      rw [hl1] at k1
      have g4 : IntKind.i64.wrap ((T : Int) - p.length) = I := by have := hlen.out; rw [IntKind.wrap_i64]; omega
      have g5 : (init.length : Int) ≤ c1 := by omega
      have hlw := hL.out.tur.size
      have hst := LessM.store (nm := nm) (T' := I) (u := .int .i64 I) hLd.box hLd.res (strs_pop hLd.pcs) hLd.tur hLd.whe rfl
      replace hst := Lib.hid hst
      clear hl1 p0 p1 p2
      refine zgo_begin 12 (fun W' => W'.cell? ⟨w.heap.size, 0, none⟩ = some (.string ⟨nm.toArray⟩) ∧ W'.cell? ⟨w.heap.size, 1, none⟩ = some (.slice (some ⟨b, off, none⟩) (init.length + 1) c1) ∧ W'.cell? ⟨w.heap.size, 2, none⟩ = some (.int .i64 T)) (by kernel_rfl) ⟨k0, k1, k2⟩ ?_
      intro hHeld
      generalize wr.drew = W1 at hHeld hLd k0 k1 k2 f0 f1 f2 hst ⊢
      refine zgo_take 0 (v := ?_) rfl (by kernel_rfl) (by kernel_rfl) (by kernel_rfl) (by kernel_rfl) (fun _ _ _ h => h) (by rfl) ?_ (by assumption) ?_
      rotate_left
      · (intro w hSw; (try dsimp only at hSw); go_simp; all_goals (with_reducible rfl))
      try simp only [Act.put, List.setIfInBounds_toArray, List.set_cons_zero, List.set_cons_succ]
      refine zgo_take 1 (v := ?_) rfl (by kernel_rfl) (by kernel_rfl) (by kernel_rfl) (by kernel_rfl) (fun _ _ _ h => h) (by rfl) ?_ (by assumption) ?_
      rotate_left
      · (intro w hSw; (try dsimp only at hSw); go_simp; all_goals (with_reducible rfl))
      try simp only [Act.put, List.setIfInBounds_toArray, List.set_cons_zero, List.set_cons_succ]
      refine zgo_take 2 (v := ?_) rfl (by kernel_rfl) (by kernel_rfl) (by kernel_rfl) (by kernel_rfl) (fun _ _ _ h => h) (by rfl) ?_ (by assumption) ?_
      rotate_left
      · (intro w hSw; (try dsimp only at hSw); go_simp; all_goals (with_reducible rfl))
      try simp only [Act.put, List.setIfInBounds_toArray, List.set_cons_zero, List.set_cons_succ]
      refine zgo_take 3 (v := ?_) rfl (by kernel_rfl) (by kernel_rfl) (by kernel_rfl) (by kernel_rfl) (fun _ _ _ h => h) (by rfl) ?_ (by assumption) ?_
      rotate_left
      · (intro w hSw; (try dsimp only at hSw); go_simp; all_goals (with_reducible rfl))
      try simp only [Act.put, List.setIfInBounds_toArray, List.set_cons_zero, List.set_cons_succ]
      refine zgo_take 4 (v := ?_) rfl (by kernel_rfl) (by kernel_rfl) (by kernel_rfl) (by kernel_rfl) (fun _ _ _ h => h) (by rfl) ?_ (by assumption) ?_
      rotate_left
      · (intro w hSw; (try dsimp only at hSw); go_simp; all_goals (with_reducible rfl))
      try simp only [Act.put, List.setIfInBounds_toArray, List.set_cons_zero, List.set_cons_succ]
      refine zgo_take 5 (v := ?_) rfl (by kernel_rfl) (by kernel_rfl) (by kernel_rfl) (by kernel_rfl) (fun _ _ _ h => h) (by rfl) ?_ (by assumption) ?_
      rotate_left
      · (intro w hSw; (try dsimp only at hSw); go_simp; all_goals (with_reducible rfl))
      try simp only [Act.put, List.setIfInBounds_toArray, List.set_cons_zero, List.set_cons_succ]
      refine zgo_take 6 (v := ?_) rfl (by kernel_rfl) (by kernel_rfl) (by kernel_rfl) (by kernel_rfl) (fun _ _ _ h => h) (by rfl) ?_ (by assumption) ?_
      rotate_left
      · (intro w hSw; (try dsimp only at hSw); go_simp; all_goals (with_reducible rfl))
      try simp only [Act.put, List.setIfInBounds_toArray, List.set_cons_zero, List.set_cons_succ]
      refine zgo_take 7 (v := ?_) rfl (by kernel_rfl) (by kernel_rfl) (by kernel_rfl) (by kernel_rfl) (fun _ _ _ h => h) (by rfl) ?_ (by assumption) ?_
      rotate_left
      · (intro w hSw; (try dsimp only at hSw); go_simp; all_goals (with_reducible rfl))
      try simp only [Act.put, List.setIfInBounds_toArray, List.set_cons_zero, List.set_cons_succ]
      refine zgo_take 8 (v := ?_) rfl (by kernel_rfl) (by kernel_rfl) (by kernel_rfl) (by kernel_rfl) (fun _ _ _ h => h) (by rfl) ?_ (by assumption) ?_
      rotate_left
      · (intro w hSw; (try dsimp only at hSw); go_simp; all_goals (with_reducible rfl))
      try simp only [Act.put, List.setIfInBounds_toArray, List.set_cons_zero, List.set_cons_succ]
      refine zgo_take 9 (v := ?_) rfl (by kernel_rfl) (by kernel_rfl) (by kernel_rfl) (by kernel_rfl) (fun _ _ _ h => h) (by rfl) ?_ (by assumption) ?_
      rotate_left
      · (intro w hSw; (try dsimp only at hSw); go_simp; all_goals (with_reducible rfl))
      try simp only [Act.put, List.setIfInBounds_toArray, List.set_cons_zero, List.set_cons_succ]
      refine zgo_take 10 (v := ?_) rfl (by kernel_rfl) (by kernel_rfl) (by kernel_rfl) (by kernel_rfl) (fun _ _ _ h => h) (by rfl) ?_ (by assumption) ?_
      rotate_left
      · (intro w hSw; (try dsimp only at hSw); go_simp; all_goals (with_reducible rfl))
      try simp only [Act.put, List.setIfInBounds_toArray, List.set_cons_zero, List.set_cons_succ]
      refine zgo_take 11 (v := ?_) rfl (by kernel_rfl) (by kernel_rfl) (by kernel_rfl) (by kernel_rfl) (fun _ _ _ h => h) (by rfl) ?_ (by assumption) ?_
      rotate_left
      · (intro w hSw; (try dsimp only at hSw); go_simp; all_goals (with_reducible rfl))
      try simp only [Act.put, List.setIfInBounds_toArray, List.set_cons_zero, List.set_cons_succ]
      refine zgo_last (by kernel_rfl) (by kernel_rfl) rfl (fun K hK => ?_)
      go_simp
      refine hK.out _ _ ?_
      clear hK K
      refine hide_world (R := fun W' => LessM w B nm (.slice a ps.length c) (some ⟨b, off, none⟩) c1 init I W') hst.out ?_
      intro W2 hW2
      clear hst
      obtain ⟨p0, p1, p2⟩ := three_cells hW2.out.box
      clear hHeld
      by_cases hzI : z ≤ I
      · have g6 : ¬ ((I : Int) < z) := by omega
        have htx := less_keep (ps := init) (p := p) (z := z) (by rw [hI.out]; exact hzI)
        have hN : Hid (LessW w B nm (.slice a ps.length c) ps z (some ⟨b, off, none⟩) c1 init I W2) := Lib.hid ⟨hW2.out, hI.out, by simp at hfew; omega, hzI, by have := hlen.out; omega, htx.symm.trans hL.out.txt⟩
        have hme := lessN_eq (z := z) hW2.out.box
        replace hme := Lib.hid hme
        go_wp2_with fail
        refine ⟨⟨_, _, init, I, hN⟩, ?_⟩
        rw [hme.out]
        split <;> simp <;> omega
      · have g6 : (I : Int) < z := by omega
        have hpl : z - I ≤ p.length := by have := hlen.out; omega
        have hpre : (p.take (z - I)).length = z - I := by rw [List.length_take]; omega
        have htx := less_more (ps := init) (p := p) (z := z) (by rw [hI.out]; omega)
        rw [hI.out] at htx
        have hnl : (init ++ [p.take (z - I)]).flatten.length = z := by rw [htx, List.length_take, List.flatten_append, List.length_append, hI.out]; simp; have := hlen.out; omega
        have hil : init.length + 1 ≤ ps.length := by simpa using hfew
        have hmo : Hid (∀ W, Strs W B (.slice (some ⟨b, off, none⟩) init.length c1) init → B ≤ W.heap.size → Calls Try.prog 54 #[.agg #[.string ⟨nm.toArray⟩, .slice (some ⟨b, off, none⟩) init.length c1, .int .i64 I], .string ⟨(p.take (z - I)).toArray⟩] W fun e w' => ∃ a4 c4, e = .returned (.agg #[.string ⟨nm.toArray⟩, .slice a4 (init ++ [p.take (z - I)]).length c4, .int .i64 z]) ∧ Strs w' B (.slice a4 (init ++ [p.take (z - I)]).length c4) (init ++ [p.take (z - I)]) ∧
            Turned (fun i => (Value.slice (some ⟨b, off, none⟩) init.length c1).ownBlock = some i) W w' ∧ ((Value.slice a4 (init ++ [p.take (z - I)]).length c4).ownBlock = (Value.slice (some ⟨b, off, none⟩) init.length c1).ownBlock ∨ ∀ i, (Value.slice a4 (init ++ [p.take (z - I)]).length c4).ownBlock = some i → W.heap.size ≤ i)) := by
          refine Lib.hid fun W hp hB => ?_
          have h := more20_any ⟨nm, init, .slice (some ⟨b, off, none⟩) init.length c1⟩ (p.take (z - I)) B W hp hB (show init.length ≤ 1000000 by omega) (by unfold Dr20.text; simp only; rw [hI.out, hpre]; omega)
          unfold drV drC strV Dr20.text at h
          simp only at h
          rw [hI.out] at h
          refine h.mono ?_
          rintro e w' ⟨pv, rfl, h1, h2, h3⟩
          obtain ⟨a4, c4, rfl⟩ := own_form h1
          refine ⟨a4, c4, ?_, h1, h2, h3⟩
          unfold drV drC strV Dr20.text
          simp only
          rw [hnl]
        replace hnl := Lib.hid hnl
        replace htx := Lib.hid htx
        replace hpre := Lib.hid hpre
        have hkl : (init ++ [p.take (z - I)]).length = init.length + 1 := by simp
        obtain ⟨ns, hns⟩ : ∃ ns, init ++ [p.take (z - I)] = ns := ⟨_, rfl⟩
        rw [hns] at hmo hkl htx hnl
        replace hns := Lib.hid hns
        replace hkl := Lib.hid hkl
        go_wp2_with fail
        have hLd2 := hW2.out.drawn (drawn_drew W2)
        obtain ⟨k0, k1, k2⟩ := three_cells hLd2.box
        have hlw2 := hW2.out.tur.size
        have hlw3 : B ≤ W2.drew.heap.size := Nat.le_trans hB hLd2.tur.size
        have g7 : IntKind.i64.wrap ((z : Int) - I) = ((z - I : Nat) : Int) := by rw [IntKind.wrap_i64]; omega
        have g8 : ((z - I : Nat) : Int) ≤ p.length := by omega
        have g9 : (0 : Int) ≤ ((z - I : Nat) : Int) := by omega
        clear p0 p1 p2
        refine zgo_begin 8 (fun W' => W'.cell? ⟨w.heap.size, 0, none⟩ = some (.string ⟨nm.toArray⟩) ∧ W'.cell? ⟨w.heap.size, 1, none⟩ = some (.slice (some ⟨b, off, none⟩) init.length c1) ∧ W'.cell? ⟨w.heap.size, 2, none⟩ = some (.int .i64 I)) (by kernel_rfl) ⟨k0, k1, k2⟩ ?_
        intro hHeld
        generalize W2.drew = W3 at hHeld hLd2 k0 k1 k2 hlw3 ⊢
        generalize z - I = Z at *
        refine zgo_take 0 (v := ?_) rfl (by kernel_rfl) (by kernel_rfl) (by kernel_rfl) (by kernel_rfl) (fun _ _ _ h => h) (by rfl) ?_ (by assumption) ?_
        rotate_left
        · (intro w hSw; (try dsimp only at hSw); go_simp; all_goals (with_reducible rfl))
        try simp only [Act.put, List.setIfInBounds_toArray, List.set_cons_zero, List.set_cons_succ]
        refine zgo_take 1 (v := ?_) rfl (by kernel_rfl) (by kernel_rfl) (by kernel_rfl) (by kernel_rfl) (fun _ _ _ h => h) (by rfl) ?_ (by assumption) ?_
        rotate_left
        · (intro w hSw; (try dsimp only at hSw); go_simp; all_goals (with_reducible rfl))
        try simp only [Act.put, List.setIfInBounds_toArray, List.set_cons_zero, List.set_cons_succ]
        refine zgo_take 2 (v := ?_) rfl (by kernel_rfl) (by kernel_rfl) (by kernel_rfl) (by kernel_rfl) (fun _ _ _ h => h) (by rfl) ?_ (by assumption) ?_
        rotate_left
        · (intro w hSw; (try dsimp only at hSw); go_simp; all_goals (with_reducible rfl))
        try simp only [Act.put, List.setIfInBounds_toArray, List.set_cons_zero, List.set_cons_succ]
        refine zgo_take 3 (v := ?_) rfl (by kernel_rfl) (by kernel_rfl) (by kernel_rfl) (by kernel_rfl) (fun _ _ _ h => h) (by rfl) ?_ (by assumption) ?_
        rotate_left
        · (intro w hSw; (try dsimp only at hSw); go_simp; all_goals (with_reducible rfl))
        try simp only [Act.put, List.setIfInBounds_toArray, List.set_cons_zero, List.set_cons_succ]
        refine zgo_take 4 (v := ?_) rfl (by kernel_rfl) (by kernel_rfl) (by kernel_rfl) (by kernel_rfl) (fun _ _ _ h => h) (by rfl) ?_ (by assumption) ?_
        rotate_left
        · (intro w hSw; (try dsimp only at hSw); go_simp; all_goals (with_reducible rfl))
        try simp only [Act.put, List.setIfInBounds_toArray, List.set_cons_zero, List.set_cons_succ]
        refine zgo_take 5 (v := ?_) rfl (by kernel_rfl) (by kernel_rfl) (by kernel_rfl) (by kernel_rfl) (fun _ _ _ h => h) (by rfl) ?_ (by assumption) ?_
        rotate_left
        · (intro w hSw; (try dsimp only at hSw); go_simp; all_goals (with_reducible rfl))
        try simp only [Act.put, List.setIfInBounds_toArray, List.set_cons_zero, List.set_cons_succ]
        refine zgo_take 6 (v := ?_) rfl (by kernel_rfl) (by kernel_rfl) (by kernel_rfl) (by kernel_rfl) (fun _ _ _ h => h) (by rfl) ?_ (by assumption) ?_
        rotate_left
        · (intro w hSw; (try dsimp only at hSw); go_simp; all_goals (with_reducible rfl))
        try simp only [Act.put, List.setIfInBounds_toArray, List.set_cons_zero, List.set_cons_succ]
        refine zgo_ready [7] (by kernel_rfl) (by simp) ?_
        refine ZAll.cons rfl (fun K hK => ?_) ZAll.nil
        go_simp
        go_at_call 54
        (with_reducible refine (hmo.out _ hLd2.pcs hlw3).mono ?_)
        rintro e w4 ⟨a4, c4, rfl, hp4, ht4, hw4⟩
        have hx4 := hLd2.box.turned ht4 (fun e => own_ne_arr hLd2.pcs hLd2.box (Ne.symm t_ds) e)
        have hr4 := hLd2.res.turned ht4 (fun e => own_ne_arr hLd2.pcs hLd2.res (Ne.symm t_ds) e)
        have htt : Turned (fun i => (Value.slice a ps.length c).ownBlock = some i) w w4 := hLd2.tur.trans ht4 fun i hi e => by
          rcases hLd2.whe with h | h
          · rw [h] at e; exact e
          · have := h i e; omega
        have hww : (Value.slice a4 ns.length c4).ownBlock = (Value.slice a ps.length c).ownBlock ∨ ∀ i, (Value.slice a4 ns.length c4).ownBlock = some i → w.heap.size ≤ i := by
          rcases hw4 with h | h
          · rw [h]; exact hLd2.whe
          · exact Or.inr fun i e => Nat.le_trans hLd2.tur.size (h i e)
        have hst := LessM.store (nm := nm) (T' := z) (u := .int .i64 z) hx4 hr4 hp4 htt hww rfl
        obtain ⟨f0, f1, f2⟩ := three_soft hx4
        obtain ⟨v0, v1, v2⟩ := three_cells hx4
        replace hst := Lib.hid hst
        replace hp4 := Lib.hid hp4
        replace ht4 := Lib.hid ht4
        clear hr4 htt hww hw4 hx4 k0 k1 k2
        refine hK.out _ _ (⟨v0, v1, v2⟩) (fun hHeld => ?_)
        clear hK K
        try simp only [Act.put, List.setIfInBounds_toArray, List.set_cons_zero, List.set_cons_succ]
        refine zgo_last (by kernel_rfl) (by kernel_rfl) rfl (fun K hK => ?_)
        go_simp
        refine hK.out _ _ ?_
        clear hK K
        have hN : Hid (LessW w B nm (.slice a ps.length c) ps z a4 c4 ns z _) := Lib.hid ⟨hst.out, hnl.out, by have := hkl.out; omega, Nat.le_refl _, by omega, by rw [htx.out, List.take_take, Nat.min_self]; exact hL.out.txt⟩
        have hme := lessN_eq (z := z) hst.out.box
        replace hme := Lib.hid hme
        go_wp2_with fail
        refine ⟨⟨_, _, ns, z, hN⟩, ?_⟩
        rw [hme.out]
        simp
    · have g0 : ¬ ((z : Int) < T) := by omega
      have hzT : Hid (T = z) := Lib.hid (by have := hL.out.low; omega)
      obtain ⟨k0, k1, k2⟩ := three_cells hL.out.res
      obtain ⟨f0, f1, f2⟩ := three_soft hL.out.res
      obtain ⟨hset, hbs⟩ := three_set (B := w.heap.size) hL.out.res (.string ⟨nm.toArray⟩) (.slice a1 qs.length c1) (.int .i64 T) (by omega)
      obtain ⟨u0, u1, u2⟩ := three_cells hset
      go_wp2_with fail
      refine bodyPost_ret (v := .agg #[.string ⟨nm.toArray⟩, .slice a1 qs.length c1, .int .i64 T]) (by simp [results, Try.results63, go_sem, u0, u1, u2]) rfl ?_
      refine ⟨.slice a1 qs.length c1, qs, ?_, ?_, ?_, hL.out.few, ?_, hL.out.whe⟩
      · first | rw [hL.out.len] | rw [← List.length_flatten, hL.out.len]
      · exact ownsRow_turned hL.out.pcs (three_turned wr _ _ _ _) fun b hb e => own_ne_arr hL.out.pcs hL.out.res (Ne.symm t_ds) (hb.trans (congrArg some e))
      · have := hL.out.txt
        rw [← this, List.take_of_length_le (by rw [hL.out.len]; exact Nat.le_of_eq hzT.out)]
      · exact hL.out.tur.trans (three_turned wr _ _ _ _) fun i hi e => absurd (show i = w.heap.size + 1 from e) (by omega)
end Go.Proofs.Ytahndjgamoojkaa
