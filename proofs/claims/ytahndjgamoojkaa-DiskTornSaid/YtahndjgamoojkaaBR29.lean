/- The walk of disk.step of layer 20: what an operation that may be does to drafts: one draft turned. -/
import Derived.Test.YtahndjgamoojkaaBR27
import Derived.Test.YtahndjgamoojkaaBR28
import Derived.Test.YtahndjgamoojkaaBR18
import Derived.Test.YtahndjgamoojkaaBR26
namespace Go.Proofs.Ytahndjgamoojkaa
open Go.RowKit

/-- What a region keeps that turns one draft of drafts: its cells, and the operation's. -/
structure TurnW (w : World) (B : Nat) (A C : List Dr20) (x : Dr20) (g cap n G : Nat) (oc : List Value) (w' : World) : Prop where
  row : w'.ownsRow B 64 3 (.slice (some ⟨g, 0, none⟩) n cap) n ((A ++ x :: C).flatMap drC)
  len : (A ++ x :: C).length = n
  box : ArrAt w' G 27 oc
  tur : Turned (fun b => x.pv.ownBlock = some b) w w'
theorem TurnW.cells {w w' : World} {B : Nat} {A C : List Dr20} {x : Dr20} {g cap n G : Nat} {oc : List Value} (h : TurnW w B A C x g cap n G oc w') : w'.cell? ⟨g, A.length * 3, none⟩ = some (strV x.name) ∧ w'.cell? ⟨g, A.length * 3 + 1, none⟩ = some x.pv ∧ w'.cell? ⟨g, A.length * 3 + 2, none⟩ = some (.int .i64 x.text.length) := by
  have hf := fun t ht' => flat_at (f := drC) drC_len (A ++ x :: C) A.length t (by simp) ht'
  have hgx : (A ++ x :: C)[A.length]'(by simp) = x := by simp
  have e0 := hf 0 (by decide)
  have e1 := hf 1 (by decide)
  have e3 := hf 2 (by decide)
  rw [hgx] at e0 e1 e3
  rw [Nat.add_zero] at e0
  have hil : A.length < n := by rw [← h.len]; simp
  exact ⟨(h.row.cellAt _ (by omega)).trans e0, (h.row.cellAt _ (by omega)).trans e1, (h.row.cellAt _ (by omega)).trans e3⟩
theorem TurnW.soft {w w' : World} {B : Nat} {A C : List Dr20} {x : Dr20} {g cap n G : Nat} {oc : List Value} (h : TurnW w B A C x g cap n G oc w') : w'.frozen? ⟨g, A.length * 3, none⟩ = false ∧ w'.frozen? ⟨g, A.length * 3 + 1, none⟩ = false ∧ w'.frozen? ⟨g, A.length * 3 + 2, none⟩ = false := ⟨h.row.frozenAt _, h.row.frozenAt _, h.row.frozenAt _⟩
theorem TurnW.mk0 {w : World} {B : Nat} {A C : List Dr20} {x : Dr20} {g cap n G : Nat} {oc : List Value} (h : DrAt w B (.slice (some ⟨g, 0, none⟩) n cap) (A ++ x :: C)) (hn : (A ++ x :: C).length = n) (hb : ArrAt w G 27 oc) : TurnW w B A C x g cap n G oc w := ⟨by have h1 := h.row; rw [hn] at h1; exact h1, hn, hb, Turned.refl _ _⟩
theorem TurnW.next {w w' w2 : World} {B : Nat} {A C : List Dr20} {x : Dr20} {g cap n G : Nat} {oc : List Value} (h : TurnW w B A C x g cap n G oc w') (hx : Strs w' B x.pv x.ps) (ht : Turned (fun b => x.pv.ownBlock = some b) w' w2) : TurnW w B A C x g cap n G oc w2 :=
  ⟨ownsRow_turned h.row ht fun b hb hS => own_apart h.row hx t_ds hb hS, h.len, h.box.turned ht (fun e => own_ne_arr hx h.box (by decide) e), h.tur.trans ht fun _ _ e => e⟩
/-- .. and what has come of it when the draft is stored. -/
theorem turn_done {w w2 : World} {B N : Nat} {A C : List Dr20} {k k' : Dr20} {g cap n : Nat} {u : Value} {L : List Fl20} {w0 : World} (h : DrAt w B (.slice (some ⟨g, 0, none⟩) n cap) (A ++ k :: C)) (hn : (A ++ k :: C).length = n) (ho : Strs w2 B k'.pv k'.ps) (ht : Turned (fun b => k.pv.ownBlock = some b) w w2) (hw : k'.pv.ownBlock = k.pv.ownBlock ∨ ∀ b, k'.pv.ownBlock = some b → w.heap.size ≤ b) (hu : u = .int .i64 k'.text.length)
    (hB : B ≤ w.heap.size) (hb : Below B w0 w) (hL : fls20 (A ++ k' :: C) = L) (hN : ∀ d ∈ A ++ k' :: C, d.ps.length ≤ N) :
    StepPost w0 B N L (.returned (.slice (some ⟨g, 0, none⟩) n cap)) (((w2.setCell ⟨g, A.length * 3, none⟩ (strV k'.name)).setCell ⟨g, A.length * 3 + 1, none⟩ k'.pv).setCell ⟨g, A.length * 3 + 2, none⟩ u) := by
  subst hn
  obtain ⟨h1, h2⟩ := h.swap ho ht hw hu
  exact ⟨_, _, rfl, h1, hL, hN, (hb.trans (turned_below (h.pcs.ins k (by simp)) ht hB)).trans h2⟩
theorem may_room {L : List Fl20} {nm tn dt : List UInt8} {sz : Int} (h : may20 L ⟨1, nm, tn, dt, sz⟩ = 0) : (data20 L nm).length + dt.length ≤ 1048576 := by
  unfold may20 at h
  simp only at h
  by_cases c1 : (1 : Int) < 1 ∨ 4 < (1 : Int) ∨ name20 nm = false ∨ (1 : Int) = 3 ∧ name20 tn = false
  · rw [if_pos c1] at h; cases h
  rw [if_neg c1, if_neg (by simp), if_neg (by simp)] at h
  by_cases c4 : True ∧ (get20 L nm).isSome = false ∧ 8 ≤ L.length
  · rw [if_pos c4] at h; cases h
  rw [if_neg c4] at h
  by_cases c5 : True ∧ (1048576 < dt.length ∨ (get20 L nm).isSome = true ∧ 1048576 < (data20 L nm).length + dt.length)
  · rw [if_pos c5] at h; cases h
  have h1 : ¬ 1048576 < dt.length := fun e => c5 ⟨trivial, Or.inl e⟩
  cases e : (get20 L nm).isSome with
  | true =>
    have : ¬ 1048576 < (data20 L nm).length + dt.length := fun e2 => c5 ⟨trivial, Or.inr ⟨e, e2⟩⟩
    omega
  | false =>
    have h0 : data20 L nm = [] := by
      unfold data20
      cases e2 : get20 L nm with
      | none => rfl
      | some d => rw [e2] at e; cases e
    rw [h0]
    simp only [List.length_nil]
    omega
theorem may_new {L : List Fl20} {nm tn dt : List UInt8} {sz : Int} (h : may20 L ⟨1, nm, tn, dt, sz⟩ = 0) (hp : ¬ pos20 L nm < L.length) : L.length < 8 := by
  have h2 := pos_some L nm
  rw [decide_eq_false hp] at h2
  unfold may20 at h
  simp only at h
  by_cases c1 : (1 : Int) < 1 ∨ 4 < (1 : Int) ∨ name20 nm = false ∨ (1 : Int) = 3 ∧ name20 tn = false
  · rw [if_pos c1] at h; cases h
  rw [if_neg c1, if_neg (by simp), if_neg (by simp)] at h
  by_cases c4 : True ∧ (get20 L nm).isSome = false ∧ 8 ≤ L.length
  · rw [if_pos c4] at h; cases h
  rcases Nat.lt_or_ge L.length 8 with h3 | h3
  · exact h3
  · exact absurd ⟨trivial, h2, h3⟩ c4
theorem ps_mid {N : Nat} {A C : List Dr20} {x y : Dr20} (h : ∀ d ∈ A ++ x :: C, d.ps.length ≤ N) (hy : y.ps.length ≤ N + 1) : ∀ d ∈ A ++ y :: C, d.ps.length ≤ N + 1 := by
  intro d hd
  rcases List.mem_append.1 hd with hd | hd
  · exact Nat.le_succ_of_le (h d (by simp [hd]))
  · rcases List.mem_cons.1 hd with rfl | hd
    · exact hy
    · exact Nat.le_succ_of_le (h d (by simp [hd]))
/-- What a draft is made, in one call. -/
def TurnPost (w : World) (B M : Nat) (x : Dr20) (tx : List UInt8) (e : Ending) (w' : World) : Prop := ∃ (y : Dr20) (a : Option Addr) (m c T : Nat), e = .returned (.agg #[.string ⟨x.name.toArray⟩, .slice a m c, .int .i64 T]) ∧ y.pv = .slice a m c ∧ y.name = x.name ∧ y.text.length = T ∧ y.text = tx ∧ y.ps.length ≤ M ∧
  Strs w' B y.pv y.ps ∧ Turned (fun b => x.pv.ownBlock = some b) w w' ∧ (y.pv.ownBlock = x.pv.ownBlock ∨ ∀ b, y.pv.ownBlock = some b → w.heap.size ≤ b)
theorem more_turn (x : Dr20) (s : List UInt8) (B M : Nat) {a : Option Addr} {m c T : Nat} (e : x.pv = .slice a m c) (hT : x.text.length = T) (w : World) (hp : Strs w B x.pv x.ps) (hB : B ≤ w.heap.size) (hn : x.ps.length ≤ 1000000) (hM : x.ps.length + 1 ≤ M) (ht : T + s.length ≤ 100000000) :
    Calls Try.prog 54 #[.agg #[.string ⟨x.name.toArray⟩, .slice a m c, .int .i64 T], .string ⟨s.toArray⟩] w (TurnPost w B M x (x.text ++ s)) := by
  have h := more20_any x s B w hp hB hn (by omega)
  unfold drV drC strV at h
  rw [e, hT] at h
  refine h.mono ?_
  rintro e w' ⟨pv, rfl, h1, h2, h3⟩
  obtain ⟨a4, c4, rfl⟩ := own_form h1
  refine ⟨⟨x.name, x.ps ++ [s], .slice a4 (x.ps ++ [s]).length c4⟩, a4, _, c4, _, rfl, rfl, rfl, rfl, ?_, ?_, h1, h2, h3⟩
  · unfold Dr20.text; simp
  · show (x.ps ++ [s]).length ≤ M
    simpa using hM
theorem less_turn (x : Dr20) (z B M : Nat) {a : Option Addr} {m c T : Nat} (e : x.pv = .slice a m c) (hT : x.text.length = T) (w : World) (hp : Strs w B x.pv x.ps) (hB : B ≤ w.heap.size) (hn : x.ps.length ≤ 1000000) (hM : x.ps.length ≤ M) (ht : T ≤ 10000000) (hz : z ≤ T) :
    Calls Try.prog 63 #[.agg #[.string ⟨x.name.toArray⟩, .slice a m c, .int .i64 T], .int .i64 z] w (TurnPost w B M x (x.text.take z)) := by
  have h := less20_any x z B w hp hB hn (by omega) (by omega)
  unfold drV drC strV at h
  rw [e, hT] at h
  refine h.mono ?_
  rintro e w' ⟨pv, qs, rfl, h1, h4, h5, h2, h3⟩
  obtain ⟨a4, c4, rfl⟩ := own_form h1
  exact ⟨⟨x.name, qs, .slice a4 qs.length c4⟩, a4, _, c4, _, rfl, rfl, rfl, rfl, h4, Nat.le_trans h5 hM, h1, h2, h3⟩
end Go.Proofs.Ytahndjgamoojkaa

/- The walk of disk.step of layer 20: kind 1. (Printed by wip/tools/gen_step20.py.) -/
namespace Go.Proofs.Ytahndjgamoojkaa
open Go.RowKit

set_option maxHeartbeats 4000000 in
set_option maxRecDepth 100000 in
theorem step20_1 (ds : List Dr20) (nm tn dt : List UInt8) (sz : Int) (v : Value) (B N : Nat) (w : World) (hv : DrAt w B v ds) (hvl : Val20 (fls20 ds)) (hps : ∀ d ∈ ds, d.ps.length ≤ N) (hN : N ≤ 900000) (hm : may20 (fls20 ds) ⟨1, nm, tn, dt, sz⟩ = 0) (hB : B ≤ w.heap.size) :
    Calls Try.prog 55 #[v, opV ⟨1, nm, tn, dt, sz⟩] w (StepPost w B (N + 1) (done20 (fls20 ds) ⟨1, nm, tn, dt, sz⟩)) := by
  have hbd := DrBd.of_val hvl hps
  have hok := may_ok hm
  have hfl := fls_len ds
  have hfew := hvl.few
  have hs := hvl.rise
  simp only at hok
  rw [hfl] at hfew
  obtain ⟨a, c, rfl⟩ := hv.form
  obtain ⟨n, hn⟩ : ∃ n, ds.length = n := ⟨_, rfl⟩
  rw [hn] at hfl hfew hv ⊢
  have hbx := Lib.hid ((Below.refl w.heap.size w).alloc (Nat.le_refl _) (.cells [Value.int .i64 1, .string ⟨nm.toArray⟩, .string ⟨tn.toArray⟩, .string ⟨dt.toArray⟩, .int .i64 sz].toArray 27))
  have hv1 := hv.below hbx.out
  have hbox := arrAt_new w 27 [Value.int .i64 1, .string ⟨nm.toArray⟩, .string ⟨tn.toArray⟩, .string ⟨dt.toArray⟩, .int .i64 sz]
  unfold opV opC strV
  simp only
  obtain ⟨W, hW⟩ : ∃ W, w.alloc (.cells [Value.int .i64 1, .string ⟨nm.toArray⟩, .string ⟨tn.toArray⟩, .string ⟨dt.toArray⟩, .int .i64 sz].toArray 27) = W := ⟨_, rfl⟩
  rw [hW] at hbx hv1 hbox
  obtain ⟨b0, b1, b2, b3, b4⟩ := five_cells hbox
  have hfd := dskfind20_any (.slice a n c) ds nm B W hv1 hs (by omega)
  replace hfd := Lib.hid hfd
  replace hbox := Lib.hid hbox
  replace hv1 := Lib.hid hv1
  replace hs := Lib.hid hs
  clear hv
  by_cases hp : pos20 (fls20 ds) nm < (fls20 ds).length
  · skip
    have hpd : pos20 (fls20 ds) nm < ds.length := by omega
    have hat := at_pos hs.out hp
    have hpn := pos_name (fls20 ds) nm hp
    rw [fls_at ds _ hpd] at hpn
    have hdp := data_pos (fls20 ds) nm hp
    rw [fls_at ds _ hpd] at hdp
    simp only at hpn hdp
    have hpk : decide (pos20 (fls20 ds) nm < (fls20 ds).length) = true := decide_eq_true hp
    unfold FindPost20 at hfd
    rw [hpk, hat] at hfd
    obtain ⟨i, hi⟩ : ∃ i, pos20 (fls20 ds) nm = i := ⟨_, rfl⟩
    simp only [hi] at hfd hpd hpn hdp
    have hmid := mid_eq ds i hpd
    have hAl : (ds.take i).length = i := by rw [List.length_take]; omega
    obtain ⟨x, hx0⟩ : ∃ x, ds[i]'hpd = x := ⟨_, rfl⟩
    rw [hx0] at hmid hpn hdp
    generalize ds.take i = A at hmid hAl
    generalize ds.drop (i + 1) = C at hmid
    clear hx0 hi hpk hat
    subst hmid
    subst hAl
    replace hn := Lib.hid hn
    replace hpn := Lib.hid hpn
    replace hdp := Lib.hid hdp
    have hroom : x.text.length + dt.length ≤ 100000000 := by
      have := may_room hm
      rw [hdp.out] at this
      omega
    go_enter Try.func55, Try.ntmps55
    go_wp2_with fail
    refine hfd.out.mono ?_; rintro e w1 ⟨rfl, hb1⟩
    have hbox1 := hbox.out.next hb1
    obtain ⟨c0, c1, c2, c3, c4⟩ := five_cells hbox1
    have hv2 := hv1.out.below hb1
    have hlw := hbox.out.lt
    have hs1 := hb1.size
    replace hb1 : Hid (Below B w w1) := Lib.hid ((hbx.out.next hb1 hbx.out.size).mono hB)
    clear b0 b1 b2 b3 b4 hfd
    obtain ⟨g, cap, hv3, hc1, hc2, _, hg, _⟩ := hv2.some_ (by rw [hn.out]; have := hn.out; simp at this; omega)
    rw [hn.out] at hv3 hc1
    injection hv3 with e1 e3 e4
    subst e1 e4
    clear e3
    go_wp2_with fail
    have hT0 := (TurnW.mk0 hv2 hn.out hbox1).next (hv2.pcs.ins x (by simp)) (Turned.of_below ((drawn_drew w1).below _))
    obtain ⟨x0, x1, x2⟩ := hT0.cells
    have x3 := (five_cells hT0.box).2.2.2.1
    have hxp : Strs w1.drew B x.pv x.ps := ownsRow_below (hv2.pcs.ins x (by simp)) ((drawn_drew w1).below _)
    have hBw : B ≤ w1.drew.heap.size := Nat.le_trans (show B ≤ w1.heap.size by omega) ((drawn_drew w1).below 0).size
    have hvd2 := hv2.below ((drawn_drew w1).below _)
    have hbw := Lib.hid (hb1.out.trans ((drawn_drew w1).below _))
    obtain ⟨a2, c2', e2⟩ := own_form hxp
    unfold strV at x0
    rw [e2] at x1
    have k0 : (0 : Int) ≤ A.length := by omega
    have k1 : (A.length : Int) < n := by have := hn.out; simp at this; omega
    replace hv2 := Lib.hid hv2
    replace hbox1 := Lib.hid hbox1
    have hxN : x.ps.length ≤ N := hps x (by simp)
    have hmo := fun V (h1 : Strs V B x.pv x.ps) (h2 : B ≤ V.heap.size) => more_turn x dt B (N + 1) e2 rfl V h1 h2 (by omega) (by omega) hroom
    replace hmo := Lib.hid hmo
    refine zgo_begin 10 (fun W' => W'.cell? ⟨g, A.length * 3, none⟩ = some (.string ⟨x.name.toArray⟩) ∧ W'.cell? ⟨g, A.length * 3 + 1, none⟩ = some (.slice a2 x.ps.length c2') ∧ W'.cell? ⟨g, A.length * 3 + 2, none⟩ = some (.int .i64 x.text.length) ∧ W'.cell? ⟨w.heap.size, 3, none⟩ = some (.string ⟨dt.toArray⟩)) (by kernel_rfl) ⟨x0, x1, x2, x3⟩ ?_
    intro hHeld
    generalize w1.drew = w2 at hHeld hT0 x0 x1 x2 x3 hxp hBw hvd2 hbw ⊢
    replace hT0 := Lib.hid hT0
    replace hxp := Lib.hid hxp
    replace hvd2 := Lib.hid hvd2
    clear c0 c1 c2 c3 c4
    refine zgo_take 0 (v := ?_) rfl (by kernel_rfl) (by kernel_rfl) (by kernel_rfl) (by kernel_rfl) (fun _ _ _ h => h) (by rfl) ?_ (by assumption) ?_
    rotate_left
    · (intro w hSw; (try dsimp only at hSw); go_simp; all_goals (with_reducible rfl))
    try simp only [Act.put, List.setIfInBounds_toArray, List.set_cons_zero, List.set_cons_succ]
    refine zgo_take 1 (v := ?_) rfl (by kernel_rfl) (by kernel_rfl) (by kernel_rfl) (by kernel_rfl) (fun _ _ _ h => h) (by rfl) ?_ (by assumption) ?_
    rotate_left
    · (intro w hSw; (try dsimp only at hSw); go_simp; all_goals (with_reducible rfl))
    try simp only [Act.put, List.setIfInBounds_toArray, List.set_cons_zero, List.set_cons_succ]
    refine zgo_take 2 (v := ?_) rfl (by kernel_rfl) (by kernel_rfl) (by kernel_rfl) (by kernel_rfl) (fun _ _ _ h => h) (by rfl) ?_ (by assumption) ?_
    rotate_left
    · (intro w hSw; (try dsimp only at hSw); go_simp; all_goals (with_reducible rfl))
    try simp only [Act.put, List.setIfInBounds_toArray, List.set_cons_zero, List.set_cons_succ]
    refine zgo_take 3 (v := ?_) rfl (by kernel_rfl) (by kernel_rfl) (by kernel_rfl) (by kernel_rfl) (fun _ _ _ h => h) (by rfl) ?_ (by assumption) ?_
    rotate_left
    · (intro w hSw; (try dsimp only at hSw); go_simp; all_goals (with_reducible rfl))
    try simp only [Act.put, List.setIfInBounds_toArray, List.set_cons_zero, List.set_cons_succ]
    refine zgo_take 4 (v := ?_) rfl (by kernel_rfl) (by kernel_rfl) (by kernel_rfl) (by kernel_rfl) (fun _ _ _ h => h) (by rfl) ?_ (by assumption) ?_
    rotate_left
    · (intro w hSw; (try dsimp only at hSw); go_simp; all_goals (with_reducible rfl))
    try simp only [Act.put, List.setIfInBounds_toArray, List.set_cons_zero, List.set_cons_succ]
    refine zgo_take 5 (v := ?_) rfl (by kernel_rfl) (by kernel_rfl) (by kernel_rfl) (by kernel_rfl) (fun _ _ _ h => h) (by rfl) ?_ (by assumption) ?_
    rotate_left
    · (intro w hSw; (try dsimp only at hSw); go_simp; all_goals (with_reducible rfl))
    try simp only [Act.put, List.setIfInBounds_toArray, List.set_cons_zero, List.set_cons_succ]
    refine zgo_take 6 (v := ?_) rfl (by kernel_rfl) (by kernel_rfl) (by kernel_rfl) (by kernel_rfl) (fun _ _ _ h => h) (by rfl) ?_ (by assumption) ?_
    rotate_left
    · (intro w hSw; (try dsimp only at hSw); go_simp; all_goals (with_reducible rfl))
    try simp only [Act.put, List.setIfInBounds_toArray, List.set_cons_zero, List.set_cons_succ]
    refine zgo_take 7 (v := ?_) rfl (by kernel_rfl) (by kernel_rfl) (by kernel_rfl) (by kernel_rfl) (fun _ _ _ h => h) (by rfl) ?_ (by assumption) ?_
    rotate_left
    · (intro w hSw; (try dsimp only at hSw); go_simp; all_goals (with_reducible rfl))
    try simp only [Act.put, List.setIfInBounds_toArray, List.set_cons_zero, List.set_cons_succ]
    refine zgo_ready [8] (by kernel_rfl) (by simp) ?_
    refine ZAll.cons rfl (fun K hK => ?_) ZAll.nil
    go_simp
    go_at_call 54
    (with_reducible refine (hmo.out _ hxp.out hBw).mono ?_)
    rintro e w4 ⟨y, a4, m4, c4', T4, rfl, y1, y2, y3, y4, y5, hp4, ht4, hw4⟩
    have hy := Lib.hid (And.intro y1 (And.intro y2 (And.intro y3 (And.intro y4 y5))))
    clear y1 y2 y3 y4 y5
    have hT4 := hT0.out.next hxp.out ht4
    obtain ⟨x0', x1', x2'⟩ := hT4.cells
    have x3' := (five_cells hT4.box).2.2.2.1
    obtain ⟨s0', s1', s2'⟩ := hT4.soft
    rw [e2] at x1'
    unfold strV at x0'
    have hfin := Lib.hid (fun u hu hL hN => turn_done (w0 := w) (N := N + 1) (k' := y) (u := u) (L := done20 (fls20 (A ++ x :: C)) ⟨1, nm, tn, dt, sz⟩) hvd2.out hn.out hp4 ht4 hw4 hu hBw hbw.out hL hN)
    refine hK.out _ _ (⟨x0', x1', x2', x3'⟩) (fun hHeld => ?_)
    clear hK K
    try simp only [Act.put, List.setIfInBounds_toArray, List.set_cons_zero, List.set_cons_succ]
    refine zgo_take 9 (v := ?_) rfl (by kernel_rfl) (by kernel_rfl) (by kernel_rfl) (by kernel_rfl) (fun _ _ _ h => h) (by rfl) ?_ (by assumption) ?_
    rotate_left
    · (intro w hSw; (try dsimp only at hSw); go_simp; all_goals (with_reducible rfl))
    try simp only [Act.put, List.setIfInBounds_toArray, List.set_cons_zero, List.set_cons_succ]
    refine zgo_last (by kernel_rfl) (by kernel_rfl) rfl (fun K hK => ?_)
    go_simp
    refine hK.out _ _ ?_
    clear hK K
    go_wp2_with fail
    go_ret
    have hf := hfin.out (.int .i64 T4) (by rw [hy.out.2.2.1]) (by rw [fls_put hs.out hpn.out (hy.out.2.1.trans hpn.out) hy.out.2.2.2.1]; unfold done20; rw [if_pos rfl]; simp only; rw [hdp.out]) (ps_mid hps hy.out.2.2.2.2)
    rw [hy.out.1, hy.out.2.1] at hf
    unfold strV at hf
    exact hf
  · skip
    have hpk : decide (pos20 (fls20 ds) nm < (fls20 ds).length) = false := decide_eq_false hp
    have hil := at_le (fls20 ds) nm
    have hput := fun (y : Dr20) d (h1 : y.name = nm) (h2 : y.text = d) => fls_ins (ds := ds) (n := nm) (d := d) (k := y) hp h1 h2
    have hnew := may_new hm hp
    have hdn : data20 (fls20 ds) nm = [] := data_no hp
    unfold FindPost20 at hfd
    rw [hpk] at hfd
    have hroom : dt.length ≤ 1048576 := by
      have := may_room hm
      omega
    obtain ⟨i, hi⟩ : ∃ i, at20 (fls20 ds) nm = i := ⟨_, rfl⟩
    simp only [hi] at hfd hil hput
    rw [hfl] at hil hnew
    have hAl : (ds.take i).length = i := by rw [List.length_take]; omega
    clear hi hpk
    replace hput := Lib.hid hput
    replace hdn := Lib.hid hdn
    replace hp := Lib.hid hp
    go_enter Try.func55, Try.ntmps55
    go_wp2_with fail
    refine hfd.out.mono ?_; rintro e w1 ⟨rfl, hb1⟩
    have hbox1 := hbox.out.next hb1
    obtain ⟨c0, c1, c2, c3, c4⟩ := five_cells hbox1
    have hv2 := hv1.out.below hb1
    have hlw := hbox.out.lt
    have hs1 := hb1.size
    replace hb1 : Hid (Below B w w1) := Lib.hid ((hbx.out.next hb1 hbx.out.size).mono hB)
    clear b0 b1 b2 b3 b4 hfd
    go_wp2_with fail
    have hns := arrAt_new w1 64 [Value.string ⟨nm.toArray⟩, .slice none 0 0, .int .i64 0]
    have hba := (Below.refl w1.heap.size w1).alloc (Nat.le_refl _) (.cells [Value.string ⟨nm.toArray⟩, .slice none 0 0, .int .i64 0].toArray 64)
    have hva := hv2.below hba
    have hbxa := hbox1.next hba
    have hps5 : ∀ d ∈ ds.take i ++ (⟨nm, [], .slice none 0 0⟩ : Dr20) :: ds.drop i, d.ps.length ≤ N := fun d hd => by
      rcases List.mem_append.1 hd with hd | hd
      · exact hps d (List.mem_of_mem_take hd)
      · rcases List.mem_cons.1 hd with rfl | hd
        · exact Nat.zero_le _
        · exact hps d (List.mem_of_mem_drop hd)
    have hins := drins_any (.slice a n c) ds ⟨nm, [], .slice none 0 0⟩ i w1.heap.size B _ hva (psAt_cons hva.pcs (World.ownsRow_nil _ _ _ _) (fun b hb => by cases hb)) hns (fun e => by have := (hv2.row.lt _ e).2; omega) (by omega) (by omega) (by simp; omega)
    replace hins := Lib.hid hins
    refine hins.out.mono ?_; rintro e w5 ⟨v5, rfl, hv5, hb5, hg5⟩
    have hbox5 := hbxa.grown hg5 (fun e => own_ne_arr hva.row hbxa (by decide) e.symm)
    obtain ⟨d0, d1, d2, d3, d4⟩ := five_cells hbox5
    have hs5 := hb5.size
    have hsa := hba.size
    replace hb1 : Hid (Below B w w5) := Lib.hid ((hb1.out.trans (hba.mono (show B ≤ w1.heap.size by omega))).trans hb5)
    clear hins hg5 hb5 hbxa hva hba hns c0 c1 c2 c3 c4 hv2 hbox1
    obtain ⟨x, hx⟩ : ∃ x, (⟨nm, [], .slice none 0 0⟩ : Dr20) = x := ⟨_, rfl⟩
    rw [hx] at hv5 hps5
    have hxn : x.name = nm := by rw [← hx]
    have hxt : x.text = [] := by rw [← hx]; rfl
    generalize ds.take i = A at hv5 hps5 hAl hput
    generalize ds.drop i = C at hv5 hps5 hput
    subst hAl
    obtain ⟨a5, c5, rfl⟩ := hv5.form
    obtain ⟨n5, hn5⟩ : ∃ n5, (A ++ x :: C).length = n5 := ⟨_, rfl⟩
    rw [hn5] at hv5
    obtain ⟨g, cap, hv6, hc1, hc2, _, hg, _⟩ := hv5.some_ (by rw [hn5]; have := hn5; simp at this; omega)
    rw [hn5] at hv6 hc1 ⊢
    injection hv6 with e1 e3 e4
    subst e1 e4
    clear e3 hx
    replace hn5 := Lib.hid hn5
    replace hxn := Lib.hid hxn
    replace hxt := Lib.hid hxt
    go_wp2_with fail
    have hT0 := (TurnW.mk0 hv5 hn5.out hbox5).next (hv5.pcs.ins x (by simp)) (Turned.of_below ((drawn_drew w5).below _))
    obtain ⟨x0, x1, x2⟩ := hT0.cells
    have x3 := (five_cells hT0.box).2.2.2.1
    have hxp : Strs w5.drew B x.pv x.ps := ownsRow_below (hv5.pcs.ins x (by simp)) ((drawn_drew w5).below _)
    have hBw : B ≤ w5.drew.heap.size := Nat.le_trans (show B ≤ w5.heap.size by omega) ((drawn_drew w5).below 0).size
    have hvd2 := hv5.below ((drawn_drew w5).below _)
    have hbw := Lib.hid (hb1.out.trans ((drawn_drew w5).below _))
    obtain ⟨a2, c2', e2⟩ := own_form hxp
    unfold strV at x0
    rw [e2] at x1
    have k0 : (0 : Int) ≤ A.length := by omega
    have k1 : (A.length : Int) < n5 := by have := hn5.out; simp at this; omega
    replace hv5 := Lib.hid hv5
    replace hbox5 := Lib.hid hbox5
    have hxN : x.ps.length ≤ N := hps5 x (by simp)
    have hmo := fun V (h1 : Strs V B x.pv x.ps) (h2 : B ≤ V.heap.size) => more_turn x dt B (N + 1) e2 rfl V h1 h2 (by omega) (by omega) (by rw [hxt.out]; simp; omega)
    replace hmo := Lib.hid hmo
    refine zgo_begin 10 (fun W' => W'.cell? ⟨g, A.length * 3, none⟩ = some (.string ⟨x.name.toArray⟩) ∧ W'.cell? ⟨g, A.length * 3 + 1, none⟩ = some (.slice a2 x.ps.length c2') ∧ W'.cell? ⟨g, A.length * 3 + 2, none⟩ = some (.int .i64 x.text.length) ∧ W'.cell? ⟨w.heap.size, 3, none⟩ = some (.string ⟨dt.toArray⟩)) (by kernel_rfl) ⟨x0, x1, x2, x3⟩ ?_
    intro hHeld
    generalize w5.drew = w2 at hHeld hT0 x0 x1 x2 x3 hxp hBw hvd2 hbw ⊢
    replace hT0 := Lib.hid hT0
    replace hxp := Lib.hid hxp
    replace hvd2 := Lib.hid hvd2
    clear d0 d1 d2 d3 d4
    refine zgo_take 0 (v := ?_) rfl (by kernel_rfl) (by kernel_rfl) (by kernel_rfl) (by kernel_rfl) (fun _ _ _ h => h) (by rfl) ?_ (by assumption) ?_
    rotate_left
    · (intro w hSw; (try dsimp only at hSw); go_simp; all_goals (with_reducible rfl))
    try simp only [Act.put, List.setIfInBounds_toArray, List.set_cons_zero, List.set_cons_succ]
    refine zgo_take 1 (v := ?_) rfl (by kernel_rfl) (by kernel_rfl) (by kernel_rfl) (by kernel_rfl) (fun _ _ _ h => h) (by rfl) ?_ (by assumption) ?_
    rotate_left
    · (intro w hSw; (try dsimp only at hSw); go_simp; all_goals (with_reducible rfl))
    try simp only [Act.put, List.setIfInBounds_toArray, List.set_cons_zero, List.set_cons_succ]
    refine zgo_take 2 (v := ?_) rfl (by kernel_rfl) (by kernel_rfl) (by kernel_rfl) (by kernel_rfl) (fun _ _ _ h => h) (by rfl) ?_ (by assumption) ?_
    rotate_left
    · (intro w hSw; (try dsimp only at hSw); go_simp; all_goals (with_reducible rfl))
    try simp only [Act.put, List.setIfInBounds_toArray, List.set_cons_zero, List.set_cons_succ]
    refine zgo_take 3 (v := ?_) rfl (by kernel_rfl) (by kernel_rfl) (by kernel_rfl) (by kernel_rfl) (fun _ _ _ h => h) (by rfl) ?_ (by assumption) ?_
    rotate_left
    · (intro w hSw; (try dsimp only at hSw); go_simp; all_goals (with_reducible rfl))
    try simp only [Act.put, List.setIfInBounds_toArray, List.set_cons_zero, List.set_cons_succ]
    refine zgo_take 4 (v := ?_) rfl (by kernel_rfl) (by kernel_rfl) (by kernel_rfl) (by kernel_rfl) (fun _ _ _ h => h) (by rfl) ?_ (by assumption) ?_
    rotate_left
    · (intro w hSw; (try dsimp only at hSw); go_simp; all_goals (with_reducible rfl))
    try simp only [Act.put, List.setIfInBounds_toArray, List.set_cons_zero, List.set_cons_succ]
    refine zgo_take 5 (v := ?_) rfl (by kernel_rfl) (by kernel_rfl) (by kernel_rfl) (by kernel_rfl) (fun _ _ _ h => h) (by rfl) ?_ (by assumption) ?_
    rotate_left
    · (intro w hSw; (try dsimp only at hSw); go_simp; all_goals (with_reducible rfl))
    try simp only [Act.put, List.setIfInBounds_toArray, List.set_cons_zero, List.set_cons_succ]
    refine zgo_take 6 (v := ?_) rfl (by kernel_rfl) (by kernel_rfl) (by kernel_rfl) (by kernel_rfl) (fun _ _ _ h => h) (by rfl) ?_ (by assumption) ?_
    rotate_left
    · (intro w hSw; (try dsimp only at hSw); go_simp; all_goals (with_reducible rfl))
    try simp only [Act.put, List.setIfInBounds_toArray, List.set_cons_zero, List.set_cons_succ]
    refine zgo_take 7 (v := ?_) rfl (by kernel_rfl) (by kernel_rfl) (by kernel_rfl) (by kernel_rfl) (fun _ _ _ h => h) (by rfl) ?_ (by assumption) ?_
    rotate_left
    · (intro w hSw; (try dsimp only at hSw); go_simp; all_goals (with_reducible rfl))
    try simp only [Act.put, List.setIfInBounds_toArray, List.set_cons_zero, List.set_cons_succ]
    refine zgo_ready [8] (by kernel_rfl) (by simp) ?_
    refine ZAll.cons rfl (fun K hK => ?_) ZAll.nil
    go_simp
    go_at_call 54
    (with_reducible refine (hmo.out _ hxp.out hBw).mono ?_)
    rintro e w4 ⟨y, a4, m4, c4', T4, rfl, y1, y2, y3, y4, y5, hp4, ht4, hw4⟩
    have hy := Lib.hid (And.intro y1 (And.intro y2 (And.intro y3 (And.intro y4 y5))))
    clear y1 y2 y3 y4 y5
    have hT4 := hT0.out.next hxp.out ht4
    obtain ⟨x0', x1', x2'⟩ := hT4.cells
    have x3' := (five_cells hT4.box).2.2.2.1
    obtain ⟨s0', s1', s2'⟩ := hT4.soft
    rw [e2] at x1'
    unfold strV at x0'
    have hfin := Lib.hid (fun u hu hL hN => turn_done (w0 := w) (N := N + 1) (k' := y) (u := u) (L := done20 (fls20 ds) ⟨1, nm, tn, dt, sz⟩) hvd2.out hn5.out hp4 ht4 hw4 hu hBw hbw.out hL hN)
    refine hK.out _ _ (⟨x0', x1', x2', x3'⟩) (fun hHeld => ?_)
    clear hK K
    try simp only [Act.put, List.setIfInBounds_toArray, List.set_cons_zero, List.set_cons_succ]
    refine zgo_take 9 (v := ?_) rfl (by kernel_rfl) (by kernel_rfl) (by kernel_rfl) (by kernel_rfl) (fun _ _ _ h => h) (by rfl) ?_ (by assumption) ?_
    rotate_left
    · (intro w hSw; (try dsimp only at hSw); go_simp; all_goals (with_reducible rfl))
    try simp only [Act.put, List.setIfInBounds_toArray, List.set_cons_zero, List.set_cons_succ]
    refine zgo_last (by kernel_rfl) (by kernel_rfl) rfl (fun K hK => ?_)
    go_simp
    refine hK.out _ _ ?_
    clear hK K
    go_wp2_with fail
    go_ret
    have hf := hfin.out (.int .i64 T4) (by rw [hy.out.2.2.1]) (by rw [hput.out y _ (hy.out.2.1.trans hxn.out) hy.out.2.2.2.1, hxt.out]; unfold done20; rw [if_pos rfl]; simp only; rw [hdn.out]) (ps_mid hps5 hy.out.2.2.2.2)
    rw [hy.out.1, hy.out.2.1] at hf
    unfold strV at hf
    exact hf
end Go.Proofs.Ytahndjgamoojkaa
