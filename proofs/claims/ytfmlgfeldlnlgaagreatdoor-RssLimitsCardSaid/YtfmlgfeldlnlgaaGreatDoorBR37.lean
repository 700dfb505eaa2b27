/- Layer 14: a part's entry. -/
import Derived.Test.YtfmlgfeldlnlgaaGreatDoorBR36
import Derived.Deep.Cut
namespace Go.Proofs.YtfmlgfeldlnlgaaGreatDoor
open Go.RowKit

/-- What entry's first region keeps. -/
structure Ej (w0 : World) (v : Value) (it most : Int) (Q : List (Nd × Value)) (B : Nat) (s1 s2 s3 s4 : List UInt8) (L : Nat → Bool) (a : Act) (w : World) : Prop where
  ex : ∃ x9 x10 x11 x12 x13 x14 x15 x16 x17 x6 : Value, a = ⟨#[.agg #[v, .int .i64 it], .int .i64 most, .pointer (some ⟨B, 0, none⟩), undef, .pointer (some ⟨B + 1, 0, none⟩), .nilIface, x6, undef, undef, x9, x10, x11, x12, x13, x14, x15, x16, x17, undef, undef, undef, undef, undef, undef, undef, undef, undef, undef, undef, undef, undef, undef, undef, undef, undef, undef, undef, undef, undef, undef, undef, undef, undef, undef, undef, undef, undef, undef, undef, undef, undef, undef, undef, undef], []⟩ ∧ Pf w0 v it Q B w ∧ ArrAt w (B + 1) 44 (itC it0) ∧
    (L 0 = true → x9 = .agg #[v, .int .i64 it]) ∧
    (L 1 = true → x10 = strV s1) ∧
    (L 2 = true → x11 = .agg #[v, .int .i64 it]) ∧
    (L 3 = true → x12 = strV s2) ∧
    (L 4 = true → x13 = .agg #[v, .int .i64 it]) ∧
    (L 5 = true → x14 = strV s3) ∧
    (L 6 = true → x15 = .agg #[v, .int .i64 it]) ∧
    (L 7 = true → x16 = strV s4) ∧
    (L 8 = true → x17 = itV ⟨s1, s2, s3, s4, 0, false⟩) ∧
    (L 9 = true → ∃ b, x6 = .pointer (some ⟨b, 0, none⟩) ∧ ArrAt w b 44 (cond (L 10) (itC ⟨s1, s2, s3, s4, 0, false⟩) (itC it0)) ∧ B + 2 ≤ b) ∧ (L 10 = true → L 9 = true)

theorem row14 {w : World} {b : Nat} {x : It} {t : TypeId} (h : ArrAt w b t (itC x)) : (w.cell? ⟨b, 0, none⟩ = some (strV x.guid) ∧ w.frozen? ⟨b, 0, none⟩ = false) ∧ (w.cell? ⟨b, 1, none⟩ = some (strV x.title) ∧ w.frozen? ⟨b, 1, none⟩ = false) ∧ (w.cell? ⟨b, 2, none⟩ = some (strV x.link) ∧ w.frozen? ⟨b, 2, none⟩ = false) ∧ (w.cell? ⟨b, 3, none⟩ = some (strV x.body) ∧ w.frozen? ⟨b, 3, none⟩ = false) ∧ (w.cell? ⟨b, 4, none⟩ = some (.int .i64 x.date) ∧ w.frozen? ⟨b, 4, none⟩ = false) ∧ (w.cell? ⟨b, 5, none⟩ = some (.bool x.dated) ∧ w.frozen? ⟨b, 5, none⟩ = false) :=
  ⟨⟨h.cell 0, h.soft 0⟩, ⟨h.cell 1, h.soft 1⟩, ⟨h.cell 2, h.soft 2⟩, ⟨h.cell 3, h.soft 3⟩, ⟨h.cell 4, h.soft 4⟩, ⟨h.cell 5, h.soft 5⟩⟩
theorem row14_set {w : World} {b : Nat} {x : It} {t : TypeId} (h : ArrAt w b t (itC x)) (y : It) : ArrAt ((((((w.setCell ⟨b, 0, none⟩ (strV y.guid)).setCell ⟨b, 1, none⟩ (strV y.title)).setCell ⟨b, 2, none⟩ (strV y.link)).setCell ⟨b, 3, none⟩ (strV y.body)).setCell ⟨b, 4, none⟩ (.int .i64 y.date)).setCell ⟨b, 5, none⟩ (.bool y.dated)) b t (itC y) :=
  (((((h.set 0 _).set 1 _).set 2 _).set 3 _).set 4 _).set 5 _
theorem row14_zero {w : World} {b : Nat} {t : TypeId} (h : ArrAt w b t (itC it0)) : (w.cell? ⟨b, 0, none⟩ = some (.string ⟨#[]⟩) ∧ w.frozen? ⟨b, 0, none⟩ = false) ∧ (w.cell? ⟨b, 1, none⟩ = some (.string ⟨#[]⟩) ∧ w.frozen? ⟨b, 1, none⟩ = false) ∧ (w.cell? ⟨b, 2, none⟩ = some (.string ⟨#[]⟩) ∧ w.frozen? ⟨b, 2, none⟩ = false) ∧ (w.cell? ⟨b, 3, none⟩ = some (.string ⟨#[]⟩) ∧ w.frozen? ⟨b, 3, none⟩ = false) ∧ (w.cell? ⟨b, 4, none⟩ = some (.int .i64 0) ∧ w.frozen? ⟨b, 4, none⟩ = false) ∧ (w.cell? ⟨b, 5, none⟩ = some (.bool false) ∧ w.frozen? ⟨b, 5, none⟩ = false) := row14 h
/-- A row of an entry, set anew. -/
def setIt (w : World) (b : Nat) (y : It) : World := ((((((w.setCell ⟨b, 0, none⟩ (strV y.guid)).setCell ⟨b, 1, none⟩ (strV y.title)).setCell ⟨b, 2, none⟩ (strV y.link)).setCell ⟨b, 3, none⟩ (strV y.body)).setCell ⟨b, 4, none⟩ (.int .i64 y.date)).setCell ⟨b, 5, none⟩ (.bool y.dated))
theorem setIt_below {w0 w : World} {b : Nat} (y : It) (h : Below w0.heap.size w0 w) (hb : w0.heap.size ≤ b) : Below w0.heap.size w0 (setIt w b y) :=
  (((((h.setCell (p := ⟨b, 0, none⟩) hb _).setCell (p := ⟨b, 1, none⟩) hb _).setCell (p := ⟨b, 2, none⟩) hb _).setCell (p := ⟨b, 3, none⟩) hb _).setCell (p := ⟨b, 4, none⟩) hb _).setCell (p := ⟨b, 5, none⟩) hb _
theorem bad_end {w W : World} {B f : Nat} {q : Int} (hw : Below w.heap.size w W) (hB : w.heap.size ≤ B) (hr : ArrAt W B 44 (itC it0)) (hf : FaultAt W f 0 (codeV q)) (hlow : w.heap.size ≤ f) : ItPost w (.bad q) (.returned (.tuple #[itV it0, faultV f])) (setIt W B it0) := by
  have hne : f ≠ B := arr_apart hf hr (by decide)
  exact ⟨f, rfl, hlow, ((((((hf.far 0 _ hne).far 1 _ hne).far 2 _ hne).far 3 _ hne).far 4 _ hne).far 5 _ hne), setIt_below it0 hw hB⟩
theorem it_end {w W : World} {B : Nat} (x : It) (hw : Below w.heap.size w W) (hB : w.heap.size ≤ B) : ItPost w (.it x) (.returned (.tuple #[itV x, .nilIface])) (setIt W B x) := ⟨rfl, setIt_below x hw hB⟩
theorem itO_is {F : List UInt8 → Option (List UInt8)} {R : List UInt8 → Int × Bool} {most : Int} {s1 s2 s3 s4 : List UInt8} (h1 : (F guidL).getD [] = s1) (h2 : (F titleL).getD [] = s2) (h3 : (F linkL).getD [] = s3) (h4 : (F descL).getD [] = s4) :
    itO F R most = if shortB ⟨s1, s2, s3, s4, 0, false⟩ most = false then .bad 6 else match F pubL with
      | none => if s1 = [] then .bad 7 else .it ⟨s1, s2, s3, s4, 0, false⟩
      | some s => if s1 = [] ∨ (R s).2 = false then .bad 7 else .it ⟨s1, s2, s3, s4, (R s).1, (R s).2⟩ := by
  subst h1 h2 h3 h4
  have hs : shortB (oneB F R) most = shortB ⟨(F guidL).getD [], (F titleL).getD [], (F linkL).getD [], (F descL).getD [], 0, false⟩ most := rfl
  unfold itO lateB
  rw [hs]
  unfold oneB
  cases F pubL with
  | none => simp
  | some s => simp
theorem Pf.setCell {w0 w : World} {v : Value} {it : Int} {Q : List (Nd × Value)} {bx b : Nat} (h0 : NdSl w0 v Q) (h : Pf w0 v it Q bx w) (hb : bx + 2 ≤ b) (k : Nat) (u : Value) : Pf w0 v it Q bx (w.setCell ⟨b, k, none⟩ u) := by
  have hB := h.below.setCell (p := ⟨b, k, none⟩) (by have := h.low; show w0.heap.size ≤ b; omega) u
  exact ⟨h0.next hB, (World.cell?_setCell_far _ _ _ _ (by show b ≠ bx; omega)).trans h.c0, (World.cell?_setCell_far _ _ _ _ (by show b ≠ bx; omega)).trans h.c1, h.low, hB⟩

theorem drew_below (w : World) : Below w.heap.size w w.drew := (drawn_drew w).below _
set_option maxRecDepth 100000 in
set_option maxHeartbeats 4000000 in
theorem entry14_any (Q : List (Nd × Value)) (v : Value) (it most : Int) (w : World) (h : NdSl w v Q) (hn : Q.length ≤ 1000000) (hT : sumT (nodes Q) ≤ 2000000) (hE : Env13 w) :
    Calls Tryz.prog 22 #[.agg #[v, .int .i64 it], .int .i64 most] w (ItPost w (itO (fieldB (nodes Q) it) r822C most)) := by
  have hP := Pf.new it h 54
  obtain ⟨s1, h1⟩ : ∃ s, (fieldB (nodes Q) it guidL).getD [] = s := ⟨_, rfl⟩
  obtain ⟨s2, h2⟩ : ∃ s, (fieldB (nodes Q) it titleL).getD [] = s := ⟨_, rfl⟩
  obtain ⟨s3, h3⟩ : ∃ s, (fieldB (nodes Q) it linkL).getD [] = s := ⟨_, rfl⟩
  obtain ⟨s4, h4⟩ : ∃ s, (fieldB (nodes Q) it descL).getD [] = s := ⟨_, rfl⟩
  have f1 := Lib.hid (fun W (hW : NdSl W v Q) => h1 ▸ pfield14_any Q v it guidL W hW hn hT)
  have f2 := Lib.hid (fun W (hW : NdSl W v Q) => h2 ▸ pfield14_any Q v it titleL W hW hn hT)
  have f3 := Lib.hid (fun W (hW : NdSl W v Q) => h3 ▸ pfield14_any Q v it linkL W hW hn hT)
  have f4 := Lib.hid (fun W (hW : NdSl W v Q) => h4 ▸ pfield14_any Q v it descL W hW hn hT)
  obtain ⟨a, c, hv⟩ := h.form
  have hb0 : Below (w.heap.size + 1) (w.alloc (.cells #[v, .int .i64 it] 54)) ((w.alloc (.cells #[v, .int .i64 it] 54)).alloc (.cells (itC it0).toArray 44)) := (Below.refl _ _).alloc (by simp) _
  have hR := arrAt_new (w.alloc (.cells #[v, .int .i64 it] 54)) 44 (itC it0)
  rw [show (w.alloc (.cells #[v, .int .i64 it] 54)).heap.size = w.heap.size + 1 from by simp] at hR
  replace hR := Lib.hid hR
  replace hP := Lib.hid (hP.next (by simpa using hb0))
  clear hb0
  replace h1 := Lib.hid h1
  replace h2 := Lib.hid h2
  replace h3 := Lib.hid h3
  replace h4 := Lib.hid h4
  obtain ⟨o, ho⟩ : ∃ o, itO (fieldB (nodes Q) it) r822C most = o := ⟨_, rfl⟩
  rw [ho]
  rw [itO_is h1.out h2.out h3.out h4.out] at ho
  replace ho := Lib.hid ho
  replace h := Lib.hid h
  replace hE := Lib.hid hE
  subst hv
  go_enter Tryz.func22, Tryz.ntmps22
  go_wp2_with fail
  refine wp_region_kept (by kernel_rfl) [[], [0], [], [2, 1], [], [4, 3], [], [6, 5], [1, 3, 5, 7], [], [9, 8, 7, 0, 1, 2, 3, 4, 5, 6, 7, 8, 9]] (by kernel_rfl) (by kernel_rfl) (J := Ej w (.slice a Q.length c) it most Q w.heap.size s1 s2 s3 s4) ?_ ?_ ?_
  · exact ⟨⟨undef, undef, undef, undef, undef, undef, undef, undef, undef, undef, rfl, (hP.out.next (drew_below _)), hR.out.next (drew_below _), nofun, nofun, nofun, nofun, nofun, nofun, nofun, nofun, nofun, nofun, nofun⟩⟩
  · clear hP hR hE
    intro L a1 w1 hJ i o ho hL hD K' hK
    obtain ⟨x9, x10, x11, x12, x13, x14, x15, x16, x17, x6, rfl, p1, r1, e0, e1, e2, e3, e4, e5, e6, e7, e8, e9, e10⟩ := hJ.ex
    clear hJ
    obtain ⟨c0, c1⟩ := And.intro p1.c0 p1.c1
    have hsl := Lib.hid p1.sl
    have hi := (List.getElem?_eq_some_iff.1 ho).1
    replace hi : i < 11 := hi
    replace p1 := Lib.hid p1
    replace r1 := Lib.hid r1
    replace e0 := Lib.hid e0
    replace e1 := Lib.hid e1
    replace e2 := Lib.hid e2
    replace e3 := Lib.hid e3
    replace e4 := Lib.hid e4
    replace e5 := Lib.hid e5
    replace e6 := Lib.hid e6
    replace e7 := Lib.hid e7
    replace e8 := Lib.hid e8
    replace e9 := Lib.hid e9
    replace e10 := Lib.hid e10
    replace hL := Lib.hid hL
    replace hD := Lib.hid hD
    obtain rfl | rfl | rfl | rfl | rfl | rfl | rfl | rfl | rfl | rfl | rfl : i = 0 ∨ i = 1 ∨ i = 2 ∨ i = 3 ∨ i = 4 ∨ i = 5 ∨ i = 6 ∨ i = 7 ∨ i = 8 ∨ i = 9 ∨ i = 10 := by omega
    · obtain rfl := Option.some.inj ho
      clear ho hi
      go_simp
      exact hK.out _ _ ⟨⟨_, x10, x11, x12, x13, x14, x15, x16, x17, x6, rfl, p1.out, r1.out, fun _ => rfl, e1.out, e2.out, e3.out, e4.out, e5.out, e6.out, e7.out, e8.out, e9.out, e10.out⟩⟩
    · obtain rfl := Option.some.inj ho
      clear ho hi
      obtain rfl := e0.out (hD.out 0 (by decide))
      go_simp
      refine (f1.out _ hsl.out).mono ?_
      rintro e w2 ⟨rfl, hb⟩
      exact hK.out _ _ ⟨⟨_, _, x11, x12, x13, x14, x15, x16, x17, x6, rfl, (p1.out.next hb), (r1.out.next hb), e0.out, fun _ => rfl, e2.out, e3.out, e4.out, e5.out, e6.out, e7.out, e8.out, fun h => by obtain ⟨b, h1, h2, h3⟩ := e9.out h; exact ⟨b, h1, h2.next hb, h3⟩, e10.out⟩⟩
    · obtain rfl := Option.some.inj ho
      clear ho hi
      go_simp
      exact hK.out _ _ ⟨⟨x9, x10, _, x12, x13, x14, x15, x16, x17, x6, rfl, p1.out, r1.out, e0.out, e1.out, fun _ => rfl, e3.out, e4.out, e5.out, e6.out, e7.out, e8.out, e9.out, e10.out⟩⟩
    · obtain rfl := Option.some.inj ho
      clear ho hi
      obtain rfl := e2.out (hD.out 2 (by decide))
      go_simp
      refine (f2.out _ hsl.out).mono ?_
      rintro e w2 ⟨rfl, hb⟩
      exact hK.out _ _ ⟨⟨x9, x10, _, _, x13, x14, x15, x16, x17, x6, rfl, (p1.out.next hb), (r1.out.next hb), e0.out, e1.out, e2.out, fun _ => rfl, e4.out, e5.out, e6.out, e7.out, e8.out, fun h => by obtain ⟨b, h1, h2, h3⟩ := e9.out h; exact ⟨b, h1, h2.next hb, h3⟩, e10.out⟩⟩
    · obtain rfl := Option.some.inj ho
      clear ho hi
      go_simp
      exact hK.out _ _ ⟨⟨x9, x10, x11, x12, _, x14, x15, x16, x17, x6, rfl, p1.out, r1.out, e0.out, e1.out, e2.out, e3.out, fun _ => rfl, e5.out, e6.out, e7.out, e8.out, e9.out, e10.out⟩⟩
    · obtain rfl := Option.some.inj ho
      clear ho hi
      obtain rfl := e4.out (hD.out 4 (by decide))
      go_simp
      refine (f3.out _ hsl.out).mono ?_
      rintro e w2 ⟨rfl, hb⟩
      exact hK.out _ _ ⟨⟨x9, x10, x11, x12, _, _, x15, x16, x17, x6, rfl, (p1.out.next hb), (r1.out.next hb), e0.out, e1.out, e2.out, e3.out, e4.out, fun _ => rfl, e6.out, e7.out, e8.out, fun h => by obtain ⟨b, h1, h2, h3⟩ := e9.out h; exact ⟨b, h1, h2.next hb, h3⟩, e10.out⟩⟩
    · obtain rfl := Option.some.inj ho
      clear ho hi
      go_simp
      exact hK.out _ _ ⟨⟨x9, x10, x11, x12, x13, x14, _, x16, x17, x6, rfl, p1.out, r1.out, e0.out, e1.out, e2.out, e3.out, e4.out, e5.out, fun _ => rfl, e7.out, e8.out, e9.out, e10.out⟩⟩
    · obtain rfl := Option.some.inj ho
      clear ho hi
      obtain rfl := e6.out (hD.out 6 (by decide))
      go_simp
      refine (f4.out _ hsl.out).mono ?_
      rintro e w2 ⟨rfl, hb⟩
      exact hK.out _ _ ⟨⟨x9, x10, x11, x12, x13, x14, _, _, x17, x6, rfl, (p1.out.next hb), (r1.out.next hb), e0.out, e1.out, e2.out, e3.out, e4.out, e5.out, e6.out, fun _ => rfl, e8.out, fun h => by obtain ⟨b, h1, h2, h3⟩ := e9.out h; exact ⟨b, h1, h2.next hb, h3⟩, e10.out⟩⟩
    · obtain rfl := Option.some.inj ho
      clear ho hi
      obtain rfl := e1.out (hD.out 1 (by decide))
      obtain rfl := e3.out (hD.out 3 (by decide))
      obtain rfl := e5.out (hD.out 5 (by decide))
      obtain rfl := e7.out (hD.out 7 (by decide))
      unfold strV
      go_simp
      exact hK.out _ _ ⟨⟨x9, _, x11, _, x13, _, x15, _, _, x6, rfl, p1.out, r1.out, e0.out, e1.out, e2.out, e3.out, e4.out, e5.out, e6.out, e7.out, fun _ => rfl, e9.out, e10.out⟩⟩
    · obtain rfl := Option.some.inj ho
      clear ho hi
      go_simp
      have hb : Below w1.heap.size w1 (w1.alloc (.cells (itC it0).toArray 44)) := (Below.refl _ _).alloc (Nat.le_refl _) _
      refine hK.out _ _ ⟨⟨x9, x10, x11, x12, x13, x14, x15, x16, x17, _, rfl, (p1.out.next hb), (r1.out.next hb), e0.out, e1.out, e2.out, e3.out, e4.out, e5.out, e6.out, e7.out, e8.out, fun _ => ⟨_, rfl, ?_, ?_⟩, fun _ => rfl⟩⟩
      · have e11 : L 10 = false := by cases hc : L 10 with | false => rfl | true => exact absurd (e10.out hc) (by rw [hL.out]; decide)
        show ArrAt _ _ _ (cond (L 10) _ _)
        rw [e11]; exact arrAt_new w1 _ _
      · have := r1.out.lt; omega
    · obtain rfl := Option.some.inj ho
      clear ho hi
      obtain rfl := e8.out (hD.out 8 (by decide))
      obtain ⟨b, rfl, hb, hlow⟩ := e9.out (hD.out 9 (by decide))
      rw [hL.out] at hb
      obtain ⟨g0, g1, g2, g3, g4, g5⟩ := row14 hb
      unfold itV itC strV
      go_simp
      have z1 := Pf.setCell h.out (Pf.setCell h.out (Pf.setCell h.out (Pf.setCell h.out (Pf.setCell h.out (Pf.setCell h.out p1.out hlow 0 (strV s1)) hlow 1 (strV s2)) hlow 2 (strV s3)) hlow 3 (strV s4)) hlow 4 (.int .i64 0)) hlow 5 (.bool false)
      have hne : w.heap.size + 1 ≠ b := by omega
      have z2 := ((((((r1.out.far 0 (strV s1) hne).far 1 (strV s2) hne).far 2 (strV s3) hne).far 3 (strV s4) hne).far 4 (.int .i64 0) hne).far 5 (.bool false) hne)
      have z3 := row14_set hb ⟨s1, s2, s3, s4, 0, false⟩
      have z4 : itV ⟨s1, s2, s3, s4, 0, false⟩ = itV ⟨s1, s2, s3, s4, 0, false⟩ := rfl
      unfold strV at z1 z2 z3
      unfold itV itC strV at z4
      refine hK.out _ _ ⟨⟨x9, x10, x11, x12, x13, x14, x15, x16, _, _, rfl, z1, z2, e0.out, e1.out, e2.out, e3.out, e4.out, e5.out, e6.out, e7.out, e8.out, fun _ => ⟨b, rfl, z3, hlow⟩, fun _ => hD.out 9 (by decide)⟩⟩
  · intro L a1 w1 hL hJ
    obtain ⟨x9, x10, x11, x12, x13, x14, x15, x16, x17, x6, rfl, p1, r1, e0, e1, e2, e3, e4, e5, e6, e7, e8, e9, -⟩ := hJ.ex
    clear hJ hP hR f1 f2 f3 f4
    obtain rfl := e0 (hL 0 (by decide))
    obtain rfl := e1 (hL 1 (by decide))
    obtain rfl := e2 (hL 2 (by decide))
    obtain rfl := e3 (hL 3 (by decide))
    obtain rfl := e4 (hL 4 (by decide))
    obtain rfl := e5 (hL 5 (by decide))
    obtain rfl := e6 (hL 6 (by decide))
    obtain rfl := e7 (hL 7 (by decide))
    obtain rfl := e8 (hL 8 (by decide))
    obtain ⟨b, rfl, hx, hlow⟩ := e9 (hL 9 (by decide))
    rw [hL 10 (by decide)] at hx
    clear e0 e1 e2 e3 e4 e5 e6 e7 e8 e9 hL
    replace hx : ArrAt w1 b 44 (itC ⟨s1, s2, s3, s4, 0, false⟩) := hx
    have hq := row14 hx
    obtain ⟨hq0, hq1, hq2, hq3, hq4, hq5⟩ := hq
    have hsh := short14_any ⟨s1, s2, s3, s4, 0, false⟩ most w1
    unfold itV itC at hsh
    obtain ⟨c0, c1⟩ := And.intro p1.c0 p1.c1
    replace hx := Lib.hid hx
    replace p1 := Lib.hid p1
    replace r1 := Lib.hid r1
    replace hsh := Lib.hid hsh
    unfold strV
    unfold strV at hq0 hq1 hq2 hq3
    go_wp2_with fail
    refine hsh.out.mono ?_
    rintro e w2 ⟨rfl, hb2⟩
    clear hsh hq0 hq1 hq2 hq3 hq4 hq5 c0 c1
    replace p1 := Lib.hid (p1.out.next hb2)
    replace r1 := Lib.hid (r1.out.next hb2)
    replace hx := Lib.hid (hx.out.next hb2)
    clear hb2
    cases hS : shortB ⟨s1, s2, s3, s4, 0, false⟩ most with
    | false =>
      go_wp2_with fail
      refine (fault14_any 6 _).mono ?_
      rintro e w9 ⟨rfl, hfa, hb9⟩
      have hr := r1.out.next hb9
      have hlw := p1.out.below.size
      have hbw := p1.out.below.andThen hb9
      obtain ⟨⟨g0, k0⟩, ⟨g1, k1⟩, ⟨g2, k2⟩, ⟨g3, k3⟩, ⟨g4, k4⟩, ⟨g5, k5⟩⟩ := row14_zero hr
      have hz := row14_zero (row14_set hr it0)
      unfold it0 strV at hz
      simp only at hz
      replace hz := Lib.hid hz
      replace hfa := Lib.hid hfa
      replace hr := Lib.hid hr
      replace hbw := Lib.hid hbw
      go_wp2_with fail
      obtain ⟨⟨z0, -⟩, ⟨z1, -⟩, ⟨z2, -⟩, ⟨z3, -⟩, ⟨z4, -⟩, ⟨z5, -⟩⟩ := hz.out
      (try simp only [Exit.inBlock, Exit.then])
      refine bodyPost_ret (v := .tuple #[.agg #[.string ⟨#[]⟩, .string ⟨#[]⟩, .string ⟨#[]⟩, .string ⟨#[]⟩, .int .i64 0, .bool false], _]) (by simp [results, Tryz.results22, go_sem, z0, z1, z2, z3, z4, z5]; rfl) rfl ?_
      rw [show o = .bad 6 from ho.out.symm.trans (if_pos hS)]
      exact bad_end hbw.out (Nat.le_succ _) hr.out (by simpa using hfa.out) (by simpa using hlw)
    | true =>
      obtain ⟨c0, c1⟩ := And.intro p1.out.c0 p1.out.c1
      have hfd := field14_any Q _ it pubL w2 p1.out.sl hn hT
      have hT2 := fun s (e : fieldB (nodes Q) it pubL = some s) => fieldB_bd e
      have hO := ho.out
      rw [if_neg (by rw [hS]; decide)] at hO
      clear ho
      have ho : Hid (_ = o) := Lib.hid hO
      clear hO
      replace ho := ho.out
      generalize fieldB (nodes Q) it pubL = op at hfd hT2 ho
      replace ho := Lib.hid ho
      unfold pubL at hfd
      replace hfd := Lib.hid hfd
      go_wp2_with fail
      refine hfd.out.mono ?_
      rintro e w3 ⟨rfl, hb3⟩
      clear hfd c0 c1
      replace p1 := Lib.hid (p1.out.next hb3)
      replace r1 := Lib.hid (r1.out.next hb3)
      replace hx := Lib.hid (hx.out.next hb3)
      clear hb3
      cases op with
      | none =>
        clear hT2
        obtain ⟨hq0, hq1, hq2, hq3, hq4, hq5⟩ := row14 hx.out
        unfold strV at hq0 hq1 hq2 hq3
        by_cases hs1 : s1 = []
        · subst hs1
          go_wp2_with fail
          refine (fault14_any 7 _).mono ?_
          rintro e w9 ⟨rfl, hfa, hb9⟩
          have hr := r1.out.next hb9
          have hlw := p1.out.below.size
          have hbw := p1.out.below.andThen hb9
          obtain ⟨⟨g0, k0⟩, ⟨g1, k1⟩, ⟨g2, k2⟩, ⟨g3, k3⟩, ⟨g4, k4⟩, ⟨g5, k5⟩⟩ := row14_zero hr
          have hz := row14_zero (row14_set hr it0)
          unfold it0 strV at hz
          simp only at hz
          replace hz := Lib.hid hz
          replace hfa := Lib.hid hfa
          replace hr := Lib.hid hr
          replace hbw := Lib.hid hbw
          go_wp2_with fail
          obtain ⟨⟨z0, -⟩, ⟨z1, -⟩, ⟨z2, -⟩, ⟨z3, -⟩, ⟨z4, -⟩, ⟨z5, -⟩⟩ := hz.out
          (try simp only [Exit.inBlock, Exit.then])
          refine bodyPost_ret (v := .tuple #[.agg #[.string ⟨#[]⟩, .string ⟨#[]⟩, .string ⟨#[]⟩, .string ⟨#[]⟩, .int .i64 0, .bool false], _]) (by simp [results, Tryz.results22, go_sem, z0, z1, z2, z3, z4, z5]; rfl) rfl ?_
          rw [show o = .bad 7 from ho.out.symm.trans (by simp)]
          exact bad_end hbw.out (Nat.le_succ _) hr.out (by simpa using hfa.out) (by simpa using hlw)
        · have hs2 : (s1 == []) = false := by rw [beq_eq_false_iff_ne]; exact hs1
          clear hq0 hq1 hq2 hq3 hq4 hq5
          obtain ⟨⟨g0, k0⟩, ⟨g1, k1⟩, ⟨g2, k2⟩, ⟨g3, k3⟩, ⟨g4, k4⟩, ⟨g5, k5⟩⟩ := row14_zero r1.out
          have hz := row14 (row14_set r1.out ⟨s1, s2, s3, s4, 0, false⟩)
          unfold strV at hz
          simp only at hz
          have hbw := Lib.hid p1.out.below
          replace hz := Lib.hid hz
          obtain ⟨hq0, hq1, hq2, hq3, hq4, hq5⟩ := row14 hx.out
          unfold strV at hq0 hq1 hq2 hq3
          go_wp2_with fail
          obtain ⟨⟨z0, -⟩, ⟨z1, -⟩, ⟨z2, -⟩, ⟨z3, -⟩, ⟨z4, -⟩, ⟨z5, -⟩⟩ := hz.out
          (try simp only [Exit.inBlock, Exit.then])
          refine bodyPost_ret (v := .tuple #[itV ⟨s1, s2, s3, s4, 0, false⟩, .nilIface]) (by simp [results, Tryz.results22, go_sem, z0, z1, z2, z3, z4, z5]; rfl) rfl ?_
          rw [show o = .it ⟨s1, s2, s3, s4, 0, false⟩ from ho.out.symm.trans (if_neg hs1)]
          exact it_end _ hbw.out (Nat.le_succ _)
      | some s =>
        have hs8 := hT2 s rfl
        have hE3 := hE.out.below p1.out.below
        have hrf := rfc822_any s w3 hE3 (by omega)
        clear hT2 hE3
        replace ho := ho.out
        simp only at ho
        generalize r822C s = r at hrf ho
        obtain ⟨d, k⟩ := r
        replace ho := Lib.hid ho
        replace hrf := Lib.hid hrf
        go_wp2_with fail
        refine hrf.out.mono ?_
        rintro e w4 ⟨rfl, hb4⟩
        clear hrf
        replace p1 := Lib.hid (p1.out.next hb4)
        replace r1 := Lib.hid (r1.out.next hb4)
        replace hx := Lib.hid (hx.out.next hb4)
        clear hb4
        have hne : w.heap.size + 1 ≠ b := by omega
        have p2 := Lib.hid (Pf.setCell h.out (Pf.setCell h.out p1.out hlow 4 (.int .i64 d)) hlow 5 (.bool k))
        have r2 := Lib.hid ((r1.out.far 4 (.int .i64 d) hne).far 5 (.bool k) hne)
        have hx2 : Hid (ArrAt ((w4.setCell ⟨b, 4, none⟩ (.int .i64 d)).setCell ⟨b, 5, none⟩ (.bool k)) b 44 (itC ⟨s1, s2, s3, s4, d, k⟩)) := Lib.hid ((hx.out.set 4 (.int .i64 d)).set 5 (.bool k))
        obtain ⟨⟨hq0, hf0⟩, ⟨hq1, hf1⟩, ⟨hq2, hf2⟩, ⟨hq3, hf3⟩, ⟨hq4, hf4⟩, ⟨hq5, hf5⟩⟩ := row14 hx.out
        clear p1 r1 hx
        unfold strV at hq0 hq1 hq2 hq3
        simp only at hq0 hq1 hq2 hq3 hq4 hq5
        by_cases hs1 : s1 = []
        · subst hs1
          go_wp2_with fail
          have p1 := p2
          have r1 := r2
          refine (fault14_any 7 _).mono ?_
          rintro e w9 ⟨rfl, hfa, hb9⟩
          have hr := r1.out.next hb9
          have hlw := p1.out.below.size
          have hbw := p1.out.below.andThen hb9
          obtain ⟨⟨g0, k0⟩, ⟨g1, k1⟩, ⟨g2, k2⟩, ⟨g3, k3⟩, ⟨g4, k4⟩, ⟨g5, k5⟩⟩ := row14_zero hr
          have hz := row14_zero (row14_set hr it0)
          unfold it0 strV at hz
          simp only at hz
          replace hz := Lib.hid hz
          replace hfa := Lib.hid hfa
          replace hr := Lib.hid hr
          replace hbw := Lib.hid hbw
          go_wp2_with fail
          obtain ⟨⟨z0, -⟩, ⟨z1, -⟩, ⟨z2, -⟩, ⟨z3, -⟩, ⟨z4, -⟩, ⟨z5, -⟩⟩ := hz.out
          (try simp only [Exit.inBlock, Exit.then])
          refine bodyPost_ret (v := .tuple #[.agg #[.string ⟨#[]⟩, .string ⟨#[]⟩, .string ⟨#[]⟩, .string ⟨#[]⟩, .int .i64 0, .bool false], _]) (by simp [results, Tryz.results22, go_sem, z0, z1, z2, z3, z4, z5]; rfl) rfl ?_
          rw [show o = .bad 7 from ho.out.symm.trans (by simp)]
          exact bad_end hbw.out (Nat.le_succ _) hr.out (by simpa using hfa.out) (by simpa using hlw)
        · have hs2 : (s1 == []) = false := by rw [beq_eq_false_iff_ne]; exact hs1
          cases k with
          | false =>
            go_wp2_with fail
            have p1 := p2
            have r1 := r2
            refine (fault14_any 7 _).mono ?_
            rintro e w9 ⟨rfl, hfa, hb9⟩
            have hr := r1.out.next hb9
            have hlw := p1.out.below.size
            have hbw := p1.out.below.andThen hb9
            obtain ⟨⟨g0, k0⟩, ⟨g1, k1⟩, ⟨g2, k2⟩, ⟨g3, k3⟩, ⟨g4, k4⟩, ⟨g5, k5⟩⟩ := row14_zero hr
            have hz := row14_zero (row14_set hr it0)
            unfold it0 strV at hz
            simp only at hz
            replace hz := Lib.hid hz
            replace hfa := Lib.hid hfa
            replace hr := Lib.hid hr
            replace hbw := Lib.hid hbw
            go_wp2_with fail
            obtain ⟨⟨z0, -⟩, ⟨z1, -⟩, ⟨z2, -⟩, ⟨z3, -⟩, ⟨z4, -⟩, ⟨z5, -⟩⟩ := hz.out
            (try simp only [Exit.inBlock, Exit.then])
            refine bodyPost_ret (v := .tuple #[.agg #[.string ⟨#[]⟩, .string ⟨#[]⟩, .string ⟨#[]⟩, .string ⟨#[]⟩, .int .i64 0, .bool false], _]) (by simp [results, Tryz.results22, go_sem, z0, z1, z2, z3, z4, z5]; rfl) rfl ?_
            rw [show o = .bad 7 from ho.out.symm.trans (by simp)]
            exact bad_end hbw.out (Nat.le_succ _) hr.out (by simpa using hfa.out) (by simpa using hlw)
          | true =>
            go_upto_region 9 with (fail)
            clear hq0 hq1 hq2 hq3 hq4 hq5 hf0 hf1 hf2 hf3 hf4 hf5
            have p1 := p2
            have r1 := r2
            have hx := hx2
            clear p2 r2 hx2
            generalize ((w4.setCell ⟨b, 4, none⟩ (.int .i64 d)).setCell ⟨b, 5, none⟩ (.bool true)) = w5 at *
            obtain ⟨⟨g0, k0⟩, ⟨g1, k1⟩, ⟨g2, k2⟩, ⟨g3, k3⟩, ⟨g4, k4⟩, ⟨g5, k5⟩⟩ := row14_zero r1.out
            have hz := row14 (row14_set r1.out ⟨s1, s2, s3, s4, d, true⟩)
            unfold strV at hz
            simp only at hz
            have hbw := Lib.hid p1.out.below
            replace hz := Lib.hid hz
            obtain ⟨hq0, hq1, hq2, hq3, hq4, hq5⟩ := row14 hx.out
            unfold strV at hq0 hq1 hq2 hq3
            go_wp2_with fail
            obtain ⟨⟨z0, -⟩, ⟨z1, -⟩, ⟨z2, -⟩, ⟨z3, -⟩, ⟨z4, -⟩, ⟨z5, -⟩⟩ := hz.out
            (try simp only [Exit.inBlock, Exit.then])
            refine bodyPost_ret (v := .tuple #[itV ⟨s1, s2, s3, s4, d, true⟩, .nilIface]) (by simp [results, Tryz.results22, go_sem, z0, z1, z2, z3, z4, z5]; rfl) rfl ?_
            rw [show o = .it ⟨s1, s2, s3, s4, d, true⟩ from ho.out.symm.trans (if_neg (by rintro (e | e); exact hs1 e; cases e))]
            exact it_end _ hbw.out (Nat.le_succ _)
end Go.Proofs.YtfmlgfeldlnlgaaGreatDoor
