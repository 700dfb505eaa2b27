/- Layer 8's law IndexPlays: an index and the reference side by side, and what each call of a step leaves of them. -/
import Derived.Test.YtgldlfgidmgmfaaD08y
namespace Go.Proofs.Ytgldlfgidmgmfaa
open Go.RowKit
variable {w0 w w' : World} {d X Y O m : Nat} {o : List Value} {L Lx Ly : List (Int × Int)} {v : Value}

theorem RefAt.mono {B B' : Nat} (h : RefAt w B Y d L v) (hB : B' ≤ B) : RefAt w B' Y d L v := ⟨h.cells, World.ownsRow.mono h.row hB, Nat.le_trans hB h.low, h.off⟩
/-- The two, apart. -/
def Pl0 (w0 : World) (d X Y m : Nat) (Lx Ly : List (Int × Int)) (w : World) : Prop :=
  ∃ fx v m', m' ≤ m ∧ IdxAt w X d Lx m' fx ∧ RefAt w w0.heap.size Y d Ly v ∧ (∀ b, fx b → w0.heap.size ≤ b) ∧ ¬ fx Y ∧ (∀ b, v.ownBlock = some b → ¬ fx b) ∧ Below w0.heap.size w0 w
/-- The two and a block of another's, apart. -/
def Pl (w0 : World) (d X Y O : Nat) (o : List Value) (m : Nat) (Lx Ly : List (Int × Int)) (w : World) : Prop :=
  ∃ fx v m', m' ≤ m ∧ IdxAt w X d Lx m' fx ∧ RefAt w w0.heap.size Y d Ly v ∧ (∀ b, fx b → w0.heap.size ≤ b) ∧ ¬ fx Y ∧ (∀ b, v.ownBlock = some b → ¬ fx b) ∧ Below w0.heap.size w0 w ∧ ArrAt w O 36 o ∧ ¬ fx O ∧ O ≠ Y ∧ v.ownBlock ≠ some O
theorem Pl0.next (h : Pl0 w0 d X Y m Lx Ly w) (hb : Below w.heap.size w w') : Pl0 w0 d X Y m Lx Ly w' := by
  obtain ⟨fx, v, m', h1, h2, h3, h4, h5, h6, h7⟩ := h
  exact ⟨fx, v, m', h1, h2.below hb, h3.below hb, h4, h5, h6, h7.trans (hb.mono h7.size)⟩
theorem Pl.next (h : Pl w0 d X Y O o m Lx Ly w) (hb : Below w.heap.size w w') : Pl w0 d X Y O o m Lx Ly w' := by
  obtain ⟨fx, v, m', h1, h2, h3, h4, h5, h6, h7, h8, h9⟩ := h
  exact ⟨fx, v, m', h1, h2.below hb, h3.below hb, h4, h5, h6, h7.trans (hb.mono h7.size), h8.next hb, h9⟩
theorem Pl.back (h : Pl w0 d X Y O o m Lx Ly w) : Pl0 w0 d X Y m Lx Ly w := by
  obtain ⟨fx, v, m', h1, h2, h3, h4, h5, h6, h7, _⟩ := h
  exact ⟨fx, v, m', h1, h2, h3, h4, h5, h6, h7⟩
theorem Pl.more {m2 : Nat} (h : Pl w0 d X Y O o m Lx Ly w) (hm : m ≤ m2) : Pl w0 d X Y O o m2 Lx Ly w := by
  obtain ⟨fx, v, m', h1, h2⟩ := h
  exact ⟨fx, v, m', Nat.le_trans h1 hm, h2⟩
theorem Pl.cells (h : Pl w0 d X Y O o m Lx Ly w) : ArrAt w O 36 o := by
  obtain ⟨_, _, _, _, _, _, _, _, _, _, h8, _⟩ := h
  exact h8
theorem Pl.below (h : Pl w0 d X Y O o m Lx Ly w) : Below w0.heap.size w0 w := by
  obtain ⟨_, _, _, _, _, _, _, _, _, h7, _⟩ := h
  exact h7
theorem Pl0.below (h : Pl0 w0 d X Y m Lx Ly w) : Below w0.heap.size w0 w := by
  obtain ⟨_, _, _, _, _, _, _, _, _, h7⟩ := h
  exact h7
/-- A new block joins. -/
theorem Pl0.with (h : Pl0 w0 d X Y m Lx Ly w) (hb : Below w.heap.size w w') (ho : ArrAt w' O 36 o) (hO : w.heap.size ≤ O) : Pl w0 d X Y O o m Lx Ly w' := by
  obtain ⟨fx, v, m', h1, h2, h3, h4, h5, h6, h7⟩ := h
  refine ⟨fx, v, m', h1, h2.below hb, h3.below hb, h4, h5, h6, h7.trans (hb.mono h7.size), ho, fun hf => ?_, fun e => ?_, fun e => ?_⟩
  · have := h2.lt hf; omega
  · have := h3.cells.lt; omega
  · have := (h3.row.lt _ e).2; omega
/-- The index has turned. -/
theorem Pl.xturn {fx fx' : Nat → Prop} {m' : Nat} {Lx' : List (Int × Int)} (_h1 : m' ≤ m) (_h2 : IdxAt w X d Lx m' fx) (h3 : RefAt w w0.heap.size Y d Ly v) (h4 : ∀ b, fx b → w0.heap.size ≤ b) (h5 : ¬ fx Y) (h6 : ∀ b, v.ownBlock = some b → ¬ fx b) (h7 : Below w0.heap.size w0 w)
    (h8 : ArrAt w O 36 o) (h9 : ¬ fx O) (h10 : O ≠ Y) (h11 : v.ownBlock ≠ some O) {m2 : Nat} (g1 : IdxAt w' X d Lx' m2 fx') (g2 : Turned fx w w') (g3 : ∀ b, fx' b → fx b ∨ w.heap.size ≤ b) (hm : m2 ≤ m) : Pl w0 d X Y O o m Lx' Ly w' := by
  have hB := h7.size
  refine ⟨fx', v, m2, hm, g1, h3.turned g2 fun b _ hf => ⟨fun e => h5 (e ▸ hf), fun e => h6 b e hf⟩, fun b hb => ?_, fun hf => ?_, fun b hb hf => ?_, h7.trans (g2.below (fun b _ hf => h4 b hf) hB), h8.turned g2 h9, fun hf => ?_, h10, h11⟩
  · rcases g3 b hb with e | e
    · exact h4 b e
    · omega
  · rcases g3 Y hf with e | e
    · exact h5 e
    · have := h3.cells.lt; omega
  · rcases g3 b hf with e | e
    · exact h6 b hb e
    · have := (h3.row.lt b hb).2; omega
  · rcases g3 O hf with e | e
    · exact h9 e
    · have := h8.lt; omega
/-- The reference has turned. -/
theorem Pl.yturn {v' : Value} {Ly' : List (Int × Int)} {fx : Nat → Prop} {m' : Nat} (h1 : m' ≤ m) (h2 : IdxAt w X d Lx m' fx) (h3 : RefAt w w0.heap.size Y d Ly v) (h4 : ∀ b, fx b → w0.heap.size ≤ b) (h5 : ¬ fx Y) (h7 : Below w0.heap.size w0 w)
    (h8 : ArrAt w O 36 o) (h9 : ¬ fx O) (h10 : O ≠ Y) (g1 : RefAt w' w0.heap.size Y d Ly' v') (g2 : Turned (fun b => b = Y) w w') (g3 : ∀ b, v'.ownBlock = some b → w.heap.size ≤ b) : Pl w0 d X Y O o m Lx Ly' w' := by
  refine ⟨fx, v', m', h1, h2.turned g2 fun b hb e => h5 (e ▸ hb), g1, h4, h5, fun b hb hf => ?_, h7.trans (g2.below (fun b _ e => e ▸ h3.low) h7.size), h8.turned g2 h10, h9, h10, fun e => ?_⟩
  · have := g3 b hb; have := h2.lt hf; omega
  · have := g3 O e; have := h8.lt; omega

theorem pl_add (hL : Nums L) (hl : L.length < 30000) {id s : Int} (hid : (Lit.int .i64 id).wf = true) (hs : (Lit.int .u64 s).wf = true) : ∃ (b : Bool) (L' : List (Int × Int)), Nums L' ∧ L'.length ≤ L.length + 1 ∧
    (∀ O w m Ly, Hid (Pl w0 d X Y O o m L Ly w) → m < 30000 → Calls Try.prog 11 #[.pointer (some ⟨X, 0, none⟩), .int .i64 id, .int .u64 s] w fun e w' => e = .returned (.bool b) ∧ Hid (Pl w0 d X Y O o (m + 1) L' Ly w')) ∧
    (∀ O w m Lx, Hid (Pl w0 d X Y O o m Lx L w) → Calls Try.prog 12 #[.pointer (some ⟨Y, 0, none⟩), .int .i64 id, .int .u64 s] w fun e w' => e = .returned (.bool b) ∧ Hid (Pl w0 d X Y O o m Lx L' w')) := by
  by_cases hn : ∃ t, (id, t) ∈ L
  · refine ⟨false, L, hL, by omega, fun O w m Ly h hm => ?_, fun O w m Lx h => ?_⟩
    · obtain ⟨fx, v, m', h1, h2, h3⟩ := h.out
      refine (add_any X d L m' fx id s w h2 hid hs (by omega)).mono ?_
      rintro e w' (⟨_, rfl, rfl⟩ | ⟨hno, _⟩)
      · exact ⟨rfl, Lib.hid (h.out.more (Nat.le_succ m))⟩
      · exact absurd hn hno
    · obtain ⟨fx, v, m', h1, h2, h3, _⟩ := h.out
      obtain ⟨t, ht⟩ := hn
      refine (refadd_no h3 hL (by omega) ht).mono ?_
      rintro e w' ⟨rfl, rfl⟩
      exact ⟨rfl, h⟩
  · refine ⟨true, addL L id s, hL.add hn ⟨bd_i64 hid, bd_u64 hs⟩, by rw [len_addL]; exact Nat.le_refl _, fun O w m Ly h hm => ?_, fun O w m Lx h => ?_⟩
    · obtain ⟨fx, v, m', h1, h2, h3, h4, h5, h6, h7, h8, h9, h10, h11⟩ := h.out
      refine (add_any X d L m' fx id s w h2 hid hs (by omega)).mono ?_
      rintro e w' (⟨hex, _⟩ | ⟨_, rfl, fp', g1, g2, g3⟩)
      · exact absurd hex hn
      · exact ⟨rfl, Lib.hid (Pl.xturn (m := m + 1) (by omega) h2 h3 h4 h5 h6 h7 h8 h9 h10 h11 g1 g2 g3 (by omega))⟩
    · obtain ⟨fx, v, m', h1, h2, h3, h4, h5, h6, h7, h8, h9, h10, h11⟩ := h.out
      refine (refadd_yes h3 hL (by omega) hn).mono ?_
      rintro e w' ⟨v', rfl, g1, g2, g3⟩
      exact ⟨rfl, Lib.hid (Pl.yturn h1 h2 h3 h4 h5 h7 h8 h9 h10 g1 g2 g3)⟩
theorem pl_drop (hL : Nums L) (hl : L.length < 30000) {id : Int} (hid : (Lit.int .i64 id).wf = true) : ∃ (b : Bool) (L' : List (Int × Int)), Nums L' ∧ L'.length ≤ L.length + 1 ∧
    (∀ O w m Ly, Hid (Pl w0 d X Y O o m L Ly w) → m < 30000 → Calls Try.prog 13 #[.pointer (some ⟨X, 0, none⟩), .int .i64 id] w fun e w' => e = .returned (.bool b) ∧ Hid (Pl w0 d X Y O o (m + 1) L' Ly w')) ∧
    (∀ O w m Lx, Hid (Pl w0 d X Y O o m Lx L w) → Calls Try.prog 14 #[.pointer (some ⟨Y, 0, none⟩), .int .i64 id] w fun e w' => e = .returned (.bool b) ∧ Hid (Pl w0 d X Y O o m Lx L' w')) := by
  by_cases hn : ∃ t, (id, t) ∈ L
  · obtain ⟨t, ht⟩ := hn
    refine ⟨true, dropL L id, (drop_facts hL ht).2.1, by have := len_dropL (drop_facts hL ht).1; omega, fun O w m Ly h hm => ?_, fun O w m Lx h => ?_⟩
    · obtain ⟨fx, v, m', h1, h2, h3, h4, h5, h6, h7, h8, h9, h10, h11⟩ := h.out
      refine (idrop_any X d L m' fx id w h2 hid (by omega)).mono ?_
      rintro e w' (⟨hno, _⟩ | ⟨_, rfl, fp', g1, g2, g3⟩)
      · exact absurd ⟨t, ht⟩ hno
      · exact ⟨rfl, Lib.hid (Pl.xturn (m := m + 1) (by omega) h2 h3 h4 h5 h6 h7 h8 h9 h10 h11 g1 g2 g3 (by omega))⟩
    · obtain ⟨fx, v, m', h1, h2, h3, h4, h5, h6, h7, h8, h9, h10, h11⟩ := h.out
      refine (refdrop_yes h3 hL (by omega) ht).mono ?_
      rintro e w' ⟨v', rfl, g1, g2, g3⟩
      exact ⟨rfl, Lib.hid (Pl.yturn h1 h2 h3 h4 h5 h7 h8 h9 h10 g1 g2 g3)⟩
  · refine ⟨false, L, hL, by omega, fun O w m Ly h hm => ?_, fun O w m Lx h => ?_⟩
    · obtain ⟨fx, v, m', h1, h2, h3⟩ := h.out
      refine (idrop_any X d L m' fx id w h2 hid (by omega)).mono ?_
      rintro e w' (⟨_, rfl, rfl⟩ | ⟨hex, _⟩)
      · exact ⟨rfl, Lib.hid (h.out.more (Nat.le_succ m))⟩
      · exact absurd hex hn
    · obtain ⟨fx, v, m', h1, h2, h3, _⟩ := h.out
      refine (refdrop_no h3 hL (by omega) hn).mono ?_
      rintro e w' ⟨rfl, rfl⟩
      exact ⟨rfl, h⟩
theorem pl_get (hL : Nums L) (hl : L.length < 30000) {id : Int} (hid : (Lit.int .i64 id).wf = true) : ∃ (sg : Int) (b : Bool),
    (∀ w m Ly, Hid (Pl w0 d X Y O o m L Ly w) → Calls Try.prog 15 #[.pointer (some ⟨X, 0, none⟩), .int .i64 id] w fun e w' => e = .returned (.tuple #[.int .u64 sg, .bool b]) ∧ w = w') ∧
    (∀ w m Lx, Hid (Pl w0 d X Y O o m Lx L w) → Calls Try.prog 16 #[.pointer (some ⟨Y, 0, none⟩), .int .i64 id] w fun e w' => e = .returned (.tuple #[.int .u64 sg, .bool b]) ∧ w = w') := by
  by_cases hn : ∃ t, (id, t) ∈ L
  · obtain ⟨t, ht⟩ := hn
    refine ⟨t, true, fun w m Ly h => ?_, fun w m Lx h => ?_⟩
    · obtain ⟨fx, v, m', h1, h2, h3⟩ := h.out
      refine (get_any X d L m' fx id w h2 hid).mono ?_
      rintro e w' ⟨rfl, ⟨t', ht', rfl⟩ | ⟨hno, _⟩⟩
      · rw [fst_inj hL ht' ht]; exact ⟨rfl, rfl⟩
      · exact absurd ⟨t, ht⟩ hno
    · obtain ⟨fx, v, m', h1, h2, h3, _⟩ := h.out
      exact refget_yes h3 hL (by omega) ht
  · refine ⟨0, false, fun w m Ly h => ?_, fun w m Lx h => ?_⟩
    · obtain ⟨fx, v, m', h1, h2, h3⟩ := h.out
      refine (get_any X d L m' fx id w h2 hid).mono ?_
      rintro e w' ⟨rfl, ⟨t', ht', _⟩ | ⟨_, rfl⟩⟩
      · exact absurd ⟨t', ht'⟩ hn
      · exact ⟨rfl, rfl⟩
    · obtain ⟨fx, v, m', h1, h2, h3, _⟩ := h.out
      exact refget_no h3 hL (by omega) hn
theorem pl_xlen (h : Hid (Pl w0 d X Y O o m L L w)) : Calls Try.prog 17 #[.pointer (some ⟨X, 0, none⟩)] w fun e w' => e = .returned (.int .i64 (L.length : Nat)) ∧ Hid (Pl w0 d X Y O o m L L w') := by
  obtain ⟨fx, v, m', h1, h2, h3⟩ := h.out
  refine (len_any X d L m' fx w h2).mono ?_
  rintro e w' ⟨rfl, rfl⟩
  exact ⟨rfl, h⟩
theorem pl_ylen (h : Hid (Pl w0 d X Y O o m L L w)) : Calls Try.prog 18 #[.pointer (some ⟨Y, 0, none⟩)] w fun e w' => e = .returned (.int .i64 (L.length : Nat)) ∧ Hid (Pl w0 d X Y O o m L L w') := by
  obtain ⟨fx, v, m', h1, h2, h3, _⟩ := h.out
  refine (reflen_any h3).mono ?_
  rintro e w' ⟨rfl, rfl⟩
  exact ⟨rfl, h⟩
/-- The two, and one list; and two. -/
def PlOne (w0 : World) (d X Y O : Nat) (o : List Value) (m : Nat) (L : List (Int × Int)) (va : Value) (zs : List Int) (w : World) : Prop := Pl w0 d X Y O o m L L w ∧ RdSl .i64 w va zs
def PlTwo (w0 : World) (d X Y O : Nat) (o : List Value) (m : Nat) (L : List (Int × Int)) (va vb : Value) (zs : List Int) (w : World) : Prop := Pl w0 d X Y O o m L L w ∧ RdSl .i64 w va zs ∧ RdSl .i64 w vb zs
def OnePost (w0 : World) (d X Y O : Nat) (o : List Value) (m : Nat) (L : List (Int × Int)) (zs : List Int) (e : Ending) (w' : World) : Prop := ∃ va, e = .returned va ∧ Hid (PlOne w0 d X Y O o m L va zs w')
def TwoPost (w0 : World) (d X Y O : Nat) (o : List Value) (m : Nat) (L : List (Int × Int)) (va : Value) (zs : List Int) (e : Ending) (w' : World) : Prop := ∃ vb, e = .returned vb ∧ Hid (PlTwo w0 d X Y O o m L va vb zs w')
variable {s : Int} {va vb : Value} {zs : List Int}
theorem pl_xnear (hm : m < 30000) (hs : (Lit.int .u64 s).wf = true) (h : Hid (Pl w0 d X Y O o m L L w)) : Calls Try.prog 20 #[.pointer (some ⟨X, 0, none⟩), .int .u64 s] w (OnePost w0 d X Y O o m L (nearL L s d)) := by
  obtain ⟨fx, v, m', h1, h2, h3⟩ := h.out
  refine (near_any X d L m' fx s w h2 hs (by omega)).mono ?_
  rintro e w' ⟨va, rfl, g1, g2⟩
  exact ⟨va, rfl, h.out.next g2, g1.rd⟩
theorem pl_xshare (hm : m < 30000) (hs : (Lit.int .u64 s).wf = true) (h : Hid (Pl w0 d X Y O o m L L w)) : Calls Try.prog 22 #[.pointer (some ⟨X, 0, none⟩), .int .u64 s] w (OnePost w0 d X Y O o m L (shareL L s d)) := by
  obtain ⟨fx, v, m', h1, h2, h3⟩ := h.out
  refine (sharing_any X d L m' fx s w h2 hs (by omega)).mono ?_
  rintro e w' ⟨va, rfl, g1, g2⟩
  exact ⟨va, rfl, h.out.next g2, g1.rd⟩
theorem pl_ynear (hL : Nums L) (hl : L.length < 30000) (hs : (Lit.int .u64 s).wf = true) (h : Hid (PlOne w0 d X Y O o m L va (nearL L s d) w)) : Calls Try.prog 21 #[.pointer (some ⟨Y, 0, none⟩), .int .u64 s] w (TwoPost w0 d X Y O o m L va (nearL L s d)) := by
  obtain ⟨fx, v, m', h1, h2, h3, _⟩ := h.out.1
  refine (refnear08_any h3 hL (by omega) hs).mono ?_
  rintro e w' ⟨vb, rfl, g1, g2⟩
  exact ⟨vb, rfl, h.out.1.next g2, h.out.2.next g2, g1.rd⟩
theorem pl_yshare (hL : Nums L) (hl : L.length < 30000) (hs : (Lit.int .u64 s).wf = true) (h : Hid (PlOne w0 d X Y O o m L va (shareL L s d) w)) : Calls Try.prog 23 #[.pointer (some ⟨Y, 0, none⟩), .int .u64 s] w (TwoPost w0 d X Y O o m L va (shareL L s d)) := by
  obtain ⟨fx, v, m', h1, h2, h3, _⟩ := h.out.1
  refine (refsharing_any h3 hL (by omega) hs).mono ?_
  rintro e w' ⟨vb, rfl, g1, g2⟩
  exact ⟨vb, rfl, h.out.1.next g2, h.out.2.next g2, g1.rd⟩
theorem pl_same (hz : zs.length ≤ 1000000) (h : Hid (PlTwo w0 d X Y O o m L va vb zs w)) : Calls Try.prog 19 #[va, vb] w fun e w' => e = .returned (.bool true) ∧ Hid (Pl w0 d X Y O o m L L w') := by
  refine (same8_any zs va vb w h.out.2.1.sl h.out.2.2.sl hz).mono ?_
  rintro e w' ⟨rfl, hd⟩
  exact ⟨rfl, h.out.1.next (hd.below _)⟩
theorem pl_same_near (hl : L.length ≤ 1000000) (h : Hid (PlTwo w0 d X Y O o m L va vb (nearL L s d) w)) : Calls Try.prog 19 #[va, vb] w fun e w' => e = .returned (.bool true) ∧ Hid (Pl w0 d X Y O o m L L w') :=
  pl_same (Nat.le_trans (near_len _ _ _) hl) h
theorem pl_same_share (hl : L.length ≤ 1000000) (h : Hid (PlTwo w0 d X Y O o m L va vb (shareL L s d) w)) : Calls Try.prog 19 #[va, vb] w fun e w' => e = .returned (.bool true) ∧ Hid (Pl w0 d X Y O o m L L w') :=
  pl_same (Nat.le_trans (shareL_len _ _ _) hl) h
end Go.Proofs.Ytgldlfgidmgmfaa
