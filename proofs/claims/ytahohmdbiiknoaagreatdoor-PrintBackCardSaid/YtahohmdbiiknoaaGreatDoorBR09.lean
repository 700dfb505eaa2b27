/- Layer 12: what stands within a node, and its text: the reference's. -/
import Derived.Test.YtahohmdbiiknoaaGreatDoorBR08
import Derived.Test.YtahohmdbiiknoaaGreatDoorBR05
import Derived.Test.YtahohmdbiiknoaaGreatDoorBR07
import Derived.Test.YtahohmdbiiknoaaGreatDoorBR01
import Derived.Laws.OwnMore
import Derived.Deep.Cut
import Derived.Test.YtahohmdbiiknoaaGreatDoorBR02
namespace Go.Proofs.YtahohmdbiiknoaaGreatDoor
open Go.RowKit

theorem winF_no {l : List Nd} {i x : Int} (h : placeB l x = false) (F : Nat) : winF l i F x = false := win_no (by rw [h]; decide) F
theorem winF_here {l : List Nd} {x : Int} (F : Nat) (h : placeB l x = true) : winF l x (F + 1) x = true := by rw [winF, h]; simp
theorem winF_next {l : List Nd} {i x : Int} (F : Nat) (h : placeB l x = true) (hne : x ≠ i) : winF l i (F + 1) x = winF l i F (upN l x) := by
  rw [winF, h, Bool.true_and, show (x == i) = false by rw [beq_eq_false_iff_ne]; exact hne, Bool.false_or]

set_option maxHeartbeats 1000000 in
theorem refwithin12_any (P : List (Nd × Value)) (v : Value) (x0 i : Int) (w : World) (h : NdSl w v P) (hn : P.length ≤ 1000000) :
    Calls Tryz.prog 88 #[v, .int .i64 x0, .int .i64 i] w fun e w' => e = .returned (.bool (winB (nodes P) i x0)) ∧ w = w' := by
  obtain ⟨va, vc, rfl⟩ := h.form
  have hp := fun (x : Int) (W : World) => refis12_any va P.length vc x W
  simp only [← place_nodes] at hp
  obtain ⟨o, ho⟩ : ∃ o, winB (nodes P) i x0 = o := ⟨_, rfl⟩
  rw [ho]
  have hnl := nodes_len P
  have hst : o = winF (nodes P) i (P.length + 1 - 0) x0 := by rw [← ho]; unfold winB; rw [hnl]; rfl
  clear ho
  replace hp := Lib.hid hp
  replace h := Lib.hid h
  replace hnl := Lib.hid hnl
  go_enter Tryz.func88, Tryz.ntmps88
  go_wp2_with fail
  go_loopw [1, 7] (fun xx ii wr => ∃ (x : Int) (k : Nat), xx = .int .i64 x ∧ ii = .int .i64 k ∧ k ≤ P.length + 1 ∧ Hid (o = winF (nodes P) i (P.length + 1 - k) x) ∧ wr = w) (fun _ ii _ => P.length + 1 - (intOf ii).toNat)
  case atStart => exact ⟨x0, 0, rfl, rfl, Nat.zero_le _, hst, rfl⟩
  case round =>
    clear hst
    obtain ⟨x, k, rfl, rfl, hk, ho, rfl⟩ := hrel
    by_cases hle : k ≤ P.length
    · have hle1 : (k : Int) ≤ P.length := by omega
      have hpx := hp.out x
      have ho2 := ho.out
      rw [show P.length + 1 - k = P.length - k + 1 by omega] at ho2
      cases hpl : placeB (nodes P) x
      · rw [hpl] at hpx
        rw [winF_no hpl] at ho2
        replace hpx := Lib.hid hpx
        replace ho2 := Lib.hid ho2
        replace hpl := Lib.hid hpl
        go_wp2_with fail
        refine (hpx.out _).mono ?_; rintro e w1 ⟨rfl, rfl⟩
        go_wp2_with fail
        go_ret
        exact ⟨ret_bool ho2.out.symm, rfl⟩
      · rw [hpl] at hpx
        have hpl2 := place_iff.1 hpl
        rw [hnl.out] at hpl2
        obtain ⟨q, rfl⟩ : ∃ q : Nat, x = q := ⟨x.toNat, by omega⟩
        have hq : q < P.length := by omega
        obtain ⟨b, off, cap, hcap, hbl, hve, hcl⟩ := h.out.some (by omega)
        injection hve with hve1 hve2 hve3
        clear hve2
        subst hve1 hve3
        obtain ⟨d0, d1, d2, d3⟩ := hcl q hq
        rw [nodes_at hq] at d3
        clear d0 d1 d2 hcl hpl2
        replace hpx := Lib.hid hpx
        by_cases hqi : (q : Int) = i
        · subst hqi
          rw [winF_here _ hpl] at ho2
          have hqq : ((q : Int) == (q : Int)) = true := by simp
          replace ho2 := Lib.hid ho2
          replace hpl := Lib.hid hpl
          go_wp2_with fail
          refine (hpx.out _).mono ?_; rintro e w1 ⟨rfl, rfl⟩
          go_wp2_with fail
          go_ret
          exact ⟨ret_bool ho2.out.symm, rfl⟩
        · rw [winF_next _ hpl hqi] at ho2
          have hqq : ((q : Int) == i) = false := by rw [beq_eq_false_iff_ne]; exact hqi
          replace hqi := Lib.hid hqi
          replace hpl := Lib.hid hpl
          unfold upN at ho2
          generalize (atN (nodes P) (q : Int)).up = xu at d3 ho2
          replace ho2 := Lib.hid ho2
          go_wp2_with fail
          refine (hpx.out _).mono ?_; rintro e w1 ⟨rfl, rfl⟩
          go_wp2_with fail
          exact ⟨⟨xu, k + 1, rfl, by go_num, by omega, Lib.hid (by rw [show P.length + 1 - (k + 1) = P.length - k by omega]; exact ho2.out), trivial⟩, by simp [intOf]; omega⟩
    · have hle1 : ¬ ((k : Int) ≤ P.length) := by omega
      have ho2 := ho.out
      rw [show P.length + 1 - k = 0 by omega] at ho2
      replace ho2 := Lib.hid ho2
      go_wp2_with fail
      go_ret
      exact ⟨ret_bool ho2.out.symm, rfl⟩

theorem text_le (l : List Nd) (k : Nat) : (atN l (k : Int)).text.length ≤ sumT l := by
  unfold atN
  rw [Int.toNat_natCast]
  by_cases h : k < l.length
  · have h1 := sum_getD l (k + 1) (by omega)
    rw [List.range_succ, List.map_append, List.sum_append] at h1
    have h2 : sumT l = ((l.take (k + 1)).map fun x => x.text.length).sum + ((l.drop (k + 1)).map fun x => x.text.length).sum := by
      unfold sumT
      rw [← List.sum_append, ← List.map_append, List.take_append_drop]
    simp only [List.map_cons, List.map_nil, List.sum_cons, List.sum_nil] at h1
    omega
  · simp [List.getD, List.getElem?_eq_none (show l.length ≤ k by omega), nd0]
theorem bitB_no {l : List Nd} {i : Int} {j : Nat} (h : ¬ ((atN l (j : Int)).name = [] ∧ winB l i (j : Int) = true)) : bitB l i j = [] := by unfold bitB; rw [if_neg h]
theorem bitB_yes {l : List Nd} {i : Int} {j : Nat} (h1 : (atN l (j : Int)).name = []) (h2 : winB l i (j : Int) = true) : bitB l i j = (atN l (j : Int)).text := by unfold bitB; rw [if_pos ⟨h1, h2⟩]
/-- A text, as an answer. -/
def StrPost (s : List UInt8) (w : World) (e : Ending) (w' : World) : Prop := e = .returned (.string ⟨s.toArray⟩) ∧ Below w.heap.size w w'
theorem StrPost.mk {s t : List UInt8} {w w' : World} (h : s = t) (hb : Below w.heap.size w w') : StrPost s w (.returned (.string ⟨t.toArray⟩)) w' := by subst h; exact ⟨rfl, hb⟩

set_option maxHeartbeats 2000000 in
theorem reftext12_any (P : List (Nd × Value)) (v : Value) (i : Int) (w : World) (h : NdSl w v P) (hn : P.length ≤ 1000000) (hT : sumT (nodes P) ≤ 1000000000) :
    Calls Tryz.prog 71 #[v, .int .i64 i] w (StrPost (textB (nodes P) i) w) := by
  have hplb := place_nodes (P := P) (i := i)
  by_cases h0 : P = []
  · have hk : textB (nodes P) i = [] := by
      have : placeB (nodes P) i = false := by subst h0; rw [hplb, Bool.and_eq_false_iff]; simp; omega
      unfold textB; rw [if_neg (by rw [this]; decide)]
    obtain ⟨a, c, rfl⟩ := h.form
    clear h hplb hT
    subst h0
    go_enter Tryz.func71, Tryz.ntmps71
    go_wp2_with fail
    refine wp_loop_rounds 1 ?_; rw [rounds_succ]
    go_wp2_with fail
    go_ret
    exact StrPost.mk (t := []) hk (Below.refl _ _)
  have hpos : 0 < P.length := List.length_pos_iff.2 h0
  have hwin := fun (x : Int) => refwithin12_any P v x i w h hn
  obtain ⟨b, off, cap, hcap, hbl, rfl, hcl⟩ := h.some hpos
  have hp := fun W : World => refis12_any (some ⟨b, off, none⟩) P.length cap i W
  rw [← hplb] at hp
  clear h h0
  cases hpl : placeB (nodes P) i
  · have hk : textB (nodes P) i = [] := by unfold textB; rw [if_neg (by rw [hpl]; decide)]
    rw [hpl] at hp
    have hpos1 : (0 : Int) < P.length := by omega
    clear hplb hpl hcl hwin hT
    replace hp := Lib.hid hp
    go_enter Tryz.func71, Tryz.ntmps71
    go_wp2_with fail
    refine wp_loop_rounds 1 ?_; rw [rounds_succ]
    go_wp2_with fail
    refine (hp.out _).mono ?_; rintro e w1 ⟨rfl, rfl⟩
    go_wp2_with fail
    go_ret
    exact StrPost.mk (t := []) hk (Below.refl _ _)
  have hk : textB (nodes P) i = textTo (nodes P) i P.length := by unfold textB; rw [if_pos hpl, nodes_len]
  rw [hpl] at hp
  have htl := fun k => textTo_len (nodes P) i k
  have hxl := fun k => text_le (nodes P) k
  rw [nodes_len] at htl
  generalize sumT (nodes P) = S at hT htl hxl
  clear hplb hpl
  replace hp := Lib.hid hp
  replace hk := Lib.hid hk
  replace hcl := Lib.hid hcl
  replace hwin := Lib.hid hwin
  replace htl := Lib.hid htl
  replace hxl := Lib.hid hxl
  replace hpos := Lib.hid hpos
  go_enter Tryz.func71, Tryz.ntmps71
  go_wp2_with fail
  go_loopw [5, 6] (fun u ii wr => ∃ (k : Nat) (T : List UInt8), ii = .int .i64 k ∧ u = .string ⟨T.toArray⟩ ∧ k ≤ P.length ∧ T.length ≤ S ∧ Hid (T = textTo (nodes P) i k) ∧ wr = w) (fun _ ii _ => P.length - (intOf ii).toNat)
  case atStart => exact ⟨0, [], rfl, rfl, Nat.zero_le _, Nat.zero_le _, rfl, rfl⟩
  case round =>
    obtain ⟨k, T, rfl, rfl, hkl, hTl, hTe, rfl⟩ := hrel
    by_cases hlt : k < P.length
    · obtain ⟨d0, d1, d2, d3⟩ := hcl.out k hlt
      rw [nodes_at hlt] at d0 d2
      clear d1 d3
      have hnx := textTo_next (nodes P) i k
      rw [← hTe.out] at hnx
      have hw := hwin.out (k : Int)
      have hlt1 : (k : Int) < P.length := by omega
      have hno := bitB_no (l := nodes P) (i := i) (j := k)
      have hyes := bitB_yes (l := nodes P) (i := i) (j := k)
      have hx1 := hxl.out k
      have htl2 := htl.out (k + 1) (by omega)
      generalize atN (nodes P) (k : Int) = x at d0 d2 hno hyes hx1
      obtain ⟨xn, xa, xt, xu⟩ := x
      unfold strV at d0 d2
      simp only at d0 d2 hno hyes hx1
      cases hem : xn.isEmpty
      · have hne : ¬ xn = [] := by simpa using hem
        rw [hno (fun e => hne e.1), List.append_nil] at hnx
        clear hno hyes
        replace hne := Lib.hid hne
        replace hnx := Lib.hid hnx
        replace hw := Lib.hid hw
        go_wp2_with fail
        refine (hp.out _).mono ?_; rintro e w1 ⟨rfl, rfl⟩
        go_wp2_with fail
        exact ⟨⟨k + 1, T, by go_num, rfl, by omega, hTl, Lib.hid hnx.out.symm, trivial⟩, by simp [intOf]; omega⟩
      · have hne : xn = [] := by simpa using hem
        cases hwk : winB (nodes P) i (k : Int)
        · rw [hwk] at hw
          rw [hno (fun e => by rw [hwk] at e; cases e.2), List.append_nil] at hnx
          clear hno hyes
          replace hne := Lib.hid hne
          replace hnx := Lib.hid hnx
          replace hw := Lib.hid hw
          replace hwk := Lib.hid hwk
          go_wp2_with fail
          refine (hp.out _).mono ?_; rintro e w1 ⟨rfl, rfl⟩
          go_wp2_with fail
          refine hw.out.mono ?_; rintro e w1 ⟨rfl, rfl⟩
          go_wp2_with fail
          exact ⟨⟨k + 1, T, by go_num, rfl, by omega, hTl, Lib.hid hnx.out.symm, trivial⟩, by simp [intOf]; omega⟩
        · rw [hwk] at hw
          rw [hyes hne hwk] at hnx
          rw [hnx] at htl2
          clear hno hyes
          replace hne := Lib.hid hne
          replace hnx := Lib.hid hnx
          replace hw := Lib.hid hw
          replace hwk := Lib.hid hwk
          rw [List.length_append] at htl2
          have htl3 := Lib.hid (show (T ++ xt).length ≤ S by rw [List.length_append]; exact htl2)
          go_wp2_with fail
          refine (hp.out _).mono ?_; rintro e w1 ⟨rfl, rfl⟩
          go_wp2_with fail
          refine hw.out.mono ?_; rintro e w1 ⟨rfl, rfl⟩
          go_wp2_with fail
          all_goals try (exfalso; omega)
          exact ⟨⟨k + 1, T ++ xt, by go_num, rfl, by omega, htl3.out, Lib.hid hnx.out.symm, trivial⟩, by simp [intOf]; omega⟩
    · have hke : ¬ ((k : Int) < P.length) := by omega
      have hkk := Lib.hid (show k = P.length by omega)
      go_wp2_with fail
      go_ret
      exact StrPost.mk (hk.out.trans (by rw [hTe.out, hkk.out])) (Below.refl _ _)
end Go.Proofs.YtahohmdbiiknoaaGreatDoor

/- make([]T, n) where T is one cell: a row of its own (ArrAt), cell by cell written, in the end a slice that the call itself made. -/
namespace Go.Proofs.YtahohmdbiiknoaaGreatDoor
open Go.RowKit

theorem run_make_row {P : Program} (t e : TypeId) (z : Value) (bytes : Nat) (ht : P.underlying t = some (.slice e)) (hi : (P.info? e).map (fun i => (i.zero, i.size, i.bytes)) = some (some z, 1, bytes)) (hz : z.cells = #[z])
    (x : Int) (n : Nat) (hx : x = n) (hb : (bytes : Int) * x ≤ 281474976710656) (hn : x ≤ 9223372036854775807) (w : World) :
    (Instr.makeSlice t (.int .i64 x) (.int .i64 x)).run P w = .ok (.slice (some ⟨w.heap.size, 0, none⟩) n n) (w.alloc (.cells (List.replicate n z).toArray e)) := by
  obtain ⟨i0, hi, hz0, hz1, hz2⟩ := info_parts hi
  subst hx
  have hr := run_make (P := P) w t e i0 z ht hi hz0 .i64 .i64 n n (by omega) (by omega) (by rw [hz2]; exact hb) hn
  rw [hz, hz1, Int.toNat_natCast, Nat.mul_one] at hr
  rw [hr, ← toList_madeCells_one, Array.toArray_toList]
/-- A row as a slice that the call itself made. -/
theorem ArrAt.own {w : World} {g B n : Nat} {t : TypeId} {c : List Value} (h : ArrAt w g t c) (hn : n = c.length) (hb : B ≤ g) (hm : n ≤ maxLen) : w.ownsRow B t 1 (.slice (some ⟨g, 0, none⟩) n n) n c :=
  ⟨by simpa using hn.symm, Or.inr ⟨g, n, c.toArray, rfl, hb, h, Nat.le_refl _, hm, by simp [hn], by simp [hn]⟩⟩
end Go.Proofs.YtahohmdbiiknoaaGreatDoor

/- Layer 12: what stands within a node, found with each node gone through once. -/
namespace Go.Proofs.YtahohmdbiiknoaaGreatDoor
open Go.RowKit

theorem info_bool : (Tryz.prog.info? 4).map (fun i => (i.zero, i.size, i.bytes)) = some (some (.bool false), 1, 1) := by kernel_rfl
/-- The two rows of within in memory: what stands within, what is known. -/
structure Wm (w : World) (K I : List Bool) (wr : World) : Prop where
  ri : ArrAt wr w.heap.size 4 (I.map Value.bool)
  rk : ArrAt wr (w.heap.size + 1) 4 (K.map Value.bool)
  below : Below w.heap.size w wr
section
variable {w wr : World} {K I : List Bool}
theorem Wm.start (w : World) (n : Nat) : Wm w (List.replicate n false) (List.replicate n false) ((w.alloc (.cells (List.replicate n (Value.bool false)).toArray 4)).alloc (.cells (List.replicate n (Value.bool false)).toArray 4)) := by
  have h1 := arrAt_new w 4 (List.replicate n (Value.bool false))
  have h2 := arrAt_new (w.alloc (.cells (List.replicate n (Value.bool false)).toArray 4)) 4 (List.replicate n (Value.bool false))
  have hs : (w.alloc (.cells (List.replicate n (Value.bool false)).toArray 4)).heap.size = w.heap.size + 1 := by simp
  rw [hs] at h2
  have hb1 : Below w.heap.size w (w.alloc (.cells (List.replicate n (Value.bool false)).toArray 4)) := (Below.refl _ _).alloc (Nat.le_refl _) _
  refine ⟨?_, ?_, hb1.alloc (by omega) _⟩
  · rw [List.map_replicate]
    exact h1.next ((Below.refl _ _).alloc (Nat.le_refl _) _)
  · rw [List.map_replicate]
    exact h2
theorem Wm.setI (h : Wm w K I wr) (j : Nat) : Wm w K (I.set j true) (wr.setCell ⟨w.heap.size, j, none⟩ (.bool true)) :=
  ⟨by rw [List.map_set]; exact h.ri.set j _, h.rk.far j _ (by omega), h.below.setCell (p := ⟨w.heap.size, j, none⟩) (Nat.le_refl _) _⟩
theorem Wm.setK (h : Wm w K I wr) (j : Nat) : Wm w (K.set j true) I (wr.setCell ⟨w.heap.size + 1, j, none⟩ (.bool true)) :=
  ⟨h.ri.far j _ (by omega), by rw [List.map_set]; exact h.rk.set j _, h.below.setCell (p := ⟨w.heap.size + 1, j, none⟩) (by show w.heap.size ≤ w.heap.size + 1; omega) _⟩
theorem Wm.cellI (h : Wm w K I wr) {j : Nat} (hj : j < I.length) : wr.cell? ⟨w.heap.size, j, none⟩ = some (.bool (I.getD j false)) ∧ wr.frozen? ⟨w.heap.size, j, none⟩ = false :=
  ⟨by rw [h.ri.cell]; simp [List.getD, hj], h.ri.soft j⟩
theorem Wm.cellK (h : Wm w K I wr) {j : Nat} (hj : j < K.length) : wr.cell? ⟨w.heap.size + 1, j, none⟩ = some (.bool (K.getD j false)) ∧ wr.frozen? ⟨w.heap.size + 1, j, none⟩ = false :=
  ⟨by rw [h.rk.cell]; simp [List.getD, hj], h.rk.soft j⟩
end
/-- How many cells of a row are false yet. -/
def isF : Value → Bool
  | .bool false => true
  | _ => false
def falses (w : World) (g : Nat) : Nat :=
  match w.heap[g]? with
  | some (.cells c _ _) => c.toList.countP isF
  | _ => 0
theorem falses_at {w : World} {g : Nat} {t : TypeId} {c : List Value} (h : ArrAt w g t c) : falses w g = c.countP isF := by
  unfold ArrAt at h
  unfold falses
  rw [h]
theorem count_set : ∀ (K : List Bool) (j : Nat), j < K.length → K.getD j false = false → ((K.set j true).map Value.bool).countP isF < (K.map Value.bool).countP isF
  | [], j, h, _ => by simp at h
  | b :: t, 0, _, h => by
    obtain rfl : b = false := h
    simp [List.countP_cons, isF]
  | b :: t, j + 1, h, h2 => by
    have := count_set t j (by simpa using h) (by simpa [List.getD] using h2)
    rw [List.set_cons_succ, List.map_cons, List.map_cons, List.countP_cons, List.countP_cons]
    omega
/-- What within answers: of each node whether it stands within i. -/
def WithinPost (P : List (Nd × Value)) (i : Int) (w : World) (e : Ending) (w' : World) : Prop :=
  e = .returned (.slice (some ⟨w.heap.size, 0, none⟩) P.length P.length) ∧ ArrAt w' w.heap.size 4 (((List.range P.length).map fun j : Nat => winB (nodes P) i (j : Int)).map Value.bool) ∧ Below w.heap.size w w'

end Go.Proofs.YtahohmdbiiknoaaGreatDoor

/- Layer 12: the text of a node. -/
namespace Go.Proofs.YtahohmdbiiknoaaGreatDoor
open Go.RowKit

/-- What the loop of Text keeps. -/
structure TxtAt (P : List (Nd × Value)) (i : Int) (w1 : World) (k : Nat) (T : List UInt8) (u : Value) (wr : World) : Prop where
  own : Txt wr w1.heap.size u T
  text : T = textTo (nodes P) i k
  below : Below w1.heap.size w1 wr

end Go.Proofs.YtahohmdbiiknoaaGreatDoor

/- The walks of Is, lead, follower, put, Bytes, Encode: the program's and the reference's. -/
namespace Go.Proofs.YtahohmdbiiknoaaGreatDoor
open Go.RowKit


theorem isR_eq {r : Int} {b : Bool} (h : (0 ≤ r ∧ r ≤ 1114111 ∧ ¬ (55296 ≤ r ∧ r ≤ 57343)) ↔ b = true) : Ending.returned (.bool b) = .returned (.bool (isR r)) := by
  rw [show isR r = b from by unfold isR; cases b <;> simp at h ⊢ <;> omega]

set_option maxHeartbeats 400000 in
theorem refis_any (r : Int) (w : World) :
    Calls Tryz.prog 65 #[.int .i32 r] w fun e w' => e = .returned (.bool (isR r)) ∧ w = w' := by
  by_cases h1 : 0 ≤ r <;> by_cases h2 : r ≤ 1114111 <;> by_cases h3 : 55296 ≤ r <;> by_cases h4 : r ≤ 57343
  all_goals first | (exfalso; omega) | skip
  all_goals
    go_enter Tryz.func65, Tryz.ntmps65
    go_wp2
    go_ret
    exact ⟨isR_eq (by simp; omega), rfl⟩

theorem info_byte : (Tryz.prog.info? 5).map (fun i => (i.zero, i.size, i.bytes)) = some (some (.int .u8 0), 1, 1) := by kernel_rfl

/-- A slice of bytes that the call itself made. -/
def Byts (w : World) (B : Nat) (v : Value) (xs : List Int) : Prop := w.ownsRow B 5 1 v xs.length (xs.map (Value.int .u8))

def PutPost (B : Nat) (w : World) (xs : List Int) (e : Ending) (w' : World) : Prop := ∃ v, e = .returned v ∧ Byts w' B v xs ∧ Below B w w'

theorem isR_bd {r : Int} (h : isR r = true) : 0 ≤ r ∧ r ≤ 1114111 := by unfold isR at h; simp at h; omega

theorem byts_mk {w : World} {B : Nat} {v : Value} {xs : List Int} (ys : List Int) {n : Nat} (h : w.ownsRow B 5 1 v n (xs.map (Value.int .u8) ++ ys.map (Value.int .u8))) (hn : n = xs.length + ys.length) : Byts w B v (xs ++ ys) := by
  subst hn; unfold Byts; rw [List.length_append, List.map_append]; exact h

end Go.Proofs.YtahohmdbiiknoaaGreatDoor
