/- Layer 12's laws: awake. -/
import Derived.Test.YtodocdbnflmgnaaDoorD12l
import Derived.Test.YtodocdbnflmgnaaDoorD12f
namespace Go.Proofs.YtodocdbnflmgnaaDoor
open Go.RowKit

def tokV (p : Tk × Value) : List Value := [.int .i64 p.1.kind, strV p.1.name, p.2, strV p.1.text]
def cellsT (P : List (Tk × Value)) : List Value := P.flatMap tokV
theorem cellsT_at : ∀ (P : List (Tk × Value)) (j : Nat) (h : j < P.length), (cellsT P)[j * 4]? = some (.int .i64 (P[j]'h).1.kind) ∧ (cellsT P)[j * 4 + 1]? = some (strV (P[j]'h).1.name) ∧ (cellsT P)[j * 4 + 2]? = some (P[j]'h).2 ∧ (cellsT P)[j * 4 + 3]? = some (strV (P[j]'h).1.text)
  | [], j, h => by simp at h
  | x :: t, 0, _ => ⟨rfl, rfl, rfl, rfl⟩
  | x :: t, j + 1, h => by
    have h' : j < t.length := by simpa using h
    have := cellsT_at t j h'
    have e : cellsT (x :: t) = .int .i64 x.1.kind :: strV x.1.name :: x.2 :: strV x.1.text :: cellsT t := rfl
    have e1 : ∀ i, (cellsT (x :: t))[(j + 1) * 4 + i]? = (cellsT t)[j * 4 + i]? := fun i => by
      rw [e, show (j + 1) * 4 + i = (j * 4 + i) + 1 + 1 + 1 + 1 by omega]; simp only [List.getElem?_cons_succ]
    have e0 := e1 0
    rw [Nat.add_zero, Nat.add_zero] at e0
    rw [e0, e1, e1, e1]
    simpa using this
/-- A slice of tokens, just built. -/
theorem tkSl_new (w : World) (E : TypeId) (P : List (Tk × Value)) (n : Nat) (hn : n = P.length) (ha : ∀ p ∈ P, AtSl w p.2 p.1.attrs) : TkSl (w.alloc (.cells (cellsT P).toArray E)) (.slice (some ⟨w.heap.size, 0, none⟩) n n) P := by
  subst hn
  have hb : Below w.heap.size w (w.alloc (.cells (cellsT P).toArray E)) := (Below.refl _ _).alloc (Nat.le_refl _) _
  have hr := arrAt_new w E (cellsT P)
  refine ⟨Or.inr ⟨_, 0, _, Nat.le_refl _, rfl, fun j hj => ?_⟩, fun p hp => (ha p hp).next hb⟩
  obtain ⟨e0, e1, e2, e3⟩ := cellsT_at P j hj
  rw [Nat.zero_add]
  exact ⟨by rw [hr.cell]; exact e0, by rw [hr.cell]; exact e1, by rw [hr.cell]; exact e2, by rw [hr.cell]; exact e3⟩
theorem atSl_new (w : World) (E : TypeId) (x : At) : AtSl (w.alloc (.cells #[strV x.1, strV x.2] E)) (.slice (some ⟨w.heap.size, 0, none⟩) 1 1) [x] := by
  have hr := arrAt_new w E [strV x.1, strV x.2]
  refine Or.inr ⟨_, 0, 1, Nat.le_refl _, rfl, fun j hj => ?_⟩
  obtain rfl : j = 0 := by simpa using hj
  exact ⟨by rw [show (#[strV x.1, strV x.2] : Array Value) = [strV x.1, strV x.2].toArray from rfl, hr.cell]; rfl, by rw [show (#[strV x.1, strV x.2] : Array Value) = [strV x.1, strV x.2].toArray from rfl, hr.cell]; rfl⟩
def exP (u : Value) : List (Tk × Value) := [(⟨1, [97], [], []⟩, .slice none 0 0), (⟨4, [], [], [120]⟩, .slice none 0 0), (⟨3, [98], [([99], [100])], []⟩, u), (⟨2, [97], [], []⟩, .slice none 0 0)]
def exQ : List (Tk × Value) := [(⟨2, [97], [], []⟩, .slice none 0 0)]
def exN : List Nd := [⟨[97], [], [], -1⟩, ⟨[], [], [120], 0⟩, ⟨[98], [([99], [100])], [], 0⟩]
theorem exP_build (u : Value) : buildB ((exP u).map Prod.fst) = some exN := by kernel_rfl
theorem exQ_build : buildB (exQ.map Prod.fst) = none := by kernel_rfl
theorem exN_kids : kidsB exN 0 = [1, 2] := by kernel_rfl
theorem exN_named : namedB exN 0 [98] = [2] := by kernel_rfl
theorem exN_text : textB exN 0 = [120] := by kernel_rfl
theorem exN_sum : sumT exN = 1 := by kernel_rfl
theorem exN_attr : attrB [([99], [100])] [99] = ([100], true) := by kernel_rfl
/-- Of three nodes the last one. -/
theorem exN_last {w : World} {v : Value} {P : List (Nd × Value)} (h : NdSl w v P) (hP : nodes P = exN) : P.length = 3 ∧ ∃ b off c a n, v = .slice (some ⟨b, off, none⟩) 3 c ∧ 3 ≤ c ∧ b < w.heap.size ∧ w.cell? ⟨b, off + 8, none⟩ = some (.string ⟨[98].toArray⟩) ∧ w.cell? ⟨b, off + 9, none⟩ = some (.slice a 1 n) ∧
    w.cell? ⟨b, off + 10, none⟩ = some (.string ⟨[].toArray⟩) ∧ w.cell? ⟨b, off + 11, none⟩ = some (.int .i64 0) ∧ AtSl w (.slice a 1 n) [([99], [100])] := by
  have hl : P.length = 3 := by rw [← nodes_len, hP]; rfl
  obtain ⟨b, off, c, hc, hb, hv, hat⟩ := h.some (by omega)
  have h2 := hat 2 (by omega)
  have ha := h.atsAt 2 (by omega)
  have hn : (P[2]'(by omega)).1 = ⟨[98], [([99], [100])], [], 0⟩ := by rw [nodes_at (by omega), hP]; rfl
  rw [hn] at h2 ha
  obtain ⟨aa, ac, e⟩ := ha.form
  rw [e] at h2 ha
  rw [hl] at hv hc
  exact ⟨hl, b, off, c, aa, ac, hv, hc, hb, h2.c0, h2.c1, h2.c2, h2.c3, ha⟩
set_option maxRecDepth 100000 in
set_option maxHeartbeats 4000000 in
theorem awake12_any (A : Addr) (w : World) (hL : Laid12 w A) : Calls Tryd.prog 7 #[] w (LawPost w) := by
  have hbA : Below w.heap.size w (w.alloc (.cells #[.string ⟨[99].toArray⟩, .string ⟨[100].toArray⟩] 50)) := (Below.refl _ _).alloc (Nat.le_refl _) _
  have hat := atSl_new w 50 ([99], [100])
  have htk := tkSl_new (w.alloc (.cells #[.string ⟨[99].toArray⟩, .string ⟨[100].toArray⟩] 50)) 47 (exP (.slice (some ⟨w.heap.size, 0, none⟩) 1 1)) 4 rfl (by
    intro p hp
    simp only [exP, List.mem_cons, List.not_mem_nil, or_false] at hp
    rcases hp with rfl | rfl | rfl | rfl
    · exact atSl_nil _ _ _
    · exact atSl_nil _ _ _
    · exact hat
    · exact atSl_nil _ _ _)
  have hbB := hbA.alloc (by simp) (.cells (cellsT (exP (.slice (some ⟨w.heap.size, 0, none⟩) 1 1))).toArray 47)
  have c1 := build12_any _ _ A _ htk (hL.below hbB) (by simp [exP]) (by
    intro p hp
    simp only [exP, List.mem_cons, List.not_mem_nil, or_false] at hp
    rcases hp with rfl | rfl | rfl | rfl <;> simp)
  rw [exP_build] at c1
  have hs1 : (w.alloc (.cells #[.string ⟨[99].toArray⟩, .string ⟨[100].toArray⟩] 50)).heap.size = w.heap.size + 1 := by simp
  rw [hs1] at c1
  have c2 := fun (W : World) (hW : Laid12 W A) => build12_any exQ _ A _ (tkSl_new W 47 exQ 1 rfl (by
    intro p hp
    simp only [exQ, List.mem_cons, List.not_mem_nil, or_false] at hp
    subst hp
    exact atSl_nil _ _ _)) (hW.below ((Below.refl _ _).alloc (Nat.le_refl _) _)) (by decide) (by
    intro p hp
    simp only [exQ, List.mem_cons, List.not_mem_nil, or_false] at hp
    subst hp
    decide)
  rw [exQ_build] at c2
  clear htk hat hbA hs1
  replace c1 := Lib.hid c1
  replace c2 := Lib.hid c2
  replace hL := Lib.hid hL
  replace hbB := Lib.hid hbB
  go_enter Tryd.func7, Tryd.ntmps7
  go_wp2_with fail
  refine c1.out.mono ?_; rintro e w1 ⟨v, P, rfl, hsl, hP, b1⟩
  have bb1 := hbB.out.andThen b1
  have hL1 := hL.out.below bb1
  have hs1 := bb1.size
  clear c1 b1 hL hbB
  replace bb1 := Lib.hid bb1
  replace hL1 := Lib.hid hL1
  replace hsl := Lib.hid hsl
  replace hP := Lib.hid hP
  go_wp2_with fail
  refine (c2.out w1 hL1.out).mono ?_; rintro e w2 ⟨f, q, rfl, hfa, b2⟩
  have b12 := ((Below.refl w1.heap.size w1).alloc (Nat.le_refl _) (.cells (cellsT exQ).toArray 47)).andThen b2
  have bb2 := bb1.out.andThen b12
  have hsl2 := hsl.out.next b12
  obtain ⟨hl3, b, off, cp, a, n, rfl, hcp, hbl, n0, n1, n2, n3, hats⟩ := exN_last hsl2 hP.out
  have c3 := attr12_any ⟨[98], [([99], [100])], [], 0⟩ (.slice a 1 n) [99] w2 hats (by simp)
  unfold ndA at c3
  rw [exN_attr] at c3
  clear c2 b2 b12 hsl hats hL1 bb1
  replace c3 := Lib.hid c3
  replace bb2 := Lib.hid bb2
  replace hsl2 := Lib.hid hsl2
  replace hfa := Lib.hid hfa
  replace hl3 := Lib.hid hl3
  unfold faultV
  go_wp2_with fail
  refine c3.out.mono ?_; rintro e w3 ⟨rfl, b3⟩
  have hsl3 := hsl2.out.next b3
  have hfa3 := hfa.out.below b3
  have bb3 := bb2.out.andThen b3
  have c4 := named12_any P _ 0 [98] w3 hsl3 (by rw [hl3.out]; decide)
  rw [hP.out, exN_named] at c4
  clear c3 b3 hsl2 hfa bb2 n0 n1 n2 n3
  replace c4 := Lib.hid c4
  replace bb3 := Lib.hid bb3
  replace hsl3 := Lib.hid hsl3
  replace hfa3 := Lib.hid hfa3
  go_wp2_with fail
  refine c4.out.mono ?_; rintro e w4 ⟨kv, rfl, hk, b4⟩
  have hsl4 := hsl3.out.next b4
  have hfa4 := hfa3.out.below b4
  have bb4 := bb3.out.andThen b4
  obtain ⟨kb, ko, kc, rfl, hkc⟩ := hk.rd.sl.some (by decide)
  have k0 := hkc 0 (by decide)
  obtain ⟨_, b', off', cp', a', n', hv', _, hbl4, _, _, _, n3, _⟩ := exN_last hsl4 hP.out
  injection hv' with hv1 _ hv3
  injection hv1 with hv1
  injection hv1 with hv1 hv2
  subst hv1 hv2 hv3
  have c5 := code12_fault f q 2 w4 hfa4 (by omega) (by omega)
  have c6 := text12_any P _ 0 w4 hsl4 (by rw [hl3.out]; decide) (by rw [hP.out, exN_sum]; decide)
  rw [hP.out, exN_text] at c6
  clear c4 b4 hsl3 hfa3 bb3 hk hkc hfa4
  simp only [List.getD_cons_zero, Nat.add_zero, List.length_cons, List.length_nil, Nat.zero_add] at k0 ⊢
  unfold faultV at c5
  replace c5 := Lib.hid c5
  replace c6 := Lib.hid c6
  replace bb4 := Lib.hid bb4
  replace hsl4 := Lib.hid hsl4
  go_wp2_with fail
  refine c5.out.mono ?_; rintro e w' ⟨rfl, rfl⟩
  go_wp2_with fail
  refine c6.out.mono ?_; rintro e w6 ⟨rfl, b6⟩
  have hsl6 := hsl4.out.next b6
  have bb6 := bb4.out.andThen b6
  have c7 := kids12_any P _ 0 w6 hsl6 (by rw [hl3.out]; decide)
  rw [hP.out, exN_kids] at c7
  clear c5 c6 hsl4 bb4 b6
  replace c7 := Lib.hid c7
  replace bb6 := Lib.hid bb6
  go_wp2_with fail
  refine c7.out.mono ?_; rintro e w7 ⟨u, rfl, hu, b7⟩
  obtain ⟨ua, uc, rfl⟩ := own_form hu
  have bb7 := bb6.out.andThen b7
  clear c7 b7 hu bb6
  replace bb7 := Lib.hid bb7
  simp only [List.length_cons, List.length_nil, Nat.zero_add]
  go_wp2_with fail
  go_ret
  exact ⟨rfl, bb7.out⟩
end Go.Proofs.YtodocdbnflmgnaaDoor
