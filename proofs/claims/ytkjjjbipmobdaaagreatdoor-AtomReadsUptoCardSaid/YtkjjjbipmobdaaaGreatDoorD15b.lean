/- Layer 15: a field of several names; the reference's either. -/
import Derived.Test.YtkjjjbipmobdaaaGreatDoorD15p
import Derived.Test.YtkjjjbipmobdaaaGreatDoorBR12
namespace Go.Proofs.YtkjjjbipmobdaaaGreatDoor
open Go.RowKit

/-- The first of the fields of these names that is there. -/
def fieldsB (F : List UInt8 → Option (List UInt8)) : List (List UInt8) → Option (List UInt8)
  | [] => none
  | a :: t => match F a with
    | some s => some s
    | none => fieldsB F t
theorem fieldsB_one (F : List UInt8 → Option (List UInt8)) (a : List UInt8) : fieldsB F [a] = F a := by
  unfold fieldsB
  cases F a <;> rfl
theorem fieldsB_two (F : List UInt8 → Option (List UInt8)) (a b : List UInt8) : fieldsB F [a, b] = orB (F a) (F b) := by
  unfold fieldsB orB
  rw [fieldsB_one]
  cases F a <;> rfl
/-- Names in memory. -/
def NmAt (w : World) (b : Nat) (ns : List (List UInt8)) : Prop := ∀ j, j < ns.length → w.cell? ⟨b, j, none⟩ = some (.string ⟨(ns.getD j []).toArray⟩)
theorem NmAt.next {w w' : World} {b : Nat} {ns : List (List UInt8)} (h : NmAt w b ns) (hb : Below w.heap.size w w') : NmAt w' b ns := fun j hj => cell_next (h j hj) hb
theorem nmAt_one (w : World) (s : List UInt8) : NmAt (w.alloc (.cells #[.string ⟨s.toArray⟩] 9)) w.heap.size [s] := fun j hj => by
  have h := arrAt_new w 9 [.string ⟨s.toArray⟩]
  obtain rfl : j = 0 := by simp at hj; omega
  exact h.cell 0
theorem nmAt_two (w : World) (s t : List UInt8) : NmAt (w.alloc (.cells #[.string ⟨s.toArray⟩, .string ⟨t.toArray⟩] 9)) w.heap.size [s, t] := fun j hj => by
  have h := arrAt_new w 9 [.string ⟨s.toArray⟩, .string ⟨t.toArray⟩]
  have hj2 : j = 0 ∨ j = 1 := by simp at hj; omega
  rcases hj2 with rfl | rfl
  · exact h.cell 0
  · exact h.cell 1
set_option maxHeartbeats 1000000 in
theorem field15_any (P : List (Nd × Value)) (v : Value) (i : Int) (ns : List (List UInt8)) (b : Nat) (w : World) (h : NdSl w v P) (hn : P.length ≤ 1000000) (hT : sumT (nodes P) ≤ 2000000) (hm : NmAt w b ns) (hl : ns.length ≤ 1000) :
    Calls Tryz.prog 51 #[v, .int .i64 i, .slice (some ⟨b, 0, none⟩) ns.length ns.length] w (TextPost w ((fieldsB (fieldB (nodes P) i) ns).getD [])) := by
  have hf := fun W nm (hb : Below w.heap.size w W) => field14_any P v i nm W (h.next hb) hn hT
  have hcl := fun W (hb : Below w.heap.size w W) => hm.next hb
  generalize fieldB (nodes P) i = F at hf ⊢
  obtain ⟨a, c, hv⟩ := h.form
  obtain ⟨o, ho⟩ : ∃ o, fieldsB F ns = o := ⟨_, rfl⟩
  rw [ho]
  clear h hm
  subst hv
  replace hf := Lib.hid hf
  replace hcl := Lib.hid hcl
  replace ho := Lib.hid ho
  go_enter Tryz.func51, Tryz.ntmps51
  go_wp2_with fail
  go_loopw [13] (fun ii wr => ∃ k : Nat, ii = .int .i64 k ∧ k ≤ ns.length ∧ Hid (fieldsB F (ns.drop k) = o) ∧ Hid (Below w.heap.size w wr)) (fun ii _ => ns.length - (intOf ii).toNat)
  case atStart => exact ⟨0, rfl, Nat.zero_le _, ho, Below.refl _ _⟩
  case round =>
    clear ho
    obtain ⟨k, rfl, hk, ho, hbl⟩ := hrel
    by_cases hlt : k < ns.length
    · have hlt1 : (k : Int) < ns.length := by omega
      have hkm : (k : Int) + 1 ≤ 9223372036854775807 := by omega
      have c0 := hcl.out wr hbl.out k hlt
      have hfd := hf.out wr (ns.getD k []) hbl.out
      have hof := ho.out
      rw [drop_at ns [] k hlt] at hof
      unfold fieldsB at hof
      generalize ns.getD k [] = nm at c0 hfd hof
      generalize F nm = r at hfd hof
      replace hfd := Lib.hid hfd
      clear ho
      cases r with
      | some s =>
        replace hof := Lib.hid hof
        go_wp2_with fail
        refine hfd.out.mono ?_
        rintro e w2 ⟨rfl, hb2⟩
        have hb3 := Lib.hid (hbl.out.andThen hb2)
        clear hb2 hfd
        go_wp2_with fail
        go_ret
        rw [← hof.out]
        exact ⟨rfl, hb3.out⟩
      | none =>
        have ho : Hid (fieldsB F (ns.drop (k + 1)) = o) := hof
        clear hof
        go_wp2_with fail
        refine hfd.out.mono ?_
        rintro e w2 ⟨rfl, hb2⟩
        have hb3 := Lib.hid (hbl.out.andThen hb2)
        clear hb2 hfd
        go_wp2_with fail
        exact ⟨⟨k + 1, by go_num, by omega, ho, hb3⟩, by simp [intOf]; omega⟩
    · have hlt2 : ¬ ((k : Int) < ns.length) := by omega
      have hof := ho.out
      rw [List.drop_eq_nil_of_le (by omega)] at hof
      replace hof := Lib.hid hof
      clear ho
      go_wp2_with fail
      go_ret
      rw [← hof.out]
      exact ⟨rfl, hbl.out⟩

set_option maxHeartbeats 1000000 in
theorem refeither15_any (P : List (Nd × Value)) (v : Value) (i : Int) (na nb : List UInt8) (w : World) (h : NdSl w v P) (hn : P.length ≤ 1000000) (hT : sumT (nodes P) ≤ 2000000) :
    Calls Tryz.prog 54 #[v, .int .i64 i, .string ⟨na.toArray⟩, .string ⟨nb.toArray⟩] w (FldPost w (orB (fieldB (nodes P) i na) (fieldB (nodes P) i nb))) := by
  have hf := reffield14_any P v i na w h hn hT
  have hg := fun W (hb : Below w.heap.size w W) => reffield14_any P v i nb W (h.next hb) hn hT
  generalize fieldB (nodes P) i na = oa at hf ⊢
  generalize fieldB (nodes P) i nb = ob at hg ⊢
  obtain ⟨a, c, hv⟩ := h.form
  subst hv
  clear h
  replace hf := Lib.hid hf
  replace hg := Lib.hid hg
  go_enter Tryz.func54, Tryz.ntmps54
  go_wp2_with fail
  refine hf.out.mono ?_
  rintro e w2 ⟨rfl, hb2⟩
  cases oa with
  | some s =>
    replace hb2 := Lib.hid hb2
    go_wp2_with fail
    go_ret2
    exact ⟨rfl, hb2.out⟩
  | none =>
    have hg2 := Lib.hid (hg.out w2 hb2)
    replace hb2 := Lib.hid hb2
    go_wp2_with fail
    refine hg2.out.mono ?_
    rintro e w3 ⟨rfl, hb3⟩
    have hb4 := Lib.hid (hb2.out.andThen hb3)
    clear hb3
    go_wp2_with fail
    go_ret2
    exact ⟨rfl, hb4.out⟩
end Go.Proofs.YtkjjjbipmobdaaaGreatDoor
