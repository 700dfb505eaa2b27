/- Layer 14: the nodes of a document. -/
import Derived.Test.YtkjjjbipmobdaaaGreatDoorBR30
import Derived.Test.YtkjjjbipmobdaaaGreatDoorBR31
import Derived.Test.YtkjjjbipmobdaaaGreatDoorD14n
namespace Go.Proofs.YtkjjjbipmobdaaaGreatDoor
open Go.RowKit

theorem cellsK_at : ∀ (P : List (Tk × Value)) (j : Nat) (h : j < P.length), (cellsK P)[j * 4]? = some (.int .i64 (P[j]'h).1.kind) ∧ (cellsK P)[j * 4 + 1]? = some (strV (P[j]'h).1.name) ∧ (cellsK P)[j * 4 + 2]? = some (P[j]'h).2 ∧ (cellsK P)[j * 4 + 3]? = some (strV (P[j]'h).1.text)
  | [], j, h => by simp at h
  | x :: t, 0, _ => ⟨rfl, rfl, rfl, rfl⟩
  | x :: t, j + 1, h => by
    have := cellsK_at t j (by simpa using h)
    have e : cellsK (x :: t) = .int .i64 x.1.kind :: strV x.1.name :: x.2 :: strV x.1.text :: cellsK t := rfl
    have e1 : ∀ i, (cellsK (x :: t))[(j + 1) * 4 + i]? = (cellsK t)[j * 4 + i]? := fun i => by
      rw [e, show (j + 1) * 4 + i = (j * 4 + i) + 1 + 1 + 1 + 1 by omega]; simp only [List.getElem?_cons_succ]
    have e0 := e1 0
    rw [Nat.add_zero, Nat.add_zero] at e0
    rw [e0, e1, e1, e1]
    simpa using this
/-- Tokens that the call itself made can be read. -/
theorem Tks.sl {w : World} {B : Nat} {v : Value} {P : List (Tk × Value)} (h : Tks w B v P) : TkSl w v P := by
  refine ⟨?_, fun p hp => Ats.sl (h.ats p hp)⟩
  have hcg := fun g hv => World.ownsRow.cells h.row (g := g) hv
  rcases h.row.2 with ⟨hv, hn⟩ | ⟨g, cap, cur, hv, _, _, hcap, _⟩
  · obtain ⟨a, c, e⟩ := own_form h.row
    have h0 : P = [] := List.length_eq_zero_iff.1 hn
    rw [hn] at e
    exact Or.inl ⟨h0, a, c, e⟩
  · have hob : v.ownBlock = some g := by rw [hv]; rfl
    refine Or.inr ⟨g, 0, cap, hcap, hv, fun j hj => ?_⟩
    obtain ⟨e0, e1, e2, e3⟩ := cellsK_at P j hj
    have hadd : ∀ i, (⟨g, 0, none⟩ : Addr).add i = ⟨g, i, none⟩ := fun i => by unfold Addr.add; split <;> simp_all
    have h0 := hcg g hob _ _ e0
    have h1 := hcg g hob _ _ e1
    have h2 := hcg g hob _ _ e2
    have h3 := hcg g hob _ _ e3
    rw [hadd] at h0 h1 h2 h3
    rw [Nat.zero_add]
    exact ⟨h0, h1, h2, h3⟩
def DocPost (l : List Nd) (w : World) (e : Ending) (w' : World) : Prop := ∃ v P, e = .returned v ∧ NdSl w' v P ∧ nodes P = l ∧ Below w.heap.size w w'

theorem ndSl_nil (w : World) : NdSl w (.slice none 0 0) [] := ⟨Or.inl ⟨rfl, none, 0, rfl⟩, fun p hp => by cases hp⟩
theorem tkSl_nil (w : World) : TkSl w (.slice none 0 0) [] := ⟨Or.inl ⟨rfl, none, 0, rfl⟩, fun p hp => by cases hp⟩
/-- What Build says, as nodes. -/
theorem RefPost12.nodes {w w' : World} {o : Option (List Nd)} {e : Ending} (h : RefPost12 w o e w') : ∃ v q P, e = .returned (.tuple #[v, .int .i64 q]) ∧ NdSl w' v P ∧ nodes P = o.getD [] ∧ Below w.heap.size w w' := by
  cases o with
  | some l => obtain ⟨v, P, h1, h2, h3, h4⟩ := h; exact ⟨v, 0, P, h1, h2, h3, h4⟩
  | none => exact ⟨_, 2, [], h.1, ndSl_nil _, rfl, h.2⟩
theorem TrPost.toks {w w' : World} {r : OutR} {e : Ending} (h : TrPost w r e w') : ∃ v q P, e = .returned (.tuple #[v, .int .i64 q]) ∧ TkSl w' v P ∧ P.map Prod.fst = r.ts ∧ Below w.heap.size w w' := by
  cases r with
  | toks t => obtain ⟨⟨v, P, h1, h2, h3⟩, h4⟩ := h; exact ⟨v, 0, P, h1, h2.sl, h3, h4⟩
  | bad q => exact ⟨_, q, [], h.1, tkSl_nil _, rfl, h.2⟩

set_option maxHeartbeats 1000000 in
theorem nodes14_any (l : List UInt8) (w : World) (hl : l.length ≤ 50000) : Calls Tryz.prog 23 #[.string ⟨l.toArray⟩] w (DocPost (docN 30 l) w) := by
  have ht := (rtokens_any l 30 w (by omega)).mono fun e w' h => h.toks
  have hlen := (tokR_len 30 l).1
  unfold docN
  generalize (tokR 30 l).ts = t at ht hlen
  replace ht := Lib.hid ht
  go_enter Tryz.func23, Tryz.ntmps23
  go_wp2_with fail
  refine ht.out.mono ?_
  rintro e w1 ⟨v, q, P, rfl, hT, rfl, hb⟩
  rw [List.length_map] at hlen
  have hB := Lib.hid ((refbuild12_any P v w1 hT (by omega)).mono fun e w' h => h.nodes)
  replace hb := Lib.hid hb
  clear hT ht
  go_wp2_with fail
  refine hB.out.mono ?_
  rintro e w2 ⟨v2, q2, P2, rfl, h2, hP2, hb2⟩
  have hb3 := Lib.hid (hb.out.andThen hb2)
  replace h2 := Lib.hid h2
  replace hP2 := Lib.hid hP2
  clear hb2
  go_wp2_with fail
  go_ret
  exact ⟨_, P2, rfl, h2.out, hP2.out, hb3.out⟩
end Go.Proofs.YtkjjjbipmobdaaaGreatDoor
