/- Layer 14: dates read alike; the reference's Same; the law's code. -/
import Derived.Test.YtkjjjbipmobdaaaGreatDoorD14k
import Derived.Test.YtkjjjbipmobdaaaGreatDoorD14v
import Derived.BigQuiet
namespace Go.Proofs.YtkjjjbipmobdaaaGreatDoor
open Go.RowKit

theorem itO_alike (F : List UInt8 → Option (List UInt8)) (most : Int) : itO F r822C most = itO F r822R most := by
  rw [itO_is rfl rfl rfl rfl, itO_is rfl rfl rfl rfl]
  cases F pubL with
  | none => rfl
  | some s =>
    obtain ⟨h1, h2⟩ := r822_alike s
    simp only
    cases hk : (r822C s).2 with
    | false => rw [← h1, hk]; simp
    | true => rw [← h1, hk, h2 hk]
theorem itsB_alike (l : List Nd) (many most : Int) : itsB l r822C many most = itsB l r822R many most := by
  unfold itsB readB
  have e : ∀ i, itO (fieldB l i) r822C most = itO (fieldB l i) r822R most := fun i => itO_alike _ _
  simp only [e]

theorem cellsI_at : ∀ (l : List It) (j : Nat) (h : j < l.length), (cellsI l)[j * 6]? = some (strV (l[j]'h).guid) ∧ (cellsI l)[j * 6 + 1]? = some (strV (l[j]'h).title) ∧ (cellsI l)[j * 6 + 2]? = some (strV (l[j]'h).link) ∧ (cellsI l)[j * 6 + 3]? = some (strV (l[j]'h).body) ∧ (cellsI l)[j * 6 + 4]? = some (.int .i64 (l[j]'h).date) ∧ (cellsI l)[j * 6 + 5]? = some (.bool (l[j]'h).dated)
  | [], j, h => by simp at h
  | x :: t, 0, _ => ⟨rfl, rfl, rfl, rfl, rfl, rfl⟩
  | x :: t, j + 1, h => by
    have := cellsI_at t j (by simpa using h)
    have e : cellsI (x :: t) = strV x.guid :: strV x.title :: strV x.link :: strV x.body :: .int .i64 x.date :: .bool x.dated :: cellsI t := rfl
    have e1 : ∀ i, (cellsI (x :: t))[(j + 1) * 6 + i]? = (cellsI t)[j * 6 + i]? := fun i => by
      rw [e, show (j + 1) * 6 + i = (j * 6 + i) + 1 + 1 + 1 + 1 + 1 + 1 by omega]; simp only [List.getElem?_cons_succ]
    have e0 := e1 0
    rw [Nat.add_zero, Nat.add_zero] at e0
    rw [e0, e1, e1, e1, e1, e1]
    simpa using this
/-- An entry in memory. -/
structure ItAt (w : World) (b o : Nat) (x : It) : Prop where
  c0 : w.cell? ⟨b, o, none⟩ = some (strV x.guid)
  c1 : w.cell? ⟨b, o + 1, none⟩ = some (strV x.title)
  c2 : w.cell? ⟨b, o + 2, none⟩ = some (strV x.link)
  c3 : w.cell? ⟨b, o + 3, none⟩ = some (strV x.body)
  c4 : w.cell? ⟨b, o + 4, none⟩ = some (.int .i64 x.date)
  c5 : w.cell? ⟨b, o + 5, none⟩ = some (.bool x.dated)
theorem OwnI.at {w : World} {B : Nat} {v : Value} {l : List It} (h : OwnI w B v l) {j : Nat} (hj : j < l.length) : ∃ g cap, v = .slice (some ⟨g, 0, none⟩) l.length cap ∧ l.length ≤ cap ∧ v.ownBlock = some g ∧ ItAt w g (j * 6) (l[j]'hj) := by
  have hcg := fun g hv => World.ownsRow.cells h (g := g) hv
  rcases h.2 with ⟨_, hn⟩ | ⟨g, cap, cur, hv, _, _, hcap, _⟩
  · omega
  · have hob : v.ownBlock = some g := by rw [hv]; rfl
    obtain ⟨e0, e1, e2, e3, e4, e5⟩ := cellsI_at l j hj
    have hadd : ∀ i, (⟨g, 0, none⟩ : Addr).add i = ⟨g, i, none⟩ := fun i => by unfold Addr.add; split <;> simp_all
    have h0 := hcg g hob _ _ e0
    have h1 := hcg g hob _ _ e1
    have h2 := hcg g hob _ _ e2
    have h3 := hcg g hob _ _ e3
    have h4 := hcg g hob _ _ e4
    have h5 := hcg g hob _ _ e5
    rw [hadd] at h0 h1 h2 h3 h4 h5
    exact ⟨g, cap, hv, hcap, hob, h0, h1, h2, h3, h4, h5⟩
theorem OwnI.all {w : World} {B : Nat} {v : Value} {l : List It} (h : OwnI w B v l) : ∃ a c, v = .slice a l.length c ∧ l.length ≤ c ∧ ∀ j (hj : j < l.length), ∃ g, a = some ⟨g, 0, none⟩ ∧ ItAt w g (j * 6) (l[j]'hj) := by
  obtain ⟨a, c, rfl, hc⟩ := own_cap h
  refine ⟨a, c, rfl, hc, fun j hj => ?_⟩
  obtain ⟨g, cap, hv, _, _, hat⟩ := h.at hj
  injection hv with e _ _
  exact ⟨g, e, hat⟩
theorem ItAt.drawn {w : World} {b o : Nat} {x : It} (h : ItAt w b o x) (n : Nat) : ItAt (w.drewN n) b o x := ⟨by simpa using h.c0, by simpa using h.c1, by simpa using h.c2, by simpa using h.c3, by simpa using h.c4, by simpa using h.c5⟩

set_option maxRecDepth 100000 in
set_option maxHeartbeats 2000000 in
theorem same14_any (l : List It) (u v : Value) (A B : Nat) (w : World) (h1 : OwnI w A u l) (h2 : OwnI w B v l) (hl : l.length ≤ 1000000) :
    Calls Tryz.prog 15 #[u, v] w fun e w' => e = .returned (.bool true) ∧ Drawn w w' := by
  obtain ⟨a, c, rfl, hac, h1⟩ := h1.all
  obtain ⟨b, d, rfl, hbd, h2⟩ := h2.all
  have hne : ((l.length : Int) != (l.length : Int)) = false := by simp
  replace h1 := Lib.hid h1
  replace h2 := Lib.hid h2
  go_enter Tryz.func15, Tryz.ntmps15
  go_wp2_with fail
  go_loopw [5] (fun i wr => ∃ k : Nat, i = .int .i64 k ∧ k ≤ l.length ∧ Drawn w wr) (fun i _ => l.length - (intOf i).toNat)
  case atStart => exact ⟨0, rfl, Nat.zero_le _, Drawn.refl _⟩
  case round =>
    obtain ⟨k, rfl, hk, n0, rfl⟩ := hrel
    by_cases hlt : k < l.length
    · have hlt1 : (k : Int) < l.length := by omega
      obtain ⟨g1, rfl, m1⟩ := h1.out k hlt
      obtain ⟨g2, rfl, m2⟩ := h2.out k hlt
      obtain ⟨x0, x1, x2, x3, x4, x5⟩ := m1
      obtain ⟨y0, y1, y2, y3, y4, y5⟩ := m2
      generalize l[k]'hlt = x at *
      obtain ⟨xg, xt, xl, xb, xd, xk⟩ := x
      unfold strV at x0 x1 x2 x3 y0 y1 y2 y3
      simp only at x0 x1 x2 x3 x4 x5 y0 y1 y2 y3 y4 y5
      have hkc : (k : Int) < c := by omega
      have hkd : (k : Int) < d := by omega
      have hkm : (k : Int) + 1 ≤ 9223372036854775807 := by omega
      go_wp2_with fail
      go_quiet (fail)
      go_wp2_with fail
      exact ⟨⟨k + 1, by go_num, by omega, ⟨_, rfl⟩⟩, by simp [intOf]; omega⟩
    · have hlt2 : ¬ ((k : Int) < l.length) := by omega
      go_wp2_with fail
      go_ret
      exact ⟨rfl, ⟨_, rfl⟩⟩

theorem code14_nil (w : World) : Calls Tryz.prog 22 #[.nilIface] w fun e w' => e = .returned (.int .i64 0) ∧ w = w' := by
  go_enter Tryz.func22, Tryz.ntmps22
  go_wp2_with fail
  go_ret
  exact ⟨rfl, rfl⟩
set_option maxHeartbeats 1000000 in
theorem code14_fault (f : Nat) (x : Int) (w : World) (h : FaultAt w f 0 (codeV x)) (h1 : 1 ≤ x) (h2 : x ≤ 15) : Calls Tryz.prog 22 #[faultV f] w fun e w' => e = .returned (.int .i64 x) ∧ w = w' := by
  have hc : w.cell? ⟨f, 1, none⟩ = some (.iface 29 (.int .i64 x)) := ArrAt.cell h 1
  clear h
  unfold faultV
  replace hc := Lib.hid hc
  go_enter Tryz.func22, Tryz.ntmps22
  go_wp2_with fail
  go_loopw [3] (fun i wr => ∃ c : Int, i = .int .i64 c ∧ 1 ≤ c ∧ c ≤ x ∧ wr = w) (fun i _ => (15 - intOf i).toNat)
  case atStart => exact ⟨1, rfl, by omega, h1, rfl⟩
  case round =>
    obtain ⟨c, rfl, hc1, hcx, rfl⟩ := hrel
    have hle : c ≤ 15 := by omega
    have hI := is11_fault f x c _ hc.out
    by_cases e : x = c
    · subst e
      rw [show (x == x) = true from beq_self_eq_true x] at hI
      replace hI := Lib.hid hI
      go_wp2_with fail
      refine hI.out.mono ?_; rintro e w' ⟨rfl, rfl⟩
      go_wp2_with fail
      go_ret
      exact ⟨rfl, rfl⟩
    · rw [show (x == c) = false from by rw [beq_eq_false_iff_ne]; exact e] at hI
      have hlt : c < x := by omega
      replace hI := Lib.hid hI
      replace e := Lib.hid e
      go_wp2_with fail
      refine hI.out.mono ?_; rintro e w' ⟨rfl, rfl⟩
      go_wp2_with fail
      exact ⟨⟨c + 1, by go_num, by omega, by omega, trivial⟩, by simp [intOf]; omega⟩
theorem ItsPost.one {w w' : World} {x : It} {e : Ending} (h : ItsPost w (.its [x]) e w') : ∃ g c, 1 ≤ c ∧ e = .returned (.tuple #[.slice (some ⟨g, 0, none⟩) 1 c, .nilIface]) ∧ ItAt w' g 0 x ∧ Below w.heap.size w w' := by
  obtain ⟨v, h1, h2, h3⟩ := h
  obtain ⟨g, c, rfl, hc, _, hat⟩ := h2.at (j := 0) (by simp)
  exact ⟨g, c, hc, h1, by simpa using hat, h3⟩
theorem ItsPost.no {w w' : World} {q : Int} {e : Ending} (h : ItsPost w (.bad q) e w') : ∃ f, e = .returned (.tuple #[.slice none 0 0, faultV f]) ∧ FaultAt w' f 0 (codeV q) ∧ Below w.heap.size w w' := h
theorem ItAt.next {w w' : World} {b o : Nat} {x : It} (h : ItAt w b o x) (hb : Below w.heap.size w w') : ItAt w' b o x := by
  have hlt := World.block_lt_of_cell? w ⟨b, o, none⟩ h.c0
  have hc : ∀ k, w'.cell? ⟨b, k, none⟩ = w.cell? ⟨b, k, none⟩ := fun k => hb.cell (p := ⟨b, k, none⟩) hlt
  exact ⟨(hc _).trans h.c0, (hc _).trans h.c1, (hc _).trans h.c2, (hc _).trans h.c3, (hc _).trans h.c4, (hc _).trans h.c5⟩
end Go.Proofs.YtkjjjbipmobdaaaGreatDoor
