/- Layer 14: dates read alike; the reference's Same; the law's code. -/
import Derived.Test.YtfmlgfeldlnlgaaGreatDoorBR43
import Derived.BigQuiet
import Derived.Test.YtfmlgfeldlnlgaaGreatDoorBR42
import Derived.Test.YtfmlgfeldlnlgaaGreatDoorBR04
namespace Go.Proofs.YtfmlgfeldlnlgaaGreatDoor
open Go.RowKit

theorem itO_alike (F : List UInt8 → Option (List UInt8)) (most : Int) : itO F r822C most = itO F r822R most := by
  rw [itO_is rfl rfl rfl rfl, itO_is rfl rfl rfl rfl]
  cases F pubL with
  | none => rfl
  | some s =>
    obtain ⟨h1, h2⟩ := r822_alike s
    simp only
    cases hk : (r822C s).2 with
    | false => rw [← h1, hk]; simp
    | true => rw [← h1, hk, h2 hk]
theorem itsB_alike (l : List Nd) (many most : Int) : itsB l r822C many most = itsB l r822R many most := by
  unfold itsB
  have e : ∀ i, itO (fieldB l i) r822C most = itO (fieldB l i) r822R most := fun i => itO_alike _ _
  simp only [e]

theorem cellsI_at : ∀ (l : List It) (j : Nat) (h : j < l.length), (cellsI l)[j * 6]? = some (strV (l[j]'h).guid) ∧ (cellsI l)[j * 6 + 1]? = some (strV (l[j]'h).title) ∧ (cellsI l)[j * 6 + 2]? = some (strV (l[j]'h).link) ∧ (cellsI l)[j * 6 + 3]? = some (strV (l[j]'h).body) ∧ (cellsI l)[j * 6 + 4]? = some (.int .i64 (l[j]'h).date) ∧ (cellsI l)[j * 6 + 5]? = some (.bool (l[j]'h).dated)
  | [], j, h => by simp at h
  | x :: t, 0, _ => ⟨rfl, rfl, rfl, rfl, rfl, rfl⟩
  | x :: t, j + 1, h => by
    have := cellsI_at t j (by simpa using h)
    have e : cellsI (x :: t) = strV x.guid :: strV x.title :: strV x.link :: strV x.body :: .int .i64 x.date :: .bool x.dated :: cellsI t := rfl
    have e1 : ∀ i, (cellsI (x :: t))[(j + 1) * 6 + i]? = (cellsI t)[j * 6 + i]? := fun i => by
      rw [e, show (j + 1) * 6 + i = (j * 6 + i) + 1 + 1 + 1 + 1 + 1 + 1 by omega]; simp only [List.getElem?_cons_succ]
    have e0 := e1 0
    rw [Nat.add_zero, Nat.add_zero] at e0
    rw [e0, e1, e1, e1, e1, e1]
    simpa using this
/-- An entry in memory. -/
structure ItAt (w : World) (b o : Nat) (x : It) : Prop where
  c0 : w.cell? ⟨b, o, none⟩ = some (strV x.guid)
  c1 : w.cell? ⟨b, o + 1, none⟩ = some (strV x.title)
  c2 : w.cell? ⟨b, o + 2, none⟩ = some (strV x.link)
  c3 : w.cell? ⟨b, o + 3, none⟩ = some (strV x.body)
  c4 : w.cell? ⟨b, o + 4, none⟩ = some (.int .i64 x.date)
  c5 : w.cell? ⟨b, o + 5, none⟩ = some (.bool x.dated)
theorem OwnI.at {w : World} {B : Nat} {v : Value} {l : List It} (h : OwnI w B v l) {j : Nat} (hj : j < l.length) : ∃ g cap, v = .slice (some ⟨g, 0, none⟩) l.length cap ∧ l.length ≤ cap ∧ v.ownBlock = some g ∧ ItAt w g (j * 6) (l[j]'hj) := by
  have hcg := fun g hv => World.ownsRow.cells h (g := g) hv
  rcases h.2 with ⟨_, hn⟩ | ⟨g, cap, cur, hv, _, _, hcap, _⟩
  · omega
  · have hob : v.ownBlock = some g := by rw [hv]; rfl
    obtain ⟨e0, e1, e2, e3, e4, e5⟩ := cellsI_at l j hj
    have hadd : ∀ i, (⟨g, 0, none⟩ : Addr).add i = ⟨g, i, none⟩ := fun i => by unfold Addr.add; split <;> simp_all
    have h0 := hcg g hob _ _ e0
    have h1 := hcg g hob _ _ e1
    have h2 := hcg g hob _ _ e2
    have h3 := hcg g hob _ _ e3
    have h4 := hcg g hob _ _ e4
    have h5 := hcg g hob _ _ e5
    rw [hadd] at h0 h1 h2 h3 h4 h5
    exact ⟨g, cap, hv, hcap, hob, h0, h1, h2, h3, h4, h5⟩
theorem OwnI.all {w : World} {B : Nat} {v : Value} {l : List It} (h : OwnI w B v l) : ∃ a c, v = .slice a l.length c ∧ l.length ≤ c ∧ ∀ j (hj : j < l.length), ∃ g, a = some ⟨g, 0, none⟩ ∧ ItAt w g (j * 6) (l[j]'hj) := by
  obtain ⟨a, c, rfl, hc⟩ := own_cap h
  refine ⟨a, c, rfl, hc, fun j hj => ?_⟩
  obtain ⟨g, cap, hv, _, _, hat⟩ := h.at hj
  injection hv with e _ _
  exact ⟨g, e, hat⟩
theorem ItAt.drawn {w : World} {b o : Nat} {x : It} (h : ItAt w b o x) (n : Nat) : ItAt (w.drewN n) b o x := ⟨by simpa using h.c0, by simpa using h.c1, by simpa using h.c2, by simpa using h.c3, by simpa using h.c4, by simpa using h.c5⟩

set_option maxRecDepth 100000 in
set_option maxHeartbeats 2000000 in
theorem same14_any (l : List It) (u v : Value) (A B : Nat) (w : World) (h1 : OwnI w A u l) (h2 : OwnI w B v l) (hl : l.length ≤ 1000000) :
    Calls Tryz.prog 10 #[u, v] w fun e w' => e = .returned (.bool true) ∧ Drawn w w' := by
  obtain ⟨a, c, rfl, hac, h1⟩ := h1.all
  obtain ⟨b, d, rfl, hbd, h2⟩ := h2.all
  have hne : ((l.length : Int) != (l.length : Int)) = false := by simp
  replace h1 := Lib.hid h1
  replace h2 := Lib.hid h2
  go_enter Tryz.func10, Tryz.ntmps10
  go_wp2_with fail
  go_loopw [5] (fun i wr => ∃ k : Nat, i = .int .i64 k ∧ k ≤ l.length ∧ Drawn w wr) (fun i _ => l.length - (intOf i).toNat)
  case atStart => exact ⟨0, rfl, Nat.zero_le _, Drawn.refl _⟩
  case round =>
    obtain ⟨k, rfl, hk, n0, rfl⟩ := hrel
    by_cases hlt : k < l.length
    · have hlt1 : (k : Int) < l.length := by omega
      obtain ⟨g1, rfl, m1⟩ := h1.out k hlt
      obtain ⟨g2, rfl, m2⟩ := h2.out k hlt
      obtain ⟨x0, x1, x2, x3, x4, x5⟩ := m1
      obtain ⟨y0, y1, y2, y3, y4, y5⟩ := m2
      generalize l[k]'hlt = x at *
      obtain ⟨xg, xt, xl, xb, xd, xk⟩ := x
      unfold strV at x0 x1 x2 x3 y0 y1 y2 y3
      simp only at x0 x1 x2 x3 x4 x5 y0 y1 y2 y3 y4 y5
      have hkc : (k : Int) < c := by omega
      have hkd : (k : Int) < d := by omega
      have hkm : (k : Int) + 1 ≤ 9223372036854775807 := by omega
      go_wp2_with fail
      go_quiet (fail)
      go_wp2_with fail
      exact ⟨⟨k + 1, by go_num, by omega, ⟨_, rfl⟩⟩, by simp [intOf]; omega⟩
    · have hlt2 : ¬ ((k : Int) < l.length) := by omega
      go_wp2_with fail
      go_ret
      exact ⟨rfl, ⟨_, rfl⟩⟩

theorem code14_nil (w : World) : Calls Tryz.prog 11 #[.nilIface] w fun e w' => e = .returned (.int .i64 0) ∧ w = w' := by
  go_enter Tryz.func11, Tryz.ntmps11
  go_wp2_with fail
  go_ret
  exact ⟨rfl, rfl⟩
set_option maxHeartbeats 1000000 in
theorem code14_fault (f : Nat) (x : Int) (w : World) (h : FaultAt w f 0 (codeV x)) (h1 : 1 ≤ x) (h2 : x ≤ 15) : Calls Tryz.prog 11 #[faultV f] w fun e w' => e = .returned (.int .i64 x) ∧ w = w' := by
  have hc : w.cell? ⟨f, 1, none⟩ = some (.iface 29 (.int .i64 x)) := ArrAt.cell h 1
  clear h
  unfold faultV
  replace hc := Lib.hid hc
  go_enter Tryz.func11, Tryz.ntmps11
  go_wp2_with fail
  go_loopw [3] (fun i wr => ∃ c : Int, i = .int .i64 c ∧ 1 ≤ c ∧ c ≤ x ∧ wr = w) (fun i _ => (15 - intOf i).toNat)
  case atStart => exact ⟨1, rfl, by omega, h1, rfl⟩
  case round =>
    obtain ⟨c, rfl, hc1, hcx, rfl⟩ := hrel
    have hle : c ≤ 15 := by omega
    have hI := is11_fault f x c _ hc.out
    by_cases e : x = c
    · subst e
      rw [show (x == x) = true from beq_self_eq_true x] at hI
      replace hI := Lib.hid hI
      go_wp2_with fail
      refine hI.out.mono ?_; rintro e w' ⟨rfl, rfl⟩
      go_wp2_with fail
      go_ret
      exact ⟨rfl, rfl⟩
    · rw [show (x == c) = false from by rw [beq_eq_false_iff_ne]; exact e] at hI
      have hlt : c < x := by omega
      replace hI := Lib.hid hI
      replace e := Lib.hid e
      go_wp2_with fail
      refine hI.out.mono ?_; rintro e w' ⟨rfl, rfl⟩
      go_wp2_with fail
      exact ⟨⟨c + 1, by go_num, by omega, by omega, trivial⟩, by simp [intOf]; omega⟩
end Go.Proofs.YtfmlgfeldlnlgaaGreatDoor

/- Layer 14's laws: what is laid; awake. -/
namespace Go.Proofs.YtfmlgfeldlnlgaaGreatDoor
open Go.RowKit

/-- What the listed variables hold. -/
structure Laid14 (w : World) : Prop where
  ty : EnvT w
  dt : Env13 w
theorem Laid14.below {w w' : World} (h : Laid14 w) (hb : Below w.heap.size w w') : Laid14 w' := ⟨h.ty.below hb, h.dt.below hb⟩
theorem items14_doc {l : List Nd} {o : ItsO} {many most : Int} (ho : itsB l r822C many most = o) (hl : l.length ≤ 1000000) (hs : sumT l ≤ 2000000) (P : List (Nd × Value)) (hP : nodes P = l) (v : Value) (w : World) (h : NdSl w v P) (hL : Laid14 w) :
    Calls Tryz.prog 8 #[v, .int .i64 many, .int .i64 most] w (ItsPost w o) := by
  subst ho hP
  rw [nodes_len] at hl
  exact items14_any P v many most w h hl hs hL.dt hL.ty
theorem ItsPost.one {w w' : World} {x : It} {e : Ending} (h : ItsPost w (.its [x]) e w') : ∃ g c, 1 ≤ c ∧ e = .returned (.tuple #[.slice (some ⟨g, 0, none⟩) 1 c, .nilIface]) ∧ ItAt w' g 0 x ∧ Below w.heap.size w w' := by
  obtain ⟨v, h1, h2, h3⟩ := h
  obtain ⟨g, c, rfl, hc, _, hat⟩ := h2.at (j := 0) (by simp)
  exact ⟨g, c, hc, h1, by simpa using hat, h3⟩
theorem ItsPost.no {w w' : World} {q : Int} {e : Ending} (h : ItsPost w (.bad q) e w') : ∃ f, e = .returned (.tuple #[.slice none 0 0, faultV f]) ∧ FaultAt w' f 0 (codeV q) ∧ Below w.heap.size w w' := h
theorem ItAt.next {w w' : World} {b o : Nat} {x : It} (h : ItAt w b o x) (hb : Below w.heap.size w w') : ItAt w' b o x := by
  have hlt := World.block_lt_of_cell? w ⟨b, o, none⟩ h.c0
  have hc : ∀ k, w'.cell? ⟨b, k, none⟩ = w.cell? ⟨b, k, none⟩ := fun k => hb.cell (p := ⟨b, k, none⟩) hlt
  exact ⟨(hc _).trans h.c0, (hc _).trans h.c1, (hc _).trans h.c2, (hc _).trans h.c3, (hc _).trans h.c4, (hc _).trans h.c5⟩

set_option maxRecDepth 100000 in
set_option maxHeartbeats 4000000 in
theorem awake14_any (w : World) (hL : Laid14 w) : Calls Tryz.prog 7 #[] w (LawPost w) := by
  have n1 := Lib.hid (fun W => nodes14_any wake1 W (by decide))
  have n2 := Lib.hid (fun W => nodes14_any wake2 W (by decide))
  have n3 := Lib.hid (fun W => nodes14_any wake3 W (by decide))
  have i1 := Lib.hid (@items14_doc _ _ _ _ wake_one (Nat.le_trans wake_len.1 (by decide)) wake_sum.1)
  have i2 := Lib.hid (@items14_doc _ _ _ _ wake_two (Nat.le_trans wake_len.1 (by decide)) wake_sum.1)
  have i3 := Lib.hid (@items14_doc _ _ _ _ wake_three (Nat.le_trans wake_len.2.1 (by decide)) wake_sum.2.1)
  have i4 := Lib.hid (@items14_doc _ _ _ _ wake_four (Nat.le_trans wake_len.2.2 (by decide)) wake_sum.2.2)
  replace hL := Lib.hid hL
  go_enter Tryz.func7, Tryz.ntmps7
  go_wp2_with fail
  refine (n1.out _).mono ?_
  rintro e w1 ⟨v1, P1, rfl, h1, hP1, hb1⟩
  have j1 := i1.out P1 hP1 v1 w1 h1 (hL.out.below hb1)
  have hlow1 := hb1.size
  obtain ⟨a1, c1, rfl⟩ := h1.form
  replace h1 := Lib.hid h1
  replace hP1 := Lib.hid hP1
  replace hb1 := Lib.hid hb1
  replace j1 := Lib.hid j1
  clear n1 i1
  go_wp2_with fail
  refine j1.out.mono ?_
  rintro e w2 hh
  obtain ⟨g, cg, hcg, rfl, hx, hb2⟩ := hh.one
  clear hh j1
  have h2 := h1.out.next hb2
  have hb12 := hb1.out.andThen hb2
  have j2 := i2.out P1 hP1.out _ w2 h2 (hL.out.below hb12)
  replace hx := Lib.hid hx
  replace hb12 := Lib.hid hb12
  replace j2 := Lib.hid j2
  clear i2 h1 h2 hP1 hb1 hb2
  go_wp2_with fail
  refine j2.out.mono ?_
  rintro e w3 hh
  obtain ⟨f1, rfl, hf1, hb3⟩ := hh.no
  clear hh j2
  replace hx := Lib.hid (hx.out.next hb3)
  replace hb12 := Lib.hid (hb12.out.andThen hb3)
  replace hf1 := Lib.hid hf1
  clear hb3
  go_wp2_with fail
  refine (n2.out _).mono ?_
  rintro e w4 ⟨v4, P4, rfl, h4, hP4, hb4⟩
  clear n2
  replace hx := Lib.hid (hx.out.next hb4)
  replace hb12 := Lib.hid (hb12.out.andThen hb4)
  replace hf1 := Lib.hid (hf1.out.below hb4)
  have j3 := i3.out P4 hP4 _ w4 h4 (hL.out.below hb12.out)
  obtain ⟨a4, c4, rfl⟩ := h4.form
  replace j3 := Lib.hid j3
  clear i3 h4 hP4 hb4
  go_wp2_with fail
  refine j3.out.mono ?_
  rintro e w5 hh
  obtain ⟨f2, rfl, hf2, hb5⟩ := hh.no
  clear hh j3
  replace hx := Lib.hid (hx.out.next hb5)
  replace hb12 := Lib.hid (hb12.out.andThen hb5)
  replace hf1 := Lib.hid (hf1.out.below hb5)
  replace hf2 := Lib.hid hf2
  clear hb5
  go_wp2_with fail
  refine (n3.out _).mono ?_
  rintro e w6 ⟨v6, P6, rfl, h6, hP6, hb6⟩
  clear n3
  replace hx := Lib.hid (hx.out.next hb6)
  replace hb12 := Lib.hid (hb12.out.andThen hb6)
  replace hf1 := Lib.hid (hf1.out.below hb6)
  replace hf2 := Lib.hid (hf2.out.below hb6)
  have j4 := i4.out P6 hP6 _ w6 h6 (hL.out.below hb12.out)
  obtain ⟨a6, c6, rfl⟩ := h6.form
  replace j4 := Lib.hid j4
  clear i4 h6 hP6 hb6
  go_wp2_with fail
  refine j4.out.mono ?_
  rintro e w7 hh
  obtain ⟨f3, rfl, hf3, hb7⟩ := hh.no
  clear hh j4
  replace hx := Lib.hid (hx.out.next hb7)
  replace hb12 := Lib.hid (hb12.out.andThen hb7)
  have k1 := code14_fault f1 6 w7 (hf1.out.below hb7) (by decide) (by decide)
  have k2 := code14_fault f2 7 w7 (hf2.out.below hb7) (by decide) (by decide)
  have k3 := code14_fault f3 5 w7 hf3 (by decide) (by decide)
  obtain ⟨x0, x1, x2, x3, x4, x5⟩ := hx.out
  unfold wakeIt strV at x0 x1 x2 x3
  unfold wakeIt at x4 x5
  simp only [Nat.zero_add] at x0 x1 x2 x3 x4 x5
  replace k1 := Lib.hid k1
  replace k2 := Lib.hid k2
  replace k3 := Lib.hid k3
  clear hf1 hf2 hf3 hb7 hx
  have hc1 : (0 : Int) < cg := by omega
  have hc2 : 0 < cg := by omega
  go_wp2_with fail
  refine k1.out.mono ?_
  rintro e w' ⟨rfl, rfl⟩
  go_wp2_with fail
  refine k2.out.mono ?_
  rintro e w' ⟨rfl, rfl⟩
  go_wp2_with fail
  refine k3.out.mono ?_
  rintro e w' ⟨rfl, rfl⟩
  go_wp2_with fail
  go_ret
  exact ⟨rfl, hb12.out⟩
end Go.Proofs.YtfmlgfeldlnlgaaGreatDoor

/- Layer 14's laws: RssReads, RssTexts, RssFields. -/
namespace Go.Proofs.YtfmlgfeldlnlgaaGreatDoor
open Go.RowKit

theorem gatherB_codes : ∀ (os : List ItO) (acc : List It) (bad : Bool) (q : Int), gatherB os acc bad = .bad q → q = 6 ∨ q = 7
  | [], acc, bad, q, h => by
    unfold gatherB at h
    split at h
    · injection h with h; exact Or.inr h.symm
    · cases h
  | .bad p :: r, acc, bad, q, h => by
    unfold gatherB at h
    split at h
    · injection h with h; exact Or.inl h.symm
    · exact gatherB_codes r acc true q h
  | .it x :: r, acc, bad, q, h => gatherB_codes r (acc ++ [x]) bad q h
theorem gatherB_len : ∀ (os : List ItO) (acc : List It) (bad : Bool) (l : List It), gatherB os acc bad = .its l → l.length ≤ acc.length + os.length
  | [], acc, bad, l, h => by
    unfold gatherB at h
    split at h
    · cases h
    · injection h with h; subst h; simp
  | .bad p :: r, acc, bad, l, h => by
    unfold gatherB at h
    split at h
    · cases h
    · have := gatherB_len r acc true l h; simp; omega
  | .it x :: r, acc, bad, l, h => by have := gatherB_len r (acc ++ [x]) bad l h; simp at this ⊢; omega
theorem itsB_codes {l : List Nd} {R : List UInt8 → Int × Bool} {many most q : Int} (h : itsB l R many most = .bad q) : q = 5 ∨ q = 6 ∨ q = 7 := by
  unfold itsB at h
  split at h
  · injection h with h; exact Or.inl h.symm
  · split at h
    · injection h with h; exact Or.inr (Or.inl h.symm)
    · exact Or.inr (gatherB_codes _ _ _ _ h)
theorem itsB_len {l : List Nd} {R : List UInt8 → Int × Bool} {many most : Int} {x : List It} (h : itsB l R many most = .its x) : x.length ≤ l.length ∧ (x.length : Int) ≤ many := by
  unfold itsB at h
  split at h
  · cases h
  · rename_i c _
    split at h
    · cases h
    · have h1 := gatherB_len _ _ _ _ h
      have h2 := namedB_len l c itemL
      rw [List.length_map] at h1
      simp at h1
      omega
theorem docN_len (dep : Int) (l : List UInt8) : (docN dep l).length ≤ 2 * l.length := by
  unfold docN
  have h1 := (tokR_len dep l).1
  cases hb : buildB (tokR dep l).ts with
  | none => simp
  | some nds =>
    have h2 := (buildB_tree hb).2.2.1
    have h3 : cntB (tokR dep l).ts ≤ (tokR dep l).ts.length := List.countP_le_length
    show nds.length ≤ _
    omega
theorem docN_sum (dep : Int) (l : List UInt8) : sumT (docN dep l) ≤ 4 * l.length := by
  unfold docN
  have h1 := (tokR_len dep l).2
  cases hb : buildB (tokR dep l).ts with
  | none => exact Nat.zero_le _
  | some nds =>
    have h2 := (buildB_tree hb).2.2.2.1
    show sumT nds ≤ _
    omega
theorem ItsPost.good {w w' : World} {l : List It} {e : Ending} (h : ItsPost w (.its l) e w') : ∃ v, e = .returned (.tuple #[v, .nilIface]) ∧ OwnI w' w.heap.size v l ∧ Below w.heap.size w w' := h
theorem RefItsPost.good {w w' : World} {l : List It} {e : Ending} (h : RefItsPost w (.its l) e w') : ∃ v, e = .returned (.tuple #[v, .int .i64 0]) ∧ OwnI w' w.heap.size v l ∧ Below w.heap.size w w' := h
theorem RefItsPost.no {w w' : World} {q : Int} {e : Ending} (h : RefItsPost w (.bad q) e w') : e = .returned (.tuple #[.slice none 0 0, .int .i64 q]) ∧ Below w.heap.size w w' := h

set_option maxRecDepth 100000 in
set_option maxHeartbeats 4000000 in
/-- The law RssReads. -/
theorem reads14_law (P : List (Nd × Value)) (v : Value) (many most : Int) (w : World) (h : NdSl w v P) (hsum : sumT (nodes P) ≤ 1048576) (hL : Laid14 w) :
    Calls Tryz.prog 3 #[v, .int .i64 many, .int .i64 most] w (LawPost w) := by
  obtain ⟨va, vc, rfl⟩ := h.form
  by_cases hlen : 60 < P.length
  · have hl1 : (60 : Int) < P.length := by omega
    have ha := awake14_any w hL
    clear h hL hsum
    replace ha := Lib.hid ha
    go_enter Tryz.func3, Tryz.ntmps3
    go_wp2_with fail
    refine ha.out.mono ?_
    rintro e w1 ⟨rfl, b1⟩
    go_wp2_with fail
    go_ret
    exact ⟨rfl, b1⟩
  have hl1 : ¬ ((60 : Int) < P.length) := by omega
  have hPl : P.length ≤ 1000000 := by omega
  have hS : sumT (nodes P) ≤ 2000000 := by omega
  clear hsum
  obtain ⟨o, ho⟩ : ∃ o, itsB (nodes P) r822C many most = o := ⟨_, rfl⟩
  have hA := items14_any P _ many most _ h hPl hS hL.dt hL.ty
  have hB := fun W (hb : Below w.heap.size w W) => refitems14_any P _ many most W (h.next hb) hPl hS
  simp only [← itsB_alike] at hB
  rw [ho] at hA
  simp only [ho] at hB
  have haw := fun W (hb : Below w.heap.size w W) => awake14_any W (hL.below hb)
  replace haw := Lib.hid haw
  replace hA := Lib.hid hA
  replace hB := Lib.hid hB
  clear h hL hS
  cases o with
  | bad q =>
    have hq := itsB_codes ho
    have hq1 : 1 ≤ q := by omega
    have hq2 : q ≤ 15 := by omega
    have hqq : (q == q) = true := beq_self_eq_true q
    clear ho hq
    go_enter Tryz.func3, Tryz.ntmps3
    go_wp2_with fail
    refine hA.out.mono ?_
    rintro e w2 hh
    obtain ⟨f, rfl, hf, hb2⟩ := hh.no
    clear hh hA
    have hB2 := Lib.hid (hB.out w2 hb2)
    replace hf := Lib.hid hf
    replace hb2 := Lib.hid hb2
    clear hB
    go_wp2_with fail
    refine hB2.out.mono ?_
    rintro e w3 hh
    obtain ⟨rfl, hb3⟩ := hh.no
    clear hh hB2
    replace hf := Lib.hid (hf.out.below hb3)
    replace hb2 := Lib.hid (hb2.out.andThen hb3)
    clear hb3
    go_wp2_with fail
    refine (haw.out w3 hb2.out).mono ?_
    rintro e w4 ⟨rfl, hb4⟩
    replace hf := Lib.hid (hf.out.below hb4)
    replace hb2 := Lib.hid (hb2.out.andThen hb4)
    clear hb4 haw
    go_wp2_with fail
    refine (same14_any [] _ _ 0 0 w4 (World.ownsRow_nil _ _ _ _) (World.ownsRow_nil _ _ _ _) (by decide)).mono ?_
    rintro e w5 ⟨rfl, hd5⟩
    have hc := Lib.hid (code14_fault f q w5 (hf.out.below (hd5.below _)) hq1 hq2)
    replace hb2 := Lib.hid (hb2.out.andThen (hd5.below _))
    clear hd5 hf
    go_wp2_with fail
    refine hc.out.mono ?_
    rintro e w6 ⟨rfl, rfl⟩
    go_wp2_with fail
    go_ret
    exact ⟨rfl, hb2.out⟩
  | its l =>
    have hl := (itsB_len ho).1
    rw [nodes_len] at hl
    clear ho
    go_enter Tryz.func3, Tryz.ntmps3
    go_wp2_with fail
    refine hA.out.mono ?_
    rintro e w2 hh
    obtain ⟨u1, rfl, hu1, hb2⟩ := hh.good
    clear hh hA
    obtain ⟨ua, uc, rfl⟩ := own_form hu1
    have hB2 := Lib.hid (hB.out w2 hb2)
    replace hu1 := Lib.hid hu1
    replace hb2 := Lib.hid hb2
    clear hB
    go_wp2_with fail
    refine hB2.out.mono ?_
    rintro e w3 hh
    obtain ⟨u2, rfl, hu2, hb3⟩ := hh.good
    clear hh hB2
    obtain ⟨ub, ud, rfl⟩ := own_form hu2
    replace hu1 := Lib.hid (ownsRow_below hu1.out hb3)
    replace hb2 := Lib.hid (hb2.out.andThen hb3)
    replace hu2 := Lib.hid hu2
    clear hb3
    go_wp2_with fail
    refine (haw.out w3 hb2.out).mono ?_
    rintro e w4 ⟨rfl, hb4⟩
    have hs := same14_any l _ _ _ _ w4 (ownsRow_below hu1.out hb4) (ownsRow_below hu2.out hb4) (by omega)
    replace hs := Lib.hid hs
    replace hb2 := Lib.hid (hb2.out.andThen hb4)
    clear hb4 haw hu1 hu2
    go_wp2_with fail
    refine hs.out.mono ?_
    rintro e w5 ⟨rfl, hd5⟩
    replace hb2 := Lib.hid (hb2.out.andThen (hd5.below _))
    clear hd5 hs
    go_wp2_with fail
    refine (code14_nil _).mono ?_
    rintro e w6 ⟨rfl, rfl⟩
    go_wp2_with fail
    go_ret
    exact ⟨rfl, hb2.out⟩
set_option maxRecDepth 100000 in
set_option maxHeartbeats 4000000 in
/-- The law RssTexts. -/
theorem texts14_law (s : List UInt8) (many most : Int) (w : World) (hL : Laid14 w) :
    Calls Tryz.prog 4 #[.string ⟨s.toArray⟩, .int .i64 many, .int .i64 most] w (LawPost w) := by
  by_cases hlen : 2000 < s.length
  · have hl1 : (2000 : Int) < s.length := by omega
    have ha := awake14_any w hL
    clear hL
    replace ha := Lib.hid ha
    go_enter Tryz.func4, Tryz.ntmps4
    go_wp2_with fail
    refine ha.out.mono ?_
    rintro e w1 ⟨rfl, b1⟩
    go_wp2_with fail
    go_ret
    exact ⟨rfl, b1⟩
  have hl1 : ¬ ((2000 : Int) < s.length) := by omega
  have hn := nodes14_any s w (by omega)
  have hdl := docN_len 30 s
  have hds := docN_sum 30 s
  generalize docN 30 s = d at hn hdl hds
  replace hn := Lib.hid hn
  replace hL := Lib.hid hL

  go_enter Tryz.func4, Tryz.ntmps4
  go_wp2_with fail
  refine hn.out.mono ?_
  rintro e w1 ⟨v1, P, rfl, h, rfl, hb1⟩
  clear hn
  obtain ⟨va, vc, rfl⟩ := h.form
  rw [nodes_len] at hdl
  have hPl : P.length ≤ 1000000 := by omega
  have hS : sumT (nodes P) ≤ 2000000 := by omega
  have hL1 := hL.out.below hb1
  clear hL
  have hL := hL1
  clear hL1
  replace hb1 := Lib.hid hb1
  obtain ⟨o, ho⟩ : ∃ o, itsB (nodes P) r822C many most = o := ⟨_, rfl⟩
  have hA := items14_any P _ many most _ h hPl hS hL.dt hL.ty
  have hB := fun W (hb : Below w1.heap.size w1 W) => refitems14_any P _ many most W (h.next hb) hPl hS
  simp only [← itsB_alike] at hB
  rw [ho] at hA
  simp only [ho] at hB
  have haw := fun W (hb : Below w1.heap.size w1 W) => awake14_any W (hL.below hb)
  replace haw := Lib.hid haw
  replace hA := Lib.hid hA
  replace hB := Lib.hid hB
  clear h hL hS
  cases o with
  | bad q =>
    have hq := itsB_codes ho
    have hq1 : 1 ≤ q := by omega
    have hq2 : q ≤ 15 := by omega
    have hqq : (q == q) = true := beq_self_eq_true q
    clear ho hq
    go_wp2_with fail
    refine hA.out.mono ?_
    rintro e w2 hh
    obtain ⟨f, rfl, hf, hb2⟩ := hh.no
    clear hh hA
    have hB2 := Lib.hid (hB.out w2 hb2)
    replace hf := Lib.hid hf
    replace hb2 := Lib.hid hb2
    clear hB
    go_wp2_with fail
    refine hB2.out.mono ?_
    rintro e w3 hh
    obtain ⟨rfl, hb3⟩ := hh.no
    clear hh hB2
    replace hf := Lib.hid (hf.out.below hb3)
    replace hb2 := Lib.hid (hb2.out.andThen hb3)
    clear hb3
    go_wp2_with fail
    refine (haw.out w3 hb2.out).mono ?_
    rintro e w4 ⟨rfl, hb4⟩
    replace hf := Lib.hid (hf.out.below hb4)
    replace hb2 := Lib.hid (hb2.out.andThen hb4)
    clear hb4 haw
    go_wp2_with fail
    refine (same14_any [] _ _ 0 0 w4 (World.ownsRow_nil _ _ _ _) (World.ownsRow_nil _ _ _ _) (by decide)).mono ?_
    rintro e w5 ⟨rfl, hd5⟩
    have hc := Lib.hid (code14_fault f q w5 (hf.out.below (hd5.below _)) hq1 hq2)
    replace hb2 := Lib.hid (hb2.out.andThen (hd5.below _))
    clear hd5 hf
    go_wp2_with fail
    refine hc.out.mono ?_
    rintro e w6 ⟨rfl, rfl⟩
    go_wp2_with fail
    go_ret
    exact ⟨rfl, hb1.out.andThen hb2.out⟩
  | its l =>
    have hl := (itsB_len ho).1
    rw [nodes_len] at hl
    clear ho
    go_wp2_with fail
    refine hA.out.mono ?_
    rintro e w2 hh
    obtain ⟨u1, rfl, hu1, hb2⟩ := hh.good
    clear hh hA
    obtain ⟨ua, uc, rfl⟩ := own_form hu1
    have hB2 := Lib.hid (hB.out w2 hb2)
    replace hu1 := Lib.hid hu1
    replace hb2 := Lib.hid hb2
    clear hB
    go_wp2_with fail
    refine hB2.out.mono ?_
    rintro e w3 hh
    obtain ⟨u2, rfl, hu2, hb3⟩ := hh.good
    clear hh hB2
    obtain ⟨ub, ud, rfl⟩ := own_form hu2
    replace hu1 := Lib.hid (ownsRow_below hu1.out hb3)
    replace hb2 := Lib.hid (hb2.out.andThen hb3)
    replace hu2 := Lib.hid hu2
    clear hb3
    go_wp2_with fail
    refine (haw.out w3 hb2.out).mono ?_
    rintro e w4 ⟨rfl, hb4⟩
    have hs := same14_any l _ _ _ _ w4 (ownsRow_below hu1.out hb4) (ownsRow_below hu2.out hb4) (by omega)
    replace hs := Lib.hid hs
    replace hb2 := Lib.hid (hb2.out.andThen hb4)
    clear hb4 haw hu1 hu2
    go_wp2_with fail
    refine hs.out.mono ?_
    rintro e w5 ⟨rfl, hd5⟩
    replace hb2 := Lib.hid (hb2.out.andThen (hd5.below _))
    clear hd5 hs
    go_wp2_with fail
    refine (code14_nil _).mono ?_
    rintro e w6 ⟨rfl, rfl⟩
    go_wp2_with fail
    go_ret
    exact ⟨rfl, hb1.out.andThen hb2.out⟩
set_option maxRecDepth 100000 in
set_option maxHeartbeats 4000000 in
/-- The law RssFields. -/
theorem fields14_law (P : List (Nd × Value)) (v : Value) (i : Int) (nm : List UInt8) (w : World) (h : NdSl w v P) (hsum : sumT (nodes P) ≤ 1048576) (hL : Laid14 w) :
    Calls Tryz.prog 5 #[v, .int .i64 i, .string ⟨nm.toArray⟩] w (LawPost w) := by
  obtain ⟨va, vc, rfl⟩ := h.form
  by_cases hlen : 60 < P.length
  · have hl1 : (60 : Int) < P.length := by omega
    have ha := awake14_any w hL
    clear h hL hsum
    replace ha := Lib.hid ha
    go_enter Tryz.func5, Tryz.ntmps5
    go_wp2_with fail
    refine ha.out.mono ?_
    rintro e w1 ⟨rfl, b1⟩
    go_wp2_with fail
    go_ret
    exact ⟨rfl, b1⟩
  have hl1 : ¬ ((60 : Int) < P.length) := by omega
  have hPl : P.length ≤ 1000000 := by omega
  have hS : sumT (nodes P) ≤ 2000000 := by omega
  clear hsum
  have c1 := fun W (hb : Below w.heap.size w W) => field14_any P _ i nm W (h.next hb) hPl hS
  have c2 := fun W (hb : Below w.heap.size w W) => reffield14_any P _ i nm W (h.next hb) hPl hS
  have c3 := fun W (hb : Below w.heap.size w W) => channel14_any P _ W (h.next hb) hPl
  have c4 := fun W (hb : Below w.heap.size w W) => refchannel14_any P _ W (h.next hb) hPl
  have haw := fun W (hb : Below w.heap.size w W) => awake14_any W (hL.below hb)
  generalize fieldB (nodes P) i nm = o at c1 c2
  generalize chanB (nodes P) = c at c3 c4
  replace c1 := Lib.hid c1
  replace c2 := Lib.hid c2
  replace c3 := Lib.hid c3
  replace c4 := Lib.hid c4
  replace haw := Lib.hid haw
  clear h hL hS
  have hcc : ∀ z : Int, (z == z) = true := beq_self_eq_true
  have hss : ((o.getD []) == (o.getD [])) = true := beq_self_eq_true _
  have hbb : ∀ z : Bool, (z == z) = true := beq_self_eq_true
  go_enter Tryz.func5, Tryz.ntmps5
  go_wp2_with fail
  refine (c1.out w (Below.refl _ _)).mono ?_
  rintro e w1 ⟨rfl, b1⟩
  replace b1 := Lib.hid b1
  go_wp2_with fail
  refine (c2.out w1 b1.out).mono ?_
  rintro e w2 ⟨rfl, b2⟩
  replace b1 := Lib.hid (b1.out.andThen b2)
  clear b2
  go_wp2_with fail
  refine (c3.out w2 b1.out).mono ?_
  rintro e w3 ⟨rfl, b2⟩
  replace b1 := Lib.hid (b1.out.andThen b2)
  clear b2
  go_wp2_with fail
  refine (c4.out w3 b1.out).mono ?_
  rintro e w4 ⟨rfl, b2⟩
  replace b1 := Lib.hid (b1.out.andThen b2)
  clear b2
  go_wp2_with fail
  refine (haw.out w4 b1.out).mono ?_
  rintro e w5 ⟨rfl, b2⟩
  replace b1 := Lib.hid (b1.out.andThen b2)
  clear b2 c1 c2 c3 c4 haw
  cases o <;> cases c
  all_goals
    go_wp2_with fail
    go_ret
    exact ⟨rfl, b1.out⟩
end Go.Proofs.YtfmlgfeldlnlgaaGreatDoor
