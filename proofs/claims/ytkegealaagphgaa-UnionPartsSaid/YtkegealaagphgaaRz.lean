/- A region that draws its order, and whose last operation writes what others of it read: the condition S is asked behind every operation but that last one, z, which waits for all others. -/
import Derived.Deep.RegionHeld
namespace Go.Proofs.Ytkegealaagphgaa

section
variable {P : Program} {ops : Array Oper} {Q : Exit → Act → World → Prop} {md : Region.Mode} {S : World → Prop} {z : Nat}

/-- What is listed has listed what it waits for. -/
def Closed (md : Region.Mode) (ops : Array Oper) (listed : Array Bool) : Prop :=
  ∀ j oj, ops[j]? = some oj → listed.getD j false = true → ∀ e ∈ oj.after, Region.binds md e = true → listed.getD e.on false = true
/-- Operation j waits for i, over others or by itself. -/
def waitsB (md : Region.Mode) (ops : Array Oper) (i : Nat) : Nat → Nat → Bool
  | 0, _ => false
  | n + 1, j => j == i || ((ops[j]?).map fun o => o.after.toList.any fun e => Region.binds md e && waitsB md ops i n e.on).getD false
theorem closed_waits {listed : Array Bool} {i : Nat} (hc : Closed md ops listed) : ∀ n j, waitsB md ops i n j = true → listed.getD j false = true → listed.getD i false = true
  | 0, _, h, _ => by simp [waitsB] at h
  | n + 1, j, h, hj => by
    simp only [waitsB, Bool.or_eq_true] at h
    rcases h with h | h
    · rw [beq_iff_eq] at h; subst h; exact hj
    · cases ho : ops[j]? with
      | none => simp [ho] at h
      | some o =>
        rw [ho] at h
        simp only [Option.map_some, Option.getD_some] at h
        obtain ⟨e, he, hb⟩ := List.any_eq_true.1 h
        rw [Bool.and_eq_true] at hb
        exact closed_waits hc n e.on hb.2 (hc j o ho hj e (Array.mem_toList_iff.1 he) hb.1)
theorem closed_none (n : Nat) : Closed md ops (Array.replicate n false) := fun j _ _ h => by
  exfalso
  rw [Array.getD_eq_getD_getElem?, Array.getElem?_replicate] at h
  split at h <;> simp at h
theorem ready_new {listed : Array Bool} {i : Nat} (hr : i ∈ Region.ready md ops listed) : listed.getD i false = false := by
  have h := (mem_ready.1 hr).1
  rw [Array.getD_eq_getD_getElem?] at h ⊢
  cases hx : listed[i]? with
  | none => rw [hx] at h; simp at h
  | some b => rw [hx] at h; simpa using h
theorem Closed.set {listed : Array Bool} {i : Nat} (hc : Closed md ops listed) (hr : i ∈ Region.ready md ops listed) : Closed md ops (listed.setIfInBounds i true) := fun j oj hj hl e he hb => by
  by_cases hij : i = j
  · subst hij
    obtain ⟨_, o, ho, ha⟩ := mem_ready.1 hr
    rw [hj] at ho
    injection ho with ho
    subst ho
    exact getD_set_true (ha e he hb)
  · rw [getD_set_ne false hij] at hl
    exact getD_set_true (hc j oj hj hl e he hb)
/-- The last one does not come up before i has. -/
theorem last_late {listed : Array Bool} {i n : Nat} (hc : Closed md ops listed) (hne : z ≠ i) (hw : waitsB md ops i n z = true) (hr : i ∈ Region.ready md ops listed) : z ∉ Region.ready md ops listed := fun hz => by
  obtain ⟨_, o, ho, ha⟩ := mem_ready.1 hz
  have hi := ready_new hr
  have : listed.getD i false = true := by
    cases n with
    | zero => simp [waitsB] at hw
    | succ n =>
      simp only [waitsB, Bool.or_eq_true, beq_iff_eq] at hw
      rcases hw with hw | hw
      · exact absurd hw hne
      · rw [ho] at hw
        simp only [Option.map_some, Option.getD_some] at hw
        obtain ⟨e, he, hb⟩ := List.any_eq_true.1 hw
        rw [Bool.and_eq_true] at hb
        exact closed_waits hc n e.on hb.2 (ha e (Array.mem_toList_iff.1 he) hb.1)
  rw [this] at hi
  cases hi

/-- Whatever order is picked from here on, and S holds behind every operation but z. -/
def wpAnyZ (P : Program) (md : Region.Mode) (ops : Array Oper) (Q : Exit → Act → World → Prop) (S : World → Prop) (z : Nat) : Nat → Array Bool → Act → World → Prop
  | 0, listed, a, w => Region.ready md ops listed = [] ∧ Q .normal a w
  | fuel + 1, listed, a, w =>
    (Region.ready md ops listed = [] → Q .normal a w) ∧
    ∀ i ∈ Region.ready md ops listed, wpOp P ops Q i (fun a' w' => (i ≠ z → S w') ∧ wpAnyZ P md ops Q S z fuel (listed.setIfInBounds i true) a' w') a w
theorem wpAny_of_z : ∀ (fuel : Nat) (listed : Array Bool) (a : Act) (w : World), wpAnyZ P md ops Q S z fuel listed a w → wpAny P md ops Q fuel listed a w
  | 0, _, _, _, h => h
  | fuel + 1, _, _, _, h => ⟨h.1, fun i hi => wpOp_mono (fun a' w' h' => wpAny_of_z fuel _ a' w' h'.2) (h.2 i hi)⟩
theorem wpAnyZ_first {i n : Nat} {oi : Oper} {v : Value} (hi : ops[i]? = some oi) (hsel : ∀ (j : Nat) (o : Oper) cs b, ops[j]? = some o → o.op ≠ .select cs b)
    (hQ : ∀ c a w, Q (.panic c) (a.put oi.dst v) w → Q (.panic c) a w) (hne : z ≠ i) (hw : waitsB md ops i n z = true) :
    ∀ (fuel : Nat) (listed : Array Bool) (a : Act) (w : World), Closed md ops listed →
      (∀ j oj, ops[j]? = some oj → j ≠ i → listed.getD j true = false → (∀ e ∈ oj.after, Region.binds md e = true → e.on ≠ i) → oi.apart ops oj = true) →
      i ∈ Region.ready md ops listed → YieldsIf P ops S oi v a → S w →
      wpAnyZ P md ops Q S z fuel (listed.setIfInBounds i true) (a.put oi.dst v) w → wpAnyZ P md ops Q S z (fuel + 1) listed a w := by
  intro fuel
  induction fuel with
  | zero =>
    intro listed a w _ _ hr hy hS H
    refine ⟨fun e => absurd hr (by rw [e]; simp), fun j hj => ?_⟩
    by_cases hji : j = i
    · rw [hji]; exact hy.wpOp hi hS ⟨fun _ => hS, H⟩
    · have hj' := ready_mono hj hji
      rw [H.1] at hj'
      cases hj'
  | succ fuel ih =>
    intro listed a w hc hfree hr hy hS H
    refine ⟨fun e => absurd hr (by rw [e]; simp), fun j hj => ?_⟩
    by_cases hji : j = i
    · rw [hji]; exact hy.wpOp hi hS ⟨fun _ => hS, H⟩
    · have hjz : j ≠ z := fun e => last_late hc hne hw hr (e ▸ hj)
      obtain ⟨hun, oj, hoj, hall⟩ := mem_ready.1 hj
      have hno : ∀ e ∈ oj.after, Region.binds md e = true → e.on ≠ i := fun e he hb e' => by
        have h1 := hall e he hb
        rw [e', ready_new hr] at h1
        cases h1
      refine wpOp_mono (fun a' w' h3 => ⟨fun _ => h3.2.1 hjz, ih (listed.setIfInBounds j true) a' w' (hc.set hj) (fun k ok hk hki hku hko => ?_) (ready_mono hr (Ne.symm hji)) h3.1 (h3.2.1 hjz) (by rw [Array.setIfInBounds_comm _ _ hji]; exact h3.2.2)⟩)
        (wpOp_putIf hoj (hfree j oj hoj hji hun hno) (fun cs b => hsel i oi cs b hi) (fun cs b => hsel j oj cs b hoj) hQ hy (H.2 j (ready_mono hj hji)))
      refine hfree k ok hk hki ?_ hko
      by_cases hjk : j = k
      · rw [← hjk]; exact hun
      · rw [getD_set_ne true hjk] at hku; exact hku

/-- The walk's goal. -/
def ZGo (P : Program) (md : Region.Mode) (ops : Array Oper) (Q : Exit → Act → World → Prop) (S : World → Prop) (z fuel : Nat) (listed : Array Bool) (a : Act) (w : World) : Prop :=
  Closed md ops listed → wpAnyZ P md ops Q S z fuel listed a w
/-- The beginning. -/
theorem zgo_begin {id : Nat} {a : Act} {w : World} (z : Nat) (S : World → Prop) (hm : P.follows .mixedOrders = true) (hS : S w.drew)
    (h : S w.drew → ZGo P .any ops Q S z ops.size (Array.replicate ops.size false) a w.drew) : (Code.region id ops true).wp P Q a w :=
  wp_region_any hm (wpAny_of_z _ _ _ _ (h hS (closed_none _)))
/-- Number i is taken first: it reads alone, under S. -/
theorem zgo_take {fuel : Nat} {listed : Array Bool} {a : Act} {w : World} (i : Nat) {oi : Oper} {v : Value} (hi : ops.toList[i]? = some oi)
    (hs : Region.noSelect ops = true) (hf : Region.free md ops listed i = true) (hr : (Region.ready md ops listed).contains i = true) (hz : (z != i && waitsB md ops i ops.size z) = true)
    (hQ : ∀ c a w, Q (.panic c) (a.put oi.dst v) w → Q (.panic c) a w) (hw : Region.wanted oi (yielded ops a.tmps) = true) (hy : ∀ w, S w → (execOp a.eval oi).run P w = .ok (.value v) w) (hS : S w)
    (h : ZGo P md ops Q S z fuel (listed.setIfInBounds i true) (a.put oi.dst v) w) : ZGo P md ops Q S z (fuel + 1) listed a w := fun hc => by
  rw [Array.getElem?_toList] at hi
  rw [Bool.and_eq_true, bne_iff_ne] at hz
  have hr' : i ∈ Region.ready md ops listed := by simpa using hr
  exact wpAnyZ_first hi (Region.noSelect_spec hs) hQ hz.1 hz.2 fuel listed a w hc (Region.free_spec hi hf) hr' (Or.inl ⟨hw, hy⟩) hS (h (hc.set hr'))
/-- What may come up next, one by one. -/
def ZAll (P : Program) (md : Region.Mode) (ops : Array Oper) (Q : Exit → Act → World → Prop) (S : World → Prop) (z fuel : Nat) (listed : Array Bool) (a : Act) (w : World) (rs : List Nat) : Prop :=
  ∀ i ∈ rs, i ∈ Region.ready md ops listed → Closed md ops listed → wpOp P ops Q i (fun a' w' => (i ≠ z → S w') ∧ wpAnyZ P md ops Q S z fuel (listed.setIfInBounds i true) a' w') a w
theorem ZAll.nil {fuel : Nat} {listed : Array Bool} {a : Act} {w : World} : ZAll P md ops Q S z fuel listed a w [] := fun _ h => by cases h
theorem ZAll.cons {fuel : Nat} {listed : Array Bool} {a : Act} {w : World} {i : Nat} {o : Oper} {rs : List Nat} (ho : ops.toList[i]? = some o)
    (hs : ∀ K' : Act → World → Prop, Shut (∀ a w, S w → (S w → ZGo P md ops Q S z fuel (listed.setIfInBounds i true) a w) → K' a w) → if Region.wanted o (yielded ops a.tmps) = true then Oper.wp P o a w K' Q else K' (a.put o.dst undef) w)
    (h : ZAll P md ops Q S z fuel listed a w rs) : ZAll P md ops Q S z fuel listed a w (i :: rs) := fun j hj hr hc => by
  rcases List.mem_cons.1 hj with rfl | hj
  · rw [Array.getElem?_toList] at ho
    exact wpOp_step ho fun K' hK => hs K' fun a w hS hW => hK a w ⟨fun _ => hS, hW hS (hc.set hr)⟩
  · exact h j hj hr hc
theorem zgo_ready {fuel : Nat} {listed : Array Bool} {a : Act} {w : World} (rs : List Nat) (hr : Region.ready md ops listed = rs) (hne : rs ≠ []) (h : ZAll P md ops Q S z fuel listed a w rs) : ZGo P md ops Q S z (fuel + 1) listed a w :=
  fun hc => ⟨fun e => absurd (hr ▸ e) hne, fun i hi => h i (hr ▸ hi) hi hc⟩
/-- The last one. -/
theorem zgo_last {fuel : Nat} {listed : Array Bool} {a : Act} {w : World} {o : Oper} (hr : Region.ready md ops listed = [z]) (hl : Region.ready md ops (listed.setIfInBounds z true) = []) (ho : ops.toList[z]? = some o)
    (hs : ∀ K' : Act → World → Prop, Shut (∀ a w, Q .normal a w → K' a w) → if Region.wanted o (yielded ops a.tmps) = true then Oper.wp P o a w K' Q else K' (a.put o.dst undef) w) : ZGo P md ops Q S z (fuel + 1) listed a w := fun _ => by
  refine ⟨fun e => absurd (hr ▸ e) (by simp), fun i hi => ?_⟩
  rw [hr] at hi
  rw [List.mem_singleton.1 hi]
  rw [Array.getElem?_toList] at ho
  refine wpOp_step ho fun K' hK => hs K' fun a w hQ => hK a w ⟨fun e => absurd rfl e, ?_⟩
  cases fuel with
  | zero => exact ⟨hl, hQ⟩
  | succ n => exact ⟨fun _ => hQ, by rw [hl]; simp⟩
end
end Go.Proofs.Ytkegealaagphgaa
