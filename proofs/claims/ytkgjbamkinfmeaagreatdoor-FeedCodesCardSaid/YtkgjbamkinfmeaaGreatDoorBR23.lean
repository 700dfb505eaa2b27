/- Layer 13: Rfc822. -/
import Derived.Test.YtkgjbamkinfmeaaGreatDoorBR22
import Derived.Test.YtkgjbamkinfmeaaGreatDoorBR20
import Derived.Test.YtkgjbamkinfmeaaGreatDoorBR02
import Derived.Test.YtkgjbamkinfmeaaGreatDoorBR01
import Derived.Laws.CopyOwn
import Derived.Deep.RegionLaw
import Derived.Lib.AppendZerosOnto
import Derived.Lib.Overlaps
import Derived.Laws.BitsLemmas
import Derived.Test.YtkgjbamkinfmeaaGreatDoorBR17
namespace Go.Proofs.YtkgjbamkinfmeaaGreatDoor
open Go.RowKit

theorem wkF_len (t : List (List UInt8)) (l : List UInt8) : (wkF t l).length ≤ l.length := by
  induction t with
  | nil => exact Nat.le_refl _
  | cons n t ih => rw [wkF_cons]; split; exact trim_len _ _; exact ih
theorem weekdayC_len (s : RSt) : (weekdayC s).1.length ≤ s.1.length := wkF_len _ _
theorem monF_len (t : List (List UInt8)) {l u : List UInt8} {m : Nat} (h : monF t l = some (m, u)) : u.length ≤ l.length := by
  induction t with
  | nil => cases h
  | cons n t ih =>
    rw [monF_cons] at h
    split at h
    · injection h with h; injection h with _ h; subst h; exact trim_len _ _
    · exact ih h
theorem monthC_len (s : RSt) : (monthC s).2.1.length ≤ s.1.length := by
  cases h : monF monthsL s.1 with
  | none => rw [monthC_none h]; exact Nat.le_refl _
  | some p => obtain ⟨m, u⟩ := p; rw [monthC_some h]; exact monF_len _ h
/-- A number, and whether it is one. -/
def OBPost (w : World) (o : Int × Bool) (e : Ending) (w' : World) : Prop := e = .returned (.tuple #[.int .i64 o.1, .bool o.2]) ∧ Below w.heap.size w w'
theorem read_below {w w' : World} {o : Obj} (ht : Turned (fun b => b = w.heap.size) (w.alloc o) w') : Below w.heap.size w w' :=
  ((Below.refl _ _).alloc (Nat.le_refl _) o).trans (ht.below (B := w.heap.size) (fun i _ e => by have : i = w.heap.size := e; omega) (by simp))
/-- The reader's state, and that it alone has turned. -/
def RAt (w0 w : World) (R : Nat) (s : RSt) : Prop := RdC w R s ∧ Turned (fun b => b = R) w0 w
theorem RAt.next {w0 w w' : World} {R : Nat} {s s' : RSt} (h : RAt w0 w R s) (h1 : RdC w' R s') (ht : Turned (fun b => b = R) w w') : RAt w0 w' R s' := ⟨h1, turn_then h.2 ht⟩

set_option maxHeartbeats 1000000 in
theorem rfc822_any (l : List UInt8) (w : World) (hE : Env13 w) (hl : l.length ≤ 100000000) : Calls Tryz.prog 95 #[.string ⟨l.toArray⟩] w (OBPost w (r822C l)) := by
  have hoff := hE.off
  have h0 : RAt (w.alloc (.cells #[.string ⟨l.toArray⟩, .bool false] 182)) (w.alloc (.cells #[.string ⟨l.toArray⟩, .bool false] 182)) w.heap.size (l, false) := ⟨arrAt_new w _ _, Turned.refl _ _⟩
  have hE0 := Lib.hid (hE.below ((Below.refl _ _).alloc (Nat.le_refl _) (.cells #[.string ⟨l.toArray⟩, .bool false] 182)))
  have hfin : ∀ w', Turned (fun b => b = w.heap.size) (w.alloc (.cells #[.string ⟨l.toArray⟩, .bool false] 182)) w' → Below w.heap.size w w' := fun w' ht => read_below ht
  replace h0 := Lib.hid h0
  replace hfin := Lib.hid hfin
  have hW := Lib.hid (fun W (e : Env13 W) (hW : RdC W w.heap.size (l, false)) => weekday13_any w.heap.size (l, false) W e hW)
  obtain ⟨o, ho⟩ : ∃ o, r822C l = o := ⟨_, rfl⟩
  rw [ho]
  unfold r822C at ho
  have l1 : (weekdayC (l, false)).1.length ≤ 100000000 := Nat.le_trans (weekdayC_len (l, false)) hl
  generalize hRe : w.heap.size = R at *
  generalize weekdayC (l, false) = s1 at *
  have hD := Lib.hid (fun W (hW : RdC W R s1) => day13_any R s1 W hW l1)
  have bD := dayC_bd s1
  have l2 := Nat.le_trans (dayC_len s1) l1
  generalize dayC s1 = q at *
  obtain ⟨d, s2⟩ := q
  simp only at hD bD l2
  unfold r822a at ho
  simp only at ho
  have hS1 := Lib.hid (fun W (hW : RdC W R s2) => sign13_any R s2 [32] W hW)
  have l3 := Nat.le_trans (signC_len s2 [32]) l2
  generalize signC s2 [32] = s3 at *
  have hM := Lib.hid (fun W (e : Env13 W) (hW : RdC W R s3) => rmonth13_any R s3 W e hoff hW)
  have bM := monthC_bd s3
  have l4 := Nat.le_trans (monthC_len s3) l3
  generalize monthC s3 = q at *
  obtain ⟨m, s4⟩ := q
  simp only at hM bM l4
  unfold r822b at ho
  simp only at ho
  have hS2 := Lib.hid (fun W (hW : RdC W R s4) => sign13_any R s4 [32] W hW)
  have l5 := Nat.le_trans (signC_len s4 [32]) l4
  generalize signC s4 [32] = s5 at *
  have hY := Lib.hid (fun W (hW : RdC W R s5) => year13_any R s5 W hW l5)
  have bY := yearC_bd s5
  have l6 := Nat.le_trans (yearC_len s5) l5
  generalize yearC s5 = q at *
  obtain ⟨y, s6⟩ := q
  simp only at hY bY l6
  unfold r822d at ho
  simp only at ho
  have hS3 := Lib.hid (fun W (hW : RdC W R s6) => sign13_any R s6 [32] W hW)
  have l7 := Nat.le_trans (signC_len s6 [32]) l6
  generalize signC s6 [32] = s7 at *
  have hH := Lib.hid (fun W (hW : RdC W R s7) => hours13_any R [58] s7 W hW l7)
  have bH := hoursC_bd [58] s7
  have l8 := Nat.le_trans (hoursC_len [58] s7) l7
  generalize hoursC [58] s7 = q at *
  obtain ⟨hr, s8⟩ := q
  simp only at hH bH l8
  unfold r822e at ho
  simp only at ho
  have hK := Lib.hid (fun W (hW : RdC W R s8) => skip13_any R s8 [32] W hW)
  have l9 := Nat.le_trans (skipC_len s8 [32]) l8
  generalize skipC s8 [32] = q at *
  obtain ⟨b, s9⟩ := q
  simp only at hK l9
  unfold r822f at ho
  simp only at ho
  clear hE
  cases b
  · simp only [Bool.false_eq_true, if_false] at ho
    have hC := Lib.hid (fun W (hW : RdC W R s9) => seconds13_any R s9 W hW l9)
    have bC := secondsC_bd s9
    have l10 := Nat.le_trans (secondsC_len s9) l9
    generalize secondsC s9 = q at *
    obtain ⟨c, s10⟩ := q
    simp only at hC bC l10
    have hS4 := Lib.hid (fun W (hW : RdC W R s10) => sign13_any R s10 [32] W hW)
    have l11 := Nat.le_trans (signC_len s10 [32]) l10
    simp only at ho
    generalize signC s10 [32] = s11 at *
    unfold r822g at ho
    simp only at ho
    have hZ := Lib.hid (fun W (hW : RdC W R s11) => zone13_any R s11 W hW l11)
    have bZ := zoneC_bd s11
    generalize zoneC s11 = q at *
    obtain ⟨z, s12⟩ := q
    simp only at hZ bZ ho
    obtain ⟨bZ0, bZ1⟩ := bZ
    have hT := Lib.hid (fun W (hW : RdC W R s12) => date13_any R s12 y m d (((hr + c : Nat) : Int) - z) W hW (by omega) (by omega) (by omega))
    rw [ho] at hT
    clear ho
    rw [show (((hr + c : Nat) : Int) - z) = (hr : Int) + c - z by omega] at hT
    go_enter Tryz.func95, Tryz.ntmps95
    go_wp2_with fail
    refine (hW.out _ hE0.out h0.out.1).mono ?_; rintro e w1 ⟨rfl, x1, t1⟩
    replace h0 := Lib.hid (h0.out.next x1 t1)
    clear x1 t1
    go_wp2_with fail
    refine (hD.out _ h0.out.1).mono ?_; rintro e w2 ⟨rfl, x1, t1⟩
    replace h0 := Lib.hid (h0.out.next x1 t1)
    clear x1 t1
    go_wp2_with fail
    refine (hS1.out _ h0.out.1).mono ?_; rintro e w3 ⟨rfl, x1, t1⟩
    replace h0 := Lib.hid (h0.out.next x1 t1)
    clear x1 t1
    go_wp2_with fail
    refine (hM.out _ (hE0.out.turned h0.out.2 hoff) h0.out.1).mono ?_; rintro e w4 ⟨rfl, x1, t1⟩
    replace h0 := Lib.hid (h0.out.next x1 t1)
    clear x1 t1
    go_wp2_with fail
    refine (hS2.out _ h0.out.1).mono ?_; rintro e w5 ⟨rfl, x1, t1⟩
    replace h0 := Lib.hid (h0.out.next x1 t1)
    clear x1 t1
    go_wp2_with fail
    refine (hY.out _ h0.out.1).mono ?_; rintro e w6 ⟨rfl, x1, t1⟩
    replace h0 := Lib.hid (h0.out.next x1 t1)
    clear x1 t1
    go_wp2_with fail
    refine (hS3.out _ h0.out.1).mono ?_; rintro e w7 ⟨rfl, x1, t1⟩
    replace h0 := Lib.hid (h0.out.next x1 t1)
    clear x1 t1
    go_wp2_with fail
    refine (hH.out _ h0.out.1).mono ?_; rintro e w8 ⟨rfl, x1, t1⟩
    replace h0 := Lib.hid (h0.out.next x1 t1)
    clear x1 t1
    go_wp2_with fail
    refine (hK.out _ h0.out.1).mono ?_; rintro e w9 ⟨rfl, x1, t1⟩
    replace h0 := Lib.hid (h0.out.next x1 t1)
    clear x1 t1
    go_wp2_with fail
    refine (hC.out _ h0.out.1).mono ?_; rintro e w10 ⟨rfl, x1, t1⟩
    replace h0 := Lib.hid (h0.out.next x1 t1)
    clear x1 t1
    go_wp2_with fail
    refine (hS4.out _ h0.out.1).mono ?_; rintro e w11 ⟨rfl, x1, t1⟩
    replace h0 := Lib.hid (h0.out.next x1 t1)
    clear x1 t1
    go_wp2_with fail
    refine (hZ.out _ h0.out.1).mono ?_; rintro e w12 ⟨rfl, x1, t1⟩
    replace h0 := Lib.hid (h0.out.next x1 t1)
    clear x1 t1
    go_wp2_with fail
    refine (hT.out _ h0.out.1).mono ?_; rintro e w13 ⟨rfl, rfl⟩
    go_wp2_with fail
    go_ret2
    exact ⟨rfl, by rw [hRe]; exact hfin.out _ h0.out.2⟩
  · simp only [if_true] at ho
    unfold r822g at ho
    simp only at ho
    have hZ := Lib.hid (fun W (hW : RdC W R s9) => zone13_any R s9 W hW l9)
    have bZ := zoneC_bd s9
    generalize zoneC s9 = q at *
    obtain ⟨z, s12⟩ := q
    simp only at hZ bZ ho
    obtain ⟨bZ0, bZ1⟩ := bZ
    have hT := Lib.hid (fun W (hW : RdC W R s12) => date13_any R s12 y m d ((hr : Int) - z) W hW (by omega) (by omega) (by omega))
    rw [ho] at hT
    clear ho
    go_enter Tryz.func95, Tryz.ntmps95
    go_wp2_with fail
    refine (hW.out _ hE0.out h0.out.1).mono ?_; rintro e w1 ⟨rfl, x1, t1⟩
    replace h0 := Lib.hid (h0.out.next x1 t1)
    clear x1 t1
    go_wp2_with fail
    refine (hD.out _ h0.out.1).mono ?_; rintro e w2 ⟨rfl, x1, t1⟩
    replace h0 := Lib.hid (h0.out.next x1 t1)
    clear x1 t1
    go_wp2_with fail
    refine (hS1.out _ h0.out.1).mono ?_; rintro e w3 ⟨rfl, x1, t1⟩
    replace h0 := Lib.hid (h0.out.next x1 t1)
    clear x1 t1
    go_wp2_with fail
    refine (hM.out _ (hE0.out.turned h0.out.2 hoff) h0.out.1).mono ?_; rintro e w4 ⟨rfl, x1, t1⟩
    replace h0 := Lib.hid (h0.out.next x1 t1)
    clear x1 t1
    go_wp2_with fail
    refine (hS2.out _ h0.out.1).mono ?_; rintro e w5 ⟨rfl, x1, t1⟩
    replace h0 := Lib.hid (h0.out.next x1 t1)
    clear x1 t1
    go_wp2_with fail
    refine (hY.out _ h0.out.1).mono ?_; rintro e w6 ⟨rfl, x1, t1⟩
    replace h0 := Lib.hid (h0.out.next x1 t1)
    clear x1 t1
    go_wp2_with fail
    refine (hS3.out _ h0.out.1).mono ?_; rintro e w7 ⟨rfl, x1, t1⟩
    replace h0 := Lib.hid (h0.out.next x1 t1)
    clear x1 t1
    go_wp2_with fail
    refine (hH.out _ h0.out.1).mono ?_; rintro e w8 ⟨rfl, x1, t1⟩
    replace h0 := Lib.hid (h0.out.next x1 t1)
    clear x1 t1
    go_wp2_with fail
    refine (hK.out _ h0.out.1).mono ?_; rintro e w9 ⟨rfl, x1, t1⟩
    replace h0 := Lib.hid (h0.out.next x1 t1)
    clear x1 t1
    go_wp2_with fail
    refine (hZ.out _ h0.out.1).mono ?_; rintro e w12 ⟨rfl, x1, t1⟩
    replace h0 := Lib.hid (h0.out.next x1 t1)
    clear x1 t1
    go_wp2_with fail
    refine (hT.out _ h0.out.1).mono ?_; rintro e w13 ⟨rfl, rfl⟩
    go_wp2_with fail
    go_ret2
    exact ⟨rfl, by rw [hRe]; exact hfin.out _ h0.out.2⟩
end Go.Proofs.YtkgjbamkinfmeaaGreatDoor

/- Layer 14, plain: an entry of its fields; a part's field; errors.Is of no error. -/
namespace Go.Proofs.YtkgjbamkinfmeaaGreatDoor
open Go.RowKit

theorem spT_bd : ∀ (l : List UInt8) (a g : Bool) (n : Nat), (spT a g n l).length ≤ 2 * l.length
  | [], a, g, n => by rw [spT_nil]; simp
  | c :: t, a, g, n + 1 => by have := spT_bd t a g n; rw [spT, List.length_cons]; omega
  | c :: t, a, g, 0 => by
    rw [spT]
    split
    · have := spT_bd t true false 0
      rw [List.length_append, List.length_cons, List.length_cons]
      split <;> simp <;> omega
    · have := spT_bd t a true (blankN (c :: t) - 1)
      rw [List.length_cons]; omega
theorem cleanB_bd (l : List UInt8) : (cleanB l).length ≤ 8 * l.length := by
  unfold cleanB spB
  have h1 := spT_bd (entB (stripB l)) false false 0
  have h2 := ent_len (stripB l)
  have h3 := strip_len l
  omega
theorem fieldB_bd {l : List Nd} {i : Int} {nm s : List UInt8} (h : fieldB l i nm = some s) : s.length ≤ 8 * sumT l := by
  rw [fieldB_first] at h
  cases hf : firstB l i nm with
  | none => rw [hf] at h; cases h
  | some j =>
    rw [hf] at h
    injection h with h
    subst h
    show (cleanB (textB l j)).length ≤ _
    have := cleanB_bd (textB l j)
    have := textB_len l j
    omega

def guidL : List UInt8 := [103, 117, 105, 100]
def titleL : List UInt8 := [116, 105, 116, 108, 101]
def descL : List UInt8 := [100, 101, 115, 99, 114, 105, 112, 116, 105, 111, 110]
def pubL : List UInt8 := [112, 117, 98, 68, 97, 116, 101]
def itemL : List UInt8 := [105, 116, 101, 109]
/-- The entry of the fields F, where dates are read by R. -/
def oneB (F : List UInt8 → Option (List UInt8)) (R : List UInt8 → Int × Bool) : It where
  guid := (F guidL).getD []
  title := (F titleL).getD []
  link := (F linkL).getD []
  body := (F descL).getD []
  date := match F pubL with | none => 0 | some s => (R s).1
  dated := match F pubL with | none => false | some s => (R s).2
/-- Is the date a wrong one? -/
def lateB (F : List UInt8 → Option (List UInt8)) (R : List UInt8 → Int × Bool) : Bool := match F pubL with | none => false | some s => !(R s).2
/-- An entry, or what is wrong. -/
inductive ItO where
  | bad (q : Int)
  | it (x : It)
def itO (F : List UInt8 → Option (List UInt8)) (R : List UInt8 → Int × Bool) (most : Int) : ItO :=
  if shortB (oneB F R) most = false then .bad 6 else if (oneB F R).guid = [] ∨ lateB F R = true then .bad 7 else .it (oneB F R)
def it0 : It := ⟨[], [], [], [], 0, false⟩
/-- What entry answers. -/
def ItPost (w : World) (o : ItO) (e : Ending) (w' : World) : Prop :=
  match o with
  | .bad q => ∃ f, e = .returned (.tuple #[itV it0, faultV f]) ∧ w.heap.size ≤ f ∧ FaultAt w' f 0 (codeV q) ∧ Below w.heap.size w w'
  | .it x => e = .returned (.tuple #[itV x, .nilIface]) ∧ Below w.heap.size w w'
theorem is14_nil (q : Int) (w : World) : Calls Tryz.prog 15 #[.nilIface, codeV q] w fun e w' => e = .returned (.bool false) ∧ w = w' := by
  unfold codeV
  have he : ∀ W : World, (binOp .eql 27 .nilIface (.iface 30 (.int .i64 q))).run Tryz.prog W = .ok (.bool false) W := fun W => by kernel_rfl
  go_enter Tryz.func15, Tryz.ntmps15
  go_wp2
  go_ret
  exact ⟨rfl, rfl⟩
theorem cell_next {w w' : World} {p : Addr} {v : Value} (h : w.cell? p = some v) (hb : Below w.heap.size w w') : w'.cell? p = some v := (hb.cell (p := p) (World.block_lt_of_cell? w p h)).trans h
end Go.Proofs.YtkgjbamkinfmeaaGreatDoor

/- copy, append and clear on rows of elements of any number of cells: laws for the walk. -/
namespace Go.Proofs.YtkgjbamkinfmeaaGreatDoor
open Go.RowKit
section
variable {P : Program} {w : World} {ops : Array Oper} {rest : List Oper} {o : Oper} {a : Act} {K : Act → World → Prop} {Q : Exit → Act → World → Prop}

theorem run_copy_k (dT sT ty elem : TypeId) (z g off dLen dCap : Nat) (ad : Addr) (sLen sCap : Nat) (cur : List Value) (t : TypeId) (cs : List Value)
    (hu : P.underlying dT = some (.slice elem)) (hs : (P.info? elem).map (·.size) = some z)
    (hg : ArrAt w g t cur) (hn : cs.length = Nat.min sLen dLen * z)
    (hsrc : ∀ j v, cs[j]? = some v → w.cell? (ad.add j) = some v) (hfit : off + cs.length ≤ cur.length) (h1 : ∀ v ∈ cs, v.oneCell' = true) :
    (Builtin.copy_ #[dT, sT] ty #[.slice (some ⟨g, off, none⟩) dLen dCap, .slice (some ad) sLen sCap]).run P w =
      .ok (goInt (Nat.min sLen dLen)) (w.setRow g (splice cur off cs).toArray) := by
  have hl := run_loadCells_list (P := P) w ad cs hsrc
  have hst := run_storeCells_at P g off t cs 0 cur.toArray w hg (by simpa using hfit) h1
  rw [hn] at hl
  cases hq : P.info? elem with
  | none => simp [hq] at hs
  | some i =>
    have hi : i.size = z := by simpa [hq] using hs
    simp [Builtin.copy_, run_underlying hu, Builtin.lenOf, Builtin.firstCells, sizeOf, typeInfo, hq, hi, hl, hst, splice]

theorem wp_copy_k (d s : Operand) (dT sT : TypeId) (ho : o.op = .call { callee := .builtin .copy, args := #[d, s], argTypes := #[dT, sT] }) (elem : TypeId) (z : Nat) (hu : P.underlying dT = some (.slice elem)) (hsz : (P.info? elem).map (·.size) = some z)
    (g off dLen dCap : Nat) (ad : Addr) (sLen sCap : Nat) (hd : a.eval d = .slice (some ⟨g, off, none⟩) dLen dCap) (hs : a.eval s = .slice (some ad) sLen sCap)
    (cur : List Value) (t : TypeId) (hg : ArrAt w g t cur) (cs : List Value) (hn : cs.length = Nat.min sLen dLen * z)
    (hsrc : ∀ j v, cs[j]? = some v → w.cell? (ad.add j) = some v) (hfit : off + cs.length ≤ cur.length) (h1 : ∀ v ∈ cs, v.oneCell' = true)
    (h : ∀ w', Hid (ArrAt w' g t (splice cur off cs)) → w.grownBy w' (some g) → K (a.put o.dst (goInt (Nat.min sLen dLen))) w') : o.wp P a w K Q := by
  have hrun := run_copy_k (P := P) dT sT o.type elem z g off dLen dCap ad sLen sCap cur t cs hu hsz hg hn hsrc hfit h1
  unfold Oper.wp
  simp [execOp, ho, resolve, invoke, builtin, hd, hs, hrun, Result.andThen]
  exact h _ (setRow_heap w g _ _ t _ hg) (grown_setRow w g _)
theorem wpList_copy_k (hgd : o.guard = none) (d s : Operand) (dT sT : TypeId) (ho : o.op = .call { callee := .builtin .copy, args := #[d, s], argTypes := #[dT, sT] }) (elem : TypeId) (z : Nat) (hu : P.underlying dT = some (.slice elem)) (hsz : (P.info? elem).map (·.size) = some z)
    (g off dLen dCap : Nat) (ad : Addr) (sLen sCap : Nat) (hd : a.eval d = .slice (some ⟨g, off, none⟩) dLen dCap) (hs : a.eval s = .slice (some ad) sLen sCap)
    (cur : List Value) (t : TypeId) (hg : ArrAt w g t cur) (cs : List Value) (hn : cs.length = Nat.min sLen dLen * z)
    (hsrc : ∀ j v, cs[j]? = some v → w.cell? (ad.add j) = some v) (hfit : off + cs.length ≤ cur.length) (h1 : ∀ v ∈ cs, v.oneCell' = true)
    (h : ∀ w', Hid (ArrAt w' g t (splice cur off cs)) → w.grownBy w' (some g) → wpList P ops Q rest (a.put o.dst (goInt (Nat.min sLen dLen))) w') : wpList P ops Q (o :: rest) a w :=
  wpList_plain hgd fun _ hK => wp_copy_k d s dT sT ho elem z hu hsz g off dLen dCap ad sLen sCap hd hs cur t hg cs hn hsrc hfit h1 fun w' h2 h3 => hK _ _ (h w' h2 h3)
theorem step_copy_k {E : Prop} (hgd : o.guard = none) (d s : Operand) (dT sT : TypeId) (ho : o.op = .call { callee := .builtin .copy, args := #[d, s], argTypes := #[dT, sT] }) (elem : TypeId) (z : Nat) (hu : P.underlying dT = some (.slice elem)) (hsz : (P.info? elem).map (·.size) = some z)
    (g off dLen dCap : Nat) (ad : Addr) (sLen sCap : Nat) (hd : a.eval d = .slice (some ⟨g, off, none⟩) dLen dCap) (hs : a.eval s = .slice (some ad) sLen sCap)
    (cur : List Value) (t : TypeId) (hg : ArrAt w g t cur) (cs : List Value) (hn : cs.length = Nat.min sLen dLen * z)
    (hsrc : ∀ j v, cs[j]? = some v → w.cell? (ad.add j) = some v) (hfit : off + cs.length ≤ cur.length) (h1 : ∀ v ∈ cs, v.oneCell' = true)
    (h : ∀ w', Hid (ArrAt w' g t (splice cur off cs)) → w.grownBy w' (some g) → K (a.put o.dst (goInt (Nat.min sLen dLen))) w') :
    if Region.wanted o (yielded ops a.tmps) = true then Oper.wp P o a w K Q else E := by
  rw [if_pos (by simp [Region.wanted, hgd])]
  exact wp_copy_k d s dT sT ho elem z hu hsz g off dLen dCap ad sLen sCap hd hs cur t hg cs hn hsrc hfit h1 h

/-- append within a row that has room. -/
theorem step_append_k {E : Prop} (hgd : o.guard = none) (s x : Operand) (t : TypeId) (ho : o.op = .call { callee := .builtin .append, args := #[s, x], argTypes := #[t, t] })
    (e : TypeId) (i : TypeInfo) (z : Nat) (hu : P.underlying t = some (.slice e)) (hi : P.info? e = some i) (hz : i.size = z)
    (g n cap : Nat) (hs : a.eval s = .slice (some ⟨g, 0, none⟩) n cap) (ad : Addr) (m c : Nat) (news : List Value) (hx : a.eval x = .slice (some ad) m c) (hn : news.length = m * z)
    (hsrc : ∀ j v, news[j]? = some v → w.cell? (ad.add j) = some v) (h1 : ∀ v ∈ news, v.oneCell' = true)
    (cur : List Value) (te : TypeId) (hg : ArrAt w g te cur) (N off : Nat) (hN : n + m = N) (hoff : off = n * z) (hroom : N ≤ cap) (hfit : off + news.length ≤ cur.length)
    (h : ∀ w', Hid (ArrAt w' g te (splice cur off news)) → w.grownBy w' (some g) → K (a.put o.dst (.slice (some ⟨g, 0, none⟩) N cap)) w') :
    if Region.wanted o (yielded ops a.tmps) = true then Oper.wp P o a w K Q else E := by
  rw [if_pos (by simp [Region.wanted, hgd])]
  subst hz hN hoff
  have hspare : ∀ j, j < news.length → w.cell? ⟨g, 0 + n * i.size + j, none⟩ = some (cur.getD (n * i.size + j) undef) := fun j hj => by
    rw [Nat.zero_add, hg.cell, List.getElem?_eq_getElem (by omega)]; simp [List.getD, List.getElem?_eq_getElem (show n * i.size + j < cur.length by omega)]
  have hrun := run_append_room_cells (P := P) w t o.type e i hu hi g 0 n cap ad m c news hn hsrc h1 hroom (fun j hj => by rw [hspare j hj]; rfl) (fun j hj => hg.soft _)
  have hsp : w.setCells g (0 + n * i.size) news = w.setRow g (splice cur (n * i.size) news).toArray := by
    have h1 := run_storeCells_at P g (n * i.size) te news 0 cur.toArray w hg (by simpa using hfit) h1
    have h2 := run_storeCells_cells (P := P) g (n * i.size) news 0 w (fun j hj => by rw [Nat.add_zero, hg.cell, List.getElem?_eq_getElem (by omega)]; rfl) (fun j hj => hg.soft _) ‹_›
    rw [h2] at h1
    injection h1 with _ h1
    simpa [splice] using h1
  unfold Oper.wp
  simp [execOp, ho, resolve, invoke, builtin, hs, hx, hrun, Result.andThen]
  rw [Nat.zero_add] at hsp
  rw [hsp]
  exact h _ (setRow_heap w g _ _ te _ hg) (grown_setRow w g _)

/-- clear of a part of a row. -/
theorem wpList_clear_k (hgd : o.guard = none) (x : Operand) (t : TypeId) (ho : o.op = .call { callee := .builtin .clear, args := #[x], argTypes := #[t] })
    (e : TypeId) (zv : Value) (hu : P.underlying t = some (.slice e)) (hv : ∀ w, (zeroValue e).run P w = .ok zv w) (g off n c : Nat) (h1 : ∀ v ∈ (Builtin.zeroCells zv.cells n).toList, v.oneCell' = true)
    (hx : a.eval x = .slice (some ⟨g, off, none⟩) n c) (h0 : 0 < n) (cur : List Value) (te : TypeId) (hg : ArrAt w g te cur) (hfit : off + (Builtin.zeroCells zv.cells n).toList.length ≤ cur.length)
    (h : ∀ w', Hid (ArrAt w' g te (splice cur off (Builtin.zeroCells zv.cells n).toList)) → w.grownBy w' (some g) → wpList P ops Q rest (a.put o.dst (.tuple #[])) w') : wpList P ops Q (o :: rest) a w := by
  refine wpList_plain hgd fun K hK => ?_
  have hst := run_storeCells_at P g off te (Builtin.zeroCells zv.cells n).toList 0 cur.toArray w hg (by simpa using hfit) h1
  obtain ⟨m, rfl⟩ : ∃ m, n = m + 1 := ⟨n - 1, by omega⟩
  have hrun : (Builtin.clear_ #[t] o.type #[.slice (some ⟨g, off, none⟩) (m + 1) c]).run P w = .ok (.tuple #[]) (w.setRow g (splice cur off (Builtin.zeroCells zv.cells (m + 1)).toList).toArray) := by
    simp [Builtin.clear_, run_underlying hu, hv, hst, splice]
  unfold Oper.wp
  simp only [execOp, ho, resolve, invoke, builtin, Sem.run_bind, Sem.run_pure, Result.andThen_ok, List.map_toArray, List.map_cons, List.map_nil, hx, hrun]
  exact hK _ _ (h _ (setRow_heap w g _ _ te _ hg) (grown_setRow w g _))

/-- append(s[:i], make([]E, k)...) where there is no room: a new row. -/
theorem wpList_append_zeros (hgd : o.guard = none) (s x : Operand) (t tn : TypeId) (ho : o.op = .call { callee := .builtin .append, args := #[s, x], argTypes := #[t, tn] })
    (e : TypeId) (i : TypeInfo) (zv : Value) (z : Nat) (kn : IntKind) (hu : P.underlying t = some (.slice e)) (htn : P.underlying tn = some (.int kn)) (hi : P.info? e = some i) (hzv : i.zero = some zv) (hz : i.size = z) (hzc : zv.cells.size = z) (h0 : 0 < z)
    (ad : Addr) (n cap : Nat) (hs : a.eval s = .slice (some ad) n cap) (olds : List Value) (hol : olds.length = n * z) (hold : ∀ j v, olds[j]? = some v → w.cell? (ad.add j) = some v)
    (k : Nat) (kq : IntKind) (y : Int) (hx : a.eval x = .int kq y) (hy : y = k) (hk : 0 < k) (N H : Nat) (hN : n + k = N) (hH : w.heap.size = H) (hg : cap < N) (hbig : N * i.bytes ≤ 140737488355328) (h63 : N ≤ 9223372036854775807)
    (h : ∀ (G : Nat) (tail : List Value) w', N ≤ G → G ≤ maxLen → Hid ((olds ++ tail).length = G * z) → Hid (ArrAt w' H e (olds ++ tail)) → Below H w w' → H < w'.heap.size → wpList P ops Q rest (a.put o.dst (.slice (some ⟨H, 0, none⟩) N G)) w') :
    wpList P ops Q (o :: rest) a w := by
  subst hz hy hN hH
  have hf : (Builtin.firstCells i.size n (.slice (some ad) n cap)).run P w.drew = .ok olds.toArray w.drew := run_firstCells_some w.drew i.size n ad n cap olds hol hold
  have hrun := Lib.run_append_grow_zeros w t tn o.type e i zv kq kn hu htn hi hzv (some ad) n cap olds hf k hk h0 hg (by omega) (Nat.le_trans (Nat.mul_le_mul_right _ (Nat.le_add_left k n)) (Nat.le_trans hbig (by decide))) (growslice_fits hg hbig)
  have hge := grownCap_ge w (n + k) cap e
  have hcm : grownCap w (n + k) cap e ≤ maxLen := grownCap_le_maxLen w (n + k) cap e (by unfold maxLen; omega)
  refine Lib.wpList_append_run w hgd s x t tn ho _ _ hs hx _ _ hrun (h _ ((Builtin.zeroCells zv.cells k).toList ++ (Builtin.zeroCells zv.cells (grownCap w (n + k) cap e - (n + k))).toList) _ hge hcm ?_ ?_ ?_ ?_)
  · show _ = _
    simp only [List.length_append, Array.length_toList, size_zeroCells, hzc, hol, ← Nat.add_mul]
    congr 1; omega
  · show _ = _
    rw [show (olds ++ ((Builtin.zeroCells zv.cells k).toList ++ (Builtin.zeroCells zv.cells (grownCap w (n + k) cap e - (n + k))).toList)).toArray = olds.toArray ++ Builtin.zeroCells zv.cells k ++ Builtin.zeroCells zv.cells (grownCap w (n + k) cap e - (n + k)) by simp]
    exact heap_alloc_new w.drew _
  · exact (Below.refl _ _).drew.alloc (Nat.le_refl _) _
  · simp
end

/-- The model's slices.overlaps where the first slice is a row of one element just laid, in another block. -/
theorem run_overlaps_row {P : Program} (w : World) (tS tR e : TypeId) (ht : P.underlying tS = some (.slice e)) (z : Nat) (hz : ∀ w, (Go.sizeOf e).run P w = .ok z w) (g h off la ca lb cb : Nat) (cg ch : List Value) (tg th : TypeId)
    (hg : ArrAt w g tg cg) (hh : ArrAt w h th ch) (hne : h ≠ g) (h0 : cg ≠ []) :
    (Extern.SlicesOverlaps.overlaps #[tS, tS] #[tR] #[.slice (some ⟨h, 0, none⟩) la ca, .slice (some ⟨g, off, none⟩) lb cb]).run P w = .ok (.bool false) w :=
  Lib.run_overlaps_apart w tS tR e ht z hz ⟨h, 0, none⟩ ⟨g, off, none⟩ la ca lb cb hne th tg ch.length cg.length (by unfold ArrAt at hh; simp [World.shape?, hh]) (by unfold ArrAt at hg; simp [World.shape?, hg]) (by simpa using h0) (hh.soft 0) (hh.soft _)
end Go.Proofs.YtkgjbamkinfmeaaGreatDoor

/- slices.Repeat of one number. -/
namespace Go.Proofs.YtkgjbamkinfmeaaGreatDoor
open Go.RowKit

set_option maxHeartbeats 1000000 in
theorem mul64_one (n : Nat) (w : World) (hn : n ≤ 10000000) : Calls Tryz.prog 202 #[.int .u64 1, .int .u64 n] w fun e w' => e = .returned (.tuple #[.int .u64 0, .int .u64 n]) ∧ w = w' := by
  have hm : (n : Int) % 4294967296 = n := by omega
  have hd : (n : Int) / 4294967296 = 0 := by omega
  have w64 : ∀ z : Int, 0 ≤ z → z < 2 ^ 63 → IntKind.u64.wrap z = z := fun z h0 h1 => by rw [IntKind.wrap_u64]; omega
  have m0 : bits .and .u64 1 4294967295 = 1 := by have := bits_mask .u64 63 (by decide) w64 32 (by decide) 1 (by omega) (by omega); simpa using this
  have m1 : bits .and .u64 (n : Int) 4294967295 = n := by have := bits_mask .u64 63 (by decide) w64 32 (by decide) (n : Int) (by omega) (by omega); simp at this; omega
  have m2 : bits .and .u64 0 4294967295 = 0 := by have := bits_mask .u64 63 (by decide) w64 32 (by decide) 0 (by omega) (by omega); simpa using this
  clear w64
  go_enter Tryz.func202, Tryz.ntmps202
  go_wp2_with fail
  go_ret2
  exact ⟨rfl, rfl⟩
set_option maxHeartbeats 1000000 in
theorem mul_one (n : Nat) (w : World) (hn : n ≤ 10000000) : Calls Tryz.prog 188 #[.int .u64 1, .int .u64 n] w fun e w' => e = .returned (.tuple #[.int .u64 0, .int .u64 n]) ∧ w = w' := by
  go_enter Tryz.func188, Tryz.ntmps188
  go_wp2_with fail
  refine (mul64_one n _ hn).mono ?_; rintro e w' ⟨rfl, rfl⟩
  go_wp2_with fail
  go_ret2
  exact ⟨rfl, rfl⟩
/-- m numbers v, and zeroes behind them. -/
def fillV (n m : Nat) (v : Value) : List Value := List.replicate m v ++ List.replicate (n - m) (.int .i64 0)
theorem fillV_len {n m : Nat} {v : Value} (h : m ≤ n) : (fillV n m v).length = n := by unfold fillV; simp; omega
theorem fillV_at {n m j : Nat} {v : Value} (h : j < m) : (fillV n m v)[j]? = some v := by
  unfold fillV
  rw [List.getElem?_append_left (by simpa using h)]
  simp [h]
theorem fillV_put {n m q : Nat} {v : Value} (h : m + q ≤ n) : splice (fillV n m v) m (List.replicate q v) = fillV n (m + q) v := by
  unfold splice fillV
  have e : List.replicate (m + q) v = List.replicate m v ++ List.replicate q v := by
    rw [List.replicate_append_replicate]
  rw [List.take_left' (by simp), List.length_replicate, List.drop_append, List.drop_eq_nil_of_le (by simp), List.nil_append, List.length_replicate, List.drop_replicate, e, List.append_assoc]
  congr 3
  omega

set_option maxRecDepth 100000 in
set_option maxHeartbeats 4000000 in
theorem repeat_any (x : Int) (n c : Nat) (b off : Nat) (w : World) (h0 : 0 < n) (hn : n ≤ 10000000) (hx : w.cell? ⟨b, off, none⟩ = some (.int .i64 x)) :
    Calls Tryz.prog 164 #[.slice (some ⟨b, off, none⟩) 1 c, .int .i64 n] w fun e w' => ∃ g, e = .returned (.slice (some ⟨g, 0, none⟩) n n) ∧ ArrAt w' g 3 (List.replicate n (.int .i64 x)) ∧ w.heap.size ≤ g ∧ Below w.heap.size w w' := by
  have hmk := run_make_row (P := Tryz.prog) 84 3 (.int .i64 0) 8 Tryz.underlying84 info_int rfl n n rfl (by omega) (by omega)
  have hbw := World.block_lt_of_cell? w ⟨b, off, none⟩ hx
  have hmul := fun W : World => mul_one n W hn
  have hn0 : ¬ ((n : Int) < 0) := by omega
  have hn1 : ¬ (9223372036854775807 < (n : Int)) := by omega
  have hn2 : (0 : Int) ≤ n := by omega
  have hn3 : (n : Int) ≤ 9223372036854775807 := by omega
  have hsz : (Tryz.prog.info? 3).map (·.size) = some 1 := by kernel_rfl
  replace hmul := Lib.hid hmul
  replace hsz := Lib.hid hsz
  go_enter Tryz.func164, Tryz.ntmps164
  go_wp2_with fail
  refine (hmul.out _).mono ?_; rintro e w' ⟨rfl, rfl⟩
  have hg := arrAt_new w 3 (List.replicate n (Value.int .i64 0))
  rw [List.toArray_replicate] at hg
  have hbg : Below w.heap.size w (w.alloc (.cells (Array.replicate n (Value.int .i64 0)) 3)) := (Below.refl _ _).alloc (Nat.le_refl _) _
  have hx1 := (hbg.cell (p := ⟨b, off, none⟩) hbw).trans hx
  have hsrc0 : ∀ (j : Nat) (v : Value), [Value.int .i64 x][j]? = some v → (w.alloc (.cells (Array.replicate n (Value.int .i64 0)) 3)).cell? ((⟨b, off, none⟩ : Addr).add j) = some v := fun j v hj => by
    match j, hj with
    | 0, hj =>
      injection hj with hj
      subst hj
      have hadd : (⟨b, off, none⟩ : Addr).add 0 = ⟨b, off, none⟩ := by unfold Addr.add; split <;> simp_all
      rw [hadd]; exact hx1
    | j + 1, hj => simp at hj
  replace hsrc0 := Lib.hid hsrc0
  have hlen0 : Hid ([Value.int .i64 x].length = Nat.min 1 n * 1) := by
    have e : Nat.min 1 n = 1 := Nat.min_eq_left h0
    show _ = _
    rw [e]; rfl
  have hfit0 : Hid (0 + [Value.int .i64 x].length ≤ (List.replicate n (Value.int .i64 0)).length) := by show _ ≤ _; simp; omega
  have hone0 : Hid (∀ v ∈ [Value.int .i64 x], v.oneCell' = true) := by intro u hu; simp at hu; subst hu; rfl
  replace hg := Lib.hid hg
  replace hbg := Lib.hid hbg
  replace hx1 := Lib.hid hx1
  clear hmul hx
  go_wp2_with (with_reducible refine wpList_copy_k rfl (.tmp 31) (.tmp 32) 84 84 rfl 3 1 Tryz.underlying84 hsz.out w.heap.size 0 n n ⟨b, off, none⟩ 1 c rfl rfl (List.replicate n (Value.int .i64 0)) 3 hg.out [Value.int .i64 x] hlen0.out hsrc0.out hfit0.out hone0.out ?_)
  intro w2 hg2 hgr2
  have hb2 := Lib.hid ((hbg.out).grown hgr2 (by simp) (fun k hk => by injection hk with hk; omega))
  have hg3 : Hid (ArrAt w2 w.heap.size 3 (fillV n 1 (.int .i64 x))) := by
    have e : splice (List.replicate n (Value.int .i64 0)) 0 [Value.int .i64 x] = fillV n 1 (.int .i64 x) := by
      have := fillV_put (n := n) (m := 0) (q := 1) (v := .int .i64 x) (by omega)
      simpa [fillV] using this
    rw [← e]; exact hg2
  have hmin : Nat.min 1 n = 1 := Nat.min_eq_left h0
  rw [hmin]
  clear hg2 hgr2 hg hbg hx1 hmk hmin
  go_wp2_with fail
  go_loopw [8] (fun i wr => ∃ m : Nat, i = .int .i64 m ∧ 1 ≤ m ∧ m ≤ n ∧ Hid (ArrAt wr w.heap.size 3 (fillV n m (.int .i64 x))) ∧ Hid (Below w.heap.size w wr)) (fun i _ => n - (intOf i).toNat)
  case atStart => exact ⟨1, rfl, Nat.le_refl _, h0, hg3, hb2⟩
  case round =>
    clear hg3 hb2
    obtain ⟨m, rfl, hm1, hmn, hr, hb⟩ := hrel
    by_cases hlt : m < n
    · have hlt1 : (m : Int) < n := by omega
      have j0 : (0 : Int) ≤ m := by omega
      have j1 : (m : Int) ≤ n := by omega
      obtain ⟨q, hq⟩ : ∃ q, Nat.min m (n - m) = q := ⟨_, rfl⟩
      have hq1 : q ≤ m ∧ q ≤ n - m ∧ 1 ≤ q := by rw [← hq]; simp only [Nat.min_def]; split <;> omega
      have hlen := fillV_len (v := .int .i64 x) hmn
      have hrd := hr.out.drawn (drawn_drew _)
      have hsrc : ∀ (j : Nat) (v : Value), (List.replicate q (Value.int .i64 x))[j]? = some v → wr.drew.cell? ((⟨w.heap.size, 0, none⟩ : Addr).add j) = some v := fun j v hj => by
        have hjq : j < q := by have := (List.getElem?_eq_some_iff.1 hj).1; simpa using this
        have hadd : (⟨w.heap.size, 0, none⟩ : Addr).add j = ⟨w.heap.size, j, none⟩ := by unfold Addr.add; split <;> simp_all
        rw [hadd, hrd.cell, fillV_at (by omega)]
        rw [List.getElem?_replicate, if_pos hjq] at hj
        exact hj
      replace hrd := Lib.hid hrd
      replace hsrc := Lib.hid hsrc
      go_wp2_with fail
      go_region_law (refine step_copy_k rfl (.tmp 41) (.tmp 44) 84 84 rfl 3 1 Tryz.underlying84 hsz.out w.heap.size m (n - m) (n - m) ⟨w.heap.size, 0, none⟩ m n (by simp [Act.eval, Act.put]; omega) (by simp [Act.eval, Act.put]) (fillV n m (.int .i64 x)) 3 hrd.out (List.replicate q (Value.int .i64 x)) (by rw [hq]; simp) hsrc.out (by rw [hlen]; simp; omega) (by intro u hu; rw [List.mem_replicate] at hu; rw [hu.2]; rfl) ?_; intro w3 hg3 hgr3; rw [hq])
      all_goals
        have hg4 : Hid (ArrAt w3 w.heap.size 3 (fillV n (m + q) (.int .i64 x))) := by
          rw [← fillV_put (by omega)]; exact hg3
        have hb3 := Lib.hid (((hb.out.trans ((drawn_drew _).below _))).grown hgr3 (by have := hr.out.lt; simp; omega) (fun k hk => by injection hk with hk; omega))
        clear hg3 hgr3
        have hwr : IntKind.i64.wrap ((m : Int) + q) = (m : Int) + q := by rw [IntKind.wrap_i64]; omega
        replace hq := Lib.hid hq
        replace hlen := Lib.hid hlen
        go_wp2_with fail
        exact ⟨⟨m + q, by simp, by omega, by omega, hg4⟩, by simp [intOf]; omega⟩
    · have hlt1 : ¬ ((m : Int) < n) := by omega
      obtain rfl : m = n := by omega
      go_wp2_with fail
      go_ret
      exact ⟨_, rfl, by have := hr.out; unfold fillV at this; simpa using this, Nat.le_refl _, hb.out⟩
end Go.Proofs.YtkgjbamkinfmeaaGreatDoor
