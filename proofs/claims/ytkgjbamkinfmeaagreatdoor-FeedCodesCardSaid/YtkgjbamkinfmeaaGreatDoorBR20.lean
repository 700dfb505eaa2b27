/- Layer 14: first, Field, Channel, Short, fault; the reference's Field, Channel, Short. -/
import Derived.Test.YtkgjbamkinfmeaaGreatDoorBR18
import Derived.Test.YtkgjbamkinfmeaaGreatDoorBR19
import Derived.Test.YtkgjbamkinfmeaaGreatDoorBR02
import Derived.Test.YtkgjbamkinfmeaaGreatDoorBR01
namespace Go.Proofs.YtkgjbamkinfmeaaGreatDoor
open Go.RowKit

/-- The place of the first kid of a name. -/
def firstB (l : List Nd) (i : Int) (nm : List UInt8) : Option Int := (namedB l i nm).head?
def FstPost (w : World) (o : Option Int) (e : Ending) (w' : World) : Prop := e = .returned (.tuple #[.int .i64 (o.getD 0), .bool o.isSome]) ∧ Below w.heap.size w w'
def FldPost (w : World) (o : Option (List UInt8)) (e : Ending) (w' : World) : Prop := e = .returned (.tuple #[.string ⟨(o.getD []).toArray⟩, .bool o.isSome]) ∧ Below w.heap.size w w'
theorem fieldB_first (l : List Nd) (i : Int) (nm : List UInt8) : fieldB l i nm = (firstB l i nm).map fun j => cleanB (textB l j) := by
  unfold fieldB firstB
  cases namedB l i nm <;> rfl
theorem FldPost.mk {w w' : World} {o : Option (List UInt8)} {e : Ending} (x : List UInt8) (b : Bool) (h1 : o.getD [] = x) (h2 : o.isSome = b) (he : e = .returned (.tuple #[.string ⟨x.toArray⟩, .bool b])) (hb : Below w.heap.size w w') : FldPost w o e w' := by subst h1 h2; exact ⟨he, hb⟩
/-- The first of numbers that can be read. -/
theorem rd_first {w : World} {v : Value} {xs : List Int} (h : RdSl .i64 w v xs) : (xs = [] ∧ ∃ a c, v = .slice a 0 c) ∨ ∃ x r b off c, xs = x :: r ∧ v = .slice (some ⟨b, off, none⟩) (r.length + 1) c ∧ w.cell? ⟨b, off, none⟩ = some (.int .i64 x) := by
  rcases h.sl with ⟨h1, a, c, h2⟩ | ⟨b, off, c, hv, hc⟩
  · exact Or.inl ⟨h1, a, c, h2⟩
  · cases xs with
    | nil => exact Or.inl ⟨rfl, _, c, by simpa using hv⟩
    | cons x r =>
      have := hc 0 (by simp)
      rw [Nat.add_zero] at this
      exact Or.inr ⟨x, r, b, off, c, rfl, by simpa using hv, this⟩

set_option maxHeartbeats 1000000 in
theorem first14_any (P : List (Nd × Value)) (v : Value) (i : Int) (nm : List UInt8) (w : World) (h : NdSl w v P) (hn : P.length ≤ 1000000) :
    Calls Tryz.prog 93 #[v, .int .i64 i, .string ⟨nm.toArray⟩] w (FstPost w (firstB (nodes P) i nm)) := by
  have hnm := named12_any P v i nm w h hn
  unfold firstB
  generalize namedB (nodes P) i nm = xs at hnm
  obtain ⟨a, c, rfl⟩ := h.form
  replace hnm := Lib.hid hnm
  replace h := Lib.hid h
  go_enter Tryz.func93, Tryz.ntmps93
  go_wp2_with fail
  refine hnm.out.mono ?_
  rintro e w1 ⟨u, rfl, hu, hb⟩
  clear hnm
  rcases rd_first hu.rd with ⟨rfl, a1, c1, rfl⟩ | ⟨x, r, b, off, c1, rfl, rfl, hc⟩
  · clear hu
    replace hb := Lib.hid hb
    go_wp2_with fail
    go_ret2
    exact ⟨rfl, hb.out⟩
  · clear hu
    replace hb := Lib.hid hb
    have hl0 : ((r.length : Int) + 1 == 0) = false := by rw [beq_eq_false_iff_ne]; omega
    have hl1 : (r.length + 1 == 0) = false := by rw [beq_eq_false_iff_ne]; omega
    have hl2 : (0 : Int) < (r.length : Int) + 1 := by omega
    go_wp2_with fail
    go_ret2
    exact ⟨rfl, hb.out⟩

set_option maxHeartbeats 1000000 in
theorem field14_any (P : List (Nd × Value)) (v : Value) (i : Int) (nm : List UInt8) (w : World) (h : NdSl w v P) (hn : P.length ≤ 1000000) (hT : sumT (nodes P) ≤ 2000000) :
    Calls Tryz.prog 94 #[v, .int .i64 i, .string ⟨nm.toArray⟩] w (FldPost w (fieldB (nodes P) i nm)) := by
  have hf := first14_any P v i nm w h hn
  rw [fieldB_first]
  generalize firstB (nodes P) i nm = o at hf
  obtain ⟨a, c, hv⟩ := h.form
  have hnx := fun W (hb : Below w.heap.size w W) => h.next hb
  subst hv
  replace hf := Lib.hid hf
  replace hnx := Lib.hid hnx
  replace h := Lib.hid h
  go_enter Tryz.func94, Tryz.ntmps94
  go_wp2_with fail
  refine hf.out.mono ?_
  rintro e w1 ⟨rfl, hb⟩
  clear hf
  cases o with
  | none =>
    replace hb := Lib.hid hb
    go_wp2_with fail
    go_ret2
    exact ⟨rfl, hb.out⟩
  | some j =>
    have ht := text12_any P _ j w1 (hnx.out w1 hb) hn (by omega)
    have hl := textB_len (nodes P) j
    replace hb := Lib.hid hb
    replace ht := Lib.hid ht
    go_wp2_with fail
    refine ht.out.mono ?_
    rintro e w2 ⟨rfl, hb2⟩
    have hb3 := Lib.hid (hb.out.andThen hb2)
    clear hb2
    go_wp2_with fail
    refine (clean_any _ _ (by omega)).mono ?_
    rintro e w3 ⟨rfl, hb4⟩
    have hb5 := Lib.hid (hb3.out.andThen hb4)
    clear hb4
    go_wp2_with fail
    go_ret2
    exact ⟨rfl, hb5.out⟩
end Go.Proofs.YtkgjbamkinfmeaaGreatDoor

/- Layer 14: Channel, Short, fault, a part's field; the reference's Field, Channel, Short. -/
namespace Go.Proofs.YtkgjbamkinfmeaaGreatDoor
open Go.RowKit

def rssL : List UInt8 := [114, 115, 115]
def chanL : List UInt8 := [99, 104, 97, 110, 110, 101, 108]
/-- The channel's place. -/
def chanB (l : List Nd) : Option Int := if l = [] ∨ (atN l 0).name ≠ rssL then none else firstB l 0 chanL
/-- An entry. -/
structure It where
  guid : List UInt8
  title : List UInt8
  link : List UInt8
  body : List UInt8
  date : Int
  dated : Bool
def itC (x : It) : List Value := [strV x.guid, strV x.title, strV x.link, strV x.body, .int .i64 x.date, .bool x.dated]
def itV (x : It) : Value := .agg (itC x).toArray
def shortB (x : It) (most : Int) : Bool := decide ((x.guid.length : Int) ≤ most) && decide ((x.guid.length : Int) ≤ 256) && decide ((x.title.length : Int) ≤ most) && decide ((x.link.length : Int) ≤ most) && decide ((x.body.length : Int) ≤ most)

set_option maxHeartbeats 1000000 in
theorem channel14_any (P : List (Nd × Value)) (v : Value) (w : World) (h : NdSl w v P) (hn : P.length ≤ 1000000) :
    Calls Tryz.prog 65 #[v] w (FstPost w (chanB (nodes P))) := by
  by_cases h0 : P = []
  · subst h0
    obtain ⟨a, c, rfl⟩ := h.form
    have hP : chanB (nodes []) = none := if_pos (Or.inl rfl)
    rw [hP]
    clear h
    replace hP := Lib.hid hP
    go_enter Tryz.func65, Tryz.ntmps65
    go_wp2_with fail
    go_ret2
    exact ⟨rfl, Below.refl _ _⟩
  have hp0 : 0 < P.length := List.length_pos_iff.2 h0
  have hf := first14_any P v 0 chanL w h hn
  obtain ⟨b, off, cap, hcap, hbl, rfl, hcl⟩ := h.some hp0
  obtain ⟨d0, _, _, _⟩ := hcl 0 hp0
  have hna : (P[0]'hp0).1 = atN (nodes P) 0 := nodes_at hp0
  rw [hna] at d0
  clear hcl hna
  have hP := show chanB (nodes P) = _ from by unfold chanB; rfl
  have hne : nodes P ≠ [] := fun e => h0 (List.map_eq_nil_iff.1 e)
  have hl0 : ((P.length : Int) == 0) = false := by rw [beq_eq_false_iff_ne]; omega
  have hl1 : (P.length == 0) = false := by rw [beq_eq_false_iff_ne]; omega
  have hl2 : (0 : Int) < P.length := by omega
  unfold strV at d0
  rw [Nat.zero_mul, Nat.add_zero] at d0
  unfold chanL at hf
  replace hf := Lib.hid hf
  replace h := Lib.hid h
  replace h0 := Lib.hid h0
  by_cases hq : (atN (nodes P) 0).name = rssL
  · have hP2 := hP.trans (if_neg (by rintro (e | e); exact hne e; exact e hq))
    rw [hP2]
    rw [hq] at d0
    unfold rssL at d0
    replace hP := Lib.hid hP
    replace hP2 := Lib.hid hP2
    replace hq := Lib.hid hq
    go_enter Tryz.func65, Tryz.ntmps65
    go_wp2_with fail
    refine hf.out.mono ?_
    rintro e w1 ⟨rfl, hb⟩
    replace hb := Lib.hid hb
    go_wp2_with fail
    go_ret2
    exact ⟨rfl, hb.out⟩
  · have hP2 := hP.trans (if_pos (Or.inr hq))
    rw [hP2]
    have hq1 : ((atN (nodes P) 0).name == [114, 115, 115]) = false := by rw [beq_eq_false_iff_ne]; exact hq
    generalize (atN (nodes P) 0).name = nm at d0 hq1
    replace hP := Lib.hid hP
    replace hP2 := Lib.hid hP2
    replace hq := Lib.hid hq
    go_enter Tryz.func65, Tryz.ntmps65
    go_wp2_with fail
    go_ret2
    exact ⟨rfl, Below.refl _ _⟩

set_option maxHeartbeats 2000000 in
theorem short14_any (x : It) (most : Int) (w : World) : Calls Tryz.prog 91 #[itV x, .int .i64 most] w fun e w' => e = .returned (.bool (shortB x most)) ∧ Below w.heap.size w w' := by
  obtain ⟨xg, xt, xl, xb, xd, xk⟩ := x
  unfold itV itC strV shortB
  simp only
  have hb : ∀ c : Array Value, Below w.heap.size w (w.alloc (.cells c 48)) := fun c => (Below.refl _ _).alloc (Nat.le_refl _) _
  replace hb := Lib.hid hb
  have e1 : (decide ((xg.length : Int) ≤ most) && decide ((xg.length : Int) ≤ 256)) = decide ((xg.length : Int) ≤ min most 256) := by
    rw [Bool.eq_iff_iff]; simp only [Bool.and_eq_true, decide_eq_true_eq]; omega
  rw [e1]
  clear e1
  generalize hq : min most 256 = q
  have hq1 : (if most ≤ 256 then most else 256) = q := by omega
  cases h1 : decide ((xg.length : Int) ≤ q) <;> cases h2 : decide ((xt.length : Int) ≤ most) <;> cases h3 : decide ((xl.length : Int) ≤ most) <;> cases h4 : decide ((xb.length : Int) ≤ most)
  all_goals
    go_enter Tryz.func91, Tryz.ntmps91
    go_wp2_with fail
    go_ret
    exact ⟨rfl, hb.out _⟩
set_option maxHeartbeats 2000000 in
theorem refshort14_any (x : It) (most : Int) (w : World) : Calls Tryz.prog 18 #[itV x, .int .i64 most] w fun e w' => e = .returned (.bool (shortB x most)) ∧ Below w.heap.size w w' := by
  obtain ⟨xg, xt, xl, xb, xd, xk⟩ := x
  unfold itV itC strV shortB
  simp only
  have hb : ∀ c : Array Value, Below w.heap.size w (w.alloc (.cells c 48)) := fun c => (Below.refl _ _).alloc (Nat.le_refl _) _
  replace hb := Lib.hid hb
  cases h1 : decide ((xg.length : Int) ≤ most) <;> cases h2 : decide ((xt.length : Int) ≤ most) <;> cases h3 : decide ((xl.length : Int) ≤ most) <;> cases h4 : decide ((xb.length : Int) ≤ most) <;> cases h5 : decide ((xg.length : Int) ≤ 256)
  all_goals
    go_enter Tryz.func18, Tryz.ntmps18
    go_wp2_with fail
    go_ret
    exact ⟨rfl, hb.out _⟩
/-- A fault with a code. -/
def codeV (q : Int) : Value := .iface 30 (.int .i64 q)
theorem fault14_any (q : Int) (w : World) : Calls Tryz.prog 61 #[.int .i64 q] w fun e w' => e = .returned (faultV w.heap.size) ∧ FaultAt w' w.heap.size 0 (codeV q) ∧ Below w.heap.size w w' := by
  have hf := arrAt_new w 40 [.int .i64 0, codeV q]
  have hb : Below w.heap.size w (w.alloc (.cells [.int .i64 0, codeV q].toArray 40)) := (Below.refl _ _).alloc (Nat.le_refl _) _
  replace hf := Lib.hid hf
  replace hb := Lib.hid hb
  go_enter Tryz.func61, Tryz.ntmps61
  go_wp2_with fail
  go_ret
  exact ⟨rfl, hf.out, hb.out⟩

set_option maxHeartbeats 1000000 in
theorem refchannel14_any (P : List (Nd × Value)) (v : Value) (w : World) (h : NdSl w v P) (hn : P.length ≤ 1000000) :
    Calls Tryz.prog 42 #[v] w (FstPost w (chanB (nodes P))) := by
  by_cases h0 : P = []
  · subst h0
    obtain ⟨a, c, rfl⟩ := h.form
    have hP : chanB (nodes []) = none := if_pos (Or.inl rfl)
    rw [hP]
    clear h
    replace hP := Lib.hid hP
    go_enter Tryz.func42, Tryz.ntmps42
    go_wp2_with fail
    go_ret2
    exact ⟨rfl, Below.refl _ _⟩
  have hp0 : 0 < P.length := List.length_pos_iff.2 h0
  have hf := refnamed12_any P v 0 chanL w h hn
  obtain ⟨b, off, cap, hcap, hbl, rfl, hcl⟩ := h.some hp0
  obtain ⟨d0, _, _, _⟩ := hcl 0 hp0
  have hna : (P[0]'hp0).1 = atN (nodes P) 0 := nodes_at hp0
  rw [hna] at d0
  clear hcl hna
  have hP := show chanB (nodes P) = _ from by unfold chanB; rfl
  have hne : nodes P ≠ [] := fun e => h0 (List.map_eq_nil_iff.1 e)
  have hl0 : ((P.length : Int) == 0) = false := by rw [beq_eq_false_iff_ne]; omega
  have hl1 : (P.length == 0) = false := by rw [beq_eq_false_iff_ne]; omega
  have hl2 : (0 : Int) < P.length := by omega
  unfold strV at d0
  rw [Nat.zero_mul, Nat.add_zero] at d0
  unfold chanL at hf
  replace h := Lib.hid h
  replace h0 := Lib.hid h0
  by_cases hq : (atN (nodes P) 0).name = rssL
  · have hP2 := hP.trans (if_neg (by rintro (e | e); exact hne e; exact e hq))
    rw [hP2]
    rw [hq] at d0
    unfold rssL at d0
    unfold firstB chanL
    generalize namedB (nodes P) 0 [99, 104, 97, 110, 110, 101, 108] = xs at hf hP2
    replace hf := Lib.hid hf
    replace hP := Lib.hid hP
    replace hP2 := Lib.hid hP2
    replace hq := Lib.hid hq
    go_enter Tryz.func42, Tryz.ntmps42
    go_wp2_with fail
    refine hf.out.mono ?_
    rintro e w1 ⟨u, rfl, hu, hb⟩
    rcases rd_first hu.rd with ⟨rfl, a1, c1, rfl⟩ | ⟨x, r, b, off, c1, rfl, rfl, hc⟩
    · clear hu
      replace hb := Lib.hid hb
      go_wp2_with fail
      go_ret2
      exact ⟨rfl, hb.out⟩
    · clear hu
      replace hb := Lib.hid hb
      have hl0 : ((r.length : Int) + 1 == 0) = false := by rw [beq_eq_false_iff_ne]; omega
      have hl1 : (r.length + 1 == 0) = false := by rw [beq_eq_false_iff_ne]; omega
      have hl2 : (0 : Int) < (r.length : Int) + 1 := by omega
      go_wp2_with fail
      go_ret2
      exact ⟨rfl, hb.out⟩
  · have hP2 := hP.trans (if_pos (Or.inr hq))
    rw [hP2]
    have hq1 : ((atN (nodes P) 0).name == [114, 115, 115]) = false := by rw [beq_eq_false_iff_ne]; exact hq
    generalize (atN (nodes P) 0).name = nm at d0 hq1
    clear hf
    replace hP := Lib.hid hP
    replace hP2 := Lib.hid hP2
    replace hq := Lib.hid hq
    go_enter Tryz.func42, Tryz.ntmps42
    go_wp2_with fail
    go_ret2
    exact ⟨rfl, Below.refl _ _⟩

set_option maxHeartbeats 1000000 in
theorem reffield14_any (P : List (Nd × Value)) (v : Value) (i : Int) (nm : List UInt8) (w : World) (h : NdSl w v P) (hn : P.length ≤ 1000000) (hT : sumT (nodes P) ≤ 2000000) :
    Calls Tryz.prog 69 #[v, .int .i64 i, .string ⟨nm.toArray⟩] w (FldPost w (fieldB (nodes P) i nm)) := by
  have hnm := refnamed12_any P v i nm w h hn
  rw [fieldB_first]
  unfold firstB
  generalize namedB (nodes P) i nm = xs at hnm
  obtain ⟨a, c, hv⟩ := h.form
  have hnx := fun W (hb : Below w.heap.size w W) => h.next hb
  subst hv
  replace hnm := Lib.hid hnm
  replace hnx := Lib.hid hnx
  replace h := Lib.hid h
  go_enter Tryz.func69, Tryz.ntmps69
  go_wp2_with fail
  refine hnm.out.mono ?_
  rintro e w1 ⟨u, rfl, hu, hb⟩
  clear hnm
  rcases rd_first hu.rd with ⟨rfl, a1, c1, rfl⟩ | ⟨x, r, b, off, c1, rfl, rfl, hc⟩
  · clear hu
    replace hb := Lib.hid hb
    go_wp2_with fail
    go_ret2
    exact ⟨rfl, hb.out⟩
  · clear hu
    have ht := reftext12_any P _ x w1 (hnx.out w1 hb) hn (by omega)
    have hl := textB_len (nodes P) x
    have hl0 : ((r.length : Int) + 1 == 0) = false := by rw [beq_eq_false_iff_ne]; omega
    have hl1 : (r.length + 1 == 0) = false := by rw [beq_eq_false_iff_ne]; omega
    have hl2 : (0 : Int) < (r.length : Int) + 1 := by omega
    replace hb := Lib.hid hb
    replace ht := Lib.hid ht
    go_wp2_with fail
    refine ht.out.mono ?_
    rintro e w2 ⟨rfl, hb2⟩
    have hb3 := Lib.hid (hb.out.andThen hb2)
    clear hb2
    go_wp2_with fail
    refine (refclean_any _ _ (by omega)).mono ?_
    rintro e w3 ⟨rfl, hb4⟩
    have hb5 := Lib.hid (hb3.out.andThen hb4)
    clear hb4
    go_wp2_with fail
    go_ret2
    exact ⟨rfl, hb5.out⟩
end Go.Proofs.YtkgjbamkinfmeaaGreatDoor

/- Plain mathematics of layer 13 (dates): calendars. Nothing of the program. -/
namespace Go.Proofs.YtkgjbamkinfmeaaGreatDoor

/-- Has a year a 29th of February? -/
def leapI (y : Int) : Bool := decide (y % 4 = 0 ∧ (y % 100 ≠ 0 ∨ y % 400 = 0))
theorem tm_zero (y k : Int) : (y.tmod k == 0) = decide (y % k = 0) := by
  rw [Bool.eq_iff_iff, beq_iff_eq, decide_eq_true_eq, ← Int.dvd_iff_tmod_eq_zero, Int.dvd_iff_emod_eq_zero]
/-- How many days a month has. -/
def lenI (y m : Int) : Int :=
  if m = 1 ∨ m = 3 ∨ m = 5 ∨ m = 7 ∨ m = 8 ∨ m = 10 ∨ m = 12 then 31 else if m = 4 ∨ m = 6 ∨ m = 9 ∨ m = 11 then 30 else if m = 2 then (if leapI y then 29 else 28) else 0
theorem lenI_bd (y m : Int) : 0 ≤ lenI y m ∧ lenI y m ≤ 31 := by
  unfold lenI
  repeat' split
  all_goals omega
theorem lenI_pos {y m : Int} (h : lenI y m ≠ 0) : 1 ≤ m ∧ m ≤ 12 := by
  unfold lenI at h
  repeat' split at h
  all_goals omega
theorem lenI_low {y m : Int} (h1 : 1 ≤ m) (h2 : m ≤ 12) : 28 ≤ lenI y m := by
  unfold lenI
  repeat' split
  all_goals omega

/-- How many days a year has. -/
def yrN (y : Nat) : Nat := if leapI y then 366 else 365
/-- How many years up to y have a 29th of February. -/
def lpN (y : Nat) : Nat := y / 4 - y / 100 + y / 400
/-- The number of the first day of a year. -/
def nyN (y : Nat) : Nat := (y - 1970) * 365 + lpN (y - 1) - 477
theorem div_up (k : Nat) (hk : k = 4 ∨ k = 100 ∨ k = 400) (y : Nat) : (y + 1) / k = y / k + if ((y : Int) + 1) % (k : Int) = 0 then 1 else 0 := by
  rcases hk with rfl | rfl | rfl
  all_goals (split <;> omega)
theorem lpN_next (x : Nat) : lpN (x + 1) = lpN x + if leapI ((x : Int) + 1) then 1 else 0 := by
  have h4 := div_up 4 (by simp) x
  have h1 := div_up 100 (by simp) x
  have h2 := div_up 400 (by simp) x
  have hle : x / 100 ≤ x / 4 := Nat.div_le_div_left (by omega) (by omega)
  have i1 : ((x : Int) + 1) % (100 : Int) = 0 → ((x : Int) + 1) % (4 : Int) = 0 := by omega
  have i2 : ((x : Int) + 1) % (400 : Int) = 0 → ((x : Int) + 1) % (100 : Int) = 0 := by omega
  unfold lpN leapI
  rw [h4, h1, h2]
  simp only [Int.cast_ofNat_Int]
  generalize x / 4 = a at *
  generalize x / 100 = b at *
  generalize x / 400 = c at *
  by_cases e4 : ((x : Int) + 1) % (4 : Int) = 0 <;> by_cases e1 : ((x : Int) + 1) % (100 : Int) = 0 <;> by_cases e2 : ((x : Int) + 1) % (400 : Int) = 0 <;> simp [e4, e1, e2] <;> first | omega | (exfalso; simp_all)
theorem lpN_int (x : Nat) : ((lpN x : Nat) : Int) = (x : Int) / 4 - (x : Int) / 100 + (x : Int) / 400 := by
  have h2 : x / 100 ≤ x / 4 := Nat.div_le_div_left (by decide) (by decide)
  unfold lpN
  omega
theorem lpN_low {x : Nat} (h : 1969 ≤ x) : 477 ≤ lpN x := by
  have h1 := lpN_int x
  omega
theorem nyN_next {y : Nat} (h : 1970 ≤ y) : nyN (y + 1) = nyN y + yrN y := by
  obtain ⟨x, rfl⟩ : ∃ x, y = x + 1 := ⟨y - 1, by omega⟩
  have h1 := lpN_next x
  have h2 : 477 ≤ lpN x := lpN_low (by omega)
  unfold nyN yrN
  rw [show x + 1 + 1 - 1 = x + 1 by omega, show x + 1 - 1 = x by omega, h1, show ((x + 1 : Nat) : Int) = (x : Int) + 1 by omega]
  split <;> omega
theorem nyN_int {y : Nat} (h : 1970 ≤ y) : ((nyN y : Nat) : Int) = ((y : Int) - 1970) * 365 + (lpN (y - 1) : Int) - 477 := by
  have h1 := lpN_low (x := y - 1) (by omega)
  unfold nyN
  generalize lpN (y - 1) = a at *
  omega
theorem yrN_bd (y : Nat) : 365 ≤ yrN y ∧ yrN y ≤ 366 := by unfold yrN; split <;> omega
theorem nyN_mono {y k : Nat} (h : 1970 ≤ y) : nyN y + 365 * k ≤ nyN (y + k) := by
  induction k with
  | zero => simp
  | succ k ih =>
    have h1 := nyN_next (y := y + k) (Nat.le_trans h (Nat.le_add_right _ _))
    have h2 := (yrN_bd (y + k)).1
    rw [show y + (k + 1) = y + k + 1 from rfl, h1, Nat.mul_succ, ← Nat.add_assoc]
    exact Nat.add_le_add ih h2
theorem nyN_top {y k : Nat} (h : 1970 ≤ y) : nyN (y + k) ≤ nyN y + 366 * k := by
  induction k with
  | zero => simp
  | succ k ih =>
    have h1 := nyN_next (y := y + k) (Nat.le_trans h (Nat.le_add_right _ _))
    have h2 := (yrN_bd (y + k)).2
    rw [show y + (k + 1) = y + k + 1 from rfl, h1, Nat.mul_succ, ← Nat.add_assoc]
    exact Nat.add_le_add ih h2
theorem nyN_lt {y z : Nat} (h : 1970 ≤ y) (h2 : y < z) : nyN y + yrN y ≤ nyN z := by
  have h1 := nyN_next h
  have h3 := nyN_mono (y := y + 1) (k := z - (y + 1)) (by omega)
  rw [show y + 1 + (z - (y + 1)) = z by omega] at h3
  omega
theorem nyN_first : nyN 1970 = 0 := by decide
theorem nyN_last : nyN 10000 = 2932897 := by decide

/-- A month's days, of a year's number. -/
def lenN (y m : Nat) : Nat := (lenI y m).toNat
theorem lenN_int (y m : Nat) : ((lenN y m : Nat) : Int) = lenI y m := by have := lenI_bd y m; unfold lenN; omega
theorem lenN_low {y m : Nat} (h1 : 1 ≤ m) (h2 : m ≤ 12) : 28 ≤ lenN y m ∧ lenN y m ≤ 31 := by
  have h3 := lenI_low (y := y) (m := m) (by omega) (by omega)
  have h4 := lenI_bd y m
  have h5 := lenN_int y m
  omega
/-- The days of the year ahead of a month. -/
def mdN (y : Nat) : Nat → Nat
  | 0 => 0
  | m + 1 => mdN y m + lenN y m
theorem mdN_one (y : Nat) : mdN y 1 = 0 := by simp [mdN, lenN, lenI]
theorem mdN_thirteen (y : Nat) : mdN y 13 = yrN y := by
  simp only [mdN, lenN, lenI, yrN]
  cases leapI y <;> decide
theorem mdN_mono (y : Nat) {m k : Nat} (h : m ≤ k) : mdN y m ≤ mdN y k := by
  induction k with
  | zero => rw [show m = 0 by omega]; exact Nat.le_refl _
  | succ k ih =>
    rcases Nat.lt_or_ge k m with h1 | h1
    · rw [show m = k + 1 by omega]; exact Nat.le_refl _
    · exact Nat.le_trans (ih h1) (Nat.le_add_right _ _)
theorem mdN_le (y : Nat) {m : Nat} (h : m ≤ 12) : mdN y m + lenN y m ≤ yrN y := by
  rw [← mdN_thirteen y]
  exact mdN_mono y (m := m + 1) (k := 13) (by omega)
theorem mdN_lt (y : Nat) {m k : Nat} (h : m < k) : mdN y m + lenN y m ≤ mdN y k := mdN_mono y (m := m + 1) (k := k) (by omega)

/-- Number N is the day d of the month m of the year y. -/
structure IsCiv (N y m d : Nat) : Prop where
  y1 : 1970 ≤ y
  y2 : y ≤ 9999
  m1 : 1 ≤ m
  m2 : m ≤ 12
  d1 : 1 ≤ d
  d2 : d ≤ lenN y m
  eq : nyN y + mdN y m + d = N + 1
theorem IsCiv.one {N y m d y' m' d' : Nat} (h : IsCiv N y m d) (k : IsCiv N y' m' d') : y = y' ∧ m = m' ∧ d = d' := by
  have h1 := mdN_le y h.m2
  have k1 := mdN_le y' k.m2
  have := h.eq; have := k.eq; have := h.d1; have := h.d2; have := k.d1; have := k.d2
  have hy : y = y' := by
    rcases Nat.lt_trichotomy y y' with e | e | e
    · have := nyN_lt h.y1 e; omega
    · exact e
    · have := nyN_lt k.y1 e; omega
  subst hy
  have hm : m = m' := by
    rcases Nat.lt_trichotomy m m' with e | e | e
    · have := mdN_lt y e; omega
    · exact e
    · have := mdN_lt y e; omega
  subst hm
  exact ⟨rfl, rfl, by omega⟩
theorem IsCiv.le {N y m d : Nat} (h : IsCiv N y m d) : N ≤ 2932896 := by
  have h1 := mdN_le y h.m2
  have := h.eq; have := h.d2
  have h3 := nyN_lt (z := 10000) h.y1 (by have := h.y2; omega)
  rw [nyN_last] at h3
  omega

/-- The year of a day, and what is left. -/
def yF : Nat → Nat → Nat → Nat × Nat
  | 0, y, n => (y, n)
  | f + 1, y, n => if n < yrN y then (y, n) else yF f (y + 1) (n - yrN y)
theorem yF_spec (f : Nat) : ∀ (y n : Nat), 1970 ≤ y → nyN y + n < nyN (y + f) → nyN (yF f y n).1 + (yF f y n).2 = nyN y + n ∧ (yF f y n).2 < yrN (yF f y n).1 ∧ y ≤ (yF f y n).1 := by
  induction f with
  | zero => intro y n _ h2; rw [Nat.add_zero] at h2; exact absurd h2 (Nat.not_lt.2 (Nat.le_add_right _ _))
  | succ f ih =>
    intro y n h1 h2
    unfold yF
    split
    · rename_i h; exact ⟨rfl, h, Nat.le_refl _⟩
    · rename_i h
      have h3 := nyN_next h1
      rw [show y + (f + 1) = y + 1 + f by rw [Nat.add_comm f 1, Nat.add_assoc]] at h2
      have h5 : nyN (y + 1) + (n - yrN y) = nyN y + n := by rw [h3]; generalize nyN y = a; generalize yrN y = b at h; omega
      have h4 := ih (y + 1) (n - yrN y) (Nat.le_succ_of_le h1) (by rw [h5]; exact h2)
      rw [h5] at h4
      exact ⟨h4.1, h4.2.1, Nat.le_trans (Nat.le_succ y) h4.2.2⟩
/-- The month of a day of a year, and what is left. -/
def mF (y : Nat) : Nat → Nat → Nat → Nat × Nat
  | 0, m, n => (m, n)
  | f + 1, m, n => if n < lenN y m then (m, n) else mF y f (m + 1) (n - lenN y m)
theorem mF_spec (y : Nat) : ∀ (f m n : Nat), mdN y m + n < mdN y (m + f) → mdN y (mF y f m n).1 + (mF y f m n).2 = mdN y m + n ∧ (mF y f m n).2 < lenN y (mF y f m n).1 ∧ m ≤ (mF y f m n).1
  | 0, m, n, h2 => by rw [Nat.add_zero] at h2; omega
  | f + 1, m, n, h2 => by
    unfold mF
    split
    · rename_i h; exact ⟨rfl, h, Nat.le_refl _⟩
    · rename_i h
      have h3 : mdN y (m + 1) = mdN y m + lenN y m := rfl
      have h4 := mF_spec y f (m + 1) (n - lenN y m) (by rw [h3, show m + 1 + f = m + (f + 1) by omega]; omega)
      refine ⟨?_, h4.2.1, by omega⟩
      rw [h4.1, h3]; omega
/-- The year, month and day of a number. -/
def civN (N : Nat) : Nat × Nat × Nat :=
  ((yF 8031 1970 N).1, (mF (yF 8031 1970 N).1 12 1 (yF 8031 1970 N).2).1, (mF (yF 8031 1970 N).1 12 1 (yF 8031 1970 N).2).2 + 1)
set_option maxRecDepth 100000 in
theorem civN_is {N : Nat} (h : N ≤ 2932896) : IsCiv N (civN N).1 (civN N).2.1 (civN N).2.2 := by
  have h1 := yF_spec 8031 1970 N (by omega) (by
    have h2 := nyN_mono (y := 10000) (k := 1) (by omega)
    rw [nyN_last] at h2
    rw [nyN_first, show (1970 + 8031 : Nat) = 10000 + 1 from rfl]; omega)
  rw [nyN_first] at h1
  have h2 := mF_spec (yF 8031 1970 N).1 12 1 (yF 8031 1970 N).2 (by rw [mdN_one, mdN_thirteen]; omega)
  rw [mdN_one] at h2
  unfold civN
  generalize yF 8031 1970 N = p at h1 h2
  generalize mF p.1 12 1 p.2 = q at h2
  obtain ⟨y, n⟩ := p
  obtain ⟨m, d⟩ := q
  simp only at h1 h2 ⊢
  have hy2 : y ≤ 9999 := by
    rcases Nat.lt_or_ge 9999 y with e | e
    · have := nyN_mono (y := 10000) (k := y - 10000) (by omega)
      rw [nyN_last, show 10000 + (y - 10000) = y by omega] at this
      omega
    · exact e
  have hm := lenI_pos (y := y) (m := m) (by have := lenN_int y m; omega)
  exact ⟨h1.2.2, hy2, h2.2.2, by omega, by omega, by omega, by omega⟩
theorem IsCiv.civ {N y m d : Nat} (h : IsCiv N y m d) : civN N = (y, m, d) := by
  obtain ⟨e1, e2, e3⟩ := (civN_is h.le).one h
  generalize civN N = p at *
  obtain ⟨a, b, c⟩ := p
  simp only at e1 e2 e3
  rw [e1, e2, e3]
/-- What Civil answers. -/
def civB (n : Int) : Int × Int × Int × Bool := if n < 0 ∨ 2932896 < n then (0, 0, 0, false) else ((civN n.toNat).1, (civN n.toNat).2.1, (civN n.toNat).2.2, true)
/-- What Days answers. -/
def daysB (y m d : Int) : Int × Bool := if y < 1970 ∨ 9999 < y ∨ d < 1 ∨ lenI y m < d then (0, false) else ((nyN y.toNat : Int) + (mdN y.toNat m.toNat : Int) + (d - 1), true)
theorem daysB_bd (y m d : Int) : 0 ≤ (daysB y m d).1 ∧ (daysB y m d).1 ≤ 2932896 := by
  unfold daysB
  split
  · exact ⟨by omega, by omega⟩
  · rename_i h
    have hm := lenI_pos (y := y) (m := m) (by omega)
    have h1 := mdN_le y.toNat (m := m.toNat) (by omega)
    have h2 := lenN_int y.toNat m.toNat
    rw [show ((y.toNat : Nat) : Int) = y by omega, show ((m.toNat : Nat) : Int) = m by omega] at h2
    have h3 := nyN_lt (y := y.toNat) (z := 10000) (by omega) (by omega)
    rw [nyN_last] at h3
    simp only
    omega
theorem IsCiv.days {N y m d : Nat} (h : IsCiv N y m d) : daysB y m d = ((N : Int), true) := by
  have := h.y1; have := h.y2; have := h.d1; have := h.d2; have h3 := h.eq
  have h2 := lenN_int y m
  unfold daysB
  rw [if_neg (by omega)]
  simp only [Int.toNat_natCast, Prod.mk.injEq, and_true]
  omega
theorem days_civ {n : Int} (h0 : 0 ≤ n) (h1 : n ≤ 2932896) : daysB (civN n.toNat).1 (civN n.toNat).2.1 (civN n.toNat).2.2 = (n, true) := by
  rw [(civN_is (N := n.toNat) (by omega)).days]
  simp only [Prod.mk.injEq, and_true]; omega
/-- The next day. -/
theorem IsCiv.next {N y m d : Nat} (h : IsCiv N y m d) (hN : N < 2932896) :
    (d < lenN y m ∧ civN (N + 1) = (y, m, d + 1)) ∨ (d = lenN y m ∧ m < 12 ∧ civN (N + 1) = (y, m + 1, 1)) ∨ (d = lenN y m ∧ m = 12 ∧ civN (N + 1) = (y + 1, 1, 1)) := by
  obtain ⟨y1, y2, m1, m2, d1, d2, eq⟩ := h
  have hl := mdN_le y m2
  rcases Nat.lt_or_ge d (lenN y m) with e | e
  · exact Or.inl ⟨e, IsCiv.civ ⟨y1, y2, m1, m2, by omega, by omega, by omega⟩⟩
  · rcases Nat.lt_or_ge m 12 with e2 | e2
    · refine Or.inr (Or.inl ⟨by omega, e2, IsCiv.civ ⟨y1, y2, by omega, by omega, by omega, ?_, ?_⟩⟩)
      · have := lenN_low (y := y) (m := m + 1) (by omega) (by omega); omega
      · show nyN y + (mdN y m + lenN y m) + 1 = N + 1 + 1; omega
    · have hm : m = 12 := by omega
      subst hm
      have h13 := mdN_thirteen y
      rw [show mdN y 13 = mdN y 12 + lenN y 12 from rfl] at h13
      have hn := nyN_next y1
      refine Or.inr (Or.inr ⟨by omega, rfl, IsCiv.civ ⟨by omega, ?_, by omega, by omega, by omega, ?_, ?_⟩⟩)
      · rcases Nat.lt_or_ge 9998 y with e3 | e3
        · have : nyN (y + 1) = 2932897 := by rw [show y + 1 = 10000 by omega, nyN_last]
          omega
        · omega
      · have := lenN_low (y := y + 1) (m := 1) (by omega) (by omega); omega
      · rw [mdN_one]; omega
end Go.Proofs.YtkgjbamkinfmeaaGreatDoor

/- Layer 13: years, months, days. -/
namespace Go.Proofs.YtkgjbamkinfmeaaGreatDoor
open Go.RowKit

theorem leap13_any (y : Int) (_h0 : -9223372036854775808 ≤ y) (_h1 : y ≤ 9223372036854775807) (w : World) : Calls Tryz.prog 204 #[.int .i64 y] w fun e w' => e = .returned (.bool (leapI y)) ∧ w = w' := by
  have e4 := tm_zero y 4
  have e100 : (y.tmod 100 != 0) = !decide (y % 100 = 0) := by rw [bne, tm_zero]
  have e400 := tm_zero y 400
  have hl : leapI y = (decide (y % 4 = 0) && (!decide (y % 100 = 0) || decide (y % 400 = 0))) := by simp [leapI]
  have i1 : y % 400 = 0 → y % 4 = 0 := by omega
  by_cases a4 : y % 4 = 0 <;> by_cases a1 : y % 100 = 0 <;> by_cases a2 : y % 400 = 0
  all_goals simp only [a4, a1, a2, decide_true, decide_false, Bool.not_true, Bool.not_false, Bool.and_true, Bool.and_false, Bool.or_true, Bool.or_false] at e4 e100 e400 hl
  all_goals (try (exact absurd (i1 a2) a4))
  all_goals rw [hl]
  all_goals clear hl i1 a4 a1 a2
  all_goals go_enter Tryz.func204, Tryz.ntmps204
  all_goals go_wp2_with fail
  all_goals go_ret
  all_goals exact ⟨rfl, rfl⟩
theorem refleap13_any (y : Int) (_h0 : -9223372036854775808 ≤ y) (_h1 : y ≤ 9223372036854775807) (w : World) : Calls Tryz.prog 178 #[.int .i64 y] w fun e w' => e = .returned (.bool (leapI y)) ∧ w = w' := by
  have e4 := tm_zero y 4
  have e100 : (y.tmod 100 != 0) = !decide (y % 100 = 0) := by rw [bne, tm_zero]
  have e400 := tm_zero y 400
  have hl : leapI y = (decide (y % 4 = 0) && (!decide (y % 100 = 0) || decide (y % 400 = 0))) := by simp [leapI]
  have i1 : y % 400 = 0 → y % 4 = 0 := by omega
  by_cases a4 : y % 4 = 0 <;> by_cases a1 : y % 100 = 0 <;> by_cases a2 : y % 400 = 0
  all_goals simp only [a4, a1, a2, decide_true, decide_false, Bool.not_true, Bool.not_false, Bool.and_true, Bool.and_false, Bool.or_true, Bool.or_false] at e4 e100 e400 hl
  all_goals (try (exact absurd (i1 a2) a4))
  all_goals rw [hl]
  all_goals clear hl i1 a4 a1 a2
  all_goals go_enter Tryz.func178, Tryz.ntmps178
  all_goals go_wp2_with fail
  all_goals go_ret
  all_goals exact ⟨rfl, rfl⟩
end Go.Proofs.YtkgjbamkinfmeaaGreatDoor

/- Layer 13: a month's days; a year's first day. -/
namespace Go.Proofs.YtkgjbamkinfmeaaGreatDoor
open Go.RowKit

theorem lenI_31 {y m : Int} (h : m = 1 ∨ m = 3 ∨ m = 5 ∨ m = 7 ∨ m = 8 ∨ m = 10 ∨ m = 12) : lenI y m = 31 := by unfold lenI; rw [if_pos h]
theorem lenI_30 {y m : Int} (h : m = 4 ∨ m = 6 ∨ m = 9 ∨ m = 11) : lenI y m = 30 := by unfold lenI; rw [if_neg (by omega), if_pos h]
theorem lenI_feb (y : Int) : lenI y 2 = if leapI y then 29 else 28 := by unfold lenI; rw [if_neg (by omega), if_neg (by omega), if_pos rfl]
theorem lenI_none {y m : Int} (h : ¬ (m = 1 ∨ m = 3 ∨ m = 5 ∨ m = 7 ∨ m = 8 ∨ m = 10 ∨ m = 12)) (h2 : ¬ (m = 4 ∨ m = 6 ∨ m = 9 ∨ m = 11)) (h3 : m ≠ 2) : lenI y m = 0 := by unfold lenI; rw [if_neg h, if_neg h2, if_neg h3]

theorem length13_any (y m : Int) (h0 : -9223372036854775808 ≤ y) (h1 : y ≤ 9223372036854775807) (w : World) : Calls Tryz.prog 194 #[.int .i64 y, .int .i64 m] w fun e w' => e = .returned (.int .i64 (lenI y m)) ∧ w = w' := by
  by_cases c1 : m = 1 ∨ m = 3 ∨ m = 5 ∨ m = 7 ∨ m = 8 ∨ m = 10 ∨ m = 12
  · rw [lenI_31 c1]
    rcases c1 with rfl | rfl | rfl | rfl | rfl | rfl | rfl
    all_goals go_enter Tryz.func194, Tryz.ntmps194
    all_goals go_wp2_with fail
    all_goals go_ret
    all_goals exact ⟨rfl, rfl⟩
  by_cases c2 : m = 4 ∨ m = 6 ∨ m = 9 ∨ m = 11
  · rw [lenI_30 c2]
    rcases c2 with rfl | rfl | rfl | rfl
    all_goals clear c1
    all_goals go_enter Tryz.func194, Tryz.ntmps194
    all_goals go_wp2_with fail
    all_goals go_ret
    all_goals exact ⟨rfl, rfl⟩
  by_cases c3 : m = 2
  · subst c3
    clear c1 c2
    have hc := fun W : World => leap13_any y h0 h1 W
    cases hl : leapI y
    · rw [lenI_feb, hl]
      rw [hl] at hc
      clear hl
      go_enter Tryz.func194, Tryz.ntmps194
      go_wp2_with (go_at_call 204; refine (hc _).mono ?_; rintro e w1 ⟨rfl, rfl⟩)
      go_ret
      exact ⟨rfl, rfl⟩
    · rw [lenI_feb, hl]
      rw [hl] at hc
      clear hl
      go_enter Tryz.func194, Tryz.ntmps194
      go_wp2_with (go_at_call 204; refine (hc _).mono ?_; rintro e w1 ⟨rfl, rfl⟩)
      go_ret
      exact ⟨rfl, rfl⟩
  · rw [lenI_none c1 c2 c3]
    have f1 : (m == 1) = false := by rw [beq_eq_false_iff_ne]; omega
    have f2 : (m == 2) = false := by rw [beq_eq_false_iff_ne]; omega
    have f3 : (m == 3) = false := by rw [beq_eq_false_iff_ne]; omega
    have f4 : (m == 4) = false := by rw [beq_eq_false_iff_ne]; omega
    have f5 : (m == 5) = false := by rw [beq_eq_false_iff_ne]; omega
    have f6 : (m == 6) = false := by rw [beq_eq_false_iff_ne]; omega
    have f7 : (m == 7) = false := by rw [beq_eq_false_iff_ne]; omega
    have f8 : (m == 8) = false := by rw [beq_eq_false_iff_ne]; omega
    have f9 : (m == 9) = false := by rw [beq_eq_false_iff_ne]; omega
    have f10 : (m == 10) = false := by rw [beq_eq_false_iff_ne]; omega
    have f11 : (m == 11) = false := by rw [beq_eq_false_iff_ne]; omega
    have f12 : (m == 12) = false := by rw [beq_eq_false_iff_ne]; omega
    clear c1 c2 c3
    go_enter Tryz.func194, Tryz.ntmps194
    go_wp2_with fail
    go_ret
    exact ⟨rfl, rfl⟩
theorem reflength13_any (y m : Int) (h0 : -9223372036854775808 ≤ y) (h1 : y ≤ 9223372036854775807) (w : World) : Calls Tryz.prog 177 #[.int .i64 y, .int .i64 m] w fun e w' => e = .returned (.int .i64 (lenI y m)) ∧ w = w' := by
  by_cases c1 : m = 1 ∨ m = 3 ∨ m = 5 ∨ m = 7 ∨ m = 8 ∨ m = 10 ∨ m = 12
  · rw [lenI_31 c1]
    rcases c1 with rfl | rfl | rfl | rfl | rfl | rfl | rfl
    all_goals go_enter Tryz.func177, Tryz.ntmps177
    all_goals go_wp2_with fail
    all_goals go_ret
    all_goals exact ⟨rfl, rfl⟩
  by_cases c2 : m = 4 ∨ m = 6 ∨ m = 9 ∨ m = 11
  · rw [lenI_30 c2]
    rcases c2 with rfl | rfl | rfl | rfl
    all_goals clear c1
    all_goals go_enter Tryz.func177, Tryz.ntmps177
    all_goals go_wp2_with fail
    all_goals go_ret
    all_goals exact ⟨rfl, rfl⟩
  by_cases c3 : m = 2
  · subst c3
    clear c1 c2
    have hc := fun W : World => refleap13_any y h0 h1 W
    cases hl : leapI y
    · rw [lenI_feb, hl]
      rw [hl] at hc
      clear hl
      go_enter Tryz.func177, Tryz.ntmps177
      go_wp2_with (go_at_call 178; refine (hc _).mono ?_; rintro e w1 ⟨rfl, rfl⟩)
      go_ret
      exact ⟨rfl, rfl⟩
    · rw [lenI_feb, hl]
      rw [hl] at hc
      clear hl
      go_enter Tryz.func177, Tryz.ntmps177
      go_wp2_with (go_at_call 178; refine (hc _).mono ?_; rintro e w1 ⟨rfl, rfl⟩)
      go_ret
      exact ⟨rfl, rfl⟩
  · rw [lenI_none c1 c2 c3]
    have f1 : (m == 1) = false := by rw [beq_eq_false_iff_ne]; omega
    have f2 : (m == 2) = false := by rw [beq_eq_false_iff_ne]; omega
    have f3 : (m == 3) = false := by rw [beq_eq_false_iff_ne]; omega
    have f4 : (m == 4) = false := by rw [beq_eq_false_iff_ne]; omega
    have f5 : (m == 5) = false := by rw [beq_eq_false_iff_ne]; omega
    have f6 : (m == 6) = false := by rw [beq_eq_false_iff_ne]; omega
    have f7 : (m == 7) = false := by rw [beq_eq_false_iff_ne]; omega
    have f8 : (m == 8) = false := by rw [beq_eq_false_iff_ne]; omega
    have f9 : (m == 9) = false := by rw [beq_eq_false_iff_ne]; omega
    have f10 : (m == 10) = false := by rw [beq_eq_false_iff_ne]; omega
    have f11 : (m == 11) = false := by rw [beq_eq_false_iff_ne]; omega
    have f12 : (m == 12) = false := by rw [beq_eq_false_iff_ne]; omega
    clear c1 c2 c3
    go_enter Tryz.func177, Tryz.ntmps177
    go_wp2_with fail
    go_ret
    exact ⟨rfl, rfl⟩
theorem leaps13_any (y : Nat) (h1 : y ≤ 100000) (w : World) : Calls Tryz.prog 205 #[.int .i64 y] w fun e w' => e = .returned (.int .i64 (lpN y)) ∧ w = w' := by
  have hq := lpN_int y
  have q4 : ((y : Int).tdiv 4) = (y : Int) / 4 := Int.tdiv_eq_ediv_of_nonneg (by omega)
  have q100 : ((y : Int).tdiv 100) = (y : Int) / 100 := Int.tdiv_eq_ediv_of_nonneg (by omega)
  have q400 : ((y : Int).tdiv 400) = (y : Int) / 400 := Int.tdiv_eq_ediv_of_nonneg (by omega)
  replace hq := Lib.hid hq
  go_enter Tryz.func205, Tryz.ntmps205
  go_wp2_with fail
  go_ret
  exact ⟨ret_int (by have := hq.out; omega), rfl⟩
theorem lpN_1969 : lpN 1969 = 477 := by decide
theorem newYear13_any (y : Nat) (h0 : 1970 ≤ y) (h1 : y ≤ 10000) (w : World) : Calls Tryz.prog 195 #[.int .i64 y] w fun e w' => e = .returned (.int .i64 (nyN y)) ∧ w = w' := by
  have hc := fun W : World => leaps13_any (y - 1) (by omega) W
  have hd := fun W : World => leaps13_any 1969 (by omega) W
  rw [show ((y - 1 : Nat) : Int) = (y : Int) - 1 by omega] at hc
  rw [lpN_1969] at hd
  have hn := nyN_int h0
  have hb : lpN (y - 1) ≤ 100000 := by unfold lpN; omega
  generalize lpN (y - 1) = L at *
  generalize nyN y = M at *
  replace hn := Lib.hid hn
  go_enter Tryz.func195, Tryz.ntmps195
  go_wp2_with fail
  refine (hc _).mono ?_; rintro e w1 ⟨rfl, rfl⟩
  go_wp2_with fail
  refine (hd _).mono ?_; rintro e w1 ⟨rfl, rfl⟩
  go_wp2_with fail
  go_ret
  exact ⟨ret_int (by have := hn.out; omega), rfl⟩
end Go.Proofs.YtkgjbamkinfmeaaGreatDoor
