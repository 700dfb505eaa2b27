/- Layer 16's laws: the numbers that they take, and awake. -/
import Derived.Test.YtkgjbamkinfmeaaGreatDoorD16c
import Derived.Test.YtkgjbamkinfmeaaGreatDoorD16g
import Derived.Test.YtkgjbamkinfmeaaGreatDoorBR33
namespace Go.Proofs.YtkgjbamkinfmeaaGreatDoor
open Go.RowKit

def someP : Prm := ⟨0, 2000, 8, 0, 4, 100, 0, 0, 0, 0, 0⟩
def noneP : Prm := ⟨0, 0, 0, 0, 0, 0, 0, 0, 0, 0, 0⟩
theorem some16_any (w : World) : Calls Tryz.prog 14 #[] w fun e w' => e = .returned (prmV someP) ∧ Below w.heap.size w w' := by
  have hb : ∀ c : Array Value, Below w.heap.size w (w.alloc (.cells c 23)) := fun c => (Below.refl _ _).alloc (Nat.le_refl _) _
  unfold prmV prmC someP
  go_enter Tryz.func14, Tryz.ntmps14
  go_wp2_with fail
  exact bodyPost_ret (v := .agg #[.int .i64 0, .int .i64 2000, .int .i64 8, .int .i64 0, .int .i64 4, .int .i64 100, .int .i64 0, .int .i64 0, .int .i64 0, .int .i64 0, .int .i64 0]) (by simp [results, Tryz.results14, go_sem]) rfl ⟨rfl, hb _⟩
def wakeP : List UInt8 := [60, 114, 115, 115, 62, 60, 99, 104, 97, 110, 110, 101, 108, 62, 60, 105, 116, 101, 109, 62, 60, 103, 117, 105, 100, 62, 103, 60, 47, 103, 117, 105, 100, 62, 60, 47, 105, 116, 101, 109, 62, 60, 47, 99, 104, 97, 110, 110, 101, 108, 62, 60, 47, 114, 115, 115, 62]
def wakeQ : List UInt8 := [60, 114, 115, 115, 62, 60, 99, 104, 97, 110, 110, 101, 108, 62, 60, 105, 116, 101, 109, 62]
def wakeR : List UInt8 := [60, 104, 116, 109, 108, 47, 62]
def wakeS : List UInt8 := [60, 102, 101, 101, 100, 47, 62]
def wakeG : It := ⟨[103], [], [], [], 0, false⟩
theorem wakeP_its : parseB 2000 8 4 100 wakeP = .its [wakeG] := by kernel_rfl
theorem wakeQ_its : parseB 2000 8 4 100 wakeQ = .bad 3 := by kernel_rfl
theorem wakeR_its : parseB 2000 8 4 100 wakeR = .bad 5 := by kernel_rfl
theorem wakeS_its : parseB 0 0 0 0 wakeS = .bad 1 := by kernel_rfl
theorem parse16_doc {l : List UInt8} {o : ItsO} (p : Prm) (h : parseB p.doc p.dep p.many p.most l = o) (hl : l.length ≤ 20000) (A B : Addr) (w : World) (hL : Laid16 w A B) :
    Calls Tryz.prog 8 #[.string ⟨l.toArray⟩, prmV p] w (FeedPost 2 w o) := by
  subst h
  exact parse16_any l p A B w hL hl
theorem FeedPost.one {N : Nat} {w w' : World} {x : It} {e : Ending} (h : FeedPost N w (.its [x]) e w') : ∃ g c, 1 ≤ c ∧ e = .returned (.tuple #[.slice (some ⟨g, 0, none⟩) 1 c, .nilIface]) ∧ ItAt w' g 0 x ∧ Below w.heap.size w w' := by
  obtain ⟨v, h1, h2, h3⟩ := h
  obtain ⟨g, c, rfl, hc, _, hat⟩ := h2.at (j := 0) (by simp)
  exact ⟨g, c, hc, h1, by simpa using hat, h3⟩
theorem FeedPost.no {N : Nat} {w w' : World} {q : Int} {e : Ending} (h : FeedPost N w (.bad q) e w') : ∃ n T y, n ≤ N ∧ e = .returned (.tuple #[.slice none 0 0, .iface T y]) ∧ Chain w' q n (.iface T y) ∧ Below w.heap.size w w' := by
  obtain ⟨n, v, h1, h2, h3, h4⟩ := h
  obtain ⟨T, y, rfl⟩ := h3.form
  exact ⟨n, T, y, h1, h2, h3, h4⟩

set_option maxRecDepth 100000 in
set_option maxHeartbeats 8000000 in
theorem awake16_any (A B : Addr) (w : World) (hL : Laid16 w A B) : Calls Tryz.prog 7 #[] w (LawPost w) := by
  have s1 := Lib.hid some16_any
  have i1 := Lib.hid (fun W (h : Below w.heap.size w W) => parse16_doc someP wakeP_its (by decide) A B W (hL.below h))
  have i2 := Lib.hid (fun W (h : Below w.heap.size w W) => parse16_doc someP wakeQ_its (by decide) A B W (hL.below h))
  have i3 := Lib.hid (fun W (h : Below w.heap.size w W) => parse16_doc someP wakeR_its (by decide) A B W (hL.below h))
  have i4 := Lib.hid (fun W (h : Below w.heap.size w W) => parse16_doc noneP wakeS_its (by decide) A B W (hL.below h))
  have hnil := eq_nil16
  replace hL := Lib.hid hL
  unfold prmV prmC someP at s1 i1 i2 i3
  unfold prmV prmC noneP at i4
  go_enter Tryz.func7, Tryz.ntmps7
  go_wp2_with fail
  refine (s1.out _).mono ?_
  rintro e w1 ⟨rfl, hb1⟩
  have j1 := Lib.hid (i1.out w1 hb1)
  replace hb1 := Lib.hid hb1
  clear i1
  go_wp2_with fail
  refine j1.out.mono ?_
  rintro e w2 hh
  obtain ⟨g, cg, hcg, rfl, hx, hb2⟩ := hh.one
  have hb12 := Lib.hid (hb1.out.andThen hb2)
  replace hx := Lib.hid hx
  clear hh j1 hb1 hb2
  go_wp2_with fail
  refine (s1.out _).mono ?_
  rintro e w3 ⟨rfl, hb3⟩
  replace hx := Lib.hid (hx.out.next hb3)
  replace hb12 := hb12.out.andThen hb3
  have j2 := Lib.hid (i2.out w3 hb12)
  replace hb12 := Lib.hid hb12
  clear hb3 i2
  go_wp2_with fail
  refine j2.out.mono ?_
  rintro e w4 hh
  obtain ⟨n2, T2, y2, hn2, rfl, hc2, hb4⟩ := hh.no
  replace hx := Lib.hid (hx.out.next hb4)
  replace hb12 := Lib.hid (hb12.out.andThen hb4)
  replace hc2 := Lib.hid hc2
  clear hh j2 hb4
  go_wp2_with fail
  refine (s1.out _).mono ?_
  rintro e w5 ⟨rfl, hb5⟩
  replace hx := Lib.hid (hx.out.next hb5)
  replace hc2 := Lib.hid (hc2.out.below hb5)
  replace hb12 := hb12.out.andThen hb5
  have j3 := Lib.hid (i3.out w5 hb12)
  replace hb12 := Lib.hid hb12
  clear hb5 i3
  go_wp2_with fail
  refine j3.out.mono ?_
  rintro e w6 hh
  obtain ⟨n3, T3, y3, hn3, rfl, hc3, hb6⟩ := hh.no
  replace hx := Lib.hid (hx.out.next hb6)
  replace hc2 := Lib.hid (hc2.out.below hb6)
  replace hb12 := hb12.out.andThen hb6
  have j4 := Lib.hid (i4.out w6 hb12)
  replace hb12 := Lib.hid hb12
  replace hc3 := Lib.hid hc3
  clear hh j3 hb6 i4
  go_wp2_with fail
  refine j4.out.mono ?_
  rintro e w7 hh
  obtain ⟨n4, T4, y4, hn4, rfl, hc4, hb7⟩ := hh.no
  replace hx := hx.out.next hb7
  replace hc2 := hc2.out.below hb7
  replace hc3 := hc3.out.below hb7
  replace hb12 := hb12.out.andThen hb7
  have k2 := Lib.hid (is16_any n2 _ 3 3 w7 hc2)
  have k3 := Lib.hid (is16_any n3 _ 5 5 w7 hc3)
  have k4 := Lib.hid (is16_any n4 _ 1 1 w7 hc4)
  have k5 := Lib.hid (code16_any n2 _ 3 w7 hc2 (by omega) (hL.out.below hb12).ty)
  rw [show ((3 : Int) == 3) = true from rfl] at k2
  rw [show ((5 : Int) == 5) = true from rfl] at k3
  rw [show ((1 : Int) == 1) = true from rfl] at k4
  unfold cdV at k2 k3 k4
  obtain ⟨x0, x1, x2, x3, x4, x5⟩ := hx
  unfold wakeG strV at x0
  clear x1 x2 x3 x4 x5
  have hgg : (([103] : List UInt8) == [103]) = true := rfl
  replace hb12 := Lib.hid hb12
  clear hh j4 hb7 hc2 hc3 hc4 hL
  have hc1 : (0 : Int) < cg := by omega
  have hc2 : 0 < cg := by omega
  go_wp2_with fail
  refine k2.out.mono ?_
  rintro e w' ⟨rfl, rfl⟩
  go_wp2_with fail
  refine k3.out.mono ?_
  rintro e w' ⟨rfl, rfl⟩
  go_wp2_with fail
  refine k4.out.mono ?_
  rintro e w' ⟨rfl, rfl⟩
  go_wp2_with fail
  refine k5.out.mono ?_
  rintro e w8 ⟨rfl, hb8⟩
  have hb9 := hb12.out.andThen hb8
  replace hb9 := Lib.hid hb9
  clear hb8 hb12
  go_wp2_with fail
  refine (code16_nil _).mono ?_
  rintro e w9 ⟨rfl, hb10⟩
  replace hb9 := Lib.hid (hb9.out.andThen hb10)
  clear hb10
  go_wp2_with fail
  go_ret
  exact ⟨rfl, hb9.out⟩
end Go.Proofs.YtkgjbamkinfmeaaGreatDoor
