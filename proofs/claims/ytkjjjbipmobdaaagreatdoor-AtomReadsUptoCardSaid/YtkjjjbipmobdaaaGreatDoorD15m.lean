/- Layer 15: the law's nodes and code; awake. -/
import Derived.Test.YtkjjjbipmobdaaaGreatDoorD15d
import Derived.Test.YtkjjjbipmobdaaaGreatDoorD15q
import Derived.Test.YtkjjjbipmobdaaaGreatDoorD14m
import Derived.Test.YtkjjjbipmobdaaaGreatDoorD14l
namespace Go.Proofs.YtkjjjbipmobdaaaGreatDoor
open Go.RowKit

set_option maxHeartbeats 1000000 in
theorem nodes15_any (l : List UInt8) (w : World) (hl : l.length ≤ 50000) : Calls Tryz.prog 17 #[.string ⟨l.toArray⟩] w (DocPost (docN 30 l) w) := by
  have ht := (rtokens_any l 30 w (by omega)).mono fun e w' h => h.toks
  have hlen := (tokR_len 30 l).1
  unfold docN
  generalize (tokR 30 l).ts = t at ht hlen
  replace ht := Lib.hid ht
  go_enter Tryz.func17, Tryz.ntmps17
  go_wp2_with fail
  refine ht.out.mono ?_
  rintro e w1 ⟨v, q, P, rfl, hT, rfl, hb⟩
  rw [List.length_map] at hlen
  have hB := Lib.hid ((refbuild12_any P v w1 hT (by omega)).mono fun e w' h => h.nodes)
  replace hb := Lib.hid hb
  clear hT ht
  go_wp2_with fail
  refine hB.out.mono ?_
  rintro e w2 ⟨v2, q2, P2, rfl, h2, hP2, hb2⟩
  have hb3 := Lib.hid (hb.out.andThen hb2)
  replace h2 := Lib.hid h2
  replace hP2 := Lib.hid hP2
  clear hb2
  go_wp2_with fail
  go_ret
  exact ⟨_, P2, rfl, h2.out, hP2.out, hb3.out⟩

theorem code15_nil (w : World) : Calls Tryz.prog 16 #[.nilIface] w fun e w' => e = .returned (.int .i64 0) ∧ w = w' := by
  go_enter Tryz.func16, Tryz.ntmps16
  go_wp2_with fail
  go_ret
  exact ⟨rfl, rfl⟩
set_option maxHeartbeats 1000000 in
theorem code15_fault (f : Nat) (x : Int) (w : World) (h : FaultAt w f 0 (codeV x)) (h1 : 1 ≤ x) (h2 : x ≤ 15) : Calls Tryz.prog 16 #[faultV f] w fun e w' => e = .returned (.int .i64 x) ∧ w = w' := by
  have hc : w.cell? ⟨f, 1, none⟩ = some (.iface 29 (.int .i64 x)) := ArrAt.cell h 1
  clear h
  unfold faultV
  replace hc := Lib.hid hc
  go_enter Tryz.func16, Tryz.ntmps16
  go_wp2_with fail
  go_loopw [3] (fun i wr => ∃ c : Int, i = .int .i64 c ∧ 1 ≤ c ∧ c ≤ x ∧ wr = w) (fun i _ => (15 - intOf i).toNat)
  case atStart => exact ⟨1, rfl, by omega, h1, rfl⟩
  case round =>
    obtain ⟨c, rfl, hc1, hcx, rfl⟩ := hrel
    have hle : c ≤ 15 := by omega
    have hI := is11_fault f x c _ hc.out
    by_cases e : x = c
    · subst e
      rw [show (x == x) = true from beq_self_eq_true x] at hI
      replace hI := Lib.hid hI
      go_wp2_with fail
      refine hI.out.mono ?_; rintro e w' ⟨rfl, rfl⟩
      go_wp2_with fail
      go_ret
      exact ⟨rfl, rfl⟩
    · rw [show (x == c) = false from by rw [beq_eq_false_iff_ne]; exact e] at hI
      have hlt : c < x := by omega
      replace hI := Lib.hid hI
      replace e := Lib.hid e
      go_wp2_with fail
      refine hI.out.mono ?_; rintro e w' ⟨rfl, rfl⟩
      go_wp2_with fail
      exact ⟨⟨c + 1, by go_num, by omega, by omega, trivial⟩, by simp [intOf]; omega⟩

/-- What the listed variable holds. -/
structure Laid15 (w : World) : Prop where
  ty : EnvT w
theorem Laid15.below {w w' : World} (h : Laid15 w) (hb : Below w.heap.size w w') : Laid15 w' := ⟨h.ty.below hb⟩
def wakeA : List UInt8 := [60, 102, 101, 101, 100, 62, 60, 101, 110, 116, 114, 121, 62, 60, 105, 100, 62, 105, 60, 47, 105, 100, 62, 60, 108, 105, 110, 107, 32, 114, 101, 108, 61, 39, 115, 101, 108, 102, 39, 32, 104, 114, 101, 102, 61, 39, 120, 39, 47, 62, 60, 108, 105, 110, 107, 32, 104, 114, 101, 102, 61, 39, 121, 39, 47, 62, 60, 99, 111, 110, 116, 101, 110, 116, 62, 99, 60, 47, 99, 111, 110, 116, 101, 110, 116, 62, 60, 117, 112, 100, 97, 116, 101, 100, 62, 50, 48, 48, 54, 45, 48, 49, 45, 48, 50, 84, 49, 53, 58, 48, 52, 58, 48, 53, 90, 60, 47, 117, 112, 100, 97, 116, 101, 100, 62, 60, 47, 101, 110, 116, 114, 121, 62, 60, 47, 102, 101, 101, 100, 62]
def wakeB : List UInt8 := [60, 102, 101, 101, 100, 62, 60, 101, 110, 116, 114, 121, 62, 60, 105, 100, 62, 105, 60, 47, 105, 100, 62, 60, 47, 101, 110, 116, 114, 121, 62, 60, 47, 102, 101, 101, 100, 62]
def wakeC : List UInt8 := [60, 114, 115, 115, 47, 62]
def wakeAt : It := ⟨[105], [], [121], [99], 1136214245, true⟩
theorem wakeA_its : itsA (docN 30 wakeA) r3339C 5 50 = .its [wakeAt] := by kernel_rfl
theorem wakeB_its : itsA (docN 30 wakeB) r3339C 5 50 = .bad 7 := by kernel_rfl
theorem wakeC_its : itsA (docN 30 wakeC) r3339C 5 50 = .bad 5 := by kernel_rfl
theorem docN_ok {l : List UInt8} (hl : l.length ≤ 50000) : (docN 30 l).length ≤ 1000000 ∧ sumT (docN 30 l) ≤ 2000000 ∧ ∀ x ∈ docN 30 l, AtOk x.attrs := by
  have h1 := docN_len 30 l
  have h2 := docN_sum 30 l
  exact ⟨by omega, by omega, fun x hx => (docN_few 30 l x hx).ok (by omega)⟩
theorem items15_doc {l : List Nd} {o : ItsO} {many most : Int} (ho : itsA l r3339C many most = o) (hl : l.length ≤ 1000000 ∧ sumT l ≤ 2000000 ∧ ∀ x ∈ l, AtOk x.attrs) (P : List (Nd × Value)) (hP : nodes P = l) (v : Value) (w : World) (h : NdSl w v P) (hL : Laid15 w) :
    Calls Tryz.prog 11 #[v, .int .i64 many, .int .i64 most] w (ItsPost w o) := by
  subst ho hP
  rw [nodes_len] at hl
  exact items15_any P v many most w h hl.1 hl.2.1 hl.2.2 hL.ty

set_option maxRecDepth 100000 in
set_option maxHeartbeats 4000000 in
theorem awake15_any (w : World) (hL : Laid15 w) : Calls Tryz.prog 10 #[] w (LawPost w) := by
  have n1 := Lib.hid (fun W => nodes15_any wakeA W (by decide))
  have n2 := Lib.hid (fun W => nodes15_any wakeB W (by decide))
  have n3 := Lib.hid (fun W => nodes15_any wakeC W (by decide))
  have i1 := Lib.hid (@items15_doc _ _ _ _ wakeA_its (docN_ok (by decide)))
  have i2 := Lib.hid (@items15_doc _ _ _ _ wakeB_its (docN_ok (by decide)))
  have i3 := Lib.hid (@items15_doc _ _ _ _ wakeC_its (docN_ok (by decide)))
  replace hL := Lib.hid hL
  go_enter Tryz.func10, Tryz.ntmps10
  go_wp2_with fail
  refine (n1.out _).mono ?_
  rintro e w1 ⟨v1, P1, rfl, h1, hP1, hb1⟩
  have j1 := i1.out P1 hP1 v1 w1 h1 (hL.out.below hb1)
  obtain ⟨a1, c1, rfl⟩ := h1.form
  replace hb1 := Lib.hid hb1
  replace j1 := Lib.hid j1
  clear n1 i1 h1 hP1
  go_wp2_with fail
  refine j1.out.mono ?_
  rintro e w2 hh
  obtain ⟨g, cg, hcg, rfl, hx, hb2⟩ := hh.one
  clear hh j1
  have hb12 := Lib.hid (hb1.out.andThen hb2)
  replace hx := Lib.hid hx
  clear hb1 hb2
  go_wp2_with fail
  refine (n2.out _).mono ?_
  rintro e w4 ⟨v4, P4, rfl, h4, hP4, hb4⟩
  clear n2
  replace hx := Lib.hid (hx.out.next hb4)
  replace hb12 := Lib.hid (hb12.out.andThen hb4)
  have j2 := i2.out P4 hP4 _ w4 h4 (hL.out.below hb12.out)
  obtain ⟨a4, c4, rfl⟩ := h4.form
  replace j2 := Lib.hid j2
  clear i2 h4 hP4 hb4
  go_wp2_with fail
  refine j2.out.mono ?_
  rintro e w5 hh
  obtain ⟨f2, rfl, hf2, hb5⟩ := hh.no
  clear hh j2
  replace hx := Lib.hid (hx.out.next hb5)
  replace hb12 := Lib.hid (hb12.out.andThen hb5)
  replace hf2 := Lib.hid hf2
  clear hb5
  go_wp2_with fail
  refine (n3.out _).mono ?_
  rintro e w6 ⟨v6, P6, rfl, h6, hP6, hb6⟩
  clear n3
  replace hx := Lib.hid (hx.out.next hb6)
  replace hb12 := Lib.hid (hb12.out.andThen hb6)
  replace hf2 := Lib.hid (hf2.out.below hb6)
  have j3 := i3.out P6 hP6 _ w6 h6 (hL.out.below hb12.out)
  obtain ⟨a6, c6, rfl⟩ := h6.form
  replace j3 := Lib.hid j3
  clear i3 h6 hP6 hb6
  go_wp2_with fail
  refine j3.out.mono ?_
  rintro e w7 hh
  obtain ⟨f3, rfl, hf3, hb7⟩ := hh.no
  clear hh j3
  replace hx := Lib.hid (hx.out.next hb7)
  replace hb12 := Lib.hid (hb12.out.andThen hb7)
  have k2 := code15_fault f2 7 w7 (hf2.out.below hb7) (by decide) (by decide)
  have k3 := code15_fault f3 5 w7 hf3 (by decide) (by decide)
  obtain ⟨x0, x1, x2, x3, x4, x5⟩ := hx.out
  unfold wakeAt strV at x0 x1 x2 x3
  unfold wakeAt at x4 x5
  simp only [Nat.zero_add] at x0 x1 x2 x3 x4 x5
  replace k2 := Lib.hid k2
  replace k3 := Lib.hid k3
  clear hf2 hf3 hb7 hx
  have hc1 : (0 : Int) < cg := by omega
  have hc2 : 0 < cg := by omega
  go_wp2_with fail
  refine k2.out.mono ?_
  rintro e w' ⟨rfl, rfl⟩
  go_wp2_with fail
  refine k3.out.mono ?_
  rintro e w' ⟨rfl, rfl⟩
  go_wp2_with fail
  go_ret
  exact ⟨rfl, hb12.out⟩
end Go.Proofs.YtkjjjbipmobdaaaGreatDoor
