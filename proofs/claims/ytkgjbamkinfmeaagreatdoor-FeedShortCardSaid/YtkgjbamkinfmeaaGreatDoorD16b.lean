/- Layer 16: Code: whether there is an end, and which number it is. -/
import Derived.Test.YtkgjbamkinfmeaaGreatDoorD16f
import Derived.Test.YtkgjbamkinfmeaaGreatDoorBR03
import Derived.Defers
import Derived.Recover
namespace Go.Proofs.YtkgjbamkinfmeaaGreatDoor
open Go.RowKit

/-- What the loop of ends keeps: the topmost list holds the error that is looked at next. -/
structure EndsAt (w : World) (x : Int) (k m b cap g : Nat) (c : List Value) (u : Value) (wr : World) : Prop where
  row : ArrAt wr b 98 c
  top : c[m]? = some (.slice (some ⟨g, 0, none⟩) 1 1)
  len : c.length = cap
  room : m + 1 ≤ cap
  most : cap ≤ maxLen
  low : w.heap.size ≤ b
  err : ArrAt wr g 27 [u]
  chain : Chain w x k u
  below : Below w.heap.size w wr
def lenV : Value → Nat
  | .slice _ n _ => n
  | _ => 0
theorem EndsAt.first {w : World} {x : Int} {k : Nat} {u : Value} (h : Chain w x k u) : EndsAt w x k 0 (w.heap.size + 1) 1 w.heap.size [.slice (some ⟨w.heap.size, 0, none⟩) 1 1] u ((w.alloc (.cells #[u] 27)).alloc (.cells #[.slice (some ⟨w.heap.size, 0, none⟩) 1 1] 98)) := by
  have h1 := arrAt_new w 27 [u]
  have h2 := arrAt_new (w.alloc (.cells #[u] 27)) 98 [.slice (some ⟨w.heap.size, 0, none⟩) 1 1]
  have hs : (w.alloc (.cells #[u] 27)).heap.size = w.heap.size + 1 := by simp
  rw [hs] at h2
  have hb : Below (w.alloc (.cells #[u] 27)).heap.size (w.alloc (.cells #[u] 27)) ((w.alloc (.cells #[u] 27)).alloc (.cells #[.slice (some ⟨w.heap.size, 0, none⟩) 1 1] 98)) := (Below.refl _ _).alloc (Nat.le_refl _) _
  exact ⟨h2, rfl, rfl, Nat.le_refl _, by decide, by omega, h1.next hb, h, ((Below.refl _ _).alloc (Nat.le_refl _) _).andThen hb⟩
theorem EndsAt.more {w wr w4 : World} {x : Int} {k m b cap g : Nat} {c : List Value} {u u' z v' : Value} (h : EndsAt w x (k + 1) m b cap g c u wr) (hc : Chain w x k u')
    (ho : w4.ownsRow 0 98 1 v' (m + 1 + 1) ((c.set m z).take (m + 1) ++ [.slice (some ⟨wr.heap.size, 0, none⟩) 1 1])) (hg : ((wr.setCell ⟨b, m, none⟩ z).alloc (.cells #[u'] 27)).grownBy w4 (some b))
    (hw : v'.ownBlock = some b ∨ ∃ b', v'.ownBlock = some b' ∧ wr.heap.size + 1 ≤ b') :
    ∃ b' cap' c', v' = .slice (some ⟨b', 0, none⟩) (m + 1 + 1) cap' ∧ EndsAt w x k (m + 1) b' cap' wr.heap.size c' u' w4 := by
  have hne : v' ≠ .slice none 0 0 := by
    rintro rfl
    rcases hw with e | ⟨_, e, _⟩ <;> cases e
  obtain ⟨g', cap', c', rfl, ha, htk, hlen, hn, hm⟩ := owns_arr ho hne
  have hbl := h.row.lt
  have hsz : (wr.setCell ⟨b, m, none⟩ z).heap.size = wr.heap.size := by simp [World.setCell]
  have hlow : w.heap.size ≤ g' := by
    rcases hw with e | ⟨b', e, hb'⟩
    · injection e with e
      have : g' = b := e
      have := h.low
      omega
    · injection e with e
      have : g' = b' := e
      have := h.low
      omega
  have h1 := arrAt_new (wr.setCell ⟨b, m, none⟩ z) 27 [u']
  rw [hsz] at h1
  have hset : Below w.heap.size w (wr.setCell ⟨b, m, none⟩ z) := h.below.setCell (p := ⟨b, m, none⟩) h.low z
  have hal : Below w.heap.size w ((wr.setCell ⟨b, m, none⟩ z).alloc (.cells #[u'] 27)) := hset.alloc (by rw [hsz]; exact h.below.size) _
  rw [Nat.mul_one] at htk hlen
  refine ⟨g', cap', c', rfl, ha, ?_, hlen, by omega, hm, hlow, h1.grown hg (by intro e; injection e with e; omega), hc, ?_⟩
  · have hl1 : ((c.set m z).take (m + 1)).length = m + 1 := by rw [List.length_take, List.length_set, h.len]; have := h.room; omega
    have : (c'.take (m + 1 + 1))[m + 1]? = some (.slice (some ⟨wr.heap.size, 0, none⟩) 1 1) := by
      rw [htk, List.getElem?_append_right (by omega), hl1]; simp
    rw [List.getElem?_take] at this
    simpa using this
  · exact hal.grown hg hal.size fun k hk => by injection hk with hk; have := h.low; omega
theorem EndsAt.owns {w wr : World} {x : Int} {k m b cap g : Nat} {c : List Value} {u : Value} (h : EndsAt w x k m b cap g c u wr) (u' z : Value) : ((wr.setCell ⟨b, m, none⟩ z).alloc (.cells #[u'] 27)).ownsRow 0 98 1 (.slice (some ⟨b, 0, none⟩) (m + 1) cap) (m + 1) ((c.set m z).take (m + 1)) := by
  have h1 := (h.row.set m z).next (w' := (wr.setCell ⟨b, m, none⟩ z).alloc (.cells #[u'] 27)) ((Below.refl _ _).alloc (Nat.le_refl _) _)
  exact h1.owns (by rw [Nat.mul_one]) (by rw [Nat.mul_one, List.length_set, h.len]) h.room h.most
theorem info_errs : (Tryz.prog.info? 98).map (fun i => (i.zero, i.size, i.bytes)) = some (some (.slice none 0 0), 1, 24) := by kernel_rfl
theorem ends_code (v : Int) (w : World) : (Instr.typeAssert (.iface 30 (.int .i64 v)) 27 30 true).run Tryz.prog w = .ok (.tuple #[.int .i64 v, .bool true]) w := by kernel_rfl
theorem ends_fault (v : Value) (w : World) : (Instr.typeAssert (.iface 38 v) 27 30 true).run Tryz.prog w = .ok (.tuple #[.int .i64 0, .bool false]) w := by kernel_rfl

set_option maxRecDepth 100000 in
set_option maxHeartbeats 2000000 in
theorem ends16_any (n : Nat) (v : Value) (x : Int) (w : World) (h : Chain w x n v) (hn : n ≤ 1000000) :
    Calls Tryz.prog 28 #[v] w fun e w' => e = .returned (.bool true) ∧ Below w.heap.size w w' := by
  have hst := Lib.hid (EndsAt.first h)
  have t1 := ends_code
  have t2 := ends_fault
  have f2 := er_fo2
  have mU := er_unwrap
  obtain ⟨T, y, rfl⟩ := h.form
  clear h
  go_enter Tryz.func28, Tryz.ntmps28
  go_wp2_with fail
  go_loopw [3] (fun sl wr => ∃ (k m b cap g : Nat) (c : List Value) (u : Value), sl = .slice (some ⟨b, 0, none⟩) (m + 1) cap ∧ m + k = n ∧ Hid (EndsAt w x k m b cap g c u wr)) (fun sl _ => n + 1 - lenV sl)
  case atStart => exact ⟨n, 0, _, _, _, _, _, rfl, by omega, hst⟩
  case round =>
    clear hst
    obtain ⟨k, m, b, cap, g, c, u, rfl, hmk, hE⟩ := hrel
    have hm1 : (m : Int) ≤ 1000000 := by omega
    have hm2 : m ≤ 1000000 := by omega
    have c1 : wr.cell? ⟨b, m, none⟩ = some (.slice (some ⟨g, 0, none⟩) 1 1) := (hE.out.row.cell m).trans hE.out.top
    have c2 := hE.out.row.soft m
    have c3 := hE.out.err.cell 0
    simp only [List.getElem?_cons_zero] at c3
    cases k with
    | zero =>
      have e : u = cdV x := hE.out.chain
      subst e
      unfold cdV at c3
      go_wp2_with fail
      go_ret
      exact ⟨rfl, hE.out.below.setCell (p := ⟨b, m, none⟩) hE.out.low _⟩
    | succ k =>
      obtain ⟨f, p, u', rfl, hf, hu⟩ := hE.out.chain
      obtain ⟨S, y, rfl⟩ := hu.form
      have hU := Lib.hid fun z => unwrap16_any f p (.iface S y) (wr.setCell ⟨b, m, none⟩ z) (ArrAt.far (ArrAt.next hf hE.out.below) m z (by have := ArrAt.lt hf; have := hE.out.low; omega))
      replace hu := Lib.hid hu
      unfold faultV at c3
      clear hf
      go_wp2_with fail
      refine (hU.out _).mono ?_
      rintro e w' ⟨rfl, rfl⟩
      clear hU c1 c2 c3
      go_wp2_with (at_builtin; go_must (refine wpList_append1_at rfl _ _ 100 98 rfl Tryz.underlying100 (.slice none 0 0) 24 info_errs rfl (by decide) 0 _ (m + 1) _ (.slice (some ⟨wr.heap.size, 0, none⟩) 1 1) (hE.out.owns (.iface S y) _) rfl (by simp [Act.eval, World.setCell]) rfl (by omega) (Nat.zero_le _) ?_))
      intro v' w4 ho _ hg hw
      obtain ⟨b', cap', c', rfl, h4⟩ := hE.out.more hu.out ho hg hw
      clear ho hg hw hu hE
      replace h4 := Lib.hid h4
      go_wp2_with fail
      exact ⟨⟨k, m + 1, b', cap', wr.heap.size, c', _, rfl, by omega, h4⟩, by simp [lenV]; omega⟩
end Go.Proofs.YtkgjbamkinfmeaaGreatDoor
