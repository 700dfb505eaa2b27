/- Layer 21: the writer: keys, truths, signatures, entries. -/
import Derived.Test.YtpfcamebkcengaaD21a
import Derived.Test.YtpfcamebkcengaaD21q
import Derived.Deep.RegionHeld3
import Derived.IntWalk
namespace Go.Proofs.Ytpfcamebkcengaa
open Go.RowKit

/-- Within a method of the writer: the builder, and a box (block K) of the method's own. -/
structure WrM (w0 : World) (o0 : Option Nat) (B b : Nat) (l : List UInt8) (K : Nat) (T : TypeId) (c : List Value) (w : World) (o : Option Nat) : Prop where
  its : WrAt w B b l o
  wr : Wr w0 w b o0 o
  box : ArrAt w K T c
  far : Far w b o K
theorem wrM_begin {w : World} {o : Option Nat} {B b : Nat} {l : List UInt8} (h : WrAt w B b l o) (T : TypeId) (c : List Value) : WrM w o B b l w.heap.size T c (w.alloc (.cells c.toArray T)) o :=
  have hb := (Below.refl w.heap.size w).alloc (Nat.le_refl _) (.cells c.toArray T)
  ⟨h.next hb, (Wr.refl w b o).after hb, arrAt_new w T c, far_new h (by simp)⟩
theorem WrM.step {w0 : World} {o0 o o' : Option Nat} {B b : Nat} {l l' : List UInt8} {K : Nat} {T : TypeId} {c : List Value} {w w' : World} (h : WrM w0 o0 B b l K T c w o) (k : WrAt w' B b l' o') (j : Wr w w' b o o') : WrM w0 o0 B b l' K T c w' o' :=
  ⟨k, h.wr.trans j, h.box.wr h.far j, h.far.next j⟩
theorem WrM.cell {w0 : World} {o0 o : Option Nat} {B b : Nat} {l : List UInt8} {K : Nat} {T : TypeId} {c : List Value} {w : World} (h : WrM w0 o0 B b l K T c w o) (i : Nat) : w.cell? ⟨K, i, none⟩ = c[i]? := ArrAt.cell h.box i
theorem WrM.post {w0 : World} {o0 o : Option Nat} {B b : Nat} {l : List UInt8} {K : Nat} {T : TypeId} {c : List Value} {w : World} (h : WrM w0 o0 B b l K T c w o) : ∃ o', WrAt w B b l o' ∧ Wr w0 w b o0 o' := ⟨o, h.its, h.wr⟩

/-- A key as a value, and its cells. -/
def kyC (k : Ky21) : List Value := [.string ⟨k.feed.toArray⟩, .string ⟨k.guid.toArray⟩]
def kyV (k : Ky21) : Value := .agg (kyC k).toArray
/-- Texts that a text's length counts. -/
def KyBd (k : Ky21) : Prop := k.feed.length ≤ 9223372036854775807 ∧ k.guid.length ≤ 9223372036854775807

set_option maxHeartbeats 1000000 in
theorem wr_key {w : World} {B b : Nat} {l : List UInt8} {o : Option Nat} (h : WrAt w B b l o) (k : Ky21) (hk : KyBd k) (hlen : l.length + (key21 k).length ≤ 140737488355328) :
    Calls Try.prog 67 #[.pointer (some ⟨b, 0, none⟩), kyV k] w (WrPost w B b o (l ++ key21 k) (.tuple #[])) := by
  unfold key21 at *
  rw [List.length_append] at hlen
  have hM := Lib.hid (wrM_begin h 51 (kyC k))
  have hn := Lib.hid (wr_txt hM.out.its k.feed hk.1 (by omega))
  obtain ⟨f, g⟩ := k
  unfold kyV
  unfold kyC at *
  simp only at *
  clear h
  go_enter Try.func67, Try.ntmps67
  go_wp2_with fail
  refine hn.out.mono ?_
  rintro e w1 ⟨rfl, o1, k1, k2⟩
  have hM1 := Lib.hid (hM.out.step k1 k2)
  have hc := Lib.hid (wr_txt k1 g hk.2 (by rw [List.length_append]; omega))
  have c1 := hM1.out.cell 1
  simp only [List.getElem?_cons_zero, List.getElem?_cons_succ] at c1
  clear k1 k2 hM hn
  go_wp2_with fail
  refine hc.out.mono ?_
  rintro e w2 ⟨rfl, o2, k1, k2⟩
  have hM2 := Lib.hid (hM1.out.step k1 k2)
  clear k1 k2 hM1 hc c1
  go_wp2_with fail
  go_end0
  exact ⟨rfl, by rw [← List.append_assoc]; exact hM2.out.post⟩

/-- A truth, as a number. -/
def truth21 (x : Bool) : List UInt8 := int21 (if x then 1 else 0)
set_option maxHeartbeats 1000000 in
theorem wr_truth {w : World} {B b : Nat} {l : List UInt8} {o : Option Nat} (h : WrAt w B b l o) (x : Bool) (hlen : l.length + (truth21 x).length ≤ 140737488355328) :
    Calls Try.prog 74 #[.pointer (some ⟨b, 0, none⟩), .bool x] w (WrPost w B b o (l ++ truth21 x) (.tuple #[])) := by
  unfold truth21 at *
  cases x
  · simp only [Bool.false_eq_true, if_false] at *
    have hn := Lib.hid (wr_number h 0 (by omega) (by omega) hlen)
    clear h
    go_enter Try.func74, Try.ntmps74
    go_wp2_with fail
    refine hn.out.mono ?_
    rintro e w1 ⟨rfl, o1, k1, k2⟩
    go_wp2_with fail
    go_end0
    exact ⟨rfl, o1, k1, k2⟩
  · simp only [if_true] at *
    have hn := Lib.hid (wr_number h 1 (by omega) (by omega) hlen)
    clear h
    go_enter Try.func74, Try.ntmps74
    go_wp2_with fail
    refine hn.out.mono ?_
    rintro e w1 ⟨rfl, o1, k1, k2⟩
    go_wp2_with fail
    go_end0
    exact ⟨rfl, o1, k1, k2⟩

theorem le_take (s : Nat) : ∀ (k j : Nat), j < k → (le21 k s).take (j + 1) = (le21 k s).take j ++ [UInt8.ofNat (s / 2 ^ (8 * j) % 256)] := by
  intro k j hj
  have : ∀ (k j s : Nat), j < k → (le21 k s)[j]? = some (UInt8.ofNat (s / 2 ^ (8 * j) % 256)) := by
    intro k
    induction k with
    | zero => intro j s h; omega
    | succ k ih =>
      intro j s h
      unfold le21
      cases j with
      | zero =>
        simp only [List.getElem?_cons_zero, Nat.mul_zero, Nat.pow_zero, Nat.div_one, Option.some.injEq]
        exact UInt8.toNat_inj.1 (by rw [UInt8.toNat_ofNat', UInt8.toNat_ofNat']; omega)
      | succ j =>
        rw [List.getElem?_cons_succ, ih j _ (by omega), Nat.div_div_eq_div_mul]
        congr 4
        rw [show 8 * (j + 1) = 8 + 8 * j by omega, Nat.pow_add]
  have hk := this k j s hj
  have hl := (List.getElem?_eq_some_iff.1 hk)
  obtain ⟨h1, h2⟩ := hl
  rw [List.take_succ_eq_append_getElem h1, h2]
set_option maxHeartbeats 2000000 in
theorem wr_sig {w : World} {B b : Nat} {l : List UInt8} {o : Option Nat} (h : WrAt w B b l o) (s : Nat) (hs : s < 18446744073709551616) (hlen : l.length + (le21 8 s).length ≤ 140737488355328) :
    Calls Try.prog 73 #[.pointer (some ⟨b, 0, none⟩), .int .u64 s] w (WrPost w B b o (l ++ le21 8 s) (.tuple #[])) := by
  rw [le_len] at hlen
  have hW := Lib.hid (⟨o, h, Wr.refl w b o⟩ : ∃ o', WrAt w B b l o' ∧ Wr w w b o o')
  clear h
  go_enter Try.func73, Try.ntmps73
  go_wp2_with fail
  go_loopw [5] (fun a wr => ∃ j : Nat, a = .int .i64 (j : Int) ∧ j ≤ 8 ∧ Hid (∃ o', WrAt wr B b (l ++ (le21 8 s).take j) o' ∧ Wr w wr b o o')) (fun a _ => 8 - (intOf a).toNat)
  case atStart => exact ⟨0, rfl, by omega, by rw [List.take_zero, List.append_nil]; exact hW⟩
  case round =>
    obtain ⟨j, rfl, hj, hr⟩ := hrel
    by_cases hlt : j < 8
    · obtain ⟨o1, hr1, hr2⟩ := hr.out
      obtain ⟨X, hX⟩ : ∃ X : Nat, s / 2 ^ (8 * j) = X := ⟨_, rfl⟩
      obtain ⟨V, hV⟩ : ∃ V : Nat, X % 256 = V := ⟨_, rfl⟩
      obtain ⟨z, hz⟩ : ∃ z : Int, ((8 * j : Nat) : Int) = z := ⟨_, rfl⟩
      have hw8 : IntKind.i64.wrap (8 * (j : Int)) = z := by rw [show 8 * (j : Int) = z by omega]; exact IntWalk.i64_in _ (by omega)
      have hsh : Op.shift .shr .u64 (s : Int) .i64 z = pure (.int .u64 (X : Int)) := by rw [← hX]; exact shr_u64 s (8 * j) _ z hz (by omega)
      have hX1 : X ≤ 18446744073709551615 := by rw [← hX]; have := Nat.div_le_self s (2 ^ (8 * j)); omega
      have hV1 : V < 256 := by omega
      have hc := Lib.hid (fun W (hb : Below wr.heap.size wr W) => wr_byte (hr1.next hb) (V : Int) (UInt8.ofNat V) (by rw [UInt8.toNat_ofNat']; omega) (by rw [List.length_append, List.length_take, le_len]; omega))
      have hv := Lib.hid (show l ++ (le21 8 s).take j ++ [UInt8.ofNat V] = l ++ (le21 8 s).take (j + 1) by rw [le_take s 8 j hlt, hX, hV, List.append_assoc])
      have hV2 : IntKind.u8.wrap (X : Int) = (V : Int) := by rw [IntKind.wrap_u8]; omega
      clear hr hr1 hX hV hz
      replace hr2 := Lib.hid hr2
      go_wp2_with fail
      go_region_held3 (fun _ => True) (first | trivial) ((go_at_call 55; ((with_reducible refine (hc.out _ ((drawn_drew _).below _)).mono ?_); rintro e w2 ⟨rfl, o2, k1, k2⟩; replace k1 := Lib.hid k1; replace k2 := Lib.hid k2)))
      clear hw8 hsh hV2
      go_wp2_with fail
      exact ⟨⟨j + 1, rfl, by omega, Lib.hid ⟨o2, by rw [← hv.out]; exact k1.out, (hr2.out.after ((drawn_drew _).below _)).trans k2.out⟩⟩, by simp [intOf]; omega⟩
    · have : j = 8 := by omega
      subst this
      have hv := Lib.hid (show (le21 8 s).take 8 = le21 8 s from List.take_of_length_le (by rw [le_len]; exact Nat.le_refl _))
      go_wp2_with fail
      go_end0
      exact ⟨rfl, by have := hr.out; rwa [hv.out] at this⟩

/-- An entry as a value, and its cells. -/
def enC (x : En21) : List Value := [.string ⟨x.key.feed.toArray⟩, .string ⟨x.key.guid.toArray⟩, .string ⟨x.title.toArray⟩, .string ⟨x.link.toArray⟩, .string ⟨x.body.toArray⟩, .int .i64 x.stamp, .int .u64 x.sig]
def enV (x : En21) : Value := .agg (enC x).toArray
structure EnBd (x : En21) : Prop where
  key : KyBd x.key
  title : x.title.length ≤ 9223372036854775807
  link : x.link.length ≤ 9223372036854775807
  body : x.body.length ≤ 9223372036854775807
  st1 : -9223372036854775808 ≤ x.stamp
  st2 : x.stamp ≤ 9223372036854775807
  sig : x.sig < 18446744073709551616

set_option maxHeartbeats 2000000 in
set_option maxRecDepth 100000 in
theorem wr_entry {w : World} {B b : Nat} {l : List UInt8} {o : Option Nat} (h : WrAt w B b l o) (x : En21) (hx : EnBd x) (hlen : l.length + (ent21 x).length ≤ 140737488355328) :
    Calls Try.prog 65 #[.pointer (some ⟨b, 0, none⟩), enV x] w (WrPost w B b o (l ++ ent21 x) (.tuple #[])) := by
  unfold ent21 at *
  simp only [List.length_append] at hlen
  have hM0 := Lib.hid (wrM_begin h 53 (enC x))
  have hn0 := Lib.hid (wr_key hM0.out.its x.key hx.key (by omega))
  obtain ⟨⟨f, g⟩, t, lk, by_, st, sg⟩ := x
  unfold enV
  unfold enC at *
  unfold kyV kyC at hn0
  simp only at *
  obtain ⟨x1, x2, x3, x4, x5, x6, x7⟩ := hx
  simp only at *
  clear h
  go_enter Try.func65, Try.ntmps65
  go_wp2_with fail
  refine hn0.out.mono ?_
  rintro e w1 ⟨rfl, o1, k1, k2⟩
  have hM1 := Lib.hid (hM0.out.step k1 k2)
  have hn1 := Lib.hid (wr_txt k1 t x2 (by simp only [List.length_append] at *; omega))
  have hcell := fun i => hM1.out.cell i
  have c2 := hcell 2
  simp only [List.getElem?_cons_zero, List.getElem?_cons_succ] at c2
  clear hcell
  clear k1 k2 hM0 hn0
  go_wp2_with fail
  refine hn1.out.mono ?_
  rintro e w2 ⟨rfl, o2, k1, k2⟩
  have hM2 := Lib.hid (hM1.out.step k1 k2)
  have hn2 := Lib.hid (wr_txt k1 lk x3 (by simp only [List.length_append] at *; omega))
  have hcell := fun i => hM2.out.cell i
  have c3 := hcell 3
  simp only [List.getElem?_cons_zero, List.getElem?_cons_succ] at c3
  clear hcell
  clear k1 k2 hM1 hn1 c2
  go_wp2_with fail
  refine hn2.out.mono ?_
  rintro e w3 ⟨rfl, o3, k1, k2⟩
  have hM3 := Lib.hid (hM2.out.step k1 k2)
  have hn3 := Lib.hid (wr_txt k1 by_ x4 (by simp only [List.length_append] at *; omega))
  have hcell := fun i => hM3.out.cell i
  have c4 := hcell 4
  simp only [List.getElem?_cons_zero, List.getElem?_cons_succ] at c4
  clear hcell
  clear k1 k2 hM2 hn2 c3
  go_wp2_with fail
  refine hn3.out.mono ?_
  rintro e w4 ⟨rfl, o4, k1, k2⟩
  have hM4 := Lib.hid (hM3.out.step k1 k2)
  have hn4 := Lib.hid (wr_number k1 st x5 x6 (by simp only [List.length_append] at *; omega))
  have hcell := fun i => hM4.out.cell i
  have c5 := hcell 5
  simp only [List.getElem?_cons_zero, List.getElem?_cons_succ] at c5
  clear hcell
  clear k1 k2 hM3 hn3 c4
  go_wp2_with fail
  refine hn4.out.mono ?_
  rintro e w5 ⟨rfl, o5, k1, k2⟩
  have hM5 := Lib.hid (hM4.out.step k1 k2)
  have hn5 := Lib.hid (wr_sig k1 sg x7 (by simp only [List.length_append] at *; omega))
  have hcell := fun i => hM5.out.cell i
  have c6 := hcell 6
  simp only [List.getElem?_cons_zero, List.getElem?_cons_succ] at c6
  clear hcell
  clear k1 k2 hM4 hn4 c5
  go_wp2_with fail
  refine hn5.out.mono ?_
  rintro e w6 ⟨rfl, o6, k1, k2⟩
  have hM6 := Lib.hid (hM5.out.step k1 k2)
  clear k1 k2 hM5 hn5 c6
  go_wp2_with fail
  go_end0
  exact ⟨rfl, by simpa only [List.append_assoc] using hM6.out.post⟩
end Go.Proofs.Ytpfcamebkcengaa
