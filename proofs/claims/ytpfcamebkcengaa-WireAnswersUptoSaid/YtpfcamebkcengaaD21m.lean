/- Layer 21: ReadInt, ReadText, ReadState. -/
import Derived.Test.YtpfcamebkcengaaD21k
namespace Go.Proofs.Ytpfcamebkcengaa
open Go.RowKit

theorem rdO_new (w : World) (s : List UInt8) : RdO (w.alloc (.cells #[.string ⟨s.toArray⟩, .bool false] 64)) w.heap.size (some s) := arrAt_new w 64 [.string ⟨s.toArray⟩, .bool false]
theorem turn_below {w w' : World} {c : List Value} {T : TypeId} (h : Turned (fun b => b = w.heap.size) (w.alloc (.cells c.toArray T)) w') : Below w.heap.size w w' :=
  ((Below.refl w.heap.size w).alloc (Nat.le_refl _) (.cells c.toArray T)).trans (h.below (fun i _ e => Nat.le_of_eq (show w.heap.size = i from Eq.symm e)) (by simp))
theorem isSome_not {α : Type} (o : Option α) : (!o.isNone) = o.isSome := by cases o <;> rfl

set_option maxHeartbeats 1000000 in
set_option maxRecDepth 100000 in
theorem readInt21_any (s : List UInt8) (w : World) (hl : s.length ≤ 1000000000) :
    Calls Try.prog 12 #[.string ⟨s.toArray⟩] w fun e w' => e = .returned (.tuple #[.int .i64 (valO 0 (readI21 s)), .string ⟨((resO (readI21 s)).getD []).toArray⟩, .bool (resO (readI21 s)).isSome]) ∧ Below w.heap.size w w' := by
  have hn := Lib.hid (rd_number (rdO_new w s) (by simp only [Option.getD_some]; omega))
  have hrl := resI_len (some s)
  simp only [Option.bind_some, Option.getD_some] at hn hrl
  generalize readI21 s = r at *
  obtain ⟨l, hl2⟩ : ∃ l, (resO r).getD [] = l := ⟨_, rfl⟩
  obtain ⟨q, hq⟩ : ∃ q, (resO r).isNone = q := ⟨_, rfl⟩
  have hnot := Lib.hid (show (!q) = (resO r).isSome by rw [← hq]; exact isSome_not _)
  obtain ⟨p, hp⟩ : ∃ p, (resO r).isSome = p := ⟨_, rfl⟩
  rw [hl2] at hrl
  rw [hl2, hp]
  rw [hp] at hnot
  replace hl2 := Lib.hid hl2
  replace hq := Lib.hid hq
  clear hp
  go_enter Try.func12, Try.ntmps12
  go_wp2_with fail
  refine hn.out.mono ?_
  rintro e w1 ⟨rfl, k1, k2⟩
  have hkp := Lib.hid (fun V (hb : Below w1.heap.size w1 V) => (⟨by rw [← hl2.out]; exact (k1.next hb).c0, by rw [← hq.out]; exact (k1.next hb).c1⟩ : V.cell? ⟨w.heap.size, 0, none⟩ = some (.string ⟨l.toArray⟩) ∧ V.cell? ⟨w.heap.size, 1, none⟩ = some (.bool q)))
  have hbx := Lib.hid (turn_below (c := [.string ⟨s.toArray⟩, .bool false]) k2)
  clear k1 k2 hn
  go_wp2_with fail
  go_region_held3 (fun V => V.cell? ⟨w.heap.size, 0, none⟩ = some (.string ⟨l.toArray⟩) ∧ V.cell? ⟨w.heap.size, 1, none⟩ = some (.bool q)) (first | exact hkp.out _ hb2.out | exact hkp.out _ ((drawn_drew _).below _)) ((go_at_call 33; ((with_reducible refine (clone_any _ _ (by omega)).mono ?_); rintro e w2 ⟨rfl, hb⟩; have hb2 := Lib.hid (((drawn_drew w1).below w1.heap.size).andThen hb); clear hb)))
  go_wp2_with fail
  rw [hnot.out]
  go_ret3
  exact ⟨rfl, hbx.out.andThen hb2.out⟩

set_option maxHeartbeats 1000000 in
set_option maxRecDepth 100000 in
theorem readText21_any (s : List UInt8) (m : Int) (w : World) (hl : s.length ≤ 1000000000) :
    Calls Try.prog 14 #[.string ⟨s.toArray⟩, .int .i64 m] w fun e w' => e = .returned (.tuple #[.string ⟨(valO [] (readT21 s m)).toArray⟩, .string ⟨((resO (readT21 s m)).getD []).toArray⟩, .bool (resO (readT21 s m)).isSome]) ∧ Below w.heap.size w w' := by
  have hn := Lib.hid (rd_text (rdO_new w s) (by simp only [Option.getD_some]; omega) m)
  have hrl := resT_len (some s) m
  simp only [Option.bind_some, Option.getD_some] at hn hrl
  generalize readT21 s m = r at *
  obtain ⟨l, hl2⟩ : ∃ l, (resO r).getD [] = l := ⟨_, rfl⟩
  obtain ⟨q, hq⟩ : ∃ q, (resO r).isNone = q := ⟨_, rfl⟩
  have hnot := Lib.hid (show (!q) = (resO r).isSome by rw [← hq]; exact isSome_not _)
  obtain ⟨p, hp⟩ : ∃ p, (resO r).isSome = p := ⟨_, rfl⟩
  rw [hl2] at hrl
  rw [hl2, hp]
  rw [hp] at hnot
  replace hl2 := Lib.hid hl2
  replace hq := Lib.hid hq
  clear hp
  go_enter Try.func14, Try.ntmps14
  go_wp2_with fail
  refine hn.out.mono ?_
  rintro e w1 ⟨rfl, k1, k2⟩
  have hkp := Lib.hid (fun V (hb : Below w1.heap.size w1 V) => (⟨by rw [← hl2.out]; exact (k1.next hb).c0, by rw [← hq.out]; exact (k1.next hb).c1⟩ : V.cell? ⟨w.heap.size, 0, none⟩ = some (.string ⟨l.toArray⟩) ∧ V.cell? ⟨w.heap.size, 1, none⟩ = some (.bool q)))
  have hbx := Lib.hid (turn_below (c := [.string ⟨s.toArray⟩, .bool false]) k2)
  clear k1 k2 hn
  go_wp2_with fail
  go_region_held3 (fun V => V.cell? ⟨w.heap.size, 0, none⟩ = some (.string ⟨l.toArray⟩) ∧ V.cell? ⟨w.heap.size, 1, none⟩ = some (.bool q)) (first | exact hkp.out _ hb2.out | exact hkp.out _ ((drawn_drew _).below _)) ((go_at_call 33; ((with_reducible refine (clone_any _ _ (by omega)).mono ?_); rintro e w2 ⟨rfl, hb⟩; have hb2 := Lib.hid (((drawn_drew w1).below w1.heap.size).andThen hb); clear hb)))
  go_wp2_with fail
  rw [hnot.out]
  go_ret3
  exact ⟨rfl, hbx.out.andThen hb2.out⟩

/-- What ReadState answers. -/
def RsPost (w : World) (r : Option St21) (e : Ending) (w' : World) : Prop :=
  ∃ x : Sv21, e = .returned (.tuple #[svV x, .bool r.isSome]) ∧ (∀ y, r = some y → x.st = y) ∧ SvOwn w' w.heap.size x ∧ Below w.heap.size w w'
def sv0 : Sv21 := ⟨⟨0, 0, 0, [], [], []⟩, none, 0, none, 0, none, 0⟩
theorem sv0_own (w : World) (B : Nat) : SvOwn w B sv0 := ⟨World.ownsRow_nil _ _ _ _, World.ownsRow_nil _ _ _ _, World.ownsRow_nil _ _ _ _⟩
theorem ended_is (s : List UInt8) : (resO (stN s) == some []) = (readS21 s).isSome := by
  rw [readS_stN]
  cases h : stN s with
  | none => rfl
  | some p =>
    obtain ⟨x, t⟩ := p
    cases t with
    | nil => rfl
    | cons _ _ => rfl
theorem ended_st {s : List UInt8} {x y : St21} (h : ∀ y t, stN s = some (y, t) → x = y) (hy : readS21 s = some y) : x = y := by
  rw [readS_stN] at hy
  cases hs : stN s with
  | none => rw [hs] at hy; cases hy
  | some p =>
    obtain ⟨z, t⟩ := p
    rw [hs] at hy
    cases t with
    | nil => simp only [Option.some.injEq] at hy; rw [← hy]; exact h _ _ hs
    | cons _ _ => cases hy

set_option maxHeartbeats 4000000 in
set_option maxRecDepth 100000 in
theorem readState21_any (s : List UInt8) (w : World) (hl : s.length ≤ 1000000000) :
    Calls Try.prog 25 #[.string ⟨s.toArray⟩] w (RsPost w (readS21 s)) := by
  have hb0 := (Below.refl w.heap.size w).alloc (Nat.le_refl _) (.cells #[.slice none 0 0, .slice none 0 0, .slice none 0 0, .int .i64 0, .int .i64 0, .int .i64 0] 43)
  have hx0 := arrAt_new w 43 [Value.slice none 0 0, .slice none 0 0, .slice none 0 0, .int .i64 0, .int .i64 0, .int .i64 0]
  have e0 : (w.alloc (.cells #[.slice none 0 0, .slice none 0 0, .slice none 0 0, .int .i64 0, .int .i64 0, .int .i64 0] 43)).heap.size = w.heap.size + 1 := by simp
  have hR := rdO_new (w.alloc (.cells #[.slice none 0 0, .slice none 0 0, .slice none 0 0, .int .i64 0, .int .i64 0, .int .i64 0] 43)) s
  have hbr := (Below.refl (w.alloc (.cells #[.slice none 0 0, .slice none 0 0, .slice none 0 0, .int .i64 0, .int .i64 0, .int .i64 0] 43)).heap.size (w.alloc (.cells #[.slice none 0 0, .slice none 0 0, .slice none 0 0, .int .i64 0, .int .i64 0, .int .i64 0] 43))).alloc (Nat.le_refl _) (.cells #[.string ⟨s.toArray⟩, .bool false] 64)
  have hx1 := hx0.next hbr
  have hbW := hb0.trans (hbr.mono hb0.size)
  rw [e0] at hR
  have hn := rd_state hR (by simp only [Option.getD_some]; omega)
  simp only [Option.bind_some] at hn
  replace hn := Lib.hid hn
  replace hx1 := Lib.hid hx1
  replace hbW := Lib.hid hbW
  obtain ⟨rq, hrq⟩ : ∃ rq, readS21 s = rq := ⟨_, rfl⟩
  have hend := Lib.hid ((ended_is s).trans (congrArg Option.isSome hrq))
  have hval := Lib.hid (fun x y h (e : rq = some y) => ended_st (s := s) (x := x) (y := y) h (hrq.trans e))
  rw [hrq]
  clear hrq
  clear hb0 hx0 hbr hR e0
  go_enter Try.func25, Try.ntmps25
  go_wp2_with fail
  refine hn.out.mono ?_
  rintro e w1 ⟨x, rfl, hx, ho, hr, ht⟩
  have hx2 := hx1.out.turned ht (by show ¬ w.heap.size = w.heap.size + 1; omega)
  have hb2 := hbW.out.trans (ht.below (B := w.heap.size) (fun i _ e => by have e' : i = w.heap.size + 1 := e; omega) (Nat.le_trans hbW.out.size (Nat.le_refl _)))
  have hbx := (Below.refl w1.heap.size w1).alloc (Nat.le_refl _) (.cells (svC x).toArray 43)
  have hK := arrAt_new w1 43 (svC x)
  have hlt1 : w.heap.size < w1.heap.size := hx2.lt
  have hown : SvOwn (w1.alloc (.cells (svC x).toArray 43)) w.heap.size x := ⟨ownsRow_mono (ho.next hbx).fs hbW.out.size, ownsRow_mono (ho.next hbx).es hbW.out.size, ownsRow_mono (ho.next hbx).rs hbW.out.size⟩
  have hr3 := hr.next hbx
  have hx3 := hx2.next hbx
  have hb3 := hb2.trans (hbx.mono hb2.size)
  replace hx := Lib.hid hx
  obtain ⟨⟨no, fl, ep, fs, es, rs⟩, fa, fc, ea, ec, ra, rc⟩ := x
  unfold svV
  unfold svC at hK hr3 hx3 hb3 hown ⊢
  simp only at hK hr3 hx3 hb3 hown ⊢
  replace hK := Lib.hid hK
  replace hx3 := Lib.hid hx3
  replace hown := Lib.hid hown
  replace hr3 := Lib.hid hr3
  replace hb3 := Lib.hid hb3
  clear hn hx1 hbW ho hr ht hx2 hb2 hbx
  go_upto_region 3 with fail
  refine hide_world (K := fun a w' => Code.wp _ _ _ a w') (R := fun W => ArrAt W w1.heap.size 43 [.slice fa fs.length fc, .slice ea es.length ec, .slice ra rs.length rc, .int .i64 no, .int .i64 fl, .int .i64 ep] ∧ ArrAt W w.heap.size 43 [.slice none 0 0, .slice none 0 0, .slice none 0 0, .int .i64 0, .int .i64 0, .int .i64 0] ∧ SvOwn W w.heap.size ⟨⟨no, fl, ep, fs, es, rs⟩, fa, fc, ea, ec, ra, rc⟩ ∧ RdO W (w.heap.size + 1) (resO (stN s)) ∧ Below w.heap.size w W) ⟨hK.out, hx3.out, hown.out, hr3.out, hb3.out⟩ ?_
  intro W4 hW4
  clear hK hx3 hown hr3 hb3
  obtain ⟨hK, hx3, hown, hr3, hb3⟩ := hW4.out
  have hen := rd_ended hr3
  rw [hend.out] at hen
  replace hen := Lib.hid hen
  have hcell := fun i => hK.cell i
  have c0 := hcell 0
  have c1 := hcell 1
  have c2 := hcell 2
  have c3 := hcell 3
  have c4 := hcell 4
  have c5 := hcell 5
  simp only [List.getElem?_cons_zero, List.getElem?_cons_succ] at c0 c1 c2 c3 c4 c5
  replace hx3 := Lib.hid hx3
  replace hown := Lib.hid hown
  replace hb3 := Lib.hid hb3
  clear hcell hK hr3 hW4 hend
  go_wp2_with fail
  refine hen.out.mono ?_
  rintro e w2 ⟨rfl, rfl⟩
  have hcell := fun i => hx3.out.cell i
  have hsoft := fun i => hx3.out.soft i
  have z0 := hcell 0
  have z1 := hcell 1
  have z2 := hcell 2
  have z3 := hcell 3
  have z4 := hcell 4
  have z5 := hcell 5
  have s0 := hsoft 0
  have s1 := hsoft 1
  have s2 := hsoft 2
  have s3 := hsoft 3
  have s4 := hsoft 4
  have s5 := hsoft 5
  simp only [List.getElem?_cons_zero, List.getElem?_cons_succ] at z0 z1 z2 z3 z4 z5
  have hval2 := Lib.hid (fun y (e : rq = some y) => hval.out _ _ hx.out e)
  clear hcell hsoft hen hval
  cases rq with
  | none =>
    simp only [Option.isSome_none] at *
    go_wp2_with fail
    refine bodyPost_ret (v := .tuple #[svV sv0, .bool false]) (by simp [results, Try.results25, svV, svC, sv0, List.length_nil, go_sem, z0, z1, z2, z3, z4, z5]) rfl ?_
    exact ⟨sv0, rfl, (fun _ e => by cases e), sv0_own _ _, (((((hb3.out.setCell (p := ⟨w.heap.size, 0, none⟩) (Nat.le_refl _) _).setCell (p := ⟨w.heap.size, 1, none⟩) (Nat.le_refl _) _).setCell (p := ⟨w.heap.size, 2, none⟩) (Nat.le_refl _) _).setCell (p := ⟨w.heap.size, 3, none⟩) (Nat.le_refl _) _).setCell (p := ⟨w.heap.size, 4, none⟩) (Nat.le_refl _) _).setCell (p := ⟨w.heap.size, 5, none⟩) (Nat.le_refl _) _⟩
  | some y =>
    simp only [Option.isSome_some] at *
    have hxy := Lib.hid (hval2.out y rfl)
    go_wp2_with fail
    refine bodyPost_ret (v := .tuple #[svV ⟨⟨no, fl, ep, fs, es, rs⟩, fa, fc, ea, ec, ra, rc⟩, .bool true]) (by simp [results, Try.results25, svV, svC, go_sem, z0, z1, z2, z3, z4, z5]) rfl ?_
    refine ⟨_, rfl, ?_, ?_, (((((hb3.out.setCell (p := ⟨w.heap.size, 0, none⟩) (Nat.le_refl _) _).setCell (p := ⟨w.heap.size, 1, none⟩) (Nat.le_refl _) _).setCell (p := ⟨w.heap.size, 2, none⟩) (Nat.le_refl _) _).setCell (p := ⟨w.heap.size, 3, none⟩) (Nat.le_refl _) _).setCell (p := ⟨w.heap.size, 4, none⟩) (Nat.le_refl _) _).setCell (p := ⟨w.heap.size, 5, none⟩) (Nat.le_refl _) _⟩
    · intro y' e
      injection e with e
      rw [← e]
      exact hxy.out
    · have g0 := hown.out
      have a0 := hx3.out
      have g1 := g0.far (k := 0) a0 (by decide) (by decide) (by decide) (.slice fa fs.length fc)
      have a1 := a0.set 0 (.slice fa fs.length fc)
      have g2 := g1.far (k := 1) a1 (by decide) (by decide) (by decide) (.slice ea es.length ec)
      have a2 := a1.set 1 (.slice ea es.length ec)
      have g3 := g2.far (k := 2) a2 (by decide) (by decide) (by decide) (.slice ra rs.length rc)
      have a3 := a2.set 2 (.slice ra rs.length rc)
      have g4 := g3.far (k := 3) a3 (by decide) (by decide) (by decide) (.int .i64 no)
      have a4 := a3.set 3 (.int .i64 no)
      have g5 := g4.far (k := 4) a4 (by decide) (by decide) (by decide) (.int .i64 fl)
      have a5 := a4.set 4 (.int .i64 fl)
      have g6 := g5.far (k := 5) a5 (by decide) (by decide) (by decide) (.int .i64 ep)
      have a6 := a5.set 5 (.int .i64 ep)
      exact g6
end Go.Proofs.Ytpfcamebkcengaa
