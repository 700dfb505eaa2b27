/- Layer 8's laws: the number of an error, an index that the law itself made, the document's examples. -/
import Derived.Test.YtgldlfgidmgmfaaD08h
import Derived.Test.YtgldlfgidmgmfaaIs
namespace Go.Proofs.Ytgldlfgidmgmfaa
open Go.RowKit Go.Maps

theorem code_nil (w : World) : Calls Try.prog 9 #[.nilIface] w fun e w' => e = .returned (.int .i64 0) ∧ w = w' := by
  have hn : ∀ W, (binOp .eql 25 .nilIface .nilIface).run Try.prog W = .ok (.bool true) W := fun W => by kernel_rfl
  go_enter Try.func9, Try.ntmps9
  go_wp2_with fail
  go_ret
  exact ⟨rfl, rfl⟩
theorem code_arg (w : World) : Calls Try.prog 9 #[.iface 29 (.int .i64 1)] w fun e w' => e = .returned (.int .i64 1) ∧ w = w' := by
  have hn : ∀ W, (binOp .eql 25 (.iface 29 (.int .i64 1)) .nilIface).run Try.prog W = .ok (.bool false) W := fun W => by kernel_rfl
  have hi := Lib.hid is_code
  go_enter Try.func9, Try.ntmps9
  go_wp2_with fail
  refine wp_loop_rounds 1 ?_
  rw [rounds_succ]
  go_wp2_with fail
  refine (hi.out _).mono ?_; rintro e w' ⟨rfl, rfl⟩
  go_wp2_with fail
  go_ret
  exact ⟨rfl, rfl⟩

/-- An index that lies from block B on. -/
def Own1 (B : Nat) (w : World) (X d : Nat) (L : List (Int × Int)) (m : Nat) : Prop := ∃ fp, IdxAt w X d L m fp ∧ ∀ b, fp b → B ≤ b
theorem Own1.below {B : Nat} {w w' : World} {X d : Nat} {L : List (Int × Int)} {m : Nat} (h : Own1 B w X d L m) (hb : Below w.heap.size w w') : Own1 B w' X d L m := by
  obtain ⟨fp, h1, h2⟩ := h
  exact ⟨fp, h1.below hb, h2⟩
theorem own_new {d : Nat} (w : World) (hd : d < 16) {B : Nat} (hB : B ≤ w.heap.size) : Calls Try.prog 7 #[.int .i64 d] w fun e w' => ∃ X, e = .returned (.tuple #[.pointer (some ⟨X, 0, none⟩), .nilIface]) ∧ Own1 B w' X d [] 0 ∧ Below w.heap.size w w' := by
  refine (new_yes d w hd).mono ?_
  rintro e w' ⟨X, fp, rfl, h, hf, hb⟩
  exact ⟨X, rfl, ⟨fp, h, fun b hb' => Nat.le_trans hB (hf b hb')⟩, hb⟩
theorem own_add {B : Nat} {w : World} {X d : Nat} {L : List (Int × Int)} {m : Nat} (h : Own1 B w X d L m) (hB : B ≤ w.heap.size) {id s : Int} (hid : (Lit.int .i64 id).wf = true) (hs : (Lit.int .u64 s).wf = true) (hm : m < 40000) (hn : ¬ ∃ t, (id, t) ∈ L) :
    Calls Try.prog 11 #[.pointer (some ⟨X, 0, none⟩), .int .i64 id, .int .u64 s] w fun e w' => e = .returned (.bool true) ∧ Own1 B w' X d (addL L id s) (m + 1) ∧ Below B w w' := by
  obtain ⟨fp, h1, h2⟩ := h
  refine (add_any X d L m fp id s w h1 hid hs (by omega)).mono ?_
  rintro e w' (⟨hex, _⟩ | ⟨_, rfl, fp', g1, g2, g3⟩)
  · exact absurd hex hn
  · refine ⟨rfl, ⟨fp', g1, fun b hb => ?_⟩, g2.below (fun i _ hi => h2 i hi) hB⟩
    rcases g3 b hb with h' | h'
    · exact h2 b h'
    · omega
theorem own_add_no {B : Nat} {w : World} {X d : Nat} {L : List (Int × Int)} {m : Nat} (h : Own1 B w X d L m) {id s : Int} (hid : (Lit.int .i64 id).wf = true) (hs : (Lit.int .u64 s).wf = true) (hm : m < 40000) (hn : ∃ t, (id, t) ∈ L) :
    Calls Try.prog 11 #[.pointer (some ⟨X, 0, none⟩), .int .i64 id, .int .u64 s] w fun e w' => e = .returned (.bool false) ∧ w = w' := by
  obtain ⟨fp, h1, h2⟩ := h
  refine (add_any X d L m fp id s w h1 hid hs (by omega)).mono ?_
  rintro e w' (⟨_, rfl, rfl⟩ | ⟨hn', _⟩)
  · exact ⟨rfl, rfl⟩
  · exact absurd hn hn'
theorem own_drop {B : Nat} {w : World} {X d : Nat} {L : List (Int × Int)} {m : Nat} (h : Own1 B w X d L m) (hB : B ≤ w.heap.size) {id : Int} (hid : (Lit.int .i64 id).wf = true) (hm : m < 40000) (hn : ∃ t, (id, t) ∈ L) :
    Calls Try.prog 13 #[.pointer (some ⟨X, 0, none⟩), .int .i64 id] w fun e w' => e = .returned (.bool true) ∧ Own1 B w' X d (dropL L id) m ∧ Below B w w' := by
  obtain ⟨fp, h1, h2⟩ := h
  refine (idrop_any X d L m fp id w h1 hid (by omega)).mono ?_
  rintro e w' (⟨hn', _⟩ | ⟨_, rfl, fp', g1, g2, g3⟩)
  · exact absurd hn hn'
  · refine ⟨rfl, ⟨fp', g1, fun b hb => ?_⟩, g2.below (fun i _ hi => h2 i hi) hB⟩
    rcases g3 b hb with h' | h'
    · exact h2 b h'
    · omega
theorem own_drop_no {B : Nat} {w : World} {X d : Nat} {L : List (Int × Int)} {m : Nat} (h : Own1 B w X d L m) {id : Int} (hid : (Lit.int .i64 id).wf = true) (hm : m < 40000) (hn : ¬ ∃ t, (id, t) ∈ L) :
    Calls Try.prog 13 #[.pointer (some ⟨X, 0, none⟩), .int .i64 id] w fun e w' => e = .returned (.bool false) ∧ w = w' := by
  obtain ⟨fp, h1, h2⟩ := h
  refine (idrop_any X d L m fp id w h1 hid (by omega)).mono ?_
  rintro e w' (⟨_, rfl, rfl⟩ | ⟨hex, _⟩)
  · exact ⟨rfl, rfl⟩
  · exact absurd hex hn
theorem own_len {B : Nat} {w : World} {X d : Nat} {L : List (Int × Int)} {m : Nat} (h : Own1 B w X d L m) : Calls Try.prog 17 #[.pointer (some ⟨X, 0, none⟩)] w fun e w' => e = .returned (.int .i64 (L.length : Nat)) ∧ w = w' := by
  obtain ⟨fp, h1, _⟩ := h
  exact len_any X d L m fp w h1
theorem own_near {B : Nat} {w : World} {X d : Nat} {L : List (Int × Int)} {m : Nat} (h : Own1 B w X d L m) {s : Int} (hs : (Lit.int .u64 s).wf = true) (hm : m < 40000) : Calls Try.prog 20 #[.pointer (some ⟨X, 0, none⟩), .int .u64 s] w (ListPost (nearL L s d) w) := by
  obtain ⟨fp, h1, _⟩ := h
  exact near_any X d L m fp s w h1 hs (by omega)
theorem own_sharing {B : Nat} {w : World} {X d : Nat} {L : List (Int × Int)} {m : Nat} (h : Own1 B w X d L m) {s : Int} (hs : (Lit.int .u64 s).wf = true) (hm : m < 40000) : Calls Try.prog 22 #[.pointer (some ⟨X, 0, none⟩), .int .u64 s] w (ListPost (shareL L s d) w) := by
  obtain ⟨fp, h1, _⟩ := h
  exact sharing_any X d L m fp s w h1 hs (by omega)
def Own1Post (B : Nat) (w : World) (X d : Nat) (L : List (Int × Int)) (m : Nat) (e : Ending) (w' : World) : Prop := e = .returned (.bool true) ∧ Own1 B w' X d L m ∧ Below B w w'

theorem ex_near : nearL [(7, 0), (9, 7)] 1 3 = [7, 9] := by decide +kernel
set_option maxHeartbeats 1000000 in
set_option maxRecDepth 100000 in
theorem awake8_any (w : World) : Calls Try.prog 10 #[] w (LawPost w) := by
  have k1 := Lib.hid (own_new (d := 3) w (by decide) (Nat.le_refl w.heap.size))
  have k2 := Lib.hid (fun W => new_no 16 W (by decide))
  have hn : ∀ W, (binOp .neq 25 .nilIface .nilIface).run Try.prog W = .ok (.bool false) W := fun W => by kernel_rfl
  go_enter Try.func10, Try.ntmps10
  go_wp2_with fail
  refine k1.out.mono ?_; rintro e w1 ⟨X, rfl, ho, hb⟩
  replace ho := Lib.hid ho
  replace hb := Lib.hid hb
  clear k1
  go_wp2_with fail
  refine (k2.out _).mono ?_; rintro e w2 ⟨rfl, rfl⟩
  clear k2
  go_wp2_with fail
  refine (own_add ho.out hb.out.size (by decide) (by decide) (by decide) (by simp)).mono ?_; rintro e w2 ⟨rfl, ho2, hb2⟩
  replace ho := Lib.hid (show Own1 w.heap.size w2 X 3 [(7, 0)] 1 from ho2)
  replace hb := Lib.hid (hb.out.trans hb2)
  clear ho2 hb2
  go_wp2_with fail
  refine (own_add ho.out hb.out.size (by decide) (by decide) (by decide) (by simp)).mono ?_; rintro e w3 ⟨rfl, ho2, hb2⟩
  replace ho := Lib.hid (show Own1 w.heap.size w3 X 3 [(7, 0), (9, 7)] 2 from ho2)
  replace hb := Lib.hid (hb.out.trans hb2)
  clear ho2 hb2
  go_wp2_with fail
  refine (own_add_no ho.out (by decide) (by decide) (by decide) ⟨0, by simp⟩).mono ?_; rintro e w4 ⟨rfl, rfl⟩
  go_wp2_with fail
  refine (own_near ho.out (by decide) (by decide)).mono ?_; rintro e w4 ⟨v, rfl, hl, hb4⟩
  rw [ex_near] at hl
  replace ho := Lib.hid (ho.out.below hb4)
  replace hb := Lib.hid (hb.out.trans (hb4.mono hb.out.size))
  clear hb4
  obtain ⟨g, cap, rfl, _, _⟩ := World.ownsRow.form hl (by decide)
  have c0 : w4.cell? ⟨g, 0, none⟩ = some (.int .i64 7) := World.ownsRow.cellAt hl 0 (by decide)
  clear hl
  go_wp2_with fail
  refine (code_arg _).mono ?_; rintro e w5 ⟨rfl, rfl⟩
  go_wp2_with fail
  refine (own_len ho.out).mono ?_; rintro e w5 ⟨rfl, rfl⟩
  go_wp2_with fail
  refine (own_drop ho.out hb.out.size (by decide) (by decide) ⟨0, by simp⟩).mono ?_; rintro e w5 ⟨rfl, ho2, hb2⟩
  replace ho := Lib.hid (show Own1 w.heap.size w5 X 3 [(9, 7)] 2 from ho2)
  replace hb := Lib.hid (hb.out.trans hb2)
  clear ho2 hb2 c0
  go_wp2_with fail
  refine (own_drop_no ho.out (by decide) (by decide) (by simp)).mono ?_; rintro e w6 ⟨rfl, rfl⟩
  go_wp2_with fail
  refine (own_len ho.out).mono ?_; rintro e w6 ⟨rfl, rfl⟩
  go_wp2_with fail
  go_ret
  exact ⟨rfl, hb.out⟩

set_option maxHeartbeats 1000000 in
set_option maxRecDepth 100000 in
theorem nil08_law (id s : Int) (w : World) : Calls Try.prog 6 #[.int .i64 id, .int .u64 s] w (LawPost w) := by
  have c1 := Lib.hid (fun W => get_nil id W)
  have c2 := Lib.hid (fun W => add_nil id s W)
  have c3 := Lib.hid (fun W => drop_nil id W)
  have c4 := Lib.hid (fun W => len_nil W)
  have c5 := Lib.hid (fun W => near_nil s W)
  have c6 := Lib.hid (fun W => sharing_nil s W)
  go_enter Try.func6, Try.ntmps6
  go_wp2_with fail
  refine (c1.out _).mono ?_; rintro e w1 ⟨rfl, rfl⟩
  go_wp2_with fail
  refine (awake8_any _).mono ?_; rintro e w1 ⟨rfl, hb⟩
  replace hb := Lib.hid hb
  go_wp2_with fail
  refine (c2.out _).mono ?_; rintro e w2 ⟨rfl, rfl⟩
  go_wp2_with fail
  refine (c3.out _).mono ?_; rintro e w2 ⟨rfl, rfl⟩
  go_wp2_with fail
  refine (c4.out _).mono ?_; rintro e w2 ⟨rfl, rfl⟩
  go_wp2_with fail
  refine (c5.out _).mono ?_; rintro e w2 ⟨rfl, hb2⟩
  replace hb := Lib.hid (hb.out.andThen hb2)
  clear hb2
  go_wp2_with fail
  refine (c6.out _).mono ?_; rintro e w3 ⟨rfl, rfl⟩
  go_wp2_with fail
  go_ret
  exact ⟨rfl, hb.out⟩
end Go.Proofs.Ytgldlfgidmgmfaa
