/- The walk of the reference's Same of layer 20, on disks that hold the same. -/
import Derived.Test.YtahndjgamoojkaaBR16
import Derived.Test.YtahndjgamoojkaaBR21
import Derived.Test.YtahndjgamoojkaaBR18
import Derived.Test.YtahndjgamoojkaaBR02
import Derived.Laws.CopyOwn
import Derived.Deep.RegionLaw
import Derived.Lib.AppendZerosOnto
import Derived.Lib.Overlaps
namespace Go.Proofs.Ytahndjgamoojkaa
open Go.RowKit

set_option maxHeartbeats 2000000 in
set_option maxRecDepth 100000 in
theorem refsame20_any (d : Dk20) (va vb : Value) (w : World) (ha : DkV w va d) (hb : DkV w vb d) (hn1 : d.files.length ≤ 9223372036854775807) (hn2 : d.loose.length ≤ 9223372036854775807) :
    Calls Try.prog 15 #[va, vb] w fun e w' => e = .returned (.bool true) ∧ Below w.heap.size w w' := by
  obtain ⟨L, os, fuse, dn⟩ := d
  obtain ⟨fa, la, rfl, hfa, hla⟩ := ha
  obtain ⟨fb, lb, rfl, hfb, hlb⟩ := hb
  obtain ⟨a1, c1, rfl⟩ := hfa.form
  obtain ⟨a2, c2, rfl⟩ := hla.form
  obtain ⟨a3, c3, rfl⟩ := hfb.form
  obtain ⟨a4, c4, rfl⟩ := hlb.form
  unfold dkC
  simp only at hfa hla hfb hlb hn1 hn2 ⊢
  obtain ⟨W, hW⟩ : ∃ W, (w.alloc (.cells [Value.slice a1 L.length c1, .slice a2 os.length c2, .int .i64 fuse, .bool dn].toArray 25)).alloc (.cells [Value.slice a3 L.length c3, .slice a4 os.length c4, .int .i64 fuse, .bool dn].toArray 25) = W := ⟨_, rfl⟩
  have hbox := (arrAt_new w 25 [Value.slice a1 L.length c1, .slice a2 os.length c2, .int .i64 fuse, .bool dn]).next ((Below.refl _ _).alloc (Nat.le_refl _) (.cells [Value.slice a3 L.length c3, .slice a4 os.length c4, .int .i64 fuse, .bool dn].toArray 25))
  have hbox2 := arrAt_new (w.alloc (.cells [Value.slice a1 L.length c1, .slice a2 os.length c2, .int .i64 fuse, .bool dn].toArray 25)) 25 [Value.slice a3 L.length c3, .slice a4 os.length c4, .int .i64 fuse, .bool dn]
  have hbx := Lib.hid (((Below.refl w.heap.size w).alloc (Nat.le_refl _) (.cells [Value.slice a1 L.length c1, .slice a2 os.length c2, .int .i64 fuse, .bool dn].toArray 25)).alloc (by simp) (.cells [Value.slice a3 L.length c3, .slice a4 os.length c4, .int .i64 fuse, .bool dn].toArray 25))
  rw [hW] at hbx hbox hbox2
  have hsz : (w.alloc (.cells [Value.slice a1 L.length c1, .slice a2 os.length c2, .int .i64 fuse, .bool dn].toArray 25)).heap.size = w.heap.size + 1 := by simp
  rw [hsz] at hbox2
  have g1 := Lib.hid (hfa.next hbx.out)
  have g2 := Lib.hid (hla.next hbx.out)
  have g3 := Lib.hid (hfb.next hbx.out)
  have g4 := Lib.hid (hlb.next hbx.out)
  obtain ⟨p0, p1, p2, p3⟩ := four_cells hbox
  obtain ⟨q0, q1, q2, q3⟩ := four_cells hbox2
  clear hfa hla hfb hlb hsz hbox hbox2
  go_enter Try.func15, Try.ntmps15
  go_wp2_with fail
  clear hW
  go_loopw [5] (fun i wr => ∃ k : Nat, i = .int .i64 k ∧ k ≤ L.length ∧ Drawn W wr) (fun i _ => L.length - (intOf i).toNat)
  case atStart => exact ⟨0, rfl, Nat.zero_le _, Drawn.refl _⟩
  case round =>
    obtain ⟨k, rfl, hk, n0, rfl⟩ := hrel
    by_cases hlt : k < L.length
    · have h0 : L ≠ [] := by intro e; rw [e] at hlt; simp at hlt
      obtain ⟨b1, o1, e1, _, _, r1, hc1⟩ := g1.out.some h0
      obtain ⟨b3, o3, e3, _, _, r3, hc3⟩ := g3.out.some h0
      injection r1 with r1 _ s1
      injection r3 with r3 _ s3
      subst r1 s1 r3 s3
      obtain ⟨x0, x1⟩ := hc1 k hlt
      obtain ⟨y0, y1⟩ := hc3 k hlt
      generalize L.getD k ([], []) = x at x0 x1 y0 y1
      unfold strV at x0 x1 y0 y1
      have hkL : (k : Int) < L.length := by omega
      clear hc1 hc3 h0
      go_wp2_with fail
      go_quiet (fail)
      go_wp2_with fail
      exact ⟨⟨k + 1, by go_num, by omega, ⟨_, rfl⟩⟩, by simp [intOf]; omega⟩
    · have hke : ¬ ((k : Int) < L.length) := by omega
      go_wp2_with fail
      go_loopw [6] (fun i wr => ∃ k : Nat, i = .int .i64 k ∧ k ≤ os.length ∧ Drawn W wr) (fun i _ => os.length - (intOf i).toNat)
      case atStart => exact ⟨0, rfl, Nat.zero_le _, ⟨_, rfl⟩⟩
      case round =>
        obtain ⟨m, rfl, hm, n1, rfl⟩ := hrel
        by_cases hlt2 : m < os.length
        · have h0 : os ≠ [] := by intro e; rw [e] at hlt2; simp at hlt2
          obtain ⟨b2, o2, e2, _, _, r2, hc2⟩ := g2.out.some opC_len (by decide) h0
          obtain ⟨b4, o4, e4, _, _, r4, hc4⟩ := g4.out.some opC_len (by decide) h0
          injection r2 with r2 _ s2
          injection r4 with r4 _ s4
          subst r2 s2 r4 s4
          have x0 := hc2 m hlt2 0 _ (by decide) rfl
          have x1 := hc2 m hlt2 1 _ (by decide) rfl
          have x2 := hc2 m hlt2 2 _ (by decide) rfl
          have x3 := hc2 m hlt2 3 _ (by decide) rfl
          have x4 := hc2 m hlt2 4 _ (by decide) rfl
          have y0 := hc4 m hlt2 0 _ (by decide) rfl
          have y1 := hc4 m hlt2 1 _ (by decide) rfl
          have y2 := hc4 m hlt2 2 _ (by decide) rfl
          have y3 := hc4 m hlt2 3 _ (by decide) rfl
          have y4 := hc4 m hlt2 4 _ (by decide) rfl
          rw [Nat.add_zero] at x0 y0
          generalize os[m]'hlt2 = o at x0 x1 x2 x3 x4 y0 y1 y2 y3 y4
          unfold strV at x1 x2 x3 y1 y2 y3
          have hkO : (m : Int) < os.length := by omega
          clear hc2 hc4 h0
          go_wp2_with fail
          go_quiet (fail)
          go_wp2_with fail
          exact ⟨⟨m + 1, by go_num, by omega, ⟨_, rfl⟩⟩, by simp [intOf]; omega⟩
        · have hke2 : ¬ ((m : Int) < os.length) := by omega
          go_wp2_with fail
          go_ret
          exact ⟨rfl, hbx.out.trans (Drawn.below ⟨_, rfl⟩ _)⟩
end Go.Proofs.Ytahndjgamoojkaa

/- The law's files of layer 20. -/
namespace Go.Proofs.Ytahndjgamoojkaa
open Go.RowKit

theorem files20_any (L : List Fl20) (va vb : Value) (w : World) (ha : AtSl w va L) (hb : AtSl w vb L) (hL : L.length ≤ 9223372036854775807) :
    Calls Try.prog 22 #[va, vb] w fun e w' => e = .returned (.bool true) ∧ Below w.heap.size w w' := by
  obtain ⟨aa, ca, rfl⟩ := ha.form
  obtain ⟨ab, cb, rfl⟩ := hb.form
  go_enter Try.func22, Try.ntmps22
  go_wp2_with fail
  refine (refsame20_any ⟨L, [], 0, false⟩ _ _ w (dkV_mk ha (slOf_nil _ _ _)) (dkV_mk hb (slOf_nil _ _ _)) hL (by simp)).mono ?_; rintro e w1 ⟨rfl, hb1⟩
  go_wp2_with fail
  go_ret
  exact ⟨rfl, hb1⟩
end Go.Proofs.Ytahndjgamoojkaa

/- The law DiskFalls of layer 20. -/
namespace Go.Proofs.Ytahndjgamoojkaa
open Go.RowKit

/-- What is not great has few bytes. -/
theorem sum_mem {α : Type} (f : α → Nat) : ∀ (l : List α) (x : α), x ∈ l → f x ≤ (l.map f).sum
  | y :: r, x, h => by
    rw [List.map_cons, List.sum_cons]
    rcases List.mem_cons.1 h with rfl | h
    · omega
    · have := sum_mem f r x h; omega
theorem apps_sum : ∀ os : List Op20, (∀ o ∈ os, o.data.length ≤ 20000) → (apps20 os).length ≤ (os.map mO).sum
  | [], _ => Nat.zero_le _
  | o :: r, h => by
    have h1 := apps_sum r (fun x hx => h x (List.mem_cons_of_mem _ hx))
    have h2 := h o List.mem_cons_self
    unfold apps20 at h1 ⊢
    rw [List.flatMap_cons, List.length_append, List.map_cons, List.sum_cons]
    have : (if o.kind = 1 then o.data else []).length ≤ mO o := by
      have e : mO o = min o.data.length 20000 + 100 := rfl
      split
      · omega
      · exact Nat.zero_le _
    omega
/-- What is not great has few operations, of few bytes (a file that stands alone may have many). -/
theorem few20 {L : List Fl20} {os : List Op20} {o : Op20} (h : ¬ 20000 < great20 L os o) : (∀ x ∈ os, x.data.length ≤ 20000) ∧ (apps20 os).length ≤ 20000 ∧ os.length ≤ 200 := by
  unfold great20 at h
  have h1 : ∀ x ∈ os, x.data.length ≤ 20000 := fun x hx => by
    have := sum_mem mO os x hx
    have e : mO x = min x.data.length 20000 + 100 := rfl
    omega
  refine ⟨h1, by have := apps_sum os h1; omega, ?_⟩
  have : ∀ l : List Op20, 100 * l.length ≤ (l.map mO).sum := by
    intro l
    induction l with
    | nil => simp
    | cons x r ih =>
      have e : mO x = min x.data.length 20000 + 100 := rfl
      rw [List.map_cons, List.sum_cons, List.length_cons]
      omega
  have := this os
  omega
end Go.Proofs.Ytahndjgamoojkaa

/- Boxes that hold a disk: what is stored into them. -/
namespace Go.Proofs.Ytahndjgamoojkaa
open Go.RowKit

/-- A box that holds a disk. -/
def DkBox (w : World) (g : Nat) (fv lv : Value) (x : Dk20) : Prop := ArrAt w g 25 (dkC fv lv x) ∧ AtSl w fv x.files ∧ OpSl w lv x.loose
theorem DkBox.next {w w' : World} {g : Nat} {fv lv : Value} {x : Dk20} (h : DkBox w g fv lv x) (hb : Below w.heap.size w w') : DkBox w' g fv lv x := ⟨h.1.next hb, h.2.1.next hb, h.2.2.next hb⟩
theorem DkBox.val {w : World} {g : Nat} {fv lv : Value} {x : Dk20} (h : DkBox w g fv lv x) : DkV w (.agg (dkC fv lv x).toArray) x := ⟨fv, lv, rfl, h.2.1, h.2.2⟩
theorem dkV_open {w : World} {v : Value} {L : List Fl20} {os : List Op20} {z : Int} {b : Bool} (h : DkV w v ⟨L, os, z, b⟩) : ∃ a1 c1 a2 c2, v = .agg #[.slice a1 L.length c1, .slice a2 os.length c2, .int .i64 z, .bool b] ∧ AtSl w (.slice a1 L.length c1) L ∧ OpSl w (.slice a2 os.length c2) os := by
  obtain ⟨fv, lv, rfl, h1, h2⟩ := h
  obtain ⟨a1, c1, rfl⟩ := h1.form
  obtain ⟨a2, c2, rfl⟩ := h2.form
  exact ⟨a1, c1, a2, c2, rfl, h1, h2⟩
theorem cell_far {w : World} {g i b j : Nat} {v : Value} (hb : b ≠ g) : (w.setCell ⟨g, i, none⟩ v).cell? ⟨b, j, none⟩ = w.cell? ⟨b, j, none⟩ := by
  have e : (w.setCell ⟨g, i, none⟩ v).heap[b]? = w.heap[b]? := heap_setCell_other w _ _ v hb
  unfold World.cell?
  simp only [e]
/-- Four cells of a disk's box hold no text. -/
theorem box_no_text {w : World} {g : Nat} {t : TypeId} {a1 a2 : Option Addr} {n1 n2 c1 c2 : Nat} {z : Int} {b : Bool} (h : ArrAt w g t [.slice a1 n1 c1, .slice a2 n2 c2, .int .i64 z, .bool b]) {i : Nat} {s : List UInt8} : w.cell? ⟨g, i, none⟩ ≠ some (strV s) := by
  intro e
  rw [h.cell i] at e
  unfold strV at e
  match i, e with
  | 0, e => cases e
  | 1, e => cases e
  | 2, e => cases e
  | 3, e => cases e
  | i + 4, e => simp at e
theorem at_keep {w w' : World} {g : Nat} {t : TypeId} {a1 a2 : Option Addr} {n1 n2 c1 c2 : Nat} {z : Int} {b : Bool} {v : Value} {L : List Fl20} (h : AtSl w v L) (ha : ArrAt w g t [.slice a1 n1 c1, .slice a2 n2 c2, .int .i64 z, .bool b]) (hw : ∀ b j, b ≠ g → w'.cell? ⟨b, j, none⟩ = w.cell? ⟨b, j, none⟩) : AtSl w' v L := by
  rcases h with h | ⟨b, off, c, hc, rfl, h⟩
  · exact Or.inl h
  · refine Or.inr ⟨b, off, c, hc, rfl, fun j hj => ?_⟩
    obtain ⟨h1, h2⟩ := h j hj
    have hb : b ≠ g := by rintro rfl; exact box_no_text ha h1
    rw [hw _ _ hb, hw _ _ hb]
    exact ⟨h1, h2⟩
theorem op_keep {w w' : World} {g : Nat} {t : TypeId} {a1 a2 : Option Addr} {n1 n2 c1 c2 : Nat} {z : Int} {b : Bool} {v : Value} {os : List Op20} (h : OpSl w v os) (ha : ArrAt w g t [.slice a1 n1 c1, .slice a2 n2 c2, .int .i64 z, .bool b]) (hw : ∀ b j, b ≠ g → w'.cell? ⟨b, j, none⟩ = w.cell? ⟨b, j, none⟩) : OpSl w' v os := by
  rcases h with h | ⟨b, off, c, hc, rfl, h⟩
  · exact Or.inl h
  · refine Or.inr ⟨b, off, c, hc, rfl, fun j hj t u ht hu => ?_⟩
    have hb : b ≠ g := by rintro rfl; exact box_no_text ha (h j hj 1 _ (by decide) rfl)
    rw [hw _ _ hb]
    exact h j hj t u ht hu
theorem four_other {w : World} {g : Nat} (a b c d : Value) : ∀ b' j, b' ≠ g → ((((w.setCell ⟨g, 0, none⟩ a).setCell ⟨g, 1, none⟩ b).setCell ⟨g, 2, none⟩ c).setCell ⟨g, 3, none⟩ d).cell? ⟨b', j, none⟩ = w.cell? ⟨b', j, none⟩ := by
  intro b' j h
  rw [cell_far h, cell_far h, cell_far h, cell_far h]
/-- A disk that came out of a call, laid into a box that holds one. -/
theorem dkBox_set {w : World} {g B : Nat} {a1 a2 : Option Addr} {n1 n2 c1 c2 : Nat} {z : Int} {b : Bool} {fv lv : Value} {x : Dk20} (h : ArrAt w g 25 [.slice a1 n1 c1, .slice a2 n2 c2, .int .i64 z, .bool b]) (h1 : AtSl w fv x.files) (h2 : OpSl w lv x.loose) (hB : B ≤ g) :
    DkBox ((((w.setCell ⟨g, 0, none⟩ fv).setCell ⟨g, 1, none⟩ lv).setCell ⟨g, 2, none⟩ (.int .i64 x.fuse)).setCell ⟨g, 3, none⟩ (.bool x.down)) g fv lv x ∧ Below B w ((((w.setCell ⟨g, 0, none⟩ fv).setCell ⟨g, 1, none⟩ lv).setCell ⟨g, 2, none⟩ (.int .i64 x.fuse)).setCell ⟨g, 3, none⟩ (.bool x.down)) := by
  obtain ⟨hs, hb⟩ := four_set (B := B) h fv lv (.int .i64 x.fuse) (.bool x.down) hB
  exact ⟨⟨hs, at_keep h1 h (four_other _ _ _ _), op_keep h2 h (four_other _ _ _ _)⟩, hb⟩
end Go.Proofs.Ytahndjgamoojkaa

/- copy, append and clear on rows of elements of any number of cells: laws for the walk. -/
namespace Go.Proofs.Ytahndjgamoojkaa
open Go.RowKit
section
variable {P : Program} {w : World} {ops : Array Oper} {rest : List Oper} {o : Oper} {a : Act} {K : Act → World → Prop} {Q : Exit → Act → World → Prop}

theorem run_copy_k (dT sT ty elem : TypeId) (z g off dLen dCap : Nat) (ad : Addr) (sLen sCap : Nat) (cur : List Value) (t : TypeId) (cs : List Value)
    (hu : P.underlying dT = some (.slice elem)) (hs : (P.info? elem).map (·.size) = some z)
    (hg : ArrAt w g t cur) (hn : cs.length = Nat.min sLen dLen * z)
    (hsrc : ∀ j v, cs[j]? = some v → w.cell? (ad.add j) = some v) (hfit : off + cs.length ≤ cur.length) (h1 : ∀ v ∈ cs, v.oneCell' = true) :
    (Builtin.copy_ #[dT, sT] ty #[.slice (some ⟨g, off, none⟩) dLen dCap, .slice (some ad) sLen sCap]).run P w =
      .ok (goInt (Nat.min sLen dLen)) (w.setRow g (splice cur off cs).toArray) := by
  have hl := run_loadCells_list (P := P) w ad cs hsrc
  have hst := run_storeCells_at P g off t cs 0 cur.toArray w hg (by simpa using hfit) h1
  rw [hn] at hl
  cases hq : P.info? elem with
  | none => simp [hq] at hs
  | some i =>
    have hi : i.size = z := by simpa [hq] using hs
    simp [Builtin.copy_, run_underlying hu, Builtin.lenOf, Builtin.firstCells, sizeOf, typeInfo, hq, hi, hl, hst, splice]

theorem wp_copy_k (d s : Operand) (dT sT : TypeId) (ho : o.op = .call { callee := .builtin .copy, args := #[d, s], argTypes := #[dT, sT] }) (elem : TypeId) (z : Nat) (hu : P.underlying dT = some (.slice elem)) (hsz : (P.info? elem).map (·.size) = some z)
    (g off dLen dCap : Nat) (ad : Addr) (sLen sCap : Nat) (hd : a.eval d = .slice (some ⟨g, off, none⟩) dLen dCap) (hs : a.eval s = .slice (some ad) sLen sCap)
    (cur : List Value) (t : TypeId) (hg : ArrAt w g t cur) (cs : List Value) (hn : cs.length = Nat.min sLen dLen * z)
    (hsrc : ∀ j v, cs[j]? = some v → w.cell? (ad.add j) = some v) (hfit : off + cs.length ≤ cur.length) (h1 : ∀ v ∈ cs, v.oneCell' = true)
    (h : ∀ w', Hid (ArrAt w' g t (splice cur off cs)) → w.grownBy w' (some g) → K (a.put o.dst (goInt (Nat.min sLen dLen))) w') : o.wp P a w K Q := by
  have hrun := run_copy_k (P := P) dT sT o.type elem z g off dLen dCap ad sLen sCap cur t cs hu hsz hg hn hsrc hfit h1
  unfold Oper.wp
  simp [execOp, ho, resolve, invoke, builtin, hd, hs, hrun, Result.andThen]
  exact h _ (setRow_heap w g _ _ t _ hg) (grown_setRow w g _)
theorem wpList_copy_k (hgd : o.guard = none) (d s : Operand) (dT sT : TypeId) (ho : o.op = .call { callee := .builtin .copy, args := #[d, s], argTypes := #[dT, sT] }) (elem : TypeId) (z : Nat) (hu : P.underlying dT = some (.slice elem)) (hsz : (P.info? elem).map (·.size) = some z)
    (g off dLen dCap : Nat) (ad : Addr) (sLen sCap : Nat) (hd : a.eval d = .slice (some ⟨g, off, none⟩) dLen dCap) (hs : a.eval s = .slice (some ad) sLen sCap)
    (cur : List Value) (t : TypeId) (hg : ArrAt w g t cur) (cs : List Value) (hn : cs.length = Nat.min sLen dLen * z)
    (hsrc : ∀ j v, cs[j]? = some v → w.cell? (ad.add j) = some v) (hfit : off + cs.length ≤ cur.length) (h1 : ∀ v ∈ cs, v.oneCell' = true)
    (h : ∀ w', Hid (ArrAt w' g t (splice cur off cs)) → w.grownBy w' (some g) → wpList P ops Q rest (a.put o.dst (goInt (Nat.min sLen dLen))) w') : wpList P ops Q (o :: rest) a w :=
  wpList_plain hgd fun _ hK => wp_copy_k d s dT sT ho elem z hu hsz g off dLen dCap ad sLen sCap hd hs cur t hg cs hn hsrc hfit h1 fun w' h2 h3 => hK _ _ (h w' h2 h3)
theorem step_copy_k {E : Prop} (hgd : o.guard = none) (d s : Operand) (dT sT : TypeId) (ho : o.op = .call { callee := .builtin .copy, args := #[d, s], argTypes := #[dT, sT] }) (elem : TypeId) (z : Nat) (hu : P.underlying dT = some (.slice elem)) (hsz : (P.info? elem).map (·.size) = some z)
    (g off dLen dCap : Nat) (ad : Addr) (sLen sCap : Nat) (hd : a.eval d = .slice (some ⟨g, off, none⟩) dLen dCap) (hs : a.eval s = .slice (some ad) sLen sCap)
    (cur : List Value) (t : TypeId) (hg : ArrAt w g t cur) (cs : List Value) (hn : cs.length = Nat.min sLen dLen * z)
    (hsrc : ∀ j v, cs[j]? = some v → w.cell? (ad.add j) = some v) (hfit : off + cs.length ≤ cur.length) (h1 : ∀ v ∈ cs, v.oneCell' = true)
    (h : ∀ w', Hid (ArrAt w' g t (splice cur off cs)) → w.grownBy w' (some g) → K (a.put o.dst (goInt (Nat.min sLen dLen))) w') :
    if Region.wanted o (yielded ops a.tmps) = true then Oper.wp P o a w K Q else E := by
  rw [if_pos (by simp [Region.wanted, hgd])]
  exact wp_copy_k d s dT sT ho elem z hu hsz g off dLen dCap ad sLen sCap hd hs cur t hg cs hn hsrc hfit h1 h

/-- append within a row that has room. -/
theorem step_append_k {E : Prop} (hgd : o.guard = none) (s x : Operand) (t : TypeId) (ho : o.op = .call { callee := .builtin .append, args := #[s, x], argTypes := #[t, t] })
    (e : TypeId) (i : TypeInfo) (z : Nat) (hu : P.underlying t = some (.slice e)) (hi : P.info? e = some i) (hz : i.size = z)
    (g n cap : Nat) (hs : a.eval s = .slice (some ⟨g, 0, none⟩) n cap) (ad : Addr) (m c : Nat) (news : List Value) (hx : a.eval x = .slice (some ad) m c) (hn : news.length = m * z)
    (hsrc : ∀ j v, news[j]? = some v → w.cell? (ad.add j) = some v) (h1 : ∀ v ∈ news, v.oneCell' = true)
    (cur : List Value) (te : TypeId) (hg : ArrAt w g te cur) (N off : Nat) (hN : n + m = N) (hoff : off = n * z) (hroom : N ≤ cap) (hfit : off + news.length ≤ cur.length)
    (h : ∀ w', Hid (ArrAt w' g te (splice cur off news)) → w.grownBy w' (some g) → K (a.put o.dst (.slice (some ⟨g, 0, none⟩) N cap)) w') :
    if Region.wanted o (yielded ops a.tmps) = true then Oper.wp P o a w K Q else E := by
  rw [if_pos (by simp [Region.wanted, hgd])]
  subst hz hN hoff
  have hspare : ∀ j, j < news.length → w.cell? ⟨g, 0 + n * i.size + j, none⟩ = some (cur.getD (n * i.size + j) undef) := fun j hj => by
    rw [Nat.zero_add, hg.cell, List.getElem?_eq_getElem (by omega)]; simp [List.getD, List.getElem?_eq_getElem (show n * i.size + j < cur.length by omega)]
  have hrun := run_append_room_cells (P := P) w t o.type e i hu hi g 0 n cap ad m c news hn hsrc h1 hroom (fun j hj => by rw [hspare j hj]; rfl) (fun j hj => hg.soft _)
  have hsp : w.setCells g (0 + n * i.size) news = w.setRow g (splice cur (n * i.size) news).toArray := by
    have h1 := run_storeCells_at P g (n * i.size) te news 0 cur.toArray w hg (by simpa using hfit) h1
    have h2 := run_storeCells_cells (P := P) g (n * i.size) news 0 w (fun j hj => by rw [Nat.add_zero, hg.cell, List.getElem?_eq_getElem (by omega)]; rfl) (fun j hj => hg.soft _) ‹_›
    rw [h2] at h1
    injection h1 with _ h1
    simpa [splice] using h1
  unfold Oper.wp
  simp [execOp, ho, resolve, invoke, builtin, hs, hx, hrun, Result.andThen]
  rw [Nat.zero_add] at hsp
  rw [hsp]
  exact h _ (setRow_heap w g _ _ te _ hg) (grown_setRow w g _)

/-- clear of a part of a row. -/
theorem wpList_clear_k (hgd : o.guard = none) (x : Operand) (t : TypeId) (ho : o.op = .call { callee := .builtin .clear, args := #[x], argTypes := #[t] })
    (e : TypeId) (zv : Value) (hu : P.underlying t = some (.slice e)) (hv : ∀ w, (zeroValue e).run P w = .ok zv w) (g off n c : Nat) (h1 : ∀ v ∈ (Builtin.zeroCells zv.cells n).toList, v.oneCell' = true)
    (hx : a.eval x = .slice (some ⟨g, off, none⟩) n c) (h0 : 0 < n) (cur : List Value) (te : TypeId) (hg : ArrAt w g te cur) (hfit : off + (Builtin.zeroCells zv.cells n).toList.length ≤ cur.length)
    (h : ∀ w', Hid (ArrAt w' g te (splice cur off (Builtin.zeroCells zv.cells n).toList)) → w.grownBy w' (some g) → wpList P ops Q rest (a.put o.dst (.tuple #[])) w') : wpList P ops Q (o :: rest) a w := by
  refine wpList_plain hgd fun K hK => ?_
  have hst := run_storeCells_at P g off te (Builtin.zeroCells zv.cells n).toList 0 cur.toArray w hg (by simpa using hfit) h1
  obtain ⟨m, rfl⟩ : ∃ m, n = m + 1 := ⟨n - 1, by omega⟩
  have hrun : (Builtin.clear_ #[t] o.type #[.slice (some ⟨g, off, none⟩) (m + 1) c]).run P w = .ok (.tuple #[]) (w.setRow g (splice cur off (Builtin.zeroCells zv.cells (m + 1)).toList).toArray) := by
    simp [Builtin.clear_, run_underlying hu, hv, hst, splice]
  unfold Oper.wp
  simp only [execOp, ho, resolve, invoke, builtin, Sem.run_bind, Sem.run_pure, Result.andThen_ok, List.map_toArray, List.map_cons, List.map_nil, hx, hrun]
  exact hK _ _ (h _ (setRow_heap w g _ _ te _ hg) (grown_setRow w g _))

/-- append(s[:i], make([]E, k)...) where there is no room: a new row. -/
theorem wpList_append_zeros (hgd : o.guard = none) (s x : Operand) (t tn : TypeId) (ho : o.op = .call { callee := .builtin .append, args := #[s, x], argTypes := #[t, tn] })
    (e : TypeId) (i : TypeInfo) (zv : Value) (z : Nat) (kn : IntKind) (hu : P.underlying t = some (.slice e)) (htn : P.underlying tn = some (.int kn)) (hi : P.info? e = some i) (hzv : i.zero = some zv) (hz : i.size = z) (hzc : zv.cells.size = z) (h0 : 0 < z)
    (ad : Addr) (n cap : Nat) (hs : a.eval s = .slice (some ad) n cap) (olds : List Value) (hol : olds.length = n * z) (hold : ∀ j v, olds[j]? = some v → w.cell? (ad.add j) = some v)
    (k : Nat) (kq : IntKind) (y : Int) (hx : a.eval x = .int kq y) (hy : y = k) (hk : 0 < k) (N H : Nat) (hN : n + k = N) (hH : w.heap.size = H) (hg : cap < N) (hbig : N * i.bytes ≤ 140737488355328) (h63 : N ≤ 9223372036854775807)
    (h : ∀ (G : Nat) (tail : List Value) w', N ≤ G → G ≤ maxLen → Hid ((olds ++ tail).length = G * z) → Hid (ArrAt w' H e (olds ++ tail)) → Below H w w' → H < w'.heap.size → wpList P ops Q rest (a.put o.dst (.slice (some ⟨H, 0, none⟩) N G)) w') :
    wpList P ops Q (o :: rest) a w := by
  subst hz hy hN hH
  have hf : (Builtin.firstCells i.size n (.slice (some ad) n cap)).run P w.drew = .ok olds.toArray w.drew := run_firstCells_some w.drew i.size n ad n cap olds hol hold
  have hrun := Lib.run_append_grow_zeros w t tn o.type e i zv kq kn hu htn hi hzv (some ad) n cap olds hf k hk h0 hg (by omega) (Nat.le_trans (Nat.mul_le_mul_right _ (Nat.le_add_left k n)) (Nat.le_trans hbig (by decide))) (growslice_fits hg hbig)
  have hge := grownCap_ge w (n + k) cap e
  have hcm : grownCap w (n + k) cap e ≤ maxLen := grownCap_le_maxLen w (n + k) cap e (by unfold maxLen; omega)
  refine Lib.wpList_append_run w hgd s x t tn ho _ _ hs hx _ _ hrun (h _ ((Builtin.zeroCells zv.cells k).toList ++ (Builtin.zeroCells zv.cells (grownCap w (n + k) cap e - (n + k))).toList) _ hge hcm ?_ ?_ ?_ ?_)
  · show _ = _
    simp only [List.length_append, Array.length_toList, size_zeroCells, hzc, hol, ← Nat.add_mul]
    congr 1; omega
  · show _ = _
    rw [show (olds ++ ((Builtin.zeroCells zv.cells k).toList ++ (Builtin.zeroCells zv.cells (grownCap w (n + k) cap e - (n + k))).toList)).toArray = olds.toArray ++ Builtin.zeroCells zv.cells k ++ Builtin.zeroCells zv.cells (grownCap w (n + k) cap e - (n + k)) by simp]
    exact heap_alloc_new w.drew _
  · exact (Below.refl _ _).drew.alloc (Nat.le_refl _) _
  · simp
end

/-- The model's slices.overlaps where the first slice is a row of one element just laid, in another block. -/
theorem run_overlaps_row {P : Program} (w : World) (tS tR e : TypeId) (ht : P.underlying tS = some (.slice e)) (z : Nat) (hz : ∀ w, (Go.sizeOf e).run P w = .ok z w) (g h off la ca lb cb : Nat) (cg ch : List Value) (tg th : TypeId)
    (hg : ArrAt w g tg cg) (hh : ArrAt w h th ch) (hne : h ≠ g) (h0 : cg ≠ []) :
    (Extern.SlicesOverlaps.overlaps #[tS, tS] #[tR] #[.slice (some ⟨h, 0, none⟩) la ca, .slice (some ⟨g, off, none⟩) lb cb]).run P w = .ok (.bool false) w :=
  Lib.run_overlaps_apart w tS tR e ht z hz ⟨h, 0, none⟩ ⟨g, off, none⟩ la ca lb cb hne th tg ch.length cg.length (by unfold ArrAt at hh; simp [World.shape?, hh]) (by unfold ArrAt at hg; simp [World.shape?, hg]) (by simpa using h0) (hh.soft 0) (hh.soft _)
end Go.Proofs.Ytahndjgamoojkaa
