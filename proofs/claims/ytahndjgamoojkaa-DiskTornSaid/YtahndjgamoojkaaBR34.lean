/- Walks of layer 20's disk: Right, open, Files, Get. -/
import Derived.Test.YtahndjgamoojkaaBR33
import Derived.Test.YtahndjgamoojkaaBR27
import Derived.Test.YtahndjgamoojkaaBR22
import Derived.Test.YtahndjgamoojkaaBR16
import Derived.Test.YtahndjgamoojkaaBR18
namespace Go.Proofs.Ytahndjgamoojkaa
open Go.RowKit

theorem dk_box {w : World} {fv lv : Value} {fuse : Int} {dn : Bool} {L : List Fl20} {os : List Op20} (h : DkV w (.agg #[fv, lv, .int .i64 fuse, .bool dn]) ⟨L, os, fuse, dn⟩) :
    ArrAt (w.alloc (.cells [fv, lv, .int .i64 fuse, .bool dn].toArray 25)) w.heap.size 25 [fv, lv, .int .i64 fuse, .bool dn] ∧ Below w.heap.size w (w.alloc (.cells [fv, lv, .int .i64 fuse, .bool dn].toArray 25)) ∧ DkV (w.alloc (.cells [fv, lv, .int .i64 fuse, .bool dn].toArray 25)) (.agg #[fv, lv, .int .i64 fuse, .bool dn]) ⟨L, os, fuse, dn⟩ := by
  have hb := (Below.refl w.heap.size w).alloc (Nat.le_refl _) (.cells [fv, lv, .int .i64 fuse, .bool dn].toArray 25)
  exact ⟨arrAt_new _ _ _, hb, h.next hb⟩
set_option maxHeartbeats 2000000 in
theorem dskright20_any (d : Dk20) (val : Value) (w : World) (hd : DkV w val d) (hbd : DkBd d) :
    Calls Try.prog 16 #[val] w fun e w' => e = .returned (.bool (right20 d.files d.loose)) ∧ Below w.heap.size w w' := by
  obtain ⟨L, os, fuse, dn⟩ := d
  obtain ⟨a1, c1, a2, c2, rfl, _, _⟩ := dkV_open hd
  obtain ⟨hx, hb0, hd0⟩ := dk_box hd
  have hdr := dskdrafts20_any ⟨L, os, fuse, dn⟩ _ _ hd0 hbd
  simp only at hdr ⊢
  generalize right20 L os = R at hdr ⊢
  obtain ⟨p0, p1, p2, p3⟩ := four_cells hx
  replace hdr := Lib.hid hdr
  replace hb0 := Lib.hid hb0
  clear hx hd0 hd hbd
  go_enter Try.func16, Try.ntmps16
  go_wp2_with fail
  refine hdr.out.mono ?_; rintro e w1 ⟨v1, rfl, _, _, hb1⟩
  replace hb1 := Lib.hid (hb0.out.next hb1 hb0.out.size)
  clear hdr
  go_wp2_with fail
  go_ret
  exact ⟨rfl, hb1.out⟩
def openC (d : Dk20) : Int := if right20 d.files d.loose = false then 1 else if d.down = true then 14 else 0
def OpenPost (w : World) (d : Dk20) (e : Ending) (w' : World) : Prop := ∃ v, e = .returned (.tuple #[v, .int .i64 (openC d)]) ∧ (openC d = 0 → ∃ ds, DrAt w' w.heap.size v ds ∧ fls20 ds = all20 d.files d.loose ∧ ∀ x ∈ ds, x.ps.length ≤ d.loose.length + 1) ∧ (openC d ≠ 0 → v = .slice none 0 0) ∧ Below w.heap.size w w'
set_option maxHeartbeats 2000000 in
theorem dskopen20_any (d : Dk20) (val : Value) (w : World) (hd : DkV w val d) (hbd : DkBd d) :
    Calls Try.prog 25 #[val] w (OpenPost w d) := by
  obtain ⟨L, os, fuse, dn⟩ := d
  obtain ⟨a1, c1, a2, c2, rfl, _, _⟩ := dkV_open hd
  obtain ⟨hx, hb0, hd0⟩ := dk_box hd
  have hdr := dskdrafts20_any ⟨L, os, fuse, dn⟩ _ _ hd0 hbd
  unfold OpenPost openC
  simp only at hdr ⊢
  have hsz := hb0.size
  generalize right20 L os = R at hdr ⊢
  replace hdr := Lib.hid hdr
  replace hx := Lib.hid hx
  replace hb0 := Lib.hid hb0
  obtain ⟨p0, p1, p2, p3⟩ := four_cells hx.out
  clear hd0 hd hbd
  cases R with
  | false =>
    rw [if_pos rfl]
    go_enter Try.func25, Try.ntmps25
    go_wp2_with fail
    refine hdr.out.mono ?_; rintro e w1 ⟨v1, rfl, _, _, hb1⟩
    replace hb1 := Lib.hid (hb0.out.next hb1 hsz)
    clear hdr
    go_wp2_with fail
    go_ret2
    exact ⟨_, rfl, fun h => (by cases h), fun _ => rfl, hb1.out⟩
  | true =>
    rw [if_neg (by simp)]
    cases dn with
    | true =>
      rw [if_pos rfl]
      go_enter Try.func25, Try.ntmps25
      go_wp2_with fail
      refine hdr.out.mono ?_; rintro e w1 ⟨v1, rfl, _, _, hb1⟩
      obtain ⟨q0, q1, q2, q3⟩ := four_cells (hx.out.next hb1)
      replace hb1 := Lib.hid (hb0.out.next hb1 hsz)
      clear hdr p0 p1 p2 p3
      go_wp2_with fail
      go_ret2
      exact ⟨_, rfl, fun h => (by cases h), fun _ => rfl, hb1.out⟩
    | false =>
      rw [if_neg (by simp)]
      go_enter Try.func25, Try.ntmps25
      go_wp2_with fail
      refine hdr.out.mono ?_; rintro e w1 ⟨v1, rfl, hy, _, hb1⟩
      obtain ⟨q0, q1, q2, q3⟩ := four_cells (hx.out.next hb1)
      replace hb1 := Lib.hid (hb0.out.next hb1 hsz)
      obtain ⟨ds, k1, k2, k3⟩ := hy rfl
      replace k1 := Lib.hid (k1.mono hsz)
      replace k2 := Lib.hid k2
      replace k3 := Lib.hid k3
      clear hdr p0 p1 p2 p3 hy
      go_wp2_with fail
      go_ret2
      exact ⟨_, rfl, fun _ => ⟨ds, k1.out, k2.out, k3.out⟩, fun h => absurd rfl h, hb1.out⟩
set_option maxHeartbeats 2000000 in
theorem dskfiles20_any (d : Dk20) (val : Value) (w : World) (hd : DkV w val d) (hbd : DkBd d) (hr : right20 d.files d.loose = true) :
    Calls Try.prog 23 #[val] w (FilesPost w (all20 d.files d.loose)) := by
  obtain ⟨L, os, fuse, dn⟩ := d
  obtain ⟨a1, c1, a2, c2, rfl, _, _⟩ := dkV_open hd
  obtain ⟨hx, hb0, hd0⟩ := dk_box hd
  have hdr := dskdrafts20_any ⟨L, os, fuse, dn⟩ _ _ hd0 hbd
  simp only at hdr hr ⊢
  rw [hr] at hdr
  obtain ⟨hv, hm, h4⟩ := right_val hr
  have hval := hv.all hm
  obtain ⟨p0, p1, p2, p3⟩ := four_cells hx
  have hsz := hb0.size
  replace hdr := Lib.hid hdr
  replace hb0 := Lib.hid hb0
  replace hval := Lib.hid hval
  clear hx hd0 hd hbd hr hv hm
  go_enter Try.func23, Try.ntmps23
  go_wp2_with fail
  refine hdr.out.mono ?_; rintro e w1 ⟨v1, rfl, hy, _, hb1⟩
  obtain ⟨ds, k1, k2, k3⟩ := hy rfl
  have hw := written20_any v1 ds _ w1 k1 ((DrBd.of_val (by rw [k2]; exact hval.out) k3).up (by omega))
  rw [k2] at hw
  replace hw := Lib.hid hw
  replace hb1 := Lib.hid (hb0.out.next hb1 hsz)
  obtain ⟨av, cv, rfl⟩ := k1.form
  obtain ⟨n, hn⟩ : ∃ n, ds.length = n := ⟨_, rfl⟩
  rw [hn] at hw
  rw [hn]
  clear hdr hy k1 k2 k3 hn
  go_wp2_with fail
  refine hw.out.mono ?_; rintro e w2 ⟨v2, rfl, ho2, hb2⟩
  have hs1 := hb1.out.size
  replace ho2 := Lib.hid (show Fls w2 w.heap.size v2 (all20 L os) from ownsRow_mono ho2 hs1)
  replace hb2 := Lib.hid (hb1.out.next hb2 hs1)
  obtain ⟨a3, c3, rfl⟩ := own_form ho2.out
  clear hw hb1
  go_wp2_with fail
  go_ret
  exact ⟨_, rfl, ho2.out, hb2.out⟩
end Go.Proofs.Ytahndjgamoojkaa

/- Walks of layer 20's disk: Get. -/
namespace Go.Proofs.Ytahndjgamoojkaa
open Go.RowKit

theorem getC_open (d : Dk20) (n : List UInt8) : getC d n = if openC d ≠ 0 then openC d else if pos20 (all20 d.files d.loose) n < (all20 d.files d.loose).length then 0 else 9 := by
  unfold getC openC
  by_cases h1 : right20 d.files d.loose = false
  · simp [h1]
  · by_cases h2 : d.down = true
    · simp [h1, h2]
    · simp [h1, h2]
theorem getT_open (d : Dk20) (n : List UInt8) : getT d n = if openC d ≠ 0 then [] else data20 (all20 d.files d.loose) n := by
  unfold getT openC
  by_cases h1 : right20 d.files d.loose = false
  · simp [h1]
  · by_cases h2 : d.down = true
    · simp [h1, h2]
    · simp [h1, h2]
theorem openC_right {d : Dk20} (h : openC d = 0) : right20 d.files d.loose = true ∧ d.down = false := by
  unfold openC at h
  by_cases h1 : right20 d.files d.loose = false
  · rw [if_pos h1] at h; cases h
  · rw [if_neg h1] at h
    by_cases h2 : d.down = true
    · rw [if_pos h2] at h; cases h
    · exact ⟨by simpa using h1, by simpa using h2⟩
theorem openC_bd (d : Dk20) : openC d = 0 ∨ openC d = 1 ∨ openC d = 14 := by
  unfold openC
  split
  · exact Or.inr (Or.inl rfl)
  · split
    · exact Or.inr (Or.inr rfl)
    · exact Or.inl rfl
set_option maxHeartbeats 4000000 in
theorem dskget20_any (d : Dk20) (n : List UInt8) (val : Value) (w : World) (hd : DkV w val d) (hbd : DkBd d) :
    Calls Try.prog 13 #[val, .string ⟨n.toArray⟩] w fun e w' => e = .returned (.tuple #[.string ⟨(getT d n).toArray⟩, .int .i64 (getC d n)]) ∧ Below w.heap.size w w' := by
  rw [getC_open, getT_open]
  have hob := openC_bd d
  have hor := @openC_right d
  obtain ⟨L, os, fuse, dn⟩ := d
  obtain ⟨a1, c1, a2, c2, rfl, _, _⟩ := dkV_open hd
  obtain ⟨hx, hb0, hd0⟩ := dk_box hd
  have hop := dskopen20_any ⟨L, os, fuse, dn⟩ _ _ hd0 hbd
  unfold OpenPost at hop
  simp only at hop hor ⊢
  obtain ⟨p0, p1, p2, p3⟩ := four_cells hx
  have hsz := hb0.size
  generalize openC ⟨L, os, fuse, dn⟩ = q at hop hob hor ⊢
  replace hop := Lib.hid hop
  replace hb0 := Lib.hid hb0
  clear hx hd0 hd hbd
  by_cases hq : q = 0
  · subst hq
    obtain ⟨hr, rfl⟩ := hor rfl
    obtain ⟨hv, hm, h4⟩ := right_val hr
    have hval := hv.all hm
    rw [if_neg (by simp), if_neg (by simp)]
    generalize all20 L os = A at hop hval ⊢
    replace hval := Lib.hid hval
    clear hr hv hm hor hob
    by_cases hp : pos20 A n < A.length
    · rw [if_pos hp]
      go_enter Try.func13, Try.ntmps13
      go_wp2_with fail
      refine hop.out.mono ?_; rintro e w1 ⟨v1, rfl, hy, _, hb1⟩
      replace hb1 := Lib.hid (hb0.out.next hb1 hsz)
      obtain ⟨ds, k1, k2, k3⟩ := hy trivial
      replace k1 := k1.mono hsz
      subst k2
      have hbd2 := (DrBd.of_val hval.out k3).up (show os.length + 1 ≤ 1000000 by omega)
      have hfd := dskfind20_any v1 ds n _ w1 k1 hval.out.rise hbd2.few
      have hpd : pos20 (fls20 ds) n < ds.length := by rw [← fls_len]; exact hp
      have hdp := data_pos (fls20 ds) n hp
      rw [fls_at ds _ hpd] at hdp
      simp only at hdp
      unfold FindPost20 at hfd
      rw [decide_eq_true hp, at_pos hval.out.rise hp] at hfd
      obtain ⟨g, cap, rfl, hc1, hc2, _, hg, hcell⟩ := k1.some_ (by omega)
      obtain ⟨x0, x1, x2⟩ := hcell _ hpd
      have hmem := List.getElem_mem hpd
      have hps := k1.pcs.ins _ hmem
      have htx := fun V (hV : Strs V w.heap.size _ _) => text20_any (ds[pos20 (fls20 ds) n]'hpd) _ V hV (hbd2.pcs _ hmem) (hbd2.txt _ hmem)
      obtain ⟨a3, c3, e3⟩ := own_form hps
      unfold drV drC strV at htx
      unfold strV at x0
      obtain ⟨i, hi⟩ : ∃ i, pos20 (fls20 ds) n = i := ⟨_, rfl⟩
      simp only [hi] at hfd x0 x1 x2 hpd hps htx e3 hdp
      have j0 : (0 : Int) ≤ i := by omega
      have j1 : (i : Int) < ds.length := by omega
      have hS1 := hb1.out.size
      replace htx := Lib.hid htx
      replace hfd := Lib.hid hfd
      replace hps := Lib.hid hps
      replace hb1 := Lib.hid hb1.out
      clear hcell hmem hbd2 hy k1 k3 hop p0 p1 p2 p3 hp
      generalize ds[i]'hpd = d at htx x0 x1 x2 hps e3 hdp
      replace hdp := Lib.hid hdp
      clear hi
      generalize ds.length = m at *
      rw [e3] at x1
      have htx2 : Hid (∀ V, Strs V w.heap.size d.pv d.ps → Calls Try.prog 34 #[.agg #[.string ⟨d.name.toArray⟩, .slice a3 d.ps.length c3, .int .i64 d.text.length]] V fun e w' => e = .returned (.string ⟨d.text.toArray⟩) ∧ Below V.heap.size V w') := Lib.hid fun V hV => by
        have h := htx.out V hV
        rw [e3] at h
        exact h
      clear htx
      go_wp2_with fail
      refine hfd.out.mono ?_; rintro e w2 ⟨rfl, hb2⟩
      have y0 := (hb2.cell (p := ⟨g, i * 3, none⟩) hg).trans x0
      have y1 := (hb2.cell (p := ⟨g, i * 3 + 1, none⟩) hg).trans x1
      have y2 := (hb2.cell (p := ⟨g, i * 3 + 2, none⟩) hg).trans x2
      have hp2 := Lib.hid (show Strs w2 w.heap.size d.pv d.ps from ownsRow_below hps.out hb2)
      replace hb1 := Lib.hid (hb1.out.next hb2 (by omega))
      have hs2 := hb2.size
      clear hfd x0 x1 x2 hps hb2
      go_wp2_with fail
      refine (htx2.out _ hp2.out).mono ?_; rintro e w3 ⟨rfl, hb3⟩
      replace hb1 := Lib.hid (hb1.out.next hb3 (by omega))
      clear htx2 hp2 hb3 y0 y1 y2
      go_wp2_with fail
      go_ret2
      exact ⟨by rw [hdp.out]; rfl, hb1.out⟩
    · rw [if_neg hp, data_no hp]
      go_enter Try.func13, Try.ntmps13
      go_wp2_with fail
      refine hop.out.mono ?_; rintro e w1 ⟨v1, rfl, hy, _, hb1⟩
      replace hb1 := Lib.hid (hb0.out.next hb1 hsz)
      obtain ⟨ds, k1, k2, k3⟩ := hy trivial
      replace k1 := k1.mono hsz
      subst k2
      have hbd2 := (DrBd.of_val hval.out k3).up (show os.length + 1 ≤ 1000000 by omega)
      have hfd := dskfind20_any v1 ds n _ w1 k1 hval.out.rise hbd2.few
      unfold FindPost20 at hfd
      rw [decide_eq_false hp] at hfd
      obtain ⟨a3, c3, rfl⟩ := k1.form
      generalize at20 (fls20 ds) n = i at hfd
      generalize ds.length = m at hfd ⊢
      replace hfd := Lib.hid hfd
      have hS1 := hb1.out.size
      clear hbd2 hy k1 k3 hop p0 p1 p2 p3 hp
      go_wp2_with fail
      refine hfd.out.mono ?_; rintro e w2 ⟨rfl, hb2⟩
      replace hb1 := Lib.hid (hb1.out.next hb2 (by omega))
      clear hfd hb2
      go_wp2_with fail
      go_ret2
      exact ⟨rfl, hb1.out⟩
  · rw [if_pos hq, if_pos hq]
    have hne : (q == 0) = false := by simpa using hq
    go_enter Try.func13, Try.ntmps13
    go_wp2_with fail
    refine hop.out.mono ?_; rintro e w1 ⟨v1, rfl, _, hn, hb1⟩
    obtain rfl := hn hq
    replace hb1 := Lib.hid (hb0.out.next hb1 hsz)
    clear hop p0 p1 p2 p3 hn
    go_wp2_with fail
    go_ret2
    exact ⟨rfl, hb1.out⟩
end Go.Proofs.Ytahndjgamoojkaa

/- Walks of layer 20's disk: slices.Clone of files, of operations; apart, burnt. -/
namespace Go.Proofs.Ytahndjgamoojkaa
open Go.RowKit

set_option maxHeartbeats 1000000 in
set_option maxRecDepth 100000 in
theorem clonef20_any (L : List Fl20) (v : Value) (w : World) (hv : AtSl w v L) (hL : L.length ≤ 4398046511104) :
    Calls Try.prog 43 #[v] w fun e w' => ∃ v', e = .returned v' ∧ AtSl w' v' L ∧ Below w.heap.size w w' ∧ (∃ a c, v' = .slice a L.length c) := by
  obtain ⟨a, c, rfl⟩ := hv.form
  cases a with
  | none =>
    have h0 : L = [] := by
      by_cases h : L = []
      · exact h
      · obtain ⟨b, off, cc, _, _, e, _⟩ := hv.some h
        cases e
    subst h0
    have heq := fun W => Lib.run_eql_slice_nil (P := Try.prog) W 22 47 none 0 c 0 0 Try.underlying22
    go_enter Try.func43, Try.ntmps43
    go_wp2_with fail
    go_ret
    exact ⟨_, rfl, Or.inl ⟨rfl, _, _, rfl⟩, Below.refl _ _, _, _, rfl⟩
  | some ad =>
    have hb0 := (Below.refl w.heap.size w).alloc (Nat.le_refl _) (.cells #[] 47)
    have hpt := Lib.hid ((hv.next hb0).part)
    have hem := Lib.hid (empty_own (H := w.heap.size) (z := 2) (arrAt_new w 47 []) (Nat.le_refl _))
    have hsz := hb0.size
    replace hb0 := Lib.hid hb0
    clear hv
    have heq := fun W => Lib.run_eql_slice_nil (P := Try.prog) W 22 47 (some ad) L.length c 0 0 Try.underlying22
    go_enter Try.func43, Try.ntmps43
    go_wp2_with (at_builtin; go_must (refine wpList_append_part rfl _ _ 22 rfl w.heap.size 47 (.agg #[.string ⟨#[]⟩, .string ⟨#[]⟩]) 2 32 Try.underlying22 info_file rfl (by decide) _ 0 [] rfl hem.out (some ad) L.length c (cellsA L) rfl (cellsA_len L) hpt.out (cellsA_one' L) L.length (Nat.zero_add _) (by unfold maxLen; omega) (by omega) hsz ?_))
    intro a' c' w1 ho1 hb1 _ _
    replace hb1 := Lib.hid (hb0.out.trans hb1.out)
    go_wp2_with fail
    go_ret
    exact ⟨_, rfl, Fls.sl (B := w.heap.size) ho1.out, hb1.out, _, _, rfl⟩
set_option maxHeartbeats 1000000 in
set_option maxRecDepth 100000 in
theorem cloneo20_any (L : List Op20) (v : Value) (w : World) (hv : OpSl w v L) (hL : L.length ≤ 1000000000) :
    Calls Try.prog 44 #[v] w fun e w' => ∃ v', e = .returned v' ∧ OpSl w' v' L ∧ Below w.heap.size w w' ∧ OwnO w' w.heap.size v' L ∧ (∃ a c, v' = .slice a L.length c) := by
  obtain ⟨a, c, rfl⟩ := hv.form
  cases a with
  | none =>
    have h0 : L = [] := by
      by_cases h : L = []
      · exact h
      · obtain ⟨b, off, cc, _, _, e, _⟩ := SlOf.some opC_len (by decide) hv h
        cases e
    subst h0
    have heq := fun W => Lib.run_eql_slice_nil (P := Try.prog) W 23 27 none 0 c 0 0 Try.underlying23
    go_enter Try.func44, Try.ntmps44
    go_wp2_with fail
    go_ret
    exact ⟨_, rfl, Or.inl ⟨rfl, _, _, rfl⟩, Below.refl _ _, World.ownsRow_nil _ _ _ _, _, _, rfl⟩
  | some ad =>
    have hb0 := (Below.refl w.heap.size w).alloc (Nat.le_refl _) (.cells #[] 27)
    have hpt := Lib.hid (SlOf.part opC_len (SlOf.next hv hb0))
    have hem := Lib.hid (empty_own (H := w.heap.size) (z := 5) (arrAt_new w 27 []) (Nat.le_refl _))
    have hsz := hb0.size
    replace hb0 := Lib.hid hb0
    clear hv
    have heq := fun W => Lib.run_eql_slice_nil (P := Try.prog) W 23 27 (some ad) L.length c 0 0 Try.underlying23
    go_enter Try.func44, Try.ntmps44
    go_wp2_with (at_builtin; go_must (refine wpList_append_part rfl _ _ 23 rfl w.heap.size 27 (.agg #[.int .i64 0, .string ⟨#[]⟩, .string ⟨#[]⟩, .string ⟨#[]⟩, .int .i64 0]) 5 64 Try.underlying23 info_op20 rfl (by decide) _ 0 [] rfl hem.out (some ad) L.length c (L.flatMap opC) rfl (flat_len opC_len L) hpt.out (opC_one L) L.length (Nat.zero_add _) (by unfold maxLen; omega) (by omega) hsz ?_))
    intro a' c' w1 ho1 hb1 _ _
    replace hb1 := Lib.hid (hb0.out.trans hb1.out)
    go_wp2_with fail
    go_ret
    exact ⟨_, rfl, slOf_own opC_len (E := 27) (B := w.heap.size) ho1.out, hb1.out, ho1.out, _, _, rfl⟩
end Go.Proofs.Ytahndjgamoojkaa
