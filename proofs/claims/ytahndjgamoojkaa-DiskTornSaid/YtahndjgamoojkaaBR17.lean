/- The walk of the reference's kept of layer 20. -/
import Derived.Test.YtahndjgamoojkaaBR16
import Derived.Deep.RegionHeld
namespace Go.Proofs.Ytahndjgamoojkaa
open Go.RowKit

/-- Operations that the call itself made. -/
def OwnO (w : World) (B : Nat) (v : Value) (os : List Op20) : Prop := w.ownsRow B 27 5 v os.length (os.flatMap opC)
theorem info_op20 : (Try.prog.info? 27).map (fun i => (i.zero, i.size, i.bytes)) = some (some (.agg #[.int .i64 0, .string ⟨#[]⟩, .string ⟨#[]⟩, .string ⟨#[]⟩, .int .i64 0]), 5, 64) := by kernel_rfl
theorem opC_one (os : List Op20) : ∀ u ∈ os.flatMap opC, u.oneCell' = true := by
  intro u hu
  obtain ⟨o, _, ho⟩ := List.mem_flatMap.1 hu
  unfold opC strV at ho
  simp at ho
  rcases ho with rfl | rfl | rfl | rfl | rfl <;> rfl
theorem OwnO.sl {w : World} {B : Nat} {v : Value} {os : List Op20} (h : OwnO w B v os) : OpSl w v os := slOf_own opC_len h
theorem partOf_app {w : World} {A : Option Addr} {xs ys : List Value} (h : PartOf w A (xs ++ ys)) : PartOf w A xs := fun j u hu => h j u (by rw [List.getElem?_append_left (List.getElem?_eq_some_iff.1 hu).1]; exact hu)
theorem part_take {w : World} {A : Option Addr} {os : List Op20} (h : PartOf w A (os.flatMap opC)) (n : Nat) : PartOf w A ((os.take n).flatMap opC) := by
  have e : os.flatMap opC = (os.take n).flatMap opC ++ (os.drop n).flatMap opC := by rw [← List.flatMap_append, List.take_append_drop]
  rw [e] at h
  exact partOf_app h
/-- A crash. -/
structure Cr20 where
  keep : Int
  bytes : Int
  burst : Bool
  at_ : Int
  bits : Int
def crC (c : Cr20) : List Value := [.int .i64 c.keep, .int .i64 c.bytes, .bool c.burst, .int .i64 c.at_, .int .u32 c.bits]
def crV (c : Cr20) : Value := .agg (crC c).toArray
def tornO (o : Option Op20) (bytes : Int) : List Op20 := match o with | none => [] | some o => torn20 o bytes
theorem kept_eq (os : List Op20) (keep bytes : Int) : kept20 os keep bytes = os.take keep.toNat ++ tornO os[keep.toNat]? bytes := by
  unfold kept20 tornO
  cases os[keep.toNat]? <;> rfl
def OpsPost (w : World) (os : List Op20) (e : Ending) (w' : World) : Prop := ∃ v, e = .returned v ∧ OwnO w' w.heap.size v os ∧ Below w.heap.size w w'
set_option maxHeartbeats 2000000 in
set_option maxRecDepth 100000 in
theorem refkept20_any (os : List Op20) (cr : Cr20) (v : Value) (w : World) (hv : OpSl w v os) (hL : os.length ≤ 100000) (hk : -9223372036854775808 ≤ cr.keep ∧ cr.keep ≤ 9223372036854775807) (hb : -9223372036854775808 ≤ cr.bytes ∧ cr.bytes ≤ 9223372036854775807) (hod : ∀ o ∈ os, o.data.length ≤ 90000000) :
    Calls Try.prog 41 #[v, crV cr] w (OpsPost w (kept20 os cr.keep cr.bytes)) := by
  obtain ⟨A, c, rfl⟩ := hv.form
  obtain ⟨kp, by_, bu, at_, bi⟩ := cr
  unfold crV crC
  rw [kept_eq]
  simp only at hk hb ⊢
  obtain ⟨n, hn⟩ : ∃ n, min os.length kp.toNat = n := ⟨_, rfl⟩
  have hni : min (os.length : Int) (max 0 kp) = (n : Int) := by omega
  have hnl : n ≤ os.length := by omega
  have htk : os.take kp.toNat = os.take n := by
    rw [← hn]
    by_cases h9 : os.length ≤ kp.toNat
    · rw [Nat.min_eq_left h9, List.take_of_length_le h9, List.take_length]
    · rw [Nat.min_eq_right (by omega)]
  have hgk : os[kp.toNat]? = os[n]? := by
    by_cases h9 : os.length ≤ kp.toNat
    · rw [List.getElem?_eq_none h9, List.getElem?_eq_none (by omega)]
    · rw [show kp.toNat = n by omega]
  rw [htk, hgk]
  obtain ⟨T, hT⟩ : ∃ T, tornO os[n]? by_ = T := ⟨_, rfl⟩
  rw [hT]
  have hnc : n ≤ c := by
    rcases hv with ⟨h, _⟩ | ⟨b, off, c', h1, h2, _⟩
    · rw [h] at hnl; simp at hnl; omega
    · injection h2 with _ _ h2; omega
  have hnci : (n : Int) ≤ c := by omega
  replace hn := Lib.hid hn
  clear htk hgk
  obtain ⟨W, hW⟩ : ∃ W, w.alloc (.cells [Value.int .i64 kp, .int .i64 by_, .bool bu, .int .i64 at_, .int .u32 bi].toArray 41) = W := ⟨_, rfl⟩
  have hbox := arrAt_new w 41 [Value.int .i64 kp, .int .i64 by_, .bool bu, .int .i64 at_, .int .u32 bi]
  have hbx := Lib.hid ((Below.refl w.heap.size w).alloc (Nat.le_refl _) (.cells [Value.int .i64 kp, .int .i64 by_, .bool bu, .int .i64 at_, .int .u32 bi].toArray 41))
  rw [hW] at hbx hbox
  have q0 := hbox.cell 0
  have q1 := hbox.cell 1
  simp only [List.getElem?_cons_zero, List.getElem?_cons_succ] at q0 q1
  have hlt := hbox.lt
  have hvW := Lib.hid (hv.next hbx.out)
  have hpt := part_take ((SlOf.next hvW.out ((Below.refl W.heap.size W).alloc (Nat.le_refl _) (.cells #[] 27))).part opC_len) n
  have hem := ownsRow_empty W 27 5
  have hsz : W.heap.size ≤ (W.alloc (.cells #[] 27)).heap.size := by simp
  have hfl : ((os.take n).flatMap opC).length = n * 5 := by rw [flat_len opC_len, List.length_take, Nat.min_eq_left hnl]
  replace hpt := Lib.hid hpt
  replace hem := Lib.hid hem
  clear hbox hv
  go_enter Try.func41, Try.ntmps41
  go_upto_region 1 with fail
  go_cut [5] from 8 to 13 (fun s5 wx => s5 = .int .i64 n ∧ Hid (wx = W))
  case first =>
    clear hpt hem hfl hsz hW
    go_wp2_with fail
    all_goals
      go_meet
      exact ⟨vi64 (by omega), Lib.hid rfl⟩
  case rest =>
    obtain ⟨rfl, hwx⟩ := hcut
    have hwx2 := hwx.out
    subst hwx2
    clear hwx
    go_wp2_with (at_builtin; go_must (refine wpList_append_part rfl _ _ 23 rfl wc.heap.size 27 (.agg #[.int .i64 0, .string ⟨#[]⟩, .string ⟨#[]⟩, .string ⟨#[]⟩, .int .i64 0]) 5 64 Try.underlying23 info_op20 rfl (by decide) _ 0 [] rfl hem.out A n c ((os.take n).flatMap opC) rfl hfl hpt.out (opC_one _) n (Nat.zero_add _) (by unfold maxLen; omega) (by omega) hsz ?_))
    intro a' c' w1 ho1 hb1 _ _
    replace hb1 := Lib.hid (((Below.refl wc.heap.size wc).alloc (Nat.le_refl _) (.cells #[] 27)).trans hb1.out)
    have hOw : Hid (OwnO w1 wc.heap.size (.slice a' n c') (os.take n)) := by
      refine Lib.hid ?_
      unfold OwnO
      rw [List.length_take, Nat.min_eq_left hnl]
      exact ho1.out
    have hbw := Lib.hid (hbx.out.trans (hb1.out.mono (Nat.le_of_lt hlt)))
    have q1r := (hb1.out.cell (p := ⟨w.heap.size, 1, none⟩) hlt).trans q1
    have hv1 := Lib.hid (hvW.out.next hb1.out)
    clear ho1 hpt hem hsz q0 q1 hvW
    by_cases hno : n < os.length ∧ (os.getD n ⟨0, [], [], [], 0⟩).kind = 1 ∧ 0 < by_
    · obtain ⟨h1, h2, h3⟩ := hno
      have ho : os.getD n ⟨0, [], [], [], 0⟩ = os[n] := by simp [List.getD, h1]
      rw [ho] at h2
      rw [List.getElem?_eq_getElem h1] at hT
      have hdl := hod _ (List.getElem_mem h1)
      obtain ⟨b, off, cc, _, hblt, e, hc⟩ := hv1.out.some opC_len (by decide) (by intro e; rw [e] at h1; simp at h1)
      injection e with e1 e2 e3
      subst e1 e3
      have c0 := hc n h1 0 _ (by decide) rfl
      have c1 := hc n h1 1 _ (by decide) rfl
      have c2 := hc n h1 2 _ (by decide) rfl
      have c3 := hc n h1 3 _ (by decide) rfl
      have c4 := hc n h1 4 _ (by decide) rfl
      rw [Nat.add_zero] at c0
      unfold tornO at hT
      simp only at hT
      generalize os[n]'h1 = o at *
      obtain ⟨kd, nm, tn, dt, sz⟩ := o
      unfold torn20 at hT
      simp only at h2 hdl hT
      subst h2
      rw [if_pos ⟨rfl, h3⟩] at hT
      replace hT := Lib.hid hT
      unfold strV at c1 c2 c3
      simp only at c0 c1 c2 c3 c4
      have hnL : (n : Int) < os.length := by omega
      have hlt1 : w.heap.size < w1.heap.size := Nat.lt_of_lt_of_le hlt hb1.out.size
      have hlt2 : ¬ w.heap.size = w1.heap.size := by omega
      have q1s := ((Below.refl w1.heap.size w1).alloc (Nat.le_refl _) (.cells #[.int .i64 1, .string ⟨nm.toArray⟩, .string ⟨tn.toArray⟩, .string ⟨dt.toArray⟩, .int .i64 sz] 27)).cell (p := ⟨w.heap.size, 1, none⟩) hlt1
      rw [q1r] at q1s
      clear hc ho e2
      have hOw2 : Hid (w1.ownsRow wc.heap.size 27 5 (.slice a' n c') n ((os.take n).flatMap opC)) := by
        refine Lib.hid ?_
        have := hOw.out
        unfold OwnO at this
        rw [List.length_take, Nat.min_eq_left hnl] at this
        exact this
      by_cases h4 : by_ < (dt.length : Int)
      · obtain ⟨m, rfl⟩ := Int.eq_ofNat_of_zero_le (show 0 ≤ by_ by omega)
        have hTD : Hid (T = [⟨1, nm, tn, dt.take m, sz⟩]) := Lib.hid (by rw [← hT.out]; rfl)
        have s10 : min (dt.length : Int) (m : Int) = m := by omega
        clear hT
        go_wp2_with (at_builtin; go_must (refine wpList_appendk rfl _ _ 23 27 rfl Try.underlying23 (.agg #[.int .i64 0, .string ⟨#[]⟩, .string ⟨#[]⟩, .string ⟨#[]⟩, .int .i64 0]) 5 64 info_op20 rfl (by decide) (by decide) wc.heap.size _ n _ [.int .i64 1, .string ⟨nm.toArray⟩, .string ⟨tn.toArray⟩, .string ⟨(dt.take m).toArray⟩, .int .i64 sz] rfl (hOw2.out.alloc _) rfl (by first | rfl | simp [Act.eval]) (by intro u hu; simp at hu; rcases hu with rfl | rfl | rfl | rfl | rfl <;> rfl) (by omega) (by have := hb1.out.size; simp; omega) ?_))
        intro v4 w4 ho4 hg4 _
        have hb4 := Lib.hid ((hbw.out.alloc (Nat.le_of_lt hlt1) (.cells #[.int .i64 1, .string ⟨nm.toArray⟩, .string ⟨tn.toArray⟩, .string ⟨(dt.take m).toArray⟩, .int .i64 sz] 27)).grown hg4.out (by simp; omega) fun q hq => Nat.le_trans (Nat.le_of_lt hlt) (hOw2.out.lt q hq).1)
        obtain ⟨a4, c4, hv4⟩ := own_form ho4.out
        subst hv4
        go_wp2_with fail
        go_ret
        refine ⟨_, rfl, ?_, hb4.out⟩
        rw [hTD.out]
        unfold OwnO
        have e1 : (os.take n ++ [(⟨1, nm, tn, dt.take m, sz⟩ : Op20)]).length = n + 1 := by rw [List.length_append, List.length_take, Nat.min_eq_left hnl]; rfl
        rw [e1, List.flatMap_append]
        exact ownsRow_mono ho4.out (Nat.le_of_lt hlt)
      · have hTD : Hid (T = [⟨1, nm, tn, dt, sz⟩]) := Lib.hid (by rw [← hT.out, List.take_of_length_le (by omega)])
        have s10 : min (dt.length : Int) by_ = dt.length := by omega
        clear hT
        go_wp2_with (at_builtin; go_must (refine wpList_appendk rfl _ _ 23 27 rfl Try.underlying23 (.agg #[.int .i64 0, .string ⟨#[]⟩, .string ⟨#[]⟩, .string ⟨#[]⟩, .int .i64 0]) 5 64 info_op20 rfl (by decide) (by decide) wc.heap.size _ n _ [.int .i64 1, .string ⟨nm.toArray⟩, .string ⟨tn.toArray⟩, .string ⟨(dt).toArray⟩, .int .i64 sz] rfl (hOw2.out.alloc _) rfl (by first | rfl | simp [Act.eval]) (by intro u hu; simp at hu; rcases hu with rfl | rfl | rfl | rfl | rfl <;> rfl) (by omega) (by have := hb1.out.size; simp; omega) ?_))
        intro v4 w4 ho4 hg4 _
        have hb4 := Lib.hid ((hbw.out.alloc (Nat.le_of_lt hlt1) (.cells #[.int .i64 1, .string ⟨nm.toArray⟩, .string ⟨tn.toArray⟩, .string ⟨(dt).toArray⟩, .int .i64 sz] 27)).grown hg4.out (by simp; omega) fun q hq => Nat.le_trans (Nat.le_of_lt hlt) (hOw2.out.lt q hq).1)
        obtain ⟨a4, c4, hv4⟩ := own_form ho4.out
        subst hv4
        go_wp2_with fail
        go_ret
        refine ⟨_, rfl, ?_, hb4.out⟩
        rw [hTD.out]
        unfold OwnO
        have e1 : (os.take n ++ [(⟨1, nm, tn, dt, sz⟩ : Op20)]).length = n + 1 := by rw [List.length_append, List.length_take, Nat.min_eq_left hnl]; rfl
        rw [e1, List.flatMap_append]
        exact ownsRow_mono ho4.out (Nat.le_of_lt hlt)
    · have hT0 : Hid (T = []) := by
        refine Lib.hid ?_
        rw [← hT]
        unfold tornO
        by_cases h1 : n < os.length
        · rw [List.getElem?_eq_getElem h1]
          simp only
          unfold torn20
          rw [if_neg]
          rintro ⟨h2, h3⟩
          exact hno ⟨h1, by simp [List.getD, h1, h2], h3⟩
        · rw [List.getElem?_eq_none (by omega)]
      clear hT
      by_cases h1 : n < os.length
      · have ho : os.getD n ⟨0, [], [], [], 0⟩ = os[n] := by simp [List.getD, h1]
        rw [ho] at hno
        obtain ⟨b, off, cc, _, hblt, e, hc⟩ := hv1.out.some opC_len (by decide) (by intro e; rw [e] at h1; simp at h1)
        injection e with e1 e2 e3
        subst e1 e3
        have c0 := hc n h1 0 _ (by decide) rfl
        rw [Nat.add_zero] at c0
        have hnL : (n : Int) < os.length := by omega
        generalize (os[n]'h1).kind = kd at *
        by_cases h2 : kd = 1
        · have h3 : ¬ 0 < by_ := fun e => hno ⟨h1, h2, e⟩
          have g2 : (kd == 1) = true := by simpa using h2
          clear hno ho hc e2 h2
          go_wp2_with fail
          go_ret
          refine ⟨_, rfl, ?_, hbw.out⟩
          rw [hT0.out, List.append_nil]
          exact ownsRow_mono hOw.out (Nat.le_of_lt hlt)
        · have g2 : (kd == 1) = false := by simpa using h2
          clear hno ho hc e2 h2
          go_wp2_with fail
          go_ret
          refine ⟨_, rfl, ?_, hbw.out⟩
          rw [hT0.out, List.append_nil]
          exact ownsRow_mono hOw.out (Nat.le_of_lt hlt)
      · have hnL : ¬ (n : Int) < os.length := by omega
        clear hno
        go_wp2_with fail
        go_ret
        refine ⟨_, rfl, ?_, hbw.out⟩
        rw [hT0.out, List.append_nil]
        exact ownsRow_mono hOw.out (Nat.le_of_lt hlt)
end Go.Proofs.Ytahndjgamoojkaa

/- A region that draws its order, and whose last operation writes what others of it read: the condition S is asked behind every operation but that last one, z, which waits for all others. -/
namespace Go.Proofs.Ytahndjgamoojkaa

section
variable {P : Program} {ops : Array Oper} {Q : Exit → Act → World → Prop} {md : Region.Mode} {S : World → Prop} {z : Nat}

/-- What is listed has listed what it waits for. -/
def Closed (md : Region.Mode) (ops : Array Oper) (listed : Array Bool) : Prop :=
  ∀ j oj, ops[j]? = some oj → listed.getD j false = true → ∀ e ∈ oj.after, Region.binds md e = true → listed.getD e.on false = true
/-- Operation j waits for i, over others or by itself. -/
def waitsB (md : Region.Mode) (ops : Array Oper) (i : Nat) : Nat → Nat → Bool
  | 0, _ => false
  | n + 1, j => j == i || ((ops[j]?).map fun o => o.after.toList.any fun e => Region.binds md e && waitsB md ops i n e.on).getD false
theorem closed_waits {listed : Array Bool} {i : Nat} (hc : Closed md ops listed) : ∀ n j, waitsB md ops i n j = true → listed.getD j false = true → listed.getD i false = true
  | 0, _, h, _ => by simp [waitsB] at h
  | n + 1, j, h, hj => by
    simp only [waitsB, Bool.or_eq_true] at h
    rcases h with h | h
    · rw [beq_iff_eq] at h; subst h; exact hj
    · cases ho : ops[j]? with
      | none => simp [ho] at h
      | some o =>
        rw [ho] at h
        simp only [Option.map_some, Option.getD_some] at h
        obtain ⟨e, he, hb⟩ := List.any_eq_true.1 h
        rw [Bool.and_eq_true] at hb
        exact closed_waits hc n e.on hb.2 (hc j o ho hj e (Array.mem_toList_iff.1 he) hb.1)
theorem closed_none (n : Nat) : Closed md ops (Array.replicate n false) := fun j _ _ h => by
  exfalso
  rw [Array.getD_eq_getD_getElem?, Array.getElem?_replicate] at h
  split at h <;> simp at h
theorem ready_new {listed : Array Bool} {i : Nat} (hr : i ∈ Region.ready md ops listed) : listed.getD i false = false := by
  have h := (mem_ready.1 hr).1
  rw [Array.getD_eq_getD_getElem?] at h ⊢
  cases hx : listed[i]? with
  | none => rw [hx] at h; simp at h
  | some b => rw [hx] at h; simpa using h
theorem Closed.set {listed : Array Bool} {i : Nat} (hc : Closed md ops listed) (hr : i ∈ Region.ready md ops listed) : Closed md ops (listed.setIfInBounds i true) := fun j oj hj hl e he hb => by
  by_cases hij : i = j
  · subst hij
    obtain ⟨_, o, ho, ha⟩ := mem_ready.1 hr
    rw [hj] at ho
    injection ho with ho
    subst ho
    exact getD_set_true (ha e he hb)
  · rw [getD_set_ne false hij] at hl
    exact getD_set_true (hc j oj hj hl e he hb)
/-- The last one does not come up before i has. -/
theorem last_late {listed : Array Bool} {i n : Nat} (hc : Closed md ops listed) (hne : z ≠ i) (hw : waitsB md ops i n z = true) (hr : i ∈ Region.ready md ops listed) : z ∉ Region.ready md ops listed := fun hz => by
  obtain ⟨_, o, ho, ha⟩ := mem_ready.1 hz
  have hi := ready_new hr
  have : listed.getD i false = true := by
    cases n with
    | zero => simp [waitsB] at hw
    | succ n =>
      simp only [waitsB, Bool.or_eq_true, beq_iff_eq] at hw
      rcases hw with hw | hw
      · exact absurd hw hne
      · rw [ho] at hw
        simp only [Option.map_some, Option.getD_some] at hw
        obtain ⟨e, he, hb⟩ := List.any_eq_true.1 hw
        rw [Bool.and_eq_true] at hb
        exact closed_waits hc n e.on hb.2 (ha e (Array.mem_toList_iff.1 he) hb.1)
  rw [this] at hi
  cases hi

/-- Whatever order is picked from here on, and S holds behind every operation but z. -/
def wpAnyZ (P : Program) (md : Region.Mode) (ops : Array Oper) (Q : Exit → Act → World → Prop) (S : World → Prop) (z : Nat) : Nat → Array Bool → Act → World → Prop
  | 0, listed, a, w => Region.ready md ops listed = [] ∧ Q .normal a w
  | fuel + 1, listed, a, w =>
    (Region.ready md ops listed = [] → Q .normal a w) ∧
    ∀ i ∈ Region.ready md ops listed, wpOp P ops Q i (fun a' w' => (i ≠ z → S w') ∧ wpAnyZ P md ops Q S z fuel (listed.setIfInBounds i true) a' w') a w
theorem wpAny_of_z : ∀ (fuel : Nat) (listed : Array Bool) (a : Act) (w : World), wpAnyZ P md ops Q S z fuel listed a w → wpAny P md ops Q fuel listed a w
  | 0, _, _, _, h => h
  | fuel + 1, _, _, _, h => ⟨h.1, fun i hi => wpOp_mono (fun a' w' h' => wpAny_of_z fuel _ a' w' h'.2) (h.2 i hi)⟩
theorem wpAnyZ_first {i n : Nat} {oi : Oper} {v : Value} (hi : ops[i]? = some oi) (hsel : ∀ (j : Nat) (o : Oper) cs b, ops[j]? = some o → o.op ≠ .select cs b)
    (hQ : ∀ c a w, Q (.panic c) (a.put oi.dst v) w → Q (.panic c) a w) (hne : z ≠ i) (hw : waitsB md ops i n z = true) :
    ∀ (fuel : Nat) (listed : Array Bool) (a : Act) (w : World), Closed md ops listed →
      (∀ j oj, ops[j]? = some oj → j ≠ i → listed.getD j true = false → (∀ e ∈ oj.after, Region.binds md e = true → e.on ≠ i) → oi.apart ops oj = true) →
      i ∈ Region.ready md ops listed → YieldsIf P ops S oi v a → S w →
      wpAnyZ P md ops Q S z fuel (listed.setIfInBounds i true) (a.put oi.dst v) w → wpAnyZ P md ops Q S z (fuel + 1) listed a w := by
  intro fuel
  induction fuel with
  | zero =>
    intro listed a w _ _ hr hy hS H
    refine ⟨fun e => absurd hr (by rw [e]; simp), fun j hj => ?_⟩
    by_cases hji : j = i
    · rw [hji]; exact hy.wpOp hi hS ⟨fun _ => hS, H⟩
    · have hj' := ready_mono hj hji
      rw [H.1] at hj'
      cases hj'
  | succ fuel ih =>
    intro listed a w hc hfree hr hy hS H
    refine ⟨fun e => absurd hr (by rw [e]; simp), fun j hj => ?_⟩
    by_cases hji : j = i
    · rw [hji]; exact hy.wpOp hi hS ⟨fun _ => hS, H⟩
    · have hjz : j ≠ z := fun e => last_late hc hne hw hr (e ▸ hj)
      obtain ⟨hun, oj, hoj, hall⟩ := mem_ready.1 hj
      have hno : ∀ e ∈ oj.after, Region.binds md e = true → e.on ≠ i := fun e he hb e' => by
        have h1 := hall e he hb
        rw [e', ready_new hr] at h1
        cases h1
      refine wpOp_mono (fun a' w' h3 => ⟨fun _ => h3.2.1 hjz, ih (listed.setIfInBounds j true) a' w' (hc.set hj) (fun k ok hk hki hku hko => ?_) (ready_mono hr (Ne.symm hji)) h3.1 (h3.2.1 hjz) (by rw [Array.setIfInBounds_comm _ _ hji]; exact h3.2.2)⟩)
        (wpOp_putIf hoj (hfree j oj hoj hji hun hno) (fun cs b => hsel i oi cs b hi) (fun cs b => hsel j oj cs b hoj) hQ hy (H.2 j (ready_mono hj hji)))
      refine hfree k ok hk hki ?_ hko
      by_cases hjk : j = k
      · rw [← hjk]; exact hun
      · rw [getD_set_ne true hjk] at hku; exact hku

/-- The walk's goal. -/
def ZGo (P : Program) (md : Region.Mode) (ops : Array Oper) (Q : Exit → Act → World → Prop) (S : World → Prop) (z fuel : Nat) (listed : Array Bool) (a : Act) (w : World) : Prop :=
  Closed md ops listed → wpAnyZ P md ops Q S z fuel listed a w
/-- The beginning. -/
theorem zgo_begin {id : Nat} {a : Act} {w : World} (z : Nat) (S : World → Prop) (hm : P.follows .mixedOrders = true) (hS : S w.drew)
    (h : S w.drew → ZGo P .any ops Q S z ops.size (Array.replicate ops.size false) a w.drew) : (Code.region id ops true).wp P Q a w :=
  wp_region_any hm (wpAny_of_z _ _ _ _ (h hS (closed_none _)))
/-- Number i is taken first: it reads alone, under S. -/
theorem zgo_take {fuel : Nat} {listed : Array Bool} {a : Act} {w : World} (i : Nat) {oi : Oper} {v : Value} (hi : ops.toList[i]? = some oi)
    (hs : Region.noSelect ops = true) (hf : Region.free md ops listed i = true) (hr : (Region.ready md ops listed).contains i = true) (hz : (z != i && waitsB md ops i ops.size z) = true)
    (hQ : ∀ c a w, Q (.panic c) (a.put oi.dst v) w → Q (.panic c) a w) (hw : Region.wanted oi (yielded ops a.tmps) = true) (hy : ∀ w, S w → (execOp a.eval oi).run P w = .ok (.value v) w) (hS : S w)
    (h : ZGo P md ops Q S z fuel (listed.setIfInBounds i true) (a.put oi.dst v) w) : ZGo P md ops Q S z (fuel + 1) listed a w := fun hc => by
  rw [Array.getElem?_toList] at hi
  rw [Bool.and_eq_true, bne_iff_ne] at hz
  have hr' : i ∈ Region.ready md ops listed := by simpa using hr
  exact wpAnyZ_first hi (Region.noSelect_spec hs) hQ hz.1 hz.2 fuel listed a w hc (Region.free_spec hi hf) hr' (Or.inl ⟨hw, hy⟩) hS (h (hc.set hr'))
/-- What may come up next, one by one. -/
def ZAll (P : Program) (md : Region.Mode) (ops : Array Oper) (Q : Exit → Act → World → Prop) (S : World → Prop) (z fuel : Nat) (listed : Array Bool) (a : Act) (w : World) (rs : List Nat) : Prop :=
  ∀ i ∈ rs, i ∈ Region.ready md ops listed → Closed md ops listed → wpOp P ops Q i (fun a' w' => (i ≠ z → S w') ∧ wpAnyZ P md ops Q S z fuel (listed.setIfInBounds i true) a' w') a w
theorem ZAll.nil {fuel : Nat} {listed : Array Bool} {a : Act} {w : World} : ZAll P md ops Q S z fuel listed a w [] := fun _ h => by cases h
theorem ZAll.cons {fuel : Nat} {listed : Array Bool} {a : Act} {w : World} {i : Nat} {o : Oper} {rs : List Nat} (ho : ops.toList[i]? = some o)
    (hs : ∀ K' : Act → World → Prop, Shut (∀ a w, S w → (S w → ZGo P md ops Q S z fuel (listed.setIfInBounds i true) a w) → K' a w) → if Region.wanted o (yielded ops a.tmps) = true then Oper.wp P o a w K' Q else K' (a.put o.dst undef) w)
    (h : ZAll P md ops Q S z fuel listed a w rs) : ZAll P md ops Q S z fuel listed a w (i :: rs) := fun j hj hr hc => by
  rcases List.mem_cons.1 hj with rfl | hj
  · rw [Array.getElem?_toList] at ho
    exact wpOp_step ho fun K' hK => hs K' fun a w hS hW => hK a w ⟨fun _ => hS, hW hS (hc.set hr)⟩
  · exact h j hj hr hc
theorem zgo_ready {fuel : Nat} {listed : Array Bool} {a : Act} {w : World} (rs : List Nat) (hr : Region.ready md ops listed = rs) (hne : rs ≠ []) (h : ZAll P md ops Q S z fuel listed a w rs) : ZGo P md ops Q S z (fuel + 1) listed a w :=
  fun hc => ⟨fun e => absurd (hr ▸ e) hne, fun i hi => h i (hr ▸ hi) hi hc⟩
/-- The last one. -/
theorem zgo_last {fuel : Nat} {listed : Array Bool} {a : Act} {w : World} {o : Oper} (hr : Region.ready md ops listed = [z]) (hl : Region.ready md ops (listed.setIfInBounds z true) = []) (ho : ops.toList[z]? = some o)
    (hs : ∀ K' : Act → World → Prop, Shut (∀ a w, Q .normal a w → K' a w) → if Region.wanted o (yielded ops a.tmps) = true then Oper.wp P o a w K' Q else K' (a.put o.dst undef) w) : ZGo P md ops Q S z (fuel + 1) listed a w := fun _ => by
  refine ⟨fun e => absurd (hr ▸ e) (by simp), fun i hi => ?_⟩
  rw [hr] at hi
  rw [List.mem_singleton.1 hi]
  rw [Array.getElem?_toList] at ho
  refine wpOp_step ho fun K' hK => hs K' fun a w hQ => hK a w ⟨fun e => absurd rfl e, ?_⟩
  cases fuel with
  | zero => exact ⟨hl, hQ⟩
  | succ n => exact ⟨fun _ => hQ, by rw [hl]; simp⟩
end
end Go.Proofs.Ytahndjgamoojkaa
