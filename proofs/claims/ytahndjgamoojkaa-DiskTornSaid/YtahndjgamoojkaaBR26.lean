/- strings.Builder of the call's own, by the library's contracts (Grow, WriteString, String alone). -/
import Derived.Shelf.Strings.Builder2
import Derived.Test.YtahndjgamoojkaaBR01
import Derived.Test.YtahndjgamoojkaaBR25
import Derived.Test.YtahndjgamoojkaaBR03
import Derived.Test.YtahndjgamoojkaaBR10
import Derived.Test.YtahndjgamoojkaaBR17
namespace Go.Proofs.Ytahndjgamoojkaa
open Go.RowKit Go.Shelf
def Laid.builder_ren : Go.Shelf.Ren := ⟨fun | 165 => 49 | 166 => 50 | 169 => 51 | 240 => 60 | 241 => 61 | 276 => 69 | 277 => 70 | n => n, fun | 9 => 9 | 3 => 3 | 4 => 4 | 20 => 20 | 0 => 0 | 5 => 5 | 72 => 82 | 70 => 79 | 37 => 80 | 75 => 85 | 80 => 65 | 127 => 96 | 164 => 102 | n => n, fun | n => n⟩
theorem Laid.lays165 : Go.Proofs.Lays.n165 Try.prog Laid.builder_ren := {
  mixed := by kernel_rfl
  f165 := Try.func49.trans (congrArg some (by kernel_rfl))
  f240 := Try.func60.trans (congrArg some (by kernel_rfl))
  f241 := Try.func61.trans (congrArg some (by kernel_rfl))
  f276 := Try.func69.trans (congrArg some (by kernel_rfl))
  f277 := Try.func70.trans (congrArg some (by kernel_rfl))
  t0 := Try.underlying0
  a0 := Try.isAgg0
  z0 := Try.sizeOf0
  v0 := Try.zeroValue0
  t3 := Try.underlying3
  a3 := Try.isAgg3
  z3 := Try.sizeOf3
  v3 := Try.zeroValue3
  t4 := Try.underlying4
  a4 := Try.isAgg4
  z4 := Try.sizeOf4
  v4 := Try.zeroValue4
  t9 := Try.underlying9
  a9 := Try.isAgg9
  z9 := Try.sizeOf9
  v9 := Try.zeroValue9
  t20 := Try.underlying20
  a20 := Try.isAgg20
  z20 := Try.sizeOf20
  v20 := Try.zeroValue20
  t37 := Try.underlying80
  a37 := Try.isAgg80
  z37 := Try.sizeOf80
  v37 := Try.zeroValue80
  t70 := Try.underlying79
  a70 := Try.isAgg79
  z70 := Try.sizeOf79
  v70 := Try.zeroValue79
  t72 := Try.underlying82
  a72 := Try.isAgg82
  z72 := Try.sizeOf82
  v72 := Try.zeroValue82
  t164 := Try.underlying102
  a164 := Try.isAgg102
  z164 := Try.sizeOf102
  v164 := Try.zeroValue102 }
theorem Laid.lays166 : Go.Proofs.Lays.n166 Try.prog Laid.builder_ren := {
  mixed := by kernel_rfl
  f166 := Try.func50.trans (congrArg some (by kernel_rfl))
  f240 := Try.func60.trans (congrArg some (by kernel_rfl))
  f276 := Try.func69.trans (congrArg some (by kernel_rfl))
  t0 := Try.underlying0
  a0 := Try.isAgg0
  z0 := Try.sizeOf0
  v0 := Try.zeroValue0
  t3 := Try.underlying3
  a3 := Try.isAgg3
  z3 := Try.sizeOf3
  v3 := Try.zeroValue3
  t4 := Try.underlying4
  a4 := Try.isAgg4
  z4 := Try.sizeOf4
  v4 := Try.zeroValue4
  t9 := Try.underlying9
  a9 := Try.isAgg9
  z9 := Try.sizeOf9
  v9 := Try.zeroValue9
  t20 := Try.underlying20
  a20 := Try.isAgg20
  z20 := Try.sizeOf20
  v20 := Try.zeroValue20
  t37 := Try.underlying80
  a37 := Try.isAgg80
  z37 := Try.sizeOf80
  v37 := Try.zeroValue80
  t70 := Try.underlying79
  a70 := Try.isAgg79
  z70 := Try.sizeOf79
  v70 := Try.zeroValue79
  t72 := Try.underlying82
  a72 := Try.isAgg82
  z72 := Try.sizeOf82
  v72 := Try.zeroValue82
  t75 := Try.underlying85
  a75 := Try.isAgg85
  z75 := Try.sizeOf85
  v75 := Try.zeroValue85
  t164 := Try.underlying102
  a164 := Try.isAgg102
  z164 := Try.sizeOf102
  v164 := Try.zeroValue102 }
theorem Laid.lays169 : Go.Proofs.Lays.n169 Try.prog Laid.builder_ren := {
  mixed := by kernel_rfl
  f169 := Try.func51.trans (congrArg some (by kernel_rfl))
  t0 := Try.underlying0
  a0 := Try.isAgg0
  z0 := Try.sizeOf0
  v0 := Try.zeroValue0
  t3 := Try.underlying3
  a3 := Try.isAgg3
  z3 := Try.sizeOf3
  v3 := Try.zeroValue3
  t9 := Try.underlying9
  a9 := Try.isAgg9
  z9 := Try.sizeOf9
  v9 := Try.zeroValue9
  t37 := Try.underlying80
  a37 := Try.isAgg80
  z37 := Try.sizeOf80
  v37 := Try.zeroValue80
  t70 := Try.underlying79
  a70 := Try.isAgg79
  z70 := Try.sizeOf79
  v70 := Try.zeroValue79
  t72 := Try.underlying82
  a72 := Try.isAgg82
  z72 := Try.sizeOf82
  v72 := Try.zeroValue82
  t127 := Try.underlying96
  a127 := Try.isAgg96
  z127 := Try.sizeOf96
  v127 := Try.zeroValue96 }
theorem Laid.Builder_Extra_B : Builder.Extra Try.prog Laid.builder_ren := {
  sizeBuilder := by kernel_rfl
  liesBuilder := by kernel_rfl
  t5 := Try.underlying5
  a5 := Try.isAgg5
  z5 := Try.sizeOf5
  v5 := Try.zeroValue5
  infoByte := by kernel_rfl
  cellsByte := by kernel_rfl
  sizeByte := by kernel_rfl
  neB5 := by decide }
/-- A builder that the call itself made (block b, from B on), and what it holds. -/
def BdAt (w : World) (B b : Nat) (l : List UInt8) : Prop := Lib.IsBuilder 82 5 B b (Lib.byteCells l) w
theorem bd_new (w : World) : BdAt (w.alloc (.cells #[.pointer none, .slice none 0 0] 82)) w.heap.size w.heap.size [] := Lib.fresh_isBuilder _ _ w
theorem builderAt_next {w w' : World} {T e : TypeId} {B b : Nat} {p : Value} {bs : List Value} (h : Lib.BuilderAt T e B b p bs w) (hb : Below w.heap.size w w') : Lib.BuilderAt T e B b p bs w' := by
  have hlt := h.lt
  obtain ⟨hB, v, hc, hown, hne⟩ := h
  exact ⟨hB, v, (hb.block b hlt).trans hc, ownsRow_below hown hb, hne⟩
theorem BdAt.next {w w' : World} {B b : Nat} {l : List UInt8} (h : BdAt w B b l) (hb : Below w.heap.size w w') : BdAt w' B b l := by
  rcases h with h | h
  · exact Or.inl (builderAt_next h hb)
  · exact Or.inr (builderAt_next h hb)
theorem BdAt.lt' {w : World} {B b : Nat} {l : List UInt8} (h : BdAt w B b l) : b < w.heap.size := by
  rcases h with h | h
  · exact h.lt
  · exact h.lt
theorem bd_grow (n b : Nat) (w : World) (hbk : w.heap[b]? = some (.cells #[.pointer none, .slice none 0 0] 82 (0, 0))) (hn : n ≤ 281474976710656) :
    Calls Try.prog 49 #[.pointer (some ⟨b, 0, none⟩), .int .i64 n] w fun e w' => e = .returned (.tuple #[]) ∧ BdAt w' b b [] ∧ Below b w w' := by
  have hlt : b < w.heap.size := by
    rcases Nat.lt_or_ge b w.heap.size with h | h
    · exact h
    · simp [Array.getElem?_eq_none h] at hbk
  refine (Any.Builder_Grow_fresh Laid.lays165 Laid.Builder_Extra_B b b n w (Nat.le_refl _) hbk (by omega) hn).mono ?_
  rintro e w' ⟨rfl, h, hb⟩
  exact ⟨rfl, Or.inr h, hb⟩
theorem bd_write {w : World} {B b : Nat} {l : List UInt8} (h : BdAt w B b l) (s : List UInt8) (hlen : l.length + s.length ≤ 140737488355328) (hB : B ≤ w.heap.size) :
    Calls Try.prog 50 #[.pointer (some ⟨b, 0, none⟩), .string ⟨s.toArray⟩] w fun e w' => e = .returned (.tuple #[.int .i64 s.length, .nilIface]) ∧ BdAt w' B b (l ++ s) ∧ Below B w w' := by
  have hs : (ByteArray.mk s.toArray).size = s.length := by simp [ByteArray.size]
  have hc : Lib.strCells ⟨s.toArray⟩ = Lib.byteCells s := by rw [Lib.strCells_eq]
  have k := Any.Builder_WriteString Laid.lays166 Laid.Builder_Extra_B B b (Lib.byteCells l) ⟨s.toArray⟩ w h (by rw [Lib.byteCells_length, hs]; exact hlen) hB
  rw [hs, hc, ← Lib.byteCells_append] at k
  refine k.mono ?_
  rintro e w' ⟨rfl, h, hb⟩
  exact ⟨rfl, Or.inr h, hb⟩
theorem bd_string {w : World} {B b : Nat} {l : List UInt8} (h : BdAt w B b l) (hB : B ≤ w.heap.size) :
    Calls Try.prog 51 #[.pointer (some ⟨b, 0, none⟩)] w fun e w' => e = .returned (.string ⟨l.toArray⟩) ∧ Below B w w' :=
  Any.Builder_String_any Laid.lays169 Laid.Builder_Extra_B B b l w h hB
end Go.Proofs.Ytahndjgamoojkaa

/- Walks of layer 20's drafts: a draft's bytes; the files of drafts. -/
namespace Go.Proofs.Ytahndjgamoojkaa
open Go.RowKit

theorem flat_next (ps : List (List UInt8)) {k : Nat} (h : k < ps.length) : (ps.take (k + 1)).flatten = (ps.take k).flatten ++ ps[k]'h := by
  rw [List.take_succ_eq_append_getElem h, List.flatten_append]
  simp
theorem flat_pre (ps : List (List UInt8)) (k : Nat) : (ps.take k).flatten.length ≤ ps.flatten.length := by
  conv => rhs; rw [← List.take_append_drop k ps, List.flatten_append, List.length_append]
  omega
set_option maxHeartbeats 1000000 in
set_option maxRecDepth 100000 in
theorem text20_any (d : Dr20) (B : Nat) (w : World) (hp : Strs w B d.pv d.ps) (hn : d.ps.length ≤ 1000000) (hl : d.text.length ≤ 10000000) :
    Calls Try.prog 34 #[drV d] w fun e w' => e = .returned (.string ⟨d.text.toArray⟩) ∧ Below w.heap.size w w' := by
  obtain ⟨nm, ps, pv⟩ := d
  simp only at hp hn
  unfold drV drC Dr20.text strV at *
  simp only at hl ⊢
  obtain ⟨T, hT⟩ : ∃ T, ps.flatten.length = T := ⟨_, rfl⟩
  rw [hT] at hl ⊢
  have hsl := hp.sl
  obtain ⟨a, c, rfl⟩ := own_form hp
  clear hp
  have hb0 := ((Below.refl w.heap.size w).alloc (Nat.le_refl _) (.cells [Value.string ⟨nm.toArray⟩, .slice a ps.length c, .int .i64 T].toArray 64)).alloc (by simp) (.cells #[.pointer none, .slice none 0 0] 82)
  have hbx := (arrAt_new w 64 [Value.string ⟨nm.toArray⟩, .slice a ps.length c, .int .i64 T]).next ((Below.refl _ _).alloc (Nat.le_refl _) (.cells #[.pointer none, .slice none 0 0] 82))
  have hbd := arrAt_new (w.alloc (.cells [Value.string ⟨nm.toArray⟩, .slice a ps.length c, .int .i64 T].toArray 64)) 82 [Value.pointer none, .slice none 0 0]
  have hsz : (w.alloc (.cells [Value.string ⟨nm.toArray⟩, .slice a ps.length c, .int .i64 T].toArray 64)).heap.size = w.heap.size + 1 := by simp
  rw [hsz] at hbd
  obtain ⟨W, hW⟩ : ∃ W, (w.alloc (.cells [Value.string ⟨nm.toArray⟩, .slice a ps.length c, .int .i64 T].toArray 64)).alloc (.cells #[.pointer none, .slice none 0 0] 82) = W := ⟨_, rfl⟩
  rw [hW] at hb0 hbx
  change ArrAt ((w.alloc _).alloc (.cells #[.pointer none, .slice none 0 0] 82)) _ _ _ at hbd
  rw [hW] at hbd
  have hgr := Lib.hid (bd_grow T (w.heap.size + 1) W hbd (by omega))
  obtain ⟨q0, q1, q2⟩ := three_cells hbx
  replace hbx := Lib.hid hbx
  replace hb0 := Lib.hid hb0
  replace hsl := Lib.hid hsl
  replace hT := Lib.hid hT
  clear hbd hsz
  go_enter Try.func34, Try.ntmps34
  go_wp2_with fail
  refine hgr.out.mono ?_; rintro e w1 ⟨rfl, hbd1, hb1⟩
  have hsz1 := hb1.size
  have hx1 : ArrAt w1 w.heap.size 64 [Value.string ⟨nm.toArray⟩, .slice a ps.length c, .int .i64 T] := (hb1.block _ (Nat.lt_succ_self _)).trans hbx.out
  have hbx1 := hb0.out.trans (hb1.mono (Nat.le_succ _))
  have hlt1 : w.heap.size + 1 < w1.heap.size := hbd1.lt'
  obtain ⟨q0, q1, q2⟩ := three_cells hx1
  replace hbd1 : Hid (BdAt w1 (w.heap.size + 1) (w.heap.size + 1) (ps.take 0).flatten) := Lib.hid hbd1
  replace hbx1 := Lib.hid hbx1
  clear hgr hW hb0 hbx hb1 hx1
  go_wp2_with fail
  go_loopw [12] (fun i wr => ∃ k : Nat, i = .int .i64 k ∧ k ≤ ps.length ∧ Hid (BdAt wr (w.heap.size + 1) (w.heap.size + 1) (ps.take k).flatten) ∧ Hid (Below w.heap.size w wr) ∧ w.heap.size + 1 ≤ wr.heap.size) (fun i _ => ps.length - (intOf i).toNat)
  case atStart => exact ⟨0, rfl, Nat.zero_le _, hbd1, hbx1, by omega⟩
  case round =>
    clear hbd1 hbx1
    obtain ⟨k, rfl, hk, hbd, hb, hlr⟩ := hrel
    by_cases hlt : k < ps.length
    · obtain ⟨b, off, cc, e, hc⟩ := hsl.out.some (by intro e; rw [e] at hlt; simp at hlt)
      injection e with e1 e2 e3
      subst e1 e3
      have hblt := World.block_lt_of_cell? w ⟨b, off + k, none⟩ (hc k hlt)
      have c0 := (hb.out.cell (p := ⟨b, off + k, none⟩) hblt).trans (hc k hlt)
      have eg : ps.getD k [] = ps[k]'hlt := by simp [List.getD, hlt]
      rw [eg] at c0
      have hfn := flat_next ps hlt
      have hpre := flat_pre ps (k + 1)
      rw [hT.out, hfn, List.length_append] at hpre
      have hwr := bd_write hbd.out (ps[k]'hlt) (by omega) hlr
      rw [← hfn] at hwr
      replace hwr := Lib.hid hwr
      clear hfn hpre eg hc e2
      generalize ps[k]'hlt = x at c0 hwr
      unfold strV at c0
      have hkP : (k : Int) < ps.length := by omega
      go_wp2_with fail
      refine hwr.out.mono ?_; rintro e w2 ⟨rfl, hbd2, hb2⟩
      have hs2 := hb2.size
      replace hbd2 := Lib.hid hbd2
      replace hb2 := Lib.hid (hb.out.trans (hb2.mono (Nat.le_succ _)))
      clear hwr hbd hb
      go_wp2_with fail
      exact ⟨⟨k + 1, by go_num, by omega, hbd2, hb2, by omega⟩, by simp [intOf]; omega⟩
    · have hke : ¬ ((k : Int) < ps.length) := by omega
      have hst := bd_string hbd.out hlr
      rw [List.take_of_length_le (by omega)] at hst
      replace hst := Lib.hid hst
      clear hsl
      go_wp2_with fail
      refine hst.out.mono ?_; rintro e w2 ⟨rfl, hb2⟩
      replace hb2 := Lib.hid (hb.out.trans (hb2.mono (Nat.le_succ _)))
      clear hst hbd hb
      go_wp2_with fail
      go_ret
      exact ⟨rfl, hb2.out⟩
end Go.Proofs.Ytahndjgamoojkaa

/- Append in a region that draws its order: a step law that tells where the row lies then. -/
namespace Go.Proofs.Ytahndjgamoojkaa
open Go.RowKit

/-- Append in a region that draws; it tells where the row lies then. -/
theorem step_append_here {P : Program} {ops : Array Oper} {o : Oper} {a : Act} {K : Act → World → Prop} {Q : Exit → Act → World → Prop} {E : Prop} {w : World} (hgd : o.guard = none) (s x : Operand) (t : TypeId)
    (ho : o.op = .call { callee := .builtin .append, args := #[s, x], argTypes := #[t, t] })
    (base : Nat) (e : TypeId) (z : Value) (size bytes : Nat) (ht : P.underlying t = some (.slice e)) (hi : (P.info? e).map (fun i => (i.zero, i.size, i.bytes)) = some (some z, size, bytes)) (hzs : z.cells.size = size) (hsz : 0 < size)
    (v : Value) (n : Nat) (xs : List Value) (hs : a.eval s = v) (hown : w.ownsRow base e size v n xs)
    (A : Option Addr) (m c : Nat) (news : List Value) (hx : a.eval x = .slice A m c) (hl : news.length = m * size) (hnews : PartOf w A news) (h1 : ∀ u ∈ news, u.oneCell' = true)
    (N : Nat) (hN : n + m = N) (h63 : N ≤ maxLen) (hbytes : N * bytes ≤ 140737488355328) (hbase : base ≤ w.heap.size)
    (h : ∀ a' c' w', Hid (w'.ownsRow base e size (.slice a' N c') N (xs ++ news)) → Hid (Below base w w') → Hid (w.grownBy w' v.ownBlock) → Hid ((Value.slice a' N c').ownBlock = v.ownBlock ∨ (Value.slice a' N c').ownBlock = some w.heap.size) → K (a.put o.dst (.slice a' N c')) w') :
    if Region.wanted o (yielded ops a.tmps) = true then Oper.wp P o a w K Q else E := by
  rw [if_pos (by simp [Region.wanted, hgd])]
  obtain ⟨i, hi, hz, hsize, hby⟩ := info_parts hi
  subst hN
  have hbel : ∀ w', w.grownBy w' v.ownBlock → Below base w w' := fun w' hg => (Below.refl base w).grown hg hbase fun k hk => (hown.lt k hk).1
  cases A with
  | none =>
    have hm : news = [] := by
      cases news with
      | nil => rfl
      | cons u r => obtain ⟨ad, e, _⟩ := hnews 0 u rfl; cases e
    subst hm
    have hm0 : m = 0 := by
      have : m * size = 0 := by simpa using hl.symm
      rcases Nat.mul_eq_zero.1 this with h | h
      · exact h
      · omega
    subst hm0
    have hrun := run_append_none (P := P) (w := w) base t o.type e i size ht hi v n c xs hown
    obtain ⟨a', c', rfl⟩ := own_form hown
    unfold Oper.wp
    simp [execOp, ho, resolve, invoke, builtin, hs, hx, hrun, Result.andThen]
    exact h a' c' w (Lib.hid (by simpa using hown)) (Lib.hid (Below.refl _ _)) (Lib.hid ⟨rfl, rfl, rfl, Nat.le_refl _, fun _ _ _ => rfl⟩) (Lib.hid (Or.inl rfl))
  | some ad =>
    obtain ⟨v', w', hr, h2, h3, h4, h5⟩ := run_append_own_at (P := P) w base t o.type e i z size bytes ht hi hz hsize hby hzs hsz v n xs hown ad m c news hl (fun j u hu => by obtain ⟨ad', e, hc⟩ := hnews j u hu; injection e with e; subst e; exact hc) h1 h63 hbytes hbase
    obtain ⟨a', c', rfl⟩ := own_form h2
    unfold Oper.wp
    simp [execOp, ho, resolve, invoke, builtin, hs, hx, hr, Result.andThen]
    exact h a' c' w' (Lib.hid h2) (Lib.hid (hbel w' h3)) (Lib.hid h3) (Lib.hid h5)
end Go.Proofs.Ytahndjgamoojkaa
