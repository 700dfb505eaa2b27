/- Disks, operations and crashes that came in, out of a row's arguments. -/
import Derived.Test.YtahndjgamoojkaaBR03
import Derived.Test.YtahndjgamoojkaaBR20
import Derived.OpenShut
import Derived.KernelRfl
import Derived.Test.YtahndjgamoojkaaBR02
import Derived.SizedLaws
namespace Go.Proofs.Ytahndjgamoojkaa
open Go.ChangeShapes Go.WideShapes Go.ChangeAt Go.RowKit Go.Deep

section
variable {H : Type} {enc : TypeId × Value → H} {P : Program} {w : World}
/-- A struct whose fields are a cell each, field for field. -/
theorem struct_flds {base : Nat} {sp : Nat → Bool} {held : Bool} {t : TypeId} {fs : Array Field} {fuel : Nat} {cs : List Value} {x : DataW H × List MemPlace} (ht : P.underlying t = some (.struct fs)) (hf : ∀ (i : Nat) (f : Field), fs[i]? = some f → f.offset = i ∧ P.cellsOf f.type = 1) (hct : P.cellsOf t = fs.size)
    (h : DataW.trod enc P w base sp held fuel t cs = some x) : ∃ (ys : List (DataW H × List MemPlace)) (n : Nat), x = (.agg (ys.map (·.1)), ys.flatMap (·.2)) ∧ cs.length = fs.size ∧ ys.length = fs.size ∧ ∀ (i : Nat) (f : Field), fs[i]? = some f → DataW.trod enc P w base sp held n f.type ((cs.drop i).take 1) = ys[i]? := by
  obtain ⟨ys, n, _, hx, hl, hlen, hff⟩ := DataW.trod_struct ht h
  refine ⟨ys, n, hx, by rw [hl, hct], hlen, fun i f hi => ?_⟩
  obtain ⟨h1, h2⟩ := hf i f hi
  have := hff i f hi
  rwa [h1, h2] at this
/-- What an operation's data are. -/
def OpD (o : Op20) (d : DataW H) : Prop := d = .agg [.lit (.int .i64 o.kind), .lit (.string o.name), .lit (.string o.to), .lit (.string o.data), .lit (.int .i64 o.size)] ∧ (-9223372036854775808 ≤ o.kind ∧ o.kind ≤ 9223372036854775807) ∧ (-9223372036854775808 ≤ o.size ∧ o.size ≤ 9223372036854775807) ∧ o.name.length ≤ maxLen ∧ o.to.length ≤ maxLen ∧ o.data.length ≤ maxLen
theorem trod_op {base : Nat} {sp : Nat → Bool} {held : Bool} {t : TypeId} {f0 f1 f2 f3 f4 : Field} {fuel : Nat} {cs : List Value} {x : DataW H × List MemPlace} (ht : P.underlying t = some (.struct #[f0, f1, f2, f3, f4])) (hf : ∀ (i : Nat) (f : Field), #[f0, f1, f2, f3, f4][i]? = some f → f.offset = i ∧ P.cellsOf f.type = 1) (hct : P.cellsOf t = 5)
    (k0 : P.underlying f0.type = some (.int .i64)) (k1 : P.underlying f1.type = some .string) (k2 : P.underlying f2.type = some .string) (k3 : P.underlying f3.type = some .string) (k4 : P.underlying f4.type = some (.int .i64))
    (h : DataW.trod enc P w base sp held fuel t cs = some x) : ∃ o : Op20, cs = opC o ∧ OpD o x.1 ∧ x.2 = [] := by
  obtain ⟨ys, n, rfl, hl, hyl, hff⟩ := struct_flds ht hf hct h
  match cs, hl, ys, hyl with
  | [v0, v1, v2, v3, v4], _, [y0, y1, y2, y3, y4], _ =>
    obtain ⟨z0, e0, d0, w0⟩ := DataW.trod_int k0 (hff 0 f0 rfl)
    obtain ⟨s1, e1, d1, w1⟩ := DataW.trod_string k1 (hff 1 f1 rfl)
    obtain ⟨s2, e2, d2, w2⟩ := DataW.trod_string k2 (hff 2 f2 rfl)
    obtain ⟨s3, e3, d3, w3⟩ := DataW.trod_string k3 (hff 3 f3 rfl)
    obtain ⟨z4, e4, d4, w4⟩ := DataW.trod_int k4 (hff 4 f4 rfl)
    simp at e0 e1 e2 e3 e4
    subst e0 e1 e2 e3 e4 d0 d1 d2 d3 d4
    exact ⟨⟨z0, s1.data.toList, s2.data.toList, s3.data.toList, z4⟩, rfl, ⟨rfl, bounds_i64 w0, bounds_i64 w4, by simpa using w1, by simpa using w2, by simpa using w3⟩, rfl⟩
/-- What a file's data are. -/
def FileD (a : Fl20) (d : DataW H) : Prop := d = .agg [.lit (.string a.1), .lit (.string a.2)] ∧ a.1.length ≤ maxLen ∧ a.2.length ≤ maxLen
def flC (a : Fl20) : List Value := [strV a.1, strV a.2]
theorem trod_file {base : Nat} {sp : Nat → Bool} {held : Bool} {t : TypeId} {f0 f1 : Field} {fuel : Nat} {cs : List Value} {x : DataW H × List MemPlace} (ht : P.underlying t = some (.struct #[f0, f1])) (hf : ∀ (i : Nat) (f : Field), #[f0, f1][i]? = some f → f.offset = i ∧ P.cellsOf f.type = 1) (hct : P.cellsOf t = 2)
    (k0 : P.underlying f0.type = some .string) (k1 : P.underlying f1.type = some .string)
    (h : DataW.trod enc P w base sp held fuel t cs = some x) : ∃ a : Fl20, cs = flC a ∧ FileD a x.1 := by
  obtain ⟨ys, n, rfl, hl, hyl, hff⟩ := struct_flds ht hf hct h
  match cs, hl, ys, hyl with
  | [v0, v1], _, [y0, y1], _ =>
    obtain ⟨s0, e0, d0, w0⟩ := DataW.trod_string k0 (hff 0 f0 rfl)
    obtain ⟨s1, e1, d1, w1⟩ := DataW.trod_string k1 (hff 1 f1 rfl)
    simp at e0 e1
    subst e0 e1 d0 d1
    exact ⟨⟨s0.data.toList, s1.data.toList⟩, rfl, ⟨rfl, by simpa using w0, by simpa using w1⟩⟩
theorem atSl_of {v : Value} {L : List Fl20} (h : SlOf 2 flC w v L) : AtSl w v L := by
  rcases h with h | ⟨b, off, c, hc, hv, h⟩
  · exact Or.inl h
  · refine Or.inr ⟨b, off, c, hc, hv, fun j hj => ?_⟩
    have e : L.getD j ([], []) = L[j]'hj := by simp [List.getD, hj]
    rw [e]
    exact ⟨h j hj 0 _ (by decide) rfl, h j hj 1 _ (by decide) rfl⟩
end
theorem op_flds : ∀ (i : Nat) (f : Field), (match Try.prog.underlying 27 with | some (.struct fs) => fs | _ => #[])[i]? = some f → f.offset = i ∧ Try.prog.cellsOf f.type = 1 := by
  rw [Try.underlying27]
  intro i f h
  match i, h with
  | 0, h => cases h; exact ⟨rfl, by kernel_rfl⟩
  | 1, h => cases h; exact ⟨rfl, by kernel_rfl⟩
  | 2, h => cases h; exact ⟨rfl, by kernel_rfl⟩
  | 3, h => cases h; exact ⟨rfl, by kernel_rfl⟩
  | 4, h => cases h; exact ⟨rfl, by kernel_rfl⟩
  | n + 5, h => simp at h
theorem file_flds : ∀ (i : Nat) (f : Field), (match Try.prog.underlying 47 with | some (.struct fs) => fs | _ => #[])[i]? = some f → f.offset = i ∧ Try.prog.cellsOf f.type = 1 := by
  rw [Try.underlying47]
  intro i f h
  match i, h with
  | 0, h => cases h; exact ⟨rfl, by kernel_rfl⟩
  | 1, h => cases h; exact ⟨rfl, by kernel_rfl⟩
  | n + 2, h => simp at h
theorem disk_flds : ∀ (i : Nat) (f : Field), (match Try.prog.underlying 25 with | some (.struct fs) => fs | _ => #[])[i]? = some f → f.offset = i ∧ Try.prog.cellsOf f.type = 1 := by
  rw [Try.underlying25]
  intro i f h
  match i, h with
  | 0, h => cases h; exact ⟨rfl, by kernel_rfl⟩
  | 1, h => cases h; exact ⟨rfl, by kernel_rfl⟩
  | 2, h => cases h; exact ⟨rfl, by kernel_rfl⟩
  | 3, h => cases h; exact ⟨rfl, by kernel_rfl⟩
  | n + 4, h => simp at h
theorem crash_flds : ∀ (i : Nat) (f : Field), (match Try.prog.underlying 41 with | some (.struct fs) => fs | _ => #[])[i]? = some f → f.offset = i ∧ Try.prog.cellsOf f.type = 1 := by
  rw [Try.underlying41]
  intro i f h
  match i, h with
  | 0, h => cases h; exact ⟨rfl, by kernel_rfl⟩
  | 1, h => cases h; exact ⟨rfl, by kernel_rfl⟩
  | 2, h => cases h; exact ⟨rfl, by kernel_rfl⟩
  | 3, h => cases h; exact ⟨rfl, by kernel_rfl⟩
  | 4, h => cases h; exact ⟨rfl, by kernel_rfl⟩
  | n + 5, h => simp at h
theorem op_cells : Try.prog.cellsOf 27 = 5 := by kernel_rfl
theorem file_cells : Try.prog.cellsOf 47 = 2 := by kernel_rfl
theorem disk_cells : Try.prog.cellsOf 25 = 4 := by kernel_rfl
theorem crash_cells : Try.prog.cellsOf 41 = 5 := by kernel_rfl
section
variable {H : Type} {enc : TypeId × Value → H} {W : World}
instance : Inhabited Op20 := ⟨⟨0, [], [], [], 0⟩⟩
set_option maxRecDepth 100000 in
theorem trod_op_at {base : Nat} {sp : Nat → Bool} {held : Bool} {fuel : Nat} {cs : List Value} {x : DataW H × List MemPlace} (h : DataW.trod enc Try.prog W base sp held fuel 27 cs = some x) : ∃ o : Op20, cs = opC o ∧ OpD o x.1 ∧ x.2 = [] := by
  have hfl := op_flds
  rw [Try.underlying27] at hfl
  exact trod_op Try.underlying27 hfl op_cells Try.underlying3 Try.underlying9 Try.underlying9 Try.underlying9 Try.underlying3 h
set_option maxRecDepth 100000 in
/-- Operations that came in. -/
theorem trod_ops {fuel : Nat} {cs : List Value} {x : DataW H × List MemPlace} (h : DataW.trod enc Try.prog W 0 (fun _ => true) true fuel 23 cs = some x) : ∃ v l, cs = [v] ∧ OpSl W v l ∧ l.length ≤ maxLen ∧ SlD OpD l x.1 :=
  trod_slOf opC_len (by decide) Try.underlying23 op_cells (fun n cs y _ h => by
    obtain ⟨o, h1, h2, _⟩ := trod_op_at h
    exact ⟨o, h1, h2⟩) h
set_option maxRecDepth 100000 in
theorem trod_files {fuel : Nat} {cs : List Value} {x : DataW H × List MemPlace} (h : DataW.trod enc Try.prog W 0 (fun _ => true) true fuel 22 cs = some x) : ∃ v l, cs = [v] ∧ AtSl W v l ∧ l.length ≤ maxLen ∧ SlD FileD l x.1 := by
  have hfl := file_flds
  rw [Try.underlying47] at hfl
  obtain ⟨v, l, h1, h2, h3, h4⟩ := trod_slOf (f := flC) (R := FileD) (fun _ => rfl) (by decide) Try.underlying22 file_cells (fun n cs y _ h => trod_file Try.underlying47 hfl file_cells Try.underlying9 Try.underlying9 h) h
  exact ⟨v, l, h1, atSl_of h2, h3, h4⟩
/-- What a disk's data are. -/
def DkD (x : Dk20) (d : DataW H) : Prop := ∃ df dl, d = .agg [df, dl, .lit (.int .i64 x.fuse), .lit (.bool x.down)] ∧ SlD FileD x.files df ∧ SlD OpD x.loose dl ∧ (-9223372036854775808 ≤ x.fuse ∧ x.fuse ≤ 9223372036854775807) ∧ x.files.length ≤ maxLen ∧ x.loose.length ≤ maxLen
set_option maxRecDepth 100000 in
/-- A disk that came in. -/
theorem open_disk {r : Reach} {b0 : Nat} {v : Value} {d : DataW H} {ps : List MemPlace} (hval : Value.okWide Try.prog W r b0 25 v) (hd : DataW.Trod enc Try.prog W 0 (fun _ => true) true 25 v d ps) : ∃ x : Dk20, DkV W v x ∧ DkD x d := by
  obtain ⟨cs, rfl, hs⟩ := okWide_struct Try.underlying25 hval
  obtain ⟨fuel, hfu⟩ := hd
  have hfl := disk_flds
  rw [Try.underlying25] at hfl
  obtain ⟨ys, n, hx, hl, hyl, hff⟩ := struct_flds Try.underlying25 hfl disk_cells hfu
  have hcs : (Value.agg cs).cells.toList = cs.toList := by simp [Value.cells]
  rw [hcs] at hl hff
  obtain ⟨cs⟩ := cs
  simp only at hl hff
  match cs, hl, ys, hyl with
  | [v0, v1, v2, v3], _, [y0, y1, y2, y3], _ =>
    obtain ⟨u0, L, e0, h0, h0l, h0d⟩ := trod_files (hff 0 _ rfl)
    obtain ⟨u1, os, e1, h1, h1l, h1d⟩ := trod_ops (hff 1 _ rfl)
    obtain ⟨z2, e2, d2, w2⟩ := DataW.trod_int Try.underlying3 (hff 2 _ rfl)
    obtain ⟨b3, e3, d3⟩ := DataW.trod_bool Try.underlying4 (hff 3 _ rfl)
    simp at e0 e1 e2 e3
    subst e0 e1 e2 e3 d2 d3
    injection hx with hx1 hx2
    exact ⟨⟨L, os, z2, b3⟩, ⟨_, _, rfl, h0, h1⟩, ⟨_, _, hx1, h0d, h1d, bounds_i64 w2, h0l, h1l⟩⟩
set_option maxRecDepth 100000 in
/-- An operation that came in. -/
theorem open_op {base : Nat} {sp : Nat → Bool} {held : Bool} {r : Reach} {b0 : Nat} {v : Value} {d : DataW H} {ps : List MemPlace} (hval : Value.okWide Try.prog W r b0 27 v) (hd : DataW.Trod enc Try.prog W base sp held 27 v d ps) : ∃ o : Op20, v = opV o ∧ OpD o d ∧ ps = [] := by
  obtain ⟨cs, rfl, hs⟩ := okWide_struct Try.underlying27 hval
  obtain ⟨fuel, hfu⟩ := hd
  obtain ⟨o, h1, h2, h3⟩ := trod_op_at hfu
  have hcs : (Value.agg cs).cells.toList = cs.toList := by simp [Value.cells]
  rw [hcs] at h1
  refine ⟨o, ?_, h2, h3⟩
  unfold opV
  rw [← h1]
/-- What a crash's data are. -/
def CrD (c : Cr20) (d : DataW H) : Prop := d = .agg [.lit (.int .i64 c.keep), .lit (.int .i64 c.bytes), .lit (.bool c.burst), .lit (.int .i64 c.at_), .lit (.int .u32 c.bits)]
def CrBd (c : Cr20) : Prop := (-9223372036854775808 ≤ c.keep ∧ c.keep ≤ 9223372036854775807) ∧ (-9223372036854775808 ≤ c.bytes ∧ c.bytes ≤ 9223372036854775807) ∧ (-9223372036854775808 ≤ c.at_ ∧ c.at_ ≤ 9223372036854775807) ∧ 0 ≤ c.bits ∧ c.bits ≤ 4294967295
set_option maxRecDepth 100000 in
/-- A crash that came in. -/
theorem open_crash {base : Nat} {sp : Nat → Bool} {held : Bool} {r : Reach} {b0 : Nat} {v : Value} {d : DataW H} {ps : List MemPlace} (hval : Value.okWide Try.prog W r b0 41 v) (hd : DataW.Trod enc Try.prog W base sp held 41 v d ps) : ∃ c : Cr20, v = crV c ∧ CrD c d ∧ ps = [] ∧ CrBd c := by
  obtain ⟨cs, rfl, hs⟩ := okWide_struct Try.underlying41 hval
  obtain ⟨fuel, hfu⟩ := hd
  have hfl := crash_flds
  rw [Try.underlying41] at hfl
  obtain ⟨ys, n, hx, hl, hyl, hff⟩ := struct_flds Try.underlying41 hfl crash_cells hfu
  have hcs : (Value.agg cs).cells.toList = cs.toList := by simp [Value.cells]
  rw [hcs] at hl hff
  obtain ⟨cs⟩ := cs
  simp only at hl hff
  match cs, hl, ys, hyl with
  | [v0, v1, v2, v3, v4], _, [y0, y1, y2, y3, y4], _ =>
    obtain ⟨z0, e0, d0, w0⟩ := DataW.trod_int Try.underlying3 (hff 0 _ rfl)
    obtain ⟨z1, e1, d1, w1⟩ := DataW.trod_int Try.underlying3 (hff 1 _ rfl)
    obtain ⟨b2, e2, d2⟩ := DataW.trod_bool Try.underlying4 (hff 2 _ rfl)
    obtain ⟨z3, e3, d3, w3⟩ := DataW.trod_int Try.underlying3 (hff 3 _ rfl)
    obtain ⟨z4, e4, d4, w4⟩ := DataW.trod_int Try.underlying39 (hff 4 _ rfl)
    simp at e0 e1 e2 e3 e4
    subst e0 e1 e2 e3 e4 d0 d1 d2 d3 d4
    injection hx with hx1 hx2
    have h4 := bounds_u32 w4
    exact ⟨⟨z0, z1, b2, z3, z4⟩, rfl, hx1, hx2, bounds_i64 w0, bounds_i64 w1, bounds_i64 w3, h4.1, h4.2⟩
end
end Go.Proofs.Ytahndjgamoojkaa

/- What the rows of layer 20 share: what a reading's weight says of a disk's files. -/
namespace Go.Proofs.Ytahndjgamoojkaa
open Go.RowKit Go.WideShapes

theorem cells_str : Try.prog.cellsOf 9 = 1 := by kernel_rfl
section
variable {H : Type}
theorem file_bytes : Try.prog.bytesOf 47 = 32 := by kernel_rfl
theorem disk_weight {x : Dk20} {d : DataW H} (h : DkD x d) {ts : List TypeId} {ds : List (DataW H)} {j : Nat} (hz : (DataW.weightsEach Try.prog ts ds).all (· ≤ reachBytes) = true) (ht : ts[j]? = some 25) (hd : ds[j]? = some d) : x.files.length ≤ 4398046511104 := by
  obtain ⟨df, dl, rfl, hf, _⟩ := h
  rcases hf with ⟨_, h0⟩ | ⟨D, sp, rfl, _⟩
  · rw [h0]; simp
  · have hm := List.all_eq_true.1 hz (((List.range x.files.length).map D).length * Try.prog.bytesOf 47 + sp.length * Try.prog.bytesOf 47) (DataW.weights_mem_each ht hd _ (by
      simp only [DataW.weights, Try.underlying25]
      simp [DataW.weightsEach, DataW.weights, Try.underlying22, Nat.add_mul]))
    have hm2 : ((List.range x.files.length).map D).length * Try.prog.bytesOf 47 + sp.length * Try.prog.bytesOf 47 ≤ reachBytes := by simpa using hm
    rw [file_bytes, List.length_map, List.length_range] at hm2
    unfold reachBytes at hm2
    omega
theorem disk_parts {x : Dk20} {d : DataW H} (h : DkD x d) : x.files.length ≤ 9223372036854775807 ∧ x.loose.length ≤ 9223372036854775807 ∧ (∀ f ∈ x.files, f.1.length ≤ 9223372036854775807 ∧ f.2.length ≤ 9223372036854775807) ∧ (∀ o ∈ x.loose, o.name.length ≤ 9223372036854775807 ∧ o.to.length ≤ 9223372036854775807 ∧ o.data.length ≤ 9223372036854775807 ∧ -9223372036854775808 ≤ o.size ∧ o.size ≤ 9223372036854775807) := by
  obtain ⟨df, dl, rfl, hf, hl, _, h1, h2⟩ := h
  unfold maxLen at h1 h2
  refine ⟨by omega, by omega, fun f hm => ?_, fun o hm => ?_⟩
  · rcases hf with ⟨_, h0⟩ | ⟨D, sp, _, hD⟩
    · rw [h0] at hm; cases hm
    · obtain ⟨j, hj, rfl⟩ := List.mem_iff_getElem.1 hm
      obtain ⟨_, k1, k2⟩ := hD j hj
      unfold maxLen at k1 k2
      exact ⟨by omega, by omega⟩
  · rcases hl with ⟨_, h0⟩ | ⟨D, sp, _, hD⟩
    · rw [h0] at hm; cases hm
    · obtain ⟨j, hj, rfl⟩ := List.mem_iff_getElem.1 hm
      obtain ⟨_, _, k3, k4, k5, k6⟩ := hD j hj
      unfold maxLen at k4 k5 k6
      exact ⟨by omega, by omega, by omega, k3.1, k3.2⟩
end
end Go.Proofs.Ytahndjgamoojkaa

/- The law's great of layer 20. -/
namespace Go.Proofs.Ytahndjgamoojkaa
open Go.RowKit

def mF (f : Fl20) : Nat := min f.2.length 20000
def mO (o : Op20) : Nat := min o.data.length 20000 + 100
/-- The bytes that are looked at. -/
def great20 (L : List Fl20) (os : List Op20) (o : Op20) : Nat := min o.data.length 20000 + (L.map mF).sum + (os.map mO).sum
theorem sum_next {α : Type} (f : α → Nat) (l : List α) {k : Nat} (h : k < l.length) : ((l.take (k + 1)).map f).sum = ((l.take k).map f).sum + f (l[k]'h) := by
  rw [List.take_succ_eq_append_getElem h, List.map_append, List.sum_append]
  simp
theorem sum_part {α : Type} (f : α → Nat) (l : List α) (k : Nat) : ((l.take k).map f).sum ≤ (l.map f).sum := by
  have e : (l.map f).sum = ((l.take k).map f).sum + ((l.drop k).map f).sum := by rw [← List.sum_append, ← List.map_append, List.take_append_drop]
  omega
set_option maxHeartbeats 2000000 in
set_option maxRecDepth 100000 in
theorem great20_any (d : Dk20) (o : Op20) (val : Value) (w : World) (hd : DkV w val d) (hb1 : d.files.length ≤ 9223372036854775807) (hb2 : d.loose.length ≤ 9223372036854775807) (hb3 : ∀ f ∈ d.files, f.2.length ≤ 9223372036854775807) (hb4 : ∀ o ∈ d.loose, o.data.length ≤ 9223372036854775807) (hb5 : o.data.length ≤ 9223372036854775807) :
    Calls Try.prog 7 #[val, opV o] w fun e w' => e = .returned (.bool (decide (20000 < great20 d.files d.loose o))) ∧ Below w.heap.size w w' := by
  obtain ⟨fv, lv, rfl, hf, hl⟩ := hd
  obtain ⟨L, os, fuse, dn⟩ := d
  obtain ⟨kd, nm, tn, dt, sz⟩ := o
  simp only at hf hl hb1 hb2 hb3 hb4 hb5 ⊢
  obtain ⟨af, cf, rfl⟩ := hf.form
  obtain ⟨al, cl, rfl⟩ := hl.form
  unfold dkC opV opC strV great20
  simp only
  obtain ⟨m0, hm0⟩ : ∃ m0 : Nat, min dt.length 20000 = m0 := ⟨_, rfl⟩
  have hm0i : min (dt.length : Int) 20000 = (m0 : Int) := by omega
  have hm0b : m0 ≤ 20000 := by omega
  rw [hm0]
  obtain ⟨S1, hS1⟩ : ∃ S1, m0 + (L.map mF).sum = S1 := ⟨_, rfl⟩
  rw [hS1]
  obtain ⟨S2, hS2⟩ : ∃ S2, (os.map mO).sum = S2 := ⟨_, rfl⟩
  rw [hS2]
  replace hS2 := Lib.hid hS2
  obtain ⟨W, hW⟩ : ∃ W, (w.alloc (.cells [Value.slice af L.length cf, .slice al os.length cl, .int .i64 fuse, .bool dn].toArray 25)).alloc (.cells [.int .i64 kd, .string ⟨nm.toArray⟩, .string ⟨tn.toArray⟩, .string ⟨dt.toArray⟩, .int .i64 sz].toArray 27) = W := ⟨_, rfl⟩
  obtain ⟨a1, b1, c1⟩ := new_in (H := w.heap.size) 25 [Value.slice af L.length cf, .slice al os.length cl, .int .i64 fuse, .bool dn] (Below.refl _ w) (Nat.le_refl _)
  obtain ⟨a2, b2, c2⟩ := new_in (H := w.heap.size) 27 [Value.int .i64 kd, .string ⟨nm.toArray⟩, .string ⟨tn.toArray⟩, .string ⟨dt.toArray⟩, .int .i64 sz] b1 b1.size
  have e1 : (w.alloc (.cells [Value.slice af L.length cf, .slice al os.length cl, .int .i64 fuse, .bool dn].toArray 25)).heap.size = w.heap.size + 1 := by simp
  rw [e1] at a2
  have a3 := a1.next c2
  rw [hW] at a2 a3 b2
  obtain ⟨q0, q1, _, _⟩ := four_cells a3
  have r3 := a2.cell 3
  simp only [List.getElem?_cons_zero, List.getElem?_cons_succ] at r3
  have hfW := Lib.hid (hf.next b2)
  have hlW := Lib.hid (hl.next b2)
  replace b2 := Lib.hid b2
  replace hm0 := Lib.hid hm0
  replace hS1 := Lib.hid hS1
  clear a1 b1 c1 a2 a3 c2 e1 hf hl
  go_enter Try.func7, Try.ntmps7
  go_upto_block 0 with fail
  go_cut [5] from 12 to 32 (fun s5 wx => ∃ m : Nat, s5 = .int .i64 m ∧ m ≤ 40000 ∧ Hid ((20000 < m ∧ m ≤ S1) ∨ m = S1) ∧ Hid (wx = W))
  case first =>
    clear hW
    by_cases h0 : L = []
    · subst h0
      obtain ⟨a, c', e⟩ := hfW.out.nil rfl
      go_wp2_with fail
      refine wp_loop_rounds 1 ?_; rw [rounds_succ]
      go_wp2_with fail
      go_meet
      exact ⟨m0, rfl, by omega, Lib.hid (Or.inr (by rw [← hS1.out]; rfl)), Lib.hid rfl⟩
    · obtain ⟨b, off, cc, _, hblt, e, hc⟩ := hfW.out.some h0
      injection e with e1 e2 e3
      subst e1 e3
      replace hc := Lib.hid hc
      clear h0 e2
      go_wp2_with fail
      go_loop [5, 6] (fun s i => ∃ (k m : Nat), s = .int .i64 m ∧ i = .int .i64 k ∧ k ≤ L.length ∧ m ≤ 40000 ∧ Hid (m = m0 + ((L.take k).map mF).sum)) (fun _ i => L.length - (intOf i).toNat)
      case atStart => exact ⟨0, m0, rfl, rfl, Nat.zero_le _, by omega, Lib.hid (by simp)⟩
      case round =>
        obtain ⟨k, m, rfl, rfl, hk, hm, hsm⟩ := hrel
        have hpt := sum_part mF L k
        by_cases hlt : k < L.length
        · obtain ⟨c0, c1⟩ := hc.out k hlt
          have eg : L.getD k ([], []) = L[k]'hlt := by simp [List.getD, hlt]
          rw [eg] at c1
          have hkO : (k : Int) < L.length := by omega
          by_cases hm2 : (m : Int) ≤ 20000
          · have hmn := sum_next mF L hlt
            have hbd := hb3 _ (List.getElem_mem hlt)
            generalize L[k]'hlt = x at c1 hmn hbd
            obtain ⟨j, hj⟩ : ∃ j : Nat, min x.2.length 20000 = j := ⟨_, rfl⟩
            have hji : min (x.2.length : Int) 20000 = (j : Int) := by omega
            have hjb : j ≤ 20000 := by omega
            have hmn2 : Hid (m + j = m0 + ((L.take (k + 1)).map mF).sum) := Lib.hid (by rw [hmn, ← hj, hsm.out]; unfold mF; omega)
            unfold strV at c1
            clear c0 hj hmn eg
            go_wp2_with fail
            exact ⟨⟨k + 1, m + j, by go_num, by go_num, by omega, by omega, hmn2⟩, by simp [intOf]; omega⟩
          · have hS := Lib.hid (show 20000 < m ∧ m ≤ S1 by rw [← hS1.out, hsm.out]; rw [hsm.out] at hm2; omega)
            clear c0 c1 eg
            go_wp2_with fail
            go_meet
            exact ⟨m, rfl, hm, Lib.hid (Or.inl hS.out), Lib.hid rfl⟩
        · have hke : ¬ ((k : Int) < L.length) := by omega
          have hS := Lib.hid (show m = S1 by rw [← hS1.out, hsm.out, List.take_of_length_le (by omega)])
          go_wp2_with fail
          go_meet
          exact ⟨m, rfl, hm, Lib.hid (Or.inr hS.out), Lib.hid rfl⟩
  case rest =>
    obtain ⟨m, rfl, hm, hS, hwx⟩ := hcut
    have hwx2 := hwx.out
    subst hwx2
    clear hwx hW
    by_cases h0 : os = []
    · subst h0
      obtain ⟨a, c', e⟩ := hlW.out.nil rfl
      have hr : Hid (decide (20000 < S1 + S2) = decide ((20000 : Int) < m)) := by
        refine Lib.hid ?_
        rw [decide_eq_decide, ← hS2.out]
        simp only [List.map_nil, List.sum_nil]
        have := hS.out
        omega
      go_wp2_with fail
      refine wp_loop_rounds 1 ?_; rw [rounds_succ]
      go_wp2_with fail
      go_ret
      exact ⟨ret_bool hr.out.symm, b2.out⟩
    · obtain ⟨b, off, cc, _, hblt, e, hc⟩ := hlW.out.some opC_len (by decide) h0
      injection e with e1 e2 e3
      subst e1 e3
      replace hc := Lib.hid hc
      clear h0 e2
      go_wp2_with fail
      go_loop [5, 7] (fun s i => ∃ (k n : Nat), s = .int .i64 n ∧ i = .int .i64 k ∧ k ≤ os.length ∧ n ≤ 40200 ∧ Hid (n = m + ((os.take k).map mO).sum)) (fun _ i => os.length - (intOf i).toNat)
      case atStart => exact ⟨0, m, rfl, rfl, Nat.zero_le _, by omega, Lib.hid (by simp)⟩
      case round =>
        obtain ⟨k, n, rfl, rfl, hk, hn, hsm⟩ := hrel
        have hpt := sum_part mO os k
        rw [hS2.out] at hpt
        by_cases hlt : k < os.length
        · have c3 := hc.out k hlt 3 _ (by decide) rfl
          have hkO : (k : Int) < os.length := by omega
          by_cases hm2 : (n : Int) ≤ 20000
          · have hmn := sum_next mO os hlt
            have hbd := hb4 _ (List.getElem_mem hlt)
            generalize os[k]'hlt = x at c3 hmn hbd
            obtain ⟨j, hj⟩ : ∃ j : Nat, min x.data.length 20000 = j := ⟨_, rfl⟩
            have hji : min (x.data.length : Int) 20000 = (j : Int) := by omega
            have hjb : j ≤ 20000 := by omega
            have hmn2 : Hid (n + j + 100 = m + ((os.take (k + 1)).map mO).sum) := Lib.hid (by rw [hmn, ← hj, hsm.out]; unfold mO; omega)
            unfold strV at c3
            clear hj hmn
            go_wp2_with fail
            exact ⟨⟨k + 1, n + j + 100, by go_num, by go_num, by omega, by omega, hmn2⟩, by simp [intOf]; omega⟩
          · have hr : Hid (decide (20000 < S1 + S2) = true) := by
              refine Lib.hid ?_
              have h1 := hS.out
              have h2 := hsm.out
              rw [decide_eq_true_eq]
              omega
            clear c3
            go_wp2_with fail
            go_ret
            exact ⟨ret_bool hr.out.symm, b2.out⟩
        · have hke : ¬ ((k : Int) < os.length) := by omega
          have hr : Hid (decide (20000 < S1 + S2) = decide ((20000 : Int) < n)) := by
            refine Lib.hid ?_
            have h1 := hS.out
            have h2 := hsm.out
            rw [List.take_of_length_le (by omega), hS2.out] at h2
            rw [decide_eq_decide]
            omega
          go_wp2_with fail
          go_ret
          exact ⟨ret_bool hr.out.symm, b2.out⟩
end Go.Proofs.Ytahndjgamoojkaa
