/- Layer 14: cut. -/
import Derived.Test.YtkgjbamkinfmeaaGreatDoorBR25
namespace Go.Proofs.YtkgjbamkinfmeaaGreatDoor
open Go.RowKit

theorem cellsQ_zero (n : Nat) : cellsQ (List.replicate n (Value.slice none 0 0, (0 : Int))) = (List.range (n * 2)).map fun i => if i % 2 = 0 then Value.slice none 0 0 else Value.int .i64 0 := by
  refine List.ext_getElem (by rw [cellsQ_len]; simp) fun i h1 h2 => ?_
  have h1' := h1
  rw [cellsQ_len, List.length_replicate] at h1'
  have hat := cellsQ_at (List.replicate n (Value.slice none 0 0, (0 : Int))) (i / 2) (Value.slice none 0 0, 0) (by rw [List.getElem?_replicate, if_pos (by omega)])
  rw [List.getElem_map, List.getElem_range]
  rcases Nat.mod_two_eq_zero_or_one i with e | e
  · rw [if_pos e]
    have := hat.1
    rw [show i / 2 * 2 = i by omega, List.getElem?_eq_getElem h1] at this
    injection this
  · rw [if_neg (by omega)]
    have := hat.2
    rw [show i / 2 * 2 + 1 = i by omega, List.getElem?_eq_getElem h1] at this
    injection this
theorem run_make_pieces (x : Int) (n : Nat) (hx : x = n) (hn : n ≤ 1048576) (w : World) :
    (Instr.makeSlice 147 (.int .i64 x) (.int .i64 x)).run Tryz.prog w = .ok (.slice (some ⟨w.heap.size, 0, none⟩) n n) (w.alloc (.cells (cellsQ (List.replicate n (Value.slice none 0 0, (0 : Int)))).toArray 150)) := by
  subst hx
  have hi : (Tryz.prog.info? 150).map (fun i => (i.zero, i.size, i.bytes)) = some (some (.agg #[.slice none 0 0, .int .i64 0]), 2, 32) := by kernel_rfl
  obtain ⟨i0, hi, hz0, hz1, hz2⟩ := info_parts hi
  have hr := run_make (P := Tryz.prog) w 147 150 i0 _ Tryz.underlying147 hi hz0 .i64 .i64 n n (by omega) (by omega) (by rw [hz2]; omega) (by omega)
  rw [hz1, Int.toNat_natCast] at hr
  rw [hr]
  have e : (madeCells (Value.agg #[.slice none 0 0, .int .i64 0]).cells (n * 2)) = (cellsQ (List.replicate n (Value.slice none 0 0, (0 : Int)))).toArray := by
    rw [cellsQ_zero]
    apply Array.ext
    · rw [size_madeCells]; simp
    · intro i h1 h2
      have hm : ∀ j, j < 2 → (Value.agg #[.slice none 0 0, .int .i64 0]).cells[j]! = if j = 0 then Value.slice none 0 0 else .int .i64 0 := fun j hj => by
        match j, hj with
        | 0, _ => rfl
        | 1, _ => rfl
      have h3 := hm (i % 2) (Nat.mod_lt _ (by decide))
      have hs : (Value.agg #[.slice none 0 0, .int .i64 0]).cells.size = 2 := rfl
      simpa [madeCells, hs] using h3
  rw [e]

theorem near_step {l : List Nd} {S : List Int} {x s : Int} (h : Near l S x s) (hne : x ≠ s) : x ∉ S ∧ Near l S (upN l x) s := by
  cases h with
  | here => exact absurd rfl hne
  | up _ h1 h2 => exact ⟨h1, h2⟩
theorem pm_zero (B n : Nat) (w : World) (hB : B ≤ w.heap.size) : Pm B w.heap.size (List.replicate n (Value.slice none 0 0, (0 : Int))) (List.replicate n []) (w.alloc (.cells (cellsQ (List.replicate n (Value.slice none 0 0, (0 : Int)))).toArray 150)) := by
  refine ⟨by simp, arrAt_new w _ _, fun i p q hp hq => ?_, fun i j p q hp hq _ b e => ?_, hB, by simp; omega⟩
  · rw [List.getElem?_replicate] at hp hq
    split at hp
    · rename_i h
      rw [if_pos h] at hq
      injection hp with hp
      injection hq with hq
      subst hp hq
      exact ownN_nil _ _
    · cases hp
  · rw [List.getElem?_replicate] at hp
    split at hp
    · injection hp with hp
      subst hp
      cases e
    · cases hp
theorem QsT_zero (P : List (Nd × Value)) (S O : List Int) : QsT P S O 0 = List.replicate S.length [] := by
  unfold QsT
  refine List.ext_getElem (by simp) fun i h1 h2 => by simp [partN, ownL]
theorem itT_zero (S O : List Int) : itT S O 0 = List.replicate S.length 0 := by
  unfold itT
  refine List.ext_getElem (by simp) fun i h1 h2 => by simp
/-- What cut's loop keeps. -/
structure Cm (w0 : World) (P : List (Nd × Value)) (S O : List Int) (g1 g2 G t : Nat) (pcs : List (Value × Int)) (w : World) : Prop where
  pm : Pm w0.heap.size G pcs (QsT P S O t) w
  its : pcs.map Prod.snd = itT S O t
  own : ArrAt w g1 3 (intV O)
  pls : ArrAt w g2 3 (intV (plL O O.length))
  below : Below w0.heap.size w0 w
section
variable {w0 w w' w1 : World} {P : List (Nd × Value)} {S O : List Int} {g1 g2 G t : Nat} {pcs : List (Value × Int)}
theorem Cm.next (h : Hid (Cm w0 P S O g1 g2 G t pcs w)) (hb : Below w.heap.size w w') : Hid (Cm w0 P S O g1 g2 G t pcs w') :=
  ⟨h.out.pm.below hb, h.out.its, h.out.own.next hb, h.out.pls.next hb, h.out.below.trans (hb.mono h.out.below.size)⟩
theorem Cm.cellO (h : Cm w0 P S O g1 g2 G t pcs w) {j : Nat} (hj : j < O.length) : w.cell? ⟨g1, j, none⟩ = some (.int .i64 (O.getD j (-2))) := by rw [h.own.cell]; unfold intV; simp [List.getD, hj]
theorem Cm.cellP (h : Cm w0 P S O g1 g2 G t pcs w) {j : Nat} (hj : j < O.length) (hO : O.getD j (-2) ≠ -1) : w.cell? ⟨g2, j, none⟩ = some (.int .i64 (plN O j)) := by
  rw [h.pls.cell]; unfold intV
  rw [List.getElem?_map, plL_at hj, if_pos ⟨hj, hO⟩]; rfl
theorem Cm.skip (h : Hid (Cm w0 P S O g1 g2 G t pcs w)) (hO : OwS P S O) (e : O.getD t (-2) = -1) : Hid (Cm w0 P S O g1 g2 G (t + 1) pcs w) :=
  ⟨by rw [QsT_none e]; exact h.out.pm, by rw [itT_none hO e]; exact h.out.its, h.out.own, h.out.pls, h.out.below⟩
theorem Cm.ig (h : Cm w0 P S O g1 g2 G t pcs w) : g1 ≠ G ∧ g2 ≠ G := ⟨arr_apart h.own h.pm.row (Ne.symm t_pi), arr_apart h.pls h.pm.row (Ne.symm t_pi)⟩
/-- The rows that the loop only reads. -/
structure Cw (w0 : World) (O : List Int) (g1 g2 G : Nat) (w : World) : Prop where
  own : ArrAt w g1 3 (intV O)
  pls : ArrAt w g2 3 (intV (plL O O.length))
  below : Below w0.heap.size w0 w
  i1 : g1 ≠ G
  i2 : g2 ≠ G
  low : w0.heap.size ≤ G
theorem Cm.rows (h : Cm w0 P S O g1 g2 G t pcs w) : Cw w0 O g1 g2 G w := ⟨h.own, h.pls, h.below, h.ig.1, h.ig.2, h.pm.low⟩
theorem Cw.next (h : Cw w0 O g1 g2 G w) (hb : Below w.heap.size w w') : Cw w0 O g1 g2 G w' := ⟨h.own.next hb, h.pls.next hb, h.below.trans (hb.mono h.below.size), h.i1, h.i2, h.low⟩
theorem Cw.setG (h : Cw w0 O g1 g2 G w) (i : Nat) (v : Value) : Cw w0 O g1 g2 G (w.setCell ⟨G, i, none⟩ v) :=
  ⟨h.own.turned (turned_setCell w ⟨G, i, none⟩ v) h.i1, h.pls.turned (turned_setCell w ⟨G, i, none⟩ v) h.i2, h.below.setCell (p := ⟨G, i, none⟩) h.low _, h.i1, h.i2, h.low⟩
/-- A node more in the part k; pcs2 is pcs, or has the item's place set. -/
theorem Cm.put {pcs2 : List (Value × Int)} {k : Nat} {p : Value × Int} {v1 : Value} {y : Nd × Value} (h : Cw w0 O g1 g2 G w) (hpm : Pm w0.heap.size G pcs2 (QsT P S O t) w) (hits : pcs2.map Prod.snd = itT S O (t + 1)) (hO : O.getD t (-2) = (k : Int)) (hk : k < S.length) (hp : pcs2[k]? = some p)
    (hy : y = (pcNd (nodes P) O (S.getD k 0).toNat t, (P.getD t (nd0, undef)).2)) (ho : w1.ownsRow w0.heap.size 56 4 v1 ((partN P S O k t).length + 1) (cellsN (partN P S O k t) ++ ndV y)) (hg : w.grownBy w1 p.1.ownBlock)
    (hw : v1.ownBlock = p.1.ownBlock ∨ ∃ b, v1.ownBlock = some b ∧ w.heap.size ≤ b) : Hid (Cm w0 P S O g1 g2 G (t + 1) (pcs2.set k (v1, p.2)) (w1.setCell ⟨G, k * 2, none⟩ v1)) := by
  subst hy
  have hq := QsT_at (P := P) (O := O) (t := t) hk
  have hput := hpm.put hp hq ho hg hw
  have hown := hpm.ins k p _ hp hq
  have hT := Turned.of_grown (S := fun b => p.1.ownBlock = some b) hg fun _ e => e
  refine ⟨by rw [QsT_some hO]; exact hput.1, ?_, ?_, ?_, h.below.trans (hput.2)⟩
  · rw [List.map_set, hits]
    have hl : (itT S O (t + 1))[k]? = some p.2 := by rw [← hits, List.getElem?_map, hp]; rfl
    refine List.ext_getElem? fun j => ?_
    rw [List.getElem?_set]
    by_cases e : k = j
    · subst e; rw [if_pos rfl, hl, if_pos (List.getElem?_eq_some_iff.1 hl).1]
    · rw [if_neg e]
  · exact (h.own.turned hT (own_ne_arr hown h.own t_ni)).turned (turned_setCell w1 ⟨G, k * 2, none⟩ v1) h.i1
  · exact (h.pls.turned hT (own_ne_arr hown h.pls t_ni)).turned (turned_setCell w1 ⟨G, k * 2, none⟩ v1) h.i2
end
/-- What cut comes to. -/
def CutPost (P : List (Nd × Value)) (S : List Int) (w : World) (e : Ending) (w' : World) : Prop :=
  ∃ g pcs, e = .returned (.slice (some ⟨g, 0, none⟩) S.length S.length) ∧ Hid (ArrAt w' g 150 (cellsQ pcs)) ∧ Hid (pcs.length = S.length) ∧
    Hid (∀ i p, pcs[i]? = some p → ∃ Q : List (Nd × Value), NdSl w' p.1 Q ∧ Q.length ≤ P.length ∧ sumT (nodes Q) ≤ sumT (nodes P) ∧ Told (nodes Q) p.2 (nodes P) (S.getD i 0)) ∧ Hid (Below w.heap.size w w')
/-- The parts tell what the whole list tells. -/
theorem Cm.tells {w0 w : World} {P : List (Nd × Value)} {S O : List Int} {g1 g2 G : Nat} {c : Int} {pcs : List (Value × Int)} (h : Cm w0 P S O g1 g2 G P.length pcs w) (hOw : Own (nodes P) S O) (hn : S.Nodup) (hS : ∀ x ∈ S, placeB (nodes P) x = true ∧ upN (nodes P) x = c ∧ x ≠ c) (W : World) (hW : ∀ (x : Value) (q : List (Nd × Value)), OwnN w w0.heap.size x q → OwnN W w0.heap.size x q) (hA : ∀ p ∈ P, AtSl W p.2 p.1.attrs)
    (i : Nat) (p : Value × Int) (hp : pcs[i]? = some p) (hno : ¬ Near (nodes P) S c (S.getD i 0)) :
    ∃ Q : List (Nd × Value), NdSl W p.1 Q ∧ Q.length ≤ P.length ∧ sumT (nodes Q) ≤ sumT (nodes P) ∧ Told (nodes Q) p.2 (nodes P) (S.getD i 0) := by
  have hi : i < S.length := by have := (List.getElem?_eq_some_iff.1 hp).1; have := h.pm.len; rw [QsT_len] at this; omega
  have hq := QsT_at (P := P) (O := O) (t := P.length) hi
  have hown := hW _ _ (h.pm.ins i p _ hp hq)
  have hm := mem_getD hi
  have hpl := place_iff.1 (hS _ hm).1
  rw [nodes_len] at hpl
  have es : S.getD i 0 = ((S.getD i 0).toNat : Int) := by omega
  have hok : PcOk (nodes P) S O c i (S.getD i 0).toNat := ⟨hOw, hn, hi, es, hS, by rw [← es]; exact hno⟩
  have hit : p.2 = (plN O (S.getD i 0).toNat : Int) := by
    have h1 : (pcs.map Prod.snd)[i]? = some p.2 := by rw [List.getElem?_map, hp]; rfl
    rw [h.its, itT_at hi] at h1
    injection h1 with h1
    rw [if_pos (by omega)] at h1
    exact h1.symm
  refine ⟨partN P S O i P.length, hown.sl fun x hx => ?_, ?_, ?_, ?_⟩
  · unfold partN at hx
    obtain ⟨j, hj, rfl⟩ := List.mem_map.1 hx
    have hjP := (ownL_mem.1 hj).1
    have e1 : P.getD j (nd0, undef) = P[j] := by simp [List.getD, hjP]
    have e2 : atN (nodes P) (j : Int) = (P[j]).1 := (nodes_at hjP).symm
    show AtSl W (P.getD j (nd0, undef)).2 (atN (nodes P) (j : Int)).attrs
    rw [e1, e2]
    exact hA _ (List.getElem_mem hjP)
  · unfold partN
    rw [List.length_map]
    exact ownL_len _ _ _
  · rw [part_nodes]
    have := piece_sum (nodes P) O (i : Int) (S.getD i 0).toNat
    rw [nodes_len] at this
    exact this
  · rw [part_nodes, hit]
    have := hok.told
    rw [nodes_len] at this
    rw [es]
    exact this

set_option maxRecDepth 100000 in
set_option maxHeartbeats 8000000 in
theorem cut14_any (P : List (Nd × Value)) (v u : Value) (c : Nat) (S : List Int) (w : World) (h : NdSl w v P) (hu : RdSl .i64 w u S) (h0 : 0 < P.length) (hn : P.length ≤ 1000000) (hc : c < P.length) (hS : ∀ x ∈ S, placeB (nodes P) x = true ∧ upN (nodes P) x = (c : Int) ∧ x ≠ (c : Int)) (hSn : S.Nodup) (hSl : S.length ≤ 1000000) (hS0 : 0 < S.length) :
    Calls Tryz.prog 88 #[v, .int .i64 c, u] w (CutPost P S w) := by
  have hnl := nodes_len P
  obtain ⟨b, off, cap, hcap, hbl, rfl, hcl⟩ := h.some h0
  have hat := fun W (hb : Below w.heap.size w W) => (h.next hb).2
  have hown := owners14_any P _ u S w h hu h0 hn (fun x hx => (hS x hx).1) hSl
  obtain ⟨ua, uc, hue⟩ : ∃ ua uc, u = .slice ua S.length uc := by
    rcases hu.sl with ⟨rfl, a, c, rfl⟩ | ⟨b, off, c, rfl, _⟩
    · exact ⟨a, c, rfl⟩
    · exact ⟨_, c, rfl⟩
  have hcells : ∀ W, Below w.heap.size w W → ∀ j, j < S.length → ∃ ub uo, ua = some ⟨ub, uo, none⟩ ∧ W.cell? ⟨ub, uo + j, none⟩ = some (.int .i64 (S.getD j 0)) := fun W hb j hj => by
    rcases (hu.next hb).sl with ⟨rfl, _⟩ | ⟨ub, uo, c, e, hc⟩
    · simp at hj
    · rw [hue] at e
      injection e with e1 e2 e3
      exact ⟨ub, uo, e1, hc j hj⟩
  clear hu
  subst hue
  have hNd := fun W (hb : Below w.heap.size w W) => h.next hb
  have hmk := run_make_pieces (S.length : Int) S.length rfl (by omega)
  have hz1 : ((S.length : Int) == 0) = false := by rw [beq_eq_false_iff_ne]; omega
  have hz2 : (S.length == 0) = false := by rw [beq_eq_false_iff_ne]; omega
  have hz3 : (0 : Int) < S.length := by omega
  replace h := Lib.hid h
  replace hcl := Lib.hid hcl
  replace hnl := Lib.hid hnl
  replace hcells := Lib.hid hcells
  replace hS := Lib.hid hS
  replace hown := Lib.hid hown
  replace hat := Lib.hid hat
  replace hNd := Lib.hid hNd
  replace hSn := Lib.hid hSn
  go_enter Tryz.func88, Tryz.ntmps88
  go_wp2_with fail
  refine hown.out.mono ?_
  rintro e w1 ⟨g1, O, rfl, hM1, hO1⟩
  have hOS := Lib.hid (hO1.out.ows hSn.out fun x hx => (hS.out x hx).1)
  have hOl : Hid (O.length = P.length) := hOS.out.len
  have hin := inner14_any g1 O S.length w1 hM1.out.row (by rw [hOl.out]; omega) hSl (fun j hj => hOS.out.val j (by rw [← hOl.out]; exact hj))
  rw [hOl.out] at hin
  replace hin := Lib.hid hin
  clear hown
  go_wp2_with fail
  refine hin.out.mono ?_
  rintro e w2 ⟨rfl, hA2, hb2⟩
  obtain ⟨g2, hg2⟩ : ∃ g2, w1.heap.size = g2 := ⟨_, rfl⟩
  rw [hg2] at hA2
  rw [hg2]
  have hb12 := Lib.hid (hM1.out.below.trans (hb2.out.mono hM1.out.below.size))
  have hO2 := Lib.hid (hM1.out.row.next hb2.out)
  clear hin hM1 hb2
  replace hg2 := Lib.hid hg2
  have hpm := pm_zero w.heap.size S.length w2 hb12.out.size
  have hball : Below w2.heap.size w2 (w2.alloc (.cells (cellsQ (List.replicate S.length (Value.slice none 0 0, (0 : Int)))).toArray 150)) := (Below.refl _ _).alloc (Nat.le_refl _) _
  have hC0 : Hid (Cm w P S O g1 g2 w2.heap.size 0 (List.replicate S.length (Value.slice none 0 0, (0 : Int))) (w2.alloc (.cells (cellsQ (List.replicate S.length (Value.slice none 0 0, (0 : Int)))).toArray 150))) :=
    ⟨by rw [QsT_zero]; exact hpm, by rw [itT_zero, List.map_replicate], hO2.out.next hball, by rw [hOl.out]; exact hA2.out.next hball, hb12.out.trans (hball.mono hb12.out.size)⟩
  clear hpm hball
  go_wp2_with fail
  obtain ⟨G, hG⟩ : ∃ G, w2.heap.size = G := ⟨_, rfl⟩
  rw [hG] at hC0
  rw [hG]
  clear hmk
  generalize w2.alloc (.cells (cellsQ (List.replicate S.length (Value.slice none 0 0, (0 : Int)))).toArray 150) = w3 at hC0 ⊢
  replace hG := Lib.hid hG
  clear hA2 hO2
  go_loopw [29] (fun ii wr => ∃ (t : Nat) (pcs : List (Value × Int)), ii = .int .i64 t ∧ t ≤ P.length ∧ Hid (Cm w P S O g1 g2 G t pcs wr)) (fun ii _ => P.length - (intOf ii).toNat)
  case atStart => exact ⟨0, _, rfl, Nat.zero_le _, hC0⟩
  case round =>
    clear hC0
    obtain ⟨t, pcs, rfl, ht, hC⟩ := hrel
    by_cases hlt : t < P.length
    · have hlt1 : (t : Int) < P.length := by omega
      obtain ⟨d0, d1, d2, d3⟩ := (hcl.out t hlt).next hC.out.below
      have hav := hat.out wr hC.out.below _ (List.getElem_mem hlt)
      have eP : P.getD t (nd0, undef) = P[t] := by simp [List.getD, hlt]
      have eN : atN (nodes P) (t : Int) = (P[t]).1 := (nodes_at hlt).symm
      obtain ⟨x, hx⟩ : ∃ x, P[t] = x := ⟨_, rfl⟩
      rw [hx] at d0 d1 d2 d3 hav eP eN
      replace hx := Lib.hid hx
      obtain ⟨xn, av⟩ := x
      simp only at d0 d1 d2 d3 hav eP eN
      obtain ⟨aa, ac, rfl⟩ := hav.form
      generalize hal : xn.attrs.length = al at *
      have hup : upN (nodes P) (t : Int) = xn.up := by unfold upN; rw [eN]
      generalize xn.up = xu at *
      unfold strV at d0 d2
      have hbx : Below wr.heap.size wr (wr.alloc (.cells #[.string ⟨xn.name.toArray⟩, .slice aa al ac, .string ⟨xn.text.toArray⟩, .int .i64 xu] 56)) := (Below.refl _ _).alloc (Nat.le_refl _) _
      have hC1 := Cm.next hC hbx
      have hbox := arrAt_new wr 56 [.string ⟨xn.name.toArray⟩, .slice aa al ac, .string ⟨xn.text.toArray⟩, .int .i64 xu]
      have o1 := hC1.out.cellO (j := t) (by rw [hOl.out]; exact hlt)
      replace hav := Lib.hid hav
      replace hal := Lib.hid hal
      replace eP := Lib.hid eP
      replace eN := Lib.hid eN
      replace hup := Lib.hid hup
      replace hbox := Lib.hid hbox
      replace hbx := Lib.hid hbx
      rcases hOS.out.val t hlt with e | ⟨k, hk, e⟩
      · rw [e] at o1
        have hsk := Cm.skip hC1 hOS.out e
        replace e := Lib.hid e
        go_wp2_with fail
        exact ⟨⟨t + 1, pcs, by go_num, by omega, hsk⟩, by simp [intOf]; omega⟩
      · rw [e] at o1
        have hk1 : (k : Int) < S.length := by omega
        have hkm : ((k : Int) == -1) = false := by rw [beq_eq_false_iff_ne]; omega
        obtain ⟨ub, uo, hua, i0⟩ := hcells.out _ hC1.out.below k hk
        by_cases hs : S.getD k 0 = (t : Int)
        · have hb2 : Below wr.heap.size wr (wr.alloc (.cells #[.string ⟨xn.name.toArray⟩, .slice aa al ac, .string ⟨xn.text.toArray⟩, .int .i64 (-1)] 56)) := (Below.refl _ _).alloc (Nat.le_refl _) _
          have hC2 := Cm.next hC hb2
          have p1 := hC2.out.cellP (j := t) (by rw [hOl.out]; exact hlt) (by omega)
          obtain ⟨pk, hpk, _, g1', _⟩ := hC2.out.pm.get (QsT_at (P := P) (O := O) (t := t) hk)
          have g2' := hC2.out.pm.row.soft (k * 2 + 1)
          have hXG : wr.heap.size ≠ G := by have := hC.out.pm.row.lt; omega
          have hpm2 := hC2.out.pm.item hpk (plN O t : Int)
          have hCw := hC2.out.rows.setG (k * 2 + 1) (.int .i64 (plN O t : Int))
          have hbx3 := (arrAt_new wr 56 [.string ⟨xn.name.toArray⟩, .slice aa al ac, .string ⟨xn.text.toArray⟩, .int .i64 (-1)]).turned (turned_setCell _ ⟨G, k * 2 + 1, none⟩ (.int .i64 (plN O t : Int))) hXG
          have hits2 : Hid ((pcs.set k (pk.1, (plN O t : Int))).map Prod.snd = itT S O (t + 1)) := by
            show _ = _
            rw [List.map_set, hC.out.its, itT_item hOS.out hk hs]
          have hyy : Hid (({ xn with up := -1 } : Nd) = pcNd (nodes P) O (S.getD k 0).toNat t) := by
            show _ = _
            unfold pcNd
            rw [eN.out, hs, if_pos (by simp)]
          have hst1 : ((t : Int) == (t : Int)) = true := by rw [beq_iff_eq]
          rw [hs] at i0
          replace e := Lib.hid e
          replace hs := Lib.hid hs
          replace hpk := Lib.hid hpk
          replace hb2 := Lib.hid hb2
          replace hXG := Lib.hid hXG
          subst hua
          obtain ⟨qn, hqn⟩ : ∃ qn, plN O t = qn := ⟨_, rfl⟩
          rw [hqn] at p1 hpm2 hCw hbx3 hits2
          replace hqn := Lib.hid hqn

          obtain ⟨WW, hWW⟩ : ∃ WW : World, ((wr.alloc (.cells #[.string ⟨xn.name.toArray⟩, .slice aa al ac, .string ⟨xn.text.toArray⟩, .int .i64 (-1)] 56)).setCell ⟨G, k * 2 + 1, none⟩ (.int .i64 (qn : Int))) = WW := ⟨_, rfl⟩
          rw [hWW] at hCw hpm2 hbx3
          have hdr := (drawn_drew WW).below WW.heap.size
          have hCwD := Lib.hid (hCw.next hdr)
          have hpmD := Lib.hid (hpm2.below hdr)
          obtain ⟨p, hp, q0, _, hownp⟩ := hpmD.out.get (QsT_at (P := P) (O := O) (t := t) hk)
          have q1 := hpm2.row.soft (k * 2)
          obtain ⟨pv, pz⟩ := p
          simp only at q0 hownp
          obtain ⟨pa, pc, hpv⟩ := own_form hownp
          have q0w : WW.cell? ⟨G, k * 2, none⟩ = some pv := q0
          have q0y := (World.cell?_alloc_lt WW (.cells #[.string ⟨xn.name.toArray⟩, .slice aa al ac, .string ⟨xn.text.toArray⟩, .int .i64 (-1)] 56) ⟨G, k * 2, none⟩ hpm2.row.lt).trans q0w
          have hGW := hpm2.row.lt
          have hbse : w.heap.size ≤ WW.heap.size := hCw.below.size
          have hplen : (partN P S O k t).length ≤ t := by unfold partN; rw [List.length_map]; exact ownL_len _ _ _
          have x0 := hbx3.cell 0
          have x1 := hbx3.cell 1
          have x2 := hbx3.cell 2
          have x3 := hbx3.cell 3
          rw [hpv] at q0w q0y
          replace hownp := Lib.hid hownp
          replace hpv := Lib.hid hpv
          replace hp := Lib.hid hp
          replace hCw := Lib.hid hCw
          replace hpm2 := Lib.hid hpm2
          replace hbx3 := Lib.hid hbx3
          replace hdr := Lib.hid hdr
          clear q0
          go_wp2_with fail
          try simp only [hWW]
          replace hWW := Lib.hid hWW
          go_region_law (refine step_append1 rfl (.tmp 67) (.tmp 69) 51 56 rfl Tryz.underlying51 (.agg #[.string ⟨#[]⟩, .slice none 0 0, .string ⟨#[]⟩, .int .i64 0]) 4 64 info_node rfl (by decide) (by decide) w.heap.size _ (partN P S O k t).length (cellsN (partN P S O k t)) [.string ⟨xn.name.toArray⟩, .slice aa al ac, .string ⟨xn.text.toArray⟩, .int .i64 (-1)] rfl hownp.out (by simp [Act.eval, hpv.out]) (by simp [Act.eval]) (by intro u hu; simp at hu; rcases hu with rfl | rfl | rfl | rfl <;> rfl) (by omega) (by simpa using hbse) ?_; intro v1 w1 hown1 hgr1 hwh1; obtain ⟨a1, e1, rfl⟩ := own_form hown1.out; have r1 := hpmD.out.row.turned (Turned.of_grown (S := fun b => pv.ownBlock = some b) hgr1.out fun _ e => e) (own_ne_arr hownp.out hpmD.out.row t_np); have c5' := (r1.cell (k * 2)).trans (cellsQ_at _ k _ hp.out).1; have f5' := r1.soft (k * 2); replace r1 := Lib.hid r1)
          all_goals
            have hfin := Cm.put hCwD.out hpmD.out hits2.out e.out hk hp.out (y := ({ xn with up := -1 }, .slice aa al ac)) (by rw [eP.out]; exact congrArg (fun z => (z, _)) hyy.out) hown1.out hgr1.out hwh1.out
            clear c5'
            go_wp2_with fail
            exact ⟨⟨t + 1, _, by go_num, by omega, hfin⟩, by simp [intOf]; omega⟩
        · have hnr := (hO1.out.iff hSn.out hk (j := t) (by rw [hnl.out]; exact hlt)).1 e
          obtain ⟨hnS, hnu⟩ := near_step hnr (fun e => hs e.symm)
          rw [hup.out] at hnu
          have hupl := place_iff.1 hnu.place
          rw [hnl.out] at hupl
          obtain ⟨un, hun⟩ : ∃ un : Nat, xu = (un : Int) := ⟨xu.toNat, by omega⟩
          subst hun
          have hunP : un < P.length := by omega
          have hou := (hO1.out.iff hSn.out hk (j := un) (by rw [hnl.out]; exact hunP)).2 hnu
          have hyy : Hid (({ xn with up := (plN O un : Int) } : Nd) = pcNd (nodes P) O (S.getD k 0).toNat t) := by
            show _ = _
            have hsk := hOS.out.self k hk
            unfold pcNd
            rw [eN.out, hup.out, if_neg (by omega)]
            rfl
          have hb2 : Below wr.heap.size wr (wr.alloc (.cells #[.string ⟨xn.name.toArray⟩, .slice aa al ac, .string ⟨xn.text.toArray⟩, .int .i64 (plN O un : Int)] 56)) := (Below.refl _ _).alloc (Nat.le_refl _) _
          have hC2 := Cm.next hC hb2
          have p1 := hC1.out.cellP (j := un) (by rw [hOl.out]; exact hunP) (by omega)
          have hpm2 := hC2.out.pm
          have hCw := hC2.out.rows
          have hbx3 := arrAt_new wr 56 [.string ⟨xn.name.toArray⟩, .slice aa al ac, .string ⟨xn.text.toArray⟩, .int .i64 (plN O un : Int)]
          have hits2 : Hid (pcs.map Prod.snd = itT S O (t + 1)) := by
            show _ = _
            rw [itT_other hOS.out e hs]; exact hC.out.its
          have hst1 : ((t : Int) == S.getD k 0) = false := by rw [beq_eq_false_iff_ne]; exact fun e => hs e.symm
          have hun1 : (un : Int) < P.length := by omega
          have bx3 := hbox.out.cell 3
          have bx3s := hbox.out.soft 3
          clear hnr
          replace hnu := Lib.hid hnu
          replace hnS := Lib.hid hnS
          replace hupl := Lib.hid hupl
          replace hou := Lib.hid hou
          replace hb2 := Lib.hid hb2
          replace e := Lib.hid e
          replace hs := Lib.hid hs
          subst hua
          generalize S.getD k 0 = sk at i0 hst1
          obtain ⟨qn, hqn⟩ : ∃ qn, plN O un = qn := ⟨_, rfl⟩
          rw [hqn] at p1 hpm2 hCw hbx3 hyy
          replace hqn := Lib.hid hqn

          obtain ⟨WW, hWW⟩ : ∃ WW : World, (wr.alloc (.cells #[.string ⟨xn.name.toArray⟩, .slice aa al ac, .string ⟨xn.text.toArray⟩, .int .i64 (qn : Int)] 56)) = WW := ⟨_, rfl⟩
          rw [hWW] at hCw hpm2 hbx3
          have hdr := (drawn_drew WW).below WW.heap.size
          have hCwD := Lib.hid (hCw.next hdr)
          have hpmD := Lib.hid (hpm2.below hdr)
          obtain ⟨p, hp, q0, _, hownp⟩ := hpmD.out.get (QsT_at (P := P) (O := O) (t := t) hk)
          have q1 := hpm2.row.soft (k * 2)
          obtain ⟨pv, pz⟩ := p
          simp only at q0 hownp
          obtain ⟨pa, pc, hpv⟩ := own_form hownp
          have q0w : WW.cell? ⟨G, k * 2, none⟩ = some pv := q0
          have q0y := (World.cell?_alloc_lt WW (.cells #[.string ⟨xn.name.toArray⟩, .slice aa al ac, .string ⟨xn.text.toArray⟩, .int .i64 (qn : Int)] 56) ⟨G, k * 2, none⟩ hpm2.row.lt).trans q0w
          have hGW := hpm2.row.lt
          have hbse : w.heap.size ≤ WW.heap.size := hCw.below.size
          have hplen : (partN P S O k t).length ≤ t := by unfold partN; rw [List.length_map]; exact ownL_len _ _ _
          have x0 := hbx3.cell 0
          have x1 := hbx3.cell 1
          have x2 := hbx3.cell 2
          have x3 := hbx3.cell 3
          rw [hpv] at q0w q0y
          replace hownp := Lib.hid hownp
          replace hpv := Lib.hid hpv
          replace hp := Lib.hid hp
          replace hCw := Lib.hid hCw
          replace hpm2 := Lib.hid hpm2
          replace hbx3 := Lib.hid hbx3
          replace hdr := Lib.hid hdr
          clear q0
          go_wp2_with fail
          try simp only [hWW]
          replace hWW := Lib.hid hWW
          go_region_law (refine step_append1 rfl (.tmp 67) (.tmp 69) 51 56 rfl Tryz.underlying51 (.agg #[.string ⟨#[]⟩, .slice none 0 0, .string ⟨#[]⟩, .int .i64 0]) 4 64 info_node rfl (by decide) (by decide) w.heap.size _ (partN P S O k t).length (cellsN (partN P S O k t)) [.string ⟨xn.name.toArray⟩, .slice aa al ac, .string ⟨xn.text.toArray⟩, .int .i64 (qn : Int)] rfl hownp.out (by simp [Act.eval, hpv.out]) (by simp [Act.eval]) (by intro u hu; simp at hu; rcases hu with rfl | rfl | rfl | rfl <;> rfl) (by omega) (by simpa using hbse) ?_; intro v1 w1 hown1 hgr1 hwh1; obtain ⟨a1, e1, rfl⟩ := own_form hown1.out; have r1 := hpmD.out.row.turned (Turned.of_grown (S := fun b => pv.ownBlock = some b) hgr1.out fun _ e => e) (own_ne_arr hownp.out hpmD.out.row t_np); have c5' := (r1.cell (k * 2)).trans (cellsQ_at _ k _ hp.out).1; have f5' := r1.soft (k * 2); replace r1 := Lib.hid r1)
          all_goals
            have hfin := Cm.put hCwD.out hpmD.out hits2.out e.out hk hp.out (y := ({ xn with up := (qn : Int) }, .slice aa al ac)) (by rw [eP.out]; exact congrArg (fun z => (z, _)) hyy.out) hown1.out hgr1.out hwh1.out
            clear c5'
            go_wp2_with fail
            exact ⟨⟨t + 1, _, by go_num, by omega, hfin⟩, by simp [intOf]; omega⟩
    · have hlt1 : ¬ ((t : Int) < P.length) := by omega
      have hte : t = P.length := by omega
      have hCe : Hid (Cm w P S O g1 g2 G P.length pcs wr) := by rw [← hte]; exact hC
      replace hte := Lib.hid hte
      have hc1 : (c : Int) < P.length := by omega
      have o1 := hC.out.cellO (j := c) (by rw [hOl.out]; exact hc)
      have hpl : pcs.length = S.length := by have := hC.out.pm.len; rw [QsT_len] at this; exact this
      clear hC
      rcases hO1.out.ok c (by rw [hnl.out]; exact hc) with ⟨e, hno⟩ | ⟨k, hk, e, hnr⟩
      · rw [e] at o1
        replace e := Lib.hid e
        replace hno := Lib.hid hno
        replace hpl := Lib.hid hpl
        go_wp2_with fail
        go_ret
        exact ⟨G, pcs, rfl, hCe.out.pm.row, hpl, fun i p hp => hCe.out.tells hO1.out hSn.out hS.out wr (fun _ _ h => h) (hat.out wr hCe.out.below) i p hp (hno.out _), hCe.out.below⟩
      · rw [e] at o1
        have hk1 : (k : Int) < S.length := by omega
        have hkm : ((k : Int) == -1) = false := by rw [beq_eq_false_iff_ne]; omega
        obtain ⟨ub, uo, hua, i0⟩ := hcells.out _ hCe.out.below k hk
        subst hua
        obtain ⟨pk, hpk, y0, y1, _⟩ := hCe.out.pm.get (QsT_at (P := P) (O := O) (t := P.length) hk)
        have y0f := hCe.out.pm.row.soft (k * 2)
        have y1f := hCe.out.pm.row.soft (k * 2 + 1)
        have hrow : Hid (ArrAt ((wr.setCell ⟨G, k * 2, none⟩ (.slice (some ⟨b, off, none⟩) P.length cap)).setCell ⟨G, k * 2 + 1, none⟩ (.int .i64 (S.getD k 0))) G 150 (cellsQ (pcs.set k (.slice (some ⟨b, off, none⟩) P.length cap, S.getD k 0)))) := by
          have h1 := (hCe.out.pm.row.set (k * 2) (.slice (some ⟨b, off, none⟩) P.length cap)).set (k * 2 + 1) (.int .i64 (S.getD k 0))
          rw [cellsQ_set0 _ _ _ _ hpk, cellsQ_set1 _ k (.slice (some ⟨b, off, none⟩) P.length cap, pk.2) _ (by rw [List.getElem?_set_self (by omega)]), List.set_set] at h1
          exact h1
        have hbf : Hid (Below w.heap.size w ((wr.setCell ⟨G, k * 2, none⟩ (.slice (some ⟨b, off, none⟩) P.length cap)).setCell ⟨G, k * 2 + 1, none⟩ (.int .i64 (S.getD k 0)))) :=
          (hCe.out.below.setCell (p := ⟨G, k * 2, none⟩) hCe.out.pm.low _).setCell (p := ⟨G, k * 2 + 1, none⟩) hCe.out.pm.low _
        have hkeep : Hid (∀ (x : Value) (q : List (Nd × Value)), OwnN wr w.heap.size x q → OwnN ((wr.setCell ⟨G, k * 2, none⟩ (.slice (some ⟨b, off, none⟩) P.length cap)).setCell ⟨G, k * 2 + 1, none⟩ (.int .i64 (S.getD k 0))) w.heap.size x q) := fun x q h1 => by
          have hne := own_ne_arr h1 hCe.out.pm.row t_np
          have h2 : OwnN _ w.heap.size x q := ownsRow_turned h1 (turned_setCell wr ⟨G, k * 2, none⟩ (.slice (some ⟨b, off, none⟩) P.length cap)) fun g hb e => hne (by rw [hb]; exact congrArg some e)
          exact ownsRow_turned h2 (turned_setCell _ ⟨G, k * 2 + 1, none⟩ (.int .i64 (S.getD k 0))) fun g hb e => hne (by rw [hb]; exact congrArg some e)
        have hfin : Hid (∀ i p, (pcs.set k (Value.slice (some ⟨b, off, none⟩) P.length cap, S.getD k 0))[i]? = some p → ∃ Q : List (Nd × Value), NdSl ((wr.setCell ⟨G, k * 2, none⟩ (.slice (some ⟨b, off, none⟩) P.length cap)).setCell ⟨G, k * 2 + 1, none⟩ (.int .i64 (S.getD k 0))) p.1 Q ∧ Q.length ≤ P.length ∧ sumT (nodes Q) ≤ sumT (nodes P) ∧ Told (nodes Q) p.2 (nodes P) (S.getD i 0)) := fun i p hp => by
          by_cases hik : k = i
          · subst hik
            rw [List.getElem?_set_self (by omega)] at hp
            injection hp with hp
            subst hp
            exact ⟨P, hNd.out _ hbf.out, Nat.le_refl _, Nat.le_refl _, Told.same _ _⟩
          · rw [List.getElem?_set_ne hik] at hp
            have hi : i < S.length := by have := (List.getElem?_eq_some_iff.1 hp).1; omega
            exact hCe.out.tells hO1.out hSn.out hS.out _ hkeep.out (hat.out _ hbf.out) i p hp fun hn2 => hik (getD_inj hSn.out hk hi (near_uniq hnr hn2))
        have hpl2 : Hid ((pcs.set k (Value.slice (some ⟨b, off, none⟩) P.length cap, S.getD k 0)).length = S.length) := by show _ = _; rw [List.length_set]; exact hpl
        replace e := Lib.hid e
        replace hnr := Lib.hid hnr
        replace hpl := Lib.hid hpl
        replace hpk := Lib.hid hpk
        generalize S.getD k 0 = sk at i0 hrow hbf hkeep hfin hpl2
        go_wp2_with fail
        go_ret
        exact ⟨G, _, rfl, hrow, hpl2, hfin, hbf⟩
/-- Of no items there are no parts. -/
theorem cut14_nil (v : Value) (a : Option Addr) (c k : Nat) (i : Int) (w : World) (hv : ∃ va n, v = .slice va n c) :
    Calls Tryz.prog 88 #[v, .int .i64 i, .slice a 0 k] w fun e w' => e = .returned (.slice none 0 0) ∧ w = w' := by
  obtain ⟨va, n, rfl⟩ := hv
  go_enter Tryz.func88, Tryz.ntmps88
  go_wp2_with fail
  go_ret
  exact ⟨rfl, rfl⟩
end Go.Proofs.YtkgjbamkinfmeaaGreatDoor
