/- Layer 12: what stands within a node, found with each node gone through once. -/
import Derived.Test.YtodocdbnflmgnaaDoorD12d
import Derived.Test.YtodocdbnflmgnaaDoorMk
import Derived.Deep.Cut
namespace Go.Proofs.YtodocdbnflmgnaaDoor
open Go.RowKit

theorem info_bool : (Tryd.prog.info? 4).map (fun i => (i.zero, i.size, i.bytes)) = some (some (.bool false), 1, 1) := by kernel_rfl
/-- The two rows of within in memory: what stands within, what is known. -/
structure Wm (w : World) (K I : List Bool) (wr : World) : Prop where
  ri : ArrAt wr w.heap.size 4 (I.map Value.bool)
  rk : ArrAt wr (w.heap.size + 1) 4 (K.map Value.bool)
  below : Below w.heap.size w wr
section
variable {w wr : World} {K I : List Bool}
theorem Wm.start (w : World) (n : Nat) : Wm w (List.replicate n false) (List.replicate n false) ((w.alloc (.cells (List.replicate n (Value.bool false)).toArray 4)).alloc (.cells (List.replicate n (Value.bool false)).toArray 4)) := by
  have h1 := arrAt_new w 4 (List.replicate n (Value.bool false))
  have h2 := arrAt_new (w.alloc (.cells (List.replicate n (Value.bool false)).toArray 4)) 4 (List.replicate n (Value.bool false))
  have hs : (w.alloc (.cells (List.replicate n (Value.bool false)).toArray 4)).heap.size = w.heap.size + 1 := by simp
  rw [hs] at h2
  have hb1 : Below w.heap.size w (w.alloc (.cells (List.replicate n (Value.bool false)).toArray 4)) := (Below.refl _ _).alloc (Nat.le_refl _) _
  refine ⟨?_, ?_, hb1.alloc (by omega) _⟩
  · rw [List.map_replicate]
    exact h1.next ((Below.refl _ _).alloc (Nat.le_refl _) _)
  · rw [List.map_replicate]
    exact h2
theorem Wm.setI (h : Wm w K I wr) (j : Nat) : Wm w K (I.set j true) (wr.setCell ⟨w.heap.size, j, none⟩ (.bool true)) :=
  ⟨by rw [List.map_set]; exact h.ri.set j _, h.rk.far j _ (by omega), h.below.setCell (p := ⟨w.heap.size, j, none⟩) (Nat.le_refl _) _⟩
theorem Wm.setK (h : Wm w K I wr) (j : Nat) : Wm w (K.set j true) I (wr.setCell ⟨w.heap.size + 1, j, none⟩ (.bool true)) :=
  ⟨h.ri.far j _ (by omega), by rw [List.map_set]; exact h.rk.set j _, h.below.setCell (p := ⟨w.heap.size + 1, j, none⟩) (by show w.heap.size ≤ w.heap.size + 1; omega) _⟩
theorem Wm.cellI (h : Wm w K I wr) {j : Nat} (hj : j < I.length) : wr.cell? ⟨w.heap.size, j, none⟩ = some (.bool (I.getD j false)) ∧ wr.frozen? ⟨w.heap.size, j, none⟩ = false :=
  ⟨by rw [h.ri.cell]; simp [List.getD, hj], h.ri.soft j⟩
theorem Wm.cellK (h : Wm w K I wr) {j : Nat} (hj : j < K.length) : wr.cell? ⟨w.heap.size + 1, j, none⟩ = some (.bool (K.getD j false)) ∧ wr.frozen? ⟨w.heap.size + 1, j, none⟩ = false :=
  ⟨by rw [h.rk.cell]; simp [List.getD, hj], h.rk.soft j⟩
end
/-- How many cells of a row are false yet. -/
def isF : Value → Bool
  | .bool false => true
  | _ => false
def falses (w : World) (g : Nat) : Nat :=
  match w.heap[g]? with
  | some (.cells c _ _) => c.toList.countP isF
  | _ => 0
theorem falses_at {w : World} {g : Nat} {t : TypeId} {c : List Value} (h : ArrAt w g t c) : falses w g = c.countP isF := by
  unfold ArrAt at h
  unfold falses
  rw [h]
theorem count_set : ∀ (K : List Bool) (j : Nat), j < K.length → K.getD j false = false → ((K.set j true).map Value.bool).countP isF < (K.map Value.bool).countP isF
  | [], j, h, _ => by simp at h
  | b :: t, 0, _, h => by
    obtain rfl : b = false := h
    simp [List.countP_cons, isF]
  | b :: t, j + 1, h, h2 => by
    have := count_set t j (by simpa using h) (by simpa [List.getD] using h2)
    rw [List.set_cons_succ, List.map_cons, List.map_cons, List.countP_cons, List.countP_cons]
    omega
/-- What within answers: of each node whether it stands within i. -/
def WithinPost (P : List (Nd × Value)) (i : Int) (w : World) (e : Ending) (w' : World) : Prop :=
  e = .returned (.slice (some ⟨w.heap.size, 0, none⟩) P.length P.length) ∧ ArrAt w' w.heap.size 4 (((List.range P.length).map fun j : Nat => winB (nodes P) i (j : Int)).map Value.bool) ∧ Below w.heap.size w w'

set_option maxRecDepth 100000 in
set_option maxHeartbeats 4000000 in
theorem within12_any (P : List (Nd × Value)) (v : Value) (i : Int) (w : World) (h : NdSl w v P) (hn : P.length ≤ 1000000) (hi : placeB (nodes P) i = true) :
    Calls Tryd.prog 27 #[v, .int .i64 i] w (WithinPost P i w) := by
  have hnl := nodes_len P
  have hi2 := place_iff.1 hi
  rw [hnl] at hi2
  obtain ⟨q, rfl⟩ : ∃ q : Nat, i = q := ⟨i.toNat, by omega⟩
  have hqn : q < P.length := by omega
  obtain ⟨b, off, cap, hcap, hbl, rfl, hcl⟩ := h.some (by omega)
  have hp := fun (x : Int) (W : World) => place12_any (some ⟨b, off, none⟩) P.length cap x W
  simp only [← place_nodes] at hp
  have hmk := run_make_row (P := Tryd.prog) 62 4 (.bool false) 1 Tryd.underlying62 info_bool rfl (P.length : Int) P.length rfl (by omega) (by omega)
  have hm0 := Wm.start w P.length
  have hW0 := WI.start hi
  rw [hnl, Int.toNat_natCast] at hW0
  clear h hi hi2
  simp only [List.toArray_replicate] at hm0
  replace hm0 := Lib.hid hm0
  replace hp := Lib.hid hp
  replace hcl := Lib.hid hcl
  replace hnl := Lib.hid hnl
  replace hW0 := Lib.hid hW0
  go_enter Tryd.func27, Tryd.ntmps27
  go_upto_region 3 with fail
  clear hmk
  generalize (w.alloc (.cells (Array.replicate P.length (Value.bool false)) 4)).alloc (.cells (Array.replicate P.length (Value.bool false)) 4) = w0 at hm0 ⊢
  have hm1 := hm0.out.setI q
  have hm2 := hm1.setK q
  obtain ⟨x1, x2⟩ := hm0.out.cellI (j := q) (by simp; exact hqn)
  obtain ⟨y1, y2⟩ := hm1.cellK (j := q) (by simp; exact hqn)
  rw [show (List.replicate P.length false).getD q false = false by simp [List.getD, hqn]] at x1 y1
  clear hm0 hm1
  replace hm2 := Lib.hid hm2
  go_wp2_with fail
  clear x1 x2 y1 y2
  go_loopw [23] (fun ii wr => ∃ (k : Nat) (K I : List Bool), ii = .int .i64 k ∧ k ≤ P.length ∧ Hid (Wm w K I wr) ∧ Hid (WI (nodes P) (q : Int) K I k)) (fun ii _ => P.length - (intOf ii).toNat)
  case atStart => exact ⟨0, _, _, rfl, Nat.zero_le _, hm2, hW0⟩
  case round =>
    clear hm2 hW0
    obtain ⟨k, K0, I0, rfl, hk, hM, hW⟩ := hrel
    by_cases hlt : k < P.length
    · have hlt1 : (k : Int) < P.length := by omega
      obtain ⟨wo, hwo⟩ : ∃ wo : World, wr = wo := ⟨_, rfl⟩
      rw [hwo] at hM ⊢
      clear hwo
      have hw2 := Lib.hid (W2.start (l := nodes P) (f := (k : Int)) hW.out.lk)
      go_wp2_with fail
      go_loopw [8] (fun aa wr => ∃ (x : Int) (m : Nat) (K : List Bool), aa = .int .i64 x ∧ Hid (x = itN (nodes P) k m) ∧ Hid (W2 (nodes P) k K0 K m) ∧ Hid (Wm w K I0 wr)) (fun _ wr => falses wr (w.heap.size + 1))
      case atStart => exact ⟨k, 0, K0, rfl, rfl, hw2, hM⟩
      case round =>
        clear hw2 hM
        obtain ⟨x, m, K, rfl, hx, h2, hM⟩ := hrel
        have hpx := hp.out x
        cases hpl : placeB (nodes P) x
        · rw [hpl] at hpx
          replace hpx := Lib.hid hpx
          have hW2 := Lib.hid (h2.out.no hW.out (by rw [hnl.out]; exact hlt) (fun e => by rw [← hx.out, hpl] at e; cases e) (fun e => by rw [← hx.out, hpl] at e; cases e))
          replace hpl := Lib.hid hpl
          go_wp2_with fail
          refine (hpx.out _).mono ?_; rintro e w1 ⟨rfl, rfl⟩
          go_wp2_with fail
          refine (hpx.out _).mono ?_; rintro e w1 ⟨rfl, rfl⟩
          go_wp2_with fail
          exact ⟨⟨k + 1, K, I0, by go_num, by omega, hM, hW2⟩, by simp [intOf]; omega⟩
        · rw [hpl] at hpx
          have hpl2 := place_iff.1 hpl
          rw [hnl.out] at hpl2
          obtain ⟨j, rfl⟩ : ∃ j : Nat, x = j := ⟨x.toNat, by omega⟩
          have hj : j < P.length := by omega
          have hjx : (itN (nodes P) k m).toNat = j := by rw [← hx.out]; rfl
          have hplx : placeB (nodes P) (itN (nodes P) k m) = true := by rw [← hx.out]; exact hpl
          obtain ⟨x1, x2⟩ := hM.out.cellK (j := j) (by rw [h2.out.len, hnl.out]; exact hj)
          clear hpl2
          replace hpx := Lib.hid hpx
          replace hpl := Lib.hid hpl
          replace hjx := Lib.hid hjx
          replace hplx := Lib.hid hplx
          cases hkj : K.getD j false
          · rw [hkj] at x1
            have hM2 := hM.out.setK j
            have h22 := h2.out.step hplx.out (by rw [hjx.out]; exact hkj)
            rw [hjx.out] at h22
            obtain ⟨d0, d1, d2, d3⟩ := (hcl.out j hj).next hM2.below
            rw [nodes_at hj] at d3
            clear d0 d1 d2
            have hup : upN (nodes P) (j : Int) = (atN (nodes P) (j : Int)).up := rfl
            generalize (atN (nodes P) (j : Int)).up = xu at d3 hup
            have hdec := Lib.hid (show falses (wr.setCell ⟨w.heap.size + 1, j, none⟩ (.bool true)) (w.heap.size + 1) < falses wr (w.heap.size + 1) by
              rw [falses_at hM2.rk, falses_at hM.out.rk]
              exact count_set K j (by rw [h2.out.len, hnl.out]; exact hj) hkj)
            have hx2 : Hid (xu = itN (nodes P) k (m + 1)) := Lib.hid (by rw [itN, ← hx.out, hup])
            clear hup
            replace hM2 := Lib.hid hM2
            replace h22 := Lib.hid h22
            replace hkj := Lib.hid hkj
            go_wp2_with fail
            refine (hpx.out _).mono ?_; rintro e w1 ⟨rfl, rfl⟩
            go_wp2_with fail
            exact ⟨⟨xu, m + 1, _, rfl, hx2, h22, hM2⟩, hdec.out⟩
          · rw [hkj] at x1
            obtain ⟨y1, y2⟩ := hM.out.cellI (j := j) (by rw [hW.out.li, hnl.out]; exact hj)
            clear x2 y2
            cases hij : I0.getD j false
            · rw [hij] at y1
              have hW2 := Lib.hid (h2.out.no hW.out (by rw [hnl.out]; exact hlt) (fun _ => by rw [hjx.out]; exact hkj) (fun _ => by rw [hjx.out]; exact hij))
              replace hkj := Lib.hid hkj
              replace hij := Lib.hid hij
              go_wp2_with fail
              refine (hpx.out _).mono ?_; rintro e w1 ⟨rfl, rfl⟩
              go_wp2_with fail
              refine (hpx.out _).mono ?_; rintro e w1 ⟨rfl, rfl⟩
              go_wp2_with fail
              exact ⟨⟨k + 1, K, I0, by go_num, by omega, hM, hW2⟩, by simp [intOf]; omega⟩
            · rw [hij] at y1
              have h3 := Lib.hid (W3.start (l := nodes P) (f := (k : Int)) (m := m) hW.out.li)
              have hin : Hid (I0.getD (itN (nodes P) k m).toNat false = true) := Lib.hid (by rw [hjx.out]; exact hij)
              have hkn : Hid (K.getD (itN (nodes P) k m).toNat false = true) := Lib.hid (by rw [hjx.out]; exact hkj)
              replace hkj := Lib.hid hkj
              replace hij := Lib.hid hij
              go_wp2_with fail
              refine (hpx.out _).mono ?_; rintro e w1 ⟨rfl, rfl⟩
              go_wp2_with fail
              refine (hpx.out _).mono ?_; rintro e w1 ⟨rfl, rfl⟩
              obtain ⟨wo2, hwo⟩ : ∃ wo : World, wr = wo := ⟨_, rfl⟩
              rw [hwo] at hM x1 y1 ⊢
              clear hwo
              go_wp2_with fail
              clear x1 y1
              go_loopw [8] (fun aa wr => ∃ (x : Int) (c : Nat) (I : List Bool), aa = .int .i64 x ∧ Hid (x = itN (nodes P) k c) ∧ Hid (W3 (nodes P) k I0 I m c) ∧ Hid (Wm w K I wr)) (fun _ wr => falses wr w.heap.size)
              case atStart => exact ⟨k, 0, I0, rfl, rfl, h3, hM⟩
              case round =>
                clear h3 hM
                obtain ⟨x, c, I, rfl, hx, h3, hM⟩ := hrel
                have hpc := h3.out.place hW.out h2.out hplx.out
                rw [← hx.out] at hpc
                have hpl2 := place_iff.1 hpc
                rw [hnl.out] at hpl2
                obtain ⟨a, rfl⟩ : ∃ a : Nat, x = a := ⟨x.toNat, by omega⟩
                have ha : a < P.length := by omega
                have hax : (itN (nodes P) k c).toNat = a := by rw [← hx.out]; rfl
                obtain ⟨y1, y2⟩ := hM.out.cellI (j := a) (by rw [h3.out.len, hnl.out]; exact ha)
                clear hpl2
                replace hpc := Lib.hid hpc
                replace hax := Lib.hid hax
                cases hia : I.getD a false
                · rw [hia] at y1
                  have hM2 := hM.out.setI a
                  have h32 := W3.step h2.out h3.out (h3.out.lt hin.out (by rw [hax.out]; exact hia))
                  rw [hax.out] at h32
                  obtain ⟨d0, d1, d2, d3⟩ := (hcl.out a ha).next hM2.below
                  rw [nodes_at ha] at d3
                  clear d0 d1 d2
                  have hup : upN (nodes P) (a : Int) = (atN (nodes P) (a : Int)).up := rfl
                  generalize (atN (nodes P) (a : Int)).up = xu at d3 hup
                  have hdec := Lib.hid (show falses (wr.setCell ⟨w.heap.size, a, none⟩ (.bool true)) w.heap.size < falses wr w.heap.size by
                    rw [falses_at hM2.ri, falses_at hM.out.ri]
                    exact count_set I a (by rw [h3.out.len, hnl.out]; exact ha) hia)
                  have hx2 : Hid (xu = itN (nodes P) k (c + 1)) := Lib.hid (by rw [itN, ← hx.out, hup])
                  clear hup
                  replace hM2 := Lib.hid hM2
                  replace h32 := Lib.hid h32
                  replace hia := Lib.hid hia
                  go_wp2_with fail
                  exact ⟨⟨xu, c + 1, _, rfl, hx2, h32, hM2⟩, hdec.out⟩
                · rw [hia] at y1
                  have hcm := h3.out.whole hW.out h2.out (by rw [hax.out]; exact hia)
                  subst hcm
                  have hW2 := Lib.hid (h3.out.yes hW.out h2.out (by rw [hnl.out]; exact hlt) hplx.out hkn.out hin.out)
                  clear y2
                  replace hia := Lib.hid hia
                  go_wp2_with fail
                  exact ⟨⟨k + 1, K, I, by go_num, by omega, hM, hW2⟩, by simp [intOf]; omega⟩
    · have hke : ¬ ((k : Int) < P.length) := by omega
      have hkk := Lib.hid (show k = P.length by omega)
      go_wp2_with fail
      go_ret
      have hri := hM.out.ri
      have hW' := hW.out
      rw [hkk.out, ← hnl.out] at hW'
      have := hW'.ends
      rw [hnl.out] at this
      rw [this] at hri
      exact ⟨rfl, hri, hM.out.below⟩
end Go.Proofs.YtodocdbnflmgnaaDoor
