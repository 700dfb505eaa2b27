/- Layer 11: the end of an element. -/
import Derived.Test.YtldnigkaagcciaaDoorD11i
namespace Go.Proofs.YtldnigkaagcciaaDoor
open Go.RowKit

theorem add11_any (B R : Nat) (c : RC) (k : Nat) (s : Sc) (P : List (Tk × Value)) (x : Tk) (va : Value) (w : World) (h : RdM w B R c k s P) (ha : Ats w B va x.attrs) (hb : P.length ≤ 1000000) :
    Calls Tryd.prog 52 #[.pointer (some ⟨R, 0, none⟩), .agg #[.int .i64 x.kind, .string ⟨x.name.toArray⟩, va, .string ⟨x.text.toArray⟩]] w (AddPost w B R c k { s with text := [], toks := addT s.text s.toks x }) := by
  unfold addT
  by_cases h0 : 0 < s.text.length
  · rw [if_pos h0, List.append_assoc]
    exact add11_yes B R c k s P x va w h ha hb h0
  · rw [if_neg h0]
    have e : s.text = [] := List.length_eq_zero_iff.1 (by omega)
    have := add11_no B R c k s P x va w h ha hb e
    rw [e] at this
    exact this
section
variable {w w' : World} {B R : Nat} {c : RC} {k k' : Nat} {s : Sc} {P : List (Tk × Value)}
/-- The open elements are others. -/
theorem RdM.opens {w1 : World} {v1 : Value} {o1 : List (List UInt8)} (h : RdM w B R c k s P) (ho : Strs w1 B v1 o1) (hg : w.grownBy w1 c.vO.ownBlock) : RdM (w1.setCell ⟨R, 4, none⟩ v1) B R { c with vO := v1 } k { s with opn := o1 } P ∧ Below B w (w1.setCell ⟨R, 4, none⟩ v1) := by
  have hT := Turned.of_grown (S := fun b => c.vO.ownBlock = some b) hg fun _ e => e
  have hr1 := h.rd.turned hT (own_ne_arr h.opn h.rd t_str)
  have hst := turned_setCell w1 ⟨R, 4, none⟩ v1
  have hr2 : Rd (w1.setCell ⟨R, 4, none⟩ v1) R { c with vO := v1 } k := ArrAt.set hr1 4 _
  have k2 : Txt w1 B c.vT s.text := ownsRow_turned h.txt hT fun b hb e => own_apart h.txt h.opn (by decide) hb e
  have k3 := h.tks.turned hT (fun b hb e => own_apart h.tks.row h.opn (by decide) hb e) fun p hp b hb e => own_apart (h.tks.ats p hp) h.opn (by decide) hb e
  refine ⟨⟨hr2, h.rt, ?_, ?_, ?_, h.ptk, h.low⟩, ?_⟩
  · exact ownsRow_turned ho hst fun b hb e => own_ne_arr ho hr1 t_str (by rw [hb]; exact congrArg some e)
  · exact ownsRow_turned k2 hst fun b hb e => own_ne_arr k2 hr1 t_reader (by rw [hb]; exact congrArg some e)
  · exact k3.turned hst (fun b hb e => own_ne_arr k3.row hr1 t_tok (by rw [hb]; exact congrArg some e)) fun p hp b hb e => own_ne_arr (k3.ats p hp) hr1 (Ne.symm t_attr) (by rw [hb]; exact congrArg some e)
  · exact (((Below.refl B w).grown hg h.base fun k hk => (World.ownsRow.lt h.opn k hk).1)).setCell h.low _
theorem RdM.root (h : RdM w B R c k s P) : RdM (w.setCell ⟨R, 3, none⟩ (.bool true)) B R { c with rt := true } k { s with rooted := true } P ∧ Below B w (w.setCell ⟨R, 3, none⟩ (.bool true)) :=
  ⟨h.turned (c' := { c with rt := true }) ⟨rfl, rfl, rfl⟩ (ArrAt.set h.rd 3 _) (turned_setCell w ⟨R, 3, none⟩ _) (fun _ e => e) ⟨rfl, rfl, rfl, rfl⟩, (Below.refl B w).setCell h.low _⟩
theorem RdM.move (h : RdM w B R c k s P) (k' : Nat) {x : Int} (e : x = k') : RdM (w.setCell ⟨R, 1, none⟩ (.int .i64 x)) B R c k' s P ∧ Below B w (w.setCell ⟨R, 1, none⟩ (.int .i64 x)) :=
  ⟨h.call (h.rd.move k' e) (turned_setCell w ⟨R, 1, none⟩ _), (Below.refl B w).setCell h.low _⟩
theorem RdM.toTurned (h : RdM w B R c k s P) (ht : Turned (fun b => b = R) w w') : Below B w w' := below_turned h.low h.base ht
theorem RdM.plen (h : RdM w B R c k s P) : P.length = s.toks.length := by rw [← h.ptk, List.length_map]
end
/-- No error; the reader's state is s'. -/
def NilPost (w : World) (B R : Nat) (l : List UInt8) (dep : Int) (k : Nat) (s' : Sc) (e : Ending) (w' : World) : Prop :=
  e = .returned .nilIface ∧ (∃ c' P', c'.l = l ∧ c'.dep = dep ∧ RdM w' B R c' k s' P') ∧ Below B w w'
/-- An error; where the reader is then. -/
def ErrPost (w : World) (B R : Nat) (l : List UInt8) (v : Value) (Q : Nat → Prop) (e : Ending) (w' : World) : Prop :=
  e = .returned v ∧ (∃ c' k', c'.l = l ∧ k' ≤ l.length ∧ Q k' ∧ Rd w' R c' k') ∧ Below B w w'
def synV : Value := .iface 29 (.int .i64 3)
def deepV : Value := .iface 29 (.int .i64 4)
theorem NilPost.mk {w w' : World} {B R : Nat} {l : List UInt8} {dep : Int} {k : Nat} {s' : Sc} {c' : RC} {P' : List (Tk × Value)} (hl : c'.l = l) (hd : c'.dep = dep) (h : RdM w' B R c' k s' P') (hb : Below B w w') : NilPost w B R l dep k s' (.returned .nilIface) w' := ⟨rfl, ⟨c', P', hl, hd, h⟩, hb⟩
theorem ErrPost.mk {w w' : World} {B R : Nat} {l : List UInt8} {v : Value} {Q : Nat → Prop} {c' : RC} {k : Nat} (hl : c'.l = l) (hk : k ≤ l.length) (hQ : Q k) (h : Rd w' R c' k) (hb : Below B w w') : ErrPost w B R l v Q (.returned v) w' := ⟨rfl, ⟨c', k, hl, hk, hQ, h⟩, hb⟩
/-- What end comes to. -/
def EndPost (w : World) (B R : Nat) (l : List UInt8) (dep : Int) (k : Nat) (s' : Sc) : Option Nat → Ending → World → Prop
  | some n => NilPost w B R l dep (k + n) s'
  | none => ErrPost w B R l synV fun _ => True
theorem EndPost.ok {w w' : World} {B R : Nat} {l : List UInt8} {dep : Int} {k n : Nat} {s' : Sc} {o : Option Nat} {e : Ending} (ho : o = some n) (h : NilPost w B R l dep (k + n) s' e w') : EndPost w B R l dep k s' o e w' := by subst ho; exact h
theorem EndPost.no {w w' : World} {B R : Nat} {l : List UInt8} {dep : Int} {k : Nat} {s' : Sc} {o : Option Nat} {e : Ending} (ho : o = none) (h : ErrPost w B R l synV (fun _ => True) e w') : EndPost w B R l dep k s' o e w' := by subst ho; exact h
/-- The last of the open elements, and the others. -/
theorem opn_last {w : World} {B : Nat} {v : Value} {op : List (List UInt8)} {nm : List UInt8} (h : Strs w B v (op ++ [nm])) : ∃ g cap, v = .slice (some ⟨g, 0, none⟩) (op.length + 1) cap ∧ op.length + 1 ≤ cap ∧ g < w.heap.size ∧ w.cell? ⟨g, op.length, none⟩ = some (.string ⟨nm.toArray⟩) ∧
    v.ownBlock = some g ∧ Strs w B (.slice (some ⟨g, 0, none⟩) op.length cap) op := by
  have hlt := World.ownsRow.lt h
  have hlen : (op ++ [nm]).length = op.length + 1 := by simp
  have hcs := fun g hv => World.ownsRow.cells h (g := g) hv
  rcases h.2 with ⟨_, hn⟩ | ⟨g, cap, cur, hv, hb, hg, h1, h2, h3, h4⟩
  · rw [hlen] at hn; omega
  · have hob : v.ownBlock = some g := by rw [hv]; rfl
    rw [hlen] at hv h1
    refine ⟨g, cap, hv, h1, (hlt g hob).2, ?_, hob, ⟨by simp, Or.inr ⟨g, cap, cur, rfl, hb, hg, by omega, h2, h3, ?_⟩⟩⟩
    · have := hcs g hob op.length (strV nm) (by simp)
      have hadd : (⟨g, 0, none⟩ : Addr).add op.length = ⟨g, op.length, none⟩ := by unfold Addr.add; split <;> simp_all
      rw [hadd] at this
      exact this
    · rw [hlen] at h4
      have : (cur.toList.take ((op.length + 1) * 1)).take (op.length * 1) = ((op ++ [nm]).map strV).take (op.length * 1) := by rw [h4]
      rw [List.take_take, Nat.min_eq_left (by omega)] at this
      rw [this, Nat.mul_one, List.map_append, List.take_left' (by simp)]

set_option maxHeartbeats 2000000 in
theorem end11_any (B R : Nat) (c : RC) (k : Nat) (s : Sc) (P : List (Tk × Value)) (op : List (List UInt8)) (nm : List UInt8) (w : World) (hs : s.opn = op ++ [nm]) (h : RdM w B R c k s P) (hk : k ≤ c.l.length) (hl : c.l.length ≤ 100000) (hb : s.toks.length ≤ 1000000) (ho : op.length ≤ 1000000) :
    Calls Tryd.prog 40 #[.pointer (some ⟨R, 0, none⟩)] w (EndPost w B R c.l c.dep k ⟨s.rooted, op, [], addT s.text s.toks ⟨2, nm, [], []⟩⟩ (endP nm (c.l.drop k))) := by
  have hopn := h.opn
  rw [hs] at hopn
  obtain ⟨g, cap, hv, hcap, hgl, cg, _, _⟩ := opn_last hopn
  have c4 := h.rd.c4
  rw [hv] at c4
  have hP := show endP nm (c.l.drop k) = _ from by unfold endP; rfl
  simp only [List.drop_drop] at hP
  have hb1 := spanN_le blI
  replace hb1 := Lib.hid hb1
  generalize hoo : endP nm (c.l.drop k) = o at hP
  replace hoo := Lib.hid hoo
  replace hP := Lib.hid hP
  replace h := Lib.hid h
  replace hs := Lib.hid hs
  replace hopn := Lib.hid hopn
  replace hv := Lib.hid hv
  go_enter Tryd.func40, Tryd.ntmps40
  go_wp2_with fail
  refine (take11_any R c k nm _ h.out.rd hk hl).mono ?_; rintro e w1 ⟨rfl, r1, t1⟩
  have s1 := h.out.call r1 t1
  have b1 := h.out.toTurned t1
  clear r1 t1
  replace b1 := Lib.hid b1
  cases hp : Lib.hasPrefix (c.l.drop k) nm
  · rw [hp, if_neg (by decide)] at s1
    replace hp := Lib.hid hp
    replace s1 := Lib.hid s1
    go_wp2_with fail
    go_ret
    exact EndPost.no (hP.out.trans (by rw [if_pos hp.out])) (ErrPost.mk rfl hk trivial s1.out.rd b1.out)
  rw [hp, if_pos rfl] at s1
  have hpl := prefix_len hp
  rw [List.length_drop] at hpl
  replace hp := Lib.hid hp
  have hpl2 : k + nm.length ≤ c.l.length := by omega
  clear hpl
  replace s1 := Lib.hid s1
  go_wp2_with fail
  have hb2 := hb1.out (c.l.drop (k + nm.length))
  rw [List.length_drop] at hb2
  refine (blanks11_any R c (k + nm.length) _ s1.out.rd hpl2 hl).mono ?_; rintro e w2 ⟨rfl, r2, t2⟩
  have s2 := s1.out.call r2 t2
  have b2 := b1.out.trans (s1.out.toTurned t2)
  clear s1 b1 r2 t2
  generalize hbn : spanN blI (c.l.drop (k + nm.length)) = bn at hb2 s2
  replace hbn := Lib.hid hbn
  replace b2 := Lib.hid b2
  replace s2 := Lib.hid s2
  go_wp2_with fail
  refine (take11_any R c (k + nm.length + bn) [62] _ s2.out.rd (by omega) hl).mono ?_; rintro e w3 ⟨rfl, r3, t3⟩
  have s3 := s2.out.call r3 t3
  have b3 := b2.out.trans (s2.out.toTurned t3)
  clear s2 b2 r3 t3
  replace b3 := Lib.hid b3
  cases hp3 : Lib.hasPrefix (c.l.drop (k + nm.length + bn)) [62]
  · rw [hp3, if_neg (by decide)] at s3
    replace hp3 := Lib.hid hp3
    replace s3 := Lib.hid s3
    go_wp2_with fail
    go_ret
    exact EndPost.no (hP.out.trans (by rw [if_neg (by rw [hp.out]; decide)]; simp only [hbn.out, ← Nat.add_assoc]; rw [if_neg (by rw [hp3.out]; decide)])) (ErrPost.mk rfl (by omega) trivial s3.out.rd b3.out)
  rw [hp3, if_pos rfl] at s3
  have hpl := prefix_len hp3
  rw [List.length_drop] at hpl
  replace hp3 := Lib.hid hp3
  have hpl3 : k + nm.length + bn + 1 ≤ c.l.length := by simp at hpl; omega
  clear hpl
  replace s3 := Lib.hid s3
  go_wp2_with fail
  refine (add11_any B R c (k + nm.length + bn + 1) s P ⟨2, nm, [], []⟩ (.slice none 0 0) _ s3.out (ats_nil _ _) (by rw [s3.out.plen]; exact hb)).mono ?_
  rintro e w4 ⟨rfl, ⟨c', P', e1, e2, e3, s4⟩, b4⟩
  have hopn4 := s4.opn
  simp only [hs.out] at hopn4
  obtain ⟨g4, cap4, hv4, hcap4, hgl4, _, _, hst4⟩ := opn_last hopn4
  have d4 := s4.rd.c4
  have f4 := s4.rd.fz 4
  rw [hv4] at d4
  have hfin := s4.opens hst4 ⟨rfl, rfl, rfl, Nat.le_refl _, fun _ _ _ => rfl⟩
  have hall := (b3.out.trans b4).trans hfin.2
  replace s4 := Lib.hid s4
  replace b4 := Lib.hid b4
  replace hopn4 := Lib.hid hopn4
  replace hv4 := Lib.hid hv4
  replace hst4 := Lib.hid hst4
  replace hfin := Lib.hid hfin
  replace hall := Lib.hid hall
  go_wp2_with fail
  go_ret
  exact EndPost.ok (n := nm.length + bn + 1) (hP.out.trans (by rw [if_neg (by rw [hp.out]; decide)]; simp only [hbn.out, ← Nat.add_assoc]; rw [if_pos hp3.out])) (NilPost.mk (c' := { c' with vO := .slice (some ⟨g4, 0, none⟩) op.length cap4 }) e1 e2 (by have := hfin.out.1; rw [show k + (nm.length + bn + 1) = k + nm.length + bn + 1 by omega]; exact this) hall.out)
end Go.Proofs.YtldnigkaagcciaaDoor
