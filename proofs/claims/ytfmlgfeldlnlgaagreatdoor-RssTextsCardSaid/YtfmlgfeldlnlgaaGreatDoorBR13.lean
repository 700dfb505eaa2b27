/- The reference of layer 11: attr, comment. -/
import Derived.Test.YtfmlgfeldlnlgaaGreatDoorBR12
import Derived.Test.YtfmlgfeldlnlgaaGreatDoorBR02
import Derived.Deep.RegionLaw
import Derived.Deep.AppendLies
namespace Go.Proofs.YtfmlgfeldlnlgaaGreatDoor
open Go.RowKit

/-- The shared contracts, at a world behind the first. -/
theorem sf_blanks {w0 w : World} {R : Nat} {c : SC} {k : Nat} (h : Hid (Sf w0 w R c k)) (hk : k ≤ c.l.length) (hl : c.l.length ≤ 100000) :
    Calls Tryz.prog 91 #[.pointer (some ⟨R, 0, none⟩)] w fun e w' => e = .returned (.int .i64 (spanN blI (c.l.drop k))) ∧ Hid (Sf w0 w' R c (k + spanN blI (c.l.drop k))) :=
  (rblanks_any R c k w h.out.1 hk hl).mono fun _ _ q => ⟨q.1, sf_turn h q.2⟩
theorem sf_has {w0 w : World} {R : Nat} {c : SC} {k : Nat} (h : Hid (Sf w0 w R c k)) (p : List UInt8) (hk : k ≤ c.l.length) (hl : c.l.length ≤ 100000) (hp : p.length ≤ 100) :
    Calls Tryz.prog 48 #[.pointer (some ⟨R, 0, none⟩), .string ⟨p.toArray⟩] w fun e w' => e = .returned (.bool (Lib.hasPrefix (c.l.drop k) p)) ∧ Hid (Sf w0 w' R c k) :=
  (rhas_any R c k p w h.out.1 hk hl hp).mono fun _ _ q => ⟨q.1, sf_on h q.2⟩
theorem sf_name {w0 w : World} {R : Nat} {c : SC} {k : Nat} (h : Hid (Sf w0 w R c k)) (hk : k ≤ c.l.length) (hl : c.l.length ≤ 100000) :
    Calls Tryz.prog 112 #[.pointer (some ⟨R, 0, none⟩)] w fun e w' => (∃ (x : List UInt8) (b : Bool), e = .returned (.tuple #[.string ⟨x.toArray⟩, .bool b]) ∧ Hid (nameP (c.l.drop k) = if b then some (x, x.length) else none) ∧ Hid (Sf w0 w' R c (k + x.length)) ∧ k + x.length ≤ c.l.length) := by
  refine (rnamem_any R c k w h.out.1 hk hl).mono fun e w' q => ?_
  have hle := spanN_le follI (c.l.drop k)
  have hlen : ((c.l.drop k).take (spanN follI (c.l.drop k))).length = spanN follI (c.l.drop k) := by rw [List.length_take]; omega
  refine ⟨_, _, q.1, ?_, ?_, ?_⟩
  · show nameP _ = _
    unfold nameP
    rw [hlen]
  · rw [hlen]; exact sf_turn h q.2
  · rw [hlen]
    rw [List.length_drop] at hle
    omega

/-- A call's result in a box of its own, and the reader. -/
structure AtSf (w0 w : World) (R : Nat) (c : SC) (k : Nat) (x y : Value) : Prop where
  row : ArrAt w w0.heap.size 172 [x, y]
  rd : Sn w R c k
  turned : Turned (fun b => b = R) w0 w
theorem t_attr11 : 97 ≠ 172 := by decide
section
variable {w0 w w' : World} {R : Nat} {c : SC} {k : Nat} {x y : Value}
theorem AtSf.new (h : Sn w R c k) (x y : Value) : Hid (AtSf w (w.alloc (.cells #[x, y] 172)) R c k x y) := by
  have hb : Below w.heap.size w (w.alloc (.cells #[x, y] 172)) := (Below.refl _ _).alloc (Nat.le_refl _) _
  exact ⟨arrAt_new w _ [x, y], h.below hb, Turned.of_below hb⟩
theorem AtSf.call {k' : Nat} (h : Hid (AtSf w0 w R c k x y)) (hs : Sf w w' R c k') : Hid (AtSf w0 w' R c k' x y) :=
  ⟨h.out.row.turned hs.2 (fun e => arr_apart h.out.rd h.out.row t_attr11 e.symm), hs.1, turned2 h.out.turned hs.2⟩
theorem AtSf.sf (h : Hid (AtSf w0 w R c k x y)) : Hid (Sf w w R c k) := sf_start h.out.rd
theorem AtSf.a0 (h : Hid (AtSf w0 w R c k x y)) : w.cell? ⟨w0.heap.size, 0, none⟩ = some x := by rw [h.out.row.cell]; rfl
theorem AtSf.a1 (h : Hid (AtSf w0 w R c k x y)) : w.cell? ⟨w0.heap.size, 1, none⟩ = some y := by rw [h.out.row.cell]; rfl
theorem AtSf.set (h : Hid (AtSf w0 w R c k x y)) (x' y' : Value) : Hid (AtSf w0 ((w.setCell ⟨w0.heap.size, 0, none⟩ x').setCell ⟨w0.heap.size, 1, none⟩ y') R c k x' y') := by
  have h := h.out
  refine ⟨(h.row.set 0 x').set 1 y', (h.rd.turned (turned_setCell w ⟨w0.heap.size, 0, none⟩ x') (arr_apart h.rd h.row t_attr11)).turned (turned_setCell _ ⟨w0.heap.size, 1, none⟩ y') (arr_apart h.rd h.row t_attr11), ?_⟩
  refine (h.turned.trans (turned_setCell w ⟨w0.heap.size, 0, none⟩ x') fun i hi e => ?_).trans (turned_setCell _ ⟨w0.heap.size, 1, none⟩ y') fun i hi e => ?_
  · have : i = w0.heap.size := e; omega
  · have : i = w0.heap.size := e; omega
theorem AtSf.post (h : Hid (AtSf w0 w R c k x y)) : Sf w0 w R c k := ⟨h.out.rd, h.out.turned⟩
end
/-- An attribute that was read, or none. -/
def RaPost (w : World) (R : Nat) (c : SC) (k : Nat) : Option (At × Nat) → Ending → World → Prop
  | some (x, n), e, w' => e = .returned (.tuple #[.agg #[strV x.1, strV x.2], .bool true]) ∧ Sf w w' R c (k + n)
  | none, e, w' => (∃ s1 s2 : List UInt8, e = .returned (.tuple #[.agg #[strV s1, strV s2], .bool false])) ∧ ∃ k', Sf w w' R c k'
theorem RaPost.ok {w w' : World} {R : Nat} {c : SC} {k n : Nat} {x : At} {o : Option (At × Nat)} {e : Ending} (ho : o = some (x, n)) (he : e = .returned (.tuple #[.agg #[strV x.1, strV x.2], .bool true])) (h : Sf w w' R c (k + n)) : RaPost w R c k o e w' := by subst ho; exact ⟨he, h⟩
theorem RaPost.no {w w' : World} {R : Nat} {c : SC} {k k' : Nat} {o : Option (At × Nat)} {e : Ending} (ho : o = none) (s1 s2 : List UInt8) (he : e = .returned (.tuple #[.agg #[strV s1, strV s2], .bool false])) (h : Sf w w' R c k') : RaPost w R c k o e w' := by subst ho; exact ⟨⟨s1, s2, he⟩, k', h⟩

set_option maxHeartbeats 2000000 in
theorem rattr_any (R : Nat) (c : SC) (k : Nat) (w : World) (h : Sn w R c k) (hk : k ≤ c.l.length) (hl : c.l.length ≤ 100000) :
    Calls Tryz.prog 130 #[.pointer (some ⟨R, 0, none⟩)] w (RaPost w R c k (attrP (c.l.drop k))) := by
  have hRl := h.lt
  have r0 := Lib.hid h
  clear h
  have hP := show attrP (c.l.drop k) = _ from by unfold attrP; rfl
  simp only [List.drop_drop] at hP
  have hb1 := spanN_le blI
  replace hb1 := Lib.hid hb1
  generalize hoo : attrP (c.l.drop k) = o at hP
  replace hoo := Lib.hid hoo
  replace hP := Lib.hid hP
  go_enter Tryz.func130, Tryz.ntmps130
  go_wp2_with fail
  have s0 := AtSf.new r0.out (.string ⟨#[]⟩) (.string ⟨#[]⟩)
  refine (sf_name (AtSf.sf s0) hk hl).mono ?_
  rintro e w1 ⟨nm, nb, rfl, hN, hs1, hk1⟩
  have s1 := AtSf.call s0 hs1.out
  clear s0
  replace hs1 := Lib.hid hs1
  have a0 := AtSf.a0 s1
  have a1 := AtSf.a1 s1
  have fz := fun i => s1.out.row.soft i
  cases nb with
  | false =>
    replace hN := Lib.hid (hN.out.trans (if_neg (by decide)))
    go_wp2_with fail
    have f0 := AtSf.set s1 (.string ⟨#[]⟩) (.string ⟨#[]⟩)
    have b0 := AtSf.a0 f0
    have b1 := AtSf.a1 f0
    refine bodyPost_ret (v := .tuple #[.agg #[(.string ⟨#[]⟩), (.string ⟨#[]⟩)], .bool false]) (by simp [results, Tryz.results130, go_sem, b0, b1]) rfl ?_
    exact RaPost.no (hP.out.trans (by rw [hN.out])) [] [] rfl (AtSf.post f0)
  | true =>
    replace hN := Lib.hid (hN.out.trans (if_pos rfl))
    clear a0 a1 fz
    obtain ⟨n, hn⟩ : ∃ n, nm.length = n := ⟨_, rfl⟩
    rw [hn] at s1 hk1
    replace hN : Hid (nameP (c.l.drop k) = some (nm, n)) := by rw [← hn]; exact hN
    replace hn := Lib.hid hn
    go_wp2_with fail
    have hb2 := hb1.out (c.l.drop (k + n))
    rw [List.length_drop] at hb2
    refine (sf_blanks (AtSf.sf s1) hk1 hl).mono ?_; rintro e w2 ⟨rfl, r2⟩
    have s2 := AtSf.call s1 r2.out
    clear s1 r2
    generalize hbn : spanN blI (c.l.drop (k + n)) = bn at hb2 s2
    replace hbn := Lib.hid hbn
    go_wp2_with fail
    refine (sf_has (AtSf.sf s2) [61] (by omega) hl (by decide)).mono ?_; rintro e w3 ⟨rfl, r3⟩
    have s3 := AtSf.call s2 r3.out
    clear s2 r3
    have a0 := AtSf.a0 s3
    have a1 := AtSf.a1 s3
    have fz := fun i => s3.out.row.soft i
    cases hp : Lib.hasPrefix (c.l.drop (k + n + bn)) [61]
    · replace hp := Lib.hid hp
      go_wp2_with fail
      have f0 := AtSf.set s3 (.string ⟨#[]⟩) (.string ⟨#[]⟩)
      have b0 := AtSf.a0 f0
      have b1 := AtSf.a1 f0
      refine bodyPost_ret (v := .tuple #[.agg #[(.string ⟨#[]⟩), (.string ⟨#[]⟩)], .bool false]) (by simp [results, Tryz.results130, go_sem, b0, b1]) rfl ?_
      exact RaPost.no (hP.out.trans (by rw [hN.out]; simp only [hbn.out, ← Nat.add_assoc]; rw [if_pos hp.out])) [] [] rfl (AtSf.post f0)
    have hpl := prefix_len hp
    rw [List.length_drop] at hpl
    replace hp := Lib.hid hp
    have hpl2 : k + n + bn + 1 ≤ c.l.length := by simp at hpl; omega
    clear hpl a0 a1 fz
    have c1 := s3.out.rd.c1
    have f1 := s3.out.rd.fz 1
    have s3b := AtSf.call (k' := k + n + bn + 1) s3 (sf_put (AtSf.sf s3) (k + n + bn + 1) (x := ((k + n + bn : Nat) : Int) + 1) (by omega)).out
    go_wp2_with fail
    have hb3 := hb1.out (c.l.drop (k + n + bn + 1))
    rw [List.length_drop] at hb3
    refine (sf_blanks (AtSf.sf s3b) hpl2 hl).mono ?_; rintro e w4 ⟨rfl, r4⟩
    have s4 := AtSf.call s3b r4.out
    clear s3 s3b r4 c1 f1
    generalize hcn : spanN blI (c.l.drop (k + n + bn + 1)) = cn at hb3 s4
    replace hcn := Lib.hid hcn
    go_wp2_with fail
    have hval := rvalue_any R c (k + n + bn + 1 + cn) _ s4.out.rd (by omega) hl
    have hvl := fun x' n' => valueP_le (d := c.l.drop (k + n + bn + 1 + cn)) (x := x') (n := n')
    generalize hvo : valueP (c.l.drop (k + n + bn + 1 + cn)) = vo at hval hvl
    replace hvo := Lib.hid hvo
    cases vo with
    | none =>
      clear hvl
      refine hval.mono ?_; rintro e w5 ⟨⟨x, rfl, _⟩, k5, r5⟩
      have s5 := AtSf.call s4 r5
      clear hval s4 r5
      have a0 := AtSf.a0 s5
      have a1 := AtSf.a1 s5
      have fz := fun i => s5.out.row.soft i
      go_wp2_with fail
      have f0 := AtSf.set s5 (.string ⟨nm.toArray⟩) (.string ⟨x.toArray⟩)
      have b0 := AtSf.a0 f0
      have b1 := AtSf.a1 f0
      refine bodyPost_ret (v := .tuple #[.agg #[(.string ⟨nm.toArray⟩), (.string ⟨x.toArray⟩)], .bool false]) (by simp [results, Tryz.results130, go_sem, b0, b1]) rfl ?_
      exact RaPost.no (hP.out.trans (by rw [hN.out]; simp only [hbn.out, hcn.out, ← Nat.add_assoc]; rw [if_neg (by rw [hp.out]; decide)]; rw [hvo.out])) nm x rfl (AtSf.post f0)
    | some y =>
      obtain ⟨x, m⟩ := y
      clear hvl
      refine hval.mono ?_; rintro e w5 ⟨rfl, r5⟩
      have s5 := AtSf.call s4 r5
      clear hval s4 r5
      have a0 := AtSf.a0 s5
      have a1 := AtSf.a1 s5
      have fz := fun i => s5.out.row.soft i
      go_wp2_with fail
      have f0 := AtSf.set s5 (.string ⟨nm.toArray⟩) (.string ⟨x.toArray⟩)
      have b0 := AtSf.a0 f0
      have b1 := AtSf.a1 f0
      refine bodyPost_ret (v := .tuple #[.agg #[(.string ⟨nm.toArray⟩), (.string ⟨x.toArray⟩)], .bool true]) (by simp [results, Tryz.results130, go_sem, b0, b1]) rfl ?_
      exact RaPost.ok (x := (nm, x)) (n := n + bn + 1 + cn + m) (hP.out.trans (by rw [hN.out]; simp only [hbn.out, hcn.out, ← Nat.add_assoc]; rw [if_neg (by rw [hp.out]; decide)]; rw [hvo.out])) rfl (by have := AtSf.post f0; rw [show k + (n + bn + 1 + cn + m) = k + n + bn + 1 + cn + m by omega]; exact this)

set_option maxHeartbeats 1000000 in
theorem rcomment_any (R : Nat) (c : SC) (k : Nat) (w : World) (h : Sn w R c k) (hk : k + 4 ≤ c.l.length) (hl : c.l.length ≤ 100000) :
    Calls Tryz.prog 87 #[.pointer (some ⟨R, 0, none⟩)] w fun e w' => e = .returned (.bool (commR (c.l.drop k)).isSome) ∧ ∃ k', Sf w w' R c k' ∧ ∀ n, commR (c.l.drop k) = some n → k' = k + n := by
  have c1 := h.c1
  have f1 := h.fz 1
  have hP := show commR (c.l.drop k) = _ from by unfold commR; rfl
  simp only [List.drop_drop] at hP
  have s0 := sf_put (sf_start h) (k + 4) (x := (k : Int) + 4) (by omega)
  have hu := runtil_any R c (k + 4) [45, 45] _ s0.out.1 (by omega) hl (by decide)
  have hle := fun x n => untilR_le (t := [45, 45]) (d := c.l.drop (k + 4)) (x := x) (n := n)
  rw [List.length_drop] at hle
  generalize untilR [45, 45] (c.l.drop (k + 4)) = o at hP hu hle
  clear h
  cases o with
  | none =>
    have hP := show commR (c.l.drop k) = none from hP
    rw [hP]
    clear hle
    replace hu := Lib.hid hu
    replace hP := Lib.hid hP
    go_enter Tryz.func87, Tryz.ntmps87
    go_wp2_with fail
    refine hu.out.mono ?_
    rintro e w1 ⟨⟨x, rfl, _⟩, k', hs1⟩
    have s1 := sf_turn s0 hs1
    replace hs1 := Lib.hid hs1
    go_wp2_with fail
    go_ret
    exact ⟨rfl, k', s1.out, fun n e => by cases e⟩
  | some y =>
    obtain ⟨x, n⟩ := y
    obtain ⟨n1, n2, n3⟩ := hle x n rfl
    clear hle
    have hP := show commR (c.l.drop k) = if Lib.hasPrefix (c.l.drop (k + (4 + n))) [62] then some (4 + n + 1) else none from hP
    rw [← Nat.add_assoc] at hP
    replace hu := Lib.hid hu
    have hn1 : 2 ≤ n := n1
    clear n1 n3
    cases hb : Lib.hasPrefix (c.l.drop (k + 4 + n)) [62]
    · rw [hb, if_neg (by decide)] at hP
      rw [hP]
      replace hP := Lib.hid hP
      replace hb := Lib.hid hb
      go_enter Tryz.func87, Tryz.ntmps87
      go_wp2_with fail
      refine hu.out.mono ?_
      rintro e w1 ⟨rfl, hs1⟩
      have s1 := sf_turn s0 hs1
      replace hs1 := Lib.hid hs1
      go_wp2_with fail
      refine (sf_has s1 [62] (by omega) hl (by decide)).mono ?_
      rintro e w2 ⟨rfl, s2⟩
      rw [hb.out]
      go_wp2_with fail
      go_ret
      exact ⟨rfl, _, s2.out, fun n e => by cases e⟩
    · rw [hb, if_pos rfl] at hP
      rw [hP]
      have hpl := prefix_len hb
      rw [List.length_drop] at hpl
      have hk2 : k + 4 + n + 1 ≤ c.l.length := by simp at hpl; omega
      clear hpl
      replace hP := Lib.hid hP
      replace hb := Lib.hid hb
      go_enter Tryz.func87, Tryz.ntmps87
      go_wp2_with fail
      refine hu.out.mono ?_
      rintro e w1 ⟨rfl, hs1⟩
      have s1 := sf_turn s0 hs1
      replace hs1 := Lib.hid hs1
      go_wp2_with fail
      refine (sf_has s1 [62] (by omega) hl (by decide)).mono ?_
      rintro e w2 ⟨rfl, s2⟩
      rw [hb.out]
      have d1 := s2.out.1.c1
      have g1 := s2.out.1.fz 1
      go_wp2_with fail
      go_ret
      exact ⟨rfl, _, (sf_put s2 (k + 4 + n + 1) (by omega)).out, fun n' e => by injection e with e; omega⟩
end Go.Proofs.YtfmlgfeldlnlgaaGreatDoor

/- Append of elements that were just built, to a slice that the call itself made: a step law for regions that draw; the row lies where it lay, or in a new block. -/
namespace Go.Proofs.YtfmlgfeldlnlgaaGreatDoor
open Go.RowKit

theorem arr_news {w : World} {h : Nat} {t : TypeId} {news : List Value} (hh : ArrAt w h t news) : ∀ j u, news[j]? = some u → w.cell? ((⟨h, 0, none⟩ : Addr).add j) = some u := fun j u hu => by
  have hadd : (⟨h, 0, none⟩ : Addr).add j = ⟨h, 0 + j, none⟩ := by unfold Addr.add; split <;> simp_all
  rw [hadd, Nat.zero_add, hh.cell]; exact hu
theorem step_append1 {P : Program} {ops : Array Oper} {o : Oper} {a : Act} {K : Act → World → Prop} {Q : Exit → Act → World → Prop} {E : Prop} {w : World} (hgd : o.guard = none) (s x : Operand) (t e : TypeId)
    (ho : o.op = .call { callee := .builtin .append, args := #[s, x], argTypes := #[t, t] }) (ht : P.underlying t = some (.slice e))
    (z : Value) (size bytes : Nat) (hi : (P.info? e).map (fun i => (i.zero, i.size, i.bytes)) = some (some z, size, bytes)) (hzs : z.cells.size = size) (hsz : 0 < size) (hby : 0 < bytes)
    (B : Nat) (v : Value) (n : Nat) (xs : List Value) (us : List Value) (hus : us.length = size) (hown : w.ownsRow B e size v n xs) (hs : a.eval s = v) (hx : a.eval x = .slice (some ⟨w.heap.size, 0, none⟩) 1 1) (hu : ∀ u ∈ us, u.oneCell' = true)
    (hn : (n + 1) * bytes ≤ 140737488355328) (hB : B ≤ w.heap.size)
    (h : ∀ v' w', Hid (w'.ownsRow B e size v' (n + 1) (xs ++ us)) → Hid (w.grownBy w' v.ownBlock) → Hid (v'.ownBlock = v.ownBlock ∨ ∃ b, v'.ownBlock = some b ∧ w.heap.size ≤ b) → K (a.put o.dst v') w') :
    if Region.wanted o (yielded ops a.tmps) = true then Oper.wp P o a (w.alloc (.cells us.toArray e)) K Q else E := by
  rw [if_pos (by simp [Region.wanted, hgd])]
  obtain ⟨i, hi, hz, hsize, hbyt⟩ := info_parts hi
  have hn1 : n + 1 ≤ (n + 1) * bytes := Nat.le_mul_of_pos_right _ hby
  obtain ⟨v', w', hr, h1, h2, _, h4⟩ := run_append_own_at (P := P) (w.alloc (.cells us.toArray e)) B t o.type e i z size bytes ht hi hz hsize hbyt hzs hsz v n xs (hown.alloc _) ⟨w.heap.size, 0, none⟩ 1 1 us (by omega)
    (arr_news (arrAt_new w e us)) hu (by unfold maxLen; omega) hn (by simp; omega)
  unfold Oper.wp
  simp [execOp, ho, resolve, invoke, builtin, hs, hx, hr, Result.andThen]
  have hg := grownBy_trans (World.grownBy_alloc w (.cells us.toArray e) none) h2
  refine h v' w' (Lib.hid h1) (Lib.hid hg) (Lib.hid ?_)
  rcases h4 with h4 | h4
  · exact Or.inl h4
  · exact Or.inr ⟨_, h4, by simp⟩

/-- The same, in a region that doesn't draw. -/
theorem wpList_appendk {P : Program} {ops : Array Oper} {rest : List Oper} {o : Oper} {a : Act} {Q : Exit → Act → World → Prop} {w : World} (hw : Region.wanted o (yielded ops a.tmps) = true) (s x : Operand) (t e : TypeId)
    (ho : o.op = .call { callee := .builtin .append, args := #[s, x], argTypes := #[t, t] }) (ht : P.underlying t = some (.slice e))
    (z : Value) (size bytes : Nat) (hi : (P.info? e).map (fun i => (i.zero, i.size, i.bytes)) = some (some z, size, bytes)) (hzs : z.cells.size = size) (hsz : 0 < size) (hby : 0 < bytes)
    (B : Nat) (v : Value) (n : Nat) (xs : List Value) (us : List Value) (hus : us.length = size) (hown : w.ownsRow B e size v n xs) (hs : a.eval s = v) (hx : a.eval x = .slice (some ⟨w.heap.size, 0, none⟩) 1 1) (hu : ∀ u ∈ us, u.oneCell' = true)
    (hn : (n + 1) * bytes ≤ 140737488355328) (hB : B ≤ w.heap.size)
    (h : ∀ v' w', Hid (w'.ownsRow B e size v' (n + 1) (xs ++ us)) → Hid (w.grownBy w' v.ownBlock) → Hid (v'.ownBlock = v.ownBlock ∨ ∃ b, v'.ownBlock = some b ∧ w.heap.size ≤ b) → wpList P ops Q rest (a.put o.dst v') w') : wpList P ops Q (o :: rest) a (w.alloc (.cells us.toArray e)) := by
  obtain ⟨i, hi, hz, hsize, hbyt⟩ := info_parts hi
  have hn1 : n + 1 ≤ (n + 1) * bytes := Nat.le_mul_of_pos_right _ hby
  refine BigFrame.wpList_want hw fun K hK => ?_
  obtain ⟨v', w', hr, h1, h2, _, h4⟩ := run_append_own_at (P := P) (w.alloc (.cells us.toArray e)) B t o.type e i z size bytes ht hi hz hsize hbyt hzs hsz v n xs (hown.alloc _) ⟨w.heap.size, 0, none⟩ 1 1 us (by omega)
    (arr_news (arrAt_new w e us)) hu (by unfold maxLen; omega) hn (by simp; omega)
  unfold Oper.wp execOp
  simp only [ho, resolve, invoke, builtin, Sem.run_bind, Sem.run_pure, Result.andThen_ok, List.map_toArray, List.map_cons, List.map_nil, hs, hx, hr]
  have hg := grownBy_trans (World.grownBy_alloc w (.cells us.toArray e) none) h2
  refine hK _ _ (h v' w' (Lib.hid h1) (Lib.hid hg) (Lib.hid ?_))
  rcases h4 with h4 | h4
  · exact Or.inl h4
  · exact Or.inr ⟨_, h4, by simp⟩
end Go.Proofs.YtfmlgfeldlnlgaaGreatDoor

/- The reference of layer 11: attrs. -/
namespace Go.Proofs.YtfmlgfeldlnlgaaGreatDoor
open Go.RowKit

/-- The reader, and attributes that the call itself makes. -/
structure AsSf (w0 w : World) (R : Nat) (c : SC) (k : Nat) (v : Value) (l : List At) : Prop where
  ats : Ats w w0.heap.size v l
  rd : Sn w R c k
  turned : Turned (fun b => b = R) w0 w
section
variable {w0 w w' : World} {R : Nat} {c : SC} {k : Nat} {v v1 : Value} {l l1 : List At}
theorem AsSf.base (h : AsSf w0 w R c k v l) : w0.heap.size ≤ w.heap.size := h.turned.size
theorem AsSf.call {k' : Nat} (h : Hid (AsSf w0 w R c k v l)) (hs : Sf w w' R c k') : Hid (AsSf w0 w' R c k' v l) :=
  ⟨ownsRow_turned h.out.ats hs.2 fun i hi e => own_ne_arr h.out.ats h.out.rd (Ne.symm t_attr11) (by rw [hi]; exact congrArg some e), hs.1, turned2 h.out.turned hs.2⟩
theorem AsSf.below (h : Hid (AsSf w0 w R c k v l)) (hb : Below w.heap.size w w') : Hid (AsSf w0 w' R c k v l) := AsSf.call h ⟨h.out.rd.below hb, Turned.of_below hb⟩
theorem AsSf.sf (h : Hid (AsSf w0 w R c k v l)) : Hid (Sf w w R c k) := sf_start h.out.rd
theorem AsSf.post (h : Hid (AsSf w0 w R c k v l)) : Sf w0 w R c k := ⟨h.out.rd, h.out.turned⟩
theorem AsSf.put (h : Hid (AsSf w0 w R c k v l)) (ho : Ats w' w0.heap.size v1 l1) (hg : w.grownBy w' v.ownBlock) : Hid (AsSf w0 w' R c k v1 l1) := by
  have h := h.out
  have hT := Turned.of_grown (S := fun b => v.ownBlock = some b) hg fun _ e => e
  refine ⟨ho, h.rd.turned hT (own_ne_arr h.ats h.rd (Ne.symm t_attr11)), h.turned.trans hT fun i hi e => ?_⟩
  have := (World.ownsRow.lt h.ats i e).1
  omega
end
/-- What attrs comes to. -/
def RasPost (w : World) (R : Nat) (c : SC) (k : Nat) : Option ((List At × Bool) × Nat) → Ending → World → Prop
  | some ((l, b), n), e, w' => ∃ v, e = .returned (.tuple #[v, .bool b, .bool true]) ∧ Hid (AsSf w w' R c (k + n) v l)
  | none, e, w' => e = .returned (.tuple #[.slice none 0 0, .bool false, .bool false]) ∧ ∃ k', Sf w w' R c k'
section
variable {w w' : World} {R : Nat} {c : SC} {k k' n : Nat} {l : List At} {b : Bool} {o : Option ((List At × Bool) × Nat)} {e : Ending}
theorem RasPost.ok (ho : o = some ((l, b), n)) (v : Value) (he : e = .returned (.tuple #[v, .bool b, .bool true])) (h : Hid (AsSf w w' R c (k + n) v l)) : RasPost w R c k o e w' := by subst ho; exact ⟨v, he, h⟩
theorem RasPost.no (ho : o = none) (he : e = .returned (.tuple #[.slice none 0 0, .bool false, .bool false])) (h : Sf w w' R c k') : RasPost w R c k o e w' := by subst ho; exact ⟨he, k', h⟩
end
theorem any_no {l : List At} {nm : List UInt8} (h : ∀ j, j < l.length → ((l.getD j ([], [])).1 == nm) = false) : (l.any fun y => y.1 == nm) = false := by
  rw [Bool.eq_false_iff]
  intro ha
  obtain ⟨y, hy, e⟩ := List.any_eq_true.1 ha
  obtain ⟨j, hj, rfl⟩ := List.mem_iff_getElem.1 hy
  have := h j hj
  simp only [List.getD, List.getElem?_eq_getElem hj, Option.getD_some] at this
  rw [this] at e; cases e
theorem any_yes {l : List At} {nm : List UInt8} {j : Nat} (hj : j < l.length) (h : ((l.getD j ([], [])).1 == nm) = true) : (l.any fun y => y.1 == nm) = true :=
  List.any_eq_true.2 ⟨l[j]'hj, List.getElem_mem hj, by simpa [List.getD, hj] using h⟩

set_option maxRecDepth 100000 in
set_option maxHeartbeats 4000000 in
theorem rattrs_any (R : Nat) (c : SC) (k : Nat) (w : World) (h : Sn w R c k) (hk : k ≤ c.l.length) (hl : c.l.length ≤ 100000) :
    Calls Tryz.prog 114 #[.pointer (some ⟨R, 0, none⟩)] w (RasPost w R c k (attrsR (c.l.drop k))) := by
  have r0 : Hid (AsSf w w R c k (.slice none 0 0) []) := ⟨ats_nil _ _, h, Turned.refl _ _⟩
  clear h
  have hdl : (c.l.drop k).length = c.l.length - k := List.length_drop
  replace hdl := Lib.hid hdl
  generalize hoo : attrsR (c.l.drop k) = o
  replace hoo := Lib.hid hoo
  go_enter Tryz.func114, Tryz.ntmps114
  go_wp2_with fail
  go_loopw [5] (fun v wr => ∃ (m : Nat) (l : List At) (a : Option Addr) (q : Nat), v = .slice a l.length q ∧ k ≤ m ∧ m ≤ c.l.length ∧ l.length ≤ 16 ∧ Hid (AsSf w wr R c m (.slice a l.length q) l) ∧ Hid (ArAt (c.l.drop k) (m - k) l)) (fun v wr => c.l.length - (intOf ((wr.cell? ⟨R, 1, none⟩).getD undef)).toNat)
  case atStart => exact ⟨k, [], none, 0, rfl, Nat.le_refl _, hk, by simp, r0, by rw [Nat.sub_self]; exact ArAt.zero _⟩
  case round =>
    clear r0
    obtain ⟨m, l, a, cp, rfl, hkm, hm, hl16, hs, hq⟩ := hrel
    have cM := hs.out.rd.c1
    replace cM := Lib.hid cM
    have hdm : (c.l.drop k).drop (m - k) = c.l.drop m := by rw [List.drop_drop]; congr 1; omega
    have hF := show attrsRF l (c.l.drop m) = _ from by unfold attrsRF; rfl
    simp only [List.drop_drop] at hF
    have hstop := hq.out.stop
    have hbad := hq.out.bad
    have hgo := fun l' n => hq.out.step (l' := l') (n := n)
    have hmk : k + (m - k) = m := by omega
    simp only [List.drop_drop, ← Nat.add_assoc, hmk] at hstop hbad hgo
    rw [hoo.out] at hstop hbad
    have hbd := spanN_le blI (c.l.drop m)
    rw [List.length_drop] at hbd
    go_wp2_with fail
    refine (sf_blanks (AsSf.sf hs) hm hl).mono ?_; rintro e w1 ⟨rfl, r1⟩
    have s1 := AsSf.call hs r1.out
    clear hs r1
    obtain ⟨bn, hbn⟩ : ∃ bn, spanN blI (c.l.drop m) = bn := ⟨_, rfl⟩
    rw [hbn] at hbd s1 hF hstop
    rw [hbn]
    clear hbn
    have hq1 : m + bn ≤ c.l.length := by omega
    replace hstop := Lib.hid hstop
    replace hbad := Lib.hid hbad
    replace hgo := Lib.hid hgo
    replace hF := Lib.hid hF
    go_wp2_with fail
    refine (sf_has (AsSf.sf s1) [62] hq1 hl (by decide)).mono ?_; rintro e w2 ⟨rfl, r2⟩
    have s2 := AsSf.call s1 r2.out
    clear s1 r2
    cases h1 : Lib.hasPrefix (c.l.drop (m + bn)) [62]
    case true =>
      have hP := hstop.out (hF.out.trans (by rw [if_pos h1]))
      rw [if_pos h1] at hP
      have hpl := prefix_len h1
      rw [List.length_drop] at hpl
      have hpl2 : m + bn + 1 ≤ c.l.length := by simp at hpl; omega
      clear hpl
      replace hP := Lib.hid hP
      replace h1 := Lib.hid h1
      have c1 := s2.out.rd.c1
      have f1 := s2.out.rd.fz 1
      have s3 := AsSf.call s2 (sf_put (AsSf.sf s2) (m + bn + 1) (x := ((m + bn : Nat) : Int) + 1) (by omega)).out
      go_wp2_with fail
      refine bodyPost_ret (v := .tuple #[.slice a l.length cp, .bool false, .bool true]) (by simp [results, Tryz.results114, go_sem]) rfl ?_
      exact RasPost.ok (hP.out) _ rfl (by rw [show k + (m - k + bn + 1) = m + bn + 1 by omega]; exact s3)
    case false =>
      replace h1 := Lib.hid h1
      go_wp2_with fail
      refine (sf_has (AsSf.sf s2) [47, 62] hq1 hl (by decide)).mono ?_; rintro e w3 ⟨rfl, r3⟩
      have s3 := AsSf.call s2 r3.out
      clear s2 r3
      cases h2 : Lib.hasPrefix (c.l.drop (m + bn)) [47, 62]
      case true =>
        have hP := hstop.out (hF.out.trans (by rw [if_neg (by rw [h1.out]; decide), if_pos h2]))
        rw [if_neg (by rw [h1.out]; decide), if_pos h2] at hP
        have hpl := prefix_len h2
        rw [List.length_drop] at hpl
        have hpl2 : m + bn + 2 ≤ c.l.length := by simp at hpl; omega
        clear hpl
        replace hP := Lib.hid hP
        replace h2 := Lib.hid h2
        have c1 := s3.out.rd.c1
        have f1 := s3.out.rd.fz 1
        have s4 := AsSf.call s3 (sf_put (AsSf.sf s3) (m + bn + 2) (x := ((m + bn : Nat) : Int) + 2) (by omega)).out
        go_wp2_with fail
        refine bodyPost_ret (v := .tuple #[.slice a l.length cp, .bool true, .bool true]) (by simp [results, Tryz.results114, go_sem]) rfl ?_
        exact RasPost.ok (hP.out) _ rfl (by rw [show k + (m - k + bn + 2) = m + bn + 2 by omega]; exact s4)
      case false =>
        have hF2 := Lib.hid (hF.out.trans (by rw [if_neg (by rw [h1.out]; decide), if_neg (by rw [h2]; decide)]))
        clear hstop
        replace h2 := Lib.hid h2
        by_cases hbn0 : bn = 0
        · have hP := Lib.hid (hbad.out (hF2.out.trans (if_pos (Or.inl hbn0))))
          subst hbn0
          go_wp2_with fail
          refine bodyPost_ret (v := .tuple #[.slice none 0 0, .bool false, .bool false]) (by simp [results, Tryz.results114, go_sem]) rfl ?_
          exact RasPost.no hP.out rfl (AsSf.post s3)
        have hb0 : ((bn : Int) == 0) = false := by rw [beq_eq_false_iff_ne]; omega
        have hb1 : (bn == 0) = false := by rw [beq_eq_false_iff_ne]; omega
        by_cases h16 : l.length = 16
        · have hP := Lib.hid (hbad.out (hF2.out.trans (if_pos (Or.inr h16))))
          have h16' : ((l.length : Int) == 16) = true := by rw [beq_iff_eq]; omega
          have h16'' : (l.length == 16) = true := by rw [beq_iff_eq]; omega
          replace h16 := Lib.hid h16
          replace hbn0 := Lib.hid hbn0
          go_wp2_with fail
          refine bodyPost_ret (v := .tuple #[.slice none 0 0, .bool false, .bool false]) (by simp [results, Tryz.results114, go_sem]) rfl ?_
          exact RasPost.no hP.out rfl (AsSf.post s3)
        have h16' : ((l.length : Int) == 16) = false := by rw [beq_eq_false_iff_ne]; omega
        have h16'' : (l.length == 16) = false := by rw [beq_eq_false_iff_ne]; omega
        have hF3 := Lib.hid (hF2.out.trans (if_neg (by rintro (e | e); exact hbn0 e; exact h16 e)))
        replace hbn0 := Lib.hid hbn0
        go_wp2_with fail
        have hat := rattr_any R c (m + bn) _ s3.out.rd hq1 hl
        have hle := fun x n => attrP_le (d := c.l.drop (m + bn)) (x := x) (n := n)
        rw [List.length_drop] at hle
        obtain ⟨r, hr⟩ : ∃ r, attrP (c.l.drop (m + bn)) = r := ⟨_, rfl⟩
        rw [hr] at hat hle
        have hF4 := hF3.out
        rw [hr] at hF4
        replace hr := Lib.hid hr
        cases r with
        | none =>
          have hP := Lib.hid (hbad.out hF4)
          clear hle hF4
          refine hat.mono ?_; rintro e w4 ⟨⟨x1, x2, rfl⟩, k4, r4⟩
          have s4 := AsSf.call s3 r4
          clear hat s3 r4
          unfold strV
          go_wp2_with fail
          refine bodyPost_ret (v := .tuple #[.slice none 0 0, .bool false, .bool false]) (by simp [results, Tryz.results114, go_sem]) rfl ?_
          have hb := (Below.refl w4.heap.size w4).alloc (Nat.le_refl _) (.cells #[strV x1, strV x2] 172)
          exact RasPost.no hP.out rfl (AsSf.post (AsSf.below s4 hb))
        | some y =>
          obtain ⟨⟨nm, va⟩, n⟩ := y
          obtain ⟨n1, n2⟩ := hle _ n rfl
          clear hle
          have hF5 : Hid (attrsRF l (c.l.drop m) = if (l.any fun y => y.1 == nm) = true then .bad () else .go (l ++ [(nm, va)]) (bn + n)) := hF4
          clear hF4
          refine hat.mono ?_; rintro e w4 ⟨rfl, r4⟩
          have s4 := AsSf.call s3 r4
          clear hat s3 r4
          unfold strV
          have hb4 : Below w4.heap.size w4 (w4.alloc (.cells #[.string ⟨nm.toArray⟩, .string ⟨va.toArray⟩] 172)) := (Below.refl _ w4).alloc (Nat.le_refl _) _
          have s5 := AsSf.below s4 hb4
          have hx := arrAt_new w4 172 [.string ⟨nm.toArray⟩, .string ⟨va.toArray⟩]
          have x0 := hx.cell 0
          have x1 := hx.cell 1
          replace hx := Lib.hid hx
          clear hb4
          obtain ⟨w7, hw7⟩ : ∃ w7, w4.alloc (.cells #[.string ⟨nm.toArray⟩, .string ⟨va.toArray⟩] 172) = w7 := ⟨_, rfl⟩
          go_wp2_with fail
          simp only [hw7] at s5 x0 x1 hx ⊢
          replace hw7 := Lib.hid hw7
          go_loopw [9] (fun i wr => ∃ j : Nat, i = .int .i64 j ∧ j ≤ l.length ∧ Hid (∀ t, t < j → ((l.getD t ([], [])).1 == nm) = false) ∧ Drawn w7 wr) (fun i _ => l.length - (intOf i).toNat)
          case atStart => exact ⟨0, rfl, Nat.zero_le _, fun t ht => by omega, Drawn.refl _⟩
          case round =>
            obtain ⟨j, rfl, hj, hno, n0, rfl⟩ := hrel
            by_cases hjl : j < l.length
            · have hjl1 : (j : Int) < l.length := by omega
              have hne : l ≠ [] := by intro e; rw [e] at hjl; simp at hjl
              obtain ⟨g, cap, hv, hg, hBg, hcl⟩ := s5.out.ats.cells hne
              injection hv with hv1 hv2 hv3
              clear hv2
              subst hv1 hv3
              obtain ⟨d0, d1⟩ := hcl j hjl
              clear hcl hne hBg
              have hyes := any_yes (l := l) (nm := nm) hjl
              obtain ⟨x, hxx⟩ : ∃ x, l.getD j ([], []) = x := ⟨_, rfl⟩
              rw [hxx] at d0 d1 hyes
              unfold strV at d0 d1
              cases hq2 : (x.1 == nm)
              · have hno2 : Hid (∀ t, t < j + 1 → ((l.getD t ([], [])).1 == nm) = false) := by
                  intro t ht
                  by_cases e : t = j
                  · subst e; rw [hxx]; exact hq2
                  · exact hno.out t (by omega)
                clear hno hyes
                replace hxx := Lib.hid hxx
                go_wp2_with fail
                go_quiet (fail)
                go_wp2_with fail
                exact ⟨⟨j + 1, by go_num, by omega, hno2, ⟨_, rfl⟩⟩, by simp [intOf]; omega⟩
              · have hP := Lib.hid (hbad.out (hF5.out.trans (if_pos (hyes hq2))))
                clear hno hyes
                replace hxx := Lib.hid hxx
                go_wp2_with fail
                go_quiet (fail)
                go_wp2_with fail
                refine bodyPost_ret (v := .tuple #[.slice none 0 0, .bool false, .bool false]) (by simp [results, Tryz.results114, go_sem]) rfl ?_
                exact RasPost.no hP.out rfl (AsSf.post (AsSf.below (AsSf.below s5 (Drawn.below (drawn_drewN _ _) _)) (Drawn.below (drawn_drewN _ _) _)))
            · have hjl1 : ¬ ((j : Int) < l.length) := by omega
              have hany := any_no (l := l) (nm := nm) fun t ht => hno.out t (by omega)
              have hg := hgo.out _ _ (hF5.out.trans (if_neg (by rw [hany]; decide))) (by simp; omega)
              clear hno
              replace hany := Lib.hid hany
              have s6 := AsSf.below s5 (Drawn.below (drawn_drewN w7 n0) _)
              have e1 := s6.out.rd.c1
              have hb7 := s6.out.base
              go_wp2_with (at_builtin; go_must (refine wpList_appendk rfl _ _ 70 172 rfl Tryz.underlying70 (.agg #[.string ⟨#[]⟩, .string ⟨#[]⟩]) 2 32 info_attr rfl (by decide) (by decide) w.heap.size _ l.length (cellsA l) [.string ⟨nm.toArray⟩, .string ⟨va.toArray⟩] rfl s6.out.ats rfl rfl (by intro u hu; simp at hu; rcases hu with rfl | rfl <;> rfl) (by omega) hb7 ?_))
              intro v1 w8 hown8 hgr8 hwh8
              have s8 := AsSf.put (v1 := v1) (l1 := l ++ [(nm, va)]) s6 (show Ats _ _ _ _ from by rw [Ats, List.length_append, cellsA_app]; exact hown8.out) hgr8.out
              have hfm := own_form hown8.out
              clear hown8 hgr8 hwh8
              obtain ⟨a8, c8, rfl⟩ := hfm
              have hl8 : (l ++ [(nm, va)]).length = l.length + 1 := by simp
              rw [← hl8] at s8
              go_wp2_with fail
              exact ⟨⟨m + bn + n, l ++ [(nm, va)], a8, c8, by rw [hl8], by omega, by omega, by omega, s8, by rw [show m + bn + n - k = m - k + (bn + n) by omega]; exact hg⟩, by rw [cM.out, s8.out.rd.c1]; simp [intOf]; omega⟩
end Go.Proofs.YtfmlgfeldlnlgaaGreatDoor
