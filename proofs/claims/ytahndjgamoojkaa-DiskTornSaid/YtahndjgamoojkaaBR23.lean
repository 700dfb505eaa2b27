/- Plain words on a list into which something is put, or out of which something is taken, as a row does it. -/
import Derived.Test.YtahndjgamoojkaaBR22
namespace Go.Proofs.Ytahndjgamoojkaa
open Go.RowKit
theorem splice_eq {α : Type} (L : List α) (o : Nat) (cs : List α) (X Y Z : List α) (hL : L = X ++ Y ++ Z) (hX : X.length = o) (hY : Y.length = cs.length) : splice L o cs = X ++ cs ++ Z := by
  subst hL hX
  unfold splice
  rw [← hY]
  simp [List.drop_append]
/-- What stands from a on moved by so many, and the news in between. -/
theorem ins_shift {α : Type} (cur news : List α) (N a : Nat) (ha : a ≤ N) (hN : N + news.length ≤ cur.length) :
    (splice (splice cur (a + news.length) ((cur.take N).drop a)) a news).take (N + news.length) = (cur.take N).take a ++ news ++ (cur.take N).drop a := by
  obtain ⟨X, R, rfl, hX⟩ : ∃ X R, cur = X ++ R ∧ X.length = a := ⟨cur.take a, cur.drop a, by simp, by simp; omega⟩
  obtain ⟨Y, R, rfl, hY⟩ : ∃ Y R', R = Y ++ R' ∧ Y.length = N - a := ⟨R.take (N - a), R.drop (N - a), by simp, by simp at hN ⊢; omega⟩
  obtain ⟨U, V, hUV, hU⟩ : ∃ U V, Y ++ R = U ++ V ∧ U.length = news.length := ⟨(Y ++ R).take news.length, (Y ++ R).drop news.length, by simp, by simp at hN ⊢; omega⟩
  have hTd : ((X ++ (Y ++ R)).take N).drop a = Y := by
    rw [List.take_append, List.take_of_length_le (by omega), List.drop_append, List.drop_of_length_le (by omega), show a - X.length = 0 by omega, List.drop_zero, List.nil_append, List.take_append, List.take_of_length_le (by omega), show N - X.length - Y.length = 0 by omega]
    simp
  have hTt : ((X ++ (Y ++ R)).take N).take a = X := by
    rw [List.take_take, Nat.min_eq_left ha, List.take_append, List.take_of_length_le (by omega), show a - X.length = 0 by omega]; simp
  rw [hTd, hTt]
  obtain ⟨Y', Z', hV, hY'⟩ : ∃ Y' Z', V = Y' ++ Z' ∧ Y'.length = Y.length := by
    have : V.length + U.length = Y.length + R.length := by have := congrArg List.length hUV; simp at this; omega
    exact ⟨V.take Y.length, V.drop Y.length, by simp, by simp at hN ⊢; omega⟩
  rw [splice_eq (X ++ (Y ++ R)) (a + news.length) Y (X ++ U) Y' Z' (by rw [hUV, hV]; simp) (by simp; omega) hY', splice_eq (X ++ U ++ Y ++ Z') a news X U (Y ++ Z') (by simp) hX hU]
  rw [show X ++ news ++ (Y ++ Z') = (X ++ news ++ Y) ++ Z' by simp]
  exact List.take_left' (by simp; omega)
/-- The same in a new row: what stands ahead of a, and room. -/
theorem ins_grow {α : Type} (xs tail news : List α) (N a : Nat) (ha : a ≤ N) (hx : xs.length = N) (hN : N + news.length ≤ a + tail.length) :
    (splice (splice (xs.take a ++ tail) a news) (a + news.length) (xs.drop a)).take (N + news.length) = xs.take a ++ news ++ xs.drop a := by
  obtain ⟨X, Y, rfl, hX⟩ : ∃ X Y, xs = X ++ Y ∧ X.length = a := ⟨xs.take a, xs.drop a, by simp, by simp; omega⟩
  have e1 : (X ++ Y).take a = X := by rw [List.take_append, List.take_of_length_le (by omega), show a - X.length = 0 by omega]; simp
  have e2 : (X ++ Y).drop a = Y := by rw [List.drop_append, List.drop_of_length_le (by omega), show a - X.length = 0 by omega]; simp
  rw [e1, e2]
  have hXY : X.length + Y.length = N := by simpa using hx
  obtain ⟨U, V, rfl, hU⟩ : ∃ U V, tail = U ++ V ∧ U.length = news.length := ⟨tail.take news.length, tail.drop news.length, by simp, by simp; omega⟩
  obtain ⟨Y', Z', rfl, hY'⟩ : ∃ Y' Z', V = Y' ++ Z' ∧ Y'.length = Y.length := ⟨V.take Y.length, V.drop Y.length, by simp, by simp at hN ⊢; omega⟩
  rw [splice_eq (X ++ (U ++ (Y' ++ Z'))) a news X U (Y' ++ Z') (by simp) hX hU, splice_eq (X ++ news ++ (Y' ++ Z')) (a + news.length) Y (X ++ news) Y' Z' (by simp) (by simp; omega) hY']
  rw [List.take_append, List.take_of_length_le (by simp; omega)]
  simp
  omega
/-- What stands from b on moved to a, the rest made zero. -/
theorem del_shift {α : Type} (cur zs : List α) (N a b : Nat) (hab : a ≤ b) (hb : b ≤ N) (hN : N ≤ cur.length) (hz : zs.length = b - a) :
    (splice (splice cur a ((cur.take N).drop b)) (a + (N - b)) zs).take (a + (N - b)) = (cur.take N).take a ++ (cur.take N).drop b := by
  obtain ⟨X, R, rfl, hX⟩ : ∃ X R, cur = X ++ R ∧ X.length = a := ⟨cur.take a, cur.drop a, by simp, by simp; omega⟩
  obtain ⟨M, R, rfl, hM⟩ : ∃ Y R', R = Y ++ R' ∧ Y.length = b - a := ⟨R.take (b - a), R.drop (b - a), by simp, by simp at hN ⊢; omega⟩
  obtain ⟨Y, R, rfl, hY⟩ : ∃ Y R', R = Y ++ R' ∧ Y.length = N - b := ⟨R.take (N - b), R.drop (N - b), by simp, by simp at hN ⊢; omega⟩
  have hT : (X ++ (M ++ (Y ++ R))).take N = X ++ (M ++ Y) := by
    rw [List.take_append, List.take_of_length_le (by omega), List.take_append, List.take_of_length_le (by omega), List.take_append, List.take_of_length_le (by omega), show N - X.length - M.length - Y.length = 0 by omega]; simp
  have hTd : (X ++ (M ++ Y)).drop b = Y := by
    rw [List.drop_append, List.drop_of_length_le (by omega), List.drop_append, List.drop_of_length_le (by omega), show b - X.length - M.length = 0 by omega]; simp
  have hTt : (X ++ (M ++ Y)).take a = X := by
    rw [List.take_append, List.take_of_length_le (by omega), show a - X.length = 0 by omega]; simp
  rw [hT, hTd, hTt]
  obtain ⟨U, V, hUV, hU⟩ : ∃ U V, M ++ Y = U ++ V ∧ U.length = Y.length := ⟨(M ++ Y).take Y.length, (M ++ Y).drop Y.length, by simp, by simp⟩
  have hV : V.length = zs.length := by have := congrArg List.length hUV; simp at this; omega
  rw [splice_eq (X ++ (M ++ (Y ++ R))) a Y X U (V ++ R) (by rw [← List.append_assoc M, hUV]; simp) hX hU, splice_eq (X ++ Y ++ (V ++ R)) (a + (N - b)) zs (X ++ Y) V R (by simp) (by simp; omega) hV]
  rw [show X ++ Y ++ zs ++ R = (X ++ Y) ++ (zs ++ R) by simp]
  exact List.take_left' (by simp; omega)
/-- The second slice's name is of no account to append. -/
theorem run_append_types {P : Program} (t t' ty e e' : TypeId) (ht : P.underlying t = some (.slice e)) (ht' : P.underlying t' = some (.slice e')) (i : TypeInfo) (hi : P.info? e = some i) (v u : Value) (w : World) :
    (Builtin.append_ #[t, t'] ty #[v, u]).run P w = (Builtin.append_ #[t, t] ty #[v, u]).run P w := by
  cases v <;> simp [Builtin.append_, run_underlying ht, run_underlying ht', sizeOf, typeInfo, hi]
theorem wpList_append_own_at2 {P : Program} (w : World) {ops : Array Oper} {rest : List Oper} {o : Oper} {a : Act} {Q : Exit → Act → World → Prop} (hgd : o.guard = none) (s x : Operand) (t t' : TypeId)
    (ho : o.op = .call { callee := .builtin .append, args := #[s, x], argTypes := #[t, t'] })
    (base : Nat) (e e' : TypeId) (i : TypeInfo) (z : Value) (size bytes : Nat) (ht : P.underlying t = some (.slice e)) (ht' : P.underlying t' = some (.slice e')) (hi : P.info? e = some i) (hz : i.zero = some z)
    (hsize : i.size = size) (hby : i.bytes = bytes) (hzs : z.cells.size = size) (hsz : 0 < size)
    (v : Value) (n : Nat) (xs : List Value) (hs : a.eval s = v) (hown : w.ownsRow base e size v n xs)
    (ad : Addr) (m c : Nat) (news : List Value) (hx : a.eval x = .slice (some ad) m c) (hl : news.length = m * size) (hnews : ∀ j u, news[j]? = some u → w.cell? (ad.add j) = some u) (h1 : ∀ u ∈ news, u.oneCell' = true)
    (h63 : n + m ≤ maxLen) (hbytes : (n + m) * bytes ≤ 140737488355328) (hbase : base ≤ w.heap.size)
    (h : ∀ v' w', w'.ownsRow base e size v' (n + m) (xs ++ news) → w.grownBy w' v.ownBlock → (v'.ownBlock = v.ownBlock ∨ v'.ownBlock = some w.heap.size) → wpList P ops Q rest (a.put o.dst v') w') :
    wpList P ops Q (o :: rest) a w := by
  obtain ⟨v', w', hr, h2, h3, h4, h5⟩ := run_append_own_at (P := P) w base t o.type e i z size bytes ht hi hz hsize hby hzs hsz v n xs hown ad m c news hl hnews h1 h63 hbytes hbase
  exact Lib.wpList_append_run w hgd s x t t' ho _ _ hs hx v' w' ((run_append_types t t' o.type e e' ht ht' i hi _ _ w).trans hr) (h v' w' h2 h3 h5)
theorem addr_at (g o j : Nat) : (⟨g, o, none⟩ : Addr).add j = ⟨g, o + j, none⟩ := by unfold Addr.add; split <;> simp_all
/-- The cells of a row known whole, for append and copy. -/
theorem ArrAt.news {w : World} {h : Nat} {t : TypeId} {news : List Value} (hh : ArrAt w h t news) : ∀ j u, news[j]? = some u → w.cell? ((⟨h, 0, none⟩ : Addr).add j) = some u := fun j u hu => by
  rw [addr_at, hh.cell, Nat.zero_add]; exact hu
theorem grown_drew {w w' : World} {row : Option Nat} (h : w.drew.grownBy w' row) : w.grownBy w' row := ⟨h.os, h.tape, h.output, h.size, h.block⟩
/-- What slices.Insert comes to. -/
def InsPost (E : TypeId) (z : Nat) (w : World) (v : Value) (n : Nat) (ys : List Value) (e : Ending) (w' : World) : Prop :=
  ∃ v', e = .returned v' ∧ w'.ownsRow 0 E z v' n ys ∧ w.grownBy w' v.ownBlock ∧ (v'.ownBlock = v.ownBlock ∨ v'.ownBlock = some w.heap.size)
/-- What slices.Delete comes to. -/
def DelPost (E : TypeId) (z : Nat) (w : World) (v : Value) (n : Nat) (ys : List Value) (e : Ending) (w' : World) : Prop :=
  ∃ v', e = .returned v' ∧ w'.ownsRow 0 E z v' n ys ∧ w.grownBy w' v.ownBlock ∧ v'.ownBlock = v.ownBlock
end Go.Proofs.Ytahndjgamoojkaa
