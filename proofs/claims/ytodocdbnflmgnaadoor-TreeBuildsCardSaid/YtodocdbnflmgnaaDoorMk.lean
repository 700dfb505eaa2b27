/- make([]T, n) where T is one cell: a row of its own (ArrAt), cell by cell written, in the end a slice that the call itself made. -/
import Derived.Test.YtodocdbnflmgnaaDoorAr
import Derived.Test.YtodocdbnflmgnaaDoorApp
import Derived.Laws.OwnMore
namespace Go.Proofs.YtodocdbnflmgnaaDoor
open Go.RowKit

theorem run_make_row {P : Program} (t e : TypeId) (z : Value) (bytes : Nat) (ht : P.underlying t = some (.slice e)) (hi : (P.info? e).map (fun i => (i.zero, i.size, i.bytes)) = some (some z, 1, bytes)) (hz : z.cells = #[z])
    (x : Int) (n : Nat) (hx : x = n) (hb : (bytes : Int) * x ≤ 281474976710656) (hn : x ≤ 9223372036854775807) (w : World) :
    (Instr.makeSlice t (.int .i64 x) (.int .i64 x)).run P w = .ok (.slice (some ⟨w.heap.size, 0, none⟩) n n) (w.alloc (.cells (List.replicate n z).toArray e)) := by
  obtain ⟨i0, hi, hz0, hz1, hz2⟩ := info_parts hi
  subst hx
  have hr := run_make (P := P) w t e i0 z ht hi hz0 .i64 .i64 n n (by omega) (by omega) (by rw [hz2]; exact hb) hn
  rw [hz, hz1, Int.toNat_natCast, Nat.mul_one] at hr
  rw [hr, ← toList_madeCells_one, Array.toArray_toList]
/-- A row as a slice that the call itself made. -/
theorem ArrAt.own {w : World} {g B n : Nat} {t : TypeId} {c : List Value} (h : ArrAt w g t c) (hn : n = c.length) (hb : B ≤ g) (hm : n ≤ maxLen) : w.ownsRow B t 1 (.slice (some ⟨g, 0, none⟩) n n) n c :=
  ⟨by simpa using hn.symm, Or.inr ⟨g, n, c.toArray, rfl, hb, h, Nat.le_refl _, hm, by simp [hn], by simp [hn]⟩⟩
end Go.Proofs.YtodocdbnflmgnaaDoor
