/- The two tables as they lie in memory. -/
import Derived.Test.YtonbgdcgfoipjaaDoorBase
import Derived.Test.YtonbgdcgfoipjaaDoorFp
namespace Go.Proofs.YtonbgdcgfoipjaaDoor
open Go.RowKit

def Rg.v (g : Rg) : Value := .agg #[.int .i32 g.f, .int .i32 g.t, .int .i32 g.a, .bool g.p]
/-- The ranges lie, four cells each, from a place on. -/
def RgAt (w : World) (b off : Nat) (l : List Rg) : Prop := ∀ j g, l[j]? = some g → w.cell? ⟨b, off + j * 4, none⟩ = some (.int .i32 g.f) ∧ w.cell? ⟨b, off + j * 4 + 1, none⟩ = some (.int .i32 g.t) ∧
  w.cell? ⟨b, off + j * 4 + 2, none⟩ = some (.int .i32 g.a) ∧ w.cell? ⟨b, off + j * 4 + 3, none⟩ = some (.bool g.p)
theorem RgAt.lt {w : World} {b off : Nat} {l : List Rg} (h : RgAt w b off l) (h0 : 0 < l.length) : b < w.heap.size := by
  have := (h 0 l[0] (by simp [h0])).1
  exact World.block_lt_of_cell? w _ this
theorem RgAt.below {w w' : World} {b off : Nat} {l : List Rg} (h : RgAt w b off l) (hb : Below w.heap.size w w') : RgAt w' b off l := fun j g hj => by
  obtain ⟨h1, h2, h3, h4⟩ := h j g hj
  have hl : b < w.heap.size := World.block_lt_of_cell? w _ h1
  exact ⟨(hb.cell (p := ⟨b, _, none⟩) hl).trans h1, (hb.cell (p := ⟨b, _, none⟩) hl).trans h2, (hb.cell (p := ⟨b, _, none⟩) hl).trans h3, (hb.cell (p := ⟨b, _, none⟩) hl).trans h4⟩
/-- A package-level variable that holds such a table. -/
def VarTab (w : World) (g : Nat) (l : List Rg) : Prop := ∃ b off c, l.length ≤ c ∧ w.cell? ⟨g, 0, none⟩ = some (.slice (some ⟨b, off, none⟩) l.length c) ∧ RgAt w b off l
theorem VarTab.below {w w' : World} {g : Nat} {l : List Rg} (h : VarTab w g l) (hb : Below w.heap.size w w') : VarTab w' g l := by
  obtain ⟨b, off, c, hc, h1, h2⟩ := h
  exact ⟨b, off, c, hc, (hb.cell (p := ⟨g, 0, none⟩) (World.block_lt_of_cell? w _ h1)).trans h1, h2.below hb⟩
/-- Both tables lie where the program's text lays them. -/
def Tab (w : World) : Prop := VarTab w 0 lettersL ∧ VarTab w 1 digitsL
theorem Tab.below {w w' : World} (h : Tab w) (hb : Below w.heap.size w w') : Tab w' := ⟨h.1.below hb, h.2.below hb⟩
end Go.Proofs.YtonbgdcgfoipjaaDoor
