/- Conversions of bytes into a text. -/
import Derived.Test.YtpfcamebkcengaaSl
import Derived.Test.YtpfcamebkcengaaUq
namespace Go.Proofs.Ytpfcamebkcengaa
open Go.RowKit

theorem run_str {P : Program} (w : World) (src dst e : TypeId) (hs : P.underlying src = some (.slice e)) (he : P.underlying e = some (.int .u8)) (hd : P.underlying dst = some .string) {v : Value} {xs : List Int} (h : IntSl .u8 w v xs) :
    (convert src dst v).run P w = .ok (.string ⟨(xs.map u8).toArray⟩) w := by
  rcases h with ⟨rfl, a, c, rfl⟩ | ⟨b, off, c, rfl, h⟩
  · cases a with
    | none => exact run_convert_bytes_nil w src e hs he 0 c dst hd
    | some a => exact run_convert_bytes_back w src dst e a c [] hs he hd (fun j hj => absurd hj (by simp))
  · exact run_convert_bytes_arg w src e hs he b off xs.length c xs rfl h dst hd

theorem run_str_new {P : Program} (w : World) (src dst e E : TypeId) (hs : P.underlying src = some (.slice e)) (he : P.underlying e = some (.int .u8)) (hd : P.underlying dst = some .string) (xs : List Int) (n c : Nat) (hn : n = xs.length) :
    (convert src dst (.slice (some ⟨w.heap.size, 0, none⟩) n c)).run P (w.alloc (.cells (xs.map (Value.int .u8)).toArray E)) = .ok (.string ⟨(xs.map u8).toArray⟩) (w.alloc (.cells (xs.map (Value.int .u8)).toArray E)) := by
  subst hn
  refine run_str _ src dst e hs he hd (Or.inr ⟨w.heap.size, 0, c, rfl, fun j hj => ?_⟩)
  rw [Nat.zero_add, World.cell?_alloc_mark]
  simp [List.getD, hj]

theorem nums_u8 (l : List UInt8) : (nums l).map u8 = l := by
  unfold nums
  rw [List.map_map]
  have : (u8 ∘ fun c : UInt8 => ((c.toNat : Nat) : Int)) = id := by funext c; simp [u8]
  rw [this]; simp
end Go.Proofs.Ytpfcamebkcengaa
