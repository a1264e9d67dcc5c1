/- A slice of ints that comes in, read as Vec. -/
import Derived.Test.YtinoomcboinokaaGreatMFound
namespace Go.Proofs.YtinoomcboinokaaGreat
open Go Go.RowKit

theorem vec_in {w : World} {a : Addr} {len cap : Nat} {zs : List Int} (hl : len ≤ zs.length) (hlc : len ≤ cap) (hc : ∀ i, i < zs.length → w.cell? (a.add i) = some (.int .i64 (zs.getD i 0))) : Vec w (· < w.heap.size) (.slice (some a) len cap) len (fun j => zs.getD j 0) := by
  refine ⟨some a, cap, rfl, hlc, fun h0 => ?_⟩
  obtain ⟨b, off, spot⟩ := a
  have h := hc 0 (by omega)
  have hspot : spot = none := by simpa [Addr.add] using World.cell?_spot h
  subst hspot
  refine ⟨b, off, rfl, by simpa [Addr.add] using World.block_lt_of_cell? w _ h, fun j hj => ?_⟩
  rw [← hc j (by omega)]
  by_cases h : j = 0
  · subst h; simp [Addr.add]
  · simp [Addr.add, h]
end Go.Proofs.YtinoomcboinokaaGreat
