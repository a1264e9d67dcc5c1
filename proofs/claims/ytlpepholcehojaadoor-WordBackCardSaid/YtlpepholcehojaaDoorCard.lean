/- What the cards share: a slice of ints that comes in, read as Ints. -/
import Derived.Test.YtlpepholcehojaaDoorBase
import Derived.ProofKit
import Derived.OpenShut
import Derived.ShutString
import Derived.ChangeOld
import Derived.LaidMore
import Derived.Deep.DeepHandedRow
import Derived.Lib.LaidTab
namespace Go.Proofs.YtlpepholcehojaaDoor
open Go Go.ChangeShapes Go.WideShapes Go.ChangeAt Go.RowKit

theorem card_own : ownKnob Tryd.prog.godebug = none := by kernel_rfl
theorem card_laidOut : laidOutB Tryd.prog = true := by kernel_rfl
/-- The world in which a witness begins: the tables as the program's own start lays them. -/
noncomputable def cardWorld (os : Os) : World := World.doorLaid Tryd.prog 24 os

theorem ints_in {w : World} {a : Addr} {len cap : Nat} {zs : List Int} (hl : len ≤ zs.length) (hc : ∀ i, i < zs.length → w.cell? (a.add i) = some (.int .i64 (zs.getD i 0))) : Ints w w.heap.size (.slice (some a) len cap) (zs.take len) := by
  have hlen : (zs.take len).length = len := by simp; omega
  refine ⟨some a, cap, by rw [hlen], fun h0 => ?_⟩
  rw [hlen] at h0 ⊢
  obtain ⟨b, off, spot⟩ := a
  have h := hc 0 (by omega)
  have hspot : spot = none := by simpa [Addr.add] using World.cell?_spot h
  subst hspot
  refine ⟨b, off, rfl, by simpa [Addr.add] using World.block_lt_of_cell? w _ h, fun j hj => ?_⟩
  have := hc j (by omega)
  have e : (zs.take len).getD j 0 = zs.getD j 0 := by simp [List.getD_eq_getElem?_getD, hj]
  rw [e, ← this]
  by_cases h : j = 0
  · subst h; simp [Addr.add]
  · simp [Addr.add, h]
theorem ints_nil (w : World) : Ints w w.heap.size (.slice none 0 0) [] := ⟨none, 0, rfl, fun h => absurd h (by simp)⟩
end Go.Proofs.YtlpepholcehojaaDoor
