/- A matrix that comes in, read as Grid. -/
import Derived.Test.YtokiejichnnmnaaMFound
import Derived.Lib.SmallJoins
import Derived.Deep.Matrix
namespace Go.Proofs.Ytokiejichnnmnaa
open Go Go.RowKit

theorem vec_in {w : World} {a : Addr} {len cap : Nat} {zs : List Int} (hl : len ≤ zs.length) (hlc : len ≤ cap) (hc : ∀ i, i < zs.length → w.cell? (a.add i) = some (.int .i64 (zs.getD i 0))) : Vec w (· < w.heap.size) (.slice (some a) len cap) len (fun j => zs.getD j 0) := by
  refine ⟨some a, cap, rfl, hlc, fun h0 => ?_⟩
  obtain ⟨b, off, spot⟩ := a
  have h := hc 0 (by omega)
  have hspot : spot = none := by simpa [Addr.add] using World.cell?_spot h
  subst hspot
  refine ⟨b, off, rfl, by simpa [Addr.add] using World.block_lt_of_cell? w _ h, fun j hj => ?_⟩
  rw [← hc j (by omega)]
  by_cases h : j = 0
  · subst h; simp [Addr.add]
  · simp [Addr.add, h]
theorem grid_in {w : World} {a : Addr} {len cap : Nat} {A : Nat → Option Addr} {L C : Nat → Nat} {Z : Nat → List Int} (hlc : len ≤ cap)
    (h : ∀ r, r < cap → w.cell? (a.add r) = some (.slice (A r) (L r) (C r)) ∧ L r ≤ C r ∧ (Z r).length = C r ∧ (A r = none → C r = 0) ∧ ∀ a', A r = some a' → ∀ c, c < C r → w.cell? (a'.add c) = some (.int .i64 ((Z r).getD c 0))) :
    Grid w (· < w.heap.size) (.slice (some a) len cap) len L (fun r j => (Z r).getD j 0) := by
  refine ⟨some a, cap, rfl, hlc, fun h0 => ?_⟩
  obtain ⟨b, off, spot⟩ := a
  have h1 := (h 0 (by omega)).1
  have hspot : spot = none := by simpa [Addr.add] using World.cell?_spot h1
  subst hspot
  refine ⟨b, off, rfl, by simpa [Addr.add] using World.block_lt_of_cell? w _ h1, fun i hi => ?_⟩
  obtain ⟨q1, q2, q3, q4, q5⟩ := h i (by omega)
  refine ⟨.slice (A i) (L i) (C i), ?_, ?_⟩
  · rw [← q1]
    by_cases e : i = 0
    · subst e; simp [Addr.add]
    · simp [Addr.add, e]
  · cases hA : A i with
    | none =>
      have := q4 hA
      exact ⟨none, C i, rfl, q2, fun h => by omega⟩
    | some a' =>
      exact vec_in (by omega) q2 fun c hc => q5 a' hA c (by omega)
end Go.Proofs.Ytokiejichnnmnaa
