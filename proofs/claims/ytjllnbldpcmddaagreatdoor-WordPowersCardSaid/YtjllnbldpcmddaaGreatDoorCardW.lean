/- A slice of words that comes in. -/
import Derived.Test.YtjllnbldpcmddaaGreatDoorCard
import Derived.Test.YtjllnbldpcmddaaGreatDoorWConcat
import Derived.Deep.Matrix
namespace Go.Proofs.YtjllnbldpcmddaaGreatDoor
open Go Go.ChangeShapes Go.WideShapes Go.ChangeAt Go.RowKit

theorem words_in {w : World} {a : Addr} {len cap : Nat} {A : Nat → Option Addr} {L C : Nat → Nat} {Z : Nat → List Int} (hlc : len ≤ cap)
    (h : ∀ r, r < cap → w.cell? (a.add r) = some (.slice (A r) (L r) (C r)) ∧ L r ≤ C r ∧ C r ≤ maxLen ∧ (Z r).length = C r ∧ (∀ n ∈ Z r, (Lit.int .i64 n).wf = true) ∧ (A r = none → C r = 0) ∧ ∀ a', A r = some a' → 0 ≤ a'.block ∧ ∀ c, c < C r → w.cell? (a'.add c) = some (.int .i64 ((Z r).getD c 0))) :
    ∃ ps : List (Value × List Int), Lists w w.heap.size (.slice (some a) len cap) ps ∧ (∀ p ∈ ps, Rng p.2) ∧ ps.length = len := by
  refine ⟨(List.range len).map fun r => (.slice (A r) (L r) (C r), (Z r).take (L r)), ⟨⟨some a, cap, by simp, fun h0 => ?_⟩, fun p hp => ?_⟩, fun p hp x hx => ?_, by simp⟩
  · have h0' : 0 < len := by simpa using h0
    obtain ⟨b, off, spot⟩ := a
    have h1 := (h 0 (by omega)).1
    have hspot : spot = none := by simpa [Addr.add] using World.cell?_spot h1
    subst hspot
    refine ⟨b, off, rfl, by simpa [Addr.add] using World.block_lt_of_cell? w _ h1, fun j p hp => ?_⟩
    rw [List.getElem?_map] at hp
    cases hj : (List.range len)[j]? with
    | none => rw [hj] at hp; cases hp
    | some r =>
      rw [hj] at hp
      injection hp with hp
      have hr := List.getElem?_eq_some_iff.1 hj
      obtain ⟨hr1, hr2⟩ := hr
      have e : r = j := by rw [← hr2]; simp
      have hjl : j < len := by simpa using hr1
      subst e
      rw [← hp, ← (h r (by omega)).1]
      by_cases e0 : r = 0
      · subst e0; simp [Addr.add]
      · simp [Addr.add, e0]
  · obtain ⟨r, hr, rfl⟩ := List.mem_map.1 hp
    have hrl := List.mem_range.1 hr
    obtain ⟨q1, q2, q3, q4, q5, q6, q7⟩ := h r (by omega)
    cases hA : A r with
    | none =>
      have hC := q6 hA
      have hL : L r = 0 := by omega
      refine ⟨none, C r, ?_, fun hh => ?_⟩
      · show Value.slice none (L r) (C r) = Value.slice none ((Z r).take (L r)).length (C r)
        rw [hL]; simp
      · rw [show ((Z r).take (L r)).length = 0 by rw [hL]; simp] at hh
        omega
    | some a' => exact ints_in (by omega) (fun i hi => (q7 a' hA).2 i (by omega))
  · obtain ⟨r, hr, rfl⟩ := List.mem_map.1 hp
    have hrl := List.mem_range.1 hr
    obtain ⟨q1, q2, q3, q4, q5, q6, q7⟩ := h r (by omega)
    have w9 := q5 x (List.mem_of_mem_take hx)
    have e1 : IntKind.i64.min = -9223372036854775808 := by decide
    have e2 : IntKind.i64.max = 9223372036854775807 := by decide
    simp [Lit.wf] at w9
    omega
end Go.Proofs.YtjllnbldpcmddaaGreatDoor
