/- cayleykit.Same at lists of pairs. -/
import Derived.Test.YtbcbkeeadbfjmaaPrFactors0
import Derived.Laws.StructEq
import Derived.ChangeKeysEq
import Derived.Deep.QuietTactic
import Derived.BigQuiet
namespace Go.Proofs.Ytbcbkeeadbfjmaa
open Go Go.RowKit Num

/-- The slice v reads as the pairs l. -/
def Pairs (w : World) (v : Value) (l : List (Nat × Nat)) : Prop :=
  ∃ A c, v = .slice A l.length c ∧ (0 < l.length → ∃ g, A = some ⟨g, 0, none⟩ ∧ g < w.heap.size ∧ ∀ j, j < l.length * 2 → w.cell? ⟨g, j, none⟩ = (pcells l)[j]?)
theorem PairsI.pairs {w : World} {lo : Nat} {v : Value} {l : List (Nat × Nat)} (h : PairsI w lo v l) : Pairs w v l := by
  have hl := World.ownsRow.lt h
  rcases h.2 with ⟨rfl, h0⟩ | ⟨g, cap, cur, rfl, _⟩
  · exact ⟨none, 0, by rw [h0], fun h => by omega⟩
  · exact ⟨_, cap, rfl, fun _ => ⟨g, rfl, (hl g rfl).2, fun j hj => World.ownsRow.cellAt h j hj⟩⟩
theorem Pairs.below {w w' : World} {v : Value} {l : List (Nat × Nat)} (h : Pairs w v l) (hb : Below w.heap.size w w') : Pairs w' v l := by
  obtain ⟨A, c, rfl, h⟩ := h
  refine ⟨A, c, rfl, fun hp => ?_⟩
  obtain ⟨g, rfl, hg, hc⟩ := h hp
  exact ⟨g, rfl, Nat.lt_of_lt_of_le hg hb.size, fun j hj => (hb.cell (p := ⟨g, j, none⟩) hg).trans (hc j hj)⟩
theorem Pairs.nil (w : World) : Pairs w (.slice none 0 0) [] := ⟨none, 0, rfl, fun h => by simp at h⟩

theorem info_int : (Try.prog.info? 3).map (fun i => (i.zero, i.size, i.bytes)) = some (some (.int .i64 0), 1, 8) := by kernel_rfl
theorem eqPair (a b : Int) (w : World) : (Op.equalIn 10000 32 (.agg #[.int .i64 a, .int .i64 b]) (.agg #[.int .i64 a, .int .i64 b])).run Try.prog w = .ok true w := by
  obtain ⟨i0, hi, _, _, _⟩ := info_parts info_int
  have hc : Try.prog.cellsOf 3 = 1 := by kernel_rfl
  rw [run_equalIn_array w 9999 (n := 2) (e := 3) _ _ Try.underlying32 hi, hc]
  have e1 := fun (x : Int) (w : World) => run_equalIn_int (P := Try.prog) w 9998 3 .i64 .i64 x x Try.underlying3
  simp [Op.eqItems, List.range, List.range.loop, Sem.run_bind, part, e1, Result.andThen]
set_option maxRecDepth 100000 in
set_option maxHeartbeats 1000000 in
theorem samePairs (v u : Value) (l : List (Nat × Nat)) (w : World) (hl : l.length ≤ 1000) (hv : Pairs w v l) (hu : Pairs w u l) :
    Calls Try.prog 16 #[v, u] w fun e w' => e = .returned (.bool true) ∧ ∃ n, w' = w.drewN n := by
  obtain ⟨A, c, rfl, hA⟩ := hv
  obtain ⟨B, d, rfl, hB⟩ := hu
  have HA := Lib.hid hA
  have HB := Lib.hid hB
  clear hA hB
  go_enter Try.func16, Try.ntmps16
  go_wp2
  go_loopw [5] (fun t wr => ∃ i n : Nat, t = .int .i64 i ∧ i ≤ l.length ∧ wr = w.drewN n) (fun t _ => l.length - (intOf t).toNat)
  case atStart => exact ⟨0, 0, rfl, Nat.zero_le _, rfl⟩
  case round =>
    obtain ⟨i, n, rfl, hi, rfl⟩ := hrel
    by_cases hlt : i < l.length
    · obtain ⟨g, rfl, hgs, hg⟩ := HA.out (by omega)
      obtain ⟨k, rfl, hks, hk⟩ := HB.out (by omega)
      obtain ⟨x, hx⟩ : ∃ x, l[i]? = some x := ⟨_, List.getElem?_eq_getElem hlt⟩
      obtain ⟨hc1, hc2⟩ := pcells_get l i x hx
      rw [Nat.mul_comm] at hc1 hc2
      have hg1 := (hg (i * 2) (by omega)).trans hc1
      have hg2 := (hg (i * 2 + 1) (by omega)).trans hc2
      have hk1 := (hk (i * 2) (by omega)).trans hc1
      have hk2 := (hk (i * 2 + 1) (by omega)).trans hc2
      have d1 : decide (i < l.length) = true := decide_eq_true hlt
      have d2 : (0 : Int) ≤ i := by omega
      have d3 : (i : Int) < (l.length : Int) := by omega
      have heq := eqPair x.1 x.2
      clear hg hk hc1 hc2 hx
      go_wp2
      go_quiet (fail)
      go_wp2
      go_roundw
      case rel => exact ⟨i + 1, _, by go_num, by omega, rfl⟩
      case measure => simp [intOf]; omega
    · have d1 : decide (i < l.length) = false := decide_eq_false hlt
      go_wp2
      go_ret
      exact ⟨rfl, n, rfl⟩
end Go.Proofs.Ytbcbkeeadbfjmaa
