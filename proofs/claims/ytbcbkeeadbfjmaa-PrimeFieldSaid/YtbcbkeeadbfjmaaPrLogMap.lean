/- The map of prime.log: powers of the root to their exponents. -/
import Derived.Test.YtbcbkeeadbfjmaaPrRoot
import Derived.Maps.OwnSet
namespace Go.Proofs.Ytbcbkeeadbfjmaa
open Go Go.RowKit Num Go.ChangeMaps
open Go.Maps (Keyed IsMap has int_keyed keyOf_int_mk)

theorem map_law : Keyed Try.prog 3 := int_keyed Try.underlying3
theorem map_zero (w : World) : (zeroValue 3).run Try.prog w = .ok (.int .i64 0) w := by kernel_rfl
theorem map_make (w : World) (m : Int) : (Instr.makeMap 50 (some (.int .i64 m))).run Try.prog w = .ok (.map (some w.heap.size)) (w.alloc (.map #[] 0)) := by
  simp [Instr.makeMap, run_underlying Try.underlying50, asInt, asIntOf, Result.andThen]
/-- The map behind k rounds. -/
def Sm (g p : Nat) : Nat → DataW Unit
  | 0 => .map []
  | k + 1 => (Sm g p k).put (.int .i64 (g ^ k % p : Nat)) (.lit (.int .i64 k))
theorem Sm_isMap (g p : Nat) : ∀ k, IsMap (Sm g p k)
  | 0 => Maps.isMap_empty
  | k + 1 => (Sm_isMap g p k).put _ _
theorem key_ne {a b : Nat} (h : a ≠ b) : Lit.int .i64 (a : Int) ≠ Lit.int .i64 (b : Int) := fun e => h (by
  injection e with _ e
  exact Int.ofNat_inj.1 e)
theorem Sm_hit {g p d : Nat} (hp : Pr p) (ho : Ord p g d) : ∀ k, k ≤ d → ∀ j, j < k → has (Sm g p k) (.int .i64 (g ^ j % p : Nat)) = true ∧ ∀ z, (Sm g p k).atKey (.int .i64 (g ^ j % p : Nat)) z = .lit (.int .i64 j)
  | 0, _, j, h => by omega
  | k + 1, hk, j, hj => by
    by_cases e : j = k
    · subst e
      exact ⟨Maps.has_put_same (Sm_isMap g p j) (by simp [WideAt.IsKeyLit]) _, fun z => Maps.atKey_put_same (Sm_isMap g p j) (by simp [WideAt.IsKeyLit]) _ z⟩
    · obtain ⟨h1, h2⟩ := Sm_hit hp ho k (by omega) j (by omega)
      have hne := key_ne fun e' => e (pow_inj hp ho (i := j) (j := k) (by omega) (by omega) e')
      exact ⟨by rw [Sm, Maps.has_put_other hne]; exact h1, fun z => by rw [Sm, Maps.atKey_put_other hne]; exact h2 z⟩
theorem Sm_miss {g p d : Nat} (hp : Pr p) (ho : Ord p g d) {i : Nat} (hi : i < d) : ∀ k, k ≤ i → has (Sm g p k) (.int .i64 (g ^ i % p : Nat)) = false
  | 0, _ => rfl
  | k + 1, hk => by
    have hne := key_ne fun e' => (show i ≠ k by omega) (pow_inj hp ho (i := i) (j := k) hi (by omega) e')
    rw [Sm, Maps.has_put_other hne]
    exact Sm_miss hp ho hi k (by omega)
theorem wf_nat {a : Nat} (h : a < 1000000) : (Lit.int .i64 (a : Int)).wf = true := by
  have h1 : IntKind.i64.min = -9223372036854775808 := by decide
  have h2 : IntKind.i64.max = 9223372036854775807 := by decide
  simp [Lit.wf]; omega
/-- The map is looked into. -/
theorem look_found {w : World} {b n g p d m j x : Nat} (h : w.ownsMap Try.prog 3 (plainElem Try.prog 3) b n (Sm g p m)) (hp : Pr p) (ho : Ord p g d) (hm : m ≤ d) (hj : j < m) (hx : x = g ^ j % p) (hxl : x < 1000000) :
    (Instr.lookup 50 (.map (some b)) (.int .i64 x) true).run Try.prog w = .ok (.tuple #[.int .i64 j, .bool true]) w ∧ (Instr.lookup 50 (.map (some b)) (.int .i64 x) false).run Try.prog w = .ok (.int .i64 j) w := by
  have hkey := keyOf_int_mk Try.underlying3 (wf_nat hxl)
  obtain ⟨hh, hat⟩ := Sm_hit hp ho m hm j hj
  rw [← hx] at hh hat
  refine ⟨?_, ?_⟩
  · obtain ⟨v, ps, hr, hv⟩ := h.look_ok map_law Try.underlying50 (map_zero w) (plainElem_int Try.underlying3 (by decide)) hkey
    rw [hat] at hv
    obtain ⟨c, rfl, hc, _⟩ := plainElem_int_inv Try.underlying3 hv
    simp only [Prod.mk.injEq] at hc
    have : (j : Int) = c := by
      have := hc.1
      injection this with this
      injection this with _ this
    rw [hr, hh, this]
  · obtain ⟨c, hr, hat', _⟩ := h.lookup_int map_law Try.underlying50 Try.underlying3 (map_zero w) hkey
    rw [hat] at hat'
    have : (j : Int) = c := by
      injection hat' with this
      injection this with _ this
    rw [hr, this]
theorem look_missed {w : World} {b n g p d m i x : Nat} (h : w.ownsMap Try.prog 3 (plainElem Try.prog 3) b n (Sm g p m)) (hp : Pr p) (ho : Ord p g d) (hi : i < d) (hm : m ≤ i) (hx : x = g ^ i % p) (hxl : x < 1000000) :
    (Instr.lookup 50 (.map (some b)) (.int .i64 x) true).run Try.prog w = .ok (.tuple #[.int .i64 0, .bool false]) w := by
  have hkey := keyOf_int_mk Try.underlying3 (wf_nat hxl)
  have hh := Sm_miss hp ho hi m hm
  rw [← hx] at hh
  obtain ⟨v, ps, hr, hv⟩ := h.look_ok map_law Try.underlying50 (map_zero w) (plainElem_int Try.underlying3 (by decide)) hkey
  rw [Maps.atKey_of_not_has hh] at hv
  obtain ⟨c, rfl, hc, _⟩ := plainElem_int_inv Try.underlying3 hv
  simp only [Prod.mk.injEq] at hc
  have : (0 : Int) = c := by
    have := hc.1
    injection this with this
    injection this with _ this
  rw [hr, hh, ← this]
end Go.Proofs.Ytbcbkeeadbfjmaa
