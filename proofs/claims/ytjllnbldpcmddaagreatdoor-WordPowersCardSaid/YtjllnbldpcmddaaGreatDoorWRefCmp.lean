/- The reference's size, before, Cmp, Check; word.inRange and word.Check in general (seat ZD alone). -/
import Derived.Test.YtjllnbldpcmddaaGreatDoorWCmp
namespace Go.Proofs.YtjllnbldpcmddaaGreatDoor
open Go Go.RowKit

theorem sameW {P : Program} {f : FuncId} {args : Array Value} {w : World} {v : Value} (h : Calls P f args w fun e w' => e = .returned v ∧ w = w') : Calls P f args w fun e w' => e = .returned v ∧ w' = w := h.mono fun _ _ h => ⟨h.1, h.2.symm⟩

set_option maxRecDepth 100000 in
theorem refSize_any (x : Int) (w : World) (hx : -9223372036854775808 ≤ x ∧ x ≤ 9223372036854775807) :
    Calls Tryz.prog 30 #[.int .i64 x] w fun e w' => e = .returned (.int .u64 (x.natAbs : Int)) ∧ w = w' := by
  by_cases h : x < 0
  · obtain ⟨U, hU⟩ : ∃ U, U = x + 18446744073709551616 := ⟨_, rfl⟩
    have h1 : IntKind.u64.wrap x = U := by rw [IntKind.wrap_u64]; omega
    have h2 : IntKind.u64.wrap (-U) = (x.natAbs : Int) := by rw [IntKind.wrap_u64]; omega
    generalize (x.natAbs : Int) = m at h2
    clear hU hx
    go_enter Tryz.func30, Tryz.ntmps30
    go_wp2_with fail
    go_ret
    exact ⟨rfl, rfl⟩
  · have h1 : IntKind.u64.wrap x = (x.natAbs : Int) := by rw [IntKind.wrap_u64]; omega
    generalize (x.natAbs : Int) = m at h1
    clear hx
    go_enter Tryz.func30, Tryz.ntmps30
    go_wp2_with fail
    go_ret
    exact ⟨rfl, rfl⟩

end Go.Proofs.YtjllnbldpcmddaaGreatDoor