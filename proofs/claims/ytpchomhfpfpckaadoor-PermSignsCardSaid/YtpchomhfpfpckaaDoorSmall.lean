/- strconv.AppendInt at numbers below 100, base 10. -/
import Derived.Test.YtpchomhfpfpckaaDoorBase
import Derived.Lib.AppendStr
import Derived.WalkSpells
namespace Go.Proofs.YtpchomhfpfpckaaDoor
open Go Go.RowKit

/-- The decimal digits of a number below 100. -/
def dig (u : Nat) : List UInt8 := if u < 10 then [UInt8.ofNat (48 + u)] else [UInt8.ofNat (48 + u / 10), UInt8.ofNat (48 + u % 10)]
theorem dig_len (u : Nat) : (dig u).length ≤ 2 := by unfold dig; split <;> simp

set_option maxRecDepth 100000 in
theorem dig_one : ∀ u : Nat, u < 10 → ({ data := #[48, 49, 50, 51, 52, 53, 54, 55, 56, 57, 97, 98, 99, 100, 101, 102, 103, 104, 105, 106, 107, 108, 109, 110, 111, 112, 113, 114, 115, 116, 117, 118, 119, 120, 121, 122] } : ByteArray).extract u (u + 1) = ⟨(dig u).toArray⟩ := by decide +kernel
set_option maxRecDepth 100000 in
theorem dig_two : ∀ u : Nat, u < 100 → ¬ u < 10 → ({ data := #[48, 48, 48, 49, 48, 50, 48, 51, 48, 52, 48, 53, 48, 54, 48, 55, 48, 56, 48, 57, 49, 48, 49, 49, 49, 50, 49, 51, 49, 52, 49, 53, 49, 54, 49, 55, 49, 56, 49, 57, 50, 48, 50, 49, 50, 50, 50, 51, 50, 52, 50, 53, 50, 54, 50, 55, 50, 56, 50, 57, 51, 48, 51, 49, 51, 50, 51, 51, 51, 52, 51, 53, 51, 54, 51, 55, 51, 56, 51, 57, 52, 48, 52, 49, 52, 50, 52, 51, 52, 52, 52, 53, 52, 54, 52, 55, 52, 56, 52, 57, 53, 48, 53, 49, 53, 50, 53, 51, 53, 52, 53, 53, 53, 54, 53, 55, 53, 56, 53, 57, 54, 48, 54, 49, 54, 50, 54, 51, 54, 52, 54, 53, 54, 54, 54, 55, 54, 56, 54, 57, 55, 48, 55, 49, 55, 50, 55, 51, 55, 52, 55, 53, 55, 54, 55, 55, 55, 56, 55, 57, 56, 48, 56, 49, 56, 50, 56, 51, 56, 52, 56, 53, 56, 54, 56, 55, 56, 56, 56, 57, 57, 48, 57, 49, 57, 50, 57, 51, 57, 52, 57, 53, 57, 54, 57, 55, 57, 56, 57, 57] } : ByteArray).extract (u * 2) (u * 2 + 2) = ⟨(dig u).toArray⟩ := by decide +kernel

set_option maxRecDepth 100000 in
set_option maxHeartbeats 400000 in
theorem small_any (u : Nat) (hu : u < 100) (w : World) :
    Calls Tryd.prog 111 #[.int .i64 u] w fun e w' => e = .returned (.string ⟨(dig u).toArray⟩) ∧ w = w' := by
  by_cases h10 : u < 10
  · go_enter Tryd.func111, Tryd.ntmps111
    go_wp2
    go_ret
    exact ⟨congrArg (fun s => Ending.returned (Value.string s)) (dig_one u h10), rfl⟩
  · go_enter Tryd.func111, Tryd.ntmps111
    go_wp2
    go_ret
    exact ⟨congrArg (fun s => Ending.returned (Value.string s)) (dig_two u hu h10), rfl⟩
end Go.Proofs.YtpchomhfpfpckaaDoor
