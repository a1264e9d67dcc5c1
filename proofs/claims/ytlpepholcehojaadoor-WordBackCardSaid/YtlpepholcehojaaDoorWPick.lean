/- cayleykit.Pick. -/
import Derived.Test.YtlpepholcehojaaDoorWBase
namespace Go.Proofs.YtlpepholcehojaaDoor
open Go Go.RowKit

def pickV (x n : Int) : Int := if x.tmod n < 0 then x.tmod n + n else x.tmod n
theorem pickV_in (x n : Int) (hn : 1 ≤ n) : 0 ≤ pickV x n ∧ pickV x n < n := by
  have h1 := Int.lt_tmod_of_pos x (show 0 < n by omega)
  have h2 := Int.tmod_lt_of_pos x (show 0 < n by omega)
  unfold pickV
  split <;> omega

set_option maxRecDepth 100000 in
theorem pick_any (x n : Int) (w : World) (hn : 1 ≤ n) (hn2 : n ≤ 9223372036854775807) : Calls Tryd.prog 10 #[.int .i64 x, .int .i64 n] w fun e w' => e = .returned (.int .i64 (pickV x n)) ∧ w' = w := by
  have h1 := Int.lt_tmod_of_pos x (show 0 < n by omega)
  have h2 := Int.tmod_lt_of_pos x (show 0 < n by omega)
  have h0 : ¬ n = 0 := by omega
  by_cases h : x.tmod n < 0
  · have hp : pickV x n = x.tmod n + n := by unfold pickV; rw [if_pos h]
    rw [hp]
    go_enter Tryd.func10, Tryd.ntmps10
    go_wp2
    go_ret
    exact ⟨rfl, rfl⟩
  · have hp : pickV x n = x.tmod n := by unfold pickV; rw [if_neg h]
    rw [hp]
    go_enter Tryd.func10, Tryd.ntmps10
    go_wp2
    go_ret
    exact ⟨rfl, rfl⟩

end Go.Proofs.YtlpepholcehojaaDoor
