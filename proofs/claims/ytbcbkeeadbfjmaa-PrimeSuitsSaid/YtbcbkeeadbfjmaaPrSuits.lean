/- The law PrimeSuits, walked. -/
import Derived.Test.YtbcbkeeadbfjmaaPrRefA
import Derived.Test.YtbcbkeeadbfjmaaPrLives
namespace Go.Proofs.Ytbcbkeeadbfjmaa
open Go Go.RowKit Num

set_option maxRecDepth 100000 in
set_option maxHeartbeats 400000 in
theorem suits_any (e m : Int) (w : World) : Calls Try.prog 6 #[.int .i64 e, .int .i64 m] w fun e w' => e = .returned (.bool true) ∧ Below w.heap.size w w' := by
  have HL := Lib.hid (lives_any w)
  have HS := fun W => Lib.hid (Suit_any e m W)
  have HR := fun W => Lib.hid (refSuit_any e m W)
  go_enter Try.func6, Try.ntmps6
  go_wp2_with fail
  refine HL.out.mono ?_
  rintro e1 w1 ⟨rfl, hb⟩
  have HB := Lib.hid hb
  clear hb
  go_wp2_with fail
  refine (HS _).out.mono ?_
  rintro e1 w2 ⟨q, x, hq, rfl, rfl⟩
  have HQ := Lib.hid hq
  clear hq
  go_wp2_with fail
  refine (HR _).out.mono ?_
  rintro e1 w3 ⟨r, y, hr, rfl, rfl⟩
  obtain ⟨rfl, rfl⟩ := HQ.out.unique hr
  clear hr
  have h1 : (q == q) = true := by simp
  have h2 : (x == x) = true := by simp
  go_wp2
  go_ret
  exact ⟨rfl, HB.out⟩
end Go.Proofs.Ytbcbkeeadbfjmaa
