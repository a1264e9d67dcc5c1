/- The reference's Mul, Invert, Conj, Comm (seat ZD alone). -/
import Derived.Test.YtjllnbldpcmddaaGreatDoorWRefB
namespace Go.Proofs.YtjllnbldpcmddaaGreatDoor
open Go Go.RowKit

set_option maxRecDepth 100000 in
set_option maxHeartbeats 400000 in
theorem refMul_any (v u : Value) (a b : List Int) (w : World) (ha : a.length ≤ 100000) (hb : b.length ≤ 100000) (ra : Rng a) (rb : Rng b) (hv : Ints w w.heap.size v a) (hu : Ints w w.heap.size u b) :
    Calls Tryz.prog 31 #[v, u] w (GivesO w (wmul a b)) := by
  obtain ⟨Av, cv, rfl⟩ := hv.form
  obtain ⟨Au, cu, rfl⟩ := hu.form
  have HL := Lib.hid (lists_new w [((.slice Av a.length cv), a), ((.slice Au b.length cu), b)] 2 (fun p hp => by
    simp at hp
    rcases hp with rfl | rfl
    · exact hv
    · exact hu))
  have HC := fun W h => Lib.hid (join_any (.slice (some ⟨w.heap.size, 0, none⟩) 2 2) [((.slice Av a.length cv), a), ((.slice Au b.length cu), b)] W (by simp) (by simp [flat]; omega) h)
  have HR := fun r W h => Lib.hid (refReduce_any r (a ++ b) W (by simp; omega) (ra.append rb) h)
  rw [show flat [((.slice Av a.length cv), a), ((.slice Au b.length cu), b)] = a ++ b by simp [flat]] at HC
  rw [show red (a ++ b) = wmul a b from rfl] at HR
  clear hv hu
  go_enter Tryz.func31, Tryz.ntmps31
  go_wp2_with fail
  refine ((HC _ HL.out).out).mono ?_
  rintro e w1 ⟨r, rfl, ho, hb1⟩
  have HB := Lib.hid (((Below.refl _ w).alloc (Nat.le_refl _) _).trans (hb1.mono (by simp)))
  have HO := Lib.hid ho.ints
  clear ho hb1
  go_wp2_with fail
  refine ((HR _ _ HO.out).out).mono ?_
  rintro e w2 ⟨r2, rfl, ho2, hb2⟩
  have HB2 := Lib.hid (HB.out.trans (hb2.mono HB.out.size))
  have HO2 := Lib.hid (ho2.base HB.out.size)
  clear ho2 hb2
  go_wp2_with fail
  go_ret
  exact ⟨_, rfl, HO2.out, HB2.out⟩

end Go.Proofs.YtjllnbldpcmddaaGreatDoor