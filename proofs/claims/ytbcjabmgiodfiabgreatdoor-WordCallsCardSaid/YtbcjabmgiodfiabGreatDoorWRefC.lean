/- The reference's Mul, Invert, Conj, Comm (seat ZD alone). -/
import Derived.Test.YtbcjabmgiodfiabGreatDoorWRefB
namespace Go.Proofs.YtbcjabmgiodfiabGreatDoor
open Go Go.RowKit

set_option maxRecDepth 100000 in
set_option maxHeartbeats 400000 in
theorem refMul_any (v u : Value) (a b : List Int) (w : World) (ha : a.length ≤ 100000) (hb : b.length ≤ 100000) (ra : Rng a) (rb : Rng b) (hv : Ints w w.heap.size v a) (hu : Ints w w.heap.size u b) :
    Calls Tryz.prog 14 #[v, u] w (GivesO w (wmul a b)) := by
  obtain ⟨Av, cv, rfl⟩ := hv.form
  obtain ⟨Au, cu, rfl⟩ := hu.form
  have HL := Lib.hid (lists_new w [((.slice Av a.length cv), a), ((.slice Au b.length cu), b)] 2 (fun p hp => by
    simp at hp
    rcases hp with rfl | rfl
    · exact hv
    · exact hu))
  have HC := fun W h => Lib.hid (join_any (.slice (some ⟨w.heap.size, 0, none⟩) 2 2) [((.slice Av a.length cv), a), ((.slice Au b.length cu), b)] W (by simp) (by simp [flat]; omega) h)
  have HR := fun r W h => Lib.hid (refReduce_any r (a ++ b) W (by simp; omega) (ra.append rb) h)
  rw [show flat [((.slice Av a.length cv), a), ((.slice Au b.length cu), b)] = a ++ b by simp [flat]] at HC
  rw [show red (a ++ b) = wmul a b from rfl] at HR
  clear hv hu
  go_enter Tryz.func14, Tryz.ntmps14
  go_wp2_with fail
  refine ((HC _ HL.out).out).mono ?_
  rintro e w1 ⟨r, rfl, ho, hb1⟩
  have HB := Lib.hid (((Below.refl _ w).alloc (Nat.le_refl _) _).trans (hb1.mono (by simp)))
  have HO := Lib.hid ho.ints
  clear ho hb1
  go_wp2_with fail
  refine ((HR _ _ HO.out).out).mono ?_
  rintro e w2 ⟨r2, rfl, ho2, hb2⟩
  have HB2 := Lib.hid (HB.out.trans (hb2.mono HB.out.size))
  have HO2 := Lib.hid (ho2.base HB.out.size)
  clear ho2 hb2
  go_wp2_with fail
  go_ret
  exact ⟨_, rfl, HO2.out, HB2.out⟩

set_option maxRecDepth 100000 in
set_option maxHeartbeats 400000 in
theorem refInvert_any (v : Value) (a : List Int) (w : World) (ha : a.length ≤ 100000) (ra : Rng a) (hv : Ints w w.heap.size v a) (rn : Rng (winv a)) :
    Calls Tryz.prog 12 #[v] w (GivesO w (red (winv a))) := by
  have HC := Lib.hid (turned_any v a w (by omega) ra hv)
  have HR := fun r W h => Lib.hid (refReduce_any r (winv a) W (by simp [winv_length]; omega) rn h)
  clear hv
  go_enter Tryz.func12, Tryz.ntmps12
  go_wp2_with fail
  refine (HC.out).mono ?_
  rintro e w1 ⟨r, rfl, ho, hb1⟩
  have HB := Lib.hid hb1
  have HO := Lib.hid ho.ints
  clear ho hb1
  go_wp2_with fail
  refine ((HR _ _ HO.out).out).mono ?_
  rintro e w2 ⟨r2, rfl, ho2, hb2⟩
  have HB2 := Lib.hid (HB.out.trans (hb2.mono HB.out.size))
  have HO2 := Lib.hid (ho2.base HB.out.size)
  clear ho2 hb2
  go_wp2_with fail
  go_ret
  exact ⟨_, rfl, HO2.out, HB2.out⟩

set_option maxRecDepth 100000 in
set_option maxHeartbeats 400000 in
theorem refConj_any (v u : Value) (a b : List Int) (w : World) (ha : a.length ≤ 100000) (hb : b.length ≤ 100000) (ra : Rng a) (rb : Rng b) (hv : Ints w w.heap.size v a) (hu : Ints w w.heap.size u b) :
    Calls Tryz.prog 16 #[v, u] w (GivesO w (red (winv b ++ a ++ b))) := by
  obtain ⟨Av, cv, rfl⟩ := hv.form
  obtain ⟨Au, cu, rfl⟩ := hu.form
  have HI := Lib.hid (turned_any (.slice Au b.length cu) b w (by omega) rb hu)
  have HC := fun x n W h => Lib.hid (join_any (.slice (some ⟨n, 0, none⟩) 3 3) [(x, winv b), ((.slice Av a.length cv), a), ((.slice Au b.length cu), b)] W (by simp) (by simp [flat, winv_length]; omega) h)
  have HR := fun r W h => Lib.hid (refReduce_any r (winv b ++ a ++ b) W (by simp [winv_length]; omega) ((rb.winv.append ra).append rb) h)
  have HF := fun x => Lib.hid (show flat [(x, winv b), ((.slice Av a.length cv), a), ((.slice Au b.length cu), b)] = winv b ++ a ++ b by simp [flat])
  have HV := Lib.hid hv
  have HU := Lib.hid hu
  clear hv hu
  generalize red (winv b ++ a ++ b) = res at HR
  go_enter Tryz.func16, Tryz.ntmps16
  go_wp2_with fail
  refine (HI.out).mono ?_
  rintro e w1 ⟨x, rfl, ho, hb1⟩
  obtain ⟨Ax, cx, rfl⟩ := ho.len
  have HB := Lib.hid hb1
  have HL := Lib.hid (lists_new w1 [(.slice Ax (winv b).length cx, winv b), ((.slice Av a.length cv), a), ((.slice Au b.length cu), b)] 3 (fun p hp => by
    simp at hp
    rcases hp with rfl | rfl | rfl
    · exact ho.ints
    · exact HV.out.grow hb1
    · exact HU.out.grow hb1))
  clear ho hb1 HV HU
  go_wp2_with fail
  refine ((HC _ _ _ HL.out).out).mono ?_
  rw [(HF _).out]
  rintro e w2 ⟨r, rfl, ho, hb1⟩
  have HB2 := Lib.hid ((HB.out.alloc HB.out.size _).trans (hb1.mono (by have := HB.out.size; simp; omega)))
  have HO := Lib.hid ho.ints
  clear ho hb1 HB HL
  go_wp2_with fail
  refine ((HR _ _ HO.out).out).mono ?_
  rintro e w3 ⟨r2, rfl, ho2, hb2⟩
  have HB3 := Lib.hid (HB2.out.trans (hb2.mono HB2.out.size))
  have HO2 := Lib.hid (ho2.base HB2.out.size)
  clear ho2 hb2
  go_wp2_with fail
  go_ret
  exact ⟨_, rfl, HO2.out, HB3.out⟩

set_option maxRecDepth 100000 in
set_option maxHeartbeats 400000 in
theorem refComm_any (v u : Value) (a b : List Int) (w : World) (ha : a.length ≤ 100000) (hb : b.length ≤ 100000) (ra : Rng a) (rb : Rng b) (hv : Ints w w.heap.size v a) (hu : Ints w w.heap.size u b) :
    Calls Tryz.prog 18 #[v, u] w (GivesO w (red (winv a ++ winv b ++ a ++ b))) := by
  obtain ⟨Av, cv, rfl⟩ := hv.form
  obtain ⟨Au, cu, rfl⟩ := hu.form
  have HI := Lib.hid (turned_any (.slice Av a.length cv) a w (by omega) ra hv)
  have HJ := fun W h => Lib.hid (turned_any (.slice Au b.length cu) b W (by omega) rb h)
  have HC := fun x y n W h => Lib.hid (join_any (.slice (some ⟨n, 0, none⟩) 4 4) [(x, winv a), (y, winv b), ((.slice Av a.length cv), a), ((.slice Au b.length cu), b)] W (by simp) (by simp [flat, winv_length]; omega) h)
  have HR := fun r W h => Lib.hid (refReduce_any r (winv a ++ winv b ++ a ++ b) W (by simp [winv_length]; omega) (((ra.winv.append rb.winv).append ra).append rb) h)
  have HF := fun x y => Lib.hid (show flat [(x, winv a), (y, winv b), ((.slice Av a.length cv), a), ((.slice Au b.length cu), b)] = winv a ++ winv b ++ a ++ b by simp [flat])
  have HV := Lib.hid hv
  have HU := Lib.hid hu
  clear hv hu
  generalize red (winv a ++ winv b ++ a ++ b) = res at HR
  go_enter Tryz.func18, Tryz.ntmps18
  go_wp2_with fail
  refine (HI.out).mono ?_
  rintro e w1 ⟨x, rfl, ho, hb1⟩
  obtain ⟨Ax, cx, rfl⟩ := ho.len
  have HB := Lib.hid hb1
  have HX := Lib.hid ho.ints
  have HV1 := Lib.hid (HV.out.grow hb1)
  have HU1 := Lib.hid (HU.out.grow hb1)
  clear ho hb1 HV HU
  go_wp2_with fail
  refine ((HJ _ HU1.out).out).mono ?_
  rintro e w2 ⟨y, rfl, ho, hb1⟩
  obtain ⟨Ay, cy, rfl⟩ := ho.len
  have HB2 := Lib.hid (HB.out.trans (hb1.mono HB.out.size))
  have HL := Lib.hid (lists_new w2 [(.slice Ax (winv a).length cx, winv a), (.slice Ay (winv b).length cy, winv b), ((.slice Av a.length cv), a), ((.slice Au b.length cu), b)] 4 (fun p hp => by
    simp at hp
    rcases hp with rfl | rfl | rfl | rfl
    · exact HX.out.grow hb1
    · exact ho.ints
    · exact HV1.out.grow hb1
    · exact HU1.out.grow hb1))
  clear ho hb1 HV1 HU1 HX HB
  go_wp2_with fail
  refine ((HC _ _ _ _ HL.out).out).mono ?_
  rw [(HF _ _).out]
  rintro e w3 ⟨r, rfl, ho, hb1⟩
  have HB3 := Lib.hid ((HB2.out.alloc HB2.out.size _).trans (hb1.mono (by have := HB2.out.size; simp; omega)))
  have HO := Lib.hid ho.ints
  clear ho hb1 HB2 HL
  go_wp2_with fail
  refine ((HR _ _ HO.out).out).mono ?_
  rintro e w4 ⟨r2, rfl, ho2, hb2⟩
  have HB4 := Lib.hid (HB3.out.trans (hb2.mono HB3.out.size))
  have HO2 := Lib.hid (ho2.base HB3.out.size)
  clear ho2 hb2
  go_wp2_with fail
  go_ret
  exact ⟨_, rfl, HO2.out, HB4.out⟩
end Go.Proofs.YtbcjabmgiodfiabGreatDoor
