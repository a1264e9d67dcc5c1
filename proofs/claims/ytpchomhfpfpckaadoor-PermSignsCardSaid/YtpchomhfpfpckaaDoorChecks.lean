/- perm.check, for one and for two lists. -/
import Derived.Test.YtpchomhfpfpckaaDoorCheck
namespace Go.Proofs.YtpchomhfpfpckaaDoor
open Go Go.RowKit

/-- The first error of two lists; then that of their degrees. -/
def chk2 (zs ys : List Int) : Int := if chk zs ≠ 0 then chk zs else if chk ys ≠ 0 then chk ys else if zs.length ≠ ys.length then 10 else 0
theorem chk2_a {zs ys : List Int} (h : ¬ chk zs = 0) : chk2 zs ys = chk zs := by unfold chk2; rw [if_pos h]
theorem chk2_b {zs ys : List Int} (h : chk zs = 0) (h' : ¬ chk ys = 0) : chk2 zs ys = chk ys := by unfold chk2; rw [if_neg (by omega), if_pos h']
theorem chk2_c {zs ys : List Int} (h : chk zs = 0) (h' : chk ys = 0) (hn : ¬ zs.length = ys.length) : chk2 zs ys = 10 := by unfold chk2; rw [if_neg (by omega), if_neg (by omega), if_pos hn]
theorem chk2_d {zs ys : List Int} (h : chk zs = 0) (h' : chk ys = 0) (hn : zs.length = ys.length) : chk2 zs ys = 0 := by unfold chk2; rw [if_neg (by omega), if_neg (by omega), if_neg (by omega)]

set_option maxRecDepth 100000 in
set_option maxHeartbeats 400000 in
theorem checks_one (B : Nat) (v : Value) (zs : List Int) (w : World) (hl : zs.length ≤ 17592186044400) (hB : B < w.heap.size) (hc : w.cell? ⟨B, 0, none⟩ = some v) (hv : Ints w w.heap.size v zs) :
    Calls Tryd.prog 59 #[.slice (some ⟨B, 0, none⟩) 1 1] w fun e w' => e = .returned (.int .i64 (chk zs)) ∧ Below w.heap.size w w' := by
  have HC := fun W => Lib.hid (check1_any v zs W hl)
  have HV := Lib.hid hv
  obtain ⟨A, c, rfl, h⟩ := hv
  clear h
  generalize chk zs = x at HC
  by_cases hx : x = 0
  · subst hx
    go_enter Tryd.func59, Tryd.ntmps59
    go_wp2
    refine wp_loop_rounds 2 ?_
    rw [rounds_succ]
    go_wp2_with fail
    refine ((HC w).out HV.out).mono ?_
    rintro e w1 ⟨rfl, hb1⟩
    have hc1 : w1.cell? ⟨B, 0, none⟩ = some (.slice A zs.length c) := (hb1.cell (p := ⟨B, 0, none⟩) hB).trans hc
    have HB := Lib.hid hb1
    clear hb1
    go_wp2_with fail
    rw [rounds_succ]
    go_wp2_with fail
    refine wp_loop_rounds 2 ?_
    rw [rounds_succ]
    go_wp2_with fail
    rw [rounds_succ]
    go_wp2_with fail
    go_ret
    exact ⟨rfl, HB.out⟩
  · have hx' : (x != 0) = true := by simpa using hx
    go_enter Tryd.func59, Tryd.ntmps59
    go_wp2
    refine wp_loop_rounds 2 ?_
    rw [rounds_succ]
    go_wp2_with fail
    refine ((HC w).out HV.out).mono ?_
    rintro e w1 ⟨rfl, hb1⟩
    have HB := Lib.hid hb1
    clear hb1
    go_wp2_with fail
    go_ret
    exact ⟨rfl, HB.out⟩

set_option maxRecDepth 100000 in
set_option maxHeartbeats 400000 in
theorem checks_two (B : Nat) (v u : Value) (zs ys : List Int) (w : World) (hl : zs.length ≤ 17592186044400) (hl' : ys.length ≤ 17592186044400) (hB : B < w.heap.size)
    (hc : w.cell? ⟨B, 0, none⟩ = some v) (hd : w.cell? ⟨B, 1, none⟩ = some u) (hv : Ints w w.heap.size v zs) (hu : Ints w w.heap.size u ys) :
    Calls Tryd.prog 59 #[.slice (some ⟨B, 0, none⟩) 2 2] w fun e w' => e = .returned (.int .i64 (chk2 zs ys)) ∧ Below w.heap.size w w' := by
  have HC := fun W => Lib.hid (check1_any v zs W hl)
  have HD := fun W => Lib.hid (check1_any u ys W hl')
  have HV := Lib.hid hv
  have HU := Lib.hid hu
  obtain ⟨A, c, rfl, h⟩ := hv
  clear h
  obtain ⟨A', c', rfl, h⟩ := hu
  clear h
  have HA := Lib.hid (@chk2_a zs ys)
  have HE := Lib.hid (@chk2_b zs ys)
  have HF := Lib.hid (@chk2_c zs ys)
  have HG := Lib.hid (@chk2_d zs ys)
  generalize chk2 zs ys = r at HA HE HF HG
  generalize chk zs = x at HC HA HE HF HG
  generalize chk ys = y at HD HA HE HF HG
  by_cases hx : x = 0
  · subst hx
    by_cases hy : y = 0
    · subst hy
      by_cases hn : zs.length = ys.length
      · have HN := Lib.hid (HG.out rfl rfl hn)
        have hn' : ((ys.length : Int) != (zs.length : Int)) = false := by simp [hn]
        clear hn
        go_enter Tryd.func59, Tryd.ntmps59
        go_wp2
        refine wp_loop_rounds 3 ?_
        rw [rounds_succ]
        go_wp2_with fail
        refine ((HC w).out HV.out).mono ?_
        rintro e w1 ⟨rfl, hb1⟩
        have hc1 : w1.cell? ⟨B, 0, none⟩ = some (.slice A zs.length c) := (hb1.cell (p := ⟨B, 0, none⟩) hB).trans hc
        have hd1 : w1.cell? ⟨B, 1, none⟩ = some (.slice A' ys.length c') := (hb1.cell (p := ⟨B, 1, none⟩) hB).trans hd
        have HB := Lib.hid hb1
        have hB1 : B < w1.heap.size := Nat.lt_of_lt_of_le hB hb1.size
        clear hb1
        go_wp2_with fail
        rw [rounds_succ]
        go_wp2_with fail
        refine ((HD w1).out (Ints.more (HU.out.below HB.out) HB.out.size)).mono ?_
        rintro e w2 ⟨rfl, hb2⟩
        have hc2 : w2.cell? ⟨B, 0, none⟩ = some (.slice A zs.length c) := (hb2.cell (p := ⟨B, 0, none⟩) hB1).trans hc1
        have hd2 : w2.cell? ⟨B, 1, none⟩ = some (.slice A' ys.length c') := (hb2.cell (p := ⟨B, 1, none⟩) hB1).trans hd1
        have HB2 := Lib.hid (HB.out.trans (hb2.mono HB.out.size))
        clear hb2
        go_wp2_with fail
        rw [rounds_succ]
        go_wp2_with fail
        refine wp_loop_rounds 3 ?_
        rw [rounds_succ]
        go_wp2_with fail
        rw [rounds_succ]
        go_wp2_with fail
        rw [rounds_succ]
        go_wp2_with fail
        go_ret
        exact ⟨ret_int HN.out.symm, HB2.out⟩
      · have HN := Lib.hid (HF.out rfl rfl hn)
        have hn' : ((ys.length : Int) != (zs.length : Int)) = true := by simp; omega
        clear hn
        go_enter Tryd.func59, Tryd.ntmps59
        go_wp2
        refine wp_loop_rounds 3 ?_
        rw [rounds_succ]
        go_wp2_with fail
        refine ((HC w).out HV.out).mono ?_
        rintro e w1 ⟨rfl, hb1⟩
        have hc1 : w1.cell? ⟨B, 0, none⟩ = some (.slice A zs.length c) := (hb1.cell (p := ⟨B, 0, none⟩) hB).trans hc
        have hd1 : w1.cell? ⟨B, 1, none⟩ = some (.slice A' ys.length c') := (hb1.cell (p := ⟨B, 1, none⟩) hB).trans hd
        have HB := Lib.hid hb1
        have hB1 : B < w1.heap.size := Nat.lt_of_lt_of_le hB hb1.size
        clear hb1
        go_wp2_with fail
        rw [rounds_succ]
        go_wp2_with fail
        refine ((HD w1).out (Ints.more (HU.out.below HB.out) HB.out.size)).mono ?_
        rintro e w2 ⟨rfl, hb2⟩
        have hc2 : w2.cell? ⟨B, 0, none⟩ = some (.slice A zs.length c) := (hb2.cell (p := ⟨B, 0, none⟩) hB1).trans hc1
        have hd2 : w2.cell? ⟨B, 1, none⟩ = some (.slice A' ys.length c') := (hb2.cell (p := ⟨B, 1, none⟩) hB1).trans hd1
        have HB2 := Lib.hid (HB.out.trans (hb2.mono HB.out.size))
        clear hb2
        go_wp2_with fail
        rw [rounds_succ]
        go_wp2_with fail
        refine wp_loop_rounds 3 ?_
        rw [rounds_succ]
        go_wp2_with fail
        rw [rounds_succ]
        go_wp2_with fail
        go_ret
        exact ⟨ret_int HN.out.symm, HB2.out⟩
    · have HN := Lib.hid (HE.out rfl hy)
      have hy' : (y != 0) = true := by simpa using hy
      clear hy
      go_enter Tryd.func59, Tryd.ntmps59
      go_wp2
      refine wp_loop_rounds 3 ?_
      rw [rounds_succ]
      go_wp2_with fail
      refine ((HC w).out HV.out).mono ?_
      rintro e w1 ⟨rfl, hb1⟩
      have hd1 : w1.cell? ⟨B, 1, none⟩ = some (.slice A' ys.length c') := (hb1.cell (p := ⟨B, 1, none⟩) hB).trans hd
      have HB := Lib.hid hb1
      clear hb1
      go_wp2_with fail
      rw [rounds_succ]
      go_wp2_with fail
      refine ((HD w1).out (Ints.more (HU.out.below HB.out) HB.out.size)).mono ?_
      rintro e w2 ⟨rfl, hb2⟩
      have HB2 := Lib.hid (HB.out.trans (hb2.mono HB.out.size))
      clear hb2
      go_wp2_with fail
      go_ret
      exact ⟨ret_int HN.out.symm, HB2.out⟩
  · have HN := Lib.hid (HA.out hx)
    have hx' : (x != 0) = true := by simpa using hx
    clear hx
    go_enter Tryd.func59, Tryd.ntmps59
    go_wp2
    refine wp_loop_rounds 3 ?_
    rw [rounds_succ]
    go_wp2_with fail
    refine ((HC w).out HV.out).mono ?_
    rintro e w1 ⟨rfl, hb1⟩
    have HB := Lib.hid hb1
    clear hb1
    go_wp2_with fail
    go_ret
    exact ⟨ret_int HN.out.symm, HB.out⟩
end Go.Proofs.YtpchomhfpfpckaaDoor
