/- cayleylaw01.PermNames: written by genpnames.py. -/
import Derived.Test.YtpchomhfpfpckaaDoorPNamesB
namespace Go.Proofs.YtpchomhfpfpckaaDoor
open Go Go.RowKit

set_option maxRecDepth 100000 in
set_option maxHeartbeats 40000000 in
theorem permNames_any (w : World) : Calls Tryd.prog 3 #[] w fun e w' => e = .returned (.bool true) ∧ Below w.heap.size w w' := by
  go_enter Tryd.func3, Tryd.ntmps3
  go_wp2_with fail
  refine (lives_any w).mono ?_
  rintro e w0 ⟨rfl, hb⟩
  have HL := Lib.hid (LiveN.nil w0)
  have HB := Lib.hid hb
  clear hb
  go_wp2_with fail
  replace HL := Lib.hid (HL.out.below (allocB (w0) (.cells #[.int .i64 0, .int .i64 2, .int .i64 1, .int .i64 3, .int .i64 4] 3)))
  replace HB := Lib.hid (HB.out.alloc HB.out.size (.cells #[.int .i64 0, .int .i64 2, .int .i64 1, .int .i64 3, .int .i64 4] 3))
  replace HL := Lib.hid (HL.out.push (ints_lit (w0) LCc #[.int .i64 0, .int .i64 2, .int .i64 1, .int .i64 3, .int .i64 4] 5 rfl))
  have HC := Lib.hid (b_ints ((w0).alloc (.cells #[.int .i64 0, .int .i64 2, .int .i64 1, .int .i64 3, .int .i64 4] 3)))
  refine HC.out.mono ?_
  rintro e w1 ⟨a1, rfl, hi, hb⟩
  replace HL := Lib.hid (HL.out.below hb)
  replace HB := Lib.hid (HB.out.trans (hb.mono HB.out.size))
  replace HL := Lib.hid (HL.out.push hi)
  clear hi
  clear HC hb
  go_wp2_with fail
  have HC := Lib.hid (a_ints (w1))
  refine HC.out.mono ?_
  rintro e w2 ⟨a2, rfl, hi, hb⟩
  replace HL := Lib.hid (HL.out.below hb)
  replace HB := Lib.hid (HB.out.trans (hb.mono HB.out.size))
  replace HL := Lib.hid (HL.out.push hi)
  clear hi
  clear HC hb
  go_wp2_with fail
  have HC := Lib.hid (nm_mul a1 a2 _ (HL.out 1 _ rfl) (HL.out 0 _ rfl))
  refine HC.out.mono ?_
  rintro e w3 ⟨r3, rfl, hb, hi⟩
  replace HL := Lib.hid (HL.out.below hb)
  replace HB := Lib.hid (HB.out.trans (hb.mono HB.out.size))
  replace HL := Lib.hid (HL.out.push hi)
  clear hi
  clear HC hb
  replace HL := Lib.hid ((HL.out.tail.tail.tail).push (HL.out 0 _ rfl))
  go_wp2_with fail
  have HC := Lib.hid (a_ints (w3))
  refine HC.out.mono ?_
  rintro e w4 ⟨a4, rfl, hi, hb⟩
  replace HL := Lib.hid (HL.out.below hb)
  replace HB := Lib.hid (HB.out.trans (hb.mono HB.out.size))
  replace HL := Lib.hid (HL.out.push hi)
  clear hi
  clear HC hb
  go_wp2_with fail
  have HC := Lib.hid (nm_inv a4 _ (HL.out 0 _ rfl))
  refine HC.out.mono ?_
  rintro e w5 ⟨r5, rfl, hb, hi⟩
  replace HL := Lib.hid (HL.out.below hb)
  replace HB := Lib.hid (HB.out.trans (hb.mono HB.out.size))
  replace HL := Lib.hid (HL.out.push hi)
  clear hi
  clear HC hb
  replace HL := Lib.hid ((HL.out.tail.tail).push (HL.out 0 _ rfl))
  go_wp2_with fail
  have HC := Lib.hid (a_ints (w5))
  refine HC.out.mono ?_
  rintro e w6 ⟨a6, rfl, hi, hb⟩
  replace HL := Lib.hid (HL.out.below hb)
  replace HB := Lib.hid (HB.out.trans (hb.mono HB.out.size))
  replace HL := Lib.hid (HL.out.push hi)
  clear hi
  clear HC hb
  go_wp2_with fail
  have HC := Lib.hid (nm_pow1 a6 _ (HL.out 0 _ rfl))
  refine HC.out.mono ?_
  rintro e w7 ⟨r7, rfl, hb, hi⟩
  replace HL := Lib.hid (HL.out.below hb)
  replace HB := Lib.hid (HB.out.trans (hb.mono HB.out.size))
  replace HL := Lib.hid (HL.out.push hi)
  clear hi
  clear HC hb
  replace HL := Lib.hid ((HL.out.tail.tail).push (HL.out 0 _ rfl))
  go_wp2_with fail
  have HC := Lib.hid (a_ints (w7))
  refine HC.out.mono ?_
  rintro e w8 ⟨a8, rfl, hi, hb⟩
  replace HL := Lib.hid (HL.out.below hb)
  replace HB := Lib.hid (HB.out.trans (hb.mono HB.out.size))
  replace HL := Lib.hid (HL.out.push hi)
  clear hi
  clear HC hb
  go_wp2_with fail
  have HC := Lib.hid (nm_pow7 a8 _ (HL.out 0 _ rfl))
  refine HC.out.mono ?_
  rintro e w9 ⟨r9, rfl, hb, hi⟩
  replace HL := Lib.hid (HL.out.below hb)
  replace HB := Lib.hid (HB.out.trans (hb.mono HB.out.size))
  replace HL := Lib.hid (HL.out.push hi)
  clear hi
  clear HC hb
  replace HL := Lib.hid ((HL.out.tail.tail).push (HL.out 0 _ rfl))
  go_wp2_with fail
  have HC := Lib.hid (a_ints (w9))
  refine HC.out.mono ?_
  rintro e w10 ⟨a10, rfl, hi, hb⟩
  replace HL := Lib.hid (HL.out.below hb)
  replace HB := Lib.hid (HB.out.trans (hb.mono HB.out.size))
  replace HL := Lib.hid (HL.out.push hi)
  clear hi
  clear HC hb
  go_wp2_with fail
  have HC := Lib.hid (nm_conj a10 _ _ (HL.out 0 _ rfl) (HL.out 5 _ rfl))
  refine HC.out.mono ?_
  rintro e w11 ⟨r11, rfl, hb, hi⟩
  replace HL := Lib.hid (HL.out.below hb)
  replace HB := Lib.hid (HB.out.trans (hb.mono HB.out.size))
  replace HL := Lib.hid (HL.out.push hi)
  clear hi
  clear HC hb
  replace HL := Lib.hid ((HL.out.tail.tail).push (HL.out 0 _ rfl))
  go_wp2_with fail
  have HC := Lib.hid (a_ints (w11))
  refine HC.out.mono ?_
  rintro e w12 ⟨a12, rfl, hi, hb⟩
  replace HL := Lib.hid (HL.out.below hb)
  replace HB := Lib.hid (HB.out.trans (hb.mono HB.out.size))
  replace HL := Lib.hid (HL.out.push hi)
  clear hi
  clear HC hb
  go_wp2_with fail
  have HC := Lib.hid (nm_comm a12 _ _ (HL.out 0 _ rfl) (HL.out 6 _ rfl))
  refine HC.out.mono ?_
  rintro e w13 ⟨r13, rfl, hb, hi⟩
  replace HL := Lib.hid (HL.out.below hb)
  replace HB := Lib.hid (HB.out.trans (hb.mono HB.out.size))
  replace HL := Lib.hid (HL.out.push hi)
  clear hi
  clear HC hb
  replace HL := Lib.hid ((HL.out.tail.tail).push (HL.out 0 _ rfl))
  go_wp2_with fail
  replace HL := Lib.hid (HL.out.below (allocB (w13) (.cells #[.int .i64 1, .int .i64 2, .int .i64 0, .int .i64 3, .int .i64 4] 3)))
  replace HB := Lib.hid (HB.out.alloc HB.out.size (.cells #[.int .i64 1, .int .i64 2, .int .i64 0, .int .i64 3, .int .i64 4] 3))
  replace HL := Lib.hid (HL.out.push (ints_lit (w13) [1, 2, 0, 3, 4] #[.int .i64 1, .int .i64 2, .int .i64 0, .int .i64 3, .int .i64 4] 5 rfl))
  have HC := Lib.hid (nm_is _ _ [1, 2, 0, 3, 4] _ (by decide) (HL.out 6 _ rfl) (HL.out 0 _ rfl))
  refine HC.out.mono ?_
  rintro e w14 ⟨rfl, hb⟩
  replace HL := Lib.hid (HL.out.below hb)
  replace HB := Lib.hid (HB.out.trans (hb.mono HB.out.size))
  clear HC hb
  go_wp2_with fail
  replace HL := Lib.hid HL.out.tail
  replace HL := Lib.hid (HL.out.below (allocB (w14) (.cells #[.int .i64 2, .int .i64 0, .int .i64 1, .int .i64 4, .int .i64 3] 3)))
  replace HB := Lib.hid (HB.out.alloc HB.out.size (.cells #[.int .i64 2, .int .i64 0, .int .i64 1, .int .i64 4, .int .i64 3] 3))
  replace HL := Lib.hid (HL.out.push (ints_lit (w14) [2, 0, 1, 4, 3] #[.int .i64 2, .int .i64 0, .int .i64 1, .int .i64 4, .int .i64 3] 5 rfl))
  have HC := Lib.hid (nm_is _ _ [2, 0, 1, 4, 3] _ (by decide) (HL.out 5 _ rfl) (HL.out 0 _ rfl))
  refine HC.out.mono ?_
  rintro e w15 ⟨rfl, hb⟩
  replace HL := Lib.hid (HL.out.below hb)
  replace HB := Lib.hid (HB.out.trans (hb.mono HB.out.size))
  clear HC hb
  go_wp2_with fail
  replace HL := Lib.hid HL.out.tail
  replace HL := Lib.hid (HL.out.below (allocB (w15) (.cells #[.int .i64 2, .int .i64 0, .int .i64 1, .int .i64 4, .int .i64 3] 3)))
  replace HB := Lib.hid (HB.out.alloc HB.out.size (.cells #[.int .i64 2, .int .i64 0, .int .i64 1, .int .i64 4, .int .i64 3] 3))
  replace HL := Lib.hid (HL.out.push (ints_lit (w15) [2, 0, 1, 4, 3] #[.int .i64 2, .int .i64 0, .int .i64 1, .int .i64 4, .int .i64 3] 5 rfl))
  have HC := Lib.hid (nm_is _ _ [2, 0, 1, 4, 3] _ (by decide) (HL.out 4 _ rfl) (HL.out 0 _ rfl))
  refine HC.out.mono ?_
  rintro e w16 ⟨rfl, hb⟩
  replace HL := Lib.hid (HL.out.below hb)
  replace HB := Lib.hid (HB.out.trans (hb.mono HB.out.size))
  clear HC hb
  go_wp2_with fail
  replace HL := Lib.hid HL.out.tail
  replace HL := Lib.hid (HL.out.below (allocB (w16) (.cells #[.int .i64 1, .int .i64 2, .int .i64 0, .int .i64 4, .int .i64 3] 3)))
  replace HB := Lib.hid (HB.out.alloc HB.out.size (.cells #[.int .i64 1, .int .i64 2, .int .i64 0, .int .i64 4, .int .i64 3] 3))
  replace HL := Lib.hid (HL.out.push (ints_lit (w16) [1, 2, 0, 4, 3] #[.int .i64 1, .int .i64 2, .int .i64 0, .int .i64 4, .int .i64 3] 5 rfl))
  have HC := Lib.hid (nm_is _ _ [1, 2, 0, 4, 3] _ (by decide) (HL.out 3 _ rfl) (HL.out 0 _ rfl))
  refine HC.out.mono ?_
  rintro e w17 ⟨rfl, hb⟩
  replace HL := Lib.hid (HL.out.below hb)
  replace HB := Lib.hid (HB.out.trans (hb.mono HB.out.size))
  clear HC hb
  go_wp2_with fail
  replace HL := Lib.hid HL.out.tail
  replace HL := Lib.hid (HL.out.below (allocB (w17) (.cells #[.int .i64 2, .int .i64 0, .int .i64 1, .int .i64 4, .int .i64 3] 3)))
  replace HB := Lib.hid (HB.out.alloc HB.out.size (.cells #[.int .i64 2, .int .i64 0, .int .i64 1, .int .i64 4, .int .i64 3] 3))
  replace HL := Lib.hid (HL.out.push (ints_lit (w17) [2, 0, 1, 4, 3] #[.int .i64 2, .int .i64 0, .int .i64 1, .int .i64 4, .int .i64 3] 5 rfl))
  have HC := Lib.hid (nm_is _ _ [2, 0, 1, 4, 3] _ (by decide) (HL.out 2 _ rfl) (HL.out 0 _ rfl))
  refine HC.out.mono ?_
  rintro e w18 ⟨rfl, hb⟩
  replace HL := Lib.hid (HL.out.below hb)
  replace HB := Lib.hid (HB.out.trans (hb.mono HB.out.size))
  clear HC hb
  go_wp2_with fail
  replace HL := Lib.hid HL.out.tail
  replace HL := Lib.hid (HL.out.below (allocB (w18) (.cells #[.int .i64 1, .int .i64 2, .int .i64 0, .int .i64 3, .int .i64 4] 3)))
  replace HB := Lib.hid (HB.out.alloc HB.out.size (.cells #[.int .i64 1, .int .i64 2, .int .i64 0, .int .i64 3, .int .i64 4] 3))
  replace HL := Lib.hid (HL.out.push (ints_lit (w18) [1, 2, 0, 3, 4] #[.int .i64 1, .int .i64 2, .int .i64 0, .int .i64 3, .int .i64 4] 5 rfl))
  have HC := Lib.hid (nm_is _ _ [1, 2, 0, 3, 4] _ (by decide) (HL.out 1 _ rfl) (HL.out 0 _ rfl))
  refine HC.out.mono ?_
  rintro e w19 ⟨rfl, hb⟩
  replace HL := Lib.hid (HL.out.below hb)
  replace HB := Lib.hid (HB.out.trans (hb.mono HB.out.size))
  clear HC hb
  go_wp2_with fail
  replace HL := Lib.hid HL.out.tail
  replace HL := Lib.hid (LiveN.nil w19)
  have HC := Lib.hid (a_ints (w19))
  refine HC.out.mono ?_
  rintro e w20 ⟨a20, rfl, hi, hb⟩
  replace HL := Lib.hid (HL.out.below hb)
  replace HB := Lib.hid (HB.out.trans (hb.mono HB.out.size))
  replace HL := Lib.hid (HL.out.push hi)
  clear hi
  clear HC hb
  go_wp2_with fail
  have HC := Lib.hid (nm_cycles a20 _ (HL.out 0 _ rfl))
  refine HC.out.mono ?_
  rintro e w21 ⟨r21, ps, rfl, hb, hl, he⟩
  replace HL := Lib.hid (HL.out.below hb)
  replace HB := Lib.hid (HB.out.trans (hb.mono HB.out.size))
  have HCY := Lib.hid hl
  have HE := Lib.hid he
  clear hl he
  clear HC hb
  go_wp2_with fail
  replace HL := Lib.hid HL.out.tail
  have HC := Lib.hid (a_ints (w21))
  refine HC.out.mono ?_
  rintro e w22 ⟨a22, rfl, hi, hb⟩
  replace HL := Lib.hid (HL.out.below hb)
  replace HCY := Lib.hid (HCY.out.growN hb)
  replace HB := Lib.hid (HB.out.trans (hb.mono HB.out.size))
  replace HL := Lib.hid (HL.out.push hi)
  clear hi
  clear HC hb
  go_wp2_with fail
  have HC := Lib.hid (nm_typeA a22 _ (HL.out 0 _ rfl))
  refine HC.out.mono ?_
  rintro e w23 ⟨r23, rfl, hb, hi⟩
  replace HL := Lib.hid (HL.out.below hb)
  replace HCY := Lib.hid (HCY.out.growN hb)
  replace HB := Lib.hid (HB.out.trans (hb.mono HB.out.size))
  replace HL := Lib.hid (HL.out.push hi)
  clear hi
  clear HC hb
  replace HL := Lib.hid ((HL.out.tail.tail).push (HL.out 0 _ rfl))
  go_wp2_with fail
  have HC := Lib.hid (b_ints (w23))
  refine HC.out.mono ?_
  rintro e w24 ⟨a24, rfl, hi, hb⟩
  replace HL := Lib.hid (HL.out.below hb)
  replace HCY := Lib.hid (HCY.out.growN hb)
  replace HB := Lib.hid (HB.out.trans (hb.mono HB.out.size))
  replace HL := Lib.hid (HL.out.push hi)
  clear hi
  clear HC hb
  go_wp2_with fail
  have HC := Lib.hid (nm_typeB a24 _ (HL.out 0 _ rfl))
  refine HC.out.mono ?_
  rintro e w25 ⟨r25, rfl, hb, hi⟩
  replace HL := Lib.hid (HL.out.below hb)
  replace HCY := Lib.hid (HCY.out.growN hb)
  replace HB := Lib.hid (HB.out.trans (hb.mono HB.out.size))
  replace HL := Lib.hid (HL.out.push hi)
  clear hi
  clear HC hb
  replace HL := Lib.hid ((HL.out.tail.tail).push (HL.out 0 _ rfl))
  go_wp2_with fail
  have HC := Lib.hid (a_ints (w25))
  refine HC.out.mono ?_
  rintro e w26 ⟨a26, rfl, hi, hb⟩
  replace HL := Lib.hid (HL.out.below hb)
  replace HCY := Lib.hid (HCY.out.growN hb)
  replace HB := Lib.hid (HB.out.trans (hb.mono HB.out.size))
  replace HL := Lib.hid (HL.out.push hi)
  clear hi
  clear HC hb
  go_wp2_with fail
  have HC := Lib.hid (nm_sign a26 _ (HL.out 0 _ rfl))
  refine HC.out.mono ?_
  rintro e w27 ⟨rfl, hb⟩
  replace HL := Lib.hid (HL.out.below hb)
  replace HCY := Lib.hid (HCY.out.growN hb)
  replace HB := Lib.hid (HB.out.trans (hb.mono HB.out.size))
  clear HC hb
  go_wp2_with fail
  replace HL := Lib.hid HL.out.tail
  have hli := lit_lists w27
  replace HL := Lib.hid (HL.out.below (allocB (w27) (.cells #[.int .i64 0, .int .i64 1, .int .i64 2] 3)))
  replace HCY := Lib.hid (HCY.out.growN (allocB (w27) (.cells #[.int .i64 0, .int .i64 1, .int .i64 2] 3)))
  replace HB := Lib.hid (HB.out.alloc HB.out.size (.cells #[.int .i64 0, .int .i64 1, .int .i64 2] 3))
  replace HL := Lib.hid (HL.out.below (allocB ((w27).alloc (.cells #[.int .i64 0, .int .i64 1, .int .i64 2] 3)) (.cells #[.int .i64 3, .int .i64 4] 3)))
  replace HCY := Lib.hid (HCY.out.growN (allocB ((w27).alloc (.cells #[.int .i64 0, .int .i64 1, .int .i64 2] 3)) (.cells #[.int .i64 3, .int .i64 4] 3)))
  replace HB := Lib.hid (HB.out.alloc HB.out.size (.cells #[.int .i64 3, .int .i64 4] 3))
  replace HL := Lib.hid (HL.out.below (allocB (((w27).alloc (.cells #[.int .i64 0, .int .i64 1, .int .i64 2] 3)).alloc (.cells #[.int .i64 3, .int .i64 4] 3)) (.cells #[.slice (some ⟨w27.heap.size, 0, none⟩) 3 3, .slice (some ⟨w27.heap.size + 1, 0, none⟩) 2 2] 23)))
  replace HCY := Lib.hid (HCY.out.growN (allocB (((w27).alloc (.cells #[.int .i64 0, .int .i64 1, .int .i64 2] 3)).alloc (.cells #[.int .i64 3, .int .i64 4] 3)) (.cells #[.slice (some ⟨w27.heap.size, 0, none⟩) 3 3, .slice (some ⟨w27.heap.size + 1, 0, none⟩) 2 2] 23)))
  replace HB := Lib.hid (HB.out.alloc HB.out.size (.cells #[.slice (some ⟨w27.heap.size, 0, none⟩) 3 3, .slice (some ⟨w27.heap.size + 1, 0, none⟩) 2 2] 23))
  have HC := Lib.hid (nm_lists r21 (.slice (some ⟨w27.heap.size + 2, 0, none⟩) 2 2) ps [(.slice (some ⟨w27.heap.size, 0, none⟩) 3 3, [0, 1, 2]), (.slice (some ⟨w27.heap.size + 1, 0, none⟩) 2 2, [3, 4])] _ HE.out rfl HCY.out hli)
  refine HC.out.mono ?_
  rintro e w28 ⟨rfl, hb⟩
  replace HL := Lib.hid (HL.out.below hb)
  replace HCY := Lib.hid (HCY.out.growN hb)
  replace HB := Lib.hid (HB.out.trans (hb.mono HB.out.size))
  clear HC hb
  go_wp2_with fail
  clear hli HCY HE
  replace HL := Lib.hid (HL.out.below (allocB (w28) (.cells #[.int .i64 3, .int .i64 2] 3)))
  replace HB := Lib.hid (HB.out.alloc HB.out.size (.cells #[.int .i64 3, .int .i64 2] 3))
  replace HL := Lib.hid (HL.out.push (ints_lit (w28) [3, 2] #[.int .i64 3, .int .i64 2] 2 rfl))
  have HC := Lib.hid (nm_same _ _ [3, 2] _ (by decide) (HL.out 2 _ rfl) (HL.out 0 _ rfl))
  refine HC.out.mono ?_
  rintro e w29 ⟨rfl, hb⟩
  replace HL := Lib.hid (HL.out.below hb)
  replace HB := Lib.hid (HB.out.trans (hb.mono HB.out.size))
  clear HC hb
  go_wp2_with fail
  replace HL := Lib.hid HL.out.tail
  replace HL := Lib.hid (HL.out.below (allocB (w29) (.cells #[.int .i64 2, .int .i64 1, .int .i64 1, .int .i64 1] 3)))
  replace HB := Lib.hid (HB.out.alloc HB.out.size (.cells #[.int .i64 2, .int .i64 1, .int .i64 1, .int .i64 1] 3))
  replace HL := Lib.hid (HL.out.push (ints_lit (w29) [2, 1, 1, 1] #[.int .i64 2, .int .i64 1, .int .i64 1, .int .i64 1] 4 rfl))
  have HC := Lib.hid (nm_same _ _ [2, 1, 1, 1] _ (by decide) (HL.out 1 _ rfl) (HL.out 0 _ rfl))
  refine HC.out.mono ?_
  rintro e w30 ⟨rfl, hb⟩
  replace HL := Lib.hid (HL.out.below hb)
  replace HB := Lib.hid (HB.out.trans (hb.mono HB.out.size))
  clear HC hb
  go_wp2_with fail
  replace HL := Lib.hid HL.out.tail
  replace HL := Lib.hid (LiveN.nil w30)
  have HC := Lib.hid (nm_one64 w30)
  refine HC.out.mono ?_
  rintro e w31 ⟨r31, rfl, hb, hi⟩
  replace HL := Lib.hid (HL.out.below hb)
  replace HB := Lib.hid (HB.out.trans (hb.mono HB.out.size))
  replace HL := Lib.hid (HL.out.push hi)
  clear hi
  clear HC hb
  go_wp2_with fail
  have HC := Lib.hid (nm_text r31 _ (HL.out 0 _ rfl))
  refine HC.out.mono ?_
  rintro e w32 ⟨rfl, hb⟩
  replace HL := Lib.hid (HL.out.below hb)
  replace HB := Lib.hid (HB.out.trans (hb.mono HB.out.size))
  clear HC hb
  go_wp2_with fail
  have HC := Lib.hid (nm_parse w32)
  refine HC.out.mono ?_
  rintro e w33 ⟨q33, rfl, hi, hb⟩
  replace HL := Lib.hid (HL.out.below hb)
  replace HB := Lib.hid (HB.out.trans (hb.mono HB.out.size))
  replace HL := Lib.hid (HL.out.push hi)
  clear hi
  clear HC hb
  have HFR := Lib.hid (Row.new w33 45 #[.int .i64 0, .int .i64 0])
  replace HL := Lib.hid (HL.out.below (allocB (w33) (.cells #[.int .i64 0, .int .i64 0] 45)))
  replace HB := Lib.hid (HB.out.alloc HB.out.size (.cells #[.int .i64 0, .int .i64 0] 45))
  go_wp2_with fail
  have HC := Lib.hid (nm_kone 64 ((w33).alloc (.cells #[.int .i64 0, .int .i64 0] 45)) (by decide))
  refine HC.out.mono ?_
  rintro e w34 ⟨a34, rfl, hi, hb⟩
  replace HL := Lib.hid (HL.out.below hb)
  replace HFR := Lib.hid (Row.below HFR.out hb (Row.lt HFR.out))
  replace HB := Lib.hid (HB.out.trans (hb.mono HB.out.size))
  replace HL := Lib.hid (HL.out.push hi)
  clear hi
  clear HC hb
  go_wp2_with fail
  have HC := Lib.hid (nm_same r31 _ (idL 64) _ (by decide) (HL.out 2 _ rfl) (HL.out 0 _ rfl))
  refine HC.out.mono ?_
  rintro e w35 ⟨rfl, hb⟩
  replace HL := Lib.hid (HL.out.below hb)
  replace HFR := Lib.hid (Row.below HFR.out hb (Row.lt HFR.out))
  replace HB := Lib.hid (HB.out.trans (hb.mono HB.out.size))
  clear HC hb
  replace HL := Lib.hid HL.out.tail
  have hc0 := HFR.out.cell (i := 0) rfl
  have hc1 := HFR.out.cell (i := 1) rfl
  go_wp2_with fail
  clear hc0 hc1 HFR
  have HC := Lib.hid (a_ints (w35))
  refine HC.out.mono ?_
  rintro e w36 ⟨a36, rfl, hi, hb⟩
  replace HL := Lib.hid (HL.out.below hb)
  replace HB := Lib.hid (HB.out.trans (hb.mono HB.out.size))
  replace HL := Lib.hid (HL.out.push hi)
  clear hi
  clear HC hb
  go_wp2_with fail
  have HC := Lib.hid (nm_same _ _ LA _ (by decide) (HL.out 1 _ rfl) (HL.out 0 _ rfl))
  refine HC.out.mono ?_
  rintro e w37 ⟨rfl, hb⟩
  replace HL := Lib.hid (HL.out.below hb)
  replace HB := Lib.hid (HB.out.trans (hb.mono HB.out.size))
  clear HC hb
  go_wp2_with fail
  replace HL := Lib.hid (LiveN.nil w37)
  have HC := Lib.hid (nm_f2 w37)
  refine HC.out.mono ?_
  rintro e w38 ⟨rfl, hb⟩
  replace HL := Lib.hid (HL.out.below hb)
  replace HB := Lib.hid (HB.out.trans (hb.mono HB.out.size))
  clear HC hb
  go_wp2_with fail
  have HC := Lib.hid (nm_f3 w38)
  refine HC.out.mono ?_
  rintro e w39 ⟨rfl, hb⟩
  replace HL := Lib.hid (HL.out.below hb)
  replace HB := Lib.hid (HB.out.trans (hb.mono HB.out.size))
  clear HC hb
  go_wp2_with fail
  have HC := Lib.hid (nm_f4 w39)
  refine HC.out.mono ?_
  rintro e w40 ⟨rfl, hb⟩
  replace HL := Lib.hid (HL.out.below hb)
  replace HB := Lib.hid (HB.out.trans (hb.mono HB.out.size))
  clear HC hb
  go_wp2_with fail
  have HC := Lib.hid (nm_f5 w40)
  refine HC.out.mono ?_
  rintro e w41 ⟨rfl, hb⟩
  replace HL := Lib.hid (HL.out.below hb)
  replace HB := Lib.hid (HB.out.trans (hb.mono HB.out.size))
  clear HC hb
  go_wp2_with fail
  have HC := Lib.hid (nm_f6 w41)
  refine HC.out.mono ?_
  rintro e w42 ⟨rfl, hb⟩
  replace HL := Lib.hid (HL.out.below hb)
  replace HB := Lib.hid (HB.out.trans (hb.mono HB.out.size))
  clear HC hb
  go_wp2_with fail
  have HC := Lib.hid (nm_f7 w42)
  refine HC.out.mono ?_
  rintro e w43 ⟨rfl, hb⟩
  replace HL := Lib.hid (HL.out.below hb)
  replace HB := Lib.hid (HB.out.trans (hb.mono HB.out.size))
  clear HC hb
  go_wp2_with fail
  have HC := Lib.hid (nm_many 32 20001 w43 (by decide) (by decide))
  refine HC.out.mono ?_
  rintro e w44 ⟨t44, rfl, ht, hb⟩
  replace HL := Lib.hid (HL.out.below hb)
  replace HB := Lib.hid (HB.out.trans (hb.mono HB.out.size))
  have HT := Lib.hid ht
  clear ht
  clear HC hb
  go_wp2_with fail
  have HC := Lib.hid (nm_f8 t44 HT.out w44)
  refine HC.out.mono ?_
  rintro e w45 ⟨rfl, hb⟩
  replace HL := Lib.hid (HL.out.below hb)
  replace HB := Lib.hid (HB.out.trans (hb.mono HB.out.size))
  clear HC hb
  go_wp2_with fail
  clear HT
  have HC := Lib.hid (nm_one65 w45)
  refine HC.out.mono ?_
  rintro e w46 ⟨rfl, hb⟩
  replace HL := Lib.hid (HL.out.below hb)
  replace HB := Lib.hid (HB.out.trans (hb.mono HB.out.size))
  clear HC hb
  go_wp2_with fail
  have HC := Lib.hid (a_ints (w46))
  refine HC.out.mono ?_
  rintro e w47 ⟨a47, rfl, hi, hb⟩
  replace HL := Lib.hid (HL.out.below hb)
  replace HB := Lib.hid (HB.out.trans (hb.mono HB.out.size))
  replace HL := Lib.hid (HL.out.push hi)
  clear hi
  clear HC hb
  go_wp2_with fail
  replace HL := Lib.hid (HL.out.below (allocB (w47) (.cells #[.int .i64 1, .int .i64 0] 3)))
  replace HB := Lib.hid (HB.out.alloc HB.out.size (.cells #[.int .i64 1, .int .i64 0] 3))
  replace HL := Lib.hid (HL.out.push (ints_lit (w47) [1, 0] #[.int .i64 1, .int .i64 0] 2 rfl))
  have HC := Lib.hid (nm_mul2 a47 (.slice (some ⟨(w47).heap.size, 0, none⟩) 2 2) _ (HL.out 1 _ rfl) (HL.out 0 _ rfl))
  refine HC.out.mono ?_
  rintro e w48 ⟨rfl, hb⟩
  replace HL := Lib.hid (HL.out.below hb)
  replace HB := Lib.hid (HB.out.trans (hb.mono HB.out.size))
  clear HC hb
  go_wp2_with fail
  replace HL := Lib.hid HL.out.tail
  replace HL := Lib.hid HL.out.tail
  replace HL := Lib.hid (HL.out.below (allocB (w48) (.cells #[.int .i64 0, .int .i64 0] 3)))
  replace HB := Lib.hid (HB.out.alloc HB.out.size (.cells #[.int .i64 0, .int .i64 0] 3))
  replace HL := Lib.hid (HL.out.push (ints_lit (w48) [0, 0] #[.int .i64 0, .int .i64 0] 2 rfl))
  have HC := Lib.hid (nm_chk (.slice (some ⟨(w48).heap.size, 0, none⟩) 2 2) [0, 0] 3 _ (by decide) (by decide +kernel) (HL.out 0 _ rfl))
  refine HC.out.mono ?_
  rintro e w49 ⟨rfl, hb⟩
  replace HL := Lib.hid (HL.out.below hb)
  replace HB := Lib.hid (HB.out.trans (hb.mono HB.out.size))
  clear HC hb
  go_wp2_with fail
  replace HL := Lib.hid HL.out.tail
  have HC := Lib.hid (nm_chk (.slice none 0 0) [] 2 w49 (by decide) (by decide +kernel) (Ints.nil0 _ _))
  refine HC.out.mono ?_
  rintro e w50 ⟨rfl, hb⟩
  replace HL := Lib.hid (HL.out.below hb)
  replace HB := Lib.hid (HB.out.trans (hb.mono HB.out.size))
  clear HC hb
  go_wp2_with fail
  have HC := Lib.hid (nm_kone 65 (w50) (by decide))
  refine HC.out.mono ?_
  rintro e w51 ⟨a51, rfl, hi, hb⟩
  replace HL := Lib.hid (HL.out.below hb)
  replace HB := Lib.hid (HB.out.trans (hb.mono HB.out.size))
  replace HL := Lib.hid (HL.out.push hi)
  clear hi
  clear HC hb
  go_wp2_with fail
  have HC := Lib.hid (nm_chk a51 (idL 65) 2 _ (by decide) (by decide +kernel) (HL.out 0 _ rfl))
  refine HC.out.mono ?_
  rintro e w52 ⟨rfl, hb⟩
  replace HL := Lib.hid (HL.out.below hb)
  replace HB := Lib.hid (HB.out.trans (hb.mono HB.out.size))
  clear HC hb
  go_wp2_with fail
  replace HL := Lib.hid HL.out.tail
  have HC := Lib.hid (nm_cmp (.slice none 0 0) (.slice none 0 0) [] [] 0 (w52) (by decide) (by decide) (by decide +kernel) (Ints.nil0 _ _) (Ints.nil0 _ _))
  refine HC.out.mono ?_
  rintro e w53 ⟨rfl, hww⟩
  have hb : Below (w52).heap.size (w52) w53 := by rw [hww]; exact Below.refl _ _
  replace HL := Lib.hid (HL.out.below hb)
  replace HB := Lib.hid (HB.out.trans (hb.mono HB.out.size))
  clear HC hb hww
  go_wp2_with fail
  replace HL := Lib.hid (HL.out.below (allocB (w53) (.cells #[.int .i64 1] 3)))
  replace HB := Lib.hid (HB.out.alloc HB.out.size (.cells #[.int .i64 1] 3))
  replace HL := Lib.hid (HL.out.push (ints_lit (w53) [1] #[.int .i64 1] 1 rfl))
  replace HL := Lib.hid (HL.out.below (allocB ((w53).alloc (.cells #[.int .i64 1] 3)) (.cells #[.int .i64 1, .int .i64 0] 3)))
  replace HB := Lib.hid (HB.out.alloc HB.out.size (.cells #[.int .i64 1, .int .i64 0] 3))
  replace HL := Lib.hid (HL.out.push (ints_lit ((w53).alloc (.cells #[.int .i64 1] 3)) [1, 0] #[.int .i64 1, .int .i64 0] 2 rfl))
  have HC := Lib.hid (nm_cmp (.slice (some ⟨(w53).heap.size, 0, none⟩) 1 1) (.slice (some ⟨((w53).alloc (.cells #[.int .i64 1] 3)).heap.size, 0, none⟩) 2 2) [1] [1, 0] (-1) _ (by decide) (by decide) (by decide +kernel) (HL.out 1 _ rfl) (HL.out 0 _ rfl))
  rw [show ((w53).alloc (.cells #[.int .i64 1] 3)).heap.size = (w53).heap.size + 1 from World.size_alloc _ _] at HC
  refine HC.out.mono ?_
  rintro e w54 ⟨rfl, hww⟩
  have hb : Below (((w53).alloc (.cells #[.int .i64 1] 3)).alloc (.cells #[.int .i64 1, .int .i64 0] 3)).heap.size (((w53).alloc (.cells #[.int .i64 1] 3)).alloc (.cells #[.int .i64 1, .int .i64 0] 3)) w54 := by rw [hww]; exact Below.refl _ _
  replace HL := Lib.hid (HL.out.below hb)
  replace HB := Lib.hid (HB.out.trans (hb.mono HB.out.size))
  clear HC hb hww
  go_wp2_with fail
  replace HL := Lib.hid HL.out.tail
  replace HL := Lib.hid HL.out.tail
  replace HL := Lib.hid (HL.out.below (allocB (w54) (.cells #[.int .i64 2] 3)))
  replace HB := Lib.hid (HB.out.alloc HB.out.size (.cells #[.int .i64 2] 3))
  replace HL := Lib.hid (HL.out.push (ints_lit (w54) [2] #[.int .i64 2] 1 rfl))
  replace HL := Lib.hid (HL.out.below (allocB ((w54).alloc (.cells #[.int .i64 2] 3)) (.cells #[.int .i64 1, .int .i64 5] 3)))
  replace HB := Lib.hid (HB.out.alloc HB.out.size (.cells #[.int .i64 1, .int .i64 5] 3))
  replace HL := Lib.hid (HL.out.push (ints_lit ((w54).alloc (.cells #[.int .i64 2] 3)) [1, 5] #[.int .i64 1, .int .i64 5] 2 rfl))
  have HC := Lib.hid (nm_cmp (.slice (some ⟨(w54).heap.size, 0, none⟩) 1 1) (.slice (some ⟨((w54).alloc (.cells #[.int .i64 2] 3)).heap.size, 0, none⟩) 2 2) [2] [1, 5] 1 _ (by decide) (by decide) (by decide +kernel) (HL.out 1 _ rfl) (HL.out 0 _ rfl))
  rw [show ((w54).alloc (.cells #[.int .i64 2] 3)).heap.size = (w54).heap.size + 1 from World.size_alloc _ _] at HC
  refine HC.out.mono ?_
  rintro e w55 ⟨rfl, hww⟩
  have hb : Below (((w54).alloc (.cells #[.int .i64 2] 3)).alloc (.cells #[.int .i64 1, .int .i64 5] 3)).heap.size (((w54).alloc (.cells #[.int .i64 2] 3)).alloc (.cells #[.int .i64 1, .int .i64 5] 3)) w55 := by rw [hww]; exact Below.refl _ _
  replace HL := Lib.hid (HL.out.below hb)
  replace HB := Lib.hid (HB.out.trans (hb.mono HB.out.size))
  clear HC hb hww
  go_wp2_with fail
  replace HL := Lib.hid HL.out.tail
  replace HL := Lib.hid HL.out.tail
  have HC := Lib.hid (nm_t1 w55)
  refine HC.out.mono ?_
  rintro e w56 ⟨rfl, hb⟩
  replace HL := Lib.hid (HL.out.below hb)
  replace HB := Lib.hid (HB.out.trans (hb.mono HB.out.size))
  clear HC hb
  go_wp2_with fail
  have HC := Lib.hid (nm_r4 w56)
  refine HC.out.mono ?_
  rintro e w57 ⟨rfl, hb⟩
  replace HL := Lib.hid (HL.out.below hb)
  replace HB := Lib.hid (HB.out.trans (hb.mono HB.out.size))
  clear HC hb
  go_wp2_with fail
  have HC := Lib.hid (nm_r3 w57)
  refine HC.out.mono ?_
  rintro e w58 ⟨rfl, hb⟩
  replace HL := Lib.hid (HL.out.below hb)
  replace HB := Lib.hid (HB.out.trans (hb.mono HB.out.size))
  clear HC hb
  go_wp2_with fail
  have HC := Lib.hid (nm_r0 w58)
  refine HC.out.mono ?_
  rintro e w59 ⟨rfl, hb⟩
  replace HL := Lib.hid (HL.out.below hb)
  replace HB := Lib.hid (HB.out.trans (hb.mono HB.out.size))
  clear HC hb
  go_wp2_with fail
  have HC := Lib.hid (nm_t2 w59)
  refine HC.out.mono ?_
  rintro e w60 ⟨rfl, hb⟩
  replace HL := Lib.hid (HL.out.below hb)
  replace HB := Lib.hid (HB.out.trans (hb.mono HB.out.size))
  clear HC hb
  go_wp2_with fail
  have HC := Lib.hid (nm_many 57 200 w60 (by decide) (by decide))
  refine HC.out.mono ?_
  rintro e w61 ⟨t61, rfl, ht, hb⟩
  replace HL := Lib.hid (HL.out.below hb)
  replace HB := Lib.hid (HB.out.trans (hb.mono HB.out.size))
  have HT := Lib.hid ht
  clear ht
  clear HC hb
  go_wp2_with fail
  have HC := Lib.hid (nm_t200 t61 HT.out w61)
  refine HC.out.mono ?_
  rintro e w62 ⟨y62, rfl, hy62, hb⟩
  replace HL := Lib.hid (HL.out.below hb)
  replace HB := Lib.hid (HB.out.trans (hb.mono HB.out.size))
  clear HC hb
  go_wp2_with fail
  clear HT
  have HC := Lib.hid (nm_many 57 199 w62 (by decide) (by decide))
  refine HC.out.mono ?_
  rintro e w63 ⟨t63, rfl, ht, hb⟩
  replace HL := Lib.hid (HL.out.below hb)
  replace HB := Lib.hid (HB.out.trans (hb.mono HB.out.size))
  have HT := Lib.hid ht
  clear ht
  clear HC hb
  go_wp2_with fail
  have HC := Lib.hid (nm_t199 t63 HT.out w63)
  refine HC.out.mono ?_
  rintro e w64 ⟨y64, rfl, hy64, hb⟩
  replace HL := Lib.hid (HL.out.below hb)
  replace HB := Lib.hid (HB.out.trans (hb.mono HB.out.size))
  clear HC hb
  go_wp2_with fail
  clear HT
  have HC := Lib.hid (nm_many 57 201 w64 (by decide) (by decide))
  refine HC.out.mono ?_
  rintro e w65 ⟨t65, rfl, ht, hb⟩
  replace HL := Lib.hid (HL.out.below hb)
  replace HB := Lib.hid (HB.out.trans (hb.mono HB.out.size))
  have HT := Lib.hid ht
  clear ht
  clear HC hb
  go_wp2_with fail
  have HC := Lib.hid (nm_t201 t65 HT.out w65)
  refine HC.out.mono ?_
  rintro e w66 ⟨y66, rfl, hy66, hb⟩
  replace HL := Lib.hid (HL.out.below hb)
  replace HB := Lib.hid (HB.out.trans (hb.mono HB.out.size))
  clear HC hb
  go_wp2_with fail
  clear HT
  go_ret
  exact ⟨rfl, HB.out⟩
end Go.Proofs.YtpchomhfpfpckaaDoor
