/- cayleylaw02.WordGroup: written by genwgroup.py. -/
import Derived.Test.YtbcjabmgiodfiabDoorWGroupMath
namespace Go.Proofs.YtbcjabmgiodfiabDoor
open Go Go.RowKit

set_option maxRecDepth 100000 in
set_option maxHeartbeats 8000000 in
theorem group_main (vl vm vn : Value) (zl zm zn : List Int) (x y : Int) (w : World) (h1 : zl.length ≤ 40) (h2 : zm.length ≤ 40) (h3 : zn.length ≤ 40)
    (hl : Ints w w.heap.size vl zl) (hm : Ints w w.heap.size vm zm) (hn : Ints w w.heap.size vn zn)
    (htab : Lib.TabIs Tryd.prog w "internal/strconv.uint64pow10" .u64 Lib.pow10Tab) :
    Calls Tryd.prog 3 #[vl, vm, vn, .int .i64 x, .int .i64 y] w fun e w' => e = .returned (.bool true) ∧ Below w.heap.size w w' := by
  have HT := Lib.hid (lives_any w htab)
  have HL0 : Live w [(vl, zl), (vm, zm), (vn, zn)] := fun i p hp => by
    match i, hp with
    | 0, hp => injection hp with hp; subst hp; exact hl
    | 1, hp => injection hp with hp; subst hp; exact hm
    | 2, hp => injection hp with hp; subst hp; exact hn
  have HL := Lib.hid HL0
  have HB := Lib.hid (Below.refl w.heap.size w)
  obtain ⟨Al, cl, rfl⟩ := hl.form
  obtain ⟨Am, cm, rfl⟩ := hm.form
  obtain ⟨An, cn, rfl⟩ := hn.form
  clear hl hm hn htab HL0
  have HLa := fun v W h => Lib.hid (letters_any v zl W (by omega) h)
  have HLb := fun v W h => Lib.hid (letters_any v zm W (by omega) h)
  have HLc := fun v W h => Lib.hid (letters_any v zn W (by omega) h)
  have Ba := Lib.hid (show Bnd 40 (letL zl) from ⟨letL_lets zl, by rw [letL_length]; exact h1⟩)
  have Bb := Lib.hid (show Bnd 40 (letL zm) from ⟨letL_lets zm, by rw [letL_length]; exact h2⟩)
  have Bc := Lib.hid (show Bnd 40 (letL zn) from ⟨letL_lets zn, by rw [letL_length]; exact h3⟩)
  generalize letL zl = a at HLa Ba
  generalize letL zm = b at HLb Bb
  generalize letL zn = c at HLc Bc
  have hx0 := pickV_in x 21 (by omega)
  have hy0 := pickV_in y 21 (by omega)
  have HPx := fun W => Lib.hid (pick_any x 21 W (by omega) (by omega))
  have HPy := fun W => Lib.hid (pick_any y 21 W (by omega) (by omega))
  generalize pickV x 21 = px at hx0 HPx
  generalize pickV y 21 = py at hy0 HPy
  have HPow := fun (v : Value) (n : Int) (W : World) (hn : n.natAbs ≤ 40) h => Lib.hid (Pow_any v a n W Ba.out.2 hn Ba.out.1 h)
  have Bia := Lib.hid Ba.out.inv
  have Bib := Lib.hid Bb.out.inv
  have Bnil := Lib.hid Bnd.nil
  have Bra := Lib.hid Ba.out.red
  have Eia := Lib.hid (g_inv_right Ba.out.1)
  have Eai := Lib.hid (g_inv_left Ba.out.1)
  have Eii := Lib.hid (g_inv_inv Ba.out.1)
  have Eco := Lib.hid (g_conj a b)
  have Ecm := Lib.hid (g_comm a b)
  have En := Lib.hid (g_nil a)
  have Ep := Lib.hid (powW_add Ba.out.1 (px - 10) (py - 10))
  have Ep1 := Lib.hid (powW_one a)
  have hq1 : ¬ (40 : Int) < (zl.length : Int) := by omega
  have hq2 : ¬ (40 : Int) < (zm.length : Int) := by omega
  have hq3 : ¬ (40 : Int) < (zn.length : Int) := by omega
  have hx1 : (px - 10).natAbs ≤ 40 := by omega
  have hy1 : (py - 10).natAbs ≤ 40 := by omega
  have hs1 : ((px - 10) + (py - 10)).natAbs ≤ 40 := by omega
  have Bpx := Lib.hid ((Ba.out.pow (px - 10)).more (M := 1600) (by have := Nat.mul_le_mul_right 40 hx1; omega))
  have Bpy := Lib.hid ((Ba.out.pow (py - 10)).more (M := 1600) (by have := Nat.mul_le_mul_right 40 hy1; omega))
  have Hx1 := Lib.hid hx1
  have Hy1 := Lib.hid hy1
  have Hs1 := Lib.hid hs1
  clear h1 h2 h3 hx1 hy1 hs1
  go_enter Tryd.func3, Tryd.ntmps3
  go_wp2_with fail
  refine (HT.out).mono ?_
  rintro e w0 ⟨rfl, hb⟩
  replace HL := Lib.hid (HL.out.below hb)
  replace HB := Lib.hid hb
  clear hb HT
  go_wp2_with fail
  refine ((HLa _ _ (HL.out 0 _ rfl)).out).mono ?_
  rintro e w1 ⟨r1, rfl, ho, hb⟩
  replace HL := Lib.hid (HL.out.cons hb ho.ints)
  replace HB := Lib.hid (HB.out.trans (hb.mono HB.out.size))
  clear ho hb
  go_wp2_with fail
  refine ((HLb _ _ (HL.out 2 _ rfl)).out).mono ?_
  rintro e w2 ⟨r2, rfl, ho, hb⟩
  replace HL := Lib.hid (HL.out.cons hb ho.ints)
  replace HB := Lib.hid (HB.out.trans (hb.mono HB.out.size))
  clear ho hb
  go_wp2_with fail
  refine ((HLc _ _ (HL.out 4 _ rfl)).out).mono ?_
  rintro e w3 ⟨r3, rfl, ho, hb⟩
  replace HL := Lib.hid (HL.out.cons hb ho.ints)
  replace HB := Lib.hid (HB.out.trans (hb.mono HB.out.size))
  clear ho hb
  go_wp2_with fail
  refine ((HPx _).out).mono ?_
  rintro e q ⟨rfl, hq⟩
  subst hq
  go_wp2_with fail
  refine ((HPy _).out).mono ?_
  rintro e q ⟨rfl, hq⟩
  subst hq
  go_wp2_with fail
  refine (invB _ _ Ba.out (by omega) (HL.out 2 _ rfl)).mono ?_
  rintro e w4 ⟨r4, rfl, ho, hb⟩
  replace HL := Lib.hid (HL.out.cons hb ho.ints)
  replace HB := Lib.hid (HB.out.trans (hb.mono HB.out.size))
  clear ho hb
  go_wp2_with fail
  refine (invB _ _ Bb.out (by omega) (HL.out 2 _ rfl)).mono ?_
  rintro e w5 ⟨r5, rfl, ho, hb⟩
  replace HL := Lib.hid (HL.out.cons hb ho.ints)
  replace HB := Lib.hid (HB.out.trans (hb.mono HB.out.size))
  clear ho hb
  go_wp2_with fail
  refine (mulB _ _ _ Ba.out Bb.out (by omega) (HL.out 4 _ rfl) (HL.out 3 _ rfl)).mono ?_
  rintro e w6 ⟨r6, rfl, ho, hb⟩
  replace HL := Lib.hid (HL.out.cons hb ho.ints)
  replace HB := Lib.hid (HB.out.trans (hb.mono HB.out.size))
  clear ho hb
  go_wp2_with fail
  refine (mulB _ _ _ (Ba.out.mul Bb.out) Bc.out (by omega) (HL.out 0 _ rfl) (HL.out 3 _ rfl)).mono ?_
  rintro e w7 ⟨r7, rfl, ho, hb⟩
  replace HL := Lib.hid (HL.out.cons hb ho.ints)
  replace HB := Lib.hid (HB.out.trans (hb.mono HB.out.size))
  clear ho hb
  go_wp2_with fail
  refine (mulB _ _ _ Bb.out Bc.out (by omega) (HL.out 5 _ rfl) (HL.out 4 _ rfl)).mono ?_
  rintro e w8 ⟨r8, rfl, ho, hb⟩
  replace HL := Lib.hid (HL.out.cons hb ho.ints)
  replace HB := Lib.hid (HB.out.trans (hb.mono HB.out.size))
  clear ho hb
  go_wp2_with fail
  refine (mulB _ _ _ Ba.out (Bb.out.mul Bc.out) (by omega) (HL.out 7 _ rfl) (HL.out 0 _ rfl)).mono ?_
  rintro e w9 ⟨r9, rfl, ho, hb⟩
  replace HL := Lib.hid (HL.out.cons hb ho.ints)
  replace HB := Lib.hid (HB.out.trans (hb.mono HB.out.size))
  clear ho hb
  go_wp2_with fail
  refine (sameB' _ _ _ ((Ba.out.mul Bb.out).mul Bc.out) (by omega) (wmul_assoc a b c) (HL.out 2 _ rfl) (HL.out 0 _ rfl)).mono ?_
  rintro e w10 ⟨rfl, hm⟩
  replace HL := Lib.hid (HL.out.drawn hm)
  replace HB := Lib.hid (HB.out.trans (below_drawn _ hm))
  clear hm
  go_wp2_with fail
  refine (mulB _ _ _ Ba.out Bia.out (by omega) (HL.out 8 _ rfl) (HL.out 5 _ rfl)).mono ?_
  rintro e w11 ⟨r11, rfl, ho, hb⟩
  rw [Eia.out] at ho
  replace HL := Lib.hid (HL.out.cons hb ho.ints)
  replace HB := Lib.hid (HB.out.trans (hb.mono HB.out.size))
  obtain ⟨A11, c11, rfl⟩ := ho.len
  clear ho hb
  go_wp2_with fail
  refine (mulB _ _ _ Bia.out Ba.out (by omega) (HL.out 6 _ rfl) (HL.out 9 _ rfl)).mono ?_
  rintro e w12 ⟨r12, rfl, ho, hb⟩
  rw [Eai.out] at ho
  replace HL := Lib.hid (HL.out.cons hb ho.ints)
  replace HB := Lib.hid (HB.out.trans (hb.mono HB.out.size))
  obtain ⟨A12, c12, rfl⟩ := ho.len
  clear ho hb
  go_wp2_with fail
  refine (mulB _ _ _ Ba.out Bnil.out (by omega) (HL.out 10 _ rfl) (ints_none _)).mono ?_
  rintro e w13 ⟨r13, rfl, ho, hb⟩
  replace HL := Lib.hid (HL.out.cons hb ho.ints)
  replace HB := Lib.hid (HB.out.trans (hb.mono HB.out.size))
  clear ho hb
  go_wp2_with fail
  refine (redB _ _ Ba.out (by omega) (HL.out 11 _ rfl)).mono ?_
  rintro e w14 ⟨r14, rfl, ho, hb⟩
  replace HL := Lib.hid (HL.out.cons hb ho.ints)
  replace HB := Lib.hid (HB.out.trans (hb.mono HB.out.size))
  clear ho hb
  go_wp2_with fail
  refine (sameB' _ _ _ (Ba.out.mul Bnil.out) (by omega) En.out (HL.out 1 _ rfl) (HL.out 0 _ rfl)).mono ?_
  rintro e w15 ⟨rfl, hm⟩
  replace HL := Lib.hid (HL.out.drawn hm)
  replace HB := Lib.hid (HB.out.trans (below_drawn _ hm))
  clear hm
  go_wp2_with fail
  refine (invB _ _ Bia.out (by omega) (HL.out 9 _ rfl)).mono ?_
  rintro e w16 ⟨r16, rfl, ho, hb⟩
  replace HL := Lib.hid (HL.out.cons hb ho.ints)
  replace HB := Lib.hid (HB.out.trans (hb.mono HB.out.size))
  clear ho hb
  go_wp2_with fail
  refine (redB _ _ Ba.out (by omega) (HL.out 13 _ rfl)).mono ?_
  rintro e w17 ⟨r17, rfl, ho, hb⟩
  replace HL := Lib.hid (HL.out.cons hb ho.ints)
  replace HB := Lib.hid (HB.out.trans (hb.mono HB.out.size))
  clear ho hb
  go_wp2_with fail
  refine (sameB' _ _ _ Bia.out.inv (by omega) Eii.out (HL.out 1 _ rfl) (HL.out 0 _ rfl)).mono ?_
  rintro e w18 ⟨rfl, hm⟩
  replace HL := Lib.hid (HL.out.drawn hm)
  replace HB := Lib.hid (HB.out.trans (below_drawn _ hm))
  clear hm
  go_wp2_with fail
  refine (conjB _ _ _ Ba.out Bb.out (by omega) (HL.out 14 _ rfl) (HL.out 13 _ rfl)).mono ?_
  rintro e w19 ⟨r19, rfl, ho, hb⟩
  replace HL := Lib.hid (HL.out.cons hb ho.ints)
  replace HB := Lib.hid (HB.out.trans (hb.mono HB.out.size))
  clear ho hb
  go_wp2_with fail
  refine (mulB _ _ _ Bib.out Ba.out (by omega) (HL.out 11 _ rfl) (HL.out 15 _ rfl)).mono ?_
  rintro e w20 ⟨r20, rfl, ho, hb⟩
  replace HL := Lib.hid (HL.out.cons hb ho.ints)
  replace HB := Lib.hid (HB.out.trans (hb.mono HB.out.size))
  clear ho hb
  go_wp2_with fail
  refine (mulB _ _ _ (Bib.out.mul Ba.out) Bb.out (by omega) (HL.out 0 _ rfl) (HL.out 15 _ rfl)).mono ?_
  rintro e w21 ⟨r21, rfl, ho, hb⟩
  replace HL := Lib.hid (HL.out.cons hb ho.ints)
  replace HB := Lib.hid (HB.out.trans (hb.mono HB.out.size))
  clear ho hb
  go_wp2_with fail
  refine (sameB' _ _ _ (Bnd.of_eq Eco.out ((Bib.out.mul Ba.out).mul Bb.out)) (by omega) Eco.out (HL.out 2 _ rfl) (HL.out 0 _ rfl)).mono ?_
  rintro e w22 ⟨rfl, hm⟩
  replace HL := Lib.hid (HL.out.drawn hm)
  replace HB := Lib.hid (HB.out.trans (below_drawn _ hm))
  clear hm
  go_wp2_with fail
  refine (commB _ _ _ Ba.out Bb.out (by omega) (HL.out 17 _ rfl) (HL.out 16 _ rfl)).mono ?_
  rintro e w23 ⟨r23, rfl, ho, hb⟩
  replace HL := Lib.hid (HL.out.cons hb ho.ints)
  replace HB := Lib.hid (HB.out.trans (hb.mono HB.out.size))
  clear ho hb
  go_wp2_with fail
  refine (mulB _ _ _ Bia.out Bib.out (by omega) (HL.out 15 _ rfl) (HL.out 14 _ rfl)).mono ?_
  rintro e w24 ⟨r24, rfl, ho, hb⟩
  replace HL := Lib.hid (HL.out.cons hb ho.ints)
  replace HB := Lib.hid (HB.out.trans (hb.mono HB.out.size))
  clear ho hb
  go_wp2_with fail
  refine (mulB _ _ _ Ba.out Bb.out (by omega) (HL.out 19 _ rfl) (HL.out 18 _ rfl)).mono ?_
  rintro e w25 ⟨r25, rfl, ho, hb⟩
  replace HL := Lib.hid (HL.out.cons hb ho.ints)
  replace HB := Lib.hid (HB.out.trans (hb.mono HB.out.size))
  clear ho hb
  go_wp2_with fail
  refine (mulB _ _ _ (Bia.out.mul Bib.out) (Ba.out.mul Bb.out) (by omega) (HL.out 1 _ rfl) (HL.out 0 _ rfl)).mono ?_
  rintro e w26 ⟨r26, rfl, ho, hb⟩
  replace HL := Lib.hid (HL.out.cons hb ho.ints)
  replace HB := Lib.hid (HB.out.trans (hb.mono HB.out.size))
  clear ho hb
  go_wp2_with fail
  refine (sameB' _ _ _ (Bnd.of_eq Ecm.out ((Bia.out.mul Bib.out).mul (Ba.out.mul Bb.out))) (by omega) Ecm.out (HL.out 3 _ rfl) (HL.out 0 _ rfl)).mono ?_
  rintro e w27 ⟨rfl, hm⟩
  replace HL := Lib.hid (HL.out.drawn hm)
  replace HB := Lib.hid (HB.out.trans (below_drawn _ hm))
  clear hm
  go_wp2_with fail
  refine ((HPow _ (px - 10) _ Hx1.out (HL.out 21 _ rfl)).out).mono ?_
  rintro e w28 ⟨r28, rfl, ho, hb⟩
  replace HL := Lib.hid (HL.out.cons hb ho.ints)
  replace HB := Lib.hid (HB.out.trans (hb.mono HB.out.size))
  clear ho hb
  go_wp2_with fail
  refine ((HPow _ (py - 10) _ Hy1.out (HL.out 22 _ rfl)).out).mono ?_
  rintro e w29 ⟨r29, rfl, ho, hb⟩
  replace HL := Lib.hid (HL.out.cons hb ho.ints)
  replace HB := Lib.hid (HB.out.trans (hb.mono HB.out.size))
  clear ho hb
  go_wp2_with fail
  refine ((HPow _ ((px - 10) + (py - 10)) _ Hs1.out (HL.out 23 _ rfl)).out).mono ?_
  rintro e w30 ⟨r30, rfl, ho, hb⟩
  replace HL := Lib.hid (HL.out.cons hb ho.ints)
  replace HB := Lib.hid (HB.out.trans (hb.mono HB.out.size))
  clear ho hb
  go_wp2_with fail
  refine ((HPow _ 1 _ (by decide) (HL.out 24 _ rfl)).out).mono ?_
  rintro e w31 ⟨r31, rfl, ho, hb⟩
  replace HL := Lib.hid (HL.out.cons hb ho.ints)
  replace HB := Lib.hid (HB.out.trans (hb.mono HB.out.size))
  clear ho hb
  go_wp2_with fail
  refine (mulB _ _ _ Bpx.out Bpy.out (by omega) (HL.out 3 _ rfl) (HL.out 2 _ rfl)).mono ?_
  rintro e w32 ⟨r32, rfl, ho, hb⟩
  replace HL := Lib.hid (HL.out.cons hb ho.ints)
  replace HB := Lib.hid (HB.out.trans (hb.mono HB.out.size))
  clear ho hb
  go_wp2_with fail
  refine (sameB' _ _ _ (Bpx.out.mul Bpy.out) (by omega) Ep.out (HL.out 0 _ rfl) (HL.out 2 _ rfl)).mono ?_
  rintro e w33 ⟨rfl, hm⟩
  replace HL := Lib.hid (HL.out.drawn hm)
  replace HB := Lib.hid (HB.out.trans (below_drawn _ hm))
  clear hm
  go_wp2_with fail
  refine (redB _ _ Ba.out (by omega) (HL.out 26 _ rfl)).mono ?_
  rintro e w34 ⟨r34, rfl, ho, hb⟩
  replace HL := Lib.hid (HL.out.cons hb ho.ints)
  replace HB := Lib.hid (HB.out.trans (hb.mono HB.out.size))
  clear ho hb
  go_wp2_with fail
  refine (sameB' _ _ _ (Bnd.of_eq Ep1.out Bra.out) (by omega) Ep1.out (HL.out 2 _ rfl) (HL.out 0 _ rfl)).mono ?_
  rintro e w35 ⟨rfl, hm⟩
  replace HL := Lib.hid (HL.out.drawn hm)
  replace HB := Lib.hid (HB.out.trans (below_drawn _ hm))
  clear hm
  go_wp2_with fail
  go_ret
  exact ⟨rfl, HB.out⟩
end Go.Proofs.YtbcjabmgiodfiabDoor
