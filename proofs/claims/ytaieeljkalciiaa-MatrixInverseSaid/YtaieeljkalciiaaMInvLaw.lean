/- cayleylaw04.MatrixInverse: written by a generator (genlaw.py). -/
import Derived.Test.YtaieeljkalciiaaMLaw2
namespace Go.Proofs.Ytaieeljkalciiaa
open Go Go.RowKit Num

set_option maxRecDepth 100000 in
set_option maxHeartbeats 8000000 in
theorem matrixInverse_main (A : Option Addr) (c N : Nat) (z : Nat → Int) (p0 n0 x0 y0 : Int) (w : World) (hv : Vec w (· < w.heap.size) (.slice A N c) N z) :
    Calls Try.prog 9 #[.slice A N c, .int .i64 p0, .int .i64 n0, .int .i64 x0, .int .i64 y0] w fun e w' => e = .returned (.bool true) ∧ Below w.heap.size w w' := by
  have HV := Lib.hid hv
  clear hv
  by_cases hmost : 100 < N
  · have hd : decide ((100 : Int) < (N : Int)) = true := decide_eq_true (by omega)
    clear HV
    go_enter Try.func9, Try.ntmps9
    go_wp2_with fail
    refine (lives_any _).mono ?_
    rintro e w0 ⟨rfl, hb⟩
    have HB := Lib.hid hb
    clear hb
    go_wp2_with fail
    go_ret
    exact ⟨rfl, HB.out⟩
  · have hN : N ≤ 17592186044400 := by omega
    have hd : decide ((100 : Int) < (N : Int)) = false := decide_eq_false (by omega)
    have HF := fun W => Lib.hid (field_any p0 W)
    have HP := fun W => Lib.hid (Pick_any n0 5 W (by omega) (by omega))
    have hlt := resV_lt n0 (p := 5) (by omega)
    generalize resV n0 5 = x at HP hlt
    obtain ⟨n, hn⟩ : ∃ n : Nat, 1 + (x : Int) = (n : Int) := ⟨1 + x, by omega⟩
    have hn1 : 1 ≤ n := by omega
    have hn5 : n ≤ 5 := by omega
    go_enter Try.func9, Try.ntmps9
    go_wp2_with fail
    refine (lives_any _).mono ?_
    rintro e w0 ⟨rfl, hb⟩
    have HB0 := Lib.hid hb
    have HV0 := Lib.hid (HV.out.on hb)
    clear hb HV
    go_wp2_with fail
    refine (HF _).out.mono ?_
    rintro e w1 ⟨⟨p, rfl, hp⟩, hb⟩
    have HB1 := Lib.hid (HB0.out.trans (hb.mono HB0.out.size))
    have HV1 := Lib.hid (HV0.out.on hb)
    have HS := Lib.hid (show Sized p n from ⟨hp, hn1, by omega⟩)
    have hp2 := HS.out.p2
    have hp4 : p ≤ 10000 := by have := (modB_true hp).2.1; omega
    clear hb hp HB0 HV0 HF
    go_wp2_with fail
    refine (HP _).out.mono ?_
    rintro e w2 ⟨rfl, rfl⟩
    clear HP
    have HT0 := Lib.hid (taker_new w2 A c N z HV1.out)
    have HB2 := Lib.hid (HB1.out.alloc HB1.out.size (.cells #[.slice A N c, .int .i64 0] 28))
    have ht0 : w2.heap.size < (w2.alloc (.cells #[.slice A N c, .int .i64 0] 28)).heap.size := by simp
    have HTS := Lib.hid HB1.out.size
    clear HV1 HB1
    go_wp2_with fail
    generalize hw3 : w2.alloc (.cells #[.slice A N c, .int .i64 0] 28) = w3 at HT0 HB2 ht0
    generalize w2.heap.size = t at HT0 ht0 HTS
    clear hw3
    refine (drawn_any t A c N z 0 n p w3 hN (by omega) hp2 hp4 HT0.out).mono ?_
    rintro e w4 ⟨ra, fa, q4, rfl, hg, hf, hT, hbt, hsz⟩
    obtain ⟨Aa, ca, rfl, -⟩ := hg.form
    have HGa := Lib.hid hg
    have HFa := Lib.hid hf
    have HT4 := Lib.hid hT
    have HB4 := Lib.hid (HB2.out.trans (hbt.1.mono HTS.out))
    have HZ4 := Lib.hid hsz
    clear hg hf hT hbt hsz HT0 HB2
    go_wp2_with fail
    refine (drawn_any t A c N z q4 n p w4 hN (by omega) hp2 hp4 HT4.out).mono ?_
    rintro e w5 ⟨rb, fb, q5, rfl, hg, hf, hT, hbt, hsz⟩
    obtain ⟨Ab, cb, rfl, -⟩ := hg.form
    have HFb := Lib.hid hf
    have HGa6 := (HGa.out.but hbt ht0 (Nat.le_refl _)).more (S' := (· < w5.heap.size)) (fun b h => by have h1 := h.2; show b < w5.heap.size; omega)
    have HL := Lib.hid (ml_2 HGa6 hg.new_lt HFa.out hf)
    have HB := Lib.hid (((HB4.out.trans (hbt.1.mono HTS.out)).alloc (by have := HB4.out.size; omega) (.cells #[.int .i64 p, .slice Aa n ca] 46)).alloc (by have := HB4.out.size; simp; omega) (.cells #[.int .i64 p, .slice Ab n cb] 46))
    have k0 := HL.out.c0 1 rfl
    have k1 := HL.out.c1 1 rfl
    have k2 := HL.out.c0 0 rfl
    have k3 := HL.out.c1 0 rfl
    clear hg hf hT hbt hsz HGa6 HT4 HB4 HGa HZ4 HTS
    go_wp2_with fail
    generalize hw7 : (w5.alloc (.cells #[.int .i64 p, .slice Aa n ca] 46)).alloc (.cells #[.int .i64 p, .slice Ab n cb] 46) = w7 at HL HB
    clear k0 k1 k2 k3 hw7
    have hA1 := detV_in HS.out.p1 HS.out.inv (Nat.le_refl n) HFa.out
    have hA2 := detV_in HS.out.p1 HS.out.inv (Nat.le_refl n) HFb.out
    have hA3 := detV_mul HS.out.p1 HS.out.inv HFa.out HFb.out
    obtain ⟨d1, E1⟩ : ∃ d : Nat, detV p n fa = d := ⟨(detV p n fa).toNat, by omega⟩
    obtain ⟨d2, E2⟩ : ∃ d : Nat, detV p n fb = d := ⟨(detV p n fb).toNat, by omega⟩
    rw [E1] at hA1 hA3
    rw [E2] at hA2 hA3
    obtain ⟨q, hq⟩ : ∃ q, d1 * d2 = q := ⟨_, rfl⟩
    have hq2 : q ≤ 1000000000000 := by rw [← hq]; exact Nat.le_trans (Nat.mul_le_mul (show d1 ≤ 10000 by omega) (show d2 ≤ 10000 by omega)) (by omega)
    have mz := wrap_mul hq hq2
    obtain ⟨d3, hd3⟩ : ∃ d3, q % p = d3 := ⟨_, rfl⟩
    have k7 : (q : Int) % (p : Int) = (d3 : Int) := by rw [← Int.natCast_emod, hd3]
    have E3 : detV p n (mulF p n fa fb) = d3 := by rw [hA3, ← Int.natCast_mul, hq]; exact k7
    have c1 : decide ((d1 : Int) < 0) = false := decide_eq_false (by omega)
    have c2 : decide ((p : Int) ≤ (d1 : Int)) = false := decide_eq_false (by omega)
    have c3 : decide ((d2 : Int) < 0) = false := decide_eq_false (by omega)
    have c4 : decide ((p : Int) ≤ (d2 : Int)) = false := decide_eq_false (by omega)
    have c2n : decide (p ≤ d1) = false := decide_eq_false (by omega)
    have c4n : decide (p ≤ d2) = false := decide_eq_false (by omega)
    have c5 : ((p : Int) == 0) = false := by simp; omega
    have HE1 := Lib.hid E1
    have HE2 := Lib.hid E2
    have HE3 := Lib.hid E3
    clear hq hd3 hA1 hA2 hA3 E1 E2 E3
    refine (mulL HS.out HL.out 1 0 rfl rfl).mono ?_
    rintro e w8 ⟨A8, c8, rfl, hg, hf, hb⟩
    replace HL := Lib.hid (HL.out.cons hb hg hf)
    replace HB := Lib.hid ((HB.out.trans (hb.mono HB.out.size)).alloc (Nat.le_trans HB.out.size hb.size) (.cells #[.int .i64 p, .slice A8 n c8] 46))
    have k0 := HL.out.c0 2 rfl
    have k1 := HL.out.c1 2 rfl
    clear hb hg hf
    go_wp2_with fail
    clear k0 k1
    refine (detL HS.out HL.out 2 rfl d1 HE1.out).mono ?_
    rintro e w9 ⟨rfl, hb⟩
    replace HL := Lib.hid (HL.out.below hb)
    replace HB := Lib.hid (HB.out.trans (hb.mono HB.out.size))
    have k0 := HL.out.c0 1 rfl
    have k1 := HL.out.c1 1 rfl
    clear hb
    go_wp2_with fail
    clear k0 k1
    refine (detL HS.out HL.out 1 rfl d2 HE2.out).mono ?_
    rintro e w10 ⟨rfl, hb⟩
    replace HL := Lib.hid (HL.out.below hb)
    replace HB := Lib.hid (HB.out.trans (hb.mono HB.out.size))
    have k0 := HL.out.c0 0 rfl
    have k1 := HL.out.c1 0 rfl
    clear hb
    go_wp2_with fail
    clear k0 k1
    refine (detL HS.out HL.out 0 rfl d3 HE3.out).mono ?_
    rintro e w11 ⟨rfl, hb⟩
    replace HL := Lib.hid (HL.out.below hb)
    replace HB := Lib.hid (HB.out.trans (hb.mono HB.out.size))
    clear hb
    go_wp2_with fail
    refine (oneL HS.out _).mono ?_
    rintro e w12 ⟨A12, c12, rfl, hg, hf, hb⟩
    replace HL := Lib.hid (HL.out.cons hb hg hf)
    replace HB := Lib.hid ((HB.out.trans (hb.mono HB.out.size)).alloc (Nat.le_trans HB.out.size hb.size) (.cells #[.int .i64 p, .slice A12 n c12] 46))
    have k0 := HL.out.c0 3 rfl
    have k1 := HL.out.c1 3 rfl
    clear hb hg hf
    go_wp2_with fail
    clear k0 k1
    clear c1 c2 c3 c4 c2n c4n c5 mz k7 hq2 HE2 HE3
    by_cases hd0 : d1 = 0
    · subst hd0
      have H0 := Lib.hid (show detV p n fa = 0 from HE1.out)
      refine (invL0 HS.out HL.out 3 rfl H0.out).mono ?_
      rintro e w13 ⟨rfl, hb⟩
      replace HL := Lib.hid (HL.out.more hb (.cells #[.int .i64 0, .slice none 0 0] 46))
      have HZ := Lib.hid (row_new (W := w13) rfl 46 #[.int .i64 0, .slice none 0 0])
      replace HB := Lib.hid ((HB.out.trans (hb.mono HB.out.size)).alloc (Nat.le_trans HB.out.size hb.size) (.cells #[.int .i64 0, .slice none 0 0] 46))
      have k0 := HL.out.c0 3 rfl
      have k1 := HL.out.c1 3 rfl
      clear hb
      go_wp2_with fail
      clear k0 k1
      refine (powL0 HS.out HL.out 3 rfl H0.out (-1) (by omega) (by omega)).mono ?_
      rintro e w14 ⟨rfl, hb⟩
      replace HL := Lib.hid (HL.out.more hb (.cells #[.int .i64 0, .slice none 0 0] 46))
      replace HZ := Lib.hid ((HZ.out.below hb HZ.out.lt).alloc (.cells #[.int .i64 0, .slice none 0 0] 46))
      replace HB := Lib.hid ((HB.out.trans (hb.mono HB.out.size)).alloc (Nat.le_trans HB.out.size hb.size) (.cells #[.int .i64 0, .slice none 0 0] 46))
      have k0 := HL.out.c0 3 rfl
      have k1 := HL.out.c1 3 rfl
      clear hb
      go_wp2_with fail
      clear k0 k1
      refine (ordL HS.out HL.out 3 rfl).mono ?_
      rintro e w15 ⟨rfl, hb⟩
      rw [show ordV p n fa 0 = (0, 15) from by unfold ordV; rw [if_neg (by simp), if_pos H0.out]]
      replace HZ := Lib.hid (HZ.out.below hb HZ.out.lt)
      replace HB := Lib.hid (HB.out.trans (hb.mono HB.out.size))
      have k0 := HZ.out.cell (i := 0) rfl
      have k1 := HZ.out.cell (i := 1) rfl
      clear hb
      go_wp2_with fail
      clear k0 k1
      refine (bad_yes _).mono ?_
      rintro e w16 ⟨rfl, hb⟩
      replace HB := Lib.hid (HB.out.trans (hb.mono HB.out.size))
      clear hb HZ
      go_wp2_with fail
      go_ret
      exact ⟨rfl, HB.out⟩
    · have hdn : (d1 == 0) = false := by simpa using hd0
      have hdi : ((d1 : Int) == 0) = false := by simp; omega
      have H0 := Lib.hid (show detV p n fa ≠ 0 from by rw [HE1.out]; omega)
      refine (invL HS.out HL.out 3 rfl H0.out).mono ?_
      rintro e w13 ⟨A13, c13, rfl, hg, hf, hb⟩
      replace HL := Lib.hid (HL.out.cons hb hg hf)
      replace HB := Lib.hid ((HB.out.trans (hb.mono HB.out.size)).alloc (Nat.le_trans HB.out.size hb.size) (.cells #[.int .i64 p, .slice A13 n c13] 46))
      have k0 := HL.out.c0 0 rfl
      have k1 := HL.out.c1 0 rfl
      have k2 := HL.out.c0 4 rfl
      have k3 := HL.out.c1 4 rfl
      clear hb hg hf
      go_wp2_with fail
      clear k0 k1 k2 k3
      refine (mulL HS.out HL.out 0 4 rfl rfl).mono ?_
      rintro e w14 ⟨A14, c14, rfl, hg, hf, hb⟩
      replace HL := Lib.hid (HL.out.cons hb hg hf)
      replace HB := Lib.hid ((HB.out.trans (hb.mono HB.out.size)).alloc (Nat.le_trans HB.out.size hb.size) (.cells #[.int .i64 p, .slice A14 n c14] 46))
      have k0 := HL.out.c0 5 rfl
      have k1 := HL.out.c1 5 rfl
      have k2 := HL.out.c0 1 rfl
      have k3 := HL.out.c1 1 rfl
      clear hb hg hf
      go_wp2_with fail
      clear k0 k1 k2 k3
      have HPx := fun W => Lib.hid (Pick_any x0 41 W (by omega) (by omega))
      have HPy := fun W => Lib.hid (Pick_any y0 41 W (by omega) (by omega))
      have hlx := resV_lt x0 (p := 41) (by omega)
      have hly := resV_lt y0 (p := 41) (by omega)
      generalize resV x0 41 = ux at HPx hlx
      generalize resV y0 41 = uy at HPy hly
      obtain ⟨X, hX⟩ : ∃ X : Int, (ux : Int) - 20 = X := ⟨_, rfl⟩
      obtain ⟨Y, hY⟩ : ∃ Y : Int, (uy : Int) - 20 = Y := ⟨_, rfl⟩
      obtain ⟨Z, hZ⟩ : ∃ Z : Int, X + Y = Z := ⟨_, rfl⟩
      have hX1 : -20 ≤ X ∧ X ≤ 20 := by omega
      have hY1 : -20 ≤ Y ∧ Y ≤ 20 := by omega
      refine (mulL HS.out HL.out 5 1 rfl rfl).mono ?_
      rintro e w15 ⟨A15, c15, rfl, hg, hf, hb⟩
      replace HL := Lib.hid (HL.out.cons hb hg hf)
      replace HB := Lib.hid ((HB.out.trans (hb.mono HB.out.size)).alloc (Nat.le_trans HB.out.size hb.size) (.cells #[.int .i64 p, .slice A15 n c15] 46))
      have k0 := HL.out.c0 6 rfl
      have k1 := HL.out.c1 6 rfl
      clear hb hg hf
      go_wp2_with fail
      clear k0 k1
      refine (HPx _).out.mono ?_
      rintro e q0 ⟨rfl, hq0⟩
      subst hq0
      go_wp2_with fail
      refine (HPy _).out.mono ?_
      rintro e q0 ⟨rfl, hq0⟩
      subst hq0
      have k0 := HL.out.c0 6 rfl
      have k1 := HL.out.c1 6 rfl
      go_wp2_with fail
      clear k0 k1 hX hY HPx HPy hlx hly
      refine (powL HS.out HL.out 6 rfl H0.out X (by omega)).mono ?_
      rintro e w16 ⟨A16, c16, rfl, hg, hf, hb⟩
      replace HL := Lib.hid (HL.out.cons hb hg hf)
      replace HB := Lib.hid ((HB.out.trans (hb.mono HB.out.size)).alloc (Nat.le_trans HB.out.size hb.size) (.cells #[.int .i64 p, .slice A16 n c16] 46))
      have k0 := HL.out.c0 7 rfl
      have k1 := HL.out.c1 7 rfl
      clear hb hg hf
      go_wp2_with fail
      clear k0 k1
      refine (powL HS.out HL.out 7 rfl H0.out Y (by omega)).mono ?_
      rintro e w17 ⟨A17, c17, rfl, hg, hf, hb⟩
      replace HL := Lib.hid (HL.out.cons hb hg hf)
      replace HB := Lib.hid ((HB.out.trans (hb.mono HB.out.size)).alloc (Nat.le_trans HB.out.size hb.size) (.cells #[.int .i64 p, .slice A17 n c17] 46))
      have k0 := HL.out.c0 8 rfl
      have k1 := HL.out.c1 8 rfl
      clear hb hg hf
      go_wp2_with fail
      clear k0 k1
      refine (powL HS.out HL.out 8 rfl H0.out Z (by omega)).mono ?_
      rintro e w18 ⟨A18, c18, rfl, hg, hf, hb⟩
      replace HL := Lib.hid (HL.out.cons hb hg hf)
      replace HB := Lib.hid ((HB.out.trans (hb.mono HB.out.size)).alloc (Nat.le_trans HB.out.size hb.size) (.cells #[.int .i64 p, .slice A18 n c18] 46))
      have k0 := HL.out.c0 2 rfl
      have k1 := HL.out.c1 2 rfl
      have k2 := HL.out.c0 1 rfl
      have k3 := HL.out.c1 1 rfl
      clear hb hg hf
      go_wp2_with fail
      clear k0 k1 k2 k3
      refine (mulL HS.out HL.out 2 1 rfl rfl).mono ?_
      rintro e w19 ⟨A19, c19, rfl, hg, hf, hb⟩
      replace HL := Lib.hid (HL.out.cons hb hg hf)
      replace HB := Lib.hid ((HB.out.trans (hb.mono HB.out.size)).alloc (Nat.le_trans HB.out.size hb.size) (.cells #[.int .i64 p, .slice A19 n c19] 46))
      have k0 := HL.out.c0 5 rfl
      have k1 := HL.out.c1 5 rfl
      have k2 := HL.out.c0 7 rfl
      have k3 := HL.out.c1 7 rfl
      have k4 := HL.out.c0 4 rfl
      have k5 := HL.out.c1 4 rfl
      have k6 := HL.out.c0 1 rfl
      have k7 := HL.out.c1 1 rfl
      have k8 := HL.out.c0 0 rfl
      have k9 := HL.out.c1 0 rfl
      clear hb hg hf
      go_wp2_with fail
      clear k0 k1 k2 k3 k4 k5 k6 k7 k8 k9
      refine (sameL HS.out HL.out 5 7 rfl rfl ((invF_left HS.out.p1 HS.out.inv HFa.out H0.out).2)).mono ?_
      rintro e w20 ⟨rfl, hb⟩
      replace HL := Lib.hid (HL.out.below hb)
      replace HB := Lib.hid (HB.out.trans (hb.mono HB.out.size))
      have k0 := HL.out.c0 4 rfl
      have k1 := HL.out.c1 4 rfl
      have k2 := HL.out.c0 7 rfl
      have k3 := HL.out.c1 7 rfl
      have k4 := HL.out.c0 1 rfl
      have k5 := HL.out.c1 1 rfl
      have k6 := HL.out.c0 0 rfl
      have k7 := HL.out.c1 0 rfl
      clear hb
      go_wp2_with fail
      clear k0 k1 k2 k3 k4 k5 k6 k7
      refine (sameL HS.out HL.out 4 7 rfl rfl (invF_right HS.out.p1 HS.out.inv HFa.out H0.out)).mono ?_
      rintro e w21 ⟨rfl, hb⟩
      replace HL := Lib.hid (HL.out.below hb)
      replace HB := Lib.hid (HB.out.trans (hb.mono HB.out.size))
      have k0 := HL.out.c0 1 rfl
      have k1 := HL.out.c1 1 rfl
      have k2 := HL.out.c0 0 rfl
      have k3 := HL.out.c1 0 rfl
      clear hb
      go_wp2_with fail
      clear k0 k1 k2 k3
      refine (sameL HS.out HL.out 1 0 rfl rfl (by subst hZ; exact powZ_add HS.out.p1 HS.out.inv HFa.out H0.out X Y (by omega) (by omega))).mono ?_
      rintro e w22 ⟨rfl, hb⟩
      replace HL := Lib.hid (HL.out.below hb)
      replace HB := Lib.hid (HB.out.trans (hb.mono HB.out.size))
      clear hb
      go_wp2_with fail
      go_ret
      exact ⟨rfl, HB.out⟩
end Go.Proofs.Ytaieeljkalciiaa
