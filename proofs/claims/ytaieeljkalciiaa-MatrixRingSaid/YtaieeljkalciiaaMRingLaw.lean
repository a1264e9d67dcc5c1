/- cayleylaw04.MatrixRing: written by genmring.py. -/
import Derived.Test.YtaieeljkalciiaaMLaw
import Derived.Test.YtaieeljkalciiaaMRing
namespace Go.Proofs.Ytaieeljkalciiaa
open Go Go.RowKit Num

set_option maxRecDepth 100000 in
set_option maxHeartbeats 8000000 in
theorem ring_main (A : Option Addr) (c N : Nat) (z : Nat → Int) (p0 n0 k : Int) (w : World) (hv : Vec w (· < w.heap.size) (.slice A N c) N z) :
    Calls Try.prog 8 #[.slice A N c, .int .i64 p0, .int .i64 n0, .int .i64 k] w fun e w' => e = .returned (.bool true) ∧ Below w.heap.size w w' := by
  have HV := Lib.hid hv
  clear hv
  by_cases h150 : 150 < N
  · have hd : decide ((150 : Int) < (N : Int)) = true := decide_eq_true (by omega)
    clear HV
    go_enter Try.func8, Try.ntmps8
    go_wp2_with fail
    refine (lives_any _).mono ?_
    rintro e w0 ⟨rfl, hb⟩
    have HB := Lib.hid hb
    clear hb
    go_wp2_with fail
    go_ret
    exact ⟨rfl, HB.out⟩
  · have hN : N ≤ 17592186044400 := by omega
    have hd : decide ((150 : Int) < (N : Int)) = false := decide_eq_false (by omega)
    have HF := fun W => Lib.hid (field_any p0 W)
    have HP := fun W => Lib.hid (Pick_any n0 5 W (by omega) (by omega))
    have hlt := resV_lt n0 (p := 5) (by omega)
    generalize resV n0 5 = x at HP hlt
    obtain ⟨n, hn⟩ : ∃ n : Nat, 1 + (x : Int) = (n : Int) := ⟨1 + x, by omega⟩
    have hn1 : 1 ≤ n := by omega
    have hn5 : n ≤ 5 := by omega
    go_enter Try.func8, Try.ntmps8
    go_wp2_with fail
    refine (lives_any _).mono ?_
    rintro e w0 ⟨rfl, hb⟩
    have HB0 := Lib.hid hb
    have HV0 := Lib.hid (HV.out.on hb)
    clear hb HV
    go_wp2_with fail
    refine (HF _).out.mono ?_
    rintro e w1 ⟨⟨p, rfl, hp⟩, hb⟩
    have HB1 := Lib.hid (HB0.out.trans (hb.mono HB0.out.size))
    have HV1 := Lib.hid (HV0.out.on hb)
    have HS := Lib.hid (show Sized p n from ⟨hp, hn1, by omega⟩)
    have hp2 := HS.out.p2
    have hp4 : p ≤ 10000 := by have := (modB_true hp).2.1; omega
    clear hb hp HB0 HV0 HF
    go_wp2_with fail
    refine (HP _).out.mono ?_
    rintro e w2 ⟨rfl, rfl⟩
    clear HP
    have HT0 := Lib.hid (taker_new w2 A c N z HV1.out)
    have HB2 := Lib.hid (HB1.out.alloc HB1.out.size (.cells #[.slice A N c, .int .i64 0] 28))
    have ht0 : w2.heap.size < (w2.alloc (.cells #[.slice A N c, .int .i64 0] 28)).heap.size := by simp
    have HTS := Lib.hid HB1.out.size
    clear HV1 HB1
    go_wp2_with fail
    generalize hw3 : w2.alloc (.cells #[.slice A N c, .int .i64 0] 28) = w3 at HT0 HB2 ht0
    generalize w2.heap.size = t at HT0 ht0 HTS
    clear hw3
    refine (drawn_any t A c N z 0 n p w3 hN (by omega) hp2 hp4 HT0.out).mono ?_
    rintro e w4 ⟨ra, fa, q4, rfl, hg, hf, hT, hbt, hsz⟩
    obtain ⟨Aa, ca, rfl, -⟩ := hg.form
    have HGa := Lib.hid hg
    have HFa := Lib.hid hf
    have HT4 := Lib.hid hT
    have HB4 := Lib.hid (HB2.out.trans (hbt.1.mono HTS.out))
    have HZ4 := Lib.hid hsz
    clear hg hf hT hbt hsz HT0 HB2
    go_wp2_with fail
    refine (drawn_any t A c N z q4 n p w4 hN (by omega) hp2 hp4 HT4.out).mono ?_
    rintro e w5 ⟨rb, fb, q5, rfl, hg, hf, hT, hbt, hsz⟩
    obtain ⟨Ab, cb, rfl, -⟩ := hg.form
    have HGa5 := Lib.hid (HGa.out.but hbt ht0 (Nat.le_refl _))
    have HGb := Lib.hid hg
    have HFb := Lib.hid hf
    have HT5 := Lib.hid hT
    have HB5 := Lib.hid (HB4.out.trans (hbt.1.mono HTS.out))
    have HZ5 := Lib.hid hsz
    clear hg hf hT hbt hsz HT4 HB4 HGa
    go_wp2_with fail
    refine (drawn_any t A c N z q5 n p w5 hN (by omega) hp2 hp4 HT5.out).mono ?_
    rintro e w6 ⟨rc, fc, q6, rfl, hg, hf, hT, hbt, hsz⟩
    obtain ⟨Ac, cc, rfl, -⟩ := hg.form
    have HGa6 := (HGa5.out.but hbt ht0 HZ5.out).more (S' := (· < w6.heap.size)) (fun b h => by have h1 := h.2; have h2 := HZ5.out; show b < w6.heap.size; omega)
    have HGb6 := (HGb.out.but hbt (Nat.lt_of_lt_of_le ht0 HZ4.out) (Nat.le_refl _)).more (S' := (· < w6.heap.size)) (fun b h => by have h1 := h.2; show b < w6.heap.size; omega)
    have HL := Lib.hid (ml_3 HGa6 HGb6 hg.new_lt HFa.out HFb.out hf)
    have HB := Lib.hid ((((HB5.out.trans (hbt.1.mono HTS.out)).alloc (by have := HB5.out.size; omega) (.cells #[.int .i64 p, .slice Aa n ca] 46)).alloc (by have := HB5.out.size; simp; omega) (.cells #[.int .i64 p, .slice Ab n cb] 46)).alloc (by have := HB5.out.size; simp; omega) (.cells #[.int .i64 p, .slice Ac n cc] 46))
    have k0 := HL.out.c0 2 rfl
    have k1 := HL.out.c1 2 rfl
    have k2 := HL.out.c0 1 rfl
    have k3 := HL.out.c1 1 rfl
    clear hg hf hT hbt hsz HGa6 HGb6 HT5 HB5 HGa5 HGb HFa HFb HZ4 HZ5 HTS
    go_wp2_with fail
    generalize hw7 : ((w6.alloc (.cells #[.int .i64 p, .slice Aa n ca] 46)).alloc (.cells #[.int .i64 p, .slice Ab n cb] 46)).alloc (.cells #[.int .i64 p, .slice Ac n cc] 46) = w7 at HL HB
    clear k0 k1 k2 k3 hw7

    refine (mulL HS.out HL.out 2 1 rfl rfl).mono ?_
    rintro e w8 ⟨A8, c8, rfl, hg, hf, hb⟩
    replace HL := Lib.hid (HL.out.cons hb hg hf)
    replace HB := Lib.hid ((HB.out.trans (hb.mono HB.out.size)).alloc (Nat.le_trans HB.out.size hb.size) (.cells #[.int .i64 p, .slice A8 n c8] 46))
    have k0 := HL.out.c0 2 rfl
    have k1 := HL.out.c1 2 rfl
    have k2 := HL.out.c0 1 rfl
    have k3 := HL.out.c1 1 rfl
    clear hg hf hb
    go_wp2_with fail
    clear k0 k1 k2 k3
    refine (mulL HS.out HL.out 2 1 rfl rfl).mono ?_
    rintro e w9 ⟨A9, c9, rfl, hg, hf, hb⟩
    replace HL := Lib.hid (HL.out.cons hb hg hf)
    replace HB := Lib.hid ((HB.out.trans (hb.mono HB.out.size)).alloc (Nat.le_trans HB.out.size hb.size) (.cells #[.int .i64 p, .slice A9 n c9] 46))
    have k0 := HL.out.c0 1 rfl
    have k1 := HL.out.c1 1 rfl
    have k2 := HL.out.c0 2 rfl
    have k3 := HL.out.c1 2 rfl
    clear hg hf hb
    go_wp2_with fail
    clear k0 k1 k2 k3
    refine (mulL HS.out HL.out 1 2 rfl rfl).mono ?_
    rintro e w10 ⟨A10, c10, rfl, hg, hf, hb⟩
    replace HL := Lib.hid (HL.out.cons hb hg hf)
    replace HB := Lib.hid ((HB.out.trans (hb.mono HB.out.size)).alloc (Nat.le_trans HB.out.size hb.size) (.cells #[.int .i64 p, .slice A10 n c10] 46))
    have k0 := HL.out.c0 5 rfl
    have k1 := HL.out.c1 5 rfl
    have k2 := HL.out.c0 1 rfl
    have k3 := HL.out.c1 1 rfl
    clear hg hf hb
    go_wp2_with fail
    clear k0 k1 k2 k3
    refine (mulL HS.out HL.out 5 1 rfl rfl).mono ?_
    rintro e w11 ⟨A11, c11, rfl, hg, hf, hb⟩
    replace HL := Lib.hid (HL.out.cons hb hg hf)
    replace HB := Lib.hid ((HB.out.trans (hb.mono HB.out.size)).alloc (Nat.le_trans HB.out.size hb.size) (.cells #[.int .i64 p, .slice A11 n c11] 46))
    have k0 := HL.out.c0 5 rfl
    have k1 := HL.out.c1 5 rfl
    have k2 := HL.out.c0 4 rfl
    have k3 := HL.out.c1 4 rfl
    clear hg hf hb
    go_wp2_with fail
    clear k0 k1 k2 k3
    refine (addL HS.out HL.out 5 4 rfl rfl).mono ?_
    rintro e w12 ⟨A12, c12, rfl, hg, hf, hb⟩
    replace HL := Lib.hid (HL.out.cons hb hg hf)
    replace HB := Lib.hid ((HB.out.trans (hb.mono HB.out.size)).alloc (Nat.le_trans HB.out.size hb.size) (.cells #[.int .i64 p, .slice A12 n c12] 46))
    have k0 := HL.out.c0 7 rfl
    have k1 := HL.out.c1 7 rfl
    have k2 := HL.out.c0 0 rfl
    have k3 := HL.out.c1 0 rfl
    clear hg hf hb
    go_wp2_with fail
    clear k0 k1 k2 k3
    refine (mulL HS.out HL.out 7 0 rfl rfl).mono ?_
    rintro e w13 ⟨A13, c13, rfl, hg, hf, hb⟩
    replace HL := Lib.hid (HL.out.cons hb hg hf)
    replace HB := Lib.hid ((HB.out.trans (hb.mono HB.out.size)).alloc (Nat.le_trans HB.out.size hb.size) (.cells #[.int .i64 p, .slice A13 n c13] 46))
    have k0 := HL.out.c0 8 rfl
    have k1 := HL.out.c1 8 rfl
    have k2 := HL.out.c0 6 rfl
    have k3 := HL.out.c1 6 rfl
    clear hg hf hb
    go_wp2_with fail
    clear k0 k1 k2 k3
    refine (mulL HS.out HL.out 8 6 rfl rfl).mono ?_
    rintro e w14 ⟨A14, c14, rfl, hg, hf, hb⟩
    replace HL := Lib.hid (HL.out.cons hb hg hf)
    replace HB := Lib.hid ((HB.out.trans (hb.mono HB.out.size)).alloc (Nat.le_trans HB.out.size hb.size) (.cells #[.int .i64 p, .slice A14 n c14] 46))
    have k0 := HL.out.c0 6 rfl
    have k1 := HL.out.c1 6 rfl
    have k2 := HL.out.c0 0 rfl
    have k3 := HL.out.c1 0 rfl
    clear hg hf hb
    go_wp2_with fail
    clear k0 k1 k2 k3
    refine (addL HS.out HL.out 6 0 rfl rfl).mono ?_
    rintro e w15 ⟨A15, c15, rfl, hg, hf, hb⟩
    replace HL := Lib.hid (HL.out.cons hb hg hf)
    replace HB := Lib.hid ((HB.out.trans (hb.mono HB.out.size)).alloc (Nat.le_trans HB.out.size hb.size) (.cells #[.int .i64 p, .slice A15 n c15] 46))
    have k0 := HL.out.c0 5 rfl
    have k1 := HL.out.c1 5 rfl
    have k2 := HL.out.c0 4 rfl
    have k3 := HL.out.c1 4 rfl
    have k4 := HL.out.c0 2 rfl
    have k5 := HL.out.c1 2 rfl
    have k6 := HL.out.c0 0 rfl
    have k7 := HL.out.c1 0 rfl
    clear hg hf hb
    go_wp2_with fail
    clear k0 k1 k2 k3 k4 k5 k6 k7
    refine (sameL HS.out HL.out 5 4 rfl rfl (fun i _ j _ => mulF_assoc (p : Int) n fa fb fc i j)).mono ?_
    rintro e w16 ⟨rfl, hb⟩
    replace HL := Lib.hid (HL.out.below hb)
    replace HB := Lib.hid (HB.out.trans (hb.mono HB.out.size))
    have k0 := HL.out.c0 2 rfl
    have k1 := HL.out.c1 2 rfl
    have k2 := HL.out.c0 0 rfl
    have k3 := HL.out.c1 0 rfl
    clear hb
    go_wp2_with fail
    clear k0 k1 k2 k3
    refine (sameL HS.out HL.out 2 0 rfl rfl (fun i _ j _ => mulF_dist (p : Int) n fa fb fc i j)).mono ?_
    rintro e w17 ⟨rfl, hb⟩
    replace HL := Lib.hid (HL.out.below hb)
    replace HB := Lib.hid (HB.out.trans (hb.mono HB.out.size))
    have k0 := HL.out.c0 10 rfl
    have k1 := HL.out.c1 10 rfl
    clear hb
    go_wp2_with fail
    clear k0 k1
    refine (turnL HS.out HL.out 10 rfl).mono ?_
    rintro e w18 ⟨A18, c18, rfl, hg, hf, hb⟩
    replace HL := Lib.hid (HL.out.cons hb hg hf)
    replace HB := Lib.hid ((HB.out.trans (hb.mono HB.out.size)).alloc (Nat.le_trans HB.out.size hb.size) (.cells #[.int .i64 p, .slice A18 n c18] 46))
    have k0 := HL.out.c0 10 rfl
    have k1 := HL.out.c1 10 rfl
    clear hg hf hb
    go_wp2_with fail
    clear k0 k1
    refine (turnL HS.out HL.out 10 rfl).mono ?_
    rintro e w19 ⟨A19, c19, rfl, hg, hf, hb⟩
    replace HL := Lib.hid (HL.out.cons hb hg hf)
    replace HB := Lib.hid ((HB.out.trans (hb.mono HB.out.size)).alloc (Nat.le_trans HB.out.size hb.size) (.cells #[.int .i64 p, .slice A19 n c19] 46))
    have k0 := HL.out.c0 9 rfl
    have k1 := HL.out.c1 9 rfl
    clear hg hf hb
    go_wp2_with fail
    clear k0 k1
    refine (turnL HS.out HL.out 9 rfl).mono ?_
    rintro e w20 ⟨A20, c20, rfl, hg, hf, hb⟩
    replace HL := Lib.hid (HL.out.cons hb hg hf)
    replace HB := Lib.hid ((HB.out.trans (hb.mono HB.out.size)).alloc (Nat.le_trans HB.out.size hb.size) (.cells #[.int .i64 p, .slice A20 n c20] 46))
    have k0 := HL.out.c0 1 rfl
    have k1 := HL.out.c1 1 rfl
    have k2 := HL.out.c0 2 rfl
    have k3 := HL.out.c1 2 rfl
    clear hg hf hb
    go_wp2_with fail
    clear k0 k1 k2 k3
    refine (mulL HS.out HL.out 1 2 rfl rfl).mono ?_
    rintro e w21 ⟨A21, c21, rfl, hg, hf, hb⟩
    replace HL := Lib.hid (HL.out.cons hb hg hf)
    replace HB := Lib.hid ((HB.out.trans (hb.mono HB.out.size)).alloc (Nat.le_trans HB.out.size hb.size) (.cells #[.int .i64 p, .slice A21 n c21] 46))
    clear hg hf hb
    go_wp2_with fail
    refine (oneL HS.out _).mono ?_
    rintro e w22 ⟨A22, c22, rfl, hg, hf, hb⟩
    replace HL := Lib.hid (HL.out.cons hb hg hf)
    replace HB := Lib.hid ((HB.out.trans (hb.mono HB.out.size)).alloc (Nat.le_trans HB.out.size hb.size) (.cells #[.int .i64 p, .slice A22 n c22] 46))
    have k0 := HL.out.c0 0 rfl
    have k1 := HL.out.c1 0 rfl
    clear hg hf hb
    go_wp2_with fail
    clear k0 k1
    refine (scaleL HS.out HL.out k 0 rfl).mono ?_
    rintro e w23 ⟨A23, c23, rfl, hg, hf, hb⟩
    replace HL := Lib.hid (HL.out.cons hb hg hf)
    replace HB := Lib.hid ((HB.out.trans (hb.mono HB.out.size)).alloc (Nat.le_trans HB.out.size hb.size) (.cells #[.int .i64 p, .slice A23 n c23] 46))
    have k0 := HL.out.c0 16 rfl
    have k1 := HL.out.c1 16 rfl
    clear hg hf hb
    go_wp2_with fail
    clear k0 k1
    refine (scaleL HS.out HL.out k 16 rfl).mono ?_
    rintro e w24 ⟨A24, c24, rfl, hg, hf, hb⟩
    replace HL := Lib.hid (HL.out.cons hb hg hf)
    replace HB := Lib.hid ((HB.out.trans (hb.mono HB.out.size)).alloc (Nat.le_trans HB.out.size hb.size) (.cells #[.int .i64 p, .slice A24 n c24] 46))
    have k0 := HL.out.c0 17 rfl
    have k1 := HL.out.c1 17 rfl
    have k2 := HL.out.c0 1 rfl
    have k3 := HL.out.c1 1 rfl
    clear hg hf hb
    go_wp2_with fail
    clear k0 k1 k2 k3
    refine (mulL HS.out HL.out 17 1 rfl rfl).mono ?_
    rintro e w25 ⟨A25, c25, rfl, hg, hf, hb⟩
    replace HL := Lib.hid (HL.out.cons hb hg hf)
    replace HB := Lib.hid ((HB.out.trans (hb.mono HB.out.size)).alloc (Nat.le_trans HB.out.size hb.size) (.cells #[.int .i64 p, .slice A25 n c25] 46))
    have k0 := HL.out.c0 5 rfl
    have k1 := HL.out.c1 5 rfl
    have k2 := HL.out.c0 4 rfl
    have k3 := HL.out.c1 4 rfl
    have k4 := HL.out.c0 1 rfl
    have k5 := HL.out.c1 1 rfl
    have k6 := HL.out.c0 0 rfl
    have k7 := HL.out.c1 0 rfl
    clear hg hf hb
    go_wp2_with fail
    clear k0 k1 k2 k3 k4 k5 k6 k7
    refine (sameL HS.out HL.out 5 4 rfl rfl (fun i _ j _ => mulF_turn (p : Int) n fa fb i j)).mono ?_
    rintro e w26 ⟨rfl, hb⟩
    replace HL := Lib.hid (HL.out.below hb)
    replace HB := Lib.hid (HB.out.trans (hb.mono HB.out.size))
    have k0 := HL.out.c0 1 rfl
    have k1 := HL.out.c1 1 rfl
    have k2 := HL.out.c0 0 rfl
    have k3 := HL.out.c1 0 rfl
    clear hb
    go_wp2_with fail
    clear k0 k1 k2 k3
    refine (sameL HS.out HL.out 1 0 rfl rfl (fun i _ j hj => mulF_scale (p : Int) (resV k p : Nat) n fa i j hj)).mono ?_
    rintro e w27 ⟨rfl, hb⟩
    replace HL := Lib.hid (HL.out.below hb)
    replace HB := Lib.hid (HB.out.trans (hb.mono HB.out.size))
    clear hb
    go_wp2_with fail
    go_ret
    exact ⟨rfl, HB.out⟩
end Go.Proofs.Ytaieeljkalciiaa
