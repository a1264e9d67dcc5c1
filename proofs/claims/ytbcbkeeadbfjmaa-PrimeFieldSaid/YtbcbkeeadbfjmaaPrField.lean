/- The law PrimeField, walked. -/
import Derived.Test.YtbcbkeeadbfjmaaPrNat
namespace Go.Proofs.Ytbcbkeeadbfjmaa
open Go Go.RowKit Num

set_option maxRecDepth 100000 in
set_option maxHeartbeats 4000000 in
theorem field_go (n a0 b0 x0 y0 : Int) (w : World) : Calls Try.prog 7 #[.int .i64 n, .int .i64 a0, .int .i64 b0, .int .i64 x0, .int .i64 y0] w fun e w' => e = .returned (.bool true) ∧ Below w.heap.size w w' := by
  have HL := Lib.hid (lives_any w)
  have HSM := fun W => Lib.hid (small_any n W)
  go_enter Try.func7, Try.ntmps7
  go_wp2_with fail
  refine HL.out.mono ?_
  rintro e1 w0 ⟨rfl, hb⟩
  have HB := Lib.hid hb
  clear hb HL
  go_wp2_with fail
  refine (HSM _).out.mono ?_
  rintro e1 w1 ⟨p, hp, hpl, rfl, rfl⟩
  have HP := Lib.hid hp
  have h2 := hp.ge
  clear hp HSM
  go_wp2_with fail
  refine (Pick_any a0 p _ (by omega) (by omega)).mono ?_
  rintro e1 w2 ⟨rfl, rfl⟩
  go_wp2_with fail
  refine (Pick_any b0 p _ (by omega) (by omega)).mono ?_
  rintro e1 w3 ⟨rfl, rfl⟩
  have ha := resV_lt a0 h2
  have hb := resV_lt b0 h2
  generalize resV a0 p = a at ha ⊢
  generalize resV b0 p = b at hb ⊢
  go_wp2_with fail
  refine (Pick_any x0 1000 _ (by omega) (by omega)).mono ?_
  rintro e1 w4 ⟨rfl, rfl⟩
  go_wp2_with fail
  refine (Pick_any y0 1000 _ (by omega) (by omega)).mono ?_
  rintro e1 w5 ⟨rfl, rfl⟩
  have hx := resV_lt1 x0 (p := 1000) (by decide)
  have hy := resV_lt1 y0 (p := 1000) (by decide)
  generalize resV x0 1000 = x at hx ⊢
  generalize resV y0 1000 = y at hy ⊢
  by_cases ha0 : a = 0
  · subst ha0
    have HI := fun W => Lib.hid (InvZ p W HP.out)
    have HO := fun W => Lib.hid (OrderZ p W HP.out)
    go_wp2_with fail
    refine (HI _).out.mono ?_
    rintro e1 w6 ⟨rfl, hb⟩
    have HB1 := Lib.hid (HB.out.trans (hb.mono HB.out.size))
    clear hb HB
    go_wp2_with fail
    refine (HO _).out.mono ?_
    rintro e1 w7 ⟨rfl, hb⟩
    have HB2 := Lib.hid (HB1.out.trans (hb.mono HB1.out.size))
    clear hb HB1
    go_wp2
    go_ret
    exact ⟨rfl, HB2.out⟩
  · have hda : ((a : Int) == 0) = false := by simp; omega
    have hpr := HP.out.1
    have hnd := pr_not_dvd (p := p) (a := a) (by omega) ha
    obtain ⟨d, hd, hdd⟩ := ord_of_prime hpr hnd
    have hd1 := hd.1
    have hdp := Nat.le_of_dvd (show 0 < p - 1 by omega) hdd
    have hxy : x * y ≤ 1000000 := Nat.le_trans (Nat.mul_le_mul (show x ≤ 1000 by omega) (show y ≤ 1000 by omega)) (by decide)
    have HI := fun W => Lib.hid (InvN a p W HP.out ha0 ha)
    have HPX := fun W => Lib.hid (PowN a x p W HP.out (by omega))
    have HPY := fun W => Lib.hid (PowN a y p W HP.out (by omega))
    have HS := fun W => Lib.hid (PowN a (x + y) p W HP.out (by omega))
    have HT := fun W => Lib.hid (PowN (a ^ x % p) y p W HP.out (by omega))
    have HPR := fun W => Lib.hid (PowN a (x * y) p W HP.out (by omega))
    have HBO := fun W => Lib.hid (PowN (a * b) x p W HP.out (by omega))
    have HPB := fun W => Lib.hid (PowN b x p W HP.out (by omega))
    have HLE := fun W => Lib.hid (PowM a x p W HP.out ha0 ha (by omega))
    have HON := fun W => Lib.hid (PowN a (p - 1) p W HP.out (by omega))
    have HD := fun W => Lib.hid (OrderN a p d W HP.out ha0 ha hd)
    have e1 := field_inv hpr ha0 ha
    have e2 : (a ^ x % p) * (a ^ y % p) % p = a ^ (x + y) % p := (pow_add_mod x y).symm
    have e3 := field_twice p a x y
    have e4 := field_both p a b x
    have e5 := field_less (x := x) hpr ha0 ha
    have e6 := fermat hpr hnd
    rw [e3] at HT
    rw [e6] at HON
    have l1 : a ^ (p - 2) % p < p := Nat.mod_lt _ (by omega)
    have l2 : a ^ x % p < p := Nat.mod_lt _ (by omega)
    have l3 : a ^ y % p < p := Nat.mod_lt _ (by omega)
    have l4 : b ^ x % p < p := Nat.mod_lt _ (by omega)
    have l5 : (a ^ (p - 2) % p) ^ x % p < p := Nat.mod_lt _ (by omega)
    generalize (a ^ (p - 2) % p) ^ x % p = le at HLE e5 l5
    generalize a ^ (p - 2) % p = inv at HI e1 l1
    generalize a ^ (x + y) % p = sm at HS e2
    generalize a ^ (x * y) % p = tw at HT HPR
    generalize (a * b) ^ x % p = bo at HBO e4
    generalize a ^ x % p = px at HPX HT e2 e4 e5 l2
    generalize a ^ y % p = py at HPY e2 l3
    generalize b ^ x % p = pb at HPB e4 l4
    have m0 := mul_small ha hb (by omega)
    have m1 := mul_small ha l1 (by omega)
    have m2 := mul_small l2 l3 (by omega)
    have m3 := mul_small l2 l4 (by omega)
    have m4 := mul_small l5 l2 (by omega)
    obtain ⟨q0, hq0⟩ : ∃ q, a * b = q := ⟨_, rfl⟩
    obtain ⟨q1, hq1⟩ : ∃ q, a * inv = q := ⟨_, rfl⟩
    obtain ⟨q2, hq2⟩ : ∃ q, px * py = q := ⟨_, rfl⟩
    obtain ⟨q3, hq3⟩ : ∃ q, px * pb = q := ⟨_, rfl⟩
    obtain ⟨q4, hq4⟩ : ∃ q, le * px = q := ⟨_, rfl⟩
    obtain ⟨q5, hq5⟩ : ∃ q, x * y = q := ⟨_, rfl⟩
    rw [hq0] at m0 HBO
    rw [hq1] at m1 e1
    rw [hq2] at m2 e2
    rw [hq3] at m3 e4
    rw [hq4] at m4 e5
    rw [hq5] at hxy HPR
    have k0 := wrap_mul hq0 (by omega)
    have k1 := wrap_mul hq1 (by omega)
    have k2 := wrap_mul hq2 (by omega)
    have k3 := wrap_mul hq3 (by omega)
    have k4 := wrap_mul hq4 (by omega)
    have k5 := wrap_mul hq5 (by omega)
    have t1 : (((q1 : Int) % (p : Int)) != 1) = false := mod_ne_false (v := 1) e1
    have t2 := mod_ne_false e2
    have t4 := mod_ne_false e4
    have t5 : (((q4 : Int) % (p : Int)) != 1) = false := mod_ne_false (v := 1) e5
    have t6 : (((p - 1 : Nat) : Int) % (d : Int) != 0) = false := mod_ne_false (v := 0) (Nat.mod_eq_zero_of_dvd hdd)
    have t7 : decide ((d : Int) < 1) = false := decide_eq_false (by omega)
    have t8 : ((tw : Int) != (tw : Int)) = false := by simp
    have hnep : ((p : Int) != 0) = true := by simp; omega
    have hned : ((d : Int) != 0) = true := by simp; omega
    have hnep0 : ¬ p = 0 := by omega
    have hned0 : ¬ d = 0 := by omega
    have hw1 : IntKind.i64.wrap ((p : Int) - 1) = ((p - 1 : Nat) : Int) := by
      rw [show ((p - 1 : Nat) : Int) = (p : Int) - 1 by omega]; exact IntWalk.i64_in _ ⟨by omega, by omega⟩
    have hs1 : IntKind.i64.wrap ((x : Int) + (y : Int)) = ((x + y : Nat) : Int) := by
      rw [Int.natCast_add]; exact IntWalk.i64_in _ ⟨by omega, by omega⟩
    have HDD := Lib.hid hd
    clear hd hdd e1 e2 e3 e4 e5 e6 hq0 hq1 hq2 hq3 hq4 hq5 hnd hpr
    go_wp2_with fail
    refine (HI _).out.mono ?_
    rintro e1 v0 ⟨rfl, hbb⟩
    have HB0 := Lib.hid (HB.out.trans (hbb.mono HB.out.size))
    clear hbb HI HB
    go_wp2_with fail
    refine (HPX _).out.mono ?_
    rintro e1 v1 ⟨rfl, hbb⟩
    have HB1 := Lib.hid (HB0.out.trans (hbb.mono HB0.out.size))
    clear hbb HPX HB0
    go_wp2_with fail
    refine (HPY _).out.mono ?_
    rintro e1 v2 ⟨rfl, hbb⟩
    have HB2 := Lib.hid (HB1.out.trans (hbb.mono HB1.out.size))
    clear hbb HPY HB1
    go_wp2_with fail
    refine (HS _).out.mono ?_
    rintro e1 v3 ⟨rfl, hbb⟩
    have HB3 := Lib.hid (HB2.out.trans (hbb.mono HB2.out.size))
    clear hbb HS HB2
    go_wp2_with fail
    refine (HT _).out.mono ?_
    rintro e1 v4 ⟨rfl, hbb⟩
    have HB4 := Lib.hid (HB3.out.trans (hbb.mono HB3.out.size))
    clear hbb HT HB3
    go_wp2_with fail
    refine (HPR _).out.mono ?_
    rintro e1 v5 ⟨rfl, hbb⟩
    have HB5 := Lib.hid (HB4.out.trans (hbb.mono HB4.out.size))
    clear hbb HPR HB4
    go_wp2_with fail
    refine (HBO _).out.mono ?_
    rintro e1 v6 ⟨rfl, hbb⟩
    have HB6 := Lib.hid (HB5.out.trans (hbb.mono HB5.out.size))
    clear hbb HBO HB5
    go_wp2_with fail
    refine (HPB _).out.mono ?_
    rintro e1 v7 ⟨rfl, hbb⟩
    have HB7 := Lib.hid (HB6.out.trans (hbb.mono HB6.out.size))
    clear hbb HPB HB6
    go_wp2_with fail
    refine (HLE _).out.mono ?_
    rintro e1 v8 ⟨rfl, hbb⟩
    have HB8 := Lib.hid (HB7.out.trans (hbb.mono HB7.out.size))
    clear hbb HLE HB7
    go_wp2_with fail
    refine (HON _).out.mono ?_
    rintro e1 v9 ⟨rfl, hbb⟩
    have HB9 := Lib.hid (HB8.out.trans (hbb.mono HB8.out.size))
    clear hbb HON HB8
    go_wp2_with fail
    refine (HD _).out.mono ?_
    rintro e1 v10 ⟨rfl, hbb⟩
    have HB10 := Lib.hid (HB9.out.trans (hbb.mono HB9.out.size))
    clear hbb HD HB9
    go_wp2_with fail
    have HZ0 : Hid (1 = a ^ 0 % p) := Lib.hid (by rw [Nat.pow_zero, Nat.mod_eq_of_lt (by omega)])
    clear t1 t2 t4 t5 t6 t7 t8 k0 k1 k2 k3 k4 k5 hw1 hs1
    go_loop [38, 39] (fun t38 t39 => ∃ z t : Nat, t38 = .int .i64 z ∧ t39 = .int .i64 (t + 1 : Nat) ∧ t ≤ d ∧ z < p ∧ Hid (z = a ^ t % p)) (fun _ t39 => d + 2 - (intOf t39).toNat)
    case atStart => exact ⟨1, 0, rfl, rfl, Nat.zero_le _, by omega, HZ0⟩
    case round =>
      obtain ⟨z, t, rfl, rfl, ht, hz, HZ⟩ := hrel
      have mz := mul_small hz ha (by omega)
      obtain ⟨q6, hq6⟩ : ∃ q, z * a = q := ⟨_, rfl⟩
      rw [hq6] at mz
      have k6 := wrap_mul hq6 (by omega)
      have hz2 : q6 % p < p := Nat.mod_lt _ (by omega)
      have HZ2 : Hid (q6 % p = a ^ (t + 1) % p) := Lib.hid (by rw [← hq6, HZ.out, Nat.pow_succ, Nat.mod_mul_mod])
      obtain ⟨z2, hz2e⟩ : ∃ z2, q6 % p = z2 := ⟨_, rfl⟩
      rw [hz2e] at hz2 HZ2
      have k7 : (q6 : Int) % (p : Int) = (z2 : Int) := by rw [← Int.natCast_emod, hz2e]
      clear hq6 hz2e
      by_cases htd : t < d
      · have c1 : decide (((t + 1 : Nat) : Int) ≤ (d : Int)) = true := decide_eq_true (by omega)
        have c2 : decide (t + 1 ≤ d) = true := decide_eq_true (by omega)
        by_cases hte : t + 1 = d
        · have hz1 : z2 = 1 := by rw [HZ2.out, hte]; exact HDD.out.2.1
          subst hz1
          have c3 : (((t + 1 : Nat) : Int) == (d : Int)) = true := by simp; omega
          have c4 : ((t : Int) + 1 == (d : Int)) = true := by simp; omega
          have c5 : decide (t < d) = true := decide_eq_true htd
          clear hte
          go_wp2
          go_round
          case rel => exact ⟨1, t + 1, by rw [k7], by go_num, by omega, by omega, HZ2⟩
          case measure => simp [intOf]; omega
        · have hz1 : z2 ≠ 1 := by rw [HZ2.out]; exact HDD.out.2.2 (t + 1) (by omega) (by omega)
          have c3 : (((t + 1 : Nat) : Int) == (d : Int)) = false := by simp; omega
          have c4 : ((t : Int) + 1 == (d : Int)) = false := by simp; omega
          have c5 : decide (t < d) = true := decide_eq_true htd
          have c6 : ((z2 : Int) == 1) = false := by simp; omega
          clear hte hz1
          go_wp2
          go_round
          case rel => exact ⟨z2, t + 1, by rw [k7], by go_num, by omega, hz2, HZ2⟩
          case measure => simp [intOf]; omega
      · have c1 : decide (((t + 1 : Nat) : Int) ≤ (d : Int)) = false := decide_eq_false (by omega)
        have c2 : decide (t + 1 ≤ d) = false := decide_eq_false (by omega)
        have c5 : decide (t < d) = false := decide_eq_false htd
        go_wp2
        go_ret
        exact ⟨rfl, HB10.out⟩
end Go.Proofs.Ytbcbkeeadbfjmaa
