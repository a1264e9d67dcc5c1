/- The reference of layer 3: Mod, residue, power, Inv, Pow, Order. -/
import Derived.Test.YtbcbkeeadbfjmaaPrRefB
import Derived.Test.YtbcbkeeadbfjmaaPrNat
namespace Go.Proofs.Ytbcbkeeadbfjmaa
open Go Go.RowKit Num

set_option maxRecDepth 100000 in
theorem rMod_bad (a p : Int) (w : World) (hp : isP p = false) : Calls Try.prog 31 #[.int .i64 a, .int .i64 p] w fun e w' => e = .returned (.tuple #[.int .i64 0, .int .i64 3]) ∧ w' = w := by
  have HC := Lib.hid (refIs_any p w)
  rw [hp] at HC
  go_enter Try.func31, Try.ntmps31
  go_wp2_with fail
  refine HC.out.mono ?_
  rintro e w' ⟨rfl, rfl⟩
  go_wp2
  go_ret2
  exact ⟨rfl, rfl⟩
set_option maxRecDepth 100000 in
theorem rMod_ok (a : Int) (p : Nat) (w : World) (hp : P6 p) : Calls Try.prog 31 #[.int .i64 a, .int .i64 p] w fun e w' => e = .returned (.tuple #[.int .i64 (resV a p : Nat), .int .i64 0]) ∧ w' = w := by
  have HC := Lib.hid (refIs_any p w)
  rw [hp.isP] at HC
  have h2 := hp.ge
  have hlt := hp.2
  have HP := Lib.hid (Pick_any a p w (by omega) (by omega))
  generalize resV a p = x at HP ⊢
  go_enter Try.func31, Try.ntmps31
  go_wp2_with fail
  refine HC.out.mono ?_
  rintro e w' ⟨rfl, rfl⟩
  go_wp2_with fail
  refine HP.out.mono ?_
  rintro e w' ⟨rfl, rfl⟩
  go_wp2
  go_ret2
  exact ⟨rfl, rfl⟩
set_option maxRecDepth 100000 in
theorem rRes_bad (a p : Int) (w : World) (hp : isP p = false) : Calls Try.prog 49 #[.int .i64 a, .int .i64 p] w fun e w' => e = .returned (.tuple #[.int .i64 0, .int .i64 3]) ∧ w' = w := by
  have HC := Lib.hid (rMod_bad a p w hp)
  go_enter Try.func49, Try.ntmps49
  go_wp2_with fail
  refine HC.out.mono ?_
  rintro e w' ⟨rfl, rfl⟩
  go_wp2
  go_ret2
  exact ⟨rfl, rfl⟩
set_option maxRecDepth 100000 in
theorem rRes_zero (a : Int) (p : Nat) (w : World) (hp : P6 p) (h0 : resV a p = 0) : Calls Try.prog 49 #[.int .i64 a, .int .i64 p] w fun e w' => e = .returned (.tuple #[.int .i64 0, .int .i64 6]) ∧ w' = w := by
  have HC := Lib.hid (rMod_ok a p w hp)
  rw [h0] at HC
  go_enter Try.func49, Try.ntmps49
  go_wp2_with fail
  refine HC.out.mono ?_
  rintro e w' ⟨rfl, rfl⟩
  go_wp2
  go_ret2
  exact ⟨rfl, rfl⟩
set_option maxRecDepth 100000 in
theorem rRes_ok (a : Int) (p : Nat) (w : World) (hp : P6 p) (h0 : resV a p ≠ 0) : Calls Try.prog 49 #[.int .i64 a, .int .i64 p] w fun e w' => e = .returned (.tuple #[.int .i64 (resV a p : Nat), .int .i64 0]) ∧ w' = w := by
  have HC := Lib.hid (rMod_ok a p w hp)
  generalize resV a p = x at HC h0 ⊢
  have hd : ((x : Int) == 0) = false := by simp; omega
  go_enter Try.func49, Try.ntmps49
  go_wp2_with fail
  refine HC.out.mono ?_
  rintro e w' ⟨rfl, rfl⟩
  go_wp2
  go_ret2
  exact ⟨rfl, rfl⟩

theorem mul_lt_big' {x y p : Nat} (hx : x < p) (hy : y < p) (hp : p ≤ 1000000) : x * y ≤ 1000000000000 := mul_lt_big hx hy hp
set_option maxRecDepth 100000 in
set_option maxHeartbeats 1000000 in
theorem rPower (x n p : Nat) (w : World) (hx : x < p) (h2 : 2 ≤ p) (hp : p ≤ 1000000) (hn : n ≤ 9223372036854775807) :
    Calls Try.prog 50 #[.int .i64 x, .int .i64 n, .int .i64 p] w fun e w' => e = .returned (.int .i64 ((x ^ n % p : Nat) : Int)) ∧ w' = w := by
  have HS : Hid (PowAt p 1 x n (x ^ n % p)) := Lib.hid ⟨by omega, hx, by rw [Nat.one_mul]⟩
  have hnep : ((p : Int) != 0) = true := by simp; omega
  have hnep0 : ¬ p = 0 := by omega
  have h1p : (1 : Int) % (p : Int) = 1 := Int.emod_eq_of_lt (by omega) (by omega)
  generalize x ^ n % p = v at HS ⊢
  go_enter Try.func50, Try.ntmps50
  go_wp2
  go_loop [0, 1, 7] (fun t0 t1 t7 => ∃ r y m : Nat, t7 = .int .i64 r ∧ t0 = .int .i64 y ∧ t1 = .int .i64 m ∧ m ≤ 9223372036854775807 ∧ Hid (PowAt p r y m v)) (fun _ t1 _ => (intOf t1).toNat)
  case atStart => exact ⟨1, x, n, by rw [h1p]; rfl, rfl, rfl, hn, HS⟩
  case round =>
    clear h1p
    obtain ⟨r, y, m, rfl, rfl, rfl, hm, hA⟩ := hrel
    have hr := hA.out.1
    have hy := hA.out.2.1
    by_cases h0 : m = 0
    · subst h0
      have HE := Lib.hid hA.out.zero
      go_wp2
      go_ret
      exact ⟨ret_int (by rw [HE.out]), rfl⟩
    · have hpos : decide ((m : Int) > 0) = true := decide_eq_true (by omega)
      have hyy := mul_lt_big hy hy hp
      have hry := mul_lt_big hr hy hp
      obtain ⟨s1, hs1⟩ : ∃ s, y * y = s := ⟨_, rfl⟩
      obtain ⟨s2, hs2⟩ : ∃ s, r * y = s := ⟨_, rfl⟩
      rw [hs1] at hyy
      rw [hs2] at hry
      have k1 : IntKind.i64.wrap ((y : Int) * (y : Int)) = (s1 : Int) := by rw [← Int.natCast_mul, hs1]; exact IntWalk.i64_in _ ⟨by omega, by omega⟩
      have k2 : IntKind.i64.wrap ((r : Int) * (y : Int)) = (s2 : Int) := by rw [← Int.natCast_mul, hs2]; exact IntWalk.i64_in _ ⟨by omega, by omega⟩
      by_cases h1 : m % 2 = 1
      · have HN := Lib.hid (hA.out.odd h1)
        rw [hs1, hs2] at HN
        have hd : (((m : Int) % 2) == 1) = true := by simp; omega
        clear hs1 hs2
        go_wp2
        go_round
        case rel => exact ⟨s2 % p, s1 % p, m / 2, by go_num, by go_num, by go_num, by omega, HN⟩
        case measure => simp [intOf]; omega
      · have HN := Lib.hid (hA.out.even (by omega))
        rw [hs1] at HN
        have hd : (((m : Int) % 2) == 1) = false := by simp; omega
        clear hs1 hs2
        go_wp2
        go_round
        case rel => exact ⟨r, s1 % p, m / 2, rfl, by go_num, by go_num, by omega, HN⟩
        case measure => simp [intOf]; omega

set_option maxRecDepth 100000 in
theorem rInv_bad (a p : Int) (w : World) (hp : isP p = false) : Calls Try.prog 32 #[.int .i64 a, .int .i64 p] w fun e w' => e = .returned (.tuple #[.int .i64 0, .int .i64 3]) ∧ w' = w := by
  have HC := Lib.hid (rRes_bad a p w hp)
  go_enter Try.func32, Try.ntmps32
  go_wp2_with fail
  refine HC.out.mono ?_
  rintro e w' ⟨rfl, rfl⟩
  go_wp2
  go_ret2
  exact ⟨rfl, rfl⟩
set_option maxRecDepth 100000 in
theorem rInv_zero (a : Int) (p : Nat) (w : World) (hp : P6 p) (h0 : resV a p = 0) : Calls Try.prog 32 #[.int .i64 a, .int .i64 p] w fun e w' => e = .returned (.tuple #[.int .i64 0, .int .i64 6]) ∧ w' = w := by
  have HC := Lib.hid (rRes_zero a p w hp h0)
  go_enter Try.func32, Try.ntmps32
  go_wp2_with fail
  refine HC.out.mono ?_
  rintro e w' ⟨rfl, rfl⟩
  go_wp2
  go_ret2
  exact ⟨rfl, rfl⟩
set_option maxRecDepth 100000 in
theorem rInv_ok (a : Int) (p : Nat) (w : World) (hp : P6 p) (h0 : resV a p ≠ 0) : Calls Try.prog 32 #[.int .i64 a, .int .i64 p] w fun e w' => e = .returned (.tuple #[.int .i64 (resV a p ^ (p - 2) % p : Nat), .int .i64 0]) ∧ w' = w := by
  have HC := Lib.hid (rRes_ok a p w hp h0)
  have h2 := hp.ge
  have hlt := hp.2
  have HP := Lib.hid (rPower (resV a p) (p - 2) p w (resV_lt a h2) h2 (by omega) (by omega))
  generalize resV a p = x at HC HP ⊢
  generalize x ^ (p - 2) % p = y at HP ⊢
  have hw : IntKind.i64.wrap ((p : Int) - 2) = ((p - 2 : Nat) : Int) := by
    rw [show ((p - 2 : Nat) : Int) = (p : Int) - 2 by omega]; exact IntWalk.i64_in _ ⟨by omega, by omega⟩
  go_enter Try.func32, Try.ntmps32
  go_wp2_with fail
  refine HC.out.mono ?_
  rintro e w' ⟨rfl, rfl⟩
  go_wp2_with fail
  refine HP.out.mono ?_
  rintro e w' ⟨rfl, rfl⟩
  go_wp2
  go_ret2
  exact ⟨rfl, rfl⟩

set_option maxRecDepth 100000 in
theorem rPow_bad (a n p : Int) (w : World) (hp : isP p = false) : Calls Try.prog 33 #[.int .i64 a, .int .i64 n, .int .i64 p] w fun e w' => e = .returned (.tuple #[.int .i64 0, .int .i64 3]) ∧ w' = w := by
  have HC := Lib.hid (rMod_bad a p w hp)
  go_enter Try.func33, Try.ntmps33
  go_wp2_with fail
  refine HC.out.mono ?_
  rintro e w' ⟨rfl, rfl⟩
  go_wp2
  go_ret2
  exact ⟨rfl, rfl⟩
set_option maxRecDepth 100000 in
theorem rPow_pos (a : Int) (n p : Nat) (w : World) (hp : P6 p) (hn : n ≤ 9223372036854775807) : Calls Try.prog 33 #[.int .i64 a, .int .i64 n, .int .i64 p] w fun e w' => e = .returned (.tuple #[.int .i64 (resV a p ^ n % p : Nat), .int .i64 0]) ∧ w' = w := by
  have HC := Lib.hid (rMod_ok a p w hp)
  have h2 := hp.ge
  have hlt := hp.2
  have HP := Lib.hid (rPower (resV a p) n p w (resV_lt a h2) h2 (by omega) (by omega))
  generalize resV a p = x at HC HP ⊢
  generalize x ^ n % p = y at HP ⊢
  have hd : decide ((n : Int) ≥ 0) = true := decide_eq_true (by omega)
  go_enter Try.func33, Try.ntmps33
  go_wp2_with fail
  refine HC.out.mono ?_
  rintro e w' ⟨rfl, rfl⟩
  go_wp2_with fail
  refine HP.out.mono ?_
  rintro e w' ⟨rfl, rfl⟩
  go_wp2
  go_ret2
  exact ⟨rfl, rfl⟩
set_option maxRecDepth 100000 in
theorem rPow_zero (a n : Int) (p : Nat) (w : World) (hp : P6 p) (h0 : resV a p = 0) (hn : n < 0) : Calls Try.prog 33 #[.int .i64 a, .int .i64 n, .int .i64 p] w fun e w' => e = .returned (.tuple #[.int .i64 0, .int .i64 6]) ∧ w' = w := by
  have HC := Lib.hid (rMod_ok a p w hp)
  rw [h0] at HC
  have hd : decide (n ≥ 0) = false := decide_eq_false (by omega)
  go_enter Try.func33, Try.ntmps33
  go_wp2_with fail
  refine HC.out.mono ?_
  rintro e w' ⟨rfl, rfl⟩
  go_wp2
  go_ret2
  exact ⟨rfl, rfl⟩
/-- The power by a negative number, by Fermat. -/
theorem neg_pow {p x : Nat} {n : Int} (hp : Pr p) (h0 : x ≠ 0) (hx : x < p) (hn : n < 0) : (x ^ (p - 2) % p) ^ (-n).toNat % p = x ^ resV n (p - 1) % p := by
  have hp2 := hp.1
  have hnd := pr_not_dvd (p := p) (a := x) (by omega) hx
  have hp1 : 1 ≤ p - 1 := by omega
  obtain ⟨m, hm⟩ : ∃ m, (-n).toNat = m := ⟨_, rfl⟩
  obtain ⟨r, hr⟩ : ∃ r, resV n (p - 1) = r := ⟨_, rfl⟩
  have hrn : (r : Int) = n % ((p - 1 : Nat) : Int) := by
    rw [← hr]
    unfold resV
    have := Int.emod_nonneg n (show ((p - 1 : Nat) : Int) ≠ 0 by omega)
    omega
  have hsum : (p - 1) ∣ r + m := by
    have h1 : (((p - 1 : Nat) : Int)) ∣ (r : Int) - n := by
      rw [hrn]
      exact ⟨-(n / ((p - 1 : Nat) : Int)), by have := Int.emod_add_mul_ediv n ((p - 1 : Nat) : Int); rw [Int.mul_neg]; omega⟩
    rw [show (r : Int) - n = ((r + m : Nat) : Int) by omega] at h1
    exact Int.natCast_dvd_natCast.1 h1
  obtain ⟨c, hc⟩ := hsum
  rw [hm, hr]
  have e1 : x ^ r * x ^ m % p = 1 % p := by
    rw [← Nat.pow_add, hc, pow_mul_one hp2 (fermat hp hnd), Nat.mod_eq_of_lt (by omega)]
  have e2 : (x ^ (p - 2) % p) ^ m * x ^ m % p = 1 % p := by
    rw [← Nat.mul_pow, Nat.pow_mod, Nat.mul_comm, field_inv hp h0 hx, Nat.one_pow]
  exact cancel_mod hp (c := x ^ m) (fun h => hnd (hp.dvd_pow h)) (e2.trans e1.symm)
set_option maxRecDepth 100000 in
theorem rPow_neg (a n : Int) (p : Nat) (w : World) (hp : P6 p) (h0 : resV a p ≠ 0) (hn : n < 0) : Calls Try.prog 33 #[.int .i64 a, .int .i64 n, .int .i64 p] w fun e w' => e = .returned (.tuple #[.int .i64 ((resV a p ^ (p - 2) % p) ^ (-n).toNat % p : Nat), .int .i64 0]) ∧ w' = w := by
  have h2 := hp.ge
  have hlt := hp.2
  rw [neg_pow hp.1 h0 (resV_lt a h2) hn]
  have HC := Lib.hid (rMod_ok a p w hp)
  have hrl := resV_lt1 n (p := p - 1) (by omega)
  have HPK := Lib.hid (Pick_any n (p - 1) w (by omega) (by omega))
  have HP := Lib.hid (rPower (resV a p) (resV n (p - 1)) p w (resV_lt a h2) h2 (by omega) (by omega))
  generalize resV a p = x at HC HP h0 ⊢
  generalize resV n (p - 1) = r at HPK HP hrl ⊢
  generalize x ^ r % p = y at HP ⊢
  have hd : decide (n ≥ 0) = false := decide_eq_false (by omega)
  have hd2 : ((x : Int) == 0) = false := by simp; omega
  have hw : IntKind.i64.wrap ((p : Int) - 1) = ((p - 1 : Nat) : Int) := by
    rw [show ((p - 1 : Nat) : Int) = (p : Int) - 1 by omega]; exact IntWalk.i64_in _ ⟨by omega, by omega⟩
  go_enter Try.func33, Try.ntmps33
  go_wp2_with fail
  refine HC.out.mono ?_
  rintro e w' ⟨rfl, rfl⟩
  go_wp2_with fail
  refine HPK.out.mono ?_
  rintro e w' ⟨rfl, rfl⟩
  go_wp2_with fail
  refine HP.out.mono ?_
  rintro e w' ⟨rfl, rfl⟩
  go_wp2
  go_ret2
  exact ⟨rfl, rfl⟩

set_option maxRecDepth 100000 in
theorem rOrder_bad (a p : Int) (w : World) (hp : isP p = false) : Calls Try.prog 34 #[.int .i64 a, .int .i64 p] w fun e w' => e = .returned (.tuple #[.int .i64 0, .int .i64 3]) ∧ w' = w := by
  have HC := Lib.hid (rRes_bad a p w hp)
  go_enter Try.func34, Try.ntmps34
  go_wp2_with fail
  refine HC.out.mono ?_
  rintro e w' ⟨rfl, rfl⟩
  go_wp2
  go_ret2
  exact ⟨rfl, rfl⟩
set_option maxRecDepth 100000 in
theorem rOrder_zero (a : Int) (p : Nat) (w : World) (hp : P6 p) (h0 : resV a p = 0) : Calls Try.prog 34 #[.int .i64 a, .int .i64 p] w fun e w' => e = .returned (.tuple #[.int .i64 0, .int .i64 6]) ∧ w' = w := by
  have HC := Lib.hid (rRes_zero a p w hp h0)
  go_enter Try.func34, Try.ntmps34
  go_wp2_with fail
  refine HC.out.mono ?_
  rintro e w' ⟨rfl, rfl⟩
  go_wp2
  go_ret2
  exact ⟨rfl, rfl⟩
set_option maxRecDepth 100000 in
set_option maxHeartbeats 1000000 in
theorem rOrder_ok (a : Int) (p d : Nat) (w : World) (hp : P6 p) (h0 : resV a p ≠ 0) (hd : Ord p (resV a p) d) : Calls Try.prog 34 #[.int .i64 a, .int .i64 p] w fun e w' => e = .returned (.tuple #[.int .i64 d, .int .i64 0]) ∧ w' = w := by
  have HC := Lib.hid (rRes_ok a p w hp h0)
  have h2 := hp.ge
  have hlt := hp.2
  have hx := resV_lt a h2
  have hnd := pr_not_dvd (p := p) (a := resV a p) (by omega) hx
  have hdp : d ≤ p - 1 := by
    have := hd.dvd h2 (fermat hp.1 hnd)
    exact Nat.le_of_dvd (by omega) this
  generalize resV a p = x at HC hd hx h0 hnd
  have HD := Lib.hid hd
  have hd1 := hd.1
  have hnep : ((p : Int) != 0) = true := by simp; omega
  have hnep0 : ¬ p = 0 := by omega
  clear hd hnd
  go_enter Try.func34, Try.ntmps34
  go_wp2_with fail
  refine HC.out.mono ?_
  rintro e w' ⟨rfl, rfl⟩
  go_wp2_with fail
  go_loop [7, 8] (fun t7 t8 => ∃ k y : Nat, t7 = .int .i64 k ∧ t8 = .int .i64 y ∧ 1 ≤ k ∧ k ≤ d ∧ y < p ∧ Hid (y = x ^ k % p)) (fun t7 _ => d + 1 - (intOf t7).toNat)
  case atStart => exact ⟨1, x, rfl, rfl, Nat.le_refl _, hd1, hx, Lib.hid (by rw [Nat.pow_one, Nat.mod_eq_of_lt hx])⟩
  case round =>
    obtain ⟨k, y, rfl, rfl, hk1, hkd, hy, HY⟩ := hrel
    by_cases hke : k = d
    · have hy1 : y = 1 := by rw [HY.out, hke]; exact HD.out.2.1
      subst hy1
      subst hke
      go_wp2
      go_ret2
      exact ⟨rfl, rfl⟩
    · have hy1 : y ≠ 1 := by rw [HY.out]; exact HD.out.2.2 k hk1 (by omega)
      have hb := mul_lt_big hy hx (by omega)
      obtain ⟨s, hs⟩ : ∃ s, y * x = s := ⟨_, rfl⟩
      rw [hs] at hb
      have k1 : IntKind.i64.wrap ((y : Int) * (x : Int)) = (s : Int) := by rw [← Int.natCast_mul, hs]; exact IntWalk.i64_in _ ⟨by omega, by omega⟩
      have HY2 : Hid (s % p = x ^ (k + 1) % p) := Lib.hid (by rw [← hs, HY.out, Nat.pow_succ, Nat.mod_mul_mod])
      have hd : ((y : Int) != 1) = true := by simp; omega
      have hsp : s % p < p := Nat.mod_lt _ (by omega)
      clear hs hy1
      go_wp2
      go_round
      case rel => exact ⟨k + 1, s % p, by go_num, by go_num, by omega, by omega, hsp, HY2⟩
      case measure => simp [intOf]; omega
end Go.Proofs.Ytbcbkeeadbfjmaa
