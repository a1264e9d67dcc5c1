/- prime.Mod, unit, Inv, Symbol, Pow. -/
import Derived.Test.YtbcbkeeadbfjmaaPrPow
namespace Go.Proofs.Ytbcbkeeadbfjmaa
open Go Go.RowKit Num

/-- A call has returned a number and an error. -/
def RetE (w : World) (x e : Int) (en : Ending) (w' : World) : Prop := en = .returned (.tuple #[.int .i64 x, .int .i64 e]) ∧ Below w.heap.size w w'
theorem RetE.eq {w : World} {x y e f : Int} (h : x = y) (k : e = f) : RetE w x e = RetE w y f := by rw [h, k]
/-- A modulus. -/
def P6 (p : Nat) : Prop := Pr p ∧ p < 1000000
theorem P6.ge {p : Nat} (h : P6 p) : 2 ≤ p := h.1.1
theorem P6.isP {p : Nat} (h : P6 p) : isP (p : Int) = true := (isP_nat h.2).2 h.1
/-- The residue. -/
def resV (a : Int) (p : Nat) : Nat := (a % (p : Int)).toNat
theorem resV_lt (a : Int) {p : Nat} (h : 2 ≤ p) : resV a p < p := by
  unfold resV
  have := Int.emod_lt_of_pos a (show (0 : Int) < p by omega)
  have := Int.emod_nonneg a (show (p : Int) ≠ 0 by omega)
  omega
theorem resV_cast (a : Int) {p : Nat} (h : 2 ≤ p) : ((resV a p : Nat) : Int) = a % (p : Int) := by
  unfold resV
  have := Int.emod_nonneg a (show (p : Int) ≠ 0 by omega)
  omega
theorem resV_nat {x p : Nat} (h : x < p) : resV (x : Int) p = x := by
  unfold resV
  rw [← Int.natCast_emod, Nat.mod_eq_of_lt h]; rfl
theorem resV_of_nat (x p : Nat) : resV (x : Int) p = x % p := by
  unfold resV
  rw [← Int.natCast_emod]; rfl
def InI (a : Int) : Prop := -9223372036854775808 ≤ a ∧ a ≤ 9223372036854775807
theorem tmod_fix (a : Int) (p : Nat) (h : 2 ≤ p) : (a.tmod p + p).tmod p = a % (p : Int) := by
  have h1 := Int.tmod_add_mul_tdiv a p
  have hlt := Int.natAbs_tmod a p
  have hp : (0 : Int) < p := by omega
  have hb : -(p : Int) < a.tmod p ∧ a.tmod p < p := by
    have : (a.tmod p).natAbs < p := by
      rw [hlt]; simp; exact Nat.mod_lt _ (by omega)
    omega
  rw [Int.tmod_eq_emod_of_nonneg (by omega), Int.add_emod_right]
  conv => rhs; rw [← h1, Int.add_mul_emod_self_left]
theorem tmod_bound (a : Int) (p : Nat) (h : 2 ≤ p) : -(p : Int) < a.tmod p ∧ a.tmod p < p := by
  have hlt := Int.natAbs_tmod a p
  have : (a.tmod p).natAbs < p := by
    rw [hlt]; simp; exact Nat.mod_lt _ (by omega)
  omega

set_option maxRecDepth 100000 in
set_option maxHeartbeats 400000 in
theorem Mod_bad (a p : Int) (w : World) (hp : isP p = false) : Calls Try.prog 18 #[.int .i64 a, .int .i64 p] w fun e w' => e = .returned (.tuple #[.int .i64 0, .int .i64 3]) ∧ w' = w := by
  have HC := Lib.hid (Is_any p w)
  rw [hp] at HC
  go_enter Try.func18, Try.ntmps18
  go_wp2_with fail
  refine HC.out.mono ?_
  rintro e w' ⟨rfl, rfl⟩
  go_wp2
  go_ret2
  exact ⟨rfl, rfl⟩

set_option maxRecDepth 100000 in
set_option maxHeartbeats 400000 in
theorem Mod_ok (a : Int) (p : Nat) (w : World) (hp : P6 p) : Calls Try.prog 18 #[.int .i64 a, .int .i64 p] w fun e w' => e = .returned (.tuple #[.int .i64 (resV a p : Nat), .int .i64 0]) ∧ w' = w := by
  have HC := Lib.hid (Is_any p w)
  rw [hp.isP] at HC
  have h2 := hp.ge
  have hlt := hp.2
  have hb := tmod_bound a p h2
  have hne : ((p : Int) != 0) = true := by simp; omega
  have hw : IntKind.i64.wrap (a.tmod p + p) = a.tmod p + p := IntWalk.i64_in _ ⟨by omega, by omega⟩
  have hf := tmod_fix a p h2
  rw [resV_cast a h2]
  go_enter Try.func18, Try.ntmps18
  go_wp2_with fail
  refine HC.out.mono ?_
  rintro e w' ⟨rfl, rfl⟩
  go_wp2
  go_ret2
  exact ⟨rfl, rfl⟩
set_option maxRecDepth 100000 in
set_option maxHeartbeats 400000 in
theorem unit_bad (a p : Int) (w : World) (hp : isP p = false) : Calls Try.prog 45 #[.int .i64 a, .int .i64 p] w fun e w' => e = .returned (.tuple #[.int .i64 0, .int .i64 3]) ∧ w' = w := by
  have HC := Lib.hid (Mod_bad a p w hp)
  go_enter Try.func45, Try.ntmps45
  go_wp2_with fail
  refine HC.out.mono ?_
  rintro e w' ⟨rfl, rfl⟩
  go_wp2
  go_ret2
  exact ⟨rfl, rfl⟩

set_option maxRecDepth 100000 in
set_option maxHeartbeats 400000 in
theorem unit_ok (a : Int) (p : Nat) (w : World) (hp : P6 p) (h0 : resV a p ≠ 0) : Calls Try.prog 45 #[.int .i64 a, .int .i64 p] w fun e w' => e = .returned (.tuple #[.int .i64 (resV a p : Nat), .int .i64 0]) ∧ w' = w := by
  have HC := Lib.hid (Mod_ok a p w hp)
  generalize resV a p = x at HC h0 ⊢
  have hd : ((x : Int) == 0) = false := by simp; omega
  go_enter Try.func45, Try.ntmps45
  go_wp2_with fail
  refine HC.out.mono ?_
  rintro e w' ⟨rfl, rfl⟩
  go_wp2
  go_ret2
  exact ⟨rfl, rfl⟩

set_option maxRecDepth 100000 in
set_option maxHeartbeats 400000 in
theorem unit_zero (a : Int) (p : Nat) (w : World) (hp : P6 p) (h0 : resV a p = 0) : Calls Try.prog 45 #[.int .i64 a, .int .i64 p] w fun e w' => e = .returned (.tuple #[.int .i64 0, .int .i64 6]) ∧ w' = w := by
  have HC := Lib.hid (Mod_ok a p w hp)
  rw [h0] at HC
  go_enter Try.func45, Try.ntmps45
  go_wp2_with fail
  refine HC.out.mono ?_
  rintro e w' ⟨rfl, rfl⟩
  go_wp2
  go_ret2
  exact ⟨rfl, rfl⟩

set_option maxRecDepth 100000 in
set_option maxHeartbeats 400000 in
theorem Inv_bad (a p : Int) (w : World) (hp : isP p = false) : Calls Try.prog 19 #[.int .i64 a, .int .i64 p] w fun e w' => e = .returned (.tuple #[.int .i64 0, .int .i64 3]) ∧ w' = w := by
  have HC := Lib.hid (unit_bad a p w hp)
  go_enter Try.func19, Try.ntmps19
  go_wp2_with fail
  refine HC.out.mono ?_
  rintro e w' ⟨rfl, rfl⟩
  go_wp2
  go_ret2
  exact ⟨rfl, rfl⟩

set_option maxRecDepth 100000 in
set_option maxHeartbeats 400000 in
theorem Inv_zero (a : Int) (p : Nat) (w : World) (hp : P6 p) (h0 : resV a p = 0) : Calls Try.prog 19 #[.int .i64 a, .int .i64 p] w fun e w' => e = .returned (.tuple #[.int .i64 0, .int .i64 6]) ∧ w' = w := by
  have HC := Lib.hid (unit_zero a p w hp h0)
  go_enter Try.func19, Try.ntmps19
  go_wp2_with fail
  refine HC.out.mono ?_
  rintro e w' ⟨rfl, rfl⟩
  go_wp2
  go_ret2
  exact ⟨rfl, rfl⟩

set_option maxRecDepth 100000 in
set_option maxHeartbeats 400000 in
theorem Inv_ok (a : Int) (p : Nat) (w : World) (hp : P6 p) (h0 : resV a p ≠ 0) : Calls Try.prog 19 #[.int .i64 a, .int .i64 p] w fun e w' => e = .returned (.tuple #[.int .i64 (resV a p ^ (p - 2) % p : Nat), .int .i64 0]) ∧ w' = w.alloc (.cells #[.int .i64 p] 3) := by
  have HC := Lib.hid (unit_ok a p w hp h0)
  have h2 := hp.ge
  have hlt := hp.2
  have HP := Lib.hid (pow_any (resV a p) (p - 2) p w (resV_lt a h2) h2 (by omega) (by omega))
  generalize resV a p = x at HC HP ⊢
  generalize x ^ (p - 2) % p = y at HP ⊢
  have hs : ((p - 2 : Nat) : Int) = (p : Int) - 2 := by omega
  rw [hs] at HP
  have hw : IntKind.i64.wrap ((p : Int) - 2) = (p : Int) - 2 := IntWalk.i64_in _ ⟨by omega, by omega⟩
  have hu : IntKind.u64.wrap ((p : Int) - 2) = (p : Int) - 2 := by rw [IntKind.wrap_u64]; omega
  go_enter Try.func19, Try.ntmps19
  go_wp2_with fail
  refine HC.out.mono ?_
  rintro e w' ⟨rfl, rfl⟩
  go_wp2_with fail
  refine HP.out.mono ?_
  rintro e w' ⟨rfl, rfl⟩
  go_wp2
  go_ret2
  exact ⟨rfl, rfl⟩

set_option maxRecDepth 100000 in
set_option maxHeartbeats 400000 in
theorem Symbol_bad (a p : Int) (w : World) (hp : isP p = false) : Calls Try.prog 25 #[.int .i64 a, .int .i64 p] w fun e w' => e = .returned (.tuple #[.int .i64 0, .int .i64 3]) ∧ w' = w := by
  have HC := Lib.hid (Mod_bad a p w hp)
  go_enter Try.func25, Try.ntmps25
  go_wp2_with fail
  refine HC.out.mono ?_
  rintro e w' ⟨rfl, rfl⟩
  go_wp2
  go_ret2
  exact ⟨rfl, rfl⟩

set_option maxRecDepth 100000 in
set_option maxHeartbeats 400000 in
theorem Symbol_zero (a : Int) (p : Nat) (w : World) (hp : P6 p) (h0 : resV a p = 0) : Calls Try.prog 25 #[.int .i64 a, .int .i64 p] w fun e w' => e = .returned (.tuple #[.int .i64 0, .int .i64 0]) ∧ w' = w := by
  have HC := Lib.hid (Mod_ok a p w hp)
  rw [h0] at HC
  go_enter Try.func25, Try.ntmps25
  go_wp2_with fail
  refine HC.out.mono ?_
  rintro e w' ⟨rfl, rfl⟩
  go_wp2
  go_ret2
  exact ⟨rfl, rfl⟩

set_option maxRecDepth 100000 in
set_option maxHeartbeats 400000 in
theorem Symbol_one (a : Int) (p : Nat) (w : World) (hp : P6 p) (h0 : resV a p ≠ 0) (h1 : resV a p ^ ((p - 1) / 2) % p = 1) : Calls Try.prog 25 #[.int .i64 a, .int .i64 p] w fun e w' => e = .returned (.tuple #[.int .i64 1, .int .i64 0]) ∧ w' = w.alloc (.cells #[.int .i64 p] 3) := by
  have HC := Lib.hid (Mod_ok a p w hp)
  have h2 := hp.ge
  have hlt := hp.2
  have HP := Lib.hid (pow_any (resV a p) ((p - 1) / 2) p w (resV_lt a h2) h2 (by omega) (by omega))
  generalize resV a p = x at HC HP h0 h1
  have hd : ((x : Int) == 0) = false := by simp; omega
  have hs : (((p - 1) / 2 : Nat) : Int) = ((p : Int) - 1) / 2 := by omega
  rw [hs] at HP
  have hw : IntKind.i64.wrap ((p : Int) - 1) = (p : Int) - 1 := IntWalk.i64_in _ ⟨by omega, by omega⟩
  have hu : IntKind.u64.wrap ((p : Int) - 1) = (p : Int) - 1 := by rw [IntKind.wrap_u64]; omega
  have hu2 : IntKind.u64.wrap (((p : Int) - 1) / 2) = ((p : Int) - 1) / 2 := by rw [IntKind.wrap_u64]; omega
  rw [h1] at HP
  go_enter Try.func25, Try.ntmps25
  go_wp2_with fail
  refine HC.out.mono ?_
  rintro e w' ⟨rfl, rfl⟩
  go_wp2_with fail
  refine HP.out.mono ?_
  rintro e w' ⟨rfl, rfl⟩
  go_wp2
  go_ret2
  exact ⟨rfl, rfl⟩

set_option maxRecDepth 100000 in
set_option maxHeartbeats 400000 in
theorem Symbol_neg (a : Int) (p : Nat) (w : World) (hp : P6 p) (h0 : resV a p ≠ 0) (h1 : resV a p ^ ((p - 1) / 2) % p ≠ 1) : Calls Try.prog 25 #[.int .i64 a, .int .i64 p] w fun e w' => e = .returned (.tuple #[.int .i64 (-1), .int .i64 0]) ∧ w' = w.alloc (.cells #[.int .i64 p] 3) := by
  have HC := Lib.hid (Mod_ok a p w hp)
  have h2 := hp.ge
  have hlt := hp.2
  have HP := Lib.hid (pow_any (resV a p) ((p - 1) / 2) p w (resV_lt a h2) h2 (by omega) (by omega))
  generalize resV a p = x at HC HP h0 h1
  have hd : ((x : Int) == 0) = false := by simp; omega
  have hs : (((p - 1) / 2 : Nat) : Int) = ((p : Int) - 1) / 2 := by omega
  rw [hs] at HP
  have hw : IntKind.i64.wrap ((p : Int) - 1) = (p : Int) - 1 := IntWalk.i64_in _ ⟨by omega, by omega⟩
  have hu : IntKind.u64.wrap ((p : Int) - 1) = (p : Int) - 1 := by rw [IntKind.wrap_u64]; omega
  have hu2 : IntKind.u64.wrap (((p : Int) - 1) / 2) = ((p : Int) - 1) / 2 := by rw [IntKind.wrap_u64]; omega
  generalize x ^ ((p - 1) / 2) % p = y at HP h1
  have hy : ((y : Int) != 1) = true := by simp; omega
  go_enter Try.func25, Try.ntmps25
  go_wp2_with fail
  refine HC.out.mono ?_
  rintro e w' ⟨rfl, rfl⟩
  go_wp2_with fail
  refine HP.out.mono ?_
  rintro e w' ⟨rfl, rfl⟩
  go_wp2
  go_ret2
  exact ⟨rfl, rfl⟩

set_option maxRecDepth 100000 in
set_option maxHeartbeats 400000 in
theorem Pow_bad (a n p : Int) (w : World) (hp : isP p = false) : Calls Try.prog 20 #[.int .i64 a, .int .i64 n, .int .i64 p] w fun e w' => e = .returned (.tuple #[.int .i64 0, .int .i64 3]) ∧ w' = w := by
  have HC := Lib.hid (Mod_bad a p w hp)
  go_enter Try.func20, Try.ntmps20
  go_wp2_with fail
  refine HC.out.mono ?_
  rintro e w' ⟨rfl, rfl⟩
  go_wp2
  go_ret2
  exact ⟨rfl, rfl⟩

set_option maxRecDepth 100000 in
set_option maxHeartbeats 400000 in
theorem Pow_pos (a : Int) (n p : Nat) (w : World) (hp : P6 p) (hn : n ≤ 9223372036854775807) : Calls Try.prog 20 #[.int .i64 a, .int .i64 n, .int .i64 p] w fun e w' => e = .returned (.tuple #[.int .i64 (resV a p ^ n % p : Nat), .int .i64 0]) ∧ w' = w.alloc (.cells #[.int .i64 p] 3) := by
  have HC := Lib.hid (Mod_ok a p w hp)
  have h2 := hp.ge
  have hlt := hp.2
  have HP := Lib.hid (pow_any (resV a p) n p w (resV_lt a h2) h2 (by omega) (by omega))
  generalize resV a p = x at HC HP ⊢
  generalize x ^ n % p = y at HP ⊢
  have hd : decide ((n : Int) < 0) = false := decide_eq_false (by omega)
  have hu : IntKind.u64.wrap (n : Int) = (n : Int) := by rw [IntKind.wrap_u64]; omega
  go_enter Try.func20, Try.ntmps20
  go_wp2_with fail
  refine HC.out.mono ?_
  rintro e w' ⟨rfl, rfl⟩
  go_wp2_with fail
  refine HP.out.mono ?_
  rintro e w' ⟨rfl, rfl⟩
  go_wp2
  go_ret2
  exact ⟨rfl, rfl⟩

set_option maxRecDepth 100000 in
set_option maxHeartbeats 400000 in
theorem Pow_zero (a n : Int) (p : Nat) (w : World) (hp : P6 p) (h0 : resV a p = 0) (hn : n < 0) : Calls Try.prog 20 #[.int .i64 a, .int .i64 n, .int .i64 p] w fun e w' => e = .returned (.tuple #[.int .i64 0, .int .i64 6]) ∧ w' = w := by
  have HC := Lib.hid (Mod_ok a p w hp)
  have HI := Lib.hid (Inv_zero 0 p w hp (by rw [show (0 : Int) = ((0 : Nat) : Int) from rfl, resV_nat (by have := hp.ge; omega)]))
  rw [h0] at HC
  have hd : decide (n < 0) = true := by simp; omega
  go_enter Try.func20, Try.ntmps20
  go_wp2_with fail
  refine HC.out.mono ?_
  rintro e w' ⟨rfl, rfl⟩
  go_wp2_with fail
  refine HI.out.mono ?_
  rintro e w' ⟨rfl, rfl⟩
  go_wp2
  go_ret2
  exact ⟨rfl, rfl⟩

set_option maxRecDepth 100000 in
set_option maxHeartbeats 4000000 in
theorem Pow_neg (a n : Int) (p : Nat) (w : World) (hp : P6 p) (h0 : resV a p ≠ 0) (hn : n < 0) (hi : -9223372036854775808 ≤ n) : Calls Try.prog 20 #[.int .i64 a, .int .i64 n, .int .i64 p] w fun e w' => e = .returned (.tuple #[.int .i64 ((resV a p ^ (p - 2) % p) ^ (-n).toNat % p : Nat), .int .i64 0]) ∧ w' = (w.alloc (.cells #[.int .i64 p] 3)).alloc (.cells #[.int .i64 p] 3) := by
  have HC := Lib.hid (Mod_ok a p w hp)
  have h2 := hp.ge
  have hlt := hp.2
  have HI := Lib.hid (Inv_ok (resV a p : Nat) p w hp (by rw [resV_nat (resV_lt a h2)]; exact h0))
  rw [resV_nat (resV_lt a h2)] at HI
  have HP := Lib.hid (pow_any (resV a p ^ (p - 2) % p) (-n).toNat p (w.alloc (.cells #[.int .i64 p] 3)) (Nat.mod_lt _ (by omega)) h2 (by omega) (by omega))
  have hs : (((-n).toNat : Nat) : Int) = IntKind.u64.wrap (wrap64 (-n)) := by
    rw [IntKind.wrap_u64]; unfold wrap64; omega
  generalize (-n).toNat = k at HP hs ⊢
  rw [hs] at HP
  generalize resV a p = x at HC HP HI ⊢
  generalize x ^ (p - 2) % p = y at HI HP ⊢
  generalize y ^ k % p = z at HP ⊢
  have hd : decide (n < 0) = true := by simp; omega
  go_enter Try.func20, Try.ntmps20
  go_wp2_with fail
  refine HC.out.mono ?_
  rintro e w' ⟨rfl, rfl⟩
  go_wp2_with fail
  refine HI.out.mono ?_
  rintro e w' ⟨rfl, rfl⟩
  go_wp2_with fail
  refine HP.out.mono ?_
  rintro e w' ⟨rfl, rfl⟩
  go_wp2
  go_ret2
  exact ⟨rfl, rfl⟩

end Go.Proofs.Ytbcbkeeadbfjmaa
