/- The calls of package prime at natural numbers: what the laws need of them. -/
import Derived.Test.YtbcbkeeadbfjmaaPrRefB
namespace Go.Proofs.Ytbcbkeeadbfjmaa
open Go Go.RowKit Num

theorem InvN (a p : Nat) (w : World) (hp : P6 p) (h0 : a ≠ 0) (ha : a < p) : Calls Try.prog 19 #[.int .i64 a, .int .i64 p] w (RetE w (a ^ (p - 2) % p : Nat) 0) := by
  have h := Inv_ok a p w hp (by rw [resV_nat ha]; exact h0)
  rw [resV_nat ha] at h
  exact h.mono fun e w' ⟨h1, h2⟩ => ⟨h1, by rw [h2]; exact (Below.refl _ w).alloc (Nat.le_refl _) _⟩
theorem InvZ (p : Nat) (w : World) (hp : P6 p) : Calls Try.prog 19 #[.int .i64 0, .int .i64 p] w (RetE w 0 6) :=
  (Inv_zero 0 p w hp (by rw [show (0 : Int) = ((0 : Nat) : Int) from rfl, resV_nat (by have := hp.ge; omega)])).mono fun e w' ⟨h1, h2⟩ => ⟨h1, by rw [h2]; exact Below.refl _ w⟩
theorem OrderZ (p : Nat) (w : World) (hp : P6 p) : Calls Try.prog 21 #[.int .i64 0, .int .i64 p] w (RetE w 0 6) :=
  Order_zero 0 p w hp (by rw [show (0 : Int) = ((0 : Nat) : Int) from rfl, resV_nat (by have := hp.ge; omega)])
theorem OrderN (a p d : Nat) (w : World) (hp : P6 p) (h0 : a ≠ 0) (ha : a < p) (hd : Ord p a d) : Calls Try.prog 21 #[.int .i64 a, .int .i64 p] w (RetE w d 0) :=
  Order_ok a p d w hp (by rw [resV_nat ha]; exact h0) (by rw [resV_nat ha]; exact hd)
theorem PowN (a n p : Nat) (w : World) (hp : P6 p) (hn : n ≤ 9223372036854775807) : Calls Try.prog 20 #[.int .i64 a, .int .i64 n, .int .i64 p] w (RetE w (a ^ n % p : Nat) 0) := by
  have h := Pow_pos a n p w hp hn
  rw [resV_of_nat, ← Nat.pow_mod] at h
  exact h.mono fun e w' ⟨h1, h2⟩ => ⟨h1, by rw [h2]; exact (Below.refl _ w).alloc (Nat.le_refl _) _⟩
theorem PowM (a x p : Nat) (w : World) (hp : P6 p) (h0 : a ≠ 0) (ha : a < p) (hx : x ≤ 1000) : Calls Try.prog 20 #[.int .i64 a, .int .i64 (-(x : Int)), .int .i64 p] w (RetE w ((a ^ (p - 2) % p) ^ x % p : Nat) 0) := by
  by_cases hx0 : x = 0
  · subst hx0
    have h := PowN a 0 p w hp (by omega)
    rw [Nat.pow_zero] at h ⊢
    exact h
  · have h := Pow_neg a (-(x : Int)) p w hp (by rw [resV_nat ha]; exact h0) (by omega) (by omega)
    rw [resV_nat ha, show (- -(x : Int)).toNat = x by omega] at h
    exact h.mono fun e w' ⟨h1, h2⟩ => ⟨h1, by rw [h2]; exact ((Below.refl _ w).alloc (Nat.le_refl _) _).alloc (by simp) _⟩

/-- What PrimeField asks of the residues. -/
theorem field_inv {p a : Nat} (hp : Pr p) (h0 : a ≠ 0) (ha : a < p) : a * (a ^ (p - 2) % p) % p = 1 := by
  rw [Nat.mul_mod, Nat.mod_mod, ← Nat.mul_mod]
  exact inverse_pow hp (pr_not_dvd (by omega) ha)
theorem field_twice (p a x y : Nat) : (a ^ x % p) ^ y % p = a ^ (x * y) % p := by
  rw [← Nat.pow_mod, ← Nat.pow_mul]
theorem field_both (p a b x : Nat) : (a ^ x % p) * (b ^ x % p) % p = (a * b) ^ x % p := by
  rw [← Nat.mul_mod, Nat.mul_pow]
theorem field_less {p a x : Nat} (hp : Pr p) (h0 : a ≠ 0) (ha : a < p) : ((a ^ (p - 2) % p) ^ x % p) * (a ^ x % p) % p = 1 := by
  rw [field_both, Nat.pow_mod, Nat.mul_comm, field_inv hp h0 ha, Nat.one_pow]
  exact Nat.mod_eq_of_lt (by have := hp.1; omega)
theorem mul_small {x y p : Nat} (hx : x < p) (hy : y < p) (hp : p ≤ 1000) : x * y ≤ 1000000 :=
  Nat.le_trans (Nat.mul_le_mul (show x ≤ 1000 by omega) (show y ≤ 1000 by omega)) (by decide)
theorem wrap_mul {x y m : Nat} (h : x * y = m) (hm : m ≤ 1000000000000) : IntKind.i64.wrap ((x : Int) * (y : Int)) = (m : Int) := by
  rw [← Int.natCast_mul, h]; exact IntWalk.i64_in _ ⟨by omega, by omega⟩
theorem mod_ne_false {m p v : Nat} (h : m % p = v) : (((m : Int) % (p : Int)) != (v : Int)) = false := by
  rw [← Int.natCast_emod, h]; simp
end Go.Proofs.Ytbcbkeeadbfjmaa
