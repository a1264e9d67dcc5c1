/- Primes below 900,200 lie close to each other: in each hundred is one. -/
import Derived.Test.YtbcbkeeadbfjmaaPrLives
namespace Go.Proofs.Ytbcbkeeadbfjmaa
open Num

/-- The product of 1, .., n. -/
def facN : Nat → Nat
  | 0 => 1
  | n + 1 => (n + 1) * facN n
theorem facN_dvd {d : Nat} (h1 : 1 ≤ d) : ∀ n, d ≤ n → d ∣ facN n
  | 0, h => by omega
  | n + 1, h => by
    by_cases e : d = n + 1
    · subst e; exact ⟨facN n, rfl⟩
    · exact Nat.dvd_trans (facN_dvd h1 n (by omega)) ⟨n + 1, by rw [facN, Nat.mul_comm]⟩
/-- A number without a common divisor with the product of 1, .., 1000. -/
theorem pr_of_gcd {n : Nat} (h2 : 2 ≤ n) (hn : n < 1000000) (h : Nat.gcd n (facN 1000) = 1) : Pr n := by
  refine pr_iff_least.2 (least_self (d := 1001) h2 (fun e he hed hdv => ?_) (by omega))
  have := Nat.dvd_gcd hdv (facN_dvd (by omega) 1000 (by omega : e ≤ 1000))
  rw [h] at this
  have := Nat.le_of_dvd (by omega) this
  omega
/-- All of the 2^d numbers from s on. -/
def allFrom (f : Nat → Bool) : Nat → Nat → Bool
  | 0, s => f s
  | d + 1, s => allFrom f d s && allFrom f d (s + 2 ^ d)
theorem allFrom_spec {f : Nat → Bool} : ∀ (d s : Nat), allFrom f d s = true → ∀ j, s ≤ j → j < s + 2 ^ d → f j = true
  | 0, s, h, j, h1, h2 => by
    have : j = s := by simp at h2; omega
    subst this; exact h
  | d + 1, s, h, j, h1, h2 => by
    simp only [allFrom, Bool.and_eq_true] at h
    rw [Nat.pow_succ] at h2
    by_cases hj : j < s + 2 ^ d
    · exact allFrom_spec d s h.1 j h1 hj
    · exact allFrom_spec d (s + 2 ^ d) h.2 j (by omega) (by omega)
/-- One of the odd numbers s, s + 2, .., has no common divisor with P. -/
def someFrom (P : Nat) : Nat → Nat → Bool
  | 0, _ => false
  | k + 1, s => Nat.gcd s P == 1 || someFrom P k (s + 2)
theorem someFrom_spec {P : Nat} : ∀ (k s : Nat), someFrom P k s = true → ∃ i, i < k ∧ Nat.gcd (s + 2 * i) P = 1
  | 0, _, h => by simp [someFrom] at h
  | k + 1, s, h => by
    simp only [someFrom, Bool.or_eq_true, beq_iff_eq] at h
    rcases h with h | h
    · exact ⟨0, by omega, by simpa using h⟩
    · obtain ⟨i, hi, hg⟩ := someFrom_spec k (s + 2) h
      exact ⟨i + 1, by omega, by rw [show s + 2 * (i + 1) = s + 2 + 2 * i by omega]; exact hg⟩
def century (P : Nat) (j : Nat) : Bool := j < 10 || 9001 < j || someFrom P 50 (100 * j + 1)
theorem centuries : allFrom (century (facN 1000)) 14 0 = true := by decide +kernel
theorem pr_century {j : Nat} (h1 : 10 ≤ j) (h2 : j ≤ 9001) : ∃ p, 100 * j < p ∧ p < 100 * j + 100 ∧ PrI (p : Int) := by
  have h := allFrom_spec 14 0 centuries j (by omega) (by simp; omega)
  have h3 : decide (j < 10) = false := decide_eq_false (by omega)
  have h4 : decide (9001 < j) = false := decide_eq_false (by omega)
  rw [century, h3, h4, Bool.false_or, Bool.false_or] at h
  obtain ⟨i, hi, hg⟩ := someFrom_spec 50 _ h
  exact ⟨100 * j + 1 + 2 * i, by omega, by omega, by omega, by omega, pr_of_gcd (by omega) (by omega) hg⟩
theorem pr_near {k : Nat} (hk : k < 900000) : ∃ p : Nat, k < p ∧ p ≤ k + 200 ∧ PrI (p : Int) := by
  by_cases h : 900 ≤ k
  · obtain ⟨p, h1, h2, h3⟩ := pr_century (j := k / 100 + 1) (by omega) (by omega)
    exact ⟨p, by omega, by omega, h3⟩
  · have c : ∀ p : Nat, p ∈ [101, 211, 307, 401, 503, 601, 701, 809, 907] → PrI (p : Int) := by
      intro p hp
      have hc : ([101, 211, 307, 401, 503, 601, 701, 809, 907].all fun p => 2 ≤ p && p < 961 && noDiv p 31) = true := by decide +kernel
      have := List.all_eq_true.1 hc p hp
      simp only [Bool.and_eq_true, decide_eq_true_eq] at this
      exact pri_check 31 this.1.1 (by omega) this.2 (by omega)
    by_cases h1 : k < 101
    · exact ⟨101, by omega, by omega, c 101 (by simp)⟩
    by_cases h2 : k < 211
    · exact ⟨211, by omega, by omega, c 211 (by simp)⟩
    by_cases h3 : k < 307
    · exact ⟨307, by omega, by omega, c 307 (by simp)⟩
    by_cases h4 : k < 401
    · exact ⟨401, by omega, by omega, c 401 (by simp)⟩
    by_cases h5 : k < 503
    · exact ⟨503, by omega, by omega, c 503 (by simp)⟩
    by_cases h6 : k < 601
    · exact ⟨601, by omega, by omega, c 601 (by simp)⟩
    by_cases h7 : k < 701
    · exact ⟨701, by omega, by omega, c 701 (by simp)⟩
    by_cases h8 : k < 809
    · exact ⟨809, by omega, by omega, c 809 (by simp)⟩
    · exact ⟨907, by omega, by omega, c 907 (by simp)⟩
/-- What Next gives below 900,000. -/
theorem next_near {k : Nat} (hk : k < 900000) {q x : Int} (h : NextV k q x) : x = 0 ∧ ∃ p : Nat, q = p ∧ k < p ∧ p ≤ k + 200 ∧ PrI (p : Int) ∧ ∀ i : Nat, k < i → i < p → ¬ PrI (i : Int) := by
  obtain ⟨r, h1, h2, h3⟩ := pr_near hk
  rcases h with ⟨h, rfl⟩ | ⟨h, _, _⟩
  · have hq := h.1.ge
    refine ⟨rfl, q.toNat, by omega, ?_, ?_, ?_, fun i a b => ?_⟩
    · have := h.2.1; omega
    · have : ¬ (r : Int) < q := fun hl => h.2.2 r (by omega) hl h3
      omega
    · rw [show ((q.toNat : Nat) : Int) = q by omega]; exact h.1
    · exact h.2.2 i (by omega) (by omega)
  · exact (h r (by omega) h3).elim
end Go.Proofs.Ytbcbkeeadbfjmaa
