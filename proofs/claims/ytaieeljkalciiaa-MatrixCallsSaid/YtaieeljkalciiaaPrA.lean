/- prime.least, Is, product, power, pow. -/
import Derived.Test.YtaieeljkalciiaaBase
import Derived.Test.YtaieeljkalciiaaPrMath
namespace Go.Proofs.Ytaieeljkalciiaa
open Go Go.RowKit Num

/-- A call has returned v; what lay below lies on. -/
def Ret (w : World) (v : Value) (e : Ending) (w' : World) : Prop := e = .returned v ∧ Below w.heap.size w w'

theorem sq_bound {k n : Nat} (h : k * k ≤ n) (hn : n ≤ 1000000000) : k ≤ 31622 := by
  apply Nat.le_of_not_lt
  intro hlt
  have : 31623 * 31623 ≤ k * k := Nat.mul_le_mul hlt hlt
  omega
/-- Between two rounds of least. -/
def LeastAt (n k : Nat) : Prop := 2 ≤ k ∧ k ≤ 31624 ∧ (k = 2 ∨ k % 2 = 1) ∧ ∀ e, 2 ≤ e → e < k → ¬ e ∣ n
theorem LeastAt.next {n k : Nat} (h : LeastAt n k) (hs : k * k ≤ n) (hn : n ≤ 1000000000) (hd : n % k ≠ 0) : LeastAt n (k + (1 + k % 2)) := by
  obtain ⟨h1, h2, h3, h4⟩ := h
  have hk := sq_bound hs hn
  refine ⟨by omega, by omega, by omega, fun e he hlt hdv => ?_⟩
  by_cases h5 : e < k
  · exact h4 e he h5 hdv
  · by_cases h6 : e = k
    · subst h6; exact hd (Nat.mod_eq_zero_of_dvd hdv)
    · have : e = k + 1 := by omega
      have hk2 : k ≠ 2 := by omega
      have h7 : 2 ∣ e := ⟨e / 2, by omega⟩
      exact h4 2 (Nat.le_refl 2) (by omega) (Nat.dvd_trans h7 hdv)

set_option maxRecDepth 100000 in
set_option maxHeartbeats 400000 in
theorem least_any (n q : Nat) (w : World) (h2 : 2 ≤ n) (hn : n ≤ 1000000000) (hq : Least n q) :
    Calls Try.prog 137 #[.int .i64 n] w fun e w' => e = .returned (.int .i64 q) ∧ w' = w := by
  have HQ := Lib.hid hq
  clear hq
  go_enter Try.func137, Try.ntmps137
  go_wp2
  go_loopw [3] (fun q wr => ∃ k : Nat, q = .int .i64 k ∧ Hid (LeastAt n k) ∧ wr = w) (fun q _ => 40000 - (intOf q).toNat)
  case atStart => exact ⟨2, rfl, Lib.hid ⟨by omega, by omega, by omega, fun e h1 h2 => by omega⟩, rfl⟩
  case round =>
    obtain ⟨k, rfl, hL, rfl⟩ := hrel
    have hk2 := hL.out.1
    have hk3 := hL.out.2.1
    have hm : IntKind.i64.wrap ((k : Int) * (k : Int)) = ((k * k : Nat) : Int) := by
      have : k * k ≤ 31624 * 31624 := Nat.mul_le_mul hk3 hk3
      rw [← Int.natCast_mul]
      exact IntWalk.i64_in _ ⟨by omega, by omega⟩
    have hne : ((k : Int) != 0) = true := by simp; omega
    by_cases hs : k * k ≤ n
    · have hsd : decide (((k * k : Nat) : Int) ≤ (n : Int)) = true := by simp; omega
      by_cases hd : n % k = 0
      · have hdv : Least n k := ⟨hk2, Nat.dvd_of_mod_eq_zero hd, fun e h1 h3 => Nat.le_of_not_lt fun h => hL.out.2.2.2 e h1 h h3⟩
        have HE := Lib.hid (hdv.unique HQ.out)
        have hdd : (((n : Int) % (k : Int)) == 0) = true := by
          rw [← Int.natCast_emod, hd]; rfl
        clear hdv hd
        go_wp2
        go_ret
        exact ⟨ret_int (by rw [HE.out]), rfl⟩
      · have HN := Lib.hid (hL.out.next hs hn hd)
        have hdd : (((n : Int) % (k : Int)) == 0) = false := by
          rw [← Int.natCast_emod]; simp; omega
        clear hd
        go_wp2
        go_roundw
        case rel => exact ⟨k + (1 + k % 2), by go_num, HN, trivial⟩
        case measure => simp [intOf]; omega
    · have hsd : decide (((k * k : Nat) : Int) ≤ (n : Int)) = false := by simp; omega
      have HE := Lib.hid ((least_self (d := k) h2 hL.out.2.2.2 (by omega)).unique HQ.out)
      go_wp2
      go_ret
      exact ⟨ret_int (by rw [HE.out]), rfl⟩

/-- Primes below 1,000,000. -/
def PrI (n : Int) : Prop := 2 ≤ n ∧ n < 1000000 ∧ Pr n.toNat
noncomputable def isP (n : Int) : Bool := @decide (PrI n) (Classical.propDecidable _)
theorem isP_true {n : Int} : isP n = true ↔ PrI n := @decide_eq_true_iff _ (Classical.propDecidable _)
theorem isP_false {n : Int} : isP n = false ↔ ¬ PrI n := @decide_eq_false_iff_not _ (Classical.propDecidable _)
theorem isP_nat {n : Nat} (h : n < 1000000) : isP (n : Int) = true ↔ Pr n := by
  rw [isP_true]
  exact ⟨fun h => h.2.2, fun h2 => ⟨by have := h2.1; omega, by omega, h2⟩⟩

set_option maxRecDepth 100000 in
set_option maxHeartbeats 400000 in
theorem Is_any (n : Int) (w : World) : Calls Try.prog 117 #[.int .i64 n] w fun e w' => e = .returned (.bool (isP n)) ∧ w' = w := by
  by_cases h1 : n ≤ 1
  · have HF : isP n = false := isP_false.2 fun h => by have := h.1; omega
    have hd : decide (n > 1) = false := by simp; omega
    rw [HF]
    go_enter Try.func117, Try.ntmps117
    go_wp2
    go_ret
    exact ⟨rfl, rfl⟩
  · have hd : decide (n > 1) = true := by simp; omega
    by_cases h2 : n < 1000000
    · obtain ⟨k, rfl⟩ : ∃ k : Nat, n = k := ⟨n.toNat, by omega⟩
      have hd2 : decide ((k : Int) < 1000000) = true := by simp; omega
      obtain ⟨q, hq⟩ := least_exists k (by omega)
      have HC := Lib.hid (least_any k q w (by omega) (by omega) hq)
      have HE : isP (k : Int) = ((q : Int) == (k : Int)) := by
        by_cases hqk : q = k
        · subst hqk
          rw [(isP_true (n := (q : Int))).2 ⟨by omega, by omega, hq.prime⟩]
          simp
        · rw [isP_false.2 fun h => hqk (by
            have := pr_iff_least.1 h.2.2
            exact hq.unique this)]
          symm
          simp
          omega
      rw [HE]
      clear HE hq
      go_enter Try.func117, Try.ntmps117
      go_wp2_with fail
      refine HC.out.mono ?_
      rintro e w' ⟨rfl, rfl⟩
      go_wp2
      go_ret
      exact ⟨rfl, rfl⟩
    · have HF : isP n = false := isP_false.2 fun h => by have := h.2.1; omega
      have hd2 : decide (n < 1000000) = false := by simp; omega
      rw [HF]
      go_enter Try.func117, Try.ntmps117
      go_wp2
      go_ret
      exact ⟨rfl, rfl⟩
end Go.Proofs.Ytaieeljkalciiaa
