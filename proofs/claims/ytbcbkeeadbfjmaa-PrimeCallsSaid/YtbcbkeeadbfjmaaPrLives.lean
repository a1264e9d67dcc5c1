/- The examples that each statement of this stage calls first. -/
import Derived.Test.YtbcbkeeadbfjmaaPrNext
import Derived.Test.YtbcbkeeadbfjmaaPrSq
namespace Go.Proofs.Ytbcbkeeadbfjmaa
open Go Go.RowKit Num

/-- A number without a divisor below d, d*d being greater. -/
def noDiv (n d : Nat) : Bool := (List.range d).all fun e => e < 2 || n % e != 0
theorem pr_check {n : Nat} (d : Nat) (h2 : 2 ≤ n) (h : noDiv n d = true) (hd : n < d * d) : Pr n := by
  refine pr_iff_least.2 (least_self h2 (fun e he hed hdv => ?_) hd)
  have := List.all_eq_true.1 h e (List.mem_range.2 hed)
  simp at this
  rcases this with h | h
  · omega
  · exact h (Nat.mod_eq_zero_of_dvd hdv)
theorem pri_check {n : Nat} (d : Nat) (h2 : 2 ≤ n) (hl : n < 1000000) (h : noDiv n d = true) (hd : n < d * d) : PrI (n : Int) :=
  ⟨by omega, by omega, pr_check d h2 h hd⟩
theorem not_pr {n : Nat} (d : Nat) (hd : 2 ≤ d) (hdn : d < n) (h : n % d = 0) : ¬ Pr n := fun hp => by
  rcases hp.2 d (Nat.dvd_of_mod_eq_zero h) with h | h <;> omega
theorem not_pri {n : Nat} (d : Nat) (hd : 2 ≤ d) (hdn : d < n) (h : n % d = 0) : ¬ PrI (n : Int) := fun hp => not_pr d hd hdn h hp.2.2
/-- An order, checked. -/
def ordB (p x d : Nat) : Bool := 1 ≤ d && x ^ d % p == 1 && (List.range d).all fun k => k < 1 || x ^ k % p != 1
theorem ord_check {p x d : Nat} (h : ordB p x d = true) : Ord p x d := by
  simp only [ordB, Bool.and_eq_true, decide_eq_true_eq, beq_iff_eq] at h
  refine ⟨h.1.1, h.1.2, fun k h1 h2 => ?_⟩
  have := List.all_eq_true.1 h.2 k (List.mem_range.2 h2)
  simp at this
  rcases this with h | h
  · omega
  · exact h
theorem not_ord {p x d : Nat} (k : Nat) (h1 : 1 ≤ k) (h2 : k < d) (h : x ^ k % p = 1) : ¬ Ord p x d := fun ho => ho.2.2 k h1 h2 h
def rootB (p g : Nat) : Bool := 1 ≤ g && g < p && ordB p g (p - 1) && (List.range g).all fun r => r < 1 || (List.range (p - 1)).any fun k => 1 ≤ k && r ^ k % p == 1
theorem root_check {p g : Nat} (h : rootB p g = true) : RootOf p g := by
  simp only [rootB, Bool.and_eq_true, decide_eq_true_eq] at h
  refine ⟨h.1.1.1, h.1.1.2, ord_check h.1.2, fun r h1 h2 => ?_⟩
  have := List.all_eq_true.1 h.2 r (List.mem_range.2 h2)
  simp only [Bool.or_eq_true, decide_eq_true_eq] at this
  rcases this with h | h
  · omega
  · obtain ⟨k, hk, h⟩ := List.any_eq_true.1 h
    simp only [Bool.and_eq_true, decide_eq_true_eq, beq_iff_eq] at h
    exact not_ord k h.1 (List.mem_range.1 hk) h.2
def sqrtB (p x s : Nat) : Bool := s < p && s * s % p == x && (List.range s).all fun t => t * t % p != x
theorem sqrt_check {p x s : Nat} (h : sqrtB p x s = true) : SqrtOf p x s := by
  simp only [sqrtB, Bool.and_eq_true, decide_eq_true_eq, beq_iff_eq] at h
  refine ⟨h.1.1, h.1.2, fun t ht => ?_⟩
  have := List.all_eq_true.1 h.2 t (List.mem_range.2 ht)
  simpa using this
theorem p6_check {n : Nat} (d : Nat) (h2 : 2 ≤ n) (hl : n < 1000000) (h : noDiv n d = true) (hd : n < d * d) : P6 n := ⟨pr_check d h2 h hd, hl⟩
theorem p7 : P6 7 := p6_check 3 (by decide +kernel) (by decide +kernel) (by decide +kernel) (by decide +kernel)
theorem p23 : P6 23 := p6_check 5 (by decide +kernel) (by decide +kernel) (by decide +kernel) (by decide +kernel)
theorem suit_live : SuitV 84 25 337 0 := by
  have hp : PrI (337 : Int) := pri_check (n := 337) 19 (by decide) (by decide) (by decide +kernel) (by decide)
  have n1 : ¬ PrI (85 : Int) := not_pri (n := 85) 5 (by decide) (by decide) (by decide)
  have n2 : ¬ PrI (169 : Int) := not_pri (n := 169) 13 (by decide) (by decide) (by decide)
  have n3 : ¬ PrI (253 : Int) := not_pri (n := 253) 11 (by decide) (by decide) (by decide)
  have e4 : (1 : Int) + ((4 : Nat) : Int) * 84 = 337 := by decide
  refine .inr ⟨by decide, by decide, .inl ⟨4, e4.symm, ⟨by rw [e4]; decide, by rw [e4]; exact hp⟩, fun i hi hc => ?_, rfl⟩⟩
  have h := hc.1
  have h2 := hc.2
  obtain rfl | rfl | rfl | rfl : i = 0 ∨ i = 1 ∨ i = 2 ∨ i = 3 := by omega
  · exact absurd h (by decide)
  · exact n1 (by rw [show (1 : Int) + ((1 : Nat) : Int) * 84 = 85 by decide] at h2; exact h2)
  · exact n2 (by rw [show (1 : Int) + ((2 : Nat) : Int) * 84 = 169 by decide] at h2; exact h2)
  · exact n3 (by rw [show (1 : Int) + ((3 : Nat) : Int) * 84 = 253 by decide] at h2; exact h2)

/-- is: the number, no error, is the one that is wanted. -/
def isB (n e want : Int) : Bool := e == 0 && n == want
theorem is_any (n e want : Int) (w : World) : Calls Try.prog 14 #[.int .i64 n, .int .i64 e, .int .i64 want] w fun en w' => en = .returned (.bool (isB n e want)) ∧ w' = w := by
  unfold isB
  by_cases h : e = 0
  · have hd : (e == 0) = true := by simpa using h
    rw [hd, Bool.true_and]
    go_enter Try.func14, Try.ntmps14
    go_wp2
    go_ret
    exact ⟨rfl, rfl⟩
  · have hd : (e == 0) = false := by simpa using h
    rw [hd, Bool.false_and]
    go_enter Try.func14, Try.ntmps14
    go_wp2
    go_ret
    exact ⟨rfl, rfl⟩
theorem is_yes (n want : Int) (h : n = want) (w : World) : Calls Try.prog 14 #[.int .i64 n, .int .i64 0, .int .i64 want] w fun en w' => en = .returned (.bool true) ∧ w' = w := by
  have := is_any n 0 want w
  rw [show isB n 0 want = true by simp [isB, h]] at this
  exact this

set_option maxRecDepth 100000 in
set_option maxHeartbeats 1000000 in
theorem lives_any (w : World) : Calls Try.prog 11 #[] w fun e w' => e = .returned (.bool true) ∧ Below w.heap.size w w' := by
  have HI := Lib.hid (Inv_ok 3 7 w p7 (by decide +kernel))
  rw [show ((resV 3 7 ^ (7 - 2) % 7 : Nat) : Int) = 5 by decide] at HI
  have HR := fun W => Lib.hid (Root_any 23 5 W p23 (root_check (by decide +kernel)))
  have HS := fun W => Lib.hid (Sqrt_ok 2 7 3 W p7 (by decide +kernel) (sqrt_check (by decide +kernel)))
  have HT := fun W => Lib.hid (Suit_any 84 25 W)
  have h2 := fun W => Lib.hid (Is_any 2 W)
  rw [show isP 2 = true from isP_true.2 (pri_check (n := 2) 2 (by decide +kernel) (by decide +kernel) (by decide +kernel) (by decide +kernel))] at h2
  have h1 := fun W => Lib.hid (Is_any 1 W)
  rw [show isP 1 = false from isP_false.2 fun h => by have := h.1; omega] at h1
  go_enter Try.func11, Try.ntmps11
  go_wp2_with fail
  refine HI.out.mono ?_
  rintro e w1 ⟨rfl, hw1⟩
  have HB1 : Hid (Below w.heap.size w w1) := Lib.hid (by rw [hw1]; exact (Below.refl _ w).alloc (Nat.le_refl _) _)
  clear hw1 HI
  go_wp2_with fail
  refine (HR _).out.mono ?_
  rintro e w2 ⟨rfl, hb⟩
  have HB2 := Lib.hid (HB1.out.trans (hb.mono HB1.out.size)); clear hb HR
  go_wp2_with fail
  refine (HS _).out.mono ?_
  rintro e w3 ⟨rfl, hb⟩
  have HB3 := Lib.hid (HB2.out.trans (hb.mono HB2.out.size)); clear hb HS
  go_wp2_with fail
  refine (HT _).out.mono ?_
  rintro e w4 ⟨q, x, hq, rfl, rfl⟩
  obtain ⟨rfl, rfl⟩ := hq.unique suit_live
  clear hq HT
  go_wp2_with fail
  refine (is_yes _ _ (by rfl) _).mono ?_
  rintro e w5 ⟨rfl, rfl⟩
  go_wp2_with fail
  refine (is_yes _ _ (by rfl) _).mono ?_
  rintro e w6 ⟨rfl, rfl⟩
  go_wp2_with fail
  refine (is_yes _ _ (by rfl) _).mono ?_
  rintro e w7 ⟨rfl, rfl⟩
  go_wp2_with fail
  refine (is_yes _ _ (by rfl) _).mono ?_
  rintro e w8 ⟨rfl, rfl⟩
  go_wp2_with fail
  refine (h2 _).out.mono ?_
  rintro e w9 ⟨rfl, rfl⟩
  go_wp2_with fail
  refine (h1 _).out.mono ?_
  rintro e w10 ⟨rfl, rfl⟩
  go_wp2
  go_ret
  exact ⟨rfl, HB3.out⟩
end Go.Proofs.Ytbcbkeeadbfjmaa
