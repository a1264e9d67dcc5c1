/- Squares modulo a prime, counted; the symbol. -/
import Derived.Test.YtbcbkeeadbfjmaaPrNat
namespace Go.Proofs.Ytbcbkeeadbfjmaa
open Go Go.RowKit Num
noncomputable def sqB (p x : Nat) : Bool := @decide (HasSqrt p x) (Classical.propDecidable _)
theorem sqB_true {p x : Nat} : sqB p x = true ↔ HasSqrt p x := @decide_eq_true_iff _ (Classical.propDecidable _)
theorem sqB_false {p x : Nat} : sqB p x = false ↔ ¬ HasSqrt p x := @decide_eq_false_iff_not _ (Classical.propDecidable _)
/-- How many of 1, .., k are squares. -/
noncomputable def cntSq (p k : Nat) : Nat := ((List.range k).map (· + 1)).countP (sqB p)
theorem cntSq_succ (p k : Nat) : cntSq p (k + 1) = cntSq p k + if sqB p (k + 1) then 1 else 0 := by
  unfold cntSq
  rw [List.range_succ, List.map_append, List.countP_append]
  simp [List.countP_cons]
theorem cntSq_le (p k : Nat) : cntSq p k ≤ k := by
  unfold cntSq
  have := List.countP_le_length (p := sqB p) (l := (List.range k).map (· + 1))
  simpa using this
theorem even_count : ∀ n, (List.range n).countP (fun k => k % 2 == 0) = (n + 1) / 2
  | 0 => rfl
  | n + 1 => by
    rw [List.range_succ, List.countP_append, even_count n]
    by_cases h : n % 2 = 0
    · simp [h]; omega
    · simp [h]; omega
theorem cntSq_all {p : Nat} (hp : Pr p) : cntSq p (p - 1) = p / 2 := by
  obtain ⟨g, hg⟩ := rootof_exists hp
  have hp2 := hp.1
  have ho := hg.2.2.1
  have hn := pr_not_dvd hg.1 hg.2.1
  have hperm := perm_all (l := (List.range (p - 1)).map (fun k => g ^ k % p)) (n := p - 1)
    (List.Pairwise.map (R := fun a b => a < b ∧ b < p - 1) _ (fun a b h e => by
      have := pow_inj hp ho (show a < p - 1 by omega) h.2 e
      omega) (by
        have h1 : (List.range (p - 1)).Pairwise (· < ·) := List.pairwise_lt_range
        exact h1.imp_of_mem (fun {a b} _ hb h => ⟨h, List.mem_range.1 hb⟩)))
    (fun x hx => by
      obtain ⟨k, _, rfl⟩ := List.mem_map.1 hx
      have := pow_lt_ne (k := k) hp hn
      omega) (by simp)
  unfold cntSq
  rw [← hperm.countP_eq, List.countP_map]
  have : (List.range (p - 1)).countP (sqB p ∘ fun k => g ^ k % p) = (List.range (p - 1)).countP (fun k => k % 2 == 0) := by
    refine List.countP_congr fun k hk => ?_
    have hk2 : k < p - 1 := List.mem_range.1 hk
    have hl : LogOf p g (g ^ k % p) k := ⟨hk2, rfl⟩
    simp only [Function.comp, beq_iff_eq]
    rw [sqB_true]
    constructor
    · rintro ⟨s, _, hs⟩
      exact log_parity hp ho hl hs
    · intro h
      have := sqrt_even hp ho hl h
      exact ⟨_, this.1, this.2.1⟩
  rw [this, even_count]
  omega
theorem cntSq_odd {p : Nat} (hp : Pr p) (h : p ≠ 2) : 2 * cntSq p (p - 1) = p - 1 := by
  rw [cntSq_all hp]
  obtain ⟨c, hc⟩ := pr_even hp h
  have := hp.1
  omega
theorem sqrt_half {p x s : Nat} (h1 : x ≠ 0) (h : SqrtOf p x s) : 2 * s ≤ p := by
  obtain ⟨h2, h3, h4⟩ := h
  apply Nat.le_of_not_lt
  intro hlt
  have hs : s ≠ 0 := fun e => by subst e; simp at h3; omega
  exact h4 (p - s) (by omega) (by rw [neg_sq (by omega)]; exact h3)
open Classical in
theorem sqrt_exists {p x : Nat} (h : HasSqrt p x) : ∃ s, SqrtOf p x s := by
  obtain ⟨s, hs, hx⟩ := h
  have key : ∀ s, s < p → s * s % p = x → ∃ t, SqrtOf p x t := by
    intro s
    induction s using Nat.strongRecOn with
    | ind s ih =>
      intro hs hx
      by_cases h : ∀ t, t < s → t * t % p ≠ x
      · exact ⟨s, hs, hx, h⟩
      · obtain ⟨t, h⟩ := Classical.not_forall.1 h
        obtain ⟨ht, h⟩ := Classical.not_imp.1 h
        exact ih t ht (by omega) (Classical.not_not.1 h)
  exact key s hs hx
/-- The symbol. -/
noncomputable def symV (p m : Nat) : Int := if m % p = 0 then 0 else if sqB p (m % p) = true then 1 else -1
theorem symV_bound (p m : Nat) : -1 ≤ symV p m ∧ symV p m ≤ 1 := by
  unfold symV; split
  · omega
  · split <;> omega
/-- The power by half of p-1. -/
def half (p m : Nat) : Nat := m ^ ((p - 1) / 2) % p
theorem half_sq {p m : Nat} (hp : Pr p) (h2 : p ≠ 2) (hm : m % p ≠ 0) : half p m = 1 ∨ half p m = p - 1 := by
  have hp2 := hp.1
  have hn : ¬ p ∣ m := fun h => hm (Nat.mod_eq_zero_of_dvd h)
  obtain ⟨c, hc⟩ := pr_even hp h2
  have hlt : half p m < p := Nat.mod_lt _ (by omega)
  have hsq : half p m * half p m % p = 1 * 1 % p := by
    unfold half
    rw [← Nat.mul_mod, ← Nat.pow_two, ← Nat.pow_mul, show (p - 1) / 2 * 2 = p - 1 by omega, fermat hp hn, Nat.mul_one, Nat.mod_eq_of_lt (by omega)]
  rcases sq_eq hp hlt (Nat.le_refl 1) (by omega) hsq with h | h
  · exact .inl h
  · exact .inr h
theorem half_zero {p m : Nat} (hp : Pr p) (h2 : p ≠ 2) (hm : m % p = 0) : half p m = 0 := by
  obtain ⟨c, hc⟩ := pr_even hp h2
  have hp2 := hp.1
  unfold half
  rw [Nat.pow_mod, hm, Nat.zero_pow (by omega), Nat.zero_mod]
theorem half_one {p m : Nat} (hp : Pr p) (hm : m % p ≠ 0) : half p m = 1 ↔ sqB p (m % p) = true := by
  have hp2 := hp.1
  rw [sqB_true, ← euler hp (x := m % p) (by omega) (Nat.mod_lt _ (by omega)), ← Nat.pow_mod]
  exact Iff.rfl
theorem sym_half {p m : Nat} (hp : Pr p) (h2 : p ≠ 2) : (symV p m + p) % (p : Int) = (half p m : Nat) := by
  have hp2 := hp.1
  unfold symV
  by_cases h0 : m % p = 0
  · rw [if_pos h0, half_zero hp h2 h0, Int.zero_add, Int.emod_self]; rfl
  · rw [if_neg h0]
    by_cases hs : sqB p (m % p) = true
    · rw [if_pos hs, (half_one hp h0).2 hs, Int.add_emod_right, Int.emod_eq_of_lt (by omega) (by omega)]; rfl
    · rw [if_neg hs]
      rcases half_sq hp h2 h0 with h | h
      · exact absurd ((half_one hp h0).1 h) hs
      · rw [h, Int.emod_eq_of_lt (by omega) (by omega)]; omega
theorem half_mul (p a b : Nat) : half p (a * b) = half p a * half p b % p := by
  unfold half
  rw [← Nat.mul_mod, Nat.mul_pow]
theorem symV_of_half {p m : Nat} (hp : Pr p) (h2 : p ≠ 2) : (half p m = 0 ∧ symV p m = 0) ∨ (half p m = 1 ∧ symV p m = 1) ∨ (half p m = p - 1 ∧ symV p m = -1) := by
  have hp2 := hp.1
  unfold symV
  by_cases h0 : m % p = 0
  · exact .inl ⟨half_zero hp h2 h0, if_pos h0⟩
  · rw [if_neg h0]
    by_cases hs : sqB p (m % p) = true
    · exact .inr (.inl ⟨(half_one hp h0).2 hs, if_pos hs⟩)
    · rcases half_sq hp h2 h0 with h | h
      · exact absurd ((half_one hp h0).1 h) hs
      · exact .inr (.inr ⟨h, if_neg hs⟩)
theorem sym_mul {p a b : Nat} (hp : Pr p) (h2 : p ≠ 2) : symV p a * symV p b = symV p (a * b) := by
  have hp2 := hp.1
  have hm := half_mul p a b
  have h1 : (p - 1) * (p - 1) % p = 1 := by
    rw [neg_sq (by omega), Nat.mul_one, Nat.mod_eq_of_lt (by omega)]
  have h3 : (p - 1) % p = p - 1 := Nat.mod_eq_of_lt (by omega)
  have h4 : 1 % p = 1 := Nat.mod_eq_of_lt (by omega)
  rcases symV_of_half (m := a) hp h2 with ⟨a1, a2⟩ | ⟨a1, a2⟩ | ⟨a1, a2⟩ <;> rcases symV_of_half (m := b) hp h2 with ⟨b1, b2⟩ | ⟨b1, b2⟩ | ⟨b1, b2⟩ <;> rcases symV_of_half (m := a * b) hp h2 with ⟨c1, c2⟩ | ⟨c1, c2⟩ | ⟨c1, c2⟩ <;> rw [a2, b2, c2] <;> (try rfl) <;> (exfalso; rw [a1, b1, c1] at hm; simp [h1, h3, h4] at hm; try omega)
set_option maxRecDepth 100000 in
theorem SymbolN (m p : Nat) (w : World) (hp : P6 p) : Calls Try.prog 25 #[.int .i64 m, .int .i64 p] w (RetE w (symV p m) 0) := by
  have hr : resV (m : Int) p = m % p := resV_of_nat m p
  unfold symV
  by_cases h0 : m % p = 0
  · rw [if_pos h0]
    exact (Symbol_zero m p w hp (by rw [hr]; exact h0)).mono fun e w' ⟨h1, h2⟩ => ⟨h1, by rw [h2]; exact Below.refl _ w⟩
  · rw [if_neg h0]
    by_cases hs : sqB p (m % p) = true
    · rw [if_pos hs]
      have h1 := (half_one hp.1 h0).2 hs
      exact (Symbol_one m p w hp (by rw [hr]; exact h0) (by rw [hr, ← Nat.pow_mod]; exact h1)).mono fun e w' ⟨h1, h2⟩ => ⟨h1, by rw [h2]; exact (Below.refl _ w).alloc (Nat.le_refl _) _⟩
    · rw [if_neg hs]
      exact (Symbol_neg m p w hp (by rw [hr]; exact h0) (by rw [hr, ← Nat.pow_mod]; exact fun h => hs ((half_one hp.1 h0).1 h))).mono fun e w' ⟨h1, h2⟩ => ⟨h1, by rw [h2]; exact (Below.refl _ w).alloc (Nat.le_refl _) _⟩
theorem SqrtN (x p s : Nat) (w : World) (hp : P6 p) (h0 : x ≠ 0) (hx : x < p) (hs : SqrtOf p x s) : Calls Try.prog 24 #[.int .i64 x, .int .i64 p] w (RetE w s 0) :=
  Sqrt_ok x p s w hp (by rw [resV_nat hx]; exact h0) (by rw [resV_nat hx]; exact hs)
theorem SqrtF (x p : Nat) (w : World) (hp : P6 p) (h0 : x ≠ 0) (hx : x < p) (hs : ¬ HasSqrt p x) : Calls Try.prog 24 #[.int .i64 x, .int .i64 p] w (RetE w 0 18) :=
  Sqrt_none x p w hp (by rw [resV_nat hx]; exact h0) (by rw [resV_nat hx]; exact hs)
end Go.Proofs.Ytbcbkeeadbfjmaa
