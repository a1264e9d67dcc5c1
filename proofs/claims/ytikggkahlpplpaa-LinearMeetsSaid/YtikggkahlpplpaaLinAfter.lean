/- MATHEMATICS: the kept rows whose pivots lie from n on, without their first n entries: they are reduced, and their span is what the span holds of rows that begin with n zeros. -/
import Derived.Test.YtikggkahlpplpaaLinDim
namespace Go.Proofs.Ytikggkahlpplpaa

theorem sm_split (f : Nat → Int) (n : Nat) : ∀ m, sm f (n + m) = sm f n + sm (fun i => f (n + i)) m
  | 0 => by simp [sm]
  | m + 1 => by
    have := sm_split f n m
    show sm f (n + m) + f (n + m) = sm f n + (sm (fun i => f (n + i)) m + f (n + m))
    omega
def afterR (n : Nat) (R : Nat → Option (Nat → Int)) (k : Nat) : Option (Nat → Int) := (R (n + k)).map fun r i => r (n + i)
theorem afterR_some {n : Nat} {R : Nat → Option (Nat → Int)} {k : Nat} {s : Nat → Int} (h : afterR n R k = some s) : ∃ r, R (n + k) = some r ∧ s = fun i => r (n + i) := by
  unfold afterR at h
  cases hR : R (n + k) with
  | none => rw [hR] at h; cases h
  | some r =>
    rw [hR] at h
    injection h with h
    exact ⟨r, rfl, h.symm⟩
theorem afterR_is {n : Nat} {R : Nat → Option (Nat → Int)} {k : Nat} (h : (afterR n R k).isSome) : (R (n + k)).isSome := by
  cases e : afterR n R k with
  | none => rw [e] at h; cases h
  | some s =>
    obtain ⟨r, hr, _⟩ := afterR_some e
    rw [hr]; rfl
theorem rowAt_after (n : Nat) (R : Nat → Option (Nat → Int)) (k i : Nat) : rowAt (afterR n R) k i = rowAt R (n + k) (n + i) := by
  cases hR : R (n + k) with
  | none =>
    rw [rowAt_none hR, rowAt_none]
    unfold afterR
    rw [hR]; rfl
  | some r =>
    rw [rowAt_some hR]
    have h : afterR n R k = some (fun i => r (n + i)) := by
      unfold afterR
      rw [hR]; rfl
    rw [rowAt_some h]
theorem after_ech {p : Int} {n W : Nat} {R : Nat → Option (Nat → Int)} (hE : Ech p (n + W) R) : Ech p W (afterR n R) := by
  refine ⟨fun k s h => ?_, fun k s h => ?_, fun k s i h hi => ?_, fun k s l h hl hne => ?_, fun k s i h => ?_⟩
  all_goals obtain ⟨r, hr, rfl⟩ := afterR_some h
  · have := hE.below _ r hr
    omega
  · exact hE.one _ r hr
  · exact hE.lead _ r (n + i) hr (by omega)
  · exact hE.other _ r (n + l) hr (afterR_is hl) (by omega)
  · exact hE.low _ r (n + i) hr
/-- n zeros, then x. -/
def behind (n : Nat) (x : Nat → Int) (i : Nat) : Int := if i < n then 0 else x (i - n)
theorem behind_lo {n i : Nat} (x : Nat → Int) (h : i < n) : behind n x i = 0 := by unfold behind; rw [if_pos h]
theorem behind_hi (n i : Nat) (x : Nat → Int) : behind n x (n + i) = x i := by unfold behind; rw [if_neg (by omega), Nat.add_sub_cancel_left]
theorem after_span {p : Int} {n W : Nat} {R : Nat → Option (Nat → Int)} (hE : Ech p (n + W) R) (x : Nat → Int) : InR p W (afterR n R) x ↔ InR p (n + W) R (behind n x) := by
  constructor
  · rintro ⟨c, hc⟩
    refine ⟨behind n c, fun i => ?_⟩
    have h0 : sm (fun j => behind n c j * rowAt R j i) n = 0 := sm_zero fun j hj => by
      show behind n c j * rowAt R j i = 0
      rw [behind_lo c hj, Int.zero_mul]
    have h1 : sm (fun k => behind n c (n + k) * rowAt R (n + k) i) W = sm (fun k => c k * rowAt R (n + k) i) W := sm_congr fun k _ => by
      show behind n c (n + k) * rowAt R (n + k) i = c k * rowAt R (n + k) i
      rw [behind_hi]
    rw [sm_split, h0, h1, Int.zero_add]
    rcases Nat.lt_or_ge i n with hi | hi
    · rw [behind_lo x hi, sm_zero fun k _ => ?_]
      · exact ⟨0, by simp⟩
      · show c k * rowAt R (n + k) i = 0
        cases hR : R (n + k) with
        | none => rw [rowAt_none hR, Int.mul_zero]
        | some r => rw [rowAt_some hR, hE.lead _ r i hR (by omega), Int.mul_zero]
    · obtain ⟨t, rfl⟩ : ∃ t, i = n + t := ⟨i - n, by omega⟩
      rw [behind_hi]
      have h2 := hc t
      have h3 : sm (fun j => c j * rowAt (afterR n R) j t) W = sm (fun k => c k * rowAt R (n + k) (n + t)) W := sm_congr fun k _ => by
        show c k * rowAt (afterR n R) k t = c k * rowAt R (n + k) (n + t)
        rw [rowAt_after]
      rwa [h3] at h2
  · intro h
    refine ⟨x, fun i => ?_⟩
    have h1 := h.coef hE (n + i)
    have h0 : sm (fun j => behind n x j * rowAt R j (n + i)) n = 0 := sm_zero fun j hj => by
      show behind n x j * rowAt R j (n + i) = 0
      rw [behind_lo x hj, Int.zero_mul]
    have h2 : sm (fun k => behind n x (n + k) * rowAt R (n + k) (n + i)) W = sm (fun k => x k * rowAt (afterR n R) k i) W := sm_congr fun k _ => by
      show behind n x (n + k) * rowAt R (n + k) (n + i) = x k * rowAt (afterR n R) k i
      rw [behind_hi, rowAt_after]
    rw [sm_split, h0, h2, Int.zero_add, behind_hi] at h1
    exact h1
end Go.Proofs.Ytikggkahlpplpaa
