/- MATHEMATICS: reducing a row by the pivots one after the other. -/
import Derived.Test.YtinoomcboinokaaLinA
namespace Go.Proofs.Ytinoomcboinokaa

theorem redK_skip {p : Int} {R : Nat → Option (Nat → Int)} (v : Nat → Int) {a : Nat} : ∀ d, (∀ j, a ≤ j → j < a + d → R j = none) → redK p R v (a + d) = redK p R v a
  | 0, _ => rfl
  | d + 1, h => by
    have ih := redK_skip (p := p) v d fun j h1 h2 => h j h1 (by omega)
    rw [← ih]
    funext i
    rw [← Nat.add_assoc]
    exact redK_none (h (a + d) (by omega) (by omega)) v i
/-- The place of the k-th pivot; behind the last one the width. -/
def posP (W : Nat) (ls : List Nat) (k : Nat) : Nat := if k < ls.length then ls.getD k 0 else W
theorem pairwise_le {ls : List Nat} (h : ls.Pairwise (· < ·)) {i j : Nat} (hij : i ≤ j) (hj : j < ls.length) : ls.getD i 0 ≤ ls.getD j 0 := by
  rcases Nat.lt_or_eq_of_le hij with hlt | rfl
  · have := List.pairwise_iff_getElem.1 h i j (by omega) hj hlt
    simp [List.getD_eq_getElem?_getD, hj, show i < ls.length by omega]
    omega
  · exact Nat.le_refl _
theorem mem_getD {ls : List Nat} {j : Nat} (h : j ∈ ls) : ∃ i, i < ls.length ∧ ls.getD i 0 = j := by
  obtain ⟨i, hi, e⟩ := List.getElem_of_mem h
  exact ⟨i, hi, by simp [List.getD_eq_getElem?_getD, hi, e]⟩
theorem getD_mem {ls : List Nat} {i : Nat} (h : i < ls.length) : ls.getD i 0 ∈ ls := by
  simp [List.getD_eq_getElem?_getD, h]
theorem pos_gap {p : Int} {W : Nat} {R : Nat → Option (Nat → Int)} (hE : Ech p W R) {k a : Nat} (ha : k = 0 ∨ (0 < k ∧ k ≤ (pivL W R).length ∧ a = (pivL W R).getD (k - 1) 0 + 1)) {j : Nat} (h1 : a ≤ j) (h2 : j < posP W (pivL W R) k) : R j = none := by
  cases hR : R j with
  | none => rfl
  | some r =>
    exfalso
    have hm : j ∈ pivL W R := (pivL_mem hE).2 (by rw [hR]; rfl)
    obtain ⟨i, hi, e⟩ := mem_getD hm
    have hs := pivL_less W R
    have hki : k ≤ i := by
      rcases ha with h0 | ⟨h0, h3, h4⟩
      · omega
      · by_cases hlt : i ≤ k - 1
        · have := pairwise_le hs hlt (by omega); omega
        · omega
    have hle := pairwise_le hs hki hi
    unfold posP at h2
    rw [if_pos (by omega)] at h2
    omega
theorem pos_below {p : Int} {W : Nat} {R : Nat → Option (Nat → Int)} (hE : Ech p W R) (k : Nat) : posP W (pivL W R) k ≤ W := by
  unfold posP
  split
  · rename_i h
    have := (pivL_mem hE).1 (getD_mem h)
    cases hR : R ((pivL W R).getD k 0) with
    | none => rw [hR] at this; cases this
    | some r => exact Nat.le_of_lt (hE.below _ _ hR)
  · exact Nat.le_refl _
/-- The row behind k pivots. -/
def redP (p : Int) (W : Nat) (R : Nat → Option (Nat → Int)) (v : Nat → Int) (k : Nat) : Nat → Int := redK p R v (posP W (pivL W R) k)
theorem redP_start {p : Int} {W : Nat} {R : Nat → Option (Nat → Int)} (hE : Ech p W R) (v : Nat → Int) : redP p W R v 0 = fun i => v i % p := by
  have h := redK_skip (p := p) (R := R) v (a := 0) (posP W (pivL W R) 0) fun j h1 h2 => pos_gap hE (a := 0) (.inl rfl) h1 (by omega)
  rw [Nat.zero_add] at h
  unfold redP
  rw [h]
  funext i
  exact redK_start p R v i
theorem redP_end (p : Int) (W : Nat) (R : Nat → Option (Nat → Int)) (v : Nat → Int) : redP p W R v (pivL W R).length = redK p R v W := by
  unfold redP posP
  rw [if_neg (by omega)]
theorem redP_step {p : Int} {W : Nat} {R : Nat → Option (Nat → Int)} (hE : Ech p W R) (v : Nat → Int) {k : Nat} (hk : k < (pivL W R).length) {r : Nat → Int} (hr : R ((pivL W R).getD k 0) = some r) (i : Nat) :
    redP p W R v (k + 1) i = (redP p W R v k i + (p - redP p W R v k ((pivL W R).getD k 0)) * r i) % p := by
  have hpos : posP W (pivL W R) k = (pivL W R).getD k 0 := by unfold posP; rw [if_pos hk]
  have hge : (pivL W R).getD k 0 + 1 ≤ posP W (pivL W R) (k + 1) := by
    unfold posP
    split
    · rename_i h
      have := List.pairwise_iff_getElem.1 (pivL_less W R) k (k + 1) hk h (by omega)
      simp only [List.getD_eq_getElem?_getD, List.getElem?_eq_getElem hk, List.getElem?_eq_getElem h, Option.getD_some]
      omega
    · exact hE.below _ _ hr
  have h := redK_skip (p := p) (R := R) v (a := (pivL W R).getD k 0 + 1) (posP W (pivL W R) (k + 1) - ((pivL W R).getD k 0 + 1)) fun j h1 h2 => pos_gap hE (a := (pivL W R).getD k 0 + 1) (k := k + 1) (.inr ⟨by omega, by omega, by simp⟩) h1 (by omega)
  rw [show (pivL W R).getD k 0 + 1 + (posP W (pivL W R) (k + 1) - ((pivL W R).getD k 0 + 1)) = posP W (pivL W R) (k + 1) by omega] at h
  unfold redP
  rw [h, hpos]
  exact (redK_some hE hr v i).symm
theorem redP_low {p : Int} (hp : 1 < p) (W : Nat) (R : Nat → Option (Nat → Int)) (v : Nat → Int) (k i : Nat) : 0 ≤ redP p W R v k i ∧ redP p W R v k i < p := redK_low hp R v _ i
end Go.Proofs.Ytinoomcboinokaa
