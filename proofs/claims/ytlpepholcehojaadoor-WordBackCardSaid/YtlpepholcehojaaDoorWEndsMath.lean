/- What lies between the ends of a reduced word, and its powers. -/
import Derived.Test.YtlpepholcehojaaDoorWEnds
namespace Go.Proofs.YtlpepholcehojaaDoor
open Go Go.RowKit

theorem ends_short {l : List Int} {k : Nat} (hr : Red l) (hl : Lets l) (h0 : 0 < l.length) (h : EndsAt l k) : 2 * k < l.length := by
  obtain ⟨h1, h2, h3⟩ := h
  apply Nat.lt_of_not_le
  intro hc
  obtain ⟨j, hj | hj⟩ : ∃ j, l.length = 2 * j ∨ l.length = 2 * j + 1 := ⟨l.length / 2, by omega⟩
  · have := h2 (j - 1) (by omega)
    unfold pairAt at this
    rw [show l.length - 1 - (j - 1) = (j - 1) + 1 by omega, canc_iff] at this
    exact no_pair hr hl (j := j - 1) (by omega) (by omega)
  · have := h2 j (by omega)
    unfold pairAt at this
    rw [show l.length - 1 - j = j by omega, canc_self] at this
    cases this

/-- The part between the ends. -/
def midW (l : List Int) (k : Nat) : List Int := (l.take (l.length - k)).drop k
theorem midW_length (l : List Int) {k : Nat} (h : 2 * k < l.length) : (midW l k).length = l.length - 2 * k := by
  simp [midW]; omega
theorem midW_get {l : List Int} {k i : Nat} (h : k + i < l.length - k) : (midW l k).getD i 0 = l.getD (k + i) 0 := by
  unfold midW
  rw [getD_drop, getD_take h]
theorem mid_parts (l : List Int) {k : Nat} (h : 2 * k < l.length) : l.take k ++ (midW l k ++ l.drop (l.length - k)) = l := by
  have e1 : l.take (l.length - k) = l.take k ++ midW l k := by
    have := List.take_append_drop k (l.take (l.length - k))
    rw [List.take_take, show min k (l.length - k) = k by omega] at this
    exact this.symm
  rw [← List.append_assoc, ← e1, List.take_append_drop]
theorem mid_red {l : List Int} {k : Nat} (hr : Red l) (h : 2 * k < l.length) : Red (midW l k) := by
  have := mid_parts l h
  rw [← this] at hr
  exact hr.right.left
theorem mid_ne {l : List Int} {k : Nat} (h : 2 * k < l.length) : midW l k ≠ [] := fun e => by
  have := midW_length l h
  rw [e] at this
  simp at this
  omega
theorem ends_inv {l : List Int} {k : Nat} (hl : Lets l) (h : EndsAt l k) (hk : 2 * k < l.length) : l.drop (l.length - k) = winv (l.take k) := by
  obtain ⟨h1, h2, h3⟩ := h
  have e1 : (l.drop (l.length - k)).length = k := by simp; omega
  have e2 : (winv (l.take k)).length = k := by rw [winv_length]; simp; omega
  refine ext_getD (by rw [e1, e2]) fun i hi => ?_
  rw [e1] at hi
  rw [getD_drop]
  have hp := h2 (k - 1 - i) (by omega)
  unfold pairAt at hp
  rw [show l.length - 1 - (k - 1 - i) = l.length - k + i by omega, canc_iff] at hp
  have e3 : (winv (l.take k)).getD i 0 = nlet (l.getD (k - 1 - i) 0) := by
    have hlen : (l.take k).length = k := by simp; omega
    unfold winv
    simp only [List.getD_eq_getElem?_getD]
    rw [List.getElem?_reverse (by simpa using (by omega : i < min k l.length)), List.getElem?_map]
    have : ((l.take k).map nlet).length - 1 - i = k - 1 - i := by simp; omega
    rw [this, List.getElem?_take_of_lt (by omega), List.getElem?_eq_getElem (show k - 1 - i < l.length by omega)]
    rfl
  have hin : l.getD (k - 1 - i) 0 ∈ l := by
    have : l.getD (k - 1 - i) 0 = l[k - 1 - i] := by simp [List.getD_eq_getElem?_getD, show k - 1 - i < l.length by omega]
    rw [this]; exact List.getElem_mem _
  rw [e3, nlet_of (hl _ hin)]
  omega
theorem mm_red {m : List Int} (hm : m ≠ []) (h : Red m) (hc : canc (m.getD (m.length - 1) 0) (m.getD 0 0) = false) : Red (m ++ m) := by
  have e1 : m.dropLast ++ [m.getLast hm] = m := List.dropLast_concat_getLast hm
  have e2 : m.getD (m.length - 1) 0 = m.getLast hm := by
    have : 0 < m.length := List.length_pos_iff.2 hm
    rw [List.getLast_eq_getElem, List.getD_eq_getElem?_getD, List.getElem?_eq_getElem (by omega)]; rfl
  rw [e2] at hc
  generalize m.getLast hm = z at e1 hc
  cases m with
  | nil => exact absurd rfl hm
  | cons x v =>
    have h1 : Red ((x :: v).dropLast ++ [z]) := by rw [e1]; exact h
    have h2 := Red.join h1 h (by simpa using hc)
    have e3 : (x :: v).dropLast ++ z :: x :: v = (x :: v) ++ (x :: v) := by
      calc (x :: v).dropLast ++ z :: x :: v = ((x :: v).dropLast ++ [z]) ++ (x :: v) := by rw [List.append_assoc]; rfl
        _ = (x :: v) ++ (x :: v) := by rw [e1]
    rw [← e3]; exact h2
theorem mid_mm {l : List Int} {k : Nat} (hr : Red l) (h : EndsAt l k) (hk : 2 * k < l.length) : Red (midW l k ++ midW l k) := by
  refine mm_red (mid_ne hk) (mid_red hr hk) ?_
  have hp := h.2.2 (by omega)
  unfold pairAt at hp
  rw [midW_length l hk, midW_get (by omega), midW_get (by omega), show k + (l.length - 2 * k - 1) = l.length - 1 - k by omega, Nat.add_zero]
  exact hp
/-- The reduced form of a power. -/
theorem pow_form {l : List Int} {k : Nat} (hr : Red l) (hl : Lets l) (h : EndsAt l k) (hk : 2 * k < l.length) (t : Nat) :
    red (rep l (t + 1)) = l.take k ++ (rep (midW l k) (t + 1) ++ l.drop (l.length - k)) := by
  have hp := mid_parts l hk
  have hs : sim (l.drop (l.length - k) ++ l.take k) [] := by
    rw [ends_inv hl h hk]; exact sim_winv' (fun x hx => hl x (List.mem_of_mem_take hx))
  have h1 := rep_conj (p := l.take k) (m := midW l k) (q := l.drop (l.length - k)) hs t
  rw [hp] at h1
  have h2 := ends_red (p := l.take k) (m := midW l k) (q := l.drop (l.length - k)) (mid_ne hk) (by rw [hp]; exact hr) (mid_mm hr h hk) t
  rw [red_of_sim h1, red_of_red h2]
theorem canc_nlet {x y : Int} (hx : x ≠ 0 ∧ -9223372036854775808 < x ∧ x < 9223372036854775808) (hy : y ≠ 0 ∧ -9223372036854775808 < y ∧ y < 9223372036854775808) (h : canc x y = false) : canc (nlet x) (nlet y) = false := by
  rw [nlet_of hx, nlet_of hy]
  cases hc : canc (-x) (-y) with
  | false => rfl
  | true =>
    have := canc_iff.1 hc
    have h2 : canc x y = true := canc_iff.2 (by omega)
    rw [h] at h2; cases h2
theorem Red.map_nlet {l : List Int} (hl : Lets l) (h : Red l) : Red (l.map nlet) := by
  induction l with
  | nil => trivial
  | cons x t ih =>
    cases t with
    | nil => trivial
    | cons y t =>
      exact ⟨canc_nlet (hl x (by simp)) (hl y (by simp)) h.1, ih (fun z hz => hl z (by simp at hz ⊢; exact .inr hz)) h.2⟩
theorem Red.winv {l : List Int} (hl : Lets l) (h : Red l) : Red (winv l) := (Red.map_nlet hl h).reverse
end Go.Proofs.YtlpepholcehojaaDoor
