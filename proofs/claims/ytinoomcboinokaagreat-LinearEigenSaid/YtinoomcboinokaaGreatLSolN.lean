/- MATHEMATICS of the law of kernels and solutions, at what the code gives. -/
import Derived.Test.YtinoomcboinokaaGreatLSolS
namespace Go.Proofs.YtinoomcboinokaaGreat
open Go Go.RowKit Num

theorem app_zero {p : Int} (hp : 2 ≤ p) {m : Nat} {y : Nat → Int} {f : Nat → Nat → Int} {j : Nat} (h : p ∣ sm (fun i => y i * f i j) m) : appF p m y f j = 0 := by
  have h1 := Int.dvd_add (app_dvd hp m y f j) h
  rw [Int.sub_add_cancel] at h1
  have h2 := appF_in (p := p) (by omega) m (j + 1) y f j (by omega)
  have h3 := Int.emod_eq_zero_of_dvd h1
  rwa [Int.emod_eq_of_lt h2.1 h2.2] at h3
/-- A product lies in the span of the rows. -/
theorem app_span {p : Int} (hp : 2 ≤ p) {n m : Nat} (y : Nat → Int) (f : Nat → Nat → Int) : SpL p (rowsL n f m) (wideF n (appF p m y f)) := by
  have h1 : ∀ k, k ≤ m → SpL p (rowsL n f m) (wideF n (fun j => sm (fun i => y i * f i j) k)) := by
    intro k
    induction k with
    | zero =>
      intro _
      refine (SpL.nil _).congr fun i => ?_
      unfold wideF
      split <;> exact ⟨0, by simp [sm]⟩
    | succ k ih =>
      intro hk
      refine ((ih (by omega)).add (SpL.smul (y k) (SpL.row (rowsL_mem (n := n) (F := f) (m := m) (i := k) (by omega))))).congr fun i => ?_
      unfold wideF
      by_cases hi : i < n
      · rw [if_pos hi, if_pos hi, if_pos hi]
        exact ⟨0, by simp [sm]⟩
      · rw [if_neg hi, if_neg hi, if_neg hi]
        exact ⟨0, by simp⟩
  refine (h1 m (Nat.le_refl m)).congr fun i => ?_
  unfold wideF
  by_cases hi : i < n
  · rw [if_pos hi, if_pos hi]; exact app_dvd hp m y f i
  · rw [if_neg hi, if_neg hi]; exact ⟨0, by simp⟩
theorem sol_in (p : Int) (m n : Nat) (F : Nat → Nat → Int) (b : Nat → Int) : inB p n (elimR p n (invI p) (rowsL n F m)) b = !(firstNZ (solR p m n F b) n).isSome := solve_in p n m (invI p) F b
/-- The solution is mapped to the right side. -/
theorem sol_map {p : Int} (hp : 2 ≤ p) {m n : Nat} {F : Nat → Nat → Int} {b : Nat → Int} (h : firstNZ (solR p m n F b) n = none) (hb : InP p n b) {j : Nat} (hj : j < n) : appF p m (solV p n (solR p m n F b)) F j = b j := by
  have h1 := solve_map (p := p) (F := F) (b := b) (rest := solR p m n F b) rfl (fun j hj => firstNZ_none h j hj) hj
  have h2 := app_dvd hp m (solV p n (solR p m n F b)) F j
  generalize solR p m n F b = rest at h1 h2 ⊢
  have h3 : p ∣ sm (fun i => solV p n rest i * F i j) m - sm (fun i => (-rest (n + i)) * F i j) m := by
    rw [sm_sub]
    refine sm_dvd fun i _ => ?_
    show p ∣ solV p n rest i * F i j - (-rest (n + i)) * F i j
    rw [← Int.sub_mul]
    refine Int.dvd_mul_of_dvd_left ?_
    unfold solV
    have h4 := dvd_mod_sub p (0 + (p - 1) * rest (n + i))
    have h5 : (0 + (p - 1) * rest (n + i)) - -rest (n + i) = p * rest (n + i) := by rw [Int.sub_mul]; omega
    have h6 := Int.dvd_add h4 (show p ∣ (0 + (p - 1) * rest (n + i)) - -rest (n + i) from ⟨_, h5⟩)
    rwa [show ∀ a b c : Int, a - b + (b - c) = a - c from fun a b c => by omega] at h6
  refine eq_of_dvd (appF_in (by omega) m n _ F j hj) (hb j hj) ?_
  have h4 := Int.dvd_sub (Int.dvd_add h2 h3) h1
  rwa [show ∀ a b c d : Int, a - b + (b - c) - (d - c) = a - d from fun a b c d => by omega] at h4
theorem sol_drop {p : Int} (hp : 2 ≤ p) {m n : Nat} {F : Nat → Nat → Int} {b : Nat → Int} {i : Nat} (hd : inB p n (elimR p n (invI p) (rowsL n F i)) (F i) = true) : solV p n (solR p m n F b) i = 0 := by
  have h1 : solR p m n F b (n + i) = 0 := solve_drop (by omega) (m := m) (F := F) (b := b) (ι := invI p) hd
  unfold solV
  rw [h1, Int.mul_zero, Int.add_zero]
  exact Int.zero_emod p
/-- What the law asks of a matrix. -/
structure Sols (p : Int) (m n : Nat) (F : Nat → Nat → Int) : Prop where
  ech : EchF p (kerL n m (kerR p m n F)).length m (fun i x => rowAt (kerR p m n F) ((kerL n m (kerR p m n F)).getD i 0) (n + x)) (fun i => (pivL m (afterR n (kerR p m n F))).getD i 0)
  len : (kerL n m (kerR p m n F)).length + (pivL n (elimR p n (invI p) (rowsL n F m))).length = m
  zero : ∀ i, i < (kerL n m (kerR p m n F)).length → ∀ j, j < n → appF p m (fun x => rowAt (kerR p m n F) ((kerL n m (kerR p m n F)).getD i 0) (n + x)) F j = 0
  img : ∀ y, firstNZ (solR p m n F (appF p m y F)) n = none
theorem EchF.congr {p : Int} {m n : Nat} {F G : Nat → Nat → Int} {pv : Nat → Nat} (h : EchF p m n F pv) (e : ∀ i, i < m → ∀ j, F i j = G i j) : EchF p m n G pv := by
  obtain ⟨h1, h2, h3, h4, h5, h6⟩ := h
  exact ⟨h1, fun i j hi hj => by rw [← e i hi]; exact h2 i j hi hj, fun i hi => by rw [← e i hi]; exact h3 i hi, fun i k hi hk hne => by rw [← e k hk]; exact h4 i k hi hk hne, fun i hi j hj => by rw [← e i hi]; exact h5 i hi j hj, h6⟩
theorem sols_all {pn : Nat} (hp : 2 ≤ (pn : Int)) (hι : InvF (pn : Int) (invI (pn : Int))) (m n : Nat) (F : Nat → Nat → Int) : Sols (pn : Int) m n F := by
  have hE := elimR_ech (p := (pn : Int)) (by omega) hι (n + m) (rowsL (n + m) (markF n F) m)
  refine ⟨?_, ?_, fun i hi j hj => ?_, fun y => ?_⟩
  · have h1 := basis_ech (after_ech (n := n) (W := m) hE)
    rw [← ker_len] at h1
    exact h1.congr fun i hi j => (ker_bas hi j).symm
  · rw [ker_len]
    exact ker_rank (by omega) hι n m F
  · refine app_zero hp ?_
    have h1 := ker_zero (p := (pn : Int)) (by omega) hι n m F (i := i) (by rw [← ker_len]; exact hi) hj
    have h2 : sm (fun x => rowAt (kerR (pn : Int) m n F) ((kerL n m (kerR (pn : Int) m n F)).getD i 0) (n + x) * F x j) m = sm (fun x => basF m (afterR n (elimR (pn : Int) (n + m) (invI (pn : Int)) (rowsL (n + m) (markF n F) m))) i x * F x j) m := sm_congr fun x _ => by
      rw [ker_bas hi x]; rfl
    show (pn : Int) ∣ sm (fun x => rowAt (kerR (pn : Int) m n F) ((kerL n m (kerR (pn : Int) m n F)).getD i 0) (n + x) * F x j) m
    rw [h2]; exact h1
  · have h1 := span_in (p := (pn : Int)) (by omega) hι (app_span hp (n := n) (m := m) y F)
    rw [sol_in] at h1
    cases e : firstNZ (solR (pn : Int) m n F (appF (pn : Int) m y F)) n with
    | none => rfl
    | some j => rw [e] at h1; simp at h1
end Go.Proofs.YtinoomcboinokaaGreat
