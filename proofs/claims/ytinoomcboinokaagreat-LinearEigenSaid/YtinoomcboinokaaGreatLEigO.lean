/- MATHEMATICS of the law of eigenspaces, at what the code gives. -/
import Derived.Test.YtinoomcboinokaaGreatLEigN
import Derived.Test.YtinoomcboinokaaGreatLSolN
import Derived.Test.YtinoomcboinokaaGreatLHas
namespace Go.Proofs.YtinoomcboinokaaGreat
open Go Go.RowKit Num

theorem eig_app {p : Int} (hp : 2 ≤ p) {x : Int} {n : Nat} {f : Nat → Nat → Int} {v : Nat → Int} (h : EigP p n f x v) {j : Nat} (hj : j < n) : appF p n v f j = v j * x % p := by
  refine eq_of_dvd (appF_in (by omega) n n v f j hj) ⟨Int.emod_nonneg _ (by omega), Int.emod_lt_of_pos _ (by omega)⟩ ?_
  have h1 := app_dvd hp n v f j
  have h2 : p ∣ sm (fun i => v i * f i j) n - x * v j := h j hj
  have h3 := dvd_mod_sub p (v j * x)
  rw [Int.mul_comm x] at h2
  have h4 := Int.dvd_sub (Int.dvd_add h1 h2) h3
  rwa [show ∀ a b c d : Int, a - b + (b - c) - (d - c) = a - d from fun a b c d => by omega] at h4
/-- What the law asks of the rows of the eigenspace of x. -/
structure Eigs (p : Int) (n : Nat) (F : Nat → Nat → Int) (x : Nat) : Prop where
  low : ∀ i, i < (kerL n n (kerR p n n (eigF p x F))).length → InP p n (fun y => rowAt (kerR p n n (eigF p x F)) ((kerL n n (kerR p n n (eigF p x F))).getD i 0) (n + y))
  app : ∀ i, i < (kerL n n (kerR p n n (eigF p x F))).length → ∀ j, j < n → appF p n (fun y => rowAt (kerR p n n (eigF p x F)) ((kerL n n (kerR p n n (eigF p x F))).getD i 0) (n + y)) F j = rowAt (kerR p n n (eigF p x F)) ((kerL n n (kerR p n n (eigF p x F))).getD i 0) (n + j) * x % p
  val : isVal p n F x = decide (((kerL n n (kerR p n n (eigF p x F))).length : Int) > 0)
  sum : eigS p n F (x + 1) = eigS p n F x + (kerL n n (kerR p n n (eigF p x F))).length
theorem eigs_all {pn : Nat} (hp : 2 ≤ (pn : Int)) (hι : InvF (pn : Int) (invI (pn : Int))) (n : Nat) (F : Nat → Nat → Int) (x : Nat) : Eigs (pn : Int) n F x := by
  have hs := sols_all hp hι n n (eigF (pn : Int) x F)
  refine ⟨fun i hi => hs.ech.low i hi, fun i hi j hj => eig_app hp (eig_of hp fun j hj => ?_) hj, ?_, ?_⟩
  · have h1 := ker_zero (p := (pn : Int)) (by omega) hι n n (eigF (pn : Int) x F) (i := i) (by rw [← ker_len]; exact hi) hj
    have h2 : sm (fun y => rowAt (kerR (pn : Int) n n (eigF (pn : Int) x F)) ((kerL n n (kerR (pn : Int) n n (eigF (pn : Int) x F))).getD i 0) (n + y) * eigF (pn : Int) x F y j) n = sm (fun y => basF n (afterR n (elimR (pn : Int) (n + n) (invI (pn : Int)) (rowsL (n + n) (markF n (eigF (pn : Int) x F)) n))) i y * eigF (pn : Int) x F y j) n := sm_congr fun y _ => by
      rw [ker_bas hi y]; rfl
    show (pn : Int) ∣ sm (fun y => rowAt (kerR (pn : Int) n n (eigF (pn : Int) x F)) ((kerL n n (kerR (pn : Int) n n (eigF (pn : Int) x F))).getD i 0) (n + y) * eigF (pn : Int) x F y j) n
    rw [h2]; exact h1
  · refine Bool.eq_iff_iff.2 ((val_ker hp hι n F x).trans ?_)
    rw [decide_eq_true_iff]
    omega
  · rw [ker_len]; rfl
theorem pick_mem (d : Nat → Bool) (k x : Nat) : (x : Int) ∈ pickL d k ↔ x < k ∧ d x = true := by
  unfold pickL
  rw [List.mem_map]
  constructor
  · rintro ⟨y, hy, e⟩
    have h1 := List.mem_filter.1 hy
    have e2 : y = x := by omega
    subst e2
    exact ⟨List.mem_range.1 h1.1, h1.2⟩
  · rintro ⟨h1, h2⟩
    exact ⟨x, List.mem_filter.2 ⟨List.mem_range.2 h1, h2⟩, rfl⟩
theorem pick_has (d : Nat → Bool) (k x : Nat) (hx : x < k) : hasB (pickL d k).length (fun j => (pickL d k).getD j 0) x = d x := by
  have h : (∃ i, i < (pickL d k).length ∧ (pickL d k).getD i 0 = (x : Int)) ↔ d x = true := by
    constructor
    · rintro ⟨i, hi, e⟩
      refine ((pick_mem d k x).1 ?_).2
      rw [← e, List.getD_eq_getElem?_getD, List.getElem?_eq_getElem hi]
      exact List.getElem_mem hi
    · intro hd
      obtain ⟨i, hi, e⟩ := List.mem_iff_getElem.1 ((pick_mem d k x).2 ⟨hx, hd⟩)
      refine ⟨i, hi, ?_⟩
      rw [List.getD_eq_getElem?_getD, List.getElem?_eq_getElem hi]
      exact e
  unfold hasB
  cases hd : d x with
  | true => exact decide_eq_true (h.2 hd)
  | false => exact decide_eq_false (fun h2 => by rw [h.1 h2] at hd; cases hd)
theorem pick_up (d : Nat → Bool) (k : Nat) {i : Nat} (hi : i + 1 < (pickL d k).length) : (pickL d k).getD i 0 < (pickL d k).getD (i + 1) 0 := by
  have h1 : (pickL d k).Pairwise (· < ·) := by
    unfold pickL
    rw [List.pairwise_map]
    exact (List.Pairwise.sublist List.filter_sublist List.pairwise_lt_range).imp fun h => by omega
  have h2 := List.pairwise_iff_getElem.1 h1 i (i + 1) (by omega) hi (by omega)
  simp only [List.getD_eq_getElem?_getD, List.getElem?_eq_getElem hi, List.getElem?_eq_getElem (show i < (pickL d k).length by omega), Option.getD_some]
  exact h2
/-- A row times x, as far as j entries. -/
def wTo (p x : Int) (v : Nat → Int) (j a : Nat) : Int := if a < j then v a * x % p else 0
theorem wTo_step (p x : Int) (v : Nat → Int) (j a : Nat) : (if a = j then v j * x % p else wTo p x v j a) = wTo p x v (j + 1) a := by
  unfold wTo
  by_cases e : a = j
  · subst e; rw [if_pos rfl, if_pos (by omega)]
  · rw [if_neg e]
    by_cases h : a < j
    · rw [if_pos h, if_pos (by omega)]
    · rw [if_neg h, if_neg (by omega)]
end Go.Proofs.YtinoomcboinokaaGreat
