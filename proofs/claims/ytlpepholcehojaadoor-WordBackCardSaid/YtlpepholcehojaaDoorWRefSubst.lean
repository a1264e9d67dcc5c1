/- Substitution: what it gives; the reference's Subst. -/
import Derived.Test.YtlpepholcehojaaDoorWSumsG
import Derived.Test.YtlpepholcehojaaDoorWRefC
import Derived.Test.YtlpepholcehojaaDoorWRefCmp
namespace Go.Proofs.YtlpepholcehojaaDoor
open Go Go.RowKit

/-- The word that takes a letter's place. -/
def letW (ims : List (List Int)) (x : Int) : List Int := if 0 < x then ims.getD (x.natAbs - 1) [] else winv (ims.getD (x.natAbs - 1) [])
def subW (ims : List (List Int)) (zs : List Int) : List Int := (zs.map (letW ims)).flatten
theorem subW_snoc (ims : List (List Int)) (u : List Int) (x : Int) : subW ims (u ++ [x]) = subW ims u ++ letW ims x := by simp [subW]
def subE (ims : List (List Int)) (zs : List Int) : Int := if okW ims.length zs then (if 4000 < (red (subW ims zs)).length then 4 else 0) else 2
def subL (ims : List (List Int)) (zs : List Int) : List Int := if subE ims zs = 0 then red (subW ims zs) else []
theorem letW_len {ims : List (List Int)} {N : Nat} (h : ∀ i, (ims.getD i []).length ≤ N) (x : Int) : (letW ims x).length ≤ N := by
  unfold letW; split
  · exact h _
  · rw [winv_length]; exact h _
theorem letW_rng {ims : List (List Int)} (h : ∀ i, Rng (ims.getD i [])) (x : Int) : Rng (letW ims x) := by
  unfold letW; split
  · exact h _
  · exact (h _).winv
theorem subW_len {ims : List (List Int)} {N : Nat} (h : ∀ i, (ims.getD i []).length ≤ N) : ∀ zs : List Int, (subW ims zs).length ≤ zs.length * N
  | [] => by simp [subW]
  | x :: zs => by
    have h1 := subW_len h zs
    have h2 := letW_len h x
    have e : subW ims (x :: zs) = letW ims x ++ subW ims zs := by simp [subW]
    rw [e, List.length_append, List.length_cons, Nat.add_mul, Nat.one_mul]; omega
theorem subW_rng {ims : List (List Int)} (h : ∀ i, Rng (ims.getD i [])) : ∀ zs : List Int, Rng (subW ims zs)
  | [] => fun x hx => by simp [subW] at hx
  | x :: zs => by
    have e : subW ims (x :: zs) = letW ims x ++ subW ims zs := by simp [subW]
    rw [e]; exact (letW_rng h x).append (subW_rng h zs)
theorem getD_ims {ps : List (Value × List Int)} {j : Nat} {p : Value × List Int} (h : ps[j]? = some p) : (ps.map (·.2)).getD j [] = p.2 := by
  simp [List.getD_eq_getElem?_getD, h]
theorem ims_all {ps : List (Value × List Int)} {P : List Int → Prop} (h0 : P []) (h : ∀ p ∈ ps, P p.2) (i : Nat) : P ((ps.map (·.2)).getD i []) := by
  cases hp : ps[i]? with
  | none => simp [List.getD_eq_getElem?_getD, hp]; exact h0
  | some p => rw [getD_ims hp]; exact h p (List.mem_of_getElem? hp)

end Go.Proofs.YtlpepholcehojaaDoor