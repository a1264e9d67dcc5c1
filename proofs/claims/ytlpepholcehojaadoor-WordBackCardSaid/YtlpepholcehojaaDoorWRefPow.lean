/- The reference's Pow for every word and every exponent. -/
import Derived.Test.YtlpepholcehojaaDoorWPowG
import Derived.Test.YtlpepholcehojaaDoorWOwn
namespace Go.Proofs.YtlpepholcehojaaDoor
open Go Go.RowKit

theorem OwnsI.onB {w w' : World} {B : Nat} {v : Value} {l : List Int} (h : OwnsI w B v l) (hb : Below w.heap.size w w') : OwnsI w' B v l := by
  refine ⟨h.1, ?_⟩
  rcases h.2 with ⟨a, b⟩ | ⟨g, cap, cur, rfl, hb0, hg, hnc, hcm, hcs, ht⟩
  · exact .inl ⟨a, b⟩
  · exact .inr ⟨g, cap, cur, rfl, hb0, (hb.block g (Array.getElem?_eq_some_iff.1 hg).1).trans hg, hnc, hcm, hcs, ht⟩
theorem rep_snoc (l : List Int) : ∀ t, rep l (t + 1) = rep l t ++ l
  | 0 => by simp [rep]
  | t + 1 => by
    show l ++ rep l (t + 1) = l ++ rep l t ++ l
    rw [rep_snoc l t, List.append_assoc]

end Go.Proofs.YtlpepholcehojaaDoor