/- MATHEMATICS: spans of lists: what lies in them, when one lies in another. -/
import Derived.Test.YtikggkahlpplpaaLinElim
namespace Go.Proofs.Ytikggkahlpplpaa

theorem SpL.congr {p : Int} : ∀ {L : List (Nat → Int)} {x y : Nat → Int}, SpL p L x → (∀ i, p ∣ y i - x i) → SpL p L y
  | [], x, y, h, e => fun i => by
    have := Int.dvd_add (e i) (h i)
    rwa [show y i - x i + x i = y i by omega] at this
  | v :: L, x, y, ⟨t, ht⟩, e => ⟨t, ht.congr fun i => by
    show p ∣ y i - t * v i - (x i - t * v i)
    rw [show y i - t * v i - (x i - t * v i) = y i - x i by omega]
    exact e i⟩
theorem SpL.nil {p : Int} : ∀ (L : List (Nat → Int)), SpL p L (fun _ => 0)
  | [] => fun _ => ⟨0, by simp⟩
  | v :: L => ⟨0, (SpL.nil L).congr fun i => ⟨0, by show (0 - 0 * v i) - 0 = p * 0; simp⟩⟩
theorem SpL.add {p : Int} : ∀ {L : List (Nat → Int)} {x y : Nat → Int}, SpL p L x → SpL p L y → SpL p L (fun i => x i + y i)
  | [], _, _, h, k => fun i => Int.dvd_add (h i) (k i)
  | v :: L, x, y, ⟨t, ht⟩, ⟨s, hs⟩ => ⟨t + s, (ht.add hs).congr fun i => ⟨0, by
    show x i + y i - (t + s) * v i - (x i - t * v i + (y i - s * v i)) = p * 0
    rw [Int.add_mul]; omega⟩⟩
theorem SpL.smul {p : Int} (c : Int) : ∀ {L : List (Nat → Int)} {x : Nat → Int}, SpL p L x → SpL p L (fun i => c * x i)
  | [], _, h => fun i => Int.dvd_mul_of_dvd_right (h i)
  | v :: L, x, ⟨t, ht⟩ => ⟨c * t, (ht.smul c).congr fun i => ⟨0, by
    show c * x i - c * t * v i - c * (x i - t * v i) = p * 0
    rw [Int.mul_sub, Int.mul_assoc]; omega⟩⟩
theorem SpL.more {p : Int} {L : List (Nat → Int)} {x : Nat → Int} (v : Nat → Int) (h : SpL p L x) : SpL p (v :: L) x :=
  ⟨0, h.congr fun i => ⟨0, by show x i - 0 * v i - x i = p * 0; rw [Int.zero_mul]; omega⟩⟩
/-- A row of the list lies in its span. -/
theorem SpL.row {p : Int} : ∀ {L : List (Nat → Int)} {v : Nat → Int}, v ∈ L → SpL p L v
  | u :: L, v, h => by
    rcases List.mem_cons.1 h with rfl | h
    · exact ⟨1, (SpL.nil L).congr fun i => ⟨0, by show v i - 1 * v i - 0 = p * 0; rw [Int.one_mul]; omega⟩⟩
    · exact (SpL.row h).more u
/-- If each row lies in another span, all of the span does. -/
theorem SpL.sub {p : Int} {M : List (Nat → Int)} : ∀ {L : List (Nat → Int)} {x : Nat → Int}, (∀ v ∈ L, SpL p M v) → SpL p L x → SpL p M x
  | [], x, _, h => (SpL.nil M).congr fun i => by
    show p ∣ x i - 0
    rw [Int.sub_zero]; exact h i
  | v :: L, x, hv, ⟨t, ht⟩ => by
    have h1 := SpL.sub (fun u hu => hv u (List.mem_cons_of_mem _ hu)) ht
    exact (h1.add ((hv v (by simp)).smul t)).congr fun i => ⟨0, by
      show x i - (x i - t * v i + t * v i) = p * 0
      omega⟩
/-- Lists of rows that lie in each other's spans have one elimination: the order of the rows, and rows that are combinations of others, do not matter. -/
theorem elim_eq {p : Int} (hp : 1 < p) {ι : Int → Int} (hι : InvF p ι) {W : Nat} {L M : List (Nat → Int)} (hL : ∀ v ∈ L, Wide W v) (hM : ∀ v ∈ M, Wide W v) (h : ∀ v ∈ L, SpL p M v) (k : ∀ v ∈ M, SpL p L v) : elimR p W ι L = elimR p W ι M :=
  elim_same hp hι hL hM fun _ => ⟨SpL.sub h, SpL.sub k⟩
/-- A row lies in the span of a list if and only if nothing is left of it. -/
theorem in_iff {p : Int} (hp : 1 < p) {ι : Int → Int} (hι : InvF p ι) {W : Nat} {L : List (Nat → Int)} (hL : ∀ v ∈ L, Wide W v) (x : Nat → Int) : SpL p L x ↔ ∀ i, redK p (elimR p W ι L) x W i = 0 := by
  have h := elim_ok hp hι L hL
  constructor
  · intro hx i
    have h1 := ((h.2.2 x).2 hx).coef h.1 i
    exact Int.emod_eq_zero_of_dvd h1
  · intro hz
    refine (h.2.2 x).1 ((red_in (p := p) (W := W) (elimR p W ι L) x).congr fun i => ?_)
    show p ∣ x i - (x i - redK p (elimR p W ι L) x W i)
    rw [hz i]
    exact ⟨0, by omega⟩
end Go.Proofs.Ytikggkahlpplpaa
