/- The cycles of a list of images, as the code finds them; plain lists, no program. -/
import Derived.Test.YtpchomhfpfpckaaDoorBase
namespace Go.Proofs.YtpchomhfpfpckaaDoor
open Go Go.RowKit

/-- From i on along the images, up to a point that has been seen. -/
def walk (zs : List Int) : Nat → List Int → Int → List Int
  | 0, _, _ => []
  | f + 1, seen, i => if i ∈ seen then [] else i :: walk zs f (seen ++ [i]) (zs.getD i.toNat 0)
/-- What has been seen, and the cycles, behind the first k points. -/
def upTo (zs : List Int) : Nat → List Int × List (List Int)
  | 0 => ([], [])
  | k + 1 => if walk zs 65 (upTo zs k).1 k = [] then upTo zs k else ((upTo zs k).1 ++ walk zs 65 (upTo zs k).1 k, (upTo zs k).2 ++ [walk zs 65 (upTo zs k).1 k])
def cycs (zs : List Int) : List (List Int) := (upTo zs zs.length).2

theorem walk_mem {zs : List Int} {f : Nat} {L : List Int} {i : Int} (h : i ∈ L) : walk zs f L i = [] := by
  cases f with
  | zero => rfl
  | succ f => rw [walk, if_pos h]
theorem walk_new {zs : List Int} {f : Nat} {L : List Int} {i : Int} (h : i ∉ L) : walk zs (f + 1) L i = i :: walk zs f (L ++ [i]) (zs.getD i.toNat 0) := by
  rw [walk, if_neg h]
theorem upTo_none {zs : List Int} {k : Nat} (h : walk zs 65 (upTo zs k).1 k = []) : upTo zs (k + 1) = upTo zs k := by rw [upTo, if_pos h]
theorem upTo_some {zs : List Int} {k : Nat} (h : walk zs 65 (upTo zs k).1 k ≠ []) : upTo zs (k + 1) = ((upTo zs k).1 ++ walk zs 65 (upTo zs k).1 k, (upTo zs k).2 ++ [walk zs 65 (upTo zs k).1 k]) := by
  rw [upTo, if_neg h]

/-- How many points below n have not been seen. -/
def free (n : Nat) (L : List Int) : Nat := ((List.range n).filter fun (j : Nat) => !decide ((j : Int) ∈ L)).length
theorem free_le (n : Nat) (L : List Int) : free n L ≤ n := by
  unfold free
  exact Nat.le_trans (List.length_filter_le _ _) (by simp)
theorem free_lt {n : Nat} {L : List Int} {i : Nat} (hi : i < n) (h : (i : Int) ∉ L) : free n (L ++ [(i : Int)]) < free n L := by
  unfold free
  have e : ((List.range n).filter fun (j : Nat) => !decide ((j : Int) ∈ L ++ [(i : Int)])) = ((List.range n).filter fun (j : Nat) => !decide ((j : Int) ∈ L)).filter fun (j : Nat) => !decide (j = i) := by
    rw [List.filter_filter]
    apply List.filter_congr
    intro j _
    simp only [List.mem_append, List.mem_singleton, Int.ofNat_inj]
    by_cases h1 : (j : Int) ∈ L <;> by_cases h2 : j = i <;> simp [h1, h2]
  rw [e]
  refine List.length_filter_lt_length_iff_exists.2 ⟨i, ?_, by simp⟩
  simp [hi, h]

/-- What is in range. -/
def InR (n : Nat) (L : List Int) : Prop := ∀ x ∈ L, 0 ≤ x ∧ x < (n : Int)
theorem fine_next {zs : List Int} (hf : Fine zs) {i : Nat} (hi : i < zs.length) : 0 ≤ zs.getD i 0 ∧ zs.getD i 0 < (zs.length : Int) := ⟨(hf i hi).1, (hf i hi).2.1⟩

/-- A step along a cycle that has begun: seen L, c so far, at i. -/
def AtCyc (zs : List Int) (L : List Int) (k : Nat) (c : List Int) (i : Int) : Prop :=
  0 ≤ i ∧ i < (zs.length : Int) ∧ c.length + free zs.length (L ++ c) ≤ free zs.length L ∧ c ++ walk zs (65 - c.length) (L ++ c) i = walk zs 65 L k ∧ InR zs.length c
theorem AtCyc.start {zs : List Int} (L : List Int) {k : Nat} (hk : k < zs.length) : AtCyc zs L k [] k :=
  ⟨by omega, by omega, by simp, by simp, fun x h => by simp at h⟩
theorem AtCyc.step {zs : List Int} {L c : List Int} {k i : Nat} (h : AtCyc zs L k c i) (hf : Fine zs) (h64 : zs.length ≤ 64) (hi : (i : Int) ∉ L ++ c) : AtCyc zs L k (c ++ [(i : Int)]) (zs.getD i 0) := by
  obtain ⟨h0, h1, h2, h3, h4⟩ := h
  have hlt : i < zs.length := by omega
  have hfr := free_lt hlt hi
  have hle := free_le zs.length L
  refine ⟨(fine_next hf hlt).1, (fine_next hf hlt).2, ?_, ?_, ?_⟩
  · rw [← List.append_assoc, List.length_append, List.length_singleton]; omega
  · rw [← h3, ← List.append_assoc, List.length_append, List.length_singleton]
    have e : 65 - c.length = (65 - (c.length + 1)) + 1 := by omega
    rw [e, walk_new hi, Int.toNat_natCast]
    simp
  · intro x hx
    rcases List.mem_append.1 hx with hx | hx
    · exact h4 x hx
    · rw [List.mem_singleton] at hx; subst hx; exact ⟨h0, h1⟩
theorem AtCyc.len {zs : List Int} {L c : List Int} {k : Nat} {i : Int} (h : AtCyc zs L k c i) : c.length ≤ zs.length := by
  have := h.2.2.1; have := free_le zs.length L; omega
theorem AtCyc.done {zs : List Int} {L c : List Int} {k : Nat} {i : Int} (h : AtCyc zs L k c i) (hi : i ∈ L ++ c) : walk zs 65 L k = c ∧ c.length + free zs.length (L ++ c) ≤ free zs.length L ∧ InR zs.length c := by
  have h3 := h.2.2.2.1
  rw [walk_mem hi, List.append_nil] at h3
  exact ⟨h3.symm, h.2.2.1, h.2.2.2.2⟩

/-- The marks of the points seen. -/
def marksL (L : List Int) : Array Value := Array.ofFn (n := 64) fun i => Value.bool (decide ((i.val : Int) ∈ L))
theorem marksL_get (L : List Int) (i : Nat) (hi : i < 64) : (marksL L)[i]? = some (.bool (decide ((i : Int) ∈ L))) := by simp [marksL, hi]
theorem marksL_nil : marksL [] = Array.replicate 64 (.bool false) := by
  apply Array.ext
  · simp [marksL]
  · intro i h1 h2; simp [marksL]
theorem marksL_set (L : List Int) (i : Nat) : (marksL L).setIfInBounds i (.bool true) = marksL (L ++ [(i : Int)]) := by
  apply Array.ext
  · simp [marksL]
  · intro j h1 h2
    have hj : j < 64 := by simpa [marksL] using h2
    rw [Array.getElem_setIfInBounds (by simpa [marksL] using hj)]
    by_cases e : i = j
    · subst e; simp [marksL]
    · have e' : ¬ (j : Int) = i := by omega
      simp [marksL, if_neg e, e']

/-- What is known of the first k points. -/
def SeenOk (zs : List Int) (k : Nat) : Prop := (upTo zs k).1.length + free zs.length (upTo zs k).1 ≤ zs.length ∧ ((upTo zs k).2.map List.length).sum = (upTo zs k).1.length ∧ (∀ c ∈ (upTo zs k).2, 1 ≤ c.length)
theorem SeenOk.zero (zs : List Int) : SeenOk zs 0 := ⟨by simpa [upTo] using free_le zs.length [], rfl, fun c h => by simp [upTo] at h⟩
theorem SeenOk.none_ {zs : List Int} {k : Nat} (h : SeenOk zs k) (hw : walk zs 65 (upTo zs k).1 k = []) : SeenOk zs (k + 1) := by unfold SeenOk; rw [upTo_none hw]; exact h
theorem SeenOk.some_ {zs : List Int} {k : Nat} {c : List Int} (h : SeenOk zs k) (hw : walk zs 65 (upTo zs k).1 k = c) (hc : c ≠ []) (hfr : c.length + free zs.length ((upTo zs k).1 ++ c) ≤ free zs.length (upTo zs k).1) : SeenOk zs (k + 1) := by
  obtain ⟨h1, h2, h3⟩ := h
  unfold SeenOk
  rw [upTo_some (by rw [hw]; exact hc), hw]
  refine ⟨?_, ?_, ?_⟩
  · simp only [List.length_append]; omega
  · simp only [List.map_append, List.map_cons, List.map_nil, List.sum_append, List.sum_cons, List.sum_nil, List.length_append]; omega
  · intro d hd
    rcases List.mem_append.1 hd with hd | hd
    · exact h3 d hd
    · rw [List.mem_singleton] at hd; subst hd
      cases d with
      | nil => exact absurd rfl hc
      | cons a l => simp

example : cycs [1, 2, 0, 4, 3] = [[0, 1, 2], [3, 4]] := by decide
end Go.Proofs.YtpchomhfpfpckaaDoor
