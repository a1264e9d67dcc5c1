/- word.Sums for every word and every number of generators, and the reference's. -/
import Derived.Test.YtlpepholcehojaaDoorWPowG
import Derived.Test.YtlpepholcehojaaDoorWChk
namespace Go.Proofs.YtlpepholcehojaaDoor
open Go Go.RowKit

/-- What a letter adds to the sum of the generator i. -/
def cntG (x : Int) (i : Nat) : Int := if x = (i : Int) + 1 then 1 else if x = -((i : Int) + 1) then -1 else 0
def sumG (zs : List Int) (i : Nat) : Int := (zs.map (cntG · i)).sum
theorem sumG_snoc (u : List Int) (x : Int) (i : Nat) : sumG (u ++ [x]) i = sumG u i + cntG x i := by simp [sumG]
theorem cntG_bound (x : Int) (i : Nat) : -1 ≤ cntG x i ∧ cntG x i ≤ 1 := by unfold cntG; split <;> (try split) <;> omega
theorem sumG_bound (zs : List Int) (i : Nat) : -(zs.length : Int) ≤ sumG zs i ∧ sumG zs i ≤ zs.length := by
  induction zs with
  | nil => simp [sumG]
  | cons x zs ih =>
    have h := cntG_bound x i
    simp only [sumG, List.map_cons, List.sum_cons, List.length_cons] at ih ⊢
    omega
theorem sumG_set (G : Nat) (u : List Int) (x : Int) {d : Nat} (h : x = (d : Int) + 1 ∨ x = -((d : Int) + 1)) :
    (Tab G (sumG u)).setIfInBounds d (.int .i64 (sumG u d + cntG x d)) = Tab G (sumG (u ++ [x])) := by
  rw [Tab_set]
  refine Tab_congr _ _ _ fun j _ => ?_
  rw [sumG_snoc]
  by_cases e : j = d
  · subst e; rw [if_pos rfl]
  · have : cntG x j = 0 := by unfold cntG; rw [if_neg (by omega), if_neg (by omega)]
    rw [if_neg e, this, Int.add_zero]
def sumS (g : Int) (zs : List Int) : List Int := if chkW g zs = 0 then (List.range g.toNat).map (sumG zs) else []
theorem sumS_len (g : Int) (zs : List Int) : (sumS g zs).length ≤ 16 := by
  unfold sumS
  by_cases h : chkW g zs = 0
  · rw [if_pos h, List.length_map, List.length_range]
    unfold chkW at h
    by_cases h1 : g < 1 ∨ 16 < g
    · rw [if_pos h1] at h; omega
    · omega
  · rw [if_neg h]; simp
theorem chkW_zero {g : Int} {zs : List Int} (h : chkW g zs = 0) : ∃ G : Nat, g = G ∧ 1 ≤ G ∧ G ≤ 16 ∧ zs.length ≤ 4000 ∧ ∀ j, j < zs.length → zs.getD j 0 ≠ 0 ∧ (zs.getD j 0).natAbs ≤ G := by
  unfold chkW at h
  by_cases h1 : g < 1 ∨ 16 < g
  · rw [if_pos h1] at h; omega
  · rw [if_neg h1] at h
    by_cases h2 : 4000 < zs.length
    · rw [if_pos h2] at h; omega
    · rw [if_neg h2] at h
      refine ⟨g.toNat, by omega, by omega, by omega, by omega, fun j hj => ?_⟩
      have hk : okW g.toNat zs = true := by
        cases hb : okW g.toNat zs with
        | true => rfl
        | false => rw [hb] at h; simp at h
      unfold okW at hk
      rw [List.all_eq_true] at hk
      have e : zs.getD j 0 = zs[j] := by simp [List.getD_eq_getElem?_getD, hj]
      rw [e]
      exact of_decide_eq_true (hk zs[j] (List.getElem_mem hj))
theorem make_sumsG (n : Nat) (hn : n ≤ 1000) (W : World) : (Instr.makeSlice 22 (.int .i64 (n : Int)) (.int .i64 (n : Int))).run Tryd.prog W = .ok (.slice (some ⟨W.heap.size, 0, none⟩) n n) (W.alloc (.cells (Tab n fun _ => 0) 3)) := by
  obtain ⟨i0, hi, hz0, hz1, hz2⟩ := info_parts info3'
  have h := run_make (P := Tryd.prog) W 22 3 i0 (.int .i64 0) (by kernel_rfl) hi hz0 .i64 .i64 (n : Int) (n : Int) (by omega) (by omega) (by rw [hz2]; omega) (by omega)
  rw [h, hz1, Nat.mul_one, Int.toNat_natCast, madeCells_int]

end Go.Proofs.YtlpepholcehojaaDoor