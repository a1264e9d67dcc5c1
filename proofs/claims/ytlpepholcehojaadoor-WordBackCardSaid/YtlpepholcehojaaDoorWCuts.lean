/- Slices of slices, and the mathematics of WordUnique. -/
import Derived.Test.YtlpepholcehojaaDoorWReads
import Derived.Laws.Slices
namespace Go.Proofs.YtlpepholcehojaaDoor
open Go Go.RowKit

theorem addr_map (A : Option Addr) (k : Nat) (b o : Nat) (h : A = some ⟨b, o, none⟩) : A.map (·.add (k * 1)) = some ⟨b, o + k, none⟩ := by
  subst h
  by_cases hk : k = 0
  · subst hk; rfl
  · simp [Addr.add, hk]

theorem getD_take {l : List Int} {k j : Nat} (hj : j < k) : (l.take k).getD j 0 = l.getD j 0 := by
  simp [List.getD_eq_getElem?_getD, hj]
theorem getD_drop (l : List Int) (k j : Nat) : (l.drop k).getD j 0 = l.getD (k + j) 0 := by
  simp [List.getD_eq_getElem?_getD]

/-- 'v[:k]'. -/
theorem cut_pre {w : World} {B : Nat} {v : Value} {l : List Int} (h : OwnsI w B v l) {k : Nat} (hk : k ≤ l.length) :
    ∃ v', (∀ W, (Instr.slice 24 v none (some (.int .i64 (k : Int))) none).run Tryd.prog W = .ok v' W) ∧ Ints w w.heap.size v' (l.take k) := by
  obtain ⟨i0, hi, hz0, hz1, hz2⟩ := info_parts info3'
  have hlen : (l.take k).length = k := by simp; omega
  rcases Nat.eq_zero_or_pos l.length with h0 | h0
  · obtain ⟨A, cap, rfl⟩ := h.len
    have hk0 : k = 0 := by omega
    subst hk0
    refine ⟨sliced A 0 0 cap 1, fun W => ?_, ?_⟩
    · rw [run_slice_h W 24 A l.length cap (by kernel_rfl) .i64 ((0 : Nat) : Int) (by omega) (by omega)]
      have : (sizeOf (Tryd.prog.elem 24)).run Tryd.prog W = .ok 1 W := by
        have e : Tryd.prog.elem 24 = 3 := by kernel_rfl
        rw [e]; simp [sizeOf, typeInfo, hi, hz1]
      rw [this]; rfl
    · exact ⟨_, cap, rfl, fun h => absurd h (by simp)⟩
  · obtain ⟨g, cap, rfl, hb, hg, hcap, hcell⟩ := h.form h0
    refine ⟨sliced (some ⟨g, 0, none⟩) 0 k cap 1, fun W => ?_, ?_⟩
    · rw [run_slice_h W 24 (some ⟨g, 0, none⟩) l.length cap (by kernel_rfl) .i64 k (by omega) (by omega)]
      have : (sizeOf (Tryd.prog.elem 24)).run Tryd.prog W = .ok 1 W := by
        have e : Tryd.prog.elem 24 = 3 := by kernel_rfl
        rw [e]; simp [sizeOf, typeInfo, hi, hz1]
      rw [this, Int.toNat_natCast]; rfl
    · refine ⟨some ⟨g, 0, none⟩, cap, ?_, fun _ => ⟨g, 0, rfl, hg, fun j hj => ?_⟩⟩
      · rw [hlen]; unfold sliced; rw [if_neg (by omega), addr_map _ 0 g 0 rfl]; rfl
      · rw [hlen] at hj
        rw [Nat.zero_add, hcell j (by omega), getD_take hj]

/-- 'v[k:]'. -/
theorem cut_suf {w : World} {B : Nat} {v : Value} {l : List Int} (h : OwnsI w B v l) {k : Nat} (hk : k ≤ l.length) :
    ∃ v', (∀ W, (Instr.slice 24 v (some (.int .i64 (k : Int))) none none).run Tryd.prog W = .ok v' W) ∧ Ints w w.heap.size v' (l.drop k) := by
  obtain ⟨i0, hi, hz0, hz1, hz2⟩ := info_parts info3'
  have hlen : (l.drop k).length = l.length - k := by simp
  obtain ⟨A, cap, e⟩ := h.len
  refine ⟨sliced A k l.length cap 1, fun W => ?_, ?_⟩
  · rw [e, run_slice_l W 24 A l.length cap (by kernel_rfl) .i64 k (by omega) (by omega)]
    have : (sizeOf (Tryd.prog.elem 24)).run Tryd.prog W = .ok 1 W := by
      have e : Tryd.prog.elem 24 = 3 := by kernel_rfl
      rw [e]; simp [sizeOf, typeInfo, hi, hz1]
    rw [this, Int.toNat_natCast]; rfl
  · refine ⟨_, _, by rw [hlen]; rfl, fun h0 => ?_⟩
    rw [hlen] at h0
    obtain ⟨g, cap', e', hb, hg, hcap, hcell⟩ := h.form (by omega)
    rw [e] at e'
    injection e' with e1 _ e3
    subst e1; subst e3
    refine ⟨g, k, ?_, hg, fun j hj => ?_⟩
    · rw [if_neg (by omega), addr_map _ k g 0 rfl, Nat.zero_add]
    · rw [hlen] at hj
      rw [hcell (k + j) (by omega), getD_drop]

/-- 'u[k:k+1]'. -/
theorem cut_one {w : World} {B : Nat} {A : Option Addr} {c : Nat} {l : List Int} (h : Ints w B (.slice A l.length c) l) (hc : l.length ≤ c) {k : Nat} (hk : k < l.length) :
    ∃ v', (∀ W, (Instr.slice 22 (.slice A l.length c) (some (.int .i64 (k : Int))) (some (.int .i64 ((k : Int) + 1))) none).run Tryd.prog W = .ok v' W) ∧ Ints w B v' [l.getD k 0] := by
  obtain ⟨i0, hi, hz0, hz1, hz2⟩ := info_parts info3'
  obtain ⟨A', c', e, h⟩ := h
  injection e with e1 _ e3
  subst e1; subst e3
  obtain ⟨b, o, rfl, hb, hcell⟩ := h (by omega)
  refine ⟨sliced (some ⟨b, o, none⟩) k (k + 1) c 1, fun W => ?_, ?_⟩
  · rw [run_slice_lh W 22 (some ⟨b, o, none⟩) l.length c (by kernel_rfl) .i64 .i64 k ((k : Int) + 1) (by omega) (by omega) (by omega)]
    have : (sizeOf (Tryd.prog.elem 22)).run Tryd.prog W = .ok 1 W := by
      have e : Tryd.prog.elem 22 = 3 := by kernel_rfl
      rw [e]; simp [sizeOf, typeInfo, hi, hz1]
    rw [this, Int.toNat_natCast, show ((k : Int) + 1).toNat = k + 1 by omega]; rfl
  · refine ⟨some ⟨b, o + k, none⟩, c - k, ?_, fun _ => ⟨b, o + k, rfl, hb, fun j hj => ?_⟩⟩
    · unfold sliced; rw [if_neg (by omega), addr_map _ k b o rfl, Nat.add_sub_cancel_left]; rfl
    · have : j = 0 := by simp at hj; omega
      subst this
      exact hcell k hk

/-- A pair of inverse letters put in. -/
theorem put_in (ws : List Int) (k : Nat) {x : Int} (hx : x ≠ 0) : red (ws.take k ++ [x, -x] ++ ws.drop k) = red ws := by
  have h : sim (ws.take k ++ [x, -x] ++ ws.drop k) (ws.take k ++ [] ++ ws.drop k) :=
    ((sim.refl _).append (sim_pair (by rw [canc_iff]; omega))).append (sim.refl _)
  rw [red_of_sim h]
  simp
theorem put_len (ws : List Int) (k : Nat) (x y : Int) (hk : k ≤ ws.length) : (ws.take k ++ [x, y] ++ ws.drop k).length = ws.length + 2 := by
  simp; omega
theorem put_lets {ws : List Int} (h : Lets ws) (k : Nat) {x : Int} (hx : x ≠ 0 ∧ -4 ≤ x ∧ x ≤ 4) : Lets (ws.take k ++ [x, -x] ++ ws.drop k) := by
  refine Lets.append (Lets.append (fun y hy => h y (List.mem_of_mem_take hy)) (fun y hy => ?_)) (fun y hy => h y (List.mem_of_mem_drop hy))
  simp at hy
  omega

/-- A reduced word has no pair of inverse letters side by side. -/
theorem no_pair {l : List Int} (h : Red l) (hl : Lets l) {j : Nat} (hj : j + 1 < l.length) : ¬ l.getD j 0 = - l.getD (j + 1) 0 := fun e => by
  have e1 : l = l.take j ++ l[j] :: l[j + 1] :: l.drop (j + 2) := by
    conv => lhs; rw [← List.take_append_drop j l, List.drop_eq_getElem_cons (show j < l.length by omega), List.drop_eq_getElem_cons (show j + 1 < l.length by omega)]
  have hc : canc l[j] l[j + 1] = false := by rw [e1] at h; exact h.mid
  have h0 := hl l[j] (List.getElem_mem _)
  simp only [List.getD_eq_getElem?_getD, List.getElem?_eq_getElem (show j < l.length by omega), List.getElem?_eq_getElem (show j + 1 < l.length by omega), Option.getD_some] at e
  have : canc l[j] l[j + 1] = true := by rw [canc_iff]; omega
  rw [hc] at this
  cases this
end Go.Proofs.YtlpepholcehojaaDoor
