/- Cyclic of any word, the code's and the reference's (seat ZD alone). -/
import Derived.Test.YtlpepholcehojaaDoorWRefC
import Derived.Test.YtlpepholcehojaaDoorWOwn
import Derived.Test.YtlpepholcehojaaDoorWEndsMath
namespace Go.Proofs.YtlpepholcehojaaDoor
open Go Go.RowKit

theorem no_pair' {l : List Int} (h : Red l) {j : Nat} (hj : j + 1 < l.length) : canc (l.getD j 0) (l.getD (j + 1) 0) = false := by
  have e1 : l = l.take j ++ l[j] :: l[j + 1] :: l.drop (j + 2) := by
    conv => lhs; rw [← List.take_append_drop j l, List.drop_eq_getElem_cons (show j < l.length by omega), List.drop_eq_getElem_cons (show j + 1 < l.length by omega)]
  have hc : canc l[j] l[j + 1] = false := by rw [e1] at h; exact h.mid
  simpa [List.getD_eq_getElem?_getD, List.getElem?_eq_getElem (show j < l.length by omega), List.getElem?_eq_getElem hj] using hc
theorem ends_short' {l : List Int} {k : Nat} (hr : Red l) (h0 : 0 < l.length) (h : EndsAt l k) : 2 * k < l.length := by
  obtain ⟨h1, h2, h3⟩ := h
  apply Nat.lt_of_not_le
  intro hc
  obtain ⟨j, hj | hj⟩ : ∃ j, l.length = 2 * j ∨ l.length = 2 * j + 1 := ⟨l.length / 2, by omega⟩
  · have := h2 (j - 1) (by omega)
    unfold pairAt at this
    rw [show l.length - 1 - (j - 1) = (j - 1) + 1 by omega, canc_comm, no_pair' hr (by omega)] at this
    cases this
  · have := h2 j (by omega)
    unfold pairAt at this
    rw [show l.length - 1 - j = j by omega, canc_self] at this
    cases this
theorem ends_one {l : List Int} {k k' : Nat} (h : EndsAt l k) (h' : EndsAt l k') : k = k' := by
  obtain ⟨a1, a2, a3⟩ := h
  obtain ⟨b1, b2, b3⟩ := h'
  rcases Nat.lt_trichotomy k k' with c | c | c
  · have x := a3 (by omega)
    rw [b2 k c] at x
    cases x
  · exact c
  · have x := b3 (by omega)
    rw [a2 k' c] at x
    cases x
/-- The reference's loop has found the ends. -/
theorem ends_of {l : List Int} {k : Nat} (hr : Red l) (h1 : 2 * k ≤ l.length) (h2 : ∀ j, j < k → pairAt l j = true) (h3 : l.length - 2 * k ≤ 1 ∨ pairAt l k = false) : EndsAt l k := by
  refine ⟨by omega, h2, fun hk => ?_⟩
  rcases h3 with h3 | h3
  · by_cases he : l.length = 2 * k
    · exfalso
      have := h2 (k - 1) (by omega)
      unfold pairAt at this
      rw [show l.length - 1 - (k - 1) = (k - 1) + 1 by omega, canc_comm, no_pair' hr (by omega)] at this
      cases this
    · unfold pairAt
      rw [show l.length - 1 - k = k by omega]
      exact canc_self _
  · exact h3
theorem midW_zero (l : List Int) : midW l 0 = l := by simp [midW]
theorem midW_len (l : List Int) {k : Nat} (h : 2 * k ≤ l.length) : (midW l k).length = l.length - 2 * k := by simp [midW]; omega
theorem midW_step {l : List Int} {k : Nat} (h : 2 * k + 1 < l.length) : midW (midW l k) 1 = midW l (k + 1) := by
  have e1 := midW_len l (k := k) (by omega)
  have e2 := midW_len l (k := k + 1) (by omega)
  have e3 := midW_len (midW l k) (k := 1) (by omega)
  refine ext_getD (by omega) fun i hi => ?_
  rw [midW_get (by omega), midW_get (by omega), midW_get (by omega)]
  congr 1
  omega

def lenW : Value → Nat | .slice _ n _ => n | _ => 0
theorem OwnsI.capLe {w : World} {B n c : Nat} {A : Option Addr} {l : List Int} (h : OwnsI w B (.slice A n c) l) : l.length ≤ c := by
  rcases h.2 with ⟨e, h0⟩ | ⟨g, cap, cur, e, hb, hg, hnc, _⟩
  · omega
  · injection e with _ _ e3
    omega
/-- 'v[1:len(v)-1]'. -/
theorem cut_mid1 {w : World} {B : Nat} {A : Option Addr} {c : Nat} {l : List Int} (h : Ints w B (.slice A l.length c) l) (hc : l.length ≤ c) (h1 : 1 < l.length) :
    ∃ A' c', (∀ W, (Instr.slice 24 (.slice A l.length c) (some (.int .i64 1)) (some (.int .i64 ((l.length - 1 : Nat) : Int))) none).run Tryd.prog W = .ok (.slice A' (midW l 1).length c') W) ∧ (midW l 1).length ≤ c' ∧ Ints w B (.slice A' (midW l 1).length c') (midW l 1) := by
  obtain ⟨i0, hi, hz0, hz1, hz2⟩ := info_parts info3'
  have hlen := midW_len l (k := 1) (by omega)
  obtain ⟨A', c', e, h⟩ := h
  injection e with e1 _ e3
  subst e1; subst e3
  obtain ⟨b, o, rfl, hb, hcell⟩ := h (by omega)
  refine ⟨some ⟨b, o + 1, none⟩, c - 1, fun W => ?_, by omega, ?_⟩
  · rw [run_slice_lh W 24 (some ⟨b, o, none⟩) l.length c (by kernel_rfl) .i64 .i64 1 ((l.length - 1 : Nat) : Int) (by omega) (by omega) (by omega)]
    have : (sizeOf (Tryd.prog.elem 24)).run Tryd.prog W = .ok 1 W := by
      have e : Tryd.prog.elem 24 = 3 := by kernel_rfl
      rw [e]; simp [sizeOf, typeInfo, hi, hz1]
    rw [this, Int.toNat_natCast, show ((1 : Int)).toNat = 1 by rfl]
    show Result.ok (sliced (some ⟨b, o, none⟩) 1 (l.length - 1) c 1) W = _
    unfold sliced
    rw [if_neg (by omega), addr_map _ 1 b o rfl, hlen, Nat.sub_sub]
  · refine ⟨_, _, rfl, fun _ => ⟨b, o + 1, rfl, hb, fun j hj => ?_⟩⟩
    rw [hlen] at hj
    rw [Nat.add_assoc, hcell (1 + j) (by omega), midW_get (by omega)]

/-- 'v[k:len(v)-k]', k the ends. -/
theorem cut_ends' {w : World} {B : Nat} {A : Option Addr} {cap : Nat} {l : List Int} (h : OwnsI w B (.slice A l.length cap) l) {k : Nat} (hr : Red l) (hE : EndsAt l k) :
    ∃ A' c, (∀ W, (Instr.slice 24 (.slice A l.length cap) (some (.int .i64 (k : Int))) (some (.int .i64 ((l.length - k : Nat) : Int))) none).run Tryd.prog W = .ok (.slice A' (midW l k).length c) W) ∧ (midW l k).length ≤ c ∧ Ints w w.heap.size (.slice A' (midW l k).length c) (midW l k) := by
  obtain ⟨i0, hi, hz0, hz1, hz2⟩ := info_parts info3'
  have hsz : ∀ W, (sizeOf (Tryd.prog.elem 24)).run Tryd.prog W = .ok 1 W := fun W => by
    have e : Tryd.prog.elem 24 = 3 := by kernel_rfl
    rw [e]; simp [sizeOf, typeInfo, hi, hz1]
  by_cases h0 : l.length = 0
  · have hk : k = 0 := by have := hE.1; omega
    have e : l = [] := List.length_eq_zero_iff.1 h0
    subst e hk
    have hm : midW [] 0 = [] := rfl
    rw [hm]
    refine ⟨if cap = 0 then A else A.map (·.add (0 * 1)), cap, fun W => ?_, Nat.zero_le _, ⟨_, cap, rfl, fun h => absurd h (by simp)⟩⟩
    rw [run_slice_lh W 24 A ([] : List Int).length cap (by kernel_rfl) .i64 .i64 ((0 : Nat) : Int) (((([] : List Int).length - 0 : Nat)) : Int) (by omega) (by simp) (by simp)]
    rw [hsz]
    rfl
  · have hsh := ends_short' hr (by omega) hE
    have hlen := midW_length l hsh
    obtain ⟨g, cap', e, hb, hg, hcap, hcell⟩ := h.form (by omega)
    injection e with e1 _ e3
    subst e1; subst e3
    refine ⟨some ⟨g, k, none⟩, cap - k, fun W => ?_, by omega, ?_⟩
    · rw [run_slice_lh W 24 (some ⟨g, 0, none⟩) l.length cap (by kernel_rfl) .i64 .i64 k ((l.length - k : Nat) : Int) (by omega) (by omega) (by omega)]
      rw [hsz, Int.toNat_natCast, Int.toNat_natCast]
      show Result.ok (sliced (some ⟨g, 0, none⟩) k (l.length - k) cap 1) W = _
      unfold sliced
      rw [if_neg (by omega), addr_map _ k g 0 rfl, Nat.zero_add, hlen, show l.length - k - k = l.length - 2 * k by omega]
    · refine ⟨_, _, rfl, fun _ => ⟨g, k, rfl, hg, fun j hj => ?_⟩⟩
      rw [hlen] at hj
      rw [hcell (k + j) (by omega), midW_get (by omega)]

/-- A call has given a list that can be read. -/
def GivesR (w : World) (l : List Int) (e : Ending) (w' : World) : Prop := ∃ r, e = .returned r ∧ Ints w' w'.heap.size r l ∧ Below w.heap.size w w'
/-- The cyclically reduced form. -/
def IsCyc (zs l : List Int) : Prop := ∃ k, EndsAt (red zs) k ∧ l = midW (red zs) k
theorem IsCyc.one {zs l l' : List Int} (h : IsCyc zs l) (h' : IsCyc zs l') : l = l' := by
  obtain ⟨k, a, rfl⟩ := h
  obtain ⟨k', b, rfl⟩ := h'
  rw [ends_one a b]

end Go.Proofs.YtlpepholcehojaaDoor