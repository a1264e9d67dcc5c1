/- cayleylaw02.WordCyclic. -/
import Derived.Test.YtbcjabmgiodfiabDoorWSums
import Derived.Test.YtbcjabmgiodfiabDoorWCuts
namespace Go.Proofs.YtbcjabmgiodfiabDoor
open Go Go.RowKit

/-- 'x[k:]', 'x[:k]' of a slice that came from a call. -/
theorem cutI_suf {w : World} {B : Nat} {A : Option Addr} {c : Nat} {l : List Int} (h : Ints w B (.slice A l.length c) l) (hc : l.length ≤ c) {k : Nat} (hk : k < l.length) :
    ∃ A' n c', (∀ W, (Instr.slice 24 (.slice A l.length c) (some (.int .i64 (k : Int))) none none).run Tryd.prog W = .ok (.slice A' n c') W) ∧ Ints w B (.slice A' n c') (l.drop k) := by
  obtain ⟨i0, hi, hz0, hz1, hz2⟩ := info_parts info3'
  obtain ⟨A', c', e, h⟩ := h
  injection e with e1 _ e3
  subst e1; subst e3
  obtain ⟨b, o, rfl, hb, hcell⟩ := h (by omega)
  refine ⟨some ⟨b, o + k, none⟩, (l.drop k).length, c - k, fun W => ?_, ⟨_, _, rfl, fun h0 => ⟨b, o + k, rfl, hb, fun j hj => ?_⟩⟩⟩
  · rw [run_slice_l W 24 (some ⟨b, o, none⟩) l.length c (by kernel_rfl) .i64 k (by omega) (by omega)]
    have : (sizeOf (Tryd.prog.elem 24)).run Tryd.prog W = .ok 1 W := by
      have e : Tryd.prog.elem 24 = 3 := by kernel_rfl
      rw [e]; simp [sizeOf, typeInfo, hi, hz1]
    rw [this, Int.toNat_natCast]
    show Result.ok (sliced (some ⟨b, o, none⟩) k l.length c 1) W = _
    unfold sliced
    rw [if_neg (by omega), addr_map _ k b o rfl, List.length_drop]
  · rw [List.length_drop] at hj
    rw [Nat.add_assoc, hcell (k + j) (by omega), getD_drop]
theorem cutI_pre {w : World} {B : Nat} {A : Option Addr} {c : Nat} {l : List Int} (h : Ints w B (.slice A l.length c) l) (hc : l.length ≤ c) {k : Nat} (hk : k < l.length) :
    ∃ A' n c', (∀ W, (Instr.slice 24 (.slice A l.length c) none (some (.int .i64 (k : Int))) none).run Tryd.prog W = .ok (.slice A' n c') W) ∧ Ints w B (.slice A' n c') (l.take k) := by
  obtain ⟨i0, hi, hz0, hz1, hz2⟩ := info_parts info3'
  obtain ⟨A', c', e, h⟩ := h
  injection e with e1 _ e3
  subst e1; subst e3
  obtain ⟨b, o, rfl, hb, hcell⟩ := h (by omega)
  have hlen : (l.take k).length = k := by simp; omega
  refine ⟨some ⟨b, o, none⟩, (l.take k).length, c, fun W => ?_, ⟨_, _, rfl, fun h0 => ⟨b, o, rfl, hb, fun j hj => ?_⟩⟩⟩
  · rw [run_slice_h W 24 (some ⟨b, o, none⟩) l.length c (by kernel_rfl) .i64 k (by omega) (by omega)]
    have : (sizeOf (Tryd.prog.elem 24)).run Tryd.prog W = .ok 1 W := by
      have e : Tryd.prog.elem 24 = 3 := by kernel_rfl
      rw [e]; simp [sizeOf, typeInfo, hi, hz1]
    rw [this, Int.toNat_natCast]
    show Result.ok (sliced (some ⟨b, o, none⟩) 0 k c 1) W = _
    unfold sliced
    rw [if_neg (by omega), addr_map _ 0 b o rfl, hlen]
    rfl
  · rw [hlen] at hj
    rw [hcell j (by omega), getD_take hj]

/-- Is y found among the turns of x up to the k-th? -/
def fnd (x y : List Int) (k : Nat) : Bool := ((x.length : Int) == 0) || (List.range k).any fun i => sameB (x.drop i ++ x.take i) y
theorem fnd_succ (x y : List Int) (k : Nat) : fnd x y (k + 1) = (fnd x y k || sameB (x.drop k ++ x.take k) y) := by
  simp [fnd, List.range_succ, Bool.or_assoc]
theorem fnd_zero (x y : List Int) : fnd x y 0 = ((x.length : Int) == 0) := Bool.or_false _
theorem fnd_all {x y : List Int} (h : Rot x y) : fnd x y x.length = true := by
  rcases Nat.eq_zero_or_pos x.length with h0 | h0
  · have e : x = [] := List.length_eq_zero_iff.1 h0
    subst e; rfl
  · obtain ⟨k, hk, e⟩ := h.found h0
    unfold fnd
    rw [Bool.or_eq_true]
    right
    rw [List.any_eq_true]
    exact ⟨k, List.mem_range.2 hk, sameB_eq e⟩
theorem letL_valid (zs : List Int) : Valid 4 (letL zs) := fun x hx => by
  have := letL_small zs x hx
  omega
theorem Valid.red {g : Nat} {l : List Int} (h : Valid g l) : Valid g (red l) := fun x hx => h x (mem_red hx)
theorem Valid.append {g : Nat} {u v : List Int} (h : Valid g u) (k : Valid g v) : Valid g (u ++ v) := fun x hx => by
  rcases List.mem_append.1 hx with hx | hx
  · exact h x hx
  · exact k x hx
theorem Valid.winv {g : Nat} {l : List Int} (hg : g ≤ 1000) (h : Valid g l) : Valid g (winv l) := fun x hx => by
  simp only [Go.Proofs.YtbcjabmgiodfiabDoor.winv, List.mem_reverse, List.mem_map] at hx
  obtain ⟨y, hy, rfl⟩ := hx
  have := h y hy
  rw [nlet_of (by omega)]
  omega

/-- One statement of the law: found = found || Same(append(Own(x[k:]), x[:k]...), y). -/
theorem sums_mul (a b : List Int) (i : Nat) : sumAt (wmul a b) i = sumAt a i + sumAt b i := by
  unfold wmul
  rw [sum_red, sumAt_append]
theorem sums_conj {a b : List Int} (hb : Lets b) (i : Nat) : sumAt (red (winv b ++ a ++ b)) i = sumAt a i := by
  rw [sum_red, sumAt_append, sumAt_append, sum_winv hb]
  omega
end Go.Proofs.YtbcjabmgiodfiabDoor
