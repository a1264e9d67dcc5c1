/- Slices of slices: v[k:], v[:k]. -/
import Derived.Test.YtaieeljkalciiaaMBase
import Derived.Laws.Slices
namespace Go.Proofs.Ytaieeljkalciiaa
open Go Go.RowKit

theorem addr_map (A : Option Addr) (k : Nat) (b o : Nat) (h : A = some ⟨b, o, none⟩) : A.map (·.add (k * 1)) = some ⟨b, o + k, none⟩ := by
  subst h
  by_cases hk : k = 0
  · subst hk; rfl
  · simp [Addr.add, hk]
theorem size3 (W : World) : (sizeOf (Try.prog.elem 22)).run Try.prog W = .ok 1 W := by
  obtain ⟨i0, hi, hz0, hz1, hz2⟩ := info_parts info3m
  have e : Try.prog.elem 22 = 3 := by kernel_rfl
  rw [e]; simp [sizeOf, typeInfo, hi, hz1]
theorem size27 (W : World) : (sizeOf (Try.prog.elem 29)).run Try.prog W = .ok 1 W := by
  obtain ⟨i0, hi, hz0, hz1, hz2⟩ := info_parts info27m
  have e : Try.prog.elem 29 = 22 := by kernel_rfl
  rw [e]; simp [sizeOf, typeInfo, hi, hz1]
theorem run_cutL (A : Option Addr) (n c k : Nat) (hk : k ≤ n) (hc : n ≤ c) : ∃ A', (∀ W, (Instr.slice 22 (.slice A n c) (some (.int .i64 (k : Int))) none none).run Try.prog W = .ok (.slice A' (n - k) (c - k)) W) ∧ (k < n → A' = A.map (·.add (k * 1))) := by
  refine ⟨if c = k then A else A.map (·.add (k * 1)), fun W => ?_, fun h => if_neg (by omega)⟩
  rw [run_slice_l W 22 A n c (by kernel_rfl) .i64 k (by omega) (by omega), size3, Int.toNat_natCast]; rfl
theorem run_cutLG (A : Option Addr) (n c k : Nat) (hk : k ≤ n) (hc : n ≤ c) : ∃ A', (∀ W, (Instr.slice 29 (.slice A n c) (some (.int .i64 (k : Int))) none none).run Try.prog W = .ok (.slice A' (n - k) (c - k)) W) ∧ (k < n → A' = A.map (·.add (k * 1))) := by
  refine ⟨if c = k then A else A.map (·.add (k * 1)), fun W => ?_, fun h => if_neg (by omega)⟩
  rw [run_slice_l W 29 A n c (by kernel_rfl) .i64 k (by omega) (by omega), size27, Int.toNat_natCast]; rfl
theorem run_cutH (A : Option Addr) (n c k : Nat) (hk : k ≤ n) (hc : n ≤ c) : ∃ A', (∀ W, (Instr.slice 22 (.slice A n c) none (some (.int .i64 (k : Int))) none).run Try.prog W = .ok (.slice A' k c) W) ∧ (0 < k → A' = A.map (·.add (0 * 1))) := by
  refine ⟨if c = 0 then A else A.map (·.add (0 * 1)), fun W => ?_, fun h => if_neg (by omega)⟩
  rw [run_slice_h W 22 A n c (by kernel_rfl) .i64 k (by omega) (by omega), size3, Int.toNat_natCast]; rfl
theorem run_cutHG (A : Option Addr) (n c k : Nat) (hk : k ≤ n) (hc : n ≤ c) : ∃ A', (∀ W, (Instr.slice 29 (.slice A n c) none (some (.int .i64 (k : Int))) none).run Try.prog W = .ok (.slice A' k c) W) ∧ (0 < k → A' = A.map (·.add (0 * 1))) := by
  refine ⟨if c = 0 then A else A.map (·.add (0 * 1)), fun W => ?_, fun h => if_neg (by omega)⟩
  rw [run_slice_h W 29 A n c (by kernel_rfl) .i64 k (by omega) (by omega), size27, Int.toNat_natCast]; rfl

/-- 'v[k:]' of ints. -/
theorem cut_suf {w : World} {S : Nat → Prop} {A : Option Addr} {n c : Nat} {f : Nat → Int} (h : Vec w S (.slice A n c) n f) {k : Nat} (hk : k ≤ n) :
    ∃ A', (∀ W, (Instr.slice 22 (.slice A n c) (some (.int .i64 (k : Int))) none none).run Try.prog W = .ok (.slice A' (n - k) (c - k)) W) ∧ Vec w S (.slice A' (n - k) (c - k)) (n - k) (fun j => f (k + j)) := by
  obtain ⟨A0, c0, e, hc, hv⟩ := h
  injection e with e1 _ e3
  subst e1; subst e3
  obtain ⟨A', h1, h2⟩ := run_cutL A n c k hk hc
  refine ⟨A', h1, A', c - k, rfl, by omega, fun h0 => ?_⟩
  obtain ⟨b, o, e, hb, hcc⟩ := hv (by omega)
  exact ⟨b, o + k, by rw [h2 (by omega), addr_map A k b o e], hb, fun j hj => by rw [Nat.add_assoc]; exact hcc (k + j) (by omega)⟩
/-- 'v[:k]' of ints. -/
theorem cut_pre {w : World} {S : Nat → Prop} {A : Option Addr} {n c : Nat} {f : Nat → Int} (h : Vec w S (.slice A n c) n f) {k : Nat} (hk : k ≤ n) :
    ∃ A', (∀ W, (Instr.slice 22 (.slice A n c) none (some (.int .i64 (k : Int))) none).run Try.prog W = .ok (.slice A' k c) W) ∧ Vec w S (.slice A' k c) k f := by
  obtain ⟨A0, c0, e, hc, hv⟩ := h
  injection e with e1 _ e3
  subst e1; subst e3
  obtain ⟨A', h1, h2⟩ := run_cutH A n c k hk hc
  refine ⟨A', h1, A', c, rfl, by omega, fun h0 => ?_⟩
  obtain ⟨b, o, e, hb, hcc⟩ := hv (by omega)
  exact ⟨b, o + 0, by rw [h2 h0, addr_map A 0 b o e], hb, fun j hj => hcc j (by omega)⟩
/-- 'v[k:]' of rows. -/
theorem cut_sufG {w : World} {S : Nat → Prop} {A : Option Addr} {m c : Nat} {n : Nat → Nat} {f : Nat → Nat → Int} (h : Grid w S (.slice A m c) m n f) {k : Nat} (hk : k ≤ m) :
    ∃ A', (∀ W, (Instr.slice 29 (.slice A m c) (some (.int .i64 (k : Int))) none none).run Try.prog W = .ok (.slice A' (m - k) (c - k)) W) ∧ Grid w S (.slice A' (m - k) (c - k)) (m - k) (fun i => n (k + i)) (fun i => f (k + i)) := by
  obtain ⟨A0, c0, e, hc, hv⟩ := h
  injection e with e1 _ e3
  subst e1; subst e3
  obtain ⟨A', h1, h2⟩ := run_cutLG A m c k hk hc
  refine ⟨A', h1, A', c - k, rfl, by omega, fun h0 => ?_⟩
  obtain ⟨b, o, e, hb, hcc⟩ := hv (by omega)
  exact ⟨b, o + k, by rw [h2 (by omega), addr_map A k b o e], hb, fun j hj => by rw [Nat.add_assoc]; exact hcc (k + j) (by omega)⟩
/-- 'v[:k]' of rows. -/
theorem cut_preG {w : World} {S : Nat → Prop} {A : Option Addr} {m c : Nat} {n : Nat → Nat} {f : Nat → Nat → Int} (h : Grid w S (.slice A m c) m n f) {k : Nat} (hk : k ≤ m) :
    ∃ A', (∀ W, (Instr.slice 29 (.slice A m c) none (some (.int .i64 (k : Int))) none).run Try.prog W = .ok (.slice A' k c) W) ∧ Grid w S (.slice A' k c) k n f := by
  obtain ⟨A0, c0, e, hc, hv⟩ := h
  injection e with e1 _ e3
  subst e1; subst e3
  obtain ⟨A', h1, h2⟩ := run_cutHG A m c k hk hc
  refine ⟨A', h1, A', c, rfl, by omega, fun h0 => ?_⟩
  obtain ⟨b, o, e, hb, hcc⟩ := hv (by omega)
  exact ⟨b, o + 0, by rw [h2 h0, addr_map A 0 b o e], hb, fun j hj => hcc j (by omega)⟩
end Go.Proofs.Ytaieeljkalciiaa
