/- MatrixValues: whatever the matrix and the exponent, the law returns true (Det, Trace, Poly, Inv and Pow return what the document defines) and turns nothing that lay in memory.
   Conditions: none beyond the row's own. -/
import Derived.Test.YtokiejichnnmnaaMValsA
import Derived.Test.YtokiejichnnmnaaMCard2
import Derived.Test.YtokiejichnnmnaaRows
import Derived.WalkKit
import Derived.ProofKit
import Derived.OpenShut
import Derived.ChangeOld
namespace Go.Proofs.Ytokiejichnnmnaa.matrixValues
open Go Go.ChangeShapes Go.WideShapes Go.ChangeAt Go.RowKit

theorem own : ownKnob Try.prog.godebug = none := by kernel_rfl
theorem laidOut : laidOutB Try.prog = true := by kernel_rfl

set_option maxRecDepth 100000 in
theorem lifted (os : Os) (started : os.Started) (H : Type) (enc : TypeId × Value → H) :
    ReturnsInHanded {} Try.checked os 11 .any (Rows.matrixValuesSpec.pre6 enc Try.prog Try.f11 Rows.matrixValuesRow.domain false) (Rows.matrixValuesSpec.post enc Try.prog Try.f11 false true false false) := by
  refine returnsInHanded_of_change (C := Try.checked) own started (by kernel_rfl) Try.func11
    (ChangeSpec.witness6 (enc := enc) (C := Try.checked) false ⟨#[], #[.agg #[.int .i64 0, .slice none 0 0], .int .i64 0], []⟩ 8 (by kernel_rfl) (by kernel_rfl) (by kernel_rfl) (by kernel_rfl)) ?_
  intro W base args ds gs before hval0 hW hcnd _
  have hval : ∀ (j : Nat) t v, Try.f11.params[j]? = some t → args[j]? = some v → Value.okWide Try.prog W .any base t v := hval0
  have hW' := hW
  obtain ⟨p, q, hA0, hV, rfl, hfz, hnd⟩ := hW
  have hA : DataW.TrodAll enc Try.prog W 0 (fun _ => true) true Try.f11.params.toList args.toList ds p := hA0
  rw [Try.params11] at hA hval
  obtain ⟨v0, vs0, d0, ds0, p0, q0, hargs, rfl, rfl, h0, r0⟩ := trodAll_cons hA
  obtain ⟨v1, vs1, d1, ds1, p1, q1, rfl, rfl, rfl, h1, r1⟩ := trodAll_cons r0
  obtain ⟨rfl, rfl, rfl⟩ := trodAll_nil r1
  obtain rfl : args = #[v0, v1] := by cases args; simp_all
  obtain ⟨rfl, rfl⟩ := trodVars_none hV
  have k0 := h0
  have lt0 : ∀ x ∈ p0, x.block < W.heap.size := by obtain ⟨m, hm⟩ := k0; exact DataW.trod_lt m _ _ _ hm
  obtain ⟨u0, t0, y00, y10, fu0, rfl, _, _, i00, i10⟩ := Go.Joins.open_agg2 Try.underlying61 (by kernel_rfl) (by kernel_rfl) (hval 0 61 v0 rfl rfl) h0
  obtain ⟨pz0, e00, _, _⟩ := DataW.trod_int Try.underlying3 i00
  obtain rfl : u0 = .int .i64 pz0 := by simpa using e00
  obtain ⟨ag0, len0, cap0, na0, fa0, rfl, hg0, hl0, hn0⟩ : ∃ A len cap n f, t0 = .slice A len cap ∧ Grid W (· < W.heap.size) (.slice A len cap) len n f ∧ len ≤ 9223372036854775807 ∧ ∀ i, i < len → n i ≤ 9223372036854775807 := by
    rcases Go.Deep.open_int_rows Try.underlying37 Try.underlying28 Try.underlying3 (by kernel_rfl) (by kernel_rfl) i10 with ⟨hcs, _⟩ | ⟨a, len, cap, A, L, C, Z, hcs, _, hlc, hcm, _, hr⟩
    · obtain rfl : t0 = .slice none 0 0 := by simpa using hcs
      exact ⟨none, 0, 0, fun _ => 0, fun _ _ => 0, rfl, ⟨none, 0, rfl, Nat.le_refl _, fun h => absurd h (by omega)⟩, by omega, fun i hi => absurd hi (by omega)⟩
    · obtain rfl : t0 = .slice (some a) len cap := by simpa using hcs
      have hmx : maxLen = 9223372036854775807 := by decide
      rw [hmx] at hcm
      refine ⟨some a, len, cap, L, _, rfl, grid_in (C := C) (A := A) (Z := Z) hlc (fun r hr' => ?_), by omega, fun i hi => ?_⟩
      · obtain ⟨q1, q2, q3, q4, q5, q6, q7⟩ := hr r hr'
        exact ⟨q1, q2, q4, q6, fun a' ha' c hc => (q7 a' ha').2 c hc⟩
      · obtain ⟨q1, q2, q3, _⟩ := hr i (by omega)
        rw [hmx] at q3
        omega
  obtain ⟨n1, rfl, rfl, rfl, w1⟩ := open_int Try.underlying3 (hval 1 3 v1 rfl rfl) h1
  have hw1 : -9223372036854775808 ≤ n1 ∧ n1 ≤ 9223372036854775807 := by
    have w9 := w1
    have e1 : IntKind.i64.min = -9223372036854775808 := by decide
    have e2 : IntKind.i64.max = 9223372036854775807 := by decide
    simp [Lit.wf] at w9
    omega
  clear hA0 hval0
  simp only [List.append_nil] at hW'
  refine (matrixValues_main ag0 len0 cap0 na0 fa0 pz0 n1 W hw1.1 hw1.2 hl0 hn0 hg0).mono fun e W' ⟨he, bel⟩ => ?_
  subst he
  exact ⟨_, rfl, _, _, _, [], _, [], hW', trodAll_cons_mk (shut_bool Try.underlying4 _) trodAll_mk0, (trodAll_cons_mk (Below.trod laidOut (by kernel_rfl) (of_decide_eq_true (by kernel_rfl)) k0 bel lt0) (trodAll_cons_mk (shut_int Try.underlying3 w1) trodAll_mk0)), rfl, bel.frame _, fun h => by cases h⟩

theorem over : Rows.matrixValuesRow.holds Try.pinned (OpenSpec.ofChange Rows.matrixValuesSpec) :=
  OpenClaim.holds_of_wide 11 Try.f11 rfl rfl rfl rfl rfl rfl rfl ⟨rfl, rfl, rfl, rfl, rfl⟩ rfl rfl rfl rfl rfl (by kernel_rfl) Try.func11 (by kernel_rfl)
    (of_decide_eq_true (by kernel_rfl)) (by unfold Func.isWrapper; first | (rw [if_pos (by decide +kernel)]; kernel_rfl) | (rw [if_neg (by decide +kernel)]; exact ⟨rfl, rfl⟩))
    (fun os started H enc _ => lifted os started H enc)

/-- The statement. -/
theorem proved : Rows.MatrixValuesSaid :=
  over
#print axioms proved
end Go.Proofs.Ytokiejichnnmnaa.matrixValues
