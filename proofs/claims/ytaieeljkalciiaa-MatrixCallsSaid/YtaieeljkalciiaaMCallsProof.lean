/- MatrixCalls: whatever the two matrices, the list and the two ints, the law returns true and turns nothing that lay in memory.
   Conditions: none beyond the row's own. -/
import Derived.Test.YtaieeljkalciiaaMCallsLaw
import Derived.Test.YtaieeljkalciiaaMCard2
import Derived.Test.YtaieeljkalciiaaRows
import Derived.WalkKit
import Derived.ProofKit
import Derived.OpenShut
import Derived.ChangeOld
namespace Go.Proofs.Ytaieeljkalciiaa.matrixCalls
open Go Go.ChangeShapes Go.WideShapes Go.ChangeAt Go.RowKit

theorem own : ownKnob Try.prog.godebug = none := by kernel_rfl
theorem laidOut : laidOutB Try.prog = true := by kernel_rfl

set_option maxRecDepth 100000 in
theorem lifted (os : Os) (started : os.Started) (H : Type) (enc : TypeId × Value → H) :
    ReturnsInHanded {} Try.checked os 6 .any (Rows.matrixCallsSpec.pre6 enc Try.prog Try.f6 Rows.matrixCallsRow.domain false) (Rows.matrixCallsSpec.post enc Try.prog Try.f6 false true false false) := by
  refine returnsInHanded_of_change (C := Try.checked) own started (by kernel_rfl) Try.func6
    (ChangeSpec.witness6 (enc := enc) (C := Try.checked) false ⟨#[], #[.agg #[.int .i64 0, .slice none 0 0], .agg #[.int .i64 0, .slice none 0 0], .slice none 0 0, .int .i64 0, .int .i64 0], []⟩ 8 (by kernel_rfl) (by kernel_rfl) (by kernel_rfl) (by kernel_rfl)) ?_
  intro W base args ds gs before hval0 hW hcnd _
  have hval : ∀ (j : Nat) t v, Try.f6.params[j]? = some t → args[j]? = some v → Value.okWide Try.prog W .any base t v := hval0
  have hW' := hW
  obtain ⟨p, q, hA0, hV, rfl, hfz, hnd⟩ := hW
  have hA : DataW.TrodAll enc Try.prog W 0 (fun _ => true) true Try.f6.params.toList args.toList ds p := hA0
  rw [Try.params6] at hA hval
  obtain ⟨v0, vs0, d0, ds0, p0, q0, hargs, rfl, rfl, h0, r0⟩ := trodAll_cons hA
  obtain ⟨v1, vs1, d1, ds1, p1, q1, rfl, rfl, rfl, h1, r1⟩ := trodAll_cons r0
  obtain ⟨v2, vs2, d2, ds2, p2, q2, rfl, rfl, rfl, h2, r2⟩ := trodAll_cons r1
  obtain ⟨v3, vs3, d3, ds3, p3, q3, rfl, rfl, rfl, h3, r3⟩ := trodAll_cons r2
  obtain ⟨v4, vs4, d4, ds4, p4, q4, rfl, rfl, rfl, h4, r4⟩ := trodAll_cons r3
  obtain ⟨rfl, rfl, rfl⟩ := trodAll_nil r4
  obtain rfl : args = #[v0, v1, v2, v3, v4] := by cases args; simp_all
  obtain ⟨rfl, rfl⟩ := trodVars_none hV
  have k0 := h0
  have lt0 : ∀ x ∈ p0, x.block < W.heap.size := by obtain ⟨m, hm⟩ := k0; exact DataW.trod_lt m _ _ _ hm
  obtain ⟨u0, t0, y00, y10, fu0, rfl, _, _, i00, i10⟩ := Go.Joins.open_agg2 Try.underlying46 (by kernel_rfl) (by kernel_rfl) (hval 0 46 v0 rfl rfl) h0
  obtain ⟨pz0, e00, _, _⟩ := DataW.trod_int Try.underlying3 i00
  obtain rfl : u0 = .int .i64 pz0 := by simpa using e00
  obtain ⟨ag0, len0, cap0, na0, fa0, rfl, hg0, hl0, hn0⟩ : ∃ A len cap n f, t0 = .slice A len cap ∧ Grid W (· < W.heap.size) (.slice A len cap) len n f ∧ len ≤ 9223372036854775807 ∧ ∀ i, i < len → n i ≤ 9223372036854775807 := by
    rcases Go.Deep.open_int_rows Try.underlying29 Try.underlying22 Try.underlying3 (by kernel_rfl) (by kernel_rfl) i10 with ⟨hcs, _⟩ | ⟨a, len, cap, A, L, C, Z, hcs, _, hlc, hcm, _, hr⟩
    · obtain rfl : t0 = .slice none 0 0 := by simpa using hcs
      exact ⟨none, 0, 0, fun _ => 0, fun _ _ => 0, rfl, ⟨none, 0, rfl, Nat.le_refl _, fun h => absurd h (by omega)⟩, by omega, fun i hi => absurd hi (by omega)⟩
    · obtain rfl : t0 = .slice (some a) len cap := by simpa using hcs
      have hmx : maxLen = 9223372036854775807 := by decide
      rw [hmx] at hcm
      refine ⟨some a, len, cap, L, _, rfl, grid_in (C := C) (A := A) (Z := Z) hlc (fun r hr' => ?_), by omega, fun i hi => ?_⟩
      · obtain ⟨q1, q2, q3, q4, q5, q6, q7⟩ := hr r hr'
        exact ⟨q1, q2, q4, q6, fun a' ha' c hc => (q7 a' ha').2 c hc⟩
      · obtain ⟨q1, q2, q3, _⟩ := hr i (by omega)
        rw [hmx] at q3
        omega
  have k1 := h1
  have lt1 : ∀ x ∈ p1, x.block < W.heap.size := by obtain ⟨m, hm⟩ := k1; exact DataW.trod_lt m _ _ _ hm
  obtain ⟨u1, t1, y01, y11, fu1, rfl, _, _, i01, i11⟩ := Go.Joins.open_agg2 Try.underlying46 (by kernel_rfl) (by kernel_rfl) (hval 1 46 v1 rfl rfl) h1
  obtain ⟨pz1, e01, _, _⟩ := DataW.trod_int Try.underlying3 i01
  obtain rfl : u1 = .int .i64 pz1 := by simpa using e01
  obtain ⟨ag1, len1, cap1, na1, fa1, rfl, hg1, hl1, hn1⟩ : ∃ A len cap n f, t1 = .slice A len cap ∧ Grid W (· < W.heap.size) (.slice A len cap) len n f ∧ len ≤ 9223372036854775807 ∧ ∀ i, i < len → n i ≤ 9223372036854775807 := by
    rcases Go.Deep.open_int_rows Try.underlying29 Try.underlying22 Try.underlying3 (by kernel_rfl) (by kernel_rfl) i11 with ⟨hcs, _⟩ | ⟨a, len, cap, A, L, C, Z, hcs, _, hlc, hcm, _, hr⟩
    · obtain rfl : t1 = .slice none 0 0 := by simpa using hcs
      exact ⟨none, 0, 0, fun _ => 0, fun _ _ => 0, rfl, ⟨none, 0, rfl, Nat.le_refl _, fun h => absurd h (by omega)⟩, by omega, fun i hi => absurd hi (by omega)⟩
    · obtain rfl : t1 = .slice (some a) len cap := by simpa using hcs
      have hmx : maxLen = 9223372036854775807 := by decide
      rw [hmx] at hcm
      refine ⟨some a, len, cap, L, _, rfl, grid_in (C := C) (A := A) (Z := Z) hlc (fun r hr' => ?_), by omega, fun i hi => ?_⟩
      · obtain ⟨q1, q2, q3, q4, q5, q6, q7⟩ := hr r hr'
        exact ⟨q1, q2, q4, q6, fun a' ha' c hc => (q7 a' ha').2 c hc⟩
      · obtain ⟨q1, q2, q3, _⟩ := hr i (by omega)
        rw [hmx] at q3
        omega
  obtain ⟨a2, len2, cap2, rfl⟩ := okWide_slice Try.underlying22 (hval 2 22 v2 rfl rfl)
  have k2 := h2
  have lt2 : ∀ x ∈ p2, x.block < W.heap.size := by obtain ⟨m, hm⟩ := k2; exact DataW.trod_lt m _ _ _ hm
  obtain ⟨z2, hz2, hn2⟩ : ∃ z : Nat → Int, Vec W (· < W.heap.size) (.slice a2 len2 cap2) len2 z ∧ len2 ≤ cap2 := by
    obtain ⟨fuel, hf⟩ := h2
    rcases open_ints Try.underlying22 Try.underlying3 (by kernel_rfl) hf with ⟨hcs, _⟩ | ⟨x, l, c, zs, hcs, _, hl, hm, hz, _, hcell, hwz⟩
    · simp [Value.cells] at hcs
      obtain ⟨rfl, rfl, rfl⟩ := hcs
      exact ⟨fun _ => 0, Vec.nil _ _ _, Nat.le_refl _⟩
    · simp [Value.cells] at hcs
      obtain ⟨rfl, rfl, rfl⟩ := hcs
      have hz' : zs.length = cap2 := by simpa using hz
      exact ⟨fun j => zs.getD j 0, vec_in (by omega) (by omega) hcell, by omega⟩
  obtain ⟨n3, rfl, rfl, rfl, w3⟩ := open_int Try.underlying3 (hval 3 3 v3 rfl rfl) h3
  have hw3 : -9223372036854775808 ≤ n3 ∧ n3 ≤ 9223372036854775807 := by
    have w9 := w3
    have e1 : IntKind.i64.min = -9223372036854775808 := by decide
    have e2 : IntKind.i64.max = 9223372036854775807 := by decide
    simp [Lit.wf] at w9
    omega
  obtain ⟨n4, rfl, rfl, rfl, w4⟩ := open_int Try.underlying3 (hval 4 3 v4 rfl rfl) h4
  have hw4 : -9223372036854775808 ≤ n4 ∧ n4 ≤ 9223372036854775807 := by
    have w9 := w4
    have e1 : IntKind.i64.min = -9223372036854775808 := by decide
    have e2 : IntKind.i64.max = 9223372036854775807 := by decide
    simp [Lit.wf] at w9
    omega
  clear hA0 hval0
  simp only [List.append_nil] at hW'
  refine (calls_main ⟨pz0, ag0, cap0, len0, na0, fa0, pz1, ag1, cap1, len1, na1, fa1, a2, cap2, len2, z2⟩ n3 n4 W hl0 hn0 hl1 hn1 hg0 hg1 hz2).mono fun e W' ⟨he, bel⟩ => ?_
  subst he
  exact ⟨_, rfl, _, _, _, [], _, [], hW', trodAll_cons_mk (shut_bool Try.underlying4 _) trodAll_mk0, (trodAll_cons_mk (Below.trod laidOut (by kernel_rfl) (of_decide_eq_true (by kernel_rfl)) k0 bel lt0) (trodAll_cons_mk (Below.trod laidOut (by kernel_rfl) (of_decide_eq_true (by kernel_rfl)) k1 bel lt1) (trodAll_cons_mk (Below.trod laidOut (by kernel_rfl) (of_decide_eq_true (by kernel_rfl)) k2 bel lt2) (trodAll_cons_mk (shut_int Try.underlying3 w3) (trodAll_cons_mk (shut_int Try.underlying3 w4) trodAll_mk0))))), rfl, bel.frame _, fun h => by cases h⟩

theorem over : Rows.matrixCallsRow.holds Try.pinned (OpenSpec.ofChange Rows.matrixCallsSpec) :=
  OpenClaim.holds_of_wide 6 Try.f6 rfl rfl rfl rfl rfl rfl rfl ⟨rfl, rfl, rfl, rfl, rfl⟩ rfl rfl rfl rfl rfl (by kernel_rfl) Try.func6 (by kernel_rfl)
    (of_decide_eq_true (by kernel_rfl)) (by unfold Func.isWrapper; first | (rw [if_pos (by decide +kernel)]; kernel_rfl) | (rw [if_neg (by decide +kernel)]; exact ⟨rfl, rfl⟩))
    (fun os started H enc _ => lifted os started H enc)

/-- The statement. -/
theorem proved : Rows.MatrixCallsSaid :=
  over
#print axioms proved
end Go.Proofs.Ytaieeljkalciiaa.matrixCalls
