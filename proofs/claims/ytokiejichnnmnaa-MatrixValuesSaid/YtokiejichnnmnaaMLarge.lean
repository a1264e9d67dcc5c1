/- cayleylaw04.large. -/
import Derived.Test.YtokiejichnnmnaaMRefA
namespace Go.Proofs.Ytokiejichnnmnaa
open Go Go.RowKit Num

/-- A matrix is large: more than 6 rows, or a row of more than 6 entries. -/
noncomputable def bigM (m : Nat) (n : Nat → Nat) : Bool := @decide (6 < m ∨ ∃ i, i < m ∧ 6 < n i) (Classical.propDecidable _)
theorem bigM_true {m : Nat} {n : Nat → Nat} (h : 6 < m ∨ ∃ i, i < m ∧ 6 < n i) : bigM m n = true := by unfold bigM; exact @decide_eq_true _ (Classical.propDecidable _) h
theorem bigM_false {m : Nat} {n : Nat → Nat} (h1 : m ≤ 6) (h2 : ∀ i, i < m → n i ≤ 6) : bigM m n = false := by
  unfold bigM
  exact @decide_eq_false _ (Classical.propDecidable _) fun h => by
    rcases h with h | ⟨i, hi, h⟩
    · omega
    · have := h2 i hi; omega
theorem bigM_off {m : Nat} {n : Nat → Nat} (h : bigM m n = false) : m ≤ 6 ∧ ∀ i, i < m → n i ≤ 6 := by
  by_cases h0 : 6 < m ∨ ∃ i, i < m ∧ 6 < n i
  · rw [bigM_true h0] at h; cases h
  · exact ⟨by omega, fun i hi => Classical.byContradiction fun h => h0 (.inr ⟨i, hi, by omega⟩)⟩
/-- One matrix in a list: its cells, and the rows'. -/
structure LgM (w : World) (L k : Nat) (p : Int) (v : Value) (m : Nat) (n : Nat → Nat) : Prop where
  c0 : w.cell? ⟨L, k * 2, none⟩ = some (.int .i64 p)
  c1 : w.cell? ⟨L, k * 2 + 1, none⟩ = some v
  gr : ∃ f, Grid w (· < w.heap.size) v m n f
set_option maxRecDepth 100000 in
set_option maxHeartbeats 2000000 in
/-- One or two matrices. -/
theorem large_any (L : Nat) (N c : Nat) (p : Nat → Int) (v : Nat → Value) (m : Nat → Nat) (n : Nat → Nat → Nat) (w : World) (hN : N ≤ 2) (hm : ∀ k, k < N → m k ≤ 9223372036854775807) (hn : ∀ k, k < N → ∀ i, i < m k → n k i ≤ 9223372036854775807) (hL : L < w.heap.size)
    (h : ∀ k, k < N → LgM w L k (p k) (v k) (m k) (n k)) :
    Calls Try.prog 61 #[.slice (some ⟨L, 0, none⟩) N c] w fun e w' => e = .returned (.bool (decide (∃ k, k < N ∧ bigM (m k) (n k) = true))) ∧ Below w.heap.size w w' := by
  have HH := Lib.hid h
  have HMM := Lib.hid hm
  have HNN := Lib.hid hn
  clear h hm hn
  obtain ⟨r, hr⟩ : ∃ r : Bool, decide (∃ k, k < N ∧ bigM (m k) (n k) = true) = r := ⟨_, rfl⟩
  have HR := Lib.hid hr
  rw [hr]
  clear hr
  go_enter Try.func61, Try.ntmps61
  go_wp2
  go_loopw [3] (fun t3 wr => ∃ k : Nat, t3 = .int .i64 k ∧ k ≤ N ∧ Below w.heap.size w wr ∧ Hid (∀ a, a < k → bigM (m a) (n a) = false)) (fun t3 _ => N - (intOf t3).toNat)
  case atStart => exact ⟨0, rfl, Nat.zero_le _, Below.refl _ _, Lib.hid fun a ha => absurd ha (by omega)⟩
  case round =>
    obtain ⟨k, rfl, hk, hB, HD⟩ := hrel
    by_cases hkN : k < N
    · have hd : decide ((k : Int) < (N : Int)) = true := decide_eq_true (by omega)
      have hdn : decide (k < N) = true := decide_eq_true hkN
      have hh := HH.out k hkN
      obtain ⟨f, hg⟩ := hh.gr
      obtain ⟨A, ca, hv, _⟩ := hg.form
      have c1 := (hB.cell (p := ⟨L, k * 2 + 1, none⟩) hL).trans hh.c1
      rw [hv] at c1 hg
      have hmk := HMM.out k hkN
      have HG := Lib.hid hg
      have HB := Lib.hid hB
      obtain ⟨mk, hmk2⟩ : ∃ mk, m k = mk := ⟨_, rfl⟩
      have HMK := Lib.hid hmk2
      rw [hmk2] at c1 hmk HG
      clear hg hh hB hmk2 hv
      have i1 : (k : Int) < (N : Int) := by omega
      have i2 : (0 : Int) ≤ (k : Int) := by omega
      by_cases hm6 : 6 < mk
      · have d1 : decide ((6 : Int) < (mk : Int)) = true := decide_eq_true (by omega)
        have d2 : decide (6 < mk) = true := decide_eq_true hm6
        have HF := Lib.hid (show r = true from HR.out.symm.trans (decide_eq_true ⟨k, hkN, bigM_true (.inl (by rw [HMK.out]; exact hm6))⟩))
        go_wp2
        go_ret
        exact ⟨by rw [HF.out]; rfl, HB.out⟩
      · have d1 : decide ((6 : Int) < (mk : Int)) = false := decide_eq_false (by omega)
        have d2 : decide (6 < mk) = false := decide_eq_false hm6
        go_wp2
        clear c1
        go_loopw [4] (fun t4 wr => ∃ i : Nat, t4 = .int .i64 i ∧ i ≤ mk ∧ Below w.heap.size w wr ∧ Hid (∀ a, a < i → n k a ≤ 6)) (fun t4 _ => mk - (intOf t4).toNat)
        case atStart => exact ⟨0, rfl, Nat.zero_le _, HB.out, Lib.hid fun a ha => absurd ha (by omega)⟩
        case round =>
          obtain ⟨i, rfl, hi, hB, HE⟩ := hrel
          rename World => W2
          have hh := HH.out k hkN
          have c1 := (hB.cell (p := ⟨L, k * 2 + 1, none⟩) hL).trans hh.c1
          obtain ⟨f', hg'⟩ := hh.gr
          obtain ⟨A', ca', hv, _⟩ := hg'.form
          rw [hv] at c1
          rw [HMK.out] at c1
          have HB2 := Lib.hid hB
          clear hg' hh
          by_cases him : i < mk
          · have hd3 : decide ((i : Int) < (mk : Int)) = true := decide_eq_true (by omega)
            have hd3n : decide (i < mk) = true := decide_eq_true him
            obtain ⟨f2, hg2⟩ := (HH.out k hkN).gr
            rw [hv, HMK.out] at hg2
            obtain ⟨bg, og, cg, RA, RC, e, _, hbg, hgc⟩ := hg2.at_ (by omega)
            cases e
            have u1 := (hB.cell (p := ⟨bg, og + i, none⟩) hbg).trans (hgc i him).1
            have hni := HNN.out k hkN i (by rw [HMK.out]; exact him)
            have i3 : (i : Int) < (mk : Int) := by omega
            have i4 : (0 : Int) ≤ (i : Int) := by omega
            obtain ⟨ni, hni2⟩ : ∃ ni, n k i = ni := ⟨_, rfl⟩
            have HNI := Lib.hid hni2
            rw [hni2] at u1 hni
            clear hgc hB hni2 hv hg2
            by_cases hn6 : 6 < ni
            · have d3 : decide ((6 : Int) < (ni : Int)) = true := decide_eq_true (by omega)
              have d4 : decide (6 < ni) = true := decide_eq_true hn6
              have HF := Lib.hid (show r = true from HR.out.symm.trans (decide_eq_true ⟨k, hkN, bigM_true (.inr ⟨i, by rw [HMK.out]; exact him, by rw [HNI.out]; exact hn6⟩)⟩))
              go_wp2
              go_ret
              exact ⟨by rw [HF.out]; rfl, HB2.out⟩
            · have d3 : decide ((6 : Int) < (ni : Int)) = false := decide_eq_false (by omega)
              have d4 : decide (6 < ni) = false := decide_eq_false hn6
              have HE2 := Lib.hid (show ∀ a, a < i + 1 → n k a ≤ 6 from fun a ha => by
                by_cases e : a = i
                · subst e; rw [HNI.out]; omega
                · exact HE.out a (by omega))
              go_wp2
              go_roundw
              case rel => exact ⟨i + 1, by go_num, by omega, HB2.out, HE2⟩
              case measure => simp [intOf]; omega
          · have e : i = mk := by omega
            subst e
            have hd3 : decide ((i : Int) < (i : Int)) = false := decide_eq_false (by omega)
            have HD2 := Lib.hid (show ∀ a, a < k + 1 → bigM (m a) (n a) = false from fun a ha => by
              by_cases e : a = k
              · subst e; exact bigM_false (by rw [HMK.out]; omega) fun j hj => HE.out j (by rw [HMK.out] at hj; exact hj)
              · exact HD.out a (by omega))
            clear hB hv
            go_wp2
            go_roundw
            case rel => exact ⟨k + 1, by go_num, by omega, HB2.out, HD2⟩
            case measure => simp [intOf]; omega
    · have e : k = N := by omega
      subst e
      have hd : decide ((k : Int) < (k : Int)) = false := decide_eq_false (by omega)
      have HF := Lib.hid (show r = false from HR.out.symm.trans (decide_eq_false fun ⟨a, ha, h⟩ => by rw [HD.out a ha] at h; cases h))
      have HB := Lib.hid hB
      clear hB
      go_wp2
      go_ret
      exact ⟨by rw [HF.out]; rfl, HB.out⟩
end Go.Proofs.Ytokiejichnnmnaa
