/- The reference's Factors. -/
import Derived.Test.YtbcbkeeadbfjmaaPrSame
import Derived.Test.YtbcbkeeadbfjmaaPrRefA
namespace Go.Proofs.Ytbcbkeeadbfjmaa
open Go Go.RowKit Num

/-- Between two rounds: l is found, M is left, no divisor of M lies below d. -/
def RFAt (N : Nat) (l : List (Nat × Nat)) (M d : Nat) : Prop := facs N = l ++ facs M ∧ 1 ≤ M ∧ M ≤ N ∧ 2 ≤ d ∧ (d ≤ 31623 ∨ M = 1) ∧ ∀ e, 2 ≤ e → e < d → ¬ e ∣ M
theorem RFAt.take {N M d q j r : Nat} {l : List (Nat × Nat)} (h : RFAt N l M d) (hM : 2 ≤ M) (hN : N ≤ 1000000000) (hq : Least M q) (hdq : d ≤ q) (hqb : q ≤ 31622 ∨ q = M) (ho : OutQ M q j r) (hr : r % q ≠ 0) : RFAt N (l ++ [(q, j)]) r (q + 1) ∧ r < M ∧ 1 ≤ j := by
  obtain ⟨hj, hrm, hf⟩ := ho.last hq hr
  obtain ⟨h1, h2, h3, h4, h5, h6⟩ := h
  refine ⟨⟨?_, ho.2.1, by omega, by omega, ?_, fun e he hlt hdv => ?_⟩, hrm, hj⟩
  · rw [h1, hf, List.append_assoc]; rfl
  · rcases hqb with h | rfl
    · exact .inl (by omega)
    · refine .inr ?_
      have hm := ho.1
      have hr1 := ho.2.1
      have : q ^ 1 ≤ q ^ j := Nat.pow_le_pow_right (by omega) hj
      rw [Nat.pow_one] at this
      have h9 : q * r ≤ q ^ j * r := Nat.mul_le_mul_right r this
      apply Nat.le_antisymm _ hr1
      apply Nat.le_of_not_lt
      intro h10
      have : q * 2 ≤ q * r := Nat.mul_le_mul_left q h10
      omega
  · by_cases e1 : e = q
    · subst e1; exact hr (Nat.mod_eq_zero_of_dvd hdv)
    · have : e ∣ M := ho.1 ▸ Nat.dvd_trans hdv ⟨q ^ j, Nat.mul_comm _ _⟩
      have := hq.2.2 e he this
      omega
theorem RFAt.skip {N M d : Nat} {l : List (Nat × Nat)} (h : RFAt N l M d) (hM : 2 ≤ M) (hd : M % d ≠ 0) (hs : d * d ≤ M) (hN : N ≤ 1000000000) : RFAt N l M (d + 1) := by
  obtain ⟨h1, h2, h3, h4, h5, h6⟩ := h
  have hb := sq_bound hs (by omega)
  refine ⟨h1, h2, h3, by omega, .inl (by omega), fun e he hlt hdv => ?_⟩
  by_cases e1 : e = d
  · subst e1; exact hd (Nat.mod_eq_zero_of_dvd hdv)
  · exact h6 e he (by omega) hdv
theorem RFAt.least {N M d : Nat} {l : List (Nat × Nat)} (h : RFAt N l M d) (hM : 2 ≤ M) (hN : N ≤ 1000000000) (hc : M < d * d ∨ M % d = 0) : ∃ q, Least M q ∧ d ≤ q ∧ ((M < d * d ∧ q = M) ∨ (d * d ≤ M ∧ q = d ∧ d ≤ 31622)) := by
  obtain ⟨h1, h2, h3, h4, h5, h6⟩ := h
  by_cases hs : M < d * d
  · have hl := least_self hM h6 hs
    refine ⟨M, hl, ?_, .inl ⟨hs, rfl⟩⟩
    exact Nat.le_of_not_lt fun hlt => h6 M hM hlt (Nat.dvd_refl M)
  · have hd : M % d = 0 := hc.resolve_left hs
    have hb := sq_bound (k := d) (n := M) (by omega) (by omega)
    exact ⟨d, ⟨h4, Nat.dvd_of_mod_eq_zero hd, fun e he hdv => Nat.le_of_not_lt fun hlt => h6 e he hlt hdv⟩, Nat.le_refl d, .inr ⟨by omega, rfl, hb⟩⟩

set_option maxRecDepth 100000 in
set_option maxHeartbeats 400000 in
theorem refFactors_bad (n : Int) (w : World) (h : n < 1 ∨ 1000000000 < n) : Calls Try.prog 29 #[.int .i64 n] w fun e w' => e = .returned (.tuple #[.slice none 0 0, .int .i64 2]) ∧ w' = w := by
  by_cases h1 : n < 1
  · have hd : decide (n < 1) = true := decide_eq_true h1
    go_enter Try.func29, Try.ntmps29
    go_wp2
    go_ret2
    exact ⟨rfl, rfl⟩
  · have hd : decide (n < 1) = false := decide_eq_false h1
    have hd2 : decide (n > 1000000000) = true := decide_eq_true (by omega)
    go_enter Try.func29, Try.ntmps29
    go_wp2
    go_ret2
    exact ⟨rfl, rfl⟩

set_option maxRecDepth 100000 in
set_option maxHeartbeats 2000000 in
theorem refFactors_any (N : Nat) (w : World) (h1 : 1 ≤ N) (hN : N ≤ 1000000000) : Calls Try.prog 29 #[.int .i64 N] w (FacRet N w) := by
  have hd : decide ((N : Int) < 1) = false := decide_eq_false (by omega)
  have hd2 : decide ((N : Int) > 1000000000) = false := decide_eq_false (by omega)
  have hlen := facs_len h1 hN
  obtain ⟨i0, hi, hz0', hz1, hz2⟩ := info_parts info_pair
  go_enter Try.func29, Try.ntmps29
  go_wp2
  go_loopw [0, 4, 5] (fun t0 t4 t5 wr => ∃ (M d : Nat) (l : List (Nat × Nat)), t0 = .int .i64 M ∧ t5 = .int .i64 d ∧ Hid (RFAt N l M d) ∧ Hid (PairsI wr w.heap.size t4 l) ∧ Hid (Below w.heap.size w wr)) (fun t0 _ t5 _ => (intOf t0).toNat * 40000 + (40000 - (intOf t5).toNat))
  case atStart => exact ⟨N, 2, [], rfl, rfl, Lib.hid ⟨by simp, h1, Nat.le_refl _, Nat.le_refl _, .inl (by omega), fun e a b => by omega⟩, Lib.hid (World.ownsRow_nil _ _ _ _), Lib.hid (Below.refl _ _)⟩
  case round =>
    obtain ⟨M, d, l, rfl, rfl, HA, HR, HB⟩ := hrel
    have hM1 := HA.out.2.1
    have hMN := HA.out.2.2.1
    have hd2' := HA.out.2.2.2.1
    by_cases hM : 1 < M
    · have hdb : d ≤ 31623 := HA.out.2.2.2.2.1.resolve_right (by omega)
      have hsq : d * d ≤ 31623 * 31623 := Nat.mul_le_mul hdb hdb
      obtain ⟨s, hs⟩ : ∃ s, d * d = s := ⟨_, rfl⟩
      have kd : IntKind.i64.wrap ((d : Int) * (d : Int)) = (s : Int) := by
        rw [← Int.natCast_mul, hs]; exact IntWalk.i64_in _ ⟨by omega, by omega⟩
      have hlN : l.length ≤ 30 := by
        have h9 := HA.out.1
        have : l.length ≤ (facs N).length := by rw [h9]; simp
        omega
      by_cases hc : M < s ∨ M % d = 0
      · obtain ⟨q, hq, hdq, hcase⟩ := HA.out.least hM hN (by rw [hs]; exact hc)
        have HQ := Lib.hid hq
        have hq2 := hq.1
        have hqM : q ≤ M := Nat.le_of_dvd (by omega) hq.2.1
        rw [hs] at hcase
        have hqb : q ≤ 31622 ∨ q = M := by rcases hcase with ⟨_, h⟩ | ⟨_, h, h'⟩ <;> omega
        have HT := fun j r => Lib.hid (@RFAt.take N M d q j r l HA.out hM hN hq hdq hqb)
        have hneq : ((q : Int) != 0) = true := by simp; omega
        have hneq0 : ¬ q = 0 := by omega
        have HOUT0 : Hid (OutQ M q 0 M) := Lib.hid ⟨by simp, by omega, Nat.le_refl _, Nat.zero_le _⟩
        clear hq hqb hc HA hs hsq
        rcases hcase with ⟨hs1, hqe⟩ | ⟨hs1, hqe, _⟩
        all_goals
          have c1 : decide ((s : Int) > (M : Int)) = decide (M < s) := by simp
          first
            | (have c2 : decide (M < s) = true := decide_eq_true hs1; rw [c2] at c1)
            | (have c2 : decide (M < s) = false := decide_eq_false (by omega); rw [c2] at c1)
          subst hqe
          clear hs1
          go_wp2
          go_loop [0, 6] (fun t0 t6 => ∃ j r : Nat, t0 = .int .i64 r ∧ t6 = .int .i64 j ∧ Hid (OutQ _ _ j r)) (fun t0 _ => (intOf t0).toNat)
          case atStart => exact ⟨0, _, rfl, rfl, HOUT0⟩
          case round =>
            obtain ⟨j, r, rfl, rfl, HO⟩ := hrel
            have hr1 := HO.out.2.1
            have hrm := HO.out.2.2.1
            have hjm := HO.out.2.2.2
            by_cases hdv : r % q = 0
            · obtain ⟨ho, hlt⟩ := HO.out.next hq2 hdv
              have HO2 := Lib.hid ho
              have e1 : (((r : Int) % (q : Int)) == 0) = true := by rw [← Int.natCast_emod, hdv]; rfl
              have e2 : (r : Int) / (q : Int) = ((r / q : Nat) : Int) := by rw [Int.natCast_ediv]
              obtain ⟨r2, hr2⟩ : ∃ r2, r / q = r2 := ⟨_, rfl⟩
              rw [hr2] at HO2 hlt e2
              have e3 : IntKind.i64.wrap ((r : Int) / (q : Int)) = (r2 : Int) := by rw [e2]; exact IntWalk.i64_in _ ⟨by omega, by omega⟩
              have E2 := Lib.hid e2
              clear ho hdv hr2 e2
              go_wp2
              go_round
              case rel => exact ⟨j + 1, r2, (by first | exact rfl | exact congrArg _ E2.out), by go_num, HO2⟩
              case measure => simp [intOf]; first | done | omega
            · obtain ⟨hRF, hrlt, hj1⟩ := (HT j r).out HO.out hdv
              have HRF := Lib.hid hRF
              have e1 : (((r : Int) % (q : Int)) == 0) = false := by rw [← Int.natCast_emod]; simp; omega
              have e4 : decide ((j : Int) > 0) = true := decide_eq_true (by omega)
              have hown := HR.out
              unfold PairsI at hown
              clear hRF hdv HT
              go_wp2_with (at_builtin; refine wpList_append_own _ rfl _ _ 26 rfl w.heap.size 32 i0 (.agg #[.int .i64 0, .int .i64 0]) 2 16 Try.underlying26 hi hz0' hz1 hz2 rfl (by decide) _ _ _ rfl (hown.alloc _) ⟨wr.heap.size, 0, none⟩ 1 1 [.int .i64 q, .int .i64 j] rfl rfl (cell_two_new _ _ _ _ rfl) (by simp [Value.oneCell']) (by unfold maxLen; omega) (by omega) (by have := HB.out.size; simp; omega) ?_; intro v' w1 hown' hgrow _; have HO9 := Lib.hid hown'; have HB9 := Lib.hid ((HB.out.alloc HB.out.size _).grown hgrow (by have := HB.out.size; simp; omega) (fun k hk => (World.ownsRow.lt hown k hk).1)); clear hown' hgrow hown)
              go_roundw
              case rel =>
                refine ⟨r, q + 1, l ++ [(q, j)], rfl, by go_num, HRF, Lib.hid ?_, HB9⟩
                have h := HO9.out
                unfold PairsI
                rw [pcells_append, List.length_append]
                exact h
              case measure => simp [intOf]; omega
      · have hs2 : ¬ M < s := fun h => hc (.inl h)
        have hd3 : M % d ≠ 0 := fun h => hc (.inr h)
        have HRF := Lib.hid (HA.out.skip hM hd3 (by omega) hN)
        have c1 : decide ((s : Int) > (M : Int)) = false := decide_eq_false (by omega)
        have c2 : decide (M < s) = false := decide_eq_false hs2
        have e1 : (((M : Int) % (d : Int)) == 0) = false := by rw [← Int.natCast_emod]; simp; omega
        have hned : ((d : Int) != 0) = true := by simp; omega
        have hned0 : ¬ d = 0 := by omega
        clear hs hsq hd3 hs2 hc HA
        go_wp2
        refine wp_loop_rounds 1 ?_
        rw [rounds_succ]
        go_wp2
        go_roundw
        case rel => exact ⟨M, d + 1, l, rfl, by go_num, HRF, HR, HB⟩
        case measure => simp [intOf]; omega
    · have hM1' : M = 1 := by omega
      subst hM1'
      have HF := Lib.hid (show facs N = l by have := HA.out.1; rw [facs_one, List.append_nil] at this; exact this)
      go_wp2
      go_ret2
      exact ⟨_, rfl, by rw [HF.out]; exact HR.out, HB.out⟩
end Go.Proofs.Ytbcbkeeadbfjmaa
