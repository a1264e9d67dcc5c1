/- The reference of layer 3: Is, Suitable; cayleykit.Pick, Mod, residue. -/
import Derived.Test.YtbcbkeeadbfjmaaPrNext
namespace Go.Proofs.Ytbcbkeeadbfjmaa
open Go Go.RowKit Num

/-- Between two rounds of the reference's Is. -/
def TriedTo (n d : Nat) : Prop := 2 ≤ d ∧ d ≤ 1001 ∧ ∀ e, 2 ≤ e → e < d → ¬ e ∣ n
theorem TriedTo.next {n d : Nat} (h : TriedTo n d) (hs : d * d ≤ n) (hn : n < 1000000) (hd : n % d ≠ 0) : TriedTo n (d + 1) := by
  obtain ⟨h1, h2, h3⟩ := h
  have hlt : d < 1001 := Nat.lt_of_not_le fun h => by
    have : 1001 * 1001 ≤ d * d := Nat.mul_le_mul h h
    omega
  refine ⟨by omega, by omega, fun e a b hdv => ?_⟩
  by_cases he : e = d
  · subst he; exact hd (Nat.mod_eq_zero_of_dvd hdv)
  · exact h3 e a (by omega) hdv
theorem TriedTo.yes {n d : Nat} (h2 : 2 ≤ n) (hn : n < 1000000) (h : TriedTo n d) (hs : ¬ d * d ≤ n) : PrI (n : Int) :=
  ⟨by omega, by omega, pr_iff_least.2 (least_self h2 h.2.2 (by omega))⟩
theorem TriedTo.no {n d : Nat} (h : TriedTo n d) (hn : 2 ≤ n) (hs : d * d ≤ n) (hd : n % d = 0) : ¬ PrI (n : Int) := fun hp => by
  have hp2 : Pr n := hp.2.2
  have h1 := h.1
  rcases hp2.2 d (Nat.dvd_of_mod_eq_zero hd) with e | e
  · omega
  · subst e
    have : 2 * d ≤ d * d := Nat.mul_le_mul_right d h1
    omega

set_option maxRecDepth 100000 in
set_option maxHeartbeats 400000 in
theorem refIs_any (n : Int) (w : World) : Calls Try.prog 30 #[.int .i64 n] w fun e w' => e = .returned (.bool (isP n)) ∧ w' = w := by
  by_cases h1 : n < 2
  · have hd : decide (n < 2) = true := decide_eq_true h1
    rw [isP_false.2 fun h => by have := h.1; omega]
    go_enter Try.func30, Try.ntmps30
    go_wp2
    go_ret
    exact ⟨rfl, rfl⟩
  · have hd : decide (n < 2) = false := decide_eq_false h1
    by_cases h2 : n < 1000000
    · obtain ⟨k, rfl⟩ : ∃ k : Nat, n = k := ⟨n.toNat, by omega⟩
      have hd2 : decide ((k : Int) ≥ 1000000) = false := decide_eq_false (by omega)
      go_enter Try.func30, Try.ntmps30
      go_wp2
      go_loop [3] (fun t => ∃ d : Nat, t = .int .i64 d ∧ Hid (TriedTo k d)) (fun t => (2000 - intOf t).toNat)
      case atStart => exact ⟨2, rfl, Lib.hid ⟨by omega, by omega, fun e a b => by omega⟩⟩
      case round =>
        obtain ⟨d, rfl, HT⟩ := hrel
        have hd1 := HT.out.1
        have hd3 := HT.out.2.1
        have hne : ((d : Int) != 0) = true := by simp; omega
        have hne0 : ¬ d = 0 := by omega
        have hsq : d * d ≤ 1001 * 1001 := Nat.mul_le_mul hd3 hd3
        obtain ⟨s, hs⟩ : ∃ s, d * d = s := ⟨_, rfl⟩
        have hm : IntKind.i64.wrap ((d : Int) * (d : Int)) = (s : Int) := by
          rw [← hs, ← Int.natCast_mul]
          exact IntWalk.i64_in _ ⟨by omega, by omega⟩
        by_cases hle : s ≤ k
        · have hle1 : decide ((s : Int) ≤ (k : Int)) = true := decide_eq_true (by omega)
          have hle2 : decide (s ≤ k) = true := decide_eq_true hle
          by_cases hdv : k % d = 0
          · have HF := Lib.hid (isP_false.2 (HT.out.no (by omega) (by omega) hdv))
            have hdd : (((k : Int) % (d : Int)) == 0) = true := by rw [← Int.natCast_emod, hdv]; rfl
            clear hdv hs hsq
            go_wp2
            go_ret
            exact ⟨by rw [HF.out]; rfl, rfl⟩
          · have HN := Lib.hid (HT.out.next (by omega) (by omega) hdv)
            have hdd : (((k : Int) % (d : Int)) == 0) = false := by rw [← Int.natCast_emod]; simp; omega
            clear hdv hs hsq
            go_wp2
            go_round
            case rel => exact ⟨d + 1, by go_num, HN⟩
            case measure => simp [intOf]; omega
        · have hle1 : decide ((s : Int) ≤ (k : Int)) = false := decide_eq_false (by omega)
          have hle2 : decide (s ≤ k) = false := decide_eq_false hle
          have HY := Lib.hid (isP_true.2 (HT.out.yes (by omega) (by omega) (by omega)))
          clear hs hsq
          go_wp2
          go_ret
          exact ⟨by rw [HY.out]; rfl, rfl⟩
    · have hd2 : decide (n ≥ 1000000) = true := decide_eq_true (by omega)
      rw [isP_false.2 fun h => by have := h.2.1; omega]
      go_enter Try.func30, Try.ntmps30
      go_wp2
      go_ret
      exact ⟨rfl, rfl⟩

/-- In the reference's Suitable: the candidate 1 + j*e. -/
def RefSuitAt (e m q : Int) : Prop := 1 ≤ q ∧ q ≤ 2000000 ∧ ∃ j : Nat, q = 1 + j * e ∧ SuitAt e m j
theorem RefSuitAt.next {e m q : Int} (he : 1 ≤ e) (he2 : e < 1000000) (h : RefSuitAt e m q) (hq : q < 1000000) (hc : ¬ (m < q ∧ PrI q)) : RefSuitAt e m (q + e) := by
  obtain ⟨h1, h2, j, rfl, h3⟩ := h
  refine ⟨by omega, by omega, j + 1, ?_, fun i hi => ?_⟩
  · rw [Int.natCast_add, Int.natCast_one, Int.add_mul, Int.one_mul, Int.add_assoc]
  · by_cases e1 : i = j
    · subst e1; exact hc
    · exact h3 i (by omega)
theorem RefSuitAt.hit {e m q : Int} (he : 1 ≤ e) (hm : 0 ≤ m) (h : RefSuitAt e m q) (hc : m < q ∧ PrI q) : SuitV e m q 0 := by
  obtain ⟨h1, h2, j, rfl, h3⟩ := h
  exact .inr ⟨he, hm, .inl ⟨j, rfl, hc, h3, rfl⟩⟩
theorem RefSuitAt.miss {e m q : Int} (he : 1 ≤ e) (hm : 0 ≤ m) (h : RefSuitAt e m q) (hq : ¬ q < 1000000) : SuitV e m 0 18 := by
  obtain ⟨h1, h2, j, rfl, h3⟩ := h
  exact .inr ⟨he, hm, .inr ⟨SuitAt.end_ he h3 hq, rfl, rfl⟩⟩
theorem suit_great {e m : Int} (he : ¬ e < 1000000) (hm : 0 ≤ m) : SuitV e m 0 18 :=
  .inr ⟨by omega, hm, .inr ⟨fun i hc => he (hc.small (by omega)).1, rfl, rfl⟩⟩

set_option maxRecDepth 100000 in
set_option maxHeartbeats 1000000 in
theorem refSuit_any (e m : Int) (w : World) : Calls Try.prog 40 #[.int .i64 e, .int .i64 m] w (SuitRet e m w) := by
  by_cases h1 : e < 1
  · have HB : Hid (SuitV e m 0 2) := Lib.hid (.inl ⟨.inl h1, rfl, rfl⟩)
    have hd : decide (e < 1) = true := decide_eq_true h1
    go_enter Try.func40, Try.ntmps40
    go_wp2
    go_ret2
    exact ⟨0, 2, HB.out, rfl, rfl⟩
  · have hd : decide (e < 1) = false := decide_eq_false h1
    by_cases h2 : m < 0
    · have HB : Hid (SuitV e m 0 2) := Lib.hid (.inl ⟨.inr h2, rfl, rfl⟩)
      have hd2 : decide (m < 0) = true := decide_eq_true h2
      go_enter Try.func40, Try.ntmps40
      go_wp2
      go_ret2
      exact ⟨0, 2, HB.out, rfl, rfl⟩
    · have hd2 : decide (m < 0) = false := decide_eq_false h2
      have he1 : 1 ≤ e := by omega
      have hm0 : 0 ≤ m := by omega
      have HC := fun q => Lib.hid (refIs_any q w)
      by_cases h3 : e < 1000000
      · have hd3 : decide (e < 1000000) = true := decide_eq_true h3
        go_enter Try.func40, Try.ntmps40
        go_wp2
        go_loop [6] (fun t => ∃ q : Int, t = .int .i64 q ∧ Hid (RefSuitAt e m q)) (fun t => (2000002 - intOf t).toNat)
        case atStart => exact ⟨1, rfl, Lib.hid ⟨by omega, by omega, 0, by simp, fun i hi => by omega⟩⟩
        case round =>
          obtain ⟨q, rfl, HA⟩ := hrel
          have hq1 := HA.out.1
          have hq2 := HA.out.2.1
          by_cases hq : q < 1000000
          · have hdq : decide (q < 1000000) = true := decide_eq_true hq
            have HC2 := HC q
            by_cases hmq : m < q
            · have hdm : decide (q > m) = true := decide_eq_true hmq
              by_cases hp : PrI q
              · have HN := Lib.hid (HA.out.hit he1 hm0 ⟨hmq, hp⟩)
                rw [isP_true.2 hp] at HC2
                clear hp
                go_wp2_with fail
                refine HC2.out.mono ?_
                rintro e w' ⟨rfl, rfl⟩
                go_wp2
                go_ret2
                exact ⟨q, 0, HN.out, rfl, rfl⟩
              · have HN := Lib.hid (HA.out.next he1 h3 hq (fun h => hp h.2))
                rw [isP_false.2 hp] at HC2
                clear hp
                go_wp2_with fail
                refine HC2.out.mono ?_
                rintro e w' ⟨rfl, rfl⟩
                go_wp2
                go_round
                case rel => exact ⟨_, rfl, HN⟩
                case measure => simp [intOf]; omega
            · have hdm : decide (q > m) = false := decide_eq_false (by omega)
              have HN := Lib.hid (HA.out.next he1 h3 hq (fun h => hmq h.1))
              go_wp2
              go_round
              case rel => exact ⟨_, rfl, HN⟩
              case measure => simp [intOf]; omega
          · have hdq : decide (q < 1000000) = false := decide_eq_false hq
            have HN := Lib.hid (HA.out.miss he1 hm0 hq)
            go_wp2
            go_ret2
            exact ⟨0, 18, HN.out, rfl, rfl⟩
      · have hd3 : decide (e < 1000000) = false := decide_eq_false h3
        have HN := Lib.hid (suit_great (m := m) h3 hm0)
        go_enter Try.func40, Try.ntmps40
        go_wp2
        refine wp_loop_rounds 1 ?_
        rw [rounds_succ]
        go_wp2
        go_ret2
        exact ⟨0, 18, HN.out, rfl, rfl⟩
end Go.Proofs.Ytbcbkeeadbfjmaa
