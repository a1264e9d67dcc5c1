/- prime.Mod, unit, Inv; the reference of layer 3 and cayleykit.Pick, as far as layer 4 needs them. -/
import Derived.Test.YtinoomcboinokaaGreatMFound
import Derived.BigQuiet
import Derived.Deep.QuietTactic
namespace Go.Proofs.YtinoomcboinokaaGreat
open Go Go.RowKit Num

/-- A call has returned a number and an error. -/
def RetE (w : World) (x e : Int) (en : Ending) (w' : World) : Prop := en = .returned (.tuple #[.int .i64 x, .int .i64 e]) ∧ Below w.heap.size w w'
theorem RetE.eq {w : World} {x y e f : Int} (h : x = y) (k : e = f) : RetE w x e = RetE w y f := by rw [h, k]
/-- A modulus. -/
def P6 (p : Nat) : Prop := Pr p ∧ p < 1000000
theorem P6.ge {p : Nat} (h : P6 p) : 2 ≤ p := h.1.1
theorem P6.isP {p : Nat} (h : P6 p) : isP (p : Int) = true := (isP_nat h.2).2 h.1
/-- The residue. -/
def resV (a : Int) (p : Nat) : Nat := (a % (p : Int)).toNat
theorem resV_lt (a : Int) {p : Nat} (h : 2 ≤ p) : resV a p < p := by
  unfold resV
  have := Int.emod_lt_of_pos a (show (0 : Int) < p by omega)
  have := Int.emod_nonneg a (show (p : Int) ≠ 0 by omega)
  omega
theorem resV_cast (a : Int) {p : Nat} (h : 2 ≤ p) : ((resV a p : Nat) : Int) = a % (p : Int) := by
  unfold resV
  have := Int.emod_nonneg a (show (p : Int) ≠ 0 by omega)
  omega
theorem resV_nat {x p : Nat} (h : x < p) : resV (x : Int) p = x := by
  unfold resV
  rw [← Int.natCast_emod, Nat.mod_eq_of_lt h]; rfl
theorem resV_of_nat (x p : Nat) : resV (x : Int) p = x % p := by
  unfold resV
  rw [← Int.natCast_emod]; rfl
def InI (a : Int) : Prop := -9223372036854775808 ≤ a ∧ a ≤ 9223372036854775807
theorem tmod_fix (a : Int) (p : Nat) (h : 2 ≤ p) : (a.tmod p + p).tmod p = a % (p : Int) := by
  have h1 := Int.tmod_add_mul_tdiv a p
  have hlt := Int.natAbs_tmod a p
  have hp : (0 : Int) < p := by omega
  have hb : -(p : Int) < a.tmod p ∧ a.tmod p < p := by
    have : (a.tmod p).natAbs < p := by
      rw [hlt]; simp; exact Nat.mod_lt _ (by omega)
    omega
  rw [Int.tmod_eq_emod_of_nonneg (by omega), Int.add_emod_right]
  conv => rhs; rw [← h1, Int.add_mul_emod_self_left]
theorem tmod_bound (a : Int) (p : Nat) (h : 2 ≤ p) : -(p : Int) < a.tmod p ∧ a.tmod p < p := by
  have hlt := Int.natAbs_tmod a p
  have : (a.tmod p).natAbs < p := by
    rw [hlt]; simp; exact Nat.mod_lt _ (by omega)
  omega

set_option maxRecDepth 100000 in
set_option maxHeartbeats 400000 in
theorem Mod_bad (a p : Int) (w : World) (hp : isP p = false) : Calls Tryz.prog 55 #[.int .i64 a, .int .i64 p] w fun e w' => e = .returned (.tuple #[.int .i64 0, .int .i64 3]) ∧ w' = w := by
  have HC := Lib.hid (Is_any p w)
  rw [hp] at HC
  go_enter Tryz.func55, Tryz.ntmps55
  go_wp2_with fail
  refine HC.out.mono ?_
  rintro e w' ⟨rfl, rfl⟩
  go_wp2
  go_ret2
  exact ⟨rfl, rfl⟩

set_option maxRecDepth 100000 in
set_option maxHeartbeats 400000 in
theorem Mod_ok (a : Int) (p : Nat) (w : World) (hp : P6 p) : Calls Tryz.prog 55 #[.int .i64 a, .int .i64 p] w fun e w' => e = .returned (.tuple #[.int .i64 (resV a p : Nat), .int .i64 0]) ∧ w' = w := by
  have HC := Lib.hid (Is_any p w)
  rw [hp.isP] at HC
  have h2 := hp.ge
  have hlt := hp.2
  have hb := tmod_bound a p h2
  have hne : ((p : Int) != 0) = true := by simp; omega
  have hw : IntKind.i64.wrap (a.tmod p + p) = a.tmod p + p := IntWalk.i64_in _ ⟨by omega, by omega⟩
  have hf := tmod_fix a p h2
  rw [resV_cast a h2]
  go_enter Tryz.func55, Tryz.ntmps55
  go_wp2_with fail
  refine HC.out.mono ?_
  rintro e w' ⟨rfl, rfl⟩
  go_wp2
  go_ret2
  exact ⟨rfl, rfl⟩
set_option maxRecDepth 100000 in
set_option maxHeartbeats 400000 in
theorem unit_bad (a p : Int) (w : World) (hp : isP p = false) : Calls Tryz.prog 96 #[.int .i64 a, .int .i64 p] w fun e w' => e = .returned (.tuple #[.int .i64 0, .int .i64 3]) ∧ w' = w := by
  have HC := Lib.hid (Mod_bad a p w hp)
  go_enter Tryz.func96, Tryz.ntmps96
  go_wp2_with fail
  refine HC.out.mono ?_
  rintro e w' ⟨rfl, rfl⟩
  go_wp2
  go_ret2
  exact ⟨rfl, rfl⟩

set_option maxRecDepth 100000 in
set_option maxHeartbeats 400000 in
theorem unit_ok (a : Int) (p : Nat) (w : World) (hp : P6 p) (h0 : resV a p ≠ 0) : Calls Tryz.prog 96 #[.int .i64 a, .int .i64 p] w fun e w' => e = .returned (.tuple #[.int .i64 (resV a p : Nat), .int .i64 0]) ∧ w' = w := by
  have HC := Lib.hid (Mod_ok a p w hp)
  generalize resV a p = x at HC h0 ⊢
  have hd : ((x : Int) == 0) = false := by simp; omega
  go_enter Tryz.func96, Tryz.ntmps96
  go_wp2_with fail
  refine HC.out.mono ?_
  rintro e w' ⟨rfl, rfl⟩
  go_wp2
  go_ret2
  exact ⟨rfl, rfl⟩

set_option maxRecDepth 100000 in
set_option maxHeartbeats 400000 in
theorem unit_zero (a : Int) (p : Nat) (w : World) (hp : P6 p) (h0 : resV a p = 0) : Calls Tryz.prog 96 #[.int .i64 a, .int .i64 p] w fun e w' => e = .returned (.tuple #[.int .i64 0, .int .i64 6]) ∧ w' = w := by
  have HC := Lib.hid (Mod_ok a p w hp)
  rw [h0] at HC
  go_enter Tryz.func96, Tryz.ntmps96
  go_wp2_with fail
  refine HC.out.mono ?_
  rintro e w' ⟨rfl, rfl⟩
  go_wp2
  go_ret2
  exact ⟨rfl, rfl⟩

set_option maxRecDepth 100000 in
set_option maxHeartbeats 400000 in
theorem Inv_bad (a p : Int) (w : World) (hp : isP p = false) : Calls Tryz.prog 93 #[.int .i64 a, .int .i64 p] w fun e w' => e = .returned (.tuple #[.int .i64 0, .int .i64 3]) ∧ w' = w := by
  have HC := Lib.hid (unit_bad a p w hp)
  go_enter Tryz.func93, Tryz.ntmps93
  go_wp2_with fail
  refine HC.out.mono ?_
  rintro e w' ⟨rfl, rfl⟩
  go_wp2
  go_ret2
  exact ⟨rfl, rfl⟩

set_option maxRecDepth 100000 in
set_option maxHeartbeats 400000 in
theorem Inv_zero (a : Int) (p : Nat) (w : World) (hp : P6 p) (h0 : resV a p = 0) : Calls Tryz.prog 93 #[.int .i64 a, .int .i64 p] w fun e w' => e = .returned (.tuple #[.int .i64 0, .int .i64 6]) ∧ w' = w := by
  have HC := Lib.hid (unit_zero a p w hp h0)
  go_enter Tryz.func93, Tryz.ntmps93
  go_wp2_with fail
  refine HC.out.mono ?_
  rintro e w' ⟨rfl, rfl⟩
  go_wp2
  go_ret2
  exact ⟨rfl, rfl⟩

set_option maxRecDepth 100000 in
set_option maxHeartbeats 400000 in
theorem Inv_ok (a : Int) (p : Nat) (w : World) (hp : P6 p) (h0 : resV a p ≠ 0) : Calls Tryz.prog 93 #[.int .i64 a, .int .i64 p] w fun e w' => e = .returned (.tuple #[.int .i64 (resV a p ^ (p - 2) % p : Nat), .int .i64 0]) ∧ w' = w.alloc (.cells #[.int .i64 p] 3) := by
  have HC := Lib.hid (unit_ok a p w hp h0)
  have h2 := hp.ge
  have hlt := hp.2
  have HP := Lib.hid (pow_any (resV a p) (p - 2) p w (resV_lt a h2) h2 (by omega) (by omega))
  generalize resV a p = x at HC HP ⊢
  generalize x ^ (p - 2) % p = y at HP ⊢
  have hs : ((p - 2 : Nat) : Int) = (p : Int) - 2 := by omega
  rw [hs] at HP
  have hw : IntKind.i64.wrap ((p : Int) - 2) = (p : Int) - 2 := IntWalk.i64_in _ ⟨by omega, by omega⟩
  have hu : IntKind.u64.wrap ((p : Int) - 2) = (p : Int) - 2 := by rw [IntKind.wrap_u64]; omega
  go_enter Tryz.func93, Tryz.ntmps93
  go_wp2_with fail
  refine HC.out.mono ?_
  rintro e w' ⟨rfl, rfl⟩
  go_wp2_with fail
  refine HP.out.mono ?_
  rintro e w' ⟨rfl, rfl⟩
  go_wp2
  go_ret2
  exact ⟨rfl, rfl⟩

/-- Between two rounds of the reference's Is. -/
def TriedTo (n d : Nat) : Prop := 2 ≤ d ∧ d ≤ 1001 ∧ ∀ e, 2 ≤ e → e < d → ¬ e ∣ n
theorem TriedTo.next {n d : Nat} (h : TriedTo n d) (hs : d * d ≤ n) (hn : n < 1000000) (hd : n % d ≠ 0) : TriedTo n (d + 1) := by
  obtain ⟨h1, h2, h3⟩ := h
  have hlt : d < 1001 := Nat.lt_of_not_le fun h => by
    have : 1001 * 1001 ≤ d * d := Nat.mul_le_mul h h
    omega
  refine ⟨by omega, by omega, fun e a b hdv => ?_⟩
  by_cases he : e = d
  · subst he; exact hd (Nat.mod_eq_zero_of_dvd hdv)
  · exact h3 e a (by omega) hdv
theorem TriedTo.yes {n d : Nat} (h2 : 2 ≤ n) (hn : n < 1000000) (h : TriedTo n d) (hs : ¬ d * d ≤ n) : PrI (n : Int) :=
  ⟨by omega, by omega, pr_iff_least.2 (least_self h2 h.2.2 (by omega))⟩
theorem TriedTo.no {n d : Nat} (h : TriedTo n d) (hn : 2 ≤ n) (hs : d * d ≤ n) (hd : n % d = 0) : ¬ PrI (n : Int) := fun hp => by
  have hp2 : Pr n := hp.2.2
  have h1 := h.1
  rcases hp2.2 d (Nat.dvd_of_mod_eq_zero hd) with e | e
  · omega
  · subst e
    have : 2 * d ≤ d * d := Nat.mul_le_mul_right d h1
    omega

set_option maxRecDepth 100000 in
set_option maxHeartbeats 400000 in
theorem refIs_any (n : Int) (w : World) : Calls Tryz.prog 81 #[.int .i64 n] w fun e w' => e = .returned (.bool (isP n)) ∧ w' = w := by
  by_cases h1 : n < 2
  · have hd : decide (n < 2) = true := decide_eq_true h1
    rw [isP_false.2 fun h => by have := h.1; omega]
    go_enter Tryz.func81, Tryz.ntmps81
    go_wp2
    go_ret
    exact ⟨rfl, rfl⟩
  · have hd : decide (n < 2) = false := decide_eq_false h1
    by_cases h2 : n < 1000000
    · obtain ⟨k, rfl⟩ : ∃ k : Nat, n = k := ⟨n.toNat, by omega⟩
      have hd2 : decide ((k : Int) ≥ 1000000) = false := decide_eq_false (by omega)
      go_enter Tryz.func81, Tryz.ntmps81
      go_wp2
      go_loop [3] (fun t => ∃ d : Nat, t = .int .i64 d ∧ Hid (TriedTo k d)) (fun t => (2000 - intOf t).toNat)
      case atStart => exact ⟨2, rfl, Lib.hid ⟨by omega, by omega, fun e a b => by omega⟩⟩
      case round =>
        obtain ⟨d, rfl, HT⟩ := hrel
        have hd1 := HT.out.1
        have hd3 := HT.out.2.1
        have hne : ((d : Int) != 0) = true := by simp; omega
        have hne0 : ¬ d = 0 := by omega
        have hsq : d * d ≤ 1001 * 1001 := Nat.mul_le_mul hd3 hd3
        obtain ⟨s, hs⟩ : ∃ s, d * d = s := ⟨_, rfl⟩
        have hm : IntKind.i64.wrap ((d : Int) * (d : Int)) = (s : Int) := by
          rw [← hs, ← Int.natCast_mul]
          exact IntWalk.i64_in _ ⟨by omega, by omega⟩
        by_cases hle : s ≤ k
        · have hle1 : decide ((s : Int) ≤ (k : Int)) = true := decide_eq_true (by omega)
          have hle2 : decide (s ≤ k) = true := decide_eq_true hle
          by_cases hdv : k % d = 0
          · have HF := Lib.hid (isP_false.2 (HT.out.no (by omega) (by omega) hdv))
            have hdd : (((k : Int) % (d : Int)) == 0) = true := by rw [← Int.natCast_emod, hdv]; rfl
            clear hdv hs hsq
            go_wp2
            go_ret
            exact ⟨by rw [HF.out]; rfl, rfl⟩
          · have HN := Lib.hid (HT.out.next (by omega) (by omega) hdv)
            have hdd : (((k : Int) % (d : Int)) == 0) = false := by rw [← Int.natCast_emod]; simp; omega
            clear hdv hs hsq
            go_wp2
            go_round
            case rel => exact ⟨d + 1, by go_num, HN⟩
            case measure => simp [intOf]; omega
        · have hle1 : decide ((s : Int) ≤ (k : Int)) = false := decide_eq_false (by omega)
          have hle2 : decide (s ≤ k) = false := decide_eq_false hle
          have HY := Lib.hid (isP_true.2 (HT.out.yes (by omega) (by omega) (by omega)))
          clear hs hsq
          go_wp2
          go_ret
          exact ⟨by rw [HY.out]; rfl, rfl⟩
    · have hd2 : decide (n ≥ 1000000) = true := decide_eq_true (by omega)
      rw [isP_false.2 fun h => by have := h.2.1; omega]
      go_enter Tryz.func81, Tryz.ntmps81
      go_wp2
      go_ret
      exact ⟨rfl, rfl⟩

theorem resV_of_tmod (n : Int) (k : Nat) (hk : 1 ≤ k) : (if n.tmod k < 0 then n.tmod k + k else n.tmod k) = (resV n k : Nat) := by
  have hb : -(k : Int) < n.tmod k ∧ n.tmod k < k := by
    have hlt := Int.natAbs_tmod n k
    have : (n.tmod k).natAbs < k := by rw [hlt]; simp; exact Nat.mod_lt _ (by omega)
    omega
  have h1 := Int.tmod_add_mul_tdiv n k
  have hc : ((resV n k : Nat) : Int) = n % (k : Int) := by
    unfold resV
    have := Int.emod_nonneg n (show (k : Int) ≠ 0 by omega)
    omega
  rw [hc]
  have h2 : n % (k : Int) = n.tmod k % (k : Int) := by
    conv => lhs; rw [← h1, Int.add_mul_emod_self_left]
  rw [h2]
  split
  · rw [← Int.add_emod_right, Int.emod_eq_of_lt (by omega) (by omega)]
  · rw [Int.emod_eq_of_lt (by omega) (by omega)]
theorem resV_lt1 (a : Int) {p : Nat} (h : 1 ≤ p) : resV a p < p := by
  unfold resV
  have := Int.emod_lt_of_pos a (show (0 : Int) < p by omega)
  have := Int.emod_nonneg a (show (p : Int) ≠ 0 by omega)
  omega

set_option maxRecDepth 100000 in
set_option maxHeartbeats 400000 in
theorem Pick_any (n : Int) (k : Nat) (w : World) (hk : 1 ≤ k) (hk2 : k ≤ 1000000000000) : Calls Tryz.prog 6 #[.int .i64 n, .int .i64 k] w fun e w' => e = .returned (.int .i64 (resV n k : Nat)) ∧ w' = w := by
  have hb : -(k : Int) < n.tmod k ∧ n.tmod k < k := by
    have hlt := Int.natAbs_tmod n k
    have : (n.tmod k).natAbs < k := by rw [hlt]; simp; exact Nat.mod_lt _ (by omega)
    omega
  have hr := resV_of_tmod n k hk
  have hne : ((k : Int) != 0) = true := by simp; omega
  have hne0 : ¬ (k : Int) = 0 := by omega
  have hne1 : ¬ k = 0 := by omega
  have hw1 : IntKind.i64.wrap (n.tmod k) = n.tmod k := IntWalk.i64_in _ ⟨by omega, by omega⟩
  by_cases hlt : n.tmod k < 0
  · rw [if_pos hlt] at hr
    rw [← hr]
    have hd : decide (n.tmod k < 0) = true := decide_eq_true hlt
    clear hr
    go_enter Tryz.func6, Tryz.ntmps6
    go_wp2
    go_ret
    exact ⟨rfl, rfl⟩
  · rw [if_neg hlt] at hr
    rw [← hr]
    have hd : decide (n.tmod k < 0) = false := decide_eq_false hlt
    clear hr
    go_enter Tryz.func6, Tryz.ntmps6
    go_wp2
    go_ret
    exact ⟨rfl, rfl⟩


theorem mul_lt_big' {x y p : Nat} (hx : x < p) (hy : y < p) (hp : p ≤ 1000000) : x * y ≤ 1000000000000 := mul_lt_big hx hy hp
end Go.Proofs.YtinoomcboinokaaGreat