/- cayleykit.Pick, the reference's Next and Mod, cayleylaw03.small. -/
import Derived.Test.YtbcbkeeadbfjmaaPrRefA
import Derived.Test.YtbcbkeeadbfjmaaPrLives
namespace Go.Proofs.Ytbcbkeeadbfjmaa
open Go Go.RowKit Num

theorem resV_of_tmod (n : Int) (k : Nat) (hk : 1 ≤ k) : (if n.tmod k < 0 then n.tmod k + k else n.tmod k) = (resV n k : Nat) := by
  have hb : -(k : Int) < n.tmod k ∧ n.tmod k < k := by
    have hlt := Int.natAbs_tmod n k
    have : (n.tmod k).natAbs < k := by rw [hlt]; simp; exact Nat.mod_lt _ (by omega)
    omega
  have h1 := Int.tmod_add_mul_tdiv n k
  have hc : ((resV n k : Nat) : Int) = n % (k : Int) := by
    unfold resV
    have := Int.emod_nonneg n (show (k : Int) ≠ 0 by omega)
    omega
  rw [hc]
  have h2 : n % (k : Int) = n.tmod k % (k : Int) := by
    conv => lhs; rw [← h1, Int.add_mul_emod_self_left]
  rw [h2]
  split
  · rw [← Int.add_emod_right, Int.emod_eq_of_lt (by omega) (by omega)]
  · rw [Int.emod_eq_of_lt (by omega) (by omega)]
theorem resV_lt1 (a : Int) {p : Nat} (h : 1 ≤ p) : resV a p < p := by
  unfold resV
  have := Int.emod_lt_of_pos a (show (0 : Int) < p by omega)
  have := Int.emod_nonneg a (show (p : Int) ≠ 0 by omega)
  omega

set_option maxRecDepth 100000 in
set_option maxHeartbeats 400000 in
theorem Pick_any (n : Int) (k : Nat) (w : World) (hk : 1 ≤ k) (hk2 : k ≤ 1000000000000) : Calls Try.prog 42 #[.int .i64 n, .int .i64 k] w fun e w' => e = .returned (.int .i64 (resV n k : Nat)) ∧ w' = w := by
  have hb : -(k : Int) < n.tmod k ∧ n.tmod k < k := by
    have hlt := Int.natAbs_tmod n k
    have : (n.tmod k).natAbs < k := by rw [hlt]; simp; exact Nat.mod_lt _ (by omega)
    omega
  have hr := resV_of_tmod n k hk
  have hne : ((k : Int) != 0) = true := by simp; omega
  have hne0 : ¬ (k : Int) = 0 := by omega
  have hne1 : ¬ k = 0 := by omega
  have hw1 : IntKind.i64.wrap (n.tmod k) = n.tmod k := IntWalk.i64_in _ ⟨by omega, by omega⟩
  by_cases hlt : n.tmod k < 0
  · rw [if_pos hlt] at hr
    rw [← hr]
    have hd : decide (n.tmod k < 0) = true := decide_eq_true hlt
    clear hr
    go_enter Try.func42, Try.ntmps42
    go_wp2
    go_ret
    exact ⟨rfl, rfl⟩
  · rw [if_neg hlt] at hr
    rw [← hr]
    have hd : decide (n.tmod k < 0) = false := decide_eq_false hlt
    clear hr
    go_enter Try.func42, Try.ntmps42
    go_wp2
    go_ret
    exact ⟨rfl, rfl⟩

/-- In the reference's Next: all up to k are tried. -/
def RefNextAt (n k : Int) : Prop := 1 ≤ k ∧ k ≤ 1000000 ∧ (k < 1000000 → n ≤ k) ∧ ∀ r, n < r → r ≤ k → ¬ PrI r
theorem RefNextAt.next {n k : Int} (h : RefNextAt n k) (hk : k < 1000000) (hp : ¬ PrI (k + 1)) : RefNextAt n (k + 1) := by
  obtain ⟨h1, h2, h3, h4⟩ := h
  refine ⟨by omega, by omega, fun _ => by have := h3 hk; omega, fun r a b => ?_⟩
  by_cases e : r = k + 1
  · subst e; exact hp
  · exact h4 r a (by omega)
theorem RefNextAt.hit {n k : Int} (h : RefNextAt n k) (hk : k < 1000000) (hp : PrI (k + 1)) : NextIs n (k + 1) :=
  ⟨hp, by have := h.2.2.1 hk; omega, fun r a b => h.2.2.2 r a (by omega)⟩
theorem RefNextAt.miss {n k : Int} (h : RefNextAt n k) (hk : ¬ k < 1000000) : NoNext n := fun r a hp => h.2.2.2 r a (by have := hp.lt; omega) hp
theorem next_great {n : Int} (h : ¬ n < 1000000) : NoNext n := fun r a hp => by have := hp.lt; omega

set_option maxRecDepth 100000 in
set_option maxHeartbeats 400000 in
theorem refNext_any (n : Int) (w : World) : Calls Try.prog 28 #[.int .i64 n] w (NextRet n w) := by
  have HC := fun q => Lib.hid (refIs_any q w)
  by_cases hg : n < 1000000
  · have h3 : (n < 1 ∧ Hid (RefNextAt n 1)) ∨ (1 ≤ n ∧ Hid (RefNextAt n n)) := by
      by_cases h1 : n < 1
      · exact .inl ⟨h1, Lib.hid ⟨by omega, by omega, fun _ => by omega, fun r a b hp => by have := hp.ge; omega⟩⟩
      · exact .inr ⟨by omega, Lib.hid ⟨by omega, by omega, fun _ => by omega, fun r a b => by omega⟩⟩
    rcases h3 with ⟨h1, HS⟩ | ⟨h1, HS⟩
    all_goals
      go_enter Try.func28, Try.ntmps28
      go_wp2
      go_loop [4] (fun t => ∃ q : Int, t = .int .i64 q ∧ Hid (RefNextAt n q)) (fun t => (1000002 - intOf t).toNat)
      case atStart => exact ⟨_, rfl, HS⟩
      case round =>
        obtain ⟨q, rfl, HA⟩ := hrel
        have ha := HA.out.1
        have hb := HA.out.2.1
        by_cases hq : q < 1000000
        · have HC2 := HC (q + 1)
          by_cases hp : PrI (q + 1)
          · have HN := Lib.hid (HA.out.hit hq hp)
            rw [isP_true.2 hp] at HC2
            clear hp
            go_wp2_with fail
            refine HC2.out.mono ?_
            rintro e w' ⟨rfl, rfl⟩
            go_wp2
            go_ret2
            exact ⟨q + 1, 0, .inl ⟨HN.out, rfl⟩, rfl, rfl⟩
          · have HN := Lib.hid (HA.out.next hq hp)
            rw [isP_false.2 hp] at HC2
            clear hp
            go_wp2_with fail
            refine HC2.out.mono ?_
            rintro e w' ⟨rfl, rfl⟩
            go_wp2
            go_round
            case rel => exact ⟨q + 1, rfl, HN⟩
            case measure => simp [intOf]; omega
        · have HN := Lib.hid (HA.out.miss hq)
          go_wp2
          go_ret2
          exact ⟨0, 2, .inr ⟨HN.out, rfl, rfl⟩, rfl, rfl⟩
  · have HN := Lib.hid (next_great hg)
    have h1 : 1 < n := by omega
    have hd : decide (n < 1000000) = false := decide_eq_false hg
    go_enter Try.func28, Try.ntmps28
    go_wp2
    refine wp_loop_rounds 1 ?_
    rw [rounds_succ]
    go_wp2
    go_ret2
    exact ⟨0, 2, .inr ⟨HN.out, rfl, rfl⟩, rfl, rfl⟩

theorem p397 : PrI (397 : Int) := pri_check (n := 397) 20 (by decide) (by decide) (by decide +kernel) (by decide)
theorem next_small {k : Nat} (hk : k < 390) {q x : Int} (h : NextV k q x) : x = 0 ∧ ∃ p : Nat, q = p ∧ P6 p ∧ p ≤ 397 := by
  rcases h with ⟨h, rfl⟩ | ⟨h, _, _⟩
  · refine ⟨rfl, q.toNat, ?_, ⟨h.1.2.2, ?_⟩, ?_⟩
    · have := h.1.1; omega
    · have := h.1.2.1; omega
    · have : ¬ 397 < q := fun hl => h.2.2 397 (by omega) hl p397
      omega
  · exact (h 397 (by omega) p397).elim
/-- What small returns: a prime up to 397. -/
def SmallRet (w : World) (e : Ending) (w' : World) : Prop := ∃ p : Nat, P6 p ∧ p ≤ 397 ∧ e = .returned (.int .i64 p) ∧ w' = w

set_option maxRecDepth 100000 in
set_option maxHeartbeats 400000 in
theorem small_any (n : Int) (w : World) : Calls Try.prog 41 #[.int .i64 n] w (SmallRet w) := by
  have HP := Lib.hid (Pick_any n 390 w (by decide) (by decide))
  have hk := resV_lt1 n (p := 390) (by decide)
  have HN := Lib.hid (refNext_any (resV n 390 : Nat) w)
  generalize resV n 390 = k at HP hk HN
  go_enter Try.func41, Try.ntmps41
  go_wp2_with fail
  refine HP.out.mono ?_
  rintro e w1 ⟨rfl, rfl⟩
  go_wp2_with fail
  refine HN.out.mono ?_
  rintro e w2 ⟨q, x, hv, rfl, rfl⟩
  obtain ⟨rfl, p, rfl, hp, hl⟩ := next_small hk hv
  have HP2 := Lib.hid hp
  clear hp hv
  go_wp2
  go_ret
  exact ⟨p, HP2.out, hl, rfl, rfl⟩
end Go.Proofs.Ytbcbkeeadbfjmaa
