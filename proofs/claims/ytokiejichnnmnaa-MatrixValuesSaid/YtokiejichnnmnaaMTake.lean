/- (*cayleykit.Taker).Take; the law's field. -/
import Derived.Test.YtokiejichnnmnaaMLivM
namespace Go.Proofs.Ytokiejichnnmnaa
open Go Go.RowKit Num

/-- A Taker at block t: it hands out the N numbers z, and stands at number k. -/
def MTk (w : World) (t : Nat) (A : Option Addr) (c N : Nat) (z : Nat → Int) (k : Nat) : Prop := Row w t 84 #[.slice A N c, .int .i64 k] ∧ Vec w (· < t) (.slice A N c) N z
/-- What Take has done: nothing, or moved the Taker on; beside that only draws. -/
def MTook (w : World) (t : Nat) (k n : Nat) (e : Ending) (w' : World) : Prop :=
  ∃ (x : Int) (m : Nat), e = .returned (.int .i64 x) ∧ 0 ≤ x ∧ x < n ∧ (w' = w.drewN m ∨ w' = (w.setCell ⟨t, 1, none⟩ (.int .i64 ((k + 1 : Nat) : Int))).drewN m)

set_option maxRecDepth 100000 in
set_option maxHeartbeats 1000000 in
theorem take_any (t : Nat) (A : Option Addr) (c N : Nat) (z : Nat → Int) (k n : Nat) (w : World) (hl : N ≤ 17592186044400) (hn1 : 2 ≤ n) (hn2 : n ≤ 1000000) (h : MTk w t A c N z k) :
    Calls Try.prog 99 #[.pointer (some ⟨t, 0, none⟩), .int .i64 n] w (MTook w t k n) := by
  obtain ⟨hrow, hr⟩ := h
  have hc0 := hrow.cell (i := 0) rfl
  have hc1 := hrow.cell (i := 1) rfl
  have hf1 := hrow.frozen 1
  have h1 : ¬ (n : Int) < 1 := by omega
  have h2 : decide ((n : Int) < 1) = false := decide_eq_false h1
  have h3 : decide (n < 1) = false := decide_eq_false (by omega)
  by_cases hk : N ≤ k
  · have hd : decide ((N : Int) ≤ (k : Int)) = true := decide_eq_true (by omega)
    have hd2 : decide (N ≤ k) = true := decide_eq_true hk
    clear hrow hr
    go_enter Try.func99, Try.ntmps99
    go_wp2
    go_quiet (fail)
    go_wp2
    go_ret
    exact ⟨0, _, rfl, by omega, by omega, .inl rfl⟩
  · have hd : decide ((N : Int) ≤ (k : Int)) = false := decide_eq_false (by omega)
    have hd2 : decide (N ≤ k) = false := decide_eq_false hk
    obtain ⟨A', c', e, _, hr⟩ := hr
    cases e
    obtain ⟨b, o, rfl, hb, hcell⟩ := hr (by omega)
    have hck := hcell k (by omega)
    have hlt := resV_lt (z k) (p := n) hn1
    have hP := fun W => Pick_any (z k) n W (by omega) (by omega)
    generalize z k = y at hck hlt hP
    generalize resV y n = x at hlt hP
    have hb' : b < t := hb
    have hne : b ≠ t := by omega
    clear hrow hr hcell hb
    go_enter Try.func99, Try.ntmps99
    go_wp2_with fail
    go_quiet (fail)
    go_wp2_with fail
    go_quiet ((go_at_call 41; refine Calls.quiet_of_same (hP _)))
    go_wp2_with fail
    go_ret
    exact ⟨x, _, rfl, by omega, by omega, .inr (World.drewN_drewN (w.setCell ⟨t, 1, none⟩ (.int .i64 ((k + 1 : Nat) : Int))) _ _)⟩
/-- The primes of the selection. -/
def fieldP : Nat → Nat
  | 0 => 2
  | 1 => 3
  | 2 => 5
  | 3 => 7
  | 4 => 11
  | 5 => 97
  | _ => 9973
theorem fieldP_mod : ∀ k, modB (fieldP k : Nat) = true
  | 0 => modB_check (n := 2) 2 (by decide +kernel) (by decide +kernel) (by decide +kernel) (by decide +kernel)
  | 1 => modB_check (n := 3) 2 (by decide +kernel) (by decide +kernel) (by decide +kernel) (by decide +kernel)
  | 2 => modB_check (n := 5) 3 (by decide +kernel) (by decide +kernel) (by decide +kernel) (by decide +kernel)
  | 3 => modB_check (n := 7) 3 (by decide +kernel) (by decide +kernel) (by decide +kernel) (by decide +kernel)
  | 4 => modB_check (n := 11) 4 (by decide +kernel) (by decide +kernel) (by decide +kernel) (by decide +kernel)
  | 5 => modB_check (n := 97) 10 (by decide +kernel) (by decide +kernel) (by decide +kernel) (by decide +kernel)
  | _ + 6 => modB_check (n := 9973) 100 (by decide +kernel) (by decide +kernel) (by decide +kernel) (by decide +kernel)

set_option maxRecDepth 100000 in
set_option maxHeartbeats 1000000 in
theorem field_any (n : Int) (w : World) : Calls Try.prog 71 #[.int .i64 n] w fun e w' => (∃ q : Nat, e = .returned (.int .i64 q) ∧ modB (q : Int) = true) ∧ Below w.heap.size w w' := by
  have hP := fun W => Pick_any n 7 W (by omega) (by omega)
  have hlt := resV_lt n (p := 7) (by omega)
  have hrow := row_new (W := w) rfl 3 #[.int .i64 2, .int .i64 3, .int .i64 5, .int .i64 7, .int .i64 11, .int .i64 97, .int .i64 9973]
  have HB := Lib.hid ((Below.refl w.heap.size w).alloc (Nat.le_refl _) (.cells #[.int .i64 2, .int .i64 3, .int .i64 5, .int .i64 7, .int .i64 11, .int .i64 97, .int .i64 9973] 3))
  generalize resV n 7 = x at hP hlt
  have HM := Lib.hid fieldP_mod
  go_enter Try.func71, Try.ntmps71
  go_wp2_with fail
  refine (hP _).mono ?_
  rintro e w2 ⟨rfl, rfl⟩
  rcases (by omega : x = 0 ∨ x = 1 ∨ x = 2 ∨ x = 3 ∨ x = 4 ∨ x = 5 ∨ x = 6) with rfl | rfl | rfl | rfl | rfl | rfl | rfl
  · have hc := hrow.cell (i := 0) rfl
    clear hrow hP hlt
    go_wp2_with fail
    go_ret
    exact ⟨⟨2, rfl, HM.out 0⟩, HB.out⟩
  · have hc := hrow.cell (i := 1) rfl
    clear hrow hP hlt
    go_wp2_with fail
    go_ret
    exact ⟨⟨3, rfl, HM.out 1⟩, HB.out⟩
  · have hc := hrow.cell (i := 2) rfl
    clear hrow hP hlt
    go_wp2_with fail
    go_ret
    exact ⟨⟨5, rfl, HM.out 2⟩, HB.out⟩
  · have hc := hrow.cell (i := 3) rfl
    clear hrow hP hlt
    go_wp2_with fail
    go_ret
    exact ⟨⟨7, rfl, HM.out 3⟩, HB.out⟩
  · have hc := hrow.cell (i := 4) rfl
    clear hrow hP hlt
    go_wp2_with fail
    go_ret
    exact ⟨⟨11, rfl, HM.out 4⟩, HB.out⟩
  · have hc := hrow.cell (i := 5) rfl
    clear hrow hP hlt
    go_wp2_with fail
    go_ret
    exact ⟨⟨97, rfl, HM.out 5⟩, HB.out⟩
  · have hc := hrow.cell (i := 6) rfl
    clear hrow hP hlt
    go_wp2_with fail
    go_ret
    exact ⟨⟨9973, rfl, HM.out 6⟩, HB.out⟩
end Go.Proofs.Ytokiejichnnmnaa
