/- linear: the first entry that is not 0; isZero. -/
import Derived.Test.YtinoomcboinokaaGreatLinA
import Derived.WalkKit
namespace Go.Proofs.YtinoomcboinokaaGreat
open Go Go.RowKit Num

theorem firstNZ_is {f : Nat → Int} : ∀ {n j}, j < n → f j ≠ 0 → (∀ i, i < j → f i = 0) → firstNZ f n = some j
  | 0, _, h, _, _ => absurd h (by omega)
  | n + 1, j, h, h1, h2 => by
    unfold firstNZ
    by_cases e : j = n
    · subst e
      cases hf : firstNZ f j with
      | none => simp [h1]
      | some i =>
        obtain ⟨a, b, _⟩ := firstNZ_some hf
        exact absurd (h2 i a) b
    · rw [firstNZ_is (n := n) (by omega) h1 h2]
theorem firstNZ_all {f : Nat → Int} : ∀ {n}, (∀ i, i < n → f i = 0) → firstNZ f n = none
  | 0, _ => rfl
  | n + 1, h => by
    unfold firstNZ
    rw [firstNZ_all (n := n) (fun i hi => h i (by omega))]
    simp [h n (by omega)]
/-- The index that IndexFunc gives. -/
def nzI : Option Nat → Int
  | some j => j
  | none => -1
set_option maxRecDepth 100000 in
set_option maxHeartbeats 400000 in
theorem isNotZero_any (x : Int) (w : World) : Calls Tryz.prog 66 #[.int .i64 x] w fun e w' => e = .returned (.bool (x != 0)) ∧ w' = w := by
  generalize hq : (x != 0) = q
  go_enter Tryz.func66, Tryz.ntmps66
  go_wp2
  go_ret
  exact ⟨rfl, rfl⟩
set_option maxRecDepth 100000 in
set_option maxHeartbeats 400000 in
theorem indexNZ_any (v : Value) (n : Nat) (f : Nat → Int) (S : Nat → Prop) (w : World) (hn : n ≤ 1000000) (hv : Vec w S v n f) :
    Calls Tryz.prog 83 #[v, .func (.func 66) #[] #[]] w fun e w' => e = .returned (.int .i64 (nzI (firstNZ f n))) ∧ w' = w := by
  obtain ⟨A, c, rfl, hnc, hv⟩ := hv
  have HV := Lib.hid hv
  clear hv
  go_enter Tryz.func83, Tryz.ntmps83
  go_wp2
  go_loop [8] (fun i => ∃ j : Nat, i = .int .i64 j ∧ j ≤ n ∧ Hid (∀ i, i < j → f i = 0)) (fun i => n - (intOf i).toNat)
  case atStart => exact ⟨0, rfl, Nat.zero_le _, Lib.hid fun i h => absurd h (by omega)⟩
  case round =>
    obtain ⟨j, rfl, hj, HA⟩ := hrel
    by_cases hlt : j < n
    · obtain ⟨b, o, rfl, hb1, hcv⟩ := HV.out (by omega)
      have hx := hcv j hlt
      have hC1 := Lib.hid (isNotZero_any (f j) w)
      by_cases hz : f j = 0
      · have HE := Lib.hid (show ∀ i, i < j + 1 → f i = 0 from fun i hi => by
          by_cases e : i = j
          · subst e; exact hz
          · exact HA.out i (by omega))
        rw [show (f j != 0) = false by simp [hz]] at hC1
        generalize f j = x at hx hC1
        clear hz hcv
        go_wp2_with fail
        refine hC1.out.mono ?_
        rintro e w' ⟨rfl, rfl⟩
        go_wp2
        go_round
        case rel => exact ⟨j + 1, by go_num, by omega, HE⟩
        case measure => simp [intOf]; omega
      · have HE := Lib.hid (show nzI (firstNZ f n) = j by rw [firstNZ_is hlt hz HA.out]; rfl)
        rw [show (f j != 0) = true by simp [hz]] at hC1
        generalize f j = x at hx hC1
        clear hz hcv
        go_wp2_with fail
        refine hC1.out.mono ?_
        rintro e w' ⟨rfl, rfl⟩
        go_wp2
        go_ret
        exact ⟨ret_int HE.out.symm, rfl⟩
    · have HE := Lib.hid (show nzI (firstNZ f n) = -1 by rw [firstNZ_all (fun i hi => HA.out i (by omega))]; rfl)
      go_wp2
      go_ret
      exact ⟨ret_int HE.out.symm, rfl⟩
set_option maxRecDepth 100000 in
set_option maxHeartbeats 400000 in
theorem containsNZ_any (v : Value) (n : Nat) (f : Nat → Int) (S : Nat → Prop) (w : World) (hn : n ≤ 1000000) (hv : Vec w S v n f) :
    Calls Tryz.prog 65 #[v, .func (.func 66) #[] #[]] w fun e w' => e = .returned (.bool (firstNZ f n).isSome) ∧ w' = w := by
  have HC := Lib.hid (indexNZ_any v n f S w hn hv)
  obtain ⟨A, c, rfl, hnc⟩ := hv.form
  clear hv
  have hd : decide (nzI (firstNZ f n) ≥ 0) = (firstNZ f n).isSome := by
    cases firstNZ f n with
    | none => rfl
    | some j => exact decide_eq_true (by show (0 : Int) ≤ (j : Int); omega)
  generalize (firstNZ f n).isSome = q at hd ⊢
  generalize nzI (firstNZ f n) = r at HC hd
  go_enter Tryz.func65, Tryz.ntmps65
  go_wp2_with fail
  refine HC.out.mono ?_
  rintro e w' ⟨rfl, rfl⟩
  go_wp2
  go_ret
  exact ⟨rfl, rfl⟩
set_option maxRecDepth 100000 in
set_option maxHeartbeats 400000 in
theorem isZero_any (v : Value) (n : Nat) (f : Nat → Int) (S : Nat → Prop) (w : World) (hn : n ≤ 1000000) (hv : Vec w S v n f) :
    Calls Tryz.prog 36 #[v] w fun e w' => e = .returned (.bool !(firstNZ f n).isSome) ∧ w' = w := by
  have HC := Lib.hid (containsNZ_any v n f S w hn hv)
  obtain ⟨A, c, rfl, hnc⟩ := hv.form
  clear hv
  generalize (firstNZ f n).isSome = q at HC ⊢
  go_enter Tryz.func36, Tryz.ntmps36
  go_wp2_with fail
  refine HC.out.mono ?_
  rintro e w' ⟨rfl, rfl⟩
  go_wp2
  go_ret
  exact ⟨rfl, rfl⟩
end Go.Proofs.YtinoomcboinokaaGreat
