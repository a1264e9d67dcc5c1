/- word.ends: how many letters at the beginning are inverse to those at the end. -/
import Derived.Test.YtlpepholcehojaaDoorWCuts
import Derived.Test.YtlpepholcehojaaDoorWPowMath
import Derived.Test.YtlpepholcehojaaDoorWRepeat
import Derived.Test.YtlpepholcehojaaDoorWCheck
namespace Go.Proofs.YtlpepholcehojaaDoor
open Go Go.RowKit

/-- The k letters at the beginning are inverse to the k at the end, and no more. -/
def pairAt (l : List Int) (j : Nat) : Bool := canc (l.getD (l.length - 1 - j) 0) (l.getD j 0)
def EndsAt (l : List Int) (k : Nat) : Prop := k ≤ l.length ∧ (∀ j, j < k → pairAt l j = true) ∧ (k < l.length → pairAt l k = false)

set_option maxRecDepth 100000 in
set_option maxHeartbeats 400000 in
theorem cancelled_any (v : Value) (zs : List Int) (w : World) (hl : zs.length ≤ 1000000) (hr : Rng zs) (hv : Ints w w.heap.size v zs) :
    Calls Tryd.prog 36 #[v, v] w fun e w' => ∃ k n : Nat, e = .returned (.int .i64 (k : Int)) ∧ EndsAt zs k ∧ w' = w.drewN n := by
  obtain ⟨A, c, rfl, h⟩ := hv
  have hat : ∀ j, j < zs.length → ∃ b o, A = some ⟨b, o, none⟩ ∧ w.cell? ⟨b, o + j, none⟩ = some (.int .i64 (zs.getD j 0)) ∧ w.cell? ⟨b, o + (zs.length - 1 - j), none⟩ = some (.int .i64 (zs.getD (zs.length - 1 - j) 0)) := fun j hj => by
    obtain ⟨b, o, e, hb, hc⟩ := h (by omega)
    exact ⟨b, o, e, hc j hj, hc _ (by omega)⟩
  have HA := Lib.hid hat
  have HR := Lib.hid hr
  clear h hat hr
  go_enter Tryd.func36, Tryd.ntmps36
  go_wp2
  go_loopw [5] (fun i wr => ∃ k n : Nat, i = .int .i64 k ∧ k ≤ zs.length ∧ Hid (∀ j, j < k → pairAt zs j = true) ∧ wr = w.drewN n) (fun i _ => zs.length - (intOf i).toNat)
  case atStart => exact ⟨0, 0, rfl, Nat.zero_le _, (fun j hj => absurd hj (by omega)), rfl⟩
  case round =>
    obtain ⟨k, n, rfl, hk, HE, hwr⟩ := hrel
    have HW := Lib.hid (show ∀ m q, q = wr.drewN m → ∃ n', q = w.drewN n' from fun m q e => ⟨n + m, by rw [e, hwr, World.drewN_drewN]⟩)
    have hcl : ∀ p, wr.cell? p = w.cell? p := fun p => by rw [hwr]; rfl
    by_cases hlt : k < zs.length
    · obtain ⟨b, o, rfl, hc, hc'⟩ := HA.out k hlt
      rw [← hcl] at hc hc'
      clear hcl hwr
      have HC := fun W => cancel_any (zs.getD (zs.length - 1 - k) 0) (zs.getD k 0) W (HR.out.at (by omega)) (HR.out.at hlt)
      have hw1 : IntKind.i64.wrap ((zs.length : Int) - 1) = (zs.length : Int) - 1 := by rw [IntKind.wrap_i64]; omega
      have hw2 : IntKind.i64.wrap ((zs.length : Int) - 1 - (k : Int)) = ((zs.length - 1 - k : Nat) : Int) := by rw [IntKind.wrap_i64]; omega
      have hin2 : zs.length - 1 - k < zs.length := by omega
      have HP : pairAt zs k = canc (zs.getD (zs.length - 1 - k) 0) (zs.getD k 0) := rfl
      cases hb : canc (zs.getD (zs.length - 1 - k) 0) (zs.getD k 0) with
      | true =>
        rw [hb] at HC HP
        have HE2 : Hid (∀ j, j < k + 1 → pairAt zs j = true) := fun j hj => by
          by_cases e : j = k
          · subst e; exact HP
          · exact HE j (by omega)
        clear HE hb HP
        generalize zs.getD (zs.length - 1 - k) 0 = x at hc' HC
        generalize zs.getD k 0 = y at hc HC
        have HC2 := Lib.hid HC
        clear HC
        go_wp2
        go_quiet (refine Calls.quiet_of_same (HC2.out _))
        go_wp2
        go_roundw
        case rel => obtain ⟨n', e⟩ := HW.out _ _ rfl; exact ⟨k + 1, n', by go_num, by omega, HE2, e⟩
        case measure => simp [intOf]; omega
      | false =>
        rw [hb] at HC HP
        have HX : EndsAt zs k := ⟨hk, HE, fun _ => HP⟩
        have HXX := Lib.hid HX
        clear HE hb HP HX
        generalize zs.getD (zs.length - 1 - k) 0 = x at hc' HC
        generalize zs.getD k 0 = y at hc HC
        have HC2 := Lib.hid HC
        clear HC
        go_wp2
        go_quiet (refine Calls.quiet_of_same (HC2.out _))
        go_wp2
        go_ret
        obtain ⟨n', e⟩ := HW.out _ _ rfl; exact ⟨k, n', rfl, HXX.out, e⟩
    · clear hcl hwr
      have HX : EndsAt zs k := ⟨hk, HE, fun h => absurd h hlt⟩
      have HXX := Lib.hid HX
      have hd : decide (k < zs.length) = false := by simp; omega
      clear HX HE hlt
      go_wp2
      go_quiet (fail)
      go_wp2
      go_ret
      obtain ⟨n', e⟩ := HW.out _ _ rfl; exact ⟨k, n', rfl, HXX.out, e⟩

set_option maxRecDepth 100000 in
theorem ends_any (v : Value) (zs : List Int) (w : World) (hl : zs.length ≤ 1000000) (hr : Rng zs) (hv : Ints w w.heap.size v zs) :
    Calls Tryd.prog 27 #[v] w fun e w' => ∃ k n : Nat, e = .returned (.int .i64 (k : Int)) ∧ EndsAt zs k ∧ w' = w.drewN n := by
  have HC := Lib.hid (cancelled_any v zs w hl hr hv)
  clear hv hr
  go_enter Tryd.func27, Tryd.ntmps27
  go_wp2_with fail
  refine (HC.out).mono ?_
  rintro e w' ⟨k, n, rfl, hE, rfl⟩
  go_wp2_with fail
  go_ret
  exact ⟨k, n, rfl, hE, rfl⟩
end Go.Proofs.YtlpepholcehojaaDoor
