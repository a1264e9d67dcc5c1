/- cayleykit.Pick and (*cayleykit.Taker).Take. -/
import Derived.Test.YtpchomhfpfpckaaDoorTab
import Derived.BigQuiet
import Derived.Deep.QuietTactic
namespace Go.Proofs.YtpchomhfpfpckaaDoor
open Go Go.RowKit

def pickV (x n : Int) : Int := if x.tmod n < 0 then x.tmod n + n else x.tmod n
theorem pickV_in (x n : Int) (hn : 1 ≤ n) : 0 ≤ pickV x n ∧ pickV x n < n := by
  have h1 := Int.lt_tmod_of_pos x (show 0 < n by omega)
  have h2 := Int.tmod_lt_of_pos x (show 0 < n by omega)
  unfold pickV
  split <;> omega

set_option maxRecDepth 100000 in
theorem pick_any (x n : Int) (w : World) (hn : 1 ≤ n) (hn2 : n ≤ 9223372036854775807) : Calls Tryd.prog 54 #[.int .i64 x, .int .i64 n] w fun e w' => e = .returned (.int .i64 (pickV x n)) ∧ w' = w := by
  have h1 := Int.lt_tmod_of_pos x (show 0 < n by omega)
  have h2 := Int.tmod_lt_of_pos x (show 0 < n by omega)
  have h0 : ¬ n = 0 := by omega
  by_cases h : x.tmod n < 0
  · have hp : pickV x n = x.tmod n + n := by unfold pickV; rw [if_pos h]
    rw [hp]
    go_enter Tryd.func54, Tryd.ntmps54
    go_wp2
    go_ret
    exact ⟨rfl, rfl⟩
  · have hp : pickV x n = x.tmod n := by unfold pickV; rw [if_neg h]
    rw [hp]
    go_enter Tryd.func54, Tryd.ntmps54
    go_wp2
    go_ret
    exact ⟨rfl, rfl⟩

/-- A Taker at block t: it hands out zs, and stands at number k. -/
def TakerAt (w : World) (t : Nat) (v : Value) (zs : List Int) (k : Nat) : Prop := Row w t 70 #[v, .int .i64 k] ∧ Ints w t v zs

/-- What Take has done: nothing, or moved the Taker on; beside that only draws. -/
def Took (w : World) (t : Nat) (k : Nat) (n : Int) (e : Ending) (w' : World) : Prop :=
  ∃ (x : Int) (m : Nat), e = .returned (.int .i64 x) ∧ 0 ≤ x ∧ (x = 0 ∨ x < n) ∧ (w' = w.drewN m ∨ w' = (w.setCell ⟨t, 1, none⟩ (.int .i64 ((k + 1 : Nat) : Int))).drewN m)

set_option maxRecDepth 100000 in
set_option maxHeartbeats 400000 in
theorem take_any (t : Nat) (v : Value) (zs : List Int) (k : Nat) (n : Int) (w : World) (hl : zs.length ≤ 17592186044400) (hn2 : n ≤ 9223372036854775807) (h : TakerAt w t v zs k) :
    Calls Tryd.prog 81 #[.pointer (some ⟨t, 0, none⟩), .int .i64 n] w (Took w t k n) := by
  obtain ⟨hrow, A, c, rfl, hr⟩ := h
  have hc0 : w.cell? ⟨t, 0, none⟩ = some (.slice A zs.length c) := hrow.cell rfl
  have hc1 : w.cell? ⟨t, 1, none⟩ = some (.int .i64 k) := hrow.cell rfl
  have hf1 := hrow.frozen 1
  by_cases hk : zs.length ≤ k
  · have hd : decide ((zs.length : Int) ≤ (k : Int)) = true := by simp; omega
    clear hrow hr
    go_enter Tryd.func81, Tryd.ntmps81
    go_wp2
    go_quiet (fail)
    go_wp2
    go_ret
    exact ⟨0, _, rfl, by omega, .inl rfl, .inl rfl⟩
  · have hd : decide ((zs.length : Int) ≤ (k : Int)) = false := by simp; omega
    by_cases h1 : n < 1
    · clear hrow hr
      go_enter Tryd.func81, Tryd.ntmps81
      go_wp2
      go_quiet (fail)
      go_wp2
      go_ret
      exact ⟨0, _, rfl, by omega, .inl rfl, .inl rfl⟩
    · obtain ⟨b, o, rfl, hb, hcell⟩ := hr (by omega)
      have hck := hcell k (by omega)
      have hPI := pickV_in (zs.getD k 0) n (by omega)
      have hP := fun W => pick_any (zs.getD k 0) n W (by omega) hn2
      generalize zs.getD k 0 = y at hck hPI hP
      generalize pickV y n = x at hPI hP
      have hne : b ≠ t := by omega
      clear hrow hr hcell
      have HP := Lib.hid hPI
      clear hPI
      go_enter Tryd.func81, Tryd.ntmps81
      go_wp2
      go_quiet (fail)
      go_wp2
      go_quiet ((go_at_call 54; refine Calls.quiet_of_same (hP _)))
      go_wp2
      go_ret
      exact ⟨x, _, rfl, HP.out.1, .inr HP.out.2, .inr (World.drewN_drewN (w.setCell ⟨t, 1, none⟩ (.int .i64 ((k + 1 : Nat) : Int))) _ _)⟩
end Go.Proofs.YtpchomhfpfpckaaDoor
