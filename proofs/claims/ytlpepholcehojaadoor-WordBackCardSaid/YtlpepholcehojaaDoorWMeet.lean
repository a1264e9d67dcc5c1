/- The pile of Subst: how words meet; cancelled of two words. -/
import Derived.Test.YtlpepholcehojaaDoorWRefSubst
import Derived.Test.YtlpepholcehojaaDoorWRefPow
import Derived.WalkSmall
namespace Go.Proofs.YtlpepholcehojaaDoor
open Go Go.RowKit

/-- The k letters at the end of a are inverse to the k at the beginning of b, and no more. -/
def MeetAt (a b : List Int) (k : Nat) : Prop := k ≤ a.length ∧ k ≤ b.length ∧ (∀ j, j < k → canc (a.getD (a.length - 1 - j) 0) (b.getD j 0) = true) ∧ (k < a.length → k < b.length → canc (a.getD (a.length - 1 - k) 0) (b.getD k 0) = false)
theorem take_last {a : List Int} {n : Nat} (h : n < a.length) : a.take (n + 1) = a.take n ++ [a.getD n 0] := by
  rw [List.take_succ_eq_append_getElem h]; simp [List.getD_eq_getElem?_getD, h]
theorem drop_first {b : List Int} {n : Nat} (h : n < b.length) : b.drop n = b.getD n 0 :: b.drop (n + 1) := by
  rw [List.drop_eq_getElem_cons h]; simp [List.getD_eq_getElem?_getD, h]
theorem sim_meet {a b : List Int} : ∀ k, k ≤ a.length → k ≤ b.length → (∀ j, j < k → canc (a.getD (a.length - 1 - j) 0) (b.getD j 0) = true) → sim (a ++ b) (a.take (a.length - k) ++ b.drop k)
  | 0, _, _, _ => by simp; exact sim.refl _
  | k + 1, ha, hb, h => by
    refine (sim_meet k (by omega) (by omega) fun j hj => h j (by omega)).trans ?_
    have e1 : a.take (a.length - k) = a.take (a.length - (k + 1)) ++ [a.getD (a.length - 1 - k) 0] := by
      rw [show a.length - k = (a.length - (k + 1)) + 1 by omega, take_last (by omega), show a.length - (k + 1) = a.length - 1 - k by omega]
    rw [e1, drop_first (show k < b.length by omega)]
    have e2 : (a.take (a.length - (k + 1)) ++ [a.getD (a.length - 1 - k) 0]) ++ b.getD k 0 :: b.drop (k + 1) = a.take (a.length - (k + 1)) ++ ([a.getD (a.length - 1 - k) 0, b.getD k 0] ++ b.drop (k + 1)) := by simp
    rw [e2]
    have h3 := (sim.refl (a.take (a.length - (k + 1)))).append ((sim_pair (h k (by omega))).append (sim.refl (b.drop (k + 1))))
    simpa using h3
/-- Where the letters no more meet, the join is reduced. -/
theorem meet_red {P a b : List Int} {k : Nat} (hP : Red (P ++ a)) (hb : Red b) (h : MeetAt a b k) (hk : k < a.length) : Red (P ++ a.take (a.length - k) ++ b.drop k) := by
  obtain ⟨h1, h2, h3, h4⟩ := h
  have e1 : a.take (a.length - k) = a.take (a.length - 1 - k) ++ [a.getD (a.length - 1 - k) 0] := by
    rw [show a.length - k = (a.length - 1 - k) + 1 by omega, take_last (by omega)]
  have hpre : Red (P ++ a.take (a.length - k)) := by
    have : P ++ a = (P ++ a.take (a.length - k)) ++ a.drop (a.length - k) := by rw [List.append_assoc, List.take_append_drop]
    rw [this] at hP
    exact hP.left
  have hsuf : Red (b.drop k) := by
    have : b = b.take k ++ b.drop k := (List.take_append_drop k b).symm
    rw [this] at hb
    exact hb.right
  by_cases hkb : k < b.length
  · rw [drop_first hkb] at hsuf ⊢
    rw [e1] at hpre ⊢
    have h5 := Red.join (u := P ++ a.take (a.length - 1 - k)) (z := a.getD (a.length - 1 - k) 0) (x := b.getD k 0) (v := b.drop (k + 1)) (by rw [List.append_assoc]; exact hpre) hsuf (h4 hk hkb)
    simpa using h5
  · rw [List.drop_of_length_le (show b.length ≤ k by omega), List.append_nil]
    exact hpre

set_option maxRecDepth 100000 in
set_option maxHeartbeats 1000000 in
theorem cancelled2_any (v u : Value) (a b : List Int) (w : World) (hl : a.length ≤ 1000000) (hl2 : b.length ≤ 1000000) (hr : Rng a) (hs : Rng b) (hv : Ints w w.heap.size v a) (hu : Ints w w.heap.size u b) :
    Calls Tryd.prog 36 #[v, u] w fun e w' => ∃ k n : Nat, e = .returned (.int .i64 (k : Int)) ∧ MeetAt a b k ∧ w' = w.drewN n := by
  obtain ⟨A, c, rfl, h⟩ := hv
  obtain ⟨B, d, rfl, h'⟩ := hu
  have hat : ∀ j, j < a.length → j < b.length → ∃ p o p2 o2, A = some ⟨p, o, none⟩ ∧ B = some ⟨p2, o2, none⟩ ∧ w.cell? ⟨p2, o2 + j, none⟩ = some (.int .i64 (b.getD j 0)) ∧ w.cell? ⟨p, o + (a.length - 1 - j), none⟩ = some (.int .i64 (a.getD (a.length - 1 - j) 0)) := fun j hj hj2 => by
    obtain ⟨p, o, e, hb, hc⟩ := h (by omega)
    obtain ⟨p2, o2, e2, hb2, hc2⟩ := h' (by omega)
    exact ⟨p, o, p2, o2, e, e2, hc2 j hj2, hc _ (by omega)⟩
  have HA := Lib.hid hat
  have HR := Lib.hid hr
  have HS := Lib.hid hs
  clear h h' hat hr hs
  go_enter Tryd.func36, Tryd.ntmps36
  go_wp2
  go_loopw [5] (fun i wr => ∃ k n : Nat, i = .int .i64 k ∧ k ≤ a.length ∧ k ≤ b.length ∧ Hid (∀ j, j < k → canc (a.getD (a.length - 1 - j) 0) (b.getD j 0) = true) ∧ wr = w.drewN n) (fun i _ => a.length - (intOf i).toNat)
  case atStart => exact ⟨0, 0, rfl, Nat.zero_le _, Nat.zero_le _, (fun j hj => absurd hj (by omega)), rfl⟩
  case round =>
    obtain ⟨k, n, rfl, hk, hk2, HE, hwr⟩ := hrel
    have HW := Lib.hid (show ∀ m q, q = wr.drewN m → ∃ n', q = w.drewN n' from fun m q e => ⟨n + m, by rw [e, hwr, World.drewN_drewN]⟩)
    have hcl : ∀ p, wr.cell? p = w.cell? p := fun p => by rw [hwr]; rfl
    by_cases hlt : k < a.length
    · by_cases hlt2 : k < b.length
      · obtain ⟨p, o, p2, o2, rfl, rfl, hc, hc'⟩ := HA.out k hlt hlt2
        rw [← hcl] at hc hc'
        clear hcl hwr
        have HC := fun W => cancel_any (a.getD (a.length - 1 - k) 0) (b.getD k 0) W (HR.out.at (by omega)) (HS.out.at hlt2)
        have hw1 : IntKind.i64.wrap ((a.length : Int) - 1) = (a.length : Int) - 1 := by rw [IntKind.wrap_i64]; omega
        have hw2 : IntKind.i64.wrap ((a.length : Int) - 1 - (k : Int)) = ((a.length - 1 - k : Nat) : Int) := by rw [IntKind.wrap_i64]; omega
        have hin2 : a.length - 1 - k < a.length := by omega
        cases hb : canc (a.getD (a.length - 1 - k) 0) (b.getD k 0) with
        | true =>
          rw [hb] at HC
          have HE2 : Hid (∀ j, j < k + 1 → canc (a.getD (a.length - 1 - j) 0) (b.getD j 0) = true) := fun j hj => by
            by_cases e : j = k
            · subst e; exact hb
            · exact HE j (by omega)
          clear HE hb
          generalize a.getD (a.length - 1 - k) 0 = x at hc' HC
          generalize b.getD k 0 = y at hc HC
          have HC2 := Lib.hid HC
          clear HC
          go_wp2
          go_quiet (refine Calls.quiet_of_same (HC2.out _))
          go_wp2
          go_roundw
          case rel => obtain ⟨n', e⟩ := HW.out _ _ rfl; exact ⟨k + 1, n', by go_num, by omega, by omega, HE2, e⟩
          case measure => simp [intOf]; omega
        | false =>
          rw [hb] at HC
          have HXX := Lib.hid (show MeetAt a b k from ⟨hk, hk2, HE, fun _ _ => hb⟩)
          clear HE hb
          generalize a.getD (a.length - 1 - k) 0 = x at hc' HC
          generalize b.getD k 0 = y at hc HC
          have HC2 := Lib.hid HC
          clear HC
          go_wp2
          go_quiet (refine Calls.quiet_of_same (HC2.out _))
          go_wp2
          go_ret
          obtain ⟨n', e⟩ := HW.out _ _ rfl; exact ⟨k, n', rfl, HXX.out, e⟩
      · clear hcl hwr
        have HXX := Lib.hid (show MeetAt a b k from ⟨hk, hk2, HE, fun _ h => absurd h hlt2⟩)
        have hd : decide (k < b.length) = false := by simp; omega
        clear HE
        go_wp2
        go_quiet (fail)
        go_wp2
        go_ret
        obtain ⟨n', e⟩ := HW.out _ _ rfl; exact ⟨k, n', rfl, HXX.out, e⟩
    · clear hcl hwr
      have HXX := Lib.hid (show MeetAt a b k from ⟨hk, hk2, HE, fun h => absurd h hlt⟩)
      have hd : decide (k < a.length) = false := by simp; omega
      clear HE hlt
      go_wp2
      go_quiet (fail)
      go_wp2
      go_ret
      obtain ⟨n', e⟩ := HW.out _ _ rfl; exact ⟨k, n', rfl, HXX.out, e⟩
end Go.Proofs.YtlpepholcehojaaDoor
