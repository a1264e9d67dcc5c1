/- cayleylaw02.letters and cayleykit.Own. -/
import Derived.Test.YtlpepholcehojaaDoorWReads
import Derived.Test.YtlpepholcehojaaDoorWPick
namespace Go.Proofs.YtlpepholcehojaaDoor
open Go Go.RowKit

/-- The letter that a number selects. -/
def letV (x : Int) : Int := if pickV x 8 < 4 then pickV x 8 + 1 else 3 - pickV x 8
def letL (zs : List Int) : List Int := zs.map letV
theorem letV_in (x : Int) : (1 ≤ letV x ∧ letV x ≤ 4) ∨ (-4 ≤ letV x ∧ letV x ≤ -1) := by
  have := pickV_in x 8 (by omega)
  unfold letV
  split <;> omega
theorem letL_length (zs : List Int) : (letL zs).length = zs.length := by simp [letL]
theorem letL_small (zs : List Int) : ∀ x ∈ letL zs, x ≠ 0 ∧ -4 ≤ x ∧ x ≤ 4 := fun x hx => by
  obtain ⟨y, _, rfl⟩ := List.mem_map.1 hx
  have := letV_in y
  omega
theorem letL_lets (zs : List Int) : Lets (letL zs) := fun x hx => by
  have := letL_small zs x hx
  omega
theorem letL_take {zs : List Int} {k : Nat} (h : k < zs.length) : letL (zs.take (k + 1)) = letL (zs.take k) ++ [letV (zs.getD k 0)] := by
  rw [take_snoc h]; simp [letL]

theorem letV_lo {z : Int} (h : pickV z 8 < 4) : letV z = pickV z 8 + 1 := if_pos h
theorem letV_hi {z : Int} (h : ¬ pickV z 8 < 4) : letV z = 3 - pickV z 8 := if_neg h


set_option maxRecDepth 100000 in
set_option maxHeartbeats 400000 in
theorem letters_any (v : Value) (zs : List Int) (w : World) (hl : zs.length ≤ 1000000) (hv : Ints w w.heap.size v zs) :
    Calls Tryd.prog 5 #[v] w fun e w' => ∃ r, e = .returned r ∧ OwnsI w' w.heap.size r (letL zs) ∧ Below w.heap.size w w' := by
  obtain ⟨i0, hi, hz0, hz1, hz2⟩ := info_parts info3'
  obtain ⟨A, c, rfl, h⟩ := hv
  have hat : ∀ j, j < zs.length → ∃ b o, A = some ⟨b, o, none⟩ ∧ b < w.heap.size ∧ w.cell? ⟨b, o + j, none⟩ = some (.int .i64 (zs.getD j 0)) := fun j hj => by
    obtain ⟨b, o, e, hb, hc⟩ := h (by omega)
    exact ⟨b, o, e, hb, hc j hj⟩
  have HA := Lib.hid hat
  clear h hat
  have HO := Lib.hid (show OwnsI w w.heap.size (.slice none 0 0) (letL (zs.take 0)) from owns_nil w _)
  have HB := Lib.hid (Below.refl w.heap.size w)
  go_enter Tryd.func5, Tryd.ntmps5
  go_wp2
  go_loopw [3, 4] (fun v i wr => ∃ k : Nat, i = .int .i64 k ∧ k ≤ zs.length ∧ OwnsI wr w.heap.size v (letL (zs.take k)) ∧ Below w.heap.size w wr) (fun _ i _ => zs.length - (intOf i).toNat)
  case atStart => exact ⟨0, rfl, Nat.zero_le _, HO.out, HB.out⟩
  case round =>
    obtain ⟨k, rfl, hk, hO, hB⟩ := hrel
    have hBs := hB.size
    by_cases hlt : k < zs.length
    · obtain ⟨b, o, rfl, hbl, hc⟩ := HA.out k hlt
      have hcr : wr.cell? ⟨b, o + k, none⟩ = some (.int .i64 (zs.getD k 0)) := (hB.cell hbl).trans hc
      have HE := Lib.hid (letL_take hlt)
      have hlen : (letL (zs.take k)).length = k := by rw [letL_length]; simp; omega
      have HP := fun W => Lib.hid (pick_any (zs.getD k 0) 8 W (by omega) (by omega))
      have hp := pickV_in (zs.getD k 0) 8 (by omega)
      have S1 := Lib.hid (@letV_lo (zs.getD k 0))
      have S2 := Lib.hid (@letV_hi (zs.getD k 0))
      have HO2 := Lib.hid hO
      have HB2 := Lib.hid hB
      clear hO hB hc
      generalize letL (zs.take k) = s at HO2 HE hlen
      generalize letV (zs.getD k 0) = y at HE S1 S2
      generalize pickV (zs.getD k 0) 8 = p at HP hp S1 S2
      generalize zs.getD k 0 = x at hcr HP
      by_cases h4 : p < 4
      · have e := S1.out h4
        have hlt4 : decide (p < 4) = true := by simpa using h4
        subst e
        clear S1 S2
        go_wp2_with fail
        refine ((HP _).out).mono ?_
        rintro e w1 ⟨rfl, rfl⟩
        go_wp2_with (at_builtin; refine wpList_append_ints _ rfl (.tmp 19) (.tmp 22) 24 24 rfl w.heap.size 3 i0 Tryd.underlying24 Tryd.underlying24 hi hz0 hz1 hz2 _ _ s [p + 1] _ rfl (HO2.out.alloc _) rfl (ints_one _ _) (by simp; omega) (by simp; omega) ?_; intro v1 w1 hown hgrow _; have HX := Lib.hid hown; have HB3 := Lib.hid (below_append HB2.out hBs HO2.out hgrow); clear hown hgrow)
        go_roundw
        case rel => exact ⟨k + 1, by go_num, by omega, by rw [HE.out]; exact HX.out, HB3.out⟩
        case measure => simp [intOf]; omega
      · have e := S2.out h4
        have hlt4 : decide (p < 4) = false := by simpa using h4
        subst e
        clear S1 S2
        go_wp2_with fail
        refine ((HP _).out).mono ?_
        rintro e w1 ⟨rfl, rfl⟩
        go_wp2_with (at_builtin; refine wpList_append_ints _ rfl (.tmp 24) (.tmp 27) 24 24 rfl w.heap.size 3 i0 Tryd.underlying24 Tryd.underlying24 hi hz0 hz1 hz2 _ _ s [3 - p] _ rfl (HO2.out.alloc _) rfl (ints_one _ _) (by simp; omega) (by simp; omega) ?_; intro v1 w1 hown hgrow _; have HX := Lib.hid hown; have HB3 := Lib.hid (below_append HB2.out hBs HO2.out hgrow); clear hown hgrow)
        go_roundw
        case rel => exact ⟨k + 1, by go_num, by omega, by rw [HE.out]; exact HX.out, HB3.out⟩
        case measure => simp [intOf]; omega
    · have e : zs.take k = zs := List.take_of_length_le (by omega)
      rw [e] at hO
      have HO2 := Lib.hid hO
      have HB2 := Lib.hid hB
      clear hO hB
      go_wp2
      go_ret
      exact ⟨_, rfl, HO2.out, HB2.out⟩

end Go.Proofs.YtlpepholcehojaaDoor