/- The reference of layer 2 (seat ZD alone): cancel, inverse, Reduce, turned, join. -/
import Derived.Test.YtjllnbldpcmddaaGreatDoorWReads
import Derived.Test.YtjllnbldpcmddaaGreatDoorWEnds
namespace Go.Proofs.YtjllnbldpcmddaaGreatDoor
open Go Go.RowKit

set_option maxRecDepth 100000 in
theorem refInverse_any (x : Int) (w : World) (hx : -9223372036854775808 ≤ x ∧ x ≤ 9223372036854775807) :
    Calls Tryz.prog 46 #[.int .i64 x] w fun e w' => e = .returned (.int .i64 (nlet x)) ∧ w' = w := by
  have hw := wrap_nlet hx
  by_cases h : x = -9223372036854775808
  · have hn : nlet x = x := by unfold nlet; rw [if_pos h]
    rw [hn]
    have hb : (x == -9223372036854775808) = true := by simpa using h
    clear h hn hw
    go_enter Tryz.func46, Tryz.ntmps46
    go_wp2
    go_ret
    exact ⟨rfl, rfl⟩
  · have hb : (x == -9223372036854775808) = false := by simpa using h
    generalize nlet x = y at hw
    clear h
    go_enter Tryz.func46, Tryz.ntmps46
    go_wp2
    go_ret
    exact ⟨rfl, rfl⟩

set_option maxRecDepth 100000 in
theorem refCancel_any (x y : Int) (w : World) (hx : -9223372036854775808 ≤ x ∧ x ≤ 9223372036854775807) (hy : -9223372036854775808 ≤ y ∧ y ≤ 9223372036854775807) :
    Calls Tryz.prog 45 #[.int .i64 x, .int .i64 y] w fun e w' => e = .returned (.bool (canc x y)) ∧ w' = w := by
  have hw := wrap_nlet hx
  by_cases h0 : x = 0
  · have hr : canc x y = false := by
      cases hc : canc x y with
      | false => rfl
      | true => have := canc_iff.1 hc; omega
    have h1 : (x != 0) = false := by simpa using h0
    rw [hr]
    clear hr h0 hx hy hw
    go_enter Tryz.func45, Tryz.ntmps45
    go_wp2
    go_ret
    exact ⟨rfl, rfl⟩
  · have h1 : (x != 0) = true := by simpa using h0
    by_cases hm : x = -9223372036854775808
    · have hr : canc x y = false := by
        cases hc : canc x y with
        | false => rfl
        | true => have := canc_iff.1 hc; omega
      have h2 : (x != -9223372036854775808) = false := by simpa using hm
      rw [hr]
      clear hr h0 hx hy hw hm
      go_enter Tryz.func45, Tryz.ntmps45
      go_wp2
      go_ret
      exact ⟨rfl, rfl⟩
    · have h2 : (x != -9223372036854775808) = true := by simpa using hm
      have hr : canc x y = (y == nlet x) := by
        rw [Bool.eq_iff_iff, canc_iff, beq_iff_eq]
        unfold nlet
        rw [if_neg hm]
        omega
      rw [hr]
      generalize nlet x = z at hw
      clear hr h0 hx hy hm
      go_enter Tryz.func45, Tryz.ntmps45
      go_wp2
      go_ret
      exact ⟨rfl, rfl⟩

set_option maxRecDepth 100000 in
set_option maxHeartbeats 800000 in
theorem turned_any (v : Value) (zs : List Int) (w : World) (hl : zs.length ≤ 1000000) (hr : Rng zs) (hv : Ints w w.heap.size v zs) :
    Calls Tryz.prog 25 #[v] w fun e w' => ∃ r, e = .returned r ∧ OwnsI w' w.heap.size r (winv zs) ∧ Below w.heap.size w w' := by
  obtain ⟨i0, hi, hz0, hz1, hz2⟩ := info_parts info3'
  obtain ⟨A, c, rfl, h⟩ := hv
  have hat : ∀ j, j < zs.length → ∃ b o, A = some ⟨b, o, none⟩ ∧ b < w.heap.size ∧ w.cell? ⟨b, o + j, none⟩ = some (.int .i64 (zs.getD j 0)) := fun j hj => by
    obtain ⟨b, o, e, hb, hc⟩ := h (by omega)
    exact ⟨b, o, e, hb, hc j hj⟩
  have HA := Lib.hid hat
  have HR := Lib.hid hr
  clear h hat hr
  have HO := Lib.hid (show OwnsI w w.heap.size (.slice none 0 0) (winv (zs.drop zs.length)) by rw [List.drop_length]; exact World.ownsRow_nil _ _ _ _)
  have HB := Lib.hid (Below.refl w.heap.size w)
  go_enter Tryz.func25, Tryz.ntmps25
  go_wp2
  go_loopw [3, 4] (fun v i wr => ∃ k : Nat, i = .int .i64 ((k : Int) - 1) ∧ k ≤ zs.length ∧ OwnsI wr w.heap.size v (winv (zs.drop k)) ∧ Below w.heap.size w wr) (fun _ i _ => (intOf i + 1).toNat)
  case atStart => exact ⟨zs.length, rfl, Nat.le_refl _, HO.out, HB.out⟩
  case round =>
    obtain ⟨k, rfl, hk, hO, hB⟩ := hrel
    have hBs := hB.size
    by_cases h0 : k = 0
    · subst h0
      have HO2 : Hid (OwnsI wr w.heap.size _ (winv zs)) := Lib.hid hO
      have HB2 := Lib.hid hB
      clear hO hB
      go_wp2
      go_ret
      exact ⟨_, rfl, HO2.out, HB2.out⟩
    · obtain ⟨b, o, rfl, hbl, hc⟩ := HA.out (k - 1) (by omega)
      have hcr : wr.cell? ⟨b, o + (k - 1), none⟩ = some (.int .i64 (zs.getD (k - 1) 0)) := (hB.cell hbl).trans hc
      have hin : ((k : Int) - 1) = ((k - 1 : Nat) : Int) := by omega
      have hlt : k - 1 < zs.length := by omega
      have HI := fun W => Lib.hid (refInverse_any (zs.getD (k - 1) 0) W (HR.out.at hlt))
      have HE : winv (zs.drop (k - 1)) = winv (zs.drop k) ++ [nlet (zs.getD (k - 1) 0)] := by
        have e : zs.drop (k - 1) = zs.getD (k - 1) 0 :: zs.drop k := by
          rw [List.drop_eq_getElem_cons hlt, show k - 1 + 1 = k by omega]
          simp [List.getD_eq_getElem?_getD, hlt]
        rw [e, winv_cons]
      have HEE := Lib.hid HE
      have hlen : (winv (zs.drop k)).length ≤ 1000000 := by rw [winv_length]; simp; omega
      have HO2 := Lib.hid hO
      have HB2 := Lib.hid hB
      clear hO hB hc HE
      generalize winv (zs.drop k) = s at HO2 HEE hlen
      generalize nlet (zs.getD (k - 1) 0) = y at HI HEE
      generalize zs.getD (k - 1) 0 = x at hcr HI
      rw [hin]
      go_wp2_with fail
      refine ((HI _).out).mono ?_
      rintro e w1 ⟨rfl, rfl⟩
      go_wp2_with (at_builtin; refine wpList_append_ints _ rfl (.tmp 12) (.tmp 18) 23 23 rfl w.heap.size 3 i0 Tryz.underlying23 Tryz.underlying23 hi hz0 hz1 hz2 _ _ s [y] _ rfl (HO2.out.alloc _) rfl (ints_one _ _) (by simp; omega) (by simp; omega) ?_; intro v1 w1 hown hgrow _; have HX := Lib.hid hown; have HB3 := Lib.hid (below_append HB2.out hBs HO2.out hgrow); clear hown hgrow)
      go_roundw
      case rel => exact ⟨k - 1, by go_num, by omega, by rw [HEE.out]; exact HX.out, HB3.out⟩
      case measure => simp [intOf] <;> omega

set_option maxRecDepth 100000 in
set_option maxHeartbeats 800000 in
theorem join_any (v : Value) (ps : List (Value × List Int)) (w : World) (hn : ps.length ≤ 1000) (hl : (flat ps).length ≤ 1000000000) (hv : Lists w w.heap.size v ps) :
    Calls Tryz.prog 47 #[v] w fun e w' => ∃ r, e = .returned r ∧ OwnsI w' w.heap.size r (flat ps) ∧ Below w.heap.size w w' := by
  obtain ⟨i0, hi, hz0, hz1, hz2⟩ := info_parts info3'
  obtain ⟨⟨A, c, rfl, h⟩, hp⟩ := hv
  have hat : ∀ j, j < ps.length → ∃ p b o A' c', ps[j]? = some p ∧ A = some ⟨b, o, none⟩ ∧ b < w.heap.size ∧ p.1 = .slice A' p.2.length c' ∧ w.cell? ⟨b, o + j, none⟩ = some (.slice A' p.2.length c') ∧ Ints w w.heap.size p.1 p.2 := fun j hj => by
    have hj' : ps[j]? = some ps[j] := List.getElem?_eq_getElem hj
    obtain ⟨b, o, e, hb, hc⟩ := h (by omega)
    have hpp := hp ps[j] (List.getElem_mem hj)
    obtain ⟨A', c', e', _⟩ := id hpp
    exact ⟨ps[j], b, o, A', c', hj', e, hb, e', by have := hc j _ hj'; rwa [e'] at this, hpp⟩
  have HA := Lib.hid hat
  clear h hp hat
  have HO := Lib.hid (show OwnsI w w.heap.size (.slice none 0 0) (flat (ps.take 0)) from World.ownsRow_nil _ _ _ _)
  have HB := Lib.hid (Below.refl w.heap.size w)
  go_enter Tryz.func47, Tryz.ntmps47
  go_wp2
  go_loopw [3, 4] (fun v i wr => ∃ k : Nat, i = .int .i64 k ∧ k ≤ ps.length ∧ OwnsI wr w.heap.size v (flat (ps.take k)) ∧ Below w.heap.size w wr) (fun _ i _ => ps.length - (intOf i).toNat)
  case atStart => exact ⟨0, rfl, Nat.zero_le _, HO.out, HB.out⟩
  case round =>
    obtain ⟨k, rfl, hk, hO, hB⟩ := hrel
    have hBs := hB.size
    by_cases hlt : k < ps.length
    · obtain ⟨p, b, o, A', c', hpk, rfl, hbl, hp1, hc, hpi⟩ := HA.out k hlt
      have hcr : wr.cell? ⟨b, o + k, none⟩ = some (.slice A' p.2.length c') := (hB.cell hbl).trans hc
      have HE := Lib.hid (show flat (ps.take (k + 1)) = flat (ps.take k) ++ p.2 by rw [take_snoc' hpk, flat_snoc])
      have hlen : (flat (ps.take k)).length ≤ 1000000000 := Nat.le_trans (flat_take_len k) hl
      have hlen2 : p.2.length ≤ 1000000000 := by
        have h1 := flat_take_len (ps := ps) (k + 1)
        rw [HE.out, List.length_append] at h1
        omega
      rw [hp1] at hpi
      have HPI := Lib.hid ((hpi.below hB).more hBs)
      have HO2 := Lib.hid hO
      have HB2 := Lib.hid hB
      clear hO hB hc hpk hp1 hpi
      generalize flat (ps.take k) = s at HO2 HE hlen
      go_wp2_with (at_builtin; refine wpList_append_ints _ rfl (.tmp 11) (.tmp 15) 23 23 rfl w.heap.size 3 i0 Tryz.underlying23 Tryz.underlying23 hi hz0 hz1 hz2 _ _ s p.2 _ rfl HO2.out rfl HPI.out (by omega) (by omega) ?_; intro v1 w1 hown hgrow _; have HX := Lib.hid hown; have HB3 := Lib.hid (HB2.out.grown hgrow hBs (fun q hq => (HO2.out.lt q hq).1)); clear hown hgrow)
      go_roundw
      case rel => exact ⟨k + 1, by go_num, by omega, by rw [HE.out]; exact HX.out, HB3.out⟩
      case measure => simp [intOf]; omega
    · have e : ps.take k = ps := List.take_of_length_le (by omega)
      rw [e] at hO
      have HO2 := Lib.hid hO
      have HB2 := Lib.hid hB
      clear hO hB
      go_wp2
      go_ret
      exact ⟨_, rfl, HO2.out, HB2.out⟩
end Go.Proofs.YtjllnbldpcmddaaGreatDoor
