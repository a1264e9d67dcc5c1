/- The reference's Reduce, Invert, Mul, Conj, Comm (seat ZD alone). -/
import Derived.Test.YtjllnbldpcmddaaGreatDoorWRefA
import Derived.Test.YtjllnbldpcmddaaGreatDoorWOps
namespace Go.Proofs.YtjllnbldpcmddaaGreatDoor
open Go Go.RowKit

set_option maxRecDepth 100000 in
set_option maxHeartbeats 2000000 in
theorem refReduce_any (v : Value) (zs : List Int) (w : World) (hl : zs.length ≤ 1000000) (hr : Rng zs) (hv : Ints w w.heap.size v zs) :
    Calls Tryz.prog 24 #[v] w (GivesO w (red zs)) := by
  obtain ⟨i0, hi, hz0, hz1, hz2⟩ := info_parts info3'
  obtain ⟨A, c, rfl, h⟩ := hv
  have hat : ∀ j, j < zs.length → ∃ b o, A = some ⟨b, o, none⟩ ∧ b < w.heap.size ∧ w.cell? ⟨b, o + j, none⟩ = some (.int .i64 (zs.getD j 0)) := fun j hj => by
    obtain ⟨b, o, e, hb, hc⟩ := h (by omega)
    exact ⟨b, o, e, hb, hc j hj⟩
  have HA := Lib.hid hat
  have HR := Lib.hid hr
  clear h hat hr
  have HO := Lib.hid (show OwnsI w w.heap.size (.slice none 0 0) (red (zs.take 0)) from World.ownsRow_nil _ _ _ _)
  have HB := Lib.hid (Below.refl w.heap.size w)
  unfold GivesO
  go_enter Tryz.func24, Tryz.ntmps24
  go_wp2
  go_loopw [3, 4] (fun v i wr => ∃ k : Nat, i = .int .i64 k ∧ k ≤ zs.length ∧ OwnsI wr w.heap.size v (red (zs.take k)) ∧ Below w.heap.size w wr) (fun _ i _ => zs.length - (intOf i).toNat)
  case atStart => exact ⟨0, rfl, Nat.zero_le _, HO.out, HB.out⟩
  case round =>
    obtain ⟨k, rfl, hk, hO, hB⟩ := hrel
    have hBs := hB.size
    by_cases hlt : k < zs.length
    · obtain ⟨b, o, rfl, hbl, hc⟩ := HA.out k hlt
      have hcr : wr.cell? ⟨b, o + k, none⟩ = some (.int .i64 (zs.getD k 0)) := (hB.cell hbl).trans hc
      have hxr := HR.out.at hlt
      have hlen : (red (zs.take k)).length ≤ 1000000 := Nat.le_trans (red_length _) (by rw [List.length_take]; omega)
      have E := take_snoc hlt
      have HC := fun y hy W => Lib.hid (refCancel_any y (zs.getD k 0) W hy hxr)
      have S0 := fun h => Lib.hid (red_snoc_nil (u := zs.take k) h (zs.getD k 0))
      have S1 := fun h hc => Lib.hid (red_snoc_cancel (u := zs.take k) h (x := zs.getD k 0) hc)
      have S2 := fun h hc => Lib.hid (red_snoc_keep (u := zs.take k) h (x := zs.getD k 0) hc)
      rw [← E] at S0 S1 S2
      clear E hxr hc
      have hyr : ∀ j, j < (red (zs.take k)).length → _ := fun j hj => (HR.out.take k).red.at hj
      have HY := Lib.hid hyr
      clear hyr
      generalize red (zs.take k) = s at hO hlen S0 S1 S2 HY
      generalize zs.getD k 0 = x at hcr HC S1 S2 S0
      obtain ⟨A', cp, rfl⟩ := hO.len
      by_cases h0 : s.length = 0
      · have HE := Lib.hid (S0 h0)
        have hnp : ¬ (0 : Int) < (s.length : Int) := by omega
        have hnp2 : decide (0 < s.length) = false := by rw [decide_eq_false_iff_not]; omega
        have hnp3 : s = [] := List.length_eq_zero_iff.1 h0
        have HN3 := Lib.hid hnp3
        have HO2 := Lib.hid hO
        have HB2 := Lib.hid hB
        clear S0 S1 S2 hO hB HC h0 HY hnp3
        have HOn := fun n => Lib.hid (show OwnsI (wr.drewN n) w.heap.size (.slice A' s.length cp) s from HO2.out)
        go_wp2_with fail
        go_quiet (fail)
        go_wp2_with (at_builtin; refine wpList_append_ints _ rfl (.tmp 32) (.tmp 37) 23 23 rfl w.heap.size 3 i0 Tryz.underlying23 Tryz.underlying23 hi hz0 hz1 hz2 _ _ s [x] _ rfl ((HOn _).out.alloc _) rfl (ints_one _ _) (by simp; omega) (by have := hBs; simp; omega) ?_; intro v1 w1 hown hgrow _; have HX := Lib.hid hown; have HB3 := Lib.hid (below_append (HB2.out.trans (below_drawn _ ⟨_, rfl⟩)) hBs (HOn _).out hgrow); clear hown hgrow)
        go_roundw
        case rel => exact ⟨k + 1, by go_num, by omega, by rw [HE.out.out]; exact HX.out, HB3.out⟩
        case measure => simp [intOf]; omega
      · have h0' : 0 < s.length := by omega
        have HY2 := HY.out (s.length - 1) (by omega)
        have hpos : (0 : Int) < (s.length : Int) := by omega
        have hw1 : IntKind.i64.wrap ((s.length : Int) - 1) = ((s.length - 1 : Nat) : Int) := by rw [IntKind.wrap_i64]; omega
        have hw3 : IntKind.i64.wrap ((s.length - 1 : Nat) : Int) = ((s.length - 1 : Nat) : Int) := by rw [IntKind.wrap_i64]; omega
        obtain ⟨g, cp2, he, hg1, hg2, hcap, hcell⟩ := hO.form h0'
        injection he with e1 _ e3
        subst e1; subst e3
        have hct := hcell (s.length - 1) (by omega)
        clear hcell
        have hin : ((s.length : Int) - 1) = ((s.length - 1 : Nat) : Int) := by omega
        have hlt1 : s.length - 1 < s.length := by omega
        have HC2 := fun W => HC (s.getD (s.length - 1) 0) HY2 W
        by_cases hcn : canc (s.getD (s.length - 1) 0) x = true
        · have HE := Lib.hid (S1 h0' hcn)
          rw [hcn] at HC2
          have HO2 := Lib.hid (hO.cut (m := s.length - 1) (by omega) h0')
          have HB2 := Lib.hid hB
          clear S0 S1 S2 hO hB HC h0 HY HY2 hcn
          generalize s.getD (s.length - 1) 0 = y at hct HC2
          have HCC := Lib.hid (fun W => (HC2 W).out)
          clear HC2
          go_wp2_with fail
          go_quiet (refine Calls.quiet_of_same (HCC.out _))
          go_wp2_with fail
          go_roundw
          case rel => exact ⟨k + 1, by go_num, by omega, by rw [HE.out.out]; exact HO2.out, HB2.out.trans (below_drawn _ ⟨_, rfl⟩)⟩
          case measure => simp [intOf]; omega
        · have hcn' : canc (s.getD (s.length - 1) 0) x = false := by simpa using hcn
          have HE := Lib.hid (S2 h0' hcn')
          rw [hcn'] at HC2
          have HO2 := Lib.hid hO
          have HOn := fun n => Lib.hid (show OwnsI (wr.drewN n) w.heap.size (.slice (some ⟨g, 0, none⟩) s.length cp) s from HO2.out)
          have HB2 := Lib.hid hB
          clear S0 S1 S2 hO hB HC h0 HY HY2 hcn hcn'
          generalize s.getD (s.length - 1) 0 = y at hct HC2
          have HCC := Lib.hid (fun W => (HC2 W).out)
          clear HC2
          go_wp2_with fail
          go_quiet (refine Calls.quiet_of_same (HCC.out _))
          go_wp2_with (at_builtin; refine wpList_append_ints _ rfl (.tmp 32) (.tmp 37) 23 23 rfl w.heap.size 3 i0 Tryz.underlying23 Tryz.underlying23 hi hz0 hz1 hz2 _ _ s [x] _ rfl ((HOn _).out.alloc _) rfl (ints_one _ _) (by simp; omega) (by have := hBs; simp; omega) ?_; intro v1 w1 hown hgrow _; have HX := Lib.hid hown; have HB3 := Lib.hid (below_append (HB2.out.trans (below_drawn _ ⟨_, rfl⟩)) hBs (HOn _).out hgrow); clear hown hgrow)
          go_roundw
          case rel => exact ⟨k + 1, by go_num, by omega, by rw [HE.out.out]; exact HX.out, HB3.out⟩
          case measure => simp [intOf]; omega
    · have e : zs.take k = zs := List.take_of_length_le (by omega)
      rw [e] at hO
      have HO2 := Lib.hid hO
      have HB2 := Lib.hid hB
      clear hO hB
      go_wp2
      go_ret
      exact ⟨_, rfl, HO2.out, HB2.out⟩
end Go.Proofs.YtjllnbldpcmddaaGreatDoor
