/- slices.Grow of nothing, slices.Concat. -/
import Derived.Test.YtlpepholcehojaaDoorWReduce
import Derived.Lib.AppendZeros
namespace Go.Proofs.YtlpepholcehojaaDoor
open Go Go.RowKit

theorem underlying_int : Tryd.prog.underlying 3 = some (.int .i64) := by kernel_rfl
set_option maxRecDepth 100000 in
set_option maxHeartbeats 400000 in
theorem grow_any (n : Nat) (w : World) (hn : n ≤ 1000000000) :
    Calls Tryd.prog 37 #[.slice none 0 0, .int .i64 n] w fun e w' => ∃ r, e = .returned r ∧ OwnsI w' w.heap.size r [] ∧ Below w.heap.size w w' := by
  obtain ⟨i0, hi, hz0, hz1, hz2⟩ := info_parts info3'
  by_cases h0 : n = 0
  · subst h0
    go_enter Tryd.func37, Tryd.ntmps37
    go_wp2
    go_ret
    exact ⟨_, rfl, World.ownsRow_nil _ _ _ _, Below.refl _ _⟩
  · have hpos : (0 : Int) < (n : Int) := by omega
    have hge : ¬ ((n : Int) < 0) := by omega
    have hr := fun ty => Lib.run_append_nil_zeros (P := Tryd.prog) w 24 3 ty 3 i0 (.int .i64 0) .i64 .i64 Tryd.underlying24 underlying_int hi hz0 n (by omega) (by omega) (by omega) (by rw [hz2]; omega)
    have hcap := grownCap_ge w n 0 3
    have hcm : grownCap w n 0 3 ≤ maxLen := grownCap_le_maxLen w n 0 3 (by unfold maxLen; omega)
    generalize grownCap w n 0 3 = cp at hr hcap hcm
    have hsz : (Builtin.zeroCells (Value.int .i64 0).cells n ++ Builtin.zeroCells (Value.int .i64 0).cells (cp - n)).size = cp * 1 := by
      rw [Array.size_append, size_zeroCells, size_zeroCells]; simp [Value.cells]; omega
    generalize Builtin.zeroCells (Value.int .i64 0).cells n ++ Builtin.zeroCells (Value.int .i64 0).cells (cp - n) = cs at hr hsz
    have HO := Lib.hid (show OwnsI (w.drew.alloc (.cells cs 3)) w.heap.size (.slice (some ⟨w.heap.size, 0, none⟩) 0 cp) [] from World.ownsRow_made w.drew cs cp (Nat.le_refl _) hcm hsz)
    have HB := Lib.hid (show Below w.heap.size w (w.drew.alloc (.cells cs 3)) from (show Below w.heap.size w w.drew from ⟨rfl, rfl, rfl, Nat.le_refl _, fun _ _ => rfl⟩).alloc (Nat.le_refl _) _)
    have HR := fun ty => Lib.hid (hr ty)
    clear hr hsz
    go_enter Tryd.func37, Tryd.ntmps37
    go_wp2_with (at_builtin; refine Lib.wpList_append_run _ rfl (.tmp 20) (.tmp 21) 24 3 rfl _ _ rfl rfl _ _ (HR _).out ?_)
    go_ret
    exact ⟨_, rfl, HO.out, HB.out⟩

/-- A slice of slices of ints. -/
def Lists (w : World) (B : Nat) (v : Value) (ps : List (Value × List Int)) : Prop :=
  (∃ A c, v = .slice A ps.length c ∧ (0 < ps.length → ∃ b o, A = some ⟨b, o, none⟩ ∧ b < B ∧ ∀ j p, ps[j]? = some p → w.cell? ⟨b, o + j, none⟩ = some p.1)) ∧ ∀ p ∈ ps, Ints w B p.1 p.2
def flat (ps : List (Value × List Int)) : List Int := (ps.map (·.2)).flatten
theorem flat_snoc (ps : List (Value × List Int)) (p : Value × List Int) : flat (ps ++ [p]) = flat ps ++ p.2 := by simp [flat]
theorem take_snoc' {α : Type} {zs : List α} {k : Nat} {p : α} (h : zs[k]? = some p) : zs.take (k + 1) = zs.take k ++ [p] := by
  obtain ⟨h1, h2⟩ := List.getElem?_eq_some_iff.1 h
  rw [List.take_succ_eq_append_getElem h1, h2]
theorem flat_take_len {ps : List (Value × List Int)} (k : Nat) : (flat (ps.take k)).length ≤ (flat ps).length := by
  have : flat ps = flat (ps.take k) ++ flat (ps.drop k) := by
    unfold flat; rw [← List.flatten_append, ← List.map_append, List.take_append_drop]
  rw [this]; simp

set_option maxRecDepth 100000 in
set_option maxHeartbeats 800000 in
theorem concat_any (v : Value) (ps : List (Value × List Int)) (w : World) (hn : ps.length ≤ 1000) (hl : (flat ps).length ≤ 1000000000) (hv : Lists w w.heap.size v ps) :
    Calls Tryd.prog 22 #[v] w fun e w' => ∃ r, e = .returned r ∧ OwnsI w' w.heap.size r (flat ps) ∧ Below w.heap.size w w' := by
  obtain ⟨i0, hi, hz0, hz1, hz2⟩ := info_parts info3'
  obtain ⟨⟨A, c, rfl, h⟩, hp⟩ := hv
  have hat : ∀ j p, ps[j]? = some p → ∃ b o A' c', A = some ⟨b, o, none⟩ ∧ b < w.heap.size ∧ p.1 = .slice A' p.2.length c' ∧ w.cell? ⟨b, o + j, none⟩ = some (.slice A' p.2.length c') := fun j p hj => by
    obtain ⟨b, o, e, hb, hc⟩ := h (by have := (List.getElem?_eq_some_iff.1 hj).1; omega)
    obtain ⟨A', c', e', _⟩ := hp p (List.mem_of_getElem? hj)
    exact ⟨b, o, A', c', e, hb, e', by rw [← e']; exact hc j p hj⟩
  have HA := Lib.hid hat
  have HP := Lib.hid hp
  clear h hat hp
  have HL : ∀ k, (flat (ps.take k)).length ≤ 1000000000 := fun k => Nat.le_trans (flat_take_len k) hl
  have HG := Lib.hid HL
  clear HL
  have HF := Lib.hid hl
  clear hl
  go_enter Tryd.func22, Tryd.ntmps22
  go_wp2
  go_loopw [3, 11] (fun s i wr => ∃ k : Nat, i = .int .i64 k ∧ k ≤ ps.length ∧ s = .int .i64 ((flat (ps.take k)).length : Int) ∧ w = wr) (fun _ i _ => ps.length - (intOf i).toNat)
  case atStart => exact ⟨0, rfl, Nat.zero_le _, by simp [flat], rfl⟩
  case round =>
    obtain ⟨k, rfl, hk, rfl, rfl⟩ := hrel
    by_cases hlt : k < ps.length
    · obtain ⟨p, hpk⟩ : ∃ p, ps[k]? = some p := ⟨_, List.getElem?_eq_getElem hlt⟩
      obtain ⟨b, o, A', c', rfl, hb, _, hc⟩ := HA.out k p hpk
      have hs : (flat (ps.take (k + 1))).length = (flat (ps.take k)).length + p.2.length := by rw [take_snoc' hpk, flat_snoc, List.length_append]
      have h1 := HG.out (k + 1)
      have HS := Lib.hid hs
      rw [hs] at h1
      clear hs hpk
      generalize (flat (ps.take k)).length = q at h1 HS
      generalize p.2.length = m at hc h1 HS
      have hge : ¬ ((q : Int) + (m : Int) < 0) := by omega
      go_wp2
      go_roundw
      case rel => exact ⟨k + 1, by go_num, by omega, by rw [HS.out]; go_num, by trivial⟩
      case measure => simp [intOf]; omega
    · have e : ps.take k = ps := List.take_of_length_le (by omega)
      rw [e]
      have hq := HF.out
      generalize hF : (flat ps).length = q at hq
      have HQ := Lib.hid hF
      clear hF
      go_wp2_with fail
      refine (grow_any q _ hq).mono ?_
      rintro e w1 ⟨r, rfl, ho, hb1⟩
      have HO := Lib.hid ho
      have HB := Lib.hid hb1
      clear ho hb1
      go_wp2_with fail
      go_loopw [6, 27] (fun v i wr => ∃ k : Nat, i = .int .i64 k ∧ k ≤ ps.length ∧ OwnsI wr w.heap.size v (flat (ps.take k)) ∧ Below w.heap.size w wr) (fun _ i _ => ps.length - (intOf i).toNat)
      case atStart => exact ⟨0, rfl, Nat.zero_le _, HO.out, HB.out⟩
      case round =>
        obtain ⟨k, rfl, hk, hO, hB⟩ := hrel
        have hBs := hB.size
        by_cases hlt : k < ps.length
        · obtain ⟨p, hpk⟩ : ∃ p, ps[k]? = some p := ⟨_, List.getElem?_eq_getElem hlt⟩
          obtain ⟨b, o, A', c', rfl, hbl, hpe, hc⟩ := HA.out k p hpk
          have hcr := (hB.cell hbl).trans hc
          have h1 := HG.out (k + 1)
          have hpi : Ints wr w.heap.size p.1 p.2 := (HP.out p (List.mem_of_getElem? hpk)).below hB
          rw [hpe] at hpi
          rw [take_snoc' hpk, flat_snoc, List.length_append] at h1
          have hsn : flat (ps.take (k + 1)) = flat (ps.take k) ++ p.2 := by rw [take_snoc' hpk, flat_snoc]
          have HS := Lib.hid hsn
          have HO2 := Lib.hid hO
          have HB2 := Lib.hid hB
          have HPI := Lib.hid hpi
          clear hsn hO hB hpi hc hpk hpe
          generalize flat (ps.take k) = l at h1 HS HO2
          generalize p.2 = ys at hcr h1 HS HPI
          go_wp2_with (at_builtin; refine wpList_append_ints _ rfl (.tmp 31) (.tmp 32) 24 24 rfl w.heap.size 3 i0 Tryd.underlying24 Tryd.underlying24 hi hz0 hz1 hz2 _ _ l ys _ rfl HO2.out rfl HPI.out (by omega) hBs ?_; intro v1 w1 hown hgrow _; have HX := Lib.hid hown; have HB3 := Lib.hid (HB2.out.grown hgrow hBs (fun q hq => (HO2.out.lt q hq).1)); clear hown hgrow)
          go_roundw
          case rel => exact ⟨k + 1, by go_num, by omega, by rw [HS.out]; exact HX.out, HB3.out⟩
          case measure => simp [intOf]; omega
        · have e : ps.take k = ps := List.take_of_length_le (by omega)
          rw [e] at hO
          have HO2 := Lib.hid hO
          have HB2 := Lib.hid hB
          clear hO hB
          go_wp2
          go_ret
          exact ⟨_, rfl, HO2.out, HB2.out⟩
end Go.Proofs.YtlpepholcehojaaDoor
