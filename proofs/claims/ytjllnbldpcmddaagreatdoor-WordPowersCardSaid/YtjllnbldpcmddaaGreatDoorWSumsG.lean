/- word.Sums for every word and every number of generators, and the reference's. -/
import Derived.Test.YtjllnbldpcmddaaGreatDoorWPowG
import Derived.Test.YtjllnbldpcmddaaGreatDoorWChk
namespace Go.Proofs.YtjllnbldpcmddaaGreatDoor
open Go Go.RowKit

/-- What a letter adds to the sum of the generator i. -/
def cntG (x : Int) (i : Nat) : Int := if x = (i : Int) + 1 then 1 else if x = -((i : Int) + 1) then -1 else 0
def sumG (zs : List Int) (i : Nat) : Int := (zs.map (cntG · i)).sum
theorem sumG_snoc (u : List Int) (x : Int) (i : Nat) : sumG (u ++ [x]) i = sumG u i + cntG x i := by simp [sumG]
theorem cntG_bound (x : Int) (i : Nat) : -1 ≤ cntG x i ∧ cntG x i ≤ 1 := by unfold cntG; split <;> (try split) <;> omega
theorem sumG_bound (zs : List Int) (i : Nat) : -(zs.length : Int) ≤ sumG zs i ∧ sumG zs i ≤ zs.length := by
  induction zs with
  | nil => simp [sumG]
  | cons x zs ih =>
    have h := cntG_bound x i
    simp only [sumG, List.map_cons, List.sum_cons, List.length_cons] at ih ⊢
    omega
theorem sumG_set (G : Nat) (u : List Int) (x : Int) {d : Nat} (h : x = (d : Int) + 1 ∨ x = -((d : Int) + 1)) :
    (Tab G (sumG u)).setIfInBounds d (.int .i64 (sumG u d + cntG x d)) = Tab G (sumG (u ++ [x])) := by
  rw [Tab_set]
  refine Tab_congr _ _ _ fun j _ => ?_
  rw [sumG_snoc]
  by_cases e : j = d
  · subst e; rw [if_pos rfl]
  · have : cntG x j = 0 := by unfold cntG; rw [if_neg (by omega), if_neg (by omega)]
    rw [if_neg e, this, Int.add_zero]
def sumS (g : Int) (zs : List Int) : List Int := if chkW g zs = 0 then (List.range g.toNat).map (sumG zs) else []
theorem sumS_len (g : Int) (zs : List Int) : (sumS g zs).length ≤ 16 := by
  unfold sumS
  by_cases h : chkW g zs = 0
  · rw [if_pos h, List.length_map, List.length_range]
    unfold chkW at h
    by_cases h1 : g < 1 ∨ 16 < g
    · rw [if_pos h1] at h; omega
    · omega
  · rw [if_neg h]; simp
theorem chkW_zero {g : Int} {zs : List Int} (h : chkW g zs = 0) : ∃ G : Nat, g = G ∧ 1 ≤ G ∧ G ≤ 16 ∧ zs.length ≤ 4000 ∧ ∀ j, j < zs.length → zs.getD j 0 ≠ 0 ∧ (zs.getD j 0).natAbs ≤ G := by
  unfold chkW at h
  by_cases h1 : g < 1 ∨ 16 < g
  · rw [if_pos h1] at h; omega
  · rw [if_neg h1] at h
    by_cases h2 : 4000 < zs.length
    · rw [if_pos h2] at h; omega
    · rw [if_neg h2] at h
      refine ⟨g.toNat, by omega, by omega, by omega, by omega, fun j hj => ?_⟩
      have hk : okW g.toNat zs = true := by
        cases hb : okW g.toNat zs with
        | true => rfl
        | false => rw [hb] at h; simp at h
      unfold okW at hk
      rw [List.all_eq_true] at hk
      have e : zs.getD j 0 = zs[j] := by simp [List.getD_eq_getElem?_getD, hj]
      rw [e]
      exact of_decide_eq_true (hk zs[j] (List.getElem_mem hj))
theorem make_sumsG (n : Nat) (hn : n ≤ 1000) (W : World) : (Instr.makeSlice 22 (.int .i64 (n : Int)) (.int .i64 (n : Int))).run Tryz.prog W = .ok (.slice (some ⟨W.heap.size, 0, none⟩) n n) (W.alloc (.cells (Tab n fun _ => 0) 3)) := by
  obtain ⟨i0, hi, hz0, hz1, hz2⟩ := info_parts info3'
  have h := run_make (P := Tryz.prog) W 22 3 i0 (.int .i64 0) (by kernel_rfl) hi hz0 .i64 .i64 (n : Int) (n : Int) (by omega) (by omega) (by rw [hz2]; omega) (by omega)
  rw [h, hz1, Nat.mul_one, Int.toNat_natCast, madeCells_int]

set_option maxRecDepth 100000 in
set_option maxHeartbeats 2000000 in
theorem Sums_gen (v : Value) (zs : List Int) (g : Int) (w : World) (hl : zs.length ≤ 1000000) (hr : Rng zs) (hv : Ints w w.heap.size v zs) :
    Calls Tryz.prog 10 #[v, .int .i64 g] w (GivesE w (sumS g zs) (chkW g zs)) := by
  have HCk := Lib.hid (Check_any g v zs w (by omega) hr hv)
  obtain ⟨A, c, rfl, h⟩ := hv
  by_cases h0 : chkW g zs = 0
  · obtain ⟨G, rfl, hG1, hG2, hl4, hz⟩ := chkW_zero h0
    have hS : sumS (G : Int) zs = (List.range G).map (sumG zs) := by unfold sumS; rw [if_pos h0, Int.toNat_natCast]
    rw [hS]
    rw [h0] at HCk ⊢
    have hat : ∀ j, j < zs.length → ∃ b o, A = some ⟨b, o, none⟩ ∧ b < w.heap.size ∧ w.cell? ⟨b, o + j, none⟩ = some (.int .i64 (zs.getD j 0)) := fun j hj => by
      obtain ⟨b, o, e, hb, hc⟩ := h (by omega)
      exact ⟨b, o, e, hb, hc j hj⟩
    have HA := Lib.hid hat
    have HZ := Lib.hid hz
    have hmk := fun W => make_sumsG G (by omega) W
    have HR0 := Lib.hid (show Row (w.alloc (.cells (Tab G fun _ => 0) 3)) w.heap.size 3 (Tab G (sumG [])) from Row.new w 3 (Tab G (sumG [])))
    have HB0 := Lib.hid ((Below.refl w.heap.size w).alloc (Nat.le_refl _) (.cells (Tab G fun _ => 0) 3))
    clear h hat hz h0 hS hr
    go_enter Tryz.func10, Tryz.ntmps10
    go_wp2_with fail
    refine (HCk.out).mono ?_
    rintro e w1 ⟨rfl, rfl⟩
    go_wp2_with fail
    clear hmk
    go_loopw [20] (fun i wr => ∃ k : Nat, i = .int .i64 k ∧ k ≤ zs.length ∧ Row wr w.heap.size 3 (Tab G (sumG (zs.take k))) ∧ Below w.heap.size w wr) (fun i _ => zs.length - (intOf i).toNat)
    case atStart => exact ⟨0, rfl, Nat.zero_le _, HR0.out, HB0.out⟩
    case round =>
      obtain ⟨k, rfl, hk, hR, hB⟩ := hrel
      by_cases hlt : k < zs.length
      · obtain ⟨b, o, rfl, hb, hc⟩ := HA.out k hlt
        have hcr : wr.cell? ⟨b, o + k, none⟩ = some (.int .i64 (zs.getD k 0)) := (hB.cell hb).trans hc
        obtain ⟨h1, h2⟩ := HZ.out k hlt
        have ET := take_snoc hlt
        have hbd := fun i => sumG_bound (zs.take k) i
        have hlk : (zs.take k).length ≤ 4000 := by simp; omega
        have hset := fun d hx => sumG_set G (zs.take k) (zs.getD k 0) (d := d) hx
        rw [← ET] at hset
        clear ET hc
        generalize zs.getD k 0 = x at hcr h1 h2 hset
        generalize hgen : zs.take k = pre at hR hbd hlk hset
        clear hgen
        have HB2 := Lib.hid hB
        have HR2 := Lib.hid hR
        have kk1 : (k : Int) < (zs.length : Int) := by omega
        have kk2 : (0 : Int) ≤ (k : Int) := by omega
        clear hB
        by_cases hp : 0 < x
        · obtain ⟨d, hd⟩ : ∃ d : Nat, x = (d : Int) + 1 := ⟨(x - 1).toNat, by omega⟩
          have hd4 : d < G := by omega
          have hs := hset d (.inl hd)
          rw [show cntG x d = 1 by unfold cntG; rw [if_pos hd]] at hs
          have hcd := hR.cell (Tab_get G (sumG pre) d hd4)
          have hfr := hR.frozen d
          have hbd1 := hbd d
          have hx1 : x - 1 = (d : Int) := by omega
          have hd5 : (d : Int) < (G : Int) := by omega
          have hd6 : (0 : Int) ≤ (d : Int) := by omega
          have hRs := hR.set d (.int .i64 (sumG pre d + 1))
          rw [hs] at hRs
          have HX := Lib.hid hRs
          clear hset hbd hR hs hRs hd
          generalize sumG pre d = s at hcd hbd1 HX
          have hw1 : IntKind.i64.wrap (x - 1) = (d : Int) := by rw [hx1, IntKind.wrap_i64]; omega
          have hw2 : IntKind.i64.wrap (s + 1) = s + 1 := by rw [IntKind.wrap_i64]; omega
          go_wp2_with fail
          go_roundw
          case rel => exact ⟨k + 1, by go_num, by omega, HX.out, HB2.out.setCell (p := ⟨w.heap.size, d, none⟩) (Nat.le_refl _) _⟩
          case measure => simp [intOf]; omega
        · obtain ⟨d, hd⟩ : ∃ d : Nat, x = -((d : Int) + 1) := ⟨(-x - 1).toNat, by omega⟩
          have hd4 : d < G := by omega
          have hs := hset d (.inr hd)
          rw [show cntG x d = -1 by unfold cntG; rw [if_neg (by omega), if_pos hd], show sumG pre d + -1 = sumG pre d - 1 by omega] at hs
          have hcd := hR.cell (Tab_get G (sumG pre) d hd4)
          have hfr := hR.frozen d
          have hbd1 := hbd d
          have hx0 : -x = (d : Int) + 1 := by omega
          have hx1 : -x - 1 = (d : Int) := by omega
          have hd5 : (d : Int) < (G : Int) := by omega
          have hd6 : (0 : Int) ≤ (d : Int) := by omega
          have hRs := hR.set d (.int .i64 (sumG pre d - 1))
          rw [hs] at hRs
          have HX := Lib.hid hRs
          clear hset hbd hR hs hRs hd
          generalize sumG pre d = s at hcd hbd1 HX
          have hw0 : IntKind.i64.wrap (-x) = -x := by rw [IntKind.wrap_i64]; omega
          have hw1 : IntKind.i64.wrap (-x - 1) = (d : Int) := by rw [hx1, IntKind.wrap_i64]; omega
          have hw2 : IntKind.i64.wrap (s - 1) = s - 1 := by rw [IntKind.wrap_i64]; omega
          clear hx0
          go_wp2_with fail
          go_roundw
          case rel => exact ⟨k + 1, by go_num, by omega, HX.out, HB2.out.setCell (p := ⟨w.heap.size, d, none⟩) (Nat.le_refl _) _⟩
          case measure => simp [intOf]; omega
      · have e : zs.take k = zs := List.take_of_length_le (by omega)
        rw [e] at hR
        have hkz : k = zs.length := by omega
        have kd : decide ((k : Int) < (zs.length : Int)) = false := decide_eq_false (by omega)
        have HX : Ints wr wr.heap.size (.slice (some ⟨w.heap.size, 0, none⟩) G G) ((List.range G).map (sumG zs)) := by
          refine ⟨_, G, by simp, fun _ => ⟨w.heap.size, 0, rfl, hR.lt, fun j hj => ?_⟩⟩
          have hj4 : j < G := by simpa using hj
          rw [Nat.zero_add, hR.cell (Tab_get G (sumG zs) j hj4)]
          simp [List.getD_eq_getElem?_getD, hj4]
        have HXX := Lib.hid HX
        have HB2 := Lib.hid hB
        clear hR hB HX
        go_wp2_with fail
        go_ret2
        exact ⟨_, rfl, HXX.out, HB2.out⟩
  · have hS : sumS g zs = [] := by unfold sumS; rw [if_neg h0]
    rw [hS]
    have hd2 : (chkW g zs != 0) = true := by simpa using h0
    generalize chkW g zs = x at HCk hd2 ⊢
    have HB2 := Lib.hid (Below.refl w.heap.size w)
    clear h hr
    go_enter Tryz.func10, Tryz.ntmps10
    go_wp2_with fail
    refine (HCk.out).mono ?_
    rintro e w1 ⟨rfl, rfl⟩
    go_wp2_with fail
    go_ret2
    exact ⟨_, rfl, (owns_nil _ w.heap.size).ints, HB2.out⟩

set_option maxRecDepth 100000 in
set_option maxHeartbeats 2000000 in
theorem refSums_gen (v : Value) (zs : List Int) (g : Int) (w : World) (hl : zs.length ≤ 1000000) (_hr : Rng zs) (hv : Ints w w.heap.size v zs) :
    Calls Tryz.prog 11 #[v, .int .i64 g] w (GivesE w (sumS g zs) (chkW g zs)) := by
  have HCk := Lib.hid (refCheck_any g v zs w (by omega) hv)
  obtain ⟨A, c, rfl, h⟩ := hv
  by_cases h0 : chkW g zs = 0
  · obtain ⟨G, rfl, hG1, hG2, hl4, hz⟩ := chkW_zero h0
    have hS : sumS (G : Int) zs = (List.range G).map (sumG zs) := by unfold sumS; rw [if_pos h0, Int.toNat_natCast]
    rw [hS]
    rw [h0] at HCk ⊢
    have hat : ∀ j, j < zs.length → ∃ b o, A = some ⟨b, o, none⟩ ∧ b < w.heap.size ∧ w.cell? ⟨b, o + j, none⟩ = some (.int .i64 (zs.getD j 0)) := fun j hj => by
      obtain ⟨b, o, e, hb, hc⟩ := h (by omega)
      exact ⟨b, o, e, hb, hc j hj⟩
    have HA := Lib.hid hat
    have HZ := Lib.hid hz
    have hmk := fun W => make_sumsG G (by omega) W
    have HR0 := Lib.hid (show Row (w.alloc (.cells (Tab G fun _ => 0) 3)) w.heap.size 3 (Tab G (sumG [])) from Row.new w 3 (Tab G (sumG [])))
    have HB0 := Lib.hid ((Below.refl w.heap.size w).alloc (Nat.le_refl _) (.cells (Tab G fun _ => 0) 3))
    clear h hat hz h0 hS
    go_enter Tryz.func11, Tryz.ntmps11
    go_wp2_with fail
    refine (HCk.out).mono ?_
    rintro e w1 ⟨rfl, rfl⟩
    go_wp2_with fail
    clear hmk
    go_loopw [8] (fun i wr => ∃ k : Nat, i = .int .i64 k ∧ k ≤ zs.length ∧ Row wr w.heap.size 3 (Tab G (sumG (zs.take k))) ∧ Below w.heap.size w wr) (fun i _ => zs.length - (intOf i).toNat)
    case atStart => exact ⟨0, rfl, Nat.zero_le _, HR0.out, HB0.out⟩
    case round =>
      obtain ⟨k, rfl, hk, hR, hB⟩ := hrel
      by_cases hlt : k < zs.length
      · obtain ⟨b, o, rfl, hb, hc⟩ := HA.out k hlt
        have hcr : wr.cell? ⟨b, o + k, none⟩ = some (.int .i64 (zs.getD k 0)) := (hB.cell hb).trans hc
        obtain ⟨h1, h2⟩ := HZ.out k hlt
        have ET := take_snoc hlt
        have hbd := fun i => sumG_bound (zs.take k) i
        have hlk : (zs.take k).length ≤ 4000 := by simp; omega
        have hset := fun d hx => sumG_set G (zs.take k) (zs.getD k 0) (d := d) hx
        rw [← ET] at hset
        clear ET hc
        generalize zs.getD k 0 = x at hcr h1 h2 hset
        generalize hgen : zs.take k = pre at hR hbd hlk hset
        clear hgen
        have HB2 := Lib.hid hB
        have HR2 := Lib.hid hR
        have kk1 : (k : Int) < (zs.length : Int) := by omega
        have kk2 : (0 : Int) ≤ (k : Int) := by omega
        clear hB
        by_cases hp : 0 < x
        · obtain ⟨d, hd⟩ : ∃ d : Nat, x = (d : Int) + 1 := ⟨(x - 1).toNat, by omega⟩
          have hd4 : d < G := by omega
          have hs := hset d (.inl hd)
          rw [show cntG x d = 1 by unfold cntG; rw [if_pos hd]] at hs
          have hcd := hR.cell (Tab_get G (sumG pre) d hd4)
          have hfr := hR.frozen d
          have hbd1 := hbd d
          have hx1 : x - 1 = (d : Int) := by omega
          have hd5 : (d : Int) < (G : Int) := by omega
          have hd6 : (0 : Int) ≤ (d : Int) := by omega
          have hRs := hR.set d (.int .i64 (sumG pre d + 1))
          rw [hs] at hRs
          have HX := Lib.hid hRs
          clear hset hbd hR hs hRs hd
          generalize sumG pre d = s at hcd hbd1 HX
          have hw1 : IntKind.i64.wrap (x - 1) = (d : Int) := by rw [hx1, IntKind.wrap_i64]; omega
          have hw2 : IntKind.i64.wrap (s + 1) = s + 1 := by rw [IntKind.wrap_i64]; omega
          go_wp2_with fail
          go_roundw
          case rel => exact ⟨k + 1, by go_num, by omega, HX.out, HB2.out.setCell (p := ⟨w.heap.size, d, none⟩) (Nat.le_refl _) _⟩
          case measure => simp [intOf]; omega
        · obtain ⟨d, hd⟩ : ∃ d : Nat, x = -((d : Int) + 1) := ⟨(-x - 1).toNat, by omega⟩
          have hd4 : d < G := by omega
          have hs := hset d (.inr hd)
          rw [show cntG x d = -1 by unfold cntG; rw [if_neg (by omega), if_pos hd], show sumG pre d + -1 = sumG pre d - 1 by omega] at hs
          have hcd := hR.cell (Tab_get G (sumG pre) d hd4)
          have hfr := hR.frozen d
          have hbd1 := hbd d
          have hx0 : -x = (d : Int) + 1 := by omega
          have hx1 : -x - 1 = (d : Int) := by omega
          have hd5 : (d : Int) < (G : Int) := by omega
          have hd6 : (0 : Int) ≤ (d : Int) := by omega
          have hRs := hR.set d (.int .i64 (sumG pre d - 1))
          rw [hs] at hRs
          have HX := Lib.hid hRs
          clear hset hbd hR hs hRs hd
          generalize sumG pre d = s at hcd hbd1 HX
          have hw0 : IntKind.i64.wrap (-x) = -x := by rw [IntKind.wrap_i64]; omega
          have hw1 : IntKind.i64.wrap (-x - 1) = (d : Int) := by rw [hx1, IntKind.wrap_i64]; omega
          have hw2 : IntKind.i64.wrap (s - 1) = s - 1 := by rw [IntKind.wrap_i64]; omega
          clear hx0
          go_wp2_with fail
          go_roundw
          case rel => exact ⟨k + 1, by go_num, by omega, HX.out, HB2.out.setCell (p := ⟨w.heap.size, d, none⟩) (Nat.le_refl _) _⟩
          case measure => simp [intOf]; omega
      · have e : zs.take k = zs := List.take_of_length_le (by omega)
        rw [e] at hR
        have hkz : k = zs.length := by omega
        have kd : decide ((k : Int) < (zs.length : Int)) = false := decide_eq_false (by omega)
        have HX : Ints wr wr.heap.size (.slice (some ⟨w.heap.size, 0, none⟩) G G) ((List.range G).map (sumG zs)) := by
          refine ⟨_, G, by simp, fun _ => ⟨w.heap.size, 0, rfl, hR.lt, fun j hj => ?_⟩⟩
          have hj4 : j < G := by simpa using hj
          rw [Nat.zero_add, hR.cell (Tab_get G (sumG zs) j hj4)]
          simp [List.getD_eq_getElem?_getD, hj4]
        have HXX := Lib.hid HX
        have HB2 := Lib.hid hB
        clear hR hB HX
        go_wp2_with fail
        go_ret2
        exact ⟨_, rfl, HXX.out, HB2.out⟩
  · have hS : sumS g zs = [] := by unfold sumS; rw [if_neg h0]
    rw [hS]
    have hd2 : (chkW g zs != 0) = true := by simpa using h0
    generalize chkW g zs = x at HCk hd2 ⊢
    have HB2 := Lib.hid (Below.refl w.heap.size w)
    clear h
    go_enter Tryz.func11, Tryz.ntmps11
    go_wp2_with fail
    refine (HCk.out).mono ?_
    rintro e w1 ⟨rfl, rfl⟩
    go_wp2_with fail
    go_ret2
    exact ⟨_, rfl, (owns_nil _ w.heap.size).ints, HB2.out⟩
end Go.Proofs.YtjllnbldpcmddaaGreatDoor
