/- slices.Compare on ints, perm.Cmp, the reference's Cmp. -/
import Derived.Test.YtpchomhfpfpckaaDoorBase
import Derived.BigQuiet
import Derived.Deep.QuietTactic
namespace Go.Proofs.YtpchomhfpfpckaaDoor
open Go Go.RowKit

/-- The lexicographic order of two lists. -/
def cmpL : List Int → List Int → Int
  | [], [] => 0
  | [], _ :: _ => -1
  | _ :: _, [] => 1
  | a :: r, b :: q => if a < b then -1 else if b < a then 1 else cmpL r q
/-- The order from the k-th elements on. -/
def cmpAt (zs ys : List Int) (k : Nat) : Int := cmpL (zs.drop k) (ys.drop k)
theorem cmpAt_lt {zs ys : List Int} {k : Nat} (h : k < zs.length) (h' : k < ys.length) (e : zs.getD k 0 < ys.getD k 0) : cmpAt zs ys k = -1 := by
  simp [List.getD_eq_getElem?_getD, h, h'] at e
  unfold cmpAt
  rw [List.drop_eq_getElem_cons h, List.drop_eq_getElem_cons h', cmpL, if_pos e]
theorem cmpAt_gt {zs ys : List Int} {k : Nat} (h : k < zs.length) (h' : k < ys.length) (e : ys.getD k 0 < zs.getD k 0) : cmpAt zs ys k = 1 := by
  simp [List.getD_eq_getElem?_getD, h, h'] at e
  unfold cmpAt
  rw [List.drop_eq_getElem_cons h, List.drop_eq_getElem_cons h', cmpL, if_neg (by omega), if_pos e]
theorem cmpAt_eq {zs ys : List Int} {k : Nat} (h : k < zs.length) (h' : k < ys.length) (e : zs.getD k 0 = ys.getD k 0) : cmpAt zs ys k = cmpAt zs ys (k + 1) := by
  simp [List.getD_eq_getElem?_getD, h, h'] at e
  unfold cmpAt
  rw [List.drop_eq_getElem_cons h, List.drop_eq_getElem_cons h', cmpL, if_neg (by omega), if_neg (by omega)]
theorem cmpAt_short {zs ys : List Int} {k : Nat} (h : k < zs.length) (h' : ys.length ≤ k) : cmpAt zs ys k = 1 := by
  unfold cmpAt
  rw [List.drop_eq_getElem_cons h, List.drop_eq_nil_of_le h', cmpL]
theorem cmpAt_long {zs ys : List Int} {k : Nat} (h : zs.length ≤ k) (h' : k < ys.length) : cmpAt zs ys k = -1 := by
  unfold cmpAt
  rw [List.drop_eq_getElem_cons h', List.drop_eq_nil_of_le h, cmpL]
theorem cmpAt_end {zs ys : List Int} {k : Nat} (h : zs.length ≤ k) (h' : ys.length ≤ k) : cmpAt zs ys k = 0 := by
  unfold cmpAt
  rw [List.drop_eq_nil_of_le h, List.drop_eq_nil_of_le h', cmpL]

def sgn (x y : Int) : Int := if x < y then -1 else if y < x then 1 else 0
set_option maxRecDepth 100000 in
theorem cmpInt_any (x y : Int) (w : World) : Calls Tryd.prog 89 #[.int .i64 x, .int .i64 y] w fun e w' => e = .returned (.int .i64 (sgn x y)) ∧ w' = w := by
  have hxx : (x != x) = false := by simp
  have hyy : (y != y) = false := by simp
  by_cases h : x < y
  · have hs : sgn x y = -1 := if_pos h
    rw [hs]
    go_enter Tryd.func89, Tryd.ntmps89
    go_wp2
    go_ret
    exact ⟨rfl, rfl⟩
  · by_cases h' : y < x
    · have hs : sgn x y = 1 := by unfold sgn; rw [if_neg h, if_pos h']
      rw [hs]
      go_enter Tryd.func89, Tryd.ntmps89
      go_wp2
      go_ret
      exact ⟨rfl, rfl⟩
    · have hs : sgn x y = 0 := by unfold sgn; rw [if_neg h, if_neg h']
      rw [hs]
      go_enter Tryd.func89, Tryd.ntmps89
      go_wp2
      go_ret
      exact ⟨rfl, rfl⟩

set_option maxRecDepth 100000 in
set_option maxHeartbeats 400000 in
theorem compare_any (B : Nat) (v u : Value) (zs ys : List Int) (w : World) (hl : zs.length ≤ 17592186044400) (hl' : ys.length ≤ 17592186044400) (hv : Ints w B v zs) (hu : Ints w B u ys) :
    Calls Tryd.prog 70 #[v, u] w fun e w' => e = .returned (.int .i64 (cmpAt zs ys 0)) ∧ w' = w := by
  obtain ⟨A, c, rfl, h⟩ := hv
  obtain ⟨A', c', rfl, h'⟩ := hu
  have hat : ∀ j, j < zs.length → ∃ b o, A = some ⟨b, o, none⟩ ∧ w.cell? ⟨b, o + j, none⟩ = some (.int .i64 (zs.getD j 0)) := fun j hj => by
    obtain ⟨b, o, e, _, hc⟩ := h (by omega)
    exact ⟨b, o, e, hc j hj⟩
  have hat' : ∀ j, j < ys.length → ∃ b o, A' = some ⟨b, o, none⟩ ∧ w.cell? ⟨b, o + j, none⟩ = some (.int .i64 (ys.getD j 0)) := fun j hj => by
    obtain ⟨b, o, e, _, hc⟩ := h' (by omega)
    exact ⟨b, o, e, hc j hj⟩
  have HA := Lib.hid hat
  have HA' := Lib.hid hat'
  clear h h' hat hat'
  have HL := fun k => Lib.hid (@cmpAt_lt zs ys k)
  have HG := fun k => Lib.hid (@cmpAt_gt zs ys k)
  have HE := fun k => Lib.hid (@cmpAt_eq zs ys k)
  have HS := fun k => Lib.hid (@cmpAt_short zs ys k)
  have HO := fun k => Lib.hid (@cmpAt_long zs ys k)
  have HN := fun k => Lib.hid (@cmpAt_end zs ys k)
  go_enter Tryd.func70, Tryd.ntmps70
  go_wp2
  go_loopw [11] (fun i wr => ∃ k : Nat, i = .int .i64 k ∧ k ≤ zs.length ∧ k ≤ ys.length ∧ Hid (cmpAt zs ys 0 = cmpAt zs ys k) ∧ wr = w) (fun i _ => zs.length - (intOf i).toNat)
  case atStart => exact ⟨0, rfl, Nat.zero_le _, Nat.zero_le _, rfl, rfl⟩
  case round =>
    obtain ⟨k, rfl, hk, hk', HR, rfl⟩ := hrel
    by_cases hlt : k < zs.length
    · obtain ⟨b, o, rfl, hc⟩ := HA.out k hlt
      by_cases hlt' : k < ys.length
      · obtain ⟨b', o', rfl, hc'⟩ := HA'.out k hlt'
        have L := HL k; have G := HG k; have E := HE k
        generalize zs.getD k 0 = x at hc L G E
        generalize ys.getD k 0 = y at hc' L G E
        have HC := fun W => Lib.hid (cmpInt_any x y W)
        by_cases hxy : x < y
        · have hs : sgn x y = -1 := if_pos hxy
          rw [hs] at HC
          have HX := Lib.hid (HR.out.trans (L.out hlt hlt' hxy))
          clear hs hxy
          go_wp2_with fail
          refine ((HC _).out).mono ?_
          rintro e w1 ⟨rfl, rfl⟩
          go_wp2_with fail
          go_ret
          exact ⟨ret_int HX.out.symm, rfl⟩
        · by_cases hyx : y < x
          · have hs : sgn x y = 1 := by unfold sgn; rw [if_neg hxy, if_pos hyx]
            rw [hs] at HC
            have HX := Lib.hid (HR.out.trans (G.out hlt hlt' hyx))
            clear hs hxy hyx
            go_wp2_with fail
            refine ((HC _).out).mono ?_
            rintro e w1 ⟨rfl, rfl⟩
            go_wp2_with fail
            go_ret
            exact ⟨ret_int HX.out.symm, rfl⟩
          · have hs : sgn x y = 0 := by unfold sgn; rw [if_neg hxy, if_neg hyx]
            rw [hs] at HC
            have HX := Lib.hid (HR.out.trans (E.out hlt hlt' (by omega)))
            clear hs hxy hyx
            go_wp2_with fail
            refine ((HC _).out).mono ?_
            rintro e w1 ⟨rfl, rfl⟩
            go_wp2_with fail
            go_roundw
            case rel => exact ⟨k + 1, by go_num, by omega, by omega, HX, by trivial⟩
            case measure => simp [intOf]; omega
      · have HX := Lib.hid (HR.out.trans ((HS k).out hlt (by omega)))
        have hge : (ys.length : Int) ≤ (k : Int) := by omega
        go_wp2_with fail
        go_ret
        exact ⟨ret_int HX.out.symm, rfl⟩
    · by_cases hlt' : k < ys.length
      · have HX := Lib.hid (HR.out.trans ((HO k).out (by omega) hlt'))
        have hge : (zs.length : Int) < (ys.length : Int) := by omega
        go_wp2_with fail
        go_ret
        exact ⟨ret_int HX.out.symm, rfl⟩
      · have HX := Lib.hid (HR.out.trans ((HN k).out (by omega) (by omega)))
        have hge : ¬ (zs.length : Int) < (ys.length : Int) := by omega
        go_wp2_with fail
        go_ret
        exact ⟨ret_int HX.out.symm, rfl⟩

set_option maxRecDepth 100000 in
/-- perm.Cmp. -/
theorem Cmp_any (B : Nat) (v u : Value) (zs ys : List Int) (w : World) (hl : zs.length ≤ 17592186044400) (hl' : ys.length ≤ 17592186044400) (hv : Ints w B v zs) (hu : Ints w B u ys) :
    Calls Tryd.prog 32 #[v, u] w fun e w' => e = .returned (.int .i64 (cmpAt zs ys 0)) ∧ w' = w := by
  have HC := Lib.hid (compare_any B v u zs ys w hl hl' hv hu)
  clear hv hu
  generalize cmpAt zs ys 0 = r at HC
  go_enter Tryd.func32, Tryd.ntmps32
  go_wp2_with fail
  refine HC.out.mono ?_
  rintro e w' ⟨rfl, rfl⟩
  go_wp2_with fail
  go_ret
  exact ⟨rfl, rfl⟩

set_option maxRecDepth 100000 in
set_option maxHeartbeats 400000 in
/-- The reference's Cmp. -/
theorem refCmp_any (B : Nat) (v u : Value) (zs ys : List Int) (w : World) (hl : zs.length ≤ 17592186044400) (hl' : ys.length ≤ 17592186044400) (hv : Ints w B v zs) (hu : Ints w B u ys) :
    Calls Tryd.prog 43 #[v, u] w fun e w' => e = .returned (.int .i64 (cmpAt zs ys 0)) ∧ ∃ n, w' = w.drewN n := by
  obtain ⟨A, c, rfl, h⟩ := hv
  obtain ⟨A', c', rfl, h'⟩ := hu
  have hat : ∀ j, j < zs.length → ∃ b o, A = some ⟨b, o, none⟩ ∧ w.cell? ⟨b, o + j, none⟩ = some (.int .i64 (zs.getD j 0)) := fun j hj => by
    obtain ⟨b, o, e, _, hc⟩ := h (by omega)
    exact ⟨b, o, e, hc j hj⟩
  have hat' : ∀ j, j < ys.length → ∃ b o, A' = some ⟨b, o, none⟩ ∧ w.cell? ⟨b, o + j, none⟩ = some (.int .i64 (ys.getD j 0)) := fun j hj => by
    obtain ⟨b, o, e, _, hc⟩ := h' (by omega)
    exact ⟨b, o, e, hc j hj⟩
  have HA := Lib.hid hat
  have HA' := Lib.hid hat'
  clear h h' hat hat'
  have HL := fun k => Lib.hid (@cmpAt_lt zs ys k)
  have HG := fun k => Lib.hid (@cmpAt_gt zs ys k)
  have HE := fun k => Lib.hid (@cmpAt_eq zs ys k)
  have HS := fun k => Lib.hid (@cmpAt_short zs ys k)
  have HO := fun k => Lib.hid (@cmpAt_long zs ys k)
  have HN := fun k => Lib.hid (@cmpAt_end zs ys k)
  go_enter Tryd.func43, Tryd.ntmps43
  go_wp2
  go_loopw [5] (fun i wr => ∃ k n : Nat, i = .int .i64 k ∧ k ≤ zs.length ∧ k ≤ ys.length ∧ Hid (cmpAt zs ys 0 = cmpAt zs ys k) ∧ wr = w.drewN n) (fun i _ => zs.length - (intOf i).toNat)
  case atStart => exact ⟨0, 0, rfl, Nat.zero_le _, Nat.zero_le _, rfl, rfl⟩
  case round =>
    obtain ⟨k, n, rfl, hk, hk', HR, rfl⟩ := hrel
    by_cases hlt : k < zs.length
    · obtain ⟨b, o, rfl, hc⟩ := HA.out k hlt
      by_cases hlt' : k < ys.length
      · obtain ⟨b', o', rfl, hc'⟩ := HA'.out k hlt'
        have L := HL k; have G := HG k; have E := HE k
        generalize zs.getD k 0 = x at hc L G E
        generalize ys.getD k 0 = y at hc' L G E
        by_cases hxy : x < y
        · have HX := Lib.hid (HR.out.trans (L.out hlt hlt' hxy))
          go_wp2_with fail
          go_quiet (fail)
          go_wp2_with fail
          go_ret
          exact ⟨ret_int HX.out.symm, _, World.drewN_drewN _ _ _⟩
        · by_cases hyx : y < x
          · have HX := Lib.hid (HR.out.trans (G.out hlt hlt' hyx))
            go_wp2_with fail
            go_quiet (fail)
            go_wp2_with fail
            go_quiet (fail)
            go_wp2_with fail
            go_ret
            exact ⟨ret_int HX.out.symm, _, (World.drewN_drewN _ _ _).trans (World.drewN_drewN _ _ _)⟩
          · have HX := Lib.hid (HR.out.trans (E.out hlt hlt' (by omega)))
            go_wp2_with fail
            go_quiet (fail)
            go_wp2_with fail
            go_quiet (fail)
            go_wp2_with fail
            go_roundw
            case rel => exact ⟨k + 1, _, by go_num, by omega, by omega, HX, rfl⟩
            case measure => simp [intOf]; omega
      · have HX := Lib.hid (HR.out.trans ((HS k).out hlt (by omega)))
        have hge : ¬ (zs.length : Int) < (ys.length : Int) := by omega
        have hge2 : (ys.length : Int) < (zs.length : Int) := by omega
        go_wp2_with fail
        go_ret
        exact ⟨ret_int HX.out.symm, n, rfl⟩
    · by_cases hlt' : k < ys.length
      · have HX := Lib.hid (HR.out.trans ((HO k).out (by omega) hlt'))
        have hge : (zs.length : Int) < (ys.length : Int) := by omega
        go_wp2_with fail
        go_ret
        exact ⟨ret_int HX.out.symm, n, rfl⟩
      · have HX := Lib.hid (HR.out.trans ((HN k).out (by omega) (by omega)))
        have hge : ¬ (zs.length : Int) < (ys.length : Int) := by omega
        have hge2 : ¬ (ys.length : Int) < (zs.length : Int) := by omega
        go_wp2_with fail
        go_ret
        exact ⟨ret_int HX.out.symm, n, rfl⟩
end Go.Proofs.YtpchomhfpfpckaaDoor
