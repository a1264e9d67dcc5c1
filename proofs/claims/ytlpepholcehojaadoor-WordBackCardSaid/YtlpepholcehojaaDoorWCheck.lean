/- word.size, word.inRange, word.Check of a valid word; cmp.Compare; word.Cmp. -/
import Derived.Test.YtlpepholcehojaaDoorWReduce
namespace Go.Proofs.YtlpepholcehojaaDoor
open Go Go.RowKit

set_option maxRecDepth 100000 in
theorem size_any (x : Int) (w : World) (hx : -9223372036854775808 ≤ x ∧ x ≤ 9223372036854775807) :
    Calls Tryd.prog 26 #[.int .i64 x] w fun e w' => e = .returned (.int .u64 (x.natAbs : Int)) ∧ w = w' := by
  have hw := wrap_nlet hx
  by_cases h0 : x < nlet x
  · have hu : IntKind.u64.wrap (nlet x) = (x.natAbs : Int) := by
      unfold nlet at h0 ⊢
      rw [IntKind.wrap_u64]
      split at h0 <;> split <;> omega
    have hm : max x (nlet x) = nlet x := by omega
    go_enter Tryd.func26, Tryd.ntmps26
    go_wp2_with fail
    go_ret
    exact ⟨rfl, rfl⟩
  · have hu : IntKind.u64.wrap x = (x.natAbs : Int) := by
      unfold nlet at h0
      rw [IntKind.wrap_u64]
      split at h0 <;> omega
    have hm : max x (nlet x) = x := by omega
    go_enter Tryd.func26, Tryd.ntmps26
    go_wp2_with fail
    go_ret
    exact ⟨rfl, rfl⟩

/-- A valid word. -/
def Valid (g : Nat) (zs : List Int) : Prop := ∀ x ∈ zs, x ≠ 0 ∧ x.natAbs ≤ g
theorem Valid.at_ {g : Nat} {zs : List Int} (h : Valid g zs) {j : Nat} (hj : j < zs.length) : zs.getD j 0 ≠ 0 ∧ (zs.getD j 0).natAbs ≤ g := by
  have : zs.getD j 0 = zs[j] := by simp [List.getD_eq_getElem?_getD, hj]
  rw [this]; exact h _ (List.getElem_mem hj)

set_option maxRecDepth 100000 in
set_option maxHeartbeats 400000 in
theorem inRange_ok (g : Nat) (v : Value) (zs : List Int) (w : World) (hl : zs.length ≤ 1000000000) (hg : g ≤ 16) (hz : Valid g zs) (hv : Ints w w.heap.size v zs) :
    Calls Tryd.prog 19 #[v, .int .i64 g] w fun e w' => e = .returned (.bool true) ∧ w = w' := by
  obtain ⟨A, c, rfl, h⟩ := hv
  have hat : ∀ j, j < zs.length → ∃ b o, A = some ⟨b, o, none⟩ ∧ b < w.heap.size ∧ w.cell? ⟨b, o + j, none⟩ = some (.int .i64 (zs.getD j 0)) := fun j hj => by
    obtain ⟨b, o, e, hb, hc⟩ := h (by omega)
    exact ⟨b, o, e, hb, hc j hj⟩
  have HA := Lib.hid hat
  have HZ := Lib.hid hz
  have hgw : IntKind.u64.wrap (g : Int) = g := by rw [IntKind.wrap_u64]; omega
  clear h hat hz
  go_enter Tryd.func19, Tryd.ntmps19
  go_wp2
  go_loopw [9] (fun i wr => ∃ k : Nat, i = .int .i64 k ∧ k ≤ zs.length ∧ w = wr) (fun i _ => zs.length - (intOf i).toNat)
  case atStart => exact ⟨0, rfl, Nat.zero_le _, rfl⟩
  case round =>
    obtain ⟨k, rfl, hk, rfl⟩ := hrel
    by_cases hlt : k < zs.length
    · obtain ⟨b, o, rfl, hb, hc⟩ := HA.out k hlt
      obtain ⟨h1, h2⟩ := HZ.out.at_ hlt
      have HS := fun W => Lib.hid (size_any (zs.getD k 0) W (by omega))
      generalize zs.getD k 0 = x at hc h1 h2 HS
      have h3 : (x == 0) = false := by simpa using h1
      generalize hn : x.natAbs = m at h2 HS
      have h4 : ¬ (g : Int) < (m : Int) := by omega
      clear hn h1
      go_wp2_with fail
      refine ((HS _).out).mono ?_
      rintro e w1 ⟨rfl, rfl⟩
      go_wp2_with fail
      go_roundw
      case rel => exact ⟨k + 1, by go_num, by omega, by trivial⟩
      case measure => simp [intOf]; omega
    · go_wp2_with fail
      go_ret
      exact ⟨rfl, rfl⟩

set_option maxRecDepth 100000 in
set_option maxHeartbeats 400000 in
theorem Check_ok (g : Nat) (v : Value) (zs : List Int) (w : World) (hl : zs.length ≤ 4000) (hg : 1 ≤ g ∧ g ≤ 16) (hz : Valid g zs) (hv : Ints w w.heap.size v zs) :
    Calls Tryd.prog 23 #[v, .int .i64 g] w fun e w' => e = .returned (.int .i64 0) ∧ w = w' := by
  have HI := fun W h => Lib.hid (inRange_ok g v zs W (by omega) hg.2 hz h)
  have HV := Lib.hid hv
  obtain ⟨A, c, rfl, h⟩ := hv
  have h1 : ¬ (g : Int) < 1 := by omega
  have h2 : ¬ (16 : Int) < (g : Int) := by omega
  have h3 : ¬ (4000 : Int) < (zs.length : Int) := by omega
  clear h hz
  go_enter Tryd.func23, Tryd.ntmps23
  go_wp2_with fail
  refine ((HI _ HV.out).out).mono ?_
  rintro e w1 ⟨rfl, rfl⟩
  go_wp2_with fail
  go_ret
  exact ⟨rfl, rfl⟩

def sgn (x y : Int) : Int := if x < y then -1 else if y < x then 1 else 0
set_option maxRecDepth 100000 in
theorem compareInt_any (x y : Int) (w : World) : Calls Tryd.prog 32 #[.int .i64 x, .int .i64 y] w fun e w' => e = .returned (.int .i64 (sgn x y)) ∧ w = w' := by
  have HN : ∀ (z : Int) (W : World), Hid (Calls Tryd.prog 45 #[.int .i64 z] W fun e w' => e = .returned (.bool false) ∧ W = w') := fun z W => by
    show Calls _ _ _ _ _
    have hzz : (z != z) = false := by simp
    go_enter Tryd.func45, Tryd.ntmps45
    go_wp2_with fail
    go_ret
    exact ⟨rfl, rfl⟩
  by_cases h : x < y
  · have hs : sgn x y = -1 := if_pos h
    rw [hs]
    clear hs
    go_enter Tryd.func32, Tryd.ntmps32
    go_wp2_with fail
    refine ((HN x _).out).mono ?_
    rintro e w1 ⟨rfl, rfl⟩
    go_wp2_with fail
    refine ((HN y _).out).mono ?_
    rintro e w1 ⟨rfl, rfl⟩
    go_wp2_with fail
    go_ret
    exact ⟨rfl, rfl⟩
  · by_cases h' : y < x
    · have hs : sgn x y = 1 := by unfold sgn; rw [if_neg h, if_pos h']
      rw [hs]
      clear hs
      go_enter Tryd.func32, Tryd.ntmps32
      go_wp2_with fail
      refine ((HN x _).out).mono ?_
      rintro e w1 ⟨rfl, rfl⟩
      go_wp2_with fail
      refine ((HN y _).out).mono ?_
      rintro e w1 ⟨rfl, rfl⟩
      go_wp2_with fail
      go_ret
      exact ⟨rfl, rfl⟩
    · have hs : sgn x y = 0 := by unfold sgn; rw [if_neg h, if_neg h']
      rw [hs]
      clear hs
      go_enter Tryd.func32, Tryd.ntmps32
      go_wp2_with fail
      refine ((HN x _).out).mono ?_
      rintro e w1 ⟨rfl, rfl⟩
      go_wp2_with fail
      refine ((HN y _).out).mono ?_
      rintro e w1 ⟨rfl, rfl⟩
      go_wp2_with fail
      go_ret
      exact ⟨rfl, rfl⟩

set_option maxRecDepth 100000 in
theorem Cmp_len (v u : Value) (zs ys : List Int) (w : World) (hne : zs.length ≠ ys.length) (hv : Ints w w.heap.size v zs) (hu : Ints w w.heap.size u ys) :
    Calls Tryd.prog 18 #[v, u] w fun e w' => e = .returned (.int .i64 (sgn zs.length ys.length)) ∧ w = w' := by
  obtain ⟨A, c, rfl, h⟩ := hv
  obtain ⟨A', c', rfl, h'⟩ := hu
  clear h h'
  have HC := fun W => Lib.hid (compareInt_any zs.length ys.length W)
  have hb : ((zs.length : Int) != (ys.length : Int)) = true := by rw [bne_iff_ne]; omega
  generalize sgn zs.length ys.length = r at HC
  clear hne
  go_enter Tryd.func18, Tryd.ntmps18
  go_wp2_with fail
  refine ((HC _).out).mono ?_
  rintro e w1 ⟨rfl, rfl⟩
  go_wp2_with fail
  go_ret
  exact ⟨rfl, rfl⟩

set_option maxRecDepth 100000 in
theorem cmpLetters_self (x : Int) (w : World) (hx : -9223372036854775808 ≤ x ∧ x ≤ 9223372036854775807) : Calls Tryd.prog 34 #[.int .i64 x, .int .i64 x] w fun e w' => e = .returned (.int .i64 0) ∧ w = w' := by
  have HS := fun W => Lib.hid (size_any x W hx)
  have HC := fun W => Lib.hid (compareInt_any x x W)
  rw [show sgn x x = 0 by unfold sgn; rw [if_neg (by omega), if_neg (by omega)]] at HC
  generalize (x.natAbs : Int) = m at HS
  have hb : (m != m) = false := by simp
  clear hx
  go_enter Tryd.func34, Tryd.ntmps34
  go_wp2_with fail
  refine ((HS _).out).mono ?_
  rintro e w1 ⟨rfl, rfl⟩
  go_wp2_with fail
  refine ((HS _).out).mono ?_
  rintro e w1 ⟨rfl, rfl⟩
  go_wp2_with fail
  refine ((HC _).out).mono ?_
  rintro e w1 ⟨rfl, rfl⟩
  go_wp2_with fail
  go_ret
  exact ⟨rfl, rfl⟩

set_option maxRecDepth 100000 in
set_option maxHeartbeats 400000 in
theorem compareFunc_self (v u : Value) (zs : List Int) (w : World) (hl : zs.length ≤ 1000000000) (hr : Rng zs) (hv : Ints w w.heap.size v zs) (hu : Ints w w.heap.size u zs) :
    Calls Tryd.prog 33 #[v, u, .func (.func 34) #[] #[]] w fun e w' => e = .returned (.int .i64 0) ∧ w = w' := by
  obtain ⟨A, c, rfl, h⟩ := hv
  obtain ⟨A', c', rfl, h'⟩ := hu
  have hat : ∀ j, j < zs.length → ∃ b o b' o', A = some ⟨b, o, none⟩ ∧ A' = some ⟨b', o', none⟩ ∧ w.cell? ⟨b, o + j, none⟩ = some (.int .i64 (zs.getD j 0)) ∧ w.cell? ⟨b', o' + j, none⟩ = some (.int .i64 (zs.getD j 0)) := fun j hj => by
    obtain ⟨b, o, e, _, hc⟩ := h (by omega)
    obtain ⟨b', o', e', _, hc'⟩ := h' (by omega)
    exact ⟨b, o, b', o', e, e', hc j hj, hc' j hj⟩
  have HA := Lib.hid hat
  have HR := Lib.hid hr
  clear h h' hat hr
  go_enter Tryd.func33, Tryd.ntmps33
  go_wp2
  go_loopw [13] (fun i wr => ∃ k : Nat, i = .int .i64 k ∧ k ≤ zs.length ∧ w = wr) (fun i _ => zs.length - (intOf i).toNat)
  case atStart => exact ⟨0, rfl, Nat.zero_le _, rfl⟩
  case round =>
    obtain ⟨k, rfl, hk, rfl⟩ := hrel
    by_cases hlt : k < zs.length
    · obtain ⟨b, o, b', o', rfl, rfl, hc, hc'⟩ := HA.out k hlt
      have HC := fun W => Lib.hid (cmpLetters_self (zs.getD k 0) W (HR.out.at hlt))
      generalize zs.getD k 0 = x at hc hc' HC
      have hge : ¬ (zs.length : Int) ≤ (k : Int) := by omega
      go_wp2_with fail
      refine ((HC _).out).mono ?_
      rintro e w1 ⟨rfl, rfl⟩
      go_wp2_with fail
      go_roundw
      case rel => exact ⟨k + 1, by go_num, by omega, by trivial⟩
      case measure => simp [intOf]; omega
    · go_wp2_with fail
      go_ret
      exact ⟨rfl, rfl⟩

set_option maxRecDepth 100000 in
theorem Cmp_self (v u : Value) (zs : List Int) (w : World) (hl : zs.length ≤ 1000000000) (hr : Rng zs) (hv : Ints w w.heap.size v zs) (hu : Ints w w.heap.size u zs) :
    Calls Tryd.prog 18 #[v, u] w fun e w' => e = .returned (.int .i64 0) ∧ w = w' := by
  have HC := Lib.hid (compareFunc_self v u zs w hl hr hv hu)
  obtain ⟨A, c, rfl, h⟩ := hv
  obtain ⟨A', c', rfl, h'⟩ := hu
  have hb : ((zs.length : Int) != (zs.length : Int)) = false := by simp
  clear h h'
  go_enter Tryd.func18, Tryd.ntmps18
  go_wp2_with fail
  refine (HC.out).mono ?_
  rintro e w1 ⟨rfl, rfl⟩
  go_wp2_with fail
  go_ret
  exact ⟨rfl, rfl⟩
end Go.Proofs.YtlpepholcehojaaDoor
