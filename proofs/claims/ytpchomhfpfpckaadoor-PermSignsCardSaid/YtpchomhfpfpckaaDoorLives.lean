/- cayleykit.Same, and the examples that each statement of this stage calls first. -/
import Derived.Test.YtpchomhfpfpckaaDoorText
namespace Go.Proofs.YtpchomhfpfpckaaDoor
open Go Go.RowKit

theorem ext_getD {zs ys : List Int} (hl : zs.length = ys.length) (h : ∀ j, j < zs.length → zs.getD j 0 = ys.getD j 0) : zs = ys := by
  apply List.ext_getElem hl
  intro j h1 h2
  have := h j h1
  simpa [List.getD_eq_getElem?_getD, h1, h2] using this

/-- What Same answers. -/
def sameB (zs ys : List Int) : Bool := decide (zs = ys)
theorem sameB_len {zs ys : List Int} (h : ¬ zs.length = ys.length) : sameB zs ys = false := decide_eq_false (fun e => h (by rw [e]))
theorem sameB_at {zs ys : List Int} {k : Nat} (h : ¬ zs.getD k 0 = ys.getD k 0) : sameB zs ys = false := decide_eq_false (fun e => h (by rw [e]))
theorem sameB_all {zs ys : List Int} (hl : zs.length = ys.length) (h : ∀ j, j < zs.length → zs.getD j 0 = ys.getD j 0) : sameB zs ys = true := decide_eq_true (ext_getD hl h)
theorem ret_bool {a b : Bool} (h : a = b) : Ending.returned (.bool a) = .returned (.bool b) := by rw [h]

set_option maxRecDepth 100000 in
set_option maxHeartbeats 400000 in
theorem same_any (B : Nat) (v u : Value) (zs ys : List Int) (w : World) (hl : zs.length ≤ 17592186044400) (hv : Ints w B v zs) (hu : Ints w B u ys) :
    Calls Tryd.prog 24 #[v, u] w fun e w' => e = .returned (.bool (sameB zs ys)) ∧ ∃ n, w' = w.drewN n := by
  obtain ⟨A, c, rfl, h⟩ := hv
  obtain ⟨A', c', rfl, h'⟩ := hu
  by_cases hn : zs.length = ys.length
  · have hat : ∀ j, j < zs.length → ∃ b o b' o', A = some ⟨b, o, none⟩ ∧ A' = some ⟨b', o', none⟩ ∧ w.cell? ⟨b, o + j, none⟩ = some (.int .i64 (zs.getD j 0)) ∧ w.cell? ⟨b', o' + j, none⟩ = some (.int .i64 (ys.getD j 0)) := fun j hj => by
      obtain ⟨b, o, e, _, hc⟩ := h (by omega)
      obtain ⟨b', o', e', _, hc'⟩ := h' (by omega)
      exact ⟨b, o, b', o', e, e', hc j hj, hc' j (by omega)⟩
    have HA := Lib.hid hat
    have HS := Lib.hid (@sameB_all zs ys hn)
    have HF := fun k => Lib.hid (@sameB_at zs ys k)
    have hn' : ((zs.length : Int) != (ys.length : Int)) = false := by simp [hn]
    have hn2 : ys.length = zs.length := hn.symm
    have HN := Lib.hid hn2
    clear h h' hat hn hn2
    generalize sameB zs ys = r at HS HF
    go_enter Tryd.func24, Tryd.ntmps24
    go_wp2
    go_loopw [5] (fun i wr => ∃ k n : Nat, i = .int .i64 k ∧ k ≤ zs.length ∧ Hid (∀ j, j < k → zs.getD j 0 = ys.getD j 0) ∧ wr = w.drewN n) (fun i _ => zs.length - (intOf i).toNat)
    case atStart => exact ⟨0, 0, rfl, Nat.zero_le _, (fun j hj => absurd hj (by omega)), rfl⟩
    case round =>
      obtain ⟨k, n, rfl, hk, HE, rfl⟩ := hrel
      by_cases hlt : k < zs.length
      · obtain ⟨b, o, b', o', rfl, rfl, hc, hc'⟩ := HA.out k hlt
        have hky : k < ys.length := by have := HN.out; omega
        have HK := HF k
        have HE2 : zs.getD k 0 = ys.getD k 0 → Hid (∀ j, j < k + 1 → zs.getD j 0 = ys.getD j 0) := fun e j hj => by
          by_cases e' : j = k
          · subst e'; exact e
          · exact HE j (by omega)
        have HE3 := Lib.hid HE2
        clear HE2
        generalize zs.getD k 0 = x at hc HK HE3
        generalize ys.getD k 0 = y at hc' HK HE3
        by_cases hxy : x = y
        · subst hxy
          have hne : (x != x) = false := by simp
          go_wp2
          go_quiet (fail)
          go_wp2
          go_roundw
          case rel => exact ⟨k + 1, _, by go_num, by omega, HE3.out (by trivial), rfl⟩
          case measure => simp [intOf]; omega
        · have hne : (x != y) = true := by simpa using hxy
          have HX := Lib.hid (HK.out hxy)
          clear hxy
          go_wp2
          go_quiet (fail)
          go_wp2
          go_ret
          exact ⟨ret_bool HX.out.symm, _, World.drewN_drewN _ _ _⟩
      · have HX := Lib.hid (HS.out (fun j hj => HE j (by omega)))
        go_wp2
        go_ret
        exact ⟨ret_bool HX.out.symm, n, rfl⟩
  · have HX := Lib.hid (sameB_len hn)
    have hn' : ((zs.length : Int) != (ys.length : Int)) = true := by simp; omega
    clear h h' hn
    go_enter Tryd.func24, Tryd.ntmps24
    go_wp2
    go_ret
    exact ⟨ret_bool HX.out.symm, 0, rfl⟩

def LA : List Int := [1, 2, 0, 4, 3]
def LB : List Int := [0, 1, 2, 4, 3]
def LC : List Int := [1, 2, 0, 3, 4]

/-- A list that is written out, in a new block. -/
theorem ints_lit (w : World) (zs : List Int) (cs : Array Value) (c : Nat) (h : cs = Tab zs.length fun i => zs.getD i 0) :
    Ints (w.alloc (.cells cs 3)) (w.alloc (.cells cs 3)).heap.size (.slice (some ⟨w.heap.size, 0, none⟩) zs.length c) zs := by
  subst h
  exact Row.ints (Row.new w 3 _)

theorem a_any (w : World) : Calls Tryd.prog 14 #[] w fun e w' => e = .returned (.slice (some ⟨w.heap.size, 0, none⟩) 5 5) ∧ w' = w.alloc (.cells #[.int .i64 1, .int .i64 2, .int .i64 0, .int .i64 4, .int .i64 3] 3) := by
  go_enter Tryd.func14, Tryd.ntmps14
  go_wp2
  go_ret
  exact ⟨rfl, rfl⟩
theorem b_any (w : World) : Calls Tryd.prog 13 #[] w fun e w' => e = .returned (.slice (some ⟨w.heap.size, 0, none⟩) 5 5) ∧ w' = w.alloc (.cells #[.int .i64 0, .int .i64 1, .int .i64 2, .int .i64 4, .int .i64 3] 3) := by
  go_enter Tryd.func13, Tryd.ntmps13
  go_wp2
  go_ret
  exact ⟨rfl, rfl⟩
/-- The example a: a slice that reads as 1 2 0 4 3. -/
theorem a_ints (w : World) : Calls Tryd.prog 14 #[] w fun e w' => ∃ v, e = .returned v ∧ Ints w' w'.heap.size v LA ∧ Below w.heap.size w w' :=
  (a_any w).mono fun e w' ⟨he, hw⟩ => ⟨_, he, by subst hw; exact ints_lit w LA _ 5 (by rfl), by subst hw; exact (Below.refl _ _).alloc (Nat.le_refl _) _⟩
theorem b_ints (w : World) : Calls Tryd.prog 13 #[] w fun e w' => ∃ v, e = .returned v ∧ Ints w' w'.heap.size v LB ∧ Below w.heap.size w w' :=
  (b_any w).mono fun e w' ⟨he, hw⟩ => ⟨_, he, by subst hw; exact ints_lit w LB _ 5 (by rfl), by subst hw; exact (Below.refl _ _).alloc (Nat.le_refl _) _⟩

theorem live1 : chk LA = 0 := by decide
theorem live2 : chk2 LA LB = 0 := by decide
theorem live3 : mulL LA LB = LC := by decide
theorem live4 : ordN (cycs LA) = 6 := by decide
theorem live5 : textOk LA = [40, 48, 32, 49, 32, 50, 41, 40, 51, 32, 52, 41] := by decide

/-- cayleylaw01.is: no error, and the same list. -/
theorem is_any (v u : Value) (B : Nat) (zs ys : List Int) (w : World) (hl : zs.length ≤ 17592186044400) (hv : Ints w B v zs) (hu : Ints w B u ys) :
    Calls Tryd.prog 19 #[v, .int .i64 0, u] w fun e w' => e = .returned (.bool (sameB zs ys)) ∧ ∃ n, w' = w.drewN n := by
  have HC := fun W h1 h2 => Lib.hid (same_any B v u zs ys W hl h1 h2)
  have HV := Lib.hid hv
  have HU := Lib.hid hu
  clear hv hu
  generalize sameB zs ys = r at HC
  go_enter Tryd.func19, Tryd.ntmps19
  go_wp2_with fail
  refine ((HC _ HV.out HU.out).out).mono ?_
  rintro e w' ⟨rfl, n, rfl⟩
  go_wp2_with fail
  go_ret
  exact ⟨rfl, n, rfl⟩

/-- perm.Text of a permutation, however its slice lies. -/
theorem Text_any (v : Value) (zs : List Int) (w : World) (hz : chk zs = 0) (hv : Ints w w.heap.size v zs) : Calls Tryd.prog 26 #[v] w (StrErr 0 (textOk zs) w) := by
  obtain ⟨h1, _, _⟩ := chk_zero hz
  obtain ⟨b, o, c, rfl, hb, hc⟩ := hv.at_ (by omega)
  exact Text_ok b o c zs w hz hb hc

set_option maxRecDepth 100000 in
set_option maxHeartbeats 1000000 in
/-- The examples that each statement calls first hold. -/
theorem lives_any (w : World) : Calls Tryd.prog 11 #[] w fun e w' => e = .returned (.bool true) ∧ Below w.heap.size w w' := by
  have HM := fun v u W h1 h2 => Lib.hid (Mul_any v u LA LB W (by decide) (by decide) h1 h2)
  rw [live2, live3] at HM
  have HO := fun v W h1 => Lib.hid (Order_any v LA W (by decide) h1)
  rw [live1, show ordV LA = 6 by unfold ordV; rw [if_pos live1, live4]; rfl] at HO
  have HT := fun v W h1 => Lib.hid (Text_any v LA W live1 h1)
  rw [live5] at HT
  go_enter Tryd.func11, Tryd.ntmps11
  go_wp2_with fail
  refine (a_ints _).mono ?_
  rintro e w1 ⟨v1, rfl, hi1, hb1⟩
  have HI1 := Lib.hid hi1; have HB1 := Lib.hid hb1; clear hi1 hb1
  go_wp2_with fail
  refine (b_ints _).mono ?_
  rintro e w2 ⟨v2, rfl, hi2, hb2⟩
  have HI2 := Lib.hid hi2; have HB2 := Lib.hid hb2; clear hi2 hb2
  go_wp2_with fail
  refine ((HM v1 v2 _ ((HI1.out.below HB2.out).more HB2.out.size) HI2.out).out).mono ?_
  rintro e w3 ⟨r, rfl, hb3, hi3, -⟩
  have HI3 := Lib.hid (hi3 rfl); have HB3 := Lib.hid ((HB1.out.trans (HB2.out.mono HB1.out.size)).trans (hb3.mono (Nat.le_trans HB1.out.size HB2.out.size))); clear hi3 hb3 HI1 HB1 HI2 HB2 HM
  go_wp2_with fail
  refine (a_ints _).mono ?_
  rintro e w4 ⟨v4, rfl, hi4, hb4⟩
  have HI4 := Lib.hid hi4; have HI5 := Lib.hid ((HI3.out.below hb4).more hb4.size); have HB4 := Lib.hid (HB3.out.trans (hb4.mono HB3.out.size)); clear hi4 hb4 HI3 HB3
  go_wp2_with fail
  refine ((HO v4 _ HI4.out).out).mono ?_
  rintro e w5 ⟨rfl, hb5⟩
  have HI6 := Lib.hid ((HI5.out.below hb5).more hb5.size); have HB5 := Lib.hid (HB4.out.trans (hb5.mono HB4.out.size)); clear hb5 HI4 HI5 HB4 HO
  go_wp2_with fail
  refine (a_ints _).mono ?_
  rintro e w6 ⟨v6, rfl, hi6, hb6⟩
  have HI7 := Lib.hid hi6; have HI8 := Lib.hid ((HI6.out.below hb6).more hb6.size); have HB6 := Lib.hid (HB5.out.trans (hb6.mono HB5.out.size)); clear hi6 hb6 HI6 HB5
  go_wp2_with fail
  refine ((HT v6 _ HI7.out).out).mono ?_
  rintro e w7 ⟨rfl, hb7⟩
  have HI9 := Lib.hid ((HI8.out.below hb7).more hb7.size); have HB7 := Lib.hid (HB6.out.trans (hb7.mono HB6.out.size)); clear hb7 HI7 HI8 HB6 HT
  go_wp2_with fail
  have HI := Lib.hid ((HI9.out.alloc (Nat.le_refl _) (.cells #[.int .i64 1, .int .i64 2, .int .i64 0, .int .i64 3, .int .i64 4] 3)).more (B' := (w7.alloc (.cells #[.int .i64 1, .int .i64 2, .int .i64 0, .int .i64 3, .int .i64 4] 3)).heap.size) (by simp))
  have HS := Lib.hid (is_any r (.slice (some ⟨w7.heap.size, 0, none⟩) 5 5) _ LC LC _ (by decide) HI.out (ints_lit w7 LC _ 5 (by rfl)))
  rw [show sameB LC LC = true by decide] at HS
  refine HS.out.mono ?_
  rintro e w8 ⟨rfl, n, rfl⟩
  clear HS HI
  go_wp2
  go_ret
  exact ⟨rfl, (HB7.out.alloc HB7.out.size _).trans ⟨rfl, rfl, rfl, Nat.le_refl _, fun _ _ => rfl⟩⟩
end Go.Proofs.YtpchomhfpfpckaaDoor
