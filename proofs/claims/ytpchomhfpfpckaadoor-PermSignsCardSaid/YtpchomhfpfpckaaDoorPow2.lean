/- perm.Inv and perm.Pow, at all lists. -/
import Derived.Test.YtpchomhfpfpckaaDoorPow
namespace Go.Proofs.YtpchomhfpfpckaaDoor
open Go Go.RowKit

set_option maxRecDepth 100000 in
set_option maxHeartbeats 400000 in
/-- perm.Inv. -/
theorem Inv_any (v : Value) (zs : List Int) (w : World) (hl : zs.length ≤ 17592186044400) (hv : Ints w w.heap.size v zs) :
    Calls Tryd.prog 15 #[v] w (PermErr (chk zs) (invL zs) w) := by
  have HC := fun W h1 h2 h3 => Lib.hid (checks_one w.heap.size v zs W hl h1 h2 h3)
  have HI : ∀ u W, Ints W W.heap.size u zs → Hid (chk zs = 0 → Calls Tryd.prog 61 #[u] W (NewPerm W (invL zs))) := fun u W h hz => inv_any (n := zs.length) ⟨zs, rfl, (chk_zero hz).2.2⟩ u W (chk_zero hz).1 (chk_zero hz).2.1 h
  have HV := Lib.hid hv
  have hs : ∃ A n c, v = .slice A n c := by obtain ⟨A, c, h, _⟩ := hv; exact ⟨A, _, c, h⟩
  obtain ⟨A, n, c, rfl⟩ := hs
  clear hv
  generalize chk zs = x at HC HI
  by_cases hx : x = 0
  · subst hx
    go_enter Tryd.func15, Tryd.ntmps15
    go_wp2_with fail
    refine ((HC _ (by simp) (by simp) ((HV.out.alloc (Nat.le_refl _) _).more (by simp))).out).mono ?_
    rintro e w1 ⟨rfl, hb1⟩
    have hb := (((Below.refl _ w).alloc (Nat.le_refl _) _).trans (hb1.mono (by simp)))
    have HB := Lib.hid hb
    clear hb hb1
    go_wp2_with fail
    refine ((HI _ _ ((HV.out.below HB.out).more HB.out.size)).out (by trivial)).mono ?_
    rintro e w2 ⟨r, rfl, hr, hb2⟩
    have HB2 := Lib.hid (HB.out.trans (hb2.mono HB.out.size))
    have HR := Lib.hid hr
    clear hr hb2
    go_wp2_with fail
    go_ret2
    exact ⟨r, rfl, HB2.out, fun _ => HR.out, fun h => absurd rfl h⟩
  · have hx' : (x != 0) = true := by simpa using hx
    have HX := Lib.hid hx
    clear hx HI
    go_enter Tryd.func15, Tryd.ntmps15
    go_wp2_with fail
    refine ((HC _ (by simp) (by simp) ((HV.out.alloc (Nat.le_refl _) _).more (by simp))).out).mono ?_
    rintro e w1 ⟨rfl, hb1⟩
    have hb := (((Below.refl _ w).alloc (Nat.le_refl _) _).trans (hb1.mono (by simp)))
    have HB := Lib.hid hb
    clear hb hb1
    go_wp2_with fail
    go_ret2
    exact ⟨_, rfl, HB.out, fun h => absurd h HX.out, fun _ => rfl⟩

/-- The power of a list that is a permutation. -/
noncomputable def powL (zs : List Int) (x : Int) : List Int := open Classical in if h : Fine zs then (zpow pmul (pone zs.length) pinv ⟨zs, rfl, h⟩ x).1 else []
theorem powL_of {n : Nat} (a : PL n) (x : Int) : powL a.1 x = (zpow pmul (pone n) pinv a x).1 := by
  obtain ⟨l, rfl, hf⟩ := a
  exact dif_pos hf

set_option maxRecDepth 100000 in
set_option maxHeartbeats 1000000 in
/-- perm.Pow. -/
theorem Pow_any (v : Value) (zs : List Int) (x : Int) (w : World) (hx1 : -9223372036854775808 ≤ x) (hx2 : x ≤ 9223372036854775807) (hl : zs.length ≤ 17592186044400) (hv : Ints w w.heap.size v zs) :
    Calls Tryd.prog 16 #[v, .int .i64 x] w (PermErr (chk zs) (powL zs x) w) := by
  have HC := fun W h1 h2 h3 => Lib.hid (checks_one w.heap.size v zs W hl h1 h2 h3)
  have HV := Lib.hid hv
  have hs : ∃ A c, v = .slice A zs.length c := by obtain ⟨A, c, h, _⟩ := hv; exact ⟨A, c, h⟩
  obtain ⟨A, c, rfl⟩ := hs
  clear hv
  by_cases hz : chk zs = 0
  · obtain ⟨h1, h64, hf⟩ := chk_zero hz
    rw [hz] at HC ⊢
    have hP := powL_of (n := zs.length) ⟨zs, rfl, hf⟩ x
    have HI := fun u W (h : Ints W W.heap.size u zs) => Lib.hid (inv_any (n := zs.length) ⟨zs, rfl, hf⟩ u W h1 h64 h)
    have HO := fun W => Lib.hid (one_any zs.length W h64)
    have HW := fun X R m hm v u W hv hu hR => Lib.hid (power_walk (n := zs.length) (pone zs.length) X R m hm v u W h1 h64 hv hu hR)
    by_cases hneg : x < 0
    · obtain ⟨R, hR, hP'⟩ : ∃ R : PL zs.length, pmul (pone zs.length) (npow pmul (pone zs.length) x.natAbs (pinv ⟨zs, rfl, hf⟩)) = R ∧ powL zs x = R.1 := by
        refine ⟨_, ?_, hP⟩
        rw [(perm_grp _).one_mul]
        cases x with
        | ofNat m => exact absurd hneg (by simp)
        | negSucc m => rfl
      have HR := Lib.hid hR
      rw [hP']
      have hu : IntKind.u64.wrap (RowKit.wrap64 (-x)) = ((x.natAbs : Nat) : Int) := by
        have e : ((x.natAbs : Nat) : Int) = -x := by omega
        rw [e]
        by_cases hmin : x = -9223372036854775808
        · subst hmin; unfold RowKit.wrap64; decide
        · rw [IntWalk.wrap64_in _ (by omega), IntWalk.u64_in _ (by omega)]
      have hm : x.natAbs ≤ 9223372036854775808 := by omega
      have HM := Lib.hid hm
      clear hR hP hP' hz hm
      generalize x.natAbs = m at hu HR HM
      go_enter Tryd.func16, Tryd.ntmps16
      go_wp2_with fail
      refine ((HC _ (by simp) (by simp) ((HV.out.alloc (Nat.le_refl _) _).more (by simp))).out).mono ?_
      rintro e w1 ⟨rfl, hb1⟩
      have hb := (((Below.refl _ w).alloc (Nat.le_refl _) _).trans (hb1.mono (by simp)))
      have HB := Lib.hid hb
      clear hb hb1
      go_wp2_with fail
      refine ((HO _).out).mono ?_
      rintro e w2 ⟨r, rfl, hr, hb2⟩
      have HB2 := Lib.hid (HB.out.trans (hb2.mono HB.out.size))
      have HR2 := Lib.hid hr
      clear hr hb2
      go_wp2_with fail
      refine ((HI _ _ ((HV.out.below HB2.out).more HB2.out.size)).out).mono ?_
      rintro e w3 ⟨r3, rfl, hr, hb3⟩
      have HB3 := Lib.hid (HB2.out.trans (hb3.mono HB2.out.size))
      have HR3 := Lib.hid hr
      have HR4 := Lib.hid ((HR2.out.below hb3).more hb3.size)
      clear hr hb3
      go_wp2_with fail
      refine ((HW _ _ m HM.out _ _ _ HR4.out HR3.out HR.out).out).mono ?_
      rintro e w4 ⟨r4, rfl, hr, hb4⟩
      have HB4 := Lib.hid (HB3.out.trans (hb4.mono HB3.out.size))
      have HR5 := Lib.hid hr
      clear hr hb4
      go_wp2_with fail
      go_ret2
      exact ⟨r4, rfl, HB4.out, fun _ => HR5.out, fun h => absurd rfl h⟩
    · obtain ⟨R, hR, hP'⟩ : ∃ R : PL zs.length, pmul (pone zs.length) (npow pmul (pone zs.length) x.toNat ⟨zs, rfl, hf⟩) = R ∧ powL zs x = R.1 := by
        refine ⟨_, ?_, hP⟩
        rw [(perm_grp _).one_mul]
        cases x with
        | ofNat m => rfl
        | negSucc m => exact absurd (Int.negSucc_lt_zero m) hneg
      have HR := Lib.hid hR
      rw [hP']
      have hu : IntKind.u64.wrap x = ((x.toNat : Nat) : Int) := by
        rw [IntWalk.u64_in _ (by omega)]; omega
      have hm : x.toNat ≤ 9223372036854775808 := by omega
      have HM := Lib.hid hm
      clear hR hP hP' hz hm
      generalize x.toNat = m at hu HR HM
      go_enter Tryd.func16, Tryd.ntmps16
      go_wp2_with fail
      refine ((HC _ (by simp) (by simp) ((HV.out.alloc (Nat.le_refl _) _).more (by simp))).out).mono ?_
      rintro e w1 ⟨rfl, hb1⟩
      have hb := (((Below.refl _ w).alloc (Nat.le_refl _) _).trans (hb1.mono (by simp)))
      have HB := Lib.hid hb
      clear hb hb1
      go_wp2_with fail
      refine ((HO _).out).mono ?_
      rintro e w2 ⟨r, rfl, hr, hb2⟩
      have HB2 := Lib.hid (HB.out.trans (hb2.mono HB.out.size))
      have HR2 := Lib.hid hr
      clear hr hb2
      go_wp2_with fail
      refine ((HW _ _ m HM.out _ _ _ HR2.out ((HV.out.below HB2.out).more HB2.out.size) HR.out).out).mono ?_
      rintro e w4 ⟨r4, rfl, hr, hb4⟩
      have HB4 := Lib.hid (HB2.out.trans (hb4.mono HB2.out.size))
      have HR5 := Lib.hid hr
      clear hr hb4
      go_wp2_with fail
      go_ret2
      exact ⟨r4, rfl, HB4.out, fun _ => HR5.out, fun h => absurd rfl h⟩
  · have hx' : (chk zs != 0) = true := by simpa using hz
    have HX := Lib.hid hz
    clear hz
    generalize chk zs = y at HC hx' HX
    go_enter Tryd.func16, Tryd.ntmps16
    go_wp2_with fail
    refine ((HC _ (by simp) (by simp) ((HV.out.alloc (Nat.le_refl _) _).more (by simp))).out).mono ?_
    rintro e w1 ⟨rfl, hb1⟩
    have hb := (((Below.refl _ w).alloc (Nat.le_refl _) _).trans (hb1.mono (by simp)))
    have HB := Lib.hid hb
    clear hb hb1
    go_wp2_with fail
    go_ret2
    exact ⟨_, rfl, HB.out, fun h => absurd h HX.out, fun _ => rfl⟩
end Go.Proofs.YtpchomhfpfpckaaDoor
