/- perm.Conj, perm.Comm and perm.One. -/
import Derived.Test.YtpchomhfpfpckaaDoorPow2
namespace Go.Proofs.YtpchomhfpfpckaaDoor
open Go Go.RowKit

/-- What Conj and Comm make of two lists that are permutations of one degree. -/
def conjL (zs ys : List Int) : List Int := mulL (invL ys) (mulL zs ys)
def commL (zs ys : List Int) : List Int := mulL (invL (mulL ys zs)) (mulL zs ys)

set_option maxRecDepth 100000 in
set_option maxHeartbeats 800000 in
/-- perm.Conj. -/
theorem Conj_any (v u : Value) (zs ys : List Int) (w : World) (hl : zs.length ≤ 17592186044400) (hl' : ys.length ≤ 17592186044400) (hv : Ints w w.heap.size v zs) (hu : Ints w w.heap.size u ys) :
    Calls Tryd.prog 17 #[v, u] w (PermErr (chk2 zs ys) (conjL zs ys) w) := by
  have HC := fun W h1 h2 h3 h4 h5 => Lib.hid (checks_two w.heap.size v u zs ys W hl hl' h1 h2 h3 h4 h5)
  have HV := Lib.hid hv
  have HU := Lib.hid hu
  have hs : ∃ A n c, v = .slice A n c := by obtain ⟨A, c, h, _⟩ := hv; exact ⟨A, _, c, h⟩
  have hs' : ∃ A n c, u = .slice A n c := by obtain ⟨A, c, h, _⟩ := hu; exact ⟨A, _, c, h⟩
  obtain ⟨A, n, c, rfl⟩ := hs
  obtain ⟨A', n', c', rfl⟩ := hs'
  clear hv hu
  by_cases hx : chk2 zs ys = 0
  · obtain ⟨hz, hy, hzn⟩ := chk2_zero hx
    obtain ⟨h1, h64, hf⟩ := chk_zero hz
    obtain ⟨_, _, hg⟩ := chk_zero hy
    rw [hx] at HC ⊢
    obtain ⟨a, ha⟩ : ∃ a : PL zs.length, a.1 = zs := ⟨⟨zs, rfl, hf⟩, rfl⟩
    obtain ⟨b, hb⟩ : ∃ b : PL zs.length, b.1 = ys := ⟨⟨ys, hzn.symm, hg⟩, rfl⟩
    obtain ⟨ib, eib⟩ : ∃ r : PL zs.length, pinv b = r := ⟨_, rfl⟩
    obtain ⟨ab, eab⟩ : ∃ r : PL zs.length, pmul a b = r := ⟨_, rfl⟩
    obtain ⟨r0, er⟩ : ∃ r : PL zs.length, pmul ib ab = r := ⟨_, rfl⟩
    have hres : conjL zs ys = r0.1 := by rw [← er, ← eib, ← eab]; show _ = mulL (invL b.1) (mulL a.1 b.1); rw [ha, hb]; rfl
    rw [hres]
    have HI := fun u W (h : Ints W W.heap.size u ys) => Lib.hid (show Calls Tryd.prog 61 #[u] W (NewPerm W ib.1) by rw [← eib]; exact inv_any b u W h1 h64 (by rw [hb]; exact h))
    have HM := fun u v W (h : Ints W W.heap.size u zs) (h' : Ints W W.heap.size v ys) => Lib.hid (show Calls Tryd.prog 60 #[u, v] W (NewPerm W ab.1) by rw [← eab]; exact pmul_any a b u v W h1 h64 (by rw [ha]; exact h) (by rw [hb]; exact h'))
    have HN := fun u v W (h : Ints W W.heap.size u ib.1) (h' : Ints W W.heap.size v ab.1) => Lib.hid (show Calls Tryd.prog 60 #[u, v] W (NewPerm W r0.1) by rw [← er]; exact pmul_any ib ab u v W h1 h64 h h')
    clear hx hz hy hzn hf hg ha hb eib eab er hres
    go_enter Tryd.func17, Tryd.ntmps17
    go_wp2_with fail
    refine ((HC _ (by simp) (by simp) (by simp) ((HV.out.alloc (Nat.le_refl _) _).more (by simp)) ((HU.out.alloc (Nat.le_refl _) _).more (by simp))).out).mono ?_
    rintro e w1 ⟨rfl, hb1⟩
    have hb := (((Below.refl _ w).alloc (Nat.le_refl _) _).trans (hb1.mono (by simp)))
    have HB := Lib.hid hb
    clear hb hb1
    go_wp2_with fail
    refine ((HI _ _ ((HU.out.below HB.out).more HB.out.size)).out).mono ?_
    rintro e w2 ⟨r2, rfl, hr, hb2⟩
    have HB2 := Lib.hid (HB.out.trans (hb2.mono HB.out.size))
    have HR2 := Lib.hid hr
    clear hr hb2
    go_wp2_with fail
    refine ((HM _ _ _ ((HV.out.below HB2.out).more HB2.out.size) ((HU.out.below HB2.out).more HB2.out.size)).out).mono ?_
    rintro e w3 ⟨r3, rfl, hr, hb3⟩
    have HB3 := Lib.hid (HB2.out.trans (hb3.mono HB2.out.size))
    have HR3 := Lib.hid hr
    have HR4 := Lib.hid ((HR2.out.below hb3).more hb3.size)
    clear hr hb3
    go_wp2_with fail
    refine ((HN _ _ _ HR4.out HR3.out).out).mono ?_
    rintro e w4 ⟨r4, rfl, hr, hb4⟩
    have HB4 := Lib.hid (HB3.out.trans (hb4.mono HB3.out.size))
    have HR5 := Lib.hid hr
    clear hr hb4
    go_wp2_with fail
    go_ret2
    exact ⟨r4, rfl, HB4.out, fun _ => HR5.out, fun h => absurd rfl h⟩
  · have hx' : (chk2 zs ys != 0) = true := by simpa using hx
    have HX := Lib.hid hx
    clear hx
    generalize chk2 zs ys = x at HC hx' HX
    go_enter Tryd.func17, Tryd.ntmps17
    go_wp2_with fail
    refine ((HC _ (by simp) (by simp) (by simp) ((HV.out.alloc (Nat.le_refl _) _).more (by simp)) ((HU.out.alloc (Nat.le_refl _) _).more (by simp))).out).mono ?_
    rintro e w1 ⟨rfl, hb1⟩
    have hb := (((Below.refl _ w).alloc (Nat.le_refl _) _).trans (hb1.mono (by simp)))
    have HB := Lib.hid hb
    clear hb hb1
    go_wp2_with fail
    go_ret2
    exact ⟨_, rfl, HB.out, fun h => absurd h HX.out, fun _ => rfl⟩

set_option maxRecDepth 100000 in
set_option maxHeartbeats 800000 in
/-- perm.Comm. -/
theorem Comm_any (v u : Value) (zs ys : List Int) (w : World) (hl : zs.length ≤ 17592186044400) (hl' : ys.length ≤ 17592186044400) (hv : Ints w w.heap.size v zs) (hu : Ints w w.heap.size u ys) :
    Calls Tryd.prog 18 #[v, u] w (PermErr (chk2 zs ys) (commL zs ys) w) := by
  have HC := fun W h1 h2 h3 h4 h5 => Lib.hid (checks_two w.heap.size v u zs ys W hl hl' h1 h2 h3 h4 h5)
  have HV := Lib.hid hv
  have HU := Lib.hid hu
  have hs : ∃ A n c, v = .slice A n c := by obtain ⟨A, c, h, _⟩ := hv; exact ⟨A, _, c, h⟩
  have hs' : ∃ A n c, u = .slice A n c := by obtain ⟨A, c, h, _⟩ := hu; exact ⟨A, _, c, h⟩
  obtain ⟨A, n, c, rfl⟩ := hs
  obtain ⟨A', n', c', rfl⟩ := hs'
  clear hv hu
  by_cases hx : chk2 zs ys = 0
  · obtain ⟨hz, hy, hzn⟩ := chk2_zero hx
    obtain ⟨h1, h64, hf⟩ := chk_zero hz
    obtain ⟨_, _, hg⟩ := chk_zero hy
    rw [hx] at HC ⊢
    obtain ⟨a, ha⟩ : ∃ a : PL zs.length, a.1 = zs := ⟨⟨zs, rfl, hf⟩, rfl⟩
    obtain ⟨b, hb⟩ : ∃ b : PL zs.length, b.1 = ys := ⟨⟨ys, hzn.symm, hg⟩, rfl⟩
    obtain ⟨ba, eba⟩ : ∃ r : PL zs.length, pmul b a = r := ⟨_, rfl⟩
    obtain ⟨ib, eib⟩ : ∃ r : PL zs.length, pinv ba = r := ⟨_, rfl⟩
    obtain ⟨ab, eab⟩ : ∃ r : PL zs.length, pmul a b = r := ⟨_, rfl⟩
    obtain ⟨r0, er⟩ : ∃ r : PL zs.length, pmul ib ab = r := ⟨_, rfl⟩
    have hres : commL zs ys = r0.1 := by rw [← er, ← eib, ← eab, ← eba]; show _ = mulL (invL (mulL b.1 a.1)) (mulL a.1 b.1); rw [ha, hb]; rfl
    rw [hres]
    have HJ := fun u v W (h : Ints W W.heap.size u ys) (h' : Ints W W.heap.size v zs) => Lib.hid (show Calls Tryd.prog 60 #[u, v] W (NewPerm W ba.1) by rw [← eba]; exact pmul_any b a u v W h1 h64 (by rw [hb]; exact h) (by rw [ha]; exact h'))
    have HI := fun u W (h : Ints W W.heap.size u ba.1) => Lib.hid (show Calls Tryd.prog 61 #[u] W (NewPerm W ib.1) by rw [← eib]; exact inv_any ba u W h1 h64 h)
    have HM := fun u v W (h : Ints W W.heap.size u zs) (h' : Ints W W.heap.size v ys) => Lib.hid (show Calls Tryd.prog 60 #[u, v] W (NewPerm W ab.1) by rw [← eab]; exact pmul_any a b u v W h1 h64 (by rw [ha]; exact h) (by rw [hb]; exact h'))
    have HN := fun u v W (h : Ints W W.heap.size u ib.1) (h' : Ints W W.heap.size v ab.1) => Lib.hid (show Calls Tryd.prog 60 #[u, v] W (NewPerm W r0.1) by rw [← er]; exact pmul_any ib ab u v W h1 h64 h h')
    clear hx hz hy hzn hf hg ha hb eib eab eba er hres
    go_enter Tryd.func18, Tryd.ntmps18
    go_wp2_with fail
    refine ((HC _ (by simp) (by simp) (by simp) ((HV.out.alloc (Nat.le_refl _) _).more (by simp)) ((HU.out.alloc (Nat.le_refl _) _).more (by simp))).out).mono ?_
    rintro e w1 ⟨rfl, hb1⟩
    have hb := (((Below.refl _ w).alloc (Nat.le_refl _) _).trans (hb1.mono (by simp)))
    have HB := Lib.hid hb
    clear hb hb1
    go_wp2_with fail
    refine ((HJ _ _ _ ((HU.out.below HB.out).more HB.out.size) ((HV.out.below HB.out).more HB.out.size)).out).mono ?_
    rintro e w5 ⟨r5, rfl, hr, hb5⟩
    have HB5 := Lib.hid (HB.out.trans (hb5.mono HB.out.size))
    have HR9 := Lib.hid hr
    clear hr hb5
    go_wp2_with fail
    refine ((HI _ _ HR9.out).out).mono ?_
    rintro e w2 ⟨r2, rfl, hr, hb2⟩
    have HB2 := Lib.hid (HB5.out.trans (hb2.mono HB5.out.size))
    have HR2 := Lib.hid hr
    clear hr hb2
    go_wp2_with fail
    refine ((HM _ _ _ ((HV.out.below HB2.out).more HB2.out.size) ((HU.out.below HB2.out).more HB2.out.size)).out).mono ?_
    rintro e w3 ⟨r3, rfl, hr, hb3⟩
    have HB3 := Lib.hid (HB2.out.trans (hb3.mono HB2.out.size))
    have HR3 := Lib.hid hr
    have HR4 := Lib.hid ((HR2.out.below hb3).more hb3.size)
    clear hr hb3
    go_wp2_with fail
    refine ((HN _ _ _ HR4.out HR3.out).out).mono ?_
    rintro e w4 ⟨r4, rfl, hr, hb4⟩
    have HB4 := Lib.hid (HB3.out.trans (hb4.mono HB3.out.size))
    have HR5 := Lib.hid hr
    clear hr hb4
    go_wp2_with fail
    go_ret2
    exact ⟨r4, rfl, HB4.out, fun _ => HR5.out, fun h => absurd rfl h⟩
  · have hx' : (chk2 zs ys != 0) = true := by simpa using hx
    have HX := Lib.hid hx
    clear hx
    generalize chk2 zs ys = x at HC hx' HX
    go_enter Tryd.func18, Tryd.ntmps18
    go_wp2_with fail
    refine ((HC _ (by simp) (by simp) (by simp) ((HV.out.alloc (Nat.le_refl _) _).more (by simp)) ((HU.out.alloc (Nat.le_refl _) _).more (by simp))).out).mono ?_
    rintro e w1 ⟨rfl, hb1⟩
    have hb := (((Below.refl _ w).alloc (Nat.le_refl _) _).trans (hb1.mono (by simp)))
    have HB := Lib.hid hb
    clear hb hb1
    go_wp2_with fail
    go_ret2
    exact ⟨_, rfl, HB.out, fun h => absurd h HX.out, fun _ => rfl⟩

/-- The error of One. -/
def oneErr (x : Int) : Int := if x < 1 ∨ 64 < x then 2 else 0
set_option maxRecDepth 100000 in
set_option maxHeartbeats 400000 in
/-- perm.One. -/
theorem One_any (x : Int) (w : World) : Calls Tryd.prog 25 #[.int .i64 x] w (PermErr (oneErr x) (idL x.toNat) w) := by
  by_cases h1 : x < 1
  · have h : oneErr x = 2 := if_pos (.inl h1)
    rw [h]
    go_enter Tryd.func25, Tryd.ntmps25
    go_wp2_with fail
    go_ret2
    exact ⟨_, rfl, Below.refl _ _, fun h => absurd h (by decide), fun _ => rfl⟩
  · by_cases h2 : 64 < x
    · have h : oneErr x = 2 := if_pos (.inr h2)
      rw [h]
      go_enter Tryd.func25, Tryd.ntmps25
      go_wp2_with fail
      go_ret2
      exact ⟨_, rfl, Below.refl _ _, fun h => absurd h (by decide), fun _ => rfl⟩
    · have h : oneErr x = 0 := if_neg (by omega)
      rw [h]
      obtain ⟨n, rfl⟩ : ∃ n : Nat, x = (n : Int) := ⟨x.toNat, by omega⟩
      have HO := fun W => Lib.hid (one_any n W (by omega))
      rw [Int.toNat_natCast]
      go_enter Tryd.func25, Tryd.ntmps25
      go_wp2_with fail
      refine ((HO _).out).mono ?_
      rintro e w2 ⟨r, rfl, hr, hb2⟩
      have HB2 := Lib.hid hb2
      have HR2 := Lib.hid hr
      clear hr hb2
      go_wp2_with fail
      go_ret2
      exact ⟨r, rfl, HB2.out, fun _ => HR2.out, fun h => absurd rfl h⟩
end Go.Proofs.YtpchomhfpfpckaaDoor
