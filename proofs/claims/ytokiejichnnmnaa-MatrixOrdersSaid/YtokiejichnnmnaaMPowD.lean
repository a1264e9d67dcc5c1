/- matrix.Pow. -/
import Derived.Test.YtokiejichnnmnaaMInvD
import Derived.Test.YtokiejichnnmnaaMPow
import Derived.Test.YtokiejichnnmnaaMGLin
namespace Go.Proofs.Ytokiejichnnmnaa
open Go Go.RowKit Num

set_option maxRecDepth 100000 in
set_option maxHeartbeats 2000000 in
theorem Pow_bad (ra : Value) (m : Nat) (n : Nat → Nat) (f : Nat → Nat → Int) (p k : Int) (w : World) (hm : m ≤ 1000000) (hn : ∀ i, i < m → n i ≤ 1000000) (ha : Grid w (· < w.heap.size) ra m n f) (x : Int) (hx : x = chkS (chkM p m n f) m (n 0)) (hx0 : x ≠ 0) :
    Calls Try.prog 53 #[.agg #[.int .i64 p, ra], .int .i64 k] w (BadM w x) := by
  have HC := fun W h => Lib.hid (checkSquare_any ra m n f p W hm hn h)
  rw [← hx] at HC
  have HA := Lib.hid ha
  obtain ⟨A, c, rfl, hcm⟩ := ha.form
  have HX2 := Lib.hid (box2 w #[.int .i64 p, .slice A m c])
  have hd2 : (x != 0) = true := by simpa using hx0
  have hd1 : (x == 0) = false := by simpa using hx0
  clear ha hn hx0 hx
  go_enter Try.func53, Try.ntmps53
  go_wp2_with fail
  generalize (w.alloc (.cells #[.int .i64 p, .slice A m c] 61)).alloc (.cells #[.int .i64 0, .slice none 0 0] 61) = w3 at HX2
  refine (HC _ (HA.out.on HX2.out.be)).out.mono ?_
  rintro e w4 ⟨rfl, hb4⟩
  obtain ⟨j1, j2, j3⟩ := HX2.out.on hb4
  have HE := Lib.hid (end_bad (w := w) j3 j1 (B := w.heap.size) (by omega))
  have d0 := j3.cell (i := 0) rfl
  have d1 := j3.cell (i := 1) rfl
  have f0 := j3.frozen 0
  have f1 := j3.frozen 1
  clear j1 j2 j3 hb4
  go_wp2_with fail
  obtain ⟨k3, k2⟩ := HE.out
  have hc0 := k3.cell (i := 0) rfl
  have hc1 := k3.cell (i := 1) rfl
  refine bodyPost_ret (v := .tuple #[.agg #[.int .i64 0, .slice none 0 0], .int .i64 x]) ?_ rfl ⟨rfl, k2⟩
  simp [results, Try.results53, go_sem, hc0, hc1]

set_option maxRecDepth 100000 in
set_option maxHeartbeats 2000000 in
theorem Pow_pos (ra : Value) (m : Nat) (n : Nat → Nat) (f : Nat → Nat → Int) (p : Int) (k : Nat) (w : World) (hk : k ≤ 9223372036854775807) (hm : m ≤ 1000000) (hn : ∀ i, i < m → n i ≤ 1000000) (ha : Grid w (· < w.heap.size) ra m n f) (hx : 0 = chkS (chkM p m n f) m (n 0)) :
    Calls Try.prog 53 #[.agg #[.int .i64 p, ra], .int .i64 k] w (OkM w p m m (powF p m k f)) := by
  have HC := fun W h => Lib.hid (checkSquare_any ra m n f p W hm hn h)
  rw [← hx] at HC
  have HA := Lib.hid ha
  obtain ⟨A, c, rfl, hcm⟩ := ha.form
  have HX2 := Lib.hid (box2 w #[.int .i64 p, .slice A m c])
  obtain ⟨h1, h2⟩ := chkS_zero hx.symm
  obtain ⟨hmod, g1, g2, g3, g4, g5⟩ := chkM_zero h1
  obtain ⟨hp2, hp4, hp6⟩ := modB_true hmod
  have hIN : InG p m m f := fun i hi => by have := (g5 i hi).2; rw [(g5 i hi).1, ← h2] at this; exact this
  have HA2 := Lib.hid (grid_reg HA.out (fun i hi => ((g5 i hi).1).trans h2.symm))
  have HPW := fun W h => Lib.hid (mpower_any (.slice A m c) m k f p W g1 (by omega) hp2 (by omega) (by omega) hIN h)
  generalize powF p m k f = F at HPW ⊢
  have hcv : IntKind.u64.wrap (k : Int) = (k : Int) := by rw [IntKind.wrap_u64]; omega
  have hk0 : decide ((k : Int) < 0) = false := decide_eq_false (by omega)
  have hk1 : ¬ (k : Int) < 0 := by omega
  clear ha hn g5 hmod h1 hx h2 hIN
  go_enter Try.func53, Try.ntmps53
  go_wp2_with fail
  generalize (w.alloc (.cells #[.int .i64 p, .slice A m c] 61)).alloc (.cells #[.int .i64 0, .slice none 0 0] 61) = w3 at HX2
  refine (HC _ (HA.out.on HX2.out.be)).out.mono ?_
  rintro e w4 ⟨rfl, hb4⟩
  obtain ⟨j1, j2, j3⟩ := HX2.out.on hb4
  have HB4 := Lib.hid j1
  have HR4 := Lib.hid j3
  have c0 := j2.cell (i := 0) rfl
  have c1 := j2.cell (i := 1) rfl
  have hsz := j3.lt
  clear j1 j2 j3 hb4
  go_wp2_with fail
  refine (HPW _ (HA2.out.on HB4.out)).out.mono ?_
  rintro e w5 ⟨r, rfl, hg, hb⟩
  obtain ⟨A5, c5, rfl, -⟩ := hg.form
  have j := Row.below HR4.out hb HR4.out.lt
  have x0 := j.cell (i := 0) rfl
  have x1 := j.cell (i := 1) rfl
  have y0 := j.frozen 0
  have j1 := j.set 0 (.int .i64 p)
  have y1 := j1.frozen 1
  have x2 := j1.cell (i := 1) rfl
  have HX := Lib.hid (agg_res j (HB4.out.trans (hb.mono HB4.out.size)) (show w.heap.size ≤ w.heap.size + 1 by omega) (.int .i64 p) (.slice A5 m c5))
  have hszB := HB4.out.size
  have HG := Lib.hid (((hg.set (p := ⟨w.heap.size + 1, 0, none⟩) (fun h => by have h1 : w4.heap.size ≤ w.heap.size + 1 := h.1; omega) (.int .i64 p)).set (p := ⟨w.heap.size + 1, 1, none⟩) (fun h => by have h1 : w4.heap.size ≤ w.heap.size + 1 := h.1; omega) (.slice A5 m c5)).more (S' := New w ((w5.setCell ⟨w.heap.size + 1, 0, none⟩ (.int .i64 p)).setCell ⟨w.heap.size + 1, 1, none⟩ (.slice A5 m c5))) fun b h => ⟨by have h1 : w4.heap.size ≤ b := h.1; omega, by simp only [World.size_setCell]; exact h.2⟩)
  clear hg hb j j1 c0 c1
  go_wp2_with fail
  obtain ⟨k3, k2⟩ := HX.out
  have hc0 := k3.cell (i := 0) rfl
  have hc1 := k3.cell (i := 1) rfl
  refine bodyPost_ret (v := .tuple #[.agg #[.int .i64 p, .slice A5 m c5], .int .i64 0]) ?_ rfl ⟨_, rfl, HG.out, k2⟩
  simp [results, Try.results53, go_sem, hc0, hc1]

theorem setCell2_below {B : Nat} {w W : World} (h : Below B w W) {g : Nat} (hg : B ≤ g) (x y : Value) : Below B w ((W.setCell ⟨g, 0, none⟩ x).setCell ⟨g, 1, none⟩ y) := (h.setCell (p := ⟨g, 0, none⟩) hg x).setCell (p := ⟨g, 1, none⟩) hg y
set_option maxRecDepth 100000 in
set_option maxHeartbeats 2000000 in
theorem Pow_neg (ra : Value) (m : Nat) (n : Nat → Nat) (f : Nat → Nat → Int) (p : Int) (k : Int) (w : World) (hk : k < 0) (hk2 : -9223372036854775808 ≤ k) (hm : m ≤ 1000000) (hn : ∀ i, i < m → n i ≤ 1000000) (ha : Grid w (· < w.heap.size) ra m n f) (hx : 0 = chkS (chkM p m n f) m (n 0)) :
    Calls Try.prog 53 #[.agg #[.int .i64 p, ra], .int .i64 k] w fun e w' => (detV p m (augF m f) = 0 → BadM w 15 e w') ∧ (detV p m (augF m f) ≠ 0 → OkM w p m m (powF p m k.natAbs (invF p m f)) e w') := by
  have HC := fun W h => Lib.hid (checkSquare_any ra m n f p W hm hn h)
  have HI := fun W h => Lib.hid (Inv_any ra m n f p W hm hn h 0 hx)
  rw [← hx] at HC
  have HA := Lib.hid ha
  obtain ⟨A, c, rfl, hcm⟩ := ha.form
  have HX2 := Lib.hid (box2 w #[.int .i64 p, .slice A m c])
  obtain ⟨h1, h2⟩ := chkS_zero hx.symm
  obtain ⟨hmod, g1, g2, g3, g4, g5⟩ := chkM_zero h1
  obtain ⟨hp2, hp4, hp6⟩ := modB_true hmod
  have hIN : InG p m m f := fun i hi => by have := (g5 i hi).2; rw [(g5 i hi).1, ← h2] at this; exact this
  have HIV := Lib.hid (fun (h : detV p m (augF m f) ≠ 0) => (invF_left (by omega) (invs_of hp2 hp6) hIN (by rwa [detV_aug (by omega) (invs_of hp2 hp6) hIN] at h)).1)
  have HPW := fun A' c' W h hf => Lib.hid (mpower_any (.slice A' m c') m k.natAbs (invF p m f) p W g1 (by omega) hp2 (by omega) (by omega) hf h)
  generalize hF : powF p m k.natAbs (invF p m f) = F at HPW ⊢
  generalize hG : invF p m f = G at HPW HIV
  have hIG : ∀ e w w', InvPost p m f w e w' → (detV p m (augF m f) = 0 → BadM w 15 e w') ∧ (detV p m (augF m f) ≠ 0 → OkM w p m m G e w') := fun e w w' h => by rw [← hG]; exact h
  have hcv : IntKind.u64.wrap (IntKind.i64.wrap (-k)) = (k.natAbs : Int) := by rw [IntKind.wrap_u64, IntKind.wrap_i64]; omega
  have hk0 : decide (k < 0) = true := decide_eq_true (by omega)
  have HG := Lib.hid hIG
  clear ha hn g5 hmod h1 hx h2 hIN hF hG hIG
  generalize hy : IntKind.i64.wrap (-k) = y at hcv
  go_enter Try.func53, Try.ntmps53
  go_wp2_with fail
  generalize (w.alloc (.cells #[.int .i64 p, .slice A m c] 61)).alloc (.cells #[.int .i64 0, .slice none 0 0] 61) = w3 at HX2
  refine (HC _ (HA.out.on HX2.out.be)).out.mono ?_
  rintro e w4 ⟨rfl, hb4⟩
  obtain ⟨j1, j2, j3⟩ := HX2.out.on hb4
  have HB4 := Lib.hid j1
  have HR4 := Lib.hid j3
  have HQ4 := Lib.hid j2
  have c0 := j2.cell (i := 0) rfl
  have c1 := j2.cell (i := 1) rfl
  have hsz := j3.lt
  clear j1 j2 j3 hb4
  go_wp2_with fail
  refine (HI _ (HA.out.on HB4.out)).out.mono ?_
  rintro e w5 hpost
  obtain ⟨hi1, hi2⟩ := HG.out e w4 w5 (hpost.2 rfl)
  have hsB := HB4.out.size
  clear c0 c1 hpost
  by_cases hd : detV p m (augF m f) = 0
  · obtain ⟨rfl, hb⟩ := hi1 hd
    have j2 := Row.below HQ4.out hb HQ4.out.lt
    have j3 := Row.below HR4.out hb HR4.out.lt
    have q0 := j2.frozen 0
    have q1 := j2.frozen 1
    have x0 := j2.cell (i := 0) rfl
    have x1 := j2.cell (i := 1) rfl
    have HE := Lib.hid (end_bad (w := w) (B := w.heap.size) (R := w.heap.size + 1) ((j3.far (p := ⟨w.heap.size, 0, none⟩) (by show w.heap.size + 1 ≠ w.heap.size; omega) (.int .i64 0)).far (p := ⟨w.heap.size, 1, none⟩) (by show w.heap.size + 1 ≠ w.heap.size; omega) (.slice none 0 0)) (setCell2_below (HB4.out.trans (hb.mono hsB)) (Nat.le_refl _) _ _) (by omega))
    have HD := Lib.hid hd
    have d0 := ((j3.far (p := ⟨w.heap.size, 0, none⟩) (by show w.heap.size + 1 ≠ w.heap.size; omega) (.int .i64 0)).far (p := ⟨w.heap.size, 1, none⟩) (by show w.heap.size + 1 ≠ w.heap.size; omega) (.slice none 0 0)).cell (i := 0) rfl
    have d1 := ((j3.far (p := ⟨w.heap.size, 0, none⟩) (by show w.heap.size + 1 ≠ w.heap.size; omega) (.int .i64 0)).far (p := ⟨w.heap.size, 1, none⟩) (by show w.heap.size + 1 ≠ w.heap.size; omega) (.slice none 0 0)).cell (i := 1) rfl
    have y0 := j3.cell (i := 0) rfl
    have y1 := j3.cell (i := 1) rfl
    have z0 := j3.frozen 0
    have z1 := j3.frozen 1
    clear hi1 hi2 hd hb j2 j3
    go_wp2_with fail
    obtain ⟨k3, k2⟩ := HE.out
    have hc0 := k3.cell (i := 0) rfl
    have hc1 := k3.cell (i := 1) rfl
    refine bodyPost_ret (v := .tuple #[.agg #[.int .i64 0, .slice none 0 0], .int .i64 15]) ?_ rfl ⟨fun _ => ⟨rfl, k2⟩, fun h => absurd HD.out h⟩
    simp [results, Try.results53, go_sem, hc0, hc1]
  · obtain ⟨r, rfl, hg, hb⟩ := hi2 hd
    obtain ⟨A5, c5, rfl, -⟩ := hg.form
    have HD := Lib.hid hd
    have hGI := HIV.out hd
    have j2 := Row.below HQ4.out hb HQ4.out.lt
    have j3 := Row.below HR4.out hb HR4.out.lt
    have q0 := j2.frozen 0
    have q1 := j2.frozen 1
    have x0 := j2.cell (i := 0) rfl
    have x1 := j2.cell (i := 1) rfl
    have j2' := j2.row_set (.int .i64 p) (.slice A5 m c5)
    have u0 := j2'.cell (i := 0) rfl
    have u1 := j2'.cell (i := 1) rfl
    have HR5 := Lib.hid ((j3.far (p := ⟨w.heap.size, 0, none⟩) (by show w.heap.size + 1 ≠ w.heap.size; omega) (.int .i64 p)).far (p := ⟨w.heap.size, 1, none⟩) (by show w.heap.size + 1 ≠ w.heap.size; omega) (.slice A5 m c5))
    have HB5 := Lib.hid (setCell2_below (HB4.out.trans (hb.mono hsB)) (Nat.le_refl _) (.int .i64 p) (.slice A5 m c5))
    have HG5 := Lib.hid ((hg.set2 (R := w.heap.size) (fun h => by have h1 : w4.heap.size ≤ w.heap.size := h.1; omega) (.int .i64 p) (.slice A5 m c5)).more (S' := (· < ((w5.setCell ⟨w.heap.size, 0, none⟩ (.int .i64 p)).setCell ⟨w.heap.size, 1, none⟩ (.slice A5 m c5)).heap.size)) fun b h => by rw [size_set2]; exact h.2)
    have HGI := Lib.hid hGI
    clear hi1 hi2 hd hg hb j2 j3 j2' hGI
    go_wp2_with fail
    have HSZ := Lib.hid HB5.out.size
    generalize (w5.setCell ⟨w.heap.size, 0, none⟩ (.int .i64 p)).setCell ⟨w.heap.size, 1, none⟩ (.slice A5 m c5) = w6 at HR5 HB5 HG5 HSZ
    refine (HPW A5 c5 _ HG5.out HGI.out).out.mono ?_
    rintro e w7 ⟨r, rfl, hg, hb⟩
    obtain ⟨A7, c7, rfl, -⟩ := hg.form
    have j := Row.below HR5.out hb HR5.out.lt
    have x0 := j.cell (i := 0) rfl
    have x1 := j.cell (i := 1) rfl
    have y0 := j.frozen 0
    have y1 := j.frozen 1
    have hlt := HR5.out.lt
    have HX := Lib.hid (agg_res j (HB5.out.trans (hb.mono HSZ.out)) (show w.heap.size ≤ w.heap.size + 1 by omega) (.int .i64 p) (.slice A7 m c7))
    have HG7 := Lib.hid (((hg.set (p := ⟨w.heap.size + 1, 0, none⟩) (fun h => by have h1 : w6.heap.size ≤ w.heap.size + 1 := h.1; omega) (.int .i64 p)).set (p := ⟨w.heap.size + 1, 1, none⟩) (fun h => by have h1 : w6.heap.size ≤ w.heap.size + 1 := h.1; omega) (.slice A7 m c7)).more (S' := New w ((w7.setCell ⟨w.heap.size + 1, 0, none⟩ (.int .i64 p)).setCell ⟨w.heap.size + 1, 1, none⟩ (.slice A7 m c7))) fun b h => ⟨by have h1 : w6.heap.size ≤ b := h.1; omega, by simp only [World.size_setCell]; exact h.2⟩)
    clear hg hb j
    go_wp2_with fail
    obtain ⟨k3, k2⟩ := HX.out
    have hc0 := k3.cell (i := 0) rfl
    have hc1 := k3.cell (i := 1) rfl
    refine bodyPost_ret (v := .tuple #[.agg #[.int .i64 p, .slice A7 m c7], .int .i64 0]) ?_ rfl ⟨fun h => absurd h HD.out, fun _ => ⟨_, rfl, HG7.out, k2⟩⟩
    simp [results, Try.results53, go_sem, hc0, hc1]
end Go.Proofs.Ytokiejichnnmnaa
