/- MPowD, MLaw, MLaw2, MVec, MPerm, MKit, MPermV2, joined. -/
import Derived.Test.YtokiejichnnmnaaMInvD
import Derived.Test.YtokiejichnnmnaaMPow
import Derived.Test.YtokiejichnnmnaaMGLin
import Derived.Test.YtokiejichnnmnaaMDraw
import Derived.Test.YtokiejichnnmnaaMLive2
import Derived.Test.YtokiejichnnmnaaMOneD
import Derived.Test.YtokiejichnnmnaaMTurn
import Derived.Test.YtokiejichnnmnaaMScale
import Derived.Test.YtokiejichnnmnaaMAdd
import Derived.Test.YtokiejichnnmnaaMOrd

/- matrix.Pow. -/
namespace Go.Proofs.Ytokiejichnnmnaa
open Go Go.RowKit Num

set_option maxRecDepth 100000 in
set_option maxHeartbeats 2000000 in
theorem Pow_bad (ra : Value) (m : Nat) (n : Nat → Nat) (f : Nat → Nat → Int) (p k : Int) (w : World) (hm : m ≤ 1000000) (hn : ∀ i, i < m → n i ≤ 1000000) (ha : Grid w (· < w.heap.size) ra m n f) (x : Int) (hx : x = chkS (chkM p m n f) m (n 0)) (hx0 : x ≠ 0) :
    Calls Try.prog 53 #[.agg #[.int .i64 p, ra], .int .i64 k] w (BadM w x) := by
  have HC := fun W h => Lib.hid (checkSquare_any ra m n f p W hm hn h)
  rw [← hx] at HC
  have HA := Lib.hid ha
  obtain ⟨A, c, rfl, hcm⟩ := ha.form
  have HX2 := Lib.hid (box2 w #[.int .i64 p, .slice A m c])
  have hd2 : (x != 0) = true := by simpa using hx0
  have hd1 : (x == 0) = false := by simpa using hx0
  clear ha hn hx0 hx
  go_enter Try.func53, Try.ntmps53
  go_wp2_with fail
  generalize (w.alloc (.cells #[.int .i64 p, .slice A m c] 61)).alloc (.cells #[.int .i64 0, .slice none 0 0] 61) = w3 at HX2
  refine (HC _ (HA.out.on HX2.out.be)).out.mono ?_
  rintro e w4 ⟨rfl, hb4⟩
  obtain ⟨j1, j2, j3⟩ := HX2.out.on hb4
  have HE := Lib.hid (end_bad (w := w) j3 j1 (B := w.heap.size) (by omega))
  have d0 := j3.cell (i := 0) rfl
  have d1 := j3.cell (i := 1) rfl
  have f0 := j3.frozen 0
  have f1 := j3.frozen 1
  clear j1 j2 j3 hb4
  go_wp2_with fail
  obtain ⟨k3, k2⟩ := HE.out
  have hc0 := k3.cell (i := 0) rfl
  have hc1 := k3.cell (i := 1) rfl
  refine bodyPost_ret (v := .tuple #[.agg #[.int .i64 0, .slice none 0 0], .int .i64 x]) ?_ rfl ⟨rfl, k2⟩
  simp [results, Try.results53, go_sem, hc0, hc1]

set_option maxRecDepth 100000 in
set_option maxHeartbeats 2000000 in
theorem Pow_pos (ra : Value) (m : Nat) (n : Nat → Nat) (f : Nat → Nat → Int) (p : Int) (k : Nat) (w : World) (hk : k ≤ 9223372036854775807) (hm : m ≤ 1000000) (hn : ∀ i, i < m → n i ≤ 1000000) (ha : Grid w (· < w.heap.size) ra m n f) (hx : 0 = chkS (chkM p m n f) m (n 0)) :
    Calls Try.prog 53 #[.agg #[.int .i64 p, ra], .int .i64 k] w (OkM w p m m (powF p m k f)) := by
  have HC := fun W h => Lib.hid (checkSquare_any ra m n f p W hm hn h)
  rw [← hx] at HC
  have HA := Lib.hid ha
  obtain ⟨A, c, rfl, hcm⟩ := ha.form
  have HX2 := Lib.hid (box2 w #[.int .i64 p, .slice A m c])
  obtain ⟨h1, h2⟩ := chkS_zero hx.symm
  obtain ⟨hmod, g1, g2, g3, g4, g5⟩ := chkM_zero h1
  obtain ⟨hp2, hp4, hp6⟩ := modB_true hmod
  have hIN : InG p m m f := fun i hi => by have := (g5 i hi).2; rw [(g5 i hi).1, ← h2] at this; exact this
  have HA2 := Lib.hid (grid_reg HA.out (fun i hi => ((g5 i hi).1).trans h2.symm))
  have HPW := fun W h => Lib.hid (mpower_any (.slice A m c) m k f p W g1 (by omega) hp2 (by omega) (by omega) hIN h)
  generalize powF p m k f = F at HPW ⊢
  have hcv : IntKind.u64.wrap (k : Int) = (k : Int) := by rw [IntKind.wrap_u64]; omega
  have hk0 : decide ((k : Int) < 0) = false := decide_eq_false (by omega)
  have hk1 : ¬ (k : Int) < 0 := by omega
  clear ha hn g5 hmod h1 hx h2 hIN
  go_enter Try.func53, Try.ntmps53
  go_wp2_with fail
  generalize (w.alloc (.cells #[.int .i64 p, .slice A m c] 61)).alloc (.cells #[.int .i64 0, .slice none 0 0] 61) = w3 at HX2
  refine (HC _ (HA.out.on HX2.out.be)).out.mono ?_
  rintro e w4 ⟨rfl, hb4⟩
  obtain ⟨j1, j2, j3⟩ := HX2.out.on hb4
  have HB4 := Lib.hid j1
  have HR4 := Lib.hid j3
  have c0 := j2.cell (i := 0) rfl
  have c1 := j2.cell (i := 1) rfl
  have hsz := j3.lt
  clear j1 j2 j3 hb4
  go_wp2_with fail
  refine (HPW _ (HA2.out.on HB4.out)).out.mono ?_
  rintro e w5 ⟨r, rfl, hg, hb⟩
  obtain ⟨A5, c5, rfl, -⟩ := hg.form
  have j := Row.below HR4.out hb HR4.out.lt
  have x0 := j.cell (i := 0) rfl
  have x1 := j.cell (i := 1) rfl
  have y0 := j.frozen 0
  have j1 := j.set 0 (.int .i64 p)
  have y1 := j1.frozen 1
  have x2 := j1.cell (i := 1) rfl
  have HX := Lib.hid (agg_res j (HB4.out.trans (hb.mono HB4.out.size)) (show w.heap.size ≤ w.heap.size + 1 by omega) (.int .i64 p) (.slice A5 m c5))
  have hszB := HB4.out.size
  have HG := Lib.hid (((hg.set (p := ⟨w.heap.size + 1, 0, none⟩) (fun h => by have h1 : w4.heap.size ≤ w.heap.size + 1 := h.1; omega) (.int .i64 p)).set (p := ⟨w.heap.size + 1, 1, none⟩) (fun h => by have h1 : w4.heap.size ≤ w.heap.size + 1 := h.1; omega) (.slice A5 m c5)).more (S' := New w ((w5.setCell ⟨w.heap.size + 1, 0, none⟩ (.int .i64 p)).setCell ⟨w.heap.size + 1, 1, none⟩ (.slice A5 m c5))) fun b h => ⟨by have h1 : w4.heap.size ≤ b := h.1; omega, by simp only [World.size_setCell]; exact h.2⟩)
  clear hg hb j j1 c0 c1
  go_wp2_with fail
  obtain ⟨k3, k2⟩ := HX.out
  have hc0 := k3.cell (i := 0) rfl
  have hc1 := k3.cell (i := 1) rfl
  refine bodyPost_ret (v := .tuple #[.agg #[.int .i64 p, .slice A5 m c5], .int .i64 0]) ?_ rfl ⟨_, rfl, HG.out, k2⟩
  simp [results, Try.results53, go_sem, hc0, hc1]

theorem setCell2_below {B : Nat} {w W : World} (h : Below B w W) {g : Nat} (hg : B ≤ g) (x y : Value) : Below B w ((W.setCell ⟨g, 0, none⟩ x).setCell ⟨g, 1, none⟩ y) := (h.setCell (p := ⟨g, 0, none⟩) hg x).setCell (p := ⟨g, 1, none⟩) hg y
set_option maxRecDepth 100000 in
set_option maxHeartbeats 2000000 in
theorem Pow_neg (ra : Value) (m : Nat) (n : Nat → Nat) (f : Nat → Nat → Int) (p : Int) (k : Int) (w : World) (hk : k < 0) (hk2 : -9223372036854775808 ≤ k) (hm : m ≤ 1000000) (hn : ∀ i, i < m → n i ≤ 1000000) (ha : Grid w (· < w.heap.size) ra m n f) (hx : 0 = chkS (chkM p m n f) m (n 0)) :
    Calls Try.prog 53 #[.agg #[.int .i64 p, ra], .int .i64 k] w fun e w' => (detV p m (augF m f) = 0 → BadM w 15 e w') ∧ (detV p m (augF m f) ≠ 0 → OkM w p m m (powF p m k.natAbs (invF p m f)) e w') := by
  have HC := fun W h => Lib.hid (checkSquare_any ra m n f p W hm hn h)
  have HI := fun W h => Lib.hid (Inv_any ra m n f p W hm hn h 0 hx)
  rw [← hx] at HC
  have HA := Lib.hid ha
  obtain ⟨A, c, rfl, hcm⟩ := ha.form
  have HX2 := Lib.hid (box2 w #[.int .i64 p, .slice A m c])
  obtain ⟨h1, h2⟩ := chkS_zero hx.symm
  obtain ⟨hmod, g1, g2, g3, g4, g5⟩ := chkM_zero h1
  obtain ⟨hp2, hp4, hp6⟩ := modB_true hmod
  have hIN : InG p m m f := fun i hi => by have := (g5 i hi).2; rw [(g5 i hi).1, ← h2] at this; exact this
  have HIV := Lib.hid (fun (h : detV p m (augF m f) ≠ 0) => (invF_left (by omega) (invs_of hp2 hp6) hIN (by rwa [detV_aug (by omega) (invs_of hp2 hp6) hIN] at h)).1)
  have HPW := fun A' c' W h hf => Lib.hid (mpower_any (.slice A' m c') m k.natAbs (invF p m f) p W g1 (by omega) hp2 (by omega) (by omega) hf h)
  generalize hF : powF p m k.natAbs (invF p m f) = F at HPW ⊢
  generalize hG : invF p m f = G at HPW HIV
  have hIG : ∀ e w w', InvPost p m f w e w' → (detV p m (augF m f) = 0 → BadM w 15 e w') ∧ (detV p m (augF m f) ≠ 0 → OkM w p m m G e w') := fun e w w' h => by rw [← hG]; exact h
  have hcv : IntKind.u64.wrap (IntKind.i64.wrap (-k)) = (k.natAbs : Int) := by rw [IntKind.wrap_u64, IntKind.wrap_i64]; omega
  have hk0 : decide (k < 0) = true := decide_eq_true (by omega)
  have HG := Lib.hid hIG
  clear ha hn g5 hmod h1 hx h2 hIN hF hG hIG
  generalize hy : IntKind.i64.wrap (-k) = y at hcv
  go_enter Try.func53, Try.ntmps53
  go_wp2_with fail
  generalize (w.alloc (.cells #[.int .i64 p, .slice A m c] 61)).alloc (.cells #[.int .i64 0, .slice none 0 0] 61) = w3 at HX2
  refine (HC _ (HA.out.on HX2.out.be)).out.mono ?_
  rintro e w4 ⟨rfl, hb4⟩
  obtain ⟨j1, j2, j3⟩ := HX2.out.on hb4
  have HB4 := Lib.hid j1
  have HR4 := Lib.hid j3
  have HQ4 := Lib.hid j2
  have c0 := j2.cell (i := 0) rfl
  have c1 := j2.cell (i := 1) rfl
  have hsz := j3.lt
  clear j1 j2 j3 hb4
  go_wp2_with fail
  refine (HI _ (HA.out.on HB4.out)).out.mono ?_
  rintro e w5 hpost
  obtain ⟨hi1, hi2⟩ := HG.out e w4 w5 (hpost.2 rfl)
  have hsB := HB4.out.size
  clear c0 c1 hpost
  by_cases hd : detV p m (augF m f) = 0
  · obtain ⟨rfl, hb⟩ := hi1 hd
    have j2 := Row.below HQ4.out hb HQ4.out.lt
    have j3 := Row.below HR4.out hb HR4.out.lt
    have q0 := j2.frozen 0
    have q1 := j2.frozen 1
    have x0 := j2.cell (i := 0) rfl
    have x1 := j2.cell (i := 1) rfl
    have HE := Lib.hid (end_bad (w := w) (B := w.heap.size) (R := w.heap.size + 1) ((j3.far (p := ⟨w.heap.size, 0, none⟩) (by show w.heap.size + 1 ≠ w.heap.size; omega) (.int .i64 0)).far (p := ⟨w.heap.size, 1, none⟩) (by show w.heap.size + 1 ≠ w.heap.size; omega) (.slice none 0 0)) (setCell2_below (HB4.out.trans (hb.mono hsB)) (Nat.le_refl _) _ _) (by omega))
    have HD := Lib.hid hd
    have d0 := ((j3.far (p := ⟨w.heap.size, 0, none⟩) (by show w.heap.size + 1 ≠ w.heap.size; omega) (.int .i64 0)).far (p := ⟨w.heap.size, 1, none⟩) (by show w.heap.size + 1 ≠ w.heap.size; omega) (.slice none 0 0)).cell (i := 0) rfl
    have d1 := ((j3.far (p := ⟨w.heap.size, 0, none⟩) (by show w.heap.size + 1 ≠ w.heap.size; omega) (.int .i64 0)).far (p := ⟨w.heap.size, 1, none⟩) (by show w.heap.size + 1 ≠ w.heap.size; omega) (.slice none 0 0)).cell (i := 1) rfl
    have y0 := j3.cell (i := 0) rfl
    have y1 := j3.cell (i := 1) rfl
    have z0 := j3.frozen 0
    have z1 := j3.frozen 1
    clear hi1 hi2 hd hb j2 j3
    go_wp2_with fail
    obtain ⟨k3, k2⟩ := HE.out
    have hc0 := k3.cell (i := 0) rfl
    have hc1 := k3.cell (i := 1) rfl
    refine bodyPost_ret (v := .tuple #[.agg #[.int .i64 0, .slice none 0 0], .int .i64 15]) ?_ rfl ⟨fun _ => ⟨rfl, k2⟩, fun h => absurd HD.out h⟩
    simp [results, Try.results53, go_sem, hc0, hc1]
  · obtain ⟨r, rfl, hg, hb⟩ := hi2 hd
    obtain ⟨A5, c5, rfl, -⟩ := hg.form
    have HD := Lib.hid hd
    have hGI := HIV.out hd
    have j2 := Row.below HQ4.out hb HQ4.out.lt
    have j3 := Row.below HR4.out hb HR4.out.lt
    have q0 := j2.frozen 0
    have q1 := j2.frozen 1
    have x0 := j2.cell (i := 0) rfl
    have x1 := j2.cell (i := 1) rfl
    have j2' := j2.row_set (.int .i64 p) (.slice A5 m c5)
    have u0 := j2'.cell (i := 0) rfl
    have u1 := j2'.cell (i := 1) rfl
    have HR5 := Lib.hid ((j3.far (p := ⟨w.heap.size, 0, none⟩) (by show w.heap.size + 1 ≠ w.heap.size; omega) (.int .i64 p)).far (p := ⟨w.heap.size, 1, none⟩) (by show w.heap.size + 1 ≠ w.heap.size; omega) (.slice A5 m c5))
    have HB5 := Lib.hid (setCell2_below (HB4.out.trans (hb.mono hsB)) (Nat.le_refl _) (.int .i64 p) (.slice A5 m c5))
    have HG5 := Lib.hid ((hg.set2 (R := w.heap.size) (fun h => by have h1 : w4.heap.size ≤ w.heap.size := h.1; omega) (.int .i64 p) (.slice A5 m c5)).more (S' := (· < ((w5.setCell ⟨w.heap.size, 0, none⟩ (.int .i64 p)).setCell ⟨w.heap.size, 1, none⟩ (.slice A5 m c5)).heap.size)) fun b h => by rw [size_set2]; exact h.2)
    have HGI := Lib.hid hGI
    clear hi1 hi2 hd hg hb j2 j3 j2' hGI
    go_wp2_with fail
    have HSZ := Lib.hid HB5.out.size
    generalize (w5.setCell ⟨w.heap.size, 0, none⟩ (.int .i64 p)).setCell ⟨w.heap.size, 1, none⟩ (.slice A5 m c5) = w6 at HR5 HB5 HG5 HSZ
    refine (HPW A5 c5 _ HG5.out HGI.out).out.mono ?_
    rintro e w7 ⟨r, rfl, hg, hb⟩
    obtain ⟨A7, c7, rfl, -⟩ := hg.form
    have j := Row.below HR5.out hb HR5.out.lt
    have x0 := j.cell (i := 0) rfl
    have x1 := j.cell (i := 1) rfl
    have y0 := j.frozen 0
    have y1 := j.frozen 1
    have hlt := HR5.out.lt
    have HX := Lib.hid (agg_res j (HB5.out.trans (hb.mono HSZ.out)) (show w.heap.size ≤ w.heap.size + 1 by omega) (.int .i64 p) (.slice A7 m c7))
    have HG7 := Lib.hid (((hg.set (p := ⟨w.heap.size + 1, 0, none⟩) (fun h => by have h1 : w6.heap.size ≤ w.heap.size + 1 := h.1; omega) (.int .i64 p)).set (p := ⟨w.heap.size + 1, 1, none⟩) (fun h => by have h1 : w6.heap.size ≤ w.heap.size + 1 := h.1; omega) (.slice A7 m c7)).more (S' := New w ((w7.setCell ⟨w.heap.size + 1, 0, none⟩ (.int .i64 p)).setCell ⟨w.heap.size + 1, 1, none⟩ (.slice A7 m c7))) fun b h => ⟨by have h1 : w6.heap.size ≤ b := h.1; omega, by simp only [World.size_setCell]; exact h.2⟩)
    clear hg hb j
    go_wp2_with fail
    obtain ⟨k3, k2⟩ := HX.out
    have hc0 := k3.cell (i := 0) rfl
    have hc1 := k3.cell (i := 1) rfl
    refine bodyPost_ret (v := .tuple #[.agg #[.int .i64 p, .slice A7 m c7], .int .i64 0]) ?_ rfl ⟨fun h => absurd h HD.out, fun _ => ⟨_, rfl, HG7.out, k2⟩⟩
    simp [results, Try.results53, go_sem, hc0, hc1]
end Go.Proofs.Ytokiejichnnmnaa

/- The laws' walks: the square matrices that live, each in a box of its own; the calls upon them. -/
namespace Go.Proofs.Ytokiejichnnmnaa
open Go Go.RowKit Num

structure MatE where
  B : Nat
  A : Option Addr
  c : Nat
  f : Nat → Nat → Int
/-- The matrices of n rows modulo p that live in boxes. -/
def ML (w : World) (p : Int) (n : Nat) (L : List MatE) : Prop := ∀ (i : Nat) (x : MatE), L[i]? = some x → Row w x.B 61 #[.int .i64 p, .slice x.A n x.c] ∧ Grid w (· < w.heap.size) (.slice x.A n x.c) n (fun _ => n) x.f ∧ InG p n n x.f
theorem ML.nil (w : World) (p : Int) (n : Nat) : ML w p n [] := fun i x h => by simp at h
theorem ML.below {w w' : World} {p : Int} {n : Nat} {L : List MatE} (h : ML w p n L) (hb : Below w.heap.size w w') : ML w' p n L := fun i x hi => by
  obtain ⟨h1, h2, h3⟩ := h i x hi
  exact ⟨h1.below hb h1.lt, h2.on hb, h3⟩
/-- A call has given one more. -/
theorem ML.cons {w w' : World} {p : Int} {n c : Nat} {A : Option Addr} {f : Nat → Nat → Int} {L : List MatE} (h : ML w p n L) (hb : Below w.heap.size w w') (hg : Grid w' (New w w') (.slice A n c) n (fun _ => n) f) (hf : InG p n n f) :
    ML (w'.alloc (.cells #[.int .i64 p, .slice A n c] 61)) p n (⟨w'.heap.size, A, c, f⟩ :: L) := fun i x hi => by
  have hB : Below w'.heap.size w' (w'.alloc (.cells #[.int .i64 p, .slice A n c] 61)) := (Below.refl _ _).alloc (Nat.le_refl _) _
  cases i with
  | zero =>
    injection hi with hi
    subst hi
    exact ⟨row_new rfl _ _, (hg.new_lt).on hB, hf⟩
  | succ i => exact (h.below hb).below hB i x hi
theorem ML.c0 {w : World} {p : Int} {n : Nat} {L : List MatE} (h : ML w p n L) (i : Nat) {x : MatE} (hi : L[i]? = some x) : w.cell? ⟨x.B, 0, none⟩ = some (.int .i64 p) := (h i x hi).1.cell rfl
theorem ML.c1 {w : World} {p : Int} {n : Nat} {L : List MatE} (h : ML w p n L) (i : Nat) {x : MatE} (hi : L[i]? = some x) : w.cell? ⟨x.B, 1, none⟩ = some (.slice x.A n x.c) := (h i x hi).1.cell rfl
/-- A call has given a matrix. -/
def GivesX (w : World) (p : Int) (n : Nat) (f : Nat → Nat → Int) (e : Ending) (w' : World) : Prop :=
  ∃ A c, e = .returned (.tuple #[.agg #[.int .i64 p, .slice A n c], .int .i64 0]) ∧ Grid w' (New w w') (.slice A n c) n (fun _ => n) f ∧ InG p n n f ∧ Below w.heap.size w w'
theorem GivesX.of {w : World} {p : Int} {n : Nat} {f : Nat → Nat → Int} (hf : InG p n n f) {e : Ending} {w' : World} (h : OkM w p n n f e w') : GivesX w p n f e w' := by
  obtain ⟨r, rfl, hg, hb⟩ := h
  obtain ⟨A, c, rfl, _⟩ := hg.form
  exact ⟨A, c, rfl, hg, hf, hb⟩
/-- What the laws know of p and n. -/
structure Sized (p : Nat) (n : Nat) : Prop where
  hp : modB (p : Int) = true
  n1 : 1 ≤ n
  n2 : n ≤ 64
theorem Sized.p2 {p n : Nat} (h : Sized p n) : 2 ≤ p := by have := (modB_true h.hp).1; omega
theorem Sized.chk {p n : Nat} (h : Sized p n) {f : Nat → Nat → Int} (hf : InG (p : Int) n n f) : chkM (p : Int) n (fun _ => n) f = 0 := chkM_full h.hp h.n1 h.n2 h.n1 h.n2 hf

theorem mulL {p n : Nat} (hs : Sized p n) {W : World} {L : List MatE} (h : ML W (p : Int) n L) (i j : Nat) {x y : MatE} (hi : L[i]? = some x) (hj : L[j]? = some y) :
    Calls Try.prog 58 #[.agg #[.int .i64 p, .slice x.A n x.c], .agg #[.int .i64 p, .slice y.A n y.c]] W (GivesX W p n (mulF p n x.f y.f)) := by
  obtain ⟨_, g1, f1⟩ := h i x hi
  obtain ⟨_, g2, f2⟩ := h j y hj
  have hn := hs.n2
  have hp := hs.p2
  exact (Mul_any _ _ n n (fun _ => n) (fun _ => n) x.f y.f p p W (by omega) (fun _ _ => by omega) (by omega) (fun _ _ => by omega) g1 g2 0 (chkP_0 (hs.chk f1) (hs.chk f2) rfl).symm).mono fun e w' h => .of (mulF_in (by omega) _ _ _ _ _) (h.2.2 rfl rfl)
theorem addL {p n : Nat} (hs : Sized p n) {W : World} {L : List MatE} (h : ML W (p : Int) n L) (i j : Nat) {x y : MatE} (hi : L[i]? = some x) (hj : L[j]? = some y) :
    Calls Try.prog 46 #[.agg #[.int .i64 p, .slice x.A n x.c], .agg #[.int .i64 p, .slice y.A n y.c]] W (GivesX W p n (fun i => axpy 1 p (x.f i) (y.f i))) := by
  obtain ⟨_, g1, f1⟩ := h i x hi
  obtain ⟨_, g2, f2⟩ := h j y hj
  have hn := hs.n2
  have hp := hs.p2
  exact (Add_any _ _ n n (fun _ => n) (fun _ => n) x.f y.f p p W (by omega) (fun _ _ => by omega) (by omega) (fun _ _ => by omega) g1 g2 0 (chkP_0 (hs.chk f1) (hs.chk f2) rfl).symm).mono fun e w' h => .of (fun i _ => axpy_in (by omega) _ _ n) (h.2.2 rfl ⟨rfl, rfl⟩)
theorem turnL {p n : Nat} (hs : Sized p n) {W : World} {L : List MatE} (h : ML W (p : Int) n L) (i : Nat) {x : MatE} (hi : L[i]? = some x) :
    Calls Try.prog 48 #[.agg #[.int .i64 p, .slice x.A n x.c]] W (GivesX W p n (fun i j => x.f j i)) := by
  obtain ⟨_, g1, f1⟩ := h i x hi
  have hn := hs.n2
  exact (Turn_any _ n (fun _ => n) x.f p W (by omega) (fun _ _ => by omega) g1 0 (hs.chk f1).symm).mono fun e w' h => .of (fun i hi j hj => f1 j hj i hi) (h.2.2 rfl trivial)
theorem scaleL {p n : Nat} (hs : Sized p n) {W : World} {L : List MatE} (h : ML W (p : Int) n L) (k : Int) (i : Nat) {x : MatE} (hi : L[i]? = some x) :
    Calls Try.prog 47 #[.agg #[.int .i64 p, .slice x.A n x.c], .int .i64 k] W (GivesX W p n (fun i => axpy (resV k p : Nat) p (fun _ => 0) (x.f i))) := by
  obtain ⟨_, g1, f1⟩ := h i x hi
  have hn := hs.n2
  have hp := hs.p2
  exact (Scale_any _ n (fun _ => n) x.f p k W (by omega) (fun _ _ => by omega) g1 0 (hs.chk f1).symm).mono fun e w' h => .of (fun i _ => axpy_in (by omega) _ _ n) (by have := h.2.2 rfl trivial; rwa [Int.toNat_natCast] at this)
theorem oneL {p n : Nat} (hs : Sized p n) (W : World) : Calls Try.prog 59 #[.int .i64 n, .int .i64 p] W (GivesX W p n oneF) := by
  have hn := hs.n2
  have h1 := hs.n1
  have hp := hs.p2
  have hc : chk1 (n : Int) (p : Int) = 0 := by
    unfold chk1
    rw [if_neg (by rw [hs.hp]; simp), if_neg (by unfold sizeB; simp; omega)]
  exact (One_any n p W).mono fun e w' h => .of (oneF_in (by omega)) (by have := h.2 hc; rwa [Int.toNat_natCast] at this)
theorem sameL {p n : Nat} (hs : Sized p n) {W : World} {L : List MatE} (h : ML W (p : Int) n L) (i j : Nat) {x y : MatE} (hi : L[i]? = some x) (hj : L[j]? = some y) (he : ∀ i, i < n → ∀ j, j < n → x.f i j = y.f i j) :
    Calls Try.prog 68 #[.agg #[.int .i64 p, .slice x.A n x.c], .agg #[.int .i64 p, .slice y.A n y.c]] W fun e w' => e = .returned (.bool true) ∧ Below W.heap.size W w' := by
  obtain ⟨_, g1, f1⟩ := h i x hi
  obtain ⟨_, g2, f2⟩ := h j y hj
  have hn := hs.n2
  have hb : gridB n (fun _ => n) x.f y.f = true := by
    unfold gridB
    exact decide_eq_true fun i hi => by unfold eqB; exact decide_eq_true fun j hj => he i hi j hj
  have := mSame_any (.slice x.A n x.c) (.slice y.A n y.c) p n (fun _ => n) x.f y.f W (by omega) (fun _ _ => by omega) g1 g2
  rwa [hb] at this

/-- The Taker in its box. -/
theorem taker_new (w : World) (A : Option Addr) (c N : Nat) (z : Nat → Int) (hv : Vec w (· < w.heap.size) (.slice A N c) N z) : MTk (w.alloc (.cells #[.slice A N c, .int .i64 0] 84)) w.heap.size A c N z 0 :=
  ⟨row_new rfl _ _, hv.below (fun _ h => h) ((Below.refl _ _).alloc (Nat.le_refl _) _)⟩
theorem Grid.but {t B : Nat} {w w' W W' : World} {v : Value} {m : Nat} {n : Nat → Nat} {f : Nat → Nat → Int} (h : Grid W (New w w') v m n f) (hb : But t B W W') (ht : t < w.heap.size) (hB : w'.heap.size ≤ B) : Grid W' (New w w') v m n f :=
  h.keep (fun _ h => h) (fun p hp => World.cell?_of_block (hb.2 p.block (by have := hp.2; omega) (by have := hp.1; omega))) (fun _ _ => rfl) (fun _ _ _ _ => rfl)
theorem ml_3 {w : World} {p : Int} {n c1 c2 c3 : Nat} {A1 A2 A3 : Option Addr} {f1 f2 f3 : Nat → Nat → Int} (g1 : Grid w (· < w.heap.size) (.slice A1 n c1) n (fun _ => n) f1) (g2 : Grid w (· < w.heap.size) (.slice A2 n c2) n (fun _ => n) f2) (g3 : Grid w (· < w.heap.size) (.slice A3 n c3) n (fun _ => n) f3)
    (h1 : InG p n n f1) (h2 : InG p n n f2) (h3 : InG p n n f3) :
    ML (((w.alloc (.cells #[.int .i64 p, .slice A1 n c1] 61)).alloc (.cells #[.int .i64 p, .slice A2 n c2] 61)).alloc (.cells #[.int .i64 p, .slice A3 n c3] 61)) p n
      [⟨w.heap.size + 1 + 1, A3, c3, f3⟩, ⟨w.heap.size + 1, A2, c2, f2⟩, ⟨w.heap.size, A1, c1, f1⟩] := by
  have b1 : Below w.heap.size w (w.alloc (.cells #[.int .i64 p, .slice A1 n c1] 61)) := (Below.refl _ _).alloc (Nat.le_refl _) _
  have b2 := b1.alloc (by simp) (.cells #[.int .i64 p, .slice A2 n c2] 61)
  have b3 := b2.alloc (by simp; omega) (.cells #[.int .i64 p, .slice A3 n c3] 61)
  intro i x hi
  match i, hi with
  | 0, hi => injection hi with hi; subst hi; exact ⟨row_new (by simp) _ _, g3.on b3, h3⟩
  | 1, hi => injection hi with hi; subst hi; exact ⟨(row_new (by simp) _ _).alloc _, g2.on b3, h2⟩
  | 2, hi => injection hi with hi; subst hi; exact ⟨((row_new rfl _ _).alloc _).alloc _, g1.on b3, h1⟩
end Go.Proofs.Ytokiejichnnmnaa

/- The laws' walks: determinants, inverses, powers, orders of the matrices that live. -/
namespace Go.Proofs.Ytokiejichnnmnaa
open Go Go.RowKit Num

theorem wrap_mul {x y m : Nat} (h : x * y = m) (hm : m ≤ 1000000000000) : IntKind.i64.wrap ((x : Int) * (y : Int)) = (m : Int) := by
  rw [← Int.natCast_mul, h]; exact IntWalk.i64_in _ ⟨by omega, by omega⟩
theorem Sized.p1 {p n : Nat} (h : Sized p n) : (1 : Int) < (p : Int) := by have := h.p2; omega
theorem Sized.inv {p n : Nat} (h : Sized p n) : Invs (p : Int) := invs_mod h.hp
theorem Sized.chkS {p n : Nat} (h : Sized p n) {f : Nat → Nat → Int} (hf : InG (p : Int) n n f) : 0 = chkS (chkM (p : Int) n (fun _ => n) f) n n := (chkS_0 (h.chk hf) rfl).symm
theorem detL {p n : Nat} (hs : Sized p n) {W : World} {L : List MatE} (h : ML W (p : Int) n L) (i : Nat) {x : MatE} (hi : L[i]? = some x) (d : Nat) (hd : detV p n x.f = d) :
    Calls Try.prog 62 #[.agg #[.int .i64 p, .slice x.A n x.c]] W fun e w' => e = .returned (.tuple #[.int .i64 d, .int .i64 0]) ∧ Below W.heap.size W w' := by
  obtain ⟨_, g1, f1⟩ := h i x hi
  have hn := hs.n2
  exact (Det_any _ n (fun _ => n) x.f p W (by omega) (fun _ _ => by omega) g1 0 (hs.chkS f1)).mono fun e w' h => by rw [if_pos rfl, hd] at h; exact h
theorem invL {p n : Nat} (hs : Sized p n) {W : World} {L : List MatE} (h : ML W (p : Int) n L) (i : Nat) {x : MatE} (hi : L[i]? = some x) (hd : detV p n x.f ≠ 0) :
    Calls Try.prog 54 #[.agg #[.int .i64 p, .slice x.A n x.c]] W (GivesX W p n (invF p n x.f)) := by
  obtain ⟨_, g1, f1⟩ := h i x hi
  have hn := hs.n2
  exact (Inv_any _ n (fun _ => n) x.f p W (by omega) (fun _ _ => by omega) g1 0 (hs.chkS f1)).mono fun e w' h => .of (invF_left hs.p1 hs.inv f1 hd).1 ((h.2 rfl).2 (by rwa [detV_aug hs.p1 hs.inv f1]))
theorem invL0 {p n : Nat} (hs : Sized p n) {W : World} {L : List MatE} (h : ML W (p : Int) n L) (i : Nat) {x : MatE} (hi : L[i]? = some x) (hd : detV p n x.f = 0) :
    Calls Try.prog 54 #[.agg #[.int .i64 p, .slice x.A n x.c]] W (BadM W 15) := by
  obtain ⟨_, g1, f1⟩ := h i x hi
  have hn := hs.n2
  exact (Inv_any _ n (fun _ => n) x.f p W (by omega) (fun _ _ => by omega) g1 0 (hs.chkS f1)).mono fun e w' h => (h.2 rfl).1 (by rwa [detV_aug hs.p1 hs.inv f1])
theorem powZ_in {p n : Nat} (hs : Sized p n) {f : Nat → Nat → Int} (_hf : InG (p : Int) n n f) (_hd : detV p n f ≠ 0) (k : Int) : InG (p : Int) n n (powZ p n f k) := by
  have hp := hs.p2
  unfold powZ
  split
  · exact powF_in (by omega) _
  · exact powF_in (by omega) _
theorem powL {p n : Nat} (hs : Sized p n) {W : World} {L : List MatE} (h : ML W (p : Int) n L) (i : Nat) {x : MatE} (hi : L[i]? = some x) (hd : detV p n x.f ≠ 0) (k : Int) (hk : k.natAbs ≤ 1000000) :
    Calls Try.prog 53 #[.agg #[.int .i64 p, .slice x.A n x.c], .int .i64 k] W (GivesX W p n (powZ p n x.f k)) := by
  obtain ⟨_, g1, f1⟩ := h i x hi
  have hn := hs.n2
  have hin := powZ_in hs f1 hd k
  by_cases hk0 : k < 0
  · refine (Pow_neg _ n (fun _ => n) x.f p k W hk0 (by omega) (by omega) (fun _ _ => by omega) g1 (hs.chkS f1)).mono fun e w' h => .of hin ?_
    have := h.2 (by rwa [detV_aug hs.p1 hs.inv f1])
    unfold powZ
    rw [if_pos hk0]; exact this
  · obtain ⟨j, rfl⟩ : ∃ j : Nat, k = j := ⟨k.toNat, by omega⟩
    refine (Pow_pos _ n (fun _ => n) x.f p j W (by omega) (by omega) (fun _ _ => by omega) g1 (hs.chkS f1)).mono fun e w' h => .of hin ?_
    unfold powZ
    rw [if_neg hk0, Int.natAbs_natCast]; exact h
theorem powL0 {p n : Nat} (hs : Sized p n) {W : World} {L : List MatE} (h : ML W (p : Int) n L) (i : Nat) {x : MatE} (hi : L[i]? = some x) (hd : detV p n x.f = 0) (k : Int) (hk : k < 0) (hk2 : -9223372036854775808 ≤ k) :
    Calls Try.prog 53 #[.agg #[.int .i64 p, .slice x.A n x.c], .int .i64 k] W (BadM W 15) := by
  obtain ⟨_, g1, f1⟩ := h i x hi
  have hn := hs.n2
  exact (Pow_neg _ n (fun _ => n) x.f p k W hk hk2 (by omega) (fun _ _ => by omega) g1 (hs.chkS f1)).mono fun e w' h => h.1 (by rwa [detV_aug hs.p1 hs.inv f1])
theorem ordL {p n : Nat} (hs : Sized p n) {W : World} {L : List MatE} (h : ML W (p : Int) n L) (i : Nat) {x : MatE} (hi : L[i]? = some x) :
    Calls Try.prog 56 #[.agg #[.int .i64 p, .slice x.A n x.c]] W (OrdP W (ordV p n x.f 0)) := by
  obtain ⟨_, g1, f1⟩ := h i x hi
  have hn := hs.n2
  exact Order_any _ n (fun _ => n) x.f p W (by omega) (fun _ _ => by omega) g1 0 (hs.chkS f1)
/-- The zero matrix that an error leaves, boxed beside the others. -/
theorem ML.more {w w' : World} {p : Int} {n : Nat} {L : List MatE} (h : ML w p n L) (hb : Below w.heap.size w w') (o : Obj) : ML (w'.alloc o) p n L := (h.below hb).below ((Below.refl _ _).alloc (Nat.le_refl _) o)
set_option maxRecDepth 100000 in
theorem bad_yes (w : World) : Calls Try.prog 55 #[.agg #[.int .i64 0, .slice none 0 0], .int .i64 15, .int .i64 15] w fun e w' => e = .returned (.bool true) ∧ Below w.heap.size w w' := by
  have HB := Lib.hid ((Below.refl w.heap.size w).alloc (Nat.le_refl _) (.cells #[.int .i64 0, .slice none 0 0] 61))
  go_enter Try.func55, Try.ntmps55
  go_wp2
  go_ret
  exact ⟨rfl, HB.out⟩
theorem ml_2 {w : World} {p : Int} {n c1 c2 : Nat} {A1 A2 : Option Addr} {f1 f2 : Nat → Nat → Int} (g1 : Grid w (· < w.heap.size) (.slice A1 n c1) n (fun _ => n) f1) (g2 : Grid w (· < w.heap.size) (.slice A2 n c2) n (fun _ => n) f2)
    (h1 : InG p n n f1) (h2 : InG p n n f2) :
    ML ((w.alloc (.cells #[.int .i64 p, .slice A1 n c1] 61)).alloc (.cells #[.int .i64 p, .slice A2 n c2] 61)) p n
      [⟨w.heap.size + 1, A2, c2, f2⟩, ⟨w.heap.size, A1, c1, f1⟩] := by
  have b1 : Below w.heap.size w (w.alloc (.cells #[.int .i64 p, .slice A1 n c1] 61)) := (Below.refl _ _).alloc (Nat.le_refl _) _
  have b2 := b1.alloc (by simp) (.cells #[.int .i64 p, .slice A2 n c2] 61)
  intro i x hi
  match i, hi with
  | 0, hi => injection hi with hi; subst hi; exact ⟨row_new (by simp) _ _, g2.on b2, h2⟩
  | 1, hi => injection hi with hi; subst hi; exact ⟨(row_new rfl _ _).alloc _, g1.on b2, h1⟩
end Go.Proofs.Ytokiejichnnmnaa

/- matrix.vector, matrix.number. -/
namespace Go.Proofs.Ytokiejichnnmnaa
open Go Go.RowKit Num

/-- The entry i of the vector with the number k. -/
def digN (p n k i : Nat) : Nat := k / p ^ (n - 1 - i) % p
def digF (p n k : Nat) (i : Nat) : Int := (digN p n k i : Nat)
/-- The entries from i on are laid. -/
def digC (p n k i : Nat) (j : Nat) : Value := if i ≤ j then iv (digF p n k) j else .int .i64 0
theorem digC_start (p n k : Nat) : CTab n (digC p n k n) = CTab n (fun _ => .int .i64 0) := CTab_congr _ _ _ fun i hi => by unfold digC; rw [if_neg (by omega)]
theorem digC_end (p n k : Nat) : CTab n (digC p n k 0) = CTab n (iv (digF p n k)) := CTab_congr _ _ _ fun i _ => by unfold digC; rw [if_pos (Nat.zero_le _)]
theorem digC_step (p n k i : Nat) : (CTab n (digC p n k (i + 1))).setIfInBounds i (.int .i64 (digF p n k i)) = CTab n (digC p n k i) := by
  rw [CTab_set]
  refine CTab_congr _ _ _ fun j _ => ?_
  unfold digC
  by_cases e : j = i
  · subst e; rw [if_pos rfl, if_pos (Nat.le_refl _)]; rfl
  · rw [if_neg e]
    by_cases h : i + 1 ≤ j
    · rw [if_pos h, if_pos (by omega)]
    · rw [if_neg h, if_neg (by omega)]

set_option maxRecDepth 100000 in
set_option maxHeartbeats 1000000 in
theorem vector_any (k n p : Nat) (w : World) (hn : n ≤ 1000) (hp2 : 2 ≤ p) (hp : p ≤ 10000) (hk : k ≤ 1000000) :
    Calls Try.prog 124 #[.int .i64 k, .int .i64 n, .int .i64 p] w (GivesV w n (digF p n k)) := by
  have hmk := fun W => make_ints n (by omega) W
  have HS := Lib.hid (show Row (w.alloc (.cells (CTab n fun _ => .int .i64 0) 3)) w.heap.size 3 (CTab n (digC p n k n)) from by rw [digC_start]; exact row_new rfl _ _)
  have HB := Lib.hid ((Below.refl w.heap.size w).alloc (Nat.le_refl _) (.cells (CTab n fun _ => .int .i64 0) 3))
  go_enter Try.func124, Try.ntmps124
  go_wp2
  clear hmk
  go_loopw [0, 8] (fun t0 t8 wr => ∃ i : Nat, t8 = .int .i64 ((i : Int) - 1) ∧ i ≤ n ∧ t0 = .int .i64 ((k / p ^ (n - i) : Nat) : Int) ∧ Row wr w.heap.size 3 (CTab n (digC p n k i)) ∧ Below w.heap.size w wr) (fun _ t8 _ => (intOf t8 + 1).toNat)
  case atStart => exact ⟨n, rfl, Nat.le_refl _, by rw [Nat.sub_self, Nat.pow_zero, Nat.div_one], HS.out, HB.out⟩
  case round =>
    obtain ⟨i, rfl, hi, rfl, hR, hB⟩ := hrel
    have HR := Lib.hid hR
    have HB2 := Lib.hid hB
    cases i with
    | zero =>
      have hd : decide ((((0 : Nat) : Int) - 1) ≥ 0) = false := by decide
      have HV := Lib.hid (show Vec wr (New w wr) (.slice (some ⟨w.heap.size, 0, none⟩) n n) n (digF p n k) from by
        rw [digC_end] at hR; exact hR.vec ⟨Nat.le_refl _, hR.lt⟩ (Nat.le_refl _))
      clear hR hB
      go_wp2
      go_ret
      exact ⟨_, rfl, HV.out, HB2.out⟩
    | succ i =>
      rw [show ((i + 1 : Nat) : Int) - 1 = (i : Int) by omega]
      have hlt : i < n := by omega
      have hu : k / p ^ (n - (i + 1)) ≤ 1000000 := Nat.le_trans (Nat.div_le_self _ _) hk
      have HD := Lib.hid (show digN p n k i = k / p ^ (n - (i + 1)) % p from by unfold digN; rw [show n - 1 - i = n - (i + 1) by omega])
      have HU := Lib.hid (show k / p ^ (n - i) = k / p ^ (n - (i + 1)) / p from by rw [show n - i = n - (i + 1) + 1 by omega, Nat.pow_succ, Nat.div_div_eq_div_mul])
      generalize k / p ^ (n - (i + 1)) = u at hu HD HU ⊢
      obtain ⟨d, hd⟩ : ∃ d, u % p = d := ⟨_, rfl⟩
      obtain ⟨u2, hu2⟩ : ∃ u2, u / p = u2 := ⟨_, rfl⟩
      have k7 : (u : Int) % (p : Int) = (d : Int) := by rw [← Int.natCast_emod, hd]
      have k8 : (u : Int) / (p : Int) = (u2 : Int) := by rw [← Int.natCast_ediv, hu2]
      have hu2b : u2 ≤ 1000000 := by rw [← hu2]; exact Nat.le_trans (Nat.div_le_self _ _) hu
      have hb9 : d ≤ 10000 := by have := Nat.mod_lt u (show 0 < p by omega); omega
      have HDD := Lib.hid (show digF p n k i = (d : Int) from by unfold digF; rw [HD.out, hd])
      have HUU := Lib.hid (show k / p ^ (n - i) = u2 from HU.out.trans hu2)
      have hc : wr.cell? ⟨w.heap.size, i, none⟩ = some (.int .i64 0) := by
        refine hR.cell (CTab_get _ _ i hlt |>.trans ?_)
        unfold digC; rw [if_neg (by omega)]
      have hf := hR.frozen i
      have HN := Lib.hid (show Row (wr.setCell ⟨w.heap.size, i, none⟩ (.int .i64 d)) w.heap.size 3 (CTab n (digC p n k i)) from by
        have := hR.set i (.int .i64 d)
        have e := digC_step p n k i
        rw [HDD.out] at e
        rwa [e] at this)
      have HNB := Lib.hid (hB.setCell (p := ⟨w.heap.size, i, none⟩) (Nat.le_refl _) (.int .i64 d))
      have h0 : (0 : Int) ≤ i := by omega
      have hd0 : decide ((i : Int) ≥ 0) = true := decide_eq_true (by omega)
      have h00 : (i : Int) < n := by omega
      have hp0 : ((p : Int) == 0) = false := by simp; omega
      clear hR hB hd hu2 HD HU HDD
      go_wp2
      go_roundw
      case rel => exact ⟨i, by go_num, by omega, by rw [HUU.out], HN.out, HNB.out⟩
      case measure => simp [intOf]

/-- The number of a vector. -/
def numN (p : Nat) (g : Nat → Nat) : Nat → Nat
  | 0 => 0
  | i + 1 => numN p g i * p + g i
theorem numN_lt {p n : Nat} {g : Nat → Nat} (h : ∀ i, i < n → g i < p) : ∀ i, i ≤ n → numN p g i < p ^ i
  | 0, _ => by simp [numN]
  | i + 1, hi => by
    have h1 := numN_lt h i (by omega)
    have h2 := h i (by omega)
    rw [numN, Nat.pow_succ]
    have h3 : (numN p g i + 1) * p ≤ p ^ i * p := Nat.mul_le_mul_right p h1
    rw [Nat.add_mul, Nat.one_mul] at h3
    omega

set_option maxRecDepth 100000 in
set_option maxHeartbeats 1000000 in
theorem number_any (v : Value) (n p : Nat) (f : Nat → Int) (w : World) (S : Nat → Prop) (hn : n ≤ 1000) (hp : p ≤ 10000) (hv : Vec w S v n f) (hf : InP p n f) (hpn : p ^ n ≤ 1000000) :
    Calls Try.prog 123 #[v, .int .i64 p] w fun e w' => e = .returned (.int .i64 ((numN p (fun i => (f i).toNat) n : Nat) : Int)) ∧ w' = w := by
  obtain ⟨A, c, rfl, hc, hcell⟩ := hv
  have hlt := numN_lt (p := p) (n := n) (g := fun i => (f i).toNat) (fun i hi => by have := hf i hi; omega)
  have hpw : ∀ i, i < n → p ^ (i + 1) ≤ 1000000 := fun i hi => by
    by_cases h0 : p = 0
    · subst h0; rw [Nat.zero_pow (by omega)]; omega
    · exact Nat.le_trans (Nat.pow_le_pow_right (by omega) (by omega)) hpn
  have HA := Lib.hid (show ∀ i, i < n → ∃ b o, A = some ⟨b, o, none⟩ ∧ w.cell? ⟨b, o + i, none⟩ = some (.int .i64 (f i)) from fun i hi => by
    obtain ⟨b, o, e, _, h⟩ := hcell (by omega); exact ⟨b, o, e, h i hi⟩)
  have HL := Lib.hid hlt
  have HP := Lib.hid hpw
  have HF := Lib.hid hf
  have HE := Lib.hid (show ∀ i, numN p (fun i => (f i).toNat) (i + 1) = numN p (fun i => (f i).toNat) i * p + (f i).toNat from fun i => rfl)
  clear hcell hlt hpw hf hpn
  go_enter Try.func123, Try.ntmps123
  go_wp2
  go_loop [5, 10] (fun t5 t10 => ∃ i : Nat, t10 = .int .i64 i ∧ i ≤ n ∧ t5 = .int .i64 ((numN p (fun i => (f i).toNat) i : Nat) : Int)) (fun _ t10 => n - (intOf t10).toNat)
  case atStart => exact ⟨0, rfl, Nat.zero_le _, rfl⟩
  case round =>
    obtain ⟨i, rfl, hi, rfl⟩ := hrel
    by_cases hin : i < n
    · obtain ⟨b, o, rfl, hcl⟩ := HA.out i hin
      have h1 := HL.out i hi
      have h2 := HL.out (i + 1) (by omega)
      have h3 := HP.out i hin
      have h4 := HF.out i hin
      have HE2 := Lib.hid (HE.out i)
      rw [HE.out i] at h2
      obtain ⟨x, hx⟩ : ∃ x : Nat, f i = x := ⟨(f i).toNat, by omega⟩
      rw [hx] at hcl h4 h2 HE2
      rw [Int.toNat_natCast] at h2 HE2
      generalize numN p (fun i => (f i).toNat) i = a at h1 h2 HE2 ⊢
      obtain ⟨q, hq⟩ : ∃ q, a * p = q := ⟨_, rfl⟩
      rw [hq] at h2 HE2
      have mz := wrap_mul hq (by omega)
      have hqb : q + x ≤ 1000000 := by omega
      have h0 : (0 : Int) ≤ i := by omega
      have h00 : (i : Int) < n := by omega
      clear hq h1 h2 h3 hx h4
      go_wp2
      go_round
      case rel => exact ⟨i + 1, by go_num, by omega, by rw [HE2.out]; go_num⟩
      case measure => simp [intOf]; omega
    · have e : i = n := by omega
      subst e
      go_wp2
      go_ret
      exact ⟨rfl, rfl⟩
end Go.Proofs.Ytokiejichnnmnaa

/- matrix.Perm of a matrix that passes. -/
namespace Go.Proofs.Ytokiejichnnmnaa
open Go Go.RowKit Num

theorem digF_in {p n k : Nat} (hp : 0 < p) : InP (p : Int) n (digF p n k) := fun j _ => by
  unfold digF digN
  have := Nat.mod_lt (k / p ^ (n - 1 - j)) hp
  omega
/-- The image of the vector number k. -/
def permV (p m : Nat) (f : Nat → Nat → Int) (k : Nat) : Nat := numN p (fun j => (dotTo (digF p m k) f j m % (p : Int)).toNat) m
def permF (p m : Nat) (f : Nat → Nat → Int) (k : Nat) : Int := (permV p m f k : Nat)
/-- What Perm returns of a matrix that passes. -/
def PermP (p m : Nat) (f : Nat → Nat → Int) (w : World) (e : Ending) (w' : World) : Prop :=
  Below w.heap.size w w' ∧ (64 < p ^ m → e = .returned (.tuple #[.slice none 0 0, .int .i64 5])) ∧ (p ^ m ≤ 64 → detV p m f = 0 → e = .returned (.tuple #[.slice none 0 0, .int .i64 15])) ∧
  (p ^ m ≤ 64 → detV p m f ≠ 0 → ∃ r, e = .returned (.tuple #[r, .int .i64 0]) ∧ Vec w' (New w w') r (p ^ m) (permF p m f))
theorem Fill.on {w wr W : World} {t : TypeId} {n : Nat} {g : Nat → Value} {z : Value} {k : Nat} (h : Fill w t n g z k wr) (hb : Below wr.heap.size wr W) : Fill w t n g z k W :=
  ⟨h.1, h.2.1.below hb h.2.1.lt, h.2.2.trans (hb.mono h.2.2.size)⟩
theorem make_perm (n : Nat) (hn : n ≤ 5864062014800) (W : World) : (Instr.makeSlice 53 (.int .i64 (n : Int)) (.int .i64 (n : Int))).run Try.prog W = .ok (.slice (some ⟨W.heap.size, 0, none⟩) n n) (W.alloc (.cells (CTab n fun _ => .int .i64 0) 3)) := by
  obtain ⟨i0, hi, hz0, hz1, hz2⟩ := info_parts info3m
  have h := run_make (P := Try.prog) W 53 3 i0 (.int .i64 0) (by kernel_rfl) hi hz0 .i64 .i64 (n : Int) (n : Int) (by omega) (by omega) (by rw [hz2]; omega) (by omega)
  rw [h, hz1, Nat.mul_one, Int.toNat_natCast, madeCells_one _ rfl]

set_option maxRecDepth 100000 in
set_option maxHeartbeats 4000000 in
theorem Perm_ok (ra : Value) (p m : Nat) (f : Nat → Nat → Int) (w : World) (hs : Sized p m) (ha : Grid w (· < w.heap.size) ra m (fun _ => m) f) (hf : InG (p : Int) m m f) :
    Calls Try.prog 57 #[.agg #[.int .i64 p, ra]] w (PermP p m f w) := by
  have hm1 := hs.n1
  have hm2 := hs.n2
  have hp2 := hs.p2
  have hp4 : p ≤ 10000 := by have := (modB_true hs.hp).2.1; omega
  have HC := fun W h => Lib.hid (checkSquare_any ra m (fun _ => m) f p W (by omega) (fun _ _ => by omega) h)
  rw [← hs.chkS hf] at HC
  have HDT := fun W h => Lib.hid (det_any ra m f p W hm1 (by omega) (modB_true hs.hp).2.2 (by omega) (by omega) h hf)
  have HA := Lib.hid ha
  obtain ⟨A, c, rfl, hcm⟩ := ha.form
  have HX := Lib.hid (row_new (W := w) rfl 61 #[.int .i64 p, .slice A m c])
  have HXB := Lib.hid ((Below.refl w.heap.size w).alloc (Nat.le_refl _) (.cells #[.int .i64 p, .slice A m c] 61))
  have HPO := Lib.hid (show ∀ e w', PermP p m f w e w' → PermP p m f w e w' from fun _ _ h => h)
  generalize hPP : PermP p m f w = PP at HPO ⊢
  have hpp : ∀ i, i ≤ m → p ^ i ≤ p ^ m := fun i hi => Nat.pow_le_pow_right (by omega) hi
  have HPW := Lib.hid hpp
  clear ha hpp
  go_enter Try.func57, Try.ntmps57
  go_wp2_with fail
  refine (HC _ (HA.out.on HXB.out)).out.mono ?_
  rintro e w4 ⟨rfl, hb4⟩
  have HX4 := Lib.hid (HX.out.below hb4 HX.out.lt)
  have HB4 := Lib.hid (HXB.out.trans (hb4.mono HXB.out.size))
  have c0 := HX4.out.cell (i := 0) rfl
  have c1 := HX4.out.cell (i := 1) rfl
  clear hb4 HX HXB
  go_wp2_with fail
  go_loopw [5, 16] (fun t5 t16 wr => ∃ i : Nat, t16 = .int .i64 i ∧ i ≤ m ∧ t5 = .int .i64 ((p ^ i : Nat) : Int) ∧ p ^ i ≤ 64 ∧ wr = w4) (fun _ t16 _ => m - (intOf t16).toNat)
  case atStart => exact ⟨0, rfl, Nat.zero_le _, rfl, by simp, rfl⟩
  case round =>
    obtain ⟨i, rfl, hi, rfl, hpi, rfl⟩ := hrel
    by_cases him : i < m
    · have HQ := Lib.hid (HPW.out (i + 1) (by omega))
      have hs1 := Nat.pow_succ p i
      generalize p ^ i = u at hpi hs1 ⊢
      obtain ⟨q, hq⟩ : ∃ q, u * p = q := ⟨_, rfl⟩
      have hq2 : q ≤ 1000000 := by rw [← hq]; exact Nat.le_trans (Nat.mul_le_mul hpi hp4) (by omega)
      have HQ2 := Lib.hid (show p ^ (i + 1) = q from hs1.trans hq)
      have mz := wrap_mul hq (by omega)
      clear hq hs1
      have h0 : (0 : Int) ≤ i := by omega
      have h00 : (i : Int) < m := by omega
      by_cases hq64 : 64 < q
      · have hd : decide ((64 : Int) < (q : Int)) = true := decide_eq_true (by omega)
        have hdn : decide (64 < q) = true := decide_eq_true hq64
        have HE := Lib.hid (show PermP p m f w (.returned (.tuple #[.slice none 0 0, .int .i64 5])) wr from
          ⟨HB4.out, fun _ => rfl, fun h => by have := HQ.out; rw [HQ2.out] at this; omega, fun h => by have := HQ.out; rw [HQ2.out] at this; omega⟩)
        rw [hPP] at HE
        go_wp2
        exact HE.out
      · have hd : decide ((64 : Int) < (q : Int)) = false := decide_eq_false (by omega)
        have hdn : decide (64 < q) = false := decide_eq_false hq64
        go_wp2
        go_roundw
        case rel => exact ⟨i + 1, by go_num, by omega, by rw [HQ2.out], by rw [HQ2.out]; omega, trivial⟩
        case measure => simp [intOf]; omega
    · have e : i = m := by omega
      subst e
      generalize hQ : p ^ i = Q at hpi ⊢
      have HQ := Lib.hid hQ
      clear HPW hQ
      go_wp2_with fail
      refine (HDT _ (HA.out.on HB4.out)).out.mono ?_
      rintro e w5 ⟨rfl, hb5⟩
      have HX5 := Lib.hid (HX4.out.below hb5 HX4.out.lt)
      have HB5 := Lib.hid (HB4.out.trans (hb5.mono HB4.out.size))
      have hbn : 0 ≤ detV p i f := (detV_in hs.p1 hs.inv (Nat.le_refl i) hf).1
      clear hb5 c0 c1 HX4 HB4 HDT HC
      by_cases hd0 : detV p i f = 0
      · have HE := Lib.hid (show PermP p i f w (.returned (.tuple #[.slice none 0 0, .int .i64 15])) w5 from
          ⟨HB5.out, (fun h => by rw [HQ.out] at h; omega), (fun _ _ => rfl), fun _ h => absurd hd0 h⟩)
        rw [hPP] at HE
        rw [hd0]
        go_wp2
        exact HE.out
      · have hd1 : (detV p i f == 0) = false := by simpa using hd0
        have HD0 := Lib.hid hd0
        clear hd0
        generalize detV p i f = dd at hd1 hbn ⊢
        have hmk := fun W => make_perm Q (by omega) W
        have HF0 := Lib.hid (Fill.start w5 3 Q (iv (permF p i f)) (.int .i64 0))
        have HFP := Lib.hid (show ∀ k, iv (permF p i f) k = .int .i64 ((numN p (fun j => (dotTo (digF p i k) f j i % (p : Int)).toNat) i : Nat) : Int) from fun _ => rfl)
        go_wp2_with fail
        clear hmk
        go_loopw [32] (fun t32 wr => ∃ k : Nat, t32 = .int .i64 k ∧ Fill w5 3 Q (iv (permF p i f)) (.int .i64 0) k wr) (fun t32 _ => Q - (intOf t32).toNat)
        case atStart => exact ⟨0, rfl, HF0.out⟩
        case round =>
          obtain ⟨k, rfl, hF⟩ := hrel
          have hkQ := hF.1
          by_cases hlt : k < Q
          · have hd3 : decide (k < Q) = true := decide_eq_true hlt
            have h0 : (0 : Int) ≤ k := by omega
            have h00 : (k : Int) < (Q : Int) := by omega
            have HFl := Lib.hid hF
            have hXr := HX5.out.below (hF.2.2) HX5.out.lt
            have c0 := hXr.cell (i := 0) rfl
            have c1 := hXr.cell (i := 1) rfl
            have HBr := Lib.hid (HB5.out.trans (hF.2.2.mono HB5.out.size))
            have hiv := HFP.out k
            have HVEC := fun W => Lib.hid (vector_any k i p W (by omega) hp2 hp4 (by omega))
            have HKB := Lib.hid (fun (W : World) (hb : Below wr.heap.size wr W) => (show W.cell? ⟨w.heap.size, 0, none⟩ = some (.int .i64 p) ∧ W.cell? ⟨w.heap.size, 1, none⟩ = some (.slice A i c) from ⟨(hXr.below hb hXr.lt).cell rfl, (hXr.below hb hXr.lt).cell rfl⟩))
            have HDR := Lib.hid (below_drew (Below.refl wr.heap.size wr))
            have HTA := Lib.hid (fun (W : World) (h : Below wr.drew.heap.size wr.drew W) => (show Below wr.heap.size wr W from HDR.out.trans h))
            have HAPP := Lib.hid (fun (W V : World) (r : Value) (hb : Below wr.heap.size wr W) (hv : Vec W (New V W) r i (digF p i k)) =>
              apply_any r (.slice A i c) i i (digF p i k) f p W hm1 (by omega) (by omega) hv.new_lt (HA.out.on (HBr.out.trans (hb.mono HBr.out.size))) (by omega) (by omega) (digF_in (by omega)) hf)
            have HNUM := Lib.hid (fun (W V : World) (r : Value) (hv : Vec W (New V W) r i (fun j => dotTo (digF p i k) f j i % (p : Int))) =>
              number_any r i p (fun j => dotTo (digF p i k) f j i % (p : Int)) W _ (by omega) hp4 hv (mod_in (by omega) _ _) (by rw [HQ.out]; omega))
            have HFO := Lib.hid (fun (W : World) (hb : Below wr.heap.size wr W) => (show W.cell? ⟨w5.heap.size, k, none⟩ = some (.int .i64 0) ∧ W.frozen? ⟨w5.heap.size, k, none⟩ = false from
              ⟨(HFl.out.on hb).2.1.cell ((CTab_get _ _ k hlt).trans (by unfold part; rw [if_neg (by omega)])), (HFl.out.on hb).2.1.frozen k⟩))
            have hne5 : w5.heap.size ≠ w.heap.size := by have := HX5.out.lt; omega
            have HKS := Lib.hid (fun (W : World) (u : Value) (h : W.cell? ⟨w.heap.size, 0, none⟩ = some (.int .i64 p) ∧ W.cell? ⟨w.heap.size, 1, none⟩ = some (.slice A i c)) => (show (W.setCell ⟨w5.heap.size, k, none⟩ u).cell? ⟨w.heap.size, 0, none⟩ = some (.int .i64 p) ∧ (W.setCell ⟨w5.heap.size, k, none⟩ u).cell? ⟨w.heap.size, 1, none⟩ = some (.slice A i c) from
              ⟨(World.cell?_setCell_far _ _ _ _ hne5).trans h.1, (World.cell?_setCell_far _ _ _ _ hne5).trans h.2⟩))
            have HTB := Lib.hid (fun (W W' : World) (h : Below wr.heap.size wr W) (h' : Below W.heap.size W W') => (show Below wr.heap.size wr W' from h.trans (h'.mono h.size)))
            clear hF hXr
            generalize numN p (fun j => (dotTo (digF p i k) f j i % (p : Int)).toNat) i = val at hiv HNUM
            go_wp2_with fail
            go_region_held3 (fun W => W.cell? ⟨w.heap.size, 0, none⟩ = some (.int .i64 p) ∧ W.cell? ⟨w.heap.size, 1, none⟩ = some (.slice A i c))
              ((first | assumption | (with_reducible exact HKB.out _ HDR.out) | (with_reducible exact HKS.out _ _ (by assumption))))
              ((first
                | (go_at_call 124; (with_reducible refine (HVEC _).out.mono ?_); rintro e w7 ⟨r7, rfl, hv7, hb7⟩; (with_reducible have hbw7 := HTA.out _ hb7); have hk7 := HKB.out _ hbw7; obtain ⟨A7, c7, rfl, -⟩ := hv7.form)
                | (go_at_call 111; (with_reducible refine (HAPP.out _ _ _ hbw7 hv7).mono ?_); rintro e w8 ⟨r8, rfl, hv8, hb8⟩; (with_reducible have hbw8 := HTB.out _ _ hbw7 hb8); have hk8 := HKB.out _ hbw8; obtain ⟨A8, c8, rfl, -⟩ := hv8.form; obtain ⟨hgc, hgf⟩ := HFO.out _ hbw8)
                | (go_at_call 123; (with_reducible refine (HNUM.out _ _ _ hv8).mono ?_); rintro e w9 ⟨rfl, rfl⟩)))
            have HN := Lib.hid (show Fill w5 3 Q (iv (permF p i f)) (.int .i64 0) (k + 1) (w9.setCell ⟨w5.heap.size, k, none⟩ (.int .i64 val)) from by rw [← hiv]; exact (HFl.out.on hbw8).step hlt)
            clear hv7 hb7 hv8 hb8 hbw7 hbw8 hk7 hk8
            go_wp2
            go_roundw
            case rel => exact ⟨k + 1, by go_num, HN.out⟩
            case measure => simp [intOf]; omega
          · have e : k = Q := by omega
            subst e
            have hd3 : decide (k < k) = false := decide_eq_false (by omega)
            have HE := Lib.hid (show PermP p i f w (.returned (.tuple #[.slice (some ⟨w5.heap.size, 0, none⟩) k k, .int .i64 0])) wr from
              ⟨HB5.out.trans (hF.2.2.mono HB5.out.size), (fun h => by rw [HQ.out] at h; omega), (fun _ h => absurd h HD0.out), fun _ _ => ⟨_, rfl, by
                rw [HQ.out]
                have hr := hF.2.1
                rw [part_all] at hr
                exact hr.vec ⟨HB5.out.size, hr.lt⟩ (Nat.le_refl _)⟩⟩)
            rw [hPP] at HE
            go_wp2
            exact HE.out
end Go.Proofs.Ytokiejichnnmnaa

/- The kit's functions of permutations, as they go at the permutations of vectors. -/
namespace Go.Proofs.Ytokiejichnnmnaa
open Go Go.RowKit Num

def mapL (n : Nat) (P : Nat → Nat) : List Int := (List.range n).map fun j => (P j : Int)
theorem mapL_len (n : Nat) (P : Nat → Nat) : (mapL n P).length = n := by simp [mapL]
theorem mapL_succ (n : Nat) (P : Nat → Nat) : mapL (n + 1) P = mapL n P ++ [(P n : Int)] := by simp [mapL, List.range_succ]
theorem mapL_get {n : Nat} {P : Nat → Nat} {j : Nat} (hj : j < n) : (mapL n P).getD j 0 = (P j : Int) := by
  simp [mapL, List.getD_eq_getElem?_getD, hj]
def natF (P : Nat → Nat) (j : Nat) : Int := (P j : Nat)
theorem mapL_vec {w w' : World} {v : Value} {n : Nat} {P : Nat → Nat} (h : OwnsI w' w.heap.size v (mapL n P)) : Vec w' (New w w') v n (natF P) := by
  have := OwnsI.vec (S := New w w') h (fun g hg => World.ownsRow.lt h g hg)
  rw [mapL_len] at this
  exact this.congr fun j hj => mapL_get hj
/-- A call has given a permutation: new memory. -/
def GivesP (w : World) (n : Nat) (P : Nat → Nat) (e : Ending) (w' : World) : Prop := ∃ v, e = .returned v ∧ Vec w' (New w w') v n (natF P) ∧ Below w.heap.size w w'

set_option maxRecDepth 100000 in
set_option maxHeartbeats 1000000 in
theorem kitOne_any (n : Nat) (w : World) (hn : n ≤ 1000) : Calls Try.prog 75 #[.int .i64 n] w (GivesP w n fun j => j) := by
  obtain ⟨i0, hi, hz0, hz1, hz2⟩ := info_parts info3m
  have h00 : OwnsI w w.heap.size (.slice none 0 0) (mapL 0 fun j => j) := World.ownsRow_nil _ _ _ _
  have H0 := Lib.hid h00
  clear h00
  go_enter Try.func75, Try.ntmps75
  go_wp2
  go_loopw [3, 4] (fun v i wr => ∃ k : Nat, i = .int .i64 k ∧ k ≤ n ∧ OwnsI wr w.heap.size v (mapL k fun j => j) ∧ Below w.heap.size w wr) (fun _ i _ => n - (intOf i).toNat)
  case atStart => exact ⟨0, rfl, Nat.zero_le _, H0.out, Below.refl _ _⟩
  case round =>
    obtain ⟨k, rfl, hk, hO, hB⟩ := hrel
    have hBs := hB.size
    by_cases hlt : k < n
    · have hL : (mapL k fun j => j).length = k := mapL_len _ _
      have HB := Lib.hid hB
      clear hB
      go_wp2_with (at_builtin; refine wpList_append_own _ rfl (.tmp 10) (.tmp 12) 53 rfl w.heap.size 3 i0 (.int .i64 0) 1 8 Try.underlying53 hi hz0 hz1 hz2 rfl (by decide) _ _ _ rfl (World.ownsRow.alloc hO _) ⟨wr.heap.size, 0, none⟩ 1 1 [.int .i64 (k : Int)] rfl rfl (cell_one_new _ _ _) (by simp [Value.oneCell']) (by unfold maxLen; omega) (by omega) (by simp; omega) ?_; intro v1 w1 hown' hgrow _)
      have HB1 := Lib.hid ((HB.out.alloc hBs _).grown hgrow (by simp; omega) (fun q hq => (hO.lt q hq).1))
      have hx : w1.ownsRow w.heap.size 3 1 v1 (mapL (k + 1) fun j => j).length (icells (mapL (k + 1) fun j => j)) := by
        rw [mapL_succ, icells_append, List.length_append]; exact hown'
      have HX := Lib.hid hx
      clear hx hown' hgrow hO hL
      go_wp2
      go_roundw
      case rel => exact ⟨k + 1, by go_num, by omega, HX.out, HB1.out⟩
      case measure => simp [intOf]; omega
    · have hkn : k = n := by omega
      subst hkn
      have HO := Lib.hid hO
      have HB := Lib.hid hB
      clear hO hB
      go_wp2
      go_ret
      exact ⟨_, rfl, mapL_vec HO.out, HB.out⟩

set_option maxRecDepth 100000 in
set_option maxHeartbeats 1000000 in
theorem kitMul_any (v u : Value) (n : Nat) (P Q : Nat → Nat) (w : World) (h1 : 1 ≤ n) (hn : n ≤ 1000) (hP : ∀ j, j < n → P j < n) (hv : Vec w (· < w.heap.size) v n (natF P)) (hu : Vec w (· < w.heap.size) u n (natF Q)) :
    Calls Try.prog 74 #[v, u] w (GivesP w n fun j => Q (P j)) := by
  obtain ⟨i0, hi, hz0, hz1, hz2⟩ := info_parts info3m
  obtain ⟨A, c, rfl, -, h⟩ := hv
  obtain ⟨b, o, rfl, hb, hc⟩ := h (by omega)
  obtain ⟨A', c', rfl, -, h'⟩ := hu
  obtain ⟨b', o', rfl, hb', hc'⟩ := h' (by omega)
  clear h h'
  have h00 : OwnsI w w.heap.size (.slice none 0 0) (mapL 0 fun j => Q (P j)) := World.ownsRow_nil _ _ _ _
  have H0 := Lib.hid h00
  clear h00
  go_enter Try.func74, Try.ntmps74
  go_wp2
  go_loopw [5, 6] (fun v i wr => ∃ k : Nat, i = .int .i64 k ∧ k ≤ n ∧ OwnsI wr w.heap.size v (mapL k fun j => Q (P j)) ∧ Below w.heap.size w wr) (fun _ i _ => n - (intOf i).toNat)
  case atStart => exact ⟨0, rfl, Nat.zero_le _, H0.out, Below.refl _ _⟩
  case round =>
    obtain ⟨k, rfl, hk, hO, hB⟩ := hrel
    have hBs := hB.size
    by_cases hlt : k < n
    · have hcell : wr.cell? ⟨b, o + k, none⟩ = some (.int .i64 (P k : Nat)) := (hB.cell (p := ⟨b, o + k, none⟩) hb).trans (hc k hlt)
      have hxx := hP k hlt
      have hcell' : wr.cell? ⟨b', o' + P k, none⟩ = some (.int .i64 (Q (P k) : Nat)) := (hB.cell (p := ⟨b', o' + P k, none⟩) hb').trans (hc' (P k) hxx)
      have hL : (mapL k fun j => Q (P j)).length = k := mapL_len _ _
      have HT := Lib.hid (mapL_succ k fun j => Q (P j))
      have HB := Lib.hid hB
      generalize Q (P k) = y at hcell' HT
      generalize P k = i at hcell hcell' hxx
      clear hB hc hc'
      go_wp2_with (at_builtin; refine wpList_append_own _ rfl (.tmp 13) (.tmp 21) 53 rfl w.heap.size 3 i0 (.int .i64 0) 1 8 Try.underlying53 hi hz0 hz1 hz2 rfl (by decide) _ _ _ rfl (World.ownsRow.alloc hO _) ⟨wr.heap.size, 0, none⟩ 1 1 [.int .i64 (y : Int)] rfl rfl (cell_one_new _ _ _) (by simp [Value.oneCell']) (by unfold maxLen; omega) (by omega) (by simp; omega) ?_; intro v1 w1 hown' hgrow _)
      have HB1 := Lib.hid ((HB.out.alloc hBs _).grown hgrow (by simp; omega) (fun q hq => (hO.lt q hq).1))
      have hx : w1.ownsRow w.heap.size 3 1 v1 (mapL (k + 1) fun j => Q (P j)).length (icells (mapL (k + 1) fun j => Q (P j))) := by
        rw [HT.out, icells_append, List.length_append]; exact hown'
      have HX := Lib.hid hx
      clear hx hown' hgrow hO hL
      go_wp2
      go_roundw
      case rel => exact ⟨k + 1, by go_num, by omega, HX.out, HB1.out⟩
      case measure => simp [intOf]; omega
    · have hkn : k = n := by omega
      subst hkn
      have HO := Lib.hid hO
      have HB := Lib.hid hB
      clear hO hB hc hc'
      go_wp2
      go_ret
      exact ⟨_, rfl, mapL_vec HO.out, HB.out⟩

/-- The marks behind k images. -/
def marksP (n : Nat) (P : Nat → Nat) (k : Nat) : Array Value := Array.ofFn (n := n) fun i => Value.bool (decide (∃ j, j < k ∧ P j = i.val))
theorem marksP_get (n : Nat) (P : Nat → Nat) (k i : Nat) (hi : i < n) : (marksP n P k)[i]? = some (.bool (decide (∃ j, j < k ∧ P j = i))) := by
  simp [marksP, hi]
theorem marksP_zero (n : Nat) (P : Nat → Nat) : madeCells (Value.bool false).cells n = marksP n P 0 := by
  apply Array.ext
  · simp [madeCells, marksP]
  · intro i h1 h2
    simp [madeCells, marksP, Value.cells, Nat.mod_one]
theorem marksP_succ (n : Nat) (P : Nat → Nat) (k : Nat) : (marksP n P k).setIfInBounds (P k) (.bool true) = marksP n P (k + 1) := by
  apply Array.ext
  · simp [marksP]
  · intro j h1 h2
    have hj : j < n := by simpa [marksP] using h2
    rw [Array.getElem_setIfInBounds (by simpa [marksP] using hj)]
    by_cases e : P k = j
    · subst e
      simp only [if_true, marksP, Array.getElem_ofFn]
      congr 1
      exact (decide_eq_true ⟨k, by omega, rfl⟩).symm
    · simp only [if_neg e, marksP, Array.getElem_ofFn]
      congr 1
      rw [decide_eq_decide]
      constructor
      · rintro ⟨m, hm, he⟩; exact ⟨m, by omega, he⟩
      · rintro ⟨m, hm, he⟩
        refine ⟨m, ?_, he⟩
        by_cases e' : m = k
        · subst e'; exact absurd he e
        · omega
theorem info4m : (Try.prog.info? 4).map (fun i => (i.zero, i.size, i.bytes)) = some (some (.bool false), 1, 1) := by kernel_rfl
theorem make_marks (n : Nat) (P : Nat → Nat) (hn : n ≤ 17592186044400) (W : World) : (Instr.makeSlice 103 (.int .i64 (n : Int)) (.int .i64 (n : Int))).run Try.prog W = .ok (.slice (some ⟨W.heap.size, 0, none⟩) n n) (W.alloc (.cells (marksP n P 0) 4)) := by
  obtain ⟨i0, hi, hz0, hz1, hz2⟩ := info_parts info4m
  have h := run_make (P := Try.prog) W 103 4 i0 (.bool false) (by kernel_rfl) hi hz0 .i64 .i64 (n : Int) (n : Int) (by omega) (by omega) (by rw [hz2]; omega) (by omega)
  rw [h, hz1, Nat.mul_one, Int.toNat_natCast, marksP_zero]

set_option maxRecDepth 100000 in
set_option maxHeartbeats 1000000 in
theorem kitFine_any (v : Value) (n : Nat) (P : Nat → Nat) (w : World) (h1 : 1 ≤ n) (hn : n ≤ 1000) (hP : ∀ j, j < n → P j < n) (hi : ∀ i j, i < n → j < n → P i = P j → i = j) (hv : Vec w (· < w.heap.size) v n (natF P)) :
    Calls Try.prog 73 #[v, .int .i64 n] w fun e w' => e = .returned (.bool true) ∧ Below w.heap.size w w' := by
  obtain ⟨A, c, rfl, -, h⟩ := hv
  obtain ⟨b, o, rfl, hb, hc⟩ := h (by omega)
  clear h
  have H0 := Lib.hid (show Row (w.alloc (.cells (marksP n P 0) 4)) w.heap.size 4 (marksP n P 0) ∧ Below w.heap.size w (w.alloc (.cells (marksP n P 0) 4)) from ⟨Row.new _ _ _, (Below.refl _ _).alloc (Nat.le_refl _) _⟩)
  have hmk := make_marks n P (by omega)
  go_enter Try.func73, Try.ntmps73
  go_wp2
  go_loopw [6] (fun i wr => ∃ k : Nat, i = .int .i64 k ∧ k ≤ n ∧ Row wr w.heap.size 4 (marksP n P k) ∧ Below w.heap.size w wr) (fun i _ => n - (intOf i).toNat)
  case atStart => exact ⟨0, rfl, Nat.zero_le _, H0.out.1, H0.out.2⟩
  case round =>
    obtain ⟨k, rfl, hk, hR, hB⟩ := hrel
    clear hmk
    by_cases hlt : k < n
    · have hcell : wr.cell? ⟨b, o + k, none⟩ = some (.int .i64 (P k : Nat)) := (hB.cell (p := ⟨b, o + k, none⟩) hb).trans (hc k hlt)
      have hx := hP k hlt
      have hcm := hR.cell (marksP_get n P k (P k) hx)
      rw [decide_eq_false (by rintro ⟨j, hj, e⟩; have := hi j k (by omega) hlt e; omega)] at hcm
      have hfm := hR.frozen (P k)
      have hn1 : Row (wr.setCell ⟨w.heap.size, P k, none⟩ (.bool true)) w.heap.size 4 (marksP n P (k + 1)) := by rw [← marksP_succ n P k]; exact hR.set (P k) _
      have HN := Lib.hid hn1
      have HB := Lib.hid (hB.setCell (p := ⟨w.heap.size, P k, none⟩) (Nat.le_refl _) (.bool true))
      clear hn1 hB hR hc hi hP
      generalize P k = i at hcell hx hcm hfm HN HB
      go_wp2
      go_roundw
      case rel => exact ⟨k + 1, by go_num, by omega, HN.out, HB.out⟩
      case measure => simp [intOf]; omega
    · have HB := Lib.hid hB
      clear hB hR hc
      go_wp2
      go_ret
      exact ⟨rfl, HB.out⟩
end Go.Proofs.Ytokiejichnnmnaa

/- MAbs, MVSp, MOrdV, MPermV, joined. -/
/- MATHEMATICS: a bound of the order of a linear map over a finite space, step by step as Order goes. -/
namespace Go.Proofs.Ytokiejichnnmnaa

def itn {α : Type} (T : α → α) : Nat → α → α
  | 0, v => v
  | k + 1, v => T (itn T k v)
theorem itn_add {α : Type} (T : α → α) (a : Nat) (v : α) : ∀ b, itn T (a + b) v = itn T b (itn T a v)
  | 0 => rfl
  | b + 1 => by show T (itn T (a + b) v) = T (itn T b (itn T a v)); rw [itn_add T a v b]
theorem itn_mul {α : Type} (T : α → α) (a : Nat) (v : α) : ∀ b, itn T (a * b) v = itn (itn T a) b v
  | 0 => rfl
  | b + 1 => by rw [Nat.mul_succ, itn_add, itn_mul T a v b]; rfl
theorem itn_comm {α : Type} (T : α → α) (a b : Nat) (v : α) : itn T a (itn T b v) = itn T b (itn T a v) := by
  rw [← itn_add, ← itn_add, Nat.add_comm]
theorem itn_fix {α : Type} (T : α → α) (v : α) (h : T v = v) : ∀ k, itn T k v = v
  | 0 => rfl
  | k + 1 => by show T (itn T k v) = v; rw [itn_fix T v h k, h]

structure Sp {α : Type} (add : α → α → α) (zero : α) (p : Nat) (T : α → α) : Prop where
  comm : ∀ a b, add a b = add b a
  assoc : ∀ a b c, add (add a b) c = add a (add b c)
  zer : ∀ a, add zero a = a
  can : ∀ a b c, add a b = add a c → b = c
  lin : ∀ a b, T (add a b) = add (T a) (T b)
  inj : ∀ a b, T a = T b → a = b
  many : ∀ v, itn (add v) p zero = zero
  pos : 0 < p

variable {α : Type} {add : α → α → α} {zero : α} {p : Nat} {T : α → α}
theorem Sp.T0 (S : Sp add zero p T) : T zero = zero := S.can (T zero) _ _ (by rw [← S.lin, S.zer, S.comm, S.zer])
theorem Sp.itn_lin (S : Sp add zero p T) (a b : α) : ∀ k, itn T k (add a b) = add (itn T k a) (itn T k b)
  | 0 => rfl
  | k + 1 => by show T (itn T k (add a b)) = _; rw [S.itn_lin a b k, S.lin]; rfl
theorem Sp.itn_inj (S : Sp add zero p T) (a b : α) : ∀ k, itn T k a = itn T k b → a = b
  | 0, h => h
  | k + 1, h => S.itn_inj a b k (S.inj _ _ h)
theorem Sp.pow (S : Sp add zero p T) (n : Nat) : Sp add zero p (itn T n) where
  comm := S.comm
  assoc := S.assoc
  zer := S.zer
  can := S.can
  lin := fun a b => S.itn_lin a b n
  inj := fun a b => S.itn_inj a b n
  many := S.many
  pos := S.pos
/-- Sums of what stays. -/
theorem Sp.rep_fix (S : Sp add zero p T) (v : α) (h : T v = v) : ∀ k, T (itn (add v) k zero) = itn (add v) k zero
  | 0 => S.T0
  | k + 1 => by show T (add v (itn (add v) k zero)) = add v (itn (add v) k zero); rw [S.lin, h, S.rep_fix v h k]
/-- Two points of an orbit that differ by what stays: p times their distance brings the point back. -/
theorem Sp.back (S : Sp add zero p T) {x v u : α} (hv : T v = v) (hu : T u = u) {k d : Nat} (h : add (itn T k x) v = add (itn T (k + d) x) u) : itn T (d * p) x = x := by
  have h1 : add x v = add (itn T d x) u := S.itn_inj _ _ k (by
    rw [S.itn_lin, S.itn_lin, itn_fix T v hv, itn_fix T u hu, h, Nat.add_comm k d, itn_add])
  obtain ⟨q, hq⟩ : ∃ q, p = q + 1 := ⟨p - 1, by have := S.pos; omega⟩
  have hu0 : add u (itn (add u) q zero) = zero := by
    have := S.many u
    rw [hq] at this
    exact this
  have hw : itn T d x = add x (add v (itn (add u) q zero)) := by
    rw [← S.assoc, h1, S.assoc, hu0, S.comm, S.zer]
  have hwf : T (add v (itn (add u) q zero)) = add v (itn (add u) q zero) := by rw [S.lin, hv, S.rep_fix u hu]
  generalize add v (itn (add u) q zero) = w at hw hwf
  have key : ∀ t, itn T (d * t) x = add x (itn (add w) t zero) := by
    intro t
    induction t with
    | zero => show x = add x zero; rw [S.comm, S.zer]
    | succ t ih =>
      rw [Nat.mul_succ, itn_add, ih, S.itn_lin, hw, itn_fix T _ (S.rep_fix w hwf t), S.assoc]
      rfl
  rw [key, S.many, S.comm, S.zer]
/-- r is the least positive number that brings x back. -/
def Least (B : α → α) (x : α) (r : Nat) : Prop := 0 < r ∧ itn B r x = x ∧ ∀ k, 0 < k → k < r → itn B k x ≠ x
theorem Least.dvd {B : α → α} {x : α} {r : Nat} (h : Least B x r) (k : Nat) (hk : itn B k x = x) : r ∣ k := by
  have e : itn B (k % r) x = x := by
    have h2 : itn B (r * (k / r)) x = x := by rw [itn_mul]; exact itn_fix _ _ h.2.1 _
    have h3 := hk
    rw [← Nat.div_add_mod k r, itn_add, h2] at h3
    exact h3
  rcases Nat.eq_zero_or_pos (k % r) with h0 | h0
  · exact Nat.dvd_of_mod_eq_zero h0
  · exact absurd e (h.2.2 _ h0 (Nat.mod_lt _ h.1))
/-- A list of what n rounds leave where it is. -/
structure Stay (T : α → α) (n c : Nat) (L : List α) : Prop where
  nodup : L.Nodup
  fix : ∀ v ∈ L, itn T n v = v
  le : n ≤ c * L.length
theorem Sp.stay0 (S : Sp add zero p T) : Stay T 1 1 [zero] := ⟨by simp, fun v hv => by simp at hv; subst hv; exact S.T0, by simp⟩
theorem Sp.stay (S : Sp add zero p T) {n c r : Nat} {L : List α} (h : Stay T n c L) {x : α} (hr : Least (itn T n) x r) : ∃ L', Stay T (n * r) (c * p) L' := by
  have Sn := S.pow n
  have hg0 : 0 < Nat.gcd r p := Nat.gcd_pos_of_pos_left _ hr.1
  obtain ⟨q, hq⟩ : Nat.gcd r p ∣ r := Nat.gcd_dvd_left r p
  have hgp : Nat.gcd r p ≤ p := Nat.le_of_dvd S.pos (Nat.gcd_dvd_right r p)
  have hqd : ∀ d, r ∣ d * p → q ∣ d := by
    intro d hd
    have h1 : r ∣ d * Nat.gcd r p := by
      rw [← Nat.gcd_mul_left]
      exact Nat.dvd_gcd ⟨d, Nat.mul_comm _ _⟩ hd
    have h2 : Nat.gcd r p * q ∣ Nat.gcd r p * d := by rw [← hq, Nat.mul_comm (Nat.gcd r p) d]; exact h1
    exact Nat.dvd_of_mul_dvd_mul_left hg0 h2
  refine ⟨(List.range q).flatMap (fun k => L.map (add (itn (itn T n) k x))), ?_, ?_, ?_⟩
  · unfold List.Nodup
    rw [List.pairwise_flatMap]
    constructor
    · intro k hk
      rw [List.pairwise_map]
      exact h.nodup.imp fun {a b} hab e => hab (S.can _ _ _ e)
    · refine (List.pairwise_lt_range).imp_of_mem ?_
      intro k l hk hl hkl a ha b hb e
      simp only [List.mem_map] at ha hb
      obtain ⟨v, hv, rfl⟩ := ha
      obtain ⟨u, hu, rfl⟩ := hb
      obtain ⟨d, rfl⟩ : ∃ d, l = k + d := ⟨l - k, by omega⟩
      have hd := hqd d (hr.dvd _ (Sn.back (h.fix v hv) (h.fix u hu) e))
      have hlq : k + d < q := List.mem_range.1 hl
      have := Nat.le_of_dvd (by omega) hd
      omega
  · intro y hy
    simp only [List.mem_flatMap, List.mem_map] at hy
    obtain ⟨k, hk, v, hv, rfl⟩ := hy
    rw [itn_mul, Sn.itn_lin, itn_fix _ v (h.fix v hv), itn_comm, hr.2.1]
  · have hl2 : ∀ l : List Nat, (l.flatMap (fun k => L.map (add (itn (itn T n) k x)))).length = l.length * L.length := by
      intro l
      induction l with
      | nil => simp
      | cons a l ih => rw [List.flatMap_cons, List.length_append, ih, List.length_map, List.length_cons, Nat.succ_mul, Nat.add_comm]
    have hlen : ((List.range q).flatMap (fun k => L.map (add (itn (itn T n) k x)))).length = q * L.length := by
      rw [hl2, List.length_range]
    rw [hlen]
    have h1 := h.le
    calc n * r ≤ (c * L.length) * r := Nat.mul_le_mul_right _ h1
      _ = (c * L.length) * (Nat.gcd r p * q) := by rw [← hq]
      _ ≤ (c * L.length) * (p * q) := Nat.mul_le_mul_left _ (Nat.mul_le_mul_right _ hgp)
      _ = c * p * (q * L.length) := by simp only [Nat.mul_assoc, Nat.mul_left_comm, Nat.mul_comm]
end Go.Proofs.Ytokiejichnnmnaa

/- MATHEMATICS: row vectors over a prime as a finite space; matrices act on them; the bound of an order. -/
namespace Go.Proofs.Ytokiejichnnmnaa

def VT (p : Int) (m : Nat) : Type := { v : Nat → Int // InP p m v ∧ ∀ j, ¬ j < m → v j = 0 }
section
variable {p : Int} {m : Nat}
theorem VT.ext {a b : VT p m} (h : ∀ j, j < m → a.1 j = b.1 j) : a = b := by
  apply Subtype.ext
  funext j
  by_cases e : j < m
  · exact h j e
  · rw [a.2.2 j e, b.2.2 j e]
def vOf (hp : 0 < p) (m : Nat) (f : Nat → Int) : VT p m := ⟨fun j => if j < m then f j % p else 0, fun j hj => by show 0 ≤ (if j < m then f j % p else 0) ∧ (if j < m then f j % p else 0) < p; rw [if_pos hj]; exact ⟨Int.emod_nonneg _ (by omega), Int.emod_lt_of_pos _ hp⟩, fun j hj => if_neg hj⟩
theorem vOf_at (hp : 0 < p) {f : Nat → Int} {j : Nat} (hj : j < m) : (vOf hp m f).1 j = f j % p := if_pos hj
def vAdd (hp : 0 < p) (a b : VT p m) : VT p m := vOf hp m fun j => a.1 j + b.1 j
def vZero (hp : 0 < p) (m : Nat) : VT p m := vOf hp m fun _ => 0
def vT (hp : 0 < p) (F : Nat → Nat → Int) (a : VT p m) : VT p m := vOf hp m fun j => dotTo a.1 F j m
theorem VT.red (_hp : 0 < p) (a : VT p m) {j : Nat} (hj : j < m) : a.1 j % p = a.1 j := Int.emod_eq_of_lt (a.2.1 j hj).1 (a.2.1 j hj).2
theorem vT_mul (hp : 0 < p) (F G : Nat → Nat → Int) (a : VT p m) : vT hp G (vT hp F a) = vT hp (mulF p m F G) a := VT.ext fun j hj => by
  show (vOf hp m _).1 j = (vOf hp m _).1 j
  rw [vOf_at hp hj, vOf_at hp hj]
  have h1 : Cg p (dotTo (vT hp F a).1 G j m) (dotTo (fun k => dotTo a.1 F k m) G j m) := dot_cg m (fun k hk => by
    show Cg p ((vOf hp m _).1 k) _
    rw [vOf_at hp hk]; exact Cg.mod p _) (fun k _ => Cg.refl p _)
  have h2 : Cg p (dotTo a.1 (mulF p m F G) j m) (dotTo a.1 (fun k j => dotTo (F k) G j m) j m) := dot_cg m (fun k _ => Cg.refl p _) (fun k _ => Cg.mod p _)
  rw [dot_assoc] at h1
  exact h1.trans h2.symm
theorem vT_one (hp : 0 < p) (a : VT p m) : vT hp oneF a = a := VT.ext fun j hj => by
  show (vOf hp m _).1 j = _
  rw [vOf_at hp hj, dot_oneR, if_pos hj, a.red hp hj]
theorem vT_eqv (hp : 0 < p) {F G : Nat → Nat → Int} (h : Eqv m F G) (a : VT p m) : vT hp F a = vT hp G a := VT.ext fun j hj => by
  show (vOf hp m _).1 j = (vOf hp m _).1 j
  rw [vOf_at hp hj, vOf_at hp hj, dot_congr2 m (fun k _ => rfl) (fun k hk => h k hk j hj)]
theorem vRep (hp : 0 < p) (a : VT p m) : ∀ k : Nat, itn (vAdd hp a) k (vZero hp m) = vOf hp m fun j => k * a.1 j
  | 0 => VT.ext fun j hj => by show (vOf hp m _).1 j = _; rw [vOf_at hp hj, vOf_at hp hj]; simp
  | k + 1 => VT.ext fun j hj => by
    show (vOf hp m fun j => a.1 j + (itn (vAdd hp a) k (vZero hp m)).1 j).1 j = _
    rw [vOf_at hp hj, vOf_at hp hj, vRep hp a k, vOf_at hp hj, Int.add_emod_emod]
    congr 1
    rw [Int.natCast_succ, Int.add_mul]
    omega
end
/-- An invertible matrix acts on the space. -/
theorem vSp {P m : Nat} (hp : 1 < (P : Int)) (hI : Invs (P : Int)) {F : Nat → Nat → Int} (hF : InG (P : Int) m m F) (hd : detV (P : Int) m F ≠ 0) :
    Sp (vAdd (p := (P : Int)) (m := m) (by omega)) (vZero (by omega) m) P (vT (by omega) F) where
  comm a b := VT.ext fun j hj => by show (vOf _ m _).1 j = (vOf _ m _).1 j; rw [vOf_at _ hj, vOf_at _ hj, Int.add_comm]
  assoc a b c := VT.ext fun j hj => by
    show (vOf _ m fun j => (vOf _ m _).1 j + _).1 j = (vOf _ m fun j => _ + (vOf _ m _).1 j).1 j
    rw [vOf_at _ hj, vOf_at _ hj, vOf_at _ hj, vOf_at _ hj, Int.emod_add_emod, Int.add_emod_emod, Int.add_assoc]
  zer a := VT.ext fun j hj => by
    show (vOf _ m fun j => (vOf _ m _).1 j + _).1 j = _
    rw [vOf_at _ hj, vOf_at _ hj, Int.emod_add_emod, Int.zero_add, a.red (by omega) hj]
  can a b c h := VT.ext fun j hj => by
    have e : (vAdd (p := (P : Int)) (by omega) a b).1 j = (vAdd (p := (P : Int)) (by omega) a c).1 j := by rw [h]
    have e' : Cg (P : Int) (a.1 j + b.1 j) (a.1 j + c.1 j) := by
      have h1 : (vAdd (p := (P : Int)) (by omega) a b).1 j = (a.1 j + b.1 j) % (P : Int) := vOf_at _ hj
      have h2 : (vAdd (p := (P : Int)) (by omega) a c).1 j = (a.1 j + c.1 j) % (P : Int) := vOf_at _ hj
      rw [h1, h2] at e; exact e
    have e2 := (Cg.refl (P : Int) (- a.1 j)).add e'
    rw [Int.neg_add_cancel_left, Int.neg_add_cancel_left] at e2
    exact e2.eq (b.2.1 j hj) (c.2.1 j hj)
  lin a b := VT.ext fun j hj => by
    show (vOf _ m fun j => dotTo (vOf _ m _).1 F j m).1 j = (vOf _ m fun j => (vOf _ m _).1 j + (vOf _ m _).1 j).1 j
    rw [vOf_at _ hj, vOf_at _ hj, vOf_at _ hj, vOf_at _ hj, Int.emod_add_emod, Int.add_emod_emod, ← dot_add]
    exact dot_cg m (fun k hk => by rw [vOf_at _ hk]; exact Cg.mod _ _) (fun k _ => Cg.refl _ _)
  inj a b h := by
    have hr := invF_right hp hI hF hd
    have key : ∀ c : VT (P : Int) m, vT (by omega) (invF (P : Int) m F) (vT (by omega) F c) = c := fun c => by
      rw [vT_mul, vT_eqv _ hr, vT_one]
    rw [← key a, ← key b, h]
  many v := by
    rw [vRep]
    exact VT.ext fun j hj => by
      show _ = (vOf _ m _).1 j
      rw [vOf_at _ hj, vOf_at _ hj, Int.mul_emod_right, Int.zero_emod]
  pos := by omega
/-- The number of a vector tells it. -/
def vNum (P : Nat) {m : Nat} (v : VT (P : Int) m) : Nat := numN P (fun j => (v.1 j).toNat) m
theorem numN_inj {P : Nat} {f g : Nat → Nat} : ∀ n, (∀ i, i < n → f i < P ∧ g i < P) → numN P f n = numN P g n → ∀ i, i < n → f i = g i
  | 0, _, _, _, hi => absurd hi (Nat.not_lt_zero _)
  | n + 1, h, e, i, hi => by
    rw [numN, numN] at e
    have hn := h n (by omega)
    have h1 : f n = g n := by
      have e1 := congrArg (· % P) e
      simp only [Nat.mul_add_mod_self_right] at e1
      rwa [Nat.mod_eq_of_lt hn.1, Nat.mod_eq_of_lt hn.2] at e1
    by_cases hin : i = n
    · rw [hin]; exact h1
    · rw [h1] at e
      have e2 : numN P f n = numN P g n := Nat.eq_of_mul_eq_mul_right (by omega : 0 < P) (Nat.add_right_cancel e)
      exact numN_inj n (fun k hk => h k (by omega)) e2 i (by omega)
theorem VT.lt {P m : Nat} (v : VT (P : Int) m) (j : Nat) (hj : j < m) : (v.1 j).toNat < P := by have := v.2.1 j hj; omega
theorem vNum_lt {P m : Nat} (v : VT (P : Int) m) : vNum P v < P ^ m := numN_lt (fun i hi => v.lt i hi) m (Nat.le_refl m)
theorem vNum_inj {P m : Nat} {v u : VT (P : Int) m} (h : vNum P v = vNum P u) : v = u := VT.ext fun j hj => by
  have := numN_inj m (fun i hi => ⟨v.lt i hi, u.lt i hi⟩) h j hj
  have h1 := v.2.1 j hj
  have h2 := u.2.1 j hj
  omega
theorem nodup_le : ∀ (N : Nat) (L : List Nat), L.Nodup → (∀ x ∈ L, x < N) → L.length ≤ N
  | 0, L, _, h => by
    cases L with
    | nil => simp
    | cons a l => exact absurd (h a (by simp)) (Nat.not_lt_zero _)
  | N + 1, L, hn, h => by
    have h1 := nodup_le N (L.erase N) (hn.erase N) (fun x hx => by
      have h2 := hn.mem_erase_iff.1 hx
      have := h x h2.2
      omega)
    have h2 := List.length_erase (a := N) (l := L)
    split at h2 <;> omega
theorem VT.few {P m : Nat} (L : List (VT (P : Int) m)) (h : L.Nodup) : L.length ≤ P ^ m := by
  have := nodup_le (P ^ m) (L.map (vNum P)) (by
    unfold List.Nodup
    rw [List.pairwise_map]
    exact h.imp fun {a b} hab e => hab (vNum_inj e)) (fun x hx => by
      obtain ⟨v, _, rfl⟩ := List.mem_map.1 hx
      exact vNum_lt v)
  rwa [List.length_map] at this
/-- There is a least number of rounds that brings a vector back. -/
theorem least_ex {P m : Nat} {add : VT (P : Int) m → VT (P : Int) m → VT (P : Int) m} {z : VT (P : Int) m} {c : Nat} {B : VT (P : Int) m → VT (P : Int) m} (S : Sp add z c B) (x : VT (P : Int) m) : ∃ r, Least B x r := by
  have hex : ∃ k, 0 < k ∧ itn B k x = x := by
    apply Classical.byContradiction
    intro hno
    have hnd : ((List.range (P ^ m + 1)).map (fun k => itn B k x)).Nodup := by
      unfold List.Nodup
      rw [List.pairwise_map]
      exact List.pairwise_lt_range.imp fun {a b} hab (e : itn B a x = itn B b x) => hno ⟨b - a, by omega, (S.itn_inj _ _ a (by
        rw [← itn_add, show b - a + a = b from by omega, e])) ⟩
    have := VT.few _ hnd
    rw [List.length_map, List.length_range] at this
    omega
  obtain ⟨k, hk0, hk⟩ := hex
  have key : ∀ n k, k ≤ n → 0 < k → itn B k x = x → ∃ r, Least B x r := by
    intro n
    induction n with
    | zero => intro k h1 h2; omega
    | succ n ih =>
      intro k h1 h2 h3
      by_cases h : ∃ l, 0 < l ∧ l < k ∧ itn B l x = x
      · obtain ⟨l, a, b, c⟩ := h
        exact ih l (by omega) a c
      · exact ⟨k, h2, h3, fun l a b c => h ⟨l, a, b, c⟩⟩
  exact key k k (Nat.le_refl _) hk0 hk
end Go.Proofs.Ytokiejichnnmnaa

/- MATHEMATICS: what Order gives of an invertible matrix over few vectors: the least power that is 1. -/
namespace Go.Proofs.Ytokiejichnnmnaa

def vE (P m i : Nat) (hp : 1 < (P : Int)) : VT (P : Int) m := vOf (by omega) m (oneF i)
theorem vE_at {P m i j : Nat} (hp : 1 < (P : Int)) (hj : j < m) : (vE P m i hp).1 j = oneF i j := by
  show (vOf _ m (oneF i)).1 j = _
  rw [vOf_at _ hj]
  unfold oneF
  split
  · exact Int.emod_eq_of_lt (by omega) (by omega)
  · exact Int.emod_eq_of_lt (by omega) (by omega)
theorem itV_itn {P m : Nat} (hp : 0 < (P : Int)) (g : Nat → Nat → Int) (f0 : Nat → Int) (v : VT (P : Int) m) (h : ∀ j, j < m → f0 j = v.1 j) : ∀ k j, j < m → itV (P : Int) m g f0 k j = (itn (vT hp g) k v).1 j
  | 0, j, hj => h j hj
  | k + 1, j, hj => by
    show dotTo (itV (P : Int) m g f0 k) g j m % (P : Int) = (vOf hp m _).1 j
    rw [vOf_at hp hj, dot_congr2 m (fun l hl => itV_itn hp g f0 v h k l hl) (fun _ _ => rfl)]
theorem perGo_least {P m : Nat} (hp : 0 < (P : Int)) (g : Nat → Nat → Int) (f0 : Nat → Int) (v : VT (P : Int) m) (h : ∀ j, j < m → f0 j = v.1 j) {r : Nat} (hr : Least (vT hp g) v r) :
    ∀ fuel k, 1 ≤ k → k ≤ r → r < k + fuel → perGo (P : Int) m g f0 fuel k = r
  | 0, k, _, h1, h2 => by omega
  | fuel + 1, k, h0, h1, h2 => by
    have key : eqB m (itV (P : Int) m g f0 k) f0 = true ↔ itn (vT hp g) k v = v := by
      unfold eqB
      rw [decide_eq_true_eq]
      exact ⟨fun e => VT.ext fun j hj => by rw [← itV_itn hp g f0 v h k j hj, e j hj, h j hj], fun e j hj => by rw [itV_itn hp g f0 v h k j hj, e, h j hj]⟩
    unfold perGo
    by_cases hk : k = r
    · rw [if_pos (key.2 (hk ▸ hr.2.1)), hk]
    · rw [if_neg (fun e => hr.2.2 k (by omega) (by omega) (key.1 e))]
      exact perGo_least hp g f0 v h hr fuel (k + 1) (by omega) (by omega) (by omega)
theorem npow_vT {P m : Nat} (hp : 1 < (P : Int)) (hI : Invs (P : Int)) (b : GL (P : Int) m) (v : VT (P : Int) m) : ∀ k, vT (by omega) (npow (glMul hp hI) (glOne m hp hI) k b).1 v = itn (vT (by omega) b.1) k v
  | 0 => by
    show vT _ (glOne m hp hI).1 v = v
    rw [vT_eqv _ (glOne_eqv hp hI), vT_one]
  | k + 1 => by
    show vT _ (glMul hp hI (npow (glMul hp hI) (glOne m hp hI) k b) b).1 v = vT _ b.1 (itn (vT _ b.1) k v)
    rw [vT_eqv _ (glMul_eqv hp hI _ _), ← vT_mul, npow_vT hp hI b v k]
/-- A matrix that acts as n rounds do. -/
structure As (P m : Nat) (hp : 1 < (P : Int)) (T : VT (P : Int) m → VT (P : Int) m) (n : Nat) (g : Nat → Nat → Int) : Prop where
  inG : InG (P : Int) m m g
  det : detV (P : Int) m g ≠ 0
  acts : ∀ v, vT (by omega) g v = itn T n v
theorem As.pow {P m : Nat} {hp : 1 < (P : Int)} (hI : Invs (P : Int)) {T : VT (P : Int) m → VT (P : Int) m} {n : Nat} {g : Nat → Nat → Int} (h : As P m hp T n g) (r : Nat) (hr : r < 2 ^ 64) : As P m hp T (n * r) (powF (P : Int) m r g) := by
  have e := powF_eqv (n := r) hp hI (glOf hp hI g h.inG h.det) (glOf_eqv hp hI g h.inG h.det).symm hr
  have hin : InG (P : Int) m m (powF (P : Int) m r g) := powF_in (by omega) r
  refine ⟨hin, ?_, fun v => ?_⟩
  · rw [detV_congr hp hI hin (npow (glMul hp hI) (glOne m hp hI) r (glOf hp hI g h.inG h.det)).2.1 e]
    exact (npow (glMul hp hI) (glOne m hp hI) r (glOf hp hI g h.inG h.det)).2.2.1
  · rw [vT_eqv _ e, npow_vT, itn_mul]
    have e2 : vT (by omega) (glOf hp hI g h.inG h.det).1 = itn T n := funext fun u => by rw [vT_eqv _ (glOf_eqv hp hI g h.inG h.det), h.acts]
    rw [e2]
theorem As.fix {P m : Nat} {hp : 1 < (P : Int)} {T : VT (P : Int) m → VT (P : Int) m} {n : Nat} {g : Nat → Nat → Int} (h : As P m hp T n g) (he : ∀ k, k < m → itn T n (vE P m k hp) = vE P m k hp) (v : VT (P : Int) m) : itn T n v = v := by
  have e : Eqv m g oneF := fun k hk j hj => by
    have h1 : (vT (by omega) g (vE P m k hp)).1 j = oneF k j := by rw [h.acts, he k hk, vE_at hp hj]
    have h2 : (vT (by omega) g (vE P m k hp)).1 j = dotTo (vE P m k hp).1 g j m % (P : Int) := vOf_at _ hj
    rw [h2, dot_congr2 (y := oneF k) (h := g) m (fun l hl => vE_at hp hl) (fun _ _ => rfl), dot_oneL, if_pos hk, Int.emod_eq_of_lt (h.inG k hk j hj).1 (h.inG k hk j hj).2] at h1
    exact h1
  rw [← h.acts, vT_eqv _ e, vT_one]
theorem ordGo_ok {P m : Nat} (hp : 1 < (P : Int)) (hI : Invs (P : Int)) {add : VT (P : Int) m → VT (P : Int) m → VT (P : Int) m} {z : VT (P : Int) m} {T : VT (P : Int) m → VT (P : Int) m} (S : Sp add z P T) (hsz : P ^ m * P ^ m ≤ 10000) :
    ∀ (fuel i n : Nat) (g : Nat → Nat → Int), i + fuel = m → 1 ≤ n → As P m hp T n g → (∃ L, Stay T n (P ^ i) L) → (∀ k, k < i → itn T n (vE P m k hp) = vE P m k hp) → (∀ j, (∀ v, itn T j v = v) → n ∣ j) →
      ∃ n', ordGo (P : Int) m fuel i n g = (n', 0) ∧ 1 ≤ n' ∧ n' ≤ 10000 ∧ (∀ v, itn T n' v = v) ∧ ∀ j, (∀ v, itn T j v = v) → n' ∣ j
  | 0, i, n, g, hi, h1, hA, ⟨L, hL⟩, he, hd => by
    refine ⟨n, rfl, h1, ?_, hA.fix (fun k hk => he k (by omega)), hd⟩
    have := hL.le
    have h2 := Nat.mul_le_mul_left (P ^ i) (VT.few L hL.nodup)
    have : i = m := by omega
    subst this
    omega
  | fuel + 1, i, n, g, hi, h1, hA, ⟨L, hL⟩, he, hd => by
    have hB : vT (by omega) g = itn T n := funext hA.acts
    obtain ⟨r, hr⟩ := least_ex (S.pow n) (vE P m i hp)
    obtain ⟨L', hL'⟩ := S.stay hL hr
    have hnr : n * r ≤ 10000 := by
      have h2 := hL'.le
      have h3 := Nat.mul_le_mul_left (P ^ i * P) (VT.few L' hL'.nodup)
      have h4 : P ^ i * P ≤ P ^ m := by rw [← Nat.pow_succ]; exact Nat.pow_le_pow_right (by omega) (by omega)
      have h5 := Nat.mul_le_mul_right (P ^ m) h4
      omega
    have hrN : r ≤ 10000 / n := (Nat.le_div_iff_mul_le h1).2 (by rw [Nat.mul_comm]; exact hnr)
    have hr1 : r ≤ 10000 := Nat.le_trans hrN (Nat.div_le_self _ _)
    have hper : perGo (P : Int) m g (oneF i) (10000 / n) 1 = r := perGo_least (by omega) g (oneF i) (vE P m i hp) (fun j hj => (vE_at hp hj).symm) (by rw [hB]; exact hr) _ _ (Nat.le_refl 1) hr.1 (by omega)
    unfold ordGo
    rw [hper, if_neg (by have := hr.1; omega)]
    refine ordGo_ok hp hI S hsz fuel (i + 1) (n * r) (powF (P : Int) m r g) (by omega) (Nat.mul_pos h1 hr.1) (hA.pow hI r (by omega)) ⟨L', by rw [Nat.pow_succ]; exact hL'⟩ (fun k hk => ?_) (fun j hj => ?_)
    · by_cases hki : k = i
      · subst hki; rw [itn_mul]; exact hr.2.1
      · rw [itn_mul]; exact itn_fix _ _ (he k (by omega)) r
    · obtain ⟨t, ht⟩ := hd j hj
      have : r ∣ t := hr.dvd t (by rw [← itn_mul, ← ht]; exact hj _)
      obtain ⟨s, hs⟩ := this
      exact ⟨s, by rw [ht, hs, Nat.mul_assoc]⟩
theorem ordV_ok {P m : Nat} (hp : 1 < (P : Int)) (hI : Invs (P : Int)) {f : Nat → Nat → Int} (hf : InG (P : Int) m m f) (hd : detV (P : Int) m f ≠ 0) (hsz : P ^ m * P ^ m ≤ 10000) :
    ∃ n, ordV (P : Int) m f 0 = (n, 0) ∧ 1 ≤ n ∧ n ≤ 10000 ∧ (∀ v : VT (P : Int) m, itn (vT (by omega) f) n v = v) ∧ ∀ j, (∀ v : VT (P : Int) m, itn (vT (by omega) f) j v = v) → n ∣ j := by
  have S := vSp hp hI hf hd
  obtain ⟨n, h1, h2⟩ := ordGo_ok hp hI S hsz m 0 1 f (by omega) (Nat.le_refl 1) ⟨hf, hd, fun v => rfl⟩ ⟨_, S.stay0⟩ (fun k hk => by omega) (fun j _ => Nat.one_dvd j)
  exact ⟨n, by unfold ordV; rw [if_neg (by decide), if_neg hd]; exact h1, h2⟩
end Go.Proofs.Ytokiejichnnmnaa

/- MATHEMATICS: the permutation of the vectors that belongs to a matrix. -/
namespace Go.Proofs.Ytokiejichnnmnaa

theorem numN_congr {P : Nat} {f g : Nat → Nat} : ∀ n, (∀ i, i < n → f i = g i) → numN P f n = numN P g n
  | 0, _ => rfl
  | n + 1, h => by rw [numN, numN, numN_congr n (fun i hi => h i (by omega)), h n (by omega)]
theorem numN_dig {P m k : Nat} (hk : k < P ^ m) : numN P (digN P m k) m = k := by
  have key : ∀ i, i ≤ m → numN P (digN P m k) i = k / P ^ (m - i) := by
    intro i
    induction i with
    | zero => intro _; rw [numN, Nat.sub_zero, Nat.div_eq_of_lt hk]
    | succ i ih =>
      intro hi
      have e : m - i = (m - 1 - i) + 1 := by omega
      have e2 : m - (i + 1) = m - 1 - i := by omega
      rw [numN, ih (by omega), e, e2, Nat.pow_succ, ← Nat.div_div_eq_div_mul]
      show _ * P + k / P ^ (m - 1 - i) % P = _
      rw [Nat.mul_comm]
      exact Nat.div_add_mod _ P
  rw [key m (Nat.le_refl m), Nat.sub_self, Nat.pow_zero, Nat.div_one]
/-- The vector of a number. -/
def vD (P m : Nat) (hp : 0 < (P : Int)) (k : Nat) : VT (P : Int) m := vOf hp m (digF P m k)
theorem vD_at {P m k j : Nat} (hp : 0 < (P : Int)) (hj : j < m) : (vD P m hp k).1 j = digF P m k j := by
  show (vOf hp m _).1 j = _
  rw [vOf_at hp hj]
  have := digF_in (p := P) (n := m) (k := k) (by omega) j hj
  exact Int.emod_eq_of_lt this.1 this.2
theorem vNum_D {P m k : Nat} (hp : 0 < (P : Int)) (hk : k < P ^ m) : vNum P (vD P m hp k) = k := by
  unfold vNum
  rw [numN_congr m (g := digN P m k) (fun i hi => by rw [vD_at hp hi]; rfl), numN_dig hk]
theorem vD_num {P m : Nat} (hp : 0 < (P : Int)) (v : VT (P : Int) m) : vD P m hp (vNum P v) = v := vNum_inj (vNum_D hp (vNum_lt v))
theorem permV_eq {P m : Nat} (hp : 0 < (P : Int)) (f : Nat → Nat → Int) (k : Nat) : permV P m f k = vNum P (vT hp f (vD P m hp k)) := by
  unfold permV vNum
  refine numN_congr m fun j hj => ?_
  have h1 : (vT hp f (vD P m hp k)).1 j = dotTo (vD P m hp k).1 f j m % (P : Int) := vOf_at hp hj
  rw [h1, dot_congr2 m (fun l hl => vD_at hp hl) (fun _ _ => rfl)]
theorem permV_lt {P m : Nat} (hp : 0 < (P : Int)) (f : Nat → Nat → Int) (k : Nat) : permV P m f k < P ^ m := by rw [permV_eq hp]; exact vNum_lt _
theorem permV_mul {P m : Nat} (hp : 0 < (P : Int)) (f g : Nat → Nat → Int) (k : Nat) : permV P m g (permV P m f k) = permV P m (mulF (P : Int) m f g) k := by
  rw [permV_eq hp f, permV_eq hp g, permV_eq hp (mulF _ _ _ _), vD_num, vT_mul]
theorem permV_inj {P m : Nat} (hp : 1 < (P : Int)) (hI : Invs (P : Int)) {f : Nat → Nat → Int} (hf : InG (P : Int) m m f) (hd : detV (P : Int) m f ≠ 0) {i j : Nat} (hi : i < P ^ m) (hj : j < P ^ m) (h : permV P m f i = permV P m f j) : i = j := by
  have hp0 : 0 < (P : Int) := by omega
  rw [permV_eq hp0, permV_eq hp0] at h
  have := (vSp hp hI hf hd).inj _ _ (vNum_inj h)
  rw [← vNum_D hp0 hi, ← vNum_D hp0 hj, this]
theorem permV_zero {P m : Nat} (f : Nat → Nat → Int) : permV P m f 0 = 0 := by
  unfold permV
  have hd : ∀ i, digF P m 0 i = 0 := fun i => by unfold digF digN; simp
  have hn : ∀ n, numN P (fun j => (dotTo (digF P m 0) f j m % (P : Int)).toNat) n = 0 := by
    intro n
    induction n with
    | zero => rfl
    | succ n ih =>
      rw [numN, ih]
      have : dotTo (digF P m 0) f n m = 0 := by
        rw [dot_congr2 (y := fun _ => 0) (h := f) m (fun l _ => hd l) (fun _ _ => rfl), dot_zero]
      show 0 * P + (dotTo (digF P m 0) f n m % (P : Int)).toNat = 0
      rw [this]
      simp
  exact hn m
theorem permV_itn {P m : Nat} (hp : 0 < (P : Int)) (f : Nat → Nat → Int) {k : Nat} (hk : k < P ^ m) : ∀ j, itn (permV P m f) j k = vNum P (itn (vT hp f) j (vD P m hp k))
  | 0 => (vNum_D hp hk).symm
  | j + 1 => by
    show permV P m f (itn (permV P m f) j k) = vNum P (vT hp f (itn (vT hp f) j (vD P m hp k)))
    rw [permV_itn hp f hk j, permV_eq hp, vD_num]
/-- The order of the permutation is that of the matrix. -/
theorem permV_ord {P m : Nat} (hp : 1 < (P : Int)) (hI : Invs (P : Int)) {f : Nat → Nat → Int} (hf : InG (P : Int) m m f) (hd : detV (P : Int) m f ≠ 0) (hsz : P ^ m * P ^ m ≤ 10000) :
    ∃ n, ordV (P : Int) m f 0 = (n, 0) ∧ 1 ≤ n ∧ n ≤ 10000 ∧ ∀ j, 1 ≤ j → j ≤ n → eqB (P ^ m) (natF (itn (permV P m f) j)) (natF fun k => k) = decide (j = n) := by
  have hp0 : 0 < (P : Int) := by omega
  obtain ⟨n, h1, h2, h3, h4, h5⟩ := ordV_ok hp hI hf hd hsz
  refine ⟨n, h1, h2, h3, fun j hj1 hj => ?_⟩
  unfold eqB
  rw [decide_eq_decide]
  constructor
  · intro h
    have := h5 j (fun v => by
      have e := h (vNum P v) (vNum_lt v)
      have e2 : itn (permV P m f) j (vNum P v) = vNum P v := Int.ofNat_inj.1 e
      rw [permV_itn hp0 f (vNum_lt v), vD_num] at e2
      exact vNum_inj e2)
    have := Nat.le_of_dvd (by omega) this
    omega
  · rintro rfl k hk
    show ((itn (permV P m f) j k : Nat) : Int) = (k : Nat)
    rw [permV_itn hp0 f hk, h4, vNum_D hp0 hk]
end Go.Proofs.Ytokiejichnnmnaa
