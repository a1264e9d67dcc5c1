/- matrix.Inv. -/
import Derived.Test.YtokiejichnnmnaaMDetD
import Derived.Test.YtokiejichnnmnaaMCat
import Derived.Deep.Cut
import Derived.Deep.CutRange
namespace Go.Proofs.Ytokiejichnnmnaa
open Go Go.RowKit Num

/-- The matrix with the identity beside it. -/
def augF (m : Nat) (f : Nat → Nat → Int) (i : Nat) : Nat → Int := catF m (f i) (oneF i)
theorem augF_in {p : Int} {m : Nat} {f : Nat → Nat → Int} (hp : 2 ≤ p) (h : InG p m m f) : InG p m (m + m) (augF m f) := fun i hi j hj => by
  unfold augF catF
  by_cases e : j < m
  · rw [if_pos e]; exact h i hi j e
  · rw [if_neg e]; unfold oneF; split <;> omega
/-- Behind the making of the elimination. -/
def InvMid (w : World) (p : Int) (m : Nat) (f : Nat → Nat → Int) (A : Option Addr) (c : Nat) (v : Value) (W : World) : Prop :=
  ∃ E g, v = .pointer (some ⟨E, 0, none⟩) ∧ Below w.heap.size w W ∧ Row W w.heap.size 61 #[.int .i64 p, .slice A m c] ∧ Row W (w.heap.size + 1) 61 #[.int .i64 0, .slice none 0 0] ∧
    w.heap.size + 1 < E ∧ w.heap.size + 1 < g ∧ ElimAt E g E p m (m + m) (augF m f) false W

theorem ElimAt.of_fill {E g0 : Nat} {p : Int} {m n : Nat} {F : Nat → Nat → Int} {W : World} (hF : FillG g0 m (fun _ => n) F m W) (hE : Row W E 139 #[.int .i64 p, .slice (some ⟨g0, 0, none⟩) m m, .bool false]) (hlt : E < g0) : ElimAt E g0 E p m n F false W := by
  obtain ⟨_, r, hr, hv⟩ := hF
  rw [part_all] at hr
  exact ⟨by omega, ⟨m, Nat.le_refl _, hE⟩, r, _, hr, fun i hi => CTab_get _ _ i hi, fun i hi => (hv i hi).more fun b h => ⟨h.2, by have := h.1; omega, by have := h.1; omega, by have := h.1; omega⟩⟩
theorem ElimAt.of_new {g0 : Nat} {p : Int} {m n : Nat} {F : Nat → Nat → Int} {W : World} (hF : FillG g0 m (fun _ => n) F m W) :
    ElimAt W.heap.size g0 W.heap.size p m n F false (W.alloc (.cells #[.int .i64 p, .slice (some ⟨g0, 0, none⟩) m m, .bool false] 139)) := by
  have hlt := hF.lt
  obtain ⟨_, r, hr, hv⟩ := hF
  rw [part_all] at hr
  have hb : Below W.heap.size W (W.alloc (.cells #[.int .i64 p, .slice (some ⟨g0, 0, none⟩) m m, .bool false] 139)) := (Below.refl _ _).alloc (Nat.le_refl _) _
  exact ⟨by omega, ⟨m, Nat.le_refl _, row_new rfl _ _⟩, r, _, hr.alloc _, fun i hi => CTab_get _ _ i hi, fun i hi => ((hv i hi).below (fun _ h => h.2) hb).more fun b h => ⟨by have := h.2; simp; omega, by have := h.2; omega, by have := h.1; omega, by have := h.2; omega⟩⟩
/-- Three stores into an elder block. -/
theorem elim_store {E g0 : Nat} {p : Int} {m n : Nat} {F : Nat → Nat → Int} {W : World} (hF : FillG g0 m (fun _ => n) F m W) (hE : Row W E 139 #[.int .i64 0, .slice none 0 0, .bool false]) (hlt : E < g0) :
    ElimAt E g0 E p m n F false (((W.setCell ⟨E, 0, none⟩ (.int .i64 p)).setCell ⟨E, 1, none⟩ (.slice (some ⟨g0, 0, none⟩) m m)).setCell ⟨E, 2, none⟩ (.bool false)) :=
  ElimAt.of_fill (((hF.far (p := ⟨E, 0, none⟩) hlt _).far (p := ⟨E, 1, none⟩) hlt _).far (p := ⟨E, 2, none⟩) hlt _) (((hE.set 0 _).set 1 _).set 2 _) hlt
theorem below3 {B E : Nat} {w W : World} (h : Below B w W) (hE : B ≤ E) (x y z : Value) : Below B w (((W.setCell ⟨E, 0, none⟩ x).setCell ⟨E, 1, none⟩ y).setCell ⟨E, 2, none⟩ z) :=
  ((h.setCell (p := ⟨E, 0, none⟩) hE x).setCell (p := ⟨E, 1, none⟩) hE y).setCell (p := ⟨E, 2, none⟩) hE z
/-- The inverse, by elimination. -/
def invF (p : Int) (m : Nat) (f : Nat → Nat → Int) (i j : Nat) : Int :=
  match elimTo p m (augF m f) m with
  | some s => s.1 i (m + j)
  | none => 0
/-- What Inv of a square matrix returns. -/
def InvPost (p : Int) (m : Nat) (f : Nat → Nat → Int) (w : World) (e : Ending) (w' : World) : Prop :=
  (detV p m (augF m f) = 0 → BadM w 15 e w') ∧ (detV p m (augF m f) ≠ 0 → OkM w p m m (invF p m f) e w')
theorem run_rows (x : Value) (A : Option Addr) (n c : Nat) (W : World) : (Instr.field 61 (.agg #[x, .slice A n c]) 1).run Try.prog W = .ok (.slice A n c) W := by kernel_rfl

set_option maxRecDepth 100000 in
set_option maxHeartbeats 4000000 in
theorem Inv_go (ra : Value) (m : Nat) (f : Nat → Nat → Int) (p : Int) (w : World) (hm0 : 1 ≤ m) (hm : m ≤ 64) (hp : P6 p.toNat) (hp0 : 2 ≤ p) (hp1 : p ≤ 10000) (ha : Grid w (· < w.heap.size) ra m (fun _ => m) f) (hf : InG p m m f)
    (hck : ∀ W, Grid W (· < W.heap.size) ra m (fun _ => m) f → Calls Try.prog 112 #[.agg #[.int .i64 p, ra]] W (Ret W (.int .i64 0))) :
    Calls Try.prog 54 #[.agg #[.int .i64 p, ra]] w (InvPost p m f w) := by
  have hfld := run_rows
  have HC := fun W h => Lib.hid (hck W h)
  obtain ⟨A, c, rfl, hcm⟩ := ha.form
  have HX2 := Lib.hid (box2 w #[.int .i64 p, .slice A m c])
  have HA := Lib.hid ha
  have HF := Lib.hid hf
  clear ha hf hck
  go_enter Try.func54, Try.ntmps54
  go_wp2_with fail
  generalize (w.alloc (.cells #[.int .i64 p, .slice A m c] 61)).alloc (.cells #[.int .i64 0, .slice none 0 0] 61) = w3 at HX2
  refine (HC _ (HA.out.on HX2.out.be)).out.mono ?_
  rintro e w4 ⟨rfl, hb4⟩
  obtain ⟨j1, j2, j3⟩ := HX2.out.on hb4
  have HJ1 := Lib.hid j1
  have HJ2 := Lib.hid j2
  have HJ3 := Lib.hid j3
  have c0 := j2.cell (i := 0) rfl
  have c1 := j2.cell (i := 1) rfl
  clear j1 j2 j3 hb4
  have hlt4 : w.heap.size + 1 < w4.heap.size := HJ3.out.lt
  have HKB := Lib.hid (fun (W : World) (hb : Below w4.heap.size w4 W) => (show W.cell? ⟨w.heap.size, 0, none⟩ = some (.int .i64 p) ∧ W.cell? ⟨w.heap.size, 1, none⟩ = some (.slice A m c) from ⟨(HJ2.out.below hb HJ2.out.lt).cell rfl, (HJ2.out.below hb HJ2.out.lt).cell rfl⟩))
  have HKS := Lib.hid (fun (W : World) (e : Nat) (x y z : Value) (he : w4.heap.size ≤ e) (h : W.cell? ⟨w.heap.size, 0, none⟩ = some (.int .i64 p) ∧ W.cell? ⟨w.heap.size, 1, none⟩ = some (.slice A m c)) => (show (((W.setCell ⟨e, 0, none⟩ x).setCell ⟨e, 1, none⟩ y).setCell ⟨e, 2, none⟩ z).cell? ⟨w.heap.size, 0, none⟩ = some (.int .i64 p) ∧ (((W.setCell ⟨e, 0, none⟩ x).setCell ⟨e, 1, none⟩ y).setCell ⟨e, 2, none⟩ z).cell? ⟨w.heap.size, 1, none⟩ = some (.slice A m c) from by
    refine ⟨?_, ?_⟩
    · rw [World.cell?_setCell_far _ _ _ _ (show e ≠ w.heap.size by omega), World.cell?_setCell_far _ _ _ _ (show e ≠ w.heap.size by omega), World.cell?_setCell_far _ _ _ _ (show e ≠ w.heap.size by omega)]; exact h.1
    · rw [World.cell?_setCell_far _ _ _ _ (show e ≠ w.heap.size by omega), World.cell?_setCell_far _ _ _ _ (show e ≠ w.heap.size by omega), World.cell?_setCell_far _ _ _ _ (show e ≠ w.heap.size by omega)]; exact h.2))
  have HBa := Lib.hid (show Below w4.heap.size w4 w4.drew from below_drew (Below.refl _ _))
  have HBb := Lib.hid (show Below w4.heap.size w4 (w4.drew.alloc (.cells #[.int .i64 0, .slice none 0 0, .bool false] 139)) from below_alloc HBa.out (Nat.le_refl _) _)
  have HBc := Lib.hid (show Below w4.heap.size w4 (w4.alloc (.cells #[.int .i64 0, .slice none 0 0, .bool false] 139)).drew from HBb.out)
  have HTa := Lib.hid (fun (W : World) (h : Below w4.drew.heap.size w4.drew W) => (show Below w4.heap.size w4 W from HBa.out.trans h))
  have HZ := Lib.hid (row_new (W := w4.drew) (g := w4.heap.size) rfl 139 #[.int .i64 0, .slice none 0 0, .bool false])
  have HTb := Lib.hid (fun (W : World) (h : Below (w4.drew.alloc (.cells #[.int .i64 0, .slice none 0 0, .bool false] 139)).heap.size (w4.drew.alloc (.cells #[.int .i64 0, .slice none 0 0, .bool false] 139)) W) => (show Below w4.heap.size w4 W ∧ Row W w4.heap.size 139 #[.int .i64 0, .slice none 0 0, .bool false] from ⟨HBb.out.trans (h.mono HBb.out.size), Row.below HZ.out h HZ.out.lt⟩))
  have HTc := Lib.hid (fun (W : World) (h : Below (w4.alloc (.cells #[.int .i64 0, .slice none 0 0, .bool false] 139)).drew.heap.size (w4.alloc (.cells #[.int .i64 0, .slice none 0 0, .bool false] 139)).drew W) => (show Below w4.heap.size w4 W ∧ Row W w4.heap.size 139 #[.int .i64 0, .slice none 0 0, .bool false] from HTb.out W h))
  have HKa := Lib.hid (show w4.drew.cell? ⟨w.heap.size, 0, none⟩ = some (.int .i64 p) ∧ w4.drew.cell? ⟨w.heap.size, 1, none⟩ = some (.slice A m c) from HKB.out _ HBa.out)
  have HKb := Lib.hid (show (w4.drew.alloc (.cells #[.int .i64 0, .slice none 0 0, .bool false] 139)).cell? ⟨w.heap.size, 0, none⟩ = some (.int .i64 p) ∧ (w4.drew.alloc (.cells #[.int .i64 0, .slice none 0 0, .bool false] 139)).cell? ⟨w.heap.size, 1, none⟩ = some (.slice A m c) from HKB.out _ HBb.out)
  have HKc := Lib.hid (show (w4.alloc (.cells #[.int .i64 0, .slice none 0 0, .bool false] 139)).drew.cell? ⟨w.heap.size, 0, none⟩ = some (.int .i64 p) ∧ (w4.alloc (.cells #[.int .i64 0, .slice none 0 0, .bool false] 139)).drew.cell? ⟨w.heap.size, 1, none⟩ = some (.slice A m c) from HKb.out)
  have HONE := Lib.hid (fun W => one_any m p W (by omega))
  have HCOMB := Lib.hid (fun (W : World) (v : Value) (hb : Below w4.heap.size w4 W) (hg : Grid W (· < W.heap.size) v m (fun _ => m) oneF) => combine_cat (.slice A m c) v m m m f oneF W (by omega) (by omega) hm0 (by omega) hm0 (HA.out.on (HJ1.out.trans (hb.mono HJ1.out.size))) hg)
  have HAL := Lib.hid (fun (W : World) (hb : Below w4.heap.size w4 W) => (show Below w4.heap.size w4 (W.alloc (.cells #[.int .i64 0, .slice none 0 0, .bool false] 139)) from below_alloc hb (Nat.le_refl _) _))
  have HGL := Lib.hid (fun (W : World) (v : Value) (hg : Grid W (· < W.heap.size) v m (fun _ => m) oneF) => (show Grid (W.alloc (.cells #[.int .i64 0, .slice none 0 0, .bool false] 139)) (· < (W.alloc (.cells #[.int .i64 0, .slice none 0 0, .bool false] 139)).heap.size) v m (fun _ => m) oneF from hg.on ((Below.refl _ _).alloc (Nat.le_refl _) _)))
  have HT2 := Lib.hid (fun (W W' : World) (h : Below w4.heap.size w4 W) (k : Below W.heap.size W W') => (show Below w4.heap.size w4 W' from h.trans (k.mono h.size)))
  have HTE := Lib.hid (fun (W W' : World) (h : Row W w4.heap.size 139 #[.int .i64 0, .slice none 0 0, .bool false]) (k : Below W.heap.size W W') => (show Row W' w4.heap.size 139 #[.int .i64 0, .slice none 0 0, .bool false] from Row.below h k h.lt))
  have HTF := Lib.hid (fun (W W' : World) (k : Below (W.alloc (.cells #[.int .i64 0, .slice none 0 0, .bool false] 139)).heap.size (W.alloc (.cells #[.int .i64 0, .slice none 0 0, .bool false] 139)) W') => (show Row W' W.heap.size 139 #[.int .i64 0, .slice none 0 0, .bool false] from Row.below (row_new rfl _ _) k (by simp)))
  go_upto_region 6 with (fail)
  go_cut [7] from 20 to 31 (fun s7 wx => InvMid w p m f A c s7 wx)
  case first =>
    go_region_held3 (fun W => W.cell? ⟨w.heap.size, 0, none⟩ = some (.int .i64 p) ∧ W.cell? ⟨w.heap.size, 1, none⟩ = some (.slice A m c))
      ((first | assumption | (with_reducible exact HKa.out) | (with_reducible exact HKb.out) | (with_reducible exact HKc.out) | (with_reducible exact HKS.out _ _ _ _ _ (by first | exact Nat.le_refl _ | assumption) (by assumption)) | (with_reducible exact HKB.out _ (below_alloc (by assumption) (Nat.le_refl _) _))))
      (first
        | (go_at_call 119; (with_reducible refine (HONE.out _).mono ?_); rintro e w' ⟨r1, rfl, hg1, hb1⟩; obtain ⟨A1, c1, rfl, _⟩ := hg1.form; have hgg := hg1.new_lt; first | (have hb4 := HTa.out _ hb1; have hk1 := HKB.out _ hb4; have hs4 := hb4.size) | (have hbE := HTb.out _ hb1; have hb4 := hbE.1; have hk1 := HKB.out _ hb4; have hs4 := hb4.size) | (have hbE := HTc.out _ hb1; have hb4 := hbE.1; have hk1 := HKB.out _ hb4; have hs4 := hb4.size))
        | (go_at_call 107; (with_reducible refine (HCOMB.out _ _ (by first | with_reducible exact hb4 | with_reducible exact HAL.out _ hb4) (by first | with_reducible exact hgg | with_reducible exact HGL.out _ _ hgg)).mono ?_); rintro e w'' ⟨g2, rfl, hgl2, hg2, hb2⟩; first | (have hbw := HT2.out _ _ hb4 hb2; have hk2 := HKB.out _ hbw; (try (have hE2 := HTE.out _ _ hbE.2 hb2; have x0 := hE2.cell (i := 0) rfl; have x1 := hE2.cell (i := 1) rfl; have x2 := hE2.cell (i := 2) rfl; have y0 := hE2.frozen 0; have y1 := hE2.frozen 1; have y2 := hE2.frozen 2))) | (have hbw := HT2.out _ _ (HAL.out _ hb4) hb2; have hk2 := HKB.out _ hbw; have hE2 := HTF.out _ _ hb2; have x0 := hE2.cell (i := 0) rfl; have x1 := hE2.cell (i := 1) rfl; have x2 := hE2.cell (i := 2) rfl; have y0 := hE2.frozen 0; have y1 := hE2.frozen 1; have y2 := hE2.frozen 2)))
    · have hb9 := below_alloc (o := .cells #[.int .i64 p, .slice (some ⟨g2, 0, none⟩) m m, .bool false] 139) hbw (Nat.le_refl _)
      have HM := Lib.hid (show InvMid w p m f A c (.pointer (some ⟨w''.heap.size, 0, none⟩)) _ from ⟨w''.heap.size, g2, rfl, HJ1.out.trans (hb9.mono HJ1.out.size), HJ2.out.below hb9 HJ2.out.lt, HJ3.out.below hb9 HJ3.out.lt, by have := hbw.size; omega, by have := hb4.size; omega, ElimAt.of_new hg2⟩)
      go_wp2_with fail
      go_meet
      exact HM.out
    · have hgl3 : w'.heap.size < g2 := by simp at hgl2; omega
      have hb9 := below3 hbw (E := w'.heap.size) hb4.size (.int .i64 p) (.slice (some ⟨g2, 0, none⟩) m m) (.bool false)
      have HM := Lib.hid (show InvMid w p m f A c (.pointer (some ⟨w'.heap.size, 0, none⟩)) _ from ⟨w'.heap.size, g2, rfl, HJ1.out.trans (hb9.mono HJ1.out.size), HJ2.out.below hb9 HJ2.out.lt, HJ3.out.below hb9 HJ3.out.lt, by have := hb4.size; omega, by have := hb4.size; omega, elim_store hg2 hE2 hgl3⟩)
      go_wp2_with fail
      go_meet
      exact HM.out
    · have hgl3 : w4.heap.size < g2 := by have := hbE.2.lt; omega
      have hb9 := below3 hbw (E := w4.heap.size) (Nat.le_refl _) (.int .i64 p) (.slice (some ⟨g2, 0, none⟩) m m) (.bool false)
      have HM := Lib.hid (show InvMid w p m f A c (.pointer (some ⟨w4.heap.size, 0, none⟩)) _ from ⟨w4.heap.size, g2, rfl, HJ1.out.trans (hb9.mono HJ1.out.size), HJ2.out.below hb9 HJ2.out.lt, HJ3.out.below hb9 HJ3.out.lt, by omega, by omega, elim_store hg2 hE2 hgl3⟩)
      go_wp2_with fail
      go_meet
      exact HM.out
  case rest =>
    clear HKB HKS HBa HBb HBc HTa HZ HTb HTc HKa HKb HKc HONE HCOMB HAL HGL HT2 HTE HTF hlt4 HJ1 HJ2 HJ3 c0 c1 HX2 HC hfld
    obtain ⟨E, g, rfl, hb, ha, hr, hE, hg, hel⟩ := hcut
    have hlt2 := hel.lt
    have HRUN := Lib.hid (run_any E g p m (m + m) (augF m f) wc (by omega) (by omega) (by omega) hp hp0 hp1 hel (augF_in hp0 HF.out))
    have HBW := Lib.hid hb
    have HRA := Lib.hid ha
    have HRR := Lib.hid hr
    clear hb ha hr hel
    go_wp2_with fail
    refine HRUN.out.mono ?_
    rintro e w5 ⟨rfl, hk, hel⟩
    have hB5 := Kept2.below HBW.out hk HBW.out.size (by omega) (by omega)
    have hra5 := hk.row HRA.out (by omega) (by omega)
    have hrr5 := hk.row HRR.out (by omega) (by omega)
    have HB5 := Lib.hid hB5
    have HRA5 := Lib.hid hra5
    have HRR5 := Lib.hid hrr5
    have HEL := Lib.hid hel
    have hsz5 := hk.size
    clear hk hB5 hra5 hrr5 hel HRUN HRA HRR HBW
    by_cases hdet : detV p m (augF m f) = 0
    · have HPO := Lib.hid (fun (e : Ending) (w' : World) (h : BadM w 15 e w') => (show InvPost p m f w e w' from ⟨fun _ => h, fun h => absurd hdet h⟩))
      rw [hdet]
      have HE := Lib.hid (end_bad HRR5.out HB5.out (B := w.heap.size) (by omega))
      have d0 := HRR5.out.cell (i := 0) rfl
      have d1 := HRR5.out.cell (i := 1) rfl
      have f0 := HRR5.out.frozen 0
      have f1 := HRR5.out.frozen 1
      clear hdet
      go_wp2
      obtain ⟨k3, k2⟩ := HE.out
      have hc0 := k3.cell (i := 0) rfl
      have hc1 := k3.cell (i := 1) rfl
      refine bodyPost_ret (v := .tuple #[.agg #[.int .i64 0, .slice none 0 0], .int .i64 15]) ?_ rfl (HPO.out _ _ ⟨rfl, k2⟩)
      simp [results, Try.results54, go_sem, hc0, hc1]
    · have hdb : (detV p m (augF m f) == 0) = false := by simpa using hdet
      obtain ⟨s, hs⟩ : ∃ s, elimTo p m (augF m f) m = some s := by
        cases h : elimTo p m (augF m f) m with
        | none => exact absurd (by unfold detV; rw [h]) hdet
        | some s => exact ⟨s, rfl⟩
      have hinv : invF p m f = fun i j => s.1 i (m + j) := by funext i j; unfold invF; rw [hs]
      have HPO := Lib.hid (fun (e : Ending) (w' : World) (h : OkM w p m m (invF p m f) e w') => (show InvPost p m f w e w' from ⟨fun h => absurd h hdet, fun _ => h⟩))
      rw [hinv] at HPO
      have hel := HEL.out s hs
      generalize detV p m (augF m f) = dv at hdb
      obtain ⟨G, odd, d9⟩ := s
      have hel2 : ElimAt E g E p m (m + m) G odd w5 := hel
      have HEL2 := Lib.hid hel2
      obtain ⟨cg, hcg, e0, e1, e2, -, -, RA, RC, hrows⟩ := hel2.at_
      have HROWS := Lib.hid hrows
      have hmk := fun W => make_rows m (by omega) W
      have H0 := Lib.hid (FillG.start (fun _ => m) (fun i j => G i (m + j)) (row_new (W := w5) rfl 28 (CTab m fun _ => .slice none 0 0)))
      have HB0 := Lib.hid ((Below.refl w5.heap.size w5).alloc (Nat.le_refl _) (.cells (CTab m fun _ => .slice none 0 0) 28))
      have e1' : (w5.alloc (.cells (CTab m fun _ => .slice none 0 0) 28)).cell? ⟨E, 1, none⟩ = some (.slice (some ⟨g, 0, none⟩) m cg) := (HB0.out.cell (p := ⟨E, 1, none⟩) (show E < w5.heap.size from hel2.lt.1)).trans e1
      have hElt := hel2.lt
      have hcut := fun i => run_cutL (RA i) (m + m) (RC i) m (by omega)
      clear hel hel2 hrows HEL hdet hs hinv
      go_wp2
      go_loopw [40] (fun i wr => ∃ t : Nat, i = .int .i64 t ∧ Below w5.heap.size w5 wr ∧ FillG w5.heap.size m (fun _ => m) (fun i j => G i (m + j)) t wr) (fun i _ => m - (intOf i).toNat)
      case atStart => exact ⟨0, rfl, HB0.out, H0.out⟩
      case round =>
        obtain ⟨t, rfl, hB, hF⟩ := hrel
        have ht := hF.1
        have hz := hB.size
        have hBw := HB5.out.trans (hB.mono HB5.out.size)
        have hra := HRA5.out.below hB HRA5.out.lt
        have hrr := HRR5.out.below hB HRR5.out.lt
        have c0 := hra.cell (i := 0) rfl
        by_cases hlt : t < m
        · obtain ⟨h1, h2⟩ := HROWS.out t hlt
          have hak : wr.cell? ⟨g, t, none⟩ = some (.slice (RA t) (m + m) (RC t)) := (hB.cell (p := ⟨g, t, none⟩) hElt.2).trans h1
          obtain ⟨_, _, er, hrc⟩ := h2.form
          cases er
          obtain ⟨A', hrun, hcv⟩ := cut_suf (h2.below (fun b h => h.1) hB) (k := m) (by omega)
          rw [Nat.add_sub_cancel] at hrun hcv
          have HCC := Lib.hid (cloneInts_any (.slice A' m (RC t - m)) m (fun j => G t (m + j)) (OffE E g E w5) wr (fun b h => Nat.lt_of_lt_of_le h.1 hz) hm0 (by omega) hcv)
          have HFl := Lib.hid hF
          have HBr := Lib.hid hB
          have hmm : (m : Int) ≤ ((m + m : Nat) : Int) := by omega
          clear h1 h2 hB hF hBw hra hrr hcv
          go_wp2_with fail
          refine HCC.out.mono ?_
          rintro e w' ⟨r, rfl, hV, hBn⟩
          obtain ⟨A2, c2, rfl, _⟩ := hV.form
          have hF' := HFl.out.on hBn
          obtain ⟨⟨u, hct⟩, hft⟩ := hF'.put hlt
          have HS := Lib.hid (hF'.step hlt (hV.more fun b h => ⟨by have := h.1; have := HFl.out.lt; omega, h.2⟩))
          have HB2 := Lib.hid ((HBr.out.trans (hBn.mono hz)).setCell (p := ⟨w5.heap.size, t, none⟩) (Nat.le_refl _) (.slice A2 m c2))
          clear hV hBn hF' HFl HBr HCC
          go_wp2
          go_roundw
          case rel => exact ⟨t + 1, by go_num, HB2.out, HS.out⟩
          case measure => simp [intOf]; omega
        · have e : t = m := by omega
          subst e
          have HE := Lib.hid (end_ok hrr hBw (by omega) (by omega) hF p)
          have d0 := hrr.cell (i := 0) rfl
          have d1 := hrr.cell (i := 1) rfl
          have f0 := hrr.frozen 0
          have f1 := hrr.frozen 1
          clear hra hrr hB hF hBw
          go_wp2
          obtain ⟨k3, k2, k1⟩ := HE.out
          have hc0 := k3.cell (i := 0) rfl
          have hc1 := k3.cell (i := 1) rfl
          refine bodyPost_ret (v := .tuple #[.agg #[.int .i64 p, .slice (some ⟨w5.heap.size, 0, none⟩) t t], .int .i64 0]) ?_ rfl (HPO.out _ _ ⟨_, rfl, k1, k2⟩)
          simp [results, Try.results54, go_sem, hc0, hc1]
end Go.Proofs.Ytokiejichnnmnaa
