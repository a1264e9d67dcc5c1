/- matrix.Inv of every matrix. -/
import Derived.Test.YtokiejichnnmnaaMInv
import Derived.Test.YtokiejichnnmnaaMScale
namespace Go.Proofs.Ytokiejichnnmnaa
open Go Go.RowKit Num

/-- What Inv returns. -/
def InvP (x p : Int) (m : Nat) (f : Nat → Nat → Int) (w : World) (e : Ending) (w' : World) : Prop := (x ≠ 0 → BadM w x e w') ∧ (x = 0 → InvPost p m f w e w')

set_option maxRecDepth 100000 in
set_option maxHeartbeats 1000000 in
theorem Inv_any (ra : Value) (m : Nat) (n : Nat → Nat) (f : Nat → Nat → Int) (p : Int) (w : World) (hm : m ≤ 1000000) (hn : ∀ i, i < m → n i ≤ 1000000) (ha : Grid w (· < w.heap.size) ra m n f) (x : Int) (hx : x = chkS (chkM p m n f) m (n 0)) :
    Calls Try.prog 54 #[.agg #[.int .i64 p, ra]] w (InvP x p m f w) := by
  by_cases hx0 : x = 0
  · obtain ⟨h1, h2⟩ := chkS_zero (hx.symm.trans hx0)
    obtain ⟨hmod, g1, g2, g3, g4, g5⟩ := chkM_zero h1
    obtain ⟨hp2, hp4, hp6⟩ := modB_true hmod
    have hg := grid_reg ha (fun i hi => ((g5 i hi).1).trans h2.symm)
    have hgg : ∀ W, Grid W (· < W.heap.size) ra m (fun _ => m) f → Grid W (· < W.heap.size) ra m n f := fun W h => h.keep (fun _ h => h) (fun _ _ => rfl) (fun i hi => h2.trans (g5 i hi).1.symm) (fun _ _ _ _ => rfl)
    refine (Inv_go ra m f p w g1 (by omega) hp6 hp2 (by omega) hg (fun i hi => by have := (g5 i hi).2; rw [(g5 i hi).1, ← h2] at this; exact this) fun W h => ?_).mono fun e w' h => ⟨fun h' => absurd hx0 h', fun _ => h⟩
    have := checkSquare_any ra m n f p W hm hn (hgg W h)
    rw [← hx, hx0] at this
    exact this
  · have HC := fun W h => Lib.hid (checkSquare_any ra m n f p W hm hn h)
    rw [← hx] at HC
    have HA := Lib.hid ha
    obtain ⟨A, c, rfl, hcm⟩ := ha.form
    have HX2 := Lib.hid (box2 w #[.int .i64 p, .slice A m c])
    have hd2 : (x != 0) = true := by simpa using hx0
    have HPO := Lib.hid (fun (e : Ending) (w' : World) (h : BadM w x e w') => (show InvP x p m f w e w' from ⟨fun _ => h, fun h => absurd h hx0⟩))
    generalize InvP x p m f w = PP at HPO ⊢
    clear ha hn hx0 hx
    go_enter Try.func54, Try.ntmps54
    go_wp2_with fail
    generalize (w.alloc (.cells #[.int .i64 p, .slice A m c] 61)).alloc (.cells #[.int .i64 0, .slice none 0 0] 61) = w3 at HX2
    refine (HC _ (HA.out.on HX2.out.be)).out.mono ?_
    rintro e w4 ⟨rfl, hb4⟩
    obtain ⟨j1, j2, j3⟩ := HX2.out.on hb4
    have HE := Lib.hid (end_bad (w := w) j3 j1 (B := w.heap.size) (by omega))
    have d0 := j3.cell (i := 0) rfl
    have d1 := j3.cell (i := 1) rfl
    have f0 := j3.frozen 0
    have f1 := j3.frozen 1
    clear j1 j2 j3 hb4
    go_wp2_with fail
    obtain ⟨k3, k2⟩ := HE.out
    have hc0 := k3.cell (i := 0) rfl
    have hc1 := k3.cell (i := 1) rfl
    refine bodyPost_ret (v := .tuple #[.agg #[.int .i64 0, .slice none 0 0], .int .i64 x]) ?_ rfl (HPO.out _ _ ⟨rfl, k2⟩)
    simp [results, Try.results54, go_sem, hc0, hc1]
end Go.Proofs.Ytokiejichnnmnaa
