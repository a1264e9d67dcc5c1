/- matrix.Det. -/
import Derived.Test.YtokiejichnnmnaaMDet
namespace Go.Proofs.Ytokiejichnnmnaa
open Go Go.RowKit Num

set_option maxRecDepth 100000 in
set_option maxHeartbeats 1000000 in
theorem Det_any (ra : Value) (m : Nat) (n : Nat → Nat) (f : Nat → Nat → Int) (p : Int) (w : World) (hm : m ≤ 1000000) (hn : ∀ i, i < m → n i ≤ 1000000) (ha : Grid w (· < w.heap.size) ra m n f) (x : Int) (hx : x = chkS (chkM p m n f) m (n 0)) :
    Calls Try.prog 62 #[.agg #[.int .i64 p, ra]] w fun e w' => e = .returned (.tuple #[.int .i64 (if x = 0 then detV p m f else 0), .int .i64 x]) ∧ Below w.heap.size w w' := by
  have HC := fun W h => Lib.hid (checkSquare_any ra m n f p W hm hn h)
  rw [← hx] at HC
  have HA := Lib.hid ha
  obtain ⟨A, c, rfl, hcm⟩ := ha.form
  have hbx := row_new (W := w) rfl 61 #[.int .i64 p, .slice A m c]
  have hB1 : Below w.heap.size w (w.alloc (.cells #[.int .i64 p, .slice A m c] 61)) := (Below.refl _ _).alloc (Nat.le_refl _) _
  have HBX := Lib.hid hbx
  have HB1 := Lib.hid hB1
  by_cases hx0 : x = 0
  · subst hx0
    obtain ⟨h1, h2⟩ := chkS_zero hx.symm
    obtain ⟨hmod, g1, g2, g3, g4, g5⟩ := chkM_zero h1
    obtain ⟨hp2, hp4, hp6⟩ := modB_true hmod
    have HD := fun W h => Lib.hid (det_any (.slice A m c) m f p W g1 (by omega) hp6 hp2 (by omega) h (fun i hi => by have := (g5 i hi).2; rw [(g5 i hi).1, ← h2] at this; exact this))
    have HA2 := Lib.hid (grid_reg HA.out (fun i hi => ((g5 i hi).1).trans h2.symm))
    rw [if_pos rfl]
    generalize detV p m f = dv at HD ⊢
    clear ha hn g5 hmod hbx hB1 h1 hx h2
    go_enter Try.func62, Try.ntmps62
    go_wp2_with fail
    refine (HC _ (HA.out.on HB1.out)).out.mono ?_
    rintro e w4 ⟨rfl, hb4⟩
    have HB4 := Lib.hid (HB1.out.trans (hb4.mono HB1.out.size))
    have hr := HBX.out.below hb4 HBX.out.lt
    have c0 := hr.cell (i := 0) rfl
    have c1 := hr.cell (i := 1) rfl
    clear hb4 hr
    go_wp2_with fail
    refine (HD _ (HA2.out.on HB4.out)).out.mono ?_
    rintro e w5 ⟨rfl, hb5⟩
    have HB5 := Lib.hid (HB4.out.trans (hb5.mono HB4.out.size))
    clear hb5
    go_wp2
    go_ret2
    exact ⟨rfl, HB5.out⟩
  · have hd2 : (x != 0) = true := by simpa using hx0
    rw [if_neg hx0]
    clear ha hn hbx hB1 hx hx0
    go_enter Try.func62, Try.ntmps62
    go_wp2_with fail
    refine (HC _ (HA.out.on HB1.out)).out.mono ?_
    rintro e w4 ⟨rfl, hb4⟩
    have HB4 := Lib.hid (HB1.out.trans (hb4.mono HB1.out.size))
    clear hb4
    go_wp2
    go_ret2
    exact ⟨rfl, HB4.out⟩
end Go.Proofs.Ytokiejichnnmnaa
