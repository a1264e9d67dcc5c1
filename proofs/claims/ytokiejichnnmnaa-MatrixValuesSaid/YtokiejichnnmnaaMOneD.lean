/- matrix.One. -/
import Derived.Test.YtokiejichnnmnaaMInvD
import Derived.Test.YtokiejichnnmnaaMOne
namespace Go.Proofs.Ytokiejichnnmnaa
open Go Go.RowKit Num

/-- What One returns. -/
def OneP (x : Int) (n : Int) (p : Int) (w : World) (e : Ending) (w' : World) : Prop := (x ≠ 0 → BadM w x e w') ∧ (x = 0 → OkM w p n.toNat n.toNat oneF e w')
noncomputable def chk1 (n p : Int) : Int := if modB p = false then 3 else if sizeB n = false then 2 else 0

set_option maxRecDepth 100000 in
set_option maxHeartbeats 1000000 in
theorem One_any (n p : Int) (w : World) : Calls Try.prog 59 #[.int .i64 n, .int .i64 p] w (OneP (chk1 n p) n p w) := by
  have HM := fun W => Lib.hid (isModulus_any p W)
  have HS := fun W => Lib.hid (isSize_any n W)
  have HR := Lib.hid (row_new (W := w) rfl 61 #[.int .i64 0, .slice none 0 0])
  have HB := Lib.hid ((Below.refl w.heap.size w).alloc (Nat.le_refl _) (.cells #[.int .i64 0, .slice none 0 0] 61))
  have d0 := HR.out.cell (i := 0) rfl
  have d1 := HR.out.cell (i := 1) rfl
  have f0 := HR.out.frozen 0
  have f1 := HR.out.frozen 1
  by_cases hm : modB p = false
  · have HPO := Lib.hid (fun (e : Ending) (w' : World) (h : BadM w 3 e w') => (show OneP (chk1 n p) n p w e w' from by unfold chk1; rw [if_pos hm]; exact ⟨fun _ => h, fun h => absurd h (by decide)⟩))
    generalize OneP (chk1 n p) n p w = PP at HPO ⊢
    rw [hm] at HM
    clear hm
    go_enter Try.func59, Try.ntmps59
    go_wp2_with fail
    refine (HM _).out.mono ?_
    rintro e w2 ⟨rfl, rfl⟩
    go_wp2_with fail
    have hc0 := HR.out.cell (i := 0) rfl
    have hc1 := HR.out.cell (i := 1) rfl
    refine bodyPost_ret (v := .tuple #[.agg #[.int .i64 0, .slice none 0 0], .int .i64 3]) ?_ rfl (HPO.out _ _ ⟨rfl, HB.out⟩)
    simp [results, Try.results59, go_sem, hc0, hc1]
  · have hm' : modB p = true := by simpa using hm
    rw [hm'] at HM
    by_cases hs : sizeB n = false
    · have HPO := Lib.hid (fun (e : Ending) (w' : World) (h : BadM w 2 e w') => (show OneP (chk1 n p) n p w e w' from by unfold chk1; rw [if_neg hm, if_pos hs]; exact ⟨fun _ => h, fun h => absurd h (by decide)⟩))
      generalize OneP (chk1 n p) n p w = PP at HPO ⊢
      rw [hs] at HS
      clear hm hm' hs
      go_enter Try.func59, Try.ntmps59
      go_wp2_with fail
      refine (HM _).out.mono ?_
      rintro e w2 ⟨rfl, rfl⟩
      go_wp2_with fail
      refine (HS _).out.mono ?_
      rintro e w2 ⟨rfl, rfl⟩
      go_wp2_with fail
      have hc0 := HR.out.cell (i := 0) rfl
      have hc1 := HR.out.cell (i := 1) rfl
      refine bodyPost_ret (v := .tuple #[.agg #[.int .i64 0, .slice none 0 0], .int .i64 2]) ?_ rfl (HPO.out _ _ ⟨rfl, HB.out⟩)
      simp [results, Try.results59, go_sem, hc0, hc1]
    · have hs' : sizeB n = true := by simpa using hs
      have hsz : 1 ≤ n ∧ n ≤ 64 := by unfold sizeB at hs'; simpa using hs'
      have HPO := Lib.hid (fun (e : Ending) (w' : World) (h : OkM w p n.toNat n.toNat oneF e w') => (show OneP (chk1 n p) n p w e w' from by unfold chk1; rw [if_neg hm, if_neg hs]; exact ⟨fun h => absurd rfl h, fun _ => h⟩))
      generalize OneP (chk1 n p) n p w = PP at HPO ⊢
      rw [hs'] at HS
      obtain ⟨k, rfl⟩ : ∃ k : Nat, n = k := ⟨n.toNat, by omega⟩
      rw [Int.toNat_natCast] at HPO
      have HO := fun W => Lib.hid (one_any k p W (by omega))
      clear hm hm' hs hs'
      go_enter Try.func59, Try.ntmps59
      go_wp2_with fail
      refine (HM _).out.mono ?_
      rintro e w2 ⟨rfl, rfl⟩
      go_wp2_with fail
      refine (HS _).out.mono ?_
      rintro e w2 ⟨rfl, rfl⟩
      go_wp2_with fail
      refine (HO _).out.mono ?_
      rintro e w2 ⟨r, rfl, hg, hb⟩
      obtain ⟨A, c, rfl, -⟩ := hg.form
      have j := Row.below HR.out hb HR.out.lt
      have x0 := j.cell (i := 0) rfl
      have x1 := j.cell (i := 1) rfl
      have y0 := j.frozen 0
      have j1 := j.set 0 (.int .i64 p)
      have y1 := j1.frozen 1
      have x2 := j1.cell (i := 1) rfl
      have hX := agg_res j (HB.out.trans (hb.mono HB.out.size)) (Nat.le_refl _) (.int .i64 p) (.slice A k c)
      have hlt := HR.out.lt
      have HG := Lib.hid (((hg.set (p := ⟨w.heap.size, 0, none⟩) (fun h => by have h1 : (w.alloc (.cells #[.int .i64 0, .slice none 0 0] 61)).heap.size ≤ w.heap.size := h.1; omega) (.int .i64 p)).set (p := ⟨w.heap.size, 1, none⟩) (fun h => by have h1 : (w.alloc (.cells #[.int .i64 0, .slice none 0 0] 61)).heap.size ≤ w.heap.size := h.1; omega) (.slice A k c)).more (S' := New w ((w2.setCell ⟨w.heap.size, 0, none⟩ (.int .i64 p)).setCell ⟨w.heap.size, 1, none⟩ (.slice A k c))) fun b h => ⟨by have h1 : (w.alloc (.cells #[.int .i64 0, .slice none 0 0] 61)).heap.size ≤ b := h.1; omega, by simp only [World.size_setCell]; exact h.2⟩)
      have HX := Lib.hid hX
      clear hX hg hb j j1 d0 d1 f0 f1
      go_wp2_with fail
      obtain ⟨k3, k2⟩ := HX.out
      have hc0 := k3.cell (i := 0) rfl
      have hc1 := k3.cell (i := 1) rfl
      refine bodyPost_ret (v := .tuple #[.agg #[.int .i64 p, .slice A k c], .int .i64 0]) ?_ rfl (HPO.out _ _ ⟨_, rfl, HG.out, k2⟩)
      simp [results, Try.results59, go_sem, hc0, hc1]
end Go.Proofs.Ytokiejichnnmnaa
