/- matrix.det, matrix.Det. -/
import Derived.Test.YtokiejichnnmnaaMClone
namespace Go.Proofs.Ytokiejichnnmnaa
open Go Go.RowKit Num

set_option maxRecDepth 100000 in
set_option maxHeartbeats 4000000 in
theorem det_any (ra : Value) (m : Nat) (f : Nat → Nat → Int) (p : Int) (w : World) (hm0 : 1 ≤ m) (hm : m ≤ 1000) (hp : P6 p.toNat) (hp0 : 2 ≤ p) (hp1 : p ≤ 10000) (ha : Grid w (· < w.heap.size) ra m (fun _ => m) f) (hf : InG p m m f) :
    Calls Try.prog 121 #[.agg #[.int .i64 p, ra]] w (Ret w (.int .i64 (detV p m f))) := by
  obtain ⟨bg, og, cg, RA, RC, rfl, hcg, hbg, hgc⟩ := ha.at_ (by omega)
  have hbx := row_new (W := w) rfl 61 #[.int .i64 p, .slice (some ⟨bg, og, none⟩) m cg]
  have hB1 : Below w.heap.size w (w.alloc (.cells #[.int .i64 p, .slice (some ⟨bg, og, none⟩) m cg] 61)) := (Below.refl _ _).alloc (Nat.le_refl _) _
  have HGC := Lib.hid hgc
  have HCL := Lib.hid (fun W (hb : Below w.heap.size w W) => cloneRows_any bg og cg m (fun i => .slice (RA i) m (RC i)) W hm0 (by omega) (fun i _ => rfl) (fun i hi => (hb.cell (p := ⟨bg, og + i, none⟩) hbg).trans (hgc i hi).1))
  have HRUN := Lib.hid (fun (W : World) (E g cap : Nat) (cs : Array Value) (hb : Below w.heap.size w W) (hE : w.heap.size ≤ E) (hg : w.heap.size ≤ g) (hne : E ≠ g) (hc : m ≤ cap) (he : Row W E 139 #[.int .i64 p, .slice (some ⟨g, 0, none⟩) m cap, .bool false]) (hr : Row W g 28 cs) (hcs : ∀ i, i < m → cs[i]? = some (.slice (RA i) m (RC i))) =>
    run_any E g p m m f W hm (Nat.le_refl _) hm hp hp0 hp1 ⟨hne, ⟨cap, hc, he⟩, fun i => .slice (RA i) m (RC i), cs, hr, hcs, fun i hi => ((hgc i hi).2.below (fun _ h => h) hb).more fun b h => ⟨by have := hb.size; have h' : b < w.heap.size := h; omega, by have h' : b < w.heap.size := h; omega, by have h' : b < w.heap.size := h; omega, by have h' : b < w.heap.size := h; omega⟩⟩ hf)
  have hsz : (w.alloc (.cells #[.int .i64 p, .slice (some ⟨bg, og, none⟩) m cg] 61)).heap.size = w.heap.size + 1 := by simp
  clear ha hgc hf
  go_enter Try.func121, Try.ntmps121
  go_wp2_with fail
  generalize w.alloc (.cells #[.int .i64 p, .slice (some ⟨bg, og, none⟩) m cg] 61) = w1 at hbx hB1 hsz
  have HKB := Lib.hid (fun (W : World) (hb : Below w1.heap.size w1 W) => (show W.cell? ⟨w.heap.size, 0, none⟩ = some (.int .i64 p) ∧ W.cell? ⟨w.heap.size, 1, none⟩ = some (.slice (some ⟨bg, og, none⟩) m cg) from
    ⟨(hbx.below hb hbx.lt).cell rfl, (hbx.below hb hbx.lt).cell rfl⟩))
  have HKS := Lib.hid (fun (W : World) (x y z : Value) (h : W.cell? ⟨w.heap.size, 0, none⟩ = some (.int .i64 p) ∧ W.cell? ⟨w.heap.size, 1, none⟩ = some (.slice (some ⟨bg, og, none⟩) m cg)) => (show (((W.setCell ⟨w.heap.size + 1, 0, none⟩ x).setCell ⟨w.heap.size + 1, 1, none⟩ y).setCell ⟨w.heap.size + 1, 2, none⟩ z).cell? ⟨w.heap.size, 0, none⟩ = some (.int .i64 p) ∧ (((W.setCell ⟨w.heap.size + 1, 0, none⟩ x).setCell ⟨w.heap.size + 1, 1, none⟩ y).setCell ⟨w.heap.size + 1, 2, none⟩ z).cell? ⟨w.heap.size, 1, none⟩ = some (.slice (some ⟨bg, og, none⟩) m cg) from by
    refine ⟨?_, ?_⟩
    · rw [World.cell?_setCell_far _ _ _ _ (show w.heap.size + 1 ≠ w.heap.size by omega), World.cell?_setCell_far _ _ _ _ (show w.heap.size + 1 ≠ w.heap.size by omega), World.cell?_setCell_far _ _ _ _ (show w.heap.size + 1 ≠ w.heap.size by omega)]; exact h.1
    · rw [World.cell?_setCell_far _ _ _ _ (show w.heap.size + 1 ≠ w.heap.size by omega), World.cell?_setCell_far _ _ _ _ (show w.heap.size + 1 ≠ w.heap.size by omega), World.cell?_setCell_far _ _ _ _ (show w.heap.size + 1 ≠ w.heap.size by omega)]; exact h.2))
  have HB1 := Lib.hid hB1
  have HZ := Lib.hid (row_new (W := w1.drew) (g := w.heap.size + 1) hsz 139 #[.int .i64 0, .slice none 0 0, .bool false])
  have hBz : Below w1.heap.size w1 (w1.drew.alloc (.cells #[.int .i64 0, .slice none 0 0, .bool false] 139)) := below_alloc (below_drew (Below.refl _ _)) (Nat.le_refl _) _
  have HBZ := Lib.hid hBz
  have hwz : w.heap.size ≤ w1.heap.size := by omega
  have HBa := Lib.hid (show Below w.heap.size w w1.drew from below_drew HB1.out)
  have HBb := Lib.hid (show Below w.heap.size w (w1.drew.alloc (.cells #[.int .i64 0, .slice none 0 0, .bool false] 139)) from HB1.out.trans (HBZ.out.mono hwz))
  have HBc := Lib.hid (show Below w.heap.size w (w1.alloc (.cells #[.int .i64 0, .slice none 0 0, .bool false] 139)).drew from HBb.out)
  have HTa := Lib.hid (fun (W : World) (h : Below w1.drew.heap.size w1.drew W) => (show Below w1.heap.size w1 W from (below_drew (Below.refl w1.heap.size w1)).trans h))
  have HTb := Lib.hid (fun (W : World) (h : Below (w1.drew.alloc (.cells #[.int .i64 0, .slice none 0 0, .bool false] 139)).heap.size (w1.drew.alloc (.cells #[.int .i64 0, .slice none 0 0, .bool false] 139)) W) => (show Below w1.heap.size w1 W ∧ Row W (w.heap.size + 1) 139 #[.int .i64 0, .slice none 0 0, .bool false] from ⟨HBZ.out.trans (h.mono HBZ.out.size), Row.below HZ.out h HZ.out.lt⟩))
  have HTc := Lib.hid (fun (W : World) (h : Below (w1.alloc (.cells #[.int .i64 0, .slice none 0 0, .bool false] 139)).drew.heap.size (w1.alloc (.cells #[.int .i64 0, .slice none 0 0, .bool false] 139)).drew W) => (show Below w1.heap.size w1 W ∧ Row W (w.heap.size + 1) 139 #[.int .i64 0, .slice none 0 0, .bool false] from HTb.out W h))
  have HKa := Lib.hid (show w1.drew.cell? ⟨w.heap.size, 0, none⟩ = some (.int .i64 p) ∧ w1.drew.cell? ⟨w.heap.size, 1, none⟩ = some (.slice (some ⟨bg, og, none⟩) m cg) from HKB.out _ (below_drew (Below.refl _ _)))
  have HKb := Lib.hid (show (w1.drew.alloc (.cells #[.int .i64 0, .slice none 0 0, .bool false] 139)).cell? ⟨w.heap.size, 0, none⟩ = some (.int .i64 p) ∧ (w1.drew.alloc (.cells #[.int .i64 0, .slice none 0 0, .bool false] 139)).cell? ⟨w.heap.size, 1, none⟩ = some (.slice (some ⟨bg, og, none⟩) m cg) from HKB.out _ HBZ.out)
  have HKc := Lib.hid (show (w1.alloc (.cells #[.int .i64 0, .slice none 0 0, .bool false] 139)).drew.cell? ⟨w.heap.size, 0, none⟩ = some (.int .i64 p) ∧ (w1.alloc (.cells #[.int .i64 0, .slice none 0 0, .bool false] 139)).drew.cell? ⟨w.heap.size, 1, none⟩ = some (.slice (some ⟨bg, og, none⟩) m cg) from HKb.out)
  clear hB1 hBz
  go_region_held3 (fun W => W.cell? ⟨w.heap.size, 0, none⟩ = some (.int .i64 p) ∧ W.cell? ⟨w.heap.size, 1, none⟩ = some (.slice (some ⟨bg, og, none⟩) m cg))
    ((first | assumption | (with_reducible exact HKS.out _ _ _ _ (by assumption)) | (with_reducible exact HKa.out) | (with_reducible exact HKb.out) | (with_reducible exact HKc.out) | (with_reducible exact HKB.out _ (below_alloc (by assumption) (Nat.le_refl _) _))))
    ((go_at_call 161; (with_reducible refine (HCL.out _ (by first | with_reducible exact HBa.out | with_reducible exact HBb.out | with_reducible exact HBc.out)).mono ?_); rintro e w' ⟨g, cap, cs, rfl, hg, hcap, hrow, hcs, hbn⟩; first | ((with_reducible have hbw := HTa.out _ hbn); have hk := HKB.out _ hbw) | ((with_reducible have hbw := HTb.out _ hbn); have hk := HKB.out _ hbw.1; have hE' := hbw.2; have x0 := hE'.cell (i := 0) rfl; have x1 := hE'.cell (i := 1) rfl; have x2 := hE'.cell (i := 2) rfl; have y0 := hE'.frozen 0; have y1 := hE'.frozen 1; have y2 := hE'.frozen 2)  | ((with_reducible have hbw := HTc.out _ hbn); have hk := HKB.out _ hbw.1; have hE' := hbw.2; have x0 := hE'.cell (i := 0) rfl; have x1 := hE'.cell (i := 1) rfl; have x2 := hE'.cell (i := 2) rfl; have y0 := hE'.frozen 0; have y1 := hE'.frozen 1; have y2 := hE'.frozen 2)))
  · have hs0 : w1.drew.heap.size = w1.heap.size := rfl
    have hb' : Below w.heap.size w w' := HB1.out.trans (hbw.mono (by omega))
    have hX := Lib.hid (HRUN.out (w'.alloc (.cells #[.int .i64 p, .slice (some ⟨g, 0, none⟩) m cap, .bool false] 139)) w'.heap.size g cap cs (below_alloc hb' (Nat.le_refl _) _) hb'.size (by omega) (by have := hrow.lt; omega) hcap (row_new rfl _ _) (hrow.alloc _) hcs)
    have HBX := Lib.hid (below_alloc hb' (Nat.le_refl _) (.cells #[.int .i64 p, .slice (some ⟨g, 0, none⟩) m cap, .bool false] 139))
    have hEs := hb'.size
    have hgs : w.heap.size ≤ g := by omega
    clear hb' hbw hrow hcs hbn hk
    go_wp2_with fail
    refine hX.out.mono ?_
    rintro e w9 ⟨rfl, hK, -⟩
    have HF := Lib.hid (Kept2.below HBX.out hK HBX.out.size hEs hgs)
    clear hK
    go_wp2
    go_ret
    exact ⟨rfl, HF.out⟩
  · have hb' : Below w.heap.size w w' := HB1.out.trans (hbw.1.mono (by omega))
    have hs0 : w1.drew.heap.size = w1.heap.size := rfl
    have hgE : w.heap.size + 1 < g := by simp at hg; omega
    have hx := (((hE'.set 0 (.int .i64 p)).set 1 (.slice (some ⟨g, 0, none⟩) m cap)).set 2 (.bool false))
    have hB' := ((hb'.setCell (p := ⟨w.heap.size + 1, 0, none⟩) (by simp) (.int .i64 p)).setCell (p := ⟨w.heap.size + 1, 1, none⟩) (by simp) (.slice (some ⟨g, 0, none⟩) m cap)).setCell (p := ⟨w.heap.size + 1, 2, none⟩) (by simp) (.bool false)
    have hR' := ((hrow.far (p := ⟨w.heap.size + 1, 0, none⟩) (by simp; omega) (.int .i64 p)).far (p := ⟨w.heap.size + 1, 1, none⟩) (by simp; omega) (.slice (some ⟨g, 0, none⟩) m cap)).far (p := ⟨w.heap.size + 1, 2, none⟩) (by simp; omega) (.bool false)
    have hX := Lib.hid (HRUN.out _ (w.heap.size + 1) g cap cs hB' (by omega) (by omega) (by omega) hcap hx hR' hcs)
    have HBX := Lib.hid hB'
    have hgs : w.heap.size ≤ g := by omega
    clear hb' hbw hrow hcs hbn hk hx hB' hR' hE' x0 x1 x2 y0 y1 y2
    go_wp2_with fail
    refine hX.out.mono ?_
    rintro e w9 ⟨rfl, hK, -⟩
    have HF := Lib.hid (Kept2.below HBX.out hK HBX.out.size (by omega) hgs)
    clear hK
    go_wp2
    go_ret
    exact ⟨rfl, HF.out⟩

end Go.Proofs.Ytokiejichnnmnaa
