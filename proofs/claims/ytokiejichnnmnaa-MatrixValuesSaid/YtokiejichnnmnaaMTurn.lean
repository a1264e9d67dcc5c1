/- matrix.column, matrix.Turn. -/
import Derived.Test.YtokiejichnnmnaaMScale
namespace Go.Proofs.Ytokiejichnnmnaa
open Go Go.RowKit Num

set_option maxRecDepth 100000 in
set_option maxHeartbeats 1000000 in
theorem column_any (ra : Value) (m n j : Nat) (f : Nat → Nat → Int) (p : Int) (w : World) (hm : m ≤ 1000) (hj : j < n) (hn : n ≤ 1000) (ha : Grid w (· < w.heap.size) ra m (fun _ => n) f) :
    Calls Try.prog 110 #[.agg #[.int .i64 p, ra], .int .i64 j] w (GivesV w m (fun i => f i j)) := by
  have hmk := fun W => make_ints m (by omega) W
  have HA := Lib.hid ha
  obtain ⟨A, c, rfl, hcm⟩ := ha.form
  have hr := row_new (W := w) rfl 61 #[.int .i64 p, .slice A m c]
  have hb := (Below.refl w.heap.size w).alloc (Nat.le_refl _) (.cells #[.int .i64 p, .slice A m c] 61)
  have hs : (w.alloc (.cells #[.int .i64 p, .slice A m c] 61)).heap.size = w.heap.size + 1 := by simp
  clear ha
  go_enter Try.func110, Try.ntmps110
  go_wp2
  generalize w.alloc (.cells #[.int .i64 p, .slice A m c] 61) = w1 at hr hb hs
  have HR := Lib.hid hr
  have HB := Lib.hid hb
  have H0 := Lib.hid (Fill.start w1 3 m (iv fun i => f i j) (.int .i64 0))
  clear hr hb
  go_loopw [15] (fun i wr => ∃ t : Nat, i = .int .i64 t ∧ Fill w1 3 m (iv fun i => f i j) (.int .i64 0) t wr) (fun i _ => m - (intOf i).toNat)
  case atStart => exact ⟨0, rfl, H0.out⟩
  case round =>
    obtain ⟨t, rfl, hA⟩ := hrel
    have ht := hA.1
    have hB := hA.2.2
    have hBw := HB.out.trans (hB.mono HB.out.size)
    by_cases hlt : t < m
    · obtain ⟨bg, og, cg', RA, RC, e, hcg', hbg, hgc⟩ := HA.out.at_ (by omega)
      cases e
      obtain ⟨h1, h2⟩ := hgc t hlt
      obtain ⟨b, o, c2, e, hc2, hbb, hcc⟩ := h2.at_ (by omega)
      rw [e] at h1
      have hak : wr.cell? ⟨bg, og + t, none⟩ = some (.slice (some ⟨b, o, none⟩) n c2) := (hBw.cell (p := ⟨bg, og + t, none⟩) hbg).trans h1
      have hx : wr.cell? ⟨b, o + j, none⟩ = some (.int .i64 (f t j)) := (hBw.cell (p := ⟨b, o + j, none⟩) hbb).trans (hcc j hj)
      have hS := Lib.hid (hA.step hlt)
      have hct := hA.2.1.cell (CTab_get m (part t (iv fun i => f i j) (.int .i64 0)) t hlt)
      have hft := hA.2.1.frozen t
      generalize part t (iv fun i => f i j) (.int .i64 0) t = u0 at hct
      change Hid (Fill w1 3 m (iv fun i => f i j) (.int .i64 0) (t + 1) (wr.setCell ⟨w1.heap.size, t, none⟩ (.int .i64 (f t j)))) at hS
      generalize f t j = z at hx hS
      rw [hs] at hct hft hS
      clear hA hB hBw h1 h2 hgc hcc e
      go_wp2
      go_roundw
      case rel => exact ⟨t + 1, by go_num, hS.out⟩
      case measure => simp [intOf]; omega
    · have e : t = m := by omega
      subst e
      have HV := Lib.hid (show Vec wr (New w wr) (.slice (some ⟨w.heap.size + 1, 0, none⟩) t t) t (fun i => f i j) from Row.vec (by have := hA.2.1; rw [part_all, hs] at this; exact this) ⟨by omega, by have := hA.2.1.lt; omega⟩ (Nat.le_refl _))
      have HBr := Lib.hid hBw
      clear hA hB hBw
      go_wp2
      go_ret
      exact ⟨_, rfl, HV.out, HBr.out⟩

set_option maxRecDepth 100000 in
set_option maxHeartbeats 2000000 in
theorem Turn_any (ra : Value) (m : Nat) (n : Nat → Nat) (f : Nat → Nat → Int) (p : Int) (w : World) (hm : m ≤ 1000000) (hn : ∀ i, i < m → n i ≤ 1000000) (ha : Grid w (· < w.heap.size) ra m n f) (x : Int) (hx : x = chkM p m n f) :
    Calls Try.prog 48 #[.agg #[.int .i64 p, ra]] w (MPost x True w p (n 0) m (fun i j => f j i)) := by
  have HC := fun W h => Lib.hid (Check_any ra m n f p W hm hn h)
  rw [← hx] at HC
  have HX := Lib.hid hx
  have HA := Lib.hid ha
  clear hx
  by_cases hx0 : x = 0
  · subst hx0
    obtain ⟨hmod, g1, g2, g3, g4, g5⟩ := chkM_zero HX.out.symm
    obtain ⟨bg, og, cg, RA, RC, rfl, hcg, hbg, hgc⟩ := ha.at_ (by omega)
    have hr0 := (hgc 0 (by omega)).1
    rw [Nat.add_zero] at hr0
    have HX2 := Lib.hid (box2 w #[.int .i64 p, .slice (some ⟨bg, og, none⟩) m cg])
    have HPO := Lib.hid (fun (e : Ending) (w' : World) (h : OkM w p (n 0) m (fun i j => f j i) e w') => (show MPost 0 True w p (n 0) m (fun i j => f j i) e w' from ⟨(fun h => absurd rfl h), (fun _ h => absurd trivial h), fun _ _ => h⟩))
    generalize MPost 0 True w p (n 0) m (fun i j => f j i) = PP at HPO ⊢
    have HA2 := Lib.hid (grid_reg HA.out (fun i hi => ((g5 i hi).1)))
    generalize n 0 = n0 at HA2 g3 g4 HPO hr0
    have hmk := fun W => make_rows n0 (by omega) W
    clear ha hn g5 hmod hgc
    go_enter Try.func48, Try.ntmps48
    go_wp2_with fail
    generalize (w.alloc (.cells #[.int .i64 p, .slice (some ⟨bg, og, none⟩) m cg] 61)).alloc (.cells #[.int .i64 0, .slice none 0 0] 61) = w3 at HX2
    refine (HC _ (HA.out.on HX2.out.be)).out.mono ?_
    rintro e w4 ⟨rfl, hb4⟩
    obtain ⟨j1, j2, j3⟩ := HX2.out.on hb4
    have HJ1 := Lib.hid j1
    have HJ2 := Lib.hid j2
    have HJ3 := Lib.hid j3
    have c0 := j2.cell (i := 0) rfl
    have c1 := j2.cell (i := 1) rfl
    have c3 := (j1.cell (p := ⟨bg, og, none⟩) hbg).trans hr0
    clear j1 j2 j3 hb4
    have H0 := Lib.hid (FillG.start (fun _ => m) (fun i j => f j i) (row_new (W := w4) rfl 28 (CTab n0 fun _ => .slice none 0 0)))
    have HB0 := Lib.hid ((Below.refl w4.heap.size w4).alloc (Nat.le_refl _) (.cells (CTab n0 fun _ => .slice none 0 0) 28))
    have hlt4 : w.heap.size + 1 < w4.heap.size := HJ3.out.lt
    go_wp2
    go_loopw [21] (fun i wr => ∃ t : Nat, i = .int .i64 t ∧ Below w4.heap.size w4 wr ∧ FillG w4.heap.size n0 (fun _ => m) (fun i j => f j i) t wr) (fun i _ => n0 - (intOf i).toNat)
    case atStart => exact ⟨0, rfl, HB0.out, H0.out⟩
    case round =>
      obtain ⟨t, rfl, hB, hF⟩ := hrel
      have ht := hF.1
      have hz := hB.size
      have hBw := HJ1.out.trans (hB.mono HJ1.out.size)
      have hr2 := Row.below HJ2.out hB HJ2.out.lt
      have hr3 := Row.below HJ3.out hB HJ3.out.lt
      have c2 := hr2.cell (i := 0) rfl
      have c3 := hr2.cell (i := 1) rfl
      by_cases hlt : t < n0
      · have HCC := Lib.hid (column_any (.slice (some ⟨bg, og, none⟩) m cg) m n0 t f p wr (by omega) hlt (by omega) (HA2.out.on hBw))
        have HFl := Lib.hid hF
        have HBr := Lib.hid hB
        clear hB hF hBw hr2 hr3
        go_wp2_with fail
        refine HCC.out.mono ?_
        rintro e w' ⟨r, rfl, hV, hBn⟩
        obtain ⟨A', c', rfl, _⟩ := hV.form
        have hF' := HFl.out.on hBn
        obtain ⟨⟨u, hct⟩, hft⟩ := hF'.put hlt
        have HS := Lib.hid (hF'.step hlt (hV.more fun b h => ⟨by have := h.1; have := HFl.out.lt; omega, h.2⟩))
        have HB2 := Lib.hid ((HBr.out.trans (hBn.mono hz)).setCell (p := ⟨w4.heap.size, t, none⟩) (Nat.le_refl _) (.slice A' m c'))
        clear hV hBn hF' HFl HBr HCC
        go_wp2
        go_roundw
        case rel => exact ⟨t + 1, by go_num, HB2.out, HS.out⟩
        case measure => simp [intOf]; omega
      · have e : t = n0 := by omega
        subst e
        have HE := Lib.hid (end_ok hr3 hBw (by omega) hlt4 hF p)
        have d0 := hr3.cell (i := 0) rfl
        have d1 := hr3.cell (i := 1) rfl
        have f0 := hr3.frozen 0
        have f1 := hr3.frozen 1
        clear hr2 hr3 hB hF hBw
        go_wp2
        obtain ⟨k3, k2, k1⟩ := HE.out
        have hc0 := k3.cell (i := 0) rfl
        have hc1 := k3.cell (i := 1) rfl
        refine bodyPost_ret (v := .tuple #[.agg #[.int .i64 p, .slice (some ⟨w4.heap.size, 0, none⟩) t t], .int .i64 0]) ?_ rfl (HPO.out _ _ ⟨_, rfl, k1, k2⟩)
        simp [results, Try.results48, go_sem, hc0, hc1]
  · have hd2 : (x != 0) = true := by simpa using hx0
    obtain ⟨A, c, rfl, hcm⟩ := ha.form
    have HX2 := Lib.hid (box2 w #[.int .i64 p, .slice A m c])
    have HPO := Lib.hid (fun (e : Ending) (w' : World) (h : BadM w x e w') => (show MPost x True w p (n 0) m (fun i j => f j i) e w' from ⟨fun _ => h, (fun h => absurd h hx0), fun h => absurd h hx0⟩))
    generalize MPost x True w p (n 0) m (fun i j => f j i) = PP at HPO ⊢
    clear ha hn hx0
    go_enter Try.func48, Try.ntmps48
    go_wp2_with fail
    generalize (w.alloc (.cells #[.int .i64 p, .slice A m c] 61)).alloc (.cells #[.int .i64 0, .slice none 0 0] 61) = w3 at HX2
    refine (HC _ (HA.out.on HX2.out.be)).out.mono ?_
    rintro e w4 ⟨rfl, hb4⟩
    obtain ⟨j1, j2, j3⟩ := HX2.out.on hb4
    have HE := Lib.hid (end_bad (w := w) j3 j1 (B := w.heap.size) (by omega))
    have d0 := j3.cell (i := 0) rfl
    have d1 := j3.cell (i := 1) rfl
    have f0 := j3.frozen 0
    have f1 := j3.frozen 1
    clear j1 j2 j3 hb4
    go_wp2_with fail
    obtain ⟨k3, k2⟩ := HE.out
    have hc0 := k3.cell (i := 0) rfl
    have hc1 := k3.cell (i := 1) rfl
    refine bodyPost_ret (v := .tuple #[.agg #[.int .i64 0, .slice none 0 0], .int .i64 x]) ?_ rfl (HPO.out _ _ ⟨rfl, k2⟩)
    simp [results, Try.results48, go_sem, hc0, hc1]
end Go.Proofs.Ytokiejichnnmnaa
