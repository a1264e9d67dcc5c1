/- matrix.Scale. -/
import Derived.Test.YtinoomcboinokaaGreatMMulQ
namespace Go.Proofs.YtinoomcboinokaaGreat
open Go Go.RowKit Num

/-- The world behind one boxed struct and the zero one of the result. -/
structure Box2 (w w3 : World) (a : Array Value) : Prop where
  be : Below w.heap.size w w3
  ra : Row w3 w.heap.size 31 a
  rr : Row w3 (w.heap.size + 1) 31 #[.int .i64 0, .slice none 0 0]
  sz : w3.heap.size = w.heap.size + 1 + 1
theorem box2 (w : World) (a : Array Value) : Box2 w ((w.alloc (.cells a 31)).alloc (.cells #[.int .i64 0, .slice none 0 0] 31)) a :=
  ⟨((Below.refl w.heap.size w).alloc (Nat.le_refl _) _).alloc (by simp) _, (row_new rfl _ _).alloc _, row_new (by simp) _ _, by simp⟩
theorem Box2.on {w w3 w' : World} {a : Array Value} (h : Box2 w w3 a) (hb : Below w3.heap.size w3 w') : Below w.heap.size w w' ∧ Row w' w.heap.size 31 a ∧ Row w' (w.heap.size + 1) 31 #[.int .i64 0, .slice none 0 0] :=
  ⟨h.be.trans (hb.mono h.be.size), Row.below h.ra hb h.ra.lt, Row.below h.rr hb h.rr.lt⟩
theorem size_below {B : Nat} {W W' : World} (h : Below B W W') : W.heap.size ≤ W'.heap.size := h.size
/-- The end of a call that returns a grid in a struct. -/
theorem end_ok {w W : World} {R g0 m n : Nat} {F : Nat → Nat → Int} (hr : Row W R 31 #[.int .i64 0, .slice none 0 0]) (hb : Below w.heap.size w W) (hR : w.heap.size ≤ R) (hg0 : R < g0) (hg : FillG g0 m (fun _ => n) F m W) (p : Int) :
    Row ((W.setCell ⟨R, 0, none⟩ (.int .i64 p)).setCell ⟨R, 1, none⟩ (.slice (some ⟨g0, 0, none⟩) m m)) R 31 #[.int .i64 p, .slice (some ⟨g0, 0, none⟩) m m] ∧
    Below w.heap.size w ((W.setCell ⟨R, 0, none⟩ (.int .i64 p)).setCell ⟨R, 1, none⟩ (.slice (some ⟨g0, 0, none⟩) m m)) ∧
    Grid ((W.setCell ⟨R, 0, none⟩ (.int .i64 p)).setCell ⟨R, 1, none⟩ (.slice (some ⟨g0, 0, none⟩) m m)) (New w ((W.setCell ⟨R, 0, none⟩ (.int .i64 p)).setCell ⟨R, 1, none⟩ (.slice (some ⟨g0, 0, none⟩) m m))) (.slice (some ⟨g0, 0, none⟩) m m) m (fun _ => n) F := by
  obtain ⟨h1, h2⟩ := agg_res hr hb hR (.int .i64 p) (.slice (some ⟨g0, 0, none⟩) m m)
  exact ⟨h1, h2, ((hg.far (p := ⟨R, 0, none⟩) hg0 (.int .i64 p)).far (p := ⟨R, 1, none⟩) hg0 (.slice (some ⟨g0, 0, none⟩) m m)).grid.more fun b h => ⟨by have := h.1; omega, h.2⟩⟩

set_option maxRecDepth 100000 in
set_option maxHeartbeats 2000000 in
theorem Scale_any (ra : Value) (m : Nat) (n : Nat → Nat) (f : Nat → Nat → Int) (p k : Int) (w : World) (hm : m ≤ 1000000) (hn : ∀ i, i < m → n i ≤ 1000000) (ha : Grid w (· < w.heap.size) ra m n f) (x : Int) (hx : x = chkM p m n f) :
    Calls Tryz.prog 29 #[.agg #[.int .i64 p, ra], .int .i64 k] w (MPost x True w p m (n 0) (fun i => axpy (resV k p.toNat : Nat) p (fun _ => 0) (f i))) := by
  have HC := fun W h => Lib.hid (Check_any ra m n f p W hm hn h)
  rw [← hx] at HC
  have HX := Lib.hid hx
  have HA := Lib.hid ha
  obtain ⟨A, c, rfl, hcm⟩ := ha.form
  have HX2 := Lib.hid (box2 w #[.int .i64 p, .slice A m c])
  clear hx
  by_cases hx0 : x = 0
  · subst hx0
    obtain ⟨hmod, g1, g2, g3, g4, g5⟩ := chkM_zero HX.out.symm
    obtain ⟨hp2, hp4, hp6⟩ := modB_true hmod
    obtain ⟨pn, rfl⟩ : ∃ pn : Nat, p = pn := ⟨p.toNat, by omega⟩
    rw [Int.toNat_natCast] at hp6 ⊢
    have HMO := fun W => Lib.hid (Mod_ok k pn W hp6)
    have hrs := resV_lt k (p := pn) hp6.ge
    have HPO := Lib.hid (fun (e : Ending) (w' : World) (h : OkM w pn m (n 0) (fun i => axpy (resV k pn : Nat) pn (fun _ => 0) (f i)) e w') => (show MPost 0 True w pn m (n 0) (fun i => axpy (resV k pn : Nat) pn (fun _ => 0) (f i)) e w' from ⟨(fun h => absurd rfl h), (fun _ h => absurd trivial h), fun _ _ => h⟩))
    generalize MPost 0 True w pn m (n 0) (fun i => axpy (resV k pn : Nat) pn (fun _ => 0) (f i)) = PP at HPO ⊢
    generalize resV k pn = kk at HMO hrs HPO
    have HIN := Lib.hid (fun i (hi : i < m) => (show InP (pn : Int) (n 0) (f i) from by have := (g5 i hi).2; rw [(g5 i hi).1] at this; exact this))
    have HA2 := Lib.hid (grid_reg HA.out (fun i hi => ((g5 i hi).1)))
    have hmk := fun W => make_rows m (by omega) W
    generalize n 0 = n0 at HIN HA2 g3 g4 HPO
    clear ha hn g5 hmod
    go_enter Tryz.func29, Tryz.ntmps29
    go_wp2_with fail
    generalize (w.alloc (.cells #[.int .i64 pn, .slice A m c] 31)).alloc (.cells #[.int .i64 0, .slice none 0 0] 31) = w3 at HX2
    refine (HC _ (HA.out.on HX2.out.be)).out.mono ?_
    rintro e w4 ⟨rfl, hb4⟩
    obtain ⟨j1, j2, j3⟩ := HX2.out.on hb4
    have HJ1 := Lib.hid j1
    have HJ2 := Lib.hid j2
    have HJ3 := Lib.hid j3
    have c0 := j2.cell (i := 0) rfl
    have c1 := j2.cell (i := 1) rfl
    clear j1 j2 j3 hb4
    go_wp2_with fail
    refine (HMO _).out.mono ?_
    rintro e w4 ⟨rfl, rfl⟩
    have H0 := Lib.hid (FillG.start (fun _ => n0) (fun i => axpy kk pn (fun _ => 0) (f i)) (row_new (W := w4) rfl 22 (CTab m fun _ => .slice none 0 0)))
    have HB0 := Lib.hid ((Below.refl w4.heap.size w4).alloc (Nat.le_refl _) (.cells (CTab m fun _ => .slice none 0 0) 22))
    have hlt4 : w.heap.size + 1 < w4.heap.size := HJ3.out.lt
    have c1' := (HJ2.out.alloc (.cells (CTab m fun _ => .slice none 0 0) 22)).cell (i := 1) rfl
    go_wp2
    go_loopw [32] (fun i wr => ∃ t : Nat, i = .int .i64 t ∧ Below w4.heap.size w4 wr ∧ FillG w4.heap.size m (fun _ => n0) (fun i => axpy kk pn (fun _ => 0) (f i)) t wr) (fun i _ => m - (intOf i).toNat)
    case atStart => exact ⟨0, rfl, HB0.out, H0.out⟩
    case round =>
      obtain ⟨t, rfl, hB, hF⟩ := hrel
      have ht := hF.1
      have hz := hB.size
      have hBw := HJ1.out.trans (hB.mono HJ1.out.size)
      have hr2 := Row.below HJ2.out hB HJ2.out.lt
      have hr3 := Row.below HJ3.out hB HJ3.out.lt
      have c2 := hr2.cell (i := 0) rfl
      have c3 := hr2.cell (i := 1) rfl
      by_cases hlt : t < m
      · obtain ⟨bg, og, cg', RA, RC, e, hcg', hbg, hgc⟩ := HA2.out.at_ (by omega)
        cases e
        obtain ⟨h1, h2⟩ := hgc t hlt
        have hak : wr.cell? ⟨bg, og + t, none⟩ = some (.slice (RA t) n0 (RC t)) := (hBw.cell (p := ⟨bg, og + t, none⟩) hbg).trans h1
        have HCC := Lib.hid (mtimes_any (kk : Int) pn (.slice (RA t) n0 (RC t)) n0 (f t) (· < wr.heap.size) wr (fun _ h => h) (by omega) (h2.on hBw) (by omega) (by omega) (HIN.out t hlt) ⟨by omega, by omega⟩)
        have HFl := Lib.hid hF
        have HBr := Lib.hid hB
        clear h1 h2 hgc hB hF hBw hr2 hr3
        go_wp2_with fail
        refine HCC.out.mono ?_
        rintro e w' ⟨r, rfl, hV, hBn⟩
        obtain ⟨A', c', rfl, _⟩ := hV.form
        have hF' := HFl.out.on hBn
        obtain ⟨⟨u, hct⟩, hft⟩ := hF'.put hlt
        have HS := Lib.hid (hF'.step hlt (hV.more fun b h => ⟨by have := h.1; have := HFl.out.lt; omega, h.2⟩))
        have HB2 := Lib.hid ((HBr.out.trans (hBn.mono hz)).setCell (p := ⟨w4.heap.size, t, none⟩) (Nat.le_refl _) (.slice A' n0 c'))
        clear hV hBn hF' HFl HBr HCC
        go_wp2
        go_roundw
        case rel => exact ⟨t + 1, by go_num, HB2.out, HS.out⟩
        case measure => simp [intOf]; omega
      · have e : t = m := by omega
        subst e
        have HE := Lib.hid (end_ok hr3 hBw (by omega) hlt4 hF (pn : Int))
        have d0 := hr3.cell (i := 0) rfl
        have d1 := hr3.cell (i := 1) rfl
        have f0 := hr3.frozen 0
        have f1 := hr3.frozen 1
        clear hr2 hr3 hB hF hBw
        go_wp2
        obtain ⟨k3, k2, k1⟩ := HE.out
        have hc0 := k3.cell (i := 0) rfl
        have hc1 := k3.cell (i := 1) rfl
        refine bodyPost_ret (v := .tuple #[.agg #[.int .i64 pn, .slice (some ⟨w4.heap.size, 0, none⟩) t t], .int .i64 0]) ?_ rfl (HPO.out _ _ ⟨_, rfl, k1, k2⟩)
        simp [results, Tryz.results29, go_sem, hc0, hc1]
  · have hd2 : (x != 0) = true := by simpa using hx0
    have HPO := Lib.hid (fun (e : Ending) (w' : World) (h : BadM w x e w') => (show MPost x True w p m (n 0) (fun i => axpy (resV k p.toNat : Nat) p (fun _ => 0) (f i)) e w' from ⟨fun _ => h, (fun h => absurd h hx0), fun h => absurd h hx0⟩))
    generalize MPost x True w p m (n 0) (fun i => axpy (resV k p.toNat : Nat) p (fun _ => 0) (f i)) = PP at HPO ⊢
    clear ha hn hx0
    go_enter Tryz.func29, Tryz.ntmps29
    go_wp2_with fail
    generalize (w.alloc (.cells #[.int .i64 p, .slice A m c] 31)).alloc (.cells #[.int .i64 0, .slice none 0 0] 31) = w3 at HX2
    refine (HC _ (HA.out.on HX2.out.be)).out.mono ?_
    rintro e w4 ⟨rfl, hb4⟩
    obtain ⟨j1, j2, j3⟩ := HX2.out.on hb4
    have HE := Lib.hid (end_bad (w := w) j3 j1 (B := w.heap.size) (by omega))
    have d0 := j3.cell (i := 0) rfl
    have d1 := j3.cell (i := 1) rfl
    have f0 := j3.frozen 0
    have f1 := j3.frozen 1
    clear j1 j2 j3 hb4
    go_wp2_with fail
    obtain ⟨k3, k2⟩ := HE.out
    have hc0 := k3.cell (i := 0) rfl
    have hc1 := k3.cell (i := 1) rfl
    refine bodyPost_ret (v := .tuple #[.agg #[.int .i64 0, .slice none 0 0], .int .i64 x]) ?_ rfl (HPO.out _ _ ⟨rfl, k2⟩)
    simp [results, Tryz.results29, go_sem, hc0, hc1]
end Go.Proofs.YtinoomcboinokaaGreat
