/- matrix.Add. -/
import Derived.Test.YtinoomcboinokaaGreatMAddF
namespace Go.Proofs.YtinoomcboinokaaGreat
open Go Go.RowKit Num

theorem addBool (m m' _n _n' : Nat) : ((m : Int) != (m' : Int)) = decide (m ≠ m') := by
  by_cases h : m = m'
  · subst h; simp
  · simp [h]; omega
set_option maxRecDepth 100000 in
set_option maxHeartbeats 2000000 in
theorem Add_any (ra rb : Value) (m m' : Nat) (n n' : Nat → Nat) (f f' : Nat → Nat → Int) (p q : Int) (w : World) (hm : m ≤ 1000000) (hn : ∀ i, i < m → n i ≤ 1000000) (hm' : m' ≤ 1000000) (hn' : ∀ i, i < m' → n' i ≤ 1000000)
    (ha : Grid w (· < w.heap.size) ra m n f) (hb : Grid w (· < w.heap.size) rb m' n' f') (x : Int) (hx : x = chkP (chkM p m n f) (chkM q m' n' f') p q) :
    Calls Tryz.prog 31 #[.agg #[.int .i64 p, ra], .agg #[.int .i64 q, rb]] w (MPost x (m = m' ∧ n 0 = n' 0) w p m (n 0) (fun i => axpy 1 p (f i) (f' i))) := by
  have HC := fun W h1 h2 => Lib.hid (checkPair_any ra rb m m' n n' f f' p q W hm hn hm' hn' h1 h2)
  rw [← hx] at HC
  have HX := Lib.hid hx
  have HA := Lib.hid ha
  have HB := Lib.hid hb
  clear hx
  by_cases hx0 : x = 0
  · subst hx0
    obtain ⟨e1, e2, e3⟩ := chkP_zero HX.out.symm
    subst e3
    obtain ⟨hmod, g1, g2, g3, g4, g5⟩ := chkM_zero e1
    obtain ⟨_, g6, g7, g8, g9, g10⟩ := chkM_zero e2
    obtain ⟨hp2, hp4, _⟩ := modB_true hmod
    obtain ⟨bg, og, cg, RA, RC, rfl, hcg, hbg, hgc⟩ := ha.at_ (by omega)
    have hr0 := (hgc 0 (by omega)).1
    rw [Nat.add_zero] at hr0
    obtain ⟨bg2, og2, cg2, RA2, RC2, rfl, hcg2, hbg2, hgc2⟩ := hb.at_ (by omega)
    have hr2 := (hgc2 0 (by omega)).1
    rw [Nat.add_zero] at hr2
    have HX3 := Lib.hid (box3 w #[.int .i64 p, .slice (some ⟨bg, og, none⟩) m cg] #[.int .i64 p, .slice (some ⟨bg2, og2, none⟩) m' cg2])
    have HPOST := Lib.hid (fun (e : Ending) (w' : World) (hf : ¬ (m = m' ∧ n 0 = n' 0)) (h : BadM w 10 e w') => (show MPost 0 (m = m' ∧ n 0 = n' 0) w p m (n 0) (fun i => axpy 1 p (f i) (f' i)) e w' from ⟨(fun h => absurd rfl h), (fun _ _ => h), fun _ h => absurd h hf⟩))
    have HPO2 := Lib.hid (fun (e : Ending) (w' : World) (hf : m = m' ∧ n 0 = n' 0) (h : OkM w p m (n 0) (fun i => axpy 1 p (f i) (f' i)) e w') => (show MPost 0 (m = m' ∧ n 0 = n' 0) w p m (n 0) (fun i => axpy 1 p (f i) (f' i)) e w' from ⟨(fun h => absurd rfl h), (fun _ h => absurd hf h), fun _ _ => h⟩))
    by_cases hmm : m = m'
    · subst hmm
      have hd1 : ((m : Int) != (m : Int)) = false := by simp
      by_cases hnn : n 0 = n' 0
      · have HM := fun W B h1 h2 h3 => Lib.hid (combine_add (.slice (some ⟨bg, og, none⟩) m cg) (.slice (some ⟨bg2, og2, none⟩) m cg2) (.slice (some ⟨bg, og, none⟩) m cg) m (n 0) f f' p B W (by omega) (by omega) h1 h2 (by omega) (by omega) (fun i hi => by have := (g5 i hi).2; rw [(g5 i hi).1] at this; exact this) (fun i hi => by have := (g10 i hi).2; rw [(g10 i hi).1, ← hnn] at this; exact this) h3)
        have HA2 := Lib.hid (grid_reg HA.out (fun i hi => ((g5 i hi).1)))
        have HB2 := Lib.hid (grid_reg HB.out (fun i hi => ((g10 i hi).1).trans hnn.symm))
        replace HPO2 := Lib.hid (fun e w' => HPO2.out e w' ⟨rfl, hnn⟩)
        rw [← hnn] at hr2
        have hd2 : ((n 0 : Int) != (n 0 : Int)) = false := by simp
        generalize MPost 0 (m = m ∧ n 0 = n' 0) w p m (n 0) (fun i => axpy 1 p (f i) (f' i)) = PP at HPO2 ⊢
        generalize n 0 = n0 at hr0 hr2 HM HA2 HB2 g3 g4 hd2 HPO2
        generalize (fun i => axpy 1 p (f i) (f' i)) = F at HM HPO2
        clear ha hb hgc hgc2 hn hn' e1 e2 g5 g10 hmod hnn HPOST
        go_enter Tryz.func31, Tryz.ntmps31
        go_wp2_with fail
        generalize ((w.alloc (.cells #[.int .i64 p, .slice (some ⟨bg, og, none⟩) m cg] 31)).alloc (.cells #[.int .i64 p, .slice (some ⟨bg2, og2, none⟩) m cg2] 31)).alloc (.cells #[.int .i64 0, .slice none 0 0] 31) = w3 at HX3
        refine (HC _ (HA.out.on HX3.out.be) (HB.out.on HX3.out.be)).out.mono ?_
        rintro e w4 ⟨rfl, hb4⟩
        obtain ⟨j1, j2, j3, j4⟩ := HX3.out.on hb4
        have c1 := j2.cell (i := 1) rfl
        have c2 := j3.cell (i := 1) rfl
        have c3 := (j1.cell (p := ⟨bg, og, none⟩) hbg).trans hr0
        have c4 := (j1.cell (p := ⟨bg2, og2, none⟩) hbg2).trans hr2
        have HJ1 := Lib.hid j1
        have HJ2 := Lib.hid j2
        have HJ3 := Lib.hid j3
        have HR := Lib.hid j4
        clear j1 j2 j3 j4 hb4
        go_wp2_with fail
        go_quiet (fail)
        rename_i nq
        go_wp2_with fail
        have HBq := Lib.hid (below_drewN HJ1.out nq)
        have HRq := Lib.hid (HR.out.drewN nq)
        have HR1 := Lib.hid (HJ2.out.drewN nq)
        have HR2 := Lib.hid (HJ3.out.drewN nq)
        have hsz : w.heap.size + 1 + 1 < (w4.drewN nq).heap.size := HR.out.lt
        generalize w4.drewN nq = w5 at HBq HRq HR1 HR2 hsz
        have HK := Lib.hid (fun (W : World) (hb : Below w5.heap.size w5 W) => (show W.cell? ⟨w.heap.size, 0, none⟩ = some (.int .i64 p) ∧ W.cell? ⟨w.heap.size, 1, none⟩ = some (.slice (some ⟨bg, og, none⟩) m cg) ∧ W.cell? ⟨w.heap.size + 1, 1, none⟩ = some (.slice (some ⟨bg2, og2, none⟩) m cg2) from
          ⟨(Row.below HR1.out hb HR1.out.lt).cell rfl, (Row.below HR1.out hb HR1.out.lt).cell rfl, (Row.below HR2.out hb HR2.out.lt).cell rfl⟩))
        have HKS := Lib.hid (fun (W : World) (u v : Value) (h : W.cell? ⟨w.heap.size, 0, none⟩ = some (.int .i64 p) ∧ W.cell? ⟨w.heap.size, 1, none⟩ = some (.slice (some ⟨bg, og, none⟩) m cg) ∧ W.cell? ⟨w.heap.size + 1, 1, none⟩ = some (.slice (some ⟨bg2, og2, none⟩) m cg2)) => (show (((W.setCell ⟨w.heap.size + 1 + 1, 0, none⟩ u).setCell ⟨w.heap.size + 1 + 1, 1, none⟩ v).cell? ⟨w.heap.size, 0, none⟩ = some (.int .i64 p) ∧ ((W.setCell ⟨w.heap.size + 1 + 1, 0, none⟩ u).setCell ⟨w.heap.size + 1 + 1, 1, none⟩ v).cell? ⟨w.heap.size, 1, none⟩ = some (.slice (some ⟨bg, og, none⟩) m cg) ∧ ((W.setCell ⟨w.heap.size + 1 + 1, 0, none⟩ u).setCell ⟨w.heap.size + 1 + 1, 1, none⟩ v).cell? ⟨w.heap.size + 1, 1, none⟩ = some (.slice (some ⟨bg2, og2, none⟩) m cg2)) from by
          refine ⟨?_, ?_, ?_⟩
          · rw [World.cell?_setCell_far _ _ _ _ (show w.heap.size + 1 + 1 ≠ w.heap.size by omega), World.cell?_setCell_far _ _ _ _ (show w.heap.size + 1 + 1 ≠ w.heap.size by omega)]; exact h.1
          · rw [World.cell?_setCell_far _ _ _ _ (show w.heap.size + 1 + 1 ≠ w.heap.size by omega), World.cell?_setCell_far _ _ _ _ (show w.heap.size + 1 + 1 ≠ w.heap.size by omega)]; exact h.2.1
          · rw [World.cell?_setCell_far _ _ _ _ (show w.heap.size + 1 + 1 ≠ w.heap.size + 1 by omega), World.cell?_setCell_far _ _ _ _ (show w.heap.size + 1 + 1 ≠ w.heap.size + 1 by omega)]; exact h.2.2))
        have HBr := Lib.hid (below_drew HBq.out)
        have HRr := Lib.hid (show Row w5.drew (w.heap.size + 1 + 1) 31 _ from HRq.out)
        have HR1r := Lib.hid (show Row w5.drew w.heap.size 31 _ from HR1.out)
        have hszr : w.heap.size + 1 + 1 < w5.drew.heap.size := hsz
        go_region_held3 (fun W => W.cell? ⟨w.heap.size, 0, none⟩ = some (.int .i64 p) ∧ W.cell? ⟨w.heap.size, 1, none⟩ = some (.slice (some ⟨bg, og, none⟩) m cg) ∧ W.cell? ⟨w.heap.size + 1, 1, none⟩ = some (.slice (some ⟨bg2, og2, none⟩) m cg2)) ((first | exact HK.out _ (below_drew (Below.refl _ _)) | assumption | exact HKS.out _ _ _ (by assumption)))
          (first | (go_at_call 61; refine (HM w5.drew _ (HA2.out.on HBr.out) (HB2.out.on HBr.out) HR1r.out).out.mono ?_; rintro e w6 ⟨r, rfl, hg6, hb6⟩; obtain ⟨A', c', rfl, _⟩ := hg6.form; have hk6 := HK.out _ ((below_drew (Below.refl _ _)).trans hb6); have hrr := Row.below HRr.out hb6 hszr; have d0 := hrr.cell (i := 0) rfl; have d1 := hrr.cell (i := 1) rfl; have f0 := hrr.frozen 0; have f1 := hrr.frozen 1))
        have hs5 := HBr.out.size
        have hE := agg_res hrr (HBr.out.trans (hb6.mono hs5)) (by omega) (.int .i64 p) (.slice A' m c')
        have hG := (hg6.set2 (R := w.heap.size + 1 + 1) (fun h => by have := h.1; omega) (.int .i64 p) (.slice A' m c')).more (S' := New w ((w6.setCell ⟨w.heap.size + 1 + 1, 0, none⟩ (.int .i64 p)).setCell ⟨w.heap.size + 1 + 1, 1, none⟩ (.slice A' m c'))) (fun b h => ⟨by have := h.1; omega, by rw [size_set2]; exact h.2⟩)
        have HE := Lib.hid hE
        have HG := Lib.hid hG
        clear hE hG hg6 hb6 hrr
        go_wp2
        obtain ⟨k3, k2⟩ := HE.out
        have hc0 := k3.cell (i := 0) rfl
        have hc1 := k3.cell (i := 1) rfl
        refine bodyPost_ret (v := .tuple #[.agg #[.int .i64 p, .slice A' m c'], .int .i64 0]) ?_ rfl (HPO2.out _ _ ⟨_, rfl, HG.out, k2⟩)
        simp [results, Tryz.results31, go_sem, hc0, hc1]
      · have hd2 : ((n 0 : Int) != (n' 0 : Int)) = true := by simp; omega
        replace HPOST := Lib.hid (fun e w' => HPOST.out e w' (fun h => hnn h.2))
        generalize MPost 0 (m = m ∧ n 0 = n' 0) w p m (n 0) (fun i => axpy 1 p (f i) (f' i)) = PP at HPOST ⊢
        generalize n 0 = n0 at hr0 hd2
        generalize n' 0 = n1 at hr2 hd2
        clear ha hb hgc hgc2 hn hn' e1 e2 g5 g10 hmod hnn HPO2
        go_enter Tryz.func31, Tryz.ntmps31
        go_wp2_with fail
        generalize ((w.alloc (.cells #[.int .i64 p, .slice (some ⟨bg, og, none⟩) m cg] 31)).alloc (.cells #[.int .i64 p, .slice (some ⟨bg2, og2, none⟩) m cg2] 31)).alloc (.cells #[.int .i64 0, .slice none 0 0] 31) = w3 at HX3
        refine (HC _ (HA.out.on HX3.out.be) (HB.out.on HX3.out.be)).out.mono ?_
        rintro e w4 ⟨rfl, hb4⟩
        obtain ⟨j1, j2, j3, j4⟩ := HX3.out.on hb4
        have c1 := j2.cell (i := 1) rfl
        have c2 := j3.cell (i := 1) rfl
        have c3 := (j1.cell (p := ⟨bg, og, none⟩) hbg).trans hr0
        have c4 := (j1.cell (p := ⟨bg2, og2, none⟩) hbg2).trans hr2
        have HE := Lib.hid (fun nq => end_bad (w := w) (j4.drewN nq) (below_drewN j1 nq) (B := w.heap.size) (by omega))
        have d0 := j4.cell (i := 0) rfl
        have d1 := j4.cell (i := 1) rfl
        have f0 := j4.frozen 0
        have f1 := j4.frozen 1
        clear j1 j2 j3 j4 hb4
        go_wp2_with fail
        go_quiet (fail)
        rename_i nq
        go_wp2_with fail
        obtain ⟨k3, k2⟩ := HE.out nq
        have hc0 := k3.cell (i := 0) rfl
        have hc1 := k3.cell (i := 1) rfl
        refine bodyPost_ret (v := .tuple #[.agg #[.int .i64 0, .slice none 0 0], .int .i64 10]) ?_ rfl (HPOST.out _ _ ⟨rfl, k2⟩)
        simp [results, Tryz.results31, go_sem, hc0, hc1]
    · have hd1 : ((m : Int) != (m' : Int)) = true := by simp; omega
      replace HPOST := Lib.hid (fun e w' => HPOST.out e w' (fun h => hmm h.1))
      generalize MPost 0 (m = m' ∧ n 0 = n' 0) w p m (n 0) (fun i => axpy 1 p (f i) (f' i)) = PP at HPOST ⊢
      clear ha hb hgc hgc2 hn hn' e1 e2 g5 g10 hmod HPO2
      go_enter Tryz.func31, Tryz.ntmps31
      go_wp2_with fail
      generalize ((w.alloc (.cells #[.int .i64 p, .slice (some ⟨bg, og, none⟩) m cg] 31)).alloc (.cells #[.int .i64 p, .slice (some ⟨bg2, og2, none⟩) m' cg2] 31)).alloc (.cells #[.int .i64 0, .slice none 0 0] 31) = w3 at HX3
      refine (HC _ (HA.out.on HX3.out.be) (HB.out.on HX3.out.be)).out.mono ?_
      rintro e w4 ⟨rfl, hb4⟩
      obtain ⟨j1, j2, j3, j4⟩ := HX3.out.on hb4
      have c1 := j2.cell (i := 1) rfl
      have c2 := j3.cell (i := 1) rfl
      have HE := Lib.hid (fun nq => end_bad (w := w) (j4.drewN nq) (below_drewN j1 nq) (B := w.heap.size) (by omega))
      have d0 := j4.cell (i := 0) rfl
      have d1 := j4.cell (i := 1) rfl
      have f0 := j4.frozen 0
      have f1 := j4.frozen 1
      clear j1 j2 j3 j4 hb4 hmm
      go_wp2_with fail
      go_quiet (fail)
      rename_i nq
      go_wp2_with fail
      obtain ⟨k3, k2⟩ := HE.out nq
      have hc0 := k3.cell (i := 0) rfl
      have hc1 := k3.cell (i := 1) rfl
      refine bodyPost_ret (v := .tuple #[.agg #[.int .i64 0, .slice none 0 0], .int .i64 10]) ?_ rfl (HPOST.out _ _ ⟨rfl, k2⟩)
      simp [results, Tryz.results31, go_sem, hc0, hc1]
  · have hd : (x == 0) = false := by simpa using hx0
    have hd2 : (x != 0) = true := by simpa using hx0
    obtain ⟨A, c, rfl, _⟩ := ha.form
    obtain ⟨B, d, rfl, _⟩ := hb.form
    have HX3 := Lib.hid (box3 w #[.int .i64 p, .slice A m c] #[.int .i64 q, .slice B m' d])
    have HPO := Lib.hid (fun (e : Ending) (w' : World) (h : BadM w x e w') => (show MPost x (m = m' ∧ n 0 = n' 0) w p m (n 0) (fun i => axpy 1 p (f i) (f' i)) e w' from ⟨fun _ => h, (fun h => absurd h hx0), fun h => absurd h hx0⟩))
    generalize MPost x (m = m' ∧ n 0 = n' 0) w p m (n 0) (fun i => axpy 1 p (f i) (f' i)) = PP at HPO ⊢
    clear ha hb hn hn' hx0
    go_enter Tryz.func31, Tryz.ntmps31
    go_wp2_with fail
    generalize ((w.alloc (.cells #[.int .i64 p, .slice A m c] 31)).alloc (.cells #[.int .i64 q, .slice B m' d] 31)).alloc (.cells #[.int .i64 0, .slice none 0 0] 31) = w3 at HX3
    refine (HC _ (HA.out.on HX3.out.be) (HB.out.on HX3.out.be)).out.mono ?_
    rintro e w4 ⟨rfl, hb4⟩
    obtain ⟨j1, j2, j3, j4⟩ := HX3.out.on hb4
    have HE := Lib.hid (fun nq => end_bad (w := w) (j4.drewN nq) (below_drewN j1 nq) (B := w.heap.size) (by omega))
    have d0 := j4.cell (i := 0) rfl
    have d1 := j4.cell (i := 1) rfl
    have f0 := j4.frozen 0
    have f1 := j4.frozen 1
    clear j1 j2 j3 j4 hb4
    go_wp2_with fail
    go_quiet (fail)
    rename_i nq
    go_wp2_with fail
    obtain ⟨k3, k2⟩ := HE.out nq
    have hc0 := k3.cell (i := 0) rfl
    have hc1 := k3.cell (i := 1) rfl
    refine bodyPost_ret (v := .tuple #[.agg #[.int .i64 0, .slice none 0 0], .int .i64 x]) ?_ rfl (HPO.out _ _ ⟨rfl, k2⟩)
    simp [results, Tryz.results31, go_sem, hc0, hc1]
end Go.Proofs.YtinoomcboinokaaGreat
