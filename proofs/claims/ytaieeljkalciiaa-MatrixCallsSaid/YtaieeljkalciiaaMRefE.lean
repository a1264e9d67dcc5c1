/- The reference of matrix: Add. -/
import Derived.Test.YtaieeljkalciiaaMRefB
namespace Go.Proofs.Ytaieeljkalciiaa
open Go Go.RowKit Num

set_option maxRecDepth 100000 in
set_option maxHeartbeats 4000000 in
theorem rAdd_any (ra rb : Value) (m m' : Nat) (n n' : Nat → Nat) (f f' : Nat → Nat → Int) (p q : Int) (w : World) (hm : m ≤ 1000000) (hn : ∀ i, i < m → n i ≤ 1000000) (hm' : m' ≤ 1000000) (hn' : ∀ i, i < m' → n' i ≤ 1000000)
    (ha : Grid w (· < w.heap.size) ra m n f) (hb : Grid w (· < w.heap.size) rb m' n' f') (x : Int) (hx : x = chkP (chkM p m n f) (chkM q m' n' f') p q) :
    Calls Try.prog 34 #[.agg #[.int .i64 p, ra], .agg #[.int .i64 q, rb]] w (MPost x (m = m' ∧ n 0 = n' 0) w p m (n 0) (fun i => axpy 1 p (f i) (f' i))) := by
  have HC := fun W h1 h2 => Lib.hid (both_any ra rb m m' n n' f f' p q W hm hn hm' hn' h1 h2)
  rw [← hx] at HC
  have HX := Lib.hid hx
  have HA := Lib.hid ha
  have HB := Lib.hid hb
  clear hx
  by_cases hx0 : x = 0
  · subst hx0
    obtain ⟨e1, e2, e3⟩ := chkP_zero HX.out.symm
    subst e3
    obtain ⟨hmod, g1, g2, g3, g4, g5⟩ := chkM_zero e1
    obtain ⟨_, g6, g7, g8, g9, g10⟩ := chkM_zero e2
    obtain ⟨hp2, hp4, _⟩ := modB_true hmod
    obtain ⟨ag, ao, ac, RA, CA, rfl, hac, hab, hag⟩ := ha.at_ (by omega)
    obtain ⟨bg, bo, bc, RB, CB, rfl, hbc, hbb, hbg⟩ := hb.at_ (by omega)
    have hr0 := (hag 0 (by omega)).1
    have hs0 := (hbg 0 (by omega)).1
    rw [Nat.add_zero] at hr0 hs0
    have HINA := Lib.hid (fun i (hi : i < m) => (show InP p (n 0) (f i) from by have := (g5 i hi).2; rw [(g5 i hi).1] at this; exact this))
    have HINB := Lib.hid (fun i (hi : i < m') => (show InP p (n' 0) (f' i) from by have := (g10 i hi).2; rw [(g10 i hi).1] at this; exact this))
    have HAG := Lib.hid (show ∀ i, i < m → w.cell? ⟨ag, ao + i, none⟩ = some (.slice (RA i) (n 0) (CA i)) ∧ Vec w (· < w.heap.size) (.slice (RA i) (n 0) (CA i)) (n 0) (f i) from fun i hi => by have := hag i hi; rwa [(g5 i hi).1] at this)
    have HBG := Lib.hid (show ∀ i, i < m' → w.cell? ⟨bg, bo + i, none⟩ = some (.slice (RB i) (n' 0) (CB i)) ∧ Vec w (· < w.heap.size) (.slice (RB i) (n' 0) (CB i)) (n' 0) (f' i) from fun i hi => by have := hbg i hi; rwa [(g10 i hi).1] at this)
    have HA2 := Lib.hid (grid_reg HA.out (fun i hi => (g5 i hi).1))
    have HB2 := Lib.hid (grid_reg HB.out (fun i hi => (g10 i hi).1))
    have HX3 := Lib.hid (box3 w #[.int .i64 p, .slice (some ⟨ag, ao, none⟩) m ac] #[.int .i64 p, .slice (some ⟨bg, bo, none⟩) m' bc])
    have HPOS := Lib.hid (show ∀ e w', MPost 0 (m = m' ∧ n 0 = n' 0) w p m (n 0) (fun i => axpy 1 p (f i) (f' i)) e w' → MPost 0 (m = m' ∧ n 0 = n' 0) w p m (n 0) (fun i => axpy 1 p (f i) (f' i)) e w' from fun _ _ h => h)
    generalize hPP : MPost 0 (m = m' ∧ n 0 = n' 0) w p m (n 0) (fun i => axpy 1 p (f i) (f' i)) = PP at HPOS ⊢
    have HPP := Lib.hid hPP
    clear ha hb hn hn' g5 g10 hmod hag hbg hPP
    generalize hnA : n 0 = n0 at HINA HAG HA2 g3 g4 hr0 HPP
    generalize hnB : n' 0 = n0' at HINB HBG HB2 g8 g9 hs0 HPP
    go_enter Try.func34, Try.ntmps34
    go_wp2_with fail
    generalize ((w.alloc (.cells #[.int .i64 p, .slice (some ⟨ag, ao, none⟩) m ac] 46)).alloc (.cells #[.int .i64 p, .slice (some ⟨bg, bo, none⟩) m' bc] 46)).alloc (.cells #[.int .i64 0, .slice none 0 0] 46) = w3 at HX3
    refine (HC _ (HA.out.on HX3.out.be) (HB.out.on HX3.out.be)).out.mono ?_
    rintro e w4 ⟨rfl, hb4⟩
    obtain ⟨j1, j2, j3, j4⟩ := HX3.out.on hb4
    have hszx : w.heap.size + 1 + 1 + 1 ≤ w4.heap.size := by have h1 := HX3.out.sz; have h2 := hb4.size; omega
    have c0 := j2.cell (i := 0) rfl
    have c1 := j2.cell (i := 1) rfl
    have c2 := j3.cell (i := 1) rfl
    have c22 := j3.cell (i := 0) rfl
    have c3 := (j1.cell (p := ⟨ag, ao, none⟩) hab).trans hr0
    have c4 := (j1.cell (p := ⟨bg, bo, none⟩) hbb).trans hs0
    have hm0 : (0 : Int) < (m : Int) := by omega
    have hm9 : ¬ m = 0 := by omega
    have hm7 : 0 < m := by omega
    have hm8 : decide (0 < m) = true := decide_eq_true (by omega)
    have ho0 : (0 : Int) < (m' : Int) := by omega
    have ho9 : ¬ m' = 0 := by omega
    have ho7 : 0 < m' := by omega
    have ho8 : decide (0 < m') = true := decide_eq_true (by omega)
    have HJ1 := Lib.hid j1
    have HJ2 := Lib.hid j2
    have HJ3 := Lib.hid j3
    have HJ4 := Lib.hid j4
    clear j1 j2 j3 j4 hb4
    by_cases hmm : m = m'
    · subst hmm
      have hd : ((m : Int) != (m : Int)) = false := by simp
      by_cases hnn : n0 = n0'
      · subst hnn
        have hdn : ((n0 : Int) != (n0 : Int)) = false := by simp
        go_wp2_with fail
        go_quiet (fail)
        first | rename_i nq | skip
        have HDR0 := Lib.hid (below_drewN (Below.refl w4.heap.size w4) nq)
        have HQ1 := Lib.hid (HJ1.out.trans (HDR0.out.mono HJ1.out.size))
        have HQ2 := Lib.hid (HJ2.out.below HDR0.out HJ2.out.lt)
        have HQ3 := Lib.hid (HJ3.out.below HDR0.out HJ3.out.lt)
        have HQ4 := Lib.hid (HJ4.out.below HDR0.out HJ4.out.lt)
        have hszq : w.heap.size + 1 + 1 + 1 ≤ (w4.drewN nq).heap.size := Nat.le_trans hszx HDR0.out.size
        clear c0 c1 c2 c22 c3 c4
        generalize w4.drewN nq = w5 at HQ1 HQ2 HQ3 HQ4 hszq
        have c0 := HQ2.out.cell (i := 0) rfl
        have c1 := HQ2.out.cell (i := 1) rfl
        have c2 := HQ3.out.cell (i := 1) rfl
        have c3 := (HQ1.out.cell (p := ⟨ag, ao, none⟩) hab).trans hr0
        clear HJ1 HJ2 HJ3 HJ4 HDR0 hszx
        have HBL := fun W => Lib.hid (blank_any p m n0 W (by omega) (by omega) (by omega))
        have HKB := Lib.hid (fun (W : World) (hb : Below w5.heap.size w5 W) => (show W.cell? ⟨w.heap.size, 0, none⟩ = some (.int .i64 p) ∧ W.cell? ⟨w.heap.size, 1, none⟩ = some (.slice (some ⟨ag, ao, none⟩) m ac) ∧ W.cell? ⟨ag, ao, none⟩ = some (.slice (RA 0) n0 (CA 0)) ∧ W.cell? ⟨w.heap.size + 1, 1, none⟩ = some (.slice (some ⟨bg, bo, none⟩) m bc) from
          ⟨(HQ2.out.below hb HQ2.out.lt).cell rfl, (HQ2.out.below hb HQ2.out.lt).cell rfl, ((HQ1.out.trans (hb.mono HQ1.out.size)).cell (p := ⟨ag, ao, none⟩) hab).trans hr0, (HQ3.out.below hb HQ3.out.lt).cell rfl⟩))
        go_wp2_with fail
        have HDR := Lib.hid (below_drew (Below.refl w5.heap.size w5))
        have HTB := Lib.hid (fun (W W' : World) (h : Below w5.heap.size w5 W) (h' : Below W.heap.size W W') => (show Below w5.heap.size w5 W' from h.trans (h'.mono h.size)))
        have HKA := Lib.hid (fun (W : World) (o : Obj) (h : Below w5.heap.size w5 W) => HKB.out (W.alloc o) (h.alloc h.size o))
        have HKC := Lib.hid (fun (W : World) (u v : Value) (h : Below w5.heap.size w5 W) => HKB.out ((W.setCell ⟨w5.heap.size, 0, none⟩ u).setCell ⟨w5.heap.size, 1, none⟩ v) (setCell2_lo h (Nat.le_refl _) u v))
        have h30 := HDR.out
        have HAL := Lib.hid (show Below w5.heap.size w5 (w5.alloc (.cells #[.int .i64 0, .slice none 0 0] 46)).drew from below_drew ((Below.refl _ _).alloc (Nat.le_refl _) _))
        have h31 := HAL.out
        have HRT := Lib.hid (show Row (w5.alloc (.cells #[.int .i64 0, .slice none 0 0] 46)).drew w5.heap.size 46 #[.int .i64 0, .slice none 0 0] from row_new rfl _ _)
        have HTT := Lib.hid (fun (W : World) (hb : Below (w5.alloc (.cells #[.int .i64 0, .slice none 0 0] 46)).drew.heap.size (w5.alloc (.cells #[.int .i64 0, .slice none 0 0] 46)).drew W) => (show W.cell? ⟨w5.heap.size, 0, none⟩ = some (.int .i64 0) ∧ W.cell? ⟨w5.heap.size, 1, none⟩ = some (.slice none 0 0) ∧ W.frozen? ⟨w5.heap.size, 0, none⟩ = false ∧ W.frozen? ⟨w5.heap.size, 1, none⟩ = false ∧ Row W w5.heap.size 46 #[.int .i64 0, .slice none 0 0] from
          ⟨(HRT.out.below hb HRT.out.lt).cell rfl, (HRT.out.below hb HRT.out.lt).cell rfl, (HRT.out.below hb HRT.out.lt).frozen 0, (HRT.out.below hb HRT.out.lt).frozen 1, HRT.out.below hb HRT.out.lt⟩))
        go_region_held3 (fun W => W.cell? ⟨w.heap.size, 0, none⟩ = some (.int .i64 p) ∧ W.cell? ⟨w.heap.size, 1, none⟩ = some (.slice (some ⟨ag, ao, none⟩) m ac) ∧ W.cell? ⟨ag, ao, none⟩ = some (.slice (RA 0) n0 (CA 0)) ∧ W.cell? ⟨w.heap.size + 1, 1, none⟩ = some (.slice (some ⟨bg, bo, none⟩) m bc))
          ((first | assumption | (with_reducible exact HKB.out _ HDR.out) | (with_reducible exact HKB.out _ HAL.out) | (with_reducible exact HKA.out _ _ (by assumption)) | (with_reducible exact HKC.out _ _ _ (by assumption))))
          ((go_at_call 82; (with_reducible refine (HBL _).out.mono ?_); rintro e w7 ⟨v, rfl, hW, hb5⟩; (first | (with_reducible have h35 := HTB.out _ _ h30 hb5) | ((with_reducible have h35 := HTB.out _ _ h31 hb5); (with_reducible have hT := HTT.out _ hb5); obtain ⟨t0, t1, t2, t3, hRT⟩ := hT)); have hk := HKB.out _ h35; obtain ⟨g0, cap, rb, rfl, -⟩ := hW.at_))
        all_goals first
          | (have HWI := Lib.hid (wri_b (p := p) hW hRT h35); generalize (w7.setCell ⟨w5.heap.size, 0, none⟩ (.int .i64 p)).setCell ⟨w5.heap.size, 1, none⟩ (.slice (some ⟨g0, 0, none⟩) m cap) = w6 at HWI ⊢; generalize w5.heap.size = T at HWI ⊢)
          | (have HWI := Lib.hid (wri_a (w3 := w5) (p := p) hW h35); generalize w7.alloc (.cells #[.int .i64 p, (.slice (some ⟨g0, 0, none⟩) m cap)] 46) = w6 at HWI ⊢; generalize w7.heap.size = T at HWI ⊢)
        all_goals clear hW h35 hk hb5 h30 h31
        all_goals
          obtain ⟨G, hG⟩ : ∃ G : Nat → Nat → Int, (fun i => axpy 1 p (f i) (f' i)) = G := ⟨_, rfl⟩
          have HGE := Lib.hid (show ∀ a b, (f a b + 1 * f' a b) % p = G a b from fun a b => by rw [← hG]; rfl)
          have HGG := Lib.hid hG
          have HST := Lib.hid (show WrI w5 T p (.slice (some ⟨g0, 0, none⟩) m cap) m n0 (stg G 0 0 0) w6 from by rw [stg_start]; exact HWI.out)
          have HEND := Lib.hid (show ∀ wr, WrI w5 T p (.slice (some ⟨g0, 0, none⟩) m cap) m n0 (stg G m 0 0) wr → WrI w5 T p (.slice (some ⟨g0, 0, none⟩) m cap) m n0 G wr from fun wr h => h.congr fun a ha b hb => stg_end _ _ a ha b)
          have hp9 : ¬ p = 0 := by omega
          have hp8 : (p != 0) = true := by simp; omega
          clear c0 c1 c2 c3 HWI HBL HKA HKC HAL HRT HTT HDR hG
          go_wp2
          go_loopw [8] (fun t6 wr => ∃ i : Nat, t6 = .int .i64 i ∧ i ≤ m ∧ WrI w5 T p (.slice (some ⟨g0, 0, none⟩) m cap) m n0 (stg G i 0 0) wr) (fun t6 _ => m - (intOf t6).toNat)
          case atStart => exact ⟨0, rfl, Nat.zero_le _, HST.out⟩
          case round =>
            obtain ⟨i, rfl, hi, hW⟩ := hrel
            obtain ⟨c0, c1, c3, c2⟩ := HKB.out _ hW.b
            by_cases him : i < m
            · have hd9 : decide ((i : Int) < (m : Int)) = true := decide_eq_true (by omega)
              have HW0 := Lib.hid hW
              clear hW
              go_wp2
              clear c0 c1 c3 c2
              go_loopw [9] (fun t7 wr => ∃ k : Nat, t7 = .int .i64 k ∧ k ≤ n0 ∧ WrI w5 T p (.slice (some ⟨g0, 0, none⟩) m cap) m n0 (stg G i k 0) wr) (fun t7 _ => n0 - (intOf t7).toNat)
              case atStart => exact ⟨0, rfl, Nat.zero_le _, HW0.out⟩
              case round =>
                obtain ⟨k, rfl, hk, hW⟩ := hrel
                rename World => W2
                obtain ⟨c0, c1, c3, c2⟩ := HKB.out _ hW.b
                by_cases hkn : k < n0
                · have hd10 : decide ((k : Int) < (n0 : Int)) = true := decide_eq_true (by omega)
                  obtain ⟨g', cap', rb', e, hcl⟩ := hW.at_
                  cases e
                  obtain ⟨e1, e2⟩ := hcl i (by omega)
                  obtain ⟨e3, e4, e5⟩ := e2 k (by omega)
                  have c4 := hW.box.cell (i := 1) rfl
                  have hBw := HQ1.out.trans (hW.b.mono HQ1.out.size)
                  obtain ⟨u1, u2⟩ := HAG.out i him
                  obtain ⟨ub, uo, uc, ue, _, uS, ucl⟩ := u2.at_ (by omega)
                  rw [ue] at u1
                  have u3 := (hBw.cell (p := ⟨ag, ao + i, none⟩) hab).trans u1
                  have u4 := (hBw.cell (p := ⟨ub, uo + k, none⟩) uS).trans (ucl k hkn)
                  obtain ⟨v1, v2⟩ := HBG.out i him
                  obtain ⟨vb, vo, vc, ve, _, vS, vcl⟩ := v2.at_ (by omega)
                  rw [ve] at v1
                  have v3 := (hBw.cell (p := ⟨bg, bo + i, none⟩) hbb).trans v1
                  have v4 := (hBw.cell (p := ⟨vb, vo + k, none⟩) vS).trans (vcl k hkn)
                  have hx := HINA.out i him k hkn
                  have hy := HINB.out i him k hkn
                  have hGv := HGE.out i k
                  have HE5 := Lib.hid (fun x => (e5 x).drew)
                  generalize stg G i k 0 i k = s at e3
                  rw [Int.one_mul] at hGv
                  generalize f i k = x at u4 hx hGv
                  generalize f' i k = y at v4 hy hGv
                  obtain ⟨z, hz⟩ : ∃ z, x + y = z := ⟨_, rfl⟩
                  have hw1 : IntKind.i64.wrap (x + y) = z := by rw [hz]; exact IntWalk.i64_in _ ⟨by omega, by omega⟩
                  rw [hz] at hGv
                  have hzb : 0 ≤ z ∧ z ≤ 20000 := by omega
                  have hr : z.tmod p = z % p := Int.tmod_eq_emod_of_nonneg (by omega)
                  have hr1 : 0 ≤ z % p := Int.emod_nonneg _ (by omega)
                  have hr2 : z % p < p := Int.emod_lt_of_pos _ (by omega)
                  have hw3 : IntKind.i64.wrap (z % p) = z % p := IntWalk.i64_in _ ⟨by omega, by omega⟩
                  have HNX := Lib.hid (show WrI w5 T p (.slice (some ⟨g0, 0, none⟩) m cap) m n0 (stg G i (k + 1) 0) (W2.setCell ⟨rb' i, k, none⟩ (.int .i64 (z % p))).drew from by
                    have := HE5.out (z % p)
                    rw [stg_upd, hGv] at this
                    rw [← stg_next, hGv]
                    exact this)
                  have i1 : (i : Int) < (m : Int) := by omega
                  have i2 : (0 : Int) ≤ (i : Int) := by omega
                  have i3 : (k : Int) < (n0 : Int) := by omega
                  have i4 : (0 : Int) ≤ (k : Int) := by omega
                  clear hz hGv hcl e2 e5 hBw u1 u2 ucl ue v1 v2 vcl ve hW HE5 hx hy
                  go_wp2_with fail
                  go_still_tail 27, (by kernel_rfl)
                  repeat still_step
                  change wpList _ _ _ _ _ W2.drew
                  go_wp2_with fail
                  go_roundw
                  case rel => exact ⟨k + 1, by go_num, by omega, HNX.out⟩
                  case measure => simp [intOf]; omega
                · have e : k = n0 := by omega
                  subst e
                  have HN := Lib.hid (hW.congr (G := stg G (i + 1) 0 0) fun a ha b hb => stg_row G i k a b hb)
                  clear hW
                  go_wp2
                  go_roundw
                  case rel => exact ⟨i + 1, by go_num, by omega, HN.out⟩
                  case measure => simp [intOf]; omega
            · have e : i = m := by omega
              subst e
              have hE := HEND.out _ hW
              have c4 := hE.box.cell (i := 0) rfl
              have c5 := hE.box.cell (i := 1) rfl
              have hR := HQ4.out.below hE.b HQ4.out.lt
              have d0 := hR.cell (i := 0) rfl
              have d1 := hR.cell (i := 1) rfl
              have f0 := hR.frozen 0
              have f1 := hR.frozen 1
              have hBw := HQ1.out.trans (hE.b.mono HQ1.out.size)
              have HXR := Lib.hid (agg_res hR hBw (by omega) (.int .i64 p) (.slice (some ⟨g0, 0, none⟩) i cap))
              have HGR := Lib.hid ((hE.wm.grid.set2 (R := w.heap.size + 1 + 1) (fun h => by have := h.1; omega) (.int .i64 p) (.slice (some ⟨g0, 0, none⟩) i cap)).more (S' := New w ((wr.setCell ⟨w.heap.size + 1 + 1, 0, none⟩ (.int .i64 p)).setCell ⟨w.heap.size + 1 + 1, 1, none⟩ (.slice (some ⟨g0, 0, none⟩) i cap))) (fun b h => ⟨by have := h.1; omega, by rw [size_set2]; exact h.2⟩))
              clear hW hE hR hBw
              go_wp2
              obtain ⟨k3, k2⟩ := HXR.out
              have hc0 := k3.cell (i := 0) rfl
              have hc1 := k3.cell (i := 1) rfl
              refine bodyPost_ret (v := .tuple #[.agg #[.int .i64 p, (.slice (some ⟨g0, 0, none⟩) i cap)], .int .i64 0]) ?_ rfl ?_
              · simp [results, Try.results34, go_sem, hc0, hc1]
              · rw [← HPP.out]; exact ⟨fun h => absurd rfl h, fun _ h => absurd (by simp) h, fun _ _ => ⟨_, rfl, by rw [HGG.out]; exact HGR.out, k2⟩⟩

      · have hdn : ((n0 : Int) != (n0' : Int)) = true := by simp; omega
        have HE := Lib.hid (fun nq => end_bad (w := w) (HJ4.out.drewN nq) (below_drewN HJ1.out nq) (B := w.heap.size) (by omega))
        have d0 := HJ4.out.cell (i := 0) rfl
        have d1 := HJ4.out.cell (i := 1) rfl
        have f0 := HJ4.out.frozen 0
        have f1 := HJ4.out.frozen 1
        go_wp2_with fail
        go_quiet (fail)
        rename_i nq
        go_wp2_with fail
        obtain ⟨k3, k2⟩ := HE.out nq
        have hc0 := k3.cell (i := 0) rfl
        have hc1 := k3.cell (i := 1) rfl
        refine bodyPost_ret (v := .tuple #[.agg #[.int .i64 0, .slice none 0 0], .int .i64 10]) ?_ rfl ?_
        · simp [results, Try.results34, go_sem, hc0, hc1]
        · rw [← HPP.out]; exact ⟨fun h => absurd rfl h, fun _ _ => ⟨rfl, k2⟩, fun _ h => absurd h (fun h => hnn h.2)⟩
    · have hd : ((m : Int) != (m' : Int)) = true := by simp; omega
      have HE := Lib.hid (fun nq => end_bad (w := w) (HJ4.out.drewN nq) (below_drewN HJ1.out nq) (B := w.heap.size) (by omega))
      have d0 := HJ4.out.cell (i := 0) rfl
      have d1 := HJ4.out.cell (i := 1) rfl
      have f0 := HJ4.out.frozen 0
      have f1 := HJ4.out.frozen 1
      go_wp2_with fail
      go_quiet (fail)
      rename_i nq
      go_wp2_with fail
      obtain ⟨k3, k2⟩ := HE.out nq
      have hc0 := k3.cell (i := 0) rfl
      have hc1 := k3.cell (i := 1) rfl
      refine bodyPost_ret (v := .tuple #[.agg #[.int .i64 0, .slice none 0 0], .int .i64 10]) ?_ rfl ?_
      · simp [results, Try.results34, go_sem, hc0, hc1]
      · rw [← HPP.out]; exact ⟨fun h => absurd rfl h, fun _ _ => ⟨rfl, k2⟩, fun _ h => absurd h (fun h => hmm h.1)⟩
  · have hd2 : (x != 0) = true := by simpa using hx0
    obtain ⟨A, c, rfl, _⟩ := ha.form
    obtain ⟨B, d, rfl, _⟩ := hb.form
    have HX3 := Lib.hid (box3 w #[.int .i64 p, .slice A m c] #[.int .i64 q, .slice B m' d])
    have HPO := Lib.hid (fun (e : Ending) (w' : World) (h : BadM w x e w') => (show MPost x (m = m' ∧ n 0 = n' 0) w p m (n 0) (fun i => axpy 1 p (f i) (f' i)) e w' from ⟨fun _ => h, (fun h => absurd h hx0), fun h => absurd h hx0⟩))
    generalize MPost x (m = m' ∧ n 0 = n' 0) w p m (n 0) (fun i => axpy 1 p (f i) (f' i)) = PP at HPO ⊢
    clear ha hb hn hn' hx0 HX
    go_enter Try.func34, Try.ntmps34
    go_wp2_with fail
    generalize ((w.alloc (.cells #[.int .i64 p, .slice A m c] 46)).alloc (.cells #[.int .i64 q, .slice B m' d] 46)).alloc (.cells #[.int .i64 0, .slice none 0 0] 46) = w3 at HX3
    refine (HC _ (HA.out.on HX3.out.be) (HB.out.on HX3.out.be)).out.mono ?_
    rintro e w4 ⟨rfl, hb4⟩
    obtain ⟨j1, j2, j3, j4⟩ := HX3.out.on hb4
    have HE := Lib.hid (end_bad (w := w) j4 j1 (B := w.heap.size) (by omega))
    have d0 := j4.cell (i := 0) rfl
    have d1 := j4.cell (i := 1) rfl
    have f0 := j4.frozen 0
    have f1 := j4.frozen 1
    clear j1 j2 j3 j4 hb4
    go_wp2_with fail
    obtain ⟨k3, k2⟩ := HE.out
    have hc0 := k3.cell (i := 0) rfl
    have hc1 := k3.cell (i := 1) rfl
    refine bodyPost_ret (v := .tuple #[.agg #[.int .i64 0, .slice none 0 0], .int .i64 x]) ?_ rfl (HPO.out _ _ ⟨rfl, k2⟩)
    simp [results, Try.results34, go_sem, hc0, hc1]
end Go.Proofs.Ytaieeljkalciiaa
