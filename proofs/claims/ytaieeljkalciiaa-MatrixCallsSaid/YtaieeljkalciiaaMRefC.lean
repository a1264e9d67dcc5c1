/- The reference of matrix: Scale, Turn. Written by genmref.py. -/
import Derived.Test.YtaieeljkalciiaaMRefB
namespace Go.Proofs.Ytaieeljkalciiaa
open Go Go.RowKit Num

/-- The same, column by column. -/
def stgT (G : Nat → Nat → Int) (i k : Nat) (x : Int) (a b : Nat) : Int := stg (fun a b => G b a) i k x b a
theorem stgT_upd (G : Nat → Nat → Int) (i k : Nat) (x y : Int) : updF (stgT G i k x) k i y = stgT G i k y := by
  funext a b
  have := congrFun (congrFun (stg_upd (fun a b => G b a) i k x y) b) a
  unfold updF at this ⊢
  unfold stgT
  rw [← this]
  by_cases h : a = k ∧ b = i
  · rw [if_pos h, if_pos h.symm]
  · rw [if_neg h, if_neg fun e => h e.symm]
theorem stgT_next (G : Nat → Nat → Int) (i k : Nat) : stgT G i k (G k i) = stgT G i (k + 1) 0 := by
  funext a b
  exact congrFun (congrFun (stg_next (fun a b => G b a) i k) b) a
theorem stgT_start (G : Nat → Nat → Int) : stgT G 0 0 0 = fun _ _ => 0 := by
  funext a b
  exact congrFun (congrFun (stg_start (fun a b => G b a)) b) a

set_option maxRecDepth 100000 in
set_option maxHeartbeats 4000000 in
theorem rScale_any (ra : Value) (m : Nat) (n : Nat → Nat) (f : Nat → Nat → Int) (p : Int) (k : Int) (w : World) (hm : m ≤ 1000000) (hn : ∀ i, i < m → n i ≤ 1000000) (ha : Grid w (· < w.heap.size) ra m n f) (x : Int) (hx : x = chkM p m n f) :
    Calls Try.prog 36 #[.agg #[.int .i64 p, ra], .int .i64 k] w (MPost x True w p m (n 0) (fun i => axpy (resV k p.toNat : Nat) p (fun _ => 0) (f i))) := by
  have HC := fun W h => Lib.hid (rCheck_any ra m n f p W hm hn h)
  rw [← hx] at HC
  have HX := Lib.hid hx
  have HA := Lib.hid ha
  clear hx
  by_cases hx0 : x = 0
  · subst hx0
    obtain ⟨hmod, g1, g2, g3, g4, g5⟩ := chkM_zero HX.out.symm
    obtain ⟨hp2, hp4, hp6⟩ := modB_true hmod
    obtain ⟨pn, rfl⟩ : ∃ pn : Nat, p = pn := ⟨p.toNat, by omega⟩
    obtain ⟨ag, ao, ac, RA, CA, rfl, hac, hab, hag⟩ := ha.at_ (by omega)
    have hr0 := (hag 0 (by omega)).1
    rw [Nat.add_zero] at hr0
    rw [Int.toNat_natCast]
    have HPK := fun W => Lib.hid (Pick_any k pn W (by omega) (by omega))
    have hrs := resV_lt k (p := pn) (by omega)
    have HPO := Lib.hid (fun (e : Ending) (w' : World) (h : OkM w pn m (n 0) (fun i => axpy (resV k pn : Nat) pn (fun _ => 0) (f i)) e w') => (show MPost 0 True w pn m (n 0) (fun i => axpy (resV k pn : Nat) pn (fun _ => 0) (f i)) e w' from ⟨fun h => absurd rfl h, fun _ h => absurd trivial h, fun _ _ => h⟩))
    generalize MPost 0 True w pn m (n 0) (fun i => axpy (resV k pn : Nat) pn (fun _ => 0) (f i)) = PP at HPO ⊢
    generalize resV k pn = kk at HPK hrs HPO
    have HIN := Lib.hid (fun i (hi : i < m) => (show InP (pn : Int) (n 0) (f i) from by have := (g5 i hi).2; rw [(g5 i hi).1] at this; exact this))
    have HAG := Lib.hid (show ∀ i, i < m → w.cell? ⟨ag, ao + i, none⟩ = some (.slice (RA i) (n 0) (CA i)) ∧ Vec w (· < w.heap.size) (.slice (RA i) (n 0) (CA i)) (n 0) (f i) from fun i hi => by have := hag i hi; rwa [(g5 i hi).1] at this)
    have HX2 := Lib.hid (box2 w #[.int .i64 pn, .slice (some ⟨ag, ao, none⟩) m ac])
    generalize n 0 = n0 at HIN HAG g3 g4 HPO hr0
    have HBL := fun W => Lib.hid (blank_any (pn : Int) m n0 W (by omega) (by omega) (by omega))
    clear ha hn g5 hmod hag HX
    go_enter Try.func36, Try.ntmps36
    go_wp2_with fail
    generalize (w.alloc (.cells #[.int .i64 pn, .slice (some ⟨ag, ao, none⟩) m ac] 46)).alloc (.cells #[.int .i64 0, .slice none 0 0] 46) = w3 at HX2
    refine (HC _ (HA.out.on HX2.out.be)).out.mono ?_
    rintro e w4 ⟨rfl, hb4⟩
    obtain ⟨j1, j2, j3⟩ := HX2.out.on hb4
    have HJ1 := Lib.hid j1
    have HJ2 := Lib.hid j2
    have HJ3 := Lib.hid j3
    have hsz4 : w.heap.size + 1 + 1 ≤ w4.heap.size := by have h1 := HX2.out.sz; have h2 := hb4.size; omega
    have c0 := j2.cell (i := 0) rfl
    have c1 := j2.cell (i := 1) rfl
    have c3 := (j1.cell (p := ⟨ag, ao, none⟩) hab).trans hr0
    have hm0 : (0 : Int) < (m : Int) := by omega
    have hm9 : ¬ m = 0 := by omega
    have hm7 : 0 < m := by omega
    have hm8 : decide (0 < m) = true := decide_eq_true (by omega)
    have HKB := Lib.hid (fun (W : World) (hb : Below w4.heap.size w4 W) => (show W.cell? ⟨w.heap.size, 0, none⟩ = some (.int .i64 pn) ∧ W.cell? ⟨w.heap.size, 1, none⟩ = some (.slice (some ⟨ag, ao, none⟩) m ac) ∧ W.cell? ⟨ag, ao, none⟩ = some (.slice (RA 0) n0 (CA 0)) from
      ⟨(HJ2.out.below hb HJ2.out.lt).cell rfl, (HJ2.out.below hb HJ2.out.lt).cell rfl, ((HJ1.out.trans (hb.mono HJ1.out.size)).cell (p := ⟨ag, ao, none⟩) hab).trans hr0⟩))
    clear j1 j2 j3 hb4 HX2
    go_wp2_with fail
    refine (HPK _).out.mono ?_
    rintro e q0 ⟨rfl, hq0⟩
    rw [hq0]
    clear hq0
    go_wp2_with fail
    have HDR := Lib.hid (below_drew (Below.refl w4.heap.size w4))
    have HTB := Lib.hid (fun (W W' : World) (h : Below w4.heap.size w4 W) (h' : Below W.heap.size W W') => (show Below w4.heap.size w4 W' from h.trans (h'.mono h.size)))
    have HKA := Lib.hid (fun (W : World) (o : Obj) (h : Below w4.heap.size w4 W) => HKB.out (W.alloc o) (h.alloc h.size o))
    have HKC := Lib.hid (fun (W : World) (u v : Value) (h : Below w4.heap.size w4 W) => HKB.out ((W.setCell ⟨w4.heap.size, 0, none⟩ u).setCell ⟨w4.heap.size, 1, none⟩ v) (setCell2_lo h (Nat.le_refl _) u v))
    have h30 := HDR.out
    have HAL := Lib.hid (show Below w4.heap.size w4 (w4.alloc (.cells #[.int .i64 0, .slice none 0 0] 46)).drew from below_drew ((Below.refl _ _).alloc (Nat.le_refl _) _))
    have h31 := HAL.out
    have HRT := Lib.hid (show Row (w4.alloc (.cells #[.int .i64 0, .slice none 0 0] 46)).drew w4.heap.size 46 #[.int .i64 0, .slice none 0 0] from row_new rfl _ _)
    have HTT := Lib.hid (fun (W : World) (hb : Below (w4.alloc (.cells #[.int .i64 0, .slice none 0 0] 46)).drew.heap.size (w4.alloc (.cells #[.int .i64 0, .slice none 0 0] 46)).drew W) => (show W.cell? ⟨w4.heap.size, 0, none⟩ = some (.int .i64 0) ∧ W.cell? ⟨w4.heap.size, 1, none⟩ = some (.slice none 0 0) ∧ W.frozen? ⟨w4.heap.size, 0, none⟩ = false ∧ W.frozen? ⟨w4.heap.size, 1, none⟩ = false ∧ Row W w4.heap.size 46 #[.int .i64 0, .slice none 0 0] from
      ⟨(HRT.out.below hb HRT.out.lt).cell rfl, (HRT.out.below hb HRT.out.lt).cell rfl, (HRT.out.below hb HRT.out.lt).frozen 0, (HRT.out.below hb HRT.out.lt).frozen 1, HRT.out.below hb HRT.out.lt⟩))
    go_region_held3 (fun W => W.cell? ⟨w.heap.size, 0, none⟩ = some (.int .i64 pn) ∧ W.cell? ⟨w.heap.size, 1, none⟩ = some (.slice (some ⟨ag, ao, none⟩) m ac) ∧ W.cell? ⟨ag, ao, none⟩ = some (.slice (RA 0) n0 (CA 0)))
      ((first | assumption | (with_reducible exact HKB.out _ HDR.out) | (with_reducible exact HKB.out _ HAL.out) | (with_reducible exact HKA.out _ _ (by assumption)) | (with_reducible exact HKC.out _ _ _ (by assumption))))
      ((go_at_call 82; (with_reducible refine (HBL _).out.mono ?_); rintro e w5 ⟨v, rfl, hW, hb5⟩; (first | (with_reducible have h35 := HTB.out _ _ h30 hb5) | ((with_reducible have h35 := HTB.out _ _ h31 hb5); (with_reducible have hT := HTT.out _ hb5); obtain ⟨t0, t1, t2, t3, hRT⟩ := hT)); have hk := HKB.out _ h35; obtain ⟨g0, cap, rb, rfl, -⟩ := hW.at_))
    all_goals first
      | (have HWI := Lib.hid (wri_b (p := pn) hW hRT h35); generalize (w5.setCell ⟨w4.heap.size, 0, none⟩ (.int .i64 pn)).setCell ⟨w4.heap.size, 1, none⟩ (.slice (some ⟨g0, 0, none⟩) m cap) = w6 at HWI ⊢; generalize w4.heap.size = T at HWI ⊢)
      | (have HWI := Lib.hid (wri_a (w3 := w4) (p := pn) hW h35); generalize w5.alloc (.cells #[.int .i64 pn, (.slice (some ⟨g0, 0, none⟩) m cap)] 46) = w6 at HWI ⊢; generalize w5.heap.size = T at HWI ⊢)
    all_goals clear hW h35 hk hb5 h30 h31
    all_goals
      generalize hGG : (fun i => axpy (kk : Nat) pn (fun _ => 0) (f i)) = G at HPO
      have HGG := Lib.hid hGG
      have HGE := Lib.hid (show ∀ a b, (fun i => axpy (kk : Nat) pn (fun _ => 0) (f i)) a b = G a b from fun a b => by rw [hGG])
      have HST := Lib.hid (show WrI w4 T pn (.slice (some ⟨g0, 0, none⟩) m cap) m n0 (stg G 0 0 0) w6 from by rw [stg_start]; exact HWI.out)
      have HEND := Lib.hid (show ∀ wr, WrI w4 T pn (.slice (some ⟨g0, 0, none⟩) m cap) m n0 (stg G m 0 0) wr → WrI w4 T pn (.slice (some ⟨g0, 0, none⟩) m cap) m n0 G wr from fun wr h => h.congr fun a ha b hb => stg_end _ _ a ha b)
      have hp9 : ¬ pn = 0 := by omega
      have hp8 : ((pn : Int) != 0) = true := by simp; omega
      clear c0 c1 c3 HWI HBL HKA HKC HAL HRT HTT HDR hGG
      go_wp2
      go_loopw [8] (fun t6 wr => ∃ i : Nat, t6 = .int .i64 i ∧ i ≤ m ∧ WrI w4 T pn (.slice (some ⟨g0, 0, none⟩) m cap) m n0 (stg G i 0 0) wr) (fun t6 _ => m - (intOf t6).toNat)
      case atStart => exact ⟨0, rfl, Nat.zero_le _, HST.out⟩
      case round =>
        obtain ⟨i, rfl, hi, hW⟩ := hrel
        obtain ⟨c0, c1, c3⟩ := HKB.out _ hW.b
        by_cases him : i < m
        · have hd : decide ((i : Int) < (m : Int)) = true := decide_eq_true (by omega)
          have HW0 := Lib.hid hW
          clear hW
          go_wp2
          clear c0 c1 c3
          go_loopw [9] (fun t7 wr => ∃ k : Nat, t7 = .int .i64 k ∧ k ≤ n0 ∧ WrI w4 T pn (.slice (some ⟨g0, 0, none⟩) m cap) m n0 (stg G i k 0) wr) (fun t7 _ => n0 - (intOf t7).toNat)
          case atStart => exact ⟨0, rfl, Nat.zero_le _, HW0.out⟩
          case round =>
            obtain ⟨k, rfl, hk, hW⟩ := hrel
            rename World => W2
            obtain ⟨c0, c1, c3⟩ := HKB.out _ hW.b
            by_cases hkn : k < n0
            · have hd2 : decide ((k : Int) < (n0 : Int)) = true := decide_eq_true (by omega)
              obtain ⟨g', cap', rb', e, hcl⟩ := hW.at_
              cases e
              obtain ⟨e1, e2⟩ := hcl i (by omega)
              obtain ⟨e3, e4, e5⟩ := e2 k (by omega)
              have c4 := hW.box.cell (i := 1) rfl
              have hBw := HJ1.out.trans (hW.b.mono HJ1.out.size)
              obtain ⟨u1, u2⟩ := HAG.out i him
              obtain ⟨ub, uo, uc, ue, _, uS, ucl⟩ := u2.at_ (by omega)
              rw [ue] at u1
              have u3 := (hBw.cell (p := ⟨ag, ao + i, none⟩) hab).trans u1
              have u4 := (hBw.cell (p := ⟨ub, uo + k, none⟩) uS).trans (ucl k hkn)
              have hx := HIN.out i him k hkn
              have hGv := HGE.out i k
              have HE5 := Lib.hid (fun x => (e5 x).drew)
              generalize stg G i k 0 i k = s at e3
              have hGv2 : (0 + (kk : Int) * f i k) % (pn : Int) = G i k := hGv
              generalize f i k = y at u4 hx hGv2
              have hmul := mul_in (a := y) (b := (kk : Int)) (p := pn) (q := pn) ⟨hx.1, by omega⟩ ⟨by omega, by omega⟩ (by omega) (by omega)
              obtain ⟨z, hz⟩ : ∃ z, y * (kk : Int) = z := ⟨_, rfl⟩
              have hw1 : IntKind.i64.wrap (y * (kk : Int)) = z := by rw [hz]; exact IntWalk.i64_in _ ⟨by omega, by omega⟩
              rw [Int.zero_add, Int.mul_comm, hz] at hGv2
              rw [hz] at hmul
              have hr : z.tmod pn = z % pn := Int.tmod_eq_emod_of_nonneg (by omega)
              have hr1 : 0 ≤ z % (pn : Int) := Int.emod_nonneg _ (by omega)
              have hr2 : z % (pn : Int) < pn := Int.emod_lt_of_pos _ (by omega)
              have hw3 : IntKind.i64.wrap (z % (pn : Int)) = z % pn := IntWalk.i64_in _ ⟨by omega, by omega⟩
              have HNX := Lib.hid (show WrI w4 T pn (.slice (some ⟨g0, 0, none⟩) m cap) m n0 (stg G i (k + 1) 0) (W2.setCell ⟨rb' i, k, none⟩ (.int .i64 (z % (pn : Int)))).drew from by
                have := HE5.out (z % (pn : Int))
                rw [stg_upd, hGv2] at this
                rw [← stg_next, hGv2]
                exact this)
              clear hz hGv hGv2
              have i1 : (i : Int) < (m : Int) := by omega
              have i2 : (0 : Int) ≤ (i : Int) := by omega
              have i3 : (k : Int) < (n0 : Int) := by omega
              have i4 : (0 : Int) ≤ (k : Int) := by omega
              clear hcl e2 e5 hBw u1 u2 ucl ue hW HE5 hx
              go_wp2_with fail
              go_still_tail 20, (by kernel_rfl)
              repeat still_step
              change wpList _ _ _ _ _ W2.drew
              go_wp2_with fail
              go_roundw
              case rel => exact ⟨k + 1, by go_num, by omega, HNX.out⟩
              case measure => simp [intOf]; omega
            · have e : k = n0 := by omega
              subst e
              have HN := Lib.hid (hW.congr (G := stg G (i + 1) 0 0) fun a ha b hb => stg_row G i k a b hb)
              clear hW
              go_wp2
              go_roundw
              case rel => exact ⟨i + 1, by go_num, by omega, HN.out⟩
              case measure => simp [intOf]; omega
        · have e : i = m := by omega
          subst e
          have hE := HEND.out _ hW
          have c4 := hE.box.cell (i := 0) rfl
          have c5 := hE.box.cell (i := 1) rfl
          have hR := HJ3.out.below hE.b HJ3.out.lt
          have d0 := hR.cell (i := 0) rfl
          have d1 := hR.cell (i := 1) rfl
          have f0 := hR.frozen 0
          have f1 := hR.frozen 1
          have hBw := HJ1.out.trans (hE.b.mono HJ1.out.size)
          have HXR := Lib.hid (agg_res hR hBw (by omega) (.int .i64 pn) (.slice (some ⟨g0, 0, none⟩) i cap))
          have HGR := Lib.hid ((hE.wm.grid.set2 (R := w.heap.size + 1) (fun h => by have := h.1; omega) (.int .i64 pn) (.slice (some ⟨g0, 0, none⟩) i cap)).more (S' := New w ((wr.setCell ⟨w.heap.size + 1, 0, none⟩ (.int .i64 pn)).setCell ⟨w.heap.size + 1, 1, none⟩ (.slice (some ⟨g0, 0, none⟩) i cap))) (fun b h => ⟨by have := h.1; omega, by rw [size_set2]; exact h.2⟩))
          clear hW hE hR hBw
          go_wp2
          obtain ⟨k3, k2⟩ := HXR.out
          have hc0 := k3.cell (i := 0) rfl
          have hc1 := k3.cell (i := 1) rfl
          refine bodyPost_ret (v := .tuple #[.agg #[.int .i64 pn, (.slice (some ⟨g0, 0, none⟩) i cap)], .int .i64 0]) ?_ rfl (HPO.out _ _ ⟨_, rfl, HGR.out, k2⟩)
          simp [results, Try.results36, go_sem, hc0, hc1]
  · have hd2 : (x != 0) = true := by simpa using hx0
    have HPO := Lib.hid (fun (e : Ending) (w' : World) (h : BadM w x e w') => (show MPost x True w p m (n 0) (fun i => axpy (resV k p.toNat : Nat) p (fun _ => 0) (f i)) e w' from ⟨fun _ => h, fun h => absurd h hx0, fun h => absurd h hx0⟩))
    generalize MPost x True w p m (n 0) (fun i => axpy (resV k p.toNat : Nat) p (fun _ => 0) (f i)) = PP at HPO ⊢
    obtain ⟨A, c, rfl, hcm⟩ := ha.form
    have HX2 := Lib.hid (box2 w #[.int .i64 p, .slice A m c])
    clear ha hn hx0 HX
    go_enter Try.func36, Try.ntmps36
    go_wp2_with fail
    generalize (w.alloc (.cells #[.int .i64 p, .slice A m c] 46)).alloc (.cells #[.int .i64 0, .slice none 0 0] 46) = w3 at HX2
    refine (HC _ (HA.out.on HX2.out.be)).out.mono ?_
    rintro e w4 ⟨rfl, hb4⟩
    obtain ⟨j1, j2, j3⟩ := HX2.out.on hb4
    have HE := Lib.hid (end_bad (w := w) j3 j1 (B := w.heap.size) (by omega))
    have d0 := j3.cell (i := 0) rfl
    have d1 := j3.cell (i := 1) rfl
    have f0 := j3.frozen 0
    have f1 := j3.frozen 1
    clear j1 j2 j3 hb4
    go_wp2_with fail
    obtain ⟨k3, k2⟩ := HE.out
    have hc0 := k3.cell (i := 0) rfl
    have hc1 := k3.cell (i := 1) rfl
    refine bodyPost_ret (v := .tuple #[.agg #[.int .i64 0, .slice none 0 0], .int .i64 x]) ?_ rfl (HPO.out _ _ ⟨rfl, k2⟩)
    simp [results, Try.results36, go_sem, hc0, hc1]
set_option maxRecDepth 100000 in
set_option maxHeartbeats 4000000 in
theorem rTurn_any (ra : Value) (m : Nat) (n : Nat → Nat) (f : Nat → Nat → Int) (p : Int) (w : World) (hm : m ≤ 1000000) (hn : ∀ i, i < m → n i ≤ 1000000) (ha : Grid w (· < w.heap.size) ra m n f) (x : Int) (hx : x = chkM p m n f) :
    Calls Try.prog 38 #[.agg #[.int .i64 p, ra]] w (MPost x True w p (n 0) m (fun i j => f j i)) := by
  have HC := fun W h => Lib.hid (rCheck_any ra m n f p W hm hn h)
  rw [← hx] at HC
  have HX := Lib.hid hx
  have HA := Lib.hid ha
  clear hx
  by_cases hx0 : x = 0
  · subst hx0
    obtain ⟨hmod, g1, g2, g3, g4, g5⟩ := chkM_zero HX.out.symm
    obtain ⟨hp2, hp4, hp6⟩ := modB_true hmod
    obtain ⟨pn, rfl⟩ : ∃ pn : Nat, p = pn := ⟨p.toNat, by omega⟩
    obtain ⟨ag, ao, ac, RA, CA, rfl, hac, hab, hag⟩ := ha.at_ (by omega)
    have hr0 := (hag 0 (by omega)).1
    rw [Nat.add_zero] at hr0
    have HPO := Lib.hid (fun (e : Ending) (w' : World) (h : OkM w pn (n 0) m (fun i j => f j i) e w') => (show MPost 0 True w pn (n 0) m (fun i j => f j i) e w' from ⟨fun h => absurd rfl h, fun _ h => absurd trivial h, fun _ _ => h⟩))
    generalize MPost 0 True w pn (n 0) m (fun i j => f j i) = PP at HPO ⊢
    have HIN := Lib.hid (fun i (hi : i < m) => (show InP (pn : Int) (n 0) (f i) from by have := (g5 i hi).2; rw [(g5 i hi).1] at this; exact this))
    have HAG := Lib.hid (show ∀ i, i < m → w.cell? ⟨ag, ao + i, none⟩ = some (.slice (RA i) (n 0) (CA i)) ∧ Vec w (· < w.heap.size) (.slice (RA i) (n 0) (CA i)) (n 0) (f i) from fun i hi => by have := hag i hi; rwa [(g5 i hi).1] at this)
    have HX2 := Lib.hid (box2 w #[.int .i64 pn, .slice (some ⟨ag, ao, none⟩) m ac])
    generalize n 0 = n0 at HIN HAG g3 g4 HPO hr0
    have HBL := fun W => Lib.hid (blank_any (pn : Int) n0 m W (by omega) (by omega) (by omega))
    clear ha hn g5 hmod hag HX
    go_enter Try.func38, Try.ntmps38
    go_wp2_with fail
    generalize (w.alloc (.cells #[.int .i64 pn, .slice (some ⟨ag, ao, none⟩) m ac] 46)).alloc (.cells #[.int .i64 0, .slice none 0 0] 46) = w3 at HX2
    refine (HC _ (HA.out.on HX2.out.be)).out.mono ?_
    rintro e w4 ⟨rfl, hb4⟩
    obtain ⟨j1, j2, j3⟩ := HX2.out.on hb4
    have HJ1 := Lib.hid j1
    have HJ2 := Lib.hid j2
    have HJ3 := Lib.hid j3
    have hsz4 : w.heap.size + 1 + 1 ≤ w4.heap.size := by have h1 := HX2.out.sz; have h2 := hb4.size; omega
    have c0 := j2.cell (i := 0) rfl
    have c1 := j2.cell (i := 1) rfl
    have c3 := (j1.cell (p := ⟨ag, ao, none⟩) hab).trans hr0
    have hm0 : (0 : Int) < (m : Int) := by omega
    have hm9 : ¬ m = 0 := by omega
    have hm7 : 0 < m := by omega
    have hm8 : decide (0 < m) = true := decide_eq_true (by omega)
    have HKB := Lib.hid (fun (W : World) (hb : Below w4.heap.size w4 W) => (show W.cell? ⟨w.heap.size, 0, none⟩ = some (.int .i64 pn) ∧ W.cell? ⟨w.heap.size, 1, none⟩ = some (.slice (some ⟨ag, ao, none⟩) m ac) ∧ W.cell? ⟨ag, ao, none⟩ = some (.slice (RA 0) n0 (CA 0)) from
      ⟨(HJ2.out.below hb HJ2.out.lt).cell rfl, (HJ2.out.below hb HJ2.out.lt).cell rfl, ((HJ1.out.trans (hb.mono HJ1.out.size)).cell (p := ⟨ag, ao, none⟩) hab).trans hr0⟩))
    clear j1 j2 j3 hb4 HX2
    go_wp2_with fail
    have HDR := Lib.hid (below_drew (Below.refl w4.heap.size w4))
    have HTB := Lib.hid (fun (W W' : World) (h : Below w4.heap.size w4 W) (h' : Below W.heap.size W W') => (show Below w4.heap.size w4 W' from h.trans (h'.mono h.size)))
    have HKA := Lib.hid (fun (W : World) (o : Obj) (h : Below w4.heap.size w4 W) => HKB.out (W.alloc o) (h.alloc h.size o))
    have HKC := Lib.hid (fun (W : World) (u v : Value) (h : Below w4.heap.size w4 W) => HKB.out ((W.setCell ⟨w4.heap.size, 0, none⟩ u).setCell ⟨w4.heap.size, 1, none⟩ v) (setCell2_lo h (Nat.le_refl _) u v))
    have h30 := HDR.out
    have HAL := Lib.hid (show Below w4.heap.size w4 (w4.alloc (.cells #[.int .i64 0, .slice none 0 0] 46)).drew from below_drew ((Below.refl _ _).alloc (Nat.le_refl _) _))
    have h31 := HAL.out
    have HRT := Lib.hid (show Row (w4.alloc (.cells #[.int .i64 0, .slice none 0 0] 46)).drew w4.heap.size 46 #[.int .i64 0, .slice none 0 0] from row_new rfl _ _)
    have HTT := Lib.hid (fun (W : World) (hb : Below (w4.alloc (.cells #[.int .i64 0, .slice none 0 0] 46)).drew.heap.size (w4.alloc (.cells #[.int .i64 0, .slice none 0 0] 46)).drew W) => (show W.cell? ⟨w4.heap.size, 0, none⟩ = some (.int .i64 0) ∧ W.cell? ⟨w4.heap.size, 1, none⟩ = some (.slice none 0 0) ∧ W.frozen? ⟨w4.heap.size, 0, none⟩ = false ∧ W.frozen? ⟨w4.heap.size, 1, none⟩ = false ∧ Row W w4.heap.size 46 #[.int .i64 0, .slice none 0 0] from
      ⟨(HRT.out.below hb HRT.out.lt).cell rfl, (HRT.out.below hb HRT.out.lt).cell rfl, (HRT.out.below hb HRT.out.lt).frozen 0, (HRT.out.below hb HRT.out.lt).frozen 1, HRT.out.below hb HRT.out.lt⟩))
    go_region_held3 (fun W => W.cell? ⟨w.heap.size, 0, none⟩ = some (.int .i64 pn) ∧ W.cell? ⟨w.heap.size, 1, none⟩ = some (.slice (some ⟨ag, ao, none⟩) m ac) ∧ W.cell? ⟨ag, ao, none⟩ = some (.slice (RA 0) n0 (CA 0)))
      ((first | assumption | (with_reducible exact HKB.out _ HDR.out) | (with_reducible exact HKB.out _ HAL.out) | (with_reducible exact HKA.out _ _ (by assumption)) | (with_reducible exact HKC.out _ _ _ (by assumption))))
      ((go_at_call 82; (with_reducible refine (HBL _).out.mono ?_); rintro e w5 ⟨v, rfl, hW, hb5⟩; (first | (with_reducible have h35 := HTB.out _ _ h30 hb5) | ((with_reducible have h35 := HTB.out _ _ h31 hb5); (with_reducible have hT := HTT.out _ hb5); obtain ⟨t0, t1, t2, t3, hRT⟩ := hT)); have hk := HKB.out _ h35; obtain ⟨g0, cap, rb, rfl, -⟩ := hW.at_))
    all_goals first
      | (have HWI := Lib.hid (wri_b (p := pn) hW hRT h35); generalize (w5.setCell ⟨w4.heap.size, 0, none⟩ (.int .i64 pn)).setCell ⟨w4.heap.size, 1, none⟩ (.slice (some ⟨g0, 0, none⟩) n0 cap) = w6 at HWI ⊢; generalize w4.heap.size = T at HWI ⊢)
      | (have HWI := Lib.hid (wri_a (w3 := w4) (p := pn) hW h35); generalize w5.alloc (.cells #[.int .i64 pn, (.slice (some ⟨g0, 0, none⟩) n0 cap)] 46) = w6 at HWI ⊢; generalize w5.heap.size = T at HWI ⊢)
    all_goals clear hW h35 hk hb5 h30 h31
    all_goals
      generalize hGG : (fun i j => f j i) = G at HPO
      have HGG := Lib.hid hGG
      have HGE := Lib.hid (show ∀ a b, (fun i j => f j i) a b = G a b from fun a b => by rw [hGG])
      have HST := Lib.hid (show WrI w4 T pn (.slice (some ⟨g0, 0, none⟩) n0 cap) n0 m (stgT G 0 0 0) w6 from by rw [stgT_start]; exact HWI.out)
      have HEND := Lib.hid (show ∀ wr, WrI w4 T pn (.slice (some ⟨g0, 0, none⟩) n0 cap) n0 m (stgT G m 0 0) wr → WrI w4 T pn (.slice (some ⟨g0, 0, none⟩) n0 cap) n0 m G wr from fun wr h => h.congr fun a ha b hb => stg_end _ _ b hb a)
      have hp9 : ¬ pn = 0 := by omega
      have hp8 : ((pn : Int) != 0) = true := by simp; omega
      clear c0 c1 c3 HWI HBL HKA HKC HAL HRT HTT HDR hGG
      go_wp2
      go_loopw [6] (fun t6 wr => ∃ i : Nat, t6 = .int .i64 i ∧ i ≤ m ∧ WrI w4 T pn (.slice (some ⟨g0, 0, none⟩) n0 cap) n0 m (stgT G i 0 0) wr) (fun t6 _ => m - (intOf t6).toNat)
      case atStart => exact ⟨0, rfl, Nat.zero_le _, HST.out⟩
      case round =>
        obtain ⟨i, rfl, hi, hW⟩ := hrel
        obtain ⟨c0, c1, c3⟩ := HKB.out _ hW.b
        by_cases him : i < m
        · have hd : decide ((i : Int) < (m : Int)) = true := decide_eq_true (by omega)
          have HW0 := Lib.hid hW
          clear hW
          go_wp2
          clear c0 c1 c3
          go_loopw [7] (fun t7 wr => ∃ k : Nat, t7 = .int .i64 k ∧ k ≤ n0 ∧ WrI w4 T pn (.slice (some ⟨g0, 0, none⟩) n0 cap) n0 m (stgT G i k 0) wr) (fun t7 _ => n0 - (intOf t7).toNat)
          case atStart => exact ⟨0, rfl, Nat.zero_le _, HW0.out⟩
          case round =>
            obtain ⟨k, rfl, hk, hW⟩ := hrel
            rename World => W2
            obtain ⟨c0, c1, c3⟩ := HKB.out _ hW.b
            by_cases hkn : k < n0
            · have hd2 : decide ((k : Int) < (n0 : Int)) = true := decide_eq_true (by omega)
              obtain ⟨g', cap', rb', e, hcl⟩ := hW.at_
              cases e
              obtain ⟨e1, e2⟩ := hcl k (by omega)
              obtain ⟨e3, e4, e5⟩ := e2 i (by omega)
              have c4 := hW.box.cell (i := 1) rfl
              have hBw := HJ1.out.trans (hW.b.mono HJ1.out.size)
              obtain ⟨u1, u2⟩ := HAG.out i him
              obtain ⟨ub, uo, uc, ue, _, uS, ucl⟩ := u2.at_ (by omega)
              rw [ue] at u1
              have u3 := (hBw.cell (p := ⟨ag, ao + i, none⟩) hab).trans u1
              have u4 := (hBw.cell (p := ⟨ub, uo + k, none⟩) uS).trans (ucl k hkn)
              have hx := HIN.out i him k hkn
              have hGv := HGE.out k i
              have HE5 := Lib.hid (fun x => (e5 x).drew)
              generalize stgT G i k 0 k i = s at e3
              have hGv2 : f i k = G k i := hGv
              generalize f i k = y at u4 hx hGv2
              have HNX := Lib.hid (show WrI w4 T pn (.slice (some ⟨g0, 0, none⟩) n0 cap) n0 m (stgT G i (k + 1) 0) (W2.setCell ⟨rb' k, i, none⟩ (.int .i64 y)).drew from by
                have := HE5.out y
                rw [stgT_upd, hGv2] at this
                rw [← stgT_next, hGv2]
                exact this)
              clear hGv hGv2
              have i1 : (i : Int) < (m : Int) := by omega
              have i2 : (0 : Int) ≤ (i : Int) := by omega
              have i3 : (k : Int) < (n0 : Int) := by omega
              have i4 : (0 : Int) ≤ (k : Int) := by omega
              clear hcl e2 e5 hBw u1 u2 ucl ue hW HE5 hx
              go_wp2_with fail
              go_still_tail 15, (by kernel_rfl)
              repeat still_step
              change wpList _ _ _ _ _ W2.drew
              go_wp2_with fail
              go_roundw
              case rel => exact ⟨k + 1, by go_num, by omega, HNX.out⟩
              case measure => simp [intOf]; omega
            · have e : k = n0 := by omega
              subst e
              have HN := Lib.hid (hW.congr (G := stgT G (i + 1) 0 0) fun a ha b hb => stg_row _ i k b a ha)
              clear hW
              go_wp2
              go_roundw
              case rel => exact ⟨i + 1, by go_num, by omega, HN.out⟩
              case measure => simp [intOf]; omega
        · have e : i = m := by omega
          subst e
          have hE := HEND.out _ hW
          have c4 := hE.box.cell (i := 0) rfl
          have c5 := hE.box.cell (i := 1) rfl
          have hR := HJ3.out.below hE.b HJ3.out.lt
          have d0 := hR.cell (i := 0) rfl
          have d1 := hR.cell (i := 1) rfl
          have f0 := hR.frozen 0
          have f1 := hR.frozen 1
          have hBw := HJ1.out.trans (hE.b.mono HJ1.out.size)
          have HXR := Lib.hid (agg_res hR hBw (by omega) (.int .i64 pn) (.slice (some ⟨g0, 0, none⟩) n0 cap))
          have HGR := Lib.hid ((hE.wm.grid.set2 (R := w.heap.size + 1) (fun h => by have := h.1; omega) (.int .i64 pn) (.slice (some ⟨g0, 0, none⟩) n0 cap)).more (S' := New w ((wr.setCell ⟨w.heap.size + 1, 0, none⟩ (.int .i64 pn)).setCell ⟨w.heap.size + 1, 1, none⟩ (.slice (some ⟨g0, 0, none⟩) n0 cap))) (fun b h => ⟨by have := h.1; omega, by rw [size_set2]; exact h.2⟩))
          clear hW hE hR hBw
          go_wp2
          obtain ⟨k3, k2⟩ := HXR.out
          have hc0 := k3.cell (i := 0) rfl
          have hc1 := k3.cell (i := 1) rfl
          refine bodyPost_ret (v := .tuple #[.agg #[.int .i64 pn, (.slice (some ⟨g0, 0, none⟩) n0 cap)], .int .i64 0]) ?_ rfl (HPO.out _ _ ⟨_, rfl, HGR.out, k2⟩)
          simp [results, Try.results38, go_sem, hc0, hc1]
  · have hd2 : (x != 0) = true := by simpa using hx0
    have HPO := Lib.hid (fun (e : Ending) (w' : World) (h : BadM w x e w') => (show MPost x True w p (n 0) m (fun i j => f j i) e w' from ⟨fun _ => h, fun h => absurd h hx0, fun h => absurd h hx0⟩))
    generalize MPost x True w p (n 0) m (fun i j => f j i) = PP at HPO ⊢
    obtain ⟨A, c, rfl, hcm⟩ := ha.form
    have HX2 := Lib.hid (box2 w #[.int .i64 p, .slice A m c])
    clear ha hn hx0 HX
    go_enter Try.func38, Try.ntmps38
    go_wp2_with fail
    generalize (w.alloc (.cells #[.int .i64 p, .slice A m c] 46)).alloc (.cells #[.int .i64 0, .slice none 0 0] 46) = w3 at HX2
    refine (HC _ (HA.out.on HX2.out.be)).out.mono ?_
    rintro e w4 ⟨rfl, hb4⟩
    obtain ⟨j1, j2, j3⟩ := HX2.out.on hb4
    have HE := Lib.hid (end_bad (w := w) j3 j1 (B := w.heap.size) (by omega))
    have d0 := j3.cell (i := 0) rfl
    have d1 := j3.cell (i := 1) rfl
    have f0 := j3.frozen 0
    have f1 := j3.frozen 1
    clear j1 j2 j3 hb4
    go_wp2_with fail
    obtain ⟨k3, k2⟩ := HE.out
    have hc0 := k3.cell (i := 0) rfl
    have hc1 := k3.cell (i := 1) rfl
    refine bodyPost_ret (v := .tuple #[.agg #[.int .i64 0, .slice none 0 0], .int .i64 x]) ?_ rfl (HPO.out _ _ ⟨rfl, k2⟩)
    simp [results, Try.results38, go_sem, hc0, hc1]
end Go.Proofs.Ytaieeljkalciiaa
