/- The reference of matrix: Field, Check, both. -/
import Derived.Test.YtinoomcboinokaaGreatMScale
namespace Go.Proofs.YtinoomcboinokaaGreat
open Go Go.RowKit Num

set_option maxRecDepth 100000 in
set_option maxHeartbeats 400000 in
theorem rField_any (p : Int) (w : World) : Calls Tryz.prog 62 #[.int .i64 p] w fun e w' => e = .returned (.bool (modB p)) ∧ w' = w := by
  by_cases h : p < 10000
  · have hd : decide (p < 10000) = true := decide_eq_true h
    have HC := Lib.hid (refIs_any p w)
    have he : modB p = isP p := by unfold modB; rw [hd]; rfl
    rw [he]
    generalize isP p = b at HC
    go_enter Tryz.func62, Tryz.ntmps62
    go_wp2_with fail
    refine HC.out.mono ?_
    rintro e w' ⟨rfl, rfl⟩
    go_wp2
    go_ret
    exact ⟨rfl, rfl⟩
  · have hd : decide (p < 10000) = false := decide_eq_false h
    have he : modB p = false := by unfold modB; rw [hd]; rfl
    rw [he]
    go_enter Tryz.func62, Tryz.ntmps62
    go_wp2
    go_ret
    exact ⟨rfl, rfl⟩

set_option maxRecDepth 100000 in
set_option maxHeartbeats 2000000 in
theorem rCheck_any (rows : Value) (m : Nat) (n : Nat → Nat) (f : Nat → Nat → Int) (p : Int) (w : World) (hm : m ≤ 1000000) (hn : ∀ i, i < m → n i ≤ 1000000) (hg : Grid w (· < w.heap.size) rows m n f) :
    Calls Tryz.prog 33 #[.agg #[.int .i64 p, rows]] w (Ret w (.int .i64 (chkM p m n f))) := by
  have HM := fun W => Lib.hid (rField_any p W)
  cases hmod : modB p with
  | false =>
    rw [chkM_mod hmod]
    rw [hmod] at HM
    obtain ⟨A, c, rfl, hnc⟩ := hg.form
    have HB := Lib.hid (show Below w.heap.size w (w.alloc (.cells #[.int .i64 p, .slice A m c] 31)) from (Below.refl _ _).alloc (Nat.le_refl _) _)
    clear hg
    go_enter Tryz.func33, Tryz.ntmps33
    go_wp2_with fail
    refine (HM _).out.mono ?_
    rintro e w' ⟨rfl, rfl⟩
    go_wp2
    go_ret
    exact ⟨rfl, HB.out⟩
  | true =>
    rw [hmod] at HM
    by_cases hm64 : 1 ≤ m ∧ m ≤ 64
    · obtain ⟨bg, og, cg, RA, RC, rfl, hcg, hbg, hgc⟩ := hg.at_ (by omega)
      have hr0 := (hgc 0 (by omega)).1
      rw [Nat.add_zero] at hr0
      have HB := Lib.hid (show Below w.heap.size w (w.alloc (.cells #[.int .i64 p, .slice (some ⟨bg, og, none⟩) m cg] 31)) from (Below.refl _ _).alloc (Nat.le_refl _) _)
      have HBX := Lib.hid (row_new (W := w) rfl 31 #[.int .i64 p, .slice (some ⟨bg, og, none⟩) m cg])
      have d1 : decide (m < 1) = false := decide_eq_false (by omega)
      have d2 : decide ((m : Int) < 1) = false := decide_eq_false (by omega)
      have d3 : decide (64 < m) = false := decide_eq_false (by omega)
      have d4 : decide ((64 : Int) < (m : Int)) = false := decide_eq_false (by omega)
      have hm0 : (0 : Int) < (m : Int) := by omega
      by_cases hn64 : 1 ≤ n 0 ∧ n 0 ≤ 64
      · have hno : ¬ (m < 1 ∨ 64 < m ∨ n 0 < 1 ∨ 64 < n 0) := by omega
        have HOK := Lib.hid (fun h => chkM_ok (f := f) hmod hno h)
        have HBAD := Lib.hid (fun i (hi : i < m) h => chkM_bad (f := f) hmod hno (i := i) hi h)
        have HGC := Lib.hid hgc
        have HNN := Lib.hid hn
        generalize hch : chkM p m n f = ch at HOK HBAD
        obtain ⟨n0, hn0⟩ : ∃ n0, n 0 = n0 := ⟨_, rfl⟩
        have HN0 := Lib.hid hn0
        rw [hn0] at hr0 hn64 HOK HBAD
        have d5 : decide (n0 < 1) = false := decide_eq_false (by omega)
        have d6 : decide ((n0 : Int) < 1) = false := decide_eq_false (by omega)
        have d7 : decide (64 < n0) = false := decide_eq_false (by omega)
        have d8 : decide ((64 : Int) < (n0 : Int)) = false := decide_eq_false (by omega)
        have hc00 := (HB.out.cell (p := ⟨bg, og, none⟩) hbg).trans hr0
        have HR0 := Lib.hid hr0
        have hc01 := HBX.out.cell (i := 0) rfl
        have hc02 := HBX.out.cell (i := 1) rfl
        clear hg hgc hn hno hch hn0 hr0
        go_enter Tryz.func33, Tryz.ntmps33
        go_wp2_with fail
        refine (HM _).out.mono ?_
        rintro e w' ⟨rfl, hw'⟩
        rw [← hw'] at HB HBX hc00 hc01 hc02
        clear hw'
        go_wp2
        clear hc00 hc01 hc02
        go_loopw [3] (fun t3 wr => ∃ i : Nat, t3 = .int .i64 i ∧ i ≤ m ∧ Below w'.heap.size w' wr ∧ Hid (∀ a, a < i → n a = n0 ∧ okRow p (n a) (f a))) (fun t3 _ => m - (intOf t3).toNat)
        case atStart => exact ⟨0, rfl, Nat.zero_le _, Below.refl _ _, Lib.hid fun a ha => absurd ha (by omega)⟩
        case round =>
          obtain ⟨i, rfl, hi, hB, HD⟩ := hrel
          have hXr := HBX.out.below hB HBX.out.lt
          have c1 := hXr.cell (i := 1) rfl
          have HBr := Lib.hid (HB.out.trans (hB.mono HB.out.size))
          have HBB := Lib.hid hB
          have HX := Lib.hid hXr
          by_cases him : i < m
          · obtain ⟨h1, h2⟩ := HGC.out i him
            have q0 := (HBr.out.cell (p := ⟨bg, og, none⟩) hbg).trans HR0.out
            have q1 := (HBr.out.cell (p := ⟨bg, og + i, none⟩) hbg).trans h1
            have hni := HNN.out i him
            have HVI := Lib.hid h2
            obtain ⟨ni, hni2⟩ : ∃ ni, n i = ni := ⟨_, rfl⟩
            have HNI := Lib.hid hni2
            rw [hni2] at q1 hni HVI
            have h0 : (0 : Int) ≤ i := by omega
            have h00 : (i : Int) < m := by omega
            clear h1 h2 hni2 hB hXr
            by_cases hne : ni = n0
            · subst hne
              have hd9 : ((ni : Int) != (ni : Int)) = false := by simp
              go_wp2
              go_quiet (fail)
              rename_i nq
              have HBq := Lib.hid (below_drewN HBB.out nq)
              clear q0 q1 c1
              generalize wr.drewN nq = wq at HBq
              go_wp2
              go_loopw [4] (fun t4 wr2 => ∃ k : Nat, t4 = .int .i64 k ∧ k ≤ ni ∧ Below w'.heap.size w' wr2 ∧ Hid (∀ c, c < k → 0 ≤ f i c ∧ f i c < p)) (fun t4 _ => ni - (intOf t4).toNat)
              case atStart => exact ⟨0, rfl, Nat.zero_le _, HBq.out, Lib.hid fun a ha => absurd ha (by omega)⟩
              case round =>
                obtain ⟨k, rfl, hk, hB2, HE⟩ := hrel
                rename World => W2
                have hXr := HBX.out.below hB2 HBX.out.lt
                have c0 := hXr.cell (i := 0) rfl
                have c1 := hXr.cell (i := 1) rfl
                have HBw := HB.out.trans (hB2.mono HB.out.size)
                have q1 := (HBw.cell (p := ⟨bg, og + i, none⟩) hbg).trans (HGC.out i him).1
                rw [HNI.out] at q1
                by_cases hkn : k < ni
                · obtain ⟨b, o, cv, e, _, hb, hcc⟩ := HVI.out.at_ (by omega)
                  have q2 := (HBw.cell (p := ⟨b, o + k, none⟩) hb).trans (hcc k hkn)
                  rw [e] at q1
                  have HB3 := Lib.hid hB2
                  have k0 : (0 : Int) ≤ k := by omega
                  have k00 : (k : Int) < ni := by omega
                  obtain ⟨x, hx⟩ : ∃ x, f i k = x := ⟨_, rfl⟩
                  have HXX := Lib.hid hx
                  rw [hx] at q2
                  clear hcc e hXr hB2 HBw hx
                  by_cases hx0 : x < 0
                  · have hd11 : decide (x < 0) = true := decide_eq_true hx0
                    have HF := Lib.hid (HBAD.out i him (fun h => by have := h.2 k (by rw [HNI.out]; exact hkn); rw [HXX.out] at this; omega))
                    go_wp2
                    go_quiet (fail)
                    have HZ := Lib.hid ((HB.out.trans (HB3.out.mono HB.out.size)).trans (below_drewN (Below.refl _ _) nq))
                    go_wp2
                    go_ret
                    exact ⟨by rw [HF.out]; rfl, HZ.out⟩
                  · have hd11 : decide (x < 0) = false := decide_eq_false hx0
                    by_cases hxp : x ≥ p
                    · have hd12 : decide (p ≤ x) = true := decide_eq_true hxp
                      have HF := Lib.hid (HBAD.out i him (fun h => by have := h.2 k (by rw [HNI.out]; exact hkn); rw [HXX.out] at this; omega))
                      go_wp2
                      go_quiet (fail)
                      have HZ := Lib.hid ((HB.out.trans (HB3.out.mono HB.out.size)).trans (below_drewN (Below.refl _ _) nq))
                      go_wp2
                      go_ret
                      exact ⟨by rw [HF.out]; rfl, HZ.out⟩
                    · have hd12 : decide (p ≤ x) = false := decide_eq_false (by omega)
                      have HE2 := Lib.hid (show ∀ c, c < k + 1 → 0 ≤ f i c ∧ f i c < p from fun c hc => by
                        by_cases e : c = k
                        · subst e; rw [HXX.out]; omega
                        · exact HE.out c (by omega))
                      go_wp2
                      go_quiet (fail)
                      have HB4 := Lib.hid (below_drewN HB3.out nq)
                      go_wp2
                      go_roundw
                      case rel => exact ⟨k + 1, by go_num, by omega, HB4.out, HE2⟩
                      case measure => simp [intOf]; omega
                · have e : k = ni := by omega
                  subst e
                  have HB3 := Lib.hid hB2
                  have HD2 := Lib.hid (show ∀ a, a < i + 1 → n a = k ∧ okRow p (n a) (f a) from fun a ha => by
                    by_cases e : a = i
                    · subst e; exact ⟨HNI.out, fun j hj => HE.out j (by rw [HNI.out] at hj; exact hj)⟩
                    · exact HD.out a (by omega))
                  clear hXr hB2 HBw
                  go_wp2
                  go_roundw
                  case rel => exact ⟨i + 1, by go_num, by omega, HB3.out, HD2⟩
                  case measure => simp [intOf]; omega
            · have hd9 : ((ni : Int) != (n0 : Int)) = true := by simp; omega
              have HF := Lib.hid (HBAD.out i him (fun h => hne (by rw [← HNI.out]; exact h.1)))
              go_wp2
              go_quiet (fail)
              rename_i nq
              have HZ := Lib.hid (HBr.out.trans (below_drewN (Below.refl _ _) nq))
              go_wp2
              go_ret
              exact ⟨by rw [HF.out]; rfl, HZ.out⟩
          · have e : i = m := by omega
            subst e
            have HF := Lib.hid (HOK.out HD.out)
            go_wp2
            go_ret
            exact ⟨by rw [HF.out]; rfl, HBr.out⟩
      · have HF := Lib.hid (chkM_size (f := f) hmod (show m < 1 ∨ 64 < m ∨ n 0 < 1 ∨ 64 < n 0 by omega))
        generalize hch : chkM p m n f = ch at HF
        have hn9 := hn 0 (by omega)
        obtain ⟨n0, hn0⟩ : ∃ n0, n 0 = n0 := ⟨_, rfl⟩
        rw [hn0] at hr0 hn64 hn9
        have hc00 := (HB.out.cell (p := ⟨bg, og, none⟩) hbg).trans hr0
        have hc02 := HBX.out.cell (i := 1) rfl
        clear hg hgc hn hch hn0 hr0
        by_cases hz : n0 < 1
        · have d5 : decide (n0 < 1) = true := decide_eq_true hz
          have d6 : decide ((n0 : Int) < 1) = true := decide_eq_true (by omega)
          go_enter Tryz.func33, Tryz.ntmps33
          go_wp2_with fail
          refine (HM _).out.mono ?_
          rintro e w' ⟨rfl, rfl⟩
          go_wp2
          go_ret
          exact ⟨by rw [HF.out]; rfl, HB.out⟩
        · have d5 : decide (n0 < 1) = false := decide_eq_false hz
          have d6 : decide ((n0 : Int) < 1) = false := decide_eq_false (by omega)
          have d7 : decide (64 < n0) = true := decide_eq_true (by omega)
          have d8 : decide ((64 : Int) < (n0 : Int)) = true := decide_eq_true (by omega)
          go_enter Tryz.func33, Tryz.ntmps33
          go_wp2_with fail
          refine (HM _).out.mono ?_
          rintro e w' ⟨rfl, rfl⟩
          go_wp2
          go_ret
          exact ⟨by rw [HF.out]; rfl, HB.out⟩
    · obtain ⟨A, c, rfl, hnc⟩ := hg.form
      have HB := Lib.hid (show Below w.heap.size w (w.alloc (.cells #[.int .i64 p, .slice A m c] 31)) from (Below.refl _ _).alloc (Nat.le_refl _) _)
      have HF := Lib.hid (chkM_size (n := n) (f := f) hmod (show m < 1 ∨ 64 < m ∨ n 0 < 1 ∨ 64 < n 0 by omega))
      generalize hch : chkM p m n f = ch at HF
      clear hg hn hch
      by_cases hz : m < 1
      · have d1 : decide (m < 1) = true := decide_eq_true hz
        have d2 : decide ((m : Int) < 1) = true := decide_eq_true (by omega)
        go_enter Tryz.func33, Tryz.ntmps33
        go_wp2_with fail
        refine (HM _).out.mono ?_
        rintro e w' ⟨rfl, rfl⟩
        go_wp2
        go_ret
        exact ⟨by rw [HF.out]; rfl, HB.out⟩
      · have d1 : decide (m < 1) = false := decide_eq_false hz
        have d2 : decide ((m : Int) < 1) = false := decide_eq_false (by omega)
        have d3 : decide (64 < m) = true := decide_eq_true (by omega)
        have d4 : decide ((64 : Int) < (m : Int)) = true := decide_eq_true (by omega)
        go_enter Tryz.func33, Tryz.ntmps33
        go_wp2_with fail
        refine (HM _).out.mono ?_
        rintro e w' ⟨rfl, rfl⟩
        go_wp2
        go_ret
        exact ⟨by rw [HF.out]; rfl, HB.out⟩
end Go.Proofs.YtinoomcboinokaaGreat
