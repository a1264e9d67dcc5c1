/- cayleylaw05.LinearSolves. -/
import Derived.Test.YtinoomcboinokaaLSolN
namespace Go.Proofs.Ytinoomcboinokaa
open Go Go.RowKit Num

set_option maxRecDepth 100000 in
set_option maxHeartbeats 3000000 in
theorem linearSolves_main (A : Option Addr) (c N : Nat) (z : Nat → Int) (p0 m0 n0 : Int) (w : World) (hv : Vec w (· < w.heap.size) (.slice A N c) N z) :
    Calls Try.prog 3 #[.slice A N c, .int .i64 p0, .int .i64 m0, .int .i64 n0] w fun e w' => e = .returned (.bool true) ∧ Below w.heap.size w w' := by
  have HV := Lib.hid hv
  clear hv
  by_cases h1 : 60 < N
  · have hd : decide ((N : Int) > 60) = true := decide_eq_true (by omega)
    clear HV
    go_enter Try.func3, Try.ntmps3
    go_wp2_with fail
    refine (lives_any _).mono ?_
    rintro e w0 ⟨rfl, hb⟩
    have HB := Lib.hid hb
    clear hb
    go_wp2_with fail
    go_ret
    exact ⟨rfl, HB.out⟩
  · have hN : N ≤ 17592186044400 := by omega
    have hd : decide ((N : Int) > 60) = false := decide_eq_false (by omega)
    have HF := fun W => Lib.hid (field_any p0 W)
    have HPM := fun W => Lib.hid (Pick_any m0 5 W (by omega) (by omega))
    have HPN := fun W => Lib.hid (Pick_any n0 5 W (by omega) (by omega))
    have hm5 := resV_lt m0 (p := 5) (by omega)
    have hn5 := resV_lt n0 (p := 5) (by omega)
    generalize resV m0 5 = xm at HPM hm5
    generalize resV n0 5 = xn at HPN hn5
    obtain ⟨m, hm⟩ : ∃ m : Nat, 1 + (xm : Int) = (m : Int) := ⟨1 + xm, by omega⟩
    obtain ⟨n, hn⟩ : ∃ n : Nat, 1 + (xn : Int) = (n : Int) := ⟨1 + xn, by omega⟩
    have hm1 : 1 ≤ m := by omega
    have hm6 : m ≤ 5 := by omega
    have hn1 : 1 ≤ n := by omega
    have hn6 : n ≤ 5 := by omega
    go_enter Try.func3, Try.ntmps3
    go_wp2_with fail
    refine (lives_any _).mono ?_
    rintro e w0 ⟨rfl, hb⟩
    have HB0 := Lib.hid hb
    have HV0 := Lib.hid (vec_on HV.out hb)
    clear hb HV
    go_wp2_with fail
    refine (HF _).out.mono ?_
    rintro e w1 ⟨⟨p, rfl, hp⟩, hb⟩
    have HB1 := Lib.hid (HB0.out.trans (hb.mono HB0.out.size))
    have HV1 := Lib.hid (vec_on HV0.out hb)
    obtain ⟨hp2, hp3, hp6⟩ := modB_true hp
    rw [Int.toNat_natCast] at hp6
    have HMOD := Lib.hid hp
    clear hb hp HB0 HV0 HF
    go_wp2_with fail
    refine (HPM _).out.mono ?_
    rintro e w2 ⟨rfl, rfl⟩
    go_wp2_with fail
    refine (HPN _).out.mono ?_
    rintro e w3 ⟨rfl, rfl⟩
    clear HPM HPN
    have hsz := HB1.out.size
    have HT0 := Lib.hid (taker_new w3 A c N z HV1.out)
    have HB2 := Lib.hid (HB1.out.alloc hsz (.cells #[.slice A N c, .int .i64 0] 28))
    clear HV1 HB1
    go_wp2_with fail
    have hz4 : (w3.alloc (.cells #[.slice A N c, .int .i64 0] 28)).heap.size = w3.heap.size + 1 := by simp
    generalize w3.alloc (.cells #[.slice A N c, .int .i64 0] 28) = w4 at HT0 HB2 hz4
    generalize w3.heap.size = t at HT0 hsz hz4
    refine (drawn_own t A c N 0 z p m n w4 (by omega) (by omega) (by omega) hn1 (by omega) hN HT0.out).mono ?_
    rintro e w5 ⟨vb, g, cc, F, rfl, hD⟩
    have ht4 := HT0.out.1.lt
    have HO5 := Lib.hid (ownB_of hD ht4)
    have HFI := Lib.hid (show InG (p : Int) m n F from fun i hi => (hD.row i hi).2.2.2)
    have HB5 := Lib.hid (below_turn HB2.out hD.tu hsz)
    have ht5 : t < w5.heap.size := Nat.lt_of_lt_of_le ht4 hD.tu.size
    obtain ⟨q5, hq5⟩ := hD.tk
    obtain ⟨gb, cb, rfl, hgb⟩ := HO5.out.form hm1
    have HQ5 := Lib.hid hq5
    clear hD hq5 HT0 HB2 hz4
    have htu6 := (Turn.refl (· = t) w5).alloc (.cells #[.int .i64 p, .slice (some ⟨gb, 0, none⟩) m cb] 32)
    have hbl6 := (Below.refl w5.heap.size w5).alloc (Nat.le_refl _) (.cells #[.int .i64 p, .slice (some ⟨gb, 0, none⟩) m cb] 32)
    have HO6 := Lib.hid (HO5.out.turn ht4 htu6)
    have HQ6 := Lib.hid (HQ5.out.but hbl6 ht5)
    have HB6 := Lib.hid (HB5.out.trans (hbl6.mono HB5.out.size))
    have HX6 := Lib.hid (row_new (W := w5) rfl 32 #[.int .i64 p, .slice (some ⟨gb, 0, none⟩) m cb])
    clear htu6 hbl6 HO5 HQ5 HB5
    go_wp2_with fail
    generalize w5.alloc (.cells #[.int .i64 p, .slice (some ⟨gb, 0, none⟩) m cb] 32) = w6 at HO6 HQ6 HB6 HX6
    generalize w5.heap.size = bx at ht5 HX6
    refine (take_any t A c N z q5 2 w6 hN (by omega) (by omega) HQ6.out).mono ?_
    rintro e w7 hT7
    obtain ⟨x7, q7, rfl, hx0, hx1, hq7, hB7, hs7⟩ := hT7.keep HQ6.out
    have htu7 := butTurn (hB7 _) (by omega)
    have HO7 := Lib.hid (HO6.out.turn ht4 htu7)
    have HX7 := Lib.hid (HX6.out.turn htu7 (fun (e : bx = t) => by omega))
    have HB7 := Lib.hid (below_turn HB6.out htu7 hsz)
    have HQ7 := Lib.hid hq7
    clear hT7 hq7 hB7 hs7 htu7 HO6 HX6 HB6 HQ6
    rcases (by omega : x7 = 0 ∨ x7 = 1) with rfl | rfl
    · have HSC0 := Lib.hid (show SC w t A c N z p bx (.slice (some ⟨gb, 0, none⟩) m cb) m n F w7 from ⟨HO7.out.grid ht4, HX7.out, ht5, ⟨_, HQ7.out⟩, HB7.out⟩)
      clear HO7 HX7 HB7 HQ7
      generalize w7 = s0 at HSC0 ⊢
      have HIV := Lib.hid (invF (p := (p : Int)) (by rw [Int.toNat_natCast]; exact hp6) hp2)
      have HCH := Lib.hid (chkM_full HMOD.out hm1 (by omega) hn1 (by omega) HFI.out)
      have HSO := Lib.hid (sols_all (pn := p) hp2 HIV.out m n F)
      have HBO := Lib.hid (fun M (hM : M ≤ 200) => (chkB_ok (p := (p : Int)) (n := (n : Int)) (m := M) (l := fun _ => n) HMOD.out (by omega) (by omega) hM (fun _ _ => rfl)))
      have HIO := Lib.hid (fun M (hM : M ≤ 200) => (chkI_ok (p := (p : Int)) (n := (n : Int)) (m := M) (k := n) (l := fun _ => n) HMOD.out (by omega) (by omega) hM (fun _ _ => rfl) rfl))
      obtain ⟨LK, hLK⟩ : ∃ L, (kerL n m (kerR p m n F)).length = L := ⟨_, rfl⟩
      obtain ⟨rA, hRA⟩ : ∃ L, (pivL n (elimR p n (invI p) (rowsL n F m))).length = L := ⟨_, rfl⟩
      have hlen := HSO.out.len
      have hech := HSO.out.ech
      have hzero := HSO.out.zero
      rw [hLK] at hlen hech hzero
      rw [hRA] at hlen
      have HLK := Lib.hid hLK
      have HRA := Lib.hid hRA
      have HEC := Lib.hid hech
      have HZE0 := Lib.hid hzero
      have HIM := Lib.hid HSO.out.img
      have hsum : (LK : Int) + (rA : Int) = (m : Int) := by omega
      have hws : IntKind.i64.wrap ((LK : Int) + (rA : Int)) = (m : Int) := by rw [hsum]; exact IntWalk.i64_in _ ⟨by omega, by omega⟩
      have hmm : ((m : Int) != (m : Int)) = false := by simp
      have c0 := HSC0.out.box.cell (i := 0) rfl
      have c1 := HSC0.out.box.cell (i := 1) rfl
      have hLKm : LK ≤ m := by omega
      clear hlen hech hzero hLK hRA hsum
      go_wp2_with fail
      refine (Kernel_any p (.slice (some ⟨gb, 0, none⟩) m cb) m (fun _ => n) F s0 (by omega) (fun _ _ => by omega) HSC0.out.grid).mono ?_
      rintro e s1 h1
      obtain ⟨vk, rfl, hgk, hb⟩ := h1.2 HCH.out
      change Grid s1 _ vk (kerL n m (kerR p m n F)).length _ (fun i x => rowAt (kerR p m n F) ((kerL n m (kerR p m n F)).getD i 0) (n + x)) at hgk
      rw [HLK.out] at hgk
      have hs0 := HSC0.out.tlt
      have HGK1 := Lib.hid (show Grid s1 (Far t s1) vk LK (fun _ => m) (fun i x => rowAt (kerR p m n F) ((kerL n m (kerR p m n F)).getD i 0) (n + x)) from hgk.more fun b hb => ⟨by have := hb.1; omega, hb.2⟩)
      have hze : ∀ KF : Nat → Nat → Int, (fun i x => rowAt (kerR p m n F) ((kerL n m (kerR p m n F)).getD i 0) (n + x)) = KF → ∀ i, i < LK → ∀ j, j < n → appF p m (KF i) F j = 0 := fun KF e => by rw [← e]; exact HZE0.out
      generalize hKF : (fun i x => rowAt (kerR p m n F) ((kerL n m (kerR p m n F)).getD i 0) (n + x)) = KF at HGK1 HEC
      have HZE := Lib.hid (hze KF hKF)
      obtain ⟨Ak, ck, rfl, -⟩ := hgk.form
      have HSC1 := Lib.hid (HSC0.out.calls hb)
      clear h1 hgk hb HSC0 c0 c1 hs0 hKF hze HZE0
      have c0 := HSC1.out.box.cell (i := 0) rfl
      have c1 := HSC1.out.box.cell (i := 1) rfl
      go_wp2_with fail
      refine (Rank_any p n (.slice (some ⟨gb, 0, none⟩) m cb) m (fun _ => n) F s1 (by omega) HSC1.out.grid).mono ?_
      rintro e s2 ⟨y2, rfl, -, hy, hb⟩
      rw [HBO.out m (by omega)]
      have hy := hy (HBO.out m (by omega))
      rw [Int.toNat_natCast] at hy
      change y2 = (pivL n (elimR p n (invI p) (rowsL n F m))).length at hy
      rw [HRA.out] at hy
      subst hy
      have HSC2 := Lib.hid (HSC1.out.calls hb)
      have HGK2 := Lib.hid (far_calls HGK1.out hb)
      clear hb HSC1 HGK1 c0 c1 HRA HLK HSO
      go_wp2_with fail
      refine (echelon_any p LK m (.slice Ak LK ck) KF _ _ s2 (by omega) (by omega) HGK2.out HEC.out).mono ?_
      rintro e s3 ⟨rfl, rfl⟩
      clear HEC
      go_wp2_with fail
      go_loopw [15] (fun i wr => ∃ j : Nat, i = .int .i64 j ∧ j ≤ LK ∧ Hid (SC w t A c N z p bx (.slice (some ⟨gb, 0, none⟩) m cb) m n F wr) ∧ Hid (Grid wr (Far t wr) (.slice Ak LK ck) LK (fun _ => m) KF)) (fun i _ => LK - (intOf i).toNat)
      case atStart => exact ⟨0, rfl, Nat.zero_le _, HSC2, HGK2⟩
      case round =>
        obtain ⟨j, rfl, hj, HSr, HGr⟩ := hrel
        by_cases hlt : j < LK
        · obtain ⟨bk, ok, ck', RA, RC, e', -, hbk, hrk⟩ := HGr.out.at_ (by omega)
          injection e' with e1 _ e3
          subst e1; subst e3
          obtain ⟨hrow, hrv⟩ := hrk j hlt
          have HRV := Lib.hid hrv
          have hbk2 := hbk.2
          have c0 := HSr.out.box.cell (i := 0) rfl
          have c1 := HSr.out.box.cell (i := 1) rfl
          have d1 : (0 : Int) ≤ j := by omega
          have d2 : (j : Int) < (LK : Int) := by omega
          clear hrk hrv hbk
          go_wp2_with fail
          refine wp_region_held_drew (S := (fun W1 => W1.cell? ⟨bk, ok + j, none⟩ = some (.slice (RA j) m (RC j)) ∧ W1.cell? ⟨bx, 0, none⟩ = some (.int .i64 p) ∧ W1.cell? ⟨bx, 1, none⟩ = some (.slice (some ⟨gb, 0, none⟩) m cb))) (by kernel_rfl) ⟨hrow, c0, c1⟩ (fun hHeld => ?_)
          have HSr' := Lib.hid HSr.out.drew1
          have HGr' := Lib.hid (far_drew HGr.out 1)
          change Hid (Grid wr.drew (Far t wr.drew) _ LK (fun _ => m) KF) at HGr'
          have HRV' := Lib.hid (show Vec wr.drew (Far t wr.drew) (.slice (RA j) m (RC j)) m (KF j) from HRV.out.keep (fun _ h => h) (fun _ _ => rfl) (fun _ _ => rfl))
          have hbk2' : bk < wr.drew.heap.size := hbk2
          clear HSr HGr HRV hrow c0 c1 hbk2
          have HSr := HSr'
          have HGr := HGr'
          have HRV := HRV'
          have hbk2 := hbk2'
          clear HSr' HGr' HRV' hbk2'
          generalize wr.drew = x0 at HSr HGr HRV hbk2 hHeld ⊢
          have hmk := make_ints n (by omega) x0
          refine takeH (i := 0) (v := (.slice (some ⟨bk, ok, none⟩) LK ck)) rfl rfl (by kernel_rfl) (by kernel_rfl) (by kernel_rfl) (fun _ _ _ h => h) (by rfl) (fun W hW => by (skip); go_simp) (by assumption) ?_
          simp only [List.setIfInBounds_toArray, List.set_cons_zero, List.set_cons_succ]
          refine takeH (i := 1) (v := (.int .i64 j)) rfl rfl (by kernel_rfl) (by kernel_rfl) (by kernel_rfl) (fun _ _ _ h => h) (by rfl) (fun W hW => by (skip); go_simp) (by assumption) ?_
          simp only [List.setIfInBounds_toArray, List.set_cons_zero, List.set_cons_succ]
          refine takeH (i := 2) (v := (.pointer (some ⟨bk, ok + j, none⟩))) rfl rfl (by kernel_rfl) (by kernel_rfl) (by kernel_rfl) (fun _ _ _ h => h) (by rfl) (fun W hW => by (skip); go_simp) (by assumption) ?_
          simp only [List.setIfInBounds_toArray, List.set_cons_zero, List.set_cons_succ]
          refine takeH (i := 3) (v := (.slice (RA j) m (RC j))) rfl rfl (by kernel_rfl) (by kernel_rfl) (by kernel_rfl) (fun _ _ _ h => h) (by rfl) (fun W hW => by (obtain ⟨h1, h2, h3⟩ := hW); go_simp) (by assumption) ?_
          simp only [List.setIfInBounds_toArray, List.set_cons_zero, List.set_cons_succ]
          refine takeH (i := 4) (v := (.agg #[.int .i64 p, .slice (some ⟨gb, 0, none⟩) m cb])) rfl rfl (by kernel_rfl) (by kernel_rfl) (by kernel_rfl) (fun _ _ _ h => h) (by rfl) (fun W hW => by (obtain ⟨h1, h2, h3⟩ := hW); go_simp) (by assumption) ?_
          simp only [List.setIfInBounds_toArray, List.set_cons_zero, List.set_cons_succ]
          refine takeH (i := 6) (v := (.int .i64 n)) rfl rfl (by kernel_rfl) (by kernel_rfl) (by kernel_rfl) (fun _ _ _ h => h) (by rfl) (fun W hW => by (skip); go_simp) (by assumption) ?_
          simp only [List.setIfInBounds_toArray, List.set_cons_zero, List.set_cons_succ]
          refine wpAnyH_ready (rs := [5, 7]) (by kernel_rfl) (by simp) ?_
          refine (AllReadyH.cons rfl (fun K hK => ?_) (AllReadyH.cons rfl (fun K hK => ?_) AllReadyH.nil))
          · go_simp
            refine (apply_ok (.slice (RA j) m (RC j)) (.slice (some ⟨gb, 0, none⟩) m cb) m n (KF j) F p x0 (HRV.out.more fun _ h => h.2) HSr.out.grid HCH.out).mono ?_
            rintro e x1 ⟨r, rfl, hr, hb1⟩
            have HS1 := Lib.hid (HSr.out.calls hb1)
            have HG1 := Lib.hid (far_calls HGr.out hb1)
            have HR1 := Lib.hid (hr.more (S' := (· < x1.heap.size)) fun _ h => h.2)
            have q1 := (hb1.cell (p := ⟨bk, ok + j, none⟩) hbk2).trans hHeld.1
            have q2 := HS1.out.box.cell (i := 0) rfl
            have q3 := HS1.out.box.cell (i := 1) rfl
            have hmk := make_ints n (by omega) x1
            obtain ⟨Ar, cr, rfl, -⟩ := hr.form
            have hbk3 := Nat.lt_of_lt_of_le hbk2 hb1.size
            clear hr hb1 HSr HGr HRV
            dsimp only
            refine hK.out _ _ ⟨q1, q2, q3⟩ (fun hHeld => ?_)
            clear hK K
            try simp only [Act.put, List.setIfInBounds_toArray, List.set_cons_zero, List.set_cons_succ]
            refine wpAnyH_ready (rs := [7]) (by kernel_rfl) (by simp) ?_
            refine (AllReadyH.cons rfl (fun K hK => ?_) AllReadyH.nil)
            go_simp
            have hba := (Below.refl x1.heap.size x1).alloc (Nat.le_refl _) (.cells (CTab n fun _ => .int .i64 0) 3)
            have HS2 := Lib.hid (HS1.out.calls hba)
            have HG2 := Lib.hid (far_calls HG1.out hba)
            have HR2 := Lib.hid (HR1.out.below (fun _ h => h) hba)
            have HZ2 := Lib.hid ((show RowI (x1.alloc (.cells (CTab n fun _ => .int .i64 0) 3)) x1.heap.size n (fun _ => 0) from ⟨_, row_new rfl _ _, by rw [CTab_size]; exact Nat.le_refl _, fun j hj => CTab_get n _ j hj⟩).vec (Nat.le_refl n) (fun _ => True) trivial)
            have q4 := (hba.cell (p := ⟨bk, ok + j, none⟩) hbk3).trans q1
            have q5 := HS2.out.box.cell (i := 0) rfl
            have q6 := HS2.out.box.cell (i := 1) rfl
            clear hba HS1 HG1 HR1 q1 q2 q3 hmk hHeld
            generalize x1.alloc (.cells (CTab n fun _ => .int .i64 0) 3) = x2 at HS2 HG2 HR2 HZ2 q4 q5 q6 ⊢
            generalize x1.heap.size = zz at HR2 HZ2 ⊢
            refine hK.out _ _ ⟨q4, q5, q6⟩ (fun hHeld => ?_)
            clear hK K
            try simp only [Act.put, List.setIfInBounds_toArray, List.set_cons_zero, List.set_cons_succ]
            refine wpAnyH_ready (rs := [8]) (by kernel_rfl) (by simp) ?_
            refine (AllReadyH.cons rfl (fun K hK => ?_) AllReadyH.nil)
            go_simp
            refine (row_same (.slice Ar n cr) (.slice (some ⟨zz, 0, none⟩) n n) n (appF p m (KF j) F) (fun _ => 0) x2 _ _ (by omega) HR2.out HZ2.out).mono ?_
            rintro e x3 ⟨rfl, nq, rfl⟩
            rw [show eqB n (appF p m (KF j) F) (fun _ => 0) = true from decide_eq_true (fun i hi => HZE.out j hlt i hi)]
            have HS3 := Lib.hid (HS2.out.drew nq)
            have HG3 := Lib.hid (far_drew HG2.out nq)
            clear HS2 HG2 HR2 HZ2
            dsimp only
            refine hK.out _ _ (show _ from hHeld) (fun hHeld => ?_)
            clear hK K
            try simp only [Act.put, List.setIfInBounds_toArray, List.set_cons_zero, List.set_cons_succ]
            refine takeH (i := 9) (v := (.bool false)) rfl rfl (by kernel_rfl) (by kernel_rfl) (by kernel_rfl) (fun _ _ _ h => h) (by rfl) (fun W hW => by (skip); go_simp) (by assumption) ?_
            simp only [List.setIfInBounds_toArray, List.set_cons_zero, List.set_cons_succ]
            refine wpAnyH_done (by kernel_rfl) ?_ _
            clear hHeld
            generalize x2.drewN nq = x3 at HS3 HG3 ⊢
            go_wp2
            go_roundw
            case rel => exact ⟨j + 1, by go_num, by omega, HS3, HG3⟩
            case measure => simp [intOf]; omega
          · go_simp
            have hba := (Below.refl x0.heap.size x0).alloc (Nat.le_refl _) (.cells (CTab n fun _ => .int .i64 0) 3)
            have HS1 := Lib.hid (HSr.out.calls hba)
            have HG1 := Lib.hid (far_calls HGr.out hba)
            have HR1 := Lib.hid (vecFar_calls HRV.out hba)
            have HZ1 := Lib.hid ((show RowI (x0.alloc (.cells (CTab n fun _ => .int .i64 0) 3)) x0.heap.size n (fun _ => 0) from ⟨_, row_new rfl _ _, by rw [CTab_size]; exact Nat.le_refl _, fun j hj => CTab_get n _ j hj⟩).vec (Nat.le_refl n) (· < (x0.alloc (.cells (CTab n fun _ => .int .i64 0) 3)).heap.size) (by simp))
            have q4 := (hba.cell (p := ⟨bk, ok + j, none⟩) hbk2).trans hHeld.1
            have q5 := HS1.out.box.cell (i := 0) rfl
            have q6 := HS1.out.box.cell (i := 1) rfl
            have hbk3 := Nat.lt_of_lt_of_le hbk2 hba.size
            clear hba HSr HGr HRV hmk hHeld
            generalize x0.alloc (.cells (CTab n fun _ => .int .i64 0) 3) = x1 at HS1 HG1 HR1 HZ1 q4 q5 q6 hbk3 ⊢
            generalize x0.heap.size = zz at HZ1 ⊢
            refine hK.out _ _ ⟨q4, q5, q6⟩ (fun hHeld => ?_)
            clear hK K
            try simp only [Act.put, List.setIfInBounds_toArray, List.set_cons_zero, List.set_cons_succ]
            refine wpAnyH_ready (rs := [5]) (by kernel_rfl) (by simp) ?_
            refine (AllReadyH.cons rfl (fun K hK => ?_) AllReadyH.nil)
            go_simp
            refine (apply_ok (.slice (RA j) m (RC j)) (.slice (some ⟨gb, 0, none⟩) m cb) m n (KF j) F p x1 (HR1.out.more fun _ h => h.2) HS1.out.grid HCH.out).mono ?_
            rintro e x2 ⟨r, rfl, hr, hb1⟩
            have HS2 := Lib.hid (HS1.out.calls hb1)
            have HG2 := Lib.hid (far_calls HG1.out hb1)
            have HR2 := Lib.hid (hr.more (S' := fun _ => True) fun _ _ => trivial)
            have HZ2 := Lib.hid (HZ1.out.below (fun _ h => h) hb1)
            have q1 := (hb1.cell (p := ⟨bk, ok + j, none⟩) hbk3).trans q4
            have q2 := HS2.out.box.cell (i := 0) rfl
            have q3 := HS2.out.box.cell (i := 1) rfl
            obtain ⟨Ar, cr, rfl, -⟩ := hr.form
            clear hr hb1 HS1 HG1 HR1 HZ1 hHeld
            dsimp only
            refine hK.out _ _ ⟨q1, q2, q3⟩ (fun hHeld => ?_)
            clear hK K
            try simp only [Act.put, List.setIfInBounds_toArray, List.set_cons_zero, List.set_cons_succ]
            refine wpAnyH_ready (rs := [8]) (by kernel_rfl) (by simp) ?_
            refine (AllReadyH.cons rfl (fun K hK => ?_) AllReadyH.nil)
            go_simp
            refine (row_same (.slice Ar n cr) (.slice (some ⟨zz, 0, none⟩) n n) n (appF p m (KF j) F) (fun _ => 0) x2 _ _ (by omega) HR2.out HZ2.out).mono ?_
            rintro e x3 ⟨rfl, nq, rfl⟩
            rw [show eqB n (appF p m (KF j) F) (fun _ => 0) = true from decide_eq_true (fun i hi => HZE.out j hlt i hi)]
            have HS3 := Lib.hid (HS2.out.drew nq)
            have HG3 := Lib.hid (far_drew HG2.out nq)
            clear HS2 HG2 HR2 HZ2
            dsimp only
            refine hK.out _ _ (show _ from hHeld) (fun hHeld => ?_)
            clear hK K
            try simp only [Act.put, List.setIfInBounds_toArray, List.set_cons_zero, List.set_cons_succ]
            refine takeH (i := 9) (v := (.bool false)) rfl rfl (by kernel_rfl) (by kernel_rfl) (by kernel_rfl) (fun _ _ _ h => h) (by rfl) (fun W hW => by (skip); go_simp) (by assumption) ?_
            simp only [List.setIfInBounds_toArray, List.set_cons_zero, List.set_cons_succ]
            refine wpAnyH_done (by kernel_rfl) ?_ _
            clear hHeld
            generalize x2.drewN nq = x3 at HS3 HG3 ⊢
            go_wp2
            go_roundw
            case rel => exact ⟨j + 1, by go_num, by omega, HS3, HG3⟩
            case measure => simp [intOf]; omega
        · obtain rfl : j = LK := by omega
          have c0 := HSr.out.box.cell (i := 0) rfl
          have c1 := HSr.out.box.cell (i := 1) rfl
          clear HGr HZE HGK2 HSC2
          go_wp2_with fail
          refine wp_region_held_drew (S := (fun W1 => W1.cell? ⟨bx, 0, none⟩ = some (.int .i64 p) ∧ W1.cell? ⟨bx, 1, none⟩ = some (.slice (some ⟨gb, 0, none⟩) m cb))) (by kernel_rfl) ⟨c0, c1⟩ (fun hHeld => ?_)
          have HSd := Lib.hid HSr.out.drew1
          clear HSr c0 c1
          generalize wr.drew = y0 at HSd hHeld ⊢
          obtain ⟨q0, hq0⟩ := HSd.out.tk
          have HQ0 := Lib.hid hq0
          clear hq0
          refine takeH (i := 0) (v := (.pointer (some ⟨t, 0, none⟩))) rfl rfl (by kernel_rfl) (by kernel_rfl) (by kernel_rfl) (fun _ _ _ h => h) (by rfl) (fun W hW => by (skip); go_simp) (by assumption) ?_
          simp only [List.setIfInBounds_toArray, List.set_cons_zero, List.set_cons_succ]
          refine takeH (i := 1) (v := (.int .i64 p)) rfl rfl (by kernel_rfl) (by kernel_rfl) (by kernel_rfl) (fun _ _ _ h => h) (by rfl) (fun W hW => by (skip); go_simp) (by assumption) ?_
          simp only [List.setIfInBounds_toArray, List.set_cons_zero, List.set_cons_succ]
          refine takeH (i := 2) (v := (.int .i64 m)) rfl rfl (by kernel_rfl) (by kernel_rfl) (by kernel_rfl) (fun _ _ _ h => h) (by rfl) (fun W hW => by (skip); go_simp) (by assumption) ?_
          simp only [List.setIfInBounds_toArray, List.set_cons_zero, List.set_cons_succ]
          refine takeH (i := 6) (v := (.agg #[.int .i64 p, .slice (some ⟨gb, 0, none⟩) m cb])) rfl rfl (by kernel_rfl) (by kernel_rfl) (by kernel_rfl) (fun _ _ _ h => h) (by rfl) (fun W hW => by (obtain ⟨h1, h2⟩ := hW); go_simp) (by assumption) ?_
          simp only [List.setIfInBounds_toArray, List.set_cons_zero, List.set_cons_succ]
          refine wpAnyH_ready (rs := [3]) (by kernel_rfl) (by simp) ?_
          refine (AllReadyH.cons rfl (fun K hK => ?_) AllReadyH.nil)
          go_simp
          refine (drawn_any t A c N q0 z p 1 m y0 (by omega) (by omega) (by omega) hm1 (by omega) hN HQ0.out).mono ?_
          rintro e y1 ⟨rl, YF, q1, rfl, hgl, -, hq1, htu1⟩
          have HS1 := Lib.hid (HSd.out.turns hsz htu1 hq1)
          obtain ⟨bl, ol, cl, RL, CL, rfl, -, hbl, hrl⟩ := hgl.at_ (by omega)
          obtain ⟨hrow0, hrv0⟩ := hrl 0 (by omega)
          rw [Nat.add_zero] at hrow0
          have HRV0 := Lib.hid (hrv0.more (S' := (· < y1.heap.size)) fun _ h => h.2)
          generalize RL 0 = Al at hrow0 HRV0
          generalize CL 0 = cl0 at hrow0 HRV0
          generalize YF 0 = y at HRV0
          have q2 := HS1.out.box.cell (i := 0) rfl
          have q3 := HS1.out.box.cell (i := 1) rfl
          have hbn := HSd.out.tlt
          clear hgl hq1 htu1 hrl hrv0 hbl HSd HQ0 hHeld
          dsimp only
          refine hK.out _ _ ⟨q2, q3⟩ (fun hHeld => ?_)
          clear hK K
          try simp only [Act.put, List.setIfInBounds_toArray, List.set_cons_zero, List.set_cons_succ]
          refine takeH (i := 4) (v := (.pointer (some ⟨bl, ol, none⟩))) rfl rfl (by kernel_rfl) (by kernel_rfl) (by kernel_rfl) (fun _ _ _ h => h) (by rfl) (fun W hW => by (skip); go_simp) (by assumption) ?_
          simp only [List.setIfInBounds_toArray, List.set_cons_zero, List.set_cons_succ]
          refine wpAnyH_ready (rs := [5]) (by kernel_rfl) (by simp) ?_
          refine (AllReadyH.cons rfl (fun K hK => ?_) AllReadyH.nil)
          go_simp
          refine hK.out _ _ ⟨q2, q3⟩ (fun hHeld => ?_)
          clear hK K
          try simp only [Act.put, List.setIfInBounds_toArray, List.set_cons_zero, List.set_cons_succ]
          refine wpAnyH_ready (rs := [7]) (by kernel_rfl) (by simp) ?_
          refine (AllReadyH.cons rfl (fun K hK => ?_) AllReadyH.nil)
          go_simp
          refine (apply_ok (.slice Al m cl0) (.slice (some ⟨gb, 0, none⟩) m cb) m n y F p y1 HRV0.out HS1.out.grid HCH.out).mono ?_
          rintro e y2 ⟨rb, rfl, hrb, hb2⟩
          have HS2 := Lib.hid (HS1.out.calls hb2)
          have hty1 := HS1.out.tlt
          have HVB2 := Lib.hid (hrb.more (S' := Far t y2) fun b h => ⟨by have := h.1; omega, h.2⟩)
          obtain ⟨Abb, cbb, rfl, -⟩ := hrb.form
          have q4 := HS2.out.box.cell (i := 0) rfl
          have q5 := HS2.out.box.cell (i := 1) rfl
          clear hrb hb2 HS1 HRV0 q2 q3 hrow0 hHeld
          dsimp only
          refine hK.out _ _ ⟨q4, q5⟩ (fun hHeld => ?_)
          clear hK K
          try simp only [Act.put, List.setIfInBounds_toArray, List.set_cons_zero, List.set_cons_succ]
          refine takeH (i := 8) (v := (.slice Abb n cbb)) rfl rfl (by kernel_rfl) (by kernel_rfl) (by kernel_rfl) (fun _ _ _ h => h) (by rfl) (fun W hW => by (skip); go_simp) (by assumption) ?_
          simp only [List.setIfInBounds_toArray, List.set_cons_zero, List.set_cons_succ]
          refine wpAnyH_done (by kernel_rfl) ?_ _
          clear hHeld
          have himg := HIM.out y
          have hbin : InP (p : Int) n (appF p m y F) := appF_in (by omega) m n y F
          generalize appF p m y F = bF at himg hbin HVB2
          have HMAP := Lib.hid (fun (j : Nat) (hj : j < n) => sol_map hp2 himg hbin hj)
          have HDR := Lib.hid (fun (i : Nat) (hd : inB p n (elimR p n (invI p) (rowsL n F i)) (F i) = true) => sol_drop (p := (p : Int)) hp2 (m := m) (b := bF) hd)
          go_wp2_with fail
          refine (Solve_ok p (.slice (some ⟨gb, 0, none⟩) m cb) (.slice Abb n cbb) m n F bF y2 HCH.out HS2.out.grid (HVB2.out.more fun _ h => h.2)).mono ?_
          rintro e y3 h3
          obtain ⟨vs, rfl, hvs, hb3⟩ := h3.1 himg
          generalize solV p n (solR p m n F bF) = sV at hvs HMAP HDR
          have HS3 := Lib.hid (HS2.out.calls hb3)
          have hty2 := HS2.out.tlt
          have HVB3 := Lib.hid (vecFar_calls HVB2.out hb3)
          have HVS3 := Lib.hid (hvs.more (S' := Far t y3) fun b h => ⟨by have := h.1; omega, h.2⟩)
          obtain ⟨As, cs, rfl, -⟩ := hvs.form
          have q6 := HS3.out.box.cell (i := 0) rfl
          have q7 := HS3.out.box.cell (i := 1) rfl
          clear h3 hvs hb3 HS2 HVB2 q4 q5 himg HIM hbin
          go_wp2_with fail
          refine (apply_ok (.slice As m cs) (.slice (some ⟨gb, 0, none⟩) m cb) m n sV F p y3 (HVS3.out.more fun _ h => h.2) HS3.out.grid HCH.out).mono ?_
          rintro e y4 ⟨ra, rfl, hra, hb4⟩
          have HS4 := Lib.hid (HS3.out.calls hb4)
          have HVB4 := Lib.hid (vecFar_calls HVB3.out hb4)
          have HVS4 := Lib.hid (vecFar_calls HVS3.out hb4)
          have HRA4 := Lib.hid hra
          obtain ⟨Ara, cra, rfl, -⟩ := hra.form
          clear hra hb4 HS3 HVB3 HVS3 q6 q7
          go_wp2_with fail
          refine (row_same (.slice Ara n cra) (.slice Abb n cbb) n (appF p m sV F) bF y4 _ _ (by omega) HRA4.out HVB4.out).mono ?_
          rintro e y5 ⟨rfl, nq, rfl⟩
          rw [show eqB n (appF p m sV F) bF = true from decide_eq_true (fun i hi => HMAP.out i hi)]
          have HS5 := Lib.hid (HS4.out.drew nq)
          have HVS5 := Lib.hid (show Vec (y4.drewN nq) (Far t (y4.drewN nq)) (.slice As m cs) m sV from HVS4.out.keep (fun _ h => h) (fun _ _ => rfl) (fun _ _ => rfl))
          clear HS4 HVB4 HVS4 HRA4 HMAP
          generalize y4.drewN nq = y5 at HS5 HVS5 ⊢
          go_wp2_with fail
          go_loopw [19] (fun i wr => ∃ j : Nat, i = .int .i64 j ∧ j ≤ m ∧ Hid (SC w t A c N z p bx (.slice (some ⟨gb, 0, none⟩) m cb) m n F wr) ∧ Hid (Vec wr (Far t wr) (.slice As m cs) m sV)) (fun i _ => m - (intOf i).toNat)
          case atStart => exact ⟨0, rfl, Nat.zero_le _, HS5, HVS5⟩
          case round =>
            obtain ⟨j, rfl, hj, HSr, HVr⟩ := hrel
            by_cases hlt : j < m
            · obtain ⟨bg, og, cg, RA, RC, e', -, hbg, hrk⟩ := HSr.out.g.at_ (by omega)
              injection e' with e1 _ e3
              injection e1 with e1
              injection e1 with e1 e2 _
              subst e1; subst e2; subst e3
              obtain ⟨hrow, hrv⟩ := hrk j hlt
              rw [Nat.zero_add] at hrow
              obtain ⟨A6, hcut6, hG6⟩ := cut_preG HSr.out.g (k := j) (by omega)
              obtain ⟨bv, ov, cv, e', -, hbv, hcv⟩ := HVr.out.at_ (by omega)
              injection e' with e1 _ e3
              subst e1; subst e3
              have hvj := hcv j hlt
              have HRV := Lib.hid hrv
              have HG6 := Lib.hid hG6
              have hbg2 := hbg.2
              have hbv2 := hbv.2
              have c1 := HSr.out.box.cell (i := 1) rfl
              have d1 : (0 : Int) ≤ j := by omega
              have d2 : (j : Int) < (m : Int) := by omega
              clear hrk hrv hbg hG6 hbv hcv
              go_wp2_with fail
              refine wp_region_held_drew (S := (fun W1 => W1.cell? ⟨bx, 1, none⟩ = some (.slice (some ⟨gb, 0, none⟩) m cb) ∧ W1.cell? ⟨gb, j, none⟩ = some (.slice (RA j) n (RC j)))) (by kernel_rfl) ⟨c1, hrow⟩ (fun hHeld => ?_)
              have HSq := Lib.hid HSr.out.drew1
              have HVq := Lib.hid (show Vec wr.drew (Far t wr.drew) (.slice (some ⟨bv, ov, none⟩) m cs) m sV from HVr.out.keep (fun _ h => h) (fun _ _ => rfl) (fun _ _ => rfl))
              have HRq := Lib.hid (show Vec wr.drew (Far t wr.drew) (.slice (RA j) n (RC j)) n (F j) from HRV.out.keep (fun _ h => h) (fun _ _ => rfl) (fun _ _ => rfl))
              have HGq := Lib.hid (far_drew HG6.out 1)
              change Hid (Grid wr.drew (Far t wr.drew) _ j (fun _ => n) F) at HGq
              have hvq : wr.drew.cell? ⟨bv, ov + j, none⟩ = some (.int .i64 (sV j)) := hvj
              have hbg3 : gb < wr.drew.heap.size := hbg2
              have hbv3 : bv < wr.drew.heap.size := hbv2
              clear HSr HVr HRV HG6 hvj hrow c1 hbg2 hbv2
              generalize wr.drew = x0 at HSq HVq HRq HGq hvq hbg3 hbv3 hHeld ⊢
              refine takeH (i := 0) (v := (.int .i64 p)) rfl rfl (by kernel_rfl) (by kernel_rfl) (by kernel_rfl) (fun _ _ _ h => h) (by rfl) (fun W hW => by (skip); go_simp) (by assumption) ?_
              simp only [List.setIfInBounds_toArray, List.set_cons_zero, List.set_cons_succ]
              refine takeH (i := 1) (v := (.int .i64 n)) rfl rfl (by kernel_rfl) (by kernel_rfl) (by kernel_rfl) (fun _ _ _ h => h) (by rfl) (fun W hW => by (skip); go_simp) (by assumption) ?_
              simp only [List.setIfInBounds_toArray, List.set_cons_zero, List.set_cons_succ]
              refine takeH (i := 2) (v := (.pointer (some ⟨bx, 1, none⟩))) rfl rfl (by kernel_rfl) (by kernel_rfl) (by kernel_rfl) (fun _ _ _ h => h) (by rfl) (fun W hW => by (skip); go_simp) (by assumption) ?_
              simp only [List.setIfInBounds_toArray, List.set_cons_zero, List.set_cons_succ]
              refine takeH (i := 3) (v := (.slice (some ⟨gb, 0, none⟩) m cb)) rfl rfl (by kernel_rfl) (by kernel_rfl) (by kernel_rfl) (fun _ _ _ h => h) (by rfl) (fun W hW => by (obtain ⟨h1, h2⟩ := hW); go_simp) (by assumption) ?_
              simp only [List.setIfInBounds_toArray, List.set_cons_zero, List.set_cons_succ]
              refine takeH (i := 4) (v := (.int .i64 j)) rfl rfl (by kernel_rfl) (by kernel_rfl) (by kernel_rfl) (fun _ _ _ h => h) (by rfl) (fun W hW => by (skip); go_simp) (by assumption) ?_
              simp only [List.setIfInBounds_toArray, List.set_cons_zero, List.set_cons_succ]
              refine takeH (i := 5) (v := (.slice A6 j cb)) rfl rfl (by kernel_rfl) (by kernel_rfl) (by kernel_rfl) (fun _ _ _ h => h) (by rfl) (fun W hW => by (skip); go_simp) (by assumption) ?_
              simp only [List.setIfInBounds_toArray, List.set_cons_zero, List.set_cons_succ]
              refine takeH (i := 6) (v := (.pointer (some ⟨bx, 1, none⟩))) rfl rfl (by kernel_rfl) (by kernel_rfl) (by kernel_rfl) (fun _ _ _ h => h) (by rfl) (fun W hW => by (skip); go_simp) (by assumption) ?_
              simp only [List.setIfInBounds_toArray, List.set_cons_zero, List.set_cons_succ]
              refine takeH (i := 7) (v := (.slice (some ⟨gb, 0, none⟩) m cb)) rfl rfl (by kernel_rfl) (by kernel_rfl) (by kernel_rfl) (fun _ _ _ h => h) (by rfl) (fun W hW => by (obtain ⟨h1, h2⟩ := hW); go_simp) (by assumption) ?_
              simp only [List.setIfInBounds_toArray, List.set_cons_zero, List.set_cons_succ]
              refine takeH (i := 8) (v := (.int .i64 j)) rfl rfl (by kernel_rfl) (by kernel_rfl) (by kernel_rfl) (fun _ _ _ h => h) (by rfl) (fun W hW => by (skip); go_simp) (by assumption) ?_
              simp only [List.setIfInBounds_toArray, List.set_cons_zero, List.set_cons_succ]
              refine takeH (i := 9) (v := (.pointer (some ⟨gb, j, none⟩))) rfl rfl (by kernel_rfl) (by kernel_rfl) (by kernel_rfl) (fun _ _ _ h => h) (by rfl) (fun W hW => by (skip); go_simp) (by assumption) ?_
              simp only [List.setIfInBounds_toArray, List.set_cons_zero, List.set_cons_succ]
              refine takeH (i := 10) (v := (.slice (RA j) n (RC j))) rfl rfl (by kernel_rfl) (by kernel_rfl) (by kernel_rfl) (fun _ _ _ h => h) (by rfl) (fun W hW => by (obtain ⟨h1, h2⟩ := hW); go_simp) (by assumption) ?_
              simp only [List.setIfInBounds_toArray, List.set_cons_zero, List.set_cons_succ]
              refine wpAnyH_ready (rs := [11]) (by kernel_rfl) (by simp) ?_
              refine (AllReadyH.cons rfl (fun K hK => ?_) AllReadyH.nil)
              go_simp
              refine (In_any p n (.slice A6 j cb) (.slice (RA j) n (RC j)) j n (fun _ => n) F (F j) x0 (by omega) (by omega) (HGq.out.more fun _ h => h.2) (HRq.out.more fun _ h => h.2)).mono ?_
              rintro e x1 h1
              rw [HIO.out j (by omega), if_pos rfl, Int.toNat_natCast] at h1
              change RetI (inB p n (elimR p n (invI p) (rowsL n F j)) (F j)) 0 x0 e x1 at h1
              have hdr := HDR.out j
              generalize inB p n (elimR p n (invI p) (rowsL n F j)) (F j) = b1 at h1 hdr
              obtain ⟨rfl, hb1⟩ := h1
              have HS6 := Lib.hid (HSq.out.calls hb1)
              have HV6 := Lib.hid (vecFar_calls HVq.out hb1)
              have hvr := (hb1.cell (p := ⟨bv, ov + j, none⟩) hbv3).trans hvq
              have q8 := HS6.out.box.cell (i := 1) rfl
              have q9 := (hb1.cell (p := ⟨gb, j, none⟩) hbg3).trans hHeld.2
              clear hb1 HSq HVq HRq HGq hvq hHeld hbg3 hbv3
              dsimp only
              refine hK.out _ _ ⟨q8, q9⟩ (fun hHeld => ?_)
              clear hK K
              try simp only [Act.put, List.setIfInBounds_toArray, List.set_cons_zero, List.set_cons_succ]
              refine takeH (i := 12) (v := (.tuple #[.bool b1, .int .i64 0])) rfl rfl (by kernel_rfl) (by kernel_rfl) (by kernel_rfl) (fun _ _ _ h => h) (by rfl) (fun W hW => by (skip); go_simp) (by assumption) ?_
              simp only [List.setIfInBounds_toArray, List.set_cons_zero, List.set_cons_succ]
              refine takeH (i := 13) (v := (.bool b1)) rfl rfl (by kernel_rfl) (by kernel_rfl) (by kernel_rfl) (fun _ _ _ h => h) (by rfl) (fun W hW => by (skip); go_simp) (by assumption) ?_
              simp only [List.setIfInBounds_toArray, List.set_cons_zero, List.set_cons_succ]
              refine takeH (i := 14) (v := (.int .i64 0)) rfl rfl (by kernel_rfl) (by kernel_rfl) (by kernel_rfl) (fun _ _ _ h => h) (by rfl) (fun W hW => by (skip); go_simp) (by assumption) ?_
              simp only [List.setIfInBounds_toArray, List.set_cons_zero, List.set_cons_succ]
              refine takeH (i := 15) (v := (.bool b1)) rfl rfl (by kernel_rfl) (by kernel_rfl) (by kernel_rfl) (fun _ _ _ h => h) (by rfl) (fun W hW => by (skip); go_simp) (by assumption) ?_
              simp only [List.setIfInBounds_toArray, List.set_cons_zero, List.set_cons_succ]
              refine takeH (i := 16) (v := (.int .i64 0)) rfl rfl (by kernel_rfl) (by kernel_rfl) (by kernel_rfl) (fun _ _ _ h => h) (by rfl) (fun W hW => by (skip); go_simp) (by assumption) ?_
              simp only [List.setIfInBounds_toArray, List.set_cons_zero, List.set_cons_succ]
              refine wpAnyH_done (by kernel_rfl) ?_ _
              clear hHeld q8 q9 hcut6
              cases b1 with
              | false =>
                clear hdr hvr
                go_wp2
                go_roundw
                case rel => exact ⟨j + 1, by go_num, by omega, HS6, HV6⟩
                case measure => simp [intOf]; omega
              | true =>
                rw [hdr rfl] at hvr
                clear hdr
                go_wp2
                go_roundw
                case rel => exact ⟨j + 1, by go_num, by omega, HS6, HV6⟩
                case measure => simp [intOf]; omega
            · obtain rfl : m = j := by omega
              obtain ⟨q20, hq20⟩ := HSr.out.tk
              have HQ := Lib.hid hq20
              clear hq20 HVr HDR HS5 HVS5
              go_wp2_with fail
              refine (drawn_any t A c N q20 z p 1 n wr (by omega) (by omega) (by omega) hn1 (by omega) hN HQ.out).mono ?_
              rintro e u1 ⟨rl, YF, q1, rfl, hgl, -, hq1, htu1⟩
              have HS1 := Lib.hid (HSr.out.turns hsz htu1 hq1)
              obtain ⟨bl, ol, cl, RL, CL, rfl, -, hbl, hrl⟩ := hgl.at_ (by omega)
              obtain ⟨hrow0, hrv0⟩ := hrl 0 (by omega)
              rw [Nat.add_zero] at hrow0
              have HRV0 := Lib.hid (hrv0.more (S' := (· < u1.heap.size)) fun _ h => h.2)
              generalize RL 0 = Al at hrow0 HRV0
              generalize CL 0 = cl0 at hrow0 HRV0
              generalize YF 0 = yc at HRV0
              have q3 := HS1.out.box.cell (i := 1) rfl
              clear hgl hq1 htu1 hrl hrv0 hbl HSr HQ
              go_wp2_with fail
              refine (In_any p n (.slice (some ⟨gb, 0, none⟩) m cb) (.slice Al n cl0) m n (fun _ => n) F yc u1 (by omega) (by omega) HS1.out.grid HRV0.out).mono ?_
              rintro e u2 h2
              rw [HIO.out m (by omega), if_pos rfl, Int.toNat_natCast] at h2
              change RetI (inB p n (elimR p n (invI p) (rowsL n F m)) yc) 0 u1 e u2 at h2
              have hsi := sol_in p m n F yc
              generalize inB p n (elimR p n (invI p) (rowsL n F m)) yc = b1 at h2 hsi
              have HSI := Lib.hid hsi
              obtain ⟨rfl, hb2⟩ := h2
              have HS2 := Lib.hid (HS1.out.calls hb2)
              have HRV2 := Lib.hid ((HRV0.out.below (fun _ h => h) hb2).more (S' := (· < u2.heap.size)) fun _ h => Nat.lt_of_lt_of_le h hb2.size)
              have q4 := HS2.out.box.cell (i := 0) rfl
              have q5 := HS2.out.box.cell (i := 1) rfl
              clear hb2 HS1 HRV0 q3 hrow0 hsi
              go_wp2_with fail
              refine (Solve_ok p (.slice (some ⟨gb, 0, none⟩) m cb) (.slice Al n cl0) m n F yc u2 HCH.out HS2.out.grid HRV2.out).mono ?_
              rintro e u3 h3
              have hsi := HSI.out
              have HB3 := Lib.hid HS2.out.b
              have hs2 := HS2.out.b.size
              clear HSI HS2 HRV2 q4 q5
              cases b1 with
              | true =>
                obtain ⟨vs, rfl, hvs, hb3⟩ := h3.1 (by
                  cases e : firstNZ (solR p m n F yc) n with
                  | none => rfl
                  | some i => rw [e] at hsi; simp at hsi)
                obtain ⟨As2, cs2, rfl, -⟩ := hvs.form
                have HB4 := Lib.hid (HB3.out.trans (hb3.mono HB3.out.size))
                clear h3 hvs hb3 hsi
                go_wp2
                go_ret
                exact ⟨rfl, HB4.out⟩
              | false =>
                obtain ⟨rfl, hb3⟩ := h3.2 (fun e => by rw [e] at hsi; simp at hsi)
                have HB4 := Lib.hid (HB3.out.trans (hb3.mono HB3.out.size))
                clear h3 hb3 hsi
                go_wp2
                go_ret
                exact ⟨rfl, HB4.out⟩
    · obtain ⟨k, hk⟩ : ∃ k : Nat, (m : Int) - 1 = (k : Int) := ⟨m - 1, by omega⟩
      have hwk : IntKind.i64.wrap ((m : Int) - 1) = (k : Int) := by rw [hk]; exact IntWalk.i64_in _ ⟨by omega, by omega⟩
      have hkm : k < m := by omega
      obtain ⟨A9, hcut9, hG9⟩ := cut_preG (HO7.out.grid ht4) (k := k) (by omega)
      have HG9 := Lib.hid hG9
      have hcx := HX7.out.cell (i := 1) rfl
      clear hk hG9
      go_wp2_with fail
      refine wp_region_held_drew (S := (fun W1 => W1.cell? ⟨bx, 1, none⟩ = some (.slice (some ⟨gb, 0, none⟩) m cb))) (by kernel_rfl) hcx (fun hHeld => ?_)
      have HO8 := Lib.hid (show OwnB w4 t (.slice (some ⟨gb, 0, none⟩) m cb) m n F (fun i => .slice (some ⟨g i, 0, none⟩) n (cc i)) w7.drew from ⟨HO7.out.own, fun i hi => (HO7.out.row i hi).keep (fun _ h => h) (fun _ _ => rfl) (fun _ _ => rfl)⟩)
      have HX8 := Lib.hid (show Row w7.drew bx 32 #[.int .i64 p, .slice (some ⟨gb, 0, none⟩) m cb] from HX7.out)
      have HB8 := Lib.hid (show Below w.heap.size w w7.drew from ⟨HB7.out.os, HB7.out.tape, HB7.out.output, HB7.out.size, HB7.out.block⟩)
      have HQ8 := Lib.hid (show MTk w7.drew t A c N z q7 from ⟨HQ7.out.1, HQ7.out.2.keep (fun _ h => h) (fun _ _ => rfl) (fun _ _ => rfl)⟩)
      have HG8 := Lib.hid (far_drew HG9.out 1)
      change Hid (Grid w7.drew (Far t w7.drew) _ k (fun _ => n) F) at HG8
      clear HO7 HX7 HB7 HQ7 HG9 hcx
      generalize w7.drew = w8 at HO8 HX8 HB8 HQ8 HG8 hHeld ⊢
      refine takeH (i := 0) (v := (.pointer (some ⟨bx, 1, none⟩))) rfl rfl (by kernel_rfl) (by kernel_rfl) (by kernel_rfl) (fun _ _ _ h => h) (by rfl) (fun W hW => by (skip); go_simp) (by assumption) ?_
      simp only [List.setIfInBounds_toArray, List.set_cons_zero, List.set_cons_succ]
      refine takeH (i := 1) (v := (.slice (some ⟨gb, 0, none⟩) m cb)) rfl rfl (by kernel_rfl) (by kernel_rfl) (by kernel_rfl) (fun _ _ _ h => h) (by rfl) (fun W hW => by (skip); go_simp) (by assumption) ?_
      simp only [List.setIfInBounds_toArray, List.set_cons_zero, List.set_cons_succ]
      refine takeH (i := 2) (v := (.int .i64 m)) rfl rfl (by kernel_rfl) (by kernel_rfl) (by kernel_rfl) (fun _ _ _ h => h) (by rfl) (fun W hW => by (skip); go_simp) (by assumption) ?_
      simp only [List.setIfInBounds_toArray, List.set_cons_zero, List.set_cons_succ]
      refine takeH (i := 3) (v := (.int .i64 k)) rfl rfl (by kernel_rfl) (by kernel_rfl) (by kernel_rfl) (fun _ _ _ h => h) (by rfl) (fun W hW => by (skip); go_simp) (by assumption) ?_
      simp only [List.setIfInBounds_toArray, List.set_cons_zero, List.set_cons_succ]
      refine takeH (i := 4) (v := (.pointer (some ⟨t, 0, none⟩))) rfl rfl (by kernel_rfl) (by kernel_rfl) (by kernel_rfl) (fun _ _ _ h => h) (by rfl) (fun W hW => by (skip); go_simp) (by assumption) ?_
      simp only [List.setIfInBounds_toArray, List.set_cons_zero, List.set_cons_succ]
      refine takeH (i := 5) (v := (.int .i64 p)) rfl rfl (by kernel_rfl) (by kernel_rfl) (by kernel_rfl) (fun _ _ _ h => h) (by rfl) (fun W hW => by (skip); go_simp) (by assumption) ?_
      simp only [List.setIfInBounds_toArray, List.set_cons_zero, List.set_cons_succ]
      refine takeH (i := 6) (v := (.int .i64 n)) rfl rfl (by kernel_rfl) (by kernel_rfl) (by kernel_rfl) (fun _ _ _ h => h) (by rfl) (fun W hW => by (skip); go_simp) (by assumption) ?_
      simp only [List.setIfInBounds_toArray, List.set_cons_zero, List.set_cons_succ]
      refine takeH (i := 7) (v := (.pointer (some ⟨bx, 1, none⟩))) rfl rfl (by kernel_rfl) (by kernel_rfl) (by kernel_rfl) (fun _ _ _ h => h) (by rfl) (fun W hW => by (skip); go_simp) (by assumption) ?_
      simp only [List.setIfInBounds_toArray, List.set_cons_zero, List.set_cons_succ]
      refine takeH (i := 8) (v := (.slice (some ⟨gb, 0, none⟩) m cb)) rfl rfl (by kernel_rfl) (by kernel_rfl) (by kernel_rfl) (fun _ _ _ h => h) (by rfl) (fun W hW => by (skip); go_simp) (by assumption) ?_
      simp only [List.setIfInBounds_toArray, List.set_cons_zero, List.set_cons_succ]
      refine takeH (i := 9) (v := (.int .i64 m)) rfl rfl (by kernel_rfl) (by kernel_rfl) (by kernel_rfl) (fun _ _ _ h => h) (by rfl) (fun W hW => by (skip); go_simp) (by assumption) ?_
      simp only [List.setIfInBounds_toArray, List.set_cons_zero, List.set_cons_succ]
      refine takeH (i := 10) (v := (.int .i64 k)) rfl rfl (by kernel_rfl) (by kernel_rfl) (by kernel_rfl) (fun _ _ _ h => h) (by rfl) (fun W hW => by (skip); go_simp) (by assumption) ?_
      simp only [List.setIfInBounds_toArray, List.set_cons_zero, List.set_cons_succ]
      refine takeH (i := 11) (v := (.slice A9 k cb)) rfl rfl (by kernel_rfl) (by kernel_rfl) (by kernel_rfl) (fun _ _ _ h => h) (by rfl) (fun W hW => by (skip); go_simp) (by assumption) ?_
      simp only [List.setIfInBounds_toArray, List.set_cons_zero, List.set_cons_succ]
      refine wpAnyH_ready (rs := [12]) (by kernel_rfl) (by simp) ?_
      refine (AllReadyH.cons rfl (fun K hK => ?_) AllReadyH.nil)
      go_simp
      refine (mix_any t A c N q7 z p k n (.slice A9 k cb) F w8 (by omega) (by omega) (by omega) hn1 (by omega) hN HQ8.out (HG8.out.more fun b hb => ⟨hb.2, by have := hb.1; omega⟩) (fun i hi => HFI.out i (by omega))).mono ?_
      rintro e w9 ⟨r, y, q9, rfl, hrv, hq9, ht9⟩
      have hs89 := ht9.size
      have HO9 := Lib.hid (HO8.out.turn ht4 ht9)
      have HX9 := Lib.hid (HX8.out.turn ht9 (fun (e : bx = t) => by omega))
      have HB9 := Lib.hid (below_turn HB8.out ht9 hsz)
      obtain ⟨gb', cap', cur, e', hgb2, hrow9, ⟨u9, hu9⟩, hgrid9⟩ := HO9.out.put ht4 hkm (cv := r) (f := mixF p y F k) (hrv.more fun b hb => ⟨⟨by have := hb.1; have := HQ8.out.1.lt; omega, hb.2⟩, fun e => by have h1 := (HO8.out.own.lt b e).2; have := hb.1; omega⟩)
      cases e'
      have hHeld9 : w9.cell? ⟨bx, 1, none⟩ = some (.slice (some ⟨gb, 0, none⟩) m cb) := HX9.out.cell rfl
      have hc9 : w9.cell? ⟨gb, k, none⟩ = some u9 := hrow9.cell hu9
      have hf9 : w9.frozen? ⟨gb, k, none⟩ = false := hrow9.frozen k
      have hne9 : bx ≠ gb := fun e => by
        have h1 : w9.heap[gb]? = some (.cells cur 22) := hrow9
        have h2 : w9.heap[bx]? = some (.cells #[.int .i64 p, .slice (some ⟨gb, 0, none⟩) m cb] 32) := HX9.out
        rw [e, h1] at h2
        cases h2
      have hHS : (w9.setCell ⟨gb, k, none⟩ r).cell? ⟨bx, 1, none⟩ = some (.slice (some ⟨gb, 0, none⟩) m cb) := (World.cell?_setCell_far _ _ _ _ (show gb ≠ bx from Ne.symm hne9)).trans hHeld9
      have hts := (Turn.refl (· = gb) w9).setCell ⟨gb, k, none⟩ rfl r
      have HSC0 := Lib.hid (show SC w t A c N z p bx (.slice (some ⟨gb, 0, none⟩) m cb) m n (fun i => if i = k then mixF p y F k else F i) (w9.setCell ⟨gb, k, none⟩ r) from
        ⟨hgrid9, HX9.out.turn hts (fun (e : bx = gb) => hne9 e), ht5, ⟨q9, hq9.turn hts fun b hb (e : b = gb) => by omega⟩, ⟨hts.os.trans HB9.out.os, hts.tape.trans HB9.out.tape, hts.output.trans HB9.out.output, Nat.le_trans HB9.out.size hts.size, fun b hb => (hts.block b (Nat.lt_of_lt_of_le hb HB9.out.size) (fun (e : b = gb) => by omega)).trans (HB9.out.block b hb)⟩⟩)
      have HFI2 := Lib.hid (show InG (p : Int) m n (fun i => if i = k then mixF p y F k else F i) from fun i hi => by
        dsimp only
        split
        · exact mixF_in (by omega) y F k n
        · exact HFI.out i hi)
      obtain ⟨Ar, cr, rfl, -⟩ := hrv.form
      clear hrv hq9 ht9 hrow9 hu9 hgrid9 hts HO8 HX8 HB8 HQ8 HG8 HO9 HX9 HB9 HFI hHeld
      generalize (fun i => if i = k then mixF p y F k else F i) = F2 at HSC0 HFI2
      rename_i F0
      have HFI := Lib.hid HFI2.out
      clear HFI2
      dsimp only
      refine hK.out _ _ hHeld9 (fun hHeld => ?_)
      clear hK K
      try simp only [Act.put, List.setIfInBounds_toArray, List.set_cons_zero, List.set_cons_succ]
      refine takeH (i := 13) (v := (.pointer (some ⟨gb, k, none⟩))) rfl rfl (by kernel_rfl) (by kernel_rfl) (by kernel_rfl) (fun _ _ _ h => h) (by rfl) (fun W hW => by (skip); go_simp) (by assumption) ?_
      simp only [List.setIfInBounds_toArray, List.set_cons_zero, List.set_cons_succ]
      refine wpAnyH_ready (rs := [14]) (by kernel_rfl) (by simp) ?_
      refine (AllReadyH.cons rfl (fun K hK => ?_) AllReadyH.nil)
      go_simp
      refine hK.out _ _ hHS (fun hHeld => ?_)
      clear hK K
      try simp only [Act.put, List.setIfInBounds_toArray, List.set_cons_zero, List.set_cons_succ]
      refine wpAnyH_done (by kernel_rfl) ?_ _
      clear hHeld hHeld9 hHS hc9 hf9 hcut9
      generalize w9.setCell ⟨gb, k, none⟩ (.slice Ar n cr) = s0 at HSC0 ⊢
      have HIV := Lib.hid (invF (p := (p : Int)) (by rw [Int.toNat_natCast]; exact hp6) hp2)
      have HCH := Lib.hid (chkM_full HMOD.out hm1 (by omega) hn1 (by omega) HFI.out)
      have HSO := Lib.hid (sols_all (pn := p) hp2 HIV.out m n F2)
      have HBO := Lib.hid (fun M (hM : M ≤ 200) => (chkB_ok (p := (p : Int)) (n := (n : Int)) (m := M) (l := fun _ => n) HMOD.out (by omega) (by omega) hM (fun _ _ => rfl)))
      have HIO := Lib.hid (fun M (hM : M ≤ 200) => (chkI_ok (p := (p : Int)) (n := (n : Int)) (m := M) (k := n) (l := fun _ => n) HMOD.out (by omega) (by omega) hM (fun _ _ => rfl) rfl))
      obtain ⟨LK, hLK⟩ : ∃ L, (kerL n m (kerR p m n F2)).length = L := ⟨_, rfl⟩
      obtain ⟨rA, hRA⟩ : ∃ L, (pivL n (elimR p n (invI p) (rowsL n F2 m))).length = L := ⟨_, rfl⟩
      have hlen := HSO.out.len
      have hech := HSO.out.ech
      have hzero := HSO.out.zero
      rw [hLK] at hlen hech hzero
      rw [hRA] at hlen
      have HLK := Lib.hid hLK
      have HRA := Lib.hid hRA
      have HEC := Lib.hid hech
      have HZE0 := Lib.hid hzero
      have HIM := Lib.hid HSO.out.img
      have hsum : (LK : Int) + (rA : Int) = (m : Int) := by omega
      have hws : IntKind.i64.wrap ((LK : Int) + (rA : Int)) = (m : Int) := by rw [hsum]; exact IntWalk.i64_in _ ⟨by omega, by omega⟩
      have hmm : ((m : Int) != (m : Int)) = false := by simp
      have c0 := HSC0.out.box.cell (i := 0) rfl
      have c1 := HSC0.out.box.cell (i := 1) rfl
      have hLKm : LK ≤ m := by omega
      clear hlen hech hzero hLK hRA hsum
      go_wp2_with fail
      refine (Kernel_any p (.slice (some ⟨gb, 0, none⟩) m cb) m (fun _ => n) F2 s0 (by omega) (fun _ _ => by omega) HSC0.out.grid).mono ?_
      rintro e s1 h1
      obtain ⟨vk, rfl, hgk, hb⟩ := h1.2 HCH.out
      change Grid s1 _ vk (kerL n m (kerR p m n F2)).length _ (fun i x => rowAt (kerR p m n F2) ((kerL n m (kerR p m n F2)).getD i 0) (n + x)) at hgk
      rw [HLK.out] at hgk
      have hs0 := HSC0.out.tlt
      have HGK1 := Lib.hid (show Grid s1 (Far t s1) vk LK (fun _ => m) (fun i x => rowAt (kerR p m n F2) ((kerL n m (kerR p m n F2)).getD i 0) (n + x)) from hgk.more fun b hb => ⟨by have := hb.1; omega, hb.2⟩)
      have hze : ∀ KF : Nat → Nat → Int, (fun i x => rowAt (kerR p m n F2) ((kerL n m (kerR p m n F2)).getD i 0) (n + x)) = KF → ∀ i, i < LK → ∀ j, j < n → appF p m (KF i) F2 j = 0 := fun KF e => by rw [← e]; exact HZE0.out
      generalize hKF : (fun i x => rowAt (kerR p m n F2) ((kerL n m (kerR p m n F2)).getD i 0) (n + x)) = KF at HGK1 HEC
      have HZE := Lib.hid (hze KF hKF)
      obtain ⟨Ak, ck, rfl, -⟩ := hgk.form
      have HSC1 := Lib.hid (HSC0.out.calls hb)
      clear h1 hgk hb HSC0 c0 c1 hs0 hKF hze HZE0
      have c0 := HSC1.out.box.cell (i := 0) rfl
      have c1 := HSC1.out.box.cell (i := 1) rfl
      go_wp2_with fail
      refine (Rank_any p n (.slice (some ⟨gb, 0, none⟩) m cb) m (fun _ => n) F2 s1 (by omega) HSC1.out.grid).mono ?_
      rintro e s2 ⟨y2, rfl, -, hy, hb⟩
      rw [HBO.out m (by omega)]
      have hy := hy (HBO.out m (by omega))
      rw [Int.toNat_natCast] at hy
      change y2 = (pivL n (elimR p n (invI p) (rowsL n F2 m))).length at hy
      rw [HRA.out] at hy
      subst hy
      have HSC2 := Lib.hid (HSC1.out.calls hb)
      have HGK2 := Lib.hid (far_calls HGK1.out hb)
      clear hb HSC1 HGK1 c0 c1 HRA HLK HSO
      go_wp2_with fail
      refine (echelon_any p LK m (.slice Ak LK ck) KF _ _ s2 (by omega) (by omega) HGK2.out HEC.out).mono ?_
      rintro e s3 ⟨rfl, rfl⟩
      clear HEC
      go_wp2_with fail
      go_loopw [15] (fun i wr => ∃ j : Nat, i = .int .i64 j ∧ j ≤ LK ∧ Hid (SC w t A c N z p bx (.slice (some ⟨gb, 0, none⟩) m cb) m n F2 wr) ∧ Hid (Grid wr (Far t wr) (.slice Ak LK ck) LK (fun _ => m) KF)) (fun i _ => LK - (intOf i).toNat)
      case atStart => exact ⟨0, rfl, Nat.zero_le _, HSC2, HGK2⟩
      case round =>
        obtain ⟨j, rfl, hj, HSr, HGr⟩ := hrel
        by_cases hlt : j < LK
        · obtain ⟨bk, ok, ck', RA, RC, e', -, hbk, hrk⟩ := HGr.out.at_ (by omega)
          injection e' with e1 _ e3
          subst e1; subst e3
          obtain ⟨hrow, hrv⟩ := hrk j hlt
          have HRV := Lib.hid hrv
          have hbk2 := hbk.2
          have c0 := HSr.out.box.cell (i := 0) rfl
          have c1 := HSr.out.box.cell (i := 1) rfl
          have d1 : (0 : Int) ≤ j := by omega
          have d2 : (j : Int) < (LK : Int) := by omega
          clear hrk hrv hbk
          go_wp2_with fail
          refine wp_region_held_drew (S := (fun W1 => W1.cell? ⟨bk, ok + j, none⟩ = some (.slice (RA j) m (RC j)) ∧ W1.cell? ⟨bx, 0, none⟩ = some (.int .i64 p) ∧ W1.cell? ⟨bx, 1, none⟩ = some (.slice (some ⟨gb, 0, none⟩) m cb))) (by kernel_rfl) ⟨hrow, c0, c1⟩ (fun hHeld => ?_)
          have HSr' := Lib.hid HSr.out.drew1
          have HGr' := Lib.hid (far_drew HGr.out 1)
          change Hid (Grid wr.drew (Far t wr.drew) _ LK (fun _ => m) KF) at HGr'
          have HRV' := Lib.hid (show Vec wr.drew (Far t wr.drew) (.slice (RA j) m (RC j)) m (KF j) from HRV.out.keep (fun _ h => h) (fun _ _ => rfl) (fun _ _ => rfl))
          have hbk2' : bk < wr.drew.heap.size := hbk2
          clear HSr HGr HRV hrow c0 c1 hbk2
          have HSr := HSr'
          have HGr := HGr'
          have HRV := HRV'
          have hbk2 := hbk2'
          clear HSr' HGr' HRV' hbk2'
          generalize wr.drew = x0 at HSr HGr HRV hbk2 hHeld ⊢
          have hmk := make_ints n (by omega) x0
          refine takeH (i := 0) (v := (.slice (some ⟨bk, ok, none⟩) LK ck)) rfl rfl (by kernel_rfl) (by kernel_rfl) (by kernel_rfl) (fun _ _ _ h => h) (by rfl) (fun W hW => by (skip); go_simp) (by assumption) ?_
          simp only [List.setIfInBounds_toArray, List.set_cons_zero, List.set_cons_succ]
          refine takeH (i := 1) (v := (.int .i64 j)) rfl rfl (by kernel_rfl) (by kernel_rfl) (by kernel_rfl) (fun _ _ _ h => h) (by rfl) (fun W hW => by (skip); go_simp) (by assumption) ?_
          simp only [List.setIfInBounds_toArray, List.set_cons_zero, List.set_cons_succ]
          refine takeH (i := 2) (v := (.pointer (some ⟨bk, ok + j, none⟩))) rfl rfl (by kernel_rfl) (by kernel_rfl) (by kernel_rfl) (fun _ _ _ h => h) (by rfl) (fun W hW => by (skip); go_simp) (by assumption) ?_
          simp only [List.setIfInBounds_toArray, List.set_cons_zero, List.set_cons_succ]
          refine takeH (i := 3) (v := (.slice (RA j) m (RC j))) rfl rfl (by kernel_rfl) (by kernel_rfl) (by kernel_rfl) (fun _ _ _ h => h) (by rfl) (fun W hW => by (obtain ⟨h1, h2, h3⟩ := hW); go_simp) (by assumption) ?_
          simp only [List.setIfInBounds_toArray, List.set_cons_zero, List.set_cons_succ]
          refine takeH (i := 4) (v := (.agg #[.int .i64 p, .slice (some ⟨gb, 0, none⟩) m cb])) rfl rfl (by kernel_rfl) (by kernel_rfl) (by kernel_rfl) (fun _ _ _ h => h) (by rfl) (fun W hW => by (obtain ⟨h1, h2, h3⟩ := hW); go_simp) (by assumption) ?_
          simp only [List.setIfInBounds_toArray, List.set_cons_zero, List.set_cons_succ]
          refine takeH (i := 6) (v := (.int .i64 n)) rfl rfl (by kernel_rfl) (by kernel_rfl) (by kernel_rfl) (fun _ _ _ h => h) (by rfl) (fun W hW => by (skip); go_simp) (by assumption) ?_
          simp only [List.setIfInBounds_toArray, List.set_cons_zero, List.set_cons_succ]
          refine wpAnyH_ready (rs := [5, 7]) (by kernel_rfl) (by simp) ?_
          refine (AllReadyH.cons rfl (fun K hK => ?_) (AllReadyH.cons rfl (fun K hK => ?_) AllReadyH.nil))
          · go_simp
            refine (apply_ok (.slice (RA j) m (RC j)) (.slice (some ⟨gb, 0, none⟩) m cb) m n (KF j) F2 p x0 (HRV.out.more fun _ h => h.2) HSr.out.grid HCH.out).mono ?_
            rintro e x1 ⟨r, rfl, hr, hb1⟩
            have HS1 := Lib.hid (HSr.out.calls hb1)
            have HG1 := Lib.hid (far_calls HGr.out hb1)
            have HR1 := Lib.hid (hr.more (S' := (· < x1.heap.size)) fun _ h => h.2)
            have q1 := (hb1.cell (p := ⟨bk, ok + j, none⟩) hbk2).trans hHeld.1
            have q2 := HS1.out.box.cell (i := 0) rfl
            have q3 := HS1.out.box.cell (i := 1) rfl
            have hmk := make_ints n (by omega) x1
            obtain ⟨Ar, cr, rfl, -⟩ := hr.form
            have hbk3 := Nat.lt_of_lt_of_le hbk2 hb1.size
            clear hr hb1 HSr HGr HRV
            dsimp only
            refine hK.out _ _ ⟨q1, q2, q3⟩ (fun hHeld => ?_)
            clear hK K
            try simp only [Act.put, List.setIfInBounds_toArray, List.set_cons_zero, List.set_cons_succ]
            refine wpAnyH_ready (rs := [7]) (by kernel_rfl) (by simp) ?_
            refine (AllReadyH.cons rfl (fun K hK => ?_) AllReadyH.nil)
            go_simp
            have hba := (Below.refl x1.heap.size x1).alloc (Nat.le_refl _) (.cells (CTab n fun _ => .int .i64 0) 3)
            have HS2 := Lib.hid (HS1.out.calls hba)
            have HG2 := Lib.hid (far_calls HG1.out hba)
            have HR2 := Lib.hid (HR1.out.below (fun _ h => h) hba)
            have HZ2 := Lib.hid ((show RowI (x1.alloc (.cells (CTab n fun _ => .int .i64 0) 3)) x1.heap.size n (fun _ => 0) from ⟨_, row_new rfl _ _, by rw [CTab_size]; exact Nat.le_refl _, fun j hj => CTab_get n _ j hj⟩).vec (Nat.le_refl n) (fun _ => True) trivial)
            have q4 := (hba.cell (p := ⟨bk, ok + j, none⟩) hbk3).trans q1
            have q5 := HS2.out.box.cell (i := 0) rfl
            have q6 := HS2.out.box.cell (i := 1) rfl
            clear hba HS1 HG1 HR1 q1 q2 q3 hmk hHeld
            generalize x1.alloc (.cells (CTab n fun _ => .int .i64 0) 3) = x2 at HS2 HG2 HR2 HZ2 q4 q5 q6 ⊢
            generalize x1.heap.size = zz at HR2 HZ2 ⊢
            refine hK.out _ _ ⟨q4, q5, q6⟩ (fun hHeld => ?_)
            clear hK K
            try simp only [Act.put, List.setIfInBounds_toArray, List.set_cons_zero, List.set_cons_succ]
            refine wpAnyH_ready (rs := [8]) (by kernel_rfl) (by simp) ?_
            refine (AllReadyH.cons rfl (fun K hK => ?_) AllReadyH.nil)
            go_simp
            refine (row_same (.slice Ar n cr) (.slice (some ⟨zz, 0, none⟩) n n) n (appF p m (KF j) F2) (fun _ => 0) x2 _ _ (by omega) HR2.out HZ2.out).mono ?_
            rintro e x3 ⟨rfl, nq, rfl⟩
            rw [show eqB n (appF p m (KF j) F2) (fun _ => 0) = true from decide_eq_true (fun i hi => HZE.out j hlt i hi)]
            have HS3 := Lib.hid (HS2.out.drew nq)
            have HG3 := Lib.hid (far_drew HG2.out nq)
            clear HS2 HG2 HR2 HZ2
            dsimp only
            refine hK.out _ _ (show _ from hHeld) (fun hHeld => ?_)
            clear hK K
            try simp only [Act.put, List.setIfInBounds_toArray, List.set_cons_zero, List.set_cons_succ]
            refine takeH (i := 9) (v := (.bool false)) rfl rfl (by kernel_rfl) (by kernel_rfl) (by kernel_rfl) (fun _ _ _ h => h) (by rfl) (fun W hW => by (skip); go_simp) (by assumption) ?_
            simp only [List.setIfInBounds_toArray, List.set_cons_zero, List.set_cons_succ]
            refine wpAnyH_done (by kernel_rfl) ?_ _
            clear hHeld
            generalize x2.drewN nq = x3 at HS3 HG3 ⊢
            go_wp2
            go_roundw
            case rel => exact ⟨j + 1, by go_num, by omega, HS3, HG3⟩
            case measure => simp [intOf]; omega
          · go_simp
            have hba := (Below.refl x0.heap.size x0).alloc (Nat.le_refl _) (.cells (CTab n fun _ => .int .i64 0) 3)
            have HS1 := Lib.hid (HSr.out.calls hba)
            have HG1 := Lib.hid (far_calls HGr.out hba)
            have HR1 := Lib.hid (vecFar_calls HRV.out hba)
            have HZ1 := Lib.hid ((show RowI (x0.alloc (.cells (CTab n fun _ => .int .i64 0) 3)) x0.heap.size n (fun _ => 0) from ⟨_, row_new rfl _ _, by rw [CTab_size]; exact Nat.le_refl _, fun j hj => CTab_get n _ j hj⟩).vec (Nat.le_refl n) (· < (x0.alloc (.cells (CTab n fun _ => .int .i64 0) 3)).heap.size) (by simp))
            have q4 := (hba.cell (p := ⟨bk, ok + j, none⟩) hbk2).trans hHeld.1
            have q5 := HS1.out.box.cell (i := 0) rfl
            have q6 := HS1.out.box.cell (i := 1) rfl
            have hbk3 := Nat.lt_of_lt_of_le hbk2 hba.size
            clear hba HSr HGr HRV hmk hHeld
            generalize x0.alloc (.cells (CTab n fun _ => .int .i64 0) 3) = x1 at HS1 HG1 HR1 HZ1 q4 q5 q6 hbk3 ⊢
            generalize x0.heap.size = zz at HZ1 ⊢
            refine hK.out _ _ ⟨q4, q5, q6⟩ (fun hHeld => ?_)
            clear hK K
            try simp only [Act.put, List.setIfInBounds_toArray, List.set_cons_zero, List.set_cons_succ]
            refine wpAnyH_ready (rs := [5]) (by kernel_rfl) (by simp) ?_
            refine (AllReadyH.cons rfl (fun K hK => ?_) AllReadyH.nil)
            go_simp
            refine (apply_ok (.slice (RA j) m (RC j)) (.slice (some ⟨gb, 0, none⟩) m cb) m n (KF j) F2 p x1 (HR1.out.more fun _ h => h.2) HS1.out.grid HCH.out).mono ?_
            rintro e x2 ⟨r, rfl, hr, hb1⟩
            have HS2 := Lib.hid (HS1.out.calls hb1)
            have HG2 := Lib.hid (far_calls HG1.out hb1)
            have HR2 := Lib.hid (hr.more (S' := fun _ => True) fun _ _ => trivial)
            have HZ2 := Lib.hid (HZ1.out.below (fun _ h => h) hb1)
            have q1 := (hb1.cell (p := ⟨bk, ok + j, none⟩) hbk3).trans q4
            have q2 := HS2.out.box.cell (i := 0) rfl
            have q3 := HS2.out.box.cell (i := 1) rfl
            obtain ⟨Ar, cr, rfl, -⟩ := hr.form
            clear hr hb1 HS1 HG1 HR1 HZ1 hHeld
            dsimp only
            refine hK.out _ _ ⟨q1, q2, q3⟩ (fun hHeld => ?_)
            clear hK K
            try simp only [Act.put, List.setIfInBounds_toArray, List.set_cons_zero, List.set_cons_succ]
            refine wpAnyH_ready (rs := [8]) (by kernel_rfl) (by simp) ?_
            refine (AllReadyH.cons rfl (fun K hK => ?_) AllReadyH.nil)
            go_simp
            refine (row_same (.slice Ar n cr) (.slice (some ⟨zz, 0, none⟩) n n) n (appF p m (KF j) F2) (fun _ => 0) x2 _ _ (by omega) HR2.out HZ2.out).mono ?_
            rintro e x3 ⟨rfl, nq, rfl⟩
            rw [show eqB n (appF p m (KF j) F2) (fun _ => 0) = true from decide_eq_true (fun i hi => HZE.out j hlt i hi)]
            have HS3 := Lib.hid (HS2.out.drew nq)
            have HG3 := Lib.hid (far_drew HG2.out nq)
            clear HS2 HG2 HR2 HZ2
            dsimp only
            refine hK.out _ _ (show _ from hHeld) (fun hHeld => ?_)
            clear hK K
            try simp only [Act.put, List.setIfInBounds_toArray, List.set_cons_zero, List.set_cons_succ]
            refine takeH (i := 9) (v := (.bool false)) rfl rfl (by kernel_rfl) (by kernel_rfl) (by kernel_rfl) (fun _ _ _ h => h) (by rfl) (fun W hW => by (skip); go_simp) (by assumption) ?_
            simp only [List.setIfInBounds_toArray, List.set_cons_zero, List.set_cons_succ]
            refine wpAnyH_done (by kernel_rfl) ?_ _
            clear hHeld
            generalize x2.drewN nq = x3 at HS3 HG3 ⊢
            go_wp2
            go_roundw
            case rel => exact ⟨j + 1, by go_num, by omega, HS3, HG3⟩
            case measure => simp [intOf]; omega
        · obtain rfl : j = LK := by omega
          have c0 := HSr.out.box.cell (i := 0) rfl
          have c1 := HSr.out.box.cell (i := 1) rfl
          clear HGr HZE HGK2 HSC2
          go_wp2_with fail
          refine wp_region_held_drew (S := (fun W1 => W1.cell? ⟨bx, 0, none⟩ = some (.int .i64 p) ∧ W1.cell? ⟨bx, 1, none⟩ = some (.slice (some ⟨gb, 0, none⟩) m cb))) (by kernel_rfl) ⟨c0, c1⟩ (fun hHeld => ?_)
          have HSd := Lib.hid HSr.out.drew1
          clear HSr c0 c1
          generalize wr.drew = y0 at HSd hHeld ⊢
          obtain ⟨q0, hq0⟩ := HSd.out.tk
          have HQ0 := Lib.hid hq0
          clear hq0
          refine takeH (i := 0) (v := (.pointer (some ⟨t, 0, none⟩))) rfl rfl (by kernel_rfl) (by kernel_rfl) (by kernel_rfl) (fun _ _ _ h => h) (by rfl) (fun W hW => by (skip); go_simp) (by assumption) ?_
          simp only [List.setIfInBounds_toArray, List.set_cons_zero, List.set_cons_succ]
          refine takeH (i := 1) (v := (.int .i64 p)) rfl rfl (by kernel_rfl) (by kernel_rfl) (by kernel_rfl) (fun _ _ _ h => h) (by rfl) (fun W hW => by (skip); go_simp) (by assumption) ?_
          simp only [List.setIfInBounds_toArray, List.set_cons_zero, List.set_cons_succ]
          refine takeH (i := 2) (v := (.int .i64 m)) rfl rfl (by kernel_rfl) (by kernel_rfl) (by kernel_rfl) (fun _ _ _ h => h) (by rfl) (fun W hW => by (skip); go_simp) (by assumption) ?_
          simp only [List.setIfInBounds_toArray, List.set_cons_zero, List.set_cons_succ]
          refine takeH (i := 6) (v := (.agg #[.int .i64 p, .slice (some ⟨gb, 0, none⟩) m cb])) rfl rfl (by kernel_rfl) (by kernel_rfl) (by kernel_rfl) (fun _ _ _ h => h) (by rfl) (fun W hW => by (obtain ⟨h1, h2⟩ := hW); go_simp) (by assumption) ?_
          simp only [List.setIfInBounds_toArray, List.set_cons_zero, List.set_cons_succ]
          refine wpAnyH_ready (rs := [3]) (by kernel_rfl) (by simp) ?_
          refine (AllReadyH.cons rfl (fun K hK => ?_) AllReadyH.nil)
          go_simp
          refine (drawn_any t A c N q0 z p 1 m y0 (by omega) (by omega) (by omega) hm1 (by omega) hN HQ0.out).mono ?_
          rintro e y1 ⟨rl, YF, q1, rfl, hgl, -, hq1, htu1⟩
          have HS1 := Lib.hid (HSd.out.turns hsz htu1 hq1)
          obtain ⟨bl, ol, cl, RL, CL, rfl, -, hbl, hrl⟩ := hgl.at_ (by omega)
          obtain ⟨hrow0, hrv0⟩ := hrl 0 (by omega)
          rw [Nat.add_zero] at hrow0
          have HRV0 := Lib.hid (hrv0.more (S' := (· < y1.heap.size)) fun _ h => h.2)
          generalize RL 0 = Al at hrow0 HRV0
          generalize CL 0 = cl0 at hrow0 HRV0
          generalize YF 0 = y at HRV0
          have q2 := HS1.out.box.cell (i := 0) rfl
          have q3 := HS1.out.box.cell (i := 1) rfl
          have hbn := HSd.out.tlt
          clear hgl hq1 htu1 hrl hrv0 hbl HSd HQ0 hHeld
          dsimp only
          refine hK.out _ _ ⟨q2, q3⟩ (fun hHeld => ?_)
          clear hK K
          try simp only [Act.put, List.setIfInBounds_toArray, List.set_cons_zero, List.set_cons_succ]
          refine takeH (i := 4) (v := (.pointer (some ⟨bl, ol, none⟩))) rfl rfl (by kernel_rfl) (by kernel_rfl) (by kernel_rfl) (fun _ _ _ h => h) (by rfl) (fun W hW => by (skip); go_simp) (by assumption) ?_
          simp only [List.setIfInBounds_toArray, List.set_cons_zero, List.set_cons_succ]
          refine wpAnyH_ready (rs := [5]) (by kernel_rfl) (by simp) ?_
          refine (AllReadyH.cons rfl (fun K hK => ?_) AllReadyH.nil)
          go_simp
          refine hK.out _ _ ⟨q2, q3⟩ (fun hHeld => ?_)
          clear hK K
          try simp only [Act.put, List.setIfInBounds_toArray, List.set_cons_zero, List.set_cons_succ]
          refine wpAnyH_ready (rs := [7]) (by kernel_rfl) (by simp) ?_
          refine (AllReadyH.cons rfl (fun K hK => ?_) AllReadyH.nil)
          go_simp
          refine (apply_ok (.slice Al m cl0) (.slice (some ⟨gb, 0, none⟩) m cb) m n y F2 p y1 HRV0.out HS1.out.grid HCH.out).mono ?_
          rintro e y2 ⟨rb, rfl, hrb, hb2⟩
          have HS2 := Lib.hid (HS1.out.calls hb2)
          have hty1 := HS1.out.tlt
          have HVB2 := Lib.hid (hrb.more (S' := Far t y2) fun b h => ⟨by have := h.1; omega, h.2⟩)
          obtain ⟨Abb, cbb, rfl, -⟩ := hrb.form
          have q4 := HS2.out.box.cell (i := 0) rfl
          have q5 := HS2.out.box.cell (i := 1) rfl
          clear hrb hb2 HS1 HRV0 q2 q3 hrow0 hHeld
          dsimp only
          refine hK.out _ _ ⟨q4, q5⟩ (fun hHeld => ?_)
          clear hK K
          try simp only [Act.put, List.setIfInBounds_toArray, List.set_cons_zero, List.set_cons_succ]
          refine takeH (i := 8) (v := (.slice Abb n cbb)) rfl rfl (by kernel_rfl) (by kernel_rfl) (by kernel_rfl) (fun _ _ _ h => h) (by rfl) (fun W hW => by (skip); go_simp) (by assumption) ?_
          simp only [List.setIfInBounds_toArray, List.set_cons_zero, List.set_cons_succ]
          refine wpAnyH_done (by kernel_rfl) ?_ _
          clear hHeld
          have himg := HIM.out y
          have hbin : InP (p : Int) n (appF p m y F2) := appF_in (by omega) m n y F2
          generalize appF p m y F2 = bF at himg hbin HVB2
          have HMAP := Lib.hid (fun (j : Nat) (hj : j < n) => sol_map hp2 himg hbin hj)
          have HDR := Lib.hid (fun (i : Nat) (hd : inB p n (elimR p n (invI p) (rowsL n F2 i)) (F2 i) = true) => sol_drop (p := (p : Int)) hp2 (m := m) (b := bF) hd)
          go_wp2_with fail
          refine (Solve_ok p (.slice (some ⟨gb, 0, none⟩) m cb) (.slice Abb n cbb) m n F2 bF y2 HCH.out HS2.out.grid (HVB2.out.more fun _ h => h.2)).mono ?_
          rintro e y3 h3
          obtain ⟨vs, rfl, hvs, hb3⟩ := h3.1 himg
          generalize solV p n (solR p m n F2 bF) = sV at hvs HMAP HDR
          have HS3 := Lib.hid (HS2.out.calls hb3)
          have hty2 := HS2.out.tlt
          have HVB3 := Lib.hid (vecFar_calls HVB2.out hb3)
          have HVS3 := Lib.hid (hvs.more (S' := Far t y3) fun b h => ⟨by have := h.1; omega, h.2⟩)
          obtain ⟨As, cs, rfl, -⟩ := hvs.form
          have q6 := HS3.out.box.cell (i := 0) rfl
          have q7 := HS3.out.box.cell (i := 1) rfl
          clear h3 hvs hb3 HS2 HVB2 q4 q5 himg HIM hbin
          go_wp2_with fail
          refine (apply_ok (.slice As m cs) (.slice (some ⟨gb, 0, none⟩) m cb) m n sV F2 p y3 (HVS3.out.more fun _ h => h.2) HS3.out.grid HCH.out).mono ?_
          rintro e y4 ⟨ra, rfl, hra, hb4⟩
          have HS4 := Lib.hid (HS3.out.calls hb4)
          have HVB4 := Lib.hid (vecFar_calls HVB3.out hb4)
          have HVS4 := Lib.hid (vecFar_calls HVS3.out hb4)
          have HRA4 := Lib.hid hra
          obtain ⟨Ara, cra, rfl, -⟩ := hra.form
          clear hra hb4 HS3 HVB3 HVS3 q6 q7
          go_wp2_with fail
          refine (row_same (.slice Ara n cra) (.slice Abb n cbb) n (appF p m sV F2) bF y4 _ _ (by omega) HRA4.out HVB4.out).mono ?_
          rintro e y5 ⟨rfl, nq, rfl⟩
          rw [show eqB n (appF p m sV F2) bF = true from decide_eq_true (fun i hi => HMAP.out i hi)]
          have HS5 := Lib.hid (HS4.out.drew nq)
          have HVS5 := Lib.hid (show Vec (y4.drewN nq) (Far t (y4.drewN nq)) (.slice As m cs) m sV from HVS4.out.keep (fun _ h => h) (fun _ _ => rfl) (fun _ _ => rfl))
          clear HS4 HVB4 HVS4 HRA4 HMAP
          generalize y4.drewN nq = y5 at HS5 HVS5 ⊢
          go_wp2_with fail
          go_loopw [19] (fun i wr => ∃ j : Nat, i = .int .i64 j ∧ j ≤ m ∧ Hid (SC w t A c N z p bx (.slice (some ⟨gb, 0, none⟩) m cb) m n F2 wr) ∧ Hid (Vec wr (Far t wr) (.slice As m cs) m sV)) (fun i _ => m - (intOf i).toNat)
          case atStart => exact ⟨0, rfl, Nat.zero_le _, HS5, HVS5⟩
          case round =>
            obtain ⟨j, rfl, hj, HSr, HVr⟩ := hrel
            by_cases hlt : j < m
            · obtain ⟨bg, og, cg, RA, RC, e', -, hbg, hrk⟩ := HSr.out.g.at_ (by omega)
              injection e' with e1 _ e3
              injection e1 with e1
              injection e1 with e1 e2 _
              subst e1; subst e2; subst e3
              obtain ⟨hrow, hrv⟩ := hrk j hlt
              rw [Nat.zero_add] at hrow
              obtain ⟨A6, hcut6, hG6⟩ := cut_preG HSr.out.g (k := j) (by omega)
              obtain ⟨bv, ov, cv, e', -, hbv, hcv⟩ := HVr.out.at_ (by omega)
              injection e' with e1 _ e3
              subst e1; subst e3
              have hvj := hcv j hlt
              have HRV := Lib.hid hrv
              have HG6 := Lib.hid hG6
              have hbg2 := hbg.2
              have hbv2 := hbv.2
              have c1 := HSr.out.box.cell (i := 1) rfl
              have d1 : (0 : Int) ≤ j := by omega
              have d2 : (j : Int) < (m : Int) := by omega
              clear hrk hrv hbg hG6 hbv hcv
              go_wp2_with fail
              refine wp_region_held_drew (S := (fun W1 => W1.cell? ⟨bx, 1, none⟩ = some (.slice (some ⟨gb, 0, none⟩) m cb) ∧ W1.cell? ⟨gb, j, none⟩ = some (.slice (RA j) n (RC j)))) (by kernel_rfl) ⟨c1, hrow⟩ (fun hHeld => ?_)
              have HSq := Lib.hid HSr.out.drew1
              have HVq := Lib.hid (show Vec wr.drew (Far t wr.drew) (.slice (some ⟨bv, ov, none⟩) m cs) m sV from HVr.out.keep (fun _ h => h) (fun _ _ => rfl) (fun _ _ => rfl))
              have HRq := Lib.hid (show Vec wr.drew (Far t wr.drew) (.slice (RA j) n (RC j)) n (F2 j) from HRV.out.keep (fun _ h => h) (fun _ _ => rfl) (fun _ _ => rfl))
              have HGq := Lib.hid (far_drew HG6.out 1)
              change Hid (Grid wr.drew (Far t wr.drew) _ j (fun _ => n) F2) at HGq
              have hvq : wr.drew.cell? ⟨bv, ov + j, none⟩ = some (.int .i64 (sV j)) := hvj
              have hbg3 : gb < wr.drew.heap.size := hbg2
              have hbv3 : bv < wr.drew.heap.size := hbv2
              clear HSr HVr HRV HG6 hvj hrow c1 hbg2 hbv2
              generalize wr.drew = x0 at HSq HVq HRq HGq hvq hbg3 hbv3 hHeld ⊢
              refine takeH (i := 0) (v := (.int .i64 p)) rfl rfl (by kernel_rfl) (by kernel_rfl) (by kernel_rfl) (fun _ _ _ h => h) (by rfl) (fun W hW => by (skip); go_simp) (by assumption) ?_
              simp only [List.setIfInBounds_toArray, List.set_cons_zero, List.set_cons_succ]
              refine takeH (i := 1) (v := (.int .i64 n)) rfl rfl (by kernel_rfl) (by kernel_rfl) (by kernel_rfl) (fun _ _ _ h => h) (by rfl) (fun W hW => by (skip); go_simp) (by assumption) ?_
              simp only [List.setIfInBounds_toArray, List.set_cons_zero, List.set_cons_succ]
              refine takeH (i := 2) (v := (.pointer (some ⟨bx, 1, none⟩))) rfl rfl (by kernel_rfl) (by kernel_rfl) (by kernel_rfl) (fun _ _ _ h => h) (by rfl) (fun W hW => by (skip); go_simp) (by assumption) ?_
              simp only [List.setIfInBounds_toArray, List.set_cons_zero, List.set_cons_succ]
              refine takeH (i := 3) (v := (.slice (some ⟨gb, 0, none⟩) m cb)) rfl rfl (by kernel_rfl) (by kernel_rfl) (by kernel_rfl) (fun _ _ _ h => h) (by rfl) (fun W hW => by (obtain ⟨h1, h2⟩ := hW); go_simp) (by assumption) ?_
              simp only [List.setIfInBounds_toArray, List.set_cons_zero, List.set_cons_succ]
              refine takeH (i := 4) (v := (.int .i64 j)) rfl rfl (by kernel_rfl) (by kernel_rfl) (by kernel_rfl) (fun _ _ _ h => h) (by rfl) (fun W hW => by (skip); go_simp) (by assumption) ?_
              simp only [List.setIfInBounds_toArray, List.set_cons_zero, List.set_cons_succ]
              refine takeH (i := 5) (v := (.slice A6 j cb)) rfl rfl (by kernel_rfl) (by kernel_rfl) (by kernel_rfl) (fun _ _ _ h => h) (by rfl) (fun W hW => by (skip); go_simp) (by assumption) ?_
              simp only [List.setIfInBounds_toArray, List.set_cons_zero, List.set_cons_succ]
              refine takeH (i := 6) (v := (.pointer (some ⟨bx, 1, none⟩))) rfl rfl (by kernel_rfl) (by kernel_rfl) (by kernel_rfl) (fun _ _ _ h => h) (by rfl) (fun W hW => by (skip); go_simp) (by assumption) ?_
              simp only [List.setIfInBounds_toArray, List.set_cons_zero, List.set_cons_succ]
              refine takeH (i := 7) (v := (.slice (some ⟨gb, 0, none⟩) m cb)) rfl rfl (by kernel_rfl) (by kernel_rfl) (by kernel_rfl) (fun _ _ _ h => h) (by rfl) (fun W hW => by (obtain ⟨h1, h2⟩ := hW); go_simp) (by assumption) ?_
              simp only [List.setIfInBounds_toArray, List.set_cons_zero, List.set_cons_succ]
              refine takeH (i := 8) (v := (.int .i64 j)) rfl rfl (by kernel_rfl) (by kernel_rfl) (by kernel_rfl) (fun _ _ _ h => h) (by rfl) (fun W hW => by (skip); go_simp) (by assumption) ?_
              simp only [List.setIfInBounds_toArray, List.set_cons_zero, List.set_cons_succ]
              refine takeH (i := 9) (v := (.pointer (some ⟨gb, j, none⟩))) rfl rfl (by kernel_rfl) (by kernel_rfl) (by kernel_rfl) (fun _ _ _ h => h) (by rfl) (fun W hW => by (skip); go_simp) (by assumption) ?_
              simp only [List.setIfInBounds_toArray, List.set_cons_zero, List.set_cons_succ]
              refine takeH (i := 10) (v := (.slice (RA j) n (RC j))) rfl rfl (by kernel_rfl) (by kernel_rfl) (by kernel_rfl) (fun _ _ _ h => h) (by rfl) (fun W hW => by (obtain ⟨h1, h2⟩ := hW); go_simp) (by assumption) ?_
              simp only [List.setIfInBounds_toArray, List.set_cons_zero, List.set_cons_succ]
              refine wpAnyH_ready (rs := [11]) (by kernel_rfl) (by simp) ?_
              refine (AllReadyH.cons rfl (fun K hK => ?_) AllReadyH.nil)
              go_simp
              refine (In_any p n (.slice A6 j cb) (.slice (RA j) n (RC j)) j n (fun _ => n) F2 (F2 j) x0 (by omega) (by omega) (HGq.out.more fun _ h => h.2) (HRq.out.more fun _ h => h.2)).mono ?_
              rintro e x1 h1
              rw [HIO.out j (by omega), if_pos rfl, Int.toNat_natCast] at h1
              change RetI (inB p n (elimR p n (invI p) (rowsL n F2 j)) (F2 j)) 0 x0 e x1 at h1
              have hdr := HDR.out j
              generalize inB p n (elimR p n (invI p) (rowsL n F2 j)) (F2 j) = b1 at h1 hdr
              obtain ⟨rfl, hb1⟩ := h1
              have HS6 := Lib.hid (HSq.out.calls hb1)
              have HV6 := Lib.hid (vecFar_calls HVq.out hb1)
              have hvr := (hb1.cell (p := ⟨bv, ov + j, none⟩) hbv3).trans hvq
              have q8 := HS6.out.box.cell (i := 1) rfl
              have q9 := (hb1.cell (p := ⟨gb, j, none⟩) hbg3).trans hHeld.2
              clear hb1 HSq HVq HRq HGq hvq hHeld hbg3 hbv3
              dsimp only
              refine hK.out _ _ ⟨q8, q9⟩ (fun hHeld => ?_)
              clear hK K
              try simp only [Act.put, List.setIfInBounds_toArray, List.set_cons_zero, List.set_cons_succ]
              refine takeH (i := 12) (v := (.tuple #[.bool b1, .int .i64 0])) rfl rfl (by kernel_rfl) (by kernel_rfl) (by kernel_rfl) (fun _ _ _ h => h) (by rfl) (fun W hW => by (skip); go_simp) (by assumption) ?_
              simp only [List.setIfInBounds_toArray, List.set_cons_zero, List.set_cons_succ]
              refine takeH (i := 13) (v := (.bool b1)) rfl rfl (by kernel_rfl) (by kernel_rfl) (by kernel_rfl) (fun _ _ _ h => h) (by rfl) (fun W hW => by (skip); go_simp) (by assumption) ?_
              simp only [List.setIfInBounds_toArray, List.set_cons_zero, List.set_cons_succ]
              refine takeH (i := 14) (v := (.int .i64 0)) rfl rfl (by kernel_rfl) (by kernel_rfl) (by kernel_rfl) (fun _ _ _ h => h) (by rfl) (fun W hW => by (skip); go_simp) (by assumption) ?_
              simp only [List.setIfInBounds_toArray, List.set_cons_zero, List.set_cons_succ]
              refine takeH (i := 15) (v := (.bool b1)) rfl rfl (by kernel_rfl) (by kernel_rfl) (by kernel_rfl) (fun _ _ _ h => h) (by rfl) (fun W hW => by (skip); go_simp) (by assumption) ?_
              simp only [List.setIfInBounds_toArray, List.set_cons_zero, List.set_cons_succ]
              refine takeH (i := 16) (v := (.int .i64 0)) rfl rfl (by kernel_rfl) (by kernel_rfl) (by kernel_rfl) (fun _ _ _ h => h) (by rfl) (fun W hW => by (skip); go_simp) (by assumption) ?_
              simp only [List.setIfInBounds_toArray, List.set_cons_zero, List.set_cons_succ]
              refine wpAnyH_done (by kernel_rfl) ?_ _
              clear hHeld q8 q9 hcut6
              cases b1 with
              | false =>
                clear hdr hvr
                go_wp2
                go_roundw
                case rel => exact ⟨j + 1, by go_num, by omega, HS6, HV6⟩
                case measure => simp [intOf]; omega
              | true =>
                rw [hdr rfl] at hvr
                clear hdr
                go_wp2
                go_roundw
                case rel => exact ⟨j + 1, by go_num, by omega, HS6, HV6⟩
                case measure => simp [intOf]; omega
            · obtain rfl : m = j := by omega
              obtain ⟨q20, hq20⟩ := HSr.out.tk
              have HQ := Lib.hid hq20
              clear hq20 HVr HDR HS5 HVS5
              go_wp2_with fail
              refine (drawn_any t A c N q20 z p 1 n wr (by omega) (by omega) (by omega) hn1 (by omega) hN HQ.out).mono ?_
              rintro e u1 ⟨rl, YF, q1, rfl, hgl, -, hq1, htu1⟩
              have HS1 := Lib.hid (HSr.out.turns hsz htu1 hq1)
              obtain ⟨bl, ol, cl, RL, CL, rfl, -, hbl, hrl⟩ := hgl.at_ (by omega)
              obtain ⟨hrow0, hrv0⟩ := hrl 0 (by omega)
              rw [Nat.add_zero] at hrow0
              have HRV0 := Lib.hid (hrv0.more (S' := (· < u1.heap.size)) fun _ h => h.2)
              generalize RL 0 = Al at hrow0 HRV0
              generalize CL 0 = cl0 at hrow0 HRV0
              generalize YF 0 = yc at HRV0
              have q3 := HS1.out.box.cell (i := 1) rfl
              clear hgl hq1 htu1 hrl hrv0 hbl HSr HQ
              go_wp2_with fail
              refine (In_any p n (.slice (some ⟨gb, 0, none⟩) m cb) (.slice Al n cl0) m n (fun _ => n) F2 yc u1 (by omega) (by omega) HS1.out.grid HRV0.out).mono ?_
              rintro e u2 h2
              rw [HIO.out m (by omega), if_pos rfl, Int.toNat_natCast] at h2
              change RetI (inB p n (elimR p n (invI p) (rowsL n F2 m)) yc) 0 u1 e u2 at h2
              have hsi := sol_in p m n F2 yc
              generalize inB p n (elimR p n (invI p) (rowsL n F2 m)) yc = b1 at h2 hsi
              have HSI := Lib.hid hsi
              obtain ⟨rfl, hb2⟩ := h2
              have HS2 := Lib.hid (HS1.out.calls hb2)
              have HRV2 := Lib.hid ((HRV0.out.below (fun _ h => h) hb2).more (S' := (· < u2.heap.size)) fun _ h => Nat.lt_of_lt_of_le h hb2.size)
              have q4 := HS2.out.box.cell (i := 0) rfl
              have q5 := HS2.out.box.cell (i := 1) rfl
              clear hb2 HS1 HRV0 q3 hrow0 hsi
              go_wp2_with fail
              refine (Solve_ok p (.slice (some ⟨gb, 0, none⟩) m cb) (.slice Al n cl0) m n F2 yc u2 HCH.out HS2.out.grid HRV2.out).mono ?_
              rintro e u3 h3
              have hsi := HSI.out
              have HB3 := Lib.hid HS2.out.b
              have hs2 := HS2.out.b.size
              clear HSI HS2 HRV2 q4 q5
              cases b1 with
              | true =>
                obtain ⟨vs, rfl, hvs, hb3⟩ := h3.1 (by
                  cases e : firstNZ (solR p m n F2 yc) n with
                  | none => rfl
                  | some i => rw [e] at hsi; simp at hsi)
                obtain ⟨As2, cs2, rfl, -⟩ := hvs.form
                have HB4 := Lib.hid (HB3.out.trans (hb3.mono HB3.out.size))
                clear h3 hvs hb3 hsi
                go_wp2
                go_ret
                exact ⟨rfl, HB4.out⟩
              | false =>
                obtain ⟨rfl, hb3⟩ := h3.2 (fun e => by rw [e] at hsi; simp at hsi)
                have HB4 := Lib.hid (HB3.out.trans (hb3.mono HB3.out.size))
                clear h3 hb3 hsi
                go_wp2
                go_ret
                exact ⟨rfl, HB4.out⟩
end Go.Proofs.Ytinoomcboinokaa
