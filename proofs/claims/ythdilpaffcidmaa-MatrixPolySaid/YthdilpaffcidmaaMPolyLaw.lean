/- cayleylaw04.MatrixPoly: written by a generator (genlaw.py). -/
import Derived.Test.YthdilpaffcidmaaMPolyM
namespace Go.Proofs.Ythdilpaffcidmaa
open Go Go.RowKit Num

set_option maxRecDepth 100000 in
set_option maxHeartbeats 6000000 in
theorem matrixPoly_main (A : Option Addr) (c N : Nat) (z : Nat → Int) (p0 n0 : Int) (w : World) (hv : Vec w (· < w.heap.size) (.slice A N c) N z) :
    Calls Try.prog 13 #[.slice A N c, .int .i64 p0, .int .i64 n0] w fun e w' => e = .returned (.bool true) ∧ Below w.heap.size w w' := by
  have HV := Lib.hid hv
  clear hv
  by_cases hmost : 100 < N
  · have hd : decide ((100 : Int) < (N : Int)) = true := decide_eq_true (by omega)
    clear HV
    go_enter Try.func13, Try.ntmps13
    go_wp2_with fail
    refine (lives_any _).mono ?_
    rintro e w0 ⟨rfl, hb⟩
    have HB := Lib.hid hb
    clear hb
    go_wp2_with fail
    go_ret
    exact ⟨rfl, HB.out⟩
  · have hN : N ≤ 17592186044400 := by omega
    have hd : decide ((100 : Int) < (N : Int)) = false := decide_eq_false (by omega)
    have HF := fun W => Lib.hid (field_any p0 W)
    have HP := fun W => Lib.hid (Pick_any n0 5 W (by omega) (by omega))
    have hlt := resV_lt n0 (p := 5) (by omega)
    generalize resV n0 5 = x at HP hlt
    obtain ⟨n, hn⟩ : ∃ n : Nat, 1 + (x : Int) = (n : Int) := ⟨1 + x, by omega⟩
    have hn1 : 1 ≤ n := by omega
    have hn5 : n ≤ 5 := by omega
    go_enter Try.func13, Try.ntmps13
    go_wp2_with fail
    refine (lives_any _).mono ?_
    rintro e w0 ⟨rfl, hb⟩
    have HB0 := Lib.hid hb
    have HV0 := Lib.hid (HV.out.on hb)
    clear hb HV
    go_wp2_with fail
    refine (HF _).out.mono ?_
    rintro e w1 ⟨⟨p, rfl, hp⟩, hb⟩
    have HB1 := Lib.hid (HB0.out.trans (hb.mono HB0.out.size))
    have HV1 := Lib.hid (HV0.out.on hb)
    have HS := Lib.hid (show Sized p n from ⟨hp, hn1, by omega⟩)
    have hp2 := HS.out.p2
    have hp4 : p ≤ 10000 := by have := (modB_true hp).2.1; omega
    clear hb hp HB0 HV0 HF
    go_wp2_with fail
    refine (HP _).out.mono ?_
    rintro e w2 ⟨rfl, rfl⟩
    clear HP
    have HT0 := Lib.hid (taker_new w2 A c N z HV1.out)
    have HB2 := Lib.hid (HB1.out.alloc HB1.out.size (.cells #[.slice A N c, .int .i64 0] 50))
    have ht0 : w2.heap.size < (w2.alloc (.cells #[.slice A N c, .int .i64 0] 50)).heap.size := by simp
    have HTS := Lib.hid HB1.out.size
    clear HV1 HB1
    go_wp2_with fail
    generalize hw3 : w2.alloc (.cells #[.slice A N c, .int .i64 0] 50) = w3 at HT0 HB2 ht0
    generalize w2.heap.size = t at HT0 ht0 HTS
    clear hw3
    refine (drawn_any t A c N z 0 n p w3 hN (by omega) hp2 hp4 HT0.out).mono ?_
    rintro e w4 ⟨ra, fa, q4, rfl, hg, hf, hT, hbt, hsz⟩
    obtain ⟨Aa, ca, rfl, -⟩ := hg.form
    have HGa := Lib.hid hg
    have HFa := Lib.hid hf
    have HT4 := Lib.hid hT
    have HB4 := Lib.hid (HB2.out.trans (hbt.1.mono HTS.out))
    have HZ4 := Lib.hid hsz
    clear hg hf hT hbt hsz HT0 HB2
    go_wp2_with fail
    refine (drawn_any t A c N z q4 n p w4 hN (by omega) hp2 hp4 HT4.out).mono ?_
    rintro e w5 ⟨rb, fb, q5, rfl, hg, hf, hT, hbt, hsz⟩
    obtain ⟨Ab, cb, rfl, -⟩ := hg.form
    have HFb := Lib.hid hf
    have HGa6 := (HGa.out.but hbt ht0 (Nat.le_refl _)).more (S' := (· < w5.heap.size)) (fun b h => by have h1 := h.2; show b < w5.heap.size; omega)
    have HL := Lib.hid (ml_2 HGa6 hg.new_lt HFa.out hf)
    have HB := Lib.hid (((HB4.out.trans (hbt.1.mono HTS.out)).alloc (by have := HB4.out.size; omega) (.cells #[.int .i64 p, .slice Aa n ca] 58)).alloc (by have := HB4.out.size; simp; omega) (.cells #[.int .i64 p, .slice Ab n cb] 58))
    have k0 := HL.out.c0 1 rfl
    have k1 := HL.out.c1 1 rfl
    have k2 := HL.out.c0 0 rfl
    have k3 := HL.out.c1 0 rfl
    clear hg hf hT hbt hsz HGa6 HT4 HB4 HGa HZ4 HTS
    go_wp2_with fail
    generalize hw7 : (w5.alloc (.cells #[.int .i64 p, .slice Aa n ca] 58)).alloc (.cells #[.int .i64 p, .slice Ab n cb] 58) = w7 at HL HB
    clear k0 k1 k2 k3 hw7
    have hA1 := detV_in HS.out.p1 HS.out.inv (Nat.le_refl n) HFa.out
    obtain ⟨d, E1⟩ : ∃ d : Nat, detV p n fa = d := ⟨(detV p n fa).toNat, by omega⟩
    have hp0 : (0 : Int) < (p : Int) := by omega
    obtain ⟨s, E2⟩ : ∃ s : Nat, trS fa n % (p : Int) = s := ⟨(trS fa n % (p : Int)).toNat, by have := Int.emod_nonneg (trS fa n) (b := (p : Int)) (by omega); omega⟩
    have hs2 : s < p := by have := Int.emod_lt_of_pos (trS fa n) hp0; omega
    have hi1 := polyF_in (p := (p : Int)) hp0 fa n (n + 1) (n - 1) (by omega)
    have hi0 := polyF_in (p := (p : Int)) hp0 fa n (n + 1) 0 (by omega)
    obtain ⟨c1, E3⟩ : ∃ c1 : Nat, polyF p fa n (n - 1) = c1 := ⟨(polyF p fa n (n - 1)).toNat, by omega⟩
    obtain ⟨c0, E4⟩ : ∃ c0 : Nat, polyF p fa n 0 = c0 := ⟨(polyF p fa n 0).toNat, by omega⟩
    have E5 := polyF_trace (p := (p : Int)) fa n hn1
    rw [E2, E3] at E5
    obtain ⟨t1, ht1⟩ : ∃ t1 : Nat, c1 + s = t1 := ⟨_, rfl⟩
    have hsum1 : (c1 : Int) + (s : Int) = (t1 : Int) := by omega
    rw [hsum1] at E5
    have hw1 : IntKind.i64.wrap ((c1 : Int) + (s : Int)) = (t1 : Int) := by rw [hsum1]; exact IntWalk.i64_in _ ⟨by omega, by omega⟩
    have hwn : IntKind.i64.wrap ((n : Int) + 1) = (n : Int) + 1 := IntWalk.i64_in _ ⟨by omega, by omega⟩
    obtain ⟨nm, hnm⟩ : ∃ nm, n - 1 = nm := ⟨_, rfl⟩
    have hwm : IntKind.i64.wrap ((n : Int) - 1) = (nm : Int) := by rw [show (n : Int) - 1 = (nm : Int) by omega]; exact IntWalk.i64_in _ ⟨by omega, by omega⟩
    have hnm2 : nm < n + 1 := by omega
    have hc0 : (c0 : Int) < (p : Int) := by rw [← E4]; exact hi0.2
    have hd1 : (d : Int) < (p : Int) := by rw [← E1]; exact hA1.2
    have HE1 := Lib.hid E1
    have HE2 := Lib.hid E2
    have HE3 := Lib.hid E3
    have HE4 := Lib.hid E4
    clear E1 E2 E3 E4 hi1 ht1 hsum1
    refine (polyL HS.out HL.out 1 rfl).mono ?_
    rintro e w8 ⟨Ac, cc, rfl, hvc, hb⟩
    obtain ⟨bc, oc, cc', ec, -, -, -⟩ := hvc.at_ (by omega)
    injection ec with ec1 _ ec3
    subst ec1
    clear ec3
    have HC := Lib.hid hvc.new_lt
    clear hvc
    replace HL := Lib.hid (HL.out.below hb)
    replace HB := Lib.hid (HB.out.trans (hb.mono HB.out.size))
    have k0 := HL.out.c0 1 rfl
    have k1 := HL.out.c1 1 rfl
    clear hb
    go_wp2_with fail
    clear k0 k1
    refine (detL HS.out HL.out 1 rfl d HE1.out).mono ?_
    rintro e w9 ⟨rfl, hb⟩
    replace HL := Lib.hid (HL.out.below hb)
    replace HC := Lib.hid (HC.out.on hb)
    replace HB := Lib.hid (HB.out.trans (hb.mono HB.out.size))
    have k0 := HL.out.c0 1 rfl
    have k1 := HL.out.c1 1 rfl
    clear hb
    go_wp2_with fail
    clear k0 k1
    refine (traceL HS.out HL.out 1 rfl s HE2.out).mono ?_
    rintro e w10 ⟨rfl, hb⟩
    replace HL := Lib.hid (HL.out.below hb)
    replace HC := Lib.hid (HC.out.on hb)
    replace HB := Lib.hid (HB.out.trans (hb.mono HB.out.size))
    clear hb
    obtain ⟨b9, o9, c9, e9, -, -, hcell⟩ := HC.out.at_ (by omega)
    injection e9 with e91 e9b e9c
    clear e9b e9c
    injection e91 with e91
    injection e91 with e92 e93 _
    subst e92
    subst e93
    have q0 := hcell n (by omega)
    have q1 := hcell nm (by omega)
    have q2 := hcell 0 (by omega)
    rw [polyF_top HS.out.p1] at q0
    rw [show polyF p fa n nm = c1 by rw [← hnm]; exact HE3.out] at q1
    rw [HE4.out, Nat.add_zero] at q2
    clear hcell hnm
    have HFb := Lib.hid (show InG (p : Int) n n fb from HFb.out)
    rcases Nat.mod_two_eq_zero_or_one n with hpar | hpar
    · skip
      have E6 := polyF_even HS.out.p1 HS.out.inv HFa.out hpar
      rw [HE4.out, HE1.out] at E6
      obtain rfl : c0 = d := by omega
      have hpi : (n : Int) % 2 = 0 := by omega
      have hpt : (n : Int).tmod 2 = 0 := by rw [Int.tmod_eq_emod_of_nonneg (by omega)]; exact hpi
      clear E6
      go_wp2_with fail
      clear q0 q1 q2 hw1 hwn hwm hpi hpt E5
      refine (oneL HS.out _).mono ?_
      rintro e w11 ⟨A11, c11, rfl, hg, hf, hb⟩
      replace HL := Lib.hid (HL.out.cons hb hg hf)
      replace HC := Lib.hid ((HC.out.on hb).on ((Below.refl _ _).alloc (Nat.le_refl _) (.cells #[.int .i64 p, .slice A11 n c11] 58)))
      replace HB := Lib.hid ((HB.out.trans (hb.mono HB.out.size)).alloc (Nat.le_trans HB.out.size hb.size) (.cells #[.int .i64 p, .slice A11 n c11] 58))
      have k0 := HL.out.c0 0 rfl
      have k1 := HL.out.c1 0 rfl
      clear hb hg hf
      go_wp2_with fail
      clear k0 k1
      have hlt0 := (HL.out 0 _ rfl).1.lt
      have hlt1 := (HL.out 1 _ rfl).1.lt
      have hlt2 := (HL.out 2 _ rfl).1.lt
      refine (scaleL HS.out HL.out 0 0 rfl).mono ?_
      rintro e w12 ⟨Av, cv, rfl, hg, hf, hb⟩
      have hlw := hb.size
      have HLW := Lib.hid (show w.heap.size ≤ w12.heap.size from Nat.le_trans HB.out.size hb.size)
      replace HL := Lib.hid (HL.out.cons hb hg hf)
      replace HC := Lib.hid ((HC.out.on hb).on ((Below.refl _ _).alloc (Nat.le_refl _) (.cells #[.int .i64 p, .slice Av n cv] 58)))
      replace HB := Lib.hid ((HB.out.trans (hb.mono HB.out.size)).alloc (Nat.le_trans HB.out.size hb.size) (.cells #[.int .i64 p, .slice Av n cv] 58))
      have HV0 := Lib.hid (HorI.start (p := (p : Int)) fa n (resV 0 p) (by simp [resV]))
      have HN0 := Lib.hid (Nat.lt_of_lt_of_le hlt0 hlw)
      have HN1 := Lib.hid (Nat.lt_of_lt_of_le hlt1 hlw)
      have HN2 := Lib.hid (Nat.lt_of_lt_of_le hlt2 hlw)
      clear hg hf hb hlt0 hlt1 hlt2 hlw
      go_wp2_with fail
      generalize w12.alloc (.cells #[.int .i64 p, .slice Av n cv] 58) = wv at HL HC HB ⊢
      generalize w12.heap.size = Bv at HL HLW HN0 HN1 HN2 ⊢
      generalize w11.heap.size = Bi at HL HN0 ⊢
      generalize w5.heap.size + 1 = Bb at HL HN1 ⊢
      generalize w5.heap.size = Ba at HL HN2 ⊢
      generalize (fun i => axpy (resV 0 p : Nat) (p : Int) (fun _ => 0) (oneF i)) = V0 at HL HV0
      go_loopw [20] (fun k wr => ∃ (t : Nat) (kz : Int) (A' : Option Addr) (c' : Nat) (V : Nat → Nat → Int), k = .int .i64 kz ∧ kz = (n : Int) - t ∧ t ≤ n + 1 ∧ ML wr p n [⟨Bv, A', c', V⟩, ⟨Bi, A11, c11, oneF⟩, ⟨Bb, Ab, cb, fb⟩, ⟨Ba, Aa, ca, fa⟩] ∧ HorI (p : Int) fa n t V ∧ Below w.heap.size w wr ∧ Vec wr (· < wr.heap.size) (.slice (some ⟨bc, oc, none⟩) (n + 1) cc) (n + 1) (polyF p fa n)) (fun k _ => (intOf k + 1).toNat)
      case atStart => exact ⟨0, n, Av, cv, V0, rfl, by omega, by omega, HL.out, HV0.out, HB.out, HC.out⟩
      case round =>
        obtain ⟨t, kz, Av, cv, V, rfl, hkz, ht, hL, hV, hB, hC⟩ := hrel
        rename World => wr
        have HL := Lib.hid hL
        have HV := Lib.hid hV
        have HB := Lib.hid hB
        have HC := Lib.hid hC
        clear hL hV hB hC HV0
        by_cases hlt : t ≤ n
        · obtain ⟨kk, hkk⟩ : ∃ kk : Nat, n - t = kk := ⟨_, rfl⟩
          obtain rfl : kz = (kk : Int) := by omega
          have hge : decide ((0 : Int) ≤ (kk : Int)) = true := decide_eq_true (by omega)
          have hwk : IntKind.i64.wrap ((kk : Int) - 1) = (kk : Int) - 1 := IntWalk.i64_in _ ⟨by omega, by omega⟩
          have hkl : kk < n + 1 := by omega
          have hkb : ¬ ((n : Int) + 1 ≤ (kk : Int)) := by omega
          have HKK := Lib.hid (show polyF p fa n kk = berk fa n t % (p : Int) by unfold polyF; rw [show n - kk = t by omega])
          have HKZ := Lib.hid hkz
          clear hkz hkk
          have k0 := HL.out.c0 0 rfl
          have k1 := HL.out.c1 0 rfl
          have k2 := HL.out.c0 3 rfl
          have k3 := HL.out.c1 3 rfl
          go_wp2_with fail
          clear k0 k1 k2 k3 hge
          refine (mulL HS.out HL.out 0 3 rfl rfl).mono ?_
          rintro e w13 ⟨Ax, cx, rfl, hg, hf, hb⟩
          replace HL := Lib.hid (HL.out.cons hb hg hf)
          replace HC := Lib.hid ((HC.out.on hb).on ((Below.refl _ _).alloc (Nat.le_refl _) (.cells #[.int .i64 p, .slice Ax n cx] 58)))
          replace HB := Lib.hid ((HB.out.trans (hb.mono HB.out.size)).alloc (Nat.le_trans HB.out.size hb.size) (.cells #[.int .i64 p, .slice Ax n cx] 58))
          clear hg hf hb
          have hcell := Lib.hid (fun (W : World) (h : Vec W (· < W.heap.size) (.slice (some ⟨bc, oc, none⟩) (n + 1) cc) (n + 1) (polyF p fa n)) => (show W.cell? ⟨bc, oc + kk, none⟩ = some (.int .i64 (polyF p fa n kk)) from by
            obtain ⟨b9, o9, c9, e9, -, -, hcell⟩ := h.at_ (by omega)
            injection e9 with e91 _ _
            injection e91 with e91
            injection e91 with e92 e93 _
            subst e92
            subst e93
            exact hcell kk (by omega)))
          generalize polyF p fa n kk = ck at hcell HKK
          go_wp2_with fail
          have HLD := Lib.hid (show ML ((w13.alloc (.cells #[.int .i64 p, .slice Ax n cx] 58)).drew) p n _ from HL.out)
          have HCD := Lib.hid (show Vec ((w13.alloc (.cells #[.int .i64 p, .slice Ax n cx] 58)).drew) (· < ((w13.alloc (.cells #[.int .i64 p, .slice Ax n cx] 58)).drew).heap.size) _ _ _ from HC.out)
          have HBD := Lib.hid (below_drew HB.out)
          clear HL HC HB
          refine wp_region_held_drew (S := (fun W => W.cell? ⟨Bi, 0, none⟩ = some (.int .i64 p) ∧ W.cell? ⟨Bi, 1, none⟩ = some (.slice A11 n c11) ∧ W.cell? ⟨bc, oc + kk, none⟩ = some (.int .i64 ck))) (by kernel_rfl) ⟨HLD.out.c0 2 rfl, HLD.out.c1 2 rfl, hcell.out _ HCD.out⟩ (fun hHeld => ?_)
          generalize hbx : w13.heap.size = Bx at HLD ⊢
          clear hbx
          generalize (w13.alloc (.cells #[.int .i64 p, .slice Ax n cx] 58)).drew = W0 at HLD HCD HBD hHeld ⊢
          refine takeH (i := 0) (v := (.agg #[.int .i64 p, .slice A11 n c11])) rfl rfl (by kernel_rfl) (by kernel_rfl) (by kernel_rfl) (fun _ _ _ h => h) (by rfl) (fun W hW => by (obtain ⟨q0, q1, q2⟩ := hW); go_simp) (by assumption) ?_
          simp only [List.setIfInBounds_toArray, List.set_cons_zero, List.set_cons_succ]
          refine takeH (i := 1) (v := (.slice (some ⟨bc, oc, none⟩) (n + 1) cc)) rfl rfl (by kernel_rfl) (by kernel_rfl) (by kernel_rfl) (fun _ _ _ h => h) (by rfl) (fun W hW => by (skip); go_simp) (by assumption) ?_
          simp only [List.setIfInBounds_toArray, List.set_cons_zero, List.set_cons_succ]
          refine takeH (i := 2) (v := (.int .i64 kk)) rfl rfl (by kernel_rfl) (by kernel_rfl) (by kernel_rfl) (fun _ _ _ h => h) (by rfl) (fun W hW => by (skip); go_simp) (by assumption) ?_
          simp only [List.setIfInBounds_toArray, List.set_cons_zero, List.set_cons_succ]
          refine takeH (i := 3) (v := (.pointer (some ⟨bc, oc + kk, none⟩))) rfl rfl (by kernel_rfl) (by kernel_rfl) (by kernel_rfl) (fun _ _ _ h => h) (by rfl) (fun W hW => by (skip); go_simp) (by assumption) ?_
          simp only [List.setIfInBounds_toArray, List.set_cons_zero, List.set_cons_succ]
          refine takeH (i := 4) (v := (.int .i64 ck)) rfl rfl (by kernel_rfl) (by kernel_rfl) (by kernel_rfl) (fun _ _ _ h => h) (by rfl) (fun W hW => by (obtain ⟨q0, q1, q2⟩ := hW); go_simp) (by assumption) ?_
          simp only [List.setIfInBounds_toArray, List.set_cons_zero, List.set_cons_succ]
          have HSC := Lib.hid (fun (W : World) L (h : ML W (p : Int) n L) i (x : MatE) (hi : L[i]? = some x) => scaleL HS.out h ck i hi)
          refine wpAnyH_ready (rs := [5, 9]) (by kernel_rfl) (by simp) ?_
          refine (AllReadyH.cons rfl (fun K hK => ?_) (AllReadyH.cons rfl (fun K hK => ?_) AllReadyH.nil))
          · go_simp
            go_at_call 56
            refine (HSC.out _ _ HLD.out 2 _ rfl).mono ?_
            rintro e W1 ⟨Ay, cy, rfl, hg, hf, hb⟩
            have HL1 := Lib.hid (HLD.out.below hb)
            have HC1 := Lib.hid (HCD.out.on hb)
            have hb01 := HBD.out.trans (hb.mono HBD.out.size)
            have HLN' := HLD.out.cons hb hg hf
            have HCN' := HC1.out.on ((Below.refl _ _).alloc (Nat.le_refl _) (.cells #[.int .i64 p, .slice Ay n cy] 58))
            have HBN' := hb01.alloc (Nat.le_trans HBD.out.size hb.size) (.cells #[.int .i64 p, .slice Ay n cy] 58)
            have HLZ := HL1.out.below ((Below.refl _ _).alloc (Nat.le_refl _) (.cells #[.int .i64 0, .slice none 0 0] 58))
            have HCZ := HC1.out.on ((Below.refl _ _).alloc (Nat.le_refl _) (.cells #[.int .i64 0, .slice none 0 0] 58))
            have hS1 : W1.cell? ⟨Bi, 0, none⟩ = some (.int .i64 p) ∧ W1.cell? ⟨Bi, 1, none⟩ = some (.slice A11 n c11) ∧ W1.cell? ⟨bc, oc + kk, none⟩ = some (.int .i64 ck) := ⟨HL1.out.c0 2 rfl, HL1.out.c1 2 rfl, hcell.out _ HC1.out⟩
            have HS2 := Lib.hid (show (W1.alloc (.cells #[.int .i64 0, .slice none 0 0] 58)).cell? ⟨Bi, 0, none⟩ = some (.int .i64 p) ∧ (W1.alloc (.cells #[.int .i64 0, .slice none 0 0] 58)).cell? ⟨Bi, 1, none⟩ = some (.slice A11 n c11) ∧ (W1.alloc (.cells #[.int .i64 0, .slice none 0 0] 58)).cell? ⟨bc, oc + kk, none⟩ = some (.int .i64 ck) from ⟨HLZ.c0 2 rfl, HLZ.c1 2 rfl, hcell.out _ HCZ⟩)
            have HS3 := Lib.hid (show (W1.alloc (.cells #[.int .i64 p, .slice Ay n cy] 58)).cell? ⟨Bi, 0, none⟩ = some (.int .i64 p) ∧ (W1.alloc (.cells #[.int .i64 p, .slice Ay n cy] 58)).cell? ⟨Bi, 1, none⟩ = some (.slice A11 n c11) ∧ (W1.alloc (.cells #[.int .i64 p, .slice Ay n cy] 58)).cell? ⟨bc, oc + kk, none⟩ = some (.int .i64 ck) from ⟨HLN'.c0 3 rfl, HLN'.c1 3 rfl, hcell.out _ HCN'⟩)
            have HL := Lib.hid HLN'
            have HC := Lib.hid HCN'
            have HB := Lib.hid HBN'
            clear HLN' HCN' HBN' HLZ HCZ hg hf hb hb01 HL1 HC1 HLD HCD HBD
            refine hK.out _ _ hS1 (fun hHeld => ?_)
            clear hK K
            try simp only [Act.put, List.setIfInBounds_toArray, List.set_cons_zero, List.set_cons_succ]
            refine takeH (i := 6) (v := (.tuple #[.agg #[.int .i64 p, .slice Ay n cy], .int .i64 0])) rfl rfl (by kernel_rfl) (by kernel_rfl) (by kernel_rfl) (fun _ _ _ h => h) (by rfl) (fun W hW => by (skip); go_simp) (by assumption) ?_
            simp only [List.setIfInBounds_toArray, List.set_cons_zero, List.set_cons_succ]
            refine takeH (i := 7) (v := (.agg #[.int .i64 p, .slice Ay n cy])) rfl rfl (by kernel_rfl) (by kernel_rfl) (by kernel_rfl) (fun _ _ _ h => h) (by rfl) (fun W hW => by (skip); go_simp) (by assumption) ?_
            simp only [List.setIfInBounds_toArray, List.set_cons_zero, List.set_cons_succ]
            refine takeH (i := 8) (v := (.int .i64 0)) rfl rfl (by kernel_rfl) (by kernel_rfl) (by kernel_rfl) (fun _ _ _ h => h) (by rfl) (fun W hW => by (skip); go_simp) (by assumption) ?_
            simp only [List.setIfInBounds_toArray, List.set_cons_zero, List.set_cons_succ]
            refine wpAnyH_ready (rs := [9]) (by kernel_rfl) (by simp) ?_
            refine (AllReadyH.cons rfl (fun K hK => ?_) AllReadyH.nil)
            go_simp
            refine hK.out _ _ HS2.out (fun hHeld => ?_)
            clear hK K
            try simp only [Act.put, List.setIfInBounds_toArray, List.set_cons_zero, List.set_cons_succ]
            refine wpAnyH_ready (rs := [10]) (by kernel_rfl) (by simp) ?_
            refine (AllReadyH.cons rfl (fun K hK => ?_) AllReadyH.nil)
            go_simp
            refine hK.out _ _ HS3.out (fun hHeld => ?_)
            clear hK K
            try simp only [Act.put, List.setIfInBounds_toArray, List.set_cons_zero, List.set_cons_succ]
            refine takeH (i := 11) (v := (.int .i64 0)) rfl rfl (by kernel_rfl) (by kernel_rfl) (by kernel_rfl) (fun _ _ _ h => h) (by rfl) (fun W hW => by (skip); go_simp) (by assumption) ?_
            simp only [List.setIfInBounds_toArray, List.set_cons_zero, List.set_cons_succ]
            refine wpAnyH_done (by kernel_rfl) ?_ _
            have k0 := HL.out.c0 1 rfl
            have k1 := HL.out.c1 1 rfl
            have k2 := HL.out.c0 0 rfl
            have k3 := HL.out.c1 0 rfl
            clear HS2 HS3 hHeld HSC
            go_wp2_with fail
            clear k0 k1 k2 k3
            refine (addL HS.out HL.out 1 0 rfl rfl).mono ?_
            rintro e w14 ⟨Az, cz, rfl, hg, hf, hb⟩
            replace HL := Lib.hid (HL.out.cons hb hg hf)
            replace HC := Lib.hid ((HC.out.on hb).on ((Below.refl _ _).alloc (Nat.le_refl _) (.cells #[.int .i64 p, .slice Az n cz] 58)))
            replace HB := Lib.hid ((HB.out.trans (hb.mono HB.out.size)).alloc (Nat.le_trans HB.out.size hb.size) (.cells #[.int .i64 p, .slice Az n cz] 58))
            clear hg hf hb
            have k0 := HL.out.c0 0 rfl
            have k1 := HL.out.c1 0 rfl
            have k2 := HL.out.c0 3 rfl
            have k3 := HL.out.c1 3 rfl
            have y0 := (HL.out 3 _ rfl).1.frozen 0
            have y1 := (HL.out 3 _ rfl).1.frozen 1
            have HLE := Lib.hid (HL.out.put hn1 3 0 rfl rfl (L' := [⟨Bi, A11, c11, oneF⟩, ⟨Bb, Ab, cb, fb⟩, ⟨Ba, Aa, ca, fa⟩]) (fun j e hj => by
              match j, hj with
              | 0, hj => injection hj with hj; subst hj; exact ⟨⟨4, rfl⟩, Nat.ne_of_lt HN0.out⟩
              | 1, hj => injection hj with hj; subst hj; exact ⟨⟨5, rfl⟩, Nat.ne_of_lt HN1.out⟩
              | 2, hj => injection hj with hj; subst hj; exact ⟨⟨6, rfl⟩, Nat.ne_of_lt HN2.out⟩))
            have HCE := Lib.hid (HC.out.put (polyF_in hp0 fa n (n + 1)) (HL.out 3 _ rfl).1 (fun _ _ e => by cases e) (.int .i64 p) (.slice Az n cz))
            have HBE := Lib.hid ((HB.out.setCell (p := ⟨Bv, 0, none⟩) HLW.out (.int .i64 p)).setCell (p := ⟨Bv, 1, none⟩) HLW.out (.slice Az n cz))
            have HVE := Lib.hid (HV.out.step HS.out.p2 ck HKK.out)
            go_wp2_with fail
            go_roundw
            case rel => have hkz := HKZ.out; exact ⟨t + 1, (kk : Int) - 1, Az, cz, _, rfl, by omega, by omega, HLE.out, HVE.out, HBE.out, HCE.out⟩
            case measure => simp [intOf]
          · go_simp
            have HLZ := Lib.hid (HLD.out.below ((Below.refl _ _).alloc (Nat.le_refl _) (.cells #[.int .i64 0, .slice none 0 0] 58)))
            have HCZ := Lib.hid (HCD.out.on ((Below.refl _ _).alloc (Nat.le_refl _) (.cells #[.int .i64 0, .slice none 0 0] 58)))
            have hb01 : Below W0.heap.size W0 (W0.alloc (.cells #[.int .i64 0, .slice none 0 0] 58)) := (Below.refl _ _).alloc (Nat.le_refl _) _
            have hr0 := row_new (W := W0) rfl 58 #[.int .i64 0, .slice none 0 0]
            refine hK.out _ _ ⟨HLZ.out.c0 2 rfl, HLZ.out.c1 2 rfl, hcell.out _ HCZ.out⟩ (fun hHeld => ?_)
            clear hK K
            try simp only [Act.put, List.setIfInBounds_toArray, List.set_cons_zero, List.set_cons_succ]
            generalize W0.alloc (.cells #[.int .i64 0, .slice none 0 0] 58) = W1 at HLZ HCZ hb01 hr0 hHeld ⊢
            refine wpAnyH_ready (rs := [5]) (by kernel_rfl) (by simp) ?_
            refine (AllReadyH.cons rfl (fun K hK => ?_) AllReadyH.nil)
            go_simp
            go_at_call 56
            refine (HSC.out _ _ HLZ.out 2 _ rfl).mono ?_
            rintro e W2 ⟨Ay, cy, rfl, hg, hf, hb⟩
            have HLN' := ml_late HLD.out hb01 hr0 hb hg hf
            have hr2 := hr0.below hb hr0.lt
            have r0 := hr2.cell (i := 0) rfl
            have r1 := hr2.cell (i := 1) rfl
            have y0 := hr2.frozen 0
            have y1 := hr2.frozen 1
            have hb3 : Below W0.heap.size W0 ((W2.setCell ⟨W0.heap.size, 0, none⟩ (.int .i64 p)).setCell ⟨W0.heap.size, 1, none⟩ (.slice Ay n cy)) := ((hb01.trans (hb.mono hb01.size)).setCell (p := ⟨W0.heap.size, 0, none⟩) (Nat.le_refl _) _).setCell (p := ⟨W0.heap.size, 1, none⟩) (Nat.le_refl _) _
            have HCN' := HCD.out.on hb3
            have HBN' := HBD.out.trans (hb3.mono HBD.out.size)
            have HLZ2 := HLZ.out.below hb
            have HCZ2 := HCZ.out.on hb
            have HS2 := Lib.hid (show W2.cell? ⟨Bi, 0, none⟩ = some (.int .i64 p) ∧ W2.cell? ⟨Bi, 1, none⟩ = some (.slice A11 n c11) ∧ W2.cell? ⟨bc, oc + kk, none⟩ = some (.int .i64 ck) from ⟨HLZ2.c0 2 rfl, HLZ2.c1 2 rfl, hcell.out _ HCZ2⟩)
            have HS3 := Lib.hid (show ((W2.setCell ⟨W0.heap.size, 0, none⟩ (.int .i64 p)).setCell ⟨W0.heap.size, 1, none⟩ (.slice Ay n cy)).cell? ⟨Bi, 0, none⟩ = some (.int .i64 p) ∧ ((W2.setCell ⟨W0.heap.size, 0, none⟩ (.int .i64 p)).setCell ⟨W0.heap.size, 1, none⟩ (.slice Ay n cy)).cell? ⟨Bi, 1, none⟩ = some (.slice A11 n c11) ∧ ((W2.setCell ⟨W0.heap.size, 0, none⟩ (.int .i64 p)).setCell ⟨W0.heap.size, 1, none⟩ (.slice Ay n cy)).cell? ⟨bc, oc + kk, none⟩ = some (.int .i64 ck) from ⟨HLN'.c0 3 rfl, HLN'.c1 3 rfl, hcell.out _ HCN'⟩)
            have HL := Lib.hid HLN'
            have HC := Lib.hid HCN'
            have HB := Lib.hid HBN'
            clear HLN' HCN' HBN' HLZ2 HCZ2 hg hf hb hb3 hb01 hr0 hr2 HLD HCD HBD HLZ HCZ
            refine hK.out _ _ HS2.out (fun hHeld => ?_)
            clear hK K
            try simp only [Act.put, List.setIfInBounds_toArray, List.set_cons_zero, List.set_cons_succ]
            refine takeH (i := 6) (v := (.tuple #[.agg #[.int .i64 p, .slice Ay n cy], .int .i64 0])) rfl rfl (by kernel_rfl) (by kernel_rfl) (by kernel_rfl) (fun _ _ _ h => h) (by rfl) (fun W hW => by (skip); go_simp) (by assumption) ?_
            simp only [List.setIfInBounds_toArray, List.set_cons_zero, List.set_cons_succ]
            refine takeH (i := 7) (v := (.agg #[.int .i64 p, .slice Ay n cy])) rfl rfl (by kernel_rfl) (by kernel_rfl) (by kernel_rfl) (fun _ _ _ h => h) (by rfl) (fun W hW => by (skip); go_simp) (by assumption) ?_
            simp only [List.setIfInBounds_toArray, List.set_cons_zero, List.set_cons_succ]
            refine takeH (i := 8) (v := (.int .i64 0)) rfl rfl (by kernel_rfl) (by kernel_rfl) (by kernel_rfl) (fun _ _ _ h => h) (by rfl) (fun W hW => by (skip); go_simp) (by assumption) ?_
            simp only [List.setIfInBounds_toArray, List.set_cons_zero, List.set_cons_succ]
            refine wpAnyH_ready (rs := [10]) (by kernel_rfl) (by simp) ?_
            refine (AllReadyH.cons rfl (fun K hK => ?_) AllReadyH.nil)
            go_simp
            refine hK.out _ _ HS3.out (fun hHeld => ?_)
            clear hK K
            try simp only [Act.put, List.setIfInBounds_toArray, List.set_cons_zero, List.set_cons_succ]
            clear r0 r1 y0 y1
            refine takeH (i := 11) (v := (.int .i64 0)) rfl rfl (by kernel_rfl) (by kernel_rfl) (by kernel_rfl) (fun _ _ _ h => h) (by rfl) (fun W hW => by (skip); go_simp) (by assumption) ?_
            simp only [List.setIfInBounds_toArray, List.set_cons_zero, List.set_cons_succ]
            refine wpAnyH_done (by kernel_rfl) ?_ _
            have k0 := HL.out.c0 1 rfl
            have k1 := HL.out.c1 1 rfl
            have k2 := HL.out.c0 0 rfl
            have k3 := HL.out.c1 0 rfl
            clear HS2 HS3 hHeld HSC
            go_wp2_with fail
            clear k0 k1 k2 k3
            refine (addL HS.out HL.out 1 0 rfl rfl).mono ?_
            rintro e w14 ⟨Az, cz, rfl, hg, hf, hb⟩
            replace HL := Lib.hid (HL.out.cons hb hg hf)
            replace HC := Lib.hid ((HC.out.on hb).on ((Below.refl _ _).alloc (Nat.le_refl _) (.cells #[.int .i64 p, .slice Az n cz] 58)))
            replace HB := Lib.hid ((HB.out.trans (hb.mono HB.out.size)).alloc (Nat.le_trans HB.out.size hb.size) (.cells #[.int .i64 p, .slice Az n cz] 58))
            clear hg hf hb
            have k0 := HL.out.c0 0 rfl
            have k1 := HL.out.c1 0 rfl
            have k2 := HL.out.c0 3 rfl
            have k3 := HL.out.c1 3 rfl
            have y0 := (HL.out 3 _ rfl).1.frozen 0
            have y1 := (HL.out 3 _ rfl).1.frozen 1
            have HLE := Lib.hid (HL.out.put hn1 3 0 rfl rfl (L' := [⟨Bi, A11, c11, oneF⟩, ⟨Bb, Ab, cb, fb⟩, ⟨Ba, Aa, ca, fa⟩]) (fun j e hj => by
              match j, hj with
              | 0, hj => injection hj with hj; subst hj; exact ⟨⟨4, rfl⟩, Nat.ne_of_lt HN0.out⟩
              | 1, hj => injection hj with hj; subst hj; exact ⟨⟨5, rfl⟩, Nat.ne_of_lt HN1.out⟩
              | 2, hj => injection hj with hj; subst hj; exact ⟨⟨6, rfl⟩, Nat.ne_of_lt HN2.out⟩))
            have HCE := Lib.hid (HC.out.put (polyF_in hp0 fa n (n + 1)) (HL.out 3 _ rfl).1 (fun _ _ e => by cases e) (.int .i64 p) (.slice Az n cz))
            have HBE := Lib.hid ((HB.out.setCell (p := ⟨Bv, 0, none⟩) HLW.out (.int .i64 p)).setCell (p := ⟨Bv, 1, none⟩) HLW.out (.slice Az n cz))
            have HVE := Lib.hid (HV.out.step HS.out.p2 ck HKK.out)
            go_wp2_with fail
            go_roundw
            case rel => have hkz := HKZ.out; exact ⟨t + 1, (kk : Int) - 1, Az, cz, _, rfl, by omega, by omega, HLE.out, HVE.out, HBE.out, HCE.out⟩
            case measure => simp [intOf]
        · obtain rfl : t = n + 1 := by omega
          obtain rfl : kz = -1 := by omega
          have HZ := Lib.hid (fun i j hi hj => HV.out.done (HL.out 0 _ rfl).2.2 i j hi hj)
          have k0 := HL.out.c0 1 rfl
          have k1 := HL.out.c1 1 rfl
          go_wp2_with fail
          clear k0 k1
          refine (scaleL HS.out HL.out 0 1 rfl).mono ?_
          rintro e w15 ⟨A15, c15, rfl, hg, hf, hb⟩
          replace HL := Lib.hid (HL.out.cons hb hg hf)
          replace HC := Lib.hid ((HC.out.on hb).on ((Below.refl _ _).alloc (Nat.le_refl _) (.cells #[.int .i64 p, .slice A15 n c15] 58)))
          replace HB := Lib.hid ((HB.out.trans (hb.mono HB.out.size)).alloc (Nat.le_trans HB.out.size hb.size) (.cells #[.int .i64 p, .slice A15 n c15] 58))
          have k0 := HL.out.c0 1 rfl
          have k1 := HL.out.c1 1 rfl
          have k2 := HL.out.c0 0 rfl
          have k3 := HL.out.c1 0 rfl
          clear hb hg hf
          go_wp2_with fail
          clear k0 k1 k2 k3
          refine (sameL HS.out HL.out 1 0 rfl rfl (fun i hi j hj => by show V i j = (0 + (resV 0 p : Nat) * oneF i j) % (p : Int); rw [HZ.out i j hi hj]; simp [resV])).mono ?_
          rintro e w16 ⟨rfl, hb⟩
          replace HL := Lib.hid (HL.out.below hb)
          replace HC := Lib.hid (HC.out.on hb)
          replace HB := Lib.hid (HB.out.trans (hb.mono HB.out.size))
          have k0 := HL.out.c0 3 rfl
          have k1 := HL.out.c1 3 rfl
          clear hb
          go_wp2_with fail
          clear k0 k1
          by_cases hd0 : detV p n fb = 0
          · have H0 := Lib.hid hd0
            refine (invL0 HS.out HL.out 3 rfl H0.out).mono ?_
            rintro e w17 ⟨rfl, hb⟩
            have HBE := Lib.hid ((HB.out.trans (hb.mono HB.out.size)).alloc (Nat.le_trans HB.out.size hb.size) (.cells #[.int .i64 0, .slice none 0 0] 58))
            clear hb
            go_wp2_with fail
            go_ret
            exact ⟨rfl, HBE.out⟩
          · have H0 := Lib.hid hd0
            refine (invL HS.out HL.out 3 rfl H0.out).mono ?_
            rintro e w18 ⟨A18, c18, rfl, hg, hf, hb⟩
            replace HL := Lib.hid (HL.out.cons hb hg hf)
            replace HC := Lib.hid ((HC.out.on hb).on ((Below.refl _ _).alloc (Nat.le_refl _) (.cells #[.int .i64 p, .slice A18 n c18] 58)))
            replace HB := Lib.hid ((HB.out.trans (hb.mono HB.out.size)).alloc (Nat.le_trans HB.out.size hb.size) (.cells #[.int .i64 p, .slice A18 n c18] 58))
            have k0 := HL.out.c0 0 rfl
            have k1 := HL.out.c1 0 rfl
            have k2 := HL.out.c0 5 rfl
            have k3 := HL.out.c1 5 rfl
            clear hb hg hf
            go_wp2_with fail
            clear k0 k1 k2 k3
            refine (mulL HS.out HL.out 0 5 rfl rfl).mono ?_
            rintro e w19 ⟨A19, c19, rfl, hg, hf, hb⟩
            replace HL := Lib.hid (HL.out.cons hb hg hf)
            replace HC := Lib.hid ((HC.out.on hb).on ((Below.refl _ _).alloc (Nat.le_refl _) (.cells #[.int .i64 p, .slice A19 n c19] 58)))
            replace HB := Lib.hid ((HB.out.trans (hb.mono HB.out.size)).alloc (Nat.le_trans HB.out.size hb.size) (.cells #[.int .i64 p, .slice A19 n c19] 58))
            have k0 := HL.out.c0 0 rfl
            have k1 := HL.out.c1 0 rfl
            have k2 := HL.out.c0 5 rfl
            have k3 := HL.out.c1 5 rfl
            clear hb hg hf
            go_wp2_with fail
            clear k0 k1 k2 k3
            refine (mulL HS.out HL.out 0 5 rfl rfl).mono ?_
            rintro e w20 ⟨A20, c20, rfl, hg, hf, hb⟩
            replace HL := Lib.hid (HL.out.cons hb hg hf)
            replace HC := Lib.hid ((HC.out.on hb).on ((Below.refl _ _).alloc (Nat.le_refl _) (.cells #[.int .i64 p, .slice A20 n c20] 58)))
            replace HB := Lib.hid ((HB.out.trans (hb.mono HB.out.size)).alloc (Nat.le_trans HB.out.size hb.size) (.cells #[.int .i64 p, .slice A20 n c20] 58))
            have k0 := HL.out.c0 0 rfl
            have k1 := HL.out.c1 0 rfl
            clear hb hg hf
            go_wp2_with fail
            clear k0 k1
            refine (polyL HS.out HL.out 0 rfl).mono ?_
            rintro e w21 ⟨Ae, ce, rfl, hve, hb⟩
            have HVE := Lib.hid hve.new_lt
            replace HC := Lib.hid (HC.out.on hb)
            replace HB := Lib.hid (HB.out.trans (hb.mono HB.out.size))
            clear hb hve HL
            go_wp2_with fail
            refine (row_same _ _ (n + 1) _ _ _ _ _ (by omega) HVE.out HC.out).mono ?_
            rintro e wz ⟨rfl, kq, rfl⟩
            rw [show eqB (n + 1) (polyF p (mulF p n (mulF p n (invF p n fb) fa) fb) n) (polyF p fa n) = true from decide_eq_true fun j _ => polyF_conj HS.out.p1 HS.out.inv HFa.out HFb.out H0.out j]
            go_wp2_with fail
            go_ret
            exact ⟨rfl, below_drewN HB.out kq⟩
    · skip
      have E6 := polyF_odd HS.out.p1 HS.out.inv HFa.out hpar
      rw [HE4.out, HE1.out] at E6
      have hpi : (n : Int) % 2 = 1 := by omega
      have hpt : (n : Int).tmod 2 = 1 := by rw [Int.tmod_eq_emod_of_nonneg (by omega)]; exact hpi
      obtain ⟨t0, ht0'⟩ : ∃ t0 : Nat, c0 + d = t0 := ⟨_, rfl⟩
      have hsum0 : (c0 : Int) + (d : Int) = (t0 : Int) := by omega
      rw [hsum0] at E6
      have hw0 : IntKind.i64.wrap ((c0 : Int) + (d : Int)) = (t0 : Int) := by rw [hsum0]; exact IntWalk.i64_in _ ⟨by omega, by omega⟩
      clear hsum0 ht0'
      go_wp2_with fail
      clear q0 q1 q2 hw1 hwn hwm hpi hpt E5 hw0 E6
      refine (oneL HS.out _).mono ?_
      rintro e w11 ⟨A11, c11, rfl, hg, hf, hb⟩
      replace HL := Lib.hid (HL.out.cons hb hg hf)
      replace HC := Lib.hid ((HC.out.on hb).on ((Below.refl _ _).alloc (Nat.le_refl _) (.cells #[.int .i64 p, .slice A11 n c11] 58)))
      replace HB := Lib.hid ((HB.out.trans (hb.mono HB.out.size)).alloc (Nat.le_trans HB.out.size hb.size) (.cells #[.int .i64 p, .slice A11 n c11] 58))
      have k0 := HL.out.c0 0 rfl
      have k1 := HL.out.c1 0 rfl
      clear hb hg hf
      go_wp2_with fail
      clear k0 k1
      have hlt0 := (HL.out 0 _ rfl).1.lt
      have hlt1 := (HL.out 1 _ rfl).1.lt
      have hlt2 := (HL.out 2 _ rfl).1.lt
      refine (scaleL HS.out HL.out 0 0 rfl).mono ?_
      rintro e w12 ⟨Av, cv, rfl, hg, hf, hb⟩
      have hlw := hb.size
      have HLW := Lib.hid (show w.heap.size ≤ w12.heap.size from Nat.le_trans HB.out.size hb.size)
      replace HL := Lib.hid (HL.out.cons hb hg hf)
      replace HC := Lib.hid ((HC.out.on hb).on ((Below.refl _ _).alloc (Nat.le_refl _) (.cells #[.int .i64 p, .slice Av n cv] 58)))
      replace HB := Lib.hid ((HB.out.trans (hb.mono HB.out.size)).alloc (Nat.le_trans HB.out.size hb.size) (.cells #[.int .i64 p, .slice Av n cv] 58))
      have HV0 := Lib.hid (HorI.start (p := (p : Int)) fa n (resV 0 p) (by simp [resV]))
      have HN0 := Lib.hid (Nat.lt_of_lt_of_le hlt0 hlw)
      have HN1 := Lib.hid (Nat.lt_of_lt_of_le hlt1 hlw)
      have HN2 := Lib.hid (Nat.lt_of_lt_of_le hlt2 hlw)
      clear hg hf hb hlt0 hlt1 hlt2 hlw
      go_wp2_with fail
      generalize w12.alloc (.cells #[.int .i64 p, .slice Av n cv] 58) = wv at HL HC HB ⊢
      generalize w12.heap.size = Bv at HL HLW HN0 HN1 HN2 ⊢
      generalize w11.heap.size = Bi at HL HN0 ⊢
      generalize w5.heap.size + 1 = Bb at HL HN1 ⊢
      generalize w5.heap.size = Ba at HL HN2 ⊢
      generalize (fun i => axpy (resV 0 p : Nat) (p : Int) (fun _ => 0) (oneF i)) = V0 at HL HV0
      go_loopw [20] (fun k wr => ∃ (t : Nat) (kz : Int) (A' : Option Addr) (c' : Nat) (V : Nat → Nat → Int), k = .int .i64 kz ∧ kz = (n : Int) - t ∧ t ≤ n + 1 ∧ ML wr p n [⟨Bv, A', c', V⟩, ⟨Bi, A11, c11, oneF⟩, ⟨Bb, Ab, cb, fb⟩, ⟨Ba, Aa, ca, fa⟩] ∧ HorI (p : Int) fa n t V ∧ Below w.heap.size w wr ∧ Vec wr (· < wr.heap.size) (.slice (some ⟨bc, oc, none⟩) (n + 1) cc) (n + 1) (polyF p fa n)) (fun k _ => (intOf k + 1).toNat)
      case atStart => exact ⟨0, n, Av, cv, V0, rfl, by omega, by omega, HL.out, HV0.out, HB.out, HC.out⟩
      case round =>
        obtain ⟨t, kz, Av, cv, V, rfl, hkz, ht, hL, hV, hB, hC⟩ := hrel
        rename World => wr
        have HL := Lib.hid hL
        have HV := Lib.hid hV
        have HB := Lib.hid hB
        have HC := Lib.hid hC
        clear hL hV hB hC HV0
        by_cases hlt : t ≤ n
        · obtain ⟨kk, hkk⟩ : ∃ kk : Nat, n - t = kk := ⟨_, rfl⟩
          obtain rfl : kz = (kk : Int) := by omega
          have hge : decide ((0 : Int) ≤ (kk : Int)) = true := decide_eq_true (by omega)
          have hwk : IntKind.i64.wrap ((kk : Int) - 1) = (kk : Int) - 1 := IntWalk.i64_in _ ⟨by omega, by omega⟩
          have hkl : kk < n + 1 := by omega
          have hkb : ¬ ((n : Int) + 1 ≤ (kk : Int)) := by omega
          have HKK := Lib.hid (show polyF p fa n kk = berk fa n t % (p : Int) by unfold polyF; rw [show n - kk = t by omega])
          have HKZ := Lib.hid hkz
          clear hkz hkk
          have k0 := HL.out.c0 0 rfl
          have k1 := HL.out.c1 0 rfl
          have k2 := HL.out.c0 3 rfl
          have k3 := HL.out.c1 3 rfl
          go_wp2_with fail
          clear k0 k1 k2 k3 hge
          refine (mulL HS.out HL.out 0 3 rfl rfl).mono ?_
          rintro e w13 ⟨Ax, cx, rfl, hg, hf, hb⟩
          replace HL := Lib.hid (HL.out.cons hb hg hf)
          replace HC := Lib.hid ((HC.out.on hb).on ((Below.refl _ _).alloc (Nat.le_refl _) (.cells #[.int .i64 p, .slice Ax n cx] 58)))
          replace HB := Lib.hid ((HB.out.trans (hb.mono HB.out.size)).alloc (Nat.le_trans HB.out.size hb.size) (.cells #[.int .i64 p, .slice Ax n cx] 58))
          clear hg hf hb
          have hcell := Lib.hid (fun (W : World) (h : Vec W (· < W.heap.size) (.slice (some ⟨bc, oc, none⟩) (n + 1) cc) (n + 1) (polyF p fa n)) => (show W.cell? ⟨bc, oc + kk, none⟩ = some (.int .i64 (polyF p fa n kk)) from by
            obtain ⟨b9, o9, c9, e9, -, -, hcell⟩ := h.at_ (by omega)
            injection e9 with e91 _ _
            injection e91 with e91
            injection e91 with e92 e93 _
            subst e92
            subst e93
            exact hcell kk (by omega)))
          generalize polyF p fa n kk = ck at hcell HKK
          go_wp2_with fail
          have HLD := Lib.hid (show ML ((w13.alloc (.cells #[.int .i64 p, .slice Ax n cx] 58)).drew) p n _ from HL.out)
          have HCD := Lib.hid (show Vec ((w13.alloc (.cells #[.int .i64 p, .slice Ax n cx] 58)).drew) (· < ((w13.alloc (.cells #[.int .i64 p, .slice Ax n cx] 58)).drew).heap.size) _ _ _ from HC.out)
          have HBD := Lib.hid (below_drew HB.out)
          clear HL HC HB
          refine wp_region_held_drew (S := (fun W => W.cell? ⟨Bi, 0, none⟩ = some (.int .i64 p) ∧ W.cell? ⟨Bi, 1, none⟩ = some (.slice A11 n c11) ∧ W.cell? ⟨bc, oc + kk, none⟩ = some (.int .i64 ck))) (by kernel_rfl) ⟨HLD.out.c0 2 rfl, HLD.out.c1 2 rfl, hcell.out _ HCD.out⟩ (fun hHeld => ?_)
          generalize hbx : w13.heap.size = Bx at HLD ⊢
          clear hbx
          generalize (w13.alloc (.cells #[.int .i64 p, .slice Ax n cx] 58)).drew = W0 at HLD HCD HBD hHeld ⊢
          refine takeH (i := 0) (v := (.agg #[.int .i64 p, .slice A11 n c11])) rfl rfl (by kernel_rfl) (by kernel_rfl) (by kernel_rfl) (fun _ _ _ h => h) (by rfl) (fun W hW => by (obtain ⟨q0, q1, q2⟩ := hW); go_simp) (by assumption) ?_
          simp only [List.setIfInBounds_toArray, List.set_cons_zero, List.set_cons_succ]
          refine takeH (i := 1) (v := (.slice (some ⟨bc, oc, none⟩) (n + 1) cc)) rfl rfl (by kernel_rfl) (by kernel_rfl) (by kernel_rfl) (fun _ _ _ h => h) (by rfl) (fun W hW => by (skip); go_simp) (by assumption) ?_
          simp only [List.setIfInBounds_toArray, List.set_cons_zero, List.set_cons_succ]
          refine takeH (i := 2) (v := (.int .i64 kk)) rfl rfl (by kernel_rfl) (by kernel_rfl) (by kernel_rfl) (fun _ _ _ h => h) (by rfl) (fun W hW => by (skip); go_simp) (by assumption) ?_
          simp only [List.setIfInBounds_toArray, List.set_cons_zero, List.set_cons_succ]
          refine takeH (i := 3) (v := (.pointer (some ⟨bc, oc + kk, none⟩))) rfl rfl (by kernel_rfl) (by kernel_rfl) (by kernel_rfl) (fun _ _ _ h => h) (by rfl) (fun W hW => by (skip); go_simp) (by assumption) ?_
          simp only [List.setIfInBounds_toArray, List.set_cons_zero, List.set_cons_succ]
          refine takeH (i := 4) (v := (.int .i64 ck)) rfl rfl (by kernel_rfl) (by kernel_rfl) (by kernel_rfl) (fun _ _ _ h => h) (by rfl) (fun W hW => by (obtain ⟨q0, q1, q2⟩ := hW); go_simp) (by assumption) ?_
          simp only [List.setIfInBounds_toArray, List.set_cons_zero, List.set_cons_succ]
          have HSC := Lib.hid (fun (W : World) L (h : ML W (p : Int) n L) i (x : MatE) (hi : L[i]? = some x) => scaleL HS.out h ck i hi)
          refine wpAnyH_ready (rs := [5, 9]) (by kernel_rfl) (by simp) ?_
          refine (AllReadyH.cons rfl (fun K hK => ?_) (AllReadyH.cons rfl (fun K hK => ?_) AllReadyH.nil))
          · go_simp
            go_at_call 56
            refine (HSC.out _ _ HLD.out 2 _ rfl).mono ?_
            rintro e W1 ⟨Ay, cy, rfl, hg, hf, hb⟩
            have HL1 := Lib.hid (HLD.out.below hb)
            have HC1 := Lib.hid (HCD.out.on hb)
            have hb01 := HBD.out.trans (hb.mono HBD.out.size)
            have HLN' := HLD.out.cons hb hg hf
            have HCN' := HC1.out.on ((Below.refl _ _).alloc (Nat.le_refl _) (.cells #[.int .i64 p, .slice Ay n cy] 58))
            have HBN' := hb01.alloc (Nat.le_trans HBD.out.size hb.size) (.cells #[.int .i64 p, .slice Ay n cy] 58)
            have HLZ := HL1.out.below ((Below.refl _ _).alloc (Nat.le_refl _) (.cells #[.int .i64 0, .slice none 0 0] 58))
            have HCZ := HC1.out.on ((Below.refl _ _).alloc (Nat.le_refl _) (.cells #[.int .i64 0, .slice none 0 0] 58))
            have hS1 : W1.cell? ⟨Bi, 0, none⟩ = some (.int .i64 p) ∧ W1.cell? ⟨Bi, 1, none⟩ = some (.slice A11 n c11) ∧ W1.cell? ⟨bc, oc + kk, none⟩ = some (.int .i64 ck) := ⟨HL1.out.c0 2 rfl, HL1.out.c1 2 rfl, hcell.out _ HC1.out⟩
            have HS2 := Lib.hid (show (W1.alloc (.cells #[.int .i64 0, .slice none 0 0] 58)).cell? ⟨Bi, 0, none⟩ = some (.int .i64 p) ∧ (W1.alloc (.cells #[.int .i64 0, .slice none 0 0] 58)).cell? ⟨Bi, 1, none⟩ = some (.slice A11 n c11) ∧ (W1.alloc (.cells #[.int .i64 0, .slice none 0 0] 58)).cell? ⟨bc, oc + kk, none⟩ = some (.int .i64 ck) from ⟨HLZ.c0 2 rfl, HLZ.c1 2 rfl, hcell.out _ HCZ⟩)
            have HS3 := Lib.hid (show (W1.alloc (.cells #[.int .i64 p, .slice Ay n cy] 58)).cell? ⟨Bi, 0, none⟩ = some (.int .i64 p) ∧ (W1.alloc (.cells #[.int .i64 p, .slice Ay n cy] 58)).cell? ⟨Bi, 1, none⟩ = some (.slice A11 n c11) ∧ (W1.alloc (.cells #[.int .i64 p, .slice Ay n cy] 58)).cell? ⟨bc, oc + kk, none⟩ = some (.int .i64 ck) from ⟨HLN'.c0 3 rfl, HLN'.c1 3 rfl, hcell.out _ HCN'⟩)
            have HL := Lib.hid HLN'
            have HC := Lib.hid HCN'
            have HB := Lib.hid HBN'
            clear HLN' HCN' HBN' HLZ HCZ hg hf hb hb01 HL1 HC1 HLD HCD HBD
            refine hK.out _ _ hS1 (fun hHeld => ?_)
            clear hK K
            try simp only [Act.put, List.setIfInBounds_toArray, List.set_cons_zero, List.set_cons_succ]
            refine takeH (i := 6) (v := (.tuple #[.agg #[.int .i64 p, .slice Ay n cy], .int .i64 0])) rfl rfl (by kernel_rfl) (by kernel_rfl) (by kernel_rfl) (fun _ _ _ h => h) (by rfl) (fun W hW => by (skip); go_simp) (by assumption) ?_
            simp only [List.setIfInBounds_toArray, List.set_cons_zero, List.set_cons_succ]
            refine takeH (i := 7) (v := (.agg #[.int .i64 p, .slice Ay n cy])) rfl rfl (by kernel_rfl) (by kernel_rfl) (by kernel_rfl) (fun _ _ _ h => h) (by rfl) (fun W hW => by (skip); go_simp) (by assumption) ?_
            simp only [List.setIfInBounds_toArray, List.set_cons_zero, List.set_cons_succ]
            refine takeH (i := 8) (v := (.int .i64 0)) rfl rfl (by kernel_rfl) (by kernel_rfl) (by kernel_rfl) (fun _ _ _ h => h) (by rfl) (fun W hW => by (skip); go_simp) (by assumption) ?_
            simp only [List.setIfInBounds_toArray, List.set_cons_zero, List.set_cons_succ]
            refine wpAnyH_ready (rs := [9]) (by kernel_rfl) (by simp) ?_
            refine (AllReadyH.cons rfl (fun K hK => ?_) AllReadyH.nil)
            go_simp
            refine hK.out _ _ HS2.out (fun hHeld => ?_)
            clear hK K
            try simp only [Act.put, List.setIfInBounds_toArray, List.set_cons_zero, List.set_cons_succ]
            refine wpAnyH_ready (rs := [10]) (by kernel_rfl) (by simp) ?_
            refine (AllReadyH.cons rfl (fun K hK => ?_) AllReadyH.nil)
            go_simp
            refine hK.out _ _ HS3.out (fun hHeld => ?_)
            clear hK K
            try simp only [Act.put, List.setIfInBounds_toArray, List.set_cons_zero, List.set_cons_succ]
            refine takeH (i := 11) (v := (.int .i64 0)) rfl rfl (by kernel_rfl) (by kernel_rfl) (by kernel_rfl) (fun _ _ _ h => h) (by rfl) (fun W hW => by (skip); go_simp) (by assumption) ?_
            simp only [List.setIfInBounds_toArray, List.set_cons_zero, List.set_cons_succ]
            refine wpAnyH_done (by kernel_rfl) ?_ _
            have k0 := HL.out.c0 1 rfl
            have k1 := HL.out.c1 1 rfl
            have k2 := HL.out.c0 0 rfl
            have k3 := HL.out.c1 0 rfl
            clear HS2 HS3 hHeld HSC
            go_wp2_with fail
            clear k0 k1 k2 k3
            refine (addL HS.out HL.out 1 0 rfl rfl).mono ?_
            rintro e w14 ⟨Az, cz, rfl, hg, hf, hb⟩
            replace HL := Lib.hid (HL.out.cons hb hg hf)
            replace HC := Lib.hid ((HC.out.on hb).on ((Below.refl _ _).alloc (Nat.le_refl _) (.cells #[.int .i64 p, .slice Az n cz] 58)))
            replace HB := Lib.hid ((HB.out.trans (hb.mono HB.out.size)).alloc (Nat.le_trans HB.out.size hb.size) (.cells #[.int .i64 p, .slice Az n cz] 58))
            clear hg hf hb
            have k0 := HL.out.c0 0 rfl
            have k1 := HL.out.c1 0 rfl
            have k2 := HL.out.c0 3 rfl
            have k3 := HL.out.c1 3 rfl
            have y0 := (HL.out 3 _ rfl).1.frozen 0
            have y1 := (HL.out 3 _ rfl).1.frozen 1
            have HLE := Lib.hid (HL.out.put hn1 3 0 rfl rfl (L' := [⟨Bi, A11, c11, oneF⟩, ⟨Bb, Ab, cb, fb⟩, ⟨Ba, Aa, ca, fa⟩]) (fun j e hj => by
              match j, hj with
              | 0, hj => injection hj with hj; subst hj; exact ⟨⟨4, rfl⟩, Nat.ne_of_lt HN0.out⟩
              | 1, hj => injection hj with hj; subst hj; exact ⟨⟨5, rfl⟩, Nat.ne_of_lt HN1.out⟩
              | 2, hj => injection hj with hj; subst hj; exact ⟨⟨6, rfl⟩, Nat.ne_of_lt HN2.out⟩))
            have HCE := Lib.hid (HC.out.put (polyF_in hp0 fa n (n + 1)) (HL.out 3 _ rfl).1 (fun _ _ e => by cases e) (.int .i64 p) (.slice Az n cz))
            have HBE := Lib.hid ((HB.out.setCell (p := ⟨Bv, 0, none⟩) HLW.out (.int .i64 p)).setCell (p := ⟨Bv, 1, none⟩) HLW.out (.slice Az n cz))
            have HVE := Lib.hid (HV.out.step HS.out.p2 ck HKK.out)
            go_wp2_with fail
            go_roundw
            case rel => have hkz := HKZ.out; exact ⟨t + 1, (kk : Int) - 1, Az, cz, _, rfl, by omega, by omega, HLE.out, HVE.out, HBE.out, HCE.out⟩
            case measure => simp [intOf]
          · go_simp
            have HLZ := Lib.hid (HLD.out.below ((Below.refl _ _).alloc (Nat.le_refl _) (.cells #[.int .i64 0, .slice none 0 0] 58)))
            have HCZ := Lib.hid (HCD.out.on ((Below.refl _ _).alloc (Nat.le_refl _) (.cells #[.int .i64 0, .slice none 0 0] 58)))
            have hb01 : Below W0.heap.size W0 (W0.alloc (.cells #[.int .i64 0, .slice none 0 0] 58)) := (Below.refl _ _).alloc (Nat.le_refl _) _
            have hr0 := row_new (W := W0) rfl 58 #[.int .i64 0, .slice none 0 0]
            refine hK.out _ _ ⟨HLZ.out.c0 2 rfl, HLZ.out.c1 2 rfl, hcell.out _ HCZ.out⟩ (fun hHeld => ?_)
            clear hK K
            try simp only [Act.put, List.setIfInBounds_toArray, List.set_cons_zero, List.set_cons_succ]
            generalize W0.alloc (.cells #[.int .i64 0, .slice none 0 0] 58) = W1 at HLZ HCZ hb01 hr0 hHeld ⊢
            refine wpAnyH_ready (rs := [5]) (by kernel_rfl) (by simp) ?_
            refine (AllReadyH.cons rfl (fun K hK => ?_) AllReadyH.nil)
            go_simp
            go_at_call 56
            refine (HSC.out _ _ HLZ.out 2 _ rfl).mono ?_
            rintro e W2 ⟨Ay, cy, rfl, hg, hf, hb⟩
            have HLN' := ml_late HLD.out hb01 hr0 hb hg hf
            have hr2 := hr0.below hb hr0.lt
            have r0 := hr2.cell (i := 0) rfl
            have r1 := hr2.cell (i := 1) rfl
            have y0 := hr2.frozen 0
            have y1 := hr2.frozen 1
            have hb3 : Below W0.heap.size W0 ((W2.setCell ⟨W0.heap.size, 0, none⟩ (.int .i64 p)).setCell ⟨W0.heap.size, 1, none⟩ (.slice Ay n cy)) := ((hb01.trans (hb.mono hb01.size)).setCell (p := ⟨W0.heap.size, 0, none⟩) (Nat.le_refl _) _).setCell (p := ⟨W0.heap.size, 1, none⟩) (Nat.le_refl _) _
            have HCN' := HCD.out.on hb3
            have HBN' := HBD.out.trans (hb3.mono HBD.out.size)
            have HLZ2 := HLZ.out.below hb
            have HCZ2 := HCZ.out.on hb
            have HS2 := Lib.hid (show W2.cell? ⟨Bi, 0, none⟩ = some (.int .i64 p) ∧ W2.cell? ⟨Bi, 1, none⟩ = some (.slice A11 n c11) ∧ W2.cell? ⟨bc, oc + kk, none⟩ = some (.int .i64 ck) from ⟨HLZ2.c0 2 rfl, HLZ2.c1 2 rfl, hcell.out _ HCZ2⟩)
            have HS3 := Lib.hid (show ((W2.setCell ⟨W0.heap.size, 0, none⟩ (.int .i64 p)).setCell ⟨W0.heap.size, 1, none⟩ (.slice Ay n cy)).cell? ⟨Bi, 0, none⟩ = some (.int .i64 p) ∧ ((W2.setCell ⟨W0.heap.size, 0, none⟩ (.int .i64 p)).setCell ⟨W0.heap.size, 1, none⟩ (.slice Ay n cy)).cell? ⟨Bi, 1, none⟩ = some (.slice A11 n c11) ∧ ((W2.setCell ⟨W0.heap.size, 0, none⟩ (.int .i64 p)).setCell ⟨W0.heap.size, 1, none⟩ (.slice Ay n cy)).cell? ⟨bc, oc + kk, none⟩ = some (.int .i64 ck) from ⟨HLN'.c0 3 rfl, HLN'.c1 3 rfl, hcell.out _ HCN'⟩)
            have HL := Lib.hid HLN'
            have HC := Lib.hid HCN'
            have HB := Lib.hid HBN'
            clear HLN' HCN' HBN' HLZ2 HCZ2 hg hf hb hb3 hb01 hr0 hr2 HLD HCD HBD HLZ HCZ
            refine hK.out _ _ HS2.out (fun hHeld => ?_)
            clear hK K
            try simp only [Act.put, List.setIfInBounds_toArray, List.set_cons_zero, List.set_cons_succ]
            refine takeH (i := 6) (v := (.tuple #[.agg #[.int .i64 p, .slice Ay n cy], .int .i64 0])) rfl rfl (by kernel_rfl) (by kernel_rfl) (by kernel_rfl) (fun _ _ _ h => h) (by rfl) (fun W hW => by (skip); go_simp) (by assumption) ?_
            simp only [List.setIfInBounds_toArray, List.set_cons_zero, List.set_cons_succ]
            refine takeH (i := 7) (v := (.agg #[.int .i64 p, .slice Ay n cy])) rfl rfl (by kernel_rfl) (by kernel_rfl) (by kernel_rfl) (fun _ _ _ h => h) (by rfl) (fun W hW => by (skip); go_simp) (by assumption) ?_
            simp only [List.setIfInBounds_toArray, List.set_cons_zero, List.set_cons_succ]
            refine takeH (i := 8) (v := (.int .i64 0)) rfl rfl (by kernel_rfl) (by kernel_rfl) (by kernel_rfl) (fun _ _ _ h => h) (by rfl) (fun W hW => by (skip); go_simp) (by assumption) ?_
            simp only [List.setIfInBounds_toArray, List.set_cons_zero, List.set_cons_succ]
            refine wpAnyH_ready (rs := [10]) (by kernel_rfl) (by simp) ?_
            refine (AllReadyH.cons rfl (fun K hK => ?_) AllReadyH.nil)
            go_simp
            refine hK.out _ _ HS3.out (fun hHeld => ?_)
            clear hK K
            try simp only [Act.put, List.setIfInBounds_toArray, List.set_cons_zero, List.set_cons_succ]
            clear r0 r1 y0 y1
            refine takeH (i := 11) (v := (.int .i64 0)) rfl rfl (by kernel_rfl) (by kernel_rfl) (by kernel_rfl) (fun _ _ _ h => h) (by rfl) (fun W hW => by (skip); go_simp) (by assumption) ?_
            simp only [List.setIfInBounds_toArray, List.set_cons_zero, List.set_cons_succ]
            refine wpAnyH_done (by kernel_rfl) ?_ _
            have k0 := HL.out.c0 1 rfl
            have k1 := HL.out.c1 1 rfl
            have k2 := HL.out.c0 0 rfl
            have k3 := HL.out.c1 0 rfl
            clear HS2 HS3 hHeld HSC
            go_wp2_with fail
            clear k0 k1 k2 k3
            refine (addL HS.out HL.out 1 0 rfl rfl).mono ?_
            rintro e w14 ⟨Az, cz, rfl, hg, hf, hb⟩
            replace HL := Lib.hid (HL.out.cons hb hg hf)
            replace HC := Lib.hid ((HC.out.on hb).on ((Below.refl _ _).alloc (Nat.le_refl _) (.cells #[.int .i64 p, .slice Az n cz] 58)))
            replace HB := Lib.hid ((HB.out.trans (hb.mono HB.out.size)).alloc (Nat.le_trans HB.out.size hb.size) (.cells #[.int .i64 p, .slice Az n cz] 58))
            clear hg hf hb
            have k0 := HL.out.c0 0 rfl
            have k1 := HL.out.c1 0 rfl
            have k2 := HL.out.c0 3 rfl
            have k3 := HL.out.c1 3 rfl
            have y0 := (HL.out 3 _ rfl).1.frozen 0
            have y1 := (HL.out 3 _ rfl).1.frozen 1
            have HLE := Lib.hid (HL.out.put hn1 3 0 rfl rfl (L' := [⟨Bi, A11, c11, oneF⟩, ⟨Bb, Ab, cb, fb⟩, ⟨Ba, Aa, ca, fa⟩]) (fun j e hj => by
              match j, hj with
              | 0, hj => injection hj with hj; subst hj; exact ⟨⟨4, rfl⟩, Nat.ne_of_lt HN0.out⟩
              | 1, hj => injection hj with hj; subst hj; exact ⟨⟨5, rfl⟩, Nat.ne_of_lt HN1.out⟩
              | 2, hj => injection hj with hj; subst hj; exact ⟨⟨6, rfl⟩, Nat.ne_of_lt HN2.out⟩))
            have HCE := Lib.hid (HC.out.put (polyF_in hp0 fa n (n + 1)) (HL.out 3 _ rfl).1 (fun _ _ e => by cases e) (.int .i64 p) (.slice Az n cz))
            have HBE := Lib.hid ((HB.out.setCell (p := ⟨Bv, 0, none⟩) HLW.out (.int .i64 p)).setCell (p := ⟨Bv, 1, none⟩) HLW.out (.slice Az n cz))
            have HVE := Lib.hid (HV.out.step HS.out.p2 ck HKK.out)
            go_wp2_with fail
            go_roundw
            case rel => have hkz := HKZ.out; exact ⟨t + 1, (kk : Int) - 1, Az, cz, _, rfl, by omega, by omega, HLE.out, HVE.out, HBE.out, HCE.out⟩
            case measure => simp [intOf]
        · obtain rfl : t = n + 1 := by omega
          obtain rfl : kz = -1 := by omega
          have HZ := Lib.hid (fun i j hi hj => HV.out.done (HL.out 0 _ rfl).2.2 i j hi hj)
          have k0 := HL.out.c0 1 rfl
          have k1 := HL.out.c1 1 rfl
          go_wp2_with fail
          clear k0 k1
          refine (scaleL HS.out HL.out 0 1 rfl).mono ?_
          rintro e w15 ⟨A15, c15, rfl, hg, hf, hb⟩
          replace HL := Lib.hid (HL.out.cons hb hg hf)
          replace HC := Lib.hid ((HC.out.on hb).on ((Below.refl _ _).alloc (Nat.le_refl _) (.cells #[.int .i64 p, .slice A15 n c15] 58)))
          replace HB := Lib.hid ((HB.out.trans (hb.mono HB.out.size)).alloc (Nat.le_trans HB.out.size hb.size) (.cells #[.int .i64 p, .slice A15 n c15] 58))
          have k0 := HL.out.c0 1 rfl
          have k1 := HL.out.c1 1 rfl
          have k2 := HL.out.c0 0 rfl
          have k3 := HL.out.c1 0 rfl
          clear hb hg hf
          go_wp2_with fail
          clear k0 k1 k2 k3
          refine (sameL HS.out HL.out 1 0 rfl rfl (fun i hi j hj => by show V i j = (0 + (resV 0 p : Nat) * oneF i j) % (p : Int); rw [HZ.out i j hi hj]; simp [resV])).mono ?_
          rintro e w16 ⟨rfl, hb⟩
          replace HL := Lib.hid (HL.out.below hb)
          replace HC := Lib.hid (HC.out.on hb)
          replace HB := Lib.hid (HB.out.trans (hb.mono HB.out.size))
          have k0 := HL.out.c0 3 rfl
          have k1 := HL.out.c1 3 rfl
          clear hb
          go_wp2_with fail
          clear k0 k1
          by_cases hd0 : detV p n fb = 0
          · have H0 := Lib.hid hd0
            refine (invL0 HS.out HL.out 3 rfl H0.out).mono ?_
            rintro e w17 ⟨rfl, hb⟩
            have HBE := Lib.hid ((HB.out.trans (hb.mono HB.out.size)).alloc (Nat.le_trans HB.out.size hb.size) (.cells #[.int .i64 0, .slice none 0 0] 58))
            clear hb
            go_wp2_with fail
            go_ret
            exact ⟨rfl, HBE.out⟩
          · have H0 := Lib.hid hd0
            refine (invL HS.out HL.out 3 rfl H0.out).mono ?_
            rintro e w18 ⟨A18, c18, rfl, hg, hf, hb⟩
            replace HL := Lib.hid (HL.out.cons hb hg hf)
            replace HC := Lib.hid ((HC.out.on hb).on ((Below.refl _ _).alloc (Nat.le_refl _) (.cells #[.int .i64 p, .slice A18 n c18] 58)))
            replace HB := Lib.hid ((HB.out.trans (hb.mono HB.out.size)).alloc (Nat.le_trans HB.out.size hb.size) (.cells #[.int .i64 p, .slice A18 n c18] 58))
            have k0 := HL.out.c0 0 rfl
            have k1 := HL.out.c1 0 rfl
            have k2 := HL.out.c0 5 rfl
            have k3 := HL.out.c1 5 rfl
            clear hb hg hf
            go_wp2_with fail
            clear k0 k1 k2 k3
            refine (mulL HS.out HL.out 0 5 rfl rfl).mono ?_
            rintro e w19 ⟨A19, c19, rfl, hg, hf, hb⟩
            replace HL := Lib.hid (HL.out.cons hb hg hf)
            replace HC := Lib.hid ((HC.out.on hb).on ((Below.refl _ _).alloc (Nat.le_refl _) (.cells #[.int .i64 p, .slice A19 n c19] 58)))
            replace HB := Lib.hid ((HB.out.trans (hb.mono HB.out.size)).alloc (Nat.le_trans HB.out.size hb.size) (.cells #[.int .i64 p, .slice A19 n c19] 58))
            have k0 := HL.out.c0 0 rfl
            have k1 := HL.out.c1 0 rfl
            have k2 := HL.out.c0 5 rfl
            have k3 := HL.out.c1 5 rfl
            clear hb hg hf
            go_wp2_with fail
            clear k0 k1 k2 k3
            refine (mulL HS.out HL.out 0 5 rfl rfl).mono ?_
            rintro e w20 ⟨A20, c20, rfl, hg, hf, hb⟩
            replace HL := Lib.hid (HL.out.cons hb hg hf)
            replace HC := Lib.hid ((HC.out.on hb).on ((Below.refl _ _).alloc (Nat.le_refl _) (.cells #[.int .i64 p, .slice A20 n c20] 58)))
            replace HB := Lib.hid ((HB.out.trans (hb.mono HB.out.size)).alloc (Nat.le_trans HB.out.size hb.size) (.cells #[.int .i64 p, .slice A20 n c20] 58))
            have k0 := HL.out.c0 0 rfl
            have k1 := HL.out.c1 0 rfl
            clear hb hg hf
            go_wp2_with fail
            clear k0 k1
            refine (polyL HS.out HL.out 0 rfl).mono ?_
            rintro e w21 ⟨Ae, ce, rfl, hve, hb⟩
            have HVE := Lib.hid hve.new_lt
            replace HC := Lib.hid (HC.out.on hb)
            replace HB := Lib.hid (HB.out.trans (hb.mono HB.out.size))
            clear hb hve HL
            go_wp2_with fail
            refine (row_same _ _ (n + 1) _ _ _ _ _ (by omega) HVE.out HC.out).mono ?_
            rintro e wz ⟨rfl, kq, rfl⟩
            rw [show eqB (n + 1) (polyF p (mulF p n (mulF p n (invF p n fb) fa) fb) n) (polyF p fa n) = true from decide_eq_true fun j _ => polyF_conj HS.out.p1 HS.out.inv HFa.out HFb.out H0.out j]
            go_wp2_with fail
            go_ret
            exact ⟨rfl, below_drewN HB.out kq⟩
end Go.Proofs.Ythdilpaffcidmaa
