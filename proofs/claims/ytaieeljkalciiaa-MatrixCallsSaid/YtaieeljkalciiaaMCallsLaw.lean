/- cayleylaw04.MatrixCalls: written by genmcalls.py. -/
import Derived.Test.YtaieeljkalciiaaMCallsB
import Derived.Test.YtaieeljkalciiaaMAdd
import Derived.Test.YtaieeljkalciiaaMLive2
namespace Go.Proofs.Ytaieeljkalciiaa
open Go Go.RowKit Num

set_option maxRecDepth 100000 in
set_option maxHeartbeats 20000000 in
theorem calls_main (I : Inp) (n p : Int) (w : World) (hA : I.ma ≤ 9223372036854775807) (hAn : ∀ i, i < I.ma → I.na i ≤ 9223372036854775807) (hB : I.mb ≤ 9223372036854775807) (hBn : ∀ i, i < I.mb → I.nb i ≤ 9223372036854775807)
    (ha : Grid w (· < w.heap.size) (.slice I.Aa I.ma I.ca) I.ma I.na I.fa) (hb : Grid w (· < w.heap.size) (.slice I.Ab I.mb I.cb) I.mb I.nb I.fb) (hv : Vec w (· < w.heap.size) (.slice I.VA I.l I.vc) I.l I.y) :
    Calls Try.prog 6 #[.agg #[.int .i64 I.pa, .slice I.Aa I.ma I.ca], .agg #[.int .i64 I.pb, .slice I.Ab I.mb I.cb], .slice I.VA I.l I.vc, .int .i64 n, .int .i64 p] w fun e w' => e = .returned (.bool true) ∧ Below w.heap.size w w' := by
  have HS0 := Lib.hid (show CS w I [] ((w.alloc (.cells #[.int .i64 I.pa, .slice I.Aa I.ma I.ca] 46)).alloc (.cells #[.int .i64 I.pb, .slice I.Ab I.mb I.cb] 46)) from by
    have b2 : Below w.heap.size w ((w.alloc (.cells #[.int .i64 I.pa, .slice I.Aa I.ma I.ca] 46)).alloc (.cells #[.int .i64 I.pb, .slice I.Ab I.mb I.cb] 46)) := ((Below.refl _ _).alloc (Nat.le_refl _) _).alloc (by simp) _
    exact ⟨b2, (row_new rfl _ _).alloc _, row_new (by simp) _ _, ha.on b2, hb.on b2, hv.on b2, fun i x h => by simp at h⟩)
  clear ha hb hv
  have HLG := fun W (hs : CS w I [] W) (Lb : Nat) (hr : Row W Lb 46 #[.int .i64 I.pa, .slice I.Aa I.ma I.ca, .int .i64 I.pb, .slice I.Ab I.mb I.cb]) => Lib.hid (large_any Lb 2 2 (fun k => if k = 0 then I.pa else I.pb) (fun k => if k = 0 then .slice I.Aa I.ma I.ca else .slice I.Ab I.mb I.cb) (fun k => if k = 0 then I.ma else I.mb) (fun k => if k = 0 then I.na else I.nb) W (Nat.le_refl 2)
    (fun k hk => by rcases (by omega : k = 0 ∨ k = 1) with rfl | rfl <;> assumption)
    (fun k hk i hi => by rcases (by omega : k = 0 ∨ k = 1) with rfl | rfl
                         · exact hAn i hi
                         · exact hBn i hi) hr.lt
    (fun k hk => by
      rcases (by omega : k = 0 ∨ k = 1) with rfl | rfl
      · exact ⟨hr.cell (i := 0) rfl, hr.cell (i := 1) rfl, I.fa, hs.ga⟩
      · exact ⟨hr.cell (i := 2) rfl, hr.cell (i := 3) rfl, I.fb, hs.gb⟩))
  obtain ⟨big, hbig⟩ : ∃ b : Bool, decide (∃ k, k < 2 ∧ bigM (if k = 0 then I.ma else I.mb) (if k = 0 then I.na else I.nb) = true) = b := ⟨_, rfl⟩
  have HBG := Lib.hid hbig
  rw [hbig] at HLG
  clear hbig
  go_enter Try.func6, Try.ntmps6
  go_wp2_with fail
  generalize (w.alloc (.cells #[.int .i64 I.pa, .slice I.Aa I.ma I.ca] 46)).alloc (.cells #[.int .i64 I.pb, .slice I.Ab I.mb I.cb] 46) = w1 at HS0
  refine (lives_any _).mono ?_
  rintro e w2 ⟨rfl, hb⟩
  have HS := Lib.hid (HS0.out.on hb)
  have k0 := HS.out.ra.cell (i := 0) rfl
  have k1 := HS.out.ra.cell (i := 1) rfl
  have k2 := HS.out.rb.cell (i := 0) rfl
  have k3 := HS.out.rb.cell (i := 1) rfl
  clear hb HS0
  go_wp2_with fail
  clear k0 k1 k2 k3
  have HS3 := Lib.hid (HS.out.on ((Below.refl w2.heap.size w2).alloc (Nat.le_refl _) (.cells #[.int .i64 I.pa, .slice I.Aa I.ma I.ca, .int .i64 I.pb, .slice I.Ab I.mb I.cb] 46)))
  refine (HLG _ HS3.out w2.heap.size (row_new rfl _ _)).out.mono ?_
  rintro e w3 ⟨rfl, hb⟩
  replace HS := Lib.hid (HS3.out.on hb)
  clear hb HS3 HLG
  cases big with
  | true =>
    go_wp2_with fail
    go_ret
    exact ⟨rfl, HS.out.b⟩
  | false =>
    have HSM := Lib.hid (show (I.ma ≤ 6 ∧ ∀ i, i < I.ma → I.na i ≤ 6) ∧ (I.mb ≤ 6 ∧ ∀ i, i < I.mb → I.nb i ≤ 6) from by
      have h := of_decide_eq_false HBG.out
      refine ⟨bigM_off ?_, bigM_off ?_⟩
      · cases h0 : bigM I.ma I.na with
        | false => rfl
        | true => exact absurd ⟨0, by omega, h0⟩ h
      · cases h0 : bigM I.mb I.nb with
        | false => rfl
        | true => exact absurd ⟨1, by omega, h0⟩ h)
    clear HBG hA hAn hB hBn
    by_cases hl : 10 < I.l
    · have hd : decide ((10 : Int) < (I.l : Int)) = true := decide_eq_true (by omega)
      have hdn : decide (10 < I.l) = true := decide_eq_true hl
      go_wp2_with fail
      go_ret
      exact ⟨rfl, HS.out.b⟩
    · have hd : decide ((10 : Int) < (I.l : Int)) = false := decide_eq_false (by omega)
      have hdn : decide (10 < I.l) = false := decide_eq_false hl
      obtain ⟨⟨a1, a2⟩, b1, b2⟩ := HSM.out
      have HMa := Lib.hid (show I.ma ≤ 1000000 from by omega)
      have HNa := Lib.hid (show ∀ i, i < I.ma → I.na i ≤ 1000000 from fun i hi => by have := a2 i hi; omega)
      have HMb := Lib.hid (show I.mb ≤ 1000000 from by omega)
      have HNb := Lib.hid (show ∀ i, i < I.mb → I.nb i ≤ 1000000 from fun i hi => by have := b2 i hi; omega)
      clear a1 a2 b1 b2 HSM
      obtain ⟨xa, hxa⟩ : ∃ x, chkM I.pa I.ma I.na I.fa = x := ⟨_, rfl⟩
      obtain ⟨xp, hxp⟩ : ∃ x, chkP (chkM I.pa I.ma I.na I.fa) (chkM I.pb I.mb I.nb I.fb) I.pa I.pb = x := ⟨_, rfl⟩
      have HXA := Lib.hid hxa
      have HXP := Lib.hid hxp
      have HZA := Lib.hid (show xa = 0 → I.ma ≤ 64 ∧ I.na 0 ≤ 64 from fun h => by obtain ⟨_, q1, q2, q3, q4, _⟩ := chkM_zero (hxa.trans h); exact ⟨q2, q4⟩)
      have HZP := Lib.hid (show xp = 0 → I.ma ≤ 64 ∧ I.na 0 ≤ 64 ∧ I.nb 0 ≤ 64 from fun h => by
        obtain ⟨e1, e2, _⟩ := chkP_zero (hxp.trans h)
        obtain ⟨_, q1, q2, q3, q4, _⟩ := chkM_zero e1
        obtain ⟨_, r1, r2, r3, r4, _⟩ := chkM_zero e2
        exact ⟨q2, q4, r4⟩)
      clear hxa hxp
      have k0 := HS.out.ra.cell (i := 0) rfl
      have k1 := HS.out.ra.cell (i := 1) rfl
      have k2 := HS.out.rb.cell (i := 0) rfl
      have k3 := HS.out.rb.cell (i := 1) rfl
      go_wp2_with fail
      clear k0 k1 k2 k3
      refine (Mul_any _ _ I.ma I.mb I.na I.nb I.fa I.fb I.pa I.pb _ HMa.out HNa.out HMb.out HNb.out HS.out.ga HS.out.gb xp HXP.out.symm).mono ?_
      rintro e w10 hpost
      obtain ⟨A10, c10, rfl, hg, hb⟩ := givesR_of hpost
      replace HS := Lib.hid (HS.out.cons (R := (resM xp (I.na 0 = I.mb) I.pa I.ma (I.nb 0) (mulF I.pa I.mb I.fa I.fb))) hb hg)
      clear hpost hg hb
      have k0 := HS.out.ra.cell (i := 0) rfl
      have k1 := HS.out.ra.cell (i := 1) rfl
      have k2 := HS.out.rb.cell (i := 0) rfl
      have k3 := HS.out.rb.cell (i := 1) rfl
      go_wp2_with fail
      clear k0 k1 k2 k3
      refine (rMul_any _ _ I.ma I.mb I.na I.nb I.fa I.fb I.pa I.pb _ HMa.out HNa.out HMb.out HNb.out HS.out.ga HS.out.gb xp HXP.out.symm).mono ?_
      rintro e w11 hpost
      obtain ⟨A11, c11, rfl, hg, hb⟩ := givesR_of hpost
      replace HS := Lib.hid (HS.out.cons (R := (resM xp (I.na 0 = I.mb) I.pa I.ma (I.nb 0) (mulF I.pa I.mb I.fa I.fb))) hb hg)
      clear hpost hg hb
      have k0 := HS.out.ra.cell (i := 0) rfl
      have k1 := HS.out.ra.cell (i := 1) rfl
      have k2 := HS.out.rb.cell (i := 0) rfl
      have k3 := HS.out.rb.cell (i := 1) rfl
      go_wp2_with fail
      clear k0 k1 k2 k3
      refine (Add_any _ _ I.ma I.mb I.na I.nb I.fa I.fb I.pa I.pb _ HMa.out HNa.out HMb.out HNb.out HS.out.ga HS.out.gb xp HXP.out.symm).mono ?_
      rintro e w12 hpost
      obtain ⟨A12, c12, rfl, hg, hb⟩ := givesR_of hpost
      replace HS := Lib.hid (HS.out.cons (R := (resM xp (I.ma = I.mb ∧ I.na 0 = I.nb 0) I.pa I.ma (I.na 0) (fun i => axpy 1 I.pa (I.fa i) (I.fb i)))) hb hg)
      clear hpost hg hb
      have k0 := HS.out.ra.cell (i := 0) rfl
      have k1 := HS.out.ra.cell (i := 1) rfl
      have k2 := HS.out.rb.cell (i := 0) rfl
      have k3 := HS.out.rb.cell (i := 1) rfl
      go_wp2_with fail
      clear k0 k1 k2 k3
      refine (rAdd_any _ _ I.ma I.mb I.na I.nb I.fa I.fb I.pa I.pb _ HMa.out HNa.out HMb.out HNb.out HS.out.ga HS.out.gb xp HXP.out.symm).mono ?_
      rintro e w13 hpost
      obtain ⟨A13, c13, rfl, hg, hb⟩ := givesR_of hpost
      replace HS := Lib.hid (HS.out.cons (R := (resM xp (I.ma = I.mb ∧ I.na 0 = I.nb 0) I.pa I.ma (I.na 0) (fun i => axpy 1 I.pa (I.fa i) (I.fb i)))) hb hg)
      clear hpost hg hb
      have k0 := HS.out.ra.cell (i := 0) rfl
      have k1 := HS.out.ra.cell (i := 1) rfl
      go_wp2_with fail
      clear k0 k1
      refine (Scale_any _ I.ma I.na I.fa I.pa n _ HMa.out HNa.out HS.out.ga xa HXA.out.symm).mono ?_
      rintro e w14 hpost
      obtain ⟨A14, c14, rfl, hg, hb⟩ := givesR_of hpost
      replace HS := Lib.hid (HS.out.cons (R := (resM xa True I.pa I.ma (I.na 0) (fun i => axpy (resV n I.pa.toNat : Nat) I.pa (fun _ => 0) (I.fa i)))) hb hg)
      clear hpost hg hb
      have k0 := HS.out.ra.cell (i := 0) rfl
      have k1 := HS.out.ra.cell (i := 1) rfl
      go_wp2_with fail
      clear k0 k1
      refine (rScale_any _ I.ma I.na I.fa I.pa n _ HMa.out HNa.out HS.out.ga xa HXA.out.symm).mono ?_
      rintro e w15 hpost
      obtain ⟨A15, c15, rfl, hg, hb⟩ := givesR_of hpost
      replace HS := Lib.hid (HS.out.cons (R := (resM xa True I.pa I.ma (I.na 0) (fun i => axpy (resV n I.pa.toNat : Nat) I.pa (fun _ => 0) (I.fa i)))) hb hg)
      clear hpost hg hb
      have k0 := HS.out.ra.cell (i := 0) rfl
      have k1 := HS.out.ra.cell (i := 1) rfl
      go_wp2_with fail
      clear k0 k1
      refine (Turn_any _ I.ma I.na I.fa I.pa _ HMa.out HNa.out HS.out.ga xa HXA.out.symm).mono ?_
      rintro e w16 hpost
      obtain ⟨A16, c16, rfl, hg, hb⟩ := givesR_of hpost
      replace HS := Lib.hid (HS.out.cons (R := (resM xa True I.pa (I.na 0) I.ma (fun i j => I.fa j i))) hb hg)
      clear hpost hg hb
      have k0 := HS.out.ra.cell (i := 0) rfl
      have k1 := HS.out.ra.cell (i := 1) rfl
      go_wp2_with fail
      clear k0 k1
      refine (rTurn_any _ I.ma I.na I.fa I.pa _ HMa.out HNa.out HS.out.ga xa HXA.out.symm).mono ?_
      rintro e w17 hpost
      obtain ⟨A17, c17, rfl, hg, hb⟩ := givesR_of hpost
      replace HS := Lib.hid (HS.out.cons (R := (resM xa True I.pa (I.na 0) I.ma (fun i j => I.fa j i))) hb hg)
      clear hpost hg hb
      have k0 := HS.out.ra.cell (i := 0) rfl
      have k1 := HS.out.ra.cell (i := 1) rfl
      go_wp2_with fail
      clear k0 k1
      obtain ⟨za, hza⟩ : ∃ z, (if xa ≠ 0 then xa else if I.l ≠ I.ma then 10 else 0) = z := ⟨_, rfl⟩
      have HZ := Lib.hid hza
      clear hza
      refine (Apply_any _ _ I.l I.ma I.na I.y I.fa I.pa _ (by omega) HMa.out HNa.out HS.out.v HS.out.ga xa HXA.out.symm).mono ?_
      rintro e wa hpost
      rw [HZ.out] at hpost
      obtain ⟨Aa5, ca5, rfl, hva, hb⟩ := givesA_of hpost
      have HVA := Lib.hid hva.new_lt
      replace HS := Lib.hid (HS.out.on hb)
      clear hpost hva hb
      generalize hna5 : (if za ≠ 0 then 0 else I.na 0) = n5 at HVA ⊢
      have HN5 := Lib.hid hna5
      clear hna5
      have k0 := HS.out.ra.cell (i := 0) rfl
      have k1 := HS.out.ra.cell (i := 1) rfl
      go_wp2_with fail
      clear k0 k1
      refine (rApply_any _ _ I.l I.ma I.na I.y I.fa I.pa _ (by omega) HMa.out HNa.out HS.out.v HS.out.ga xa HXA.out.symm).mono ?_
      rintro e wb hpost
      rw [HZ.out] at hpost
      obtain ⟨Ab5, cb5, rfl, hvb, hb⟩ := givesA_of hpost
      have HVB := Lib.hid hvb.new_lt
      replace HVA := Lib.hid (HVA.out.on hb)
      replace HS := Lib.hid (HS.out.on hb)
      clear hpost hvb hb
      rw [HN5.out] at HVB ⊢
      go_wp2_with fail
      refine (One_any n p _).mono ?_
      rintro e w19 hpost
      obtain ⟨A19, c19, rfl, hg, hb⟩ := givesR_one hpost
      have hbv := (Below.refl w19.heap.size w19).alloc (Nat.le_refl _) (.cells #[.int .i64 (resOne n p).P, .slice A19 (resOne n p).M c19] 46)
      replace HVA := Lib.hid ((HVA.out.on hb).on hbv)
      replace HVB := Lib.hid ((HVB.out.on hb).on hbv)
      replace HS := Lib.hid (HS.out.cons (R := (resOne n p)) hb hg)
      clear hpost hg hb hbv
      go_wp2_with fail
      refine (rOne_any n p _).mono ?_
      rintro e w20 hpost
      obtain ⟨A20, c20, rfl, hg, hb⟩ := givesR_one hpost
      have hbv := (Below.refl w20.heap.size w20).alloc (Nat.le_refl _) (.cells #[.int .i64 (resOne n p).P, .slice A20 (resOne n p).M c20] 46)
      replace HVA := Lib.hid ((HVA.out.on hb).on hbv)
      replace HVB := Lib.hid ((HVB.out.on hb).on hbv)
      replace HS := Lib.hid (HS.out.cons (R := (resOne n p)) hb hg)
      clear hpost hg hb hbv
      go_wp2_with fail
      have HBM := Lib.hid (show (resM xp (I.na 0 = I.mb) I.pa I.ma (I.nb 0) (mulF I.pa I.mb I.fa I.fb)).M ≤ 1000000 ∧ (resM xp (I.na 0 = I.mb) I.pa I.ma (I.nb 0) (mulF I.pa I.mb I.fa I.fb)).N ≤ 1000000 from by
        by_cases h : xp = 0
        · obtain ⟨q1, q2, q3⟩ := HZP.out h
          exact resM_bound (by omega) (by omega)
        · unfold resM; rw [if_pos h]; exact ⟨Nat.zero_le _, Nat.zero_le _⟩)
      have HBA := Lib.hid (show (resM xp (I.ma = I.mb ∧ I.na 0 = I.nb 0) I.pa I.ma (I.na 0) (fun i => axpy 1 I.pa (I.fa i) (I.fb i))).M ≤ 1000000 ∧ (resM xp (I.ma = I.mb ∧ I.na 0 = I.nb 0) I.pa I.ma (I.na 0) (fun i => axpy 1 I.pa (I.fa i) (I.fb i))).N ≤ 1000000 from by
        by_cases h : xp = 0
        · obtain ⟨q1, q2, q3⟩ := HZP.out h
          exact resM_bound (by omega) (by omega)
        · unfold resM; rw [if_pos h]; exact ⟨Nat.zero_le _, Nat.zero_le _⟩)
      have HB1 : ∀ (a b : Nat) (F : Nat → Nat → Int), (a = I.ma ∨ a = I.na 0) → (b = I.ma ∨ b = I.na 0) → (resM xa True I.pa a b F).M ≤ 1000000 ∧ (resM xa True I.pa a b F).N ≤ 1000000 := fun a b F h1 h2 => by
        by_cases h : xa = 0
        · obtain ⟨q1, q2⟩ := HZA.out h
          exact resM_bound (by omega) (by omega)
        · unfold resM; rw [if_pos h]; exact ⟨Nat.zero_le _, Nat.zero_le _⟩
      have HBS := Lib.hid (show (resM xa True I.pa I.ma (I.na 0) (fun i => axpy (resV n I.pa.toNat : Nat) I.pa (fun _ => 0) (I.fa i))).M ≤ 1000000 ∧ (resM xa True I.pa I.ma (I.na 0) (fun i => axpy (resV n I.pa.toNat : Nat) I.pa (fun _ => 0) (I.fa i))).N ≤ 1000000 from HB1 _ _ _ (.inl rfl) (.inr rfl))
      have HBT := Lib.hid (show (resM xa True I.pa (I.na 0) I.ma (fun i j => I.fa j i)).M ≤ 1000000 ∧ (resM xa True I.pa (I.na 0) I.ma (fun i j => I.fa j i)).N ≤ 1000000 from HB1 _ _ _ (.inr rfl) (.inl rfl))
      have HBO := Lib.hid (resOne_bound n p)
      have HN6 := Lib.hid (show n5 ≤ 1000000 from by
        rw [← HN5.out]
        by_cases h : za ≠ 0
        · rw [if_pos h]; exact Nat.zero_le _
        · rw [if_neg h]
          have h0 : xa = 0 := by
            have h1 := HZ.out
            by_cases hx : xa ≠ 0
            · rw [if_pos hx] at h1; omega
            · exact Classical.byContradiction hx
          have := (HZA.out h0).2
          omega)
      clear HB1 HZA HZP HZ HN5
      generalize (resM xp (I.na 0 = I.mb) I.pa I.ma (I.nb 0) (mulF I.pa I.mb I.fa I.fb)) = R1 at HS HBM ⊢
      generalize (resM xp (I.ma = I.mb ∧ I.na 0 = I.nb 0) I.pa I.ma (I.na 0) (fun i => axpy 1 I.pa (I.fa i) (I.fb i))) = R2 at HS HBA ⊢
      generalize (resM xa True I.pa I.ma (I.na 0) (fun i => axpy (resV n I.pa.toNat : Nat) I.pa (fun _ => 0) (I.fa i))) = R3 at HS HBS ⊢
      generalize (resM xa True I.pa (I.na 0) I.ma (fun i j => I.fa j i)) = R4 at HS HBT ⊢
      generalize (resOne n p) = R6 at HS HBO HVA HVB ⊢
      generalize (fun j => dotTo (fun i => (resV (I.y i) I.pa.toNat : Nat)) I.fa j I.ma % I.pa) = g5 at HVA HVB
      generalize w20.alloc (.cells #[.int .i64 R6.P, .slice A20 R6.M c20] 46) = wz at HS HVA HVB ⊢
      have HSB := Lib.hid (fun (W : World) (hb : Below wz.heap.size wz W) => (show Below wz.heap.size wz W ∧ W.cell? ⟨w.heap.size, 0, none⟩ = some (.int .i64 I.pa) ∧ W.cell? ⟨w.heap.size, 1, none⟩ = some (.slice I.Aa I.ma I.ca) ∧ W.cell? ⟨w10.heap.size, 0, none⟩ = some (.int .i64 R1.P) ∧ W.cell? ⟨w10.heap.size, 1, none⟩ = some (.slice A10 R1.M c10) ∧ W.cell? ⟨w11.heap.size, 0, none⟩ = some (.int .i64 R1.P) ∧ W.cell? ⟨w11.heap.size, 1, none⟩ = some (.slice A11 R1.M c11) ∧ W.cell? ⟨w12.heap.size, 0, none⟩ = some (.int .i64 R2.P) ∧ W.cell? ⟨w12.heap.size, 1, none⟩ = some (.slice A12 R2.M c12) ∧ W.cell? ⟨w13.heap.size, 0, none⟩ = some (.int .i64 R2.P) ∧ W.cell? ⟨w13.heap.size, 1, none⟩ = some (.slice A13 R2.M c13) ∧ W.cell? ⟨w14.heap.size, 0, none⟩ = some (.int .i64 R3.P) ∧ W.cell? ⟨w14.heap.size, 1, none⟩ = some (.slice A14 R3.M c14) ∧ W.cell? ⟨w15.heap.size, 0, none⟩ = some (.int .i64 R3.P) ∧ W.cell? ⟨w15.heap.size, 1, none⟩ = some (.slice A15 R3.M c15) ∧ W.cell? ⟨w16.heap.size, 0, none⟩ = some (.int .i64 R4.P) ∧ W.cell? ⟨w16.heap.size, 1, none⟩ = some (.slice A16 R4.M c16) ∧ W.cell? ⟨w17.heap.size, 0, none⟩ = some (.int .i64 R4.P) ∧ W.cell? ⟨w17.heap.size, 1, none⟩ = some (.slice A17 R4.M c17) ∧ W.cell? ⟨w19.heap.size, 0, none⟩ = some (.int .i64 R6.P) ∧ W.cell? ⟨w19.heap.size, 1, none⟩ = some (.slice A19 R6.M c19) ∧ W.cell? ⟨w20.heap.size, 0, none⟩ = some (.int .i64 R6.P) ∧ W.cell? ⟨w20.heap.size, 1, none⟩ = some (.slice A20 R6.M c20) from by
        have hs := HS.out.on hb
        exact ⟨hb, hs.ra.cell rfl, hs.ra.cell rfl, hs.c0 9 rfl, hs.c1 9 rfl, hs.c0 8 rfl, hs.c1 8 rfl, hs.c0 7 rfl, hs.c1 7 rfl, hs.c0 6 rfl, hs.c1 6 rfl, hs.c0 5 rfl, hs.c1 5 rfl, hs.c0 4 rfl, hs.c1 4 rfl, hs.c0 3 rfl, hs.c1 3 rfl, hs.c0 2 rfl, hs.c1 2 rfl, hs.c0 1 rfl, hs.c1 1 rfl, hs.c0 0 rfl, hs.c1 0 rfl⟩))
      have HS0 := Lib.hid (show Below wz.heap.size wz wz.drew ∧ wz.drew.cell? ⟨w.heap.size, 0, none⟩ = some (.int .i64 I.pa) ∧ wz.drew.cell? ⟨w.heap.size, 1, none⟩ = some (.slice I.Aa I.ma I.ca) ∧ wz.drew.cell? ⟨w10.heap.size, 0, none⟩ = some (.int .i64 R1.P) ∧ wz.drew.cell? ⟨w10.heap.size, 1, none⟩ = some (.slice A10 R1.M c10) ∧ wz.drew.cell? ⟨w11.heap.size, 0, none⟩ = some (.int .i64 R1.P) ∧ wz.drew.cell? ⟨w11.heap.size, 1, none⟩ = some (.slice A11 R1.M c11) ∧ wz.drew.cell? ⟨w12.heap.size, 0, none⟩ = some (.int .i64 R2.P) ∧ wz.drew.cell? ⟨w12.heap.size, 1, none⟩ = some (.slice A12 R2.M c12) ∧ wz.drew.cell? ⟨w13.heap.size, 0, none⟩ = some (.int .i64 R2.P) ∧ wz.drew.cell? ⟨w13.heap.size, 1, none⟩ = some (.slice A13 R2.M c13) ∧ wz.drew.cell? ⟨w14.heap.size, 0, none⟩ = some (.int .i64 R3.P) ∧ wz.drew.cell? ⟨w14.heap.size, 1, none⟩ = some (.slice A14 R3.M c14) ∧ wz.drew.cell? ⟨w15.heap.size, 0, none⟩ = some (.int .i64 R3.P) ∧ wz.drew.cell? ⟨w15.heap.size, 1, none⟩ = some (.slice A15 R3.M c15) ∧ wz.drew.cell? ⟨w16.heap.size, 0, none⟩ = some (.int .i64 R4.P) ∧ wz.drew.cell? ⟨w16.heap.size, 1, none⟩ = some (.slice A16 R4.M c16) ∧ wz.drew.cell? ⟨w17.heap.size, 0, none⟩ = some (.int .i64 R4.P) ∧ wz.drew.cell? ⟨w17.heap.size, 1, none⟩ = some (.slice A17 R4.M c17) ∧ wz.drew.cell? ⟨w19.heap.size, 0, none⟩ = some (.int .i64 R6.P) ∧ wz.drew.cell? ⟨w19.heap.size, 1, none⟩ = some (.slice A19 R6.M c19) ∧ wz.drew.cell? ⟨w20.heap.size, 0, none⟩ = some (.int .i64 R6.P) ∧ wz.drew.cell? ⟨w20.heap.size, 1, none⟩ = some (.slice A20 R6.M c20) from HSB.out _ (below_drew (Below.refl _ _)))
      have HSC := Lib.hid (fun (W W' : World) (h : Below wz.heap.size wz W ∧ W.cell? ⟨w.heap.size, 0, none⟩ = some (.int .i64 I.pa) ∧ W.cell? ⟨w.heap.size, 1, none⟩ = some (.slice I.Aa I.ma I.ca) ∧ W.cell? ⟨w10.heap.size, 0, none⟩ = some (.int .i64 R1.P) ∧ W.cell? ⟨w10.heap.size, 1, none⟩ = some (.slice A10 R1.M c10) ∧ W.cell? ⟨w11.heap.size, 0, none⟩ = some (.int .i64 R1.P) ∧ W.cell? ⟨w11.heap.size, 1, none⟩ = some (.slice A11 R1.M c11) ∧ W.cell? ⟨w12.heap.size, 0, none⟩ = some (.int .i64 R2.P) ∧ W.cell? ⟨w12.heap.size, 1, none⟩ = some (.slice A12 R2.M c12) ∧ W.cell? ⟨w13.heap.size, 0, none⟩ = some (.int .i64 R2.P) ∧ W.cell? ⟨w13.heap.size, 1, none⟩ = some (.slice A13 R2.M c13) ∧ W.cell? ⟨w14.heap.size, 0, none⟩ = some (.int .i64 R3.P) ∧ W.cell? ⟨w14.heap.size, 1, none⟩ = some (.slice A14 R3.M c14) ∧ W.cell? ⟨w15.heap.size, 0, none⟩ = some (.int .i64 R3.P) ∧ W.cell? ⟨w15.heap.size, 1, none⟩ = some (.slice A15 R3.M c15) ∧ W.cell? ⟨w16.heap.size, 0, none⟩ = some (.int .i64 R4.P) ∧ W.cell? ⟨w16.heap.size, 1, none⟩ = some (.slice A16 R4.M c16) ∧ W.cell? ⟨w17.heap.size, 0, none⟩ = some (.int .i64 R4.P) ∧ W.cell? ⟨w17.heap.size, 1, none⟩ = some (.slice A17 R4.M c17) ∧ W.cell? ⟨w19.heap.size, 0, none⟩ = some (.int .i64 R6.P) ∧ W.cell? ⟨w19.heap.size, 1, none⟩ = some (.slice A19 R6.M c19) ∧ W.cell? ⟨w20.heap.size, 0, none⟩ = some (.int .i64 R6.P) ∧ W.cell? ⟨w20.heap.size, 1, none⟩ = some (.slice A20 R6.M c20)) (hb : Below W.heap.size W W') => (show Below wz.heap.size wz W' ∧ W'.cell? ⟨w.heap.size, 0, none⟩ = some (.int .i64 I.pa) ∧ W'.cell? ⟨w.heap.size, 1, none⟩ = some (.slice I.Aa I.ma I.ca) ∧ W'.cell? ⟨w10.heap.size, 0, none⟩ = some (.int .i64 R1.P) ∧ W'.cell? ⟨w10.heap.size, 1, none⟩ = some (.slice A10 R1.M c10) ∧ W'.cell? ⟨w11.heap.size, 0, none⟩ = some (.int .i64 R1.P) ∧ W'.cell? ⟨w11.heap.size, 1, none⟩ = some (.slice A11 R1.M c11) ∧ W'.cell? ⟨w12.heap.size, 0, none⟩ = some (.int .i64 R2.P) ∧ W'.cell? ⟨w12.heap.size, 1, none⟩ = some (.slice A12 R2.M c12) ∧ W'.cell? ⟨w13.heap.size, 0, none⟩ = some (.int .i64 R2.P) ∧ W'.cell? ⟨w13.heap.size, 1, none⟩ = some (.slice A13 R2.M c13) ∧ W'.cell? ⟨w14.heap.size, 0, none⟩ = some (.int .i64 R3.P) ∧ W'.cell? ⟨w14.heap.size, 1, none⟩ = some (.slice A14 R3.M c14) ∧ W'.cell? ⟨w15.heap.size, 0, none⟩ = some (.int .i64 R3.P) ∧ W'.cell? ⟨w15.heap.size, 1, none⟩ = some (.slice A15 R3.M c15) ∧ W'.cell? ⟨w16.heap.size, 0, none⟩ = some (.int .i64 R4.P) ∧ W'.cell? ⟨w16.heap.size, 1, none⟩ = some (.slice A16 R4.M c16) ∧ W'.cell? ⟨w17.heap.size, 0, none⟩ = some (.int .i64 R4.P) ∧ W'.cell? ⟨w17.heap.size, 1, none⟩ = some (.slice A17 R4.M c17) ∧ W'.cell? ⟨w19.heap.size, 0, none⟩ = some (.int .i64 R6.P) ∧ W'.cell? ⟨w19.heap.size, 1, none⟩ = some (.slice A19 R6.M c19) ∧ W'.cell? ⟨w20.heap.size, 0, none⟩ = some (.int .i64 R6.P) ∧ W'.cell? ⟨w20.heap.size, 1, none⟩ = some (.slice A20 R6.M c20) from HSB.out _ (h.1.trans (hb.mono h.1.size))))
      have HCK := Lib.hid (fun (W : World) (h : Below wz.heap.size wz W ∧ W.cell? ⟨w.heap.size, 0, none⟩ = some (.int .i64 I.pa) ∧ W.cell? ⟨w.heap.size, 1, none⟩ = some (.slice I.Aa I.ma I.ca) ∧ W.cell? ⟨w10.heap.size, 0, none⟩ = some (.int .i64 R1.P) ∧ W.cell? ⟨w10.heap.size, 1, none⟩ = some (.slice A10 R1.M c10) ∧ W.cell? ⟨w11.heap.size, 0, none⟩ = some (.int .i64 R1.P) ∧ W.cell? ⟨w11.heap.size, 1, none⟩ = some (.slice A11 R1.M c11) ∧ W.cell? ⟨w12.heap.size, 0, none⟩ = some (.int .i64 R2.P) ∧ W.cell? ⟨w12.heap.size, 1, none⟩ = some (.slice A12 R2.M c12) ∧ W.cell? ⟨w13.heap.size, 0, none⟩ = some (.int .i64 R2.P) ∧ W.cell? ⟨w13.heap.size, 1, none⟩ = some (.slice A13 R2.M c13) ∧ W.cell? ⟨w14.heap.size, 0, none⟩ = some (.int .i64 R3.P) ∧ W.cell? ⟨w14.heap.size, 1, none⟩ = some (.slice A14 R3.M c14) ∧ W.cell? ⟨w15.heap.size, 0, none⟩ = some (.int .i64 R3.P) ∧ W.cell? ⟨w15.heap.size, 1, none⟩ = some (.slice A15 R3.M c15) ∧ W.cell? ⟨w16.heap.size, 0, none⟩ = some (.int .i64 R4.P) ∧ W.cell? ⟨w16.heap.size, 1, none⟩ = some (.slice A16 R4.M c16) ∧ W.cell? ⟨w17.heap.size, 0, none⟩ = some (.int .i64 R4.P) ∧ W.cell? ⟨w17.heap.size, 1, none⟩ = some (.slice A17 R4.M c17) ∧ W.cell? ⟨w19.heap.size, 0, none⟩ = some (.int .i64 R6.P) ∧ W.cell? ⟨w19.heap.size, 1, none⟩ = some (.slice A19 R6.M c19) ∧ W.cell? ⟨w20.heap.size, 0, none⟩ = some (.int .i64 R6.P) ∧ W.cell? ⟨w20.heap.size, 1, none⟩ = some (.slice A20 R6.M c20)) => Check_any (.slice I.Aa I.ma I.ca) I.ma I.na I.fa I.pa W HMa.out HNa.out (HS.out.on h.1).ga)
      have HCR := Lib.hid (fun (W : World) (h : Below wz.heap.size wz W ∧ W.cell? ⟨w.heap.size, 0, none⟩ = some (.int .i64 I.pa) ∧ W.cell? ⟨w.heap.size, 1, none⟩ = some (.slice I.Aa I.ma I.ca) ∧ W.cell? ⟨w10.heap.size, 0, none⟩ = some (.int .i64 R1.P) ∧ W.cell? ⟨w10.heap.size, 1, none⟩ = some (.slice A10 R1.M c10) ∧ W.cell? ⟨w11.heap.size, 0, none⟩ = some (.int .i64 R1.P) ∧ W.cell? ⟨w11.heap.size, 1, none⟩ = some (.slice A11 R1.M c11) ∧ W.cell? ⟨w12.heap.size, 0, none⟩ = some (.int .i64 R2.P) ∧ W.cell? ⟨w12.heap.size, 1, none⟩ = some (.slice A12 R2.M c12) ∧ W.cell? ⟨w13.heap.size, 0, none⟩ = some (.int .i64 R2.P) ∧ W.cell? ⟨w13.heap.size, 1, none⟩ = some (.slice A13 R2.M c13) ∧ W.cell? ⟨w14.heap.size, 0, none⟩ = some (.int .i64 R3.P) ∧ W.cell? ⟨w14.heap.size, 1, none⟩ = some (.slice A14 R3.M c14) ∧ W.cell? ⟨w15.heap.size, 0, none⟩ = some (.int .i64 R3.P) ∧ W.cell? ⟨w15.heap.size, 1, none⟩ = some (.slice A15 R3.M c15) ∧ W.cell? ⟨w16.heap.size, 0, none⟩ = some (.int .i64 R4.P) ∧ W.cell? ⟨w16.heap.size, 1, none⟩ = some (.slice A16 R4.M c16) ∧ W.cell? ⟨w17.heap.size, 0, none⟩ = some (.int .i64 R4.P) ∧ W.cell? ⟨w17.heap.size, 1, none⟩ = some (.slice A17 R4.M c17) ∧ W.cell? ⟨w19.heap.size, 0, none⟩ = some (.int .i64 R6.P) ∧ W.cell? ⟨w19.heap.size, 1, none⟩ = some (.slice A19 R6.M c19) ∧ W.cell? ⟨w20.heap.size, 0, none⟩ = some (.int .i64 R6.P) ∧ W.cell? ⟨w20.heap.size, 1, none⟩ = some (.slice A20 R6.M c20)) => rCheck_any (.slice I.Aa I.ma I.ca) I.ma I.na I.fa I.pa W HMa.out HNa.out (HS.out.on h.1).ga)
      have HX1 := Lib.hid (fun (W : World) (h : Below wz.heap.size wz W ∧ W.cell? ⟨w.heap.size, 0, none⟩ = some (.int .i64 I.pa) ∧ W.cell? ⟨w.heap.size, 1, none⟩ = some (.slice I.Aa I.ma I.ca) ∧ W.cell? ⟨w10.heap.size, 0, none⟩ = some (.int .i64 R1.P) ∧ W.cell? ⟨w10.heap.size, 1, none⟩ = some (.slice A10 R1.M c10) ∧ W.cell? ⟨w11.heap.size, 0, none⟩ = some (.int .i64 R1.P) ∧ W.cell? ⟨w11.heap.size, 1, none⟩ = some (.slice A11 R1.M c11) ∧ W.cell? ⟨w12.heap.size, 0, none⟩ = some (.int .i64 R2.P) ∧ W.cell? ⟨w12.heap.size, 1, none⟩ = some (.slice A12 R2.M c12) ∧ W.cell? ⟨w13.heap.size, 0, none⟩ = some (.int .i64 R2.P) ∧ W.cell? ⟨w13.heap.size, 1, none⟩ = some (.slice A13 R2.M c13) ∧ W.cell? ⟨w14.heap.size, 0, none⟩ = some (.int .i64 R3.P) ∧ W.cell? ⟨w14.heap.size, 1, none⟩ = some (.slice A14 R3.M c14) ∧ W.cell? ⟨w15.heap.size, 0, none⟩ = some (.int .i64 R3.P) ∧ W.cell? ⟨w15.heap.size, 1, none⟩ = some (.slice A15 R3.M c15) ∧ W.cell? ⟨w16.heap.size, 0, none⟩ = some (.int .i64 R4.P) ∧ W.cell? ⟨w16.heap.size, 1, none⟩ = some (.slice A16 R4.M c16) ∧ W.cell? ⟨w17.heap.size, 0, none⟩ = some (.int .i64 R4.P) ∧ W.cell? ⟨w17.heap.size, 1, none⟩ = some (.slice A17 R4.M c17) ∧ W.cell? ⟨w19.heap.size, 0, none⟩ = some (.int .i64 R6.P) ∧ W.cell? ⟨w19.heap.size, 1, none⟩ = some (.slice A19 R6.M c19) ∧ W.cell? ⟨w20.heap.size, 0, none⟩ = some (.int .i64 R6.P) ∧ W.cell? ⟨w20.heap.size, 1, none⟩ = some (.slice A20 R6.M c20)) => (show Calls Try.prog 45 #[.agg #[.int .i64 R1.P, .slice A10 R1.M c10], .agg #[.int .i64 R1.P, .slice A11 R1.M c11]] W (fun e w' => e = .returned (.bool true) ∧ Below W.heap.size W w') from sameR (HS.out.on h.1) (x := ⟨w10.heap.size, A10, c10, R1⟩) (y := ⟨w11.heap.size, A11, c11, R1⟩) 9 8 rfl rfl rfl HBM.out))
      have HX2 := Lib.hid (fun (W : World) (h : Below wz.heap.size wz W ∧ W.cell? ⟨w.heap.size, 0, none⟩ = some (.int .i64 I.pa) ∧ W.cell? ⟨w.heap.size, 1, none⟩ = some (.slice I.Aa I.ma I.ca) ∧ W.cell? ⟨w10.heap.size, 0, none⟩ = some (.int .i64 R1.P) ∧ W.cell? ⟨w10.heap.size, 1, none⟩ = some (.slice A10 R1.M c10) ∧ W.cell? ⟨w11.heap.size, 0, none⟩ = some (.int .i64 R1.P) ∧ W.cell? ⟨w11.heap.size, 1, none⟩ = some (.slice A11 R1.M c11) ∧ W.cell? ⟨w12.heap.size, 0, none⟩ = some (.int .i64 R2.P) ∧ W.cell? ⟨w12.heap.size, 1, none⟩ = some (.slice A12 R2.M c12) ∧ W.cell? ⟨w13.heap.size, 0, none⟩ = some (.int .i64 R2.P) ∧ W.cell? ⟨w13.heap.size, 1, none⟩ = some (.slice A13 R2.M c13) ∧ W.cell? ⟨w14.heap.size, 0, none⟩ = some (.int .i64 R3.P) ∧ W.cell? ⟨w14.heap.size, 1, none⟩ = some (.slice A14 R3.M c14) ∧ W.cell? ⟨w15.heap.size, 0, none⟩ = some (.int .i64 R3.P) ∧ W.cell? ⟨w15.heap.size, 1, none⟩ = some (.slice A15 R3.M c15) ∧ W.cell? ⟨w16.heap.size, 0, none⟩ = some (.int .i64 R4.P) ∧ W.cell? ⟨w16.heap.size, 1, none⟩ = some (.slice A16 R4.M c16) ∧ W.cell? ⟨w17.heap.size, 0, none⟩ = some (.int .i64 R4.P) ∧ W.cell? ⟨w17.heap.size, 1, none⟩ = some (.slice A17 R4.M c17) ∧ W.cell? ⟨w19.heap.size, 0, none⟩ = some (.int .i64 R6.P) ∧ W.cell? ⟨w19.heap.size, 1, none⟩ = some (.slice A19 R6.M c19) ∧ W.cell? ⟨w20.heap.size, 0, none⟩ = some (.int .i64 R6.P) ∧ W.cell? ⟨w20.heap.size, 1, none⟩ = some (.slice A20 R6.M c20)) => (show Calls Try.prog 45 #[.agg #[.int .i64 R2.P, .slice A12 R2.M c12], .agg #[.int .i64 R2.P, .slice A13 R2.M c13]] W (fun e w' => e = .returned (.bool true) ∧ Below W.heap.size W w') from sameR (HS.out.on h.1) (x := ⟨w12.heap.size, A12, c12, R2⟩) (y := ⟨w13.heap.size, A13, c13, R2⟩) 7 6 rfl rfl rfl HBA.out))
      have HX3 := Lib.hid (fun (W : World) (h : Below wz.heap.size wz W ∧ W.cell? ⟨w.heap.size, 0, none⟩ = some (.int .i64 I.pa) ∧ W.cell? ⟨w.heap.size, 1, none⟩ = some (.slice I.Aa I.ma I.ca) ∧ W.cell? ⟨w10.heap.size, 0, none⟩ = some (.int .i64 R1.P) ∧ W.cell? ⟨w10.heap.size, 1, none⟩ = some (.slice A10 R1.M c10) ∧ W.cell? ⟨w11.heap.size, 0, none⟩ = some (.int .i64 R1.P) ∧ W.cell? ⟨w11.heap.size, 1, none⟩ = some (.slice A11 R1.M c11) ∧ W.cell? ⟨w12.heap.size, 0, none⟩ = some (.int .i64 R2.P) ∧ W.cell? ⟨w12.heap.size, 1, none⟩ = some (.slice A12 R2.M c12) ∧ W.cell? ⟨w13.heap.size, 0, none⟩ = some (.int .i64 R2.P) ∧ W.cell? ⟨w13.heap.size, 1, none⟩ = some (.slice A13 R2.M c13) ∧ W.cell? ⟨w14.heap.size, 0, none⟩ = some (.int .i64 R3.P) ∧ W.cell? ⟨w14.heap.size, 1, none⟩ = some (.slice A14 R3.M c14) ∧ W.cell? ⟨w15.heap.size, 0, none⟩ = some (.int .i64 R3.P) ∧ W.cell? ⟨w15.heap.size, 1, none⟩ = some (.slice A15 R3.M c15) ∧ W.cell? ⟨w16.heap.size, 0, none⟩ = some (.int .i64 R4.P) ∧ W.cell? ⟨w16.heap.size, 1, none⟩ = some (.slice A16 R4.M c16) ∧ W.cell? ⟨w17.heap.size, 0, none⟩ = some (.int .i64 R4.P) ∧ W.cell? ⟨w17.heap.size, 1, none⟩ = some (.slice A17 R4.M c17) ∧ W.cell? ⟨w19.heap.size, 0, none⟩ = some (.int .i64 R6.P) ∧ W.cell? ⟨w19.heap.size, 1, none⟩ = some (.slice A19 R6.M c19) ∧ W.cell? ⟨w20.heap.size, 0, none⟩ = some (.int .i64 R6.P) ∧ W.cell? ⟨w20.heap.size, 1, none⟩ = some (.slice A20 R6.M c20)) => (show Calls Try.prog 45 #[.agg #[.int .i64 R3.P, .slice A14 R3.M c14], .agg #[.int .i64 R3.P, .slice A15 R3.M c15]] W (fun e w' => e = .returned (.bool true) ∧ Below W.heap.size W w') from sameR (HS.out.on h.1) (x := ⟨w14.heap.size, A14, c14, R3⟩) (y := ⟨w15.heap.size, A15, c15, R3⟩) 5 4 rfl rfl rfl HBS.out))
      have HX4 := Lib.hid (fun (W : World) (h : Below wz.heap.size wz W ∧ W.cell? ⟨w.heap.size, 0, none⟩ = some (.int .i64 I.pa) ∧ W.cell? ⟨w.heap.size, 1, none⟩ = some (.slice I.Aa I.ma I.ca) ∧ W.cell? ⟨w10.heap.size, 0, none⟩ = some (.int .i64 R1.P) ∧ W.cell? ⟨w10.heap.size, 1, none⟩ = some (.slice A10 R1.M c10) ∧ W.cell? ⟨w11.heap.size, 0, none⟩ = some (.int .i64 R1.P) ∧ W.cell? ⟨w11.heap.size, 1, none⟩ = some (.slice A11 R1.M c11) ∧ W.cell? ⟨w12.heap.size, 0, none⟩ = some (.int .i64 R2.P) ∧ W.cell? ⟨w12.heap.size, 1, none⟩ = some (.slice A12 R2.M c12) ∧ W.cell? ⟨w13.heap.size, 0, none⟩ = some (.int .i64 R2.P) ∧ W.cell? ⟨w13.heap.size, 1, none⟩ = some (.slice A13 R2.M c13) ∧ W.cell? ⟨w14.heap.size, 0, none⟩ = some (.int .i64 R3.P) ∧ W.cell? ⟨w14.heap.size, 1, none⟩ = some (.slice A14 R3.M c14) ∧ W.cell? ⟨w15.heap.size, 0, none⟩ = some (.int .i64 R3.P) ∧ W.cell? ⟨w15.heap.size, 1, none⟩ = some (.slice A15 R3.M c15) ∧ W.cell? ⟨w16.heap.size, 0, none⟩ = some (.int .i64 R4.P) ∧ W.cell? ⟨w16.heap.size, 1, none⟩ = some (.slice A16 R4.M c16) ∧ W.cell? ⟨w17.heap.size, 0, none⟩ = some (.int .i64 R4.P) ∧ W.cell? ⟨w17.heap.size, 1, none⟩ = some (.slice A17 R4.M c17) ∧ W.cell? ⟨w19.heap.size, 0, none⟩ = some (.int .i64 R6.P) ∧ W.cell? ⟨w19.heap.size, 1, none⟩ = some (.slice A19 R6.M c19) ∧ W.cell? ⟨w20.heap.size, 0, none⟩ = some (.int .i64 R6.P) ∧ W.cell? ⟨w20.heap.size, 1, none⟩ = some (.slice A20 R6.M c20)) => (show Calls Try.prog 45 #[.agg #[.int .i64 R4.P, .slice A16 R4.M c16], .agg #[.int .i64 R4.P, .slice A17 R4.M c17]] W (fun e w' => e = .returned (.bool true) ∧ Below W.heap.size W w') from sameR (HS.out.on h.1) (x := ⟨w16.heap.size, A16, c16, R4⟩) (y := ⟨w17.heap.size, A17, c17, R4⟩) 3 2 rfl rfl rfl HBT.out))
      have HX5 := Lib.hid (fun (W : World) (h : Below wz.heap.size wz W ∧ W.cell? ⟨w.heap.size, 0, none⟩ = some (.int .i64 I.pa) ∧ W.cell? ⟨w.heap.size, 1, none⟩ = some (.slice I.Aa I.ma I.ca) ∧ W.cell? ⟨w10.heap.size, 0, none⟩ = some (.int .i64 R1.P) ∧ W.cell? ⟨w10.heap.size, 1, none⟩ = some (.slice A10 R1.M c10) ∧ W.cell? ⟨w11.heap.size, 0, none⟩ = some (.int .i64 R1.P) ∧ W.cell? ⟨w11.heap.size, 1, none⟩ = some (.slice A11 R1.M c11) ∧ W.cell? ⟨w12.heap.size, 0, none⟩ = some (.int .i64 R2.P) ∧ W.cell? ⟨w12.heap.size, 1, none⟩ = some (.slice A12 R2.M c12) ∧ W.cell? ⟨w13.heap.size, 0, none⟩ = some (.int .i64 R2.P) ∧ W.cell? ⟨w13.heap.size, 1, none⟩ = some (.slice A13 R2.M c13) ∧ W.cell? ⟨w14.heap.size, 0, none⟩ = some (.int .i64 R3.P) ∧ W.cell? ⟨w14.heap.size, 1, none⟩ = some (.slice A14 R3.M c14) ∧ W.cell? ⟨w15.heap.size, 0, none⟩ = some (.int .i64 R3.P) ∧ W.cell? ⟨w15.heap.size, 1, none⟩ = some (.slice A15 R3.M c15) ∧ W.cell? ⟨w16.heap.size, 0, none⟩ = some (.int .i64 R4.P) ∧ W.cell? ⟨w16.heap.size, 1, none⟩ = some (.slice A16 R4.M c16) ∧ W.cell? ⟨w17.heap.size, 0, none⟩ = some (.int .i64 R4.P) ∧ W.cell? ⟨w17.heap.size, 1, none⟩ = some (.slice A17 R4.M c17) ∧ W.cell? ⟨w19.heap.size, 0, none⟩ = some (.int .i64 R6.P) ∧ W.cell? ⟨w19.heap.size, 1, none⟩ = some (.slice A19 R6.M c19) ∧ W.cell? ⟨w20.heap.size, 0, none⟩ = some (.int .i64 R6.P) ∧ W.cell? ⟨w20.heap.size, 1, none⟩ = some (.slice A20 R6.M c20)) => (show Calls Try.prog 45 #[.agg #[.int .i64 R6.P, .slice A19 R6.M c19], .agg #[.int .i64 R6.P, .slice A20 R6.M c20]] W (fun e w' => e = .returned (.bool true) ∧ Below W.heap.size W w') from sameR (HS.out.on h.1) (x := ⟨w19.heap.size, A19, c19, R6⟩) (y := ⟨w20.heap.size, A20, c20, R6⟩) 1 0 rfl rfl rfl HBO.out))
      have HXV := Lib.hid (fun (W : World) (h : Below wz.heap.size wz W ∧ W.cell? ⟨w.heap.size, 0, none⟩ = some (.int .i64 I.pa) ∧ W.cell? ⟨w.heap.size, 1, none⟩ = some (.slice I.Aa I.ma I.ca) ∧ W.cell? ⟨w10.heap.size, 0, none⟩ = some (.int .i64 R1.P) ∧ W.cell? ⟨w10.heap.size, 1, none⟩ = some (.slice A10 R1.M c10) ∧ W.cell? ⟨w11.heap.size, 0, none⟩ = some (.int .i64 R1.P) ∧ W.cell? ⟨w11.heap.size, 1, none⟩ = some (.slice A11 R1.M c11) ∧ W.cell? ⟨w12.heap.size, 0, none⟩ = some (.int .i64 R2.P) ∧ W.cell? ⟨w12.heap.size, 1, none⟩ = some (.slice A12 R2.M c12) ∧ W.cell? ⟨w13.heap.size, 0, none⟩ = some (.int .i64 R2.P) ∧ W.cell? ⟨w13.heap.size, 1, none⟩ = some (.slice A13 R2.M c13) ∧ W.cell? ⟨w14.heap.size, 0, none⟩ = some (.int .i64 R3.P) ∧ W.cell? ⟨w14.heap.size, 1, none⟩ = some (.slice A14 R3.M c14) ∧ W.cell? ⟨w15.heap.size, 0, none⟩ = some (.int .i64 R3.P) ∧ W.cell? ⟨w15.heap.size, 1, none⟩ = some (.slice A15 R3.M c15) ∧ W.cell? ⟨w16.heap.size, 0, none⟩ = some (.int .i64 R4.P) ∧ W.cell? ⟨w16.heap.size, 1, none⟩ = some (.slice A16 R4.M c16) ∧ W.cell? ⟨w17.heap.size, 0, none⟩ = some (.int .i64 R4.P) ∧ W.cell? ⟨w17.heap.size, 1, none⟩ = some (.slice A17 R4.M c17) ∧ W.cell? ⟨w19.heap.size, 0, none⟩ = some (.int .i64 R6.P) ∧ W.cell? ⟨w19.heap.size, 1, none⟩ = some (.slice A19 R6.M c19) ∧ W.cell? ⟨w20.heap.size, 0, none⟩ = some (.int .i64 R6.P) ∧ W.cell? ⟨w20.heap.size, 1, none⟩ = some (.slice A20 R6.M c20)) => (show Calls Try.prog 26 #[.slice Aa5 n5 ca5, .slice Ab5 n5 cb5] W (fun e w' => e = .returned (.bool true) ∧ Below W.heap.size W w') from by
        refine (row_same _ _ n5 g5 g5 W _ _ HN6.out (HVA.out.on h.1) (HVB.out.on h.1)).mono ?_
        rintro e w' ⟨rfl, nd, rfl⟩
        exact ⟨by rw [show eqB n5 g5 g5 = true from by unfold eqB; exact decide_eq_true fun _ _ => rfl], below_drewN (Below.refl _ _) nd⟩))
      obtain ⟨chk, hchk⟩ : ∃ x, chkM I.pa I.ma I.na I.fa = x := ⟨_, rfl⟩
      rw [hchk] at HCK HCR
      have heq : (chk == chk) = true := by simp
      clear hchk HXA HXP HMa HNa HMb HNb HBM HBA HBS HBT HBO HN6 HVA HVB
      simp only [List.append_eq, List.cons_append, List.nil_append]
      go_region_held3 (fun W => Below wz.heap.size wz W ∧ W.cell? ⟨w.heap.size, 0, none⟩ = some (.int .i64 I.pa) ∧ W.cell? ⟨w.heap.size, 1, none⟩ = some (.slice I.Aa I.ma I.ca) ∧ W.cell? ⟨w10.heap.size, 0, none⟩ = some (.int .i64 R1.P) ∧ W.cell? ⟨w10.heap.size, 1, none⟩ = some (.slice A10 R1.M c10) ∧ W.cell? ⟨w11.heap.size, 0, none⟩ = some (.int .i64 R1.P) ∧ W.cell? ⟨w11.heap.size, 1, none⟩ = some (.slice A11 R1.M c11) ∧ W.cell? ⟨w12.heap.size, 0, none⟩ = some (.int .i64 R2.P) ∧ W.cell? ⟨w12.heap.size, 1, none⟩ = some (.slice A12 R2.M c12) ∧ W.cell? ⟨w13.heap.size, 0, none⟩ = some (.int .i64 R2.P) ∧ W.cell? ⟨w13.heap.size, 1, none⟩ = some (.slice A13 R2.M c13) ∧ W.cell? ⟨w14.heap.size, 0, none⟩ = some (.int .i64 R3.P) ∧ W.cell? ⟨w14.heap.size, 1, none⟩ = some (.slice A14 R3.M c14) ∧ W.cell? ⟨w15.heap.size, 0, none⟩ = some (.int .i64 R3.P) ∧ W.cell? ⟨w15.heap.size, 1, none⟩ = some (.slice A15 R3.M c15) ∧ W.cell? ⟨w16.heap.size, 0, none⟩ = some (.int .i64 R4.P) ∧ W.cell? ⟨w16.heap.size, 1, none⟩ = some (.slice A16 R4.M c16) ∧ W.cell? ⟨w17.heap.size, 0, none⟩ = some (.int .i64 R4.P) ∧ W.cell? ⟨w17.heap.size, 1, none⟩ = some (.slice A17 R4.M c17) ∧ W.cell? ⟨w19.heap.size, 0, none⟩ = some (.int .i64 R6.P) ∧ W.cell? ⟨w19.heap.size, 1, none⟩ = some (.slice A19 R6.M c19) ∧ W.cell? ⟨w20.heap.size, 0, none⟩ = some (.int .i64 R6.P) ∧ W.cell? ⟨w20.heap.size, 1, none⟩ = some (.slice A20 R6.M c20))
        ((first | assumption | (with_reducible exact HS0.out)))
        ((first
          | (go_at_call 43; (with_reducible refine (HCK.out _ (by assumption)).mono ?_); rintro e w' ⟨rfl, hb⟩; (with_reducible have hS := HSC.out _ _ (by assumption) hb))
          | (go_at_call 44; (with_reducible refine (HCR.out _ (by assumption)).mono ?_); rintro e w' ⟨rfl, hb⟩; (with_reducible have hS := HSC.out _ _ (by assumption) hb))
          | (go_at_call 45; (first | (with_reducible refine (HX1.out _ (by assumption)).mono ?_) | (with_reducible refine (HX2.out _ (by assumption)).mono ?_) | (with_reducible refine (HX3.out _ (by assumption)).mono ?_) | (with_reducible refine (HX4.out _ (by assumption)).mono ?_) | (with_reducible refine (HX5.out _ (by assumption)).mono ?_)); rintro e w' ⟨rfl, hb⟩; (with_reducible have hS := HSC.out _ _ (by assumption) hb))
          | (go_at_call 26; (with_reducible refine (HXV.out _ (by assumption)).mono ?_); rintro e w' ⟨rfl, hb⟩; (with_reducible have hS := HSC.out _ _ (by assumption) hb))))
      all_goals
        have HZZ := Lib.hid (HS.out.b.trans (hS.1.mono HS.out.b.size))
        clear hS
        go_wp2_with fail
        go_ret
        exact ⟨rfl, HZZ.out⟩
end Go.Proofs.Ytaieeljkalciiaa
