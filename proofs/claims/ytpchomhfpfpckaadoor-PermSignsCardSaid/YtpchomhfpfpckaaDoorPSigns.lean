/- cayleylaw01.PermSigns. -/
import Derived.Test.YtpchomhfpfpckaaDoorPSignM3
import Derived.Test.YtpchomhfpfpckaaDoorPSameL
import Derived.Test.YtpchomhfpfpckaaDoorRefPerm
import Derived.Test.YtpchomhfpfpckaaDoorThree
namespace Go.Proofs.YtpchomhfpfpckaaDoor
open Go Go.RowKit

theorem chk_pl {n : Nat} (h1 : 1 ≤ n) (h64 : n ≤ 64) (a : PL n) : chk a.1 = 0 := by
  unfold chk
  rw [if_neg (by have := a.2.1; omega), if_pos a.2.2]
theorem chk2_pl {n : Nat} (h1 : 1 ≤ n) (h64 : n ≤ 64) (a b : PL n) : chk2 a.1 b.1 = 0 := chk2_d (chk_pl h1 h64 a) (chk_pl h1 h64 b) (by rw [a.2.1, b.2.1])
theorem Ints.up {w w' : World} {v : Value} {l : List Int} (h : Ints w w.heap.size v l) (hb : Below w.heap.size w w') : Ints w' w'.heap.size v l := (h.below hb).more hb.size
theorem wrap_sg {n : Nat} (a b : PL n) : IntKind.i64.wrap (sgP a * sgP b) = sgP (pmul a b) := by
  rw [sgP_mul]
  rcases sgP_cases a with e | e <;> rcases sgP_cases b with e' | e' <;> rw [e, e'] <;> decide

set_option maxRecDepth 100000 in
set_option maxHeartbeats 8000000 in
theorem permSigns_any (v : Value) (zs0 : List Int) (n0 : Int) (w : World) (hv : Ints w w.heap.size v zs0) :
    Calls Tryd.prog 9 #[v, .int .i64 n0] w fun e w' => e = .returned (.bool true) ∧ Below w.heap.size w w' := by
  have HV := Lib.hid hv
  have hs : ∃ A c, v = .slice A zs0.length c := by obtain ⟨A, c, h, _⟩ := hv; exact ⟨A, c, h⟩
  obtain ⟨A, c, rfl⟩ := hs
  clear hv
  go_enter Tryd.func9, Tryd.ntmps9
  go_wp2_with fail
  refine (lives_any w).mono ?_
  rintro e w0 ⟨rfl, hb⟩
  replace HV := Lib.hid (HV.out.up hb)
  have HB := Lib.hid hb
  clear hb
  by_cases h100 : 100 < zs0.length
  · have h2 : (100 : Int) < (zs0.length : Int) := by omega
    go_wp2_with fail
    go_ret
    exact ⟨rfl, HB.out⟩
  have h2 : ¬ (100 : Int) < (zs0.length : Int) := by omega
  have HTH := Lib.hid (three_any _ zs0 n0 w0 (by omega) HV.out)
  clear HV h100
  go_wp2_with fail
  refine (HTH.out).mono ?_
  rintro e w1 ⟨n, a, b, c3, va, vb, vc, h1, h12, rfl, hia, hib, hic, hb⟩
  have HA := Lib.hid hia
  have HBb := Lib.hid hib
  replace HB := Lib.hid (HB.out.trans (hb.mono HB.out.size))
  clear hia hib hic hb HTH
  have h64 : n ≤ 64 := by omega
  have HAF := Lib.hid (fun i (h : i = n) => h)
  obtain ⟨Aa, ca, rfl⟩ : ∃ A c, va = .slice A n c := by obtain ⟨A, c, e, _⟩ := HA.out; exact ⟨A, c, by rw [e, a.2.1]⟩
  obtain ⟨Ab, cb, rfl⟩ : ∃ A c, vb = .slice A n c := by obtain ⟨A, c, e, _⟩ := HBb.out; exact ⟨A, c, by rw [e, b.2.1]⟩
  clear HAF
  have hal := a.2.1
  have hbl := b.2.1
  have HC2 := Lib.hid (chk2_pl h1 h64 a b)
  have HCa := Lib.hid (chk_pl h1 h64 a)
  have HCb := Lib.hid (chk_pl h1 h64 b)
  have HCab := Lib.hid (chk_pl h1 h64 (pmul a b))
  have HCcj := Lib.hid (chk_pl h1 h64 (pmul (pinv b) (pmul a b)))
  have HCcm := Lib.hid (chk_pl h1 h64 (pmul (pinv (pmul b a)) (pmul a b)))
  have HSa := Lib.hid (sign_is h1 h12 a)
  have HSb := Lib.hid (sign_is h1 h12 b)
  have HSab := Lib.hid (sign_is h1 h12 (pmul a b))
  have HScm := Lib.hid ((sign_is h1 h12 (pmul (pinv (pmul b a)) (pmul a b))).trans (sgP_comm a b))
  have HTy := Lib.hid (type_conj h1 h64 a b)
  obtain ⟨hof, hov⟩ := ord_facts h1 h12 a
  have HOF := Lib.hid hof
  have HOV := Lib.hid hov
  have HTL := Lib.hid (show (typeV a.1).length ≤ 64 by
    unfold typeV
    rw [if_pos HCa.out, List.length_reverse, srt_length]
    simp only [lens, List.length_map]
    have hL := decomp_cycs a.2.2 (by omega)
    have h3 := count_leD (cycs a.1) (fun c hc => (hL.cl c hc).1)
    have h4 : (cycs a.1).flatten.length ≤ n := nodup_lenD _ _ hL.nd (fun x hx => by
      obtain ⟨c, hc, hxc⟩ := List.mem_flatten.1 hx
      have := (hL.cl c hc).2.1 x hxc
      rwa [hal] at this)
    omega)
  have hwr := wrap_sg a b
  clear hof hov
  have HM := fun (W : World) h h' => Lib.hid (Mul_any (.slice Aa n ca) (.slice Ab n cb) a.1 b.1 W (by omega) (by omega) h h')
  rw [HC2.out] at HM
  have HCJ := fun (W : World) h h' => Lib.hid (Conj_any (.slice Aa n ca) (.slice Ab n cb) a.1 b.1 W (by omega) (by omega) h h')
  rw [HC2.out] at HCJ
  have HCM := fun (W : World) h h' => Lib.hid (Comm_any (.slice Aa n ca) (.slice Ab n cb) a.1 b.1 W (by omega) (by omega) h h')
  rw [HC2.out] at HCM
  clear hal hbl
  go_wp2_with fail
  refine ((HM _ HA.out HBb.out).out).mono ?_
  rintro e w2 ⟨r2, rfl, hb, hi, -⟩
  replace HA := Lib.hid (HA.out.up hb)
  replace HBb := Lib.hid (HBb.out.up hb)
  replace HB := Lib.hid (HB.out.trans (hb.mono HB.out.size))
  have HAB := Lib.hid (show Ints w2 w2.heap.size r2 (pmul a b).1 from hi rfl)
  clear hb hi HM
  go_wp2_with fail
  refine ((HCJ _ HA.out HBb.out).out).mono ?_
  rintro e w3 ⟨r3, rfl, hb, hi, -⟩
  replace HA := Lib.hid (HA.out.up hb)
  replace HBb := Lib.hid (HBb.out.up hb)
  replace HAB := Lib.hid (HAB.out.up hb)
  replace HB := Lib.hid (HB.out.trans (hb.mono HB.out.size))
  have HCo := Lib.hid (show Ints w3 w3.heap.size r3 (pmul (pinv b) (pmul a b)).1 from hi rfl)
  clear hb hi HCJ
  go_wp2_with fail
  refine ((HCM _ HA.out HBb.out).out).mono ?_
  rintro e w4 ⟨r4, rfl, hb, hi, -⟩
  replace HA := Lib.hid (HA.out.up hb)
  replace HBb := Lib.hid (HBb.out.up hb)
  replace HAB := Lib.hid (HAB.out.up hb)
  replace HCo := Lib.hid (HCo.out.up hb)
  replace HB := Lib.hid (HB.out.trans (hb.mono HB.out.size))
  have HCmm := Lib.hid (show Ints w4 w4.heap.size r4 (pmul (pinv (pmul b a)) (pmul a b)).1 from hi rfl)
  clear hb hi HCM
  clear HC2
  go_wp2_with fail
  have HX := Lib.hid (Sign_any (.slice Aa n ca) (a).1 _ (by have := (a).2.1; omega) HA.out)
  rw [HCa.out, HSa.out] at HX
  refine (HX.out).mono ?_
  rintro e w5 ⟨rfl, hb⟩
  replace HA := Lib.hid (HA.out.up hb)
  replace HBb := Lib.hid (HBb.out.up hb)
  replace HAB := Lib.hid (HAB.out.up hb)
  replace HCo := Lib.hid (HCo.out.up hb)
  replace HCmm := Lib.hid (HCmm.out.up hb)
  replace HB := Lib.hid (HB.out.trans (hb.mono HB.out.size))
  clear hb HX
  go_wp2_with fail
  have HX := Lib.hid (Sign_any (.slice Ab n cb) (b).1 _ (by have := (b).2.1; omega) HBb.out)
  rw [HCb.out, HSb.out] at HX
  refine (HX.out).mono ?_
  rintro e w6 ⟨rfl, hb⟩
  replace HA := Lib.hid (HA.out.up hb)
  replace HBb := Lib.hid (HBb.out.up hb)
  replace HAB := Lib.hid (HAB.out.up hb)
  replace HCo := Lib.hid (HCo.out.up hb)
  replace HCmm := Lib.hid (HCmm.out.up hb)
  replace HB := Lib.hid (HB.out.trans (hb.mono HB.out.size))
  clear hb HX
  go_wp2_with fail
  have HX := Lib.hid (Sign_any r2 (pmul a b).1 _ (by have := (pmul a b).2.1; omega) HAB.out)
  rw [HCab.out, HSab.out] at HX
  refine (HX.out).mono ?_
  rintro e w7 ⟨rfl, hb⟩
  replace HA := Lib.hid (HA.out.up hb)
  replace HBb := Lib.hid (HBb.out.up hb)
  replace HAB := Lib.hid (HAB.out.up hb)
  replace HCo := Lib.hid (HCo.out.up hb)
  replace HCmm := Lib.hid (HCmm.out.up hb)
  replace HB := Lib.hid (HB.out.trans (hb.mono HB.out.size))
  clear hb HX
  go_wp2_with fail
  have HX := Lib.hid (Sign_any r4 (pmul (pinv (pmul b a)) (pmul a b)).1 _ (by have := (pmul (pinv (pmul b a)) (pmul a b)).2.1; omega) HCmm.out)
  rw [HCcm.out, HScm.out] at HX
  refine (HX.out).mono ?_
  rintro e w8 ⟨rfl, hb⟩
  replace HA := Lib.hid (HA.out.up hb)
  replace HBb := Lib.hid (HBb.out.up hb)
  replace HAB := Lib.hid (HAB.out.up hb)
  replace HCo := Lib.hid (HCo.out.up hb)
  replace HCmm := Lib.hid (HCmm.out.up hb)
  replace HB := Lib.hid (HB.out.trans (hb.mono HB.out.size))
  clear hb HX
  clear HBb HAB HCmm HSa HSb HSab HScm HCab HCcm HCb
  go_wp2_with fail
  have HX := Lib.hid (Type_any (.slice Aa n ca) (a).1 _ (by have := (a).2.1; omega) HA.out)
  rw [HCa.out] at HX
  refine (HX.out).mono ?_
  rintro e w9 ⟨r9, rfl, hb, hi⟩
  replace HA := Lib.hid (HA.out.up hb)
  replace HCo := Lib.hid (HCo.out.up hb)
  replace HB := Lib.hid (HB.out.trans (hb.mono HB.out.size))
  have HTX := Lib.hid hi
  clear hb hi HX
  go_wp2_with fail
  have HX := Lib.hid (Type_any r3 (pmul (pinv b) (pmul a b)).1 _ (by have := (pmul (pinv b) (pmul a b)).2.1; omega) HCo.out)
  rw [HCcj.out] at HX
  rw [HTy.out] at HX
  refine (HX.out).mono ?_
  rintro e w10 ⟨r10, rfl, hb, hi⟩
  replace HA := Lib.hid (HA.out.up hb)
  replace HCo := Lib.hid (HCo.out.up hb)
  replace HTX := Lib.hid (HTX.out.up hb)
  replace HB := Lib.hid (HB.out.trans (hb.mono HB.out.size))
  have HTYv := Lib.hid hi
  clear hb hi HX
  clear HCo HCcj HTy
  go_wp2_with fail
  have HX := Lib.hid (Order_any (.slice Aa n ca) a.1 _ (by have := a.2.1; omega) HA.out)
  rw [HCa.out, HOV.out] at HX
  refine (HX.out).mono ?_
  rintro e w11 ⟨rfl, hb⟩
  replace HA := Lib.hid (HA.out.up hb)
  replace HTX := Lib.hid (HTX.out.up hb)
  replace HTYv := Lib.hid (HTYv.out.up hb)
  replace HB := Lib.hid (HB.out.trans (hb.mono HB.out.size))
  clear hb HX HCa HOV
  obtain ⟨Ax, cx, rfl⟩ : ∃ A c, r9 = .slice A (typeV a.1).length c := by obtain ⟨A, c, e, _⟩ := HTX.out; exact ⟨A, c, e⟩
  obtain ⟨Ay, cy, rfl⟩ : ∃ A c, r10 = .slice A (typeV a.1).length c := by obtain ⟨A, c, e, _⟩ := HTYv.out; exact ⟨A, c, e⟩
  have hk1 := HOF.out.pos
  have hk60 := HOF.out.le
  have HBK := Lib.hid HOF.out.back
  have HDV := Lib.hid HOF.out.dvd
  have htl : (typeV a.1).length ≤ 64 := HTL.out
  have HSX := Lib.hid (sameRn (typeV a.1) (.slice Ax (typeV a.1).length cx) (.slice Ay (typeV a.1).length cy) _ (by omega) HTX.out HTYv.out)
  clear HOF HTL
  generalize ordN (cycs a.1) = K at hk1 hk60 HBK HDV ⊢
  generalize typeV a.1 = ty at htl HSX HTX HTYv HDV ⊢
  generalize sgP (pmul a b) = sab at hwr ⊢
  generalize sgP a = sa at hwr ⊢
  generalize sgP b = sb at hwr ⊢
  have hk1' : ¬ (K : Int) < 1 := by omega
  have hk60' : ¬ (60 : Int) < (K : Int) := by omega
  have hss : (sab != sab) = false := by simp
  go_wp2_with fail
  refine (HSX.out).mono ?_
  rintro e w12 ⟨rfl, m0, hm⟩
  have hb : Below w11.heap.size w11 w12 := by rw [hm]; exact drawB (Below.refl _ _) _
  replace HA := Lib.hid (HA.out.up hb)
  replace HTX := Lib.hid (HTX.out.up hb)
  replace HB := Lib.hid (HB.out.trans (hb.mono HB.out.size))
  clear hb hm HSX HTYv
  go_wp2_with fail
  refine (kitOne_any n _ (by omega)).mono ?_
  rintro e w13 ⟨vo, rfl, ho, hb⟩
  have HP0 := Lib.hid (show Ints w13 w13.heap.size vo (npow pmul (pone n) (1 - 1) a).1 from ints_of_own (zs := idL n) ho rfl)
  replace HA := Lib.hid (HA.out.up hb)
  replace HTX := Lib.hid (HTX.out.up hb)
  replace HB := Lib.hid (HB.out.trans (hb.mono HB.out.size))
  clear hb ho hss hwr
  go_wp2_with fail
  go_loopw [28, 29] (fun pv i wr => ∃ j : Nat, i = .int .i64 j ∧ 1 ≤ j ∧ j ≤ K + 1 ∧ Hid (Ints wr wr.heap.size pv (npow pmul (pone n) (j - 1) a).1) ∧ Hid (Ints wr wr.heap.size (.slice Aa n ca) a.1) ∧ Hid (Ints wr wr.heap.size (.slice Ax ty.length cx) ty) ∧ Hid (Below w.heap.size w wr)) (fun _ i _ => K + 1 - (intOf i).toNat)
  case atStart => exact ⟨1, rfl, Nat.le_refl _, by omega, HP0.out, HA.out, HTX.out, HB.out⟩
  case round =>
    obtain ⟨j, rfl, hj1, hj2, HPv, HAv, HXv, HBv⟩ := hrel
    rename World => W0
    clear HP0 HA HTX HB
    by_cases hle : j ≤ K
    · have hle1 : (j : Int) ≤ (K : Int) := by omega
      have HNP := Lib.hid (show (pmul (npow pmul (pone n) (j - 1) a) a).1 = (npow pmul (pone n) j a).1 by
        obtain ⟨m, rfl⟩ : ∃ m, j = m + 1 := ⟨j - 1, by omega⟩
        rw [Nat.add_sub_cancel]; rfl)
      by_cases hjK : j = K
      ·
        have hjk : ((j : Int) == (K : Int)) = true := by simp; omega
        have HSB := Lib.hid (show sameB (npow pmul (pone n) j a).1 (idL n) = true from decide_eq_true ((HBK.out j hj1 hle).2 hjK))
        have hbb : (true != true) = false := rfl
        clear hjK
        go_wp2_with fail
        have HML := Lib.hid (kitMul_any (npow pmul (pone n) (j - 1) a) a _ _ _ h1 h64 HPv.out HAv.out)
        rw [HNP.out] at HML
        refine (HML.out).mono ?_
        rintro e w20 ⟨vr, rfl, hr, hb⟩
        have HR := Lib.hid hr
        replace HAv := Lib.hid (HAv.out.up hb)
        replace HXv := Lib.hid (HXv.out.up hb)
        replace HBv := Lib.hid (HBv.out.trans (hb.mono HBv.out.size))
        clear hb hr HML HPv
        go_wp2_with fail
        refine (kitOne_any n _ (by omega)).mono ?_
        rintro e w21 ⟨vo', rfl, ho, hb⟩
        replace HR := Lib.hid (HR.out.up hb)
        have HO := Lib.hid (show Ints w21 w21.heap.size vo' (idL n) from ints_of_own (zs := idL n) ho rfl)
        replace HAv := Lib.hid (HAv.out.up hb)
        replace HXv := Lib.hid (HXv.out.up hb)
        replace HBv := Lib.hid (HBv.out.trans (hb.mono HBv.out.size))
        clear hb ho
        go_wp2_with fail
        have HSM := Lib.hid (same_any w21.heap.size _ _ _ _ _ (by have := (npow pmul (pone n) j a).2.1; omega) HR.out HO.out)
        rw [HSB.out] at HSM
        refine (HSM.out).mono ?_
        rintro e w22 ⟨rfl, m1, hm⟩
        have hb : Below w21.heap.size w21 w22 := by rw [hm]; exact drawB (Below.refl _ _) _
        replace HR := Lib.hid (HR.out.up hb)
        replace HAv := Lib.hid (HAv.out.up hb)
        replace HXv := Lib.hid (HXv.out.up hb)
        replace HBv := Lib.hid (HBv.out.trans (hb.mono HBv.out.size))
        clear hb hm HSM HO HSB
        go_wp2_with fail
        go_roundw
        case rel => exact ⟨j + 1, by go_num, by omega, by omega, by rw [Nat.add_sub_cancel]; exact HR.out, HAv.out, HXv.out, HBv.out⟩
        case measure => simp [intOf]; omega
      ·
        have hjk : ((j : Int) == (K : Int)) = false := by simp; omega
        have HSB := Lib.hid (show sameB (npow pmul (pone n) j a).1 (idL n) = false from decide_eq_false (fun e => hjK ((HBK.out j hj1 hle).1 e)))
        have hbb : (false != false) = false := rfl
        clear hjK
        go_wp2_with fail
        have HML := Lib.hid (kitMul_any (npow pmul (pone n) (j - 1) a) a _ _ _ h1 h64 HPv.out HAv.out)
        rw [HNP.out] at HML
        refine (HML.out).mono ?_
        rintro e w20 ⟨vr, rfl, hr, hb⟩
        have HR := Lib.hid hr
        replace HAv := Lib.hid (HAv.out.up hb)
        replace HXv := Lib.hid (HXv.out.up hb)
        replace HBv := Lib.hid (HBv.out.trans (hb.mono HBv.out.size))
        clear hb hr HML HPv
        go_wp2_with fail
        refine (kitOne_any n _ (by omega)).mono ?_
        rintro e w21 ⟨vo', rfl, ho, hb⟩
        replace HR := Lib.hid (HR.out.up hb)
        have HO := Lib.hid (show Ints w21 w21.heap.size vo' (idL n) from ints_of_own (zs := idL n) ho rfl)
        replace HAv := Lib.hid (HAv.out.up hb)
        replace HXv := Lib.hid (HXv.out.up hb)
        replace HBv := Lib.hid (HBv.out.trans (hb.mono HBv.out.size))
        clear hb ho
        go_wp2_with fail
        have HSM := Lib.hid (same_any w21.heap.size _ _ _ _ _ (by have := (npow pmul (pone n) j a).2.1; omega) HR.out HO.out)
        rw [HSB.out] at HSM
        refine (HSM.out).mono ?_
        rintro e w22 ⟨rfl, m1, hm⟩
        have hb : Below w21.heap.size w21 w22 := by rw [hm]; exact drawB (Below.refl _ _) _
        replace HR := Lib.hid (HR.out.up hb)
        replace HAv := Lib.hid (HAv.out.up hb)
        replace HXv := Lib.hid (HXv.out.up hb)
        replace HBv := Lib.hid (HBv.out.trans (hb.mono HBv.out.size))
        clear hb hm HSM HO HSB
        go_wp2_with fail
        go_roundw
        case rel => exact ⟨j + 1, by go_num, by omega, by omega, by rw [Nat.add_sub_cancel]; exact HR.out, HAv.out, HXv.out, HBv.out⟩
        case measure => simp [intOf]; omega
    · have hle1 : ¬ (j : Int) ≤ (K : Int) := by omega
      clear HPv HAv
      go_wp2_with fail
      go_loopw [30] (fun i wr => ∃ q : Nat, i = .int .i64 q ∧ q ≤ ty.length ∧ wr = W0) (fun i _ => ty.length - (intOf i).toNat)
      case atStart => exact ⟨0, rfl, Nat.zero_le _, rfl⟩
      case round =>
        obtain ⟨q, rfl, hq, hww⟩ := hrel
        subst hww
        by_cases hlt : q < ty.length
        · obtain ⟨b', o', c', e1, hb', hc'⟩ := HXv.out.at_ (by omega)
          injection e1 with f1 f2 f3
          subst f1
          clear f2 f3
          have hcell := hc' q hlt
          obtain ⟨d1, d2⟩ := HDV.out _ (getD_mem hlt)
          generalize ty.getD q 0 = x at hcell d1 d2
          have hx1 : ¬ x < 1 := by omega
          have hx0 : ¬ x = 0 := by omega
          have hx2 : (x == 0) = false := by simp; omega
          have d3 : (K : Int).tmod x = 0 := by rw [Int.tmod_eq_emod_of_nonneg (by omega)]; exact d2
          clear hc' hb'
          go_wp2_with fail
          go_roundw
          case rel => exact ⟨q + 1, by go_num, by omega, trivial⟩
          case measure => simp [intOf]; omega
        · go_wp2_with fail
          go_ret
          exact ⟨rfl, HBv.out⟩
end Go.Proofs.YtpchomhfpfpckaaDoor
