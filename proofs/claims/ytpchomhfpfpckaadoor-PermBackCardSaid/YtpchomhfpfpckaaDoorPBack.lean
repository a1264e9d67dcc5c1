/- cayleylaw01.PermBack. -/
import Derived.Test.YtpchomhfpfpckaaDoorPBackM2
import Derived.Test.YtpchomhfpfpckaaDoorPSameL
import Derived.Test.YtpchomhfpfpckaaDoorRefPerm
import Derived.Test.YtpchomhfpfpckaaDoorPDec
namespace Go.Proofs.YtpchomhfpfpckaaDoor
open Go Go.RowKit

theorem chk_of {zs : List Int} (hf : Fine zs) (h1 : 1 ≤ zs.length) (h64 : zs.length ≤ 64) : chk zs = 0 := by
  unfold chk
  rw [if_neg (by omega), if_pos hf]
def innB (cl : List Int) (j : Nat) : List UInt8 := 40 :: (cl.take j).flatMap fun x => 32 :: dig x.toNat
theorem innB_succ {cl : List Int} {j : Nat} (h : j < cl.length) : innB cl (j + 1) = (innB cl j ++ [32]) ++ dig (cl.getD j 0).toNat := by
  unfold innB
  rw [List.take_succ_eq_append_getElem h, List.flatMap_append, show cl.getD j 0 = cl[j] by simp [List.getD_eq_getElem?_getD, h]]
  simp
theorem innB_len (cl : List Int) (j : Nat) (hj : j ≤ cl.length) : (innB cl j).length ≤ 3 * j + 1 := by
  induction j with
  | zero => simp [innB]
  | succ j ih =>
    have h1 := ih (by omega)
    have h2 := dig_len (cl.getD j 0).toNat
    rw [innB_succ (by omega), List.length_append, List.length_append, List.length_singleton]
    omega
theorem innB_close (cl : List Int) : innB cl cl.length ++ [41] = 40 :: ptsT cl := by
  unfold innB ptsT
  rw [List.take_length]
  simp
theorem textOk_len {zs : List Int} (hf : Fine zs) (h64 : zs.length ≤ 64) : (textOk zs).length ≤ 600 := by
  obtain ⟨_, hnd, hcl, _⟩ := cycs_back hf h64
  have h1 := txt_len (cycs zs) (fun c hc => (hcl c hc).1)
  have h2 : (cycs zs).flatten.length ≤ zs.length := nodup_lenD _ _ hnd (fun x hx => by
    obtain ⟨c, hc, hxc⟩ := List.mem_flatten.1 hx
    exact (hcl c hc).2.1 x hxc)
  rw [List.length_flatten] at h2
  unfold textOk
  split
  · simp
  · omega
theorem count_le : ∀ cs : List (List Int), (∀ c ∈ cs, 1 ≤ c.length) → cs.length ≤ cs.flatten.length := by
  intro cs
  induction cs with
  | nil => intro _; simp
  | cons c cs ih =>
    intro h
    have h1 := ih (fun d hd => h d (List.mem_cons_of_mem _ hd))
    have h2 := h c (by simp)
    rw [List.flatten_cons, List.length_append, List.length_cons]
    omega
theorem Longs.count {zs : List Int} {cs : List (List Int)} (h : Longs zs cs) (h64 : zs.length ≤ 64) : cs.length ≤ 64 := by
  have h1 := count_le cs (fun c hc => (h.cl c hc).1)
  have h2 : cs.flatten.length ≤ zs.length := nodup_lenD _ _ h.nd (fun x hx => by
    obtain ⟨c, hc, hxc⟩ := List.mem_flatten.1 hx
    exact (h.cl c hc).2.1 x hxc)
  omega

set_option maxRecDepth 100000 in
set_option maxHeartbeats 8000000 in
theorem permBack_any (v : Value) (zs0 : List Int) (n0 : Int) (w : World) (hv : Ints w w.heap.size v zs0) :
    Calls Tryd.prog 10 #[v, .int .i64 n0] w fun e w' => e = .returned (.bool true) ∧ Below w.heap.size w w' := by
  have HV := Lib.hid hv
  have hs : ∃ A c, v = .slice A zs0.length c := by obtain ⟨A, c, h, _⟩ := hv; exact ⟨A, c, h⟩
  obtain ⟨A, c, rfl⟩ := hs
  clear hv
  have hP := pickV_in n0 64 (by omega)
  obtain ⟨n, hn⟩ : ∃ n : Nat, 1 + pickV n0 64 = (n : Int) := ⟨(1 + pickV n0 64).toNat, by omega⟩
  have h1 : 1 ≤ n := by omega
  have h64 : n ≤ 64 := by omega
  go_enter Tryd.func10, Tryd.ntmps10
  go_wp2_with fail
  refine (lives_any w).mono ?_
  rintro e w0 ⟨rfl, hb⟩
  replace HV := Lib.hid ((HV.out.below hb).more hb.size)
  have HB := Lib.hid hb
  clear hb
  by_cases h100 : 100 < zs0.length
  · have h2 : (100 : Int) < (zs0.length : Int) := by omega
    go_wp2_with fail
    go_ret
    exact ⟨rfl, HB.out⟩
  have h2 : ¬ (100 : Int) < (zs0.length : Int) := by omega
  have hl : zs0.length ≤ 17592186044400 := by omega
  have HK := fun m W hW h => Lib.hid (kitPerm_any w0.heap.size n m (.slice A zs0.length c) zs0 W hl h1 h64 hW h)
  have H0 := Lib.hid (show TakerAt (w0.alloc (.cells #[.slice A zs0.length c, .int .i64 0] 70)) w0.heap.size (.slice A zs0.length c) zs0 0 from ⟨Row.new _ _ _, HV.out.alloc (Nat.le_refl _) _⟩)
  have HB0 := Lib.hid (HB.out.alloc HB.out.size (.cells #[.slice A zs0.length c, .int .i64 0] 70))
  have HS0 := Lib.hid (show w0.heap.size < (w0.alloc (.cells #[.slice A zs0.length c, .int .i64 0] 70)).heap.size by simp)
  have HSz := Lib.hid HB.out.size
  clear HV HB h100
  go_wp2_with fail
  refine (pick_any n0 64 _ (by omega) (by omega)).mono ?_
  rintro e w0' ⟨rfl, hw0⟩
  subst hw0
  generalize pickV n0 64 = p at hn hP
  have hin : p ≤ 9223372036854775806 := by omega
  clear hP
  go_wp2_with fail
  refine ((HK 0 _ HS0.out H0.out).out).mono ?_
  rintro e w1 ⟨ra, m1, ⟨zs, hzl, hzf⟩, rfl, hh1, ht1, hb1, hs1⟩
  subst hzl
  have HA := Lib.hid (show Ints w1 w1.heap.size ra zs from hh1.ints)
  have HB := Lib.hid (HB0.out.trans (hb1.1.mono HSz.out))
  have HZ := Lib.hid hzf
  clear hh1 ht1 hb1 hs1 HK H0 HB0 HS0 HSz
  have hz64 : zs.length ≤ 64 := h64
  have HCK := Lib.hid (chk_of hzf h1 h64)
  have HLo := Lib.hid (longs_of hzf h64)
  have HTX := fun W h => Lib.hid (Text_any ra zs W (chk_of hzf h1 h64) h)
  unfold StrErr at HTX
  obtain ⟨tx, htx⟩ : ∃ tx : ByteArray, (⟨(textOk zs).toArray⟩ : ByteArray) = tx := ⟨_, rfl⟩
  have htl : tx.data.toList = textOk zs := by rw [← htx]
  rw [htx] at HTX
  have hts : tx.size ≤ 600 := by rw [size_of htl]; exact textOk_len hzf h64
  have HPT := fun W => Lib.hid (Parse_any W tx (zs.length : Int) (.ok zs) (by omega) (by omega) (by omega) (text_read hzf h1 h64 htl (by omega)))
  clear htx htl hzf
  obtain ⟨Aa, ca, rfl⟩ : ∃ A c, ra = .slice A zs.length c := by obtain ⟨A, c, e, _⟩ := HA.out; exact ⟨A, c, e⟩
  go_wp2_with fail
  refine ((HTX _ HA.out).out).mono ?_
  rintro e w2 ⟨rfl, hb⟩
  replace HA := Lib.hid ((HA.out.below hb).more hb.size)
  replace HB := Lib.hid (HB.out.trans (hb.mono HB.out.size))
  clear hb HTX
  go_wp2_with fail
  refine ((HPT _).out).mono ?_
  rintro e w3 ⟨vp, rfl, hvp, hb⟩
  replace HA := Lib.hid ((HA.out.below hb).more hb.size)
  replace HB := Lib.hid (HB.out.trans (hb.mono HB.out.size))
  have hal := (Below.refl w3.heap.size w3).alloc (Nat.le_refl _) (.cells #[.int .i64 0, .int .i64 0] 45)
  have HF := Lib.hid (Row.new w3 45 #[.int .i64 0, .int .i64 0])
  replace HA := Lib.hid ((HA.out.below hal).more hal.size)
  have HVP := Lib.hid ((hvp.below hal).more hal.size)
  replace HB := Lib.hid (HB.out.trans (hal.mono HB.out.size))
  obtain ⟨Ap, cp, rfl⟩ : ∃ A c, vp = .slice A zs.length c := by obtain ⟨A, c, e, _⟩ := hvp; exact ⟨A, c, e⟩
  clear hb hvp hal HPT
  go_wp2_with fail
  have HCY := Lib.hid (Cycles_any (.slice Aa zs.length ca) zs _ (by omega) HA.out)
  rw [HCK.out, show cyclesV zs = (cycs zs).filter fun c => decide (1 < c.length) by unfold cyclesV; rw [if_pos HCK.out]; rfl] at HCY
  refine (HCY.out).mono ?_
  rintro e w4 ⟨rc, ps, rfl, hb, hls, hps⟩
  replace HA := Lib.hid ((HA.out.below hb).more hb.size)
  replace HVP := Lib.hid ((HVP.out.below hb).more hb.size)
  replace HB := Lib.hid (HB.out.trans (hb.mono HB.out.size))
  have hF : Row w4 w3.heap.size 45 #[.int .i64 0, .int .i64 0] := Row.below HF.out hb (Row.lt HF.out)
  have hc0 := hF.cell (i := 0) rfl
  have hc1 := hF.cell (i := 1) rfl
  have HLS := Lib.hid hls
  have HPS := Lib.hid hps
  obtain ⟨Ac, cc, rfl⟩ := hls.formN
  clear hb hls hps HCY HF hF HCK
  generalize (cycs zs).filter (fun c => decide (1 < c.length)) = cs at HLo HPS
  go_wp2_with fail
  have HSM := Lib.hid (sameRn zs (.slice Ap zs.length cp) (.slice Aa zs.length ca) _ (by omega) HVP.out HA.out)
  refine (HSM.out).mono ?_
  rintro e w5 ⟨rfl, k0, hk0⟩
  have hb : Below w4.heap.size w4 w5 := by rw [hk0]; exact drawB (Below.refl _ _) _
  replace HA := Lib.hid ((HA.out.below hb).more hb.size)
  replace HB := Lib.hid (HB.out.trans (hb.mono HB.out.size))
  replace HLS := Lib.hid (HLS.out.growN hb)
  clear hb hk0 HSM HVP hc0 hc1
  go_wp2_with fail
  refine (kitOne_any zs.length _ (by omega)).mono ?_
  rintro e w6 ⟨vo, rfl, ho, hb⟩
  have HW0 := Lib.hid (show ∃ P : PL zs.length, P.1 = joins (idL zs.length) (cs.take 0) ∧ Ints w6 w6.heap.size vo P.1 from ⟨pone zs.length, rfl, ints_of_own (zs := idL zs.length) ho rfl⟩)
  replace HA := Lib.hid ((HA.out.below hb).more hb.size)
  replace HB := Lib.hid (HB.out.trans (hb.mono HB.out.size))
  replace HLS := Lib.hid (HLS.out.growN hb)
  clear hb ho
  have HPL := Lib.hid (show ps.length = cs.length by rw [← HPS.out]; simp)
  have hp64 : ps.length ≤ 64 := by rw [HPL.out]; exact HLo.out.count hz64
  go_wp2_with fail
  go_loopw [12, 13] (fun vw i wr => ∃ k : Nat, i = .int .i64 k ∧ k ≤ ps.length ∧ Hid (∃ P : PL zs.length, P.1 = joins (idL zs.length) (cs.take k) ∧ Ints wr wr.heap.size vw P.1) ∧ Hid (Lists2 wr wr.heap.size (.slice Ac ps.length cc) ps) ∧ Hid (Ints wr wr.heap.size (.slice Aa zs.length ca) zs) ∧ Hid (Below w.heap.size w wr)) (fun _ i _ => ps.length - (intOf i).toNat)
  case atStart => exact ⟨0, rfl, Nat.zero_le _, HW0.out, HLS.out, HA.out, HB.out⟩
  case round =>
    obtain ⟨k, rfl, hk, HW, HLk, HAk, HBk⟩ := hrel
    rename World => W0
    clear HW0 HLS HA HB
    by_cases hlt : k < ps.length
    · obtain ⟨b, o, c1, A1, c2, pt, e1, hbB, hpt, hp1, hcell, hin⟩ := HLk.out.atN hlt
      injection e1 with f1 f2 f3
      subst f1; subst f3
      clear f2
      have hkc : k < cs.length := by have := HPL.out; omega
      have hck : cs[k] = pt.2 := by
        have h5 : cs[k]? = some pt.2 := by rw [← HPS.out]; simp [hpt]
        rw [List.getElem?_eq_getElem hkc] at h5
        injection h5
      have hC := HLo.out.cl _ (List.getElem_mem hkc)
      have hnd := HLo.out.nodup (List.getElem_mem hkc)
      obtain ⟨Q, hQ⟩ : ∃ Q : PL zs.length, Q.1 = joinL (idL zs.length) cs[k] := ⟨⟨joinL (idL zs.length) cs[k], by rw [joinL, joinTo_length, idL_len], one_fine HZ.out hC hnd⟩, rfl⟩
      have HSTEP := Lib.hid (fun (P : PL zs.length) (hP : P.1 = joins (idL zs.length) (cs.take k)) => whole_step HLo.out hkc hP hQ)
      rw [hck] at hQ hC hnd
      have HPT := fun (t : ByteArray) (ht : t.data.toList = 40 :: ptsT pt.2) (hts : t.size ≤ 20000) (W : World) => Lib.hid (Parse_any W t (zs.length : Int) (.ok Q.1) (by omega) (by omega) (by omega) (by rw [hQ]; exact one_read h1 hz64 ht hts hC.2.1 hnd))
      have hcl : pt.2.length ≤ 64 := Nat.le_trans (nodup_lenD _ _ hnd hC.2.1) hz64
      obtain ⟨bi, oi, ci, hv2, hbi, hci⟩ := hin.at_ hC.1
      rw [hv2] at hp1
      injection hp1 with q1 q2 q3
      subst q1; subst q3
      have HCI := Lib.hid hci
      have HG := Lib.hid hC.2.1
      have HCL := Lib.hid (innB_close pt.2)
      have HD0 := Lib.hid (show (⟨#[40]⟩ : ByteArray).data.toList = innB pt.2 0 by simp [innB])
      clear hpt hck hC hnd hci hin hv2 q2 hQ hbB hbi
      generalize pt.2 = cl at hcell hcl HCI HG HCL HD0 HPT
      go_wp2_with fail
      go_loopw [14, 15] (fun s i wr => ∃ (j : Nat) (u : ByteArray), i = .int .i64 j ∧ j ≤ cl.length ∧ s = .string u ∧ Hid (u.data.toList = innB cl j) ∧ W0 = wr) (fun _ i _ => cl.length - (intOf i).toNat)
      case atStart => exact ⟨0, _, rfl, Nat.zero_le _, rfl, HD0.out, rfl⟩
      case round =>
        obtain ⟨j, u, rfl, hj, rfl, HU, hWW⟩ := hrel
        subst hWW
        have hus : u.size ≤ 200 := by
          rw [size_of HU.out]
          have := innB_len cl j hj
          omega
        by_cases hjl : j < cl.length
        · have hcj := HCI.out j hjl
          obtain ⟨r0, r1⟩ := HG.out _ (getD_mem hjl)
          have HIS := Lib.hid (innB_succ hjl)
          generalize cl.getD j 0 = x at r0 r1 hcj HIS
          obtain ⟨q, rfl⟩ : ∃ q : Nat, x = (q : Int) := ⟨x.toNat, by omega⟩
          rw [Int.toNat_natCast] at HIS
          have HDc := fun W => Lib.hid (dec_anyD q (by omega) W)
          have hadd1 := fun W : World => run_string_add_sum (P := Tryd.prog) W u ⟨#[32]⟩ (by have : (⟨#[32]⟩ : ByteArray).size = 1 := rfl; omega)
          have HU1 := Lib.hid (show (u ++ ⟨#[32]⟩).data.toList = innB cl j ++ [32] from cat_listD HU.out rfl)
          have hus1 : (u ++ ⟨#[32]⟩).size ≤ 300 := by rw [ByteArray.size_append]; have : (⟨#[32]⟩ : ByteArray).size = 1 := rfl; omega
          generalize u ++ ⟨#[32]⟩ = u1 at hadd1 HU1 hus1
          have hadd2 := fun (s : ByteArray) (hs : s.size ≤ 8) (W : World) => Lib.hid (run_string_add_sum (P := Tryd.prog) W u1 s (by omega))
          clear hus hus1 HU HPT
          have hx0 : ¬ (q : Int) < 0 := by omega
          have hx1 : ¬ (zs.length : Int) ≤ (q : Int) := by omega
          go_wp2_with fail
          refine ((HDc _).out).mono ?_
          rintro e w5' ⟨s, rfl, hs1, hs2, hww⟩
          subst hww
          have ha := fun W => (hadd2 s hs2 W).out
          have HX : Hid ((u1 ++ s).data.toList = innB cl (j + 1)) := by
            have := cat_listD HU1.out hs1
            show _ = _
            rw [this, HIS.out]
          clear hs1 hs2 hadd2 hadd1
          generalize u1 ++ s = u2 at ha HX
          go_wp2_with fail
          go_roundw
          case rel => exact ⟨j + 1, u2, by go_num, by omega, rfl, HX, by trivial⟩
          case measure => simp [intOf]; omega
        · have hjj : j = cl.length := by omega
          rw [hjj] at HU
          have hadd3 := fun W : World => run_string_add_sum (P := Tryd.prog) W u ⟨#[41]⟩ (by have : (⟨#[41]⟩ : ByteArray).size = 1 := rfl; omega)
          have hX : (u ++ ⟨#[41]⟩).data.toList = 40 :: ptsT cl := by
            have h5 := cat_listD (b := ⟨#[41]⟩) (m := [41]) HU.out rfl
            rw [h5, HCL.out]
          have HQT := HPT _ hX (by rw [ByteArray.size_append]; have : (⟨#[41]⟩ : ByteArray).size = 1 := rfl; omega)
          clear hus HU hX hjj HPT HCI HD0
          generalize u ++ ⟨#[41]⟩ = u3 at hadd3 HQT
          go_wp2_with fail
          refine ((HQT _).out).mono ?_
          rintro e w8 ⟨vq, rfl, hvq, hb⟩
          obtain ⟨P, hP1, hP2⟩ := HW.out
          have hal := (Below.refl w8.heap.size w8).alloc (Nat.le_refl _) (.cells #[.int .i64 0, .int .i64 0] 45)
          have hP3 := (hP2.below hb).more hb.size
          have HP3 := Lib.hid ((hP3.below hal).more hal.size)
          have HP1 := Lib.hid hP1
          have hA3 := (HAk.out.below hb).more hb.size
          have HA3 := Lib.hid ((hA3.below hal).more hal.size)
          have HL3 := Lib.hid ((HLk.out.growN hb).growN hal)
          have HB3 := Lib.hid ((HBk.out.trans (hb.mono HBk.out.size)).trans (hal.mono (Nat.le_trans HBk.out.size hb.size)))
          have HQ3 := Lib.hid ((hvq.below hal).more hal.size)
          have hfn := Row.new w8 45 #[.int .i64 0, .int .i64 0]
          have hc0 := hfn.cell (i := 0) rfl
          have hc1 := hfn.cell (i := 1) rfl
          have hQl := Q.2.1
          obtain ⟨bq, oq, cq, rfl, hbq, hcq⟩ := HQ3.out.at_ (by rw [hQl]; omega)
          have HFn := Lib.hid (kitFine_walk bq oq cq Q.1 _ (by rw [hQl]; omega) (by rw [hQl]; exact hz64) hbq hcq)
          rw [show fineB Q.1 = true from decide_eq_true Q.2.2] at HFn
          rw [hQl] at HFn HQ3 ⊢
          clear hb hal hP3 hA3 hvq hfn hP1 hP2 hcq hQl HQT HW HAk HLk HBk hadd3
          go_wp2_with fail
          refine (HFn.out).mono ?_
          rintro e w9 ⟨rfl, hb⟩
          replace HP3 := Lib.hid ((HP3.out.below hb).more hb.size)
          replace HA3 := Lib.hid ((HA3.out.below hb).more hb.size)
          replace HL3 := Lib.hid (HL3.out.growN hb)
          replace HQ3 := Lib.hid ((HQ3.out.below hb).more hb.size)
          replace HB3 := Lib.hid (HB3.out.trans (hb.mono HB3.out.size))
          clear hb HFn hc0 hc1
          go_wp2_with fail
          have HML := Lib.hid (kitMul_any Q P _ _ _ h1 hz64 HQ3.out HP3.out)
          refine (HML.out).mono ?_
          rintro e w10 ⟨vr, rfl, hr, hb⟩
          have HR := Lib.hid hr
          replace HA3 := Lib.hid ((HA3.out.below hb).more hb.size)
          replace HL3 := Lib.hid (HL3.out.growN hb)
          replace HB3 := Lib.hid (HB3.out.trans (hb.mono HB3.out.size))
          clear hb hr HML HP3 HQ3
          go_wp2_with fail
          go_roundw
          case rel => exact ⟨k + 1, by go_num, by omega, ⟨pmul Q P, HSTEP.out P HP1.out, HR.out⟩, HL3.out, HA3.out, HB3.out⟩
          case measure => simp [intOf]; omega
    · have hkk : k = ps.length := by omega
      obtain ⟨P, hP1, hP2⟩ := HW.out
      rw [hkk, HPL.out, List.take_length, HLo.out.all] at hP1
      rw [hP1] at hP2
      have HSM := Lib.hid (sameRn zs _ (.slice Aa zs.length ca) _ (by omega) hP2 HAk.out)
      clear hkk hP1 hP2 HW
      go_wp2_with fail
      refine (HSM.out).mono ?_
      rintro e w7 ⟨rfl, k0, hk0⟩
      have HX := Lib.hid (show Below w.heap.size w w7 by rw [hk0]; exact drawB HBk.out _)
      clear hk0 HSM
      go_wp2_with fail
      go_ret
      exact ⟨rfl, HX.out⟩
end Go.Proofs.YtpchomhfpfpckaaDoor
