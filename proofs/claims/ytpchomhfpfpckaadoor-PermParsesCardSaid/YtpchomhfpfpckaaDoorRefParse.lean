/- The reference's Parse. -/
import Derived.Test.YtpchomhfpfpckaaDoorPRefP
namespace Go.Proofs.YtpchomhfpfpckaaDoor
open Go Go.RowKit

set_option maxRecDepth 100000 in
set_option maxHeartbeats 4000000 in
theorem refParse_any (w : World) (s : ByteArray) (n : Int) (o : POut) (hn0 : -9223372036854775808 ≤ n) (hn1 : n ≤ 9223372036854775807) (hs : s.size ≤ 9223372036854775807) (ho : ParseO s n o) :
    Calls Tryd.prog 50 #[.string s, .int .i64 n] w (ParsePost w o) := by
  have hfr := Row.new w 45 #[.int .i64 0, .int .i64 0]
  have hbe : Below w.heap.size w (w.alloc (.cells #[.int .i64 0, .int .i64 0] 45)) := (Below.refl _ w).alloc (Nat.le_refl _) _
  unfold ParseO at ho
  by_cases hbad : n < 1 ∨ 64 < n
  · rw [if_pos hbad] at ho
    subst ho
    have HF := Lib.hid (fail_any 2 0 (w.alloc (.cells #[.int .i64 0, .int .i64 0] 45)))
    have HFR := Lib.hid hfr
    have HBE := Lib.hid hbe
    clear hfr hbe
    rcases hbad with hlt | hgt
    · go_enter Tryd.func50, Tryd.ntmps50
      go_wp2_with fail
      refine HF.out.mono ?_
      rintro e' W3 ⟨rfl, hbl⟩
      have hb2 : Below w.heap.size w W3 := HBE.out.trans (hbl.mono (by simp))
      have hf2 : Row W3 w.heap.size 45 #[.int .i64 0, .int .i64 0] := Row.below HFR.out hbl (by simp)
      clear hbl
      have hz0 := hf2.frozen 0
      have hz1 := hf2.frozen 1
      have hy0 := hf2.cell (i := 0) rfl
      have hy1 := hf2.cell (i := 1) rfl
      have HRS := Lib.hid (paRes (a := .int .i64 2) (b := .int .i64 0) hb2 hf2)
      clear hb2 hf2
      go_wp2_with fail
      obtain ⟨k2, k3⟩ := HRS.out
      have hc0 := k3.cell (i := 0) rfl
      have hc1 := k3.cell (i := 1) rfl
      refine bodyPost_ret (v := .tuple #[.slice none 0 0, .agg #[.int .i64 2, .int .i64 0]]) ?_ rfl ⟨rfl, k2⟩
      simp [results, Tryd.results50, go_sem, hc0, hc1]
    · have hlt : ¬ n < 1 := by omega
      go_enter Tryd.func50, Tryd.ntmps50
      go_wp2_with fail
      refine HF.out.mono ?_
      rintro e' W3 ⟨rfl, hbl⟩
      have hb2 : Below w.heap.size w W3 := HBE.out.trans (hbl.mono (by simp))
      have hf2 : Row W3 w.heap.size 45 #[.int .i64 0, .int .i64 0] := Row.below HFR.out hbl (by simp)
      clear hbl
      have hz0 := hf2.frozen 0
      have hz1 := hf2.frozen 1
      have hy0 := hf2.cell (i := 0) rfl
      have hy1 := hf2.cell (i := 1) rfl
      have HRS := Lib.hid (paRes (a := .int .i64 2) (b := .int .i64 0) hb2 hf2)
      clear hb2 hf2
      go_wp2_with fail
      obtain ⟨k2, k3⟩ := HRS.out
      have hc0 := k3.cell (i := 0) rfl
      have hc1 := k3.cell (i := 1) rfl
      refine bodyPost_ret (v := .tuple #[.slice none 0 0, .agg #[.int .i64 2, .int .i64 0]]) ?_ rfl ⟨rfl, k2⟩
      simp [results, Tryd.results50, go_sem, hc0, hc1]
  · rw [if_neg hbad] at ho
    obtain ⟨k, rfl⟩ : ∃ k : Nat, n = (k : Int) := ⟨n.toNat, by omega⟩
    have h1 : 1 ≤ k := by omega
    have h64 : k ≤ 64 := by omega
    have hnl : ¬ (k : Int) < 1 := by omega
    have hng : ¬ 64 < (k : Int) := by omega
    rw [Int.toNat_natCast] at ho
    clear hbad hn0 hn1
    by_cases hbig : 20000 < s.size
    · rw [if_pos hbig] at ho
      subst ho
      have HF := Lib.hid (fail_any 4 20000 (w.alloc (.cells #[.int .i64 0, .int .i64 0] 45)))
      have HFR := Lib.hid hfr
      have HBE := Lib.hid hbe
      have hbg : (20000 : Int) < (s.size : Int) := by omega
      clear hfr hbe
      go_enter Tryd.func50, Tryd.ntmps50
      go_wp2_with fail
      refine HF.out.mono ?_
      rintro e' W3 ⟨rfl, hbl⟩
      have hb2 : Below w.heap.size w W3 := HBE.out.trans (hbl.mono (by simp))
      have hf2 : Row W3 w.heap.size 45 #[.int .i64 0, .int .i64 0] := Row.below HFR.out hbl (by simp)
      clear hbl
      have hz0 := hf2.frozen 0
      have hz1 := hf2.frozen 1
      have hy0 := hf2.cell (i := 0) rfl
      have hy1 := hf2.cell (i := 1) rfl
      have HRS := Lib.hid (paRes (a := .int .i64 4) (b := .int .i64 20000) hb2 hf2)
      clear hb2 hf2
      go_wp2_with fail
      obtain ⟨k2, k3⟩ := HRS.out
      have hc0 := k3.cell (i := 0) rfl
      have hc1 := k3.cell (i := 1) rfl
      refine bodyPost_ret (v := .tuple #[.slice none 0 0, .agg #[.int .i64 4, .int .i64 20000]]) ?_ rfl ⟨rfl, k2⟩
      simp [results, Tryd.results50, go_sem, hc0, hc1]
    · rw [if_neg hbig] at ho
      have hsl : s.size ≤ 20000 := by omega
      have hbg : ¬ (20000 : Int) < (s.size : Int) := by omega
      obtain ⟨i0, hi0, hz0, hz1, hz2⟩ := info_parts info3'
      obtain ⟨p0, hp0⟩ := skp_ex s _ 0 (Nat.le_refl _) (Nat.zero_le _)
      have HO := Lib.hid (ho.skip _ _ _ (Nat.le_refl _) hp0)
      have HP0 := Lib.hid hp0
      have hps : p0 ≤ s.size := hp0.2.1
      have HSK := Lib.hid (fun W => skip_any W s 0 p0 hsl hp0)
      have HON := Lib.hid (kitOne_any k (w.alloc (.cells #[.int .i64 0, .int .i64 0] 45)) (by omega))
      have HFR := Lib.hid hfr
      have HBE := Lib.hid hbe
      clear hfr hbe ho hbig hp0
      go_enter Tryd.func50, Tryd.ntmps50
      go_wp2_with fail
      refine HON.out.mono ?_
      rintro e' W3 ⟨v, rfl, how, hbl⟩
      have hI0 : (w.alloc (.cells #[.int .i64 0, .int .i64 0] 45)).heap.size = w.heap.size + 1 := by simp
      rw [hI0] at how hbl
      unfold OwnsI at how
      obtain ⟨I, c, rfl, hTI, him⟩ := (heldR_of (T := w.heap.size) how (by rw [idL_len]; omega) (by omega)).img
      rw [idL_len] at him
      have hIS := him.lt
      have hst : RfC w I W3.heap.size k (idL k) [] (.slice none 0 0) [] (W3.alloc (.cells (marksLN k []) 4)) :=
        ⟨him.keep ((World.grownBy_alloc W3 _ none).block I him.lt (by simp)), Row.new _ _ _, Row.alloc (Row.below HFR.out hbl (by omega)) _, World.ownsRow_nil _ _ _ _, (HBE.out.trans (hbl.mono (by omega))).alloc (by have := hbl.size; have := HBE.out.size; omega) _⟩
      have HST := Lib.hid hst
      have hmk := make_seen k h64 W3
      have hlen : (idL k).length = k := idL_len k
      clear hst him how hbl HON HFR HBE hI0
      rw [hlen]
      clear hlen
      go_wp2_with fail
      refine (HSK.out _).mono ?_
      rintro e' W4 ⟨rfl, rfl⟩
      go_wp2_with fail
      clear hmk HSK
      have hSS : w.heap.size < W3.heap.size := by omega
      generalize W3.heap.size = S at hIS HST hSS ⊢
      go_loopg [8] (s.size - p0) (fun gk i wr => ∃ (q : Nat) (u m : List Int), i = .int .i64 q ∧ gk = s.size - q ∧ q ≤ s.size ∧ Hid (chB s q ≠ 32) ∧ Hid (ParR s k q u m o) ∧ Hid (RfC w I S k m u (.slice none 0 0) [] wr))
      case atStart => exact ⟨p0, [], idL k, rfl, rfl, hps, HP0.out.2.2.2, HO.out, HST.out⟩
      case round =>
        obtain ⟨q, u, m, rfl, rfl, hq, HN32, HPA, HS⟩ := hrel
        rename World => W0
        clear HST HO
        by_cases hqs : q < s.size
        · have hd3 : (q : Int) < (s.size : Int) := by omega
          have hch := chB_in hqs
          by_cases h40 : chB s q = 40
          · obtain ⟨oc, hoc, hlink⟩ := par_open HPA.out h40
            have f40 : (s[q].toNat : Int) = 40 := by rw [← hch]; exact h40
            have e40 : ((s[q].toNat : Int) == 40) = true := by simpa using f40
            obtain ⟨p1, hp1⟩ := skp_ex s _ (q + 1) (Nat.le_refl _) (by omega)
            have HC := Lib.hid (hoc.skip _ _ _ (Nat.le_refl _) hp1)
            have HP1 := Lib.hid hp1
            have hps1 : p1 ≤ s.size := hp1.2.1
            have hqp1 : q + 1 ≤ p1 := hp1.1
            have HSK := Lib.hid (fun W => skip_any W s (q + 1) p1 hsl hp1)
            have HLK := Lib.hid hlink
            have hq1 : ((q + 1 : Nat) : Int) = (q : Int) + 1 := by omega
            rw [hq1] at HSK
            clear hoc hlink hp1 hch h40 hq1
            go_wp2_with fail
            refine (HSK.out _).mono ?_
            rintro e' W5 ⟨rfl, rfl⟩
            go_wp2_with fail
            clear HSK
            go_loopg [8, 9] (s.size - p1) (fun gk i pts wr' => ∃ (q1 : Nat) (u1 cl : List Int), i = .int .i64 q1 ∧ gk = s.size - q1 ∧ q1 ≤ s.size ∧ q + 1 ≤ q1 ∧ Hid (chB s q1 ≠ 32) ∧ Hid (CycR s k q1 u1 cl oc) ∧ Hid (InR k cl) ∧ cl.length ≤ q1 ∧ Hid (RfC w I S k m u1 pts cl wr'))
            case atStart => exact ⟨p1, u, [], rfl, rfl, hps1, hqp1, HP1.out.2.2.2, HC.out, (fun x h => by cases h), Nat.zero_le _, HS.out⟩
            case round =>
              obtain ⟨q1, u1, cl, rfl, rfl, hq1, hqq, HN1, HC1, HIN, hcl, HS1⟩ := hrel
              rename World => W1
              clear HC HS HP1 HN32 HPA
              obtain ⟨Ap, cp, rfl⟩ := slice_of_own HS1.out.ow
              by_cases h41 : chB s q1 = 41
              · have hqs1 : q1 < s.size := chB_lt (by omega)
                obtain ⟨p2, hp2⟩ := skp_ex s _ (q1 + 1) (Nat.le_refl _) (by omega)
                have HPA2 : Hid (ParR s k p2 u1 (joinL m cl) o) := by
                  have h5 := HC1.out
                  cases h5 with
                  | close _ => exact ParR.skip _ _ _ (Nat.le_refl _) HLK.out hp2
                  | stop he => omega
                  | blank h _ => omega
                  | zero _ h _ => omega
                  | big hN _ => have h6 := hN.1.2.2.1 q1 (Nat.le_refl _) hN.2.1; unfold Dg at h6; omega
                  | double hN _ _ => have h6 := hN.1.2.2.1 q1 (Nat.le_refl _) hN.2.1; unfold Dg at h6; omega
                  | point hN _ _ _ => have h6 := hN.1.2.2.1 q1 (Nat.le_refl _) hN.2.1; unfold Dg at h6; omega
                  | other _ _ h _ => omega
                have hq1p : q1 + 1 ≤ p2 := hp2.1
                have hps2 : p2 ≤ s.size := hp2.2.1
                have HN2 : Hid (chB s p2 ≠ 32) := hp2.2.2.2
                have HSK2 := Lib.hid (fun W => skip_any W s (q1 + 1) p2 hsl hp2)
                have hq2 : ((q1 + 1 : Nat) : Int) = (q1 : Int) + 1 := by omega
                rw [hq2] at HSK2
                have hx : (q1 : Int) < (s.size : Int) := by omega
                have f41 : (s[q1].toNat : Int) = 41 := by rw [← chB_in hqs1]; exact h41
                have e41 : ((s[q1].toNat : Int) != 41) = false := by rw [f41]; decide
                have hdd1 : decide ((s.size : Int) ≤ (q1 : Int)) = false := by simp; omega
                have hdd2 : decide (s.size ≤ q1) = false := by simp; omega
                clear hp2 HC1 HN1 HLK hq2 h41
                go_wp2_with fail
                clear f41 e41 hdd1 hdd2
                go_loopw [12] (fun i wr' => ∃ j : Nat, i = .int .i64 j ∧ j ≤ cl.length ∧ Hid (RfC w I S k (joinTo m cl j) u1 (.slice Ap cl.length cp) cl wr')) (fun i _ => cl.length - (intOf i).toNat)
                case atStart => exact ⟨0, rfl, Nat.zero_le _, HS1.out⟩
                case round =>
                  obtain ⟨j, rfl, hj, HSJ⟩ := hrel
                  rename World => W2
                  clear HS1
                  by_cases hlt : j < cl.length
                  · have hii : Ints W2 W2.heap.size (.slice Ap cl.length cp) cl := ints_of_own HSJ.out.ow rfl
                    obtain ⟨b, o', c', hAp, hbl, hc⟩ := hii.at_ (by omega)
                    injection hAp with hA1 hA2 hA3
                    subst hA1
                    clear hA2
                    have hne : ¬ cl = [] := by intro e; rw [e] at hlt; simp at hlt
                    obtain ⟨t, ht⟩ : ∃ t, (j + 1) % cl.length = t := ⟨_, rfl⟩
                    have htl : t < cl.length := by rw [← ht]; exact Nat.mod_lt _ (by omega)
                    have hrem : ((j : Int) + 1) % (cl.length : Int) = (t : Int) := by rw [← ht]; simp
                    have hrem2 : ((j : Int) + 1).tmod (cl.length : Int) = (t : Int) := by rw [Int.tmod_eq_emod_of_nonneg (by omega)]; exact hrem
                    have hk0 := hc j hlt
                    have hk1 := hc t htl
                    have hmem : cl.getD j 0 ∈ cl := by simp [List.getD_eq_getElem?_getD, hlt]
                    obtain ⟨r0, r1⟩ := HIN _ hmem
                    have HJ := Lib.hid (show joinTo m cl (j + 1) = (joinTo m cl j).set (cl.getD j 0).toNat (cl.getD t 0) by rw [joinTo, ht])
                    clear hc hmem hii hA3
                    generalize cl.getD j 0 = x at hk0 r0 r1 HJ
                    generalize cl.getD t 0 = y at hk1 HJ
                    obtain ⟨z, rfl⟩ : ∃ z : Nat, x = (z : Int) := ⟨x.toNat, by omega⟩
                    rw [Int.toNat_natCast] at HJ
                    have hzn : z < k := by omega
                    have hfz := HSJ.out.im.frozen z
                    have hcz := HSJ.out.im.cell hzn
                    have hwr : IntKind.i64.wrap ((j : Int) + 1) = (j : Int) + 1 := IntWalk.i64_in _ (by omega)
                    have hI2 : w.heap.size < I := hTI
                    have HIM := Lib.hid ((HSJ.out.drewN 1).img hIS hTI hzn y)
                    clear ht HSJ
                    generalize (joinTo m cl j).getD z 0 = old at hcz
                    go_wp2_with fail
                    go_still_tail 14, (by kernel_rfl)
                    repeat still_step
                    change wpList _ _ _ _ _ W2.drew
                    go_wp2_with fail
                    go_roundw
                    case rel => exact ⟨j + 1, by go_num, by omega, by rw [HJ.out]; exact HIM.out⟩
                    case measure => simp [intOf]; omega
                  · have hjl : j = cl.length := by omega
                    rw [hjl] at HSJ
                    clear hjl
                    go_wp2_with fail
                    refine (HSK2.out _).mono ?_
                    rintro e' W6 ⟨rfl, hW6⟩
                    subst hW6
                    go_wp2_with fail
                    go_roundg (s.size - p2)
                    case measure => omega
                    case rel => exact ⟨p2, u1, joinL m cl, rfl, rfl, hps2, HN2, HPA2, HSJ.out.nil⟩
              · obtain ⟨e, hD⟩ := digs_ex s _ q1 (Nat.le_refl _) hq1
                have HERE := Lib.hid (cyc_here HC1.out HN1.out h41 hD)
                have HD := Lib.hid hD
                have hqe : q1 ≤ e := hD.1
                have hes : e ≤ s.size := hD.2.1
                have HDG := Lib.hid (fun W j (h : j ≤ s.size) => digit_any W s j hsl h)
                have hcase : (¬ (q1 : Int) < (s.size : Int)) ∨ ((q1 : Int) < (s.size : Int) ∧ ∃ h : q1 < s.size, ∃ b : Nat, s[q1].toNat = b ∧ ((b : Int) != 41) = true ∧ ¬ (b : Int) = 41) := by
                  by_cases hqs1 : q1 < s.size
                  · refine .inr ⟨by omega, hqs1, _, rfl, ?_, ?_⟩
                    · rw [← chB_in hqs1]
                      simpa using h41
                    · rw [← chB_in hqs1]
                      exact h41
                  · exact .inl (by omega)
                clear hD h41
                rcases hcase with hx | ⟨hx, hxs, b1, hxb, hxe, hxf⟩
                all_goals
                  go_wp2_with fail
                  go_loopw [8, 11] (fun i v wr => ∃ j : Nat, i = .int .i64 j ∧ q1 ≤ j ∧ j ≤ e ∧ v = .int .i64 (rv s q1 (j - q1)) ∧ wr = W1) (fun i _ _ => e - (intOf i).toNat)
                  case atStart => exact ⟨q1, rfl, Nat.le_refl _, hqe, by rw [Nat.sub_self]; rfl, rfl⟩
                  case round =>
                    obtain ⟨j, rfl, hj1, hj2, rfl, hWW⟩ := hrel
                    subst hWW
                    have HDj := Lib.hid (HDG.out wr j (by omega))
                    by_cases hlt : j < e
                    · have hjs : j < s.size := by omega
                      have hjs2 : (j : Int) < (s.size : Int) := by omega
                      have hdg := HD.out.2.2.1 j hj1 hlt
                      have hch := chB_in hjs
                      rw [show decide (Dg (chB s j)) = true from decide_eq_true hdg] at HDj
                      have hrs : rv s q1 (j + 1 - q1) = min (10 * rv s q1 (j - q1) + ((s[j].toNat : Int) - 48).toNat) 1000 := by
                        rw [show j + 1 - q1 = (j - q1) + 1 by omega, rv, show q1 + (j - q1) = j by omega, hch]
                      have hdg2 : 48 ≤ s[j].toNat ∧ s[j].toNat ≤ 57 := by rw [hch] at hdg; unfold Dg at hdg; omega
                      have hrl := rv_le s q1 (j - q1)
                      have HRS := Lib.hid hrs
                      clear hrs hdg hch
                      generalize rv s q1 (j - q1) = x at HRS hrl ⊢
                      obtain ⟨b, hbe⟩ : ∃ b, s[j].toNat = b := ⟨_, rfl⟩
                      rw [hbe] at HRS hdg2
                      obtain ⟨d, hbd⟩ : ∃ d, b = d + 48 := ⟨b - 48, by omega⟩
                      have hw1 : IntKind.u8.wrap ((b : Int) - 48) = (d : Int) := by rw [IntKind.wrap_u8]; omega
                      have hw2 : IntKind.i64.wrap (10 * (x : Int)) = 10 * (x : Int) := IntWalk.i64_in _ (by omega)
                      have hd9 : d ≤ 9 := by omega
                      have hwd : IntKind.i64.wrap (d : Int) = (d : Int) := IntWalk.i64_in _ (by omega)
                      have hws : IntKind.i64.wrap (10 * (x : Int) + (d : Int)) = 10 * (x : Int) + (d : Int) := IntWalk.i64_in _ (by omega)
                      have hw4 : IntKind.i64.wrap ((j : Int) + 1) = (j : Int) + 1 := IntWalk.i64_in _ (by omega)
                      have hif : (if (1000 : Int) < 10 * (x : Int) + (d : Int) then (1000 : Int) else 10 * (x : Int) + (d : Int)) = ((rv s q1 (j + 1 - q1) : Nat) : Int) := by
                        rw [HRS.out]
                        split <;> omega
                      generalize hY : rv s q1 (j + 1 - q1) = y at hif HRS
                      have HV := Lib.hid hY
                      have hmn : ∀ (ts : Array TypeId) (t : TypeId) (W : World), (Builtin.min_ ts t #[.int .i64 (10 * (x : Int) + (d : Int)), .int .i64 1000]).run Tryd.prog W = .ok (.int .i64 (y : Int)) W := fun ts t W => by
                        rw [run_min_int2, hif]
                      clear hbd hdg2 hY hif
                      go_wp2_with fail
                      refine HDj.out.mono ?_
                      rintro e' W2 ⟨rfl, rfl⟩
                      go_wp2_with fail
                      go_roundw
                      case rel => exact ⟨j + 1, by go_num, by omega, by omega, by rw [HV.out], trivial⟩
                      case measure => simp [intOf]; omega
                    · obtain rfl : j = e := by omega
                      rw [show decide (Dg (chB s j)) = false from decide_eq_false HD.out.2.2.2] at HDj
                      obtain ⟨g1, g2, g3, g4, g5⟩ := HERE.out
                      by_cases hjq : j = q1
                      · have HOO : Hid (o = .bad 11 q1) := by
                          have h5 := g1 hjq
                          rw [h5] at HLK
                          exact HLK.out
                        clear g1 g2 g3 g4 g5 hlt HERE
                        obtain rfl : q1 = j := hjq.symm
                        go_wp2_with fail
                        refine HDj.out.mono ?_
                        rintro e' W2 ⟨rfl, rfl⟩
                        go_wp2_with fail
                        with_reducible refine (fail_any 11 q1 _).mono ?_
                        rintro e' W3' ⟨rfl, hbl⟩
                        have hb2 : Below w.heap.size w W3' := HS1.out.be.trans (hbl.mono HS1.out.be.size)
                        have hf2 : Row W3' w.heap.size 45 #[.int .i64 0, .int .i64 0] := Row.below HS1.out.fr hbl (Row.lt HS1.out.fr)
                        clear hbl
                        have hz0' := hf2.frozen 0
                        have hz1' := hf2.frozen 1
                        have hy0 := hf2.cell (i := 0) rfl
                        have hy1 := hf2.cell (i := 1) rfl
                        have HRS := Lib.hid (paRes (a := .int .i64 11) (b := .int .i64 q1) hb2 hf2)
                        clear hb2 hf2
                        go_wp2_with fail
                        obtain ⟨k2, k3⟩ := HRS.out
                        have hc0 := k3.cell (i := 0) rfl
                        have hc1 := k3.cell (i := 1) rfl
                        refine bodyPost_ret (v := .tuple #[.slice none 0 0, .agg #[.int .i64 11, .int .i64 q1]]) ?_ rfl ?_
                        · simp [results, Tryd.results50, go_sem, hc0, hc1]
                        · rw [HOO.out]; exact ⟨rfl, k2⟩
                      · try (exfalso; omega)
                        all_goals
                          have hqs1 : q1 < s.size := by omega
                          try clear hxb hxe hxf
                          have hqj : q1 < j := by omega
                          have hje : ((j : Int) == (q1 : Int)) = false := by simp; omega
                          have hjf : ¬ (j : Int) = (q1 : Int) := by omega
                          obtain ⟨bz, hbz⟩ : ∃ b : Nat, s[q1].toNat = b := ⟨_, rfl⟩
                          have hcz : chB s q1 = (bz : Int) := by rw [chB_in hqs1, hbz]
                          by_cases hzz : chB s q1 = 48 ∧ q1 + 1 < j
                          · have HOO : Hid (o = .bad 11 q1) := by
                              have h5 := g2 hqj hzz.1 hzz.2
                              rw [h5] at HLK
                              exact HLK.out
                            have h48 : (bz : Int) = 48 := by rw [← hcz]; exact hzz.1
                            have h48e : ((bz : Int) == 48) = true := by simpa using h48
                            have hgt : (q1 : Int) + 1 < (j : Int) := by have := hzz.2; omega
                            clear g1 g2 g3 g4 g5 hlt hjq HERE hcz hzz h48
                            go_wp2_with fail
                            refine HDj.out.mono ?_
                            rintro e' W2 ⟨rfl, rfl⟩
                            go_wp2_with fail
                            with_reducible refine (fail_any 11 q1 _).mono ?_
                            rintro e' W3' ⟨rfl, hbl⟩
                            have hb2 : Below w.heap.size w W3' := HS1.out.be.trans (hbl.mono HS1.out.be.size)
                            have hf2 : Row W3' w.heap.size 45 #[.int .i64 0, .int .i64 0] := Row.below HS1.out.fr hbl (Row.lt HS1.out.fr)
                            clear hbl
                            have hz0' := hf2.frozen 0
                            have hz1' := hf2.frozen 1
                            have hy0 := hf2.cell (i := 0) rfl
                            have hy1 := hf2.cell (i := 1) rfl
                            have HRS := Lib.hid (paRes (a := .int .i64 11) (b := .int .i64 q1) hb2 hf2)
                            clear hb2 hf2
                            go_wp2_with fail
                            obtain ⟨k2, k3⟩ := HRS.out
                            have hc0 := k3.cell (i := 0) rfl
                            have hc1 := k3.cell (i := 1) rfl
                            refine bodyPost_ret (v := .tuple #[.slice none 0 0, .agg #[.int .i64 11, .int .i64 q1]]) ?_ rfl ?_
                            · simp [results, Tryd.results50, go_sem, hc0, hc1]
                            · rw [HOO.out]; exact ⟨rfl, k2⟩
                          · have hcase2 : (¬ (q1 : Int) + 1 < (j : Int)) ∨ ((q1 : Int) + 1 < (j : Int) ∧ ((bz : Int) == 48) = false ∧ ¬ (bz : Int) = 48) := by
                              by_cases h6 : q1 + 1 < j
                              · refine .inr ⟨by omega, ?_, ?_⟩
                                · rw [← hcz]
                                  simp
                                  exact fun h => hzz ⟨h, h6⟩
                                · rw [← hcz]
                                  exact fun h => hzz ⟨h, h6⟩
                              · exact .inl (by omega)
                            have G3 := Lib.hid (g3 hqj hzz)
                            have G4 := Lib.hid (g4 hqj hzz)
                            have G5 := Lib.hid (g5 hqj hzz)
                            clear g1 g2 g3 g4 g5 hlt hjq HERE hcz hzz
                            generalize rv s q1 (j - q1) = x at G3 G4 G5 ⊢
                            rcases hcase2 with hgt | ⟨hgt, h48e, h48⟩
                            all_goals
                              by_cases hkx : k ≤ x
                              · have HOO : Hid (o = .bad 2 q1) := by
                                  have h5 := G3.out hkx
                                  rw [h5] at HLK
                                  exact HLK.out
                                have hkx1 : (k : Int) ≤ (x : Int) := by omega
                                clear G3 G4 G5 hkx
                                go_wp2_with fail
                                refine HDj.out.mono ?_
                                rintro e' W2 ⟨rfl, rfl⟩
                                go_wp2_with fail
                                with_reducible refine (fail_any 2 q1 _).mono ?_
                                rintro e' W3' ⟨rfl, hbl⟩
                                have hb2 : Below w.heap.size w W3' := HS1.out.be.trans (hbl.mono HS1.out.be.size)
                                have hf2 : Row W3' w.heap.size 45 #[.int .i64 0, .int .i64 0] := Row.below HS1.out.fr hbl (Row.lt HS1.out.fr)
                                clear hbl
                                have hz0' := hf2.frozen 0
                                have hz1' := hf2.frozen 1
                                have hy0 := hf2.cell (i := 0) rfl
                                have hy1 := hf2.cell (i := 1) rfl
                                have HRS := Lib.hid (paRes (a := .int .i64 2) (b := .int .i64 q1) hb2 hf2)
                                clear hb2 hf2
                                go_wp2_with fail
                                obtain ⟨k2, k3⟩ := HRS.out
                                have hc0 := k3.cell (i := 0) rfl
                                have hc1 := k3.cell (i := 1) rfl
                                refine bodyPost_ret (v := .tuple #[.slice none 0 0, .agg #[.int .i64 2, .int .i64 q1]]) ?_ rfl ?_
                                · simp [results, Tryd.results50, go_sem, hc0, hc1]
                                · rw [HOO.out]; exact ⟨rfl, k2⟩
                              · have hkx1 : ¬ (k : Int) ≤ (x : Int) := by omega
                                have hxk : x < k := by omega
                                have hcx := Row.cell HS1.out.sn (marksLN_get u1 x hxk)
                                have hfx := Row.frozen HS1.out.sn x
                                by_cases hm : (x : Int) ∈ u1
                                · have HOO : Hid (o = .bad 8 q1) := by
                                    have h5 := G4.out hkx hm
                                    rw [h5] at HLK
                                    exact HLK.out
                                  rw [decide_eq_true hm] at hcx
                                  clear G3 G4 G5 hkx hm
                                  go_wp2_with fail
                                  refine HDj.out.mono ?_
                                  rintro e' W2 ⟨rfl, rfl⟩
                                  go_wp2_with fail
                                  with_reducible refine (fail_any 8 q1 _).mono ?_
                                  rintro e' W3' ⟨rfl, hbl⟩
                                  have hb2 : Below w.heap.size w W3' := HS1.out.be.trans (hbl.mono HS1.out.be.size)
                                  have hf2 : Row W3' w.heap.size 45 #[.int .i64 0, .int .i64 0] := Row.below HS1.out.fr hbl (Row.lt HS1.out.fr)
                                  clear hbl
                                  have hz0' := hf2.frozen 0
                                  have hz1' := hf2.frozen 1
                                  have hy0 := hf2.cell (i := 0) rfl
                                  have hy1 := hf2.cell (i := 1) rfl
                                  have HRS := Lib.hid (paRes (a := .int .i64 8) (b := .int .i64 q1) hb2 hf2)
                                  clear hb2 hf2
                                  go_wp2_with fail
                                  obtain ⟨k2, k3⟩ := HRS.out
                                  have hc0 := k3.cell (i := 0) rfl
                                  have hc1 := k3.cell (i := 1) rfl
                                  refine bodyPost_ret (v := .tuple #[.slice none 0 0, .agg #[.int .i64 8, .int .i64 q1]]) ?_ rfl ?_
                                  · simp [results, Tryd.results50, go_sem, hc0, hc1]
                                  · rw [HOO.out]; exact ⟨rfl, k2⟩
                                · have HGN := Lib.hid (G5.out hkx hm)
                                  rw [decide_eq_false hm] at hcx
                                  clear G3 G4 G5 hkx hm
                                  obtain ⟨p2, hp2⟩ := skp_ex s _ j (Nat.le_refl _) hes
                                  have HGN2 := Lib.hid (HGN.out.skip _ _ _ (Nat.le_refl _) hp2)
                                  have hjp2 : j ≤ p2 := hp2.1
                                  have hps2 : p2 ≤ s.size := hp2.2.1
                                  have HN2 : Hid (chB s p2 ≠ 32) := hp2.2.2.2
                                  have HSK2 := Lib.hid (fun W => skip_any W s j p2 hsl hp2)
                                  have hMk := HS1.out.mark (by omega) (by omega) x
                                  have HMK := Lib.hid hMk
                                  have HO2 := Lib.hid (World.ownsRow.alloc hMk.ow (.cells #[.int .i64 (x : Int)] 3))
                                  have hsz := hMk.be.size
                                  have hSw := Row.lt hMk.sn
                                  clear hp2 HGN hMk
                                  go_wp2_with fail
                                  refine HDj.out.mono ?_
                                  rintro e' W2 ⟨rfl, rfl⟩
                                  go_wp2_with (at_builtin; refine wpList_append_own _ rfl (.tmp 116) (.tmp 118) 23 rfl (S + 1) 3 i0 (.int .i64 0) 1 8 Tryd.underlying23 hi0 hz0 hz1 hz2 rfl (by decide) _ _ _ rfl HO2.out ⟨W2.heap.size, 0, none⟩ 1 1 [.int .i64 (x : Int)] rfl rfl (cell_at0 _ _ _ (by simp)) (by simp [Value.oneCell']) (by unfold maxLen; omega) (by omega) (by simp at hsz hSw ⊢; omega) ?_; intro v1 w4 hown' hgrow _; have HX := Lib.hid (HMK.out.app (by omega) (by omega) hgrow hown'); clear hown' hgrow)
                                  refine (HSK2.out _).mono ?_
                                  rintro e' W6 ⟨rfl, hW6⟩
                                  subst hW6
                                  go_wp2_with fail
                                  go_roundg (s.size - p2)
                                  case measure => omega
                                  case rel => exact ⟨p2, u1 ++ [(x : Int)], cl ++ [(x : Int)], rfl, rfl, hps2, by omega, HN2, HGN2.out, (fun y hy => by
                                    rcases List.mem_append.1 hy with hy | hy
                                    · exact HIN y hy
                                    · rw [List.mem_singleton] at hy
                                      subst hy
                                      omega), by simp; omega, HX.out⟩
          · have HOO : Hid (o = .bad 11 q) := by
              have h5 := HPA.out
              cases h5 with
              | stop he => omega
              | blank h _ => exact absurd h HN32.out
              | bad h _ => exact absurd h h40
              | good h _ _ => exact absurd h h40
              | other _ _ _ => rfl
            have f40 : ¬ (s[q].toNat : Int) = 40 := by rw [← hch]; exact h40
            have e40 : ((s[q].toNat : Int) != 40) = true := by simpa using f40
            clear hch h40 HPA
            go_wp2_with fail
            with_reducible refine (fail_any 11 q _).mono ?_
            rintro e' W3' ⟨rfl, hbl⟩
            have hb2 : Below w.heap.size w W3' := HS.out.be.trans (hbl.mono HS.out.be.size)
            have hf2 : Row W3' w.heap.size 45 #[.int .i64 0, .int .i64 0] := Row.below HS.out.fr hbl (Row.lt HS.out.fr)
            clear hbl
            have hz0' := hf2.frozen 0
            have hz1' := hf2.frozen 1
            have hy0 := hf2.cell (i := 0) rfl
            have hy1 := hf2.cell (i := 1) rfl
            have HRS := Lib.hid (paRes (a := .int .i64 11) (b := .int .i64 q) hb2 hf2)
            clear hb2 hf2
            go_wp2_with fail
            obtain ⟨k2, k3⟩ := HRS.out
            have hc0 := k3.cell (i := 0) rfl
            have hc1 := k3.cell (i := 1) rfl
            refine bodyPost_ret (v := .tuple #[.slice none 0 0, .agg #[.int .i64 11, .int .i64 q]]) ?_ rfl ?_
            · simp [results, Tryd.results50, go_sem, hc0, hc1]
            · rw [HOO.out]; exact ⟨rfl, k2⟩
        · have hqe : q = s.size := by omega
          have hoo : o = .ok m := by
            have h5 := HPA.out
            cases h5 with
            | stop _ => rfl
            | blank h _ => rw [chB_out (by omega)] at h; omega
            | bad h _ => rw [chB_out (by omega)] at h; omega
            | good h _ _ => rw [chB_out (by omega)] at h; omega
            | other h _ _ => omega
          subst hoo
          have hd3 : ¬ (q : Int) < (s.size : Int) := by omega
          have hz0' := HS.out.fr.frozen 0
          have hz1' := HS.out.fr.frozen 1
          have hy0 := HS.out.fr.cell (i := 0) rfl
          have hy1 := HS.out.fr.cell (i := 1) rfl
          have HRS := Lib.hid (paRes (a := .int .i64 0) (b := .int .i64 0) HS.out.be HS.out.fr)
          clear HPA hqe
          go_wp2_with fail
          obtain ⟨k2, k3⟩ := HRS.out
          have hc0 := k3.cell (i := 0) rfl
          have hc1 := k3.cell (i := 1) rfl
          refine bodyPost_ret (v := .tuple #[.slice (some ⟨I, 0, none⟩) k c, .agg #[.int .i64 0, .int .i64 0]]) ?_ rfl ⟨_, rfl, ?_, k2⟩
          · simp [results, Tryd.results50, go_sem, hc0, hc1]
          · have h6 := (HS.out.im.keep (Below.heap_setCell W0 ⟨w.heap.size, 0, none⟩ (.int .i64 0) I (by show I ≠ w.heap.size; omega))).keep (Below.heap_setCell _ ⟨w.heap.size, 1, none⟩ (.int .i64 0) I (by show I ≠ w.heap.size; omega))
            exact h6.ints
end Go.Proofs.YtpchomhfpfpckaaDoor
