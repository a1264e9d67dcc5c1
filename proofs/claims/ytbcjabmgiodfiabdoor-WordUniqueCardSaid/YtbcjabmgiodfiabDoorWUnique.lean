/- cayleylaw02.WordUnique. -/
import Derived.Test.YtbcjabmgiodfiabDoorWCuts
import Derived.Test.YtbcjabmgiodfiabDoorWCheck
namespace Go.Proofs.YtbcjabmgiodfiabDoor
open Go Go.RowKit

theorem wrap_small {x : Int} (h : -4 ≤ x ∧ x ≤ 4) : IntKind.i64.wrap (-x) = -x := by
  rw [IntKind.wrap_i64]; omega

theorem OwnsI.under {w w' : World} {B : Nat} {v : Value} {l : List Int} (h : OwnsI w B v l) (hb : Below w.heap.size w w') : OwnsI w' B v l := by
  refine ⟨h.1, ?_⟩
  rcases h.2 with h | ⟨g, cap, cur, e, hB, hg, r⟩
  · exact .inl h
  · exact .inr ⟨g, cap, cur, e, hB, (hb.block g (Array.getElem?_eq_some_iff.1 hg).1).trans hg, r⟩
theorem pick_nat (x : Int) (n : Nat) : ∃ k : Nat, pickV x ((n : Int) + 1) = (k : Int) ∧ k ≤ n := by
  have := pickV_in x ((n : Int) + 1) (by omega)
  exact ⟨(pickV x ((n : Int) + 1)).toNat, by omega, by omega⟩

set_option maxRecDepth 100000 in
set_option maxHeartbeats 4000000 in
theorem unique_any (v u : Value) (zs ps : List Int) (w : World) (hv : Ints w w.heap.size v zs) (A : Option Addr) (c : Nat) (hu : u = .slice A ps.length c) (hc : ps.length ≤ c) (hup : Ints w w.heap.size u ps)
    (htab : Lib.TabIs Tryd.prog w "internal/strconv.uint64pow10" .u64 Lib.pow10Tab) :
    Calls Tryd.prog 4 #[v, u] w fun e w' => e = .returned (.bool true) ∧ Below w.heap.size w w' := by
  obtain ⟨i0, hi, hz0, hz1, hz2⟩ := info_parts info3'
  subst hu
  obtain ⟨A0, c0, rfl⟩ := hv.form
  have HV := Lib.hid hv
  have HU := Lib.hid hup
  have HT := Lib.hid htab
  have HC := Lib.hid hc
  clear hv hup htab hc
  by_cases h1 : zs.length ≤ 200
  · by_cases h2 : ps.length ≤ 50
    · go_enter Tryd.func4, Tryd.ntmps4
      go_wp2_with fail
      refine (lives_any w HT.out).mono ?_
      rintro e w1 ⟨rfl, hb1⟩
      have HV1 := Lib.hid (HV.out.grow hb1)
      have HU1 := Lib.hid (HU.out.grow hb1)
      have HB1 := Lib.hid hb1
      clear hb1 HV HU HT
      have hq1 : ¬ (200 : Int) < (zs.length : Int) := by omega
      have hq2 : ¬ (50 : Int) < (ps.length : Int) := by omega
      go_wp2_with fail
      refine (letters_any _ zs _ (by omega) HV1.out).mono ?_
      rintro e w2 ⟨r2, rfl, ho2, hb2⟩
      have HU2 := Lib.hid (HU1.out.grow hb2)
      have HO2 := Lib.hid ho2
      have HB2 := Lib.hid (HB1.out.trans (hb2.mono HB1.out.size))
      clear ho2 hb2 HV1 HU1
      have hlen : (letL zs).length ≤ 200 := by rw [letL_length]; exact h1
      have hlets := letL_lets zs
      have HL := Lib.hid hlets
      clear hlets hq1 hq2
      generalize letL zs = ls at HO2 hlen HL
      go_wp2_with fail
      refine (Reduce_any _ ls _ (by omega) HL.out.rng HO2.out.ints).mono ?_
      rintro e w3 ⟨r3, rfl, ho3, hb3⟩
      have HU3 := Lib.hid (HU2.out.grow hb3)
      have HW3 := Lib.hid ho3.ints
      have HO3 := Lib.hid (HO2.out.under hb3)
      have HB3 := Lib.hid (HB2.out.trans (hb3.mono HB2.out.size))
      clear ho3 hb3 HU2 HO2
      have HZ := Lib.hid hlen
      clear hlen
      go_wp2_with fail
      go_loopw [5, 7] (fun vw i wr => ∃ (k : Nat) (ws : List Int), i = .int .i64 k ∧ k ≤ ps.length ∧ OwnsI wr 0 vw ws ∧ Hid (Lets ws ∧ red ws = red ls ∧ ws.length ≤ 200 + 2 * k) ∧ Ints wr wr.heap.size r3 (red ls) ∧ Ints wr wr.heap.size (.slice A ps.length c) ps ∧ Below w.heap.size w wr) (fun _ i _ => ps.length - (intOf i).toNat)
      case atStart => exact ⟨0, ls, rfl, Nat.zero_le _, HO3.out.base (Nat.zero_le _), ⟨HL.out, rfl, HZ.out⟩, HW3.out, HU3.out, HB3.out⟩
      case round =>
        obtain ⟨k, ws, rfl, hk, hO, HF, hW, hU, hBw⟩ := hrel
        have HBw := Lib.hid hBw
        clear hBw
        have HO := Lib.hid hO
        have HW4 := Lib.hid hW
        have HU4 := Lib.hid hU
        clear hO hW HW3 HU3 HO3
        by_cases hlt : k < ps.length
        · obtain ⟨b, o, c', e, hb, hcell⟩ := hU.at_ (by omega)
          injection e with e1 _ e3
          subst e1; subst e3
          have hcu := hcell k hlt
          obtain ⟨vo, hvo, hio⟩ := cut_one HU4.out HC.out hlt
          have HIO := Lib.hid hio
          clear hcell hU hio
          generalize ps.getD k 0 = p at hcu HIO
          obtain ⟨A5, c5, rfl⟩ := HO.out.len
          obtain ⟨hlw, hrw, hlenw⟩ := HF
          obtain ⟨m, hm, hmw⟩ := pick_nat p ws.length
          have HP := fun W => Lib.hid (pick_any p ((ws.length : Int) + 1) W (by omega) (by omega))
          rw [hm] at HP
          obtain ⟨vp, hvp, hip⟩ := cut_pre HO.out hmw
          obtain ⟨vs, hvs, his⟩ := cut_suf HO.out hmw
          have HIP := Lib.hid hip
          have HIS := Lib.hid his
          have HLW := Lib.hid hlw
          have HRW := Lib.hid hrw
          have HMW := Lib.hid hmw
          clear hip his hlw hrw hm hmw
          have hlw2 : ws.length ≤ 300 := by omega
          have HLN := Lib.hid hlenw
          clear hlenw
          go_wp2_with fail
          refine ((HP _).out).mono ?_
          rintro e wr ⟨rfl, rfl⟩
          go_wp2_with fail
          refine (letters_any _ [p] _ (by simp) HIO.out).mono ?_
          rintro e wa ⟨rx, rfl, hox, hba⟩
          have hlx : (letL [p]).length = 1 := rfl
          obtain ⟨gx, cx, rfl, hgx, hgx2, hcx, hcellx⟩ := hox.form (by rw [hlx]; omega)
          have hcx0 := hcellx 0 (by rw [hlx]; omega)
          have hx := letV_in p
          rw [show (letL [p]).getD 0 0 = letV p from rfl] at hcx0
          rw [hlx] at *
          have HBa := Lib.hid hba
          clear hox hba hcellx hlx
          generalize letV p = x at hcx0 hx
          have hwx := wrap_small (x := x) (by omega)
          have HXR := Lib.hid hx
          clear hx hgx hcx hgx2
          go_wp2_with fail
          refine (own_any _ (ws.take m) _ (by simp; omega) (HIP.out.grow HBa.out)).mono ?_
          rintro e wb ⟨rv, rfl, hov, hbb⟩
          have HBb := Lib.hid (HBa.out.trans (hbb.mono HBa.out.size))
          have HOV := Lib.hid (hov.base HBa.out.size)
          have HMl := Lib.hid (show (ws.take m).length ≤ 300 by simp; omega)
          clear hov hbb hcx0
          go_wp2_with (at_builtin; first
            | (refine wpList_append_ints _ rfl (.tmp 52) (.tmp 56) 22 22 rfl wr.heap.size 3 i0 Tryd.underlying22 Tryd.underlying22 hi hz0 hz1 hz2 _ _ (ws.take m) [x, -x] _ rfl (HOV.out.alloc _) rfl (ints_lit wb [x, -x] _ 2 rfl) (by have := HMl.out; simp only [List.length_cons, List.length_nil]; omega) (by have := HBb.out.size; rw [World.size_alloc]; omega) ?_; intro v1 wc hown hgrow _; have HOC := Lib.hid hown; have HBc := Lib.hid (below_append HBb.out HBb.out.size HOV.out hgrow); clear hown hgrow)
            | (refine wpList_append_ints _ rfl (.tmp 58) (.tmp 61) 22 24 rfl wr.heap.size 3 i0 Tryd.underlying22 Tryd.underlying24 hi hz0 hz1 hz2 _ _ (ws.take m ++ [x, -x]) (ws.drop m) _ rfl HOC.out rfl (HIS.out.grow HBc.out) (by have := HMl.out; simp only [List.length_cons, List.length_nil, List.length_append, List.length_drop]; omega) HBc.out.size ?_; intro v2 wd hown hgrow _; have HOD := Lib.hid hown; have HBd := Lib.hid (HBc.out.grown hgrow HBc.out.size (fun q hq => (HOC.out.lt q hq).1)); clear hown hgrow))
          have hxx := HXR.out
          go_roundw
          case rel => exact ⟨k + 1, _, by go_num, by omega, HOD.out.base (Nat.zero_le _), ⟨put_lets HLW.out m (by omega), (put_in ws m (by omega)).trans HRW.out, by have := put_len ws m x (-x) HMW.out; have := HLN.out; omega⟩, HW4.out.grow HBd.out, HU4.out.grow HBd.out, HBw.out.trans (HBd.out.mono HBw.out.size)⟩
          case measure => simp [intOf]; omega
        · clear hU HU4
          obtain ⟨hlw, hrw, hlenw⟩ := HF
          have HLW := Lib.hid hlw
          have hlw2 : ws.length ≤ 300 := by omega
          clear hlw hlenw
          go_wp2_with fail
          refine (Reduce_any _ ws _ (by omega) HLW.out.rng HO.out.ints).mono ?_
          rintro e wa ⟨rg, rfl, hg, hba⟩
          rw [hrw] at hg
          have HW5 := Lib.hid (HW4.out.grow hba)
          have HG := Lib.hid hg
          have HBa := Lib.hid (HBw.out.trans (hba.mono HBw.out.size))
          have hlr : (red ls).length ≤ 300 := by have := red_length ws; rw [hrw] at this; omega
          clear hg hba HW4 HO hlw2 hrw HLW
          go_wp2_with fail
          refine (sameT _ _ _ (by omega) rfl HG.out.ints HW5.out).mono ?_
          rintro e wb ⟨rfl, nb, rfl⟩
          obtain ⟨Ag, cg, rfl⟩ := HG.out.len
          have hpair : ∀ j, j + 1 < (red ls).length → ∃ g, Ag = some ⟨g, 0, none⟩ ∧ wa.cell? ⟨g, j, none⟩ = some (.int .i64 ((red ls).getD j 0)) ∧ wa.cell? ⟨g, j + 1, none⟩ = some (.int .i64 ((red ls).getD (j + 1) 0)) ∧ ¬ (red ls).getD j 0 = - (red ls).getD (j + 1) 0 ∧ IntKind.i64.wrap (- (red ls).getD (j + 1) 0) = - (red ls).getD (j + 1) 0 := fun j hj => by
            obtain ⟨g, cap, e, _, _, _, hcell⟩ := HG.out.form (by omega)
            injection e with e1 _ _
            refine ⟨g, e1, hcell j (by omega), hcell (j + 1) hj, no_pair (red_red ls) HL.out.red hj, ?_⟩
            have hx := HL.out.red ((red ls).getD (j + 1) 0) (by
              have : (red ls).getD (j + 1) 0 = (red ls)[j + 1] := by simp [List.getD_eq_getElem?_getD, hj]
              rw [this]; exact List.getElem_mem _)
            rw [IntKind.wrap_i64]; omega
          have HPR := Lib.hid hpair
          have HRL := Lib.hid HL.out.red
          clear hpair HL HZ
          generalize red ls = gs at HPR HRL HG HW5 hlr
          go_wp2_with fail
          go_loopw [12] (fun i wr => ∃ (k n : Nat), i = .int .i64 k ∧ k ≤ 300 ∧ wr = wa.drewN n) (fun i _ => 300 - (intOf i).toNat)
          case atStart => exact ⟨0, nb, rfl, by omega, rfl⟩
          case round =>
            obtain ⟨j, n, rfl, hj, rfl⟩ := hrel
            by_cases hjl : j + 1 < gs.length
            · obtain ⟨g, rfl, hc1, hc2, hne, hwr⟩ := HPR.out j hjl
              have hlt2 : (j : Int) + 1 < (gs.length : Int) := by omega
              have hlt3 : j < gs.length := by omega
              generalize gs.getD j 0 = x at hc1 hne
              generalize gs.getD (j + 1) 0 = y at hc2 hne hwr
              have hne2 : (x == -y) = false := by simpa using hne
              go_wp2
              go_quiet (fail)
              go_wp2
              go_roundw
              case rel => exact ⟨j + 1, _, by go_num, by omega, rfl⟩
              case measure => simp [intOf]; omega
            · have hlt2 : ¬ (j : Int) + 1 < (gs.length : Int) := by omega
              have HG2 : OwnsI (wa.drewN n) wr.heap.size (.slice Ag gs.length cg) gs := HG.out
              have HW6 : Ints (wa.drewN n) (wa.drewN n).heap.size r3 gs := HW5.out
              have HBq : Below w.heap.size w (wa.drewN n) := HBa.out.trans (below_drawn _ ⟨n, rfl⟩)
              have HBQ := Lib.hid HBq
              clear HBq
              have HGI := Lib.hid HG2.ints
              have HWI := Lib.hid HW6
              clear HG2 HW6 HG HW5 HPR
              generalize wa.drewN n = q at HGI HWI HBQ
              go_wp2_with fail
              refine (own_any _ gs _ (by omega) HGI.out).mono ?_
              rintro e wb ⟨rv, rfl, hov, hbb⟩
              have HOV := Lib.hid hov
              have HBb := Lib.hid hbb
              have hlr2 := hlr
              clear hov hbb
              go_wp2_with (at_builtin; refine wpList_append_ints _ rfl (.tmp 89) (.tmp 90) 22 22 rfl q.heap.size 3 i0 Tryd.underlying22 Tryd.underlying22 hi hz0 hz1 hz2 _ _ gs [1] _ rfl (HOV.out.alloc _) rfl (ints_lit wb [1] _ 1 rfl) (by simp only [List.length_cons, List.length_nil]; omega) (by have := HBb.out.size; rw [World.size_alloc]; omega) ?_; intro v1 wc hown hgrow _; have HOC := Lib.hid hown; have HBc := Lib.hid (below_append HBb.out HBb.out.size HOV.out hgrow); clear hown hgrow)
              refine (Cmp_len _ _ gs (gs ++ [1]) _ (by simp) (HGI.out.grow HBc.out) HOC.out.ints).mono ?_
              rintro e wd ⟨rfl, rfl⟩
              have hsg : sgn (gs.length : Int) ((gs ++ [1]).length : Int) = -1 := by
                unfold sgn; rw [if_pos (by simp; omega)]
              rw [hsg]
              go_wp2_with fail
              refine (Cmp_self _ _ gs _ (by omega) HRL.out.rng (HGI.out.grow HBc.out) (HWI.out.grow HBc.out)).mono ?_
              rintro e wd ⟨rfl, rfl⟩
              go_wp2_with fail
              go_ret
              exact ⟨rfl, HBQ.out.trans (HBc.out.mono HBQ.out.size)⟩
    · have hq1 : ¬ (200 : Int) < (zs.length : Int) := by omega
      have hq2 : (50 : Int) < (ps.length : Int) := by omega
      go_enter Tryd.func4, Tryd.ntmps4
      go_wp2_with fail
      refine (lives_any w HT.out).mono ?_
      rintro e w1 ⟨rfl, hb1⟩
      have HBL := Lib.hid hb1
      clear hb1
      go_wp2_with fail
      go_ret
      exact ⟨rfl, HBL.out⟩
  · have hq1 : (200 : Int) < (zs.length : Int) := by omega
    go_enter Tryd.func4, Tryd.ntmps4
    go_wp2_with fail
    refine (lives_any w HT.out).mono ?_
    rintro e w1 ⟨rfl, hb1⟩
    have HBL := Lib.hid hb1
    clear hb1
    go_wp2_with fail
    go_ret
    exact ⟨rfl, HBL.out⟩
end Go.Proofs.YtbcjabmgiodfiabDoor
