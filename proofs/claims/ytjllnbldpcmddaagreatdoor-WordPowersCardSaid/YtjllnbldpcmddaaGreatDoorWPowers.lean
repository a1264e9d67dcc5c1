/- cayleylaw02.WordPowers: the walk. -/
import Derived.Test.YtjllnbldpcmddaaGreatDoorWSubst
import Derived.Test.YtjllnbldpcmddaaGreatDoorWReads
namespace Go.Proofs.YtjllnbldpcmddaaGreatDoor
open Go Go.RowKit

theorem sameR (v u : Value) (zs : List Int) (w : World) (hl : zs.length ≤ 1000000) (hv : Ints w w.heap.size v zs) (hu : Ints w w.heap.size u zs) :
    Calls Tryz.prog 12 #[v, u] w fun e w' => e = .returned (.bool true) ∧ ∃ n, w' = w.drewN n := by
  have h := same_any w.heap.size v u zs zs w (by omega) hv hu
  rwa [sameB_eq rfl] at h
theorem Lists.onB {w w' : World} {v : Value} {ps : List (Value × List Int)} (h : Lists w w.heap.size v ps) (hb : Below w.heap.size w w') : Lists w' w'.heap.size v ps := by
  obtain ⟨⟨A, c, e, h1⟩, h2⟩ := h
  exact ⟨⟨A, c, e, fun h0 => by
    obtain ⟨b, o, e2, hb2, hc⟩ := h1 h0
    exact ⟨b, o, e2, Nat.lt_of_lt_of_le hb2 hb.size, fun j p hp => (hb.cell (p := ⟨b, o + j, none⟩) hb2).trans (hc j p hp)⟩⟩, fun p hp => (h2 p hp).grow hb⟩
theorem PowS_len {m : List Int} {t : Nat} {l : List Int} {e : Int} (h : PowS m t l e) (_hm : m.length ≤ 300) : l.length ≤ 1000000 := by
  by_cases h0 : m = [] ∨ t = 0
  · rw [(h.1 h0).1]; simp
  · obtain ⟨k, hk, a, b⟩ := h.2 (fun e => h0 (.inl e)) (fun e => h0 (.inr e))
    by_cases hl : 4000 < 2 * k + t * (m.length - 2 * k)
    · rw [(a hl).1]; simp
    · rw [(b hl).1]
      have h1 := rep_len (midW m k) t
      have h2 : (midW m k).length ≤ m.length - 2 * k ∨ m.length < 2 * k := by
        by_cases h : 2 * k ≤ m.length
        · rw [midW_len m h]; omega
        · omega
      have hk1 := hk.1
      rw [List.length_append, List.length_append, h1, List.length_take, List.length_drop]
      rcases h2 with h2 | h2
      · have := Nat.mul_le_mul_left t h2
        omega
      · have h3 : (midW m k).length = 0 := by simp [midW]; omega
        rw [h3, Nat.mul_zero]; omega

set_option maxRecDepth 100000 in
set_option maxHeartbeats 8000000 in
theorem wpowers_any (va vb : Value) (a : List Int) (ps : List (Value × List Int)) (n : Int) (w : World) (hn : -9223372036854775808 ≤ n ∧ n ≤ 9223372036854775807) (ra : Rng a) (rb : ∀ p ∈ ps, Rng p.2)
    (hva : Ints w w.heap.size va a) (hvb : Lists w w.heap.size vb ps)
    (htab : Lib.TabIs Tryz.prog w "internal/strconv.uint64pow10" .u64 Lib.pow10Tab) :
    Calls Tryz.prog 3 #[va, vb, .int .i64 n] w fun e w' => e = .returned (.bool true) ∧ Below w.heap.size w w' := by
  have HT := Lib.hid (lives_any w htab)
  obtain ⟨Aa, ca, rfl⟩ := hva.form
  obtain ⟨Ab, cb, hfb, -⟩ := id hvb.1
  subst hfb
  have HA := Lib.hid hva
  have HP := Lib.hid hvb
  have HRa := Lib.hid ra
  have HRb := Lib.hid rb
  clear hva hvb htab ra rb
  have HLo := fun (W : World) h => Lib.hid (long_any (.slice (some ⟨W.heap.size, 0, none⟩) 1 1) [(.slice Aa a.length ca, a)] (W.alloc (.cells #[.slice Aa a.length ca] 23)) (by simp) h)
  go_enter Tryz.func3, Tryz.ntmps3
  go_wp2_with fail
  refine (HT.out).mono ?_
  rintro e w0 ⟨rfl, hb⟩
  replace HA := Lib.hid (HA.out.grow hb)
  replace HP := Lib.hid (HP.out.onB hb)
  have HB := Lib.hid hb
  clear hb HT
  have HLs := Lib.hid (lists_new w0 [(.slice Aa a.length ca, a)] 1 (fun p hp => by
    simp at hp
    rw [hp]
    exact HA.out))
  go_wp2_with fail
  refine ((HLo _ HLs.out).out).mono ?_
  rintro e wl ⟨rfl, hwl⟩
  have hbl : Below w0.heap.size w0 wl := by rw [← hwl]; exact (Below.refl _ w0).alloc (Nat.le_refl _) _
  replace HA := Lib.hid (HA.out.grow hbl)
  replace HP := Lib.hid (HP.out.onB hbl)
  replace HB := Lib.hid (HB.out.trans (hbl.mono HB.out.size))
  clear hwl hbl HLs HLo
  cases hlong : longB [(.slice Aa a.length ca, a)] with
  | true =>
    go_wp2_with fail
    go_ret
    exact ⟨rfl, HB.out⟩
  | false =>
  have h300 : a.length ≤ 300 := by
    simp [longB] at hlong
    omega
  clear hlong
  by_cases h10 : 10 < ps.length
  · have kd : decide ((10 : Int) < (ps.length : Int)) = true := decide_eq_true (by omega)
    go_wp2_with fail
    go_ret
    exact ⟨rfl, HB.out⟩
  have kd : decide ((10 : Int) < (ps.length : Int)) = false := decide_eq_false (by omega)
  have hat : ∀ j, j < ps.length → ∃ p b o A' c', ps[j]? = some p ∧ Ab = some ⟨b, o, none⟩ ∧ wl.cell? ⟨b, o + j, none⟩ = some (.slice A' p.2.length c') := fun j hj => by
    obtain ⟨⟨A', c', e, hB⟩, hI⟩ := HP.out
    injection e with e1 _ e3
    subst e1; subst e3
    have hj' : ps[j]? = some ps[j] := List.getElem?_eq_getElem hj
    obtain ⟨b, o, e, hb, hc⟩ := hB (by omega)
    obtain ⟨A', c', e', _⟩ := hI ps[j] (List.getElem_mem hj)
    exact ⟨ps[j], b, o, A', c', hj', e, by have := hc j _ hj'; rwa [e'] at this⟩
  have HAT := Lib.hid hat
  clear hat
  go_wp2_with fail
  go_loopw [7] (fun t7 wr => ∃ k : Nat, t7 = .int .i64 k ∧ k ≤ ps.length ∧ Hid (∀ j p, j < k → ps[j]? = some p → p.2.length ≤ 60) ∧ wr = wl) (fun t7 _ => ps.length - (intOf t7).toNat)
  case atStart => exact ⟨0, rfl, Nat.zero_le _, (fun j p hj => absurd hj (by omega)), rfl⟩
  case round =>
    obtain ⟨k, rfl, hk, HE, hwr⟩ := hrel
    subst hwr
    rename World => wl
    by_cases hlt : k < ps.length
    · obtain ⟨p, b, o, A', c', hpk, rfl, hc⟩ := HAT.out k hlt
      have kd1 : decide ((k : Int) < (ps.length : Int)) = true := decide_eq_true (by omega)
      have k1 : (k : Int) < (ps.length : Int) := by omega
      have k2 : (0 : Int) ≤ (k : Int) := by omega
      by_cases h60 : 60 < p.2.length
      · have kd2 : decide ((60 : Int) < (p.2.length : Int)) = true := decide_eq_true (by omega)
        clear HE hpk
        generalize p.2.length = pl at hc kd2 h60
        go_wp2_with fail
        go_ret
        exact ⟨rfl, HB.out⟩
      · have kd2 : decide ((60 : Int) < (p.2.length : Int)) = false := decide_eq_false (by omega)
        have HE2 : Hid (∀ j p, j < k + 1 → ps[j]? = some p → p.2.length ≤ 60) := fun j q hj hq => by
          by_cases e : j = k
          · subst e
            rw [hpk] at hq
            injection hq with hq
            subst hq
            omega
          · exact HE j q (by omega) hq
        clear HE hpk
        generalize p.2.length = pl at hc kd2 h60
        go_wp2_with fail
        go_roundw
        case rel => exact ⟨k + 1, by go_num, by omega, HE2, by trivial⟩
        case measure => simp [intOf]; omega
    · have kd1 : decide ((k : Int) < (ps.length : Int)) = false := decide_eq_false (by omega)
      have HPS := Lib.hid (show ∀ p ∈ ps, p.2.length ≤ 60 ∧ Rng p.2 from fun p hp => by
        obtain ⟨j, hj⟩ := List.mem_iff_getElem?.1 hp
        exact ⟨HE j p (by have := (List.getElem?_eq_some_iff.1 hj).1; omega) hj, HRb.out p hp⟩)
      have hml : (powB a n).length ≤ 300 := by have := (powB_facts n HRa.out).2.2; omega
      have H1 := fun W h => Lib.hid (Pow_gen (.slice Aa a.length ca) a n W h300 hn HRa.out h)
      have H2 := fun W h => Lib.hid (refPow_gen (.slice Aa a.length ca) a n W h300 hn HRa.out h)
      have H3 := fun W h h2 => Lib.hid (Subst_any (.slice Aa a.length ca) (.slice Ab ps.length cb) a ps W h300 HRa.out (by omega) HPS.out h h2)
      have H4 := fun W h h2 => Lib.hid (refSubst_any (.slice Aa a.length ca) (.slice Ab ps.length cb) a ps W h300 HRa.out (by omega) HPS.out h h2)
      have H5 := fun W h => Lib.hid (Sums_gen (.slice Aa a.length ca) a n W (by omega) HRa.out h)
      have H6 := fun W h => Lib.hid (refSums_gen (.slice Aa a.length ca) a n W (by omega) HRa.out h)
      have l5 := sumS_len n a
      have l3 : (subL (ps.map (·.2)) a).length ≤ 1000000 := by
        unfold subL
        split
        · have h1 := red_length (subW (ps.map (·.2)) a)
          have h2 := subW_len (ims_all (P := fun l => l.length ≤ 60) (by simp) fun p h => (HPS.out p h).1) a
          omega
        · simp
      generalize subL (ps.map (·.2)) a = sl at H3 H4 l3
      generalize subE (ps.map (·.2)) a = se at H3 H4
      generalize sumS n a = tl at H5 H6 l5
      generalize chkW n a = te at H5 H6
      generalize powB a n = pb at H1 H2 hml
      generalize n.natAbs = na at H1 H2
      unfold GivesE at H1 H2 H3 H4 H5 H6
      have HUQ := Lib.hid (fun l x l' x' (h : PowS pb na l x) (h' : PowS pb na l' x') => PowS.one h h')
      have HLN := Lib.hid (fun l x (h : PowS pb na l x) => PowS_len h hml)
      clear HE HAT hml HPS HRb
      go_wp2_with fail
      refine ((H1 _ HA.out).out).mono ?_
      rintro e w1 ⟨l1, x1, hs1, r1, rfl, hi1, hb⟩
      have V1 := Lib.hid hi1
      replace HA := Lib.hid (HA.out.grow hb)
      replace HP := Lib.hid (HP.out.onB hb)
      replace HB := Lib.hid (HB.out.trans (hb.mono HB.out.size))
      have HS1 := Lib.hid hs1
      clear hs1 hi1 hb H1
      go_wp2_with fail
      refine ((H2 _ HA.out).out).mono ?_
      rintro e w2 ⟨l2, x2, hs2, r2, rfl, hi2, hb⟩
      obtain ⟨e1, e2⟩ := HUQ.out _ _ _ _ HS1.out hs2
      subst e1 e2
      have hlen := HLN.out _ _ hs2
      have V2 := Lib.hid hi2
      replace V1 := Lib.hid (V1.out.grow hb)
      replace HA := Lib.hid (HA.out.grow hb)
      replace HP := Lib.hid (HP.out.onB hb)
      replace HB := Lib.hid (HB.out.trans (hb.mono HB.out.size))
      clear hs2 hi2 hb H2 HUQ HLN HS1
      go_wp2_with fail
      refine ((H3 _ HA.out HP.out).out).mono ?_
      rintro e w3 ⟨r3, rfl, hi3, hb⟩
      have V3 := Lib.hid hi3
      replace V1 := Lib.hid (V1.out.grow hb)
      replace V2 := Lib.hid (V2.out.grow hb)
      replace HA := Lib.hid (HA.out.grow hb)
      replace HP := Lib.hid (HP.out.onB hb)
      replace HB := Lib.hid (HB.out.trans (hb.mono HB.out.size))
      clear hi3 hb H3
      go_wp2_with fail
      refine ((H4 _ HA.out HP.out).out).mono ?_
      rintro e w4 ⟨r4, rfl, hi4, hb⟩
      have V4 := Lib.hid hi4
      replace V1 := Lib.hid (V1.out.grow hb)
      replace V2 := Lib.hid (V2.out.grow hb)
      replace V3 := Lib.hid (V3.out.grow hb)
      replace HA := Lib.hid (HA.out.grow hb)
      replace HP := Lib.hid (HP.out.onB hb)
      replace HB := Lib.hid (HB.out.trans (hb.mono HB.out.size))
      clear hi4 hb H4
      go_wp2_with fail
      refine ((H5 _ HA.out).out).mono ?_
      rintro e w5 ⟨r5, rfl, hi5, hb⟩
      have V5 := Lib.hid hi5
      replace V1 := Lib.hid (V1.out.grow hb)
      replace V2 := Lib.hid (V2.out.grow hb)
      replace V3 := Lib.hid (V3.out.grow hb)
      replace V4 := Lib.hid (V4.out.grow hb)
      replace HA := Lib.hid (HA.out.grow hb)
      replace HB := Lib.hid (HB.out.trans (hb.mono HB.out.size))
      clear hi5 hb H5 HP
      go_wp2_with fail
      refine ((H6 _ HA.out).out).mono ?_
      rintro e w6 ⟨r6, rfl, hi6, hb⟩
      have V6 := Lib.hid hi6
      replace V1 := Lib.hid (V1.out.grow hb)
      replace V2 := Lib.hid (V2.out.grow hb)
      replace V3 := Lib.hid (V3.out.grow hb)
      replace V4 := Lib.hid (V4.out.grow hb)
      replace V5 := Lib.hid (V5.out.grow hb)
      replace HB := Lib.hid (HB.out.trans (hb.mono HB.out.size))
      clear hi6 hb H6 HA
      have S1 := Lib.hid (sameR r1 r2 l1 w6 hlen V1.out V2.out)
      have S3 := fun q (h : ∃ m, q = w6.drewN m) => Lib.hid (sameR r3 r4 sl q l3 (V3.out.drawn h) (V4.out.drawn h))
      have S5 := fun q (h : ∃ m, q = w6.drewN m) => Lib.hid (sameR r5 r6 tl q (by omega) (V5.out.drawn h) (V6.out.drawn h))
      clear V1 V2 V3 V4 V5 V6
      go_wp2_with fail
      refine (S1.out).mono ?_
      rintro e q1 ⟨rfl, m1, hq1⟩
      have HQ1 := Lib.hid (show ∃ m, q1 = w6.drewN m from ⟨m1, hq1⟩)
      clear hq1 S1
      go_wp2_with fail
      refine ((S3 q1 HQ1.out).out).mono ?_
      rintro e q2 ⟨rfl, m2, hq2⟩
      have HQ2 := Lib.hid (show ∃ m, q2 = w6.drewN m from by obtain ⟨m1, hq1⟩ := HQ1.out; exact ⟨m1 + m2, by rw [hq2, hq1, World.drewN_drewN]⟩)
      clear hq2 S3 HQ1
      go_wp2_with fail
      refine ((S5 q2 HQ2.out).out).mono ?_
      rintro e q3 ⟨rfl, m3, hq3⟩
      obtain ⟨m4, hq4⟩ := HQ2.out
      have HQ3 := Lib.hid (show ∃ m, q3 = w6.drewN m from ⟨m4 + m3, by rw [hq3, hq4, World.drewN_drewN]⟩)
      clear hq3 hq4 S5 HQ2
      go_wp2_with fail
      go_ret
      exact ⟨rfl, HB.out.trans (below_drawn _ HQ3.out)⟩
end Go.Proofs.YtjllnbldpcmddaaGreatDoor
