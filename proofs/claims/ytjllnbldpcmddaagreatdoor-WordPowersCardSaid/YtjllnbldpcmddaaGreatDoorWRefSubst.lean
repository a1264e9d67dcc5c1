/- Substitution: what it gives; the reference's Subst. -/
import Derived.Test.YtjllnbldpcmddaaGreatDoorWSumsG
import Derived.Test.YtjllnbldpcmddaaGreatDoorWRefC
import Derived.Test.YtjllnbldpcmddaaGreatDoorWRefCmp
namespace Go.Proofs.YtjllnbldpcmddaaGreatDoor
open Go Go.RowKit

/-- The word that takes a letter's place. -/
def letW (ims : List (List Int)) (x : Int) : List Int := if 0 < x then ims.getD (x.natAbs - 1) [] else winv (ims.getD (x.natAbs - 1) [])
def subW (ims : List (List Int)) (zs : List Int) : List Int := (zs.map (letW ims)).flatten
theorem subW_snoc (ims : List (List Int)) (u : List Int) (x : Int) : subW ims (u ++ [x]) = subW ims u ++ letW ims x := by simp [subW]
def subE (ims : List (List Int)) (zs : List Int) : Int := if okW ims.length zs then (if 4000 < (red (subW ims zs)).length then 4 else 0) else 2
def subL (ims : List (List Int)) (zs : List Int) : List Int := if subE ims zs = 0 then red (subW ims zs) else []
theorem letW_len {ims : List (List Int)} {N : Nat} (h : ∀ i, (ims.getD i []).length ≤ N) (x : Int) : (letW ims x).length ≤ N := by
  unfold letW; split
  · exact h _
  · rw [winv_length]; exact h _
theorem letW_rng {ims : List (List Int)} (h : ∀ i, Rng (ims.getD i [])) (x : Int) : Rng (letW ims x) := by
  unfold letW; split
  · exact h _
  · exact (h _).winv
theorem subW_len {ims : List (List Int)} {N : Nat} (h : ∀ i, (ims.getD i []).length ≤ N) : ∀ zs : List Int, (subW ims zs).length ≤ zs.length * N
  | [] => by simp [subW]
  | x :: zs => by
    have h1 := subW_len h zs
    have h2 := letW_len h x
    have e : subW ims (x :: zs) = letW ims x ++ subW ims zs := by simp [subW]
    rw [e, List.length_append, List.length_cons, Nat.add_mul, Nat.one_mul]; omega
theorem subW_rng {ims : List (List Int)} (h : ∀ i, Rng (ims.getD i [])) : ∀ zs : List Int, Rng (subW ims zs)
  | [] => fun x hx => by simp [subW] at hx
  | x :: zs => by
    have e : subW ims (x :: zs) = letW ims x ++ subW ims zs := by simp [subW]
    rw [e]; exact (letW_rng h x).append (subW_rng h zs)
theorem getD_ims {ps : List (Value × List Int)} {j : Nat} {p : Value × List Int} (h : ps[j]? = some p) : (ps.map (·.2)).getD j [] = p.2 := by
  simp [List.getD_eq_getElem?_getD, h]
theorem ims_all {ps : List (Value × List Int)} {P : List Int → Prop} (h0 : P []) (h : ∀ p ∈ ps, P p.2) (i : Nat) : P ((ps.map (·.2)).getD i []) := by
  cases hp : ps[i]? with
  | none => simp [List.getD_eq_getElem?_getD, hp]; exact h0
  | some p => rw [getD_ims hp]; exact h p (List.mem_of_getElem? hp)

set_option maxRecDepth 100000 in
set_option maxHeartbeats 4000000 in
theorem refSubst_any (v u : Value) (zs : List Int) (ps : List (Value × List Int)) (w : World) (hl : zs.length ≤ 300) (hr : Rng zs) (hn : ps.length ≤ 10) (hp : ∀ p ∈ ps, p.2.length ≤ 60 ∧ Rng p.2) (hv : Ints w w.heap.size v zs) (hu : Lists w w.heap.size u ps) :
    Calls Tryz.prog 9 #[v, u] w (GivesE w (subL (ps.map (·.2)) zs) (subE (ps.map (·.2)) zs)) := by
  have hN : ∀ i, ((ps.map (·.2)).getD i []).length ≤ 60 := ims_all (P := fun l => l.length ≤ 60) (by simp) fun p h => (hp p h).1
  have hR : ∀ i, Rng ((ps.map (·.2)).getD i []) := ims_all (P := Rng) (fun x hx => by simp at hx) fun p h => (hp p h).2
  obtain ⟨A, c, rfl, h⟩ := hv
  have hat : ∀ j, j < zs.length → ∃ b o, A = some ⟨b, o, none⟩ ∧ b < w.heap.size ∧ w.cell? ⟨b, o + j, none⟩ = some (.int .i64 (zs.getD j 0)) := fun j hj => by
    obtain ⟨b, o, e, hb, hc⟩ := h (by omega)
    exact ⟨b, o, e, hb, hc j hj⟩
  obtain ⟨⟨B, d, rfl, hB⟩, hI⟩ := hu
  have hbt : ∀ j, j < ps.length → ∃ p b o A' c', ps[j]? = some p ∧ B = some ⟨b, o, none⟩ ∧ b < w.heap.size ∧ p.1 = .slice A' p.2.length c' ∧ w.cell? ⟨b, o + j, none⟩ = some (.slice A' p.2.length c') ∧ Ints w w.heap.size p.1 p.2 := fun j hj => by
    have hj' : ps[j]? = some ps[j] := List.getElem?_eq_getElem hj
    obtain ⟨b, o, e, hb, hc⟩ := hB (by omega)
    have hpp := hI ps[j] (List.getElem_mem hj)
    obtain ⟨A', c', e', _⟩ := id hpp
    exact ⟨ps[j], b, o, A', c', hj', e, hb, e', by have := hc j _ hj'; rwa [e'] at this, hpp⟩
  have HA := Lib.hid hat
  have HBT := Lib.hid hbt
  have HRZ := Lib.hid hr
  have HN := Lib.hid hN
  have HR := Lib.hid hR
  obtain ⟨ims, hims⟩ : ∃ ims, ps.map (·.2) = ims := ⟨_, rfl⟩
  have hil : ims.length = ps.length := by rw [← hims]; simp
  have HG := Lib.hid (show ∀ j p, ps[j]? = some p → ims.getD j [] = p.2 from fun j p hh => by rw [← hims]; exact getD_ims hh)
  rw [hims] at HN HR ⊢
  have HIL := Lib.hid hil
  clear h hat hB hI hbt hims hil hN hR hr hp
  generalize hPP : GivesE w (subL ims zs) (subE ims zs) = PP
  have HPP := Lib.hid hPP
  clear hPP
  have hpc : IntKind.u64.wrap (ps.length : Int) = (ps.length : Int) := by rw [IntKind.wrap_u64]; omega
  go_enter Tryz.func9, Tryz.ntmps9
  go_wp2_with fail
  go_loopw [6] (fun t6 wr => ∃ k : Nat, t6 = .int .i64 k ∧ k ≤ zs.length ∧ Hid (∀ j, j < k → ¬ (zs.getD j 0 = 0 ∨ ps.length < (zs.getD j 0).natAbs)) ∧ wr = w) (fun t6 _ => zs.length - (intOf t6).toNat)
  case atStart => exact ⟨0, rfl, Nat.zero_le _, (fun j hj => absurd hj (by omega)), rfl⟩
  case round =>
    obtain ⟨k, rfl, hk, HE, hwr⟩ := hrel
    subst hwr
    by_cases hlt : k < zs.length
    · obtain ⟨b, o, rfl, hb, hc⟩ := HA.out k hlt
      have kd : decide ((k : Int) < (zs.length : Int)) = true := decide_eq_true (by omega)
      have k1 : (k : Int) < (zs.length : Int) := by omega
      have k2 : (0 : Int) ≤ (k : Int) := by omega
      have hxr := HRZ.out.at hlt
      have HBAD := Lib.hid (fun (h : zs.getD k 0 = 0 ∨ ps.length < (zs.getD k 0).natAbs) => (show ∀ e, e = Ending.returned (.tuple #[.slice none 0 0, .int .i64 2]) → PP e wr from fun e he => by
        have h1 : okW ims.length zs = false := okW_bad hlt (by rw [HIL.out]; exact h)
        have h2 : subE ims zs = 2 := by unfold subE; rw [h1]; rfl
        rw [← HPP.out]
        unfold subL
        rw [h2]
        exact ⟨_, he, (owns_nil _ wr.heap.size).ints, Below.refl _ _⟩))
      have HE3 := Lib.hid (fun (h : ¬ (zs.getD k 0 = 0 ∨ ps.length < (zs.getD k 0).natAbs)) => (show ∀ j, j < k + 1 → ¬ (zs.getD j 0 = 0 ∨ ps.length < (zs.getD j 0).natAbs) from fun j hj => by
        by_cases e : j = k
        · subst e; exact h
        · exact HE j (by omega)))
      have HS := Lib.hid (refSize_any (zs.getD k 0) wr hxr)
      generalize zs.getD k 0 = x at hc HBAD HE3 HS hxr
      by_cases h0 : x = 0
      · have HX := Lib.hid (HBAD.out (.inl h0))
        have hb0 : (x == 0) = true := by rw [beq_iff_eq]; exact h0
        clear HBAD HE3 hxr
        go_wp2_with fail
        exact HX.out _ rfl
      · have hb0 : (x == 0) = false := by rw [beq_eq_false_iff_ne]; exact h0
        by_cases h4 : ps.length < x.natAbs
        · have HX := Lib.hid (HBAD.out (.inr h4))
          have kd4 : decide ((ps.length : Int) < (x.natAbs : Int)) = true := decide_eq_true (by omega)
          clear HBAD HE3 hxr
          generalize x.natAbs = na at HS kd4 h4
          go_wp2_with fail
          refine (HS.out).mono ?_
          rintro e w1 ⟨rfl, hw1⟩
          subst hw1
          go_wp2_with fail
          exact HX.out _ rfl
        · have HX := Lib.hid (HE3.out (fun h => h.elim h0 h4))
          have kd4 : decide ((ps.length : Int) < (x.natAbs : Int)) = false := decide_eq_false (by omega)
          clear HBAD HE3 hxr
          generalize x.natAbs = na at HS kd4 h4
          go_wp2_with fail
          refine (HS.out).mono ?_
          rintro e w1 ⟨rfl, hw1⟩
          subst hw1
          go_wp2_with fail
          go_roundw
          case rel => exact ⟨k + 1, by go_num, by omega, HX.out, by trivial⟩
          case measure => simp [intOf]; omega
    · have kd : decide ((k : Int) < (zs.length : Int)) = false := decide_eq_false (by omega)
      have hall : ∀ j, j < zs.length → ¬ (zs.getD j 0 = 0 ∨ ps.length < (zs.getD j 0).natAbs) := fun j hj => HE j (by omega)
      have HALL := Lib.hid hall
      have hok : okW ims.length zs = true := okW_all fun j hj => by rw [HIL.out]; exact hall j hj
      have HOK := Lib.hid hok
      have HST := Lib.hid (show Ints wr wr.heap.size (.slice none 0 0) (red (subW ims (zs.take 0))) from (owns_nil _ wr.heap.size).ints)
      have HBR := Lib.hid (Below.refl wr.heap.size wr)
      clear HE hall hok hk
      go_wp2_with fail
      clear kd
      go_loopw [7, 8] (fun t7 t8 wx => ∃ i : Nat, t8 = .int .i64 i ∧ i ≤ zs.length ∧ Ints wx wx.heap.size t7 (red (subW ims (zs.take i))) ∧ Below wr.heap.size wr wx) (fun _ t8 _ => zs.length - (intOf t8).toNat)
      case atStart => exact ⟨0, rfl, Nat.zero_le _, HST.out, HBR.out⟩
      case round =>
        obtain ⟨i, rfl, hi, hO, hB⟩ := hrel
        rename World => wx
        obtain ⟨A7, c7, hf⟩ := hO.form
        subst hf
        have HO := Lib.hid hO
        have HB := Lib.hid hB
        have hrl : (red (subW ims (zs.take i))).length ≤ 18000 := by
          have h1 := red_length (subW ims (zs.take i))
          have h2 := subW_len HN.out (zs.take i)
          have h3 : (zs.take i).length ≤ 300 := by simp; omega
          omega
        have HRR := Lib.hid ((subW_rng HR.out (zs.take i)).red)
        clear hO hB
        by_cases hlt : i < zs.length
        · obtain ⟨b, o, rfl, hb, hc⟩ := HA.out i hlt
          have hc2 := (HB.out.cell (p := ⟨b, o + i, none⟩) hb).trans hc
          have kd : decide ((i : Int) < (zs.length : Int)) = true := decide_eq_true (by omega)
          have k1 : (i : Int) < (zs.length : Int) := by omega
          have k2 : (0 : Int) ≤ (i : Int) := by omega
          have hxr := HRZ.out.at hlt
          have hxx := HALL.out i hlt
          have HSN := Lib.hid (show red (subW ims (zs.take (i + 1))) = wmul (red (subW ims (zs.take i))) (letW ims (zs.getD i 0)) from by
            rw [take_snoc hlt, subW_snoc, wmul_red_left]; rfl)
          have HS := Lib.hid (fun W => refSize_any (zs.getD i 0) W hxr)
          have hle : letW ims (zs.getD i 0) = if 0 < zs.getD i 0 then ims.getD ((zs.getD i 0).natAbs - 1) [] else winv (ims.getD ((zs.getD i 0).natAbs - 1) []) := rfl
          generalize zs.getD i 0 = x at hc hc2 hxr hxx HSN HS hle
          generalize red (subW ims (zs.take i)) = cur at HO HRR HSN hrl ⊢
          obtain ⟨q, hq⟩ : ∃ q, x.natAbs = q + 1 := ⟨x.natAbs - 1, by omega⟩
          have hqp : q < ps.length := by omega
          have hxn : x ≠ 0 := fun e => hxx (.inl e)
          obtain ⟨p, b2, o2, A', c', hpk, rfl, hb2, hp1, hc3, hpi⟩ := HBT.out q hqp
          have hc4 := (HB.out.cell (p := ⟨b2, o2 + q, none⟩) hb2).trans hc3
          rw [hq, Nat.add_sub_cancel, HG.out q p hpk] at hle
          have hpl : p.2.length ≤ 60 := by have := HN.out q; rw [HG.out q p hpk] at this; exact this
          have HPR := Lib.hid (show Rng p.2 from by have := HR.out q; rw [HG.out q p hpk] at this; exact this)
          have HLE := Lib.hid hle
          rw [hp1] at hpi
          have HPI := Lib.hid (hpi.below HB.out |>.more HB.out.size)
          rw [hq] at HS
          have m1 : IntKind.i64.wrap ((q + 1 : Nat) : Int) = ((q + 1 : Nat) : Int) := by rw [IntKind.wrap_i64]; omega
          have m2 : ((q + 1 : Nat) : Int) - 1 = (q : Int) := by omega
          have m3 : IntKind.i64.wrap (q : Int) = (q : Int) := by rw [IntKind.wrap_i64]; omega
          have m4 : (q : Int) < (ps.length : Int) := by omega
          have m5 : (0 : Int) ≤ (q : Int) := by omega
          generalize p.2 = im at hpl HPR HLE HPI hc4
          generalize hQ1 : ((q + 1 : Nat) : Int) = q1 at HS m1 m2
          clear hc hc3 hp1 hpi hle hq hpk hxx hb2 hQ1
          by_cases hx0 : 0 < x
          · have HM := Lib.hid (fun W h1 h2 => refMul_any (.slice A7 cur.length c7) (.slice A' im.length c') cur im W (by omega) (by omega) HRR.out HPR.out h1 h2)
            have kx : decide (x < 0) = false := decide_eq_false (by omega)
            have HL2 := Lib.hid (HLE.out.trans (if_pos hx0))
            clear hxr hx0 hxn HLE
            go_wp2_with fail
            refine (HS.out _).mono ?_
            rintro e w1 ⟨rfl, hw1⟩
            subst hw1
            go_wp2_with fail
            refine (HM.out _ HO.out HPI.out).mono ?_
            rintro e w5 ⟨r5, rfl, ho5, hb5⟩
            have HO5 := Lib.hid ho5
            have HB5 := Lib.hid (HB.out.trans (hb5.mono HB.out.size))
            clear ho5 hb5
            go_wp2_with fail
            go_roundw
            case rel => exact ⟨i + 1, by go_num, by omega, by rw [HSN.out, HL2.out]; exact HO5.out.ints, HB5.out⟩
            case measure => simp [intOf]; omega
          · have kx : decide (x < 0) = true := decide_eq_true (by omega)
            have HT := Lib.hid (fun W h => turned_any (.slice A' im.length c') im W (by omega) HPR.out h)
            have HM := Lib.hid (fun r W h1 h2 => refMul_any (.slice A7 cur.length c7) r cur (winv im) W (by omega) (by rw [winv_length]; omega) HRR.out HPR.out.winv h1 h2)
            have HL2 := Lib.hid (HLE.out.trans (if_neg hx0))
            clear hxr hx0 hxn HLE
            go_wp2_with fail
            refine (HS.out _).mono ?_
            rintro e w1 ⟨rfl, hw1⟩
            subst hw1
            go_wp2_with fail
            refine (HT.out _ HPI.out).mono ?_
            rintro e w6 ⟨r6, rfl, ho6, hb6⟩
            have HO6 := Lib.hid ho6
            have HB6 := Lib.hid hb6
            clear ho6 hb6
            go_wp2_with fail
            refine (HM.out _ _ (HO.out.grow HB6.out) HO6.out.ints).mono ?_
            rintro e w5 ⟨r5, rfl, ho5, hb5⟩
            have HO5 := Lib.hid ho5
            have HB5 := Lib.hid (HB.out.trans ((HB6.out.trans (hb5.mono HB6.out.size)).mono HB.out.size))
            clear ho5 hb5
            go_wp2_with fail
            go_roundw
            case rel => exact ⟨i + 1, by go_num, by omega, by rw [HSN.out, HL2.out]; exact HO5.out.ints, HB5.out⟩
            case measure => simp [intOf]; omega
        · have kd : decide ((i : Int) < (zs.length : Int)) = false := decide_eq_false (by omega)
          rw [List.take_of_length_le (show zs.length ≤ i by omega)] at HO hrl ⊢
          have HE4 := Lib.hid (show subE ims zs = if 4000 < (red (subW ims zs)).length then 4 else 0 from by unfold subE; rw [HOK.out]; rfl)
          by_cases h4 : 4000 < (red (subW ims zs)).length
          · have HX := Lib.hid (show ∀ e, e = Ending.returned (.tuple #[.slice none 0 0, .int .i64 4]) → PP e wx from fun e he => by
              have h2 : subE ims zs = 4 := HE4.out.trans (if_pos h4)
              rw [← HPP.out]
              unfold subL
              rw [h2]
              exact ⟨_, he, (owns_nil _ wr.heap.size).ints, HB.out⟩)
            have k4 : decide ((4000 : Int) < ((red (subW ims zs)).length : Int)) = true := decide_eq_true (by omega)
            generalize red (subW ims zs) = rr at HO k4 ⊢
            clear h4 hrl HE4
            go_wp2_with fail
            exact HX.out _ rfl
          · have HX := Lib.hid (show ∀ v e, Ints wx wx.heap.size v (red (subW ims zs)) → e = Ending.returned (.tuple #[v, .int .i64 0]) → PP e wx from fun v e hv he => by
              have h2 : subE ims zs = 0 := HE4.out.trans (if_neg h4)
              rw [← HPP.out]
              unfold subL
              rw [h2, if_pos rfl]
              exact ⟨_, he, hv, HB.out⟩)
            have k4 : decide ((4000 : Int) < ((red (subW ims zs)).length : Int)) = false := decide_eq_false (by omega)
            generalize red (subW ims zs) = rr at HO k4 HX ⊢
            clear h4 hrl HE4
            go_wp2_with fail
            exact HX.out _ _ HO.out rfl
end Go.Proofs.YtjllnbldpcmddaaGreatDoor
