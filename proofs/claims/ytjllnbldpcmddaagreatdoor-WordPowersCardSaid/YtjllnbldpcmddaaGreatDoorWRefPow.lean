/- The reference's Pow for every word and every exponent. -/
import Derived.Test.YtjllnbldpcmddaaGreatDoorWPowG
import Derived.Test.YtjllnbldpcmddaaGreatDoorWOwn
namespace Go.Proofs.YtjllnbldpcmddaaGreatDoor
open Go Go.RowKit

theorem OwnsI.onB {w w' : World} {B : Nat} {v : Value} {l : List Int} (h : OwnsI w B v l) (hb : Below w.heap.size w w') : OwnsI w' B v l := by
  refine ⟨h.1, ?_⟩
  rcases h.2 with ⟨a, b⟩ | ⟨g, cap, cur, rfl, hb0, hg, hnc, hcm, hcs, ht⟩
  · exact .inl ⟨a, b⟩
  · exact .inr ⟨g, cap, cur, rfl, hb0, (hb.block g (Array.getElem?_eq_some_iff.1 hg).1).trans hg, hnc, hcm, hcs, ht⟩
theorem rep_snoc (l : List Int) : ∀ t, rep l (t + 1) = rep l t ++ l
  | 0 => by simp [rep]
  | t + 1 => by
    show l ++ rep l (t + 1) = l ++ rep l t ++ l
    rw [rep_snoc l t, List.append_assoc]

set_option maxRecDepth 100000 in
set_option maxHeartbeats 8000000 in
theorem refPow_gen (v : Value) (zs : List Int) (n : Int) (w : World) (hl : zs.length ≤ 300) (hn : -9223372036854775808 ≤ n ∧ n ≤ 9223372036854775807) (hz : Rng zs) (hv : Ints w w.heap.size v zs) :
    Calls Tryz.prog 7 #[v, .int .i64 n] w fun e w' => ∃ l x, PowS (powB zs n) n.natAbs l x ∧ GivesE w l x e w' := by
  obtain ⟨i0, hi, hz0, hz1, hz2⟩ := info_parts info3'
  have HR := Lib.hid (refReduce_any v zs w (by omega) hz hv)
  unfold GivesO at HR
  obtain ⟨A, c, rfl⟩ := hv.form
  obtain ⟨f1, f2, f3⟩ := powB_facts n hz
  have hlr : (powB zs n).length ≤ 300 := by omega
  have HQ2 := Lib.hid f1
  have HZ2 := Lib.hid f2
  have HRZ := Lib.hid hz.red
  have hrl := red_length zs
  clear hv hz f1 f2 f3
  by_cases hneg : n < 0
  · have hpb : powB zs n = winv (red zs) := if_pos hneg
    rw [hpb] at HQ2 HZ2 hlr ⊢
    have HI := fun r W h => Lib.hid (turned_any r (red zs) W (by omega) HRZ.out h)
    have hdn : decide (n < 0) = true := decide_eq_true hneg
    generalize red zs = l at HQ2 HZ2 hlr HI HR hrl ⊢
    generalize winv l = m at HQ2 HZ2 hlr HI ⊢
    clear hpb HRZ
    have htn : (n.natAbs : Int) = -n := by omega
    generalize hPP : (fun e w' => ∃ l x, PowS m n.natAbs l x ∧ GivesE w l x e w') = PP
    have HPP := Lib.hid hPP
    clear hPP
    go_enter Tryz.func7, Tryz.ntmps7
    go_wp2_with fail
    refine (HR.out).mono ?_
    rintro e w1 ⟨r1, rfl, ho1, hb1⟩
    have HO1 := Lib.hid ho1
    have HB1 := Lib.hid hb1
    clear ho1 hb1 HR
    go_wp2_with fail
    refine ((HI r1 w1 HO1.out.ints).out).mono ?_
    rintro e w2 ⟨r2, rfl, ho2, hb2⟩
    have HO2 := Lib.hid (ho2.base HB1.out.size)
    have HB2 := Lib.hid (HB1.out.trans (hb2.mono HB1.out.size))
    clear ho2 hb2 HO1 HB1 HI
    obtain ⟨A2, c2, rfl⟩ := HO2.out.len
    have HCY := Lib.hid (refCyclic_any (.slice A2 m.length c2) m w2 (by omega) HZ2.out HO2.out.ints)
    go_wp2_with fail
    refine (HCY.out).mono ?_
    rintro e w3 ⟨md, ⟨k, hE, hmd⟩, r3, rfl, hi3, hb3⟩
    rw [red_of_red HQ2.out] at hE hmd
    have HE := Lib.hid hE
    have HMD := Lib.hid hmd
    have HI3 := Lib.hid hi3
    have HB3 := Lib.hid hb3
    clear hE hmd hi3 hb3 HCY
    obtain ⟨A3, c3, rfl⟩ := HI3.out.form
    have HO3 := Lib.hid (HO2.out.onB HB3.out)
    have HBW := Lib.hid (HB2.out.trans (HB3.out.mono HB2.out.size))
    by_cases hn0 : n = 0
    · have HX := Lib.hid (show ∀ e w', GivesE w [] 0 e w' → PP e w' from fun e' w' h => by rw [← HPP.out]; exact ⟨[], 0, ⟨fun _ => ⟨rfl, rfl⟩, fun _ h => absurd (by omega) h⟩, h⟩)
      have hb1 : (n == 0) = true := by rw [beq_iff_eq]; omega
      go_wp2_with fail
      exact HX.out _ _ ⟨_, rfl, (owns_nil _ w.heap.size).ints, HBW.out⟩
    have hb1 : (n == 0) = false := by rw [beq_eq_false_iff_ne]; omega
    by_cases h0 : m.length = 0
    · have e : m = [] := List.length_eq_zero_iff.1 h0
      have hmd0 : md.length = 0 := by rw [HMD.out, e]; simp [midW]
      have HX := Lib.hid (show ∀ e w', GivesE w [] 0 e w' → PP e w' from fun e' w' h => by rw [← HPP.out]; exact ⟨[], 0, ⟨fun _ => ⟨rfl, rfl⟩, fun h => absurd e h⟩, h⟩)
      clear e
      have hb2 : ((md.length : Int) == 0) = true := by rw [beq_iff_eq]; omega
      go_wp2_with fail
      exact HX.out _ _ ⟨_, rfl, (owns_nil _ w.heap.size).ints, HBW.out⟩
    have hsh := ends_short' HQ2.out (by omega) HE.out
    have hml := midW_length m hsh
    rw [← HMD.out] at hml
    have hb2 : ((md.length : Int) == 0) = false := by rw [beq_eq_false_iff_ne]; omega
    have hne : m ≠ [] := fun e => by rw [e] at h0; simp at h0
    have ht0 : n.natAbs ≠ 0 := by omega
    have HPG := Lib.hid (show (4000 < 2 * k + n.natAbs * md.length → ∀ e w', GivesE w [] 4 e w' → PP e w') ∧ (¬ 4000 < 2 * k + n.natAbs * md.length → ∀ e w', GivesE w (m.take k ++ (rep md n.natAbs ++ m.drop (m.length - k))) 0 e w' → PP e w') from by
      rw [hml, HMD.out]
      refine ⟨fun h e' w' g => ?_, fun h e' w' g => ?_⟩
      · rw [← HPP.out]; exact ⟨_, _, ⟨fun h' => h'.elim (fun e => absurd e hne) (fun e => absurd e ht0), fun _ _ => ⟨k, HE.out, fun _ => ⟨rfl, rfl⟩, fun h' => absurd h h'⟩⟩, g⟩
      · rw [← HPP.out]; exact ⟨_, _, ⟨fun h' => h'.elim (fun e => absurd e hne) (fun e => absurd e ht0), fun _ _ => ⟨k, HE.out, fun h' => absurd h' h, fun _ => ⟨rfl, rfl⟩⟩⟩, g⟩)
    by_cases hbig : 4000 < n.natAbs
    · have hlong : 4000 < 2 * k + n.natAbs * md.length := by have := Nat.le_mul_of_pos_right n.natAbs (show 0 < md.length by omega); omega
      have HX := Lib.hid (HPG.out.1 hlong)
      clear HPG hlong hne
      have kd1 : decide ((4000 : Int) < n) = false := decide_eq_false (by omega)
      have kd2 : decide (n < (-4000 : Int)) = true := decide_eq_true (by omega)
      go_wp2_with fail
      exact HX.out _ _ ⟨_, rfl, (owns_nil _ w.heap.size).ints, HBW.out⟩
    have kd1 : decide ((4000 : Int) < n) = false := decide_eq_false (by omega)
    have kd2 : decide (n < (-4000 : Int)) = false := decide_eq_false (by omega)
    obtain ⟨t, ht⟩ : ∃ t, n.natAbs = t := ⟨_, rfl⟩
    rw [ht] at HPG htn hbig ht0
    obtain ⟨P, hP⟩ : ∃ P, t * md.length = P := ⟨_, rfl⟩
    have hP2 : P ≤ 4000 * 300 := by rw [← hP]; exact Nat.mul_le_mul (by omega) (by omega)
    have kw1 : IntKind.i64.wrap (-n) = (t : Int) := by rw [IntKind.wrap_i64]; omega
    have kmx : max n (t : Int) = (t : Int) := by omega
    clear htn
    have kP : (md.length : Int) * (t : Int) = (P : Int) := by rw [← hP, Int.natCast_mul, Int.mul_comm]
    have kP2 : IntKind.i64.wrap (P : Int) = P := by rw [IntKind.wrap_i64]; omega
    obtain ⟨k2, hk2⟩ : ∃ k2, 2 * k = k2 := ⟨_, rfl⟩
    obtain ⟨S, hS⟩ : ∃ S, 2 * k + P = S := ⟨_, rfl⟩
    have ks1 : (m.length : Int) - (md.length : Int) = (k2 : Int) := by omega
    have ks2 : IntKind.i64.wrap (k2 : Int) = (k2 : Int) := by rw [IntKind.wrap_i64]; omega
    have ks3 : (k2 : Int) + (P : Int) = (S : Int) := by omega
    have ks4 : IntKind.i64.wrap (S : Int) = (S : Int) := by rw [IntKind.wrap_i64]; omega
    rw [hP, hS] at HPG
    have HML := Lib.hid hml
    have HK2 := Lib.hid hk2
    have HSS := Lib.hid hS
    have HPI := Lib.hid hP
    have HSH := Lib.hid hsh
    have hS4 : S ≤ 1300000 := by omega
    have hkk : k ≤ 300 := by omega
    clear hml hk2 hS hP hsh
    by_cases hlong : 4000 < S
    · have HX := Lib.hid (HPG.out.1 hlong)
      have kd3 : decide ((4000 : Int) < (S : Int)) = true := decide_eq_true (by omega)
      clear HPG hne
      go_wp2_with fail
      exact HX.out _ _ ⟨_, rfl, (owns_nil _ w.heap.size).ints, HBW.out⟩
    have kd3 : decide ((4000 : Int) < (S : Int)) = false := decide_eq_false (by omega)
    have HPG2 := Lib.hid (HPG.out.2 hlong)
    obtain ⟨q, hq⟩ : ∃ q, k + md.length = q := ⟨_, rfl⟩
    have ks5 : (k2 : Int) / 2 = (k : Int) := by have := HK2.out; omega
    have hqm : q = m.length - k := by have := HML.out; have := HSH.out; omega
    have ks7 : IntKind.i64.wrap (k : Int) = k := by rw [IntKind.wrap_i64]; omega
    have ks8 : (k : Int) + (md.length : Int) = (q : Int) := by omega
    have ks9 : IntKind.i64.wrap (q : Int) = (q : Int) := by rw [IntKind.wrap_i64]; omega
    obtain ⟨vp, hvp, hip⟩ := cut_pre HO3.out (k := k) (by have := HSH.out; omega)
    obtain ⟨vs, hvs, his⟩ := cut_suf HO3.out (k := q) (by omega)
    rw [hqm] at his
    have HIS := Lib.hid his
    have hpl : (m.take k).length ≤ 300 := by simp; omega
    have HQE := Lib.hid hqm
    have HQF := Lib.hid hq
    clear hqm hq
    have hsl : (m.drop (m.length - k)).length ≤ 300 := by simp; omega
    have HOW := Lib.hid (ownB_any vp (m.take k) w3 (by omega) hip)
    generalize m.take k = tp at HPG2 hpl HOW
    generalize m.drop (m.length - k) = td at HPG2 hsl HIS
    clear hip his HPG hne HE HMD h0 ht
    go_wp2_with fail
    refine (HOW.out).mono ?_
    rintro e w4 ⟨r4, rfl, ho4, hb4⟩
    have HO4 := Lib.hid ho4
    have HB4 := Lib.hid hb4
    clear ho4 hb4 HOW
    go_wp2_with fail
    go_loopw [9, 10] (fun t9 t10 wr => ∃ j : Nat, t10 = .int .i64 j ∧ j ≤ t ∧ OwnsI wr w3.heap.size t9 (tp ++ rep md j) ∧ Below w3.heap.size w3 wr) (fun _ t10 _ => t - (intOf t10).toNat)
    case atStart => exact ⟨0, rfl, Nat.zero_le _, by simp [rep]; exact HO4.out, HB4.out⟩
    case round =>
      obtain ⟨j, rfl, hj, hO, hB⟩ := hrel
      rename World => wr
      have HO := Lib.hid hO
      have HB := Lib.hid hB
      clear hO hB
      obtain ⟨A9, c9, hf9⟩ := HO.out.len
      subst hf9
      have hlj : (tp ++ rep md j).length ≤ 300 + 4000 * 300 := by
        have h1 := rep_len md j
        have h2 : j * md.length ≤ 4000 * 300 := Nat.mul_le_mul (by omega) (by omega)
        rw [List.length_append, h1]; omega
      by_cases hlt : j < t
      · have kd4 : decide ((j : Int) < (t : Int)) = true := decide_eq_true (by omega)
        have HSN := Lib.hid (show tp ++ rep md (j + 1) = (tp ++ rep md j) ++ md from by rw [rep_snoc, List.append_assoc])
        have HMI := Lib.hid ((HI3.out.grow HB.out))
        have hss := HB.out.size
        generalize tp ++ rep md j = cur at HO HSN hlj ⊢
        go_wp2_with (at_builtin; refine wpList_append_ints _ rfl (.tmp 70) (.tmp 71) 22 23 rfl w3.heap.size 3 i0 Tryz.underlying22 Tryz.underlying23 hi hz0 hz1 hz2 _ _ cur md _ rfl HO.out rfl HMI.out (by omega) hss ?_; intro v1 w1 hown hgrow _; have HX := Lib.hid hown; have HB5 := Lib.hid (HB.out.grown hgrow hss (fun q hq => (HO.out.lt q hq).1)); clear hown hgrow)
        go_roundw
        case rel => exact ⟨j + 1, by go_num, by omega, by rw [HSN.out]; exact HX.out, HB5.out⟩
        case measure => simp [intOf]; omega
      · obtain rfl : t = j := by omega
        have kd4 : decide ((t : Int) < (t : Int)) = false := decide_eq_false (by omega)
        have HSI := Lib.hid ((HIS.out.grow HB.out))
        have hss := HB.out.size
        have HAS := Lib.hid (show (tp ++ rep md t) ++ td = tp ++ (rep md t ++ td) from List.append_assoc _ _ _)
        generalize tp ++ rep md t = cur at HO HAS hlj ⊢
        obtain ⟨As, cs, hfs⟩ := HSI.out.form
        subst hfs
        go_wp2_with (at_builtin; refine wpList_append_ints _ rfl (.tmp 73) (.tmp 79) 22 23 rfl w3.heap.size 3 i0 Tryz.underlying22 Tryz.underlying23 hi hz0 hz1 hz2 _ _ cur td _ rfl HO.out rfl HSI.out (by omega) hss ?_; intro v1 w1 hown hgrow _; have HX := Lib.hid hown; have HB5 := Lib.hid (HB.out.grown hgrow hss (fun q hq => (HO.out.lt q hq).1)); clear hown hgrow)
        exact HPG2.out _ _ ⟨_, rfl, by rw [← HAS.out]; exact HX.out.ints, HBW.out.trans (HB5.out.mono HBW.out.size)⟩
  · have hpb : powB zs n = red zs := if_neg hneg
    rw [hpb] at HQ2 HZ2 hlr ⊢
    have hdn : decide (n < 0) = false := decide_eq_false hneg
    generalize red zs = m at HQ2 HZ2 hlr HR hrl HRZ ⊢
    clear hpb HRZ
    have htn : (n.natAbs : Int) = n := by omega
    generalize hPP : (fun e w' => ∃ l x, PowS m n.natAbs l x ∧ GivesE w l x e w') = PP
    have HPP := Lib.hid hPP
    clear hPP
    go_enter Tryz.func7, Tryz.ntmps7
    go_wp2_with fail
    refine (HR.out).mono ?_
    rintro e w2 ⟨r2, rfl, ho2, hb2⟩
    have HO2 := Lib.hid ho2
    have HB2 := Lib.hid hb2
    clear ho2 hb2 HR
    obtain ⟨A2, c2, rfl⟩ := HO2.out.len
    have HCY := Lib.hid (refCyclic_any (.slice A2 m.length c2) m w2 (by omega) HZ2.out HO2.out.ints)
    go_wp2_with fail
    refine (HCY.out).mono ?_
    rintro e w3 ⟨md, ⟨k, hE, hmd⟩, r3, rfl, hi3, hb3⟩
    rw [red_of_red HQ2.out] at hE hmd
    have HE := Lib.hid hE
    have HMD := Lib.hid hmd
    have HI3 := Lib.hid hi3
    have HB3 := Lib.hid hb3
    clear hE hmd hi3 hb3 HCY
    obtain ⟨A3, c3, rfl⟩ := HI3.out.form
    have HO3 := Lib.hid (HO2.out.onB HB3.out)
    have HBW := Lib.hid (HB2.out.trans (HB3.out.mono HB2.out.size))
    by_cases hn0 : n = 0
    · have HX := Lib.hid (show ∀ e w', GivesE w [] 0 e w' → PP e w' from fun e' w' h => by rw [← HPP.out]; exact ⟨[], 0, ⟨fun _ => ⟨rfl, rfl⟩, fun _ h => absurd (by omega) h⟩, h⟩)
      have hb1 : (n == 0) = true := by rw [beq_iff_eq]; omega
      go_wp2_with fail
      exact HX.out _ _ ⟨_, rfl, (owns_nil _ w.heap.size).ints, HBW.out⟩
    have hb1 : (n == 0) = false := by rw [beq_eq_false_iff_ne]; omega
    by_cases h0 : m.length = 0
    · have e : m = [] := List.length_eq_zero_iff.1 h0
      have hmd0 : md.length = 0 := by rw [HMD.out, e]; simp [midW]
      have HX := Lib.hid (show ∀ e w', GivesE w [] 0 e w' → PP e w' from fun e' w' h => by rw [← HPP.out]; exact ⟨[], 0, ⟨fun _ => ⟨rfl, rfl⟩, fun h => absurd e h⟩, h⟩)
      clear e
      have hb2 : ((md.length : Int) == 0) = true := by rw [beq_iff_eq]; omega
      go_wp2_with fail
      exact HX.out _ _ ⟨_, rfl, (owns_nil _ w.heap.size).ints, HBW.out⟩
    have hsh := ends_short' HQ2.out (by omega) HE.out
    have hml := midW_length m hsh
    rw [← HMD.out] at hml
    have hb2 : ((md.length : Int) == 0) = false := by rw [beq_eq_false_iff_ne]; omega
    have hne : m ≠ [] := fun e => by rw [e] at h0; simp at h0
    have ht0 : n.natAbs ≠ 0 := by omega
    have HPG := Lib.hid (show (4000 < 2 * k + n.natAbs * md.length → ∀ e w', GivesE w [] 4 e w' → PP e w') ∧ (¬ 4000 < 2 * k + n.natAbs * md.length → ∀ e w', GivesE w (m.take k ++ (rep md n.natAbs ++ m.drop (m.length - k))) 0 e w' → PP e w') from by
      rw [hml, HMD.out]
      refine ⟨fun h e' w' g => ?_, fun h e' w' g => ?_⟩
      · rw [← HPP.out]; exact ⟨_, _, ⟨fun h' => h'.elim (fun e => absurd e hne) (fun e => absurd e ht0), fun _ _ => ⟨k, HE.out, fun _ => ⟨rfl, rfl⟩, fun h' => absurd h h'⟩⟩, g⟩
      · rw [← HPP.out]; exact ⟨_, _, ⟨fun h' => h'.elim (fun e => absurd e hne) (fun e => absurd e ht0), fun _ _ => ⟨k, HE.out, fun h' => absurd h' h, fun _ => ⟨rfl, rfl⟩⟩⟩, g⟩)
    by_cases hbig : 4000 < n.natAbs
    · have hlong : 4000 < 2 * k + n.natAbs * md.length := by have := Nat.le_mul_of_pos_right n.natAbs (show 0 < md.length by omega); omega
      have HX := Lib.hid (HPG.out.1 hlong)
      clear HPG hlong hne
      have kd1 : decide ((4000 : Int) < n) = true := decide_eq_true (by omega)
      go_wp2_with fail
      exact HX.out _ _ ⟨_, rfl, (owns_nil _ w.heap.size).ints, HBW.out⟩
    have kd1 : decide ((4000 : Int) < n) = false := decide_eq_false (by omega)
    have kd2 : decide (n < (-4000 : Int)) = false := decide_eq_false (by omega)
    obtain ⟨t, ht⟩ : ∃ t, n.natAbs = t := ⟨_, rfl⟩
    rw [ht] at HPG htn hbig ht0
    obtain ⟨P, hP⟩ : ∃ P, t * md.length = P := ⟨_, rfl⟩
    have hP2 : P ≤ 4000 * 300 := by rw [← hP]; exact Nat.mul_le_mul (by omega) (by omega)
    have hnt : n = (t : Int) := htn.symm
    subst hnt
    obtain ⟨NN, hNN⟩ : ∃ NN : Int, -(t : Int) = NN := ⟨_, rfl⟩
    have kw1 : IntKind.i64.wrap (-(t : Int)) = NN := by rw [IntKind.wrap_i64]; omega
    have kmx : max (t : Int) NN = (t : Int) := by omega
    clear hNN
    have kP : (md.length : Int) * (t : Int) = (P : Int) := by rw [← hP, Int.natCast_mul, Int.mul_comm]
    have kP2 : IntKind.i64.wrap (P : Int) = P := by rw [IntKind.wrap_i64]; omega
    obtain ⟨k2, hk2⟩ : ∃ k2, 2 * k = k2 := ⟨_, rfl⟩
    obtain ⟨S, hS⟩ : ∃ S, 2 * k + P = S := ⟨_, rfl⟩
    have ks1 : (m.length : Int) - (md.length : Int) = (k2 : Int) := by omega
    have ks2 : IntKind.i64.wrap (k2 : Int) = (k2 : Int) := by rw [IntKind.wrap_i64]; omega
    have ks3 : (k2 : Int) + (P : Int) = (S : Int) := by omega
    have ks4 : IntKind.i64.wrap (S : Int) = (S : Int) := by rw [IntKind.wrap_i64]; omega
    rw [hP, hS] at HPG
    have HML := Lib.hid hml
    have HK2 := Lib.hid hk2
    have HSS := Lib.hid hS
    have HPI := Lib.hid hP
    have HSH := Lib.hid hsh
    have hS4 : S ≤ 1300000 := by omega
    have hkk : k ≤ 300 := by omega
    clear hml hk2 hS hP hsh
    by_cases hlong : 4000 < S
    · have HX := Lib.hid (HPG.out.1 hlong)
      have kd3 : decide ((4000 : Int) < (S : Int)) = true := decide_eq_true (by omega)
      clear HPG hne
      go_wp2_with fail
      exact HX.out _ _ ⟨_, rfl, (owns_nil _ w.heap.size).ints, HBW.out⟩
    have kd3 : decide ((4000 : Int) < (S : Int)) = false := decide_eq_false (by omega)
    have HPG2 := Lib.hid (HPG.out.2 hlong)
    obtain ⟨q, hq⟩ : ∃ q, k + md.length = q := ⟨_, rfl⟩
    have ks5 : (k2 : Int) / 2 = (k : Int) := by have := HK2.out; omega
    have hqm : q = m.length - k := by have := HML.out; have := HSH.out; omega
    have ks7 : IntKind.i64.wrap (k : Int) = k := by rw [IntKind.wrap_i64]; omega
    have ks8 : (k : Int) + (md.length : Int) = (q : Int) := by omega
    have ks9 : IntKind.i64.wrap (q : Int) = (q : Int) := by rw [IntKind.wrap_i64]; omega
    obtain ⟨vp, hvp, hip⟩ := cut_pre HO3.out (k := k) (by have := HSH.out; omega)
    obtain ⟨vs, hvs, his⟩ := cut_suf HO3.out (k := q) (by omega)
    rw [hqm] at his
    have HIS := Lib.hid his
    have hpl : (m.take k).length ≤ 300 := by simp; omega
    have HQE := Lib.hid hqm
    have HQF := Lib.hid hq
    clear hqm hq
    have hsl : (m.drop (m.length - k)).length ≤ 300 := by simp; omega
    have HOW := Lib.hid (ownB_any vp (m.take k) w3 (by omega) hip)
    generalize m.take k = tp at HPG2 hpl HOW
    generalize m.drop (m.length - k) = td at HPG2 hsl HIS
    clear hip his HPG hne HE HMD h0 ht
    go_wp2_with fail
    refine (HOW.out).mono ?_
    rintro e w4 ⟨r4, rfl, ho4, hb4⟩
    have HO4 := Lib.hid ho4
    have HB4 := Lib.hid hb4
    clear ho4 hb4 HOW
    go_wp2_with fail
    go_loopw [9, 10] (fun t9 t10 wr => ∃ j : Nat, t10 = .int .i64 j ∧ j ≤ t ∧ OwnsI wr w3.heap.size t9 (tp ++ rep md j) ∧ Below w3.heap.size w3 wr) (fun _ t10 _ => t - (intOf t10).toNat)
    case atStart => exact ⟨0, rfl, Nat.zero_le _, by simp [rep]; exact HO4.out, HB4.out⟩
    case round =>
      obtain ⟨j, rfl, hj, hO, hB⟩ := hrel
      rename World => wr
      have HO := Lib.hid hO
      have HB := Lib.hid hB
      clear hO hB
      obtain ⟨A9, c9, hf9⟩ := HO.out.len
      subst hf9
      have hlj : (tp ++ rep md j).length ≤ 300 + 4000 * 300 := by
        have h1 := rep_len md j
        have h2 : j * md.length ≤ 4000 * 300 := Nat.mul_le_mul (by omega) (by omega)
        rw [List.length_append, h1]; omega
      by_cases hlt : j < t
      · have kd4 : decide ((j : Int) < (t : Int)) = true := decide_eq_true (by omega)
        have HSN := Lib.hid (show tp ++ rep md (j + 1) = (tp ++ rep md j) ++ md from by rw [rep_snoc, List.append_assoc])
        have HMI := Lib.hid ((HI3.out.grow HB.out))
        have hss := HB.out.size
        generalize tp ++ rep md j = cur at HO HSN hlj ⊢
        go_wp2_with (at_builtin; refine wpList_append_ints _ rfl (.tmp 70) (.tmp 71) 22 23 rfl w3.heap.size 3 i0 Tryz.underlying22 Tryz.underlying23 hi hz0 hz1 hz2 _ _ cur md _ rfl HO.out rfl HMI.out (by omega) hss ?_; intro v1 w1 hown hgrow _; have HX := Lib.hid hown; have HB5 := Lib.hid (HB.out.grown hgrow hss (fun q hq => (HO.out.lt q hq).1)); clear hown hgrow)
        go_roundw
        case rel => exact ⟨j + 1, by go_num, by omega, by rw [HSN.out]; exact HX.out, HB5.out⟩
        case measure => simp [intOf]; omega
      · obtain rfl : t = j := by omega
        have kd4 : decide ((t : Int) < (t : Int)) = false := decide_eq_false (by omega)
        have HSI := Lib.hid ((HIS.out.grow HB.out))
        have hss := HB.out.size
        have HAS := Lib.hid (show (tp ++ rep md t) ++ td = tp ++ (rep md t ++ td) from List.append_assoc _ _ _)
        generalize tp ++ rep md t = cur at HO HAS hlj ⊢
        obtain ⟨As, cs, hfs⟩ := HSI.out.form
        subst hfs
        go_wp2_with (at_builtin; refine wpList_append_ints _ rfl (.tmp 73) (.tmp 79) 22 23 rfl w3.heap.size 3 i0 Tryz.underlying22 Tryz.underlying23 hi hz0 hz1 hz2 _ _ cur td _ rfl HO.out rfl HSI.out (by omega) hss ?_; intro v1 w1 hown hgrow _; have HX := Lib.hid hown; have HB5 := Lib.hid (HB.out.grown hgrow hss (fun q hq => (HO.out.lt q hq).1)); clear hown hgrow)
        exact HPG2.out _ _ ⟨_, rfl, by rw [← HAS.out]; exact HX.out.ints, HBW.out.trans (HB5.out.mono HBW.out.size)⟩
end Go.Proofs.YtjllnbldpcmddaaGreatDoor
