/- word.Pow of short words. -/
import Derived.Test.YtlpepholcehojaaDoorWEndsMath
import Derived.Test.YtlpepholcehojaaDoorWOps
namespace Go.Proofs.YtlpepholcehojaaDoor
open Go Go.RowKit

/-- 'v[k:len(v)-k]'. -/
theorem cut_mid {w : World} {B : Nat} {v : Value} {l : List Int} (h : OwnsI w B v l) {k : Nat} (hk : 2 * k < l.length) :
    ∃ A c, (∀ W, (Instr.slice 24 v (some (.int .i64 (k : Int))) (some (.int .i64 ((l.length - k : Nat) : Int))) none).run Tryd.prog W = .ok (.slice A (midW l k).length c) W) ∧ Ints w w.heap.size (.slice A (midW l k).length c) (midW l k) := by
  obtain ⟨i0, hi, hz0, hz1, hz2⟩ := info_parts info3'
  have hlen := midW_length l hk
  obtain ⟨g, cap, rfl, hb, hg, hcap, hcell⟩ := h.form (by omega)
  refine ⟨some ⟨g, k, none⟩, cap - k, fun W => ?_, ?_⟩
  · rw [run_slice_lh W 24 (some ⟨g, 0, none⟩) l.length cap (by kernel_rfl) .i64 .i64 k ((l.length - k : Nat) : Int) (by omega) (by omega) (by omega)]
    have : (sizeOf (Tryd.prog.elem 24)).run Tryd.prog W = .ok 1 W := by
      have e : Tryd.prog.elem 24 = 3 := by kernel_rfl
      rw [e]; simp [sizeOf, typeInfo, hi, hz1]
    rw [this, Int.toNat_natCast, Int.toNat_natCast]
    show Result.ok (sliced (some ⟨g, 0, none⟩) k (l.length - k) cap 1) W = _
    unfold sliced
    rw [if_neg (by omega), addr_map _ k g 0 rfl, Nat.zero_add, hlen, show l.length - k - k = l.length - 2 * k by omega]
  · refine ⟨_, _, rfl, fun _ => ⟨g, k, rfl, hg, fun j hj => ?_⟩⟩
    rw [hlen] at hj
    rw [hcell (k + j) (by omega), midW_get (by omega)]

theorem pow_room {L k t : Nat} (hL : 0 < L) (hL2 : L ≤ 40) (hk : k ≤ 20) (ht : t ≤ 40) :
    ∃ Q : Int, IntKind.u64.wrap ((4000 - 2 * (k : Int)) / (L : Int)) = Q ∧ decide (Q < (t : Int)) = false := by
  have e : (4000 - 2 * (k : Int)) = ((4000 - 2 * k : Nat) : Int) := by omega
  have hle : t * L ≤ 40 * 40 := Nat.mul_le_mul ht hL2
  have h1 : t ≤ (4000 - 2 * k) / L := (Nat.le_div_iff_mul_le hL).2 (by omega)
  have h2 : (4000 - 2 * k) / L ≤ 4000 := Nat.le_trans (Nat.div_le_self _ _) (by omega)
  refine ⟨(((4000 - 2 * k) / L : Nat) : Int), ?_, by rw [decide_eq_false_iff_not]; omega⟩
  rw [e, ← Int.natCast_ediv]
  generalize (4000 - 2 * k) / L = q at h2
  rw [IntKind.wrap_u64]
  omega
theorem red_nil : red [] = [] := rfl
theorem rep_nil (t : Nat) : rep [] t = [] := by
  induction t with
  | zero => rfl
  | succ t ih => simp [rep, ih]

set_option maxRecDepth 100000 in
set_option maxHeartbeats 4000000 in
theorem Pow_any (v : Value) (zs : List Int) (n : Int) (w : World) (hl : zs.length ≤ 40) (hn : n.natAbs ≤ 40) (hz : Lets zs) (hv : Ints w w.heap.size v zs) :
    Calls Tryd.prog 11 #[v, .int .i64 n] w fun e w' => ∃ r, e = .returned (.tuple #[r, .int .i64 0]) ∧ OwnsI w' w.heap.size r (powW zs n) ∧ Below w.heap.size w w' := by
  have HS := fun W => Lib.hid (size_any n W (by omega))
  have hlr : (red zs).length ≤ 40 := by have := red_length zs; omega
  have HZ := Lib.hid hz.red
  have HQ := Lib.hid (red_red zs)
  have HR := Lib.hid (Reduce_any v zs w (by omega) hz.rng hv)
  have hpw : powW zs n = red (zp (red zs) n) := rfl
  rw [hpw]
  obtain ⟨A, c, rfl⟩ := hv.form
  clear hv hz hpw
  generalize red zs = l at hlr HZ HQ HR
  by_cases hneg : n < 0
  · have hzp : red (zp l n) = red (rep (winv l) n.natAbs) := by unfold zp; rw [if_pos hneg]
    rw [hzp]
    generalize ht : n.natAbs = t at hn HS
    have hpos : 0 < t := by omega
    have HI := fun r W h => Lib.hid (inverse_any r l W (by omega) HZ.out.rng h)
    have HZ2 := Lib.hid HZ.out.winv
    have HQ2 := Lib.hid (Red.winv HZ.out HQ.out)
    have hlr2 : (winv l).length ≤ 40 := by rw [winv_length]; exact hlr
    clear hzp ht
    generalize winv l = m at HI HZ2 HQ2 hlr2
    generalize hres : red (rep m t) = res
    have HRES := Lib.hid hres
    clear hres HZ HQ
    go_enter Tryd.func11, Tryd.ntmps11
    go_wp2_with fail
    refine (HR.out).mono ?_
    rintro e w1 ⟨r1, rfl, ho1, hb1⟩
    have HO1 := Lib.hid ho1
    have HB1 := Lib.hid hb1
    clear ho1 hb1 HR
    go_wp2_with fail
    refine ((HI r1 w1 HO1.out.ints).out).mono ?_
    rintro e w2 ⟨r2, rfl, ho2, hb2⟩
    have HO2 := Lib.hid (ho2.base HB1.out.size)
    have HB2 := Lib.hid (HB1.out.trans (hb2.mono HB1.out.size))
    clear ho2 hb2 HO1 HB1 hlr HI
    obtain ⟨A2, c2, rfl⟩ := HO2.out.len
    go_wp2_with fail
    refine ((HS _).out).mono ?_
    rintro e w2 ⟨rfl, rfl⟩
    by_cases h0 : m.length = 0
    · have e : m = [] := List.length_eq_zero_iff.1 h0
      have er : res = [] := by rw [← HRES.out, e, rep_nil, red_nil]
      have HER := Lib.hid er
      clear HRES e er
      have hb0 : ((m.length : Int) == 0) = true := by rw [beq_iff_eq]; omega
      go_wp2_with fail
      go_ret2
      exact ⟨_, rfl, by rw [HER.out]; exact owns_nil _ _, HB2.out⟩
    · have h0' : 0 < m.length := by omega
      have hb0 : ((m.length : Int) == 0) = false := by rw [beq_eq_false_iff_ne]; omega
      have hb1 : ((t : Int) == 0) = false := by rw [beq_eq_false_iff_ne]; omega
      go_wp2_with fail
      refine (ends_any _ m _ (by omega) HZ2.out.rng HO2.out.ints).mono ?_
      rintro e w3 ⟨k, nk, rfl, hE, rfl⟩
      have hsh := ends_short HQ2.out HZ2.out h0' hE
      obtain ⟨Am, cm, hmid, him⟩ := cut_mid HO2.out hsh
      have HE := Lib.hid hE
      have hin : ((m.length : Int) - (k : Int)) = ((m.length - k : Nat) : Int) := by omega
      have hkk : k ≤ 20 := by omega
      have hF := pow_form HQ2.out HZ2.out hE hsh (t - 1)
      rw [show t - 1 + 1 = t by omega, HRES.out] at hF
      have hdrop : m.length - (m.length - k) = k := by omega
      obtain ⟨vp, hvp, hip⟩ := cut_pre HO2.out (k := k) (by omega)
      obtain ⟨vs, hvs, his⟩ := cut_suf HO2.out (k := m.length - k) (by omega)
      obtain ⟨Ap, cp, ep⟩ := hip.form
      obtain ⟨As, cs, es⟩ := his.form
      generalize (m.take k).length = np at ep
      generalize (m.drop (m.length - k)).length = ns at es
      subst ep es
      have hml := midW_length m hsh
      have hml0 : 0 < (midW m k).length := by omega
      have hml4 : (midW m k).length ≤ 40 := by omega
      have HREP := fun W h => Lib.hid (repeat_any (.slice Am (midW m k).length cm) (midW m k) t W (by omega) (by omega) (by have := Nat.mul_le_mul hn hml4; omega) h)
      have HF := Lib.hid hF
      have HIP := Lib.hid hip
      have HIS := Lib.hid his
      have HIM := Lib.hid him
      have HHD := Lib.hid hdrop
      clear hE hF HRES hip his him hdrop hml
      generalize midW m k = md at hmid HIM HF hml0 hml4 HREP
      obtain ⟨Q, hQ1, hQ2⟩ := pow_room hml0 hml4 hkk hn
      have hL0 : ¬ (md.length : Int) = 0 := by omega
      have hL1 : ¬ md = [] := fun e => by rw [e] at hml0; simp at hml0
      have hd1 : ¬ (4000 : Int) < 2 * (k : Int) := by omega
      have hd2 : ¬ Q < (t : Int) := of_decide_eq_false hQ2
      clear hQ2
      have hwt : IntKind.i64.wrap (t : Int) = t := by rw [IntKind.wrap_i64]; omega
      have hin2 : IntKind.i64.wrap ((m.length - k : Nat) : Int) = ((m.length - k : Nat) : Int) := by rw [IntKind.wrap_i64]; omega
      have hmix : Tryd.prog.follows .mixedOrders = true := by kernel_rfl
      go_wp2_with fail
      refine wp_region_any hmix ?_
      refine wpAny_take (i := 0) (v := .slice A2 m.length c2) rfl (by kernel_rfl) (by kernel_rfl) (by kernel_rfl) (fun _ _ _ h => h) (Or.inl ⟨by rfl, fun w => by go_simp⟩) ?_
      go_simp
      refine wpAny_take (i := 1) (v := .int .i64 k) rfl (by kernel_rfl) (by kernel_rfl) (by kernel_rfl) (fun _ _ _ h => h) (Or.inl ⟨by rfl, fun w => by go_simp⟩) ?_
      go_simp
      refine wpAny_take (i := 2) (v := .slice Ap np cp) rfl (by kernel_rfl) (by kernel_rfl) (by kernel_rfl) (fun _ _ _ h => h) (Or.inl ⟨by rfl, fun w => by go_simp⟩) ?_
      go_simp
      refine wpAny_take (i := 3) (v := .slice Am md.length cm) rfl (by kernel_rfl) (by kernel_rfl) (by kernel_rfl) (fun _ _ _ h => h) (Or.inl ⟨by rfl, fun w => by go_simp⟩) ?_
      go_simp
      refine wpAny_take (i := 4) (v := .int .u64 t) rfl (by kernel_rfl) (by kernel_rfl) (by kernel_rfl) (fun _ _ _ h => h) (Or.inl ⟨by rfl, fun w => by go_simp⟩) ?_
      go_simp
      refine wpAny_take (i := 5) (v := .int .i64 t) rfl (by kernel_rfl) (by kernel_rfl) (by kernel_rfl) (fun _ _ _ h => h) (Or.inl ⟨by rfl, fun w => by go_simp⟩) ?_
      go_simp
      refine wpAny_take (i := 7) (v := .slice A2 m.length c2) rfl (by kernel_rfl) (by kernel_rfl) (by kernel_rfl) (fun _ _ _ h => h) (Or.inl ⟨by rfl, fun w => by go_simp⟩) ?_
      go_simp
      refine wpAny_take (i := 8) (v := .slice A2 m.length c2) rfl (by kernel_rfl) (by kernel_rfl) (by kernel_rfl) (fun _ _ _ h => h) (Or.inl ⟨by rfl, fun w => by go_simp⟩) ?_
      go_simp
      refine wpAny_take (i := 9) (v := .int .i64 m.length) rfl (by kernel_rfl) (by kernel_rfl) (by kernel_rfl) (fun _ _ _ h => h) (Or.inl ⟨by rfl, fun w => by go_simp⟩) ?_
      go_simp
      refine wpAny_take (i := 10) (v := .int .i64 k) rfl (by kernel_rfl) (by kernel_rfl) (by kernel_rfl) (fun _ _ _ h => h) (Or.inl ⟨by rfl, fun w => by go_simp⟩) ?_
      go_simp
      refine wpAny_take (i := 11) (v := .int .i64 ((m.length - k : Nat) : Int)) rfl (by kernel_rfl) (by kernel_rfl) (by kernel_rfl) (fun _ _ _ h => h) (Or.inl ⟨by rfl, fun w => by go_simp⟩) ?_
      go_simp
      refine wpAny_take (i := 12) (v := .slice As ns cs) rfl (by kernel_rfl) (by kernel_rfl) (by kernel_rfl) (fun _ _ _ h => h) (Or.inl ⟨by rfl, fun w => by go_simp⟩) ?_
      go_simp
      refine wpAny_ready (rs := [6]) (by kernel_rfl) (by simp) ?_
      refine AllReady.cons rfl (fun K hK => ?_) AllReady.nil
      go_simp
      change Calls _ _ _ ((w2.drewN nk).drew) _
      have HIMq : Ints ((w2.drewN nk).drew) ((w2.drewN nk).drew).heap.size (.slice Am md.length cm) md := HIM.out
      have HIPq : Ints ((w2.drewN nk).drew) ((w2.drewN nk).drew).heap.size (.slice Ap np cp) (m.take k) := HIP.out
      have HISq : Ints ((w2.drewN nk).drew) ((w2.drewN nk).drew).heap.size (.slice As ns cs) (m.drop (m.length - k)) := HIS.out
      have HBq : Below w.heap.size w ((w2.drewN nk).drew) := HB2.out.trans ⟨rfl, rfl, rfl, Nat.le_refl _, fun _ _ => rfl⟩
      generalize (w2.drewN nk).drew = q at HIMq HIPq HISq HBq
      refine ((HREP q HIMq).out).mono ?_
      rintro e w3 ⟨r3, rfl, ho3, hb3⟩
      obtain ⟨A3, c3, e3⟩ := ho3.len
      generalize (rep md t).length = n3 at e3
      subst e3
      have HIP3 := HIPq.grow hb3
      have HIS3 := HISq.grow hb3
      have HB3 := Lib.hid (HBq.trans (hb3.mono HBq.size))
      have HL := Lib.hid (lists_new w3 [((.slice Ap np cp), m.take k), ((.slice A3 n3 c3), rep md t), ((.slice As ns cs), m.drop (m.length - k))] 3 (fun p hp => by
        simp only [List.mem_cons, List.not_mem_nil, or_false] at hp
        rcases hp with rfl | rfl | rfl
        · exact HIP3
        · exact ho3.ints
        · exact HIS3))
      have hfl : flat [((.slice Ap np cp), m.take k), ((.slice A3 n3 c3), rep md t), ((.slice As ns cs), m.drop (m.length - k))] = res := by rw [HF.out]; simp [flat]
      have hfl2 : (flat [((.slice Ap np cp), m.take k), ((.slice A3 n3 c3), rep md t), ((.slice As ns cs), m.drop (m.length - k))]).length ≤ 100000 := by
        have h1 := rep_len md t
        have h2 := Nat.mul_le_mul hn hml4
        simp [flat, h1]
        omega
      have HC := Lib.hid (concat_any (.slice (some ⟨w3.heap.size, 0, none⟩) 3 3) _ _ (by simp) (by omega) HL.out)
      rw [hfl] at HC
      clear ho3 hb3 HIMq HIPq HISq HBq HIP3 HIS3 HL hfl hfl2
      refine hK _ _ ?_
      clear hK K
      refine wpAny_ready (rs := [13]) (by kernel_rfl) (by simp) ?_
      refine AllReady.cons rfl (fun K hK => ?_) AllReady.nil
      go_simp
      refine hK _ _ ?_
      clear hK K
      refine wpAny_ready (rs := [14]) (by kernel_rfl) (by simp) ?_
      refine AllReady.cons rfl (fun K hK => ?_) AllReady.nil
      go_simp
      refine (HC.out).mono ?_
      rintro e w4 ⟨r4, rfl, ho4, hb4⟩
      have HB4 := Lib.hid ((HB3.out.alloc HB3.out.size _).trans (hb4.mono (by have := HB3.out.size; simp; omega)))
      have HO4 := Lib.hid (ho4.base (B' := w.heap.size) (by have := HB3.out.size; simp; omega))
      clear ho4 hb4 HC HB3
      refine hK _ _ ?_
      clear hK K
      refine wpAny_take (i := 15) (v := r4) rfl (by kernel_rfl) (by kernel_rfl) (by kernel_rfl) (fun _ _ _ h => h) (Or.inl ⟨by rfl, fun w => by go_simp⟩) ?_
      go_simp
      refine wpAny_take (i := 16) (v := .int .i64 0) rfl (by kernel_rfl) (by kernel_rfl) (by kernel_rfl) (fun _ _ _ h => h) (Or.inl ⟨by rfl, fun w => by go_simp⟩) ?_
      go_simp
      refine wpAny_done (by kernel_rfl) ?_ _
      go_wp2_with fail
      go_ret2
      exact ⟨_, rfl, HO4.out, HB4.out⟩
  · have hzp : red (zp l n) = red (rep l n.natAbs) := by unfold zp; rw [if_neg hneg]
    rw [hzp]
    generalize ht : n.natAbs = t at hn HS
    obtain ⟨m, hm⟩ : ∃ m, m = l := ⟨l, rfl⟩
    subst hm
    have HZ2 := Lib.hid HZ.out
    have HQ2 := Lib.hid HQ.out
    have hlr2 := hlr
    clear hzp ht
    generalize hres : red (rep m t) = res
    have HRES := Lib.hid hres
    clear hres HZ HQ hlr
    go_enter Tryd.func11, Tryd.ntmps11
    go_wp2_with fail
    refine (HR.out).mono ?_
    rintro e w2 ⟨r2, rfl, ho2, hb2⟩
    have HO2 := Lib.hid ho2
    have HB2 := Lib.hid hb2
    clear ho2 hb2 HR
    obtain ⟨A2, c2, rfl⟩ := HO2.out.len
    go_wp2_with fail
    refine ((HS _).out).mono ?_
    rintro e w2 ⟨rfl, rfl⟩
    by_cases h0 : m.length = 0
    · have e : m = [] := List.length_eq_zero_iff.1 h0
      have er : res = [] := by rw [← HRES.out, e, rep_nil, red_nil]
      have HER := Lib.hid er
      clear HRES e er
      have hb0 : ((m.length : Int) == 0) = true := by rw [beq_iff_eq]; omega
      go_wp2_with fail
      go_ret2
      exact ⟨_, rfl, by rw [HER.out]; exact owns_nil _ _, HB2.out⟩
    by_cases ht0 : t = 0
    · have er : res = [] := by rw [← HRES.out, ht0]; rfl
      have HER := Lib.hid er
      clear HRES er
      have hb0 : ((m.length : Int) == 0) = false := by rw [beq_eq_false_iff_ne]; omega
      have hb1 : ((t : Int) == 0) = true := by rw [beq_iff_eq]; omega
      go_wp2_with fail
      go_ret2
      exact ⟨_, rfl, by rw [HER.out]; exact owns_nil _ _, HB2.out⟩
    · have hpos : 0 < t := by omega
      have h0' : 0 < m.length := by omega
      have hb0 : ((m.length : Int) == 0) = false := by rw [beq_eq_false_iff_ne]; omega
      have hb1 : ((t : Int) == 0) = false := by rw [beq_eq_false_iff_ne]; omega
      go_wp2_with fail
      refine (ends_any _ m _ (by omega) HZ2.out.rng HO2.out.ints).mono ?_
      rintro e w3 ⟨k, nk, rfl, hE, rfl⟩
      have hsh := ends_short HQ2.out HZ2.out h0' hE
      obtain ⟨Am, cm, hmid, him⟩ := cut_mid HO2.out hsh
      have HE := Lib.hid hE
      have hin : ((m.length : Int) - (k : Int)) = ((m.length - k : Nat) : Int) := by omega
      have hkk : k ≤ 20 := by omega
      have hF := pow_form HQ2.out HZ2.out hE hsh (t - 1)
      rw [show t - 1 + 1 = t by omega, HRES.out] at hF
      have hdrop : m.length - (m.length - k) = k := by omega
      obtain ⟨vp, hvp, hip⟩ := cut_pre HO2.out (k := k) (by omega)
      obtain ⟨vs, hvs, his⟩ := cut_suf HO2.out (k := m.length - k) (by omega)
      obtain ⟨Ap, cp, ep⟩ := hip.form
      obtain ⟨As, cs, es⟩ := his.form
      generalize (m.take k).length = np at ep
      generalize (m.drop (m.length - k)).length = ns at es
      subst ep es
      have hml := midW_length m hsh
      have hml0 : 0 < (midW m k).length := by omega
      have hml4 : (midW m k).length ≤ 40 := by omega
      have HREP := fun W h => Lib.hid (repeat_any (.slice Am (midW m k).length cm) (midW m k) t W (by omega) (by omega) (by have := Nat.mul_le_mul hn hml4; omega) h)
      have HF := Lib.hid hF
      have HIP := Lib.hid hip
      have HIS := Lib.hid his
      have HIM := Lib.hid him
      have HHD := Lib.hid hdrop
      clear hE hF HRES hip his him hdrop hml
      generalize midW m k = md at hmid HIM HF hml0 hml4 HREP
      obtain ⟨Q, hQ1, hQ2⟩ := pow_room hml0 hml4 hkk hn
      have hL0 : ¬ (md.length : Int) = 0 := by omega
      have hL1 : ¬ md = [] := fun e => by rw [e] at hml0; simp at hml0
      have hd1 : ¬ (4000 : Int) < 2 * (k : Int) := by omega
      have hd2 : ¬ Q < (t : Int) := of_decide_eq_false hQ2
      clear hQ2
      have hwt : IntKind.i64.wrap (t : Int) = t := by rw [IntKind.wrap_i64]; omega
      have hin2 : IntKind.i64.wrap ((m.length - k : Nat) : Int) = ((m.length - k : Nat) : Int) := by rw [IntKind.wrap_i64]; omega
      have hmix : Tryd.prog.follows .mixedOrders = true := by kernel_rfl
      go_wp2_with fail
      refine wp_region_any hmix ?_
      refine wpAny_take (i := 0) (v := .slice A2 m.length c2) rfl (by kernel_rfl) (by kernel_rfl) (by kernel_rfl) (fun _ _ _ h => h) (Or.inl ⟨by rfl, fun w => by go_simp⟩) ?_
      go_simp
      refine wpAny_take (i := 1) (v := .int .i64 k) rfl (by kernel_rfl) (by kernel_rfl) (by kernel_rfl) (fun _ _ _ h => h) (Or.inl ⟨by rfl, fun w => by go_simp⟩) ?_
      go_simp
      refine wpAny_take (i := 2) (v := .slice Ap np cp) rfl (by kernel_rfl) (by kernel_rfl) (by kernel_rfl) (fun _ _ _ h => h) (Or.inl ⟨by rfl, fun w => by go_simp⟩) ?_
      go_simp
      refine wpAny_take (i := 3) (v := .slice Am md.length cm) rfl (by kernel_rfl) (by kernel_rfl) (by kernel_rfl) (fun _ _ _ h => h) (Or.inl ⟨by rfl, fun w => by go_simp⟩) ?_
      go_simp
      refine wpAny_take (i := 4) (v := .int .u64 t) rfl (by kernel_rfl) (by kernel_rfl) (by kernel_rfl) (fun _ _ _ h => h) (Or.inl ⟨by rfl, fun w => by go_simp⟩) ?_
      go_simp
      refine wpAny_take (i := 5) (v := .int .i64 t) rfl (by kernel_rfl) (by kernel_rfl) (by kernel_rfl) (fun _ _ _ h => h) (Or.inl ⟨by rfl, fun w => by go_simp⟩) ?_
      go_simp
      refine wpAny_take (i := 7) (v := .slice A2 m.length c2) rfl (by kernel_rfl) (by kernel_rfl) (by kernel_rfl) (fun _ _ _ h => h) (Or.inl ⟨by rfl, fun w => by go_simp⟩) ?_
      go_simp
      refine wpAny_take (i := 8) (v := .slice A2 m.length c2) rfl (by kernel_rfl) (by kernel_rfl) (by kernel_rfl) (fun _ _ _ h => h) (Or.inl ⟨by rfl, fun w => by go_simp⟩) ?_
      go_simp
      refine wpAny_take (i := 9) (v := .int .i64 m.length) rfl (by kernel_rfl) (by kernel_rfl) (by kernel_rfl) (fun _ _ _ h => h) (Or.inl ⟨by rfl, fun w => by go_simp⟩) ?_
      go_simp
      refine wpAny_take (i := 10) (v := .int .i64 k) rfl (by kernel_rfl) (by kernel_rfl) (by kernel_rfl) (fun _ _ _ h => h) (Or.inl ⟨by rfl, fun w => by go_simp⟩) ?_
      go_simp
      refine wpAny_take (i := 11) (v := .int .i64 ((m.length - k : Nat) : Int)) rfl (by kernel_rfl) (by kernel_rfl) (by kernel_rfl) (fun _ _ _ h => h) (Or.inl ⟨by rfl, fun w => by go_simp⟩) ?_
      go_simp
      refine wpAny_take (i := 12) (v := .slice As ns cs) rfl (by kernel_rfl) (by kernel_rfl) (by kernel_rfl) (fun _ _ _ h => h) (Or.inl ⟨by rfl, fun w => by go_simp⟩) ?_
      go_simp
      refine wpAny_ready (rs := [6]) (by kernel_rfl) (by simp) ?_
      refine AllReady.cons rfl (fun K hK => ?_) AllReady.nil
      go_simp
      change Calls _ _ _ ((w2.drewN nk).drew) _
      have HIMq : Ints ((w2.drewN nk).drew) ((w2.drewN nk).drew).heap.size (.slice Am md.length cm) md := HIM.out
      have HIPq : Ints ((w2.drewN nk).drew) ((w2.drewN nk).drew).heap.size (.slice Ap np cp) (m.take k) := HIP.out
      have HISq : Ints ((w2.drewN nk).drew) ((w2.drewN nk).drew).heap.size (.slice As ns cs) (m.drop (m.length - k)) := HIS.out
      have HBq : Below w.heap.size w ((w2.drewN nk).drew) := HB2.out.trans ⟨rfl, rfl, rfl, Nat.le_refl _, fun _ _ => rfl⟩
      generalize (w2.drewN nk).drew = q at HIMq HIPq HISq HBq
      refine ((HREP q HIMq).out).mono ?_
      rintro e w3 ⟨r3, rfl, ho3, hb3⟩
      obtain ⟨A3, c3, e3⟩ := ho3.len
      generalize (rep md t).length = n3 at e3
      subst e3
      have HIP3 := HIPq.grow hb3
      have HIS3 := HISq.grow hb3
      have HB3 := Lib.hid (HBq.trans (hb3.mono HBq.size))
      have HL := Lib.hid (lists_new w3 [((.slice Ap np cp), m.take k), ((.slice A3 n3 c3), rep md t), ((.slice As ns cs), m.drop (m.length - k))] 3 (fun p hp => by
        simp only [List.mem_cons, List.not_mem_nil, or_false] at hp
        rcases hp with rfl | rfl | rfl
        · exact HIP3
        · exact ho3.ints
        · exact HIS3))
      have hfl : flat [((.slice Ap np cp), m.take k), ((.slice A3 n3 c3), rep md t), ((.slice As ns cs), m.drop (m.length - k))] = res := by rw [HF.out]; simp [flat]
      have hfl2 : (flat [((.slice Ap np cp), m.take k), ((.slice A3 n3 c3), rep md t), ((.slice As ns cs), m.drop (m.length - k))]).length ≤ 100000 := by
        have h1 := rep_len md t
        have h2 := Nat.mul_le_mul hn hml4
        simp [flat, h1]
        omega
      have HC := Lib.hid (concat_any (.slice (some ⟨w3.heap.size, 0, none⟩) 3 3) _ _ (by simp) (by omega) HL.out)
      rw [hfl] at HC
      clear ho3 hb3 HIMq HIPq HISq HBq HIP3 HIS3 HL hfl hfl2
      refine hK _ _ ?_
      clear hK K
      refine wpAny_ready (rs := [13]) (by kernel_rfl) (by simp) ?_
      refine AllReady.cons rfl (fun K hK => ?_) AllReady.nil
      go_simp
      refine hK _ _ ?_
      clear hK K
      refine wpAny_ready (rs := [14]) (by kernel_rfl) (by simp) ?_
      refine AllReady.cons rfl (fun K hK => ?_) AllReady.nil
      go_simp
      refine (HC.out).mono ?_
      rintro e w4 ⟨r4, rfl, ho4, hb4⟩
      have HB4 := Lib.hid ((HB3.out.alloc HB3.out.size _).trans (hb4.mono (by have := HB3.out.size; simp; omega)))
      have HO4 := Lib.hid (ho4.base (B' := w.heap.size) (by have := HB3.out.size; simp; omega))
      clear ho4 hb4 HC HB3
      refine hK _ _ ?_
      clear hK K
      refine wpAny_take (i := 15) (v := r4) rfl (by kernel_rfl) (by kernel_rfl) (by kernel_rfl) (fun _ _ _ h => h) (Or.inl ⟨by rfl, fun w => by go_simp⟩) ?_
      go_simp
      refine wpAny_take (i := 16) (v := .int .i64 0) rfl (by kernel_rfl) (by kernel_rfl) (by kernel_rfl) (fun _ _ _ h => h) (Or.inl ⟨by rfl, fun w => by go_simp⟩) ?_
      go_simp
      refine wpAny_done (by kernel_rfl) ?_ _
      go_wp2_with fail
      go_ret2
      exact ⟨_, rfl, HO4.out, HB4.out⟩
end Go.Proofs.YtlpepholcehojaaDoor
