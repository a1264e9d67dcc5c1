/- word.Pow for every word and every exponent: what it gives, and the code. -/
import Derived.Test.YtlpepholcehojaaDoorWCycAny
import Derived.Test.YtlpepholcehojaaDoorWPow
namespace Go.Proofs.YtlpepholcehojaaDoor
open Go Go.RowKit

theorem canc_nletR {x y : Int} (_hx : -9223372036854775808 ≤ x ∧ x ≤ 9223372036854775807) (_hy : -9223372036854775808 ≤ y ∧ y ≤ 9223372036854775807) (h : canc x y = false) : canc (nlet x) (nlet y) = false := by
  cases hc : canc (nlet x) (nlet y) with
  | false => rfl
  | true =>
    have h1 := canc_iff.1 hc
    have h2 : canc x y = true := canc_iff.2 (by
      unfold nlet at h1
      split at h1 <;> split at h1 <;> omega)
    rw [h] at h2; cases h2
theorem Red.map_nletR {l : List Int} (hl : Rng l) (h : Red l) : Red (l.map nlet) := by
  induction l with
  | nil => trivial
  | cons x t ih =>
    cases t with
    | nil => trivial
    | cons y t =>
      exact ⟨canc_nletR (hl x (by simp)) (hl y (by simp)) h.1, ih (fun z hz => hl z (by simp at hz ⊢; exact .inr hz)) h.2⟩
theorem Red.winvR {l : List Int} (hl : Rng l) (h : Red l) : Red (Go.Proofs.YtlpepholcehojaaDoor.winv l) := (Red.map_nletR hl h).reverse

/-- The word that is raised. -/
def powB (zs : List Int) (n : Int) : List Int := if n < 0 then winv (red zs) else red zs
/-- What Pow gives. -/
def PowS (m : List Int) (t : Nat) (l : List Int) (e : Int) : Prop :=
  ((m = [] ∨ t = 0) → l = [] ∧ e = 0) ∧ (m ≠ [] → t ≠ 0 → ∃ k, EndsAt m k ∧ (4000 < 2 * k + t * (m.length - 2 * k) → l = [] ∧ e = 4) ∧ (¬ 4000 < 2 * k + t * (m.length - 2 * k) → l = m.take k ++ (rep (midW m k) t ++ m.drop (m.length - k)) ∧ e = 0))
theorem PowS.one {m : List Int} {t : Nat} {l l' : List Int} {e e' : Int} (h : PowS m t l e) (h' : PowS m t l' e') : l = l' ∧ e = e' := by
  by_cases h0 : m = [] ∨ t = 0
  · obtain ⟨a, b⟩ := h.1 h0
    obtain ⟨a', b'⟩ := h'.1 h0
    rw [a, b, a', b']; exact ⟨rfl, rfl⟩
  · obtain ⟨k, hk, a, b⟩ := h.2 (fun e => h0 (.inl e)) (fun e => h0 (.inr e))
    obtain ⟨k', hk', a', b'⟩ := h'.2 (fun e => h0 (.inl e)) (fun e => h0 (.inr e))
    obtain rfl := ends_one hk hk'
    by_cases hl : 4000 < 2 * k + t * (m.length - 2 * k)
    · obtain ⟨p, q⟩ := a hl
      obtain ⟨p', q'⟩ := a' hl
      rw [p, q, p', q']; exact ⟨rfl, rfl⟩
    · obtain ⟨p, q⟩ := b hl
      obtain ⟨p', q'⟩ := b' hl
      rw [p, q, p', q']; exact ⟨rfl, rfl⟩
/-- A list that can be read, and an error. -/
def GivesE (w : World) (l : List Int) (x : Int) (e : Ending) (w' : World) : Prop := ∃ r, e = .returned (.tuple #[r, .int .i64 x]) ∧ Ints w' w'.heap.size r l ∧ Below w.heap.size w w'
theorem powB_facts {zs : List Int} (n : Int) (hr : Rng zs) : Red (powB zs n) ∧ Rng (powB zs n) ∧ (powB zs n).length ≤ zs.length := by
  have h1 := red_length zs
  unfold powB
  split
  · exact ⟨Red.winvR hr.red (red_red zs), hr.red.winv, by rw [winv_length]; exact h1⟩
  · exact ⟨red_red zs, hr.red, h1⟩
theorem pow_roomR {L k t : Nat} (hL : 0 < L) (hk : k ≤ 200) :
    ∃ Q : Nat, IntKind.u64.wrap ((4000 - 2 * (k : Int)) / (L : Int)) = (Q : Int) ∧ (Q < t ↔ 4000 < 2 * k + t * L) := by
  have e : (4000 - 2 * (k : Int)) = ((4000 - 2 * k : Nat) : Int) := by omega
  have h2 : (4000 - 2 * k) / L ≤ 4000 := Nat.le_trans (Nat.div_le_self _ _) (by omega)
  have h3 : (4000 - 2 * k) / L < t ↔ 4000 - 2 * k < t * L := Nat.div_lt_iff_lt_mul hL
  refine ⟨(4000 - 2 * k) / L, ?_, by rw [h3]; omega⟩
  rw [e, ← Int.natCast_ediv]
  generalize (4000 - 2 * k) / L = q at h2
  rw [IntKind.wrap_u64]
  omega

set_option maxRecDepth 100000 in
set_option maxHeartbeats 8000000 in
theorem Pow_gen (v : Value) (zs : List Int) (n : Int) (w : World) (hl : zs.length ≤ 300) (hn : -9223372036854775808 ≤ n ∧ n ≤ 9223372036854775807) (hz : Rng zs) (hv : Ints w w.heap.size v zs) :
    Calls Tryd.prog 11 #[v, .int .i64 n] w fun e w' => ∃ l x, PowS (powB zs n) n.natAbs l x ∧ GivesE w l x e w' := by
  have HS := fun W => Lib.hid (size_any n W hn)
  have HR := Lib.hid (Reduce_any v zs w (by omega) hz hv)
  obtain ⟨A, c, rfl⟩ := hv.form
  obtain ⟨f1, f2, f3⟩ := powB_facts n hz
  have hlr : (powB zs n).length ≤ 300 := by omega
  have HQ2 := Lib.hid f1
  have HZ2 := Lib.hid f2
  have HRZ := Lib.hid hz.red
  have hrl := red_length zs
  have HPS := Lib.hid (show ∀ l x e w', PowS (powB zs n) n.natAbs l x → GivesE w l x e w' → ∃ l x, PowS (powB zs n) n.natAbs l x ∧ GivesE w l x e w' from fun l x e w' h g => ⟨l, x, h, g⟩)
  clear hv hz f1 f2 f3
  by_cases hneg : n < 0
  · have hpb : powB zs n = winv (red zs) := if_pos hneg
    rw [hpb] at HQ2 HZ2 hlr HPS ⊢
    have HI := fun r W h => Lib.hid (inverse_any r (red zs) W (by omega) HRZ.out h)
    have hdn : decide (n < 0) = true := decide_eq_true hneg
    generalize red zs = l at HQ2 HZ2 hlr HPS HI HR hrl ⊢
    generalize winv l = m at HQ2 HZ2 hlr HPS HI ⊢
    have ht64 : n.natAbs ≤ 9223372036854775808 := by omega
    generalize n.natAbs = t at HS HPS ht64 ⊢
    have HPOST := HPS
    clear HPS hpb HRZ
    generalize hPP : (fun e w' => ∃ l x, PowS m t l x ∧ GivesE w l x e w') = PP at HPOST ⊢
    have HPP := Lib.hid hPP
    clear hPP
    go_enter Tryd.func11, Tryd.ntmps11
    go_wp2_with fail
    refine (HR.out).mono ?_
    rintro e w1 ⟨r1, rfl, ho1, hb1⟩
    have HO1 := Lib.hid ho1
    have HB1 := Lib.hid hb1
    clear ho1 hb1 HR
    go_wp2_with fail
    refine ((HI r1 w1 HO1.out.ints).out).mono ?_
    rintro e w2 ⟨r2, rfl, ho2, hb2⟩
    have HO2 := Lib.hid (ho2.base HB1.out.size)
    have HB2 := Lib.hid (HB1.out.trans (hb2.mono HB1.out.size))
    clear ho2 hb2 HO1 HB1 HI
    obtain ⟨A2, c2, rfl⟩ := HO2.out.len
    go_wp2_with fail
    refine ((HS _).out).mono ?_
    rintro e w2 ⟨rfl, rfl⟩
    by_cases h0 : m.length = 0
    · have e : m = [] := List.length_eq_zero_iff.1 h0
      have HE := Lib.hid (show ∀ e w', GivesE w [] 0 e w' → PP e w' from fun e' w' h => by rw [← HPP.out]; exact ⟨[], 0, ⟨fun _ => ⟨rfl, rfl⟩, fun h => absurd e h⟩, h⟩)
      clear e
      have hb0 : ((m.length : Int) == 0) = true := by rw [beq_iff_eq]; omega
      go_wp2_with fail

      exact HE.out _ _ ⟨_, rfl, (owns_nil _ w.heap.size).ints, HB2.out⟩
    by_cases ht0 : t = 0
    · have HE := Lib.hid (show ∀ e w', GivesE w [] 0 e w' → PP e w' from fun e' w' h => by rw [← HPP.out]; exact ⟨[], 0, ⟨fun _ => ⟨rfl, rfl⟩, fun _ h => absurd ht0 h⟩, h⟩)
      have hb0 : ((m.length : Int) == 0) = false := by rw [beq_eq_false_iff_ne]; omega
      have hb1 : ((t : Int) == 0) = true := by rw [beq_iff_eq]; omega
      go_wp2_with fail

      exact HE.out _ _ ⟨_, rfl, (owns_nil _ w.heap.size).ints, HB2.out⟩
    · have h0' : 0 < m.length := by omega
      have hb0 : ((m.length : Int) == 0) = false := by rw [beq_eq_false_iff_ne]; omega
      have hb1 : ((t : Int) == 0) = false := by rw [beq_eq_false_iff_ne]; omega
      go_wp2_with fail
      refine (ends_any _ m _ (by omega) HZ2.out HO2.out.ints).mono ?_
      rintro e w3 ⟨k, nk, rfl, hE, rfl⟩
      have hsh := ends_short' HQ2.out h0' hE
      obtain ⟨Am, cm, hmid, him⟩ := cut_mid HO2.out hsh
      have HE := Lib.hid hE
      have hin : ((m.length : Int) - (k : Int)) = ((m.length - k : Nat) : Int) := by omega
      have hkk : k ≤ 200 := by omega
      have hdrop : m.length - (m.length - k) = k := by omega
      obtain ⟨vp, hvp, hip⟩ := cut_pre HO2.out (k := k) (by omega)
      obtain ⟨vs, hvs, his⟩ := cut_suf HO2.out (k := m.length - k) (by omega)
      obtain ⟨Ap, cp, ep⟩ := hip.form
      obtain ⟨As, cs, es⟩ := his.form
      generalize (m.take k).length = np at ep
      generalize (m.drop (m.length - k)).length = ns at es
      subst ep es
      have hml := midW_length m hsh
      have hml0 : 0 < (midW m k).length := by omega
      have hml4 : (midW m k).length ≤ 300 := by omega
      have hfit : ¬ 4000 < 2 * k + t * (midW m k).length → t ≤ 4000 := fun h => by have := Nat.le_mul_of_pos_right t hml0; omega
      have HREP := fun W h (h4 : ¬ 4000 < 2 * k + t * (midW m k).length) => Lib.hid (repeat_any (.slice Am (midW m k).length cm) (midW m k) t W (by omega) (by have := hfit h4; omega) (by omega) h)
      have HPG := Lib.hid (show (4000 < 2 * k + t * (midW m k).length → ∀ e w', GivesE w [] 4 e w' → PP e w') ∧ (¬ 4000 < 2 * k + t * (midW m k).length → ∀ e w', GivesE w (m.take k ++ (rep (midW m k) t ++ m.drop (m.length - k))) 0 e w' → PP e w') from by
        rw [hml]
        have hne : m ≠ [] := fun e => by rw [e] at h0'; exact absurd h0' (by simp)
        refine ⟨fun h e' w' g => ?_, fun h e' w' g => ?_⟩
        · rw [← HPP.out]; exact ⟨_, _, ⟨fun h' => h'.elim (fun e => absurd e hne) (fun e => absurd e ht0), fun _ _ => ⟨k, hE, fun _ => ⟨rfl, rfl⟩, fun h' => absurd h h'⟩⟩, g⟩
        · rw [← HPP.out]; exact ⟨_, _, ⟨fun h' => h'.elim (fun e => absurd e hne) (fun e => absurd e ht0), fun _ _ => ⟨k, hE, fun h' => absurd h' h, fun _ => ⟨rfl, rfl⟩⟩⟩, g⟩)
      have HIP := Lib.hid hip
      have HIS := Lib.hid his
      have HIM := Lib.hid him
      have HHD := Lib.hid hdrop
      clear hE hip his him hdrop
      have hmk : ∀ j, (m.take j).length + (m.drop (m.length - j)).length ≤ 600 := fun j => by simp; omega
      have HTD := Lib.hid (hmk k)
      clear hmk hml
      generalize midW m k = md at hmid HIM HPG hml0 hml4 HREP hfit
      obtain ⟨Q, hQ1, hQ2⟩ := pow_roomR (t := t) hml0 hkk
      have hL0 : ¬ (md.length : Int) = 0 := by omega
      have hL1 : ¬ md = [] := fun e => by rw [e] at hml0; simp at hml0
      have hd1 : ¬ (4000 : Int) < 2 * (k : Int) := by omega
      by_cases hlong : 4000 < 2 * k + t * md.length
      · have hd2 : (Q : Int) < (t : Int) := by have := hQ2.2 hlong; omega
        have HE := Lib.hid (HPG.out.1 hlong)
        clear hQ2 HREP HPG
        go_wp2_with fail

        exact HE.out _ _ ⟨_, rfl, (owns_nil _ w.heap.size).ints, HB2.out.trans (below_drawn _ ⟨nk, rfl⟩)⟩
      have hd2 : ¬ (Q : Int) < (t : Int) := by have := fun h => hlong (hQ2.1 h); omega
      have HPG2 := Lib.hid (HPG.out.2 hlong)
      have ht4 := hfit hlong
      have hcl : t * md.length ≤ 4000 := by omega
      have HREP2 := fun W h => HREP W h hlong
      clear HPG hQ2 HREP hfit hlong
      have hwt : IntKind.i64.wrap (t : Int) = t := by rw [IntKind.wrap_i64]; omega
      have hin2 : IntKind.i64.wrap ((m.length - k : Nat) : Int) = ((m.length - k : Nat) : Int) := by rw [IntKind.wrap_i64]; omega
      have hmix : Tryd.prog.follows .mixedOrders = true := by kernel_rfl
      go_wp2_with fail
      refine wp_region_any hmix ?_
      refine wpAny_take (i := 0) (v := .slice A2 m.length c2) rfl (by kernel_rfl) (by kernel_rfl) (by kernel_rfl) (fun _ _ _ h => h) (Or.inl ⟨by rfl, fun w => by go_simp⟩) ?_
      go_simp
      refine wpAny_take (i := 1) (v := .int .i64 k) rfl (by kernel_rfl) (by kernel_rfl) (by kernel_rfl) (fun _ _ _ h => h) (Or.inl ⟨by rfl, fun w => by go_simp⟩) ?_
      go_simp
      refine wpAny_take (i := 2) (v := .slice Ap np cp) rfl (by kernel_rfl) (by kernel_rfl) (by kernel_rfl) (fun _ _ _ h => h) (Or.inl ⟨by rfl, fun w => by go_simp⟩) ?_
      go_simp
      refine wpAny_take (i := 3) (v := .slice Am md.length cm) rfl (by kernel_rfl) (by kernel_rfl) (by kernel_rfl) (fun _ _ _ h => h) (Or.inl ⟨by rfl, fun w => by go_simp⟩) ?_
      go_simp
      refine wpAny_take (i := 4) (v := .int .u64 t) rfl (by kernel_rfl) (by kernel_rfl) (by kernel_rfl) (fun _ _ _ h => h) (Or.inl ⟨by rfl, fun w => by go_simp⟩) ?_
      go_simp
      refine wpAny_take (i := 5) (v := .int .i64 t) rfl (by kernel_rfl) (by kernel_rfl) (by kernel_rfl) (fun _ _ _ h => h) (Or.inl ⟨by rfl, fun w => by go_simp⟩) ?_
      go_simp
      refine wpAny_take (i := 7) (v := .slice A2 m.length c2) rfl (by kernel_rfl) (by kernel_rfl) (by kernel_rfl) (fun _ _ _ h => h) (Or.inl ⟨by rfl, fun w => by go_simp⟩) ?_
      go_simp
      refine wpAny_take (i := 8) (v := .slice A2 m.length c2) rfl (by kernel_rfl) (by kernel_rfl) (by kernel_rfl) (fun _ _ _ h => h) (Or.inl ⟨by rfl, fun w => by go_simp⟩) ?_
      go_simp
      refine wpAny_take (i := 9) (v := .int .i64 m.length) rfl (by kernel_rfl) (by kernel_rfl) (by kernel_rfl) (fun _ _ _ h => h) (Or.inl ⟨by rfl, fun w => by go_simp⟩) ?_
      go_simp
      refine wpAny_take (i := 10) (v := .int .i64 k) rfl (by kernel_rfl) (by kernel_rfl) (by kernel_rfl) (fun _ _ _ h => h) (Or.inl ⟨by rfl, fun w => by go_simp⟩) ?_
      go_simp
      refine wpAny_take (i := 11) (v := .int .i64 ((m.length - k : Nat) : Int)) rfl (by kernel_rfl) (by kernel_rfl) (by kernel_rfl) (fun _ _ _ h => h) (Or.inl ⟨by rfl, fun w => by go_simp⟩) ?_
      go_simp
      refine wpAny_take (i := 12) (v := .slice As ns cs) rfl (by kernel_rfl) (by kernel_rfl) (by kernel_rfl) (fun _ _ _ h => h) (Or.inl ⟨by rfl, fun w => by go_simp⟩) ?_
      go_simp
      refine wpAny_ready (rs := [6]) (by kernel_rfl) (by simp) ?_
      refine AllReady.cons rfl (fun K hK => ?_) AllReady.nil
      go_simp
      change Calls _ _ _ ((w2.drewN nk).drew) _
      have HIMq : Ints ((w2.drewN nk).drew) ((w2.drewN nk).drew).heap.size (.slice Am md.length cm) md := HIM.out
      have HIPq : Ints ((w2.drewN nk).drew) ((w2.drewN nk).drew).heap.size (.slice Ap np cp) (m.take k) := HIP.out
      have HISq : Ints ((w2.drewN nk).drew) ((w2.drewN nk).drew).heap.size (.slice As ns cs) (m.drop (m.length - k)) := HIS.out
      have HBq : Below w.heap.size w ((w2.drewN nk).drew) := HB2.out.trans ⟨rfl, rfl, rfl, Nat.le_refl _, fun _ _ => rfl⟩
      generalize (w2.drewN nk).drew = q at HIMq HIPq HISq HBq
      refine ((HREP2 q HIMq).out).mono ?_
      rintro e w3 ⟨r3, rfl, ho3, hb3⟩
      obtain ⟨A3, c3, e3⟩ := ho3.len
      generalize (rep md t).length = n3 at e3
      subst e3
      have HIP3 := HIPq.grow hb3
      have HIS3 := HISq.grow hb3
      have HB3 := Lib.hid (HBq.trans (hb3.mono HBq.size))
      have HL := Lib.hid (lists_new w3 [((.slice Ap np cp), m.take k), ((.slice A3 n3 c3), rep md t), ((.slice As ns cs), m.drop (m.length - k))] 3 (fun p hp => by
        simp only [List.mem_cons, List.not_mem_nil, or_false] at hp
        rcases hp with rfl | rfl | rfl
        · exact HIP3
        · exact ho3.ints
        · exact HIS3))
      have hfl : flat [((.slice Ap np cp), m.take k), ((.slice A3 n3 c3), rep md t), ((.slice As ns cs), m.drop (m.length - k))] = m.take k ++ (rep md t ++ m.drop (m.length - k)) := by simp [flat]
      have hfl2 : (flat [((.slice Ap np cp), m.take k), ((.slice A3 n3 c3), rep md t), ((.slice As ns cs), m.drop (m.length - k))]).length ≤ 100000 := by
        have h1 := rep_len md t
        have h2 := HTD.out
        rw [hfl, List.length_append, List.length_append, h1]
        omega
      have HC := Lib.hid (concat_any (.slice (some ⟨w3.heap.size, 0, none⟩) 3 3) _ _ (by simp) (by omega) HL.out)
      rw [hfl] at HC
      clear ho3 hb3 HIMq HIPq HISq HBq HIP3 HIS3 HL hfl hfl2
      refine hK _ _ ?_
      clear hK K
      refine wpAny_ready (rs := [13]) (by kernel_rfl) (by simp) ?_
      refine AllReady.cons rfl (fun K hK => ?_) AllReady.nil
      go_simp
      refine hK _ _ ?_
      clear hK K
      refine wpAny_ready (rs := [14]) (by kernel_rfl) (by simp) ?_
      refine AllReady.cons rfl (fun K hK => ?_) AllReady.nil
      go_simp
      refine (HC.out).mono ?_
      rintro e w4 ⟨r4, rfl, ho4, hb4⟩
      have HB4 := Lib.hid ((HB3.out.alloc HB3.out.size _).trans (hb4.mono (by have := HB3.out.size; simp; omega)))
      have HO4 := Lib.hid (ho4.base (B' := w.heap.size) (by have := HB3.out.size; simp; omega))
      clear ho4 hb4 HC HB3
      refine hK _ _ ?_
      clear hK K
      refine wpAny_take (i := 15) (v := r4) rfl (by kernel_rfl) (by kernel_rfl) (by kernel_rfl) (fun _ _ _ h => h) (Or.inl ⟨by rfl, fun w => by go_simp⟩) ?_
      go_simp
      refine wpAny_take (i := 16) (v := .int .i64 0) rfl (by kernel_rfl) (by kernel_rfl) (by kernel_rfl) (fun _ _ _ h => h) (Or.inl ⟨by rfl, fun w => by go_simp⟩) ?_
      go_simp
      refine wpAny_done (by kernel_rfl) ?_ _
      go_wp2_with fail

      exact HPG2.out _ _ ⟨_, rfl, HO4.out.ints, HB4.out⟩
  · have hpb : powB zs n = red zs := if_neg hneg
    rw [hpb] at HQ2 HZ2 hlr HPS ⊢
    have hdn : decide (n < 0) = false := decide_eq_false hneg
    generalize red zs = m at HQ2 HZ2 hlr HPS HR hrl HRZ ⊢
    have ht64 : n.natAbs ≤ 9223372036854775808 := by omega
    generalize n.natAbs = t at HS HPS ht64 ⊢
    have HPOST := HPS
    clear HPS hpb HRZ
    generalize hPP : (fun e w' => ∃ l x, PowS m t l x ∧ GivesE w l x e w') = PP at HPOST ⊢
    have HPP := Lib.hid hPP
    clear hPP
    go_enter Tryd.func11, Tryd.ntmps11
    go_wp2_with fail
    refine (HR.out).mono ?_
    rintro e w2 ⟨r2, rfl, ho2, hb2⟩
    have HO2 := Lib.hid ho2
    have HB2 := Lib.hid hb2
    clear ho2 hb2 HR
    obtain ⟨A2, c2, rfl⟩ := HO2.out.len
    go_wp2_with fail
    refine ((HS _).out).mono ?_
    rintro e w2 ⟨rfl, rfl⟩
    by_cases h0 : m.length = 0
    · have e : m = [] := List.length_eq_zero_iff.1 h0
      have HE := Lib.hid (show ∀ e w', GivesE w [] 0 e w' → PP e w' from fun e' w' h => by rw [← HPP.out]; exact ⟨[], 0, ⟨fun _ => ⟨rfl, rfl⟩, fun h => absurd e h⟩, h⟩)
      clear e
      have hb0 : ((m.length : Int) == 0) = true := by rw [beq_iff_eq]; omega
      go_wp2_with fail

      exact HE.out _ _ ⟨_, rfl, (owns_nil _ w.heap.size).ints, HB2.out⟩
    by_cases ht0 : t = 0
    · have HE := Lib.hid (show ∀ e w', GivesE w [] 0 e w' → PP e w' from fun e' w' h => by rw [← HPP.out]; exact ⟨[], 0, ⟨fun _ => ⟨rfl, rfl⟩, fun _ h => absurd ht0 h⟩, h⟩)
      have hb0 : ((m.length : Int) == 0) = false := by rw [beq_eq_false_iff_ne]; omega
      have hb1 : ((t : Int) == 0) = true := by rw [beq_iff_eq]; omega
      go_wp2_with fail

      exact HE.out _ _ ⟨_, rfl, (owns_nil _ w.heap.size).ints, HB2.out⟩
    · have h0' : 0 < m.length := by omega
      have hb0 : ((m.length : Int) == 0) = false := by rw [beq_eq_false_iff_ne]; omega
      have hb1 : ((t : Int) == 0) = false := by rw [beq_eq_false_iff_ne]; omega
      go_wp2_with fail
      refine (ends_any _ m _ (by omega) HZ2.out HO2.out.ints).mono ?_
      rintro e w3 ⟨k, nk, rfl, hE, rfl⟩
      have hsh := ends_short' HQ2.out h0' hE
      obtain ⟨Am, cm, hmid, him⟩ := cut_mid HO2.out hsh
      have HE := Lib.hid hE
      have hin : ((m.length : Int) - (k : Int)) = ((m.length - k : Nat) : Int) := by omega
      have hkk : k ≤ 200 := by omega
      have hdrop : m.length - (m.length - k) = k := by omega
      obtain ⟨vp, hvp, hip⟩ := cut_pre HO2.out (k := k) (by omega)
      obtain ⟨vs, hvs, his⟩ := cut_suf HO2.out (k := m.length - k) (by omega)
      obtain ⟨Ap, cp, ep⟩ := hip.form
      obtain ⟨As, cs, es⟩ := his.form
      generalize (m.take k).length = np at ep
      generalize (m.drop (m.length - k)).length = ns at es
      subst ep es
      have hml := midW_length m hsh
      have hml0 : 0 < (midW m k).length := by omega
      have hml4 : (midW m k).length ≤ 300 := by omega
      have hfit : ¬ 4000 < 2 * k + t * (midW m k).length → t ≤ 4000 := fun h => by have := Nat.le_mul_of_pos_right t hml0; omega
      have HREP := fun W h (h4 : ¬ 4000 < 2 * k + t * (midW m k).length) => Lib.hid (repeat_any (.slice Am (midW m k).length cm) (midW m k) t W (by omega) (by have := hfit h4; omega) (by omega) h)
      have HPG := Lib.hid (show (4000 < 2 * k + t * (midW m k).length → ∀ e w', GivesE w [] 4 e w' → PP e w') ∧ (¬ 4000 < 2 * k + t * (midW m k).length → ∀ e w', GivesE w (m.take k ++ (rep (midW m k) t ++ m.drop (m.length - k))) 0 e w' → PP e w') from by
        rw [hml]
        have hne : m ≠ [] := fun e => by rw [e] at h0'; exact absurd h0' (by simp)
        refine ⟨fun h e' w' g => ?_, fun h e' w' g => ?_⟩
        · rw [← HPP.out]; exact ⟨_, _, ⟨fun h' => h'.elim (fun e => absurd e hne) (fun e => absurd e ht0), fun _ _ => ⟨k, hE, fun _ => ⟨rfl, rfl⟩, fun h' => absurd h h'⟩⟩, g⟩
        · rw [← HPP.out]; exact ⟨_, _, ⟨fun h' => h'.elim (fun e => absurd e hne) (fun e => absurd e ht0), fun _ _ => ⟨k, hE, fun h' => absurd h' h, fun _ => ⟨rfl, rfl⟩⟩⟩, g⟩)
      have HIP := Lib.hid hip
      have HIS := Lib.hid his
      have HIM := Lib.hid him
      have HHD := Lib.hid hdrop
      clear hE hip his him hdrop
      have hmk : ∀ j, (m.take j).length + (m.drop (m.length - j)).length ≤ 600 := fun j => by simp; omega
      have HTD := Lib.hid (hmk k)
      clear hmk hml
      generalize midW m k = md at hmid HIM HPG hml0 hml4 HREP hfit
      obtain ⟨Q, hQ1, hQ2⟩ := pow_roomR (t := t) hml0 hkk
      have hL0 : ¬ (md.length : Int) = 0 := by omega
      have hL1 : ¬ md = [] := fun e => by rw [e] at hml0; simp at hml0
      have hd1 : ¬ (4000 : Int) < 2 * (k : Int) := by omega
      by_cases hlong : 4000 < 2 * k + t * md.length
      · have hd2 : (Q : Int) < (t : Int) := by have := hQ2.2 hlong; omega
        have HE := Lib.hid (HPG.out.1 hlong)
        clear hQ2 HREP HPG
        go_wp2_with fail

        exact HE.out _ _ ⟨_, rfl, (owns_nil _ w.heap.size).ints, HB2.out.trans (below_drawn _ ⟨nk, rfl⟩)⟩
      have hd2 : ¬ (Q : Int) < (t : Int) := by have := fun h => hlong (hQ2.1 h); omega
      have HPG2 := Lib.hid (HPG.out.2 hlong)
      have ht4 := hfit hlong
      have hcl : t * md.length ≤ 4000 := by omega
      have HREP2 := fun W h => HREP W h hlong
      clear HPG hQ2 HREP hfit hlong
      have hwt : IntKind.i64.wrap (t : Int) = t := by rw [IntKind.wrap_i64]; omega
      have hin2 : IntKind.i64.wrap ((m.length - k : Nat) : Int) = ((m.length - k : Nat) : Int) := by rw [IntKind.wrap_i64]; omega
      have hmix : Tryd.prog.follows .mixedOrders = true := by kernel_rfl
      go_wp2_with fail
      refine wp_region_any hmix ?_
      refine wpAny_take (i := 0) (v := .slice A2 m.length c2) rfl (by kernel_rfl) (by kernel_rfl) (by kernel_rfl) (fun _ _ _ h => h) (Or.inl ⟨by rfl, fun w => by go_simp⟩) ?_
      go_simp
      refine wpAny_take (i := 1) (v := .int .i64 k) rfl (by kernel_rfl) (by kernel_rfl) (by kernel_rfl) (fun _ _ _ h => h) (Or.inl ⟨by rfl, fun w => by go_simp⟩) ?_
      go_simp
      refine wpAny_take (i := 2) (v := .slice Ap np cp) rfl (by kernel_rfl) (by kernel_rfl) (by kernel_rfl) (fun _ _ _ h => h) (Or.inl ⟨by rfl, fun w => by go_simp⟩) ?_
      go_simp
      refine wpAny_take (i := 3) (v := .slice Am md.length cm) rfl (by kernel_rfl) (by kernel_rfl) (by kernel_rfl) (fun _ _ _ h => h) (Or.inl ⟨by rfl, fun w => by go_simp⟩) ?_
      go_simp
      refine wpAny_take (i := 4) (v := .int .u64 t) rfl (by kernel_rfl) (by kernel_rfl) (by kernel_rfl) (fun _ _ _ h => h) (Or.inl ⟨by rfl, fun w => by go_simp⟩) ?_
      go_simp
      refine wpAny_take (i := 5) (v := .int .i64 t) rfl (by kernel_rfl) (by kernel_rfl) (by kernel_rfl) (fun _ _ _ h => h) (Or.inl ⟨by rfl, fun w => by go_simp⟩) ?_
      go_simp
      refine wpAny_take (i := 7) (v := .slice A2 m.length c2) rfl (by kernel_rfl) (by kernel_rfl) (by kernel_rfl) (fun _ _ _ h => h) (Or.inl ⟨by rfl, fun w => by go_simp⟩) ?_
      go_simp
      refine wpAny_take (i := 8) (v := .slice A2 m.length c2) rfl (by kernel_rfl) (by kernel_rfl) (by kernel_rfl) (fun _ _ _ h => h) (Or.inl ⟨by rfl, fun w => by go_simp⟩) ?_
      go_simp
      refine wpAny_take (i := 9) (v := .int .i64 m.length) rfl (by kernel_rfl) (by kernel_rfl) (by kernel_rfl) (fun _ _ _ h => h) (Or.inl ⟨by rfl, fun w => by go_simp⟩) ?_
      go_simp
      refine wpAny_take (i := 10) (v := .int .i64 k) rfl (by kernel_rfl) (by kernel_rfl) (by kernel_rfl) (fun _ _ _ h => h) (Or.inl ⟨by rfl, fun w => by go_simp⟩) ?_
      go_simp
      refine wpAny_take (i := 11) (v := .int .i64 ((m.length - k : Nat) : Int)) rfl (by kernel_rfl) (by kernel_rfl) (by kernel_rfl) (fun _ _ _ h => h) (Or.inl ⟨by rfl, fun w => by go_simp⟩) ?_
      go_simp
      refine wpAny_take (i := 12) (v := .slice As ns cs) rfl (by kernel_rfl) (by kernel_rfl) (by kernel_rfl) (fun _ _ _ h => h) (Or.inl ⟨by rfl, fun w => by go_simp⟩) ?_
      go_simp
      refine wpAny_ready (rs := [6]) (by kernel_rfl) (by simp) ?_
      refine AllReady.cons rfl (fun K hK => ?_) AllReady.nil
      go_simp
      change Calls _ _ _ ((w2.drewN nk).drew) _
      have HIMq : Ints ((w2.drewN nk).drew) ((w2.drewN nk).drew).heap.size (.slice Am md.length cm) md := HIM.out
      have HIPq : Ints ((w2.drewN nk).drew) ((w2.drewN nk).drew).heap.size (.slice Ap np cp) (m.take k) := HIP.out
      have HISq : Ints ((w2.drewN nk).drew) ((w2.drewN nk).drew).heap.size (.slice As ns cs) (m.drop (m.length - k)) := HIS.out
      have HBq : Below w.heap.size w ((w2.drewN nk).drew) := HB2.out.trans ⟨rfl, rfl, rfl, Nat.le_refl _, fun _ _ => rfl⟩
      generalize (w2.drewN nk).drew = q at HIMq HIPq HISq HBq
      refine ((HREP2 q HIMq).out).mono ?_
      rintro e w3 ⟨r3, rfl, ho3, hb3⟩
      obtain ⟨A3, c3, e3⟩ := ho3.len
      generalize (rep md t).length = n3 at e3
      subst e3
      have HIP3 := HIPq.grow hb3
      have HIS3 := HISq.grow hb3
      have HB3 := Lib.hid (HBq.trans (hb3.mono HBq.size))
      have HL := Lib.hid (lists_new w3 [((.slice Ap np cp), m.take k), ((.slice A3 n3 c3), rep md t), ((.slice As ns cs), m.drop (m.length - k))] 3 (fun p hp => by
        simp only [List.mem_cons, List.not_mem_nil, or_false] at hp
        rcases hp with rfl | rfl | rfl
        · exact HIP3
        · exact ho3.ints
        · exact HIS3))
      have hfl : flat [((.slice Ap np cp), m.take k), ((.slice A3 n3 c3), rep md t), ((.slice As ns cs), m.drop (m.length - k))] = m.take k ++ (rep md t ++ m.drop (m.length - k)) := by simp [flat]
      have hfl2 : (flat [((.slice Ap np cp), m.take k), ((.slice A3 n3 c3), rep md t), ((.slice As ns cs), m.drop (m.length - k))]).length ≤ 100000 := by
        have h1 := rep_len md t
        have h2 := HTD.out
        rw [hfl, List.length_append, List.length_append, h1]
        omega
      have HC := Lib.hid (concat_any (.slice (some ⟨w3.heap.size, 0, none⟩) 3 3) _ _ (by simp) (by omega) HL.out)
      rw [hfl] at HC
      clear ho3 hb3 HIMq HIPq HISq HBq HIP3 HIS3 HL hfl hfl2
      refine hK _ _ ?_
      clear hK K
      refine wpAny_ready (rs := [13]) (by kernel_rfl) (by simp) ?_
      refine AllReady.cons rfl (fun K hK => ?_) AllReady.nil
      go_simp
      refine hK _ _ ?_
      clear hK K
      refine wpAny_ready (rs := [14]) (by kernel_rfl) (by simp) ?_
      refine AllReady.cons rfl (fun K hK => ?_) AllReady.nil
      go_simp
      refine (HC.out).mono ?_
      rintro e w4 ⟨r4, rfl, ho4, hb4⟩
      have HB4 := Lib.hid ((HB3.out.alloc HB3.out.size _).trans (hb4.mono (by have := HB3.out.size; simp; omega)))
      have HO4 := Lib.hid (ho4.base (B' := w.heap.size) (by have := HB3.out.size; simp; omega))
      clear ho4 hb4 HC HB3
      refine hK _ _ ?_
      clear hK K
      refine wpAny_take (i := 15) (v := r4) rfl (by kernel_rfl) (by kernel_rfl) (by kernel_rfl) (fun _ _ _ h => h) (Or.inl ⟨by rfl, fun w => by go_simp⟩) ?_
      go_simp
      refine wpAny_take (i := 16) (v := .int .i64 0) rfl (by kernel_rfl) (by kernel_rfl) (by kernel_rfl) (fun _ _ _ h => h) (Or.inl ⟨by rfl, fun w => by go_simp⟩) ?_
      go_simp
      refine wpAny_done (by kernel_rfl) ?_ _
      go_wp2_with fail

      exact HPG2.out _ _ ⟨_, rfl, HO4.out.ints, HB4.out⟩
end Go.Proofs.YtlpepholcehojaaDoor
