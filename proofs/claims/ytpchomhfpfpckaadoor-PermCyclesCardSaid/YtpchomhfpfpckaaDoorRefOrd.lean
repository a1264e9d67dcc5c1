/- The reference's gcd. -/
import Derived.Test.YtpchomhfpfpckaaDoorBase
import Derived.Deep.QuietTactic
import Derived.BigQuiet
import Derived.Test.YtpchomhfpfpckaaDoorRefText
import Derived.Test.YtpchomhfpfpckaaDoorLives
namespace Go.Proofs.YtpchomhfpfpckaaDoor
open Go Go.RowKit

set_option maxRecDepth 100000 in
set_option maxHeartbeats 400000 in
theorem refGcd_any (a b : Nat) (w : World) (ha : a ≤ 4611686018427387904) (hb : b ≤ 4611686018427387904) :
    Calls Tryd.prog 76 #[.int .i64 a, .int .i64 b] w fun e w' => e = .returned (.int .i64 (Nat.gcd a b)) ∧ ∃ n, w' = w.drewN n := by
  go_enter Tryd.func76, Tryd.ntmps76
  go_wp2
  go_loopw [0, 1] (fun x y wr => ∃ p q k : Nat, x = .int .i64 p ∧ y = .int .i64 q ∧ Hid (Nat.gcd p q = Nat.gcd a b) ∧ p ≤ 4611686018427387904 ∧ q ≤ 4611686018427387904 ∧ wr = w.drewN k) (fun _ y _ => (intOf y).toNat)
  case atStart => exact ⟨a, b, 0, rfl, rfl, rfl, ha, hb, rfl⟩
  case round =>
    obtain ⟨p, q, k, rfl, rfl, hG, hp, hq, rfl⟩ := hrel
    by_cases h0 : q = 0
    · subst h0
      have HG : Hid (p = Nat.gcd a b) := by have := hG.out; rw [Nat.gcd_zero_right] at this; exact this
      clear hG
      go_wp2
      go_ret
      exact ⟨ret_int (by rw [← HG.out]), k, rfl⟩
    · have hne : ((q : Int) != 0) = true := by simp; omega
      have hm : p % q < q := Nat.mod_lt _ (by omega)
      have HM : Hid (Nat.gcd q (p % q) = Nat.gcd a b) := by
        have h : Nat.gcd q (p % q) = Nat.gcd a b := by rw [← hG.out, Nat.gcd_comm p q, Nat.gcd_rec q p, Nat.gcd_comm]
        exact h
      clear hG
      go_wp2
      go_quiet (fail)
      go_wp2
      go_roundw
      case rel => exact ⟨q, p % q, _, rfl, by simp, HM, hq, by omega, World.drewN_drewN _ _ _⟩
      case measure => simp [intOf]; omega
end Go.Proofs.YtpchomhfpfpckaaDoor

namespace Go.Proofs.YtpchomhfpfpckaaDoor
open Go Go.RowKit

theorem walk_free {zs : List Int} (hf : Fine zs) : ∀ (f : Nat) (S : List Int) (i : Int), 0 ≤ i → i < (zs.length : Int) → (walk zs f S i).length + free zs.length (S ++ walk zs f S i) ≤ free zs.length S := by
  intro f
  induction f with
  | zero => intro S i _ _; simp [walk]
  | succ f ih =>
    intro S i h0 h1
    by_cases hm : i ∈ S
    · rw [walk_mem hm]; simp
    · rw [walk_new hm]
      obtain ⟨j, rfl⟩ : ∃ j : Nat, i = (j : Int) := ⟨i.toNat, by omega⟩
      have hj : j < zs.length := by omega
      have hn := fine_next hf hj
      rw [Int.toNat_natCast]
      have := ih (S ++ [(j : Int)]) (zs.getD j 0) hn.1 hn.2
      have hl := free_lt hj hm
      rw [List.append_assoc] at this
      simp only [List.length_cons]
      simp at this ⊢
      omega
theorem seen_all {zs : List Int} (hf : Fine zs) : ∀ k, k ≤ zs.length → SeenOk zs k := by
  intro k
  induction k with
  | zero => intro _; exact SeenOk.zero zs
  | succ k ih =>
    intro hk
    have h := ih (by omega)
    by_cases hw : walk zs 65 (upTo zs k).1 k = []
    · exact h.none_ hw
    · exact h.some_ rfl hw (walk_free hf 65 _ _ (by omega) (by omega))
theorem cyc_sum {zs : List Int} (hf : Fine zs) (h64 : zs.length ≤ 64) : ((cycs zs).map List.length).sum ≤ 64 := by
  obtain ⟨h1, h2, h3⟩ := seen_all hf zs.length (Nat.le_refl _)
  unfold cycs
  omega
theorem sum_take_le : ∀ (l : List Nat) (k : Nat), (l.take k).sum ≤ l.sum := by
  intro l
  induction l with
  | nil => intro k; simp
  | cons a l ih =>
    intro k
    cases k with
    | zero => simp
    | succ k => have := ih k; simp; omega

set_option maxRecDepth 100000 in
set_option maxHeartbeats 2000000 in
theorem refOrder_any (v : Value) (zs : List Int) (w : World) (hl : zs.length ≤ 17592186044400) (hv : Ints w w.heap.size v zs) :
    Calls Tryd.prog 45 #[v] w (IntErr (chk zs) (ordV zs) w) := by
  have HC := fun W h => Lib.hid (refCheck_any v zs W hl h)
  have HV := Lib.hid hv
  by_cases hz : chk zs = 0
  · obtain ⟨h1, h64, hf⟩ := chk_zero hz
    have HA := fun W h => Lib.hid (all_any v zs W hf h1 h64 h)
    rw [show ordV zs = ordN (cycs zs) by unfold ordV; rw [if_pos hz]]
    rw [hz] at HC ⊢
    have hcc := cycs_count zs h64
    have hbd : ∀ k, 1 ≤ ordN ((cycs zs).take k) ∧ ordN ((cycs zs).take k) ≤ 1853020188851841 := fun k => by
      refine ordN_small _ (fun c hc => (cyc_pos zs hf h64 c (List.mem_of_mem_take hc)).1) ?_
      have h2 := cyc_sum hf h64
      have h3 := sum_take_le ((cycs zs).map List.length) k
      rw [← List.map_take] at h3
      omega
    have hcl : ∀ c ∈ cycs zs, 1 ≤ c.length ∧ c.length ≤ 64 := fun c hc => by have := cyc_pos zs hf h64 c hc; omega
    have HBD := Lib.hid hbd
    have HCL := Lib.hid hcl
    unfold AllL at HA
    generalize cycs zs = cs at HA hcc HBD HCL
    obtain ⟨A0, c0, rfl⟩ : ∃ A c, v = .slice A zs.length c := by obtain ⟨A, c, e, _⟩ := hv; exact ⟨A, c, e⟩
    clear hv hz hf hbd hcl
    go_enter Tryd.func45, Tryd.ntmps45
    go_wp2_with fail
    refine ((HC _ HV.out).out).mono ?_
    rintro e w1 ⟨rfl, hb1⟩
    have HB := Lib.hid hb1
    have HV1 := Lib.hid ((HV.out.below hb1).more hb1.size)
    clear hb1
    go_wp2_with fail
    refine ((HA _ HV1.out).out).mono ?_
    rintro e w2 ⟨r, ps, rfl, hL, hP, hb2⟩
    obtain ⟨Ar, cr, rfl⟩ := hL.form
    have HB2 := Lib.hid (HB.out.trans (hb2.mono HB.out.size))
    have HL := Lib.hid hL
    have HP := Lib.hid hP
    have HPL := Lib.hid (show ps.length = cs.length by rw [← hP]; simp)
    have hp64 : ps.length ≤ 64 := by have := HPL.out; omega
    clear hL hP hb2 HA HC
    go_wp2_with fail
    go_loopw [5, 7] (fun s i wr => ∃ k n : Nat, i = .int .i64 k ∧ k ≤ ps.length ∧ s = .int .i64 (ordN (cs.take k)) ∧ wr = w2.drewN n) (fun _ i _ => ps.length - (intOf i).toNat)
    case atStart => exact ⟨0, 0, rfl, Nat.zero_le _, rfl, rfl⟩
    case round =>
      obtain ⟨k, n, rfl, hk, rfl, hwr⟩ := hrel
      have HW := Lib.hid (show ∀ m q, q = wr.drewN m → ∃ n', q = w2.drewN n' from fun m q e => ⟨n + m, by rw [e, hwr, World.drewN_drewN]⟩)
      have hcw : ∀ p, wr.cell? p = w2.cell? p := fun p => by rw [hwr]; rfl
      by_cases hlt : k < ps.length
      · obtain ⟨b, o, c, A, c', p, e, hb, hpk, hp1, hcell, _⟩ := HL.out.at hlt
        injection e with e1 _ e3
        subst e1; subst e3
        rw [← hcw] at hcell
        obtain ⟨hsn, hmem⟩ := snd_at HP.out hpk
        have HR := Lib.hid (show ordN (cs.take (k + 1)) = ordStep (ordN (cs.take k)) p.2 by rw [hsn, ordN_snoc])
        obtain ⟨hs1, hs2⟩ := HBD.out k
        obtain ⟨hl1, hlen⟩ := HCL.out p.2 hmem
        clear hsn hpk hp1 hcw hwr hmem
        generalize ordN (cs.take k) = q at HR hs1 hs2
        have hgp : 1 ≤ Nat.gcd q p.2.length := Nat.gcd_pos_of_pos_left _ (by omega)
        have HG := fun W => Lib.hid (refGcd_any q p.2.length W (by omega) (by omega))
        have hst : ordStep q p.2 = q / Nat.gcd q p.2.length * p.2.length := rfl
        rw [hst] at HR
        clear hst
        generalize p.2.length = m at hcell HR hl1 hlen hgp HG
        generalize Nat.gcd q m = g at hgp HG HR
        have hm2 : q / g * m ≤ 1853020188851841 * 64 := Nat.mul_le_mul (Nat.le_trans (Nat.div_le_self _ _) hs2) hlen
        have hm1 : (q : Int) / (g : Int) * (m : Int) ≤ 118593292086517824 := by
          have : ((q / g * m : Nat) : Int) ≤ 118593292086517824 := by omega
          simpa using this
        have hm0 : 0 ≤ (q : Int) / (g : Int) * (m : Int) := by
          have : (0 : Int) ≤ ((q / g * m : Nat) : Int) := by omega
          simpa using this
        have hd0 : 0 ≤ (q : Int) / (g : Int) := by
          have : (0 : Int) ≤ ((q / g : Nat) : Int) := Int.natCast_nonneg _
          simpa using this
        have hd1 : (q : Int) / (g : Int) ≤ 1853020188851841 := by
          have : ((q / g : Nat) : Int) ≤ ((1853020188851841 : Nat) : Int) := Int.ofNat_le.2 (Nat.le_trans (Nat.div_le_self q g) hs2)
          simpa using this
        have HM0 : Hid (((q / g * m : Nat) : Int) = (q : Int) / (g : Int) * (m : Int)) := by show _ = _; simp
        have hg0 : ¬ g = 0 := by omega
        clear hm2
        go_wp2
        go_quiet (refine Calls.quiet_of (HG _).out)
        go_wp2
        go_roundw
        case rel => obtain ⟨n', e⟩ := HW.out _ _ rfl; exact ⟨k + 1, n', by go_num, by omega, by rw [HR.out, HM0.out], e⟩
        case measure => simp [intOf]; omega
      · have e : cs.take k = cs := List.take_of_length_le (by have := HPL.out; omega)
        have HE := Lib.hid e
        have hq : ∃ n', wr = w2.drewN n' := HW.out 0 wr rfl
        have hBd : Below w2.heap.size w2 wr := by
          obtain ⟨n', e⟩ := hq
          rw [e]
          exact ⟨rfl, rfl, rfl, Nat.le_refl _, fun _ _ => rfl⟩
        have HBX := Lib.hid (HB2.out.trans (hBd.mono HB2.out.size))
        clear hcw hwr e hq hBd
        go_wp2_with fail
        go_ret2
        exact ⟨by rw [HE.out]; rfl, HBX.out⟩
  · rw [show ordV zs = 0 by unfold ordV; rw [if_neg hz]]
    obtain ⟨A0, c0, rfl⟩ : ∃ A c, v = .slice A zs.length c := by obtain ⟨A, c, e, _⟩ := hv; exact ⟨A, c, e⟩
    generalize chk zs = x at HC hz
    have hx : (x != 0) = true := by simpa using hz
    clear hz hv
    go_enter Tryd.func45, Tryd.ntmps45
    go_wp2_with fail
    refine ((HC _ HV.out).out).mono ?_
    rintro e w1 ⟨rfl, hb1⟩
    have HB := Lib.hid hb1
    clear hb1
    go_wp2_with fail
    go_ret2
    exact ⟨rfl, HB.out⟩
end Go.Proofs.YtpchomhfpfpckaaDoor
