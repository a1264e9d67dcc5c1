/- The law PrimeFactors, walked. -/
import Derived.Test.YtbcbkeeadbfjmaaPrFactors0
import Derived.Test.YtbcbkeeadbfjmaaPrGap
import Derived.Test.YtbcbkeeadbfjmaaPrNat
import Derived.Deep.QuietTactic
import Derived.BigQuiet
namespace Go.Proofs.Ytbcbkeeadbfjmaa
open Go Go.RowKit Num

theorem drop_step {l : List (Nat × Nat)} {i : Nat} {x : Nat × Nat} (hx : l[i]? = some x) : l.drop i = x :: l.drop (i + 1) := by
  obtain ⟨h, e⟩ := List.getElem?_eq_some_iff.1 hx
  rw [List.drop_eq_getElem_cons h, e]
/-- What is left of the number while q is taken away j times. -/
def LeftAt (q R j M : Nat) : Prop := M = q ^ j * R
theorem LeftAt.next {q R j M : Nat} (hq : 2 ≤ q) (h : LeftAt q R (j + 1) M) (hM : 1 ≤ M) : M % q = 0 ∧ LeftAt q R j (M / q) ∧ 1 ≤ M / q ∧ M / q ≤ M := by
  have e : M = q * (q ^ j * R) := by rw [h, Nat.pow_succ]; simp only [Nat.mul_comm, Nat.mul_left_comm]
  have e2 : M / q = q ^ j * R := by rw [e]; exact Nat.mul_div_cancel_left _ (by omega)
  refine ⟨by rw [e]; exact Nat.mul_mod_right _ _, e2, ?_, Nat.div_le_self _ _⟩
  rw [e2]
  exact Nat.pos_of_ne_zero fun h0 => by rw [h0, Nat.mul_zero] at e; omega

set_option maxRecDepth 100000 in
set_option maxHeartbeats 4000000 in
theorem factors_go (n0 k0 : Int) (w : World) : Calls Try.prog 10 #[.int .i64 n0, .int .i64 k0] w fun e w' => e = .returned (.bool true) ∧ Below w.heap.size w w' := by
  have HL := Lib.hid (lives_any w)
  have HPN := fun W => Lib.hid (Pick_any n0 1000000000 W (by omega) (by omega))
  have HPK := fun W => Lib.hid (Pick_any k0 900000 W (by omega) (by omega))
  have hn := resV_lt1 n0 (p := 1000000000) (by omega)
  have hk := resV_lt1 k0 (p := 900000) (by omega)
  generalize resV n0 1000000000 = n1 at hn HPN
  generalize resV k0 900000 = k at hk HPK
  obtain ⟨N, hN⟩ : ∃ N, N = 1 + n1 := ⟨_, rfl⟩
  have hw1 : IntKind.i64.wrap (1 + (n1 : Int)) = (N : Int) := by
    rw [hN, show ((1 + n1 : Nat) : Int) = 1 + (n1 : Int) by omega]; exact IntWalk.i64_in _ ⟨by omega, by omega⟩
  have hN1 : 1 ≤ N := by omega
  have hN2 : N ≤ 1000000000 := by omega
  have HF := fun W => Lib.hid (Factors_any N W hN1 hN2)
  have HFAC := Lib.hid (facs_fac hN1)
  have hlen := facs_len hN1 hN2
  clear hN
  go_enter Try.func10, Try.ntmps10
  go_wp2_with fail
  with_reducible refine HL.out.mono ?_
  rintro e1 w0 ⟨rfl, hb⟩
  have HB := Lib.hid hb
  clear hb HL
  go_wp2_with fail
  refine (HPN _).out.mono ?_
  rintro e1 w1 ⟨rfl, rfl⟩
  go_wp2_with fail
  with_reducible refine (HF _).out.mono ?_
  rintro e1 w2 ⟨v, rfl, hpi, hb⟩
  have HB2 := Lib.hid (HB.out.trans (hb.mono HB.out.size))
  clear hb HF HB HPN hw1
  generalize facs N = l at hpi HFAC hlen
  have hform : ∃ A c, v = .slice A l.length c ∧ (0 < l.length → ∃ g, A = some ⟨g, 0, none⟩ ∧ ∀ j, j < l.length * 2 → w2.cell? ⟨g, j, none⟩ = (pcells l)[j]?) := by
    rcases hpi.2 with ⟨rfl, h0⟩ | ⟨g, cap, cur, rfl, _⟩
    · exact ⟨none, 0, by rw [h0], fun h => by omega⟩
    · exact ⟨_, cap, rfl, fun _ => ⟨g, rfl, fun j hj => World.ownsRow.cellAt hpi j hj⟩⟩
  obtain ⟨A, c, rfl, hcells⟩ := hform
  have HC := Lib.hid hcells
  clear hpi hcells
  go_wp2_with fail
  go_loopw [0, 7, 8] (fun t0 t7 t8 wr => ∃ i N' last nd : Nat, t8 = .int .i64 i ∧ t0 = .int .i64 N' ∧ t7 = .int .i64 last ∧ i ≤ l.length ∧ 1 ≤ N' ∧ N' ≤ 1000000000 ∧ Hid (N' = prodF (l.drop i)) ∧ Hid (∀ x ∈ l.drop i, last < x.1) ∧ wr = w2.drewN nd) (fun _ _ t8 _ => l.length - (intOf t8).toNat)
  case atStart => exact ⟨0, N, 1, 0, rfl, rfl, rfl, Nat.zero_le _, hN1, hN2, Lib.hid HFAC.out.prod.symm, Lib.hid (fun x hx => (HFAC.out.exps x (by simpa using hx)).1.1), rfl⟩
  case round =>
    obtain ⟨i, N', last, nd, rfl, rfl, rfl, hil, hN'1, hN'2, HN, HLA, rfl⟩ := hrel
    by_cases hlt : i < l.length
    · obtain ⟨g, rfl, hg⟩ := HC.out (by omega)
      obtain ⟨x, hx⟩ : ∃ x, l[i]? = some x := ⟨_, List.getElem?_eq_getElem hlt⟩
      obtain ⟨hc1, hc2⟩ := pcells_get l i x hx
      rw [Nat.mul_comm] at hc1 hc2
      have hg1 := (hg (i * 2) (by omega)).trans hc1
      have hg2 := (hg (i * 2 + 1) (by omega)).trans hc2
      have d1 : decide (i < l.length) = true := decide_eq_true hlt
      have d2 : (0 : Int) ≤ i := by omega
      have d3 : (i : Int) < (l.length : Int) := by omega
      have hds := drop_step hx
      have hxm : x ∈ l := List.mem_of_getElem? hx
      obtain ⟨hq, hqd, hm1, hqm⟩ := HFAC.out.exps x hxm
      have hlq := HLA.out x (by rw [hds]; simp)
      have hasc := List.Pairwise.drop (i := i) HFAC.out.asc
      rw [hds] at hasc
      have HLA2 := Lib.hid (show ∀ y ∈ l.drop (i + 1), x.1 < y.1 from (List.pairwise_cons.1 hasc).1)
      have HN2 := Lib.hid (show N' = x.1 ^ x.2 * prodF (l.drop (i + 1)) by rw [HN.out, hds]; rfl)
      obtain ⟨q, m⟩ := x
      dsimp only at hg1 hg2 hq hqd hm1 hqm hlq HLA2 HN2
      have hqN := Nat.le_of_dvd (by omega) hqd
      have hmN : m ≤ N := by
        have h1 := Nat.le_of_dvd (by omega) hqm
        have h2 : m < q ^ m := Nat.lt_pow_self hq.1
        omega
      have hq2 := hq.1
      have HQ := Lib.hid hq
      have d4 : decide ((q : Int) ≤ (last : Int)) = false := decide_eq_false (by omega)
      have d5 : decide (q ≤ last) = false := decide_eq_false (by omega)
      have d6 : decide ((m : Int) < 1) = false := decide_eq_false (by omega)
      have hneq : ((q : Int) != 0) = true := by simp; omega
      have hneq0 : ¬ q = 0 := by omega
      clear hg hc1 hc2 hx hds hxm hasc hqd hqm hq HLA HN
      go_wp2
      go_quiet (fail)
      clear hg1 hg2
      go_wp2
      go_loop [11] (fun t => ∃ d : Nat, t = .int .i64 d ∧ 2 ≤ d ∧ d ≤ 31623) (fun t => (40000 - intOf t).toNat)
      case atStart => exact ⟨2, rfl, by omega, by omega⟩
      case round =>
        obtain ⟨d, rfl, hd2, hd3⟩ := hrel
        have hsq : d * d ≤ 31623 * 31623 := Nat.mul_le_mul hd3 hd3
        obtain ⟨s, hs⟩ : ∃ s, d * d = s := ⟨_, rfl⟩
        have kd := wrap_mul hs (by omega)
        by_cases hle : s ≤ q
        · have hdl := sq_bound (k := d) (n := q) (by omega) (by omega)
          have hdq : d < q := by
            have : 2 * d ≤ d * d := Nat.mul_le_mul_right d hd2
            omega
          have hnd : ¬ d ∣ q := fun h => by rcases HQ.out.2 d h with e | e <;> omega
          have hmod : q % d ≠ 0 := fun h => hnd (Nat.dvd_of_mod_eq_zero h)
          have f1 : decide ((s : Int) ≤ (q : Int)) = true := decide_eq_true (by omega)
          have f2 : decide (s ≤ q) = true := decide_eq_true hle
          have f3 : (((q : Int) % (d : Int)) == 0) = false := by rw [← Int.natCast_emod]; simp; omega
          have hned : ((d : Int) != 0) = true := by simp; omega
          have hned0 : ¬ d = 0 := by omega
          clear hs hsq hnd hmod
          go_wp2
          go_round
          case rel => exact ⟨d + 1, by go_num, by omega, by omega⟩
          case measure => simp [intOf]; omega
        · have f1 : decide ((s : Int) ≤ (q : Int)) = false := decide_eq_false (by omega)
          have f2 : decide (s ≤ q) = false := decide_eq_false hle
          clear hs hsq
          go_wp2
          clear f1 f2 kd
          obtain ⟨R, hR⟩ : ∃ R, prodF (l.drop (i + 1)) = R := ⟨_, rfl⟩
          have HL0 : Hid (LeftAt q R m N') := Lib.hid (by rw [← hR]; exact HN2.out)
          have HR := Lib.hid hR
          clear hR HN2
          go_loop [0, 10] (fun t0 t10 => ∃ M j : Nat, t0 = .int .i64 M ∧ t10 = .int .i64 j ∧ 1 ≤ M ∧ M ≤ 1000000000 ∧ j ≤ N ∧ Hid (LeftAt q R j M)) (fun _ t10 => (intOf t10).toNat)
          case atStart => exact ⟨N', m, rfl, rfl, hN'1, hN'2, hmN, HL0⟩
          case round =>
            obtain ⟨M, j, rfl, rfl, hM1, hM2, hjN, HLJ⟩ := hrel
            cases j with
            | zero =>
              have HM : Hid (M = prodF (l.drop (i + 1))) := Lib.hid (by
                have h := HLJ.out
                unfold LeftAt at h
                rw [h, Nat.pow_zero, Nat.one_mul, HR.out])
              clear HLJ HL0
              go_wp2
              go_roundw
              case rel => exact ⟨i + 1, M, q, _, by go_num, rfl, rfl, by omega, hM1, hM2, HM, HLA2, rfl⟩
              case measure => simp [intOf]; omega
            | succ j =>
              obtain ⟨h1, h2, h3, h4⟩ := HLJ.out.next hq2 hM1
              have HJ := Lib.hid h2
              have f3 : (((M : Int) % (q : Int)) != 0) = false := mod_ne_false (v := 0) h1
              have f4 : (M : Int) / (q : Int) = ((M / q : Nat) : Int) := by rw [Int.natCast_ediv]
              obtain ⟨M2, hM2e⟩ : ∃ M2, M / q = M2 := ⟨_, rfl⟩
              rw [hM2e] at HJ h3 h4 f4
              have f5 : IntKind.i64.wrap ((M : Int) / (q : Int)) = (M2 : Int) := by rw [f4]; exact IntWalk.i64_in _ ⟨by omega, by omega⟩
              have f6 : decide (((j + 1 : Nat) : Int) > 0) = true := decide_eq_true (by omega)
              have F4 := Lib.hid f4
              clear h1 h2 HLJ hM2e f4
              go_wp2
              go_round
              case rel => exact ⟨M2, j, by first | rfl | rw [F4.out], by go_num, h3, by omega, by omega, HJ⟩
              case measure => simp [intOf]
    · have hie : i = l.length := by omega
      have hN1e : N' = 1 := by rw [HN.out, hie, List.drop_length]; rfl
      subst hN1e
      have d1 : decide (i < l.length) = false := decide_eq_false hlt
      have HNX := fun W => Lib.hid (Next_any k W ⟨by omega, by omega⟩)
      clear hie HN HLA
      go_wp2_with fail
      refine (HPK _).out.mono ?_
      rintro e1 w4 ⟨rfl, rfl⟩
      go_wp2_with fail
      refine (HNX _).out.mono ?_
      rintro e1 w5 ⟨q, x, hv, rfl, rfl⟩
      obtain ⟨rfl, p, rfl, hp1, hp2, hp3, hp4⟩ := next_near hk hv
      have HIS := fun W => Lib.hid (Is_any p W)
      rw [isP_true.2 hp3] at HIS
      have HNO := Lib.hid hp4
      have f1 : decide ((p : Int) ≤ (k : Int)) = false := decide_eq_false (by omega)
      have f2 : decide (p ≤ k) = false := decide_eq_false (by omega)
      have f3 : decide ((p : Int) > (k : Int) + 200) = false := decide_eq_false (by omega)
      clear hv hp3 hp4 HNX HPK
      go_wp2_with fail
      refine (HIS _).out.mono ?_
      rintro e1 w6 ⟨rfl, rfl⟩
      clear HIS f1 f2 f3
      go_wp2_with fail
      go_loop [14] (fun t => ∃ i : Nat, t = .int .i64 i ∧ k < i ∧ i ≤ p) (fun t => p + 1 - (intOf t).toNat)
      case atStart => exact ⟨k + 1, by go_num, by omega, by omega⟩
      case round =>
        obtain ⟨j, rfl, hj1, hj2⟩ := hrel
        by_cases hjp : j < p
        · have g1 : decide ((j : Int) < (p : Int)) = true := decide_eq_true (by omega)
          have g2 : decide (j < p) = true := decide_eq_true hjp
          have HI := fun W => Lib.hid (Is_any j W)
          rw [isP_false.2 (HNO.out j hj1 hjp)] at HI
          go_wp2_with fail
          refine (HI _).out.mono ?_
          rintro e1 w7 ⟨rfl, rfl⟩
          go_wp2
          go_round
          case rel => exact ⟨j + 1, by go_num, by omega, by omega⟩
          case measure => simp [intOf]; omega
        · have g1 : decide ((j : Int) < (p : Int)) = false := decide_eq_false (by omega)
          have g2 : decide (j < p) = false := decide_eq_false hjp
          go_wp2
          go_ret
          exact ⟨rfl, HB2.out.trans ⟨rfl, rfl, rfl, Nat.le_refl _, fun _ _ => rfl⟩⟩
end Go.Proofs.Ytbcbkeeadbfjmaa
