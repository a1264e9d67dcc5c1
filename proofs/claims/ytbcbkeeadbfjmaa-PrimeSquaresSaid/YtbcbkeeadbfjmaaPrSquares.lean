/- The law PrimeSquares, walked. -/
import Derived.Test.YtbcbkeeadbfjmaaPrSqMath
namespace Go.Proofs.Ytbcbkeeadbfjmaa
open Go Go.RowKit Num

theorem symV_of {p x : Nat} (hx : x < p) (h0 : x ≠ 0) : symV p x = if sqB p x = true then 1 else -1 := by
  unfold symV
  rw [Nat.mod_eq_of_lt hx, if_neg h0]

set_option maxRecDepth 100000 in
set_option maxHeartbeats 4000000 in
theorem squares_go (n a0 b0 : Int) (w : World) : Calls Try.prog 9 #[.int .i64 n, .int .i64 a0, .int .i64 b0] w fun e w' => e = .returned (.bool true) ∧ Below w.heap.size w w' := by
  have HL := Lib.hid (lives_any w)
  have HSM := fun W => Lib.hid (small_any n W)
  go_enter Try.func9, Try.ntmps9
  go_wp2_with fail
  refine HL.out.mono ?_
  rintro e1 w0 ⟨rfl, hb⟩
  have HB := Lib.hid hb
  clear hb HL
  go_wp2_with fail
  with_reducible refine (HSM _).out.mono ?_
  rintro e1 w1 ⟨p, hp, hpl, rfl, rfl⟩
  have HP := Lib.hid hp
  have h2 := hp.ge
  have ha := resV_lt a0 h2
  have hb := resV_lt b0 h2
  have HPA := fun W => Lib.hid (Pick_any a0 p W (by omega) (by omega))
  have HPB := fun W => Lib.hid (Pick_any b0 p W (by omega) (by omega))
  generalize resV a0 p = a at ha HPA
  generalize resV b0 p = b at hb HPB
  clear hp HSM
  go_wp2_with fail
  with_reducible refine (HPA _).out.mono ?_
  rintro e1 w2 ⟨rfl, rfl⟩
  go_wp2_with fail
  with_reducible refine (HPB _).out.mono ?_
  rintro e1 w3 ⟨rfl, rfl⟩
  clear HPA HPB
  go_wp2_with fail
  go_loopw [8, 9] (fun t8 t9 wr => ∃ x c : Nat, t9 = .int .i64 (x + 1 : Nat) ∧ t8 = .int .i64 c ∧ x + 1 ≤ p ∧ c ≤ x ∧ Hid (c = cntSq p x) ∧ Hid (Below w.heap.size w wr)) (fun _ t9 _ => p + 2 - (intOf t9).toNat)
  case atStart => exact ⟨0, 0, rfl, rfl, by omega, Nat.le_refl _, Lib.hid rfl, HB⟩
  case round =>
    obtain ⟨x, c, rfl, rfl, hxp, hcx, HC, HBR⟩ := hrel
    obtain ⟨X, hX⟩ : ∃ X, x + 1 = X := ⟨_, rfl⟩
    by_cases hlt : X < p
    · have d1 : decide ((X : Int) < (p : Int)) = true := decide_eq_true (by omega)
      have d2 : decide (X < p) = true := decide_eq_true hlt
      have HSY := fun W => Lib.hid (SymbolN X p W HP.out)
      rw [symV_of hlt (by omega)] at HSY
      have HCS := Lib.hid (cntSq_succ p x)
      rw [hX] at HCS ⊢
      by_cases hs : sqB p X = true
      · obtain ⟨s, hsq⟩ := sqrt_exists (sqB_true.1 hs)
        have HSQ := fun W => Lib.hid (SqrtN X p s W HP.out (by omega) hlt hsq)
        rw [if_pos hs] at HSY
        rw [if_pos hs] at HCS
        have hh := sqrt_half (show X ≠ 0 by omega) hsq
        have hsp := hsq.1
        have hsx := hsq.2.1
        have m0 := mul_small hsp hsp (by omega)
        obtain ⟨q, hq⟩ : ∃ q, s * s = q := ⟨_, rfl⟩
        rw [hq] at m0 hsx
        have k0 := wrap_mul hq (by omega)
        have t1 := mod_ne_false hsx
        have hnep : ((p : Int) != 0) = true := by simp; omega
        have hnep0 : ¬ p = 0 := by omega
        have t2 : decide (2 * (s : Int) > (p : Int)) = false := decide_eq_false (by omega)
        have HC2 : Hid (c + 1 = cntSq p X) := Lib.hid (by rw [HC.out]; exact HCS.out.symm)
        clear hs hsq hsx hq HCS HC
        go_wp2_with fail
        with_reducible refine (HSQ _).out.mono ?_
        rintro e1 w4 ⟨rfl, hbb⟩
        have HB2 := Lib.hid (HBR.out.trans (hbb.mono HBR.out.size))
        clear hbb HSQ HBR
        go_wp2_with fail
        with_reducible refine (HSY _).out.mono ?_
        rintro e1 w5 ⟨rfl, hbb⟩
        have HB3 := Lib.hid (HB2.out.trans (hbb.mono HB2.out.size))
        clear hbb HSY HB2
        go_wp2
        go_roundw
        case rel => exact ⟨X, c + 1, by go_num, by go_num, by omega, by omega, HC2, HB3⟩
        case measure => simp [intOf]; omega
      · have HSQ := fun W => Lib.hid (SqrtF X p W HP.out (by omega) hlt (fun h => hs (sqB_true.2 h)))
        rw [if_neg hs] at HSY
        rw [if_neg hs] at HCS
        have HC2 : Hid (c = cntSq p X) := Lib.hid (by rw [HC.out]; exact HCS.out.symm)
        clear hs HCS HC
        go_wp2_with fail
        with_reducible refine (HSQ _).out.mono ?_
        rintro e1 w4 ⟨rfl, hbb⟩
        have HB2 := Lib.hid (HBR.out.trans (hbb.mono HBR.out.size))
        clear hbb HSQ HBR
        go_wp2_with fail
        with_reducible refine (HSY _).out.mono ?_
        rintro e1 w5 ⟨rfl, hbb⟩
        have HB3 := Lib.hid (HB2.out.trans (hbb.mono HB2.out.size))
        clear hbb HSY HB2
        go_wp2
        go_roundw
        case rel => exact ⟨X, c, by go_num, rfl, by omega, by omega, HC2, HB3⟩
        case measure => simp [intOf]; omega
    · have hXp : X = p := by omega
      have hxp1 : x = p - 1 := by omega
      subst hXp
      rw [hX]
      have d1 : decide ((X : Int) < (X : Int)) = false := decide_eq_false (by omega)
      have d2 : decide (X < X) = false := decide_eq_false hlt
      by_cases hp2 : X = 2
      · have hc1 : c = 1 := by rw [HC.out, hxp1, cntSq_all HP.out.1, hp2]
        subst hp2
        subst hc1
        clear hxp1 hX
        go_wp2
        go_ret
        exact ⟨rfl, HBR.out⟩
      · have hc := cntSq_odd HP.out.1 hp2
        rw [← hxp1, ← HC.out] at hc
        have HSA := fun W => Lib.hid (SymbolN a X W HP.out)
        have HSB := fun W => Lib.hid (SymbolN b X W HP.out)
        have HSC := fun W => Lib.hid (SymbolN (a * b) X W HP.out)
        have HPW := fun W => Lib.hid (PowN a ((X - 1) / 2) X W HP.out (by omega))
        have hsm := sym_mul (a := a) (b := b) HP.out.1 hp2
        have hsh := sym_half (m := a) HP.out.1 hp2
        have b1 := symV_bound X a
        have b2 := symV_bound X b
        have b3 := symV_bound X (a * b)
        unfold half at hsh
        obtain ⟨hf, hhf⟩ : ∃ hf, (X - 1) / 2 = hf := ⟨_, rfl⟩
        rw [hhf] at HPW hsh
        obtain ⟨r, hr⟩ : ∃ r, a ^ hf % X = r := ⟨_, rfl⟩
        rw [hr] at hsh HPW
        generalize symV X a = S at HSA hsm hsh b1
        generalize symV X b = T at HSB hsm b2
        generalize symV X (a * b) = U at HSC hsm b3
        have m0 := mul_small ha hb (by omega)
        obtain ⟨q0, hq0⟩ : ∃ q, a * b = q := ⟨_, rfl⟩
        rw [hq0] at m0 HSC
        have k0 := wrap_mul hq0 (by omega)
        have k1 : IntKind.i64.wrap (S * T) = U := by rw [hsm]; exact IntWalk.i64_in _ ⟨by omega, by omega⟩
        have hX1 : IntKind.i64.wrap ((X : Int) - 1) = ((X - 1 : Nat) : Int) := by
          rw [show ((X - 1 : Nat) : Int) = (X : Int) - 1 by omega]; exact IntWalk.i64_in _ ⟨by omega, by omega⟩
        have hq : ((X - 1 : Nat) : Int) / 2 = (hf : Int) := by omega
        have t1 : (2 * (c : Int) == ((X - 1 : Nat) : Int)) = true := by simp; omega
        have t2 : (U == U) = true := by simp
        have t3 : (S % (X : Int) == (r : Int)) = true := by rw [Int.add_emod_right] at hsh; rw [hsh]; simp
        have hnep : ((X : Int) != 0) = true := by simp; omega
        have hnep0 : ¬ X = 0 := by omega
        have hne2 : ((X : Int) == 2) = false := by simp; omega
        clear hsm hsh hr hq0 hxp1 hX hc hhf
        go_wp2_with fail
        with_reducible refine (HSA _).out.mono ?_
        rintro e1 v1 ⟨rfl, hbb⟩
        have HB1 := Lib.hid (HBR.out.trans (hbb.mono HBR.out.size))
        clear hbb HSA HBR
        go_wp2_with fail
        with_reducible refine (HSB _).out.mono ?_
        rintro e1 v2 ⟨rfl, hbb⟩
        have HB2 := Lib.hid (HB1.out.trans (hbb.mono HB1.out.size))
        clear hbb HSB HB1
        go_wp2_with fail
        with_reducible refine (HSC _).out.mono ?_
        rintro e1 v3 ⟨rfl, hbb⟩
        have HB3 := Lib.hid (HB2.out.trans (hbb.mono HB2.out.size))
        clear hbb HSC HB2
        go_wp2_with fail
        with_reducible refine (HPW _).out.mono ?_
        rintro e1 v4 ⟨rfl, hbb⟩
        have HB4 := Lib.hid (HB3.out.trans (hbb.mono HB3.out.size))
        clear hbb HPW HB3
        go_wp2
        go_ret
        exact ⟨rfl, HB4.out⟩
end Go.Proofs.Ytbcbkeeadbfjmaa
