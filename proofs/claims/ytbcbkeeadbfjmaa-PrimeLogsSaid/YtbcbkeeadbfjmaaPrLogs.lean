/- The law PrimeLogs, walked. -/
import Derived.Test.YtbcbkeeadbfjmaaPrNat
namespace Go.Proofs.Ytbcbkeeadbfjmaa
open Go Go.RowKit Num

theorem log_sum {p g a b x y z : Nat} (hp : Pr p) (hg : Ord p g (p - 1)) (hx : LogOf p g a x) (hy : LogOf p g b y) (hz : LogOf p g (a * b % p) z) : (x + y) % (p - 1) = z := by
  have hp2 := hp.1
  refine LogOf.unique hp hg ⟨Nat.mod_lt _ (by have := hx.1; omega), ?_⟩ hz
  have h1 : g ^ ((x + y) % (p - 1)) % p = g ^ (x + y) % p := by
    conv => rhs; rw [← Nat.div_add_mod (x + y) (p - 1), Nat.pow_add, Nat.mul_mod, pow_mul_one hp2 hg.2.1, Nat.one_mul, Nat.mod_mod]
  rw [h1, Nat.pow_add, Nat.mul_mod, hx.2, hy.2]
theorem prod_ne {p a b : Nat} (hp : Pr p) (ha : 1 ≤ a) (ha2 : a < p) (hb : 1 ≤ b) (hb2 : b < p) : a * b % p ≠ 0 := fun h => by
  rcases hp.dvd_mul (Nat.dvd_of_mod_eq_zero h) with h | h
  · exact pr_not_dvd ha ha2 h
  · exact pr_not_dvd hb hb2 h
theorem zeta_ord {p g k : Nat} (hp : Pr p) (hg : Ord p g (p - 1)) (hk : 1 ≤ k) (hd : (p - 1) % k = 0) : Ord p (g ^ ((p - 1) / k) % p) k :=
  (hg.pow hp.1 (Nat.dvd_of_mod_eq_zero hd) hk).mod
theorem LogN (a p g k : Nat) (w : World) (hp : P6 p) (h0 : a ≠ 0) (ha : a < p) (hg : RootOf p g) (hk : LogOf p g a k) : Calls Try.prog 23 #[.int .i64 a, .int .i64 p] w (RetE w k 0) :=
  Log_ok a p g k w hp (by rw [resV_nat ha]; exact h0) hg (by rw [resV_nat ha]; exact hk)
theorem LogM (m p g k : Nat) (w : World) (hp : P6 p) (h0 : m % p ≠ 0) (hg : RootOf p g) (hk : LogOf p g (m % p) k) : Calls Try.prog 23 #[.int .i64 m, .int .i64 p] w (RetE w k 0) :=
  Log_ok m p g k w hp (by rw [resV_of_nat]; exact h0) hg (by rw [resV_of_nat]; exact hk)
theorem wrap_one {k A : Nat} (h : A = 1 + k) (hk : k ≤ 1000000) : IntKind.i64.wrap (1 + (k : Int)) = (A : Int) := by
  rw [h, show ((1 + k : Nat) : Int) = 1 + (k : Int) by omega]; exact IntWalk.i64_in _ ⟨by omega, by omega⟩

set_option maxRecDepth 100000 in
set_option maxHeartbeats 4000000 in
theorem logs_go (n a0 b0 k0 : Int) (w : World) : Calls Try.prog 8 #[.int .i64 n, .int .i64 a0, .int .i64 b0, .int .i64 k0] w fun e w' => e = .returned (.bool true) ∧ Below w.heap.size w w' := by
  have HL := Lib.hid (lives_any w)
  have HSM := fun W => Lib.hid (small_any n W)
  go_enter Try.func8, Try.ntmps8
  go_wp2_with fail
  refine HL.out.mono ?_
  rintro e1 w0 ⟨rfl, hb⟩
  have HB := Lib.hid hb
  clear hb HL
  go_wp2_with fail
  with_reducible refine (HSM _).out.mono ?_
  rintro e1 w1 ⟨p, hp, hpl, rfl, rfl⟩
  have HP := Lib.hid hp
  have h2 := hp.ge
  have hw1 : IntKind.i64.wrap ((p : Int) - 1) = ((p - 1 : Nat) : Int) := by
    rw [show ((p - 1 : Nat) : Int) = (p : Int) - 1 by omega]; exact IntWalk.i64_in _ ⟨by omega, by omega⟩
  have hw2 : IntKind.i64.wrap ((p : Int) - 2) = (p : Int) - 2 := IntWalk.i64_in _ ⟨by omega, by omega⟩
  have ha := resV_lt1 a0 (p := p - 1) (by omega)
  have hb := resV_lt1 b0 (p := p - 1) (by omega)
  have HPA := fun W => Lib.hid (Pick_any a0 (p - 1) W (by omega) (by omega))
  have HPB := fun W => Lib.hid (Pick_any b0 (p - 1) W (by omega) (by omega))
  have HPK := fun W => Lib.hid (Pick_any k0 (p - 1) W (by omega) (by omega))
  have hk := resV_lt1 k0 (p := p - 1) (by omega)
  generalize resV a0 (p - 1) = a1 at ha HPA
  generalize resV b0 (p - 1) = b1 at hb HPB
  generalize resV k0 (p - 1) = k1 at hk HPK
  obtain ⟨a, hae⟩ : ∃ a, a = 1 + a1 := ⟨_, rfl⟩
  obtain ⟨b, hbe⟩ : ∃ b, b = 1 + b1 := ⟨_, rfl⟩
  obtain ⟨k, hke⟩ : ∃ k, k = 1 + k1 := ⟨_, rfl⟩
  have ka := wrap_one hae (by omega)
  have kb := wrap_one hbe (by omega)
  have kk := wrap_one hke (by omega)
  have ha1 : 1 ≤ a := by omega
  have ha2 : a < p := by omega
  have hb1 : 1 ≤ b := by omega
  have hb2 : b < p := by omega
  have hk1 : 1 ≤ k := by omega
  have hk2 : k ≤ p - 1 := by omega
  clear hae hbe hke hp HSM
  go_wp2_with fail
  with_reducible refine (HPA _).out.mono ?_
  rintro e1 w2 ⟨rfl, rfl⟩
  go_wp2_with fail
  with_reducible refine (HPB _).out.mono ?_
  rintro e1 w3 ⟨rfl, rfl⟩
  obtain ⟨g, hg⟩ := rootof_exists HP.out.1
  have HG := Lib.hid hg
  have hg1 := hg.1
  have hg2 := hg.2.1
  have HR := fun W => Lib.hid (Root_any p g W HP.out hg)
  clear hg HPA HPB ka
  go_wp2_with fail
  with_reducible refine (HR _).out.mono ?_
  rintro e1 w4 ⟨rfl, hbb⟩
  have HB1 := Lib.hid (HB.out.trans (hbb.mono HB.out.size))
  clear hbb HR HB kb
  have c1 : decide ((g : Int) < 1) = false := decide_eq_false (by omega)
  have c2 : decide ((g : Int) ≥ (p : Int)) = false := decide_eq_false (by omega)
  have c3 : decide (g ≥ p) = false := decide_eq_false (by omega)
  go_wp2_with fail
  clear c1 c2 c3
  go_loopw [12] (fun t12 wr => ∃ r : Nat, t12 = .int .i64 r ∧ 1 ≤ r ∧ r ≤ g + 1 ∧ Hid (Below w.heap.size w wr)) (fun t12 _ => g + 2 - (intOf t12).toNat)
  case atStart => exact ⟨1, rfl, Nat.le_refl _, by omega, HB1⟩
  case round =>
    obtain ⟨r, rfl, hr1, hr2, HBR⟩ := hrel
    by_cases hrg : r ≤ g
    · have hnd := pr_not_dvd (p := p) (a := r) hr1 (by omega)
      obtain ⟨d, hd, hdd⟩ := ord_of_prime HP.out.1 hnd
      have hdp := Nat.le_of_dvd (show 0 < p - 1 by omega) hdd
      have hd1 := hd.1
      have HO := fun W => Lib.hid (OrderN r p d W HP.out (by omega) (by omega) hd)
      have hiff : d = p - 1 ↔ r = g := by
        constructor
        · intro h
          by_cases e : r = g
          · exact e
          · exact absurd (h ▸ hd) (HG.out.2.2.2 r hr1 (by omega))
        · intro h
          exact (h ▸ hd).unique h2 HG.out.2.2.1
      have c1 : decide ((r : Int) ≤ (g : Int)) = true := decide_eq_true (by omega)
      have c2 : decide (r ≤ g) = true := decide_eq_true hrg
      by_cases hrge : r = g
      · have hdq := hiff.2 hrge
        have c3 : ((d : Int) == ((p - 1 : Nat) : Int)) = true := by simp; omega
        have c4 : ((r : Int) == (g : Int)) = true := by simp; omega
        clear hiff hd hdd hnd hdq hrge
        go_wp2_with fail
        with_reducible refine (HO _).out.mono ?_
        rintro e1 w5 ⟨rfl, hbb⟩
        have HB2 := Lib.hid (HBR.out.trans (hbb.mono HBR.out.size))
        clear hbb HO HBR
        go_wp2
        go_roundw
        case rel => exact ⟨r + 1, by go_num, by omega, by omega, HB2⟩
        case measure => simp [intOf]; omega
      · have hdq : d ≠ p - 1 := fun h => hrge (hiff.1 h)
        have c3 : ((d : Int) == ((p - 1 : Nat) : Int)) = false := by simp; omega
        have c4 : ((r : Int) == (g : Int)) = false := by simp; omega
        clear hiff hd hdd hnd hdq hrge
        go_wp2_with fail
        with_reducible refine (HO _).out.mono ?_
        rintro e1 w5 ⟨rfl, hbb⟩
        have HB2 := Lib.hid (HBR.out.trans (hbb.mono HBR.out.size))
        clear hbb HO HBR
        go_wp2
        go_roundw
        case rel => exact ⟨r + 1, by go_num, by omega, by omega, HB2⟩
        case measure => simp [intOf]; omega
    · have c1 : decide ((r : Int) ≤ (g : Int)) = false := decide_eq_false (by omega)
      have c2 : decide (r ≤ g) = false := decide_eq_false hrg
      obtain ⟨x, hx1, hx2⟩ := log_exists HP.out.1 HG.out.2.2.1 ha1 ha2
      have hx : LogOf p g a x := ⟨hx1, hx2⟩
      obtain ⟨y, hy1, hy2⟩ := log_exists HP.out.1 HG.out.2.2.1 hb1 hb2
      have hy : LogOf p g b y := ⟨hy1, hy2⟩
      have hne := prod_ne HP.out.1 ha1 ha2 hb1 hb2
      obtain ⟨z, hz1, hz2⟩ := log_exists HP.out.1 HG.out.2.2.1 (show 1 ≤ a * b % p by omega) (Nat.mod_lt _ (by omega))
      have hz : LogOf p g (a * b % p) z := ⟨hz1, hz2⟩
      have hsum := log_sum HP.out.1 HG.out.2.2.1 hx hy hz
      have HX := fun W => Lib.hid (LogN a p g x W HP.out (by omega) ha2 HG.out hx)
      have HY := fun W => Lib.hid (LogN b p g y W HP.out (by omega) hb2 HG.out hy)
      have HZ := fun W => Lib.hid (LogM (a * b) p g z W HP.out hne HG.out hz)
      have HPW := fun W => Lib.hid (PowN g x p W HP.out (by omega))
      rw [hx2] at HPW
      have m0 := mul_small ha2 hb2 (by omega)
      obtain ⟨q0, hq0⟩ : ∃ q, a * b = q := ⟨_, rfl⟩
      rw [hq0] at m0 HZ
      have k0w := wrap_mul hq0 (by omega)
      have hsw : IntKind.i64.wrap ((x : Int) + (y : Int)) = ((x + y : Nat) : Int) := by
        rw [Int.natCast_add]; exact IntWalk.i64_in _ ⟨by omega, by omega⟩
      have t1 : ((((x + y : Nat) : Int) % ((p - 1 : Nat) : Int)) != (z : Int)) = false := mod_ne_false hsum
      have t1b : ((((x : Int) + (y : Int)) % ((p - 1 : Nat) : Int)) != (z : Int)) = false := by rw [← Int.natCast_add]; exact t1
      have hne1 : (((p - 1 : Nat) : Int) != 0) = true := by simp; omega
      have hne2 : ¬ ((p - 1 : Nat) : Int) = 0 := by omega
      have hne3 : ¬ p - 1 = 0 := by omega
      have t2 : decide ((x : Int) < 0) = false := decide_eq_false (by omega)
      have t3 : decide ((y : Int) < 0) = false := decide_eq_false (by omega)
      have t4 : decide ((x : Int) > (p : Int) - 2) = false := decide_eq_false (by omega)
      have t5 : decide ((y : Int) > (p : Int) - 2) = false := decide_eq_false (by omega)
      have t6 : ((a : Int) != (a : Int)) = false := by simp
      clear hx hx2 hy hy2 hz hz2 hsum hne hq0 hrg
      go_wp2_with fail
      with_reducible refine (HX _).out.mono ?_
      rintro e1 v0 ⟨rfl, hbb⟩
      have HC0 := Lib.hid (HBR.out.trans (hbb.mono HBR.out.size))
      clear hbb HX HBR
      go_wp2_with fail
      with_reducible refine (HY _).out.mono ?_
      rintro e1 v1 ⟨rfl, hbb⟩
      have HC1 := Lib.hid (HC0.out.trans (hbb.mono HC0.out.size))
      clear hbb HY HC0
      go_wp2_with fail
      with_reducible refine (HZ _).out.mono ?_
      rintro e1 v2 ⟨rfl, hbb⟩
      have HC2 := Lib.hid (HC1.out.trans (hbb.mono HC1.out.size))
      clear hbb HZ HC1
      go_wp2_with fail
      with_reducible refine (HPW _).out.mono ?_
      rintro e1 v3 ⟨rfl, hbb⟩
      have HC3 := Lib.hid (HC2.out.trans (hbb.mono HC2.out.size))
      clear hbb HPW HC2
      go_wp2_with fail
      with_reducible refine (HPK _).out.mono ?_
      rintro e1 v4 ⟨rfl, rfl⟩
      clear HPK t1 t1b t2 t3 t4 t5 t6
      have hnek : ((k : Int) != 0) = true := by simp; omega
      have hnek0 : ¬ k = 0 := by omega
      by_cases hd : (p - 1) % k = 0
      · have HZE := fun W => Lib.hid (Zeta_ok k p g W HP.out hk1 hd HG.out)
        have hord := zeta_ord HP.out.1 HG.out.2.2.1 hk1 hd
        have hwp : g ^ ((p - 1) / k) % p < p := Nat.mod_lt _ (by omega)
        have hw0 : g ^ ((p - 1) / k) % p ≠ 0 := by
          have := (pow_lt_ne (k := (p - 1) / k) HP.out.1 (pr_not_dvd hg1 hg2)).1
          omega
        generalize g ^ ((p - 1) / k) % p = ze at HZE hord hwp hw0
        have HO := fun W => Lib.hid (OrderN ze p k W HP.out hw0 hwp hord)
        have c3 : (((p - 1 : Nat) : Int) % (k : Int) != 0) = false := mod_ne_false (v := 0) hd
        clear hd hord
        go_wp2_with fail
        with_reducible refine (HZE _).out.mono ?_
        rintro e1 v5 ⟨rfl, hbb⟩
        have HD5 := Lib.hid (HC3.out.trans (hbb.mono HC3.out.size))
        clear hbb HZE HC3
        go_wp2_with fail
        with_reducible refine (HO _).out.mono ?_
        rintro e1 v6 ⟨rfl, hbb⟩
        have HD6 := Lib.hid (HD5.out.trans (hbb.mono HD5.out.size))
        clear hbb HO HD5
        have c5 : ((k : Int) == (k : Int)) = true := by simp
        go_wp2
        go_ret
        exact ⟨rfl, HD6.out⟩
      · have HZE := fun W => Lib.hid (Zeta_none k p W HP.out hk1 hd)
        have c3 : (((p - 1 : Nat) : Int) % (k : Int) != 0) = true := by rw [← Int.natCast_emod]; simp; omega
        clear hd
        go_wp2_with fail
        with_reducible refine (HZE _).out.mono ?_
        rintro e1 v5 ⟨rfl, rfl⟩
        go_wp2
        go_ret
        exact ⟨rfl, HC3.out⟩
end Go.Proofs.Ytbcbkeeadbfjmaa
