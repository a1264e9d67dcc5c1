/- The reference of layer 3: Root, Log, Sqrt, Symbol, Zeta. -/
import Derived.Test.YtbcbkeeadbfjmaaPrRefC
import Derived.Test.YtbcbkeeadbfjmaaPrRefFac
import Derived.Test.YtbcbkeeadbfjmaaPrSqMath
namespace Go.Proofs.Ytbcbkeeadbfjmaa
open Go Go.RowKit Num

/-- The first i prime factors give no power 1. -/
def okTo (p g : Nat) (l : List (Nat × Nat)) (i : Nat) : Bool := (l.take i).all fun x => g ^ ((p - 1) / x.1) % p != 1
theorem okTo_succ {p g : Nat} {l : List (Nat × Nat)} {i : Nat} {x : Nat × Nat} (hx : l[i]? = some x) : okTo p g l (i + 1) = (okTo p g l i && (g ^ ((p - 1) / x.1) % p != 1)) := by
  unfold okTo
  obtain ⟨h, e⟩ := List.getElem?_eq_some_iff.1 hx
  rw [List.take_succ_eq_append_getElem h, List.all_append, e]
  simp
theorem okTo_all {p g : Nat} (hp : Pr p) : okTo p g (facs (p - 1)) (facs (p - 1)).length = true ↔ Tried p g := by
  have hf := facs_fac (show 1 ≤ p - 1 by have := hp.1; omega)
  unfold okTo
  rw [List.take_length, List.all_eq_true]
  constructor
  · intro h q hq hd
    obtain ⟨k, hk⟩ := (hf.mem q).2 ⟨hq, hd⟩
    simpa using h (q, k) hk
  · intro h x hx
    obtain ⟨h1, h2, _, _⟩ := hf.exps x hx
    simpa using h x.1 h1 h2
theorem tried_root {p g r : Nat} (hp : Pr p) (hg : RootOf p g) (h1 : 1 ≤ r) (hr : r ≤ g) : Tried p r ↔ r = g := by
  have hgp := hg.2.1
  constructor
  · intro h
    by_cases e : r = g
    · exact e
    · exact absurd ((root_iff hp h1 (by omega)).2 h) (hg.2.2.2 r h1 (by omega))
  · rintro rfl
    exact (root_iff hp h1 hgp).1 hg.2.2.1

set_option maxRecDepth 100000 in
theorem rRoot_bad (p : Int) (w : World) (hp : isP p = false) : Calls Try.prog 35 #[.int .i64 p] w fun e w' => e = .returned (.tuple #[.int .i64 0, .int .i64 3]) ∧ w' = w := by
  have HC := Lib.hid (refIs_any p w)
  rw [hp] at HC
  go_enter Try.func35, Try.ntmps35
  go_wp2_with fail
  refine HC.out.mono ?_
  rintro e w' ⟨rfl, rfl⟩
  go_wp2
  go_ret2
  exact ⟨rfl, rfl⟩
set_option maxRecDepth 100000 in
set_option maxHeartbeats 2000000 in
theorem rRoot_ok (p g : Nat) (w : World) (hp : P6 p) (hg : RootOf p g) : Calls Try.prog 35 #[.int .i64 p] w (RetE w g 0) := by
  have HC := Lib.hid (refIs_any p w)
  rw [hp.isP] at HC
  have h2 := hp.ge
  have hlt := hp.2
  have HP := Lib.hid hp
  have HG := Lib.hid hg
  have hgp := hg.2.1
  have hg1 := hg.1
  have HF := fun W => Lib.hid (refFactors_any (p - 1) W (by omega) (by omega))
  have hw1 : IntKind.i64.wrap ((p : Int) - 1) = ((p - 1 : Nat) : Int) := by
    rw [show ((p - 1 : Nat) : Int) = (p : Int) - 1 by omega]; exact IntWalk.i64_in _ ⟨by omega, by omega⟩
  clear hp hg
  go_enter Try.func35, Try.ntmps35
  go_wp2_with fail
  refine HC.out.mono ?_
  rintro e w' ⟨rfl, rfl⟩
  go_wp2_with fail
  refine (HF _).out.mono ?_
  rintro e w1 ⟨v, rfl, hpi, hb⟩
  have hlen := facs_len (N := p - 1) (by omega) (by omega)
  have HB := Lib.hid hb
  have HALL := fun r => Lib.hid (okTo_all (g := r) HP.out.1)
  have HEX := Lib.hid ((facs_fac (show 1 ≤ p - 1 by omega)).exps)
  have hpairs := hpi.pairs
  generalize facs (p - 1) = l at hpairs hlen HALL HEX
  obtain ⟨A, c, rfl, hcells⟩ := hpairs
  have HCE := Lib.hid hcells
  clear hcells hpi hb HF HC
  go_wp2_with fail
  go_loop [6] (fun t6 => ∃ r : Nat, t6 = .int .i64 r ∧ 1 ≤ r ∧ r ≤ g) (fun t6 => g + 1 - (intOf t6).toNat)
  case atStart => exact ⟨1, rfl, Nat.le_refl _, hg1⟩
  case round =>
    obtain ⟨r, rfl, hr1, hrg⟩ := hrel
    have HTR := Lib.hid ((HALL r).out.trans (tried_root HP.out.1 HG.out hr1 hrg))
    go_wp2_with fail
    go_loop [7, 8] (fun t7 t8 => ∃ i : Nat, t8 = .int .i64 i ∧ t7 = .bool (okTo p r l i) ∧ i ≤ l.length) (fun _ t8 => l.length - (intOf t8).toNat)
    case atStart => exact ⟨0, rfl, rfl, Nat.zero_le _⟩
    case round =>
      obtain ⟨i, rfl, rfl, hil⟩ := hrel
      by_cases hlt2 : i < l.length
      · obtain ⟨x, hx⟩ : ∃ x, l[i]? = some x := ⟨_, List.getElem?_eq_getElem hlt2⟩
        have HS := Lib.hid (okTo_succ (p := p) (g := r) hx)
        have d1 : decide (i < l.length) = true := decide_eq_true hlt2
        have d2 : (0 : Int) ≤ i := by omega
        have d3 : (i : Int) < (l.length : Int) := by omega
        cases hb : okTo p r l i with
        | false =>
          have HS2 : Hid (okTo p r l (i + 1) = false) := Lib.hid (by rw [HS.out, hb]; rfl)
          clear hb hx
          go_wp2
          go_round
          case rel => exact ⟨i + 1, by go_num, by rw [HS2.out], by omega⟩
          case measure => simp [intOf]; omega
        | true =>
          obtain ⟨k, rfl, hks, hk⟩ := HCE.out (by omega)
          obtain ⟨hc1, hc2⟩ := pcells_get l i x hx
          rw [Nat.mul_comm] at hc1
          have hk1 := (hk (i * 2) (by omega)).trans hc1
          obtain ⟨hxq, hxd, _, _⟩ := HEX.out x (List.mem_of_getElem? hx)
          have hx2 := hxq.1
          obtain ⟨q, m⟩ := x
          dsimp only at hk1 hxq hxd hx2 HS
          have hqm : (p - 1) / q ≤ p - 1 := Nat.div_le_self _ _
          have HPW := fun W => Lib.hid (rPower r ((p - 1) / q) p W (by omega) h2 (by omega) (by omega))
          have hgi : ((p - 1 : Nat) : Int) / (q : Int) = (((p - 1) / q : Nat) : Int) := by rw [Int.natCast_ediv]
          have HS2 : Hid (okTo p r l (i + 1) = (r ^ ((p - 1) / q) % p != 1)) := Lib.hid (by rw [HS.out, hb]; rfl)
          generalize r ^ ((p - 1) / q) % p = y at HPW HS2
          generalize (p - 1) / q = h at HPW hgi hqm
          have hgw : IntKind.i64.wrap (((p - 1 : Nat) : Int) / (q : Int)) = (h : Int) := by rw [hgi]; exact IntWalk.i64_in _ ⟨by omega, by omega⟩
          have hneq : ((q : Int) != 0) = true := by simp; omega
          have hneq0 : ¬ q = 0 := by omega
          clear hb hx hk hc1 hc2 hxq hxd hgi HS
          go_wp2_with fail
          refine (HPW _).out.mono ?_
          rintro e1 w3 ⟨rfl, rfl⟩
          clear HPW
          by_cases hy : y = 1
          · have hd1 : ((y : Int) != 1) = false := by rw [hy]; rfl
            have HS3 : Hid (okTo p r l (i + 1) = false) := Lib.hid (by rw [HS2.out, hy]; rfl)
            clear hy
            go_wp2
            go_round
            case rel => exact ⟨i + 1, by go_num, by rw [HS3.out], by omega⟩
            case measure => simp [intOf]; omega
          · have hd1 : ((y : Int) != 1) = true := by simp; omega
            have HS3 : Hid (okTo p r l (i + 1) = true) := Lib.hid (by rw [HS2.out]; simpa using hy)
            clear hy
            go_wp2
            go_round
            case rel => exact ⟨i + 1, by go_num, by rw [HS3.out], by omega⟩
            case measure => simp [intOf]; omega
      · have hie : i = l.length := by omega
        have d1 : decide (i < l.length) = false := decide_eq_false hlt2
        by_cases hrge : r = g
        · have hb : okTo p r l i = true := by rw [hie]; exact HTR.out.2 hrge
          subst hrge
          clear hie
          rw [hb]
          go_wp2
          go_ret2
          exact ⟨rfl, HB.out⟩
        · have hb : okTo p r l i = false := by
            cases hb : okTo p r l i with
            | false => rfl
            | true => rw [hie] at hb; exact absurd (HTR.out.1 hb) hrge
          clear hie
          rw [hb]
          go_wp2
          go_round
          case rel => exact ⟨r + 1, by go_num, by omega, by omega⟩
          case measure => simp [intOf]; omega

set_option maxRecDepth 100000 in
theorem rLog_bad (a p : Int) (w : World) (hp : isP p = false) : Calls Try.prog 36 #[.int .i64 a, .int .i64 p] w fun e w' => e = .returned (.tuple #[.int .i64 0, .int .i64 3]) ∧ w' = w := by
  have HC := Lib.hid (rRes_bad a p w hp)
  go_enter Try.func36, Try.ntmps36
  go_wp2_with fail
  refine HC.out.mono ?_
  rintro e w' ⟨rfl, rfl⟩
  go_wp2
  go_ret2
  exact ⟨rfl, rfl⟩
set_option maxRecDepth 100000 in
theorem rLog_zero (a : Int) (p : Nat) (w : World) (hp : P6 p) (h0 : resV a p = 0) : Calls Try.prog 36 #[.int .i64 a, .int .i64 p] w fun e w' => e = .returned (.tuple #[.int .i64 0, .int .i64 6]) ∧ w' = w := by
  have HC := Lib.hid (rRes_zero a p w hp h0)
  go_enter Try.func36, Try.ntmps36
  go_wp2_with fail
  refine HC.out.mono ?_
  rintro e w' ⟨rfl, rfl⟩
  go_wp2
  go_ret2
  exact ⟨rfl, rfl⟩
set_option maxRecDepth 100000 in
set_option maxHeartbeats 1000000 in
theorem rLog_ok (a : Int) (p g k : Nat) (w : World) (hp : P6 p) (h0 : resV a p ≠ 0) (hg : RootOf p g) (hk : LogOf p g (resV a p) k) : Calls Try.prog 36 #[.int .i64 a, .int .i64 p] w (RetE w k 0) := by
  have HC := Lib.hid (rRes_ok a p w hp h0)
  have HR := fun W => Lib.hid (rRoot_ok p g W hp hg)
  have h2 := hp.ge
  have hlt := hp.2
  have hgp := hg.2.1
  have hkp := hk.1
  have HK := Lib.hid hk.2
  have HI := fun i => Lib.hid (fun h1 : i < k => fun h2 : g ^ i % p = g ^ k % p => pow_inj hp.1 hg.2.2.1 (show i < p - 1 by omega) hkp h2)
  generalize resV a p = x at HC HK h0
  have hnep : ((p : Int) != 0) = true := by simp; omega
  have hnep0 : ¬ p = 0 := by omega
  clear hk hg hp
  go_enter Try.func36, Try.ntmps36
  go_wp2_with fail
  refine HC.out.mono ?_
  rintro e w' ⟨rfl, rfl⟩
  go_wp2_with fail
  refine (HR _).out.mono ?_
  rintro e w1 ⟨rfl, hb⟩
  have HB := Lib.hid hb
  clear hb
  go_wp2_with fail
  go_loop [9, 10] (fun t9 t10 => ∃ i y : Nat, t9 = .int .i64 i ∧ t10 = .int .i64 y ∧ i ≤ k ∧ y < p ∧ Hid (y = g ^ i % p)) (fun t9 _ => k + 1 - (intOf t9).toNat)
  case atStart => exact ⟨0, 1, rfl, rfl, Nat.zero_le _, by omega, Lib.hid (by rw [Nat.pow_zero, Nat.mod_eq_of_lt (by omega)])⟩
  case round =>
    obtain ⟨i, y, rfl, rfl, hik, hy, HY⟩ := hrel
    by_cases hie : i = k
    · have hyx : y = x := by rw [HY.out, hie]; exact HK.out
      have hd : ((y : Int) != (x : Int)) = false := by rw [hyx]; simp
      subst hie
      clear hyx
      go_wp2
      go_ret2
      exact ⟨rfl, HB.out⟩
    · have hyx : y ≠ x := by
        rw [HY.out, ← HK.out]
        intro h
        have := (HI i).out (by omega) h
        omega
      have hd : ((y : Int) != (x : Int)) = true := by simp; omega
      have hm := mul_lt_big hy hgp (by omega)
      obtain ⟨s, hs⟩ : ∃ s, y * g = s := ⟨_, rfl⟩
      rw [hs] at hm
      have k1 : IntKind.i64.wrap ((y : Int) * (g : Int)) = (s : Int) := by rw [← Int.natCast_mul, hs]; exact IntWalk.i64_in _ ⟨by omega, by omega⟩
      have HY2 : Hid (s % p = g ^ (i + 1) % p) := Lib.hid (by rw [← hs, HY.out, Nat.pow_succ, Nat.mod_mul_mod])
      have hsp : s % p < p := Nat.mod_lt _ (by omega)
      clear hs hyx
      go_wp2
      go_round
      case rel => exact ⟨i + 1, s % p, by go_num, by go_num, by omega, hsp, HY2⟩
      case measure => simp [intOf]; omega

set_option maxRecDepth 100000 in
theorem rSqrt_bad (a p : Int) (w : World) (hp : isP p = false) : Calls Try.prog 37 #[.int .i64 a, .int .i64 p] w fun e w' => e = .returned (.tuple #[.int .i64 0, .int .i64 3]) ∧ w' = w := by
  have HC := Lib.hid (rMod_bad a p w hp)
  go_enter Try.func37, Try.ntmps37
  go_wp2_with fail
  refine HC.out.mono ?_
  rintro e w' ⟨rfl, rfl⟩
  go_wp2
  go_ret2
  exact ⟨rfl, rfl⟩
/-- What Sqrt gives: the least root, or none. -/
def SqV (p x : Nat) (s e : Int) : Prop := (∃ r : Nat, s = r ∧ e = 0 ∧ SqrtOf p x r) ∨ (s = 0 ∧ e = 18 ∧ ¬ HasSqrt p x)
theorem SqV.unique {p x : Nat} {s e t f : Int} (h : SqV p x s e) (k : SqV p x t f) : s = t ∧ e = f := by
  rcases h with ⟨r, rfl, rfl, h⟩ | ⟨rfl, rfl, h⟩ <;> rcases k with ⟨q, rfl, rfl, k⟩ | ⟨rfl, rfl, k⟩
  · rw [h.unique k]; exact ⟨rfl, rfl⟩
  · exact (k ⟨r, h.1, h.2.1⟩).elim
  · exact (h ⟨q, k.1, k.2.1⟩).elim
  · exact ⟨rfl, rfl⟩
def SqRet (p x : Nat) (w : World) (en : Ending) (w' : World) : Prop := ∃ s e : Int, SqV p x s e ∧ en = .returned (.tuple #[.int .i64 s, .int .i64 e]) ∧ w' = w
set_option maxRecDepth 100000 in
set_option maxHeartbeats 1000000 in
theorem rSqrt_ok (a : Int) (p : Nat) (w : World) (hp : P6 p) : Calls Try.prog 37 #[.int .i64 a, .int .i64 p] w (SqRet p (resV a p) w) := by
  have HC := Lib.hid (rMod_ok a p w hp)
  have h2 := hp.ge
  have hlt := hp.2
  generalize resV a p = x at HC ⊢
  have hnep : ((p : Int) != 0) = true := by simp; omega
  have hnep0 : ¬ p = 0 := by omega
  go_enter Try.func37, Try.ntmps37
  go_wp2_with fail
  refine HC.out.mono ?_
  rintro e w' ⟨rfl, rfl⟩
  go_wp2_with fail
  go_loop [7] (fun t7 => ∃ r : Nat, t7 = .int .i64 r ∧ r ≤ p ∧ Hid (∀ t, t < r → t * t % p ≠ x)) (fun t7 => p + 1 - (intOf t7).toNat)
  case atStart => exact ⟨0, rfl, Nat.zero_le _, Lib.hid (fun t h => by omega)⟩
  case round =>
    obtain ⟨r, rfl, hr, HN⟩ := hrel
    by_cases hrp : r < p
    · have hm := mul_lt_big hrp hrp (by omega)
      obtain ⟨s, hs⟩ : ∃ s, r * r = s := ⟨_, rfl⟩
      rw [hs] at hm
      have k1 : IntKind.i64.wrap ((r : Int) * (r : Int)) = (s : Int) := by rw [← Int.natCast_mul, hs]; exact IntWalk.i64_in _ ⟨by omega, by omega⟩
      have d1 : decide (r < p) = true := decide_eq_true hrp
      by_cases hx : s % p = x
      · have hd : (((s : Int) % (p : Int)) == (x : Int)) = true := by rw [← Int.natCast_emod, hx]; simp
        have HV : Hid (SqV p x r 0) := Lib.hid (.inl ⟨r, rfl, rfl, hrp, by rw [hs]; exact hx, HN.out⟩)
        clear hs hx
        go_wp2
        go_ret2
        exact ⟨r, 0, HV.out, rfl, rfl⟩
      · have hd : (((s : Int) % (p : Int)) == (x : Int)) = false := by rw [← Int.natCast_emod]; simp; omega
        have HN2 : Hid (∀ t, t < r + 1 → t * t % p ≠ x) := Lib.hid (fun t ht => by
          by_cases e : t = r
          · subst e; rw [hs]; exact hx
          · exact HN.out t (by omega))
        clear hs hx
        go_wp2
        go_round
        case rel => exact ⟨r + 1, by go_num, by omega, HN2⟩
        case measure => simp [intOf]; omega
    · have d1 : decide (r < p) = false := decide_eq_false hrp
      have HV : Hid (SqV p x 0 18) := Lib.hid (.inr ⟨rfl, rfl, fun ⟨s, h1, h2⟩ => HN.out s (by omega) h2⟩)
      go_wp2
      go_ret2
      exact ⟨0, 18, HV.out, rfl, rfl⟩

set_option maxRecDepth 100000 in
theorem rSym_bad (a p : Int) (w : World) (hp : isP p = false) : Calls Try.prog 38 #[.int .i64 a, .int .i64 p] w fun e w' => e = .returned (.tuple #[.int .i64 0, .int .i64 3]) ∧ w' = w := by
  have HC := Lib.hid (rMod_bad a p w hp)
  go_enter Try.func38, Try.ntmps38
  go_wp2_with fail
  refine HC.out.mono ?_
  rintro e w' ⟨rfl, rfl⟩
  go_wp2
  go_ret2
  exact ⟨rfl, rfl⟩
set_option maxRecDepth 100000 in
theorem rSym_ok (a : Int) (p : Nat) (w : World) (hp : P6 p) : Calls Try.prog 38 #[.int .i64 a, .int .i64 p] w fun e w' => e = .returned (.tuple #[.int .i64 (symV p (resV a p)), .int .i64 0]) ∧ w' = w := by
  have HC := Lib.hid (rMod_ok a p w hp)
  have h2 := hp.ge
  have hx := resV_lt a h2
  have HS := Lib.hid (rSqrt_ok (resV a p : Nat) p w hp)
  rw [resV_nat hx] at HS
  generalize resV a p = x at HC HS hx ⊢
  by_cases h0 : x = 0
  · subst h0
    rw [show symV p 0 = 0 by unfold symV; rw [if_pos (Nat.zero_mod p)]]
    go_enter Try.func38, Try.ntmps38
    go_wp2_with fail
    refine HC.out.mono ?_
    rintro e w' ⟨rfl, rfl⟩
    go_wp2
    go_ret2
    exact ⟨rfl, rfl⟩
  · have hd : ((x : Int) == 0) = false := by simp; omega
    unfold symV
    rw [Nat.mod_eq_of_lt hx, if_neg h0]
    by_cases hs : sqB p x = true
    · rw [if_pos hs]
      go_enter Try.func38, Try.ntmps38
      go_wp2_with fail
      refine HC.out.mono ?_
      rintro e w' ⟨rfl, rfl⟩
      go_wp2_with fail
      refine HS.out.mono ?_
      rintro e w' ⟨s, y, hv, rfl, rfl⟩
      rcases hv with ⟨r, rfl, rfl, h⟩ | ⟨rfl, rfl, h⟩
      · clear h hs
        go_wp2
        go_ret2
        exact ⟨rfl, rfl⟩
      · exact (h (sqB_true.1 hs)).elim
    · rw [if_neg hs]
      go_enter Try.func38, Try.ntmps38
      go_wp2_with fail
      refine HC.out.mono ?_
      rintro e w' ⟨rfl, rfl⟩
      go_wp2_with fail
      refine HS.out.mono ?_
      rintro e w' ⟨s, y, hv, rfl, rfl⟩
      rcases hv with ⟨r, rfl, rfl, h⟩ | ⟨rfl, rfl, h⟩
      · exact (hs (sqB_true.2 ⟨r, h.1, h.2.1⟩)).elim
      · clear h hs
        go_wp2
        go_ret2
        exact ⟨rfl, rfl⟩

set_option maxRecDepth 100000 in
theorem rZeta_bad (e p : Int) (w : World) (hp : isP p = false) : Calls Try.prog 39 #[.int .i64 e, .int .i64 p] w fun e w' => e = .returned (.tuple #[.int .i64 0, .int .i64 3]) ∧ w' = w := by
  have HC := Lib.hid (rRoot_bad p w hp)
  go_enter Try.func39, Try.ntmps39
  go_wp2_with fail
  refine HC.out.mono ?_
  rintro e w' ⟨rfl, rfl⟩
  go_wp2
  go_ret2
  exact ⟨rfl, rfl⟩
set_option maxRecDepth 100000 in
theorem rZeta_low (e : Int) (p g : Nat) (w : World) (hp : P6 p) (hg : RootOf p g) (he : e < 1) : Calls Try.prog 39 #[.int .i64 e, .int .i64 p] w (RetE w 0 2) := by
  have HC := Lib.hid (rRoot_ok p g w hp hg)
  have hd : decide (e < 1) = true := decide_eq_true he
  go_enter Try.func39, Try.ntmps39
  go_wp2_with fail
  refine HC.out.mono ?_
  rintro e1 w1 ⟨rfl, hb⟩
  have HB := Lib.hid hb
  clear hb
  go_wp2
  go_ret2
  exact ⟨rfl, HB.out⟩
set_option maxRecDepth 100000 in
theorem rZeta_none (e p g : Nat) (w : World) (hp : P6 p) (hg : RootOf p g) (he : 1 ≤ e) (hd : (p - 1) % e ≠ 0) : Calls Try.prog 39 #[.int .i64 e, .int .i64 p] w (RetE w 0 18) := by
  have HC := Lib.hid (rRoot_ok p g w hp hg)
  have h2 := hp.ge
  have hlt := hp.2
  have hd1 : decide ((e : Int) < 1) = false := decide_eq_false (by omega)
  have hne : ((e : Int) != 0) = true := by simp; omega
  have hne0 : ¬ e = 0 := by omega
  have hw1 : IntKind.i64.wrap ((p : Int) - 1) = ((p - 1 : Nat) : Int) := by
    rw [show ((p - 1 : Nat) : Int) = (p : Int) - 1 by omega]; exact IntWalk.i64_in _ ⟨by omega, by omega⟩
  have hdd : (((p - 1 : Nat) : Int) % (e : Int) != 0) = true := by rw [← Int.natCast_emod]; simp; omega
  clear hd hg hp
  go_enter Try.func39, Try.ntmps39
  go_wp2_with fail
  refine HC.out.mono ?_
  rintro e1 w1 ⟨rfl, hb⟩
  have HB := Lib.hid hb
  clear hb
  go_wp2
  go_ret2
  exact ⟨rfl, HB.out⟩
set_option maxRecDepth 100000 in
set_option maxHeartbeats 1000000 in
theorem rZeta_ok (e p g : Nat) (w : World) (hp : P6 p) (hg : RootOf p g) (he : 1 ≤ e) (hd : (p - 1) % e = 0) : Calls Try.prog 39 #[.int .i64 e, .int .i64 p] w (RetE w (g ^ ((p - 1) / e) % p : Nat) 0) := by
  have HC := Lib.hid (rRoot_ok p g w hp hg)
  have h2 := hp.ge
  have hlt := hp.2
  have hgp := hg.2.1
  have hd1 : decide ((e : Int) < 1) = false := decide_eq_false (by omega)
  have hne : ((e : Int) != 0) = true := by simp; omega
  have hne0 : ¬ e = 0 := by omega
  have hw1 : IntKind.i64.wrap ((p : Int) - 1) = ((p - 1 : Nat) : Int) := by
    rw [show ((p - 1 : Nat) : Int) = (p : Int) - 1 by omega]; exact IntWalk.i64_in _ ⟨by omega, by omega⟩
  have hdd : (((p - 1 : Nat) : Int) % (e : Int) != 0) = false := by rw [← Int.natCast_emod]; simp; omega
  have hqm : (p - 1) / e ≤ p - 1 := Nat.div_le_self _ _
  have HPW := fun W => Lib.hid (rPower g ((p - 1) / e) p W hgp h2 (by omega) (by omega))
  have hgi : ((p - 1 : Nat) : Int) / (e : Int) = (((p - 1) / e : Nat) : Int) := by rw [Int.natCast_ediv]
  generalize g ^ ((p - 1) / e) % p = y at HPW ⊢
  generalize (p - 1) / e = h at HPW hgi hqm
  have hgw : IntKind.i64.wrap (((p - 1 : Nat) : Int) / (e : Int)) = (h : Int) := by rw [hgi]; exact IntWalk.i64_in _ ⟨by omega, by omega⟩
  clear hd hg hp hgi
  go_enter Try.func39, Try.ntmps39
  go_wp2_with fail
  refine HC.out.mono ?_
  rintro e1 w1 ⟨rfl, hb⟩
  have HB := Lib.hid hb
  clear hb
  go_wp2_with fail
  refine (HPW _).out.mono ?_
  rintro e1 w2 ⟨rfl, rfl⟩
  go_wp2
  go_ret2
  exact ⟨rfl, HB.out⟩
end Go.Proofs.Ytbcbkeeadbfjmaa
