/- prime.log, Log. -/
import Derived.Test.YtbcbkeeadbfjmaaPrLogMap
namespace Go.Proofs.Ytbcbkeeadbfjmaa
open Go Go.RowKit Num
open Go.Maps (Keyed IsMap has int_keyed keyOf_int_mk)

/-- The width: the least whose square is at least p-1. -/
def WidthAt (p m : Nat) : Prop := 1 ≤ m ∧ m ≤ 1000 ∧ m ≤ p - 1
theorem WidthAt.next {p m : Nat} (hp : p < 1000000) (h : WidthAt p m) (hs : m * m < p - 1) : WidthAt p (m + 1) := by
  obtain ⟨h1, h2, h3⟩ := h
  have hm : m < 1000 := Nat.lt_of_not_le fun h => by
    have : 1000 * 1000 ≤ m * m := Nat.mul_le_mul h h
    omega
  have : m ≤ m * m := Nat.le_mul_self m
  exact ⟨by omega, by omega, by omega⟩
/-- What is left to find: x is the power k - n of g. -/
def LogAt (p g x k n : Nat) : Prop := n ≤ k ∧ x = g ^ (k - n) % p
theorem LogAt.next {p g x k n m b : Nat} (hp : Pr p) (hg : ¬ p ∣ g) (h : LogAt p g x k n) (hm : m ≤ k - n) (hb : b = (g ^ m % p) ^ (p - 2) % p) : LogAt p g (x * b % p) k (n + m) := by
  obtain ⟨h1, h2⟩ := h
  refine ⟨by omega, ?_⟩
  obtain ⟨j, hj⟩ : ∃ j, k - n = j + m := ⟨k - n - m, by omega⟩
  have hnd : ¬ p ∣ g ^ m := fun h => hg (hp.dvd_pow h)
  have hi := inverse_pow hp hnd
  rw [h2, hj, show k - (n + m) = j by omega, hb, Nat.pow_add, ← Nat.pow_mod, ← Nat.mul_mod, Nat.mul_assoc, Nat.mul_mod, hi, Nat.mul_one, Nat.mod_mod]

set_option maxRecDepth 100000 in
set_option maxHeartbeats 4000000 in
theorem log_any (x p g k : Nat) (w : World) (hp : P6 p) (hg : RootOf p g) (hx : LogOf p g x k) : Calls Try.prog 48 #[.int .i64 x, .int .i64 p] w (Ret w (.int .i64 k)) := by
  have h2 := hp.ge
  have hlt := hp.2
  have HP := Lib.hid hp
  have HG := Lib.hid hg
  have hk := hx.1
  have hgp := hg.2.1
  have HX := Lib.hid hx.2
  have hnd : ¬ p ∣ g := pr_not_dvd hg.1 hgp
  have HND := Lib.hid hnd
  have HPR := Lib.hid (product_any p w)
  have HRO := Lib.hid (root_any p g (w.alloc (.cells #[.int .i64 p] 3)) hp hg)
  have hw1 : IntKind.i64.wrap ((p : Int) - 1) = ((p - 1 : Nat) : Int) := by
    rw [show ((p - 1 : Nat) : Int) = (p : Int) - 1 by omega]; exact IntWalk.i64_in _ ⟨by omega, by omega⟩
  have hw2 : IntKind.i64.wrap ((p : Int) - 2) = ((p - 2 : Nat) : Int) := by
    rw [show ((p - 2 : Nat) : Int) = (p : Int) - 2 by omega]; exact IntWalk.i64_in _ ⟨by omega, by omega⟩
  have hu2 : IntKind.u64.wrap ((p - 2 : Nat) : Int) = ((p - 2 : Nat) : Int) := by rw [IntKind.wrap_u64]; omega
  have hmm := map_make
  clear hnd hp hg hx
  go_enter Try.func48, Try.ntmps48
  go_wp2_with fail
  refine HPR.out.mono ?_
  rintro e w' ⟨rfl, rfl⟩
  go_wp2_with fail
  refine HRO.out.mono ?_
  rintro e w1 ⟨rfl, hb1⟩
  have hz1 := hb1.size
  rw [World.size_alloc] at hz1
  have HBox : Hid (Boxed w1 w.heap.size 3 (.int .i64 p)) := Lib.hid ((hb1.block _ (by simp)).trans (Boxed.new w 3 _))
  have HB1 := Lib.hid (((Below.refl _ w).alloc (Nat.le_refl _) (.cells #[.int .i64 p] 3)).trans (hb1.mono (by simp)))
  clear hb1 HPR HRO
  go_wp2_with fail
  go_loop [7] (fun t => ∃ m : Nat, t = .int .i64 m ∧ Hid (WidthAt p m)) (fun t => (2000 - intOf t).toNat)
  case atStart => exact ⟨1, rfl, Lib.hid ⟨by omega, by omega, by omega⟩⟩
  case round =>
    obtain ⟨m, rfl, HW⟩ := hrel
    have hm1 := HW.out.1
    have hm2 := HW.out.2.1
    have hm3 := HW.out.2.2
    have hmm2 : IntKind.i64.wrap ((m : Int) * (m : Int)) = ((m * m : Nat) : Int) := by
      have : m * m ≤ 1000 * 1000 := Nat.mul_le_mul hm2 hm2
      rw [← Int.natCast_mul]
      exact IntWalk.i64_in _ ⟨by omega, by omega⟩
    by_cases hs : m * m < p - 1
    · have HN := Lib.hid (HW.out.next hlt hs)
      generalize m * m = s at hs hmm2
      have hd2 : decide ((s : Int) < ((p - 1 : Nat) : Int)) = true := decide_eq_true (by omega)
      have hd3 : decide (s < p - 1) = true := decide_eq_true hs
      clear hs
      go_wp2
      go_round
      case rel => exact ⟨m + 1, by go_num, HN⟩
      case measure => simp [intOf]; omega
    · clear HW
      generalize m * m = s at hs hmm2
      have hd2 : decide ((s : Int) < ((p - 1 : Nat) : Int)) = false := decide_eq_false (by omega)
      have hd3 : decide (s < p - 1) = false := decide_eq_false hs
      clear hs
      go_wp2
      obtain ⟨W2, hW2⟩ : ∃ W2, w1.alloc (.map #[] 0) = W2 := ⟨_, rfl⟩
      have HBx2 : Hid (Boxed W2 w.heap.size 3 (.int .i64 p)) := Lib.hid (by rw [← hW2]; exact HBox.out.alloc _)
      have HB2 : Hid (Below w.heap.size w W2) := Lib.hid (by rw [← hW2]; exact HB1.out.alloc (by omega) _)
      have HM2 : Hid (W2.ownsMap Try.prog 3 (plainElem Try.prog 3) w1.heap.size 0 (Sm g p 0)) := Lib.hid (by rw [← hW2]; exact World.ownsMap_made _ _ _ _)
      rw [hW2]
      clear hW2
      go_loopw [9, 30] (fun t9 t30 wr => ∃ y i : Nat, t9 = .int .i64 y ∧ t30 = .int .i64 i ∧ i ≤ m ∧ y < p ∧ Hid (y = g ^ i % p) ∧ Hid (wr.ownsMap Try.prog 3 (plainElem Try.prog 3) w1.heap.size i (Sm g p i)) ∧ Hid (Boxed wr w.heap.size 3 (.int .i64 p)) ∧ Hid (Below w.heap.size w wr)) (fun _ t30 _ => m - (intOf t30).toNat)
      case atStart => exact ⟨1, 0, rfl, rfl, Nat.zero_le _, by omega, Lib.hid (by rw [Nat.pow_zero, Nat.mod_eq_of_lt (by omega)]), HM2, HBx2, HB2⟩
      case round =>
        obtain ⟨y, i, rfl, rfl, hi, hyp, HY, HM, HBx, HB⟩ := hrel
        by_cases him : i < m
        · have hkey := keyOf_int_mk Try.underlying3 (wf_nat (a := y) (by omega))
          have hown := HM.out
          go_wp2_with (at_mapUpdate; refine wpList_mapUpdate_own _ rfl _ _ _ 50 rfl 3 3 map_law Try.underlying50 _ w1.heap.size i _ rfl hown (by unfold maxLen; omega) _ _ _ rfl rfl hkey _ [] (plainElem_int Try.underlying3 (wf_nat (a := i) (by omega))) ?_; intro w4 hown4 hgrow4; clear hown hkey)
          have hbx4 := HBx.out.kept hgrow4 (show some w.heap.size ≠ some w1.heap.size from fun e => by injection e; omega)
          have HM4 : Hid (w4.ownsMap Try.prog 3 (plainElem Try.prog 3) w1.heap.size (i + 1) (Sm g p (i + 1))) := Lib.hid (by
            have := hown4
            rw [Sm, ← HY.out]
            exact this)
          have HY4 : Hid (y * g % p = g ^ (i + 1) % p) := Lib.hid (by rw [HY.out, Nat.pow_succ, Nat.mod_mul_mod])
          have HB4 := Lib.hid (HB.out.grown hgrow4 HB.out.size (fun j e => by cases e; omega))
          have HBx4 := Lib.hid hbx4
          have hyg : y * g % p < p := Nat.mod_lt _ (by omega)
          clear hown4 hgrow4 hbx4 HM HY HB HBx
          refine (times_any y g p w.heap.size w4 hyp hgp (by omega) HBx4.out).mono ?_
          rintro e w5 ⟨rfl, rfl⟩
          generalize y * g % p = y2 at HY4 hyg
          go_wp2
          go_roundw
          case rel => exact ⟨y2, i + 1, rfl, by go_num, by omega, hyg, HY4, HM4, HBx4, HB4⟩
          case measure => simp [intOf]; omega
        · have hie : i = m := by omega
          subst hie
          have HP2 := Lib.hid (pow_any y (p - 2) p wr hyp h2 (by omega) (by omega))
          have hbp : y ^ (p - 2) % p < p := Nat.mod_lt _ (by omega)
          obtain ⟨bk, hbk⟩ : ∃ bk, y ^ (p - 2) % p = bk := ⟨_, rfl⟩
          rw [hbk] at HP2 hbp
          have HBK : Hid (bk = (g ^ i % p) ^ (p - 2) % p) := Lib.hid (by rw [← hbk, ← HY.out])
          clear hbk
          go_wp2_with fail
          refine HP2.out.mono ?_
          rintro e w5 ⟨rfl, rfl⟩
          obtain ⟨W3, hW3⟩ : ∃ W3, wr.alloc (.cells #[.int .i64 p] 3) = W3 := ⟨_, rfl⟩
          have HM3 : Hid (W3.ownsMap Try.prog 3 (plainElem Try.prog 3) w1.heap.size i (Sm g p i)) := Lib.hid (by rw [← hW3]; exact HM.out.alloc _)
          have HBx3 : Hid (Boxed W3 w.heap.size 3 (.int .i64 p)) := Lib.hid (by rw [← hW3]; exact HBx.out.alloc _)
          have HB3 : Hid (Below w.heap.size w W3) := Lib.hid (by rw [← hW3]; exact HB.out.alloc HB.out.size _)
          rw [hW3]
          have HPP := HP.out.1
          have HXL : Hid (x < p) := Lib.hid (by rw [← HX.out]; exact Nat.mod_lt _ (by omega))
          clear hW3 HP2 HM HBx HB HY
          go_wp2_with fail
          go_loop [0, 12] (fun t0 t12 => ∃ x' n : Nat, t0 = .int .i64 x' ∧ t12 = .int .i64 n ∧ x' < p ∧ Hid (LogAt p g x' k n)) (fun _ t12 => k + 1 - (intOf t12).toNat)
          case atStart => exact ⟨x, 0, rfl, rfl, HXL.out, Lib.hid ⟨Nat.zero_le _, by rw [Nat.sub_zero]; exact HX.out.symm⟩⟩
          case round =>
            obtain ⟨x', n, rfl, rfl, hxp, HL⟩ := hrel
            have hnk := HL.out.1
            have HORD := Lib.hid HG.out.2.2.1
            by_cases hin : k - n < i
            · obtain ⟨hl1, hl2⟩ := look_found HM3.out HPP HORD.out hm3 hin HL.out.2 (by omega)
              have hs : IntKind.i64.wrap ((n : Int) + ((k - n : Nat) : Int)) = (k : Int) := by
                rw [show (n : Int) + ((k - n : Nat) : Int) = (k : Int) by omega]; exact IntWalk.i64_in _ ⟨by omega, by omega⟩
              by_cases hc : n + i < p - 1
              · have hd1 : decide ((n : Int) + (i : Int) < ((p - 1 : Nat) : Int)) = true := decide_eq_true (by omega)
                have hd2 : decide (n + i < p - 1) = true := decide_eq_true hc
                go_wp2
                go_ret
                exact ⟨rfl, HB3.out⟩
              · have hd1 : decide ((n : Int) + (i : Int) < ((p - 1 : Nat) : Int)) = false := decide_eq_false (by omega)
                have hd2 : decide (n + i < p - 1) = false := decide_eq_false hc
                go_wp2
                go_ret
                exact ⟨rfl, HB3.out⟩
            · have hc : n + i < p - 1 := by omega
              have hd1 : decide ((n : Int) + (i : Int) < ((p - 1 : Nat) : Int)) = true := decide_eq_true (by omega)
              have hd2 : decide (n + i < p - 1) = true := decide_eq_true hc
              have hl1 := look_missed HM3.out HPP HORD.out (i := k - n) (by omega) (by omega) HL.out.2 (by omega)
              have HN := Lib.hid (HL.out.next HPP HND.out (show i ≤ k - n by omega) HBK.out)
              have hni : n + i ≤ k := HN.out.1
              have hxb : x' * bk % p < p := Nat.mod_lt _ (by omega)
              go_wp2_with fail
              refine (times_any x' bk p w.heap.size W3 hxp hbp (by omega) HBx3.out).mono ?_
              rintro e w5 ⟨rfl, rfl⟩
              generalize x' * bk % p = x2 at HN hxb
              go_wp2
              go_round
              case rel => exact ⟨x2, n + i, rfl, by go_num, hxb, HN⟩
              case measure => simp [intOf]; omega
end Go.Proofs.Ytbcbkeeadbfjmaa
