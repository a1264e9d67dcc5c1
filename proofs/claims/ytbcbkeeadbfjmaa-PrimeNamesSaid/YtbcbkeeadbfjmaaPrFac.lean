/- prime.factors: the iterator hands over the prime factors, in their order. -/
import Derived.Test.YtbcbkeeadbfjmaaPrPow
import Derived.RangeFuncNested
import Derived.RangeFuncBound
import Derived.RangeFuncCalls
import Derived.RangeFuncLeaves
import Derived.RangeFuncWrites
import Derived.Shelf.Abstract
import Derived.Shelf.RegionOpen
import Derived.OwnWalkIn
import Derived.TacticsInMore
import Derived.LoopNIn
import Derived.LoopIn
import Derived.WalkSpells
namespace Go.Proofs.Ytbcbkeeadbfjmaa
open Go Go.RowKit Go.Shelf Num
attribute [local go_sem] Oper.semAt_some

/-- A prime factor of N, with its exponent. -/
abbrev FP (N : Nat) := { x : Nat × Nat // x ∈ facs N }
abbrev encF (N : Nat) (x : FP N) : Array Value := #[.int .i64 x.1.1, .int .i64 x.1.2]
theorem FP.pr {N : Nat} (hN : 1 ≤ N) (x : FP N) : Pr x.1.1 ∧ x.1.1 ∣ N ∧ 1 ≤ x.1.2 ∧ x.1.1 ^ x.1.2 ∣ N := (facs_fac hN).exps x.1 x.2
theorem facs_one : facs 1 = [] := Fac.nil.eq
theorem facs_cons {m q k r : Nat} (hq : Least m q) (hk : 1 ≤ k) (hm : m = q ^ k * r) (hr : ¬ q ∣ r) (h1 : 1 ≤ r) : facs m = (q, k) :: facs r :=
  (Fac.cons m q k r _ hq hk hm hr (facs_fac h1)).eq

theorem factors_in (F : Fence) (n : Nat) (hf : F.fn 43) (hro : F.round = none) (N : Int) (w : World) :
    CallsIn F n Try.prog 43 #[.int .i64 N] w fun e w' => e = .returned (.func (.func 51) #[] #[.pointer (some ⟨w.heap.size, 0, none⟩)]) ∧ w' = w.alloc (.cells #[.int .i64 N] 3) := by
  refine callsIn_of_wp Try.func43 rfl hf ?_ hro
  simp only [Try.ntmps43, List.size_toArray, List.length_cons, List.length_nil, Nat.reduceAdd, Nat.reduceSub, Array.replicate_succ, Array.replicate_zero, List.push_toArray, List.append_toArray, List.nil_append, List.cons_append]
  gi_wp2
  go_ret
  exact ⟨rfl, rfl⟩

/-- Between two rounds of the inner loop: j factors q are taken away. -/
def OutQ (m q j r : Nat) : Prop := m = q ^ j * r ∧ 1 ≤ r ∧ r ≤ m ∧ j ≤ m
theorem OutQ.next {m q j r : Nat} (hq : 2 ≤ q) (h : OutQ m q j r) (hd : r % q = 0) : OutQ m q (j + 1) (r / q) ∧ r / q < r := by
  obtain ⟨h1, h2, h3, h4⟩ := h
  obtain ⟨c, hc⟩ := Nat.dvd_of_mod_eq_zero hd
  have hrc : r / q = c := by rw [hc]; exact Nat.mul_div_cancel_left _ (by omega)
  rw [hrc]
  have hc1 : 1 ≤ c := Nat.pos_of_ne_zero fun h => by subst h; omega
  have hcr : c < r := by
    rw [hc]
    calc c = 1 * c := (Nat.one_mul c).symm
      _ < q * c := Nat.mul_lt_mul_of_pos_right (by omega) hc1
  have hm : m = q ^ (j + 1) * c := by rw [h1, hc, Nat.pow_succ, Nat.mul_assoc]
  have hj : j + 1 < q ^ (j + 1) := Nat.lt_pow_self (by omega)
  have hjm : q ^ (j + 1) ≤ m := by
    rw [hm]; exact Nat.le_mul_of_pos_right _ hc1
  exact ⟨⟨hm, hc1, by omega, by omega⟩, hcr⟩
theorem OutQ.last {m q j r : Nat} (hq : Least m q) (h : OutQ m q j r) (hd : r % q ≠ 0) : 1 ≤ j ∧ r < m ∧ facs m = (q, j) :: facs r := by
  obtain ⟨h1, h2, h3, h4⟩ := h
  have hnd : ¬ q ∣ r := fun h => hd (Nat.mod_eq_zero_of_dvd h)
  have hj : 1 ≤ j := Nat.pos_of_ne_zero fun h => by
    subst h
    rw [Nat.pow_zero, Nat.one_mul] at h1
    subst h1
    exact hnd hq.2.1
  have : r ≠ m := fun e => by subst e; exact hnd hq.2.1
  exact ⟨hj, by omega, facs_cons hq hj h1 hnd h2⟩

set_option maxRecDepth 100000 in
set_option maxHeartbeats 1000000 in
theorem fac_stops (Kp : World → World → Prop) (n Bx N : Nat) (hn : 1 ≤ n) (h1 : 1 ≤ N) (hN : N ≤ 1000000000) (w : World) (hb : Boxed w Bx 3 (.int .i64 N)) :
    SeqStopsK Fence.wide n Try.prog 51 #[.pointer (some ⟨Bx, 0, none⟩)] (encF N) Kp (fun xs => xs.map Subtype.val = facs N) (fun _ => True) (facs N).length w := by
  intro l J Jx W hW hJ hJx hY h0
  have hbW : Boxed W Bx 3 (.int .i64 N) := (hW.block Bx hb.lt).trans hb
  have hc := hbW.cell
  have HY := Lib.hid hY
  have H0 := Lib.hid h0
  clear hY h0 hbW hb hJ hJx
  refine callsIn_of_wp Try.func51 rfl trivial ?_ rfl
  simp only [Try.ntmps51, List.size_toArray, List.length_cons, List.length_nil, Nat.reduceAdd, Nat.reduceSub, Array.replicate_succ, Array.replicate_zero, List.push_toArray, List.append_toArray, List.nil_append, List.cons_append]
  gi_wp2
  gi_loopw [3] (fun t wr => ∃ (m : Nat) (pre : List (FP N)), t = .int .i64 m ∧ 1 ≤ m ∧ m ≤ N ∧ Hid (facs N = pre.map Subtype.val ++ facs m) ∧ Hid (J pre wr)) (fun t _ => (intOf t).toNat)
  case atStart => exact ⟨N, [], rfl, h1, Nat.le_refl _, Lib.hid (by simp), H0⟩
  case round =>
    obtain ⟨m, pre, rfl, hm1, hmN, HF, HJ⟩ := hrel
    by_cases hgt : 1 < m
    · obtain ⟨q, hq⟩ := least_exists m (by omega)
      have hq2 := hq.1
      have hqm : q ≤ m := Nat.le_of_dvd (by omega) hq.2.1
      have HC := Lib.hid (least_any m q wr (by omega) (by omega) hq)
      have HQ := Lib.hid hq
      have hne : ((q : Int) != 0) = true := by simp; omega
      clear hq
      gi_wp2_with fail
      refine ⟨trivial, (callsIn_wide.2 HC.out).mono ?_⟩
      rintro e wr ⟨rfl, rfl⟩
      gi_wp2_with fail
      gi_loop [3, 5] (fun t k => ∃ j r : Nat, t = .int .i64 r ∧ k = .int .i64 j ∧ Hid (OutQ m q j r)) (fun t _ => (intOf t).toNat)
      case atStart => exact ⟨0, m, rfl, rfl, Lib.hid ⟨by simp, by omega, Nat.le_refl _, Nat.zero_le _⟩⟩
      case round =>
        obtain ⟨j, r, rfl, rfl, HO⟩ := hrel
        have hr1 := HO.out.2.1
        have hrm := HO.out.2.2.1
        have hjm := HO.out.2.2.2
        by_cases hd : r % q = 0
        · obtain ⟨ho, hlt⟩ := HO.out.next hq2 hd
          have HO2 := Lib.hid ho
          have hdd : (((r : Int) % (q : Int)) == 0) = true := by rw [← Int.natCast_emod, hd]; rfl
          have hw : IntKind.i64.wrap ((r : Int) / (q : Int)) = ((r / q : Nat) : Int) := by
            rw [← Int.natCast_ediv]
            generalize r / q = z at hlt ⊢
            exact IntWalk.i64_in _ ⟨by omega, by omega⟩
          clear ho hd
          gi_wp2
          go_round
          case rel => exact ⟨j + 1, r / q, by go_num, by go_num, HO2⟩
          case measure => simp [intOf]; omega
        · obtain ⟨hj1, hrlt, hfm⟩ := HO.out.last HQ.out hd
          have hdd : (((r : Int) % (q : Int)) == 0) = false := by rw [← Int.natCast_emod]; simp; omega
          have hmem : (q, j) ∈ facs N := by rw [HF.out, hfm]; simp
          have hF2 : facs N = (pre ++ [(⟨(q, j), hmem⟩ : FP N)]).map Subtype.val ++ facs r := HF.out.trans (by rw [hfm]; simp)
          have hlen : pre.length < (facs N).length := by rw [HF.out, hfm]; simp
          obtain ⟨fn, tmps, assign, body, hy, hR⟩ := HY.out pre ⟨(q, j), hmem⟩ wr HJ.out hlen
          dsimp only [encF] at hy
          have HR := Lib.hid hR
          have HF2 := Lib.hid hF2
          clear hR hF2 hlen hfm hd
          gi_wp2
          refine HR.out.mono ?_
          rintro e W' (⟨rfl, hJ', hk'⟩ | ⟨rfl, hJx'⟩)
          · have HJ2 := Lib.hid hJ'
            clear hJ' hk'
            gi_wp2
            go_roundw
            case rel => exact ⟨r, _, rfl, hr1, by omega, HF2, HJ2⟩
            case measure => simp [intOf]; omega
          · have HX := Lib.hid hJx'
            clear hJx'
            gi_wp2
            refine bodyPost_ret (results_none rfl _ _ _) rfl ?_
            exact ⟨⟨_, rfl⟩, .inr ⟨_, trivial, HX.out⟩⟩
    · have hm : m = 1 := by omega
      subst hm
      gi_wp2
      go_end0
      exact ⟨⟨_, rfl⟩, .inl ⟨pre, (HF.out.trans (by rw [facs_one, List.append_nil])).symm, HJ.out⟩⟩
end Go.Proofs.Ytbcbkeeadbfjmaa
