/- prime.product, power, pow. -/
import Derived.Test.YtaieeljkalciiaaPrA
namespace Go.Proofs.Ytaieeljkalciiaa
open Go Go.RowKit Num

set_option maxRecDepth 100000 in
set_option maxHeartbeats 400000 in
theorem product_any (p : Int) (w : World) : Calls Try.prog 151 #[.int .i64 p] w fun e w' =>
    e = .returned (.func (.func 163) #[] #[.pointer (some ⟨w.heap.size, 0, none⟩)]) ∧ w' = w.alloc (.cells #[.int .i64 p] 3) := by
  go_enter Try.func151, Try.ntmps151
  go_wp2
  go_ret
  exact ⟨rfl, rfl⟩
theorem mul_lt_big {x y p : Nat} (hx : x < p) (hy : y < p) (hp : p ≤ 1000000) : x * y ≤ 1000000000000 :=
  Nat.le_trans (Nat.mul_le_mul (show x ≤ 1000000 by omega) (show y ≤ 1000000 by omega)) (by decide)

set_option maxRecDepth 100000 in
set_option maxHeartbeats 400000 in
theorem times_any (x y p B : Nat) (w : World) (hx : x < p) (hy : y < p) (hp : p ≤ 1000000) (hb : Boxed w B 3 (.int .i64 p)) :
    Calls Try.prog 163 #[.int .i64 x, .int .i64 y, .pointer (some ⟨B, 0, none⟩)] w fun e w' => e = .returned (.int .i64 ((x * y % p : Nat) : Int)) ∧ w' = w := by
  have hc := hb.cell
  have hxy := mul_lt_big hx hy hp
  have hm : IntKind.i64.wrap ((x : Int) * (y : Int)) = ((x * y : Nat) : Int) := by
    rw [← Int.natCast_mul]; exact IntWalk.i64_in _ ⟨by omega, by omega⟩
  have hne : ((p : Int) != 0) = true := by simp; omega
  generalize hg : x * y = m at hm hxy ⊢
  have hmod : m % p < p := Nat.mod_lt _ (by omega)
  clear hb hg
  go_enter Try.func163, Try.ntmps163
  go_wp2
  go_ret
  exact ⟨ret_int (by simp), rfl⟩

/-- Between two rounds of power. -/
def PowAt (p r y m v : Nat) : Prop := r < p ∧ y < p ∧ r * y ^ m % p = v
theorem PowAt.even {p r y m v : Nat} (h : PowAt p r y m v) (he : m % 2 = 0) : PowAt p r (y * y % p) (m / 2) v := by
  obtain ⟨h1, h2, h3⟩ := h
  refine ⟨h1, Nat.mod_lt _ (by omega), ?_⟩
  rw [← h3, Nat.mul_mod, ← Nat.pow_mod, ← Nat.mul_mod, ← Nat.pow_two, ← Nat.pow_mul, show 2 * (m / 2) = m by omega]
theorem PowAt.odd {p r y m v : Nat} (h : PowAt p r y m v) (he : m % 2 = 1) : PowAt p (r * y % p) (y * y % p) (m / 2) v := by
  obtain ⟨h1, h2, h3⟩ := h
  refine ⟨Nat.mod_lt _ (by omega), Nat.mod_lt _ (by omega), ?_⟩
  rw [← h3, Nat.mul_mod, ← Nat.pow_mod, Nat.mod_mod, ← Nat.mul_mod, ← Nat.pow_two, ← Nat.pow_mul, Nat.mul_assoc, ← Nat.pow_succ', show (2 * (m / 2)).succ = m by omega]
theorem PowAt.zero {p r y v : Nat} (h : PowAt p r y 0 v) : r = v := by
  have := h.2.2
  rw [Nat.pow_zero, Nat.mul_one, Nat.mod_eq_of_lt h.1] at this
  exact this

set_option maxRecDepth 100000 in
set_option maxHeartbeats 1000000 in
theorem power_any (x n p B : Nat) (w : World) (hx : x < p) (h2 : 2 ≤ p) (hp : p ≤ 1000000) (hn : n < 18446744073709551616) (hb : Boxed w B 3 (.int .i64 p)) :
    Calls Try.prog 150 #[.int .i64 1, .int .i64 x, .int .u64 n, .func (.func 163) #[] #[.pointer (some ⟨B, 0, none⟩)]] w fun e w' => e = .returned (.int .i64 ((x ^ n % p : Nat) : Int)) ∧ w' = w := by
  have HT := fun x y a b => Lib.hid (times_any x y p B w a b hp hb)
  have HS : Hid (PowAt p 1 x n (x ^ n % p)) := Lib.hid ⟨by omega, hx, by rw [Nat.one_mul]⟩
  generalize x ^ n % p = v at HS ⊢
  clear hb
  go_enter Try.func150, Try.ntmps150
  go_wp2
  go_loopw [1, 2, 9] (fun t1 t2 t9 wr => ∃ r y m : Nat, t9 = .int .i64 r ∧ t1 = .int .i64 y ∧ t2 = .int .u64 m ∧ m < 18446744073709551616 ∧ Hid (PowAt p r y m v) ∧ wr = w) (fun _ t2 _ _ => (intOf t2).toNat)
  case atStart => exact ⟨1, x, n, rfl, rfl, rfl, hn, HS, rfl⟩
  case round =>
    obtain ⟨r, y, m, rfl, rfl, rfl, hm, hA, rfl⟩ := hrel
    have hr := hA.out.1
    have hy := hA.out.2.1
    have hyy : y * y % p < p := Nat.mod_lt _ (by omega)
    have hry : r * y % p < p := Nat.mod_lt _ (by omega)
    by_cases h0 : m = 0
    · subst h0
      have HE := Lib.hid hA.out.zero
      go_wp2
      go_ret
      exact ⟨ret_int (by rw [HE.out]), rfl⟩
    · have hpos : decide ((m : Int) > 0) = true := by simp; omega
      have hq : IntKind.u64.wrap ((m : Int) / 2) = ((m / 2 : Nat) : Int) := by rw [IntKind.wrap_u64]; omega
      have HT1 := HT r y hr hy
      have HT2 := HT y y hy hy
      by_cases h1 : m % 2 = 1
      · have HN := Lib.hid (hA.out.odd h1)
        have hd : (((m : Int) % 2) == 1) = true := by simp; omega
        go_wp2_with fail
        refine HT1.out.mono ?_
        rintro e w' ⟨rfl, rfl⟩
        go_wp2_with fail
        refine HT2.out.mono ?_
        rintro e w' ⟨rfl, rfl⟩
        go_wp2_with fail
        go_roundw
        case rel => exact ⟨_, _, m / 2, rfl, rfl, by go_num, by omega, HN, trivial⟩
        case measure => simp [intOf]; omega
      · have HN := Lib.hid (hA.out.even (by omega))
        have hd : (((m : Int) % 2) == 1) = false := by simp; omega
        go_wp2_with fail
        refine HT2.out.mono ?_
        rintro e w' ⟨rfl, rfl⟩
        go_wp2_with fail
        go_roundw
        case rel => exact ⟨_, _, m / 2, rfl, rfl, by go_num, by omega, HN, trivial⟩
        case measure => simp [intOf]; omega

set_option maxRecDepth 100000 in
set_option maxHeartbeats 400000 in
theorem pow_any (x n p : Nat) (w : World) (hx : x < p) (h2 : 2 ≤ p) (hp : p ≤ 1000000) (hn : n < 18446744073709551616) :
    Calls Try.prog 147 #[.int .i64 x, .int .u64 n, .int .i64 p] w fun e w' => e = .returned (.int .i64 ((x ^ n % p : Nat) : Int)) ∧ w' = w.alloc (.cells #[.int .i64 p] 3) := by
  have HC := Lib.hid (power_any x n p w.heap.size (w.alloc (.cells #[.int .i64 p] 3)) hx h2 hp hn (Boxed.new w 3 _))
  have HP := Lib.hid (product_any p w)
  generalize x ^ n % p = v at HC ⊢
  go_enter Try.func147, Try.ntmps147
  go_wp2_with fail
  refine HP.out.mono ?_
  rintro e w' ⟨rfl, rfl⟩
  go_wp2_with fail
  refine HC.out.mono ?_
  rintro e w' ⟨rfl, rfl⟩
  go_wp2
  go_ret
  exact ⟨rfl, rfl⟩
end Go.Proofs.Ytaieeljkalciiaa
