/- MTrace, MSer, MPolyC, MPolyM, joined. -/
import Derived.Test.YtokiejichnnmnaaMApply
import Derived.Test.YtokiejichnnmnaaMGLin
import Derived.Laws.CopyOwn
import Derived.Test.YtokiejichnnmnaaMTurn
import Derived.Test.YtokiejichnnmnaaMDraw
import Derived.Test.YtokiejichnnmnaaMBlank
import Derived.Test.YtokiejichnnmnaaMShelf
import Derived.Sort.OwnSortedInts
import Derived.Test.YtokiejichnnmnaaMLawB

/- matrix.Trace. -/
namespace Go.Proofs.Ytokiejichnnmnaa
open Go Go.RowKit Num

def trS (f : Nat → Nat → Int) : Nat → Int
  | 0 => 0
  | k + 1 => trS f k + f k k
theorem trS_in {p : Int} {m : Nat} {f : Nat → Nat → Int} (hp1 : p ≤ 10000) (hf : InG p m m f) : ∀ k, k ≤ m → 0 ≤ trS f k ∧ trS f k ≤ k * 10000
  | 0, _ => ⟨Int.le_refl _, by simp [trS]⟩
  | k + 1, hk => by
    have := trS_in hp1 hf k (by omega)
    have h := hf k (by omega) k (by omega)
    simp only [trS]
    omega

set_option maxRecDepth 100000 in
set_option maxHeartbeats 2000000 in
theorem Trace_any (ra : Value) (m : Nat) (n : Nat → Nat) (f : Nat → Nat → Int) (p : Int) (w : World) (hm : m ≤ 1000000) (hn : ∀ i, i < m → n i ≤ 1000000) (ha : Grid w (· < w.heap.size) ra m n f) (x : Int) (hx : x = chkS (chkM p m n f) m (n 0)) :
    Calls Try.prog 51 #[.agg #[.int .i64 p, ra]] w fun e w' => e = .returned (.tuple #[.int .i64 (if x = 0 then trS f m % p else 0), .int .i64 x]) ∧ Below w.heap.size w w' := by
  have HC := fun W h => Lib.hid (checkSquare_any ra m n f p W hm hn h)
  rw [← hx] at HC
  have HA := Lib.hid ha
  obtain ⟨A, c, rfl, hcm⟩ := ha.form
  have HBX := Lib.hid (row_new (W := w) rfl 61 #[.int .i64 p, .slice A m c])
  have HB1 := Lib.hid (show Below w.heap.size w (w.alloc (.cells #[.int .i64 p, .slice A m c] 61)) from (Below.refl _ _).alloc (Nat.le_refl _) _)
  by_cases hx0 : x = 0
  · subst hx0
    obtain ⟨h1, h2⟩ := chkS_zero hx.symm
    obtain ⟨hmod, g1, g2, g3, g4, g5⟩ := chkM_zero h1
    obtain ⟨hp2, hp4, hp6⟩ := modB_true hmod
    have hIN : InG p m m f := fun i hi => by have := (g5 i hi).2; rw [(g5 i hi).1, ← h2] at this; exact this
    have HTR := Lib.hid (fun k hk => trS_in (by omega) hIN k hk)
    have HA2 := Lib.hid (grid_reg HA.out (fun i hi => ((g5 i hi).1).trans h2.symm))
    have hp0 : ¬ p = 0 := by omega
    have hp0' : (p != 0) = true := by simp; omega
    rw [if_pos rfl]
    clear ha hn g5 hmod h1 hx h2 hIN
    go_enter Try.func51, Try.ntmps51
    go_wp2_with fail
    refine (HC _ (HA.out.on HB1.out)).out.mono ?_
    rintro e w4 ⟨rfl, hb4⟩
    have HB4 := Lib.hid (HB1.out.trans (hb4.mono HB1.out.size))
    have HR4 := Lib.hid (HBX.out.below hb4 HBX.out.lt)
    have c0 := HR4.out.cell (i := 0) rfl
    have c1 := HR4.out.cell (i := 1) rfl
    clear hb4
    go_wp2_with fail
    go_loopw [5, 16] (fun t5 t wr => ∃ k : Nat, t5 = .int .i64 (trS f k) ∧ t = .int .i64 k ∧ k ≤ m ∧ wr = w4) (fun _ t _ => m - (intOf t).toNat)
    case atStart => exact ⟨0, rfl, rfl, Nat.zero_le _, rfl⟩
    case round =>
      obtain ⟨k, rfl, rfl, hk, rfl⟩ := hrel
      have hs := HTR.out k hk
      by_cases hlt : k < m
      · have d1 : decide (k < m) = true := decide_eq_true hlt
        have d2 : (0 : Int) ≤ k := by omega
        have d3 : (k : Int) < (m : Int) := by omega
        obtain ⟨A', c', e, _, h⟩ := HA2.out.on HB4.out
        cases e
        obtain ⟨b, o, rfl, hb, hcc⟩ := h (by omega)
        obtain ⟨r, k1, A2, c2, rfl, _, h'⟩ := hcc k hlt
        obtain ⟨b2, o2, rfl, hb2, hcc2⟩ := h' (show 0 < m by omega)
        have k2 := hcc2 k hlt
        have hs2 : 0 ≤ trS f k + f k k ∧ trS f k + f k k ≤ ((k + 1 : Nat) : Int) * 10000 := HTR.out (k + 1) hlt
        have hw : IntKind.i64.wrap (trS f k + f k k) = trS f k + f k k := IntWalk.i64_in _ ⟨by omega, by omega⟩
        have HS3 : Hid (trS f (k + 1) = trS f k + f k k) := Lib.hid rfl
        generalize trS f k = s at hw hs HS3
        generalize f k k = y at hw k2 HS3
        clear h hb hcc h' hb2 hcc2 hs2
        go_wp2_with fail
        go_roundw
        case rel => exact ⟨k + 1, by rw [HS3.out], by go_num, by omega, trivial⟩
        case measure => simp [intOf]; omega
      · have hkm : k = m := by omega
        subst hkm
        have d1 : decide (k < k) = false := decide_eq_false (by omega)
        obtain ⟨s, hs3⟩ : ∃ s, trS f k = s := ⟨_, rfl⟩
        have HS3 := Lib.hid hs3
        rw [hs3] at hs ⊢
        clear hs3
        go_wp2_with fail
        go_ret2
        exact ⟨by rw [HS3.out]; rfl, HB4.out⟩
  · have hd2 : (x != 0) = true := by simpa using hx0
    rw [if_neg hx0]
    clear ha hn hx hx0
    go_enter Try.func51, Try.ntmps51
    go_wp2_with fail
    refine (HC _ (HA.out.on HB1.out)).out.mono ?_
    rintro e w4 ⟨rfl, hb4⟩
    have HB4 := Lib.hid (HB1.out.trans (hb4.mono HB1.out.size))
    clear hb4
    go_wp2
    go_ret2
    exact ⟨rfl, HB4.out⟩
end Go.Proofs.Ytokiejichnnmnaa

/- Power series with integer coefficients, determinants over them, the characteristic polynomial by Samuelson and Berkowitz: the theorem of Cayley and Hamilton, the last coefficient and the trace, conjugate matrices. Mathematics alone. -/
namespace Go.Proofs.Ytokiejichnnmnaa
open Go Go.RowKit Num

theorem sumTo_front (f : Nat → Int) : ∀ n, sumTo f (n + 1) = f 0 + sumTo (fun i => f (i + 1)) n
  | 0 => by simp [sumTo]
  | n + 1 => by
    show sumTo f (n + 1) + f (n + 1) = f 0 + (sumTo (fun i => f (i + 1)) n + f (n + 1))
    rw [sumTo_front f n]; omega
theorem sumTo_rev (f : Nat → Int) : ∀ n, sumTo f (n + 1) = sumTo (fun i => f (n - i)) (n + 1)
  | 0 => rfl
  | n + 1 => by
    rw [sumTo_front (fun i => f (n + 1 - i)) (n + 1)]
    have h : sumTo (fun i => f (n + 1 - (i + 1))) (n + 1) = sumTo (fun i => f (n - i)) (n + 1) := sumTo_congr _ fun i _ => by rw [Nat.add_sub_add_right]
    show sumTo f (n + 1) + f (n + 1) = f (n + 1 - 0) + sumTo (fun i => f (n + 1 - (i + 1))) (n + 1)
    rw [h, ← sumTo_rev f n, Nat.sub_zero]; omega
theorem sumTo_add (f g : Nat → Int) (n : Nat) : sumTo (fun i => f i + g i) n = sumTo f n + sumTo g n := by
  have := sumTo_lin f g 1 1 n
  simpa using this
theorem sumTo_mul (c : Int) (f : Nat → Int) (n : Nat) : sumTo (fun i => c * f i) n = c * sumTo f n := by
  have := sumTo_lin f f c 0 n
  simpa using this
theorem sumTo_mulr (c : Int) (f : Nat → Int) (n : Nat) : sumTo (fun i => f i * c) n = sumTo f n * c := by
  rw [Int.mul_comm, ← sumTo_mul]
  exact sumTo_congr n fun i _ => Int.mul_comm _ _
/-- A triangle, by diagonals and by rows. -/
theorem sumTo_tri (T : Nat → Nat → Int) : ∀ n, sumTo (fun k => sumTo (fun i => T i (k - i)) (k + 1)) (n + 1) = sumTo (fun i => sumTo (fun j => T i j) (n - i + 1)) (n + 1)
  | 0 => rfl
  | n + 1 => by
    show sumTo (fun k => sumTo (fun i => T i (k - i)) (k + 1)) (n + 1) + sumTo (fun i => T i (n + 1 - i)) (n + 1 + 1) = sumTo (fun i => sumTo (fun j => T i j) (n + 1 - i + 1)) (n + 1) + sumTo (fun j => T (n + 1) j) (n + 1 - (n + 1) + 1)
    rw [sumTo_tri T n]
    have h : sumTo (fun i => sumTo (fun j => T i j) (n + 1 - i + 1)) (n + 1) = sumTo (fun i => sumTo (fun j => T i j) (n - i + 1) + T i (n + 1 - i)) (n + 1) := sumTo_congr _ fun i hi => by
      rw [show n + 1 - i = n - i + 1 by omega]; rfl
    rw [h, sumTo_add]
    show _ + (sumTo (fun i => T i (n + 1 - i)) (n + 1) + T (n + 1) (n + 1 - (n + 1))) = _ + sumTo (fun j => T (n + 1) j) (n + 1 - (n + 1) + 1)
    rw [Nat.sub_self]
    show _ = _ + (0 + T (n + 1) 0)
    omega

/-- A power series. -/
def Ser : Type := Nat → Int
/-- A constant. -/
def cS (c : Int) : Ser := fun n => if n = 0 then c else 0
instance : Add Ser := ⟨fun f g n => f n + g n⟩
instance : Mul Ser := ⟨fun f g n => sumTo (fun i => f i * g (n - i)) (n + 1)⟩
instance : Zero Ser := ⟨fun _ => 0⟩
instance : One Ser := ⟨cS 1⟩
/-- A multiple. -/
def smS (c : Int) (f : Ser) : Ser := fun n => c * f n
/-- The sum of the first n. -/
def sumS (f : Nat → Ser) (n : Nat) : Ser := fun m => sumTo (fun i => f i m) n
theorem Ser.ext_ {f g : Ser} (h : ∀ n, f n = g n) : f = g := funext h
theorem addS_at (f g : Ser) (n : Nat) : (f + g) n = f n + g n := rfl
theorem mulS_at (f g : Ser) (n : Nat) : (f * g) n = sumTo (fun i => f i * g (n - i)) (n + 1) := rfl
theorem zeroS_at (n : Nat) : (0 : Ser) n = 0 := rfl
theorem oneS_at (n : Nat) : (1 : Ser) n = if n = 0 then 1 else 0 := rfl
theorem addS_comm (f g : Ser) : f + g = g + f := Ser.ext_ fun _ => Int.add_comm _ _
theorem addS_assoc (f g h : Ser) : f + g + h = f + (g + h) := Ser.ext_ fun _ => Int.add_assoc _ _ _
theorem addS_zero (f : Ser) : f + 0 = f := Ser.ext_ fun _ => Int.add_zero _
theorem zeroS_add (f : Ser) : 0 + f = f := Ser.ext_ fun _ => Int.zero_add _
theorem mulS_comm (f g : Ser) : f * g = g * f := Ser.ext_ fun n => by
  rw [mulS_at, mulS_at, sumTo_rev]
  refine sumTo_congr _ fun i hi => ?_
  rw [show n - (n - i) = i by omega, Int.mul_comm]
theorem mulS_add (f g h : Ser) : f * (g + h) = f * g + f * h := Ser.ext_ fun n => by
  rw [addS_at, mulS_at, mulS_at, mulS_at, ← sumTo_add]
  exact sumTo_congr _ fun i _ => Int.mul_add _ _ _
theorem addS_mul (f g h : Ser) : (f + g) * h = f * h + g * h := by rw [mulS_comm, mulS_add, mulS_comm h, mulS_comm h]
theorem mulS_zero (f : Ser) : f * 0 = 0 := Ser.ext_ fun _ => sumTo_zero _ fun _ _ => Int.mul_zero _
theorem zeroS_mul (f : Ser) : 0 * f = 0 := by rw [mulS_comm, mulS_zero]
theorem cS_mul (c : Int) (f : Ser) : cS c * f = smS c f := Ser.ext_ fun n => by
  rw [mulS_at, sumTo_front, sumTo_zero n fun i _ => by show cS c (i + 1) * _ = 0; unfold cS; rw [if_neg (by omega), Int.zero_mul]]
  show c * f (n - 0) + 0 = c * f n
  rw [Int.add_zero, Nat.sub_zero]
theorem oneS_mul (f : Ser) : 1 * f = f := (cS_mul 1 f).trans (Ser.ext_ fun _ => Int.one_mul _)
theorem mulS_one (f : Ser) : f * 1 = f := by rw [mulS_comm, oneS_mul]
theorem mulS_assoc (f g h : Ser) : f * g * h = f * (g * h) := Ser.ext_ fun n => by
  show sumTo (fun k => sumTo (fun i => f i * g (k - i)) (k + 1) * h (n - k)) (n + 1) = sumTo (fun i => f i * sumTo (fun j => g j * h (n - i - j)) (n - i + 1)) (n + 1)
  have e1 := sumTo_tri (fun i j => f i * g j * h (n - i - j)) n
  refine Eq.trans (sumTo_congr _ fun k hk => ?_) (e1.trans (sumTo_congr _ fun i hi => ?_))
  · rw [← sumTo_mulr]
    refine sumTo_congr _ fun i hi => ?_
    rw [show n - i - (k - i) = n - k by omega]
  · rw [← sumTo_mul]
    exact sumTo_congr _ fun j _ => Int.mul_assoc _ _ _
theorem mulS_left (f g h : Ser) : f * (g * h) = g * (f * h) := by rw [← mulS_assoc, mulS_comm f, mulS_assoc]
theorem smS_mul (c : Int) (f g : Ser) : smS c f * g = smS c (f * g) := by rw [← cS_mul, ← cS_mul, mulS_assoc]
theorem mul_smS (c : Int) (f g : Ser) : f * smS c g = smS c (f * g) := by rw [mulS_comm, smS_mul, mulS_comm]
theorem smS_add (c : Int) (f g : Ser) : smS c (f + g) = smS c f + smS c g := Ser.ext_ fun _ => Int.mul_add _ _ _
theorem smS_zero (c : Int) : smS c 0 = 0 := Ser.ext_ fun _ => Int.mul_zero _
theorem sumS_succ (f : Nat → Ser) (n : Nat) : sumS f (n + 1) = sumS f n + f n := rfl
theorem sumS_congr {f g : Nat → Ser} (n : Nat) (h : ∀ i, i < n → f i = g i) : sumS f n = sumS g n := Ser.ext_ fun m => sumTo_congr n fun i hi => by rw [h i hi]
theorem sumS_zero {f : Nat → Ser} (n : Nat) (h : ∀ i, i < n → f i = 0) : sumS f n = 0 := Ser.ext_ fun m => sumTo_zero n fun i hi => by rw [h i hi]; rfl
theorem sumS_add (f g : Nat → Ser) (n : Nat) : sumS (fun i => f i + g i) n = sumS f n + sumS g n := Ser.ext_ fun _ => sumTo_add _ _ n
theorem mul_sumS (x : Ser) (f : Nat → Ser) : ∀ n, x * sumS f n = sumS (fun i => x * f i) n
  | 0 => mulS_zero x
  | n + 1 => by rw [sumS_succ, sumS_succ, mulS_add, mul_sumS x f n]
theorem sumS_mul (x : Ser) (f : Nat → Ser) (n : Nat) : sumS f n * x = sumS (fun i => f i * x) n := by
  rw [mulS_comm, mul_sumS]
  exact sumS_congr n fun i _ => mulS_comm _ _

/-- Matrices of power series: without row i and the first column. -/
def minS (F : Nat → Nat → Ser) (i : Nat) : Nat → Nat → Ser := fun a b => F (if a < i then a else a + 1) (b + 1)
/-- The determinant. -/
def sdet : Nat → (Nat → Nat → Ser) → Ser
  | 0, _ => 1
  | n + 1, F => sumS (fun i => smS (sgnN i) (F i 0 * sdet n (minS F i))) (n + 1)
theorem sdet_succ (n : Nat) (F : Nat → Nat → Ser) : sdet (n + 1) F = sumS (fun i => smS (sgnN i) (F i 0 * sdet n (minS F i))) (n + 1) := rfl
theorem sdet_congr : ∀ (n : Nat) {F G : Nat → Nat → Ser}, (∀ i, i < n → ∀ j, j < n → F i j = G i j) → sdet n F = sdet n G
  | 0, _, _, _ => rfl
  | n + 1, F, G, h => by
    refine sumS_congr (n + 1) fun i hi => ?_
    have h1 : sdet n (minS F i) = sdet n (minS G i) := sdet_congr n fun a ha b hb => by
      unfold minS
      split
      · exact h _ (by omega) _ (by omega)
      · exact h _ (by omega) _ (by omega)
    rw [h1, h i hi 0 (by omega)]
/-- Row r replaced. -/
def rowS (F : Nat → Nat → Ser) (r : Nat) (v : Nat → Ser) (a : Nat) : Nat → Ser := if a = r then v else F a
theorem rowS_at (F : Nat → Nat → Ser) (r : Nat) (v : Nat → Ser) : rowS F r v r = v := if_pos rfl
theorem rowS_ne (F : Nat → Nat → Ser) {r a : Nat} (v : Nat → Ser) (h : a ≠ r) : rowS F r v a = F a := if_neg h
theorem rowS_self (F : Nat → Nat → Ser) (r : Nat) : rowS F r (F r) = F := by
  funext a; unfold rowS; split
  · rename_i h; rw [h]
  · rfl
theorem rowS_twice (F : Nat → Nat → Ser) (r : Nat) (u v : Nat → Ser) : rowS (rowS F r u) r v = rowS F r v := by
  funext a; unfold rowS; split
  · rfl
  · rfl
theorem minS_same (F : Nat → Nat → Ser) (r : Nat) (v : Nat → Ser) : minS (rowS F r v) r = minS F r := by
  funext a b
  unfold minS rowS
  rw [if_neg (by split <;> omega)]
theorem minS_row {F : Nat → Nat → Ser} {r i : Nat} (v : Nat → Ser) (h : i ≠ r) : minS (rowS F r v) i = rowS (minS F i) (if r < i then r else r - 1) (fun j => v (j + 1)) := by
  funext a b
  show rowS F r v (if a < i then a else a + 1) (b + 1) = (if a = (if r < i then r else r - 1) then (fun j => v (j + 1)) else minS F i a) b
  by_cases h2 : (if a < i then a else a + 1) = r
  · have h3 : a = (if r < i then r else r - 1) := by split at h2 <;> split <;> omega
    rw [h2, rowS_at, if_pos h3]
  · have h3 : ¬ a = (if r < i then r else r - 1) := by split at h2 <;> split <;> omega
    rw [rowS_ne _ _ h2, if_neg h3]
    rfl
theorem sdet_lin : ∀ (n : Nat) (F : Nat → Nat → Ser) (r : Nat) (u v : Nat → Ser) (x : Ser), r < n → sdet n (rowS F r (fun j => x * u j + v j)) = x * sdet n (rowS F r u) + sdet n (rowS F r v)
  | 0, _, _, _, _, _, h => absurd h (by omega)
  | n + 1, F, r, u, v, x, h => by
    rw [sdet_succ, sdet_succ, sdet_succ, mul_sumS, ← sumS_add]
    refine sumS_congr (n + 1) fun i hi => ?_
    by_cases e : i = r
    · subst e
      rw [minS_same, minS_same, minS_same, rowS_at, rowS_at, rowS_at]
      generalize sdet n (minS F i) = d
      rw [addS_mul, smS_add, mul_smS, mulS_assoc]
    · rw [minS_row _ e, minS_row _ e, minS_row _ e, rowS_ne _ _ e, rowS_ne _ _ e, rowS_ne _ _ e]
      have h2 := sdet_lin n (minS F i) (if r < i then r else r - 1) (fun j => u (j + 1)) (fun j => v (j + 1)) x (by split <;> omega)
      rw [h2, mulS_add, smS_add, mulS_left, mul_smS]
theorem sdet_adj : ∀ (n : Nat) (F : Nat → Nat → Ser) (r : Nat), r + 1 < n → F r = F (r + 1) → sdet n F = 0
  | 0, _, _, h, _ => absurd h (by omega)
  | n + 1, F, r, h, e => by
    have hm : minS F r = minS F (r + 1) := by
      funext a b
      unfold minS
      by_cases h1 : a < r
      · rw [if_pos h1, if_pos (by omega)]
      · by_cases h2 : a = r
        · subst h2; rw [if_neg h1, if_pos (by omega), e]
        · rw [if_neg h1, if_neg (by omega)]
    have hz : ∀ i, i < n + 1 → i ≠ r → i ≠ r + 1 → smS (sgnN i) (F i 0 * sdet n (minS F i)) = 0 := fun i hi h1 h2 => by
      rw [sdet_adj n (minS F i) (if r < i then r else r - 1) (by split <;> omega), mulS_zero, smS_zero]
      funext b
      unfold minS
      by_cases h3 : r < i
      · rw [if_pos h3, if_pos h3, if_pos (by omega), e]
      · rw [if_neg h3, if_neg (by omega), if_neg (by omega)]
        have : r - 1 + 1 = r := by omega
        rw [this, e]
    refine Ser.ext_ fun m => ?_
    rw [sdet_succ]
    show sumTo (fun i => smS (sgnN i) (F i 0 * sdet n (minS F i)) m) (n + 1) = 0
    rw [sumTo_two (r := r) (n + 1) h (fun i hi h1 h2 => by rw [hz i hi h1 h2]; rfl), ← hm, ← e, sgnN_succ]
    show sgnN r * (F r 0 * sdet n (minS F r)) m + - sgnN r * (F r 0 * sdet n (minS F r)) m = 0
    rw [Int.neg_mul]; omega
theorem rowS_comm (F : Nat → Nat → Ser) {r s : Nat} (u v : Nat → Ser) (h : r ≠ s) : rowS (rowS F r u) s v = rowS (rowS F s v) r u := by
  funext a
  unfold rowS
  by_cases h1 : a = s
  · subst h1; rw [if_pos rfl, if_neg (Ne.symm h), if_pos rfl]
  · rw [if_neg h1]
    by_cases h2 : a = r
    · subst h2; rw [if_pos rfl, if_pos rfl]
    · rw [if_neg h2, if_neg h2, if_neg h1]
theorem sdet_add (n : Nat) (F : Nat → Nat → Ser) (r : Nat) (u v : Nat → Ser) (h : r < n) : sdet n (rowS F r (fun j => u j + v j)) = sdet n (rowS F r u) + sdet n (rowS F r v) := by
  have := sdet_lin n F r u v 1 h
  simpa [oneS_mul] using this
theorem sdet_turn {n : Nat} {r s : Nat} (hr : r < n) (hs : s < n) (hrs : r ≠ s) (F : Nat → Nat → Ser) (H : ∀ u, sdet n (rowS (rowS F r u) s u) = 0) (u v : Nat → Ser) :
    sdet n (rowS (rowS F r u) s v) + sdet n (rowS (rowS F r v) s u) = 0 := by
  have h := H (fun j => u j + v j)
  rw [sdet_add n _ s u v hs, rowS_comm F _ u hrs, rowS_comm F _ v hrs, sdet_add n _ r u v hr, sdet_add n _ r u v hr, ← rowS_comm F _ _ hrs, ← rowS_comm F _ _ hrs, ← rowS_comm F _ _ hrs, ← rowS_comm F _ _ hrs, H u, H v, addS_zero, zeroS_add] at h
  rw [addS_comm]; exact h
theorem sdet_adj2 {n : Nat} {r : Nat} (h : r + 1 < n) (F : Nat → Nat → Ser) (u : Nat → Ser) : sdet n (rowS (rowS F r u) (r + 1) u) = 0 :=
  sdet_adj n _ r h (by rw [rowS_at, rowS_ne _ _ (by omega), rowS_at])
theorem sdet_eq2 {n : Nat} : ∀ (k r : Nat), r + k + 1 < n → ∀ (F : Nat → Nat → Ser) (u : Nat → Ser), sdet n (rowS (rowS F r u) (r + k + 1) u) = 0
  | 0, r, h, F, u => sdet_adj2 h F u
  | k + 1, r, h, F, u => by
    have h1 : r + (k + 1) + 1 = (r + k + 1) + 1 := by omega
    rw [h1]
    have e : rowS (rowS F r u) (r + k + 1 + 1) u = rowS (rowS (rowS F r u) (r + k + 1) (F (r + k + 1))) (r + k + 1 + 1) u := by
      have : rowS (rowS F r u) (r + k + 1) (F (r + k + 1)) = rowS F r u := by
        have := rowS_self (rowS F r u) (r + k + 1)
        rwa [rowS_ne F u (by omega)] at this
      rw [this]
    rw [e]
    have h2 := sdet_turn (n := n) (by omega) (by omega) (by omega : r + k + 1 ≠ r + k + 1 + 1) (rowS F r u) (fun w => sdet_adj2 (by omega) _ w) (F (r + k + 1)) u
    have h3 : sdet n (rowS (rowS (rowS F r u) (r + k + 1) u) (r + k + 1 + 1) (F (r + k + 1))) = 0 := by
      rw [rowS_comm _ _ _ (by omega : r + k + 1 ≠ r + k + 1 + 1), rowS_comm F _ _ (by omega : r ≠ r + k + 1 + 1), sdet_eq2 k r (by omega)]
    rwa [h3, addS_zero] at h2
theorem sdet_eq {n : Nat} {r s : Nat} (hr : r < n) (hs : s < n) (hrs : r ≠ s) (F : Nat → Nat → Ser) (u : Nat → Ser) : sdet n (rowS (rowS F r u) s u) = 0 := by
  rcases Nat.lt_or_gt_of_ne hrs with h | h
  · obtain ⟨k, rfl⟩ : ∃ k, s = r + k + 1 := ⟨s - r - 1, by omega⟩
    exact sdet_eq2 k r hs F u
  · obtain ⟨k, rfl⟩ : ∃ k, r = s + k + 1 := ⟨r - s - 1, by omega⟩
    rw [rowS_comm F u u hrs]
    exact sdet_eq2 k s hr F u
/-- A row of another in its place. -/
theorem sdet_other {n : Nat} {r s : Nat} (hr : r < n) (hs : s < n) (hrs : r ≠ s) (F : Nat → Nat → Ser) : sdet n (rowS F r (F s)) = 0 := by
  have := sdet_eq hr hs hrs F (F s)
  rwa [rowS_comm F _ _ hrs, rowS_self] at this

/-- What row operations do to D. -/
structure IsA (m : Nat) (D : (Nat → Nat → Ser) → Ser) : Prop where
  cong : ∀ {F G : Nat → Nat → Ser}, (∀ i, i < m → ∀ j, j < m → F i j = G i j) → D F = D G
  plus : ∀ (F : Nat → Nat → Ser) {r s : Nat} (k : Ser), r < m → s < m → r ≠ s → D (rowS F r (fun j => F r j + k * F s j)) = D F
  scale : ∀ (F : Nat → Nat → Ser) {r : Nat} (k : Ser) (u : Nat → Ser), r < m → D (rowS F r (fun j => k * u j)) = k * D (rowS F r u)
theorem sdet_isA (m : Nat) : IsA m (sdet m) where
  cong h := sdet_congr m h
  plus F r s k hr hs hrs := by
    have h := sdet_lin m F r (F s) (F r) k hr
    rw [sdet_other hr hs hrs, rowS_self, mulS_zero, zeroS_add] at h
    rw [← h]
    congr 1
    congr 1
    funext j
    exact addS_comm _ _
  scale F r k u hr := by
    have h := sdet_lin m F r u (fun _ => 0) k hr
    have h0 := sdet_lin m F r (fun _ => 0) (fun _ => 0) 0 hr
    rw [zeroS_mul, zeroS_add] at h0
    have hz : sdet m (rowS F r fun _ => 0) = 0 := by
      have h1 := sdet_lin m F r (fun _ => 0) (fun _ => 0) 1 hr
      have e : (fun _ : Nat => (1 : Ser) * 0 + 0) = fun _ => 0 := by funext j; rw [mulS_zero, addS_zero]
      rw [e, oneS_mul] at h1
      refine Ser.ext_ fun n => ?_
      have := congrFun h1 n
      rw [addS_at] at this
      rw [zeroS_at]
      omega
    rw [hz, addS_zero] at h
    rw [← h]
    congr 1
    congr 1
    funext j
    exact (addS_zero _).symm
/-- The product. -/
def mulM (m : Nat) (F B : Nat → Nat → Ser) (i j : Nat) : Ser := sumS (fun k => F i k * B k j) m
theorem mulM_row (m : Nat) (F B : Nat → Nat → Ser) (r : Nat) (v : Nat → Ser) : mulM m (rowS F r v) B = rowS (mulM m F B) r (fun j => sumS (fun k => v k * B k j) m) := by
  funext a
  show (fun j => sumS (fun k => rowS F r v a k * B k j) m) = rowS (mulM m F B) r (fun j => sumS (fun k => v k * B k j) m) a
  by_cases h : a = r
  · subst h; rw [rowS_at, rowS_at]
  · rw [rowS_ne _ _ h, rowS_ne _ _ h]; rfl
theorem sdetB_isA (m : Nat) (B : Nat → Nat → Ser) : IsA m (fun F => sdet m (mulM m F B)) where
  cong h := sdet_congr m fun i hi j _ => sumS_congr m fun k hk => by rw [h i hi k hk]
  plus F r s k hr hs hrs := by
    show sdet m (mulM m (rowS F r _) B) = sdet m (mulM m F B)
    rw [mulM_row]
    have : (fun j => sumS (fun l => (F r l + k * F s l) * B l j) m) = fun j => mulM m F B r j + k * mulM m F B s j := by
      funext j
      show _ = sumS (fun l => F r l * B l j) m + k * sumS (fun l => F s l * B l j) m
      rw [mul_sumS, ← sumS_add]
      exact sumS_congr m fun l _ => by rw [addS_mul, mulS_assoc]
    rw [this]
    exact (sdet_isA m).plus (mulM m F B) k hr hs hrs
  scale F r k u hr := by
    show sdet m (mulM m (rowS F r _) B) = k * sdet m (mulM m (rowS F r u) B)
    rw [mulM_row, mulM_row]
    have : (fun j => sumS (fun l => (k * u l) * B l j) m) = fun j => k * sumS (fun l => u l * B l j) m := by
      funext j
      rw [mul_sumS]
      exact sumS_congr m fun l _ => by rw [mulS_assoc]
    rw [this]
    exact (sdet_isA m).scale (mulM m F B) k _ hr
/-- A combination of rows above added. -/
theorem IsA.comb {m : Nat} {D : (Nat → Nat → Ser) → Ser} (H : IsA m D) (F : Nat → Nat → Ser) {r : Nat} (w : Nat → Ser) (hr : r < m) : ∀ k, k ≤ r → D (rowS F r (fun j => F r j + sumS (fun i => w i * F i j) k)) = D F
  | 0, _ => by
    have e : (fun j => F r j + sumS (fun i => w i * F i j) 0) = F r := by funext j; exact addS_zero _
    rw [e, rowS_self]
  | k + 1, h => by
    rw [← H.comb F w hr k (by omega)]
    have := H.plus (rowS F r (fun j => F r j + sumS (fun i => w i * F i j) k)) (w k) hr (by omega : k < m) (by omega)
    rw [rowS_twice, rowS_at, rowS_ne _ _ (by omega : k ≠ r)] at this
    rw [← this]
    congr 1
    congr 1
    funext j
    rw [sumS_succ, addS_assoc]
/-- Multiples of row r added to the first n others. -/
def addR (F : Nat → Nat → Ser) (r : Nat) (k : Nat → Ser) (n a : Nat) : Nat → Ser := if a < n ∧ a ≠ r then (fun j => F a j + k a * F r j) else F a
theorem IsA.addR {m : Nat} {D : (Nat → Nat → Ser) → Ser} (H : IsA m D) (F : Nat → Nat → Ser) {r : Nat} (k : Nat → Ser) (hr : r < m) : ∀ n, n ≤ m → D (addR F r k n) = D F
  | 0, _ => by
    have : Go.Proofs.Ytokiejichnnmnaa.addR F r k 0 = F := by funext a; unfold Go.Proofs.Ytokiejichnnmnaa.addR; rw [if_neg (by omega)]
    rw [this]
  | n + 1, hn => by
    rw [← H.addR F k hr n (by omega)]
    by_cases h : n = r
    · subst h
      congr 1
      funext a
      unfold Go.Proofs.Ytokiejichnnmnaa.addR
      by_cases e : a < n
      · rw [if_pos ⟨by omega, by omega⟩, if_pos ⟨e, by omega⟩]
      · rw [if_neg (by omega), if_neg (by omega)]
    · have := H.plus (Go.Proofs.Ytokiejichnnmnaa.addR F r k n) (k n) (by omega : n < m) hr h
      rw [← this]
      congr 1
      have e1 : Go.Proofs.Ytokiejichnnmnaa.addR F r k n n = F n := if_neg (by omega)
      have e2 : Go.Proofs.Ytokiejichnnmnaa.addR F r k n r = F r := if_neg (by omega)
      rw [e1, e2]
      funext a
      unfold rowS
      by_cases e : a = n
      · subst e
        rw [if_pos rfl]
        unfold Go.Proofs.Ytokiejichnnmnaa.addR
        rw [if_pos ⟨by omega, h⟩]
      · rw [if_neg e]
        unfold Go.Proofs.Ytokiejichnnmnaa.addR
        by_cases h2 : a < n ∧ a ≠ r
        · rw [if_pos h2, if_pos ⟨by omega, h2.2⟩]
        · rw [if_neg h2, if_neg (by omega)]
/-- The negative. -/
def negS (f : Ser) : Ser := fun n => - f n
/-- The product with what has two coefficients. -/
theorem mulS_two {f g : Ser} (hg : ∀ m, g (m + 2) = 0) (m : Nat) : (f * g) (m + 1) = f (m + 1) * g 0 + f m * g 1 := by
  show sumTo (fun i => f i * g (m + 1 - i)) m + f m * g (m + 1 - m) + f (m + 1) * g (m + 1 - (m + 1)) = _
  rw [sumTo_zero m fun i hi => by rw [show m + 1 - i = (m - 1 - i) + 2 by omega, hg, Int.mul_zero], Nat.sub_self, show m + 1 - m = 1 by omega]
  omega
theorem mulS_nil (f g : Ser) : (f * g) 0 = f 0 * g 0 := by
  show 0 + f 0 * g (0 - 0) = _
  rw [Int.zero_add]
/-- The identity less t times a matrix. -/
def tM (A : Nat → Nat → Int) (i j : Nat) : Ser
  | 0 => if i = j then 1 else 0
  | 1 => - A i j
  | _ + 2 => 0
/-- Its first k rows and columns, the identity beside them. -/
def eM (A : Nat → Nat → Int) (k : Nat) (i j : Nat) : Ser := if i < k ∧ j < k then tM A i j else if i = j then 1 else 0
/-- What lies in row k, times the power of the first k rows and columns. -/
def rowP (A : Nat → Nat → Int) (k : Nat) : Nat → Nat → Int
  | 0 => A k
  | m + 1 => fun j => sumTo (fun i => rowP A k m i * A i j) k
/-- The factor of row k. -/
def sK (A : Nat → Nat → Int) (k : Nat) : Ser
  | 0 => 1
  | 1 => - A k k
  | m + 2 => - sumTo (fun i => rowP A k m i * A i k) k
def wK (A : Nat → Nat → Int) (k i : Nat) : Ser
  | 0 => 0
  | m + 1 => rowP A k m i
theorem sumTo_at (x : Nat → Int) (j : Nat) : ∀ k, sumTo (fun i => x i * (if i = j then 1 else 0)) k = if j < k then x j else 0
  | 0 => rfl
  | k + 1 => by
    rw [sumTo, sumTo_at x j k]
    by_cases h : k = j
    · subst h; simp
    · rw [if_neg h]
      by_cases h2 : j < k
      · rw [if_pos h2, if_pos (by omega)]; simp
      · rw [if_neg h2, if_neg (by omega)]; simp
theorem sumTo_sub (f g : Nat → Int) (n : Nat) : sumTo (fun i => f i + - g i) n = sumTo f n - sumTo g n := by
  have := sumTo_lin f g 1 (-1) n
  simp only [Int.one_mul, Int.neg_mul] at this
  rw [this]; omega
theorem row_gone (A : Nat → Nat → Int) (k j : Nat) (hj : j ≤ k) : tM A k j + sumS (fun i => wK A k i * tM A i j) k = if j = k then sK A k else 0 := by
  refine Ser.ext_ fun m => ?_
  rw [addS_at]
  cases m with
  | zero =>
    have h : sumS (fun i => wK A k i * tM A i j) k 0 = 0 := sumTo_zero k fun i _ => by
      show (wK A k i * tM A i j) 0 = 0
      rw [mulS_nil]
      show 0 * _ = (0 : Int)
      rw [Int.zero_mul]
    rw [h]
    show (if k = j then 1 else 0) + 0 = _
    by_cases e : j = k
    · rw [if_pos e, if_pos e.symm]; rfl
    · rw [if_neg e, if_neg (Ne.symm e)]; rfl
  | succ m =>
    have h : sumS (fun i => wK A k i * tM A i j) k (m + 1) = (if j < k then rowP A k m j else 0) - sumTo (fun i => wK A k i m * A i j) k := by
      rw [← sumTo_at, ← sumTo_sub]
      refine sumTo_congr k fun i _ => ?_
      show (wK A k i * tM A i j) (m + 1) = _
      rw [mulS_two (fun _ => rfl)]
      show rowP A k m i * (if i = j then 1 else 0) + wK A k i m * - A i j = _
      rw [Int.mul_neg]
    rw [h]
    by_cases e : j = k
    · subst e
      rw [if_pos rfl, if_neg (Nat.lt_irrefl _)]
      cases m with
      | zero =>
        rw [sumTo_zero j fun i _ => by show 0 * _ = (0 : Int); rw [Int.zero_mul]]
        show - A j j + (0 - 0) = - A j j
        omega
      | succ m =>
        show 0 + (0 - sumTo (fun i => rowP A j m i * A i j) j) = - sumTo (fun i => rowP A j m i * A i j) j
        omega
    · rw [if_neg e, if_pos (by omega)]
      cases m with
      | zero =>
        rw [sumTo_zero k fun i _ => by show 0 * _ = (0 : Int); rw [Int.zero_mul]]
        show - A k j + (A k j - 0) = 0
        omega
      | succ m =>
        show 0 + (sumTo (fun i => rowP A k m i * A i j) k - sumTo (fun i => rowP A k m i * A i j) k) = 0
        omega
/-- A step of Samuelson and Berkowitz. -/
theorem IsA.step {m : Nat} {D : (Nat → Nat → Ser) → Ser} (H : IsA m D) (A : Nat → Nat → Int) {k : Nat} (hk : k < m) : D (eM A (k + 1)) = sK A k * D (eM A k) := by
  have hin : ∀ i j, i < k + 1 → j < k + 1 → eM A (k + 1) i j = tM A i j := fun i j hi hj => if_pos ⟨hi, hj⟩
  have hout : ∀ i j, ¬ (i < k + 1 ∧ j < k + 1) → eM A (k + 1) i j = if i = j then 1 else 0 := fun i j h => if_neg h
  rw [← H.comb (eM A (k + 1)) (wK A k) hk k (Nat.le_refl _)]
  have e1 : rowS (eM A (k + 1)) k (fun j => eM A (k + 1) k j + sumS (fun i => wK A k i * eM A (k + 1) i j) k) = rowS (eM A (k + 1)) k (fun j => sK A k * (if k = j then 1 else 0)) := by
    congr 1
    funext j
    by_cases hj : j < k + 1
    · rw [hin k j (by omega) hj, sumS_congr k (g := fun i => wK A k i * tM A i j) (fun i hi => by rw [hin i j (by omega) hj]), row_gone A k j (by omega)]
      by_cases e : j = k
      · rw [if_pos e, if_pos e.symm, mulS_one]
      · rw [if_neg e, if_neg (Ne.symm e), mulS_zero]
    · rw [hout k j (by omega), if_neg (by omega), mulS_zero, zeroS_add]
      exact sumS_zero k fun i hi => by rw [hout i j (by omega), if_neg (by omega), mulS_zero]
  rw [e1, H.scale _ _ _ hk]
  congr 1
  have hM1 : ∀ j, rowS (eM A (k + 1)) k (fun j => if k = j then 1 else 0) k j = if k = j then 1 else 0 := fun j => by rw [rowS_at]
  rw [← H.addR (rowS (eM A (k + 1)) k (fun j => if k = j then 1 else 0)) (r := k) (fun a => if a < k then negS (tM A a k) else 0) hk m (Nat.le_refl _)]
  refine H.cong fun i hi j hj => ?_
  unfold Go.Proofs.Ytokiejichnnmnaa.addR
  by_cases e : i = k
  · subst e
    rw [if_neg (by omega), hM1]
    exact (if_neg (by omega)).symm
  · rw [if_pos ⟨hi, e⟩, rowS_ne _ _ e, rowS_at]
    show eM A (k + 1) i j + (if i < k then negS (tM A i k) else 0) * (if k = j then 1 else 0) = eM A k i j
    by_cases h1 : i < k
    · rw [if_pos h1]
      by_cases h2 : k = j
      · subst h2
        rw [if_pos rfl, mulS_one, hin i k (by omega) (by omega)]
        have : eM A k i k = 0 := by unfold eM; rw [if_neg (by omega), if_neg (by omega)]
        rw [this]
        refine Ser.ext_ fun n => ?_
        show tM A i k n + - tM A i k n = 0
        omega
      · rw [if_neg h2, mulS_zero, addS_zero]
        by_cases h3 : j < k
        · rw [hin i j (by omega) (by omega)]; exact (if_pos ⟨h1, h3⟩).symm
        · rw [hout i j (by omega)]; exact (if_neg (by omega)).symm
    · rw [if_neg h1, zeroS_mul, addS_zero, hout i j (by omega)]
      exact (if_neg (by omega)).symm
/-- The characteristic polynomial, the greatest power first. -/
def berk (A : Nat → Nat → Int) : Nat → Ser
  | 0 => 1
  | k + 1 => berk A k * sK A k
theorem IsA.berk_ {m : Nat} {D : (Nat → Nat → Ser) → Ser} (H : IsA m D) (A : Nat → Nat → Int) : ∀ k, k ≤ m → D (eM A k) = berk A k * D (eM A 0)
  | 0, _ => (oneS_mul _).symm
  | k + 1, h => by
    rw [H.step A (by omega : k < m), H.berk_ A k (by omega), ← mulS_assoc, mulS_comm (sK A k)]
    rfl
theorem IsA.all {m : Nat} {D : (Nat → Nat → Ser) → Ser} (H : IsA m D) (A : Nat → Nat → Int) : D (tM A) = berk A m * D (fun i j => if i = j then 1 else 0) := by
  have h := H.berk_ A m (Nat.le_refl _)
  rw [H.cong (F := eM A m) (G := tM A) fun i hi j hj => if_pos ⟨hi, hj⟩, H.cong (F := eM A 0) (G := fun i j => if i = j then 1 else 0) fun i _ j _ => if_neg (by omega)] at h
  exact h
theorem cS_one : cS 1 = (1 : Ser) := rfl
/-- A matrix of constants. -/
theorem sdet_const : ∀ (n : Nat) (F : Nat → Nat → Int), sdet n (fun i j => cS (F i j)) = cS (ldet n F)
  | 0, _ => rfl
  | n + 1, F => by
    rw [sdet_succ]
    refine Ser.ext_ fun m => ?_
    show sumTo (fun i => smS (sgnN i) (cS (F i 0) * sdet n (fun a b => cS (minor F i a b))) m) (n + 1) = if m = 0 then sumTo (fun i => sgnN i * F i 0 * ldet n (minor F i)) (n + 1) else 0
    rw [sumTo_congr (n + 1) fun i _ => by rw [sdet_const n (minor F i), cS_mul]]
    by_cases h : m = 0
    · subst h
      rw [if_pos rfl]
      exact sumTo_congr _ fun i _ => by
        show sgnN i * (F i 0 * ldet n (minor F i)) = _
        rw [Int.mul_assoc]
    · rw [if_neg h]
      exact sumTo_zero _ fun i _ => by
        show sgnN i * (F i 0 * (if m = 0 then ldet n (minor F i) else 0)) = 0
        rw [if_neg h, Int.mul_zero, Int.mul_zero]
theorem sdet_one (n : Nat) : sdet n (fun i j => if i = j then 1 else 0) = 1 := by
  have h := sdet_const n (fun i j => if j = i then 1 else 0)
  rw [ldet_one] at h
  refine Eq.trans (sdet_congr n fun i _ j _ => ?_) h
  by_cases e : i = j
  · rw [if_pos e, if_pos e.symm]; rfl
  · rw [if_neg e, if_neg (Ne.symm e)]
    exact Ser.ext_ fun m => by unfold cS; split <;> rfl
theorem sdet_tM (n : Nat) (A : Nat → Nat → Int) : sdet n (tM A) = berk A n := by
  rw [(sdet_isA n).all A, sdet_one, mulS_one]

/-- No coefficient beyond d. -/
def Deg (f : Ser) (d : Nat) : Prop := ∀ m, d < m → f m = 0
theorem Deg.mul {f g : Ser} {a b : Nat} (hf : Deg f a) (hg : Deg g b) : Deg (f * g) (a + b) ∧ (f * g) (a + b) = f a * g b := by
  refine ⟨fun m hm => sumTo_zero _ fun i _ => ?_, ?_⟩
  · by_cases h : a < i
    · rw [hf i h, Int.zero_mul]
    · rw [hg (m - i) (by omega), Int.mul_zero]
  · show sumTo (fun i => f i * g (a + b - i)) (a + b + 1) = f a * g b
    have h : ∀ k, sumTo (fun i => f i * g (a + b - i)) k = if a < k then f a * g b else 0 := fun k => by
      induction k with
      | zero => rfl
      | succ k ih =>
        rw [sumTo, ih]
        by_cases e : k = a
        · subst e
          rw [if_neg (Nat.lt_irrefl _), if_pos (by omega), show k + b - k = b by omega, Int.zero_add]
        · by_cases h1 : a < k
          · rw [if_pos h1, if_pos (by omega), hf k h1, Int.zero_mul, Int.add_zero]
          · rw [if_neg h1, if_neg (by omega), hg (a + b - k) (by omega), Int.mul_zero, Int.add_zero]
    rw [h, if_pos (by omega)]
/-- The sum of the first n naturals. -/
def sumN (d : Nat → Nat) : Nat → Nat
  | 0 => 0
  | n + 1 => sumN d n + d n
theorem sumN_skip (d : Nat → Nat) (i : Nat) : ∀ n, sumN (fun a => d (if a < i then a else a + 1)) n + (if i ≤ n then d i else 0) = sumN d (n + 1) - (if i ≤ n then 0 else d n)
  | 0 => by
    by_cases h : i = 0
    · subst h; simp [sumN]
    · rw [if_neg (by omega), if_neg (by omega)]; simp [sumN]
  | n + 1 => by
    have ih := sumN_skip d i n
    show sumN (fun a => d (if a < i then a else a + 1)) n + d (if n < i then n else n + 1) + (if i ≤ n + 1 then d i else 0) = sumN d (n + 1) + d (n + 1) - (if i ≤ n + 1 then 0 else d (n + 1))
    have hs : sumN d (n + 1) = sumN d n + d n := rfl
    rw [hs] at ih ⊢
    by_cases h : i ≤ n
    · rw [if_pos h, if_pos h] at ih
      rw [if_neg (by omega : ¬ n < i), if_pos (by omega), if_pos (by omega)]
      omega
    · rw [if_neg h, if_neg h] at ih
      by_cases h2 : i = n + 1
      · subst h2
        rw [if_pos (by omega), if_pos (by omega), if_pos (by omega)]
        omega
      · rw [if_pos (by omega), if_neg (by omega), if_neg (by omega)]
        omega
theorem sumN_skip' (d : Nat → Nat) (i n : Nat) (h : i ≤ n) : d i + sumN (fun a => d (if a < i then a else a + 1)) n = sumN d (n + 1) := by
  have := sumN_skip d i n
  rw [if_pos h, if_pos h] at this
  omega
/-- The degree of a determinant, and its coefficient there. -/
theorem sdet_deg : ∀ (n : Nat) (F : Nat → Nat → Ser) (d : Nat → Nat), (∀ i, i < n → ∀ j, j < n → Deg (F i j) (d i)) → Deg (sdet n F) (sumN d n) ∧ sdet n F (sumN d n) = ldet n (fun i j => F i j (d i))
  | 0, _, _, _ => ⟨fun m hm => if_neg (by show ¬ m = 0; unfold sumN at hm; omega), rfl⟩
  | n + 1, F, d, h => by
    have hk : ∀ i, i < n + 1 → Deg (F i 0 * sdet n (minS F i)) (sumN d (n + 1)) ∧ (F i 0 * sdet n (minS F i)) (sumN d (n + 1)) = F i 0 (d i) * ldet n (minor (fun i j => F i j (d i)) i) := fun i hi => by
      obtain ⟨h1, h2⟩ := sdet_deg n (minS F i) (fun a => d (if a < i then a else a + 1)) fun a ha b hb => by
        unfold minS
        exact h _ (by split <;> omega) _ (by omega)
      have := (h i hi 0 (by omega)).mul h1
      rw [sumN_skip' d i n (by omega), h2] at this
      exact this
    rw [sdet_succ]
    refine ⟨fun m hm => sumTo_zero _ fun i hi => ?_, sumTo_congr _ fun i hi => ?_⟩
    · show sgnN i * _ = 0
      rw [(hk i hi).1 m hm, Int.mul_zero]
    · show sgnN i * (F i 0 * sdet n (minS F i)) (sumN d (n + 1)) = sgnN i * F i 0 (d i) * ldet n (minor (fun i j => F i j (d i)) i)
      rw [(hk i hi).2, Int.mul_assoc]
theorem sumN_one : ∀ n, sumN (fun _ => 1) n = n
  | 0 => rfl
  | n + 1 => by rw [sumN, sumN_one n]
theorem tM_deg (A : Nat → Nat → Int) (i j : Nat) : Deg (tM A i j) 1 := fun m hm => by
  obtain ⟨k, rfl⟩ : ∃ k, m = k + 2 := ⟨m - 2, by omega⟩
  rfl
theorem berk_deg (A : Nat → Nat → Int) (n : Nat) : Deg (berk A n) n ∧ berk A n n = ldet n (fun i j => - A i j) := by
  have := sdet_deg n (tM A) (fun _ => 1) fun i _ j _ => tM_deg A i j
  rw [sumN_one, sdet_tM] at this
  exact this
theorem ldet_scaleAll {n : Nat} (F : Nat → Nat → Int) (c : Int) : ∀ k, k ≤ n → ldet n (fun i j => if i < k then c * F i j else F i j) = c ^ k * ldet n F
  | 0, _ => by
    rw [Int.pow_zero, Int.one_mul]
    exact ldet_congr n fun i _ j _ => if_neg (by omega)
  | k + 1, h => by
    have e : (fun i j => if i < k + 1 then c * F i j else F i j) = rowTo (fun i j => if i < k then c * F i j else F i j) k (fun j => c * F k j) := by
      funext i
      unfold rowTo
      by_cases h1 : i = k
      · subst h1; funext j; rw [if_pos (by omega), if_pos rfl]
      · rw [if_neg h1]
        funext j
        show (if i < k + 1 then c * F i j else F i j) = if i < k then c * F i j else F i j
        by_cases h2 : i < k
        · rw [if_pos h2, if_pos (by omega)]
        · rw [if_neg h2, if_neg (by omega)]
    have e2 : rowTo (fun i j => if i < k then c * F i j else F i j) k (F k) = fun i j => if i < k then c * F i j else F i j := by
      have := rowTo_self (fun i j => if i < k then c * F i j else F i j) k
      have e3 : (fun j => if k < k then c * F k j else F k j) = F k := by funext j; rw [if_neg (Nat.lt_irrefl _)]
      rw [e3] at this
      exact this
    rw [e, ldet_scale (by omega : k < n), e2, ldet_scaleAll F c k (by omega), Int.pow_succ, ← Int.mul_assoc, Int.mul_comm c]
/-- The last coefficient is the determinant but for the sign. -/
theorem berk_last (A : Nat → Nat → Int) (n : Nat) : berk A n n = (-1) ^ n * ldet n A := by
  rw [(berk_deg A n).2, ← ldet_scaleAll A (-1) n (Nat.le_refl _)]
  refine ldet_congr n fun i hi j _ => ?_
  rw [if_pos hi, Int.neg_mul, Int.one_mul]
theorem berk_zero (A : Nat → Nat → Int) : ∀ n, berk A n 0 = 1
  | 0 => rfl
  | n + 1 => by
    show (berk A n * sK A n) 0 = 1
    rw [mulS_nil, berk_zero A n]; rfl
/-- The second coefficient is the negative trace. -/
theorem berk_trace (A : Nat → Nat → Int) : ∀ n, berk A n 1 = - sumTo (fun i => A i i) n
  | 0 => rfl
  | n + 1 => by
    show 0 + berk A n 0 * sK A n (1 - 0) + berk A n 1 * sK A n (1 - 1) = - (sumTo (fun i => A i i) n + A n n)
    rw [berk_zero, berk_trace A n]
    show 0 + 1 * - A n n + - sumTo (fun i => A i i) n * 1 = _
    omega

/-- Row i replaced by a combination of all rows. -/
theorem sdet_comb {n : Nat} (F : Nat → Nat → Ser) {i : Nat} (w : Nat → Ser) (hi : i < n) : ∀ k, k ≤ n → sdet n (rowS F i (fun j => sumS (fun a => w a * F a j) k)) = if i < k then w i * sdet n F else 0
  | 0, _ => by
    have h := (sdet_isA n).scale F (r := i) 0 (fun _ => 0) hi
    rw [zeroS_mul, zeroS_mul] at h
    rw [if_neg (by omega)]
    exact h
  | k + 1, hk => by
    have e : (fun j => sumS (fun a => w a * F a j) (k + 1)) = fun j => w k * F k j + sumS (fun a => w a * F a j) k := by
      funext j; rw [sumS_succ, addS_comm]
    rw [e, sdet_lin n F i (F k) _ (w k) hi, sdet_comb F w hi k (by omega)]
    by_cases h : k = i
    · subst h
      rw [rowS_self, if_neg (Nat.lt_irrefl _), if_pos (by omega), addS_zero]
    · rw [sdet_other hi (by omega) (Ne.symm h), mulS_zero, zeroS_add]
      by_cases h2 : i < k
      · rw [if_pos h2, if_pos (by omega)]
      · rw [if_neg h2, if_neg (by omega)]
/-- The rows of the powers. -/
def powR (A : Nat → Nat → Int) (n b : Nat) : Nat → Nat → Int
  | 0 => fun j => if b = j then 1 else 0
  | m + 1 => fun j => sumTo (fun i => powR A n b m i * A i j) n
/-- The rows of all powers. -/
def powS (A : Nat → Nat → Int) (n b a : Nat) : Ser := fun m => powR A n b m a
theorem pow_inv (A : Nat → Nat → Int) (n b : Nat) {j : Nat} (hj : j < n) : sumS (fun a => powS A n b a * tM A a j) n = if b = j then 1 else 0 := by
  refine Ser.ext_ fun m => ?_
  cases m with
  | zero =>
    have : sumS (fun a => powS A n b a * tM A a j) n 0 = sumTo (fun a => (if b = a then 1 else 0) * (if a = j then 1 else 0)) n := sumTo_congr n fun a _ => by
      show (powS A n b a * tM A a j) 0 = _
      rw [mulS_nil]; rfl
    rw [this, sumTo_at, if_pos hj]
    by_cases e : b = j
    · rw [if_pos e, if_pos e]; rfl
    · rw [if_neg e, if_neg e]; rfl
  | succ m =>
    have : sumS (fun a => powS A n b a * tM A a j) n (m + 1) = sumTo (fun a => powR A n b (m + 1) a * (if a = j then 1 else 0) + - (powR A n b m a * A a j)) n := sumTo_congr n fun a _ => by
      show (powS A n b a * tM A a j) (m + 1) = _
      rw [mulS_two (fun _ => rfl)]
      show powR A n b (m + 1) a * (if a = j then 1 else 0) + powR A n b m a * - A a j = _
      rw [Int.mul_neg]
    rw [this, sumTo_sub, sumTo_at, if_pos hj]
    have h0 : (if b = j then (1 : Ser) else 0) (m + 1) = 0 := by
      split
      · rfl
      · rfl
    rw [h0]
    show sumTo (fun i => powR A n b m i * A i j) n - sumTo (fun i => powR A n b m i * A i j) n = 0
    omega
theorem sumN_but (n i : Nat) : ∀ k, sumN (fun a => if a = i then 0 else 1) k = if i < k then k - 1 else k
  | 0 => by simp [sumN]
  | k + 1 => by
    rw [sumN, sumN_but n i k]
    by_cases e : k = i
    · subst e; rw [if_pos rfl, if_neg (Nat.lt_irrefl _), if_pos (by omega)]; omega
    · rw [if_neg e]
      by_cases h : i < k
      · rw [if_pos h, if_pos (by omega)]; omega
      · rw [if_neg h, if_neg (by omega)]
/-- The theorem of Cayley and Hamilton. -/
theorem cayley_hamilton (A : Nat → Nat → Int) (n b i : Nat) (_hb : b < n) (hi : i < n) : sumTo (fun m => powR A n b m i * berk A n (n - m)) (n + 1) = 0 := by
  have h := sdet_comb (n := n) (tM A) (i := i) (powS A n b) hi n (Nat.le_refl _)
  rw [if_pos hi, sdet_tM] at h
  have h1 : sdet n (rowS (tM A) i (fun j => sumS (fun a => powS A n b a * tM A a j) n)) n = 0 := by
    have hd := (sdet_deg n (rowS (tM A) i (fun j => sumS (fun a => powS A n b a * tM A a j) n)) (fun a => if a = i then 0 else 1) fun a _ j hj => by
      by_cases e : a = i
      · subst e
        rw [rowS_at, if_pos rfl]
        rw [pow_inv A n b hj]
        intro m hm
        split
        · show (if m = 0 then 1 else 0) = (0 : Int); rw [if_neg (by omega)]
        · rfl
      · rw [rowS_ne _ _ e, if_neg e]
        exact tM_deg A a j).1
    rw [sumN_but n i n, if_pos hi] at hd
    exact hd n (by omega)
  rw [h] at h1
  exact h1
theorem sumTo_cg {p : Int} {f g : Nat → Int} (n : Nat) (h : ∀ i, i < n → Cg p (f i) (g i)) : Cg p (sumTo f n) (sumTo g n) := sumTo_mod n h
/-- Power series whose coefficients have the same residues. -/
def CgS (p : Int) (f g : Ser) : Prop := ∀ m, Cg p (f m) (g m)
theorem CgS.mul {p : Int} {f g f' g' : Ser} (h : CgS p f f') (k : CgS p g g') : CgS p (f * g) (f' * g') := fun m => sumTo_cg (m + 1) fun i _ => (h i).mul (k (m - i))
theorem CgS.sum {p : Int} {f g : Nat → Ser} (n : Nat) (h : ∀ i, i < n → CgS p (f i) (g i)) : CgS p (sumS f n) (sumS g n) := fun m => sumTo_cg n fun i hi => h i hi m
theorem CgS.sm {p : Int} {f g : Ser} (c : Int) (h : CgS p f g) : CgS p (smS c f) (smS c g) := fun m => (Cg.refl p c).mul (h m)
theorem sdet_cg {p : Int} : ∀ (n : Nat) {F G : Nat → Nat → Ser}, (∀ i, i < n → ∀ j, j < n → CgS p (F i j) (G i j)) → CgS p (sdet n F) (sdet n G)
  | 0, _, _, _ => fun _ => rfl
  | n + 1, F, G, h => by
    refine CgS.sum (n + 1) fun i hi => CgS.sm _ ((h i hi 0 (by omega)).mul (sdet_cg n fun a ha b hb => ?_))
    unfold minS
    split
    · exact h _ (by omega) _ (by omega)
    · exact h _ (by omega) _ (by omega)
/-- A matrix of constants. -/
def cM (F : Nat → Nat → Int) : Nat → Nat → Ser := fun i j => cS (F i j)
theorem cM_row (F : Nat → Nat → Int) (r : Nat) (v : Nat → Int) : cM (rowTo F r v) = rowS (cM F) r (fun j => cS (v j)) := by
  funext a
  show (fun j => cS (rowTo F r v a j)) = rowS (cM F) r (fun j => cS (v j)) a
  by_cases h : a = r
  · subst h; rw [rowTo_at, rowS_at]
  · rw [rowTo_ne _ _ h, rowS_ne _ _ h]; rfl
theorem cS_cg {p a b : Int} (h : Cg p a b) : CgS p (cS a) (cS b) := fun m => by
  show Cg p (if m = 0 then a else 0) (if m = 0 then b else 0)
  split
  · exact h
  · rfl
theorem cS_lin (x y a b : Int) : cS (x * a + y * b) = cS x * cS a + cS y * cS b := Ser.ext_ fun m => by
  rw [cS_mul, cS_mul]
  show (if m = 0 then x * a + y * b else 0) = x * (if m = 0 then a else 0) + y * (if m = 0 then b else 0)
  split
  · rfl
  · simp
/-- A coefficient of a determinant, by the rows of a matrix of constants on the left. -/
theorem coef_isD (p : Int) (n : Nat) (T : Nat → Nat → Ser) (m : Nat) : IsD p n (fun F => sdet n (mulM n (cM F) T) m) where
  cong h := sdet_cg n (fun i hi j _ => CgS.sum n fun k hk => (cS_cg (h i hi k hk)).mul fun _ => rfl) m
  swap F r s hr hs hrs := .of (by
    have h := sdet_turn hr hs hrs (mulM n (cM F) T) (sdet_eq hr hs hrs _) (mulM n (cM F) T s) (mulM n (cM F) T r)
    rw [rowS_self, rowS_self] at h
    rw [cM_row, cM_row, mulM_row, mulM_row]
    have := congrFun h m
    rw [addS_at, zeroS_at] at this
    show sdet n (rowS (rowS (mulM n (cM F) T) r (mulM n (cM F) T s)) s (mulM n (cM F) T r)) m = - sdet n (mulM n (cM F) T) m
    omega)
  plus F r s k hr hs hrs := .of (by
    rw [cM_row, mulM_row]
    have : (fun j => sumS (fun l => cS (F r l + k * F s l) * T l j) n) = fun j => mulM n (cM F) T r j + cS k * mulM n (cM F) T s j := by
      funext j
      show _ = sumS (fun l => cS (F r l) * T l j) n + cS k * sumS (fun l => cS (F s l) * T l j) n
      rw [mul_sumS, ← sumS_add]
      refine sumS_congr n fun l _ => ?_
      have := cS_lin 1 k (F r l) (F s l)
      rw [Int.one_mul, cS_one, oneS_mul] at this
      rw [this, addS_mul, mulS_assoc]
    rw [this]
    exact congrFun ((sdet_isA n).plus (mulM n (cM F) T) (cS k) hr hs hrs) m)
  scale F r k hr := .of (by
    rw [cM_row, mulM_row]
    have : (fun j => sumS (fun l => cS (k * F r l) * T l j) n) = fun j => cS k * mulM n (cM F) T r j := by
      funext j
      show _ = cS k * sumS (fun l => cS (F r l) * T l j) n
      rw [mul_sumS]
      refine sumS_congr n fun l _ => ?_
      have := cS_lin k 0 (F r l) 0
      rw [Int.zero_mul, Int.add_zero] at this
      rw [this, show cS 0 = (0 : Ser) from Ser.ext_ fun m => by unfold cS; split <;> rfl, zeroS_mul, addS_zero, mulS_assoc]
    rw [this, (sdet_isA n).scale _ _ _ hr, rowS_self, cS_mul]
    rfl)
theorem mulM_oneL (n : Nat) (F T : Nat → Nat → Ser) (hF : ∀ i j, F i j = if j = i then 1 else 0) (i j : Nat) (hi : i < n) : mulM n F T i j = T i j := by
  have h : ∀ k, sumS (fun l => F i l * T l j) k = if i < k then T i j else 0 := fun k => by
    induction k with
    | zero => rfl
    | succ k ih =>
      rw [sumS_succ, ih, hF]
      by_cases e : k = i
      · subst e; rw [if_neg (Nat.lt_irrefl _), if_pos rfl, if_pos (by omega), oneS_mul, zeroS_add]
      · rw [if_neg e, zeroS_mul, addS_zero]
        by_cases h2 : i < k
        · rw [if_pos h2, if_pos (by omega)]
        · rw [if_neg h2, if_neg (by omega)]
  show sumS (fun l => F i l * T l j) n = T i j
  rw [h, if_pos hi]
theorem cM_one (i j : Nat) : cM oneF i j = if j = i then (1 : Ser) else 0 := by
  show cS (oneF i j) = _
  unfold oneF
  split
  · rfl
  · exact Ser.ext_ fun m => by unfold cS; split <;> rfl
/-- Conjugate matrices have the same characteristic polynomial. -/
theorem berk_conj {p : Int} {n : Nat} {A A' B : Nat → Nat → Int} (hp : 1 < p) (hI : Invs p) (hB : InG p n n B) (hd : detV p n B ≠ 0) (h : ∀ i, i < n → ∀ j, j < n → Cg p (sumTo (fun k => B i k * A' k j) n) (sumTo (fun k => A i k * B k j) n)) (m : Nat) : Cg p (berk A n m) (berk A' n m) := by
  have h1 := (sdetB_isA n (cM B)).all A
  have e1 : sdet n (mulM n (fun i j => if i = j then 1 else 0) (cM B)) = cS (ldet n B) := by
    rw [← sdet_const]
    refine sdet_congr n fun i hi j _ => ?_
    exact mulM_oneL n _ _ (fun i j => by
      by_cases e : i = j
      · rw [if_pos e, if_pos e.symm]
      · rw [if_neg e, if_neg (Ne.symm e)]) i j hi
  have h2 := congrFun h1 m
  have h2 : sdet n (mulM n (tM A) (cM B)) m = (berk A n * sdet n (mulM n (fun i j => if i = j then 1 else 0) (cM B))) m := h2
  rw [e1, mulS_comm, cS_mul] at h2
  have h2 : sdet n (mulM n (tM A) (cM B)) m = ldet n B * berk A n m := h2
  have h3 := detV_D hp hI (Nat.le_refl n) hB (coef_isD p n (tM A') m)
  have e3 : sdet n (mulM n (cM oneF) (tM A')) m = berk A' n m := by
    rw [sdet_congr n (G := tM A') fun i hi j _ => mulM_oneL n _ _ cM_one i j hi, sdet_tM]
  rw [e3] at h3
  have h4 : CgS p (sdet n (mulM n (cM B) (tM A'))) (sdet n (mulM n (tM A) (cM B))) := sdet_cg n fun i hi j hj k => by
    show Cg p (sumTo (fun l => (cS (B i l) * tM A' l j) k) n) (sumTo (fun l => (tM A i l * cS (B l j)) k) n)
    have e1 : sumTo (fun l => (cS (B i l) * tM A' l j) k) n = sumTo (fun l => B i l * tM A' l j k) n := sumTo_congr n fun l _ => by
      show (cS (B i l) * tM A' l j) k = _
      rw [cS_mul]; rfl
    have e2 : sumTo (fun l => (tM A i l * cS (B l j)) k) n = sumTo (fun l => B l j * tM A i l k) n := sumTo_congr n fun l _ => by
      show (tM A i l * cS (B l j)) k = _
      rw [mulS_comm, cS_mul]; rfl
    rw [e1, e2]
    match k with
    | 0 =>
      refine .of ?_
      show sumTo (fun l => B i l * (if l = j then 1 else 0)) n = sumTo (fun l => B l j * (if i = l then 1 else 0)) n
      rw [sumTo_at, if_pos hj, sumTo_congr n (g := fun l => B l j * (if l = i then 1 else 0)) fun l _ => by
        by_cases e : i = l
        · rw [if_pos e, if_pos e.symm]
        · rw [if_neg e, if_neg (Ne.symm e)], sumTo_at, if_pos hi]
    | 1 =>
      have h5 := (h i hi j hj).neg
      refine Cg.trans (.of ?_) (h5.trans (.of ?_))
      · show sumTo (fun l => B i l * - A' l j) n = _
        rw [sumTo_congr n (g := fun l => (-1) * (B i l * A' l j)) fun l _ => by rw [Int.mul_neg]; omega, sumTo_mul]; omega
      · show _ = sumTo (fun l => B l j * - A i l) n
        rw [sumTo_congr n (f := fun l => B l j * - A i l) (g := fun l => (-1) * (A i l * B l j)) fun l _ => by rw [Int.mul_neg, Int.mul_comm]; omega, sumTo_mul]; omega
    | k + 2 =>
      refine .of ?_
      show sumTo (fun l => B i l * 0) n = sumTo (fun l => B l j * 0) n
      rw [sumTo_zero n fun l _ => Int.mul_zero _, sumTo_zero n fun l _ => Int.mul_zero _]
  have h5 : Cg p (detV p n B * berk A' n m) (detV p n B * berk A n m) := (h3.symm.trans (h4 m)).trans (by rw [h2]; exact (detV_ldet hp hI (Nat.le_refl n) hB).mul (.refl p _))
  have hin := detV_in hp hI (Nat.le_refl n) hB
  have hx := hI (detV p n B) (by omega) hin.2
  have h6 := (Cg.refl p (invI p (detV p n B))).mul h5
  rw [← Int.mul_assoc, ← Int.mul_assoc] at h6
  have h7 := hx.mul (Cg.refl p (berk A' n m))
  have h8 := hx.mul (Cg.refl p (berk A n m))
  rw [Int.one_mul] at h7 h8
  exact h8.symm.trans (h6.symm.trans h7)
end Go.Proofs.Ytokiejichnnmnaa

/- MDot, MProd, MSerA, MSeries, MPoly, joined. -/
/- matrix.dot and its closure; combine over two lists of ints with it. -/
namespace Go.Proofs.Ytokiejichnnmnaa
open Go Go.RowKit Num

set_option maxRecDepth 100000 in
set_option maxHeartbeats 400000 in
theorem dot1_any (x y p : Int) (B : Nat) (w : World) (hp0 : 1 ≤ p) (hp1 : p ≤ 10000) (hx : 0 ≤ x ∧ x < p) (hy : 0 ≤ y ∧ y < p) (hb : Boxed w B 3 (.int .i64 p)) :
    Calls Try.prog 189 #[.int .i64 x, .int .i64 y, .pointer (some ⟨B, 0, none⟩)] w fun e w' => e = .returned (.int .i64 (x * y % p)) ∧ w' = w := by
  have h1 := hb.cell
  have hm := mul_in (a := x) (b := y) ⟨hx.1, show x ≤ p by omega⟩ ⟨hy.1, show y ≤ p by omega⟩ hp1 hp1
  obtain ⟨m, hmm⟩ : ∃ m, x * y = m := ⟨_, rfl⟩
  rw [hmm] at hm ⊢
  have hw : IntKind.i64.wrap (x * y) = m := by rw [hmm]; exact IntWalk.i64_in _ ⟨by omega, by omega⟩
  have hne : (p != 0) = true := by simp; omega
  have hr : m.tmod p = m % p := Int.tmod_eq_emod_of_nonneg (by omega)
  have hr1 : 0 ≤ m % p := Int.emod_nonneg _ (by omega)
  have hr2 : m % p < p := Int.emod_lt_of_pos _ (by omega)
  have hw3 : IntKind.i64.wrap (m % p) = m % p := IntWalk.i64_in _ ⟨by omega, by omega⟩
  clear hb hmm
  go_enter Try.func189, Try.ntmps189
  go_wp2
  go_ret
  exact ⟨rfl, rfl⟩

/-- The products of two rows, entry by entry. -/
def ppV (p : Int) (f g : Nat → Int) (j : Nat) : Int := f j * g j % p
theorem ppV_in {p : Int} (hp : 0 < p) (f g : Nat → Int) (n : Nat) : InP p n (ppV p f g) := fun j _ => ⟨Int.emod_nonneg _ (by omega), Int.emod_lt_of_pos _ hp⟩

set_option maxRecDepth 100000 in
set_option maxHeartbeats 400000 in
theorem combine_dot (v u : Value) (n m : Nat) (f g : Nat → Int) (p : Int) (B : Nat) (S : Nat → Prop) (w : World) (hS : ∀ b, S b → b < w.heap.size) (hB : B < w.heap.size) (hn : n ≤ 1000000) (hnm : n ≤ m)
    (hv : Vec w S v n f) (hu : Vec w S u m g) (hp0 : 1 ≤ p) (hp1 : p ≤ 10000) (hf : InP p n f) (hg : InP p n g) (hb : Boxed w B 3 (.int .i64 p)) :
    Calls Try.prog 105 #[v, u, .func (.func 189) #[] #[.pointer (some ⟨B, 0, none⟩)]] w (GivesV w n (ppV p f g)) := by
  have hmk := make_ints n (by omega)
  have H0 := Lib.hid (Fill.start w 3 n (iv (ppV p f g)) (.int .i64 0))
  have hfin : ∀ wr, Fill w 3 n (iv (ppV p f g)) (.int .i64 0) n wr → Vec wr (New w wr) (.slice (some ⟨w.heap.size, 0, none⟩) n n) n (ppV p f g) ∧ Below w.heap.size w wr := fun wr h =>
    ⟨Row.vec (by have := h.2.1; rw [part_all] at this; exact this) ⟨Nat.le_refl _, h.2.1.lt⟩ (Nat.le_refl _), h.2.2⟩
  have HF := Lib.hid hfin
  clear hfin
  obtain ⟨A, c, rfl, hnc, hv⟩ := hv
  obtain ⟨A2, c2, rfl, hmc, hu⟩ := hu
  have HS := Lib.hid hS
  have HP := fun x y W a b d => Lib.hid (dot1_any x y p B W hp0 hp1 a b d)
  have HCV := Lib.hid hv
  have HCU := Lib.hid hu
  have HFI := Lib.hid hf
  have HGI := Lib.hid hg
  clear hv hu hf hg hS
  go_enter Try.func105, Try.ntmps105
  go_wp2
  go_loopw [15] (fun i wr => ∃ j : Nat, i = .int .i64 j ∧ Fill w 3 n (iv (ppV p f g)) (.int .i64 0) j wr) (fun i _ => n - (intOf i).toNat)
  case atStart => exact ⟨0, rfl, H0.out⟩
  case round =>
    obtain ⟨j, rfl, hA⟩ := hrel
    have hj := hA.1
    by_cases hlt : j < n
    · obtain ⟨b, o, rfl, hb1, hcv⟩ := HCV.out (by omega)
      obtain ⟨b2, o2, rfl, hb2, hcu⟩ := HCU.out (by omega)
      have hb1' := HS.out _ hb1
      have hb2' := HS.out _ hb2
      have hx : wr.cell? ⟨b, o + j, none⟩ = some (.int .i64 (f j)) := (hA.2.2.cell (p := ⟨b, o + j, none⟩) hb1').trans (hcv j hlt)
      have hy : wr.cell? ⟨b2, o2 + j, none⟩ = some (.int .i64 (g j)) := (hA.2.2.cell (p := ⟨b2, o2 + j, none⟩) hb2').trans (hcu j (by omega))
      have hC1 := HP (f j) (g j) wr (HFI.out j hlt) (HGI.out j hlt) (boxBelow hb hA.2.2 hB)
      have hS := Lib.hid (hA.step hlt)
      have hct := hA.2.1.cell (CTab_get n (part j (iv (ppV p f g)) (.int .i64 0)) j hlt)
      have hft := hA.2.1.frozen j
      have hjm : j < m := by omega
      generalize part j (iv (ppV p f g)) (.int .i64 0) j = u0 at hct
      change Hid (Fill w 3 n (iv (ppV p f g)) (.int .i64 0) (j + 1) (wr.setCell ⟨w.heap.size, j, none⟩ (.int .i64 (f j * g j % p)))) at hS
      generalize f j * g j % p = z at hC1 hS
      generalize f j = x at hx hC1
      generalize g j = y at hy hC1
      clear hA hb hcv hcu
      go_wp2_with fail
      refine hC1.out.mono ?_
      rintro e w' ⟨rfl, rfl⟩
      go_wp2
      go_roundw
      case rel => exact ⟨j + 1, by go_num, hS.out⟩
      case measure => simp [intOf]; omega
    · have hA' : Fill w 3 n (iv (ppV p f g)) (.int .i64 0) n wr := by rw [show j = n by omega] at hA; exact hA
      have HA := Lib.hid (HF.out _ hA')
      clear hA hA' hb
      go_wp2
      go_ret
      exact ⟨_, rfl, HA.out⟩

theorem sumTo_in {p : Int} {f : Nat → Int} {n : Nat} (hp1 : p ≤ 10000) (hf : InP p n f) : ∀ k, k ≤ n → 0 ≤ sumTo f k ∧ sumTo f k ≤ k * 10000
  | 0, _ => ⟨Int.le_refl _, by simp [sumTo]⟩
  | k + 1, hk => by
    have := sumTo_in hp1 hf k (by omega)
    have h := hf k (by omega)
    simp only [sumTo]
    omega

set_option maxRecDepth 100000 in
set_option maxHeartbeats 1000000 in
theorem dot_any (v u : Value) (n m : Nat) (f g : Nat → Int) (p : Int) (w : World) (hn : n ≤ 1000) (hnm : n ≤ m) (hv : Vec w (· < w.heap.size) v n f) (hu : Vec w (· < w.heap.size) u m g) (hp0 : 1 ≤ p) (hp1 : p ≤ 10000) (hf : InP p n f) (hg : InP p n g) :
    Calls Try.prog 154 #[v, u, .int .i64 p] w fun e w' => e = .returned (.int .i64 (sumTo (fun j => f j * g j) n % p)) ∧ Below w.heap.size w w' := by
  have hfin : sumTo (fun j => f j * g j) n % p = sumTo (ppV p f g) n % p := sumTo_mod n fun i _ => by
    show _ = f i * g i % p % p
    rw [Int.emod_emod_of_dvd _ (Int.dvd_refl p)]
  rw [hfin]
  have HI := Lib.hid (fun k hk => sumTo_in hp1 (ppV_in (by omega) f g n) k hk)
  have hbox := row_new (W := w) rfl 3 #[.int .i64 p]
  have hB1 : Below w.heap.size w (w.alloc (.cells #[.int .i64 p] 3)) := (Below.refl _ _).alloc (Nat.le_refl _) _
  have HC := Lib.hid (combine_dot v u n m f g p w.heap.size (· < (w.alloc (.cells #[.int .i64 p] 3)).heap.size) (w.alloc (.cells #[.int .i64 p] 3)) (fun b h => h) hbox.lt (by omega) hnm (hv.on hB1) (hu.on hB1) hp0 hp1 hf hg hbox)
  obtain ⟨A, c, rfl, -⟩ := hv.form
  obtain ⟨A2, c2, rfl, -⟩ := hu.form
  have HB1 := Lib.hid hB1
  have HBX := Lib.hid hbox
  have hne : (p != 0) = true := by simp; omega
  have hne2 : ¬ p = 0 := by omega
  clear hv hu hf hg hbox hB1 hfin
  go_enter Try.func154, Try.ntmps154
  go_wp2_with fail
  refine HC.out.mono ?_
  rintro e w2 ⟨r, rfl, hV, hb⟩
  obtain ⟨A3, c3, rfl, -⟩ := hV.form
  have HV := Lib.hid hV
  have HB := Lib.hid (HB1.out.trans (hb.mono HB1.out.size))
  have hpc : w2.cell? ⟨w.heap.size, 0, none⟩ = some (.int .i64 p) := (HBX.out.below hb HBX.out.lt).cell rfl
  clear hV hb HC HB1 HBX
  go_wp2_with fail
  go_loopw [7, 15] (fun s i wr => ∃ j : Nat, s = .int .i64 (sumTo (ppV p f g) j) ∧ i = .int .i64 j ∧ j ≤ n ∧ wr = w2) (fun _ i _ => n - (intOf i).toNat)
  case atStart => exact ⟨0, rfl, rfl, Nat.zero_le _, rfl⟩
  case round =>
    obtain ⟨j, rfl, rfl, hj, rfl⟩ := hrel
    have hs := HI.out j hj
    by_cases hlt : j < n
    · obtain ⟨b, o, cc, e, _, _, hcv⟩ := HV.out.at_ (by omega)
      cases e
      have hx := hcv j hlt
      have hi1 := HI.out (j + 1) (by omega)
      have hi2 : sumTo (ppV p f g) (j + 1) = sumTo (ppV p f g) j + ppV p f g j := rfl
      have hw : IntKind.i64.wrap (sumTo (ppV p f g) j + ppV p f g j) = sumTo (ppV p f g) (j + 1) := by rw [hi2] at hi1 ⊢; exact IntWalk.i64_in _ ⟨by omega, by omega⟩
      clear hi2 hcv
      obtain ⟨s1, hs1⟩ : ∃ s1, sumTo (ppV p f g) (j + 1) = s1 := ⟨_, rfl⟩
      rw [hs1] at hw hi1
      have HS1 := Lib.hid hs1
      clear hs1
      generalize sumTo (ppV p f g) j = s0 at hw hs
      generalize ppV p f g j = x at hx hw
      go_wp2_with fail
      go_roundw
      case rel => exact ⟨j + 1, by rw [HS1.out], by go_num, by omega, by first | rfl | trivial⟩
      case measure => simp [intOf]; omega
    · have e : j = n := by omega
      subst e
      have hr : (sumTo (ppV p f g) j).tmod p = sumTo (ppV p f g) j % p := Int.tmod_eq_emod_of_nonneg hs.1
      have hr1 : 0 ≤ sumTo (ppV p f g) j % p := Int.emod_nonneg _ (by omega)
      have hr2 : sumTo (ppV p f g) j % p < p := Int.emod_lt_of_pos _ (by omega)
      have hw3 : IntKind.i64.wrap (sumTo (ppV p f g) j % p) = sumTo (ppV p f g) j % p := IntWalk.i64_in _ ⟨by omega, by omega⟩
      obtain ⟨z, hz⟩ : ∃ z, sumTo (ppV p f g) j % p = z := ⟨_, rfl⟩
      rw [hz] at hr hr1 hr2 hw3
      have HZ := Lib.hid hz
      clear hz
      generalize hs0 : sumTo (ppV p f g) j = s0 at hr hs
      clear hs0
      go_wp2_with fail
      go_ret
      exact ⟨by rw [HZ.out]; rfl, HB.out⟩
end Go.Proofs.Ytokiejichnnmnaa

/- matrix.product. -/
namespace Go.Proofs.Ytokiejichnnmnaa
open Go Go.RowKit Num

/-- What lies in the sum behind i rounds. -/
def prV (p : Int) (g f : Nat → Int) : Nat → Nat → Int
  | 0 => fun _ => 0
  | i + 1 => fun j => if i ≤ j then (prV p g f i j + g i * f (j - i)) % p else prV p g f i j
theorem prV_in {p : Int} (hp : 0 < p) (g f : Nat → Int) (n : Nat) : ∀ i, InP p n (prV p g f i)
  | 0, j, _ => ⟨Int.le_refl _, hp⟩
  | i + 1, j, hj => by
    show 0 ≤ (if i ≤ j then _ else _) ∧ (if i ≤ j then _ else _) < p
    split
    · exact ⟨Int.emod_nonneg _ (by omega), Int.emod_lt_of_pos _ hp⟩
    · exact prV_in hp g f n i j hj
/-- What the copy leaves. -/
theorem copy_tab (n i : Nat) (G H c : Nat → Int) (hi : i ≤ n) (h : ∀ j, j < n → H j = if j < i then G j else c (j - i)) :
    (splice (CTab n (iv G)).toList i ((List.range (n - i)).map (fun j => Value.int .i64 (c j)))).toArray = CTab n (iv H) := by
  unfold splice
  rw [List.length_map, List.length_range, show i + (n - i) = n by omega]
  have hs : (CTab n (iv G)).toList.length = n := by simp [CTab]
  rw [List.drop_of_length_le (by omega), List.append_nil]
  apply Array.ext
  · simp [CTab]; omega
  · intro j h1 h2
    have hj : j < n := by simpa [CTab] using h2
    have e2 : (CTab n (iv H))[j] = .int .i64 (H j) := by simp [CTab, iv]
    rw [e2, h j hj, List.getElem_toArray]
    by_cases hji : j < i
    · rw [List.getElem_append_left (by simp [CTab]; omega), if_pos hji]
      simp [CTab, iv]
    · rw [List.getElem_append_right (by simp [CTab]; omega), if_neg hji]
      simp [CTab]
      congr 2
      omega

set_option maxRecDepth 100000 in
set_option maxHeartbeats 2000000 in
theorem mprod_any (v u : Value) (n m : Nat) (g f : Nat → Int) (p : Int) (w : World) (hn0 : 1 ≤ n) (hnm : n ≤ m) (hm : m ≤ 1000) (hv : Vec w (· < w.heap.size) v n g) (hu : Vec w (· < w.heap.size) u m f) (hp0 : 1 ≤ p) (hp1 : p ≤ 10000) (hg : InP p n g) (hf : InP p m f) :
    Calls Try.prog 113 #[v, u, .int .i64 p] w fun e w' => e = .returned (.slice (some ⟨w.heap.size, 0, none⟩) m m) ∧ Row w' w.heap.size 3 (CTab m (iv (prV p g f n))) ∧ Below w.heap.size w w' := by
  have hmk := make_ints m (by omega)
  obtain ⟨bv, ov, cv, rfl, hcv, hbv, hvc⟩ := hv.at_ (by omega)
  obtain ⟨bu, ou, cu, rfl, hcu, hbu, huc⟩ := hu.at_ (by omega)
  have HU := Lib.hid hu
  have HVC := Lib.hid hvc
  have HGI := Lib.hid hg
  have HFI := Lib.hid hf
  have H0 := Lib.hid (show Row (w.alloc (.cells (CTab m fun _ => .int .i64 0) 3)) w.heap.size 3 (CTab m (iv (prV p g f 0))) from row_new rfl _ _)
  have HB0 := Lib.hid ((Below.refl w.heap.size w).alloc (Nat.le_refl _) (.cells (CTab m fun _ => .int .i64 0) 3))
  have hs1 : (Try.prog.info? 3).map (·.size) = some 1 := by kernel_rfl
  clear hv hu hvc huc hg hf
  go_enter Try.func113, Try.ntmps113
  go_wp2
  go_loopw [15] (fun i wr => ∃ k : Nat, i = .int .i64 k ∧ k ≤ n ∧ Row wr w.heap.size 3 (CTab m (iv (prV p g f k))) ∧ Below w.heap.size w wr) (fun i _ => n - (intOf i).toNat)
  case atStart => exact ⟨0, rfl, Nat.zero_le _, H0.out, HB0.out⟩
  case round =>
    obtain ⟨i, rfl, hi, hR, hB⟩ := hrel
    by_cases hlt : i < n
    · have hx : wr.cell? ⟨bv, ov + i, none⟩ = some (.int .i64 (g i)) := (hB.cell (p := ⟨bv, ov + i, none⟩) hbv).trans (HVC.out i hlt)
      have hgi := HGI.out i hlt
      have HR := Lib.hid hR
      have HB := Lib.hid hB
      have hsub : IntKind.i64.wrap ((m : Int) - (i : Int)) = ((m - i : Nat) : Int) := by
        rw [show (m : Int) - (i : Int) = ((m - i : Nat) : Int) by omega]
        exact IntWalk.i64_in _ ⟨by omega, by omega⟩
      obtain ⟨A1, hr1, he1⟩ := run_cutL (some ⟨w.heap.size, 0, none⟩) m m i (by omega) (Nat.le_refl _)
      have he1 := he1 (by omega)
      rw [addr_map _ _ w.heap.size 0 rfl, Nat.zero_add] at he1
      subst he1
      obtain ⟨A2, hr2, hV2⟩ := cut_pre HU.out (k := m - i) (by omega)
      have HV2 := Lib.hid hV2
      have HX := Lib.hid (fun W => plus_any (g i) p W)
      have hlen : m - i ≤ m := by omega
      generalize hgx : g i = x at hx hgi HX
      have HGX := Lib.hid hgx
      clear hR hB hV2 hgx
      go_wp2_with fail
      refine wp_region_held_drew (S := (fun _ => True)) (by kernel_rfl) trivial (fun hHeld => ?_)
      have HR0 := Lib.hid (show Row wr.drew w.heap.size 3 (CTab m (iv (prV p g f i))) from HR.out)
      have HB0' := Lib.hid (show Below w.heap.size w wr.drew from below_drew HB.out)
      clear HR HB H0 HB0 hx
      generalize wr.drew = W0 at HR0 HB0' ⊢
      refine takeH (i := 0) (v := (.slice (some ⟨w.heap.size, 0, none⟩) m m)) rfl rfl (by kernel_rfl) (by kernel_rfl) (by kernel_rfl) (fun _ _ _ h => h) (by rfl) (fun W hW => by (skip); go_simp) (by assumption) ?_
      simp only [List.setIfInBounds_toArray, List.set_cons_zero, List.set_cons_succ]
      refine takeH (i := 1) (v := (.int .i64 i)) rfl rfl (by kernel_rfl) (by kernel_rfl) (by kernel_rfl) (fun _ _ _ h => h) (by rfl) (fun W hW => by (skip); go_simp) (by assumption) ?_
      simp only [List.setIfInBounds_toArray, List.set_cons_zero, List.set_cons_succ]
      refine takeH (i := 2) (v := (.slice (some ⟨w.heap.size, i, none⟩) (m - i) (m - i))) rfl rfl (by kernel_rfl) (by kernel_rfl) (by kernel_rfl) (fun _ _ _ h => h) (by rfl) (fun W hW => by (skip); go_simp) (by assumption) ?_
      simp only [List.setIfInBounds_toArray, List.set_cons_zero, List.set_cons_succ]
      refine takeH (i := 3) (v := (.slice (some ⟨w.heap.size, 0, none⟩) m m)) rfl rfl (by kernel_rfl) (by kernel_rfl) (by kernel_rfl) (fun _ _ _ h => h) (by rfl) (fun W hW => by (skip); go_simp) (by assumption) ?_
      simp only [List.setIfInBounds_toArray, List.set_cons_zero, List.set_cons_succ]
      refine takeH (i := 4) (v := (.int .i64 i)) rfl rfl (by kernel_rfl) (by kernel_rfl) (by kernel_rfl) (fun _ _ _ h => h) (by rfl) (fun W hW => by (skip); go_simp) (by assumption) ?_
      simp only [List.setIfInBounds_toArray, List.set_cons_zero, List.set_cons_succ]
      refine takeH (i := 5) (v := (.slice (some ⟨w.heap.size, i, none⟩) (m - i) (m - i))) rfl rfl (by kernel_rfl) (by kernel_rfl) (by kernel_rfl) (fun _ _ _ h => h) (by rfl) (fun W hW => by (skip); go_simp) (by assumption) ?_
      simp only [List.setIfInBounds_toArray, List.set_cons_zero, List.set_cons_succ]
      refine takeH (i := 6) (v := (.slice (some ⟨bu, ou, none⟩) m cu)) rfl rfl (by kernel_rfl) (by kernel_rfl) (by kernel_rfl) (fun _ _ _ h => h) (by rfl) (fun W hW => by (skip); go_simp) (by assumption) ?_
      simp only [List.setIfInBounds_toArray, List.set_cons_zero, List.set_cons_succ]
      refine takeH (i := 7) (v := (.slice (some ⟨bu, ou, none⟩) m cu)) rfl rfl (by kernel_rfl) (by kernel_rfl) (by kernel_rfl) (fun _ _ _ h => h) (by rfl) (fun W hW => by (skip); go_simp) (by assumption) ?_
      simp only [List.setIfInBounds_toArray, List.set_cons_zero, List.set_cons_succ]
      refine takeH (i := 8) (v := (.int .i64 m)) rfl rfl (by kernel_rfl) (by kernel_rfl) (by kernel_rfl) (fun _ _ _ h => h) (by rfl) (fun W hW => by (skip); go_simp) (by assumption) ?_
      simp only [List.setIfInBounds_toArray, List.set_cons_zero, List.set_cons_succ]
      refine takeH (i := 9) (v := (.int .i64 i)) rfl rfl (by kernel_rfl) (by kernel_rfl) (by kernel_rfl) (fun _ _ _ h => h) (by rfl) (fun W hW => by (skip); go_simp) (by assumption) ?_
      simp only [List.setIfInBounds_toArray, List.set_cons_zero, List.set_cons_succ]
      refine takeH (i := 10) (v := (.int .i64 (m - i : Nat))) rfl rfl (by kernel_rfl) (by kernel_rfl) (by kernel_rfl) (fun _ _ _ h => h) (by rfl) (fun W hW => by (skip); go_simp) (by assumption) ?_
      simp only [List.setIfInBounds_toArray, List.set_cons_zero, List.set_cons_succ]
      refine takeH (i := 11) (v := (.slice A2 (m - i) cu)) rfl rfl (by kernel_rfl) (by kernel_rfl) (by kernel_rfl) (fun _ _ _ h => h) (by rfl) (fun W hW => by (skip); go_simp) (by assumption) ?_
      simp only [List.setIfInBounds_toArray, List.set_cons_zero, List.set_cons_succ]
      refine takeH (i := 12) (v := (.int .i64 x)) rfl rfl (by kernel_rfl) (by kernel_rfl) (by kernel_rfl) (fun _ _ _ h => h) (by rfl) (fun W hW => by (skip); go_simp) (by assumption) ?_
      simp only [List.setIfInBounds_toArray, List.set_cons_zero, List.set_cons_succ]
      refine takeH (i := 13) (v := (.int .i64 p)) rfl rfl (by kernel_rfl) (by kernel_rfl) (by kernel_rfl) (fun _ _ _ h => h) (by rfl) (fun W hW => by (skip); go_simp) (by assumption) ?_
      simp only [List.setIfInBounds_toArray, List.set_cons_zero, List.set_cons_succ]
      refine wpAnyH_ready (rs := [14]) (by kernel_rfl) (by simp) ?_
      refine (AllReadyH.cons rfl (fun K hK => ?_) AllReadyH.nil)
      · go_simp
        go_at_call 106
        refine (HX.out _).mono ?_
        rintro e W1 ⟨rfl, rfl⟩
        refine hK.out _ _ trivial (fun hHeld => ?_)
        clear hK K HX
        try simp only [Act.put, List.setIfInBounds_toArray, List.set_cons_zero, List.set_cons_succ]
        have HR1' := (HR0.out.alloc (.cells #[.int .i64 x] 3)).alloc (.cells #[.int .i64 p] 3)
        have HB1' := (HB0'.out.alloc HB0'.out.size (.cells #[.int .i64 x] 3)).alloc (by have := HB0'.out.size; simp; omega) (.cells #[.int .i64 p] 3)
        have HX1' := (row_new (W := W0) rfl 3 #[.int .i64 x]).alloc (.cells #[.int .i64 p] 3)
        have HP1' := row_new (W := W0.alloc (.cells #[.int .i64 x] 3)) (g := W0.heap.size + 1) (by simp) 3 #[.int .i64 p]
        generalize (W0.alloc (.cells #[.int .i64 x] 3)).alloc (.cells #[.int .i64 p] 3) = W1 at HR1' HB1' HX1' HP1' ⊢
        have hvs : Vec W1 (· < W1.heap.size) (.slice (some ⟨w.heap.size, i, none⟩) (m - i) (m - i)) (m - i) (fun j => prV p g f i (i + j)) :=
          ⟨_, m - i, rfl, Nat.le_refl _, fun _ => ⟨w.heap.size, i, rfl, HR1'.lt, fun j hj => HR1'.cell (CTab_get m (iv (prV p g f i)) (i + j) (by omega))⟩⟩
        have HC := Lib.hid (combine_plus (.slice (some ⟨w.heap.size, i, none⟩) (m - i) (m - i)) (.slice A2 (m - i) cu) (m - i) (m - i) (fun j => prV p g f i (i + j)) f x p W0.heap.size (W0.heap.size + 1) (· < W1.heap.size) W1 (fun b h => h) HX1'.lt HP1'.lt (by omega) (Nat.le_refl _)
          hvs (HV2.out.on HB1') hp1 (fun j hj => prV_in (by omega) g f m i (i + j) (by omega)) (fun j hj => HFI.out j (by omega)) ⟨hgi.1, by omega⟩ HX1' HP1')
        have HR1 := Lib.hid HR1'
        have HB1 := Lib.hid HB1'
        clear HR1' HB1' HX1' HP1' hvs HR0 HB0' HV2
        refine wpAnyH_ready (rs := [15]) (by kernel_rfl) (by simp) ?_
        refine (AllReadyH.cons rfl (fun K hK => ?_) AllReadyH.nil)
        go_simp
        go_at_call 105
        refine HC.out.mono ?_
        rintro e W2 ⟨r, rfl, hV, hb⟩
        obtain ⟨b3, o3, c3, rfl, hc3, hb3, hcc⟩ := hV.at_ (by omega)
        have HR2 := Lib.hid (HR1.out.below hb HR1.out.lt)
        have HB2 := Lib.hid (HB1.out.trans (hb.mono HB1.out.size))
        have HCC := Lib.hid hcc
        refine hK.out _ _ trivial (fun hHeld => ?_)
        clear hK K HC HR1 HB1 hV hb hcc
        try simp only [Act.put, List.setIfInBounds_toArray, List.set_cons_zero, List.set_cons_succ]
        refine wpAnyH_ready (rs := [16]) (by kernel_rfl) (by simp) ?_
        refine (AllReadyH.cons rfl (fun K hK => ?_) AllReadyH.nil)
        refine step_copy_splice rfl _ _ _ _ rfl 3 Try.underlying28 hs1 (some ⟨w.heap.size, i, none⟩) (some ⟨b3, o3, none⟩) (m - i) (m - i) (m - i) c3 rfl rfl w.heap.size i (CTab m (iv (prV p g f i))).toList 3 (by rw [Array.toArray_toList]; exact HR2.out) ((List.range (m - i)).map (fun j => Value.int .i64 (axpy x p (fun j => prV p g f i (i + j)) f j))) (by simp) (fun _ => ⟨rfl, _, rfl, fun j u hj => ?_⟩) (by simp [CTab]; omega) (by simp [Value.oneCell']) w.heap.size w HB2.out (Nat.le_refl _) ?_
        · by_cases hjm : j < m - i
          · simp [hjm] at hj
            subst hj
            rw [Addr.add_lit]
            exact HCC.out j hjm
          · simp [hjm] at hj
        · intro W3 hrow hbw
          rw [copy_tab m i (prV p g f i) (prV p g f (i + 1)) (axpy x p (fun j => prV p g f i (i + j)) f) (by omega) (fun j hj => by
            show (if i ≤ j then (prV p g f i j + g i * f (j - i)) % p else prV p g f i j) = _
            by_cases e : j < i
            · rw [if_neg (by omega), if_pos e]
            · rw [if_pos (by omega), if_neg e]
              show _ = (prV p g f i (i + (j - i)) + x * f (j - i)) % p
              rw [show i + (j - i) = j by omega, HGX.out])] at hrow
          have HR3 := Lib.hid (show Row W3 w.heap.size 3 (CTab m (iv (prV p g f (i + 1)))) from hrow)
          have HB3 := Lib.hid hbw
          refine hK.out _ _ trivial (fun hHeld => ?_)
          clear hK K hrow hbw HR2 HB2 HCC
          try simp only [Act.put, List.setIfInBounds_toArray]
          refine wpAnyH_done (by kernel_rfl) ?_ _
          go_wp2_with fail
          go_roundw
          case rel => exact ⟨i + 1, by go_num, by omega, HR3.out, HB3.out⟩
          case measure => simp [intOf]; omega
    · have e : i = n := by omega
      subst e
      have HE := Lib.hid hR
      have HB := Lib.hid hB
      clear hR hB H0 HB0
      go_wp2
      go_ret
      exact ⟨rfl, HE.out, HB.out⟩
end Go.Proofs.Ytokiejichnnmnaa

/- matrix.series. -/
namespace Go.Proofs.Ytokiejichnnmnaa
open Go Go.RowKit Num

theorem sub_mod {p : Int} (x : Int) : (p - x % p) % p = (-x) % p := by
  have h1 : Cg p (p - x % p) (-x) := by
    have h2 := (Cg.self p 1).add ((Cg.mod p x).neg)
    rw [Int.mul_one, Int.zero_add] at h2
    exact Cg.trans (.of (by omega)) h2
  exact h1
theorem dotTo_sum (x : Nat → Int) (g : Nat → Nat → Int) (j : Nat) : ∀ k, dotTo x g j k = sumTo (fun a => x a * g a j) k
  | 0 => rfl
  | k + 1 => by rw [dotTo, dotTo_sum x g j k]; rfl
theorem rowP_mod {p : Int} (f : Nat → Nat → Int) (k i j : Nat) : dotTo (fun a => rowP f k i a % p) f j k % p = rowP f k (i + 1) j % p := by
  rw [dotTo_sum]
  exact sumTo_mod k fun a _ => by rw [Int.mul_emod, Int.emod_emod_of_dvd _ (Int.dvd_refl p), ← Int.mul_emod]
theorem sK_mod {p : Int} (f : Nat → Nat → Int) (k i : Nat) : (p - sumTo (fun a => rowP f k i a % p * f a k) k % p) % p = sK f k (i + 2) % p := by
  rw [sub_mod]
  have h : Cg p (sumTo (fun a => rowP f k i a % p * f a k) k) (sumTo (fun a => rowP f k i a * f a k) k) := sumTo_mod k fun a _ => by rw [Int.mul_emod, Int.emod_emod_of_dvd _ (Int.dvd_refl p), ← Int.mul_emod]
  exact h.neg
/-- The first coefficients of the factor of row k. -/
def serL (p : Int) (f : Nat → Nat → Int) (k i : Nat) : List Int := (List.range (i + 2)).map fun j => sK f k j % p
theorem serL_len (p : Int) (f : Nat → Nat → Int) (k i : Nat) : (serL p f k i).length = i + 2 := by simp [serL]
theorem serL_succ (p : Int) (f : Nat → Nat → Int) (k i : Nat) : serL p f k (i + 1) = serL p f k i ++ [sK f k (i + 2) % p] := by
  unfold serL
  rw [show i + 1 + 2 = (i + 2) + 1 by omega, List.range_succ, List.map_append]
  rfl
theorem serL_get (p : Int) (f : Nat → Nat → Int) (k i j : Nat) (hj : j < i + 2) : (serL p f k i).getD j 0 = sK f k j % p := by
  simp [serL, List.getD_eq_getElem?_getD, hj]

/-- While the leading rows are gathered. -/
structure SerI (w : World) (p : Int) (m k : Nat) (f : Nat → Nat → Int) (x : Value) (i : Nat) (wr : World) : Prop where
  le : i ≤ k
  b : Below w.heap.size w wr
  sz : w.heap.size + 1 + 1 ≤ wr.heap.size
  box : Row wr w.heap.size 61 #[.int .i64 p, x]
  rows : ∃ (v : Value) (rs : List Value), Row wr (w.heap.size + 1) 61 #[.int .i64 p, v] ∧ rs.length = i ∧ wr.ownsRow (w.heap.size + 1 + 1) 28 1 v i rs ∧ ∀ j, j < i → ∃ r, rs[j]? = some r ∧ Vec wr (· < w.heap.size) r k (f j)
theorem ser_start (w : World) (p : Int) (m k : Nat) (f : Nat → Nat → Int) (x : Value) : SerI w p m k f x 0 ((w.alloc (.cells #[.int .i64 p, x] 61)).alloc (.cells #[.int .i64 p, .slice none 0 0] 61)) :=
  ⟨Nat.zero_le _, ((Below.refl w.heap.size w).alloc (Nat.le_refl _) _).alloc (by simp) _, by simp, (row_new rfl _ _).alloc _, .slice none 0 0, [], row_new (by simp) _ _, rfl, World.ownsRow_nil _ _ _ _, fun j hj => absurd hj (by omega)⟩
/-- A row more: the array of one, the append, the store. -/
theorem ser_step {w wq w3 : World} {p : Int} {m k i : Nat} {f : Nat → Nat → Int} {x v v1 row : Value} {rs : List Value} (h : SerI w p m k f x i wq) (hi : i < k) (hr : Row wq (w.heap.size + 1) 61 #[.int .i64 p, v]) (hl : rs.length = i)
    (hO : wq.ownsRow (w.heap.size + 1 + 1) 28 1 v i rs) (hV : ∀ j, j < i → ∃ r, rs[j]? = some r ∧ Vec wq (· < w.heap.size) r k (f j)) (hrow : Vec wq (· < w.heap.size) row k (f i))
    (hown : w3.ownsRow (w.heap.size + 1 + 1) 28 1 v1 (i + 1) (rs ++ [row])) (hg : (wq.alloc (.cells #[row] 28)).grownBy w3 v.ownBlock) :
    SerI w p m k f x (i + 1) (w3.setCell ⟨w.heap.size + 1, 1, none⟩ v1) := by
  have hsz := h.sz
  have hz3 : (wq.alloc (.cells #[row] 28)).heap.size = wq.heap.size + 1 := by simp
  have hsz3 := hg.size
  have hOlt := hO.lt
  have hB : Below w.heap.size wq w3 := ((Below.refl w.heap.size wq).alloc (by omega) _).grown hg (by simp; omega) (fun q hq => by have := hOlt q hq; omega)
  have hBs : Below w.heap.size wq (w3.setCell ⟨w.heap.size + 1, 1, none⟩ v1) := hB.setCell (p := ⟨w.heap.size + 1, 1, none⟩) (by show w.heap.size ≤ w.heap.size + 1; omega) _
  have hvR : v.ownBlock ≠ some (w.heap.size + 1) := fun e => by have := hOlt _ e; omega
  have hvR0 : v.ownBlock ≠ some w.heap.size := fun e => by have := hOlt _ e; omega
  refine ⟨by omega, h.b.trans hBs, by rw [size_set]; omega, (((h.box.alloc (.cells #[row] 28)).kept hg (fun e => hvR0 e.symm)).far (p := ⟨w.heap.size + 1, 1, none⟩) (by show w.heap.size ≠ w.heap.size + 1; omega) v1), v1, rs ++ [row], ((hr.alloc (.cells #[row] 28)).kept hg (fun e => hvR e.symm)).set 1 v1, by simp [hl], ownsRow_setCell_below hown (by show w.heap.size + 1 < _; omega) v1, fun j hj => ?_⟩
  by_cases e : j = i
  · subst e
    exact ⟨row, by rw [← hl]; simp, hrow.below (fun _ h => h) hBs⟩
  · obtain ⟨r, h1, h2⟩ := hV j (by omega)
    exact ⟨r, by rw [List.getElem?_append_left (by omega)]; exact h1, h2.below (fun _ h => h) hBs⟩
/-- The rows that were gathered, as a matrix. -/
theorem ser_grid {w wr : World} {p : Int} {m k : Nat} {f : Nat → Nat → Int} {x v : Value} {rs : List Value} (h : SerI w p m k f x k wr) (_hl : rs.length = k)
    (hO : wr.ownsRow (w.heap.size + 1 + 1) 28 1 v k rs) (hV : ∀ j, j < k → ∃ r, rs[j]? = some r ∧ Vec wr (· < w.heap.size) r k (f j)) : Grid wr (· < wr.heap.size) v k (fun _ => k) f := by
  have hsz := h.sz
  rcases hO.2 with ⟨rfl, h0⟩ | ⟨g, cap, cur, rfl, hb, hg, hnc, _⟩
  · rw [h0]
    exact ⟨none, 0, rfl, Nat.le_refl _, fun hn => absurd hn (by omega)⟩
  · have hlt := hO.lt g rfl
    refine ⟨_, cap, rfl, hnc, fun _ => ⟨g, 0, rfl, by omega, fun i hi => ?_⟩⟩
    obtain ⟨r, h1, h2⟩ := hV i hi
    refine ⟨r, ?_, h2.more fun b hb => by show b < wr.heap.size; omega⟩
    have := World.ownsRow.cells hO (g := g) rfl i r h1
    rwa [Addr.add_lit] at this

/-- While the coefficients are appended. -/
structure SerJ (w5 : World) (p : Int) (k : Nat) (f : Nat → Nat → Int) (i : Nat) (l r : Value) (wr : World) : Prop where
  le : i ≤ k
  b : Below w5.heap.size w5 wr
  own : OwnsI wr w5.heap.size l (serL p f k i)
  rv : Vec wr (fun b => b < wr.heap.size ∧ l.ownBlock ≠ some b) r k (fun j => rowP f k i j % p)
/-- One more: the array of one, the append; then the row times the matrix. -/
theorem serj_step {w5 wr w1 w3 w4 : World} {p : Int} {k i : Nat} {f : Nat → Nat → Int} {l r v1 r1 : Value} {y : Int} (h : SerJ w5 p k f i l r wr) (hi : i < k) (h1 : Below wr.heap.size wr w1) (hO : OwnsI w1 w5.heap.size l (serL p f k i)) (hy : y = sK f k (i + 2) % p)
    (hown : w3.ownsRow w5.heap.size 3 1 v1 (i + 2 + 1) (icells (serL p f k i) ++ [.int .i64 y])) (hg : (w1.alloc (.cells #[.int .i64 y] 3)).grownBy w3 l.ownBlock)
    (h4 : Below w3.heap.size w3 w4) (hr : Vec w4 (New w3 w4) r1 k (fun j => rowP f k (i + 1) j % p)) : SerJ w5 p k f (i + 1) v1 r1 w4 := by
  have hsz := h.b.size
  have hs1 := h1.size
  have hOlt := hO.lt
  have hB3 : Below w5.heap.size w1 w3 := ((Below.refl w5.heap.size w1).alloc (by omega) _).grown hg (by simp; omega) (fun q hq => (hOlt q hq).1)
  have hown' : OwnsI w3 w5.heap.size v1 (serL p f k (i + 1)) := by
    unfold OwnsI
    rw [serL_succ, icells_append, List.length_append, serL_len, hy.symm]
    exact hown
  have hlt3 := hown'.lt
  refine ⟨by omega, ((h.b.trans (h1.mono hsz)).trans hB3).trans (h4.mono (by have := hB3.size; omega)), ?_, hr.more fun b hb => ⟨hb.2, fun e => by have := hlt3 b e; have := hb.1; omega⟩⟩
  have hbt := But.of (t := w3.heap.size) h4 (Nat.le_refl _)
  exact hbt.owns hown' fun g hg => ⟨(hlt3 g hg).2, by have := (hlt3 g hg).2; omega⟩
theorem OwnsI.below {w w' : World} {B : Nat} {v : Value} {l : List Int} (h : OwnsI w B v l) (hb : Below w.heap.size w w') : OwnsI w' B v l :=
  (But.of (t := w.heap.size) hb (Nat.le_refl _)).owns h fun g hg => ⟨(h.lt g hg).2, by have := (h.lt g hg).2; omega⟩
end Go.Proofs.Ytokiejichnnmnaa

/- matrix.series: the walk. -/
namespace Go.Proofs.Ytokiejichnnmnaa
open Go Go.RowKit Num

theorem SerI.drew {w wr : World} {p : Int} {m k i : Nat} {f : Nat → Nat → Int} {x : Value} (h : SerI w p m k f x i wr) : SerI w p m k f x i wr.drew := ⟨h.le, below_drew h.b, h.sz, h.box, h.rows⟩
theorem SerJ.drew {w5 wr : World} {p : Int} {k i : Nat} {f : Nat → Nat → Int} {l r : Value} (h : SerJ w5 p k f i l r wr) : SerJ w5 p k f i l r wr.drew := ⟨h.le, below_drew h.b, h.own, h.rv⟩

set_option maxRecDepth 100000 in
set_option maxHeartbeats 4000000 in
theorem series_any (ra : Value) (m k : Nat) (f : Nat → Nat → Int) (p : Int) (w : World) (hm : m ≤ 64) (hk : k < m) (hp2 : 2 ≤ p) (hp1 : p ≤ 10000) (ha : Grid w (· < w.heap.size) ra m (fun _ => m) f) (hf : InG p m m f) :
    Calls Try.prog 114 #[.agg #[.int .i64 p, ra], .int .i64 k] w (GivesV w (k + 2) (fun j => sK f k j % p)) := by
  obtain ⟨i0, hi0, hz0, hz1, hz2⟩ := info_parts info3m
  obtain ⟨j0, hj0, hy0, hy1, hy2⟩ := info_parts info27m
  obtain ⟨A, c, rfl, hcm⟩ := ha.form
  obtain ⟨A0, hcut, hG0⟩ := cut_preG ha (k := k) (by omega)
  have HA := Lib.hid ha
  have HG0 := Lib.hid hG0
  have HF := Lib.hid hf
  have HS := Lib.hid (ser_start w p m k f (.slice A m c))
  clear ha hG0 hf
  go_enter Try.func114, Try.ntmps114
  go_wp2
  clear hcut
  go_loopw [20] (fun i wr => ∃ q : Nat, i = .int .i64 q ∧ SerI w p m k f (.slice A m c) q wr) (fun i _ => k - (intOf i).toNat)
  case atStart => exact ⟨0, rfl, HS.out⟩
  case round =>
    obtain ⟨i, rfl, hI⟩ := hrel
    have hle := hI.le
    by_cases hlt : i < k
    · have hd : decide ((i : Int) < (k : Int)) = true := decide_eq_true (by omega)
      obtain ⟨b0, o0, c0, R0, C0, e0, -, hb0, hc0⟩ := HG0.out.at_ (by omega)
      cases e0
      obtain ⟨hh, hv⟩ := hc0 i hlt
      have hx : wr.cell? ⟨b0, o0 + i, none⟩ = some (.slice (R0 i) m (C0 i)) := (hI.b.cell (p := ⟨b0, o0 + i, none⟩) hb0).trans hh
      obtain ⟨A3, hr3, hV3⟩ := cut_pre hv (k := k) (by omega)
      obtain ⟨v, rs, hr, hl, hO, hV⟩ := hI.drew.rows
      have HI := Lib.hid hI.drew
      have HR := Lib.hid hr
      have HL := Lib.hid hl
      have HO := Lib.hid hO
      have HV := Lib.hid hV
      have HV3 := Lib.hid (hV3.below (fun _ h => h) hI.drew.b)
      clear hI hr hl hO hV hc0 hh hv hV3 HS
      go_wp2_with fail
      clear hx hd
      refine wp_region_held_drew (S := (fun _ => True)) (by kernel_rfl) trivial (fun hHeld => ?_)
      generalize wr.drew = W0 at HI HR HO HV HV3 ⊢
      refine takeH (i := 0) (v := (.pointer (some ⟨w.heap.size + 1, 1, none⟩))) rfl rfl (by kernel_rfl) (by kernel_rfl) (by kernel_rfl) (fun _ _ _ h => h) (by rfl) (fun W hW => by (skip); go_simp) (by assumption) ?_
      simp only [List.setIfInBounds_toArray, List.set_cons_zero, List.set_cons_succ]
      refine takeH (i := 2) (v := (.slice (R0 i) m (C0 i))) rfl rfl (by kernel_rfl) (by kernel_rfl) (by kernel_rfl) (fun _ _ _ h => h) (by rfl) (fun W hW => by (skip); go_simp) (by assumption) ?_
      simp only [List.setIfInBounds_toArray, List.set_cons_zero, List.set_cons_succ]
      refine takeH (i := 3) (v := (.int .i64 k)) rfl rfl (by kernel_rfl) (by kernel_rfl) (by kernel_rfl) (fun _ _ _ h => h) (by rfl) (fun W hW => by (skip); go_simp) (by assumption) ?_
      simp only [List.setIfInBounds_toArray, List.set_cons_zero, List.set_cons_succ]
      refine takeH (i := 4) (v := (.slice A3 k (C0 i))) rfl rfl (by kernel_rfl) (by kernel_rfl) (by kernel_rfl) (fun _ _ _ h => h) (by rfl) (fun W hW => by (skip); go_simp) (by assumption) ?_
      simp only [List.setIfInBounds_toArray, List.set_cons_zero, List.set_cons_succ]
      have l0 := HR.out.cell (i := 1) rfl
      have l1 := (HR.out.alloc (.cells #[.slice A3 k (C0 i)] 28)).cell (i := 1) rfl
      have HOA := Lib.hid (HO.out.alloc (.cells #[.slice A3 k (C0 i)] 28))
      have hsz := HI.out.sz
      have hln : i + 1 ≤ 65 := by omega
      refine wpAnyH_ready (rs := [1, 5]) (by kernel_rfl) (by simp) ?_
      refine (AllReadyH.cons rfl (fun K hK => ?_) (AllReadyH.cons rfl (fun K hK => ?_) AllReadyH.nil))
      · go_simp
        refine hK.out _ _ trivial (fun hHeld => ?_)
        clear hK K
        try simp only [Act.put, List.setIfInBounds_toArray, List.set_cons_zero, List.set_cons_succ]
        refine wpAnyH_ready (rs := [5]) (by kernel_rfl) (by simp) ?_
        refine (AllReadyH.cons rfl (fun K hK => ?_) AllReadyH.nil)
        go_simp
        refine hK.out _ _ trivial (fun hHeld => ?_)
        clear hK K
        try simp only [Act.put, List.setIfInBounds_toArray, List.set_cons_zero, List.set_cons_succ]
        refine wpAnyH_ready (rs := [6]) (by kernel_rfl) (by simp) ?_
        refine (AllReadyH.cons rfl (fun K hK => ?_) AllReadyH.nil)
        refine op_append_own (.tmp 25) (.tmp 29) 37 rfl (w.heap.size + 1 + 1) 28 j0 (.slice none 0 0) 1 24 Try.underlying37 hj0 hy0 hy1 hy2 rfl (by decide) _ _ _ rfl HOA.out _ 1 1 [.slice A3 k (C0 i)] rfl rfl (cell_one_new _ _ _) (by simp [Value.oneCell']) (by unfold maxLen; omega) (by omega) (by simp; omega) ?_
        intro v1 w3 hown hgrow _
        obtain ⟨A4, c4, rfl⟩ := owned_form hown
        have hr3' : Row w3 (w.heap.size + 1) 61 #[.int .i64 p, v] := (HR.out.alloc (.cells #[.slice A3 k (C0 i)] 28)).kept hgrow (fun e => by have := HO.out.lt _ e.symm; omega)
        have hc3 := hr3'.cell (i := 1) rfl
        have hf3 := hr3'.frozen 1
        have HN := Lib.hid (ser_step HI.out hlt HR.out HL.out HO.out HV.out HV3.out hown hgrow)
        clear hr3' hown hgrow
        refine hK.out _ _ trivial (fun hHeld => ?_)
        clear hK K
        try simp only [Act.put, List.setIfInBounds_toArray]
        refine takeH (i := 7) (v := (.pointer (some ⟨w.heap.size + 1, 1, none⟩))) rfl rfl (by kernel_rfl) (by kernel_rfl) (by kernel_rfl) (fun _ _ _ h => h) (by rfl) (fun W hW => by (skip); go_simp) (by assumption) ?_
        simp only [List.setIfInBounds_toArray, List.set_cons_zero, List.set_cons_succ]
        refine wpAnyH_ready (rs := [8]) (by kernel_rfl) (by simp) ?_
        refine (AllReadyH.cons rfl (fun K hK => ?_) AllReadyH.nil)
        go_simp
        refine hK.out _ _ trivial (fun hHeld => ?_)
        clear hK K
        try simp only [Act.put, List.setIfInBounds_toArray, List.set_cons_zero, List.set_cons_succ]
        refine wpAnyH_done (by kernel_rfl) ?_ _
        go_wp2
        go_roundw
        case rel => exact ⟨i + 1, by go_num, HN.out⟩
        case measure => simp [intOf]; omega
      · go_simp
        refine hK.out _ _ trivial (fun hHeld => ?_)
        clear hK K
        try simp only [Act.put, List.setIfInBounds_toArray, List.set_cons_zero, List.set_cons_succ]
        refine wpAnyH_ready (rs := [1]) (by kernel_rfl) (by simp) ?_
        refine (AllReadyH.cons rfl (fun K hK => ?_) AllReadyH.nil)
        go_simp
        refine hK.out _ _ trivial (fun hHeld => ?_)
        clear hK K
        try simp only [Act.put, List.setIfInBounds_toArray, List.set_cons_zero, List.set_cons_succ]
        refine wpAnyH_ready (rs := [6]) (by kernel_rfl) (by simp) ?_
        refine (AllReadyH.cons rfl (fun K hK => ?_) AllReadyH.nil)
        refine op_append_own (.tmp 25) (.tmp 29) 37 rfl (w.heap.size + 1 + 1) 28 j0 (.slice none 0 0) 1 24 Try.underlying37 hj0 hy0 hy1 hy2 rfl (by decide) _ _ _ rfl HOA.out _ 1 1 [.slice A3 k (C0 i)] rfl rfl (cell_one_new _ _ _) (by simp [Value.oneCell']) (by unfold maxLen; omega) (by omega) (by simp; omega) ?_
        intro v1 w3 hown hgrow _
        obtain ⟨A4, c4, rfl⟩ := owned_form hown
        have hr3' : Row w3 (w.heap.size + 1) 61 #[.int .i64 p, v] := (HR.out.alloc (.cells #[.slice A3 k (C0 i)] 28)).kept hgrow (fun e => by have := HO.out.lt _ e.symm; omega)
        have hc3 := hr3'.cell (i := 1) rfl
        have hf3 := hr3'.frozen 1
        have HN := Lib.hid (ser_step HI.out hlt HR.out HL.out HO.out HV.out HV3.out hown hgrow)
        clear hr3' hown hgrow
        refine hK.out _ _ trivial (fun hHeld => ?_)
        clear hK K
        try simp only [Act.put, List.setIfInBounds_toArray]
        refine takeH (i := 7) (v := (.pointer (some ⟨w.heap.size + 1, 1, none⟩))) rfl rfl (by kernel_rfl) (by kernel_rfl) (by kernel_rfl) (fun _ _ _ h => h) (by rfl) (fun W hW => by (skip); go_simp) (by assumption) ?_
        simp only [List.setIfInBounds_toArray, List.set_cons_zero, List.set_cons_succ]
        refine wpAnyH_ready (rs := [8]) (by kernel_rfl) (by simp) ?_
        refine (AllReadyH.cons rfl (fun K hK => ?_) AllReadyH.nil)
        go_simp
        refine hK.out _ _ trivial (fun hHeld => ?_)
        clear hK K
        try simp only [Act.put, List.setIfInBounds_toArray, List.set_cons_zero, List.set_cons_succ]
        refine wpAnyH_done (by kernel_rfl) ?_ _
        go_wp2
        go_roundw
        case rel => exact ⟨i + 1, by go_num, HN.out⟩
        case measure => simp [intOf]; omega
    · have e : i = k := by omega
      subst e
      have hd : decide ((i : Int) < (i : Int)) = false := decide_eq_false (by omega)
      obtain ⟨v, rs, hr, hl, hO, hV⟩ := hI.rows
      have hgr := ser_grid hI hl hO hV
      obtain ⟨A4, c4, rfl, -⟩ := hgr.form
      obtain ⟨bg, og, cg, RA, RC, eg, -, hbg, hgc⟩ := HA.out.at_ (by omega)
      cases eg
      obtain ⟨hh, hv⟩ := hgc i hk
      obtain ⟨bk, ok, ck, ek, -, hbk, hvk⟩ := hv.at_ (by omega)
      injection ek with eA _ eC
      rw [eA, eC] at hh hv
      clear eA eC
      obtain ⟨A5, hr5, hV5⟩ := cut_pre hv (k := i) (by omega)
      have hsz := hI.sz
      have HG := Lib.hid hgr
      have HB := Lib.hid hI.b
      have HX := Lib.hid hI.box
      have HR := Lib.hid hr
      have HK := Lib.hid (fun (W : World) (hb : Below wr.heap.size wr W) => (show W.cell? ⟨w.heap.size, 0, none⟩ = some (.int .i64 p) ∧ W.cell? ⟨w.heap.size, 1, none⟩ = some (.slice (some ⟨bg, og, none⟩) m c) ∧ W.cell? ⟨bg, og + i, none⟩ = some (.slice (some ⟨bk, ok, none⟩) m ck) ∧ W.cell? ⟨bk, ok + i, none⟩ = some (.int .i64 (f i i)) from
        ⟨(HX.out.below hb HX.out.lt).cell (i := 0) rfl, (HX.out.below hb HX.out.lt).cell (i := 1) rfl, ((HB.out.trans (hb.mono HB.out.size)).cell (p := ⟨bg, og + i, none⟩) hbg).trans hh, ((HB.out.trans (hb.mono HB.out.size)).cell (p := ⟨bk, ok + i, none⟩) hbk).trans (hvk i hk)⟩))
      have HV5 := Lib.hid (hV5.on HB.out)
      have HCOL := Lib.hid (fun W (hb : Below wr.heap.size wr W) => column_any (.slice (some ⟨bg, og, none⟩) m c) m m i f p W (by omega) hk (by omega) (HA.out.on (HB.out.trans (hb.mono HB.out.size))))
      have hfk := HF.out i hk i hk
      have HFK := Lib.hid (HF.out i hk)
      have HFC := Lib.hid (show InP p i (fun a => f a i) from fun a ha => HF.out a (by omega) i hk)
      have HFG := Lib.hid (show InG p i i f from fun a ha b hb => HF.out a (by omega) b (by omega))
      clear hI hr hl hO hV hgr hgc hh hv hvk hV5 HS HG0
      go_wp2_with fail
      refine wp_region_held_drew (S := (fun W => W.cell? ⟨w.heap.size, 0, none⟩ = some (.int .i64 p) ∧ W.cell? ⟨w.heap.size, 1, none⟩ = some (.slice (some ⟨bg, og, none⟩) m c) ∧ W.cell? ⟨bg, og + i, none⟩ = some (.slice (some ⟨bk, ok, none⟩) m ck) ∧ W.cell? ⟨bk, ok + i, none⟩ = some (.int .i64 (f i i)))) (by kernel_rfl) (HK.out _ (below_drew (Below.refl _ _))) (fun hHeld => ?_)
      have HB0 : Below wr.heap.size wr wr.drew := below_drew (Below.refl _ _)
      have HK2 := Lib.hid (fun (W : World) (hb : Below wr.heap.size wr W) => HK.out W hb)
      generalize hfg : f i i = fk at hHeld hfk HK2 ⊢
      have HFKE := Lib.hid hfg
      clear hfg HK
      generalize wr.drew = W0 at HB0 hHeld ⊢
      have HB0 := Lib.hid HB0
      refine takeH (i := 0) (v := (.pointer (some ⟨w.heap.size, 1, none⟩))) rfl rfl (by kernel_rfl) (by kernel_rfl) (by kernel_rfl) (fun _ _ _ h => h) (by rfl) (fun W hW => by (skip); go_simp) (by assumption) ?_
      simp only [List.setIfInBounds_toArray, List.set_cons_zero, List.set_cons_succ]
      refine takeH (i := 1) (v := (.slice (some ⟨bg, og, none⟩) m c)) rfl rfl (by kernel_rfl) (by kernel_rfl) (by kernel_rfl) (fun _ _ _ h => h) (by rfl) (fun W hW => by (obtain ⟨q0, q1, q2, q3⟩ := hW); go_simp) (by assumption) ?_
      simp only [List.setIfInBounds_toArray, List.set_cons_zero, List.set_cons_succ]
      refine takeH (i := 2) (v := (.int .i64 i)) rfl rfl (by kernel_rfl) (by kernel_rfl) (by kernel_rfl) (fun _ _ _ h => h) (by rfl) (fun W hW => by (skip); go_simp) (by assumption) ?_
      simp only [List.setIfInBounds_toArray, List.set_cons_zero, List.set_cons_succ]
      refine takeH (i := 3) (v := (.pointer (some ⟨bg, og + i, none⟩))) rfl rfl (by kernel_rfl) (by kernel_rfl) (by kernel_rfl) (fun _ _ _ h => h) (by rfl) (fun W hW => by (skip); go_simp) (by assumption) ?_
      simp only [List.setIfInBounds_toArray, List.set_cons_zero, List.set_cons_succ]
      refine takeH (i := 4) (v := (.slice (some ⟨bk, ok, none⟩) m ck)) rfl rfl (by kernel_rfl) (by kernel_rfl) (by kernel_rfl) (fun _ _ _ h => h) (by rfl) (fun W hW => by (obtain ⟨q0, q1, q2, q3⟩ := hW); go_simp) (by assumption) ?_
      simp only [List.setIfInBounds_toArray, List.set_cons_zero, List.set_cons_succ]
      refine takeH (i := 5) (v := (.int .i64 i)) rfl rfl (by kernel_rfl) (by kernel_rfl) (by kernel_rfl) (fun _ _ _ h => h) (by rfl) (fun W hW => by (skip); go_simp) (by assumption) ?_
      simp only [List.setIfInBounds_toArray, List.set_cons_zero, List.set_cons_succ]
      refine takeH (i := 6) (v := (.slice A5 i ck)) rfl rfl (by kernel_rfl) (by kernel_rfl) (by kernel_rfl) (fun _ _ _ h => h) (by rfl) (fun W hW => by (skip); go_simp) (by assumption) ?_
      simp only [List.setIfInBounds_toArray, List.set_cons_zero, List.set_cons_succ]
      refine takeH (i := 7) (v := (.agg #[.int .i64 p, .slice (some ⟨bg, og, none⟩) m c])) rfl rfl (by kernel_rfl) (by kernel_rfl) (by kernel_rfl) (fun _ _ _ h => h) (by rfl) (fun W hW => by (obtain ⟨q0, q1, q2, q3⟩ := hW); go_simp) (by assumption) ?_
      simp only [List.setIfInBounds_toArray, List.set_cons_zero, List.set_cons_succ]
      refine takeH (i := 8) (v := (.int .i64 i)) rfl rfl (by kernel_rfl) (by kernel_rfl) (by kernel_rfl) (fun _ _ _ h => h) (by rfl) (fun W hW => by (skip); go_simp) (by assumption) ?_
      simp only [List.setIfInBounds_toArray, List.set_cons_zero, List.set_cons_succ]
      refine takeH (i := 10) (v := (.int .i64 i)) rfl rfl (by kernel_rfl) (by kernel_rfl) (by kernel_rfl) (fun _ _ _ h => h) (by rfl) (fun W hW => by (skip); go_simp) (by assumption) ?_
      simp only [List.setIfInBounds_toArray, List.set_cons_zero, List.set_cons_succ]
      refine takeH (i := 12) (v := (.pointer (some ⟨w.heap.size, 1, none⟩))) rfl rfl (by kernel_rfl) (by kernel_rfl) (by kernel_rfl) (fun _ _ _ h => h) (by rfl) (fun W hW => by (skip); go_simp) (by assumption) ?_
      simp only [List.setIfInBounds_toArray, List.set_cons_zero, List.set_cons_succ]
      refine takeH (i := 13) (v := (.slice (some ⟨bg, og, none⟩) m c)) rfl rfl (by kernel_rfl) (by kernel_rfl) (by kernel_rfl) (fun _ _ _ h => h) (by rfl) (fun W hW => by (obtain ⟨q0, q1, q2, q3⟩ := hW); go_simp) (by assumption) ?_
      simp only [List.setIfInBounds_toArray, List.set_cons_zero, List.set_cons_succ]
      refine takeH (i := 14) (v := (.int .i64 i)) rfl rfl (by kernel_rfl) (by kernel_rfl) (by kernel_rfl) (fun _ _ _ h => h) (by rfl) (fun W hW => by (skip); go_simp) (by assumption) ?_
      simp only [List.setIfInBounds_toArray, List.set_cons_zero, List.set_cons_succ]
      refine takeH (i := 15) (v := (.pointer (some ⟨bg, og + i, none⟩))) rfl rfl (by kernel_rfl) (by kernel_rfl) (by kernel_rfl) (fun _ _ _ h => h) (by rfl) (fun W hW => by (skip); go_simp) (by assumption) ?_
      simp only [List.setIfInBounds_toArray, List.set_cons_zero, List.set_cons_succ]
      refine takeH (i := 16) (v := (.slice (some ⟨bk, ok, none⟩) m ck)) rfl rfl (by kernel_rfl) (by kernel_rfl) (by kernel_rfl) (fun _ _ _ h => h) (by rfl) (fun W hW => by (obtain ⟨q0, q1, q2, q3⟩ := hW); go_simp) (by assumption) ?_
      simp only [List.setIfInBounds_toArray, List.set_cons_zero, List.set_cons_succ]
      refine takeH (i := 17) (v := (.int .i64 i)) rfl rfl (by kernel_rfl) (by kernel_rfl) (by kernel_rfl) (fun _ _ _ h => h) (by rfl) (fun W hW => by (skip); go_simp) (by assumption) ?_
      simp only [List.setIfInBounds_toArray, List.set_cons_zero, List.set_cons_succ]
      refine takeH (i := 18) (v := (.pointer (some ⟨bk, ok + i, none⟩))) rfl rfl (by kernel_rfl) (by kernel_rfl) (by kernel_rfl) (fun _ _ _ h => h) (by rfl) (fun W hW => by (skip); go_simp) (by assumption) ?_
      simp only [List.setIfInBounds_toArray, List.set_cons_zero, List.set_cons_succ]
      refine takeH (i := 19) (v := (.int .i64 fk)) rfl rfl (by kernel_rfl) (by kernel_rfl) (by kernel_rfl) (fun _ _ _ h => h) (by rfl) (fun W hW => by (obtain ⟨q0, q1, q2, q3⟩ := hW); go_simp) (by assumption) ?_
      simp only [List.setIfInBounds_toArray, List.set_cons_zero, List.set_cons_succ]
      refine wpAnyH_ready (rs := [9]) (by kernel_rfl) (by simp) ?_
      refine (AllReadyH.cons rfl (fun K hK => ?_) AllReadyH.nil)
      go_simp
      go_at_call 110
      refine (HCOL.out _ HB0.out).mono ?_
      rintro e W1 ⟨rc, rfl, hvc, hbc⟩
      have HB1 := Lib.hid (HB0.out.trans (hbc.mono HB0.out.size))
      obtain ⟨A6, c6, rfl, -⟩ := hvc.form
      obtain ⟨A7, hr7, hV7⟩ := cut_pre hvc (k := i) (by omega)
      have HV7 := Lib.hid hV7.new_lt
      have HV51 := Lib.hid (HV5.out.on HB1.out)
      have HG1 := Lib.hid (HG.out.on HB1.out)
      have HX1 := Lib.hid (HX.out.below HB1.out HX.out.lt)
      have HR1 := Lib.hid (HR.out.below HB1.out HR.out.lt)
      have HBW := Lib.hid (HB.out.trans (HB1.out.mono HB.out.size))
      refine hK.out _ _ (HK2.out _ HB1.out) (fun hHeld => ?_)
      clear hK K hvc hbc hV7
      try simp only [Act.put, List.setIfInBounds_toArray, List.set_cons_zero, List.set_cons_succ]
      refine takeH (i := 11) (v := (.slice A7 i c6)) rfl rfl (by kernel_rfl) (by kernel_rfl) (by kernel_rfl) (fun _ _ _ h => h) (by rfl) (fun W hW => by (skip); go_simp) (by assumption) ?_
      simp only [List.setIfInBounds_toArray, List.set_cons_zero, List.set_cons_succ]
      refine takeH (i := 20) (v := (.slice A5 i ck)) rfl rfl (by kernel_rfl) (by kernel_rfl) (by kernel_rfl) (fun _ _ _ h => h) (by rfl) (fun W hW => by (skip); go_simp) (by assumption) ?_
      simp only [List.setIfInBounds_toArray, List.set_cons_zero, List.set_cons_succ]
      refine takeH (i := 21) (v := (.slice A7 i c6)) rfl rfl (by kernel_rfl) (by kernel_rfl) (by kernel_rfl) (fun _ _ _ h => h) (by rfl) (fun W hW => by (skip); go_simp) (by assumption) ?_
      simp only [List.setIfInBounds_toArray, List.set_cons_zero, List.set_cons_succ]
      refine takeH (i := 22) (v := (.int .i64 fk)) rfl rfl (by kernel_rfl) (by kernel_rfl) (by kernel_rfl) (fun _ _ _ h => h) (by rfl) (fun W hW => by (skip); go_simp) (by assumption) ?_
      simp only [List.setIfInBounds_toArray, List.set_cons_zero, List.set_cons_succ]
      clear hr5 hr7 HK2 HCOL HV5 HG HX HR HB HB0 HB1
      refine wpAnyH_done (by kernel_rfl) ?_ _
      clear HA
      have hHP := HX1.out.cell (i := 0) rfl
      have hb0 := HR1.out.cell (i := 0) rfl
      have hb1 := HR1.out.cell (i := 1) rfl
      have hw1 : IntKind.i64.wrap (p - fk) = p - fk := IntWalk.i64_in _ ⟨by omega, by omega⟩
      have hne : (p != 0) = true := by simp; omega
      have hne0 : ¬ p = 0 := by omega
      have hr : (p - fk).tmod p = (p - fk) % p := Int.tmod_eq_emod_of_nonneg (by omega)
      have hq1 : 0 ≤ (p - fk) % p := Int.emod_nonneg _ (by omega)
      have hq2 : (p - fk) % p < p := Int.emod_lt_of_pos _ (by omega)
      have hw3 : IntKind.i64.wrap ((p - fk) % p) = (p - fk) % p := IntWalk.i64_in _ ⟨by omega, by omega⟩
      have hz : (p - fk) % p = sK f i 1 % p := by
        have h1 := sub_mod (p := p) fk
        rw [Int.emod_eq_of_lt hfk.1 hfk.2] at h1
        rw [h1]
        show (-fk) % p = (- f i i) % p
        rw [HFKE.out]
      generalize (p - fk) % p = z0 at hr hq1 hq2 hw3 hz
      have HZ := Lib.hid hz
      have HJ0 := Lib.hid (show SerJ W1 p i f 0 (.slice (some ⟨W1.heap.size, 0, none⟩) 2 2) (.slice A5 i ck) (W1.alloc (.cells #[.int .i64 1, .int .i64 z0] 3)) from by
        have hB : Below W1.heap.size W1 (W1.alloc (.cells #[.int .i64 1, .int .i64 z0] 3)) := (Below.refl _ _).alloc (Nat.le_refl _) _
        refine ⟨Nat.zero_le _, hB, ?_, ?_⟩
        · have h2 := World.ownsRow_lit (base := W1.heap.size) (e := 3) (size := 1) W1 #[.int .i64 1, .int .i64 z0] 2 (Nat.le_refl _) (by decide) rfl
          have e : serL p f i 0 = [1, z0] := by
            show [sK f i 0 % p, sK f i 1 % p] = _
            rw [← HZ.out, show sK f i 0 = 1 from rfl, Int.emod_eq_of_lt (by omega) (by omega)]
          unfold OwnsI
          rw [e]
          exact h2
        · refine (HV51.out.keep (fun b hb => ⟨by simp; omega, fun e => by simp [Value.ownBlock] at e; omega⟩) (fun q hq => hB.cell hq) (fun j hj => ?_))
          show f i j = f i j % p
          rw [Int.emod_eq_of_lt (HFK.out j (by omega)).1 (HFK.out j (by omega)).2])
      clear hz HV51 HFKE
      go_wp2
      generalize W1.alloc (.cells #[.int .i64 1, .int .i64 z0] 3) = W2 at HJ0 ⊢
      clear hHP hb0 hb1 hw1 hr hq1 hq2 hw3 HZ hHeld HFK
      go_loopw [8, 11, 62] (fun r l t wr => ∃ q : Nat, t = .int .i64 q ∧ SerJ W1 p i f q l r wr) (fun _ _ t _ => i - (intOf t).toNat)
      case atStart => exact ⟨0, rfl, HJ0.out⟩
      case round =>
        obtain ⟨q, rfl, hJ⟩ := hrel
        rename World => wj
        have hq := hJ.le
        obtain ⟨Al, cl, hl⟩ := hJ.own.form
        rw [serL_len] at hl
        subst hl
        obtain ⟨Ar, cr, rfl, -⟩ := hJ.rv.form
        by_cases hql : q < i
        · have hd : decide ((q : Int) < (i : Int)) = true := decide_eq_true (by omega)
          have HJ := Lib.hid hJ.drew
          have HKP := Lib.hid (fun (W : World) (hb : Below W1.heap.size W1 W) => (show W.cell? ⟨w.heap.size, 0, none⟩ = some (.int .i64 p) from (HX1.out.below hb HX1.out.lt).cell (i := 0) rfl))
          have hdot := dot_any (.slice Ar i cr) (.slice A7 i c6) i i (fun j => rowP f i q j % p) (fun a => f a i) p wj.drew (by omega) (Nat.le_refl _) (hJ.drew.rv.more fun b hb => hb.1) (HV7.out.on hJ.drew.b) (by omega) hp1 (fun j _ => ⟨Int.emod_nonneg _ (by omega), Int.emod_lt_of_pos _ (by omega)⟩) HFC.out
          have hys := sK_mod (p := p) f i q
          generalize hdv : sumTo (fun j => rowP f i q j % p * f j i) i % p = dv at hdot hys
          have hdv1 : 0 ≤ dv ∧ dv < p := by rw [← hdv]; exact ⟨Int.emod_nonneg _ (by omega), Int.emod_lt_of_pos _ (by omega)⟩
          clear hdv
          have hw1 : IntKind.i64.wrap (p - dv) = p - dv := IntWalk.i64_in _ ⟨by omega, by omega⟩
          have hr : (p - dv).tmod p = (p - dv) % p := Int.tmod_eq_emod_of_nonneg (by omega)
          have hq1 : 0 ≤ (p - dv) % p := Int.emod_nonneg _ (by omega)
          have hq2 : (p - dv) % p < p := Int.emod_lt_of_pos _ (by omega)
          have hw3 : IntKind.i64.wrap ((p - dv) % p) = (p - dv) % p := IntWalk.i64_in _ ⟨by omega, by omega⟩
          generalize (p - dv) % p = y at hys hr hq1 hq2 hw3
          have HYS := Lib.hid hys
          have HDOT := Lib.hid hdot
          have HS0 := Lib.hid (HKP.out _ hJ.drew.b)
          clear hJ hdot hys HJ0
          go_wp2_with fail
          refine wp_region_held_drew (S := (fun W => W.cell? ⟨w.heap.size, 0, none⟩ = some (.int .i64 p))) (by kernel_rfl) HS0.out (fun hHeld => ?_)
          clear HS0 hd
          generalize wj.drew = W0 at HJ HDOT hHeld ⊢
          refine takeH (i := 0) (v := (.slice Al (q + 2) cl)) rfl rfl (by kernel_rfl) (by kernel_rfl) (by kernel_rfl) (fun _ _ _ h => h) (by rfl) (fun W hW => by (skip); go_simp) (by assumption) ?_
          simp only [List.setIfInBounds_toArray, List.set_cons_zero, List.set_cons_succ]
          refine takeH (i := 1) (v := (.pointer (some ⟨w.heap.size, 0, none⟩))) rfl rfl (by kernel_rfl) (by kernel_rfl) (by kernel_rfl) (fun _ _ _ h => h) (by rfl) (fun W hW => by (skip); go_simp) (by assumption) ?_
          simp only [List.setIfInBounds_toArray, List.set_cons_zero, List.set_cons_succ]
          refine takeH (i := 2) (v := (.int .i64 p)) rfl rfl (by kernel_rfl) (by kernel_rfl) (by kernel_rfl) (fun _ _ _ h => h) (by rfl) (fun W hW => by (skip); go_simp) (by assumption) ?_
          simp only [List.setIfInBounds_toArray, List.set_cons_zero, List.set_cons_succ]
          refine takeH (i := 3) (v := (.slice Ar i cr)) rfl rfl (by kernel_rfl) (by kernel_rfl) (by kernel_rfl) (fun _ _ _ h => h) (by rfl) (fun W hW => by (skip); go_simp) (by assumption) ?_
          simp only [List.setIfInBounds_toArray, List.set_cons_zero, List.set_cons_succ]
          refine takeH (i := 4) (v := (.slice A7 i c6)) rfl rfl (by kernel_rfl) (by kernel_rfl) (by kernel_rfl) (fun _ _ _ h => h) (by rfl) (fun W hW => by (skip); go_simp) (by assumption) ?_
          simp only [List.setIfInBounds_toArray, List.set_cons_zero, List.set_cons_succ]
          refine takeH (i := 5) (v := (.pointer (some ⟨w.heap.size, 0, none⟩))) rfl rfl (by kernel_rfl) (by kernel_rfl) (by kernel_rfl) (fun _ _ _ h => h) (by rfl) (fun W hW => by (skip); go_simp) (by assumption) ?_
          simp only [List.setIfInBounds_toArray, List.set_cons_zero, List.set_cons_succ]
          refine takeH (i := 6) (v := (.int .i64 p)) rfl rfl (by kernel_rfl) (by kernel_rfl) (by kernel_rfl) (fun _ _ _ h => h) (by rfl) (fun W hW => by (skip); go_simp) (by assumption) ?_
          simp only [List.setIfInBounds_toArray, List.set_cons_zero, List.set_cons_succ]
          refine takeH (i := 9) (v := (.pointer (some ⟨w.heap.size, 0, none⟩))) rfl rfl (by kernel_rfl) (by kernel_rfl) (by kernel_rfl) (fun _ _ _ h => h) (by rfl) (fun W hW => by (skip); go_simp) (by assumption) ?_
          simp only [List.setIfInBounds_toArray, List.set_cons_zero, List.set_cons_succ]
          refine takeH (i := 10) (v := (.int .i64 p)) rfl rfl (by kernel_rfl) (by kernel_rfl) (by kernel_rfl) (fun _ _ _ h => h) (by rfl) (fun W hW => by (skip); go_simp) (by assumption) ?_
          simp only [List.setIfInBounds_toArray, List.set_cons_zero, List.set_cons_succ]
          refine wpAnyH_ready (rs := [7]) (by kernel_rfl) (by simp) ?_
          refine (AllReadyH.cons rfl (fun K hK => ?_) AllReadyH.nil)
          go_simp
          go_at_call 154
          refine HDOT.out.mono ?_
          rintro e W3 ⟨rfl, hb3⟩
          have hb13 := HJ.out.b.trans (hb3.mono HJ.out.b.size)
          have HB3 := Lib.hid hb3
          have HB13 := Lib.hid hb13
          have HO3 := Lib.hid (HJ.out.own.below hb3)
          refine hK.out _ _ (HKP.out _ hb13) (fun hHeld => ?_)
          clear hK K hb3 HDOT
          try simp only [Act.put, List.setIfInBounds_toArray, List.set_cons_zero, List.set_cons_succ]
          refine takeH (i := 8) (v := (.int .i64 (p - dv))) rfl rfl (by kernel_rfl) (by kernel_rfl) (by kernel_rfl) (fun _ _ _ h => h) (by rfl) (fun W hW => by (skip); go_simp) (by assumption) ?_
          simp only [List.setIfInBounds_toArray, List.set_cons_zero, List.set_cons_succ]
          refine takeH (i := 11) (v := (.int .i64 y)) rfl rfl (by kernel_rfl) (by kernel_rfl) (by kernel_rfl) (fun _ _ _ h => h) (by rfl) (fun W hW => by (skip); go_simp) (by assumption) ?_
          simp only [List.setIfInBounds_toArray, List.set_cons_zero, List.set_cons_succ]
          have HOA := Lib.hid (HO3.out.alloc (.cells #[.int .i64 y] 3))
          have HCN := Lib.hid (cell_one_new W3 (.int .i64 y) 3)
          have hsz3 : W1.heap.size ≤ W3.heap.size := hb13.size
          have hlen : (serL p f i q).length + 1 ≤ 70 := by rw [serL_len]; omega
          refine wpAnyH_ready (rs := [12]) (by kernel_rfl) (by simp) ?_
          refine (AllReadyH.cons rfl (fun K hK => ?_) AllReadyH.nil)
          go_simp
          refine hK.out _ _ (HKP.out _ (hb13.alloc hb13.size (.cells #[.int .i64 y] 3))) (fun hHeld => ?_)
          clear hK K hb13
          try simp only [Act.put, List.setIfInBounds_toArray, List.set_cons_zero, List.set_cons_succ]
          refine wpAnyH_ready (rs := [13]) (by kernel_rfl) (by simp) ?_
          refine (AllReadyH.cons rfl (fun K hK => ?_) AllReadyH.nil)
          refine op_append_own (.tmp 64) (.tmp 76) 28 rfl W1.heap.size 3 i0 (.int .i64 0) 1 8 Try.underlying28 hi0 hz0 hz1 hz2 rfl (by decide) (.slice Al (q + 2) cl) (q + 2) (icells (serL p f i q)) rfl (by have := HOA.out; rw [serL_len] at this; exact this) ⟨W3.heap.size, 0, none⟩ 1 1 [.int .i64 y] rfl rfl HCN.out (by simp [Value.oneCell']) (by unfold maxLen; omega) (by omega) (by simp; omega) ?_
          intro v1 W4 hown hgrow _
          obtain ⟨A8, c8, rfl⟩ := owned_form hown
          have hz4 : (W3.alloc (.cells #[.int .i64 y] 3)).heap.size = W3.heap.size + 1 := by simp
          have hsz4 := hgrow.size
          have hB34 : Below W1.heap.size W3 W4 := ((Below.refl W1.heap.size W3).alloc hsz3 _).grown hgrow (by omega) (fun g hg => (HO3.out.lt g hg).1)
          have hB14 := HB13.out.trans hB34
          have hrv : Vec W4 (· < W4.heap.size) (.slice Ar i cr) i (fun j => rowP f i q j % p) := HJ.out.rv.keep (fun b hb => by have := hb.1; have := HB3.out.size; show b < W4.heap.size; omega) (fun a ha => World.cell?_of_block (by
            have h1 := ha.1
            have h2 := HB3.out.size
            rw [hgrow.block a.block (by omega) (by exact fun e => ha.2 e.symm), (World.grownBy_alloc W3 (.cells #[.int .i64 y] 3) none).block a.block (by omega) (by simp)]
            exact HB3.out.block a.block h1)) (fun _ _ => rfl)
          have HAP := Lib.hid (apply_any (.slice Ar i cr) (.slice A4 i c4) i i (fun j => rowP f i q j % p) f p W4 (by omega) (by omega) (by omega) hrv (HG1.out.on hB14) hp2 hp1 (fun j _ => ⟨Int.emod_nonneg _ (by omega), Int.emod_lt_of_pos _ (by omega)⟩) HFG.out)
          have hb0 := (HR1.out.below hB14 HR1.out.lt).cell (i := 0) rfl
          have hb1 := (HR1.out.below hB14 HR1.out.lt).cell (i := 1) rfl
          have HOWN := Lib.hid hown
          have HGRW := Lib.hid hgrow
          refine hK.out _ _ (HKP.out _ hB14) (fun hHeld => ?_)
          clear hK K hown hgrow hB34 hB14 hrv hz4 hsz4 HOA HCN
          try simp only [Act.put, List.setIfInBounds_toArray]
          refine takeH (i := 14) (v := (.slice A8 (q + 2 + 1) c8)) rfl rfl (by kernel_rfl) (by kernel_rfl) (by kernel_rfl) (fun _ _ _ h => h) (by rfl) (fun W hW => by (skip); go_simp) (by assumption) ?_
          simp only [List.setIfInBounds_toArray, List.set_cons_zero, List.set_cons_succ]
          refine wpAnyH_done (by kernel_rfl) ?_ _
          go_wp2_with fail
          refine HAP.out.mono ?_
          rintro e W5 ⟨r1, rfl, hv, hb⟩
          have HN := Lib.hid (serj_step HJ.out hql HB3.out HO3.out HYS.out HOWN.out HGRW.out hb (hv.congr fun j _ => rowP_mod f i q j))
          obtain ⟨A9, c9, rfl, -⟩ := hv.form
          clear hv hb HAP
          go_wp2_with fail
          go_roundw
          case rel => exact ⟨q + 1, by go_num, HN.out⟩
          case measure => simp [intOf]; omega
        · have hqi : q = i := by omega
          subst hqi
          have hd : decide ((q : Int) < (q : Int)) = false := decide_eq_false (by omega)
          have hE : Vec wj (New w wj) (.slice Al (q + 2) cl) (q + 2) (fun j => sK f q j % p) := by
            have := hJ.own.vec (S := New w wj) (fun g hg => ⟨by have := (hJ.own.lt g hg).1; have := HBW.out.size; omega, (hJ.own.lt g hg).2⟩)
            rw [serL_len] at this
            exact this.congr fun j hj => serL_get p f q q j hj
          have HE := Lib.hid hE
          have HBE := Lib.hid (HBW.out.trans (hJ.b.mono HBW.out.size))
          clear hJ hE
          go_wp2
          go_ret
          exact ⟨_, rfl, HE.out, HBE.out⟩
end Go.Proofs.Ytokiejichnnmnaa

/- matrix.Poly. -/
namespace Go.Proofs.Ytokiejichnnmnaa
open Go Go.RowKit Num Go.Shelf

theorem reverse_any (base g cap : Nat) (zs : List Int) (w : World) (hl : zs.length ≤ 1000) (hO : w.ownsRow base 3 1 (.slice (some ⟨g, 0, none⟩) zs.length cap) zs.length (icells zs)) :
    Calls Try.prog 115 #[.slice (some ⟨g, 0, none⟩) zs.length cap] w fun e w' => e = .returned (.tuple #[]) ∧ w'.ownsRow base 3 1 (.slice (some ⟨g, 0, none⟩) zs.length cap) zs.length (icells zs.reverse) ∧ w.grownBy w' (some g) := by
  rcases hO.2 with ⟨h0, _⟩ | ⟨g', cap', cur, hv, hb, hg, h1, h2, h3, ht⟩
  · cases h0
  · injection hv with e1 _ e3
    injection e1 with e1
    injection e1 with e1
    subst e1; subst e3
    rw [Nat.mul_one] at ht
    refine (Any.slices_Reverse_int Try.laysRev g 0 cap zs w (holds_of_blockI hg ht) (by omega)).mono ?_
    rintro e w' ⟨he, n, rfl⟩
    have hr := ownsRow_sortedI (n := n) (os := #[]) (ss := zs) (ts := zs.reverse) (by simp) hb hg h1 h2 h3
    have hq := grownBy_sortedI (w := w) (g := g) (n := n) (os := #[]) zs.reverse.toArray
    rw [Go.Sort.grow_empty] at hr hq
    exact ⟨he, hr, hq⟩

theorem prV_sum {p : Int} (g f : Nat → Int) (j : Nat) : ∀ i, Cg p (prV p g f i j) (sumTo (fun a => if a ≤ j then g a * f (j - a) else 0) i)
  | 0 => rfl
  | i + 1 => by
    have ih := prV_sum (p := p) g f j i
    show Cg p (if i ≤ j then (prV p g f i j + g i * f (j - i)) % p else prV p g f i j) (sumTo (fun a => if a ≤ j then g a * f (j - a) else 0) i + (if i ≤ j then g i * f (j - i) else 0))
    by_cases h : i ≤ j
    · rw [if_pos h, if_pos h]
      exact (Cg.mod p _).trans (ih.add (.refl p _))
    · rw [if_neg h, if_neg h, Int.add_zero]
      exact ih
/-- The product with the factor of the next row. -/
theorem prV_berk {p : Int} (hp : 0 < p) (f : Nat → Nat → Int) (k j : Nat) (hj : j < k + 2) : prV p (fun j => berk f k j % p) (fun j => sK f k j % p) (k + 1) j = berk f (k + 1) j % p := by
  have h1 := prV_sum (p := p) (fun j => berk f k j % p) (fun j => sK f k j % p) j (k + 1)
  have h2 : Cg p (sumTo (fun a => if a ≤ j then (berk f k a % p) * (sK f k (j - a) % p) else 0) (k + 1)) (sumTo (fun a => if a ≤ j then berk f k a * sK f k (j - a) else 0) (k + 1)) := sumTo_cg _ fun a _ => by
    split
    · exact (Cg.mod p _).mul (Cg.mod p _)
    · rfl
  have h3 : ∀ d e : Nat, (∀ a, d ≤ a → a < d + e → ¬ a ≤ j) → sumTo (fun a => if a ≤ j then berk f k a * sK f k (j - a) else 0) (d + e) = sumTo (fun a => if a ≤ j then berk f k a * sK f k (j - a) else 0) d := fun d e => by
    induction e with
    | zero => intro _; rfl
    | succ e ih =>
      intro h
      rw [← Nat.add_assoc, sumTo, ih (fun a h1 h2 => h a h1 (by omega)), if_neg (h (d + e) (by omega) (by omega)), Int.add_zero]
  have h4 : berk f (k + 1) j = sumTo (fun a => if a ≤ j then berk f k a * sK f k (j - a) else 0) (k + 1) := by
    show sumTo (fun a => berk f k a * sK f k (j - a)) (j + 1) = _
    have e1 : sumTo (fun a => berk f k a * sK f k (j - a)) (j + 1) = sumTo (fun a => if a ≤ j then berk f k a * sK f k (j - a) else 0) (j + 1) := sumTo_congr _ fun a ha => by rw [if_pos (by omega)]
    rw [e1]
    by_cases h : j ≤ k
    · have := h3 (j + 1) (k - j) fun a h1 _ => by omega
      rw [show j + 1 + (k - j) = k + 1 by omega] at this
      exact this.symm
    · obtain rfl : j = k + 1 := by omega
      rw [sumTo, if_pos (Nat.le_refl _), (berk_deg f k).1 (k + 1) (by omega), Int.zero_mul, Int.add_zero]
  rw [h4]
  have h5 := prV_in hp (fun j => berk f k j % p) (fun j => sK f k j % p) (k + 2) (k + 1) j hj
  have h6 : prV p (fun j => berk f k j % p) (fun j => sK f k j % p) (k + 1) j % p = sumTo (fun a => if a ≤ j then berk f k a * sK f k (j - a) else 0) (k + 1) % p := h1.trans h2
  rwa [Int.emod_eq_of_lt h5.1 h5.2] at h6

/-- What Poly gives: the coefficients, the power 0 first. -/
def polyF (p : Int) (f : Nat → Nat → Int) (m j : Nat) : Int := berk f m (m - j) % p
def PolyP (w : World) (x : Int) (p : Int) (m : Nat) (f : Nat → Nat → Int) (e : Ending) (w' : World) : Prop :=
  Below w.heap.size w w' ∧ (x ≠ 0 → e = .returned (.tuple #[.slice none 0 0, .int .i64 x])) ∧ (x = 0 → ∃ r, e = .returned (.tuple #[r, .int .i64 0]) ∧ Vec w' (New w w') r (m + 1) (polyF p f m))

theorem berkL_row {w : World} {g n : Nat} {F : Nat → Int} (B : Nat) (hg : B ≤ g) (hr : Row w g 3 (CTab n (iv F))) (hn : n ≤ 1000) : w.ownsRow B 3 1 (.slice (some ⟨g, 0, none⟩) n n) n (icells ((List.range n).map F)) := by
  have e : (CTab n (iv F)).toList = icells ((List.range n).map F) := by
    apply List.ext_getElem?
    intro j
    by_cases hj : j < n
    · simp [CTab, icells, iv, hj]
    · simp [CTab, icells, iv, hj]
  refine ⟨by simp [icells], .inr ⟨g, n, CTab n (iv F), rfl, hg, hr, Nat.le_refl _, by unfold maxLen; omega, by simp [CTab], ?_⟩⟩
  rw [List.take_of_length_le (by simp [CTab]), e]

set_option maxRecDepth 100000 in
set_option maxHeartbeats 2000000 in
theorem Poly_any (ra : Value) (m : Nat) (n : Nat → Nat) (f : Nat → Nat → Int) (p : Int) (w : World) (hm : m ≤ 1000000) (hn : ∀ i, i < m → n i ≤ 1000000) (ha : Grid w (· < w.heap.size) ra m n f) (x : Int) (hx : x = chkS (chkM p m n f) m (n 0)) :
    Calls Try.prog 52 #[.agg #[.int .i64 p, ra]] w (PolyP w x p m f) := by
  have HC := fun W h => Lib.hid (checkSquare_any ra m n f p W hm hn h)
  rw [← hx] at HC
  have HA := Lib.hid ha
  obtain ⟨A, c, rfl, hcm⟩ := ha.form
  have HBX := Lib.hid (row_new (W := w) rfl 61 #[.int .i64 p, .slice A m c])
  have HB1 := Lib.hid (show Below w.heap.size w (w.alloc (.cells #[.int .i64 p, .slice A m c] 61)) from (Below.refl _ _).alloc (Nat.le_refl _) _)
  by_cases hx0 : x = 0
  · subst hx0
    obtain ⟨h1, h2⟩ := chkS_zero hx.symm
    obtain ⟨hmod, g1, g2, g3, g4, g5⟩ := chkM_zero h1
    obtain ⟨hp2, hp4, hp6⟩ := modB_true hmod
    have hIN : InG p m m f := fun i hi => by have := (g5 i hi).2; rw [(g5 i hi).1, ← h2] at this; exact this
    have HIN := Lib.hid hIN
    have HA2 := Lib.hid (grid_reg HA.out (fun i hi => ((g5 i hi).1).trans h2.symm))
    clear ha hn g5 hmod h1 hx h2 hIN hp6
    go_enter Try.func52, Try.ntmps52
    go_wp2_with fail
    refine (HC _ (HA.out.on HB1.out)).out.mono ?_
    rintro e w4 ⟨rfl, hb4⟩
    have HB4 := Lib.hid (HB1.out.trans (hb4.mono HB1.out.size))
    have HR4 := Lib.hid (HBX.out.below hb4 HBX.out.lt)
    have c1 := HR4.out.cell (i := 1) rfl
    have hlt4 := HR4.out.lt
    have hB5 := HB4.out.alloc HB4.out.size (.cells #[.int .i64 1] 3)
    have hR5 := HR4.out.alloc (.cells #[.int .i64 1] 3)
    have hL5 : Row (w4.alloc (.cells #[.int .i64 1] 3)) w4.heap.size 3 (CTab (0 + 1) (iv (fun j => berk f 0 j % p))) := by
      have := row_new (W := w4) rfl 3 #[.int .i64 1]
      have e : CTab (0 + 1) (iv (fun j => berk f 0 j % p)) = #[.int .i64 1] := by
        have e0 : berk f 0 0 % p = 1 := by rw [berk_zero]; exact Int.emod_eq_of_lt (by omega) (by omega)
        rw [CTab_congr (0 + 1) _ (fun _ => .int .i64 1) fun i hi => by
          obtain rfl : i = 0 := by omega
          show Value.int .i64 (berk f 0 0 % p) = _
          rw [e0]]
        rfl
      rw [e]; exact this
    have hlw : w.heap.size < w4.heap.size := hlt4
    clear hb4
    go_wp2_with fail
    clear c1
    generalize hgl : w4.heap.size = gl at hL5 hlw ⊢
    clear hgl
    generalize w4.alloc (.cells #[.int .i64 1] 3) = w5 at hB5 hR5 hL5 ⊢
    have HB5 := Lib.hid hB5
    have HR5 := Lib.hid hR5
    have HL5 := Lib.hid hL5
    clear hB5 hR5 hL5 HB4 HR4 HBX HB1 HC hlt4
    go_loopw [5, 16] (fun l t wr => ∃ k g : Nat, l = .slice (some ⟨g, 0, none⟩) (k + 1) (k + 1) ∧ t = .int .i64 k ∧ k ≤ m ∧ w.heap.size < g ∧ Row wr g 3 (CTab (k + 1) (iv (fun j => berk f k j % p))) ∧ Row wr w.heap.size 61 #[.int .i64 p, .slice A m c] ∧ Below w.heap.size w wr) (fun _ t _ => m - (intOf t).toNat)
    case atStart => exact ⟨0, gl, rfl, rfl, Nat.zero_le _, hlw, HL5.out, HR5.out, HB5.out⟩
    case round =>
      obtain ⟨k, g, rfl, rfl, hk, hg, hL, hR, hB⟩ := hrel
      by_cases hlt : k < m
      · have d1 : decide (k < m) = true := decide_eq_true hlt
        have d2 : decide ((k : Int) < (m : Int)) = true := decide_eq_true (by omega)
        have HL := Lib.hid (show Row wr.drew g 3 (CTab (k + 1) (iv (fun j => berk f k j % p))) from hL)
        have HR := Lib.hid (show Row wr.drew w.heap.size 61 #[.int .i64 p, .slice A m c] from hR)
        have HB := Lib.hid (below_drew hB)
        have HSE := Lib.hid (series_any (.slice A m c) m k f p wr.drew (by omega) hlt hp2 (by omega) (HA2.out.on HB.out) HIN.out)
        clear hL hR hB HL5 HR5 HB5
        go_wp2_with fail
        refine wp_region_held_drew (S := (fun W => W.cell? ⟨w.heap.size, 0, none⟩ = some (.int .i64 p) ∧ W.cell? ⟨w.heap.size, 1, none⟩ = some (.slice A m c))) (by kernel_rfl) ⟨HR.out.cell (i := 0) rfl, HR.out.cell (i := 1) rfl⟩ (fun hHeld => ?_)
        generalize wr.drew = W0 at HL HR HB HSE hHeld ⊢
        refine takeH (i := 0) (v := (.slice (some ⟨g, 0, none⟩) (k + 1) (k + 1))) rfl rfl (by kernel_rfl) (by kernel_rfl) (by kernel_rfl) (fun _ _ _ h => h) (by rfl) (fun W hW => by (skip); go_simp) (by assumption) ?_
        simp only [List.setIfInBounds_toArray, List.set_cons_zero, List.set_cons_succ]
        refine takeH (i := 1) (v := (.agg #[.int .i64 p, .slice A m c])) rfl rfl (by kernel_rfl) (by kernel_rfl) (by kernel_rfl) (fun _ _ _ h => h) (by rfl) (fun W hW => by (obtain ⟨q0, q1⟩ := hW); go_simp) (by assumption) ?_
        simp only [List.setIfInBounds_toArray, List.set_cons_zero, List.set_cons_succ]
        refine takeH (i := 2) (v := (.int .i64 k)) rfl rfl (by kernel_rfl) (by kernel_rfl) (by kernel_rfl) (fun _ _ _ h => h) (by rfl) (fun W hW => by (skip); go_simp) (by assumption) ?_
        simp only [List.setIfInBounds_toArray, List.set_cons_zero, List.set_cons_succ]
        refine takeH (i := 4) (v := (.pointer (some ⟨w.heap.size, 0, none⟩))) rfl rfl (by kernel_rfl) (by kernel_rfl) (by kernel_rfl) (fun _ _ _ h => h) (by rfl) (fun W hW => by (skip); go_simp) (by assumption) ?_
        simp only [List.setIfInBounds_toArray, List.set_cons_zero, List.set_cons_succ]
        refine takeH (i := 5) (v := (.int .i64 p)) rfl rfl (by kernel_rfl) (by kernel_rfl) (by kernel_rfl) (fun _ _ _ h => h) (by rfl) (fun W hW => by (obtain ⟨q0, q1⟩ := hW); go_simp) (by assumption) ?_
        simp only [List.setIfInBounds_toArray, List.set_cons_zero, List.set_cons_succ]
        refine wpAnyH_ready (rs := [3]) (by kernel_rfl) (by simp) ?_
        refine (AllReadyH.cons rfl (fun K hK => ?_) AllReadyH.nil)
        go_simp
        go_at_call 114
        refine HSE.out.mono ?_
        rintro e W1 ⟨r, rfl, hv, hb⟩
        obtain ⟨A1, c1, rfl, -⟩ := hv.form
        have hL1 := HL.out.below hb HL.out.lt
        have hR1 := HR.out.below hb HR.out.lt
        have hB1 := HB.out.trans (hb.mono HB.out.size)
        have HPR := Lib.hid (mprod_any (.slice (some ⟨g, 0, none⟩) (k + 1) (k + 1)) (.slice A1 (k + 2) c1) (k + 1) (k + 2) (fun j => berk f k j % p) (fun j => sK f k j % p) p W1 (by omega) (by omega) (by omega) (hL1.vec hL1.lt (Nat.le_refl _)) hv.new_lt (by omega) (by omega) (fun j _ => ⟨Int.emod_nonneg _ (by omega), Int.emod_lt_of_pos _ (by omega)⟩) (fun j _ => ⟨Int.emod_nonneg _ (by omega), Int.emod_lt_of_pos _ (by omega)⟩))
        have HR1 := Lib.hid hR1
        have HB1 := Lib.hid hB1
        refine hK.out _ _ ⟨hR1.cell (i := 0) rfl, hR1.cell (i := 1) rfl⟩ (fun hHeld => ?_)
        clear hK K hv hb hL1 hR1 hB1 HSE HL HR HB
        try simp only [Act.put, List.setIfInBounds_toArray, List.set_cons_zero, List.set_cons_succ]
        refine wpAnyH_ready (rs := [6]) (by kernel_rfl) (by simp) ?_
        refine (AllReadyH.cons rfl (fun K hK => ?_) AllReadyH.nil)
        go_simp
        go_at_call 113
        refine HPR.out.mono ?_
        rintro e W2 ⟨rfl, hrow, hb⟩
        have hgw : w.heap.size < W1.heap.size := HR1.out.lt
        have hR2 := HR1.out.below hb HR1.out.lt
        have HN := Lib.hid (show Row W2 W1.heap.size 3 (CTab (k + 1 + 1) (iv (fun j => berk f (k + 1) j % p))) from by
          rw [← CTab_congr (k + 1 + 1) (iv (prV p (fun j => berk f k j % p) (fun j => sK f k j % p) (k + 1))) (iv (fun j => berk f (k + 1) j % p)) fun j hj => by unfold iv; rw [prV_berk (by omega) f k j hj]]
          exact hrow)
        have HR2 := Lib.hid hR2
        have HB2 := Lib.hid (HB1.out.trans (hb.mono HB1.out.size))
        refine hK.out _ _ ⟨hR2.cell (i := 0) rfl, hR2.cell (i := 1) rfl⟩ (fun hHeld => ?_)
        clear hK K hrow hb hR2 HPR HR1 HB1
        try simp only [Act.put, List.setIfInBounds_toArray, List.set_cons_zero, List.set_cons_succ]
        generalize W1.heap.size = g2 at hgw HN ⊢
        refine takeH (i := 7) (v := (.slice (some ⟨g2, 0, none⟩) (k + 2) (k + 2))) rfl rfl (by kernel_rfl) (by kernel_rfl) (by kernel_rfl) (fun _ _ _ h => h) (by rfl) (fun W hW => by (skip); go_simp) (by assumption) ?_
        simp only [List.setIfInBounds_toArray, List.set_cons_zero, List.set_cons_succ]
        refine wpAnyH_done (by kernel_rfl) ?_ _
        go_wp2_with fail
        go_roundw
        case rel => exact ⟨k + 1, g2, by first | rfl | trivial, by go_num, by omega, hgw, HN.out, HR2.out, HB2.out⟩
        case measure => simp [intOf]; omega
      · have hkm : k = m := by omega
        subst hkm
        have d1 : decide (k < k) = false := decide_eq_false (by omega)
        have hO := berkL_row (w.heap.size) (by omega) hL (by omega)
        have hlen : ((List.range (k + 1)).map fun j => berk f k j % p).length = k + 1 := by simp
        have hrev := reverse_any w.heap.size g (k + 1) ((List.range (k + 1)).map fun j => berk f k j % p) wr (by omega) (by rw [hlen]; exact hO)
        rw [hlen] at hrev
        have HREV := Lib.hid hrev
        have HB := Lib.hid hB
        clear hL hR hB HL5 HR5 HB5 hO hrev
        go_wp2_with fail
        refine HREV.out.mono ?_
        rintro e W2 ⟨rfl, hown, hgr⟩
        have hbe : Below w.heap.size w W2 := HB.out.grown hgr HB.out.size (fun q e => by injection e with e; omega)
        have hvec : Vec W2 (New w W2) (.slice (some ⟨g, 0, none⟩) (k + 1) (k + 1)) (k + 1) (polyF p f k) := by
          have h9 : OwnsI W2 w.heap.size (.slice (some ⟨g, 0, none⟩) (k + 1) (k + 1)) (((List.range (k + 1)).map fun j => berk f k j % p).reverse) := by
            unfold OwnsI
            rw [List.length_reverse, hlen]
            exact hown
          have h10 := h9.vec (S := New w W2) (fun g hg => h9.lt g hg)
          rw [List.length_reverse, hlen] at h10
          refine h10.congr fun j hj => ?_
          have hjr : j < (((List.range (k + 1)).map fun j => berk f k j % p).reverse).length := by simp; omega
          rw [List.getD_eq_getElem?_getD, List.getElem?_eq_getElem hjr]
          simp [polyF]
        have HE := Lib.hid hvec
        have HBE := Lib.hid hbe
        clear hown hgr hbe hvec HREV
        go_wp2_with fail
        go_ret2
        exact ⟨HBE.out, fun h => absurd rfl h, fun _ => ⟨_, rfl, HE.out⟩⟩
  · have hd2 : (x != 0) = true := by simpa using hx0
    clear ha hn hx
    go_enter Try.func52, Try.ntmps52
    go_wp2_with fail
    refine (HC _ (HA.out.on HB1.out)).out.mono ?_
    rintro e w4 ⟨rfl, hb4⟩
    have HB4 := Lib.hid (HB1.out.trans (hb4.mono HB1.out.size))
    clear hb4
    go_wp2
    go_ret2
    exact ⟨HB4.out, fun _ => rfl, fun h => absurd h hx0⟩
end Go.Proofs.Ytokiejichnnmnaa

/- The law MatrixPoly: its mathematics (Horner's steps end at zero; the outer coefficients), and a matrix stored into an elder box. -/
namespace Go.Proofs.Ytokiejichnnmnaa
open Go Go.RowKit Num

theorem trS_sum (f : Nat → Nat → Int) : ∀ k, trS f k = sumTo (fun i => f i i) k
  | 0 => rfl
  | k + 1 => by rw [trS, trS_sum f k]; rfl
/-- Horner's steps, not reduced. -/
def horZ (A : Nat → Nat → Int) (n t i j : Nat) : Int := sumTo (fun m => powR A n i m j * berk A n (t - 1 - m)) t
theorem sumTo_swap (F : Nat → Nat → Int) (a : Nat) : ∀ b, sumTo (fun i => sumTo (fun j => F i j) b) a = sumTo (fun j => sumTo (fun i => F i j) a) b
  | 0 => sumTo_zero a fun _ _ => rfl
  | b + 1 => by
    show sumTo (fun i => sumTo (fun j => F i j) b + F i b) a = sumTo (fun j => sumTo (fun i => F i j) a) b + sumTo (fun i => F i b) a
    rw [sumTo_add, sumTo_swap F a b]
theorem horZ_succ (A : Nat → Nat → Int) (n t i j : Nat) (_hi : i < n) : horZ A n (t + 1) i j = sumTo (fun k => horZ A n t i k * A k j) n + berk A n t * oneF i j := by
  have h1 : sumTo (fun k => horZ A n t i k * A k j) n = sumTo (fun m => powR A n i (m + 1) j * berk A n (t - 1 - m)) t := by
    have e : sumTo (fun k => horZ A n t i k * A k j) n = sumTo (fun k => sumTo (fun m => powR A n i m k * berk A n (t - 1 - m) * A k j) t) n := sumTo_congr n fun k _ => by
      rw [sumTo_mulr]; rfl
    rw [e, sumTo_swap]
    refine sumTo_congr t fun m _ => ?_
    show _ = sumTo (fun k => powR A n i m k * A k j) n * berk A n (t - 1 - m)
    rw [← sumTo_mulr]
    refine sumTo_congr n fun k _ => ?_
    rw [Int.mul_assoc, Int.mul_comm (berk A n (t - 1 - m)), ← Int.mul_assoc]
  rw [h1]
  show sumTo (fun m => powR A n i m j * berk A n (t + 1 - 1 - m)) (t + 1) = _
  rw [sumTo_front]
  have h2 : sumTo (fun m => powR A n i (m + 1) j * berk A n (t + 1 - 1 - (m + 1))) t = sumTo (fun m => powR A n i (m + 1) j * berk A n (t - 1 - m)) t := sumTo_congr t fun m _ => by
    rw [show t + 1 - 1 - (m + 1) = t - 1 - m by omega]
  rw [h2]
  show (if i = j then 1 else 0) * berk A n (t + 1 - 1 - 0) + _ = _
  rw [show t + 1 - 1 - 0 = t by omega]
  unfold oneF
  by_cases e : i = j
  · rw [if_pos e, if_pos e.symm]; omega
  · rw [if_neg e, if_neg (Ne.symm e)]; omega
theorem horZ_end (A : Nat → Nat → Int) (n i j : Nat) (hi : i < n) (hj : j < n) : horZ A n (n + 1) i j = 0 := by
  have h := cayley_hamilton A n i j hi hj
  rw [← h]
  refine sumTo_congr _ fun m _ => ?_
  rw [show n + 1 - 1 - m = n - m by omega]
/-- What the law has behind t of Horner's steps. -/
def HorI (p : Int) (A : Nat → Nat → Int) (n t : Nat) (V : Nat → Nat → Int) : Prop := ∀ i, i < n → ∀ j, j < n → Cg p (V i j) (horZ A n t i j)
theorem HorI.start {p : Int} (A : Nat → Nat → Int) (n : Nat) (k : Nat) (hk : k = 0) : HorI p A n 0 (fun i => axpy (k : Nat) p (fun _ => 0) (oneF i)) := fun i _ j _ => by
  subst hk
  show (0 + ((0 : Nat) : Int) * oneF i j) % p % p = 0 % p
  simp
theorem HorI.step {p : Nat} (hp : 2 ≤ p) {A V : Nat → Nat → Int} {n t : Nat} (h : HorI (p : Int) A n t V) (c : Int) (hc : c = berk A n t % (p : Int)) :
    HorI (p : Int) A n (t + 1) (fun i => axpy 1 p (mulF p n V A i) (axpy (resV c p : Nat) p (fun _ => 0) (oneF i))) := fun i hi j hj => by
  rw [horZ_succ A n t i j hi]
  show Cg (p : Int) ((mulF p n V A i j + 1 * ((0 + (resV c p : Nat) * oneF i j) % (p : Int))) % (p : Int)) _
  refine (Cg.mod _ _).trans (Cg.add ?_ ?_)
  · refine (Cg.mod _ _).trans ?_
    show Cg (p : Int) (dotTo (V i) A j n) _
    rw [dotTo_sum]
    exact sumTo_cg n fun k hk => (h i hi k hk).mul (.refl _ _)
  · rw [Int.one_mul, Int.zero_add]
    refine (Cg.mod _ _).trans (Cg.mul ?_ (.refl _ _))
    rw [resV_cast c hp]
    refine (Cg.mod _ _).trans ?_
    rw [hc]
    exact Cg.mod _ _
theorem HorI.done {p : Int} {A V : Nat → Nat → Int} {n : Nat} (h : HorI p A n (n + 1) V) (hV : InG p n n V) (i j : Nat) (hi : i < n) (hj : j < n) : V i j = 0 := by
  have h1 := h i hi j hj
  rw [horZ_end A n i j hi hj] at h1
  have h2 := hV i hi j hj
  exact h1.eq h2 ⟨Int.le_refl _, by omega⟩
/-- The first coefficient is 1. -/
theorem polyF_top {p : Int} (hp : 1 < p) (f : Nat → Nat → Int) (n : Nat) : polyF p f n n = 1 := by
  unfold polyF
  rw [Nat.sub_self, berk_zero]
  exact Int.emod_eq_of_lt (by omega) hp
theorem polyF_in {p : Int} (hp : 0 < p) (f : Nat → Nat → Int) (n k : Nat) : InP p k (polyF p f n) := fun _ _ => ⟨Int.emod_nonneg _ (by omega), Int.emod_lt_of_pos _ hp⟩
/-- The next one is the negative trace. -/
theorem polyF_trace {p : Int} (f : Nat → Nat → Int) (n : Nat) (hn : 1 ≤ n) : (polyF p f n (n - 1) + trS f n % p) % p = 0 := by
  unfold polyF
  rw [show n - (n - 1) = 1 by omega, berk_trace, trS_sum]
  have : Cg p (-sumTo (fun i => f i i) n % p + sumTo (fun i => f i i) n % p) (-sumTo (fun i => f i i) n + sumTo (fun i => f i i) n) := (Cg.mod p _).add (Cg.mod p _)
  have h2 : Cg p (-sumTo (fun i => f i i) n % p + sumTo (fun i => f i i) n % p) 0 := this.trans (.of (by omega))
  have h3 : (-sumTo (fun i => f i i) n % p + sumTo (fun i => f i i) n % p) % p = 0 % p := h2
  rwa [Int.zero_emod] at h3
theorem neg_pow_even : ∀ n : Nat, n % 2 = 0 → (-1 : Int) ^ n = 1
  | 0, _ => rfl
  | 1, h => by omega
  | n + 2, h => by rw [Int.pow_succ, Int.pow_succ, neg_pow_even n (by omega)]; rfl
theorem neg_pow_odd (n : Nat) (h : n % 2 = 1) : (-1 : Int) ^ n = -1 := by
  obtain ⟨k, rfl⟩ : ∃ k, n = k + 1 := ⟨n - 1, by omega⟩
  rw [Int.pow_succ, neg_pow_even k (by omega)]; rfl
/-- The last one is the determinant but for the sign. -/
theorem polyF_even {p : Int} {f : Nat → Nat → Int} {n : Nat} (hp : 1 < p) (hI : Invs p) (hf : InG p n n f) (hn : n % 2 = 0) : polyF p f n 0 = detV p n f := by
  unfold polyF
  rw [Nat.sub_zero, berk_last, neg_pow_even n hn, Int.one_mul]
  exact Cg.eq ((Cg.mod p _).trans (detV_ldet hp hI (Nat.le_refl n) hf)) ⟨Int.emod_nonneg _ (by omega), Int.emod_lt_of_pos _ (by omega)⟩ (detV_in hp hI (Nat.le_refl n) hf)
theorem polyF_odd {p : Int} {f : Nat → Nat → Int} {n : Nat} (hp : 1 < p) (hI : Invs p) (hf : InG p n n f) (hn : n % 2 = 1) : (polyF p f n 0 + detV p n f) % p = 0 := by
  unfold polyF
  rw [Nat.sub_zero, berk_last, neg_pow_odd n hn]
  have h1 : Cg p (-1 * ldet n f % p + detV p n f) (-1 * ldet n f + ldet n f) := (Cg.mod p _).add (detV_ldet hp hI (Nat.le_refl n) hf).symm
  have h2 : (-1 * ldet n f % p + detV p n f) % p = 0 % p := h1.trans (.of (by omega))
  rwa [Int.zero_emod] at h2
/-- Conjugate matrices have the same polynomial. -/
theorem polyF_conj {p : Int} {A B : Nat → Nat → Int} {n : Nat} (hp : 1 < p) (hI : Invs p) (hA : InG p n n A) (hB : InG p n n B) (hd : detV p n B ≠ 0) (j : Nat) : polyF p (mulF p n (mulF p n (invF p n B) A) B) n j = polyF p A n j := by
  have hc := berk_conj (A := A) (A' := mulF p n (mulF p n (invF p n B) A) B) hp hI hB hd (fun i hi j hj => by
    have e1 : Cg p (sumTo (fun k => B i k * mulF p n (mulF p n (invF p n B) A) B k j) n) (mulF p n B (mulF p n (mulF p n (invF p n B) A) B) i j) := by
      show Cg p _ (dotTo (B i) (mulF p n (mulF p n (invF p n B) A) B) j n % p)
      rw [dotTo_sum]
      exact (Cg.mod p _).symm
    have e2 : Cg p (sumTo (fun k => A i k * B k j) n) (mulF p n A B i j) := by
      show Cg p _ (dotTo (A i) B j n % p)
      rw [dotTo_sum]
      exact (Cg.mod p _).symm
    have hR := invF_right hp hI hB hd
    have e3 : mulF p n B (mulF p n (mulF p n (invF p n B) A) B) i j = mulF p n A B i j := by
      rw [← mulF_assoc]
      have h4 : Eqv n (mulF p n B (mulF p n (invF p n B) A)) A := fun i hi j hj => by
        rw [← mulF_assoc]
        exact ((Eqv.mul hR (.refl n A)).trans (mulF_oneL hA)) i hi j hj
      exact (Eqv.mul h4 (.refl n B)) i hi j hj
    exact e1.trans ((Cg.of e3).trans e2.symm)) (n - j)
  exact hc.symm

/-- A matrix's box holds no residue: no row of residues lies in it. -/
theorem Vec.no {w : World} {S : Nat → Prop} {v : Value} {n B : Nat} {p : Int} {u : Value} {f : Nat → Int} (h : Vec w S v n f) (hf : InP p n f) (hB : Row w B 61 #[.int .i64 p, u]) (hu : ∀ k x, u ≠ .int k x) : Vec w (fun b => S b ∧ b ≠ B) v n f := by
  obtain ⟨A, c, rfl, hc, h⟩ := h
  refine ⟨A, c, rfl, hc, fun hn => ?_⟩
  obtain ⟨b, o, rfl, hb, hcc⟩ := h hn
  refine ⟨b, o, rfl, ⟨hb, fun e => ?_⟩, hcc⟩
  subst e
  have h0 := hcc 0 hn
  rw [Nat.add_zero] at h0
  have hf0 := hf 0 hn
  match o, h0 with
  | 0, h0 =>
    have h1 := hB.cell (i := 0) rfl
    rw [h1] at h0
    injection h0 with h0
    injection h0 with _ h0
    omega
  | 1, h0 =>
    have h1 := hB.cell (i := 1) rfl
    rw [h1] at h0
    injection h0 with h0
    exact hu _ _ h0
  | o + 2, h0 =>
    unfold Row at hB
    simp [World.cell?, hB] at h0
/-- Nor the rows of a matrix of residues. -/
theorem Grid.no {w : World} {S : Nat → Prop} {v : Value} {n c B : Nat} {A : Option Addr} {p : Int} {f g : Nat → Nat → Int} (_hn : 1 ≤ n) (h : Grid w S v n (fun _ => n) f) (hf : InG p n n f) (hB : Row w B 61 #[.int .i64 p, .slice A n c]) (hg : Grid w S (.slice A n c) n (fun _ => n) g) : Grid w (fun b => S b ∧ b ≠ B) v n (fun _ => n) f := by
  obtain ⟨A', c', rfl, hc, h⟩ := h
  refine ⟨A', c', rfl, hc, fun h0 => ?_⟩
  obtain ⟨b, o, rfl, hb, hcc⟩ := h h0
  refine ⟨b, o, rfl, ⟨hb, fun e => ?_⟩, fun i hi => ?_⟩
  · subst e
    obtain ⟨r, h1, hr⟩ := hcc 0 h0
    rw [Nat.add_zero] at h1
    obtain ⟨Ar, cr, rfl, _, hr⟩ := hr
    match o, h1 with
    | 0, h1 =>
      have h2 := hB.cell (i := 0) rfl
      rw [h2] at h1
      cases h1
    | 1, h1 =>
      have h2 := hB.cell (i := 1) rfl
      rw [h2] at h1
      injection h1 with h1
      injection h1 with e1 _ _
      subst e1
      obtain ⟨br, or2, e2, _, hr2⟩ := hr (show 0 < n by omega)
      subst e2
      have h3 := hr2 0 (show 0 < n by omega)
      obtain ⟨A2, c2, e3, _, hg⟩ := hg
      injection e3 with e3 _ _
      subst e3
      obtain ⟨b2, o2, e4, _, hg⟩ := hg h0
      injection e4 with e4
      injection e4 with e4 e5 _
      subst e4
      subst e5
      obtain ⟨r2, h5, A6, c6, rfl, _⟩ := hg 0 h0
      rw [h3] at h5
      cases h5
    | o + 2, h1 =>
      unfold Row at hB
      simp [World.cell?, hB] at h1
  · obtain ⟨r, h1, hr⟩ := hcc i hi
    exact ⟨r, h1, hr.no (hf i hi) hB fun k x e => by cases e⟩
/-- A matrix is stored into an elder box. -/
theorem ML.put {W : World} {p : Int} {n : Nat} (hn : 1 ≤ n) {L : List MatE} (h : ML W p n L) (i k : Nat) {x y : MatE} (hi : L[i]? = some x) (hk : L[k]? = some y) {L' : List MatE} (hL : ∀ (j : Nat) (e : MatE), L'[j]? = some e → (∃ l : Nat, L[l]? = some e) ∧ e.B ≠ x.B) :
    ML ((W.setCell ⟨x.B, 0, none⟩ (.int .i64 p)).setCell ⟨x.B, 1, none⟩ (.slice y.A n y.c)) p n (⟨x.B, y.A, y.c, y.f⟩ :: L') := fun j e hj => by
  obtain ⟨x1, x2, x3⟩ := h i x hi
  obtain ⟨y1, y2, y3⟩ := h k y hk
  have hs : ((W.setCell ⟨x.B, 0, none⟩ (.int .i64 p)).setCell ⟨x.B, 1, none⟩ (.slice y.A n y.c)).heap.size = W.heap.size := by rw [size_set, size_set]
  cases j with
  | zero =>
    injection hj with hj
    subst hj
    refine ⟨x1.row_set _ _, ?_, y3⟩
    have := (Grid.set2 (Grid.no hn y2 y3 x1 x2) (R := x.B) (fun h => h.2 rfl) (.int .i64 p) (.slice y.A n y.c))
    exact this.more fun b hb => by show b < _; rw [hs]; exact hb.1
  | succ j =>
    obtain ⟨⟨l, hl⟩, hne⟩ := hL j e hj
    obtain ⟨e1, e2, e3⟩ := h l e hl
    refine ⟨(e1.far (p := ⟨x.B, 0, none⟩) hne _).far (p := ⟨x.B, 1, none⟩) hne _, ?_, e3⟩
    have := (Grid.set2 (Grid.no hn e2 e3 x1 x2) (R := x.B) (fun h => h.2 rfl) (.int .i64 p) (.slice y.A n y.c))
    exact this.more fun b hb => by show b < _; rw [hs]; exact hb.1
theorem Vec.put {W : World} {v : Value} {n B : Nat} {p : Int} {u : Value} {f : Nat → Int} (h : Vec W (· < W.heap.size) v n f) (hf : InP p n f) (hB : Row W B 61 #[.int .i64 p, u]) (hu : ∀ k x, u ≠ .int k x) (a b : Value) :
    Vec ((W.setCell ⟨B, 0, none⟩ a).setCell ⟨B, 1, none⟩ b) (· < ((W.setCell ⟨B, 0, none⟩ a).setCell ⟨B, 1, none⟩ b).heap.size) v n f := by
  have hs : ((W.setCell ⟨B, 0, none⟩ a).setCell ⟨B, 1, none⟩ b).heap.size = W.heap.size := by rw [size_set, size_set]
  exact (((h.no hf hB hu).set (p := ⟨B, 0, none⟩) (fun h => h.2 rfl) a).set (p := ⟨B, 1, none⟩) (fun h => h.2 rfl) b).more fun x hx => by show x < _; rw [hs]; exact hx.1
/-- A matrix is given into a box that was made ahead of the call. -/
theorem ml_late {W0 W1 W2 : World} {p : Int} {n c : Nat} {A : Option Addr} {f : Nat → Nat → Int} {L : List MatE} (h : ML W0 p n L) (h1 : Below W0.heap.size W0 W1) (hr : Row W1 W0.heap.size 61 #[.int .i64 0, .slice none 0 0]) (hb : Below W1.heap.size W1 W2) (hg : Grid W2 (New W1 W2) (.slice A n c) n (fun _ => n) f) (hf : InG p n n f) :
    ML ((W2.setCell ⟨W0.heap.size, 0, none⟩ (.int .i64 p)).setCell ⟨W0.heap.size, 1, none⟩ (.slice A n c)) p n (⟨W0.heap.size, A, c, f⟩ :: L) := fun j e hj => by
  have hlt := hr.lt
  have hs : ((W2.setCell ⟨W0.heap.size, 0, none⟩ (.int .i64 p)).setCell ⟨W0.heap.size, 1, none⟩ (.slice A n c)).heap.size = W2.heap.size := by rw [size_set, size_set]
  have hb3 : Below W0.heap.size W0 ((W2.setCell ⟨W0.heap.size, 0, none⟩ (.int .i64 p)).setCell ⟨W0.heap.size, 1, none⟩ (.slice A n c)) := ((h1.trans (hb.mono h1.size)).setCell (p := ⟨W0.heap.size, 0, none⟩) (Nat.le_refl _) _).setCell (p := ⟨W0.heap.size, 1, none⟩) (Nat.le_refl _) _
  cases j with
  | zero =>
    injection hj with hj
    subst hj
    refine ⟨(hr.below hb hlt).row_set _ _, ?_, hf⟩
    exact (Grid.set2 hg (R := W0.heap.size) (fun h => by have := h.1; omega) (.int .i64 p) (.slice A n c)).more fun b hb => by show b < _; rw [hs]; exact hb.2
  | succ j => exact h.below hb3 j e hj
/-- The calls. -/
theorem polyL {p n : Nat} (hs : Sized p n) {W : World} {L : List MatE} (h : ML W (p : Int) n L) (i : Nat) {x : MatE} (hi : L[i]? = some x) :
    Calls Try.prog 52 #[.agg #[.int .i64 p, .slice x.A n x.c]] W fun e w' => ∃ A c, e = .returned (.tuple #[.slice A (n + 1) c, .int .i64 0]) ∧ Vec w' (New W w') (.slice A (n + 1) c) (n + 1) (polyF p x.f n) ∧ Below W.heap.size W w' := by
  obtain ⟨_, g1, f1⟩ := h i x hi
  have hn := hs.n2
  refine (Poly_any _ n (fun _ => n) x.f p W (by omega) (fun _ _ => by omega) g1 0 (hs.chkS f1)).mono fun e w' h => ?_
  obtain ⟨r, he, hv⟩ := h.2.2 rfl
  obtain ⟨A, c, rfl, -⟩ := hv.form
  exact ⟨A, c, he, hv, h.1⟩
theorem traceL {p n : Nat} (hs : Sized p n) {W : World} {L : List MatE} (h : ML W (p : Int) n L) (i : Nat) {x : MatE} (hi : L[i]? = some x) (s : Nat) (he : trS x.f n % (p : Int) = s) :
    Calls Try.prog 51 #[.agg #[.int .i64 p, .slice x.A n x.c]] W fun e w' => e = .returned (.tuple #[.int .i64 s, .int .i64 0]) ∧ Below W.heap.size W w' := by
  obtain ⟨_, g1, f1⟩ := h i x hi
  have hn := hs.n2
  exact (Trace_any _ n (fun _ => n) x.f p W (by omega) (fun _ _ => by omega) g1 0 (hs.chkS f1)).mono fun e w' h => by rw [if_pos rfl, he] at h; exact h
end Go.Proofs.Ytokiejichnnmnaa
