/- Square matrices modulo a prime: the determinant is multiplicative, the inverse is one from both sides, powers add up. Mathematics alone. -/
import Derived.Test.YtokiejichnnmnaaMRing
import Derived.Test.YtokiejichnnmnaaMInv
import Derived.Test.YtokiejichnnmnaaMPowI
namespace Go.Proofs.Ytokiejichnnmnaa
open Go Go.RowKit Num

/-- The sum of the first n. -/
def sumTo (f : Nat → Int) : Nat → Int
  | 0 => 0
  | n + 1 => sumTo f n + f n
theorem sumTo_congr {f g : Nat → Int} : ∀ n, (∀ i, i < n → f i = g i) → sumTo f n = sumTo g n
  | 0, _ => rfl
  | n + 1, h => by rw [sumTo, sumTo, sumTo_congr n (fun i hi => h i (by omega)), h n (by omega)]
theorem sumTo_mod {f g : Nat → Int} {p : Int} : ∀ n, (∀ i, i < n → f i % p = g i % p) → sumTo f n % p = sumTo g n % p
  | 0, _ => rfl
  | n + 1, h => by rw [sumTo, sumTo, Int.add_emod, sumTo_mod n (fun i hi => h i (by omega)), h n (by omega), ← Int.add_emod]
theorem sumTo_lin (f g : Nat → Int) (x y : Int) : ∀ n, sumTo (fun i => x * f i + y * g i) n = x * sumTo f n + y * sumTo g n
  | 0 => by simp [sumTo]
  | n + 1 => by rw [sumTo, sumTo, sumTo, sumTo_lin f g x y n, Int.mul_add, Int.mul_add]; omega
theorem sumTo_zero {f : Nat → Int} : ∀ n, (∀ i, i < n → f i = 0) → sumTo f n = 0
  | 0, _ => rfl
  | n + 1, h => by rw [sumTo, sumTo_zero n (fun i hi => h i (by omega)), h n (by omega)]; rfl
theorem sumTo_two {f : Nat → Int} {r : Nat} : ∀ n, r + 1 < n → (∀ i, i < n → i ≠ r → i ≠ r + 1 → f i = 0) → sumTo f n = f r + f (r + 1)
  | 0, h, _ => absurd h (by omega)
  | n + 1, h, k => by
    rw [sumTo]
    by_cases e : r + 1 < n
    · rw [sumTo_two n e (fun i hi => k i (by omega)), k n (by omega) (by omega) (by omega)]; omega
    · have e2 : n = r + 1 := by omega
      subst e2
      rw [sumTo, sumTo_zero r (fun i hi => k i (by omega) (by omega) (by omega))]; omega

def sgnN (i : Nat) : Int := if i % 2 = 0 then 1 else -1
theorem sgnN_succ (i : Nat) : sgnN (i + 1) = - sgnN i := by unfold sgnN; split <;> split <;> omega
/-- Without row i and the first column. -/
def minor (F : Nat → Nat → Int) (i : Nat) : Nat → Nat → Int := fun a b => F (if a < i then a else a + 1) (b + 1)
/-- The determinant, by the first column. -/
def ldet : Nat → (Nat → Nat → Int) → Int
  | 0, _ => 1
  | n + 1, F => sumTo (fun i => sgnN i * F i 0 * ldet n (minor F i)) (n + 1)
theorem ldet_mod {p : Int} : ∀ (n : Nat) {F G : Nat → Nat → Int}, (∀ i, i < n → ∀ j, j < n → F i j % p = G i j % p) → ldet n F % p = ldet n G % p
  | 0, _, _, _ => rfl
  | n + 1, F, G, h => by
    refine sumTo_mod (n + 1) fun i hi => ?_
    have h1 : ldet n (minor F i) % p = ldet n (minor G i) % p := ldet_mod n fun a ha b hb => by
      unfold minor
      split
      · exact h _ (by omega) _ (by omega)
      · exact h _ (by omega) _ (by omega)
    have h2 := h i hi 0 (by omega)
    have h3 : sgnN i * F i 0 % p = sgnN i * G i 0 % p := by rw [Int.mul_emod, h2, ← Int.mul_emod]
    rw [Int.mul_emod, h1, h3, ← Int.mul_emod]
theorem ldet_congr : ∀ (n : Nat) {F G : Nat → Nat → Int}, (∀ i, i < n → ∀ j, j < n → F i j = G i j) → ldet n F = ldet n G
  | 0, _, _, _ => rfl
  | n + 1, F, G, h => by
    refine sumTo_congr (n + 1) fun i hi => ?_
    have h1 : ldet n (minor F i) = ldet n (minor G i) := ldet_congr n fun a ha b hb => by
      unfold minor
      split
      · exact h _ (by omega) _ (by omega)
      · exact h _ (by omega) _ (by omega)
    show sgnN i * F i 0 * ldet n (minor F i) = _
    rw [h1, h i hi 0 (by omega)]
/-- Row r replaced. -/
def rowTo (F : Nat → Nat → Int) (r : Nat) (v : Nat → Int) (a : Nat) : Nat → Int := if a = r then v else F a
theorem rowTo_at (F : Nat → Nat → Int) (r : Nat) (v : Nat → Int) : rowTo F r v r = v := if_pos rfl
theorem rowTo_ne (F : Nat → Nat → Int) {r a : Nat} (v : Nat → Int) (h : a ≠ r) : rowTo F r v a = F a := if_neg h
theorem rowTo_self (F : Nat → Nat → Int) (r : Nat) : rowTo F r (F r) = F := by
  funext a; unfold rowTo; split
  · rename_i h; rw [h]
  · rfl
theorem minor_same (F : Nat → Nat → Int) (r : Nat) (v : Nat → Int) : minor (rowTo F r v) r = minor F r := by
  funext a b
  unfold minor rowTo
  rw [if_neg (by split <;> omega)]
theorem minor_row {F : Nat → Nat → Int} {r i : Nat} (v : Nat → Int) (h : i ≠ r) : minor (rowTo F r v) i = rowTo (minor F i) (if r < i then r else r - 1) (fun j => v (j + 1)) := by
  funext a b
  show rowTo F r v (if a < i then a else a + 1) (b + 1) = (if a = (if r < i then r else r - 1) then (fun j => v (j + 1)) else minor F i a) b
  by_cases h2 : (if a < i then a else a + 1) = r
  · have h3 : a = (if r < i then r else r - 1) := by split at h2 <;> split <;> omega
    rw [h2, rowTo_at, if_pos h3]
  · have h3 : ¬ a = (if r < i then r else r - 1) := by split at h2 <;> split <;> omega
    rw [rowTo_ne _ _ h2, if_neg h3]
    rfl
theorem ldet_lin : ∀ (n : Nat) (F : Nat → Nat → Int) (r : Nat) (u v : Nat → Int) (x y : Int), r < n → ldet n (rowTo F r (fun j => x * u j + y * v j)) = x * ldet n (rowTo F r u) + y * ldet n (rowTo F r v)
  | 0, _, _, _, _, _, _, h => absurd h (by omega)
  | n + 1, F, r, u, v, x, y, h => by
    show sumTo _ (n + 1) = x * sumTo _ (n + 1) + y * sumTo _ (n + 1)
    rw [← sumTo_lin]
    refine sumTo_congr (n + 1) fun i hi => ?_
    show sgnN i * rowTo F r (fun j => x * u j + y * v j) i 0 * ldet n (minor (rowTo F r (fun j => x * u j + y * v j)) i) = x * (sgnN i * rowTo F r u i 0 * ldet n (minor (rowTo F r u) i)) + y * (sgnN i * rowTo F r v i 0 * ldet n (minor (rowTo F r v) i))
    by_cases e : i = r
    · subst e
      rw [minor_same, minor_same, minor_same, rowTo_at, rowTo_at, rowTo_at]
      show sgnN i * (x * u 0 + y * v 0) * ldet n (minor F i) = _
      generalize ldet n (minor F i) = d
      rw [Int.mul_add, Int.add_mul, ← Int.mul_assoc x, ← Int.mul_assoc y, ← Int.mul_assoc x, ← Int.mul_assoc y, ← Int.mul_assoc (sgnN i), ← Int.mul_assoc (sgnN i), Int.mul_comm x (sgnN i), Int.mul_comm y (sgnN i)]
    · rw [minor_row _ e, minor_row _ e, minor_row _ e, rowTo_ne _ _ e, rowTo_ne _ _ e, rowTo_ne _ _ e]
      have h2 := ldet_lin n (minor F i) (if r < i then r else r - 1) (fun j => u (j + 1)) (fun j => v (j + 1)) x y (by split <;> omega)
      rw [h2, Int.mul_add, ← Int.mul_assoc, ← Int.mul_assoc, ← Int.mul_assoc x, ← Int.mul_assoc y, Int.mul_comm _ x, Int.mul_comm _ y]
theorem ldet_adj : ∀ (n : Nat) (F : Nat → Nat → Int) (r : Nat), r + 1 < n → F r = F (r + 1) → ldet n F = 0
  | 0, _, _, h, _ => absurd h (by omega)
  | n + 1, F, r, h, e => by
    show sumTo _ (n + 1) = 0
    rw [sumTo_two (r := r) (n + 1) h]
    · have hm : minor F r = minor F (r + 1) := by
        funext a b
        unfold minor
        by_cases h1 : a < r
        · rw [if_pos h1, if_pos (by omega)]
        · by_cases h2 : a = r
          · subst h2; rw [if_neg h1, if_pos (by omega), e]
          · rw [if_neg h1, if_neg (by omega)]
      show sgnN r * F r 0 * ldet n (minor F r) + sgnN (r + 1) * F (r + 1) 0 * ldet n (minor F (r + 1)) = 0
      rw [← hm, ← e, sgnN_succ, Int.neg_mul, Int.neg_mul]; omega
    · intro i hi h1 h2
      show sgnN i * F i 0 * ldet n (minor F i) = 0
      rw [ldet_adj n (minor F i) (if r < i then r else r - 1) (by split <;> omega), Int.mul_zero]
      funext b
      unfold minor
      by_cases h3 : r < i
      · rw [if_pos h3, if_pos h3, if_pos (by omega), e]
      · rw [if_neg h3, if_neg (by omega), if_neg (by omega)]
        have : r - 1 + 1 = r := by omega
        rw [this, e]
/-- Two rows replaced. -/
theorem rowTo_comm (F : Nat → Nat → Int) {r s : Nat} (u v : Nat → Int) (h : r ≠ s) : rowTo (rowTo F r u) s v = rowTo (rowTo F s v) r u := by
  funext a
  unfold rowTo
  by_cases h1 : a = s
  · subst h1; rw [if_pos rfl, if_neg (Ne.symm h), if_pos rfl]
  · rw [if_neg h1]
    by_cases h2 : a = r
    · subst h2; rw [if_pos rfl, if_pos rfl]
    · rw [if_neg h2, if_neg h2, if_neg h1]
theorem ldet_add (n : Nat) (F : Nat → Nat → Int) (r : Nat) (u v : Nat → Int) (h : r < n) : ldet n (rowTo F r (fun j => u j + v j)) = ldet n (rowTo F r u) + ldet n (rowTo F r v) := by
  have := ldet_lin n F r u v 1 1 h
  simpa using this
/-- What is 0 for equal rows changes its sign. -/
theorem ldet_turn {n : Nat} {r s : Nat} (hr : r < n) (hs : s < n) (hrs : r ≠ s) (F : Nat → Nat → Int) (H : ∀ u, ldet n (rowTo (rowTo F r u) s u) = 0) (u v : Nat → Int) :
    ldet n (rowTo (rowTo F r u) s v) = - ldet n (rowTo (rowTo F r v) s u) := by
  have h := H (fun j => u j + v j)
  rw [ldet_add n _ s u v hs, rowTo_comm F _ u hrs, rowTo_comm F _ v hrs, ldet_add n _ r u v hr, ldet_add n _ r u v hr, ← rowTo_comm F _ _ hrs, ← rowTo_comm F _ _ hrs, ← rowTo_comm F _ _ hrs, ← rowTo_comm F _ _ hrs, H u, H v] at h
  omega
theorem ldet_adj2 {n : Nat} {r : Nat} (h : r + 1 < n) (F : Nat → Nat → Int) (u : Nat → Int) : ldet n (rowTo (rowTo F r u) (r + 1) u) = 0 :=
  ldet_adj n _ r h (by rw [rowTo_at, rowTo_ne _ _ (by omega), rowTo_at])
theorem ldet_eq2 {n : Nat} : ∀ (k r : Nat), r + k + 1 < n → ∀ (F : Nat → Nat → Int) (u : Nat → Int), ldet n (rowTo (rowTo F r u) (r + k + 1) u) = 0
  | 0, r, h, F, u => ldet_adj2 h F u
  | k + 1, r, h, F, u => by
    have h1 : r + (k + 1) + 1 = (r + k + 1) + 1 := by omega
    rw [h1]
    have e : rowTo (rowTo F r u) (r + k + 1 + 1) u = rowTo (rowTo (rowTo F r u) (r + k + 1) (F (r + k + 1))) (r + k + 1 + 1) u := by
      have : rowTo (rowTo F r u) (r + k + 1) (F (r + k + 1)) = rowTo F r u := by
        have := rowTo_self (rowTo F r u) (r + k + 1)
        rwa [rowTo_ne F u (by omega)] at this
      rw [this]
    rw [e, ldet_turn (by omega) (by omega) (by omega) _ (fun w => ldet_adj2 (by omega) _ w)]
    rw [rowTo_comm _ _ _ (by omega : r + k + 1 ≠ r + k + 1 + 1), rowTo_comm F _ _ (by omega : r ≠ r + k + 1 + 1), ldet_eq2 k r (by omega)]
    rfl
theorem ldet_eq {n : Nat} {r s : Nat} (hr : r < n) (hs : s < n) (hrs : r ≠ s) (F : Nat → Nat → Int) (u : Nat → Int) : ldet n (rowTo (rowTo F r u) s u) = 0 := by
  rcases Nat.lt_or_gt_of_ne hrs with h | h
  · obtain ⟨k, rfl⟩ : ∃ k, s = r + k + 1 := ⟨s - r - 1, by omega⟩
    exact ldet_eq2 k r hs F u
  · obtain ⟨k, rfl⟩ : ∃ k, r = s + k + 1 := ⟨r - s - 1, by omega⟩
    rw [rowTo_comm F u u hrs]
    exact ldet_eq2 k s hr F u
theorem ldet_swap {n : Nat} {r s : Nat} (hr : r < n) (hs : s < n) (hrs : r ≠ s) (F : Nat → Nat → Int) : ldet n (rowTo (rowTo F r (F s)) s (F r)) = - ldet n F := by
  rw [ldet_turn hr hs hrs F (ldet_eq hr hs hrs F), rowTo_self, show rowTo F s (F s) = F from rowTo_self F s]
theorem ldet_plus {n : Nat} {r s : Nat} (hr : r < n) (hs : s < n) (hrs : r ≠ s) (F : Nat → Nat → Int) (k : Int) : ldet n (rowTo F r (fun j => F r j + k * F s j)) = ldet n F := by
  have h := ldet_lin n F r (F r) (F s) 1 k hr
  have h0 : ldet n (rowTo F r (F s)) = 0 := by
    have := ldet_eq hr hs hrs F (F s)
    rwa [rowTo_comm F _ _ hrs, rowTo_self] at this
  rw [h0, rowTo_self] at h
  simpa using h
theorem ldet_scale {n : Nat} {r : Nat} (hr : r < n) (F : Nat → Nat → Int) (k : Int) (u : Nat → Int) : ldet n (rowTo F r (fun j => k * u j)) = k * ldet n (rowTo F r u) := by
  have h := ldet_lin n F r u u k 0 hr
  simpa using h
theorem ldet_one : ∀ n, ldet n (fun i j => if j = i then 1 else 0) = 1
  | 0 => rfl
  | n + 1 => by
    show sumTo (fun i => sgnN i * (if 0 = i then 1 else 0) * ldet n (minor (fun i j => if j = i then 1 else 0) i)) (n + 1) = 1
    have h : ∀ k, sumTo (fun i => sgnN i * (if 0 = i then 1 else 0) * ldet n (minor (fun i j => if j = i then 1 else 0) i)) (k + 1) = 1 := by
      intro k
      induction k with
      | zero =>
        have e : ldet n (minor (fun i j => if j = i then 1 else 0) 0) = 1 := by
          refine Eq.trans (ldet_congr n fun a _ b _ => ?_) (ldet_one n)
          unfold minor
          simp
        simp [sumTo, sgnN, e]
      | succ k ih => rw [sumTo, ih]; simp
    exact h n
structure IsGrp {α : Type} (mul : α → α → α) (one : α) (inv : α → α) : Prop where
  assoc : ∀ a b c, mul (mul a b) c = mul a (mul b c)
  one_mul : ∀ a, mul one a = a
  mul_one : ∀ a, mul a one = a
  inv_mul : ∀ a, mul (inv a) a = one
  mul_inv : ∀ a, mul a (inv a) = one

section
variable {α : Type} {mul : α → α → α} {one : α} {inv : α → α}
def npow (mul : α → α → α) (one : α) : Nat → α → α
  | 0, _ => one
  | m + 1, a => mul (npow mul one m a) a
def zpow (mul : α → α → α) (one : α) (inv : α → α) (a : α) : Int → α
  | .ofNat m => npow mul one m a
  | .negSucc m => npow mul one (m + 1) (inv a)
variable (G : IsGrp mul one inv)
include G
theorem npow_add (a : α) (m k : Nat) : npow mul one (m + k) a = mul (npow mul one m a) (npow mul one k a) := by
  induction k with
  | zero => rw [Nat.add_zero]; exact (G.mul_one _).symm
  | succ k ih => rw [← Nat.add_assoc]; show mul (npow mul one (m + k) a) a = _; rw [ih, G.assoc]; rfl
theorem npow_sq (a : α) (m : Nat) : npow mul one m (mul a a) = npow mul one (m + m) a := by
  induction m with
  | zero => rfl
  | succ m ih =>
    show mul (npow mul one m (mul a a)) (mul a a) = _
    rw [ih, show m + 1 + (m + 1) = (m + m) + 2 by omega]
    show _ = mul (mul (npow mul one (m + m) a) a) a
    rw [G.assoc]
theorem npow_one (a : α) : npow mul one 1 a = a := G.one_mul a
/-- A step of squaring and multiplying. -/
theorem npow_even (a : α) (m : Nat) (h : m % 2 = 0) : npow mul one m a = npow mul one (m / 2) (mul a a) := by
  rw [npow_sq G, show m / 2 + m / 2 = m by omega]
theorem npow_odd (u a : α) (m : Nat) (h : m % 2 = 1) : mul u (npow mul one m a) = mul (mul u a) (npow mul one (m / 2) (mul a a)) := by
  rw [npow_sq G, G.assoc, show m = 1 + (m / 2 + m / 2) by omega, npow_add G, npow_one G, show (1 + (m / 2 + m / 2)) / 2 = m / 2 by omega]
theorem zpow_succ (a : α) (x : Int) : zpow mul one inv a (x + 1) = mul (zpow mul one inv a x) a := by
  cases x with
  | ofNat m => rfl
  | negSucc m =>
    cases m with
    | zero => show one = mul (mul one (inv a)) a; rw [G.one_mul, G.inv_mul]
    | succ m =>
      show npow mul one (m + 1) (inv a) = mul (mul (npow mul one (m + 1) (inv a)) (inv a)) a
      rw [G.assoc, G.inv_mul, G.mul_one]
theorem zpow_pred (a : α) (x : Int) : zpow mul one inv a (x - 1) = mul (zpow mul one inv a x) (inv a) := by
  have h := zpow_succ G a (x - 1)
  rw [show x - 1 + 1 = x by omega] at h
  rw [h, G.assoc, G.mul_inv, G.mul_one]
theorem zpow_add (a : α) (x y : Int) : zpow mul one inv a (x + y) = mul (zpow mul one inv a x) (zpow mul one inv a y) := by
  have hp : ∀ m : Nat, zpow mul one inv a (x + m) = mul (zpow mul one inv a x) (zpow mul one inv a m) := by
    intro m
    induction m with
    | zero => rw [Int.natCast_zero, Int.add_zero]; exact (G.mul_one _).symm
    | succ m ih => rw [Int.natCast_succ, ← Int.add_assoc, zpow_succ G, ih, zpow_succ G, G.assoc]
  have hn : ∀ m : Nat, zpow mul one inv a (x - m) = mul (zpow mul one inv a x) (zpow mul one inv a (-m)) := by
    intro m
    induction m with
    | zero => rw [Int.natCast_zero, Int.sub_zero]; exact (G.mul_one _).symm
    | succ m ih =>
      rw [show x - ((m + 1 : Nat) : Int) = (x - m) - 1 by omega, zpow_pred G, ih, show -((m + 1 : Nat) : Int) = -(m : Int) - 1 by omega, zpow_pred G, G.assoc]
  rcases Int.le_total 0 y with h | h
  · have := hp y.toNat
    rwa [Int.toNat_of_nonneg h] at this
  · have := hn (-y).toNat
    rwa [Int.toNat_of_nonneg (by omega), show x - -y = x + y by omega, show - -y = y by omega] at this
theorem zpow_neg (a : α) (x : Int) : zpow mul one inv a (-x) = inv (zpow mul one inv a x) := by
  have h := zpow_add G a x (-x)
  rw [show x + -x = 0 by omega] at h
  have h0 : zpow mul one inv a 0 = one := rfl
  rw [h0] at h
  have := congrArg (mul (inv (zpow mul one inv a x))) h
  rw [G.mul_one, ← G.assoc, G.inv_mul, G.one_mul] at this
  exact this.symm
theorem zpow_mul (a : α) (x y : Int) : zpow mul one inv a (x * y) = zpow mul one inv (zpow mul one inv a x) y := by
  have hp : ∀ m : Nat, zpow mul one inv a (x * m) = zpow mul one inv (zpow mul one inv a x) m := by
    intro m
    induction m with
    | zero => rw [Int.natCast_zero, Int.mul_zero]; rfl
    | succ m ih => rw [Int.natCast_succ, Int.mul_add, Int.mul_one, zpow_add G, ih, zpow_succ G]
  have hn : ∀ m : Nat, zpow mul one inv a (x * -m) = zpow mul one inv (zpow mul one inv a x) (-m) := by
    intro m
    induction m with
    | zero => rw [Int.natCast_zero, Int.neg_zero, Int.mul_zero]; rfl
    | succ m ih =>
      rw [show -((m + 1 : Nat) : Int) = -(m : Int) - 1 by omega, zpow_pred G, ← ih, ← zpow_neg G, ← zpow_add G]
      congr 1
      rw [Int.mul_sub, Int.mul_one]
      omega
  rcases Int.le_total 0 y with h | h
  · have := hp y.toNat
    rwa [Int.toNat_of_nonneg h] at this
  · have := hn (-y).toNat
    rwa [Int.toNat_of_nonneg (by omega), show - -y = y by omega] at this
end

/-- The same residue. -/
def Cg (p a b : Int) : Prop := a % p = b % p
theorem Cg.refl (p a : Int) : Cg p a a := rfl
theorem Cg.of {p a b : Int} (h : a = b) : Cg p a b := by rw [h]; rfl
theorem Cg.symm {p a b : Int} (h : Cg p a b) : Cg p b a := Eq.symm h
theorem Cg.trans {p a b c : Int} (h : Cg p a b) (k : Cg p b c) : Cg p a c := Eq.trans h k
theorem Cg.add {p a b c d : Int} (h : Cg p a b) (k : Cg p c d) : Cg p (a + c) (b + d) := by unfold Cg at *; rw [Int.add_emod, h, k, ← Int.add_emod]
theorem Cg.mul {p a b c d : Int} (h : Cg p a b) (k : Cg p c d) : Cg p (a * c) (b * d) := by unfold Cg at *; rw [Int.mul_emod, h, k, ← Int.mul_emod]
theorem Cg.neg {p a b : Int} (h : Cg p a b) : Cg p (-a) (-b) := by
  have := (Cg.refl p (-1)).mul h
  simpa using this
theorem Cg.mod (p a : Int) : Cg p (a % p) a := Int.emod_emod_of_dvd a (Int.dvd_refl p)
theorem Cg.self (p a : Int) : Cg p (p * a) 0 := by show p * a % p = 0 % p; simp
theorem Cg.eq {p a b : Int} (h : Cg p a b) (ha : 0 ≤ a ∧ a < p) (hb : 0 ≤ b ∧ b < p) : a = b := by
  unfold Cg at h
  rwa [Int.emod_eq_of_lt ha.1 ha.2, Int.emod_eq_of_lt hb.1 hb.2] at h

/-- What row operations do to D, modulo p. -/
structure IsD (p : Int) (m : Nat) (D : (Nat → Nat → Int) → Int) : Prop where
  cong : ∀ {F G : Nat → Nat → Int}, (∀ i, i < m → ∀ j, j < m → Cg p (F i j) (G i j)) → Cg p (D F) (D G)
  swap : ∀ (F : Nat → Nat → Int) {r s : Nat}, r < m → s < m → r ≠ s → Cg p (D (rowTo (rowTo F r (F s)) s (F r))) (- D F)
  plus : ∀ (F : Nat → Nat → Int) {r s : Nat} (k : Int), r < m → s < m → r ≠ s → Cg p (D (rowTo F r (fun j => F r j + k * F s j))) (D F)
  scale : ∀ (F : Nat → Nat → Int) {r : Nat} (k : Int), r < m → Cg p (D (rowTo F r (fun j => k * F r j))) (k * D F)
theorem ldet_isD (p : Int) (m : Nat) : IsD p m (ldet m) where
  cong h := ldet_mod m h
  swap F _ _ hr hs hrs := .of (ldet_swap hr hs hrs F)
  plus F _ _ k hr hs hrs := .of (ldet_plus hr hs hrs F k)
  scale F r k hr := .of (by rw [ldet_scale hr, rowTo_self])
theorem dot_lin (x y : Nat → Int) (a b : Int) (g : Nat → Nat → Int) (j : Nat) : ∀ n, dotTo (fun k => a * x k + b * y k) g j n = a * dotTo x g j n + b * dotTo y g j n
  | 0 => by simp [dotTo]
  | n + 1 => by rw [dotTo, dotTo, dotTo, dot_lin x y a b g j n, Int.mul_add, Int.mul_add, Int.add_mul, Int.mul_assoc, Int.mul_assoc]; omega
theorem dot_cg {p : Int} {x y : Nat → Int} {g h : Nat → Nat → Int} {j j' : Nat} : ∀ n, (∀ k, k < n → Cg p (x k) (y k)) → (∀ k, k < n → Cg p (g k j) (h k j')) → Cg p (dotTo x g j n) (dotTo y h j' n)
  | 0, _, _ => rfl
  | n + 1, H, K => (dot_cg n (fun k hk => H k (by omega)) fun k hk => K k (by omega)).add ((H n (by omega)).mul (K n (by omega)))
/-- The product, not reduced. -/
def mulZ (m : Nat) (F B : Nat → Nat → Int) (i j : Nat) : Int := dotTo (F i) B j m
theorem mulZ_row (m : Nat) (F B : Nat → Nat → Int) (r : Nat) (v : Nat → Int) : mulZ m (rowTo F r v) B = rowTo (mulZ m F B) r (fun j => dotTo v B j m) := by
  funext a
  show (fun j => dotTo (rowTo F r v a) B j m) = rowTo (mulZ m F B) r (fun j => dotTo v B j m) a
  by_cases h : a = r
  · subst h; rw [rowTo_at, rowTo_at]
  · rw [rowTo_ne _ _ h, rowTo_ne _ _ h]; rfl
theorem ldetB_isD (p : Int) (m : Nat) (B : Nat → Nat → Int) : IsD p m (fun F => ldet m (mulZ m F B)) where
  cong h := ldet_mod m fun i hi j _ => dot_cg m (h i hi) fun _ _ => .refl _ _
  swap F r s hr hs hrs := .of (by
    rw [mulZ_row, mulZ_row]
    exact ldet_swap hr hs hrs (mulZ m F B))
  plus F r s k hr hs hrs := .of (by
    rw [mulZ_row]
    have : (fun j => dotTo (fun j => F r j + k * F s j) B j m) = fun j => mulZ m F B r j + k * mulZ m F B s j := by
      funext j
      have := dot_lin (F r) (F s) 1 k B j m
      simpa [mulZ] using this
    rw [this]
    exact ldet_plus hr hs hrs (mulZ m F B) k)
  scale F r k hr := .of (by
    rw [mulZ_row]
    have : (fun j => dotTo (fun j => k * F r j) B j m) = fun j => k * mulZ m F B r j := by
      funext j
      have := dot_lin (F r) (F r) k 0 B j m
      simpa [mulZ] using this
    rw [this, ldet_scale hr, rowTo_self])

/-- Multiples of row r added to the others. -/
def addF (F : Nat → Nat → Int) (r : Nat) (k : Nat → Int) (a : Nat) : Nat → Int := if a = r then F a else fun j => F a j + k a * F r j
def addTo (F : Nat → Nat → Int) (r : Nat) (k : Nat → Int) (n a : Nat) : Nat → Int := if a < n then addF F r k a else F a
theorem addTo_succ (F : Nat → Nat → Int) (r : Nat) (k : Nat → Int) (n : Nat) (h : n ≠ r) : addTo F r k (n + 1) = rowTo (addTo F r k n) n (fun j => addTo F r k n n j + k n * addTo F r k n r j) := by
  have e1 : addTo F r k n n = F n := if_neg (Nat.lt_irrefl _)
  have e2 : addTo F r k n r = F r := by
    unfold addTo addF
    split
    · rw [if_pos rfl]
    · rfl
  rw [e1, e2]
  funext a
  unfold rowTo
  by_cases e : a = n
  · subst e
    rw [if_pos rfl]
    unfold addTo addF
    rw [if_pos (by omega), if_neg h]
  · rw [if_neg e]
    unfold addTo
    by_cases h2 : a < n
    · rw [if_pos h2, if_pos (by omega)]
    · rw [if_neg h2, if_neg (by omega)]
theorem addTo_same (F : Nat → Nat → Int) (r : Nat) (k : Nat → Int) : addTo F r k (r + 1) = addTo F r k r := by
  funext a
  unfold addTo
  by_cases h : a < r
  · rw [if_pos h, if_pos (by omega)]
  · rw [if_neg h]
    by_cases h2 : a = r
    · subst h2; rw [if_pos (by omega)]; unfold addF; rw [if_pos rfl]
    · rw [if_neg (by omega)]
theorem IsD.addTo {p : Int} {m : Nat} {D : (Nat → Nat → Int) → Int} (H : IsD p m D) (F : Nat → Nat → Int) {r : Nat} (k : Nat → Int) (hr : r < m) : ∀ n, n ≤ m → Cg p (D (addTo F r k n)) (D F)
  | 0, _ => by
    have : Go.Proofs.Ytokiejichnnmnaa.addTo F r k 0 = F := by funext a; unfold Go.Proofs.Ytokiejichnnmnaa.addTo; rw [if_neg (by omega)]
    rw [this]; rfl
  | n + 1, hn => by
    by_cases h : n = r
    · subst h; rw [addTo_same]; exact H.addTo F k hr n (by omega)
    · rw [addTo_succ F r k n h]
      exact (H.plus _ _ (by omega) hr h).trans (H.addTo F k hr n (by omega))
theorem IsD.add {p : Int} {m : Nat} {D : (Nat → Nat → Int) → Int} (H : IsD p m D) (F : Nat → Nat → Int) {r : Nat} (k : Nat → Int) (hr : r < m) : Cg p (D (addF F r k)) (D F) := by
  refine (H.cong fun i hi j _ => ?_).trans (H.addTo F k hr m (Nat.le_refl _))
  unfold Go.Proofs.Ytokiejichnnmnaa.addTo
  rw [if_pos hi]; rfl

/-- Rows that are too many for the columns that are left. -/
theorem IsD.zero {p : Int} {m : Nat} {D : (Nat → Nat → Int) → Int} (H : IsD p m D) (hinv : ∀ a : Int, ¬ Cg p a 0 → ∃ x, Cg p (x * a) 1) :
    ∀ (t c r : Nat) (F : Nat → Nat → Int), m = c + t → r + t < m → (∀ a, r ≤ a → a < m → ∀ j, j < c → Cg p (F a j) 0) → Cg p (D F) 0
  | 0, c, r, F, hc, hr, h => by
    have h1 : Cg p (D F) (D (rowTo F r (fun j => 0 * F r j))) := H.cong fun i hi j hj => by
      by_cases e : i = r
      · subst e; rw [rowTo_at, Int.zero_mul]; exact h i (by omega) hi j (by omega)
      · rw [rowTo_ne _ _ e]; rfl
    have h2 := h1.trans (H.scale F 0 (by omega))
    rwa [Int.zero_mul] at h2
  | t + 1, c, r, F, hc, hr, h => by
    by_cases hz : ∀ a, r ≤ a → a < m → Cg p (F a c) 0
    · refine H.zero hinv t (c + 1) r F (by omega) (by omega) fun a h1 h2 j hj => ?_
      by_cases e : j = c
      · subst e; exact hz a h1 h2
      · exact h a h1 h2 j (by omega)
    · have hk : ∃ k, r ≤ k ∧ k < m ∧ ¬ Cg p (F k c) 0 := by
        refine Classical.byContradiction fun hn => hz fun a h1 h2 => Classical.byContradiction fun h3 => hn ⟨a, h1, h2, h3⟩
      obtain ⟨k, hk1, hk2, hk3⟩ := hk
      have key : ∀ G : Nat → Nat → Int, (∀ a, r ≤ a → a < m → ∀ j, j < c → Cg p (G a j) 0) → ¬ Cg p (G r c) 0 → Cg p (D G) 0 := fun G hG hp => by
        obtain ⟨x, hx⟩ := hinv _ hp
        refine (H.add G (r := r) (fun a => -(G a c * x)) (by omega)).symm.trans (IsD.zero H hinv t (c + 1) (r + 1) _ (by omega) (by omega) fun a h1 h2 j hj => ?_)
        unfold addF
        rw [if_neg (by omega)]
        show Cg p (G a j + -(G a c * x) * G r j) 0
        by_cases e : j = c
        · subst e
          have h3 : Cg p (-(G a j * x) * G r j) (- G a j) := by
            have := ((Cg.refl p (- G a j)).mul hx)
            rw [Int.mul_one, ← Int.mul_assoc] at this
            rw [Int.neg_mul] at this
            rw [Int.neg_mul]
            simpa [Int.neg_mul] using this
          have h4 := (Cg.refl p (G a j)).add h3
          rwa [show G a j + - G a j = 0 by omega] at h4
        · have h3 := (Cg.refl p (-(G a c * x))).mul (hG r (Nat.le_refl _) (by omega) j (by omega))
          have h4 := (hG a (by omega) h2 j (by omega)).add h3
          rwa [Int.mul_zero] at h4
      by_cases e : k = r
      · subst e; exact key F h hk3
      · have h1 := key (rowTo (rowTo F r (F k)) k (F r)) (fun a h1 h2 j hj => by
          unfold rowTo
          split
          · exact h r (Nat.le_refl _) (by omega) j hj
          · split
            · exact h k hk1 hk2 j hj
            · exact h a h1 h2 j hj) (by rw [rowTo_ne _ _ (Ne.symm e), rowTo_at]; exact hk3)
        have h2 := (H.swap F (r := r) (s := k) (by omega) hk2 (Ne.symm e)).symm.trans h1
        have h3 := h2.neg
        simpa using h3

theorem swapF_zero (F : Nat → Nat → Int) (i : Nat) : swapF F i 0 = F := by
  funext a
  unfold swapF
  split
  · rename_i h; rw [h]; rfl
  · split
    · rename_i h; rw [h]; rfl
    · rfl
theorem swapF_row (F : Nat → Nat → Int) (i k : Nat) (h : k ≠ 0) : swapF F i k = rowTo (rowTo F i (F (i + k))) (i + k) (F i) := by
  funext a
  unfold swapF rowTo
  by_cases h1 : a = i
  · rw [if_pos h1, if_neg (by omega), if_pos h1]
  · rw [if_neg h1]
    split
    · rfl
    · rfl
def sgB (b : Bool) : Int := if b then -1 else 1
theorem IsD.swapF_ {p : Int} {m : Nat} {D : (Nat → Nat → Int) → Int} (H : IsD p m D) (F : Nat → Nat → Int) {i k : Nat} (odd : Bool) (hi : i + k < m) : Cg p (sgB (if k = 0 then odd else !odd) * D (swapF F i k)) (sgB odd * D F) := by
  by_cases h : k = 0
  · subst h; rw [swapF_zero, if_pos rfl]; rfl
  · rw [swapF_row F i k h, if_neg h]
    refine ((Cg.refl p _).mul (H.swap F (by omega) hi (by omega))).trans (.of ?_)
    cases odd <;> simp [sgB]
theorem IsD.divF_ {p : Int} {m : Nat} {D : (Nat → Nat → Int) → Int} (H : IsD p m D) (F : Nat → Nat → Int) {i : Nat} (hi : i < m) (hv : Cg p (invI p (F i i) * F i i) 1) : Cg p (F i i * D (divF p F i)) (D F) := by
  have h1 : Cg p (D (divF p F i)) (D (rowTo F i (fun j => invI p (F i i) * F i j))) := H.cong fun a ha j _ => by
    unfold divF rowTo
    by_cases e : a = i
    · rw [if_pos e, if_pos e]
      show Cg p ((0 + invI p (F i i) * F i j) % p) _
      rw [Int.zero_add]; exact Cg.mod _ _
    · rw [if_neg e, if_neg e]; rfl
  have h2 := (Cg.refl p (F i i)).mul (h1.trans (H.scale F _ hi))
  refine h2.trans ?_
  rw [← Int.mul_assoc, Int.mul_comm (F i i)]
  have h3 := hv.mul (Cg.refl p (D F))
  rwa [Int.one_mul] at h3
theorem IsD.clrF_ {p : Int} {m : Nat} {D : (Nat → Nat → Int) → Int} (H : IsD p m D) (F : Nat → Nat → Int) {i : Nat} (hi : i < m) : Cg p (D (clrF p F i)) (D F) := by
  refine (H.cong fun a ha j _ => ?_).trans (H.add F (r := i) (fun a => p - F a i) hi)
  unfold clrF addF
  by_cases e : a = i
  · rw [if_pos e, if_pos e]; rfl
  · rw [if_neg e, if_neg e]
    by_cases h : F a i = 0
    · rw [if_pos h]
      show Cg p (F a j) (F a j + (p - F a i) * F i j)
      rw [h, Int.sub_zero]
      have := (Cg.refl p (F a j)).add (Cg.self p (F i j))
      rw [Int.add_zero] at this
      exact this.symm
    · rw [if_neg h]
      exact Cg.mod _ _
/-- The first columns are those of the identity. -/
def Unit (m i : Nat) (F : Nat → Nat → Int) : Prop := ∀ j, j < i → ∀ a, a < m → F a j = oneF a j
theorem swapF_unit {m i k : Nat} {F : Nat → Nat → Int} (h : Unit m i F) (hi : i + k < m) : Unit m i (swapF F i k) := fun j hj a ha => by
  have h0 : ∀ a, i ≤ a → a < m → F a j = 0 := fun a h1 h2 => by rw [h j hj a h2]; unfold oneF; rw [if_neg (by omega)]
  unfold swapF
  by_cases e1 : a = i
  · rw [if_pos e1, h0 _ (by omega) hi]; unfold oneF; rw [if_neg (by omega)]
  · rw [if_neg e1]
    by_cases e2 : a = i + k
    · rw [if_pos e2, h0 _ (by omega) (by omega)]; unfold oneF; rw [if_neg (by omega)]
    · rw [if_neg e2]; exact h j hj a ha
theorem divF_unit {p : Int} {m i : Nat} {F : Nat → Nat → Int} (h : Unit m i F) (hi : i < m) : Unit m i (divF p F i) := fun j hj a ha => by
  unfold divF
  by_cases e1 : a = i
  · subst e1
    rw [if_pos rfl]
    show (0 + invI p (F a a) * F a j) % p = _
    rw [h j hj a ha]; unfold oneF; rw [if_neg (by omega)]; simp
  · rw [if_neg e1]; exact h j hj a ha
theorem clrF_unit {p : Int} {m n i : Nat} {F : Nat → Nat → Int} (_hp : 1 < p) (h : Unit m i F) (hi : i < m) (h1 : F i i = 1) (hF : InG p m n F) (hn : m ≤ n) : Unit m (i + 1) (clrF p F i) := fun j hj a ha => by
  by_cases e1 : a = i
  · subst e1
    unfold clrF
    rw [if_pos rfl]
    by_cases e2 : j = a
    · subst e2; rw [h1]; unfold oneF; rw [if_pos rfl]
    · exact h j (by omega) a ha
  · by_cases e2 : j = i
    · subst e2
      have ho : oneF a j = 0 := by unfold oneF; rw [if_neg (by omega)]
      rw [ho]
      unfold clrF
      rw [if_neg e1]
      by_cases h3 : F a j = 0
      · rw [if_pos h3]; exact h3
      · rw [if_neg h3]
        show (F a j + (p - F a j) * F j j) % p = 0
        rw [h1, Int.mul_one]
        have : F a j + (p - F a j) = p := by omega
        rw [this]; simp
    · have h2 : F i j = 0 := by rw [h j (by omega) i hi]; unfold oneF; rw [if_neg (by omega)]
      unfold clrF
      rw [if_neg e1]
      split
      · exact h j (by omega) a ha
      · show (F a j + (p - F a i) * F i j) % p = _
        rw [h2, Int.mul_zero, Int.add_zero]
        have := hF a ha j (by omega)
        rw [Int.emod_eq_of_lt this.1 this.2]
        exact h j (by omega) a ha
theorem divF_pivot {p : Int} {F : Nat → Nat → Int} {i : Nat} (hv : Cg p (invI p (F i i) * F i i) 1) (hp : 1 < p) : divF p F i i i = 1 := by
  unfold divF
  rw [if_pos rfl]
  show (0 + invI p (F i i) * F i i) % p = 1
  rw [Int.zero_add]
  have : invI p (F i i) * F i i % p = 1 % p := hv
  rw [this, Int.emod_eq_of_lt (by omega) hp]
theorem InG.swapF_ {p : Int} {m n i k : Nat} {F : Nat → Nat → Int} (h : InG p m n F) (hi : i < m) (hk : i + k < m) : InG p m n (swapF F i k) := fun a ha => by
  unfold swapF
  split
  · exact h _ hk
  · split
    · exact h _ hi
    · exact h _ ha
theorem InG.divF_ {p : Int} {m n i : Nat} {F : Nat → Nat → Int} (hp : 0 < p) (h : InG p m n F) : InG p m n (divF p F i) := fun a ha => by
  unfold divF
  split
  · exact axpy_in hp _ _ n
  · exact h _ ha
theorem InG.clrF_ {p : Int} {m n i : Nat} {F : Nat → Nat → Int} (hp : 0 < p) (h : InG p m n F) : InG p m n (clrF p F i) := fun a ha => by
  unfold clrF
  split
  · exact h _ ha
  · split
    · exact h _ ha
    · exact axpy_in hp _ _ n
/-- Residues other than 0 have inverses. -/
def Invs (p : Int) : Prop := ∀ a, 0 < a → a < p → Cg p (invI p a * a) 1
theorem Invs.ex {p : Int} (h : Invs p) (hp : 1 < p) (a : Int) (ha : ¬ Cg p a 0) : ∃ x, Cg p (x * a) 1 := by
  have h0 : a % p ≠ 0 := fun e => ha (by show a % p = 0 % p; rw [e]; simp)
  have h1 := Int.emod_nonneg a (b := p) (by omega)
  have h2 := Int.emod_lt_of_pos a (b := p) (by omega)
  exact ⟨_, ((Cg.refl p _).mul (Cg.mod p a).symm).trans (h (a % p) (by omega) h2)⟩

/-- One step of the elimination. -/
structure StepIs (p : Int) (m n i : Nat) (F : Nat → Nat → Int) (s : ElS) : Prop where
  inn : InG p m n s.1
  unit : Unit m i s.1
  d0 : 0 ≤ s.2.2
  d1 : s.2.2 < p
  deq : ∀ D, IsD p m D → Cg p (D F) (sgB s.2.1 * s.2.2 * D s.1)
theorem step_is {p : Int} {m n i : Nat} {F : Nat → Nat → Int} {s t : ElS} (hp : 1 < p) (hI : Invs p) (hn : m ≤ n) (hi : i < m) (h : StepIs p m n i F s) (e : elimS p m i s = some t) : StepIs p m n (i + 1) F t := by
  unfold elimS at e
  have hpv := pivF_is s.1 m i
  cases hk : pivF s.1 m i with
  | none => rw [hk] at e; cases e
  | some k =>
    rw [hk] at e hpv
    obtain ⟨hik, hne, -⟩ := hpv
    simp only [Option.map_some] at e
    injection e with e
    subst e
    have hS := h.inn.swapF_ hi hik
    have hU := swapF_unit h.unit hik
    have hpos : 0 < swapF s.1 i k i i ∧ swapF s.1 i k i i < p := by
      have h1 := hS i hi i (by omega)
      have h2 : swapF s.1 i k i i ≠ 0 := by unfold swapF; rw [if_pos rfl]; exact hne
      omega
    have hv := hI _ hpos.1 hpos.2
    refine ⟨(hS.divF_ (by omega)).clrF_ (by omega), clrF_unit hp (divF_unit hU hi) hi (divF_pivot hv hp) (hS.divF_ (by omega)) hn, Int.emod_nonneg _ (by omega), Int.emod_lt_of_pos _ (by omega), fun D H => ?_⟩
    have h1 := h.deq D H
    have h2 := (H.swapF_ s.1 s.2.1 hik).symm
    have h3 := (H.divF_ (swapF s.1 i k) hi hv).symm
    have h4 := (H.clrF_ (divF p (swapF s.1 i k) i) hi).symm
    have h5 := h3.trans ((Cg.refl p (swapF s.1 i k i i)).mul h4)
    show Cg p (D F) (sgB (if k = 0 then s.2.1 else !s.2.1) * (s.2.2 * swapF s.1 i k i i % p) * D (clrF p (divF p (swapF s.1 i k) i) i))
    generalize D (clrF p (divF p (swapF s.1 i k) i) i) = d3 at h5 ⊢
    generalize swapF s.1 i k i i = v at h5 ⊢
    generalize D (swapF s.1 i k) = d2 at h2 h5
    generalize sgB (if k = 0 then s.2.1 else !s.2.1) = g at h2 ⊢
    have h6 : Cg p (D F) (s.2.2 * (g * d2)) := by
      have := (Cg.refl p s.2.2).mul h2
      rw [← Int.mul_assoc, Int.mul_comm s.2.2 (sgB s.2.1)] at this
      exact h1.trans this
    have h7 : Cg p (s.2.2 * (g * d2)) (s.2.2 * (g * (v * d3))) := (Cg.refl p _).mul ((Cg.refl p _).mul h5)
    have h8 : Cg p (g * (s.2.2 * v % p) * d3) (g * (s.2.2 * v) * d3) := ((Cg.refl p g).mul (Cg.mod p _)).mul (Cg.refl p d3)
    have h9 : s.2.2 * (g * (v * d3)) = g * (s.2.2 * v) * d3 := by
      rw [Int.mul_comm g (s.2.2 * v), Int.mul_assoc, Int.mul_assoc, ← Int.mul_assoc g, Int.mul_comm g v, Int.mul_assoc]
    rw [h9] at h7
    exact h6.trans (h7.trans h8.symm)
theorem elim_is {p : Int} {m n : Nat} {F : Nat → Nat → Int} (hp : 1 < p) (hI : Invs p) (hn : m ≤ n) (hF : InG p m n F) : ∀ (i : Nat) (s : ElS), i ≤ m → elimTo p m F i = some s → StepIs p m n i F s
  | 0, s, _, e => by
    injection e with e
    subst e
    exact ⟨hF, fun j hj => absurd hj (by omega), by show (0 : Int) ≤ 1; omega, hp, fun D H => .of (by simp [sgB])⟩
  | i + 1, s, hi, e => by
    have e : (elimTo p m F i).bind (elimS p m i) = some s := e
    cases h : elimTo p m F i with
    | none => rw [h] at e; cases e
    | some t => rw [h] at e; exact step_is hp hI hn (by omega) (elim_is hp hI hn hF i t (by omega) h) e
theorem elim_fail {p : Int} {m : Nat} {F : Nat → Nat → Int} : ∀ n, elimTo p m F n = none → ∃ i s, i < n ∧ elimTo p m F i = some s ∧ pivF s.1 m i = none
  | 0, e => by cases e
  | n + 1, e => by
    cases h : elimTo p m F n with
    | none => obtain ⟨i, s, h1, h2⟩ := elim_fail n h; exact ⟨i, s, by omega, h2⟩
    | some t =>
      refine ⟨n, t, by omega, h, ?_⟩
      have e : (elimTo p m F n).bind (elimS p m n) = none := e
      rw [h] at e
      have e : (pivF t.1 m n).map _ = none := e
      simpa using e
/-- The determinant, by any D. -/
theorem detV_D {p : Int} {m n : Nat} {F : Nat → Nat → Int} (hp : 1 < p) (hI : Invs p) (hn : m ≤ n) (hF : InG p m n F) {D : (Nat → Nat → Int) → Int} (H : IsD p m D) : Cg p (D F) (detV p m F * D oneF) := by
  unfold detV
  cases h : elimTo p m F m with
  | none =>
    obtain ⟨i, s, h1, h2, h3⟩ := elim_fail m h
    have hS := elim_is hp hI hn hF i s (by omega) h2
    have hpv := pivF_is s.1 m i
    rw [h3] at hpv
    have hz : Cg p (D s.1) 0 := H.zero (hI.ex hp) (m - (i + 1)) (i + 1) i s.1 (by omega) (by omega) fun a ha1 ha2 j hj => by
      by_cases e : j = i
      · subst e
        have h4 : s.1 (j + (a - j)) j = 0 := hpv (a - j) (by omega)
        rw [show j + (a - j) = a by omega] at h4
        rw [h4]; rfl
      · rw [hS.unit j (by omega) a ha2]; unfold oneF; rw [if_neg (by omega)]; rfl
    refine (hS.deq D H).trans ?_
    have := (Cg.refl p (sgB s.2.1 * s.2.2)).mul hz
    rw [Int.mul_zero] at this
    show Cg p _ (0 * D oneF)
    rw [Int.zero_mul]; exact this
  | some s =>
    have hS := elim_is hp hI hn hF m s (Nat.le_refl _) h
    have h1 : Cg p (D s.1) (D oneF) := H.cong fun i hi j hj => .of (hS.unit j hj i hi)
    refine (hS.deq D H).trans (((Cg.refl p _).mul h1).trans (Cg.mul ?_ (.refl p _)))
    show Cg p (sgB s.2.1 * s.2.2) (if s.2.1 = true then (p - s.2.2) % p else s.2.2)
    unfold sgB
    cases s.2.1
    · simp; rfl
    · have := ((Cg.mod p (p - s.2.2))).symm
      have h2 : Cg p (-1 * s.2.2) (p - s.2.2) := by
        have := (Cg.self p 1).symm.add (Cg.refl p (-1 * s.2.2))
        rw [Int.mul_one, Int.zero_add] at this
        refine this.trans (.of ?_); omega
      exact h2.trans this
theorem detV_in {p : Int} {m n : Nat} {F : Nat → Nat → Int} (hp : 1 < p) (hI : Invs p) (hn : m ≤ n) (hF : InG p m n F) : 0 ≤ detV p m F ∧ detV p m F < p := by
  unfold detV
  cases h : elimTo p m F m with
  | none => exact ⟨Int.le_refl _, by show (0 : Int) < p; omega⟩
  | some s =>
    have hS := elim_is hp hI hn hF m s (Nat.le_refl _) h
    show 0 ≤ (if s.2.1 = true then (p - s.2.2) % p else s.2.2) ∧ (if s.2.1 = true then (p - s.2.2) % p else s.2.2) < p
    split
    · exact ⟨Int.emod_nonneg _ (by omega), Int.emod_lt_of_pos _ (by omega)⟩
    · exact ⟨hS.d0, hS.d1⟩
theorem detV_ldet {p : Int} {m n : Nat} {F : Nat → Nat → Int} (hp : 1 < p) (hI : Invs p) (hn : m ≤ n) (hF : InG p m n F) : Cg p (ldet m F) (detV p m F) := by
  have := detV_D hp hI hn hF (ldet_isD p m)
  rwa [show ldet m oneF = 1 from ldet_one m, Int.mul_one] at this
theorem mulFin {p : Int} (hp : 1 < p) (m n : Nat) (F G : Nat → Nat → Int) : InG p m n (mulF p m F G) := fun _ _ _ _ => ⟨Int.emod_nonneg _ (by omega), Int.emod_lt_of_pos _ (by omega)⟩
theorem dot_oneL (g : Nat → Nat → Int) (i j : Nat) : ∀ n, dotTo (oneF i) g j n = if i < n then g i j else 0
  | 0 => rfl
  | n + 1 => by
    rw [dotTo, dot_oneL g i j n]
    unfold oneF
    by_cases h : n = i
    · subst h; simp
    · rw [if_neg h]
      by_cases h2 : i < n
      · rw [if_pos h2, if_pos (by omega)]; simp
      · rw [if_neg h2, if_neg (by omega)]; simp
/-- The determinant is multiplicative. -/
theorem detV_mul {p : Int} {m : Nat} {F G : Nat → Nat → Int} (hp : 1 < p) (hI : Invs p) (hF : InG p m m F) (hG : InG p m m G) : detV p m (mulF p m F G) = detV p m F * detV p m G % p := by
  have h1 := detV_D hp hI (Nat.le_refl m) hF (ldetB_isD p m G)
  have h2 : ldet m (mulZ m oneF G) = ldet m G := ldet_congr m fun i hi j _ => by
    show dotTo (oneF i) G j m = _
    rw [dot_oneL, if_pos hi]
  have h3 := detV_ldet hp hI (Nat.le_refl m) hG
  have h4 : Cg p (ldet m (mulF p m F G)) (ldet m (mulZ m F G)) := ldet_mod m fun i hi j hj => Cg.mod p _
  have h5 := detV_ldet hp hI (Nat.le_refl m) (mulFin hp m m F G)
  have h6 : Cg p (detV p m (mulF p m F G)) (detV p m F * detV p m G) := h5.symm.trans (h4.trans (h1.trans ((Cg.refl p _).mul (by rw [h2]; exact h3))))
  exact (h6.trans (Cg.mod p _).symm).eq (detV_in hp hI (Nat.le_refl m) (mulFin hp m m F G)) ⟨Int.emod_nonneg _ (by omega), Int.emod_lt_of_pos _ (by omega)⟩
theorem detV_one {p : Int} {m : Nat} (hp : 1 < p) (hI : Invs p) : detV p m oneF = 1 := by
  have h : InG p m m oneF := fun i _ j _ => by unfold oneF; split <;> omega
  have := detV_ldet hp hI (Nat.le_refl m) h
  rw [show ldet m oneF = 1 from ldet_one m] at this
  exact (this.eq ⟨by omega, hp⟩ (detV_in hp hI (Nat.le_refl m) h)).symm
theorem detV_congr {p : Int} {m : Nat} {F G : Nat → Nat → Int} (hp : 1 < p) (hI : Invs p) (hF : InG p m m F) (hG : InG p m m G) (h : ∀ i, i < m → ∀ j, j < m → F i j = G i j) : detV p m F = detV p m G := by
  refine ((detV_ldet hp hI (Nat.le_refl m) hF).symm.trans (Cg.trans ?_ (detV_ldet hp hI (Nat.le_refl m) hG))).eq (detV_in hp hI (Nat.le_refl m) hF) (detV_in hp hI (Nat.le_refl m) hG)
  exact ldet_mod m fun i hi j hj => by rw [h i hi j hj]

/-- The rows beside the matrix say how it became what it is. -/
def Beside (p : Int) (m : Nat) (f G : Nat → Nat → Int) : Prop := ∀ a, a < m → ∀ j, j < m → Cg p (G a j) (dotTo (fun k => G a (m + k)) f j m)
theorem beside_axpy {p : Int} {m : Nat} {f : Nat → Nat → Int} {u v : Nat → Int} (k : Int) (hu : ∀ j, j < m → Cg p (u j) (dotTo (fun k => u (m + k)) f j m)) (hv : ∀ j, j < m → Cg p (v j) (dotTo (fun k => v (m + k)) f j m)) :
    ∀ j, j < m → Cg p (axpy k p u v j) (dotTo (fun l => axpy k p u v (m + l)) f j m) := fun j hj => by
  have h1 : Cg p (dotTo (fun l => axpy k p u v (m + l)) f j m) (dotTo (fun l => 1 * u (m + l) + k * v (m + l)) f j m) := dot_cg m (fun l _ => by
    rw [Int.one_mul]; exact Cg.mod p _) fun _ _ => .refl _ _
  rw [dot_lin (fun l => u (m + l)) (fun l => v (m + l)) 1 k, Int.one_mul] at h1
  exact ((Cg.mod p _).trans ((hu j hj).add ((Cg.refl p k).mul (hv j hj)))).trans h1.symm
theorem beside_elim {p : Int} {m : Nat} {f F : Nat → Nat → Int} (h0 : Beside p m f F) : ∀ (i : Nat) (s : ElS), i ≤ m → elimTo p m F i = some s → Beside p m f s.1
  | 0, s, _, e => by injection e with e; subst e; exact h0
  | i + 1, s, hi, e => by
    have e : (elimTo p m F i).bind (elimS p m i) = some s := e
    cases h : elimTo p m F i with
    | none => rw [h] at e; cases e
    | some t =>
      have hB := beside_elim h0 i t (by omega) h
      rw [h] at e
      have e : elimS p m i t = some s := e
      unfold elimS at e
      have hpv := pivF_is t.1 m i
      cases hk : pivF t.1 m i with
      | none => rw [hk] at e; cases e
      | some k =>
        rw [hk] at e hpv
        obtain ⟨hik, -, -⟩ := hpv
        simp only [Option.map_some] at e
        injection e with e
        subst e
        have h1 : Beside p m f (swapF t.1 i k) := fun a ha => by
          unfold swapF
          split
          · exact hB _ hik
          · split
            · exact hB _ (by omega)
            · exact hB _ ha
        have h2 : Beside p m f (divF p (swapF t.1 i k) i) := fun a ha => by
          unfold divF
          split
          · refine beside_axpy _ (fun j _ => ?_) (h1 _ (by omega))
            have : ∀ n, dotTo (fun _ => 0) f j n = 0 := fun n => by
              induction n with
              | zero => rfl
              | succ n ih => rw [dotTo, ih]; simp
            rw [this]; rfl
          · exact h1 _ ha
        show Beside p m f (clrF p (divF p (swapF t.1 i k) i) i)
        generalize divF p (swapF t.1 i k) i = G at h2
        have h3 : Beside p m f (clrF p G i) := fun a ha => by
          unfold clrF
          split
          · exact h2 _ ha
          · split
            · exact h2 _ ha
            · exact beside_axpy _ (h2 _ ha) (h2 _ (by omega))
        exact h3
theorem augF_beside (p : Int) (m : Nat) (f : Nat → Nat → Int) : Beside p m f (augF m f) := fun a ha j hj => by
  have h1 : dotTo (fun k => augF m f a (m + k)) f j m = dotTo (oneF a) f j m := by
    congr 1
    funext k
    show catF m (f a) (oneF a) (m + k) = _
    unfold catF
    rw [if_neg (by omega), show m + k - m = k by omega]
  rw [h1, dot_oneL, if_pos ha]
  show Cg p (catF m (f a) (oneF a) j) _
  unfold catF
  rw [if_pos hj]; rfl
theorem augF_in_ {p : Int} {m : Nat} {f : Nat → Nat → Int} (hp : 1 < p) (h : InG p m m f) : InG p m (m + m) (augF m f) := fun i hi j hj => by
  unfold augF catF
  by_cases e : j < m
  · rw [if_pos e]; exact h i hi j e
  · rw [if_neg e]; unfold oneF; split <;> omega
theorem detV_aug {p : Int} {m : Nat} {f : Nat → Nat → Int} (hp : 1 < p) (hI : Invs p) (hf : InG p m m f) : detV p m (augF m f) = detV p m f := by
  have h1 := detV_ldet hp hI (by omega : m ≤ m + m) (augF_in_ hp hf)
  have h2 := detV_ldet hp hI (Nat.le_refl m) hf
  have h3 : ldet m (augF m f) = ldet m f := ldet_congr m fun i _ j hj => by unfold augF catF; rw [if_pos hj]
  rw [h3] at h1
  exact (h1.symm.trans h2).eq (detV_in hp hI (by omega) (augF_in_ hp hf)) (detV_in hp hI (Nat.le_refl m) hf)
/-- The inverse is one from the left. -/
theorem invF_left {p : Int} {m : Nat} {f : Nat → Nat → Int} (hp : 1 < p) (hI : Invs p) (hf : InG p m m f) (hd : detV p m f ≠ 0) : InG p m m (invF p m f) ∧ ∀ i, i < m → ∀ j, j < m → mulF p m (invF p m f) f i j = oneF i j := by
  rw [← detV_aug hp hI hf] at hd
  unfold detV at hd
  cases h : elimTo p m (augF m f) m with
  | none => rw [h] at hd; exact absurd rfl hd
  | some s =>
    have hS := elim_is hp hI (by omega) (augF_in_ hp hf) m s (Nat.le_refl _) h
    have hB := beside_elim (augF_beside p m f) m s (Nat.le_refl _) h
    have e : ∀ i j, invF p m f i j = s.1 i (m + j) := fun i j => by unfold invF; rw [h]
    refine ⟨fun i hi j hj => by rw [e]; exact hS.inn i hi _ (by omega), fun i hi j hj => ?_⟩
    have h1 := hB i hi j hj
    rw [hS.unit j hj i hi] at h1
    have h2 : mulF p m (invF p m f) f i j = dotTo (fun k => s.1 i (m + k)) f j m % p := by
      unfold mulF
      rw [show invF p m f i = fun k => s.1 i (m + k) from funext (e i)]
    rw [h2]
    have h3 : oneF i j % p = dotTo (fun k => s.1 i (m + k)) f j m % p := h1
    rw [← h3]
    unfold oneF
    split
    · exact Int.emod_eq_of_lt (by omega) (by omega)
    · simp
/-- Equal where it matters. -/
def Eqv (m : Nat) (F G : Nat → Nat → Int) : Prop := ∀ i, i < m → ∀ j, j < m → F i j = G i j
theorem Eqv.refl (m : Nat) (F : Nat → Nat → Int) : Eqv m F F := fun _ _ _ _ => rfl
theorem Eqv.symm {m : Nat} {F G : Nat → Nat → Int} (h : Eqv m F G) : Eqv m G F := fun i hi j hj => (h i hi j hj).symm
theorem Eqv.trans {m : Nat} {F G H : Nat → Nat → Int} (h : Eqv m F G) (k : Eqv m G H) : Eqv m F H := fun i hi j hj => (h i hi j hj).trans (k i hi j hj)
theorem dot_congr2 {x y : Nat → Int} {g h : Nat → Nat → Int} {j : Nat} : ∀ n, (∀ k, k < n → x k = y k) → (∀ k, k < n → g k j = h k j) → dotTo x g j n = dotTo y h j n
  | 0, _, _ => rfl
  | n + 1, H, K => by rw [dotTo, dotTo, dot_congr2 n (fun k hk => H k (by omega)) (fun k hk => K k (by omega)), H n (by omega), K n (by omega)]
theorem Eqv.mul {p : Int} {m : Nat} {F F' G G' : Nat → Nat → Int} (h : Eqv m F F') (k : Eqv m G G') : Eqv m (mulF p m F G) (mulF p m F' G') := fun i hi j hj => by
  show dotTo (F i) G j m % p = dotTo (F' i) G' j m % p
  rw [dot_congr2 m (h i hi) fun l hl => k l hl j hj]
theorem Eqv.inG {p : Int} {m : Nat} {F G : Nat → Nat → Int} (h : Eqv m F G) (hF : InG p m m F) : InG p m m G := fun i hi j hj => by rw [← h i hi j hj]; exact hF i hi j hj
theorem oneF_inG {p : Int} (hp : 1 < p) (m : Nat) : InG p m m oneF := fun i _ j _ => by unfold oneF; split <;> omega
theorem mulF_oneL {p : Int} {m : Nat} {F : Nat → Nat → Int} (hF : InG p m m F) : Eqv m (mulF p m oneF F) F := fun i hi j hj => by
  show dotTo (oneF i) F j m % p = _
  rw [dot_oneL, if_pos hi]
  have := hF i hi j hj
  exact Int.emod_eq_of_lt this.1 this.2
theorem dot_oneR (x : Nat → Int) (j : Nat) : ∀ n, dotTo x oneF j n = if j < n then x j else 0
  | 0 => rfl
  | n + 1 => by
    rw [dotTo, dot_oneR x j n]
    unfold oneF
    by_cases h : j = n
    · subst h; simp
    · rw [if_neg h]
      by_cases h2 : j < n
      · rw [if_pos h2, if_pos (by omega)]; simp
      · rw [if_neg h2, if_neg (by omega)]; simp
theorem mulF_oneR {p : Int} {m : Nat} {F : Nat → Nat → Int} (hF : InG p m m F) : Eqv m (mulF p m F oneF) F := fun i hi j hj => by
  show dotTo (F i) oneF j m % p = _
  rw [dot_oneR, if_pos hj]
  have := hF i hi j hj
  exact Int.emod_eq_of_lt this.1 this.2
theorem det_nz {p : Int} {a b : Int} (hp : 1 < p) (hI : Invs p) (ha : 0 ≤ a ∧ a < p) (hb : 0 ≤ b ∧ b < p) (h1 : a ≠ 0) (h2 : b ≠ 0) : a * b % p ≠ 0 := fun h => by
  have h3 := hI a (by omega) ha.2
  have h4 : Cg p (invI p a * (a * b)) 0 := by
    have := (Cg.refl p (invI p a)).mul (show Cg p (a * b) 0 from by show a * b % p = 0 % p; rw [h]; simp)
    rwa [Int.mul_zero] at this
  have h5 : Cg p (invI p a * (a * b)) b := by
    rw [← Int.mul_assoc]
    have := h3.mul (Cg.refl p b)
    rwa [Int.one_mul] at this
  exact h2 ((h5.symm.trans h4).eq hb ⟨by omega, by omega⟩)
/-- The inverse is one from both sides. -/
theorem invF_det {p : Int} {m : Nat} {f : Nat → Nat → Int} (hp : 1 < p) (hI : Invs p) (hf : InG p m m f) (hd : detV p m f ≠ 0) : detV p m (invF p m f) ≠ 0 := fun h => by
  obtain ⟨h1, h2⟩ := invF_left hp hI hf hd
  have h3 := detV_mul hp hI h1 hf
  rw [detV_congr hp hI (mulFin hp m m _ _) (oneF_inG hp m) h2, detV_one hp hI, h, Int.zero_mul] at h3
  simp at h3
theorem invF_right {p : Int} {m : Nat} {f : Nat → Nat → Int} (hp : 1 < p) (hI : Invs p) (hf : InG p m m f) (hd : detV p m f ≠ 0) : Eqv m (mulF p m f (invF p m f)) oneF := by
  obtain ⟨h1, h2⟩ := invF_left hp hI hf hd
  obtain ⟨h3, h4⟩ := invF_left hp hI h1 (invF_det hp hI hf hd)
  -- the inverse of the inverse is f
  have h5 : Eqv m f (invF p m (invF p m f)) := by
    have e1 : Eqv m (mulF p m (mulF p m (invF p m (invF p m f)) (invF p m f)) f) f := (Eqv.mul h4 (.refl m f)).trans (mulF_oneL hf)
    have e2 : Eqv m (mulF p m (mulF p m (invF p m (invF p m f)) (invF p m f)) f) (invF p m (invF p m f)) := by
      refine Eqv.trans (fun i _ j _ => mulF_assoc p m _ _ _ i j) ((Eqv.mul (.refl m _) h2).trans (mulF_oneR h3))
    exact e1.symm.trans e2
  exact (Eqv.mul h5 (.refl m _)).trans h4

/-- Zero outside. -/
def cutF (m : Nat) (F : Nat → Nat → Int) (i j : Nat) : Int := if i < m ∧ j < m then F i j else 0
theorem cutF_eqv (m : Nat) (F : Nat → Nat → Int) : Eqv m (cutF m F) F := fun _ hi _ hj => if_pos ⟨hi, hj⟩
def GL (p : Int) (m : Nat) : Type := { F : Nat → Nat → Int // InG p m m F ∧ detV p m F ≠ 0 ∧ ∀ i j, ¬ (i < m ∧ j < m) → F i j = 0 }
theorem GL.ext {p : Int} {m : Nat} {a b : GL p m} (h : Eqv m a.1 b.1) : a = b := by
  apply Subtype.ext
  funext i j
  by_cases e : i < m ∧ j < m
  · exact h i e.1 j e.2
  · rw [a.2.2.2 i j e, b.2.2.2 i j e]
def glOf {p : Int} {m : Nat} (hp : 1 < p) (hI : Invs p) (F : Nat → Nat → Int) (hF : InG p m m F) (hd : detV p m F ≠ 0) : GL p m :=
  ⟨cutF m F, (cutF_eqv m F).symm.inG hF, by rw [detV_congr hp hI ((cutF_eqv m F).symm.inG hF) hF (cutF_eqv m F)]; exact hd, fun _ _ h => if_neg h⟩
theorem glOf_eqv {p : Int} {m : Nat} (hp : 1 < p) (hI : Invs p) (F : Nat → Nat → Int) (hF : InG p m m F) (hd : detV p m F ≠ 0) : Eqv m (glOf hp hI F hF hd).1 F := cutF_eqv m F
def glMul {p : Int} {m : Nat} (hp : 1 < p) (hI : Invs p) (a b : GL p m) : GL p m := glOf hp hI (mulF p m a.1 b.1) (mulFin hp m m _ _) (by
  rw [detV_mul hp hI a.2.1 b.2.1]
  exact det_nz hp hI (detV_in hp hI (Nat.le_refl m) a.2.1) (detV_in hp hI (Nat.le_refl m) b.2.1) a.2.2.1 b.2.2.1)
def glOne {p : Int} (m : Nat) (hp : 1 < p) (hI : Invs p) : GL p m := glOf hp hI oneF (oneF_inG hp m) (by rw [detV_one hp hI]; decide)
def glInv {p : Int} {m : Nat} (hp : 1 < p) (hI : Invs p) (a : GL p m) : GL p m := glOf hp hI (invF p m a.1) (invF_left hp hI a.2.1 a.2.2.1).1 (invF_det hp hI a.2.1 a.2.2.1)
theorem glMul_eqv {p : Int} {m : Nat} (hp : 1 < p) (hI : Invs p) (a b : GL p m) : Eqv m (glMul hp hI a b).1 (mulF p m a.1 b.1) := glOf_eqv _ _ _ _ _
theorem glOne_eqv {p : Int} {m : Nat} (hp : 1 < p) (hI : Invs p) : Eqv m (glOne (p := p) m hp hI).1 oneF := glOf_eqv _ _ _ _ _
theorem glInv_eqv {p : Int} {m : Nat} (hp : 1 < p) (hI : Invs p) (a : GL p m) : Eqv m (glInv hp hI a).1 (invF p m a.1) := glOf_eqv _ _ _ _ _
theorem gl_grp {p : Int} (m : Nat) (hp : 1 < p) (hI : Invs p) : IsGrp (glMul (p := p) (m := m) hp hI) (glOne m hp hI) (glInv hp hI) where
  assoc a b c := GL.ext ((glMul_eqv hp hI _ _).trans ((Eqv.mul (glMul_eqv hp hI a b) (.refl m _)).trans (Eqv.trans (fun i _ j _ => mulF_assoc p m _ _ _ i j) ((Eqv.mul (.refl m _) (glMul_eqv hp hI b c).symm).trans (glMul_eqv hp hI _ _).symm))))
  one_mul a := GL.ext ((glMul_eqv hp hI _ _).trans ((Eqv.mul (glOne_eqv hp hI) (.refl m _)).trans (mulF_oneL a.2.1)))
  mul_one a := GL.ext ((glMul_eqv hp hI _ _).trans ((Eqv.mul (.refl m _) (glOne_eqv hp hI)).trans (mulF_oneR a.2.1)))
  inv_mul a := GL.ext ((glMul_eqv hp hI _ _).trans ((Eqv.mul (glInv_eqv hp hI a) (.refl m _)).trans (Eqv.trans (invF_left hp hI a.2.1 a.2.2.1).2 (glOne_eqv hp hI).symm)))
  mul_inv a := GL.ext ((glMul_eqv hp hI _ _).trans ((Eqv.mul (.refl m _) (glInv_eqv hp hI a)).trans ((invF_right hp hI a.2.1 a.2.2.1).trans (glOne_eqv hp hI).symm)))

theorem pwGo_eqv {p : Int} {m : Nat} (hp : 1 < p) (hI : Invs p) : ∀ (k : Nat) (r s : Nat → Nat → Int) (n : Nat) (a b : GL p m), Eqv m r a.1 → Eqv m s b.1 → n < 2 ^ k →
    Eqv m (pwGo p m k r s n) (glMul hp hI a (npow (glMul hp hI) (glOne m hp hI) n b)).1
  | 0, r, s, n, a, b, hr, hs, hn => by
    have : n = 0 := by simpa using hn
    subst this
    show Eqv m r (glMul hp hI a (glOne m hp hI)).1
    rw [(gl_grp m hp hI).mul_one]; exact hr
  | k + 1, r, s, n, a, b, hr, hs, hn => by
    have G := gl_grp m hp hI
    rw [Nat.pow_succ] at hn
    have hrs : Eqv m (mulF p m r s) (glMul hp hI a b).1 := (Eqv.mul hr hs).trans (glMul_eqv hp hI a b).symm
    have hss : Eqv m (mulF p m s s) (glMul hp hI b b).1 := (Eqv.mul hs hs).trans (glMul_eqv hp hI b b).symm
    unfold pwGo
    by_cases h0 : n / 2 = 0
    · rw [if_pos h0]
      by_cases h1 : n % 2 = 1
      · have : n = 1 := by omega
        subst this
        rw [if_pos h1, npow_one G]; exact hrs
      · have : n = 0 := by omega
        subst this
        rw [if_neg h1]
        show Eqv m r (glMul hp hI a (glOne m hp hI)).1
        rw [G.mul_one]; exact hr
    · rw [if_neg h0]
      by_cases h1 : n % 2 = 1
      · rw [if_pos h1, npow_odd G _ _ _ h1]
        exact pwGo_eqv hp hI k _ _ (n / 2) _ _ hrs hss (by omega)
      · rw [if_neg h1, npow_even G _ _ (by omega)]
        exact pwGo_eqv hp hI k _ _ (n / 2) _ _ hr hss (by omega)
theorem powF_eqv {p : Int} {m n : Nat} {f : Nat → Nat → Int} (hp : 1 < p) (hI : Invs p) (b : GL p m) (hf : Eqv m f b.1) (hn : n < 2 ^ 64) : Eqv m (powF p m n f) (npow (glMul hp hI) (glOne m hp hI) n b).1 := by
  have := pwGo_eqv hp hI 64 oneF f n (glOne m hp hI) b (glOne_eqv hp hI).symm hf hn
  rwa [(gl_grp m hp hI).one_mul] at this
/-- Powers with integer exponents, as the code has them. -/
def powZ (p : Int) (m : Nat) (f : Nat → Nat → Int) (x : Int) : Nat → Nat → Int := if x < 0 then powF p m x.natAbs (invF p m f) else powF p m x.natAbs f
theorem powZ_eqv {p : Int} {m : Nat} {f : Nat → Nat → Int} (hp : 1 < p) (hI : Invs p) (hf : InG p m m f) (hd : detV p m f ≠ 0) (x : Int) (hx : x.natAbs < 2 ^ 64) :
    Eqv m (powZ p m f x) (zpow (glMul hp hI) (glOne m hp hI) (glInv hp hI) (glOf hp hI f hf hd) x).1 := by
  unfold powZ
  cases x with
  | ofNat k =>
    rw [if_neg (by show ¬ (Int.ofNat k < 0); simp)]
    exact powF_eqv hp hI _ (glOf_eqv hp hI f hf hd).symm hx
  | negSucc k =>
    rw [if_pos (Int.negSucc_lt_zero k)]
    refine powF_eqv hp hI _ ?_ hx
    -- the inverse depends only on what matters
    have h1 := invF_right hp hI hf hd
    have h2 := glInv_eqv hp hI (glOf hp hI f hf hd)
    have h3 := (invF_left hp hI (glOf hp hI f hf hd).2.1 (glOf hp hI f hf hd).2.2.1)
    have e1 : Eqv m (mulF p m (invF p m (glOf hp hI f hf hd).1) f) oneF := (Eqv.mul (.refl m _) (glOf_eqv hp hI f hf hd).symm).trans h3.2
    have e2 : Eqv m (invF p m (glOf hp hI f hf hd).1) (invF p m f) := by
      have a1 : Eqv m (mulF p m (mulF p m (invF p m (glOf hp hI f hf hd).1) f) (invF p m f)) (invF p m f) := (Eqv.mul e1 (.refl m _)).trans (mulF_oneL (invF_left hp hI hf hd).1)
      have a2 : Eqv m (mulF p m (mulF p m (invF p m (glOf hp hI f hf hd).1) f) (invF p m f)) (invF p m (glOf hp hI f hf hd).1) :=
        Eqv.trans (fun i _ j _ => mulF_assoc p m _ _ _ i j) ((Eqv.mul (.refl m _) h1).trans (mulF_oneR h3.1))
      exact a2.symm.trans a1
    exact (h2.trans e2).symm
theorem powZ_add {p : Int} {m : Nat} {f : Nat → Nat → Int} (hp : 1 < p) (hI : Invs p) (hf : InG p m m f) (hd : detV p m f ≠ 0) (x y : Int) (hx : x.natAbs < 2 ^ 62) (hy : y.natAbs < 2 ^ 62) :
    Eqv m (powZ p m f (x + y)) (mulF p m (powZ p m f x) (powZ p m f y)) := by
  have h := powZ_eqv hp hI hf hd (x + y) (by omega)
  rw [zpow_add (gl_grp m hp hI)] at h
  exact h.trans ((glMul_eqv hp hI _ _).trans (Eqv.mul (powZ_eqv hp hI hf hd x (by omega)).symm (powZ_eqv hp hI hf hd y (by omega)).symm))

/-- A prime's residues have inverses. -/
theorem invs_of {p : Int} (h2 : 2 ≤ p) (hp : P6 p.toNat) : Invs p := fun a h0 h1 => by
  obtain ⟨q, rfl⟩ : ∃ q : Nat, p = q := ⟨p.toNat, by omega⟩
  obtain ⟨x, rfl⟩ : ∃ x : Nat, a = x := ⟨a.toNat, by omega⟩
  have hp : P6 q := hp
  have hd : ¬ q ∣ x := fun h => by have := Nat.le_of_dvd (by omega) h; omega
  have h := inverse_pow hp.1 hd
  show invI (q : Int) (x : Int) * (x : Int) % (q : Int) = 1 % (q : Int)
  unfold invI
  rw [Int.toNat_natCast, Int.toNat_natCast, ← Int.natCast_mul, ← Int.natCast_emod, Nat.mod_mul_mod, Nat.mul_comm, h]
  have : 1 % q = 1 := Nat.mod_eq_of_lt (by omega)
  rw [show (1 : Int) % (q : Int) = ((1 % q : Nat) : Int) by rw [Int.natCast_emod]; rfl, this]
theorem invs_mod {p : Int} (h : modB p = true) : Invs p := invs_of (modB_true h).1 (modB_true h).2.2
end Go.Proofs.Ytokiejichnnmnaa
