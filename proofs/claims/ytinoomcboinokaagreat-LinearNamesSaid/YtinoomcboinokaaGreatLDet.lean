/- MATHEMATICS: determinants by their first column, over the ints and over power series; the characteristic polynomial by Samuelson and Berkowitz. -/
import Derived.Test.YtinoomcboinokaaGreatMMul
namespace Go.Proofs.YtinoomcboinokaaGreat
open Go Go.RowKit Num

/-- The sum of the first n. -/
def sumTo (f : Nat → Int) : Nat → Int
  | 0 => 0
  | n + 1 => sumTo f n + f n
theorem sumTo_congr {f g : Nat → Int} : ∀ n, (∀ i, i < n → f i = g i) → sumTo f n = sumTo g n
  | 0, _ => rfl
  | n + 1, h => by rw [sumTo, sumTo, sumTo_congr n (fun i hi => h i (by omega)), h n (by omega)]
theorem sumTo_mod {f g : Nat → Int} {p : Int} : ∀ n, (∀ i, i < n → f i % p = g i % p) → sumTo f n % p = sumTo g n % p
  | 0, _ => rfl
  | n + 1, h => by rw [sumTo, sumTo, Int.add_emod, sumTo_mod n (fun i hi => h i (by omega)), h n (by omega), ← Int.add_emod]
theorem sumTo_lin (f g : Nat → Int) (x y : Int) : ∀ n, sumTo (fun i => x * f i + y * g i) n = x * sumTo f n + y * sumTo g n
  | 0 => by simp [sumTo]
  | n + 1 => by rw [sumTo, sumTo, sumTo, sumTo_lin f g x y n, Int.mul_add, Int.mul_add]; omega
theorem sumTo_zero {f : Nat → Int} : ∀ n, (∀ i, i < n → f i = 0) → sumTo f n = 0
  | 0, _ => rfl
  | n + 1, h => by rw [sumTo, sumTo_zero n (fun i hi => h i (by omega)), h n (by omega)]; rfl
theorem sumTo_two {f : Nat → Int} {r : Nat} : ∀ n, r + 1 < n → (∀ i, i < n → i ≠ r → i ≠ r + 1 → f i = 0) → sumTo f n = f r + f (r + 1)
  | 0, h, _ => absurd h (by omega)
  | n + 1, h, k => by
    rw [sumTo]
    by_cases e : r + 1 < n
    · rw [sumTo_two n e (fun i hi => k i (by omega)), k n (by omega) (by omega) (by omega)]; omega
    · have e2 : n = r + 1 := by omega
      subst e2
      rw [sumTo, sumTo_zero r (fun i hi => k i (by omega) (by omega) (by omega))]; omega

def sgnN (i : Nat) : Int := if i % 2 = 0 then 1 else -1
theorem sgnN_succ (i : Nat) : sgnN (i + 1) = - sgnN i := by unfold sgnN; split <;> split <;> omega
/-- Without row i and the first column. -/
def minor (F : Nat → Nat → Int) (i : Nat) : Nat → Nat → Int := fun a b => F (if a < i then a else a + 1) (b + 1)
/-- The determinant, by the first column. -/
def ldet : Nat → (Nat → Nat → Int) → Int
  | 0, _ => 1
  | n + 1, F => sumTo (fun i => sgnN i * F i 0 * ldet n (minor F i)) (n + 1)
theorem ldet_mod {p : Int} : ∀ (n : Nat) {F G : Nat → Nat → Int}, (∀ i, i < n → ∀ j, j < n → F i j % p = G i j % p) → ldet n F % p = ldet n G % p
  | 0, _, _, _ => rfl
  | n + 1, F, G, h => by
    refine sumTo_mod (n + 1) fun i hi => ?_
    have h1 : ldet n (minor F i) % p = ldet n (minor G i) % p := ldet_mod n fun a ha b hb => by
      unfold minor
      split
      · exact h _ (by omega) _ (by omega)
      · exact h _ (by omega) _ (by omega)
    have h2 := h i hi 0 (by omega)
    have h3 : sgnN i * F i 0 % p = sgnN i * G i 0 % p := by rw [Int.mul_emod, h2, ← Int.mul_emod]
    rw [Int.mul_emod, h1, h3, ← Int.mul_emod]
theorem ldet_congr : ∀ (n : Nat) {F G : Nat → Nat → Int}, (∀ i, i < n → ∀ j, j < n → F i j = G i j) → ldet n F = ldet n G
  | 0, _, _, _ => rfl
  | n + 1, F, G, h => by
    refine sumTo_congr (n + 1) fun i hi => ?_
    have h1 : ldet n (minor F i) = ldet n (minor G i) := ldet_congr n fun a ha b hb => by
      unfold minor
      split
      · exact h _ (by omega) _ (by omega)
      · exact h _ (by omega) _ (by omega)
    show sgnN i * F i 0 * ldet n (minor F i) = _
    rw [h1, h i hi 0 (by omega)]
/-- Row r replaced. -/
def rowTo (F : Nat → Nat → Int) (r : Nat) (v : Nat → Int) (a : Nat) : Nat → Int := if a = r then v else F a
theorem rowTo_at (F : Nat → Nat → Int) (r : Nat) (v : Nat → Int) : rowTo F r v r = v := if_pos rfl
theorem rowTo_ne (F : Nat → Nat → Int) {r a : Nat} (v : Nat → Int) (h : a ≠ r) : rowTo F r v a = F a := if_neg h
theorem rowTo_self (F : Nat → Nat → Int) (r : Nat) : rowTo F r (F r) = F := by
  funext a; unfold rowTo; split
  · rename_i h; rw [h]
  · rfl
theorem minor_same (F : Nat → Nat → Int) (r : Nat) (v : Nat → Int) : minor (rowTo F r v) r = minor F r := by
  funext a b
  unfold minor rowTo
  rw [if_neg (by split <;> omega)]
theorem minor_row {F : Nat → Nat → Int} {r i : Nat} (v : Nat → Int) (h : i ≠ r) : minor (rowTo F r v) i = rowTo (minor F i) (if r < i then r else r - 1) (fun j => v (j + 1)) := by
  funext a b
  show rowTo F r v (if a < i then a else a + 1) (b + 1) = (if a = (if r < i then r else r - 1) then (fun j => v (j + 1)) else minor F i a) b
  by_cases h2 : (if a < i then a else a + 1) = r
  · have h3 : a = (if r < i then r else r - 1) := by split at h2 <;> split <;> omega
    rw [h2, rowTo_at, if_pos h3]
  · have h3 : ¬ a = (if r < i then r else r - 1) := by split at h2 <;> split <;> omega
    rw [rowTo_ne _ _ h2, if_neg h3]
    rfl
theorem ldet_lin : ∀ (n : Nat) (F : Nat → Nat → Int) (r : Nat) (u v : Nat → Int) (x y : Int), r < n → ldet n (rowTo F r (fun j => x * u j + y * v j)) = x * ldet n (rowTo F r u) + y * ldet n (rowTo F r v)
  | 0, _, _, _, _, _, _, h => absurd h (by omega)
  | n + 1, F, r, u, v, x, y, h => by
    show sumTo _ (n + 1) = x * sumTo _ (n + 1) + y * sumTo _ (n + 1)
    rw [← sumTo_lin]
    refine sumTo_congr (n + 1) fun i hi => ?_
    show sgnN i * rowTo F r (fun j => x * u j + y * v j) i 0 * ldet n (minor (rowTo F r (fun j => x * u j + y * v j)) i) = x * (sgnN i * rowTo F r u i 0 * ldet n (minor (rowTo F r u) i)) + y * (sgnN i * rowTo F r v i 0 * ldet n (minor (rowTo F r v) i))
    by_cases e : i = r
    · subst e
      rw [minor_same, minor_same, minor_same, rowTo_at, rowTo_at, rowTo_at]
      show sgnN i * (x * u 0 + y * v 0) * ldet n (minor F i) = _
      generalize ldet n (minor F i) = d
      rw [Int.mul_add, Int.add_mul, ← Int.mul_assoc x, ← Int.mul_assoc y, ← Int.mul_assoc x, ← Int.mul_assoc y, ← Int.mul_assoc (sgnN i), ← Int.mul_assoc (sgnN i), Int.mul_comm x (sgnN i), Int.mul_comm y (sgnN i)]
    · rw [minor_row _ e, minor_row _ e, minor_row _ e, rowTo_ne _ _ e, rowTo_ne _ _ e, rowTo_ne _ _ e]
      have h2 := ldet_lin n (minor F i) (if r < i then r else r - 1) (fun j => u (j + 1)) (fun j => v (j + 1)) x y (by split <;> omega)
      rw [h2, Int.mul_add, ← Int.mul_assoc, ← Int.mul_assoc, ← Int.mul_assoc x, ← Int.mul_assoc y, Int.mul_comm _ x, Int.mul_comm _ y]
theorem ldet_adj : ∀ (n : Nat) (F : Nat → Nat → Int) (r : Nat), r + 1 < n → F r = F (r + 1) → ldet n F = 0
  | 0, _, _, h, _ => absurd h (by omega)
  | n + 1, F, r, h, e => by
    show sumTo _ (n + 1) = 0
    rw [sumTo_two (r := r) (n + 1) h]
    · have hm : minor F r = minor F (r + 1) := by
        funext a b
        unfold minor
        by_cases h1 : a < r
        · rw [if_pos h1, if_pos (by omega)]
        · by_cases h2 : a = r
          · subst h2; rw [if_neg h1, if_pos (by omega), e]
          · rw [if_neg h1, if_neg (by omega)]
      show sgnN r * F r 0 * ldet n (minor F r) + sgnN (r + 1) * F (r + 1) 0 * ldet n (minor F (r + 1)) = 0
      rw [← hm, ← e, sgnN_succ, Int.neg_mul, Int.neg_mul]; omega
    · intro i hi h1 h2
      show sgnN i * F i 0 * ldet n (minor F i) = 0
      rw [ldet_adj n (minor F i) (if r < i then r else r - 1) (by split <;> omega), Int.mul_zero]
      funext b
      unfold minor
      by_cases h3 : r < i
      · rw [if_pos h3, if_pos h3, if_pos (by omega), e]
      · rw [if_neg h3, if_neg (by omega), if_neg (by omega)]
        have : r - 1 + 1 = r := by omega
        rw [this, e]
/-- Two rows replaced. -/
theorem rowTo_comm (F : Nat → Nat → Int) {r s : Nat} (u v : Nat → Int) (h : r ≠ s) : rowTo (rowTo F r u) s v = rowTo (rowTo F s v) r u := by
  funext a
  unfold rowTo
  by_cases h1 : a = s
  · subst h1; rw [if_pos rfl, if_neg (Ne.symm h), if_pos rfl]
  · rw [if_neg h1]
    by_cases h2 : a = r
    · subst h2; rw [if_pos rfl, if_pos rfl]
    · rw [if_neg h2, if_neg h2, if_neg h1]
theorem ldet_add (n : Nat) (F : Nat → Nat → Int) (r : Nat) (u v : Nat → Int) (h : r < n) : ldet n (rowTo F r (fun j => u j + v j)) = ldet n (rowTo F r u) + ldet n (rowTo F r v) := by
  have := ldet_lin n F r u v 1 1 h
  simpa using this
/-- What is 0 for equal rows changes its sign. -/
theorem ldet_turn {n : Nat} {r s : Nat} (hr : r < n) (hs : s < n) (hrs : r ≠ s) (F : Nat → Nat → Int) (H : ∀ u, ldet n (rowTo (rowTo F r u) s u) = 0) (u v : Nat → Int) :
    ldet n (rowTo (rowTo F r u) s v) = - ldet n (rowTo (rowTo F r v) s u) := by
  have h := H (fun j => u j + v j)
  rw [ldet_add n _ s u v hs, rowTo_comm F _ u hrs, rowTo_comm F _ v hrs, ldet_add n _ r u v hr, ldet_add n _ r u v hr, ← rowTo_comm F _ _ hrs, ← rowTo_comm F _ _ hrs, ← rowTo_comm F _ _ hrs, ← rowTo_comm F _ _ hrs, H u, H v] at h
  omega
theorem ldet_adj2 {n : Nat} {r : Nat} (h : r + 1 < n) (F : Nat → Nat → Int) (u : Nat → Int) : ldet n (rowTo (rowTo F r u) (r + 1) u) = 0 :=
  ldet_adj n _ r h (by rw [rowTo_at, rowTo_ne _ _ (by omega), rowTo_at])
theorem ldet_eq2 {n : Nat} : ∀ (k r : Nat), r + k + 1 < n → ∀ (F : Nat → Nat → Int) (u : Nat → Int), ldet n (rowTo (rowTo F r u) (r + k + 1) u) = 0
  | 0, r, h, F, u => ldet_adj2 h F u
  | k + 1, r, h, F, u => by
    have h1 : r + (k + 1) + 1 = (r + k + 1) + 1 := by omega
    rw [h1]
    have e : rowTo (rowTo F r u) (r + k + 1 + 1) u = rowTo (rowTo (rowTo F r u) (r + k + 1) (F (r + k + 1))) (r + k + 1 + 1) u := by
      have : rowTo (rowTo F r u) (r + k + 1) (F (r + k + 1)) = rowTo F r u := by
        have := rowTo_self (rowTo F r u) (r + k + 1)
        rwa [rowTo_ne F u (by omega)] at this
      rw [this]
    rw [e, ldet_turn (by omega) (by omega) (by omega) _ (fun w => ldet_adj2 (by omega) _ w)]
    rw [rowTo_comm _ _ _ (by omega : r + k + 1 ≠ r + k + 1 + 1), rowTo_comm F _ _ (by omega : r ≠ r + k + 1 + 1), ldet_eq2 k r (by omega)]
    rfl
theorem ldet_eq {n : Nat} {r s : Nat} (hr : r < n) (hs : s < n) (hrs : r ≠ s) (F : Nat → Nat → Int) (u : Nat → Int) : ldet n (rowTo (rowTo F r u) s u) = 0 := by
  rcases Nat.lt_or_gt_of_ne hrs with h | h
  · obtain ⟨k, rfl⟩ : ∃ k, s = r + k + 1 := ⟨s - r - 1, by omega⟩
    exact ldet_eq2 k r hs F u
  · obtain ⟨k, rfl⟩ : ∃ k, r = s + k + 1 := ⟨r - s - 1, by omega⟩
    rw [rowTo_comm F u u hrs]
    exact ldet_eq2 k s hr F u
theorem ldet_swap {n : Nat} {r s : Nat} (hr : r < n) (hs : s < n) (hrs : r ≠ s) (F : Nat → Nat → Int) : ldet n (rowTo (rowTo F r (F s)) s (F r)) = - ldet n F := by
  rw [ldet_turn hr hs hrs F (ldet_eq hr hs hrs F), rowTo_self, show rowTo F s (F s) = F from rowTo_self F s]
theorem ldet_plus {n : Nat} {r s : Nat} (hr : r < n) (hs : s < n) (hrs : r ≠ s) (F : Nat → Nat → Int) (k : Int) : ldet n (rowTo F r (fun j => F r j + k * F s j)) = ldet n F := by
  have h := ldet_lin n F r (F r) (F s) 1 k hr
  have h0 : ldet n (rowTo F r (F s)) = 0 := by
    have := ldet_eq hr hs hrs F (F s)
    rwa [rowTo_comm F _ _ hrs, rowTo_self] at this
  rw [h0, rowTo_self] at h
  simpa using h
theorem ldet_scale {n : Nat} {r : Nat} (hr : r < n) (F : Nat → Nat → Int) (k : Int) (u : Nat → Int) : ldet n (rowTo F r (fun j => k * u j)) = k * ldet n (rowTo F r u) := by
  have h := ldet_lin n F r u u k 0 hr
  simpa using h
theorem ldet_one : ∀ n, ldet n (fun i j => if j = i then 1 else 0) = 1
  | 0 => rfl
  | n + 1 => by
    show sumTo (fun i => sgnN i * (if 0 = i then 1 else 0) * ldet n (minor (fun i j => if j = i then 1 else 0) i)) (n + 1) = 1
    have h : ∀ k, sumTo (fun i => sgnN i * (if 0 = i then 1 else 0) * ldet n (minor (fun i j => if j = i then 1 else 0) i)) (k + 1) = 1 := by
      intro k
      induction k with
      | zero =>
        have e : ldet n (minor (fun i j => if j = i then 1 else 0) 0) = 1 := by
          refine Eq.trans (ldet_congr n fun a _ b _ => ?_) (ldet_one n)
          unfold minor
          simp
        simp [sumTo, sgnN, e]
      | succ k ih => rw [sumTo, ih]; simp
    exact h n
/-- The same residue. -/
def Cg (p a b : Int) : Prop := a % p = b % p
theorem Cg.refl (p a : Int) : Cg p a a := rfl
theorem Cg.of {p a b : Int} (h : a = b) : Cg p a b := by rw [h]; rfl
theorem Cg.symm {p a b : Int} (h : Cg p a b) : Cg p b a := Eq.symm h
theorem Cg.trans {p a b c : Int} (h : Cg p a b) (k : Cg p b c) : Cg p a c := Eq.trans h k
theorem Cg.add {p a b c d : Int} (h : Cg p a b) (k : Cg p c d) : Cg p (a + c) (b + d) := by unfold Cg at *; rw [Int.add_emod, h, k, ← Int.add_emod]
theorem Cg.mul {p a b c d : Int} (h : Cg p a b) (k : Cg p c d) : Cg p (a * c) (b * d) := by unfold Cg at *; rw [Int.mul_emod, h, k, ← Int.mul_emod]
theorem Cg.neg {p a b : Int} (h : Cg p a b) : Cg p (-a) (-b) := by
  have := (Cg.refl p (-1)).mul h
  simpa using this
theorem Cg.mod (p a : Int) : Cg p (a % p) a := Int.emod_emod_of_dvd a (Int.dvd_refl p)
theorem Cg.self (p a : Int) : Cg p (p * a) 0 := by show p * a % p = 0 % p; simp
theorem Cg.eq {p a b : Int} (h : Cg p a b) (ha : 0 ≤ a ∧ a < p) (hb : 0 ≤ b ∧ b < p) : a = b := by
  unfold Cg at h
  rwa [Int.emod_eq_of_lt ha.1 ha.2, Int.emod_eq_of_lt hb.1 hb.2] at h

theorem sumTo_front (f : Nat → Int) : ∀ n, sumTo f (n + 1) = f 0 + sumTo (fun i => f (i + 1)) n
  | 0 => by simp [sumTo]
  | n + 1 => by
    show sumTo f (n + 1) + f (n + 1) = f 0 + (sumTo (fun i => f (i + 1)) n + f (n + 1))
    rw [sumTo_front f n]; omega
theorem sumTo_rev (f : Nat → Int) : ∀ n, sumTo f (n + 1) = sumTo (fun i => f (n - i)) (n + 1)
  | 0 => rfl
  | n + 1 => by
    rw [sumTo_front (fun i => f (n + 1 - i)) (n + 1)]
    have h : sumTo (fun i => f (n + 1 - (i + 1))) (n + 1) = sumTo (fun i => f (n - i)) (n + 1) := sumTo_congr _ fun i _ => by rw [Nat.add_sub_add_right]
    show sumTo f (n + 1) + f (n + 1) = f (n + 1 - 0) + sumTo (fun i => f (n + 1 - (i + 1))) (n + 1)
    rw [h, ← sumTo_rev f n, Nat.sub_zero]; omega
theorem sumTo_add (f g : Nat → Int) (n : Nat) : sumTo (fun i => f i + g i) n = sumTo f n + sumTo g n := by
  have := sumTo_lin f g 1 1 n
  simpa using this
theorem sumTo_mul (c : Int) (f : Nat → Int) (n : Nat) : sumTo (fun i => c * f i) n = c * sumTo f n := by
  have := sumTo_lin f f c 0 n
  simpa using this
theorem sumTo_mulr (c : Int) (f : Nat → Int) (n : Nat) : sumTo (fun i => f i * c) n = sumTo f n * c := by
  rw [Int.mul_comm, ← sumTo_mul]
  exact sumTo_congr n fun i _ => Int.mul_comm _ _
/-- A triangle, by diagonals and by rows. -/
theorem sumTo_tri (T : Nat → Nat → Int) : ∀ n, sumTo (fun k => sumTo (fun i => T i (k - i)) (k + 1)) (n + 1) = sumTo (fun i => sumTo (fun j => T i j) (n - i + 1)) (n + 1)
  | 0 => rfl
  | n + 1 => by
    show sumTo (fun k => sumTo (fun i => T i (k - i)) (k + 1)) (n + 1) + sumTo (fun i => T i (n + 1 - i)) (n + 1 + 1) = sumTo (fun i => sumTo (fun j => T i j) (n + 1 - i + 1)) (n + 1) + sumTo (fun j => T (n + 1) j) (n + 1 - (n + 1) + 1)
    rw [sumTo_tri T n]
    have h : sumTo (fun i => sumTo (fun j => T i j) (n + 1 - i + 1)) (n + 1) = sumTo (fun i => sumTo (fun j => T i j) (n - i + 1) + T i (n + 1 - i)) (n + 1) := sumTo_congr _ fun i hi => by
      rw [show n + 1 - i = n - i + 1 by omega]; rfl
    rw [h, sumTo_add]
    show _ + (sumTo (fun i => T i (n + 1 - i)) (n + 1) + T (n + 1) (n + 1 - (n + 1))) = _ + sumTo (fun j => T (n + 1) j) (n + 1 - (n + 1) + 1)
    rw [Nat.sub_self]
    show _ = _ + (0 + T (n + 1) 0)
    omega

/-- A power series. -/
def Ser : Type := Nat → Int
/-- A constant. -/
def cS (c : Int) : Ser := fun n => if n = 0 then c else 0
instance : Add Ser := ⟨fun f g n => f n + g n⟩
instance : Mul Ser := ⟨fun f g n => sumTo (fun i => f i * g (n - i)) (n + 1)⟩
instance : Zero Ser := ⟨fun _ => 0⟩
instance : One Ser := ⟨cS 1⟩
/-- A multiple. -/
def smS (c : Int) (f : Ser) : Ser := fun n => c * f n
/-- The sum of the first n. -/
def sumS (f : Nat → Ser) (n : Nat) : Ser := fun m => sumTo (fun i => f i m) n
theorem Ser.ext_ {f g : Ser} (h : ∀ n, f n = g n) : f = g := funext h
theorem addS_at (f g : Ser) (n : Nat) : (f + g) n = f n + g n := rfl
theorem mulS_at (f g : Ser) (n : Nat) : (f * g) n = sumTo (fun i => f i * g (n - i)) (n + 1) := rfl
theorem zeroS_at (n : Nat) : (0 : Ser) n = 0 := rfl
theorem oneS_at (n : Nat) : (1 : Ser) n = if n = 0 then 1 else 0 := rfl
theorem addS_comm (f g : Ser) : f + g = g + f := Ser.ext_ fun _ => Int.add_comm _ _
theorem addS_assoc (f g h : Ser) : f + g + h = f + (g + h) := Ser.ext_ fun _ => Int.add_assoc _ _ _
theorem addS_zero (f : Ser) : f + 0 = f := Ser.ext_ fun _ => Int.add_zero _
theorem zeroS_add (f : Ser) : 0 + f = f := Ser.ext_ fun _ => Int.zero_add _
theorem mulS_comm (f g : Ser) : f * g = g * f := Ser.ext_ fun n => by
  rw [mulS_at, mulS_at, sumTo_rev]
  refine sumTo_congr _ fun i hi => ?_
  rw [show n - (n - i) = i by omega, Int.mul_comm]
theorem mulS_add (f g h : Ser) : f * (g + h) = f * g + f * h := Ser.ext_ fun n => by
  rw [addS_at, mulS_at, mulS_at, mulS_at, ← sumTo_add]
  exact sumTo_congr _ fun i _ => Int.mul_add _ _ _
theorem addS_mul (f g h : Ser) : (f + g) * h = f * h + g * h := by rw [mulS_comm, mulS_add, mulS_comm h, mulS_comm h]
theorem mulS_zero (f : Ser) : f * 0 = 0 := Ser.ext_ fun _ => sumTo_zero _ fun _ _ => Int.mul_zero _
theorem zeroS_mul (f : Ser) : 0 * f = 0 := by rw [mulS_comm, mulS_zero]
theorem cS_mul (c : Int) (f : Ser) : cS c * f = smS c f := Ser.ext_ fun n => by
  rw [mulS_at, sumTo_front, sumTo_zero n fun i _ => by show cS c (i + 1) * _ = 0; unfold cS; rw [if_neg (by omega), Int.zero_mul]]
  show c * f (n - 0) + 0 = c * f n
  rw [Int.add_zero, Nat.sub_zero]
theorem oneS_mul (f : Ser) : 1 * f = f := (cS_mul 1 f).trans (Ser.ext_ fun _ => Int.one_mul _)
theorem mulS_one (f : Ser) : f * 1 = f := by rw [mulS_comm, oneS_mul]
theorem mulS_assoc (f g h : Ser) : f * g * h = f * (g * h) := Ser.ext_ fun n => by
  show sumTo (fun k => sumTo (fun i => f i * g (k - i)) (k + 1) * h (n - k)) (n + 1) = sumTo (fun i => f i * sumTo (fun j => g j * h (n - i - j)) (n - i + 1)) (n + 1)
  have e1 := sumTo_tri (fun i j => f i * g j * h (n - i - j)) n
  refine Eq.trans (sumTo_congr _ fun k hk => ?_) (e1.trans (sumTo_congr _ fun i hi => ?_))
  · rw [← sumTo_mulr]
    refine sumTo_congr _ fun i hi => ?_
    rw [show n - i - (k - i) = n - k by omega]
  · rw [← sumTo_mul]
    exact sumTo_congr _ fun j _ => Int.mul_assoc _ _ _
theorem mulS_left (f g h : Ser) : f * (g * h) = g * (f * h) := by rw [← mulS_assoc, mulS_comm f, mulS_assoc]
theorem smS_mul (c : Int) (f g : Ser) : smS c f * g = smS c (f * g) := by rw [← cS_mul, ← cS_mul, mulS_assoc]
theorem mul_smS (c : Int) (f g : Ser) : f * smS c g = smS c (f * g) := by rw [mulS_comm, smS_mul, mulS_comm]
theorem smS_add (c : Int) (f g : Ser) : smS c (f + g) = smS c f + smS c g := Ser.ext_ fun _ => Int.mul_add _ _ _
theorem smS_zero (c : Int) : smS c 0 = 0 := Ser.ext_ fun _ => Int.mul_zero _
theorem sumS_succ (f : Nat → Ser) (n : Nat) : sumS f (n + 1) = sumS f n + f n := rfl
theorem sumS_congr {f g : Nat → Ser} (n : Nat) (h : ∀ i, i < n → f i = g i) : sumS f n = sumS g n := Ser.ext_ fun m => sumTo_congr n fun i hi => by rw [h i hi]
theorem sumS_zero {f : Nat → Ser} (n : Nat) (h : ∀ i, i < n → f i = 0) : sumS f n = 0 := Ser.ext_ fun m => sumTo_zero n fun i hi => by rw [h i hi]; rfl
theorem sumS_add (f g : Nat → Ser) (n : Nat) : sumS (fun i => f i + g i) n = sumS f n + sumS g n := Ser.ext_ fun _ => sumTo_add _ _ n
theorem mul_sumS (x : Ser) (f : Nat → Ser) : ∀ n, x * sumS f n = sumS (fun i => x * f i) n
  | 0 => mulS_zero x
  | n + 1 => by rw [sumS_succ, sumS_succ, mulS_add, mul_sumS x f n]
theorem sumS_mul (x : Ser) (f : Nat → Ser) (n : Nat) : sumS f n * x = sumS (fun i => f i * x) n := by
  rw [mulS_comm, mul_sumS]
  exact sumS_congr n fun i _ => mulS_comm _ _

/-- Matrices of power series: without row i and the first column. -/
def minS (F : Nat → Nat → Ser) (i : Nat) : Nat → Nat → Ser := fun a b => F (if a < i then a else a + 1) (b + 1)
/-- The determinant. -/
def sdet : Nat → (Nat → Nat → Ser) → Ser
  | 0, _ => 1
  | n + 1, F => sumS (fun i => smS (sgnN i) (F i 0 * sdet n (minS F i))) (n + 1)
theorem sdet_succ (n : Nat) (F : Nat → Nat → Ser) : sdet (n + 1) F = sumS (fun i => smS (sgnN i) (F i 0 * sdet n (minS F i))) (n + 1) := rfl
theorem sdet_congr : ∀ (n : Nat) {F G : Nat → Nat → Ser}, (∀ i, i < n → ∀ j, j < n → F i j = G i j) → sdet n F = sdet n G
  | 0, _, _, _ => rfl
  | n + 1, F, G, h => by
    refine sumS_congr (n + 1) fun i hi => ?_
    have h1 : sdet n (minS F i) = sdet n (minS G i) := sdet_congr n fun a ha b hb => by
      unfold minS
      split
      · exact h _ (by omega) _ (by omega)
      · exact h _ (by omega) _ (by omega)
    rw [h1, h i hi 0 (by omega)]
/-- Row r replaced. -/
def rowS (F : Nat → Nat → Ser) (r : Nat) (v : Nat → Ser) (a : Nat) : Nat → Ser := if a = r then v else F a
theorem rowS_at (F : Nat → Nat → Ser) (r : Nat) (v : Nat → Ser) : rowS F r v r = v := if_pos rfl
theorem rowS_ne (F : Nat → Nat → Ser) {r a : Nat} (v : Nat → Ser) (h : a ≠ r) : rowS F r v a = F a := if_neg h
theorem rowS_self (F : Nat → Nat → Ser) (r : Nat) : rowS F r (F r) = F := by
  funext a; unfold rowS; split
  · rename_i h; rw [h]
  · rfl
theorem rowS_twice (F : Nat → Nat → Ser) (r : Nat) (u v : Nat → Ser) : rowS (rowS F r u) r v = rowS F r v := by
  funext a; unfold rowS; split
  · rfl
  · rfl
theorem minS_same (F : Nat → Nat → Ser) (r : Nat) (v : Nat → Ser) : minS (rowS F r v) r = minS F r := by
  funext a b
  unfold minS rowS
  rw [if_neg (by split <;> omega)]
theorem minS_row {F : Nat → Nat → Ser} {r i : Nat} (v : Nat → Ser) (h : i ≠ r) : minS (rowS F r v) i = rowS (minS F i) (if r < i then r else r - 1) (fun j => v (j + 1)) := by
  funext a b
  show rowS F r v (if a < i then a else a + 1) (b + 1) = (if a = (if r < i then r else r - 1) then (fun j => v (j + 1)) else minS F i a) b
  by_cases h2 : (if a < i then a else a + 1) = r
  · have h3 : a = (if r < i then r else r - 1) := by split at h2 <;> split <;> omega
    rw [h2, rowS_at, if_pos h3]
  · have h3 : ¬ a = (if r < i then r else r - 1) := by split at h2 <;> split <;> omega
    rw [rowS_ne _ _ h2, if_neg h3]
    rfl
theorem sdet_lin : ∀ (n : Nat) (F : Nat → Nat → Ser) (r : Nat) (u v : Nat → Ser) (x : Ser), r < n → sdet n (rowS F r (fun j => x * u j + v j)) = x * sdet n (rowS F r u) + sdet n (rowS F r v)
  | 0, _, _, _, _, _, h => absurd h (by omega)
  | n + 1, F, r, u, v, x, h => by
    rw [sdet_succ, sdet_succ, sdet_succ, mul_sumS, ← sumS_add]
    refine sumS_congr (n + 1) fun i hi => ?_
    by_cases e : i = r
    · subst e
      rw [minS_same, minS_same, minS_same, rowS_at, rowS_at, rowS_at]
      generalize sdet n (minS F i) = d
      rw [addS_mul, smS_add, mul_smS, mulS_assoc]
    · rw [minS_row _ e, minS_row _ e, minS_row _ e, rowS_ne _ _ e, rowS_ne _ _ e, rowS_ne _ _ e]
      have h2 := sdet_lin n (minS F i) (if r < i then r else r - 1) (fun j => u (j + 1)) (fun j => v (j + 1)) x (by split <;> omega)
      rw [h2, mulS_add, smS_add, mulS_left, mul_smS]
theorem sdet_adj : ∀ (n : Nat) (F : Nat → Nat → Ser) (r : Nat), r + 1 < n → F r = F (r + 1) → sdet n F = 0
  | 0, _, _, h, _ => absurd h (by omega)
  | n + 1, F, r, h, e => by
    have hm : minS F r = minS F (r + 1) := by
      funext a b
      unfold minS
      by_cases h1 : a < r
      · rw [if_pos h1, if_pos (by omega)]
      · by_cases h2 : a = r
        · subst h2; rw [if_neg h1, if_pos (by omega), e]
        · rw [if_neg h1, if_neg (by omega)]
    have hz : ∀ i, i < n + 1 → i ≠ r → i ≠ r + 1 → smS (sgnN i) (F i 0 * sdet n (minS F i)) = 0 := fun i hi h1 h2 => by
      rw [sdet_adj n (minS F i) (if r < i then r else r - 1) (by split <;> omega), mulS_zero, smS_zero]
      funext b
      unfold minS
      by_cases h3 : r < i
      · rw [if_pos h3, if_pos h3, if_pos (by omega), e]
      · rw [if_neg h3, if_neg (by omega), if_neg (by omega)]
        have : r - 1 + 1 = r := by omega
        rw [this, e]
    refine Ser.ext_ fun m => ?_
    rw [sdet_succ]
    show sumTo (fun i => smS (sgnN i) (F i 0 * sdet n (minS F i)) m) (n + 1) = 0
    rw [sumTo_two (r := r) (n + 1) h (fun i hi h1 h2 => by rw [hz i hi h1 h2]; rfl), ← hm, ← e, sgnN_succ]
    show sgnN r * (F r 0 * sdet n (minS F r)) m + - sgnN r * (F r 0 * sdet n (minS F r)) m = 0
    rw [Int.neg_mul]; omega
theorem rowS_comm (F : Nat → Nat → Ser) {r s : Nat} (u v : Nat → Ser) (h : r ≠ s) : rowS (rowS F r u) s v = rowS (rowS F s v) r u := by
  funext a
  unfold rowS
  by_cases h1 : a = s
  · subst h1; rw [if_pos rfl, if_neg (Ne.symm h), if_pos rfl]
  · rw [if_neg h1]
    by_cases h2 : a = r
    · subst h2; rw [if_pos rfl, if_pos rfl]
    · rw [if_neg h2, if_neg h2, if_neg h1]
theorem sdet_add (n : Nat) (F : Nat → Nat → Ser) (r : Nat) (u v : Nat → Ser) (h : r < n) : sdet n (rowS F r (fun j => u j + v j)) = sdet n (rowS F r u) + sdet n (rowS F r v) := by
  have := sdet_lin n F r u v 1 h
  simpa [oneS_mul] using this
theorem sdet_turn {n : Nat} {r s : Nat} (hr : r < n) (hs : s < n) (hrs : r ≠ s) (F : Nat → Nat → Ser) (H : ∀ u, sdet n (rowS (rowS F r u) s u) = 0) (u v : Nat → Ser) :
    sdet n (rowS (rowS F r u) s v) + sdet n (rowS (rowS F r v) s u) = 0 := by
  have h := H (fun j => u j + v j)
  rw [sdet_add n _ s u v hs, rowS_comm F _ u hrs, rowS_comm F _ v hrs, sdet_add n _ r u v hr, sdet_add n _ r u v hr, ← rowS_comm F _ _ hrs, ← rowS_comm F _ _ hrs, ← rowS_comm F _ _ hrs, ← rowS_comm F _ _ hrs, H u, H v, addS_zero, zeroS_add] at h
  rw [addS_comm]; exact h
theorem sdet_adj2 {n : Nat} {r : Nat} (h : r + 1 < n) (F : Nat → Nat → Ser) (u : Nat → Ser) : sdet n (rowS (rowS F r u) (r + 1) u) = 0 :=
  sdet_adj n _ r h (by rw [rowS_at, rowS_ne _ _ (by omega), rowS_at])
theorem sdet_eq2 {n : Nat} : ∀ (k r : Nat), r + k + 1 < n → ∀ (F : Nat → Nat → Ser) (u : Nat → Ser), sdet n (rowS (rowS F r u) (r + k + 1) u) = 0
  | 0, r, h, F, u => sdet_adj2 h F u
  | k + 1, r, h, F, u => by
    have h1 : r + (k + 1) + 1 = (r + k + 1) + 1 := by omega
    rw [h1]
    have e : rowS (rowS F r u) (r + k + 1 + 1) u = rowS (rowS (rowS F r u) (r + k + 1) (F (r + k + 1))) (r + k + 1 + 1) u := by
      have : rowS (rowS F r u) (r + k + 1) (F (r + k + 1)) = rowS F r u := by
        have := rowS_self (rowS F r u) (r + k + 1)
        rwa [rowS_ne F u (by omega)] at this
      rw [this]
    rw [e]
    have h2 := sdet_turn (n := n) (by omega) (by omega) (by omega : r + k + 1 ≠ r + k + 1 + 1) (rowS F r u) (fun w => sdet_adj2 (by omega) _ w) (F (r + k + 1)) u
    have h3 : sdet n (rowS (rowS (rowS F r u) (r + k + 1) u) (r + k + 1 + 1) (F (r + k + 1))) = 0 := by
      rw [rowS_comm _ _ _ (by omega : r + k + 1 ≠ r + k + 1 + 1), rowS_comm F _ _ (by omega : r ≠ r + k + 1 + 1), sdet_eq2 k r (by omega)]
    rwa [h3, addS_zero] at h2
theorem sdet_eq {n : Nat} {r s : Nat} (hr : r < n) (hs : s < n) (hrs : r ≠ s) (F : Nat → Nat → Ser) (u : Nat → Ser) : sdet n (rowS (rowS F r u) s u) = 0 := by
  rcases Nat.lt_or_gt_of_ne hrs with h | h
  · obtain ⟨k, rfl⟩ : ∃ k, s = r + k + 1 := ⟨s - r - 1, by omega⟩
    exact sdet_eq2 k r hs F u
  · obtain ⟨k, rfl⟩ : ∃ k, r = s + k + 1 := ⟨r - s - 1, by omega⟩
    rw [rowS_comm F u u hrs]
    exact sdet_eq2 k s hr F u
/-- A row of another in its place. -/
theorem sdet_other {n : Nat} {r s : Nat} (hr : r < n) (hs : s < n) (hrs : r ≠ s) (F : Nat → Nat → Ser) : sdet n (rowS F r (F s)) = 0 := by
  have := sdet_eq hr hs hrs F (F s)
  rwa [rowS_comm F _ _ hrs, rowS_self] at this

/-- What row operations do to D. -/
structure IsA (m : Nat) (D : (Nat → Nat → Ser) → Ser) : Prop where
  cong : ∀ {F G : Nat → Nat → Ser}, (∀ i, i < m → ∀ j, j < m → F i j = G i j) → D F = D G
  plus : ∀ (F : Nat → Nat → Ser) {r s : Nat} (k : Ser), r < m → s < m → r ≠ s → D (rowS F r (fun j => F r j + k * F s j)) = D F
  scale : ∀ (F : Nat → Nat → Ser) {r : Nat} (k : Ser) (u : Nat → Ser), r < m → D (rowS F r (fun j => k * u j)) = k * D (rowS F r u)
theorem sdet_isA (m : Nat) : IsA m (sdet m) where
  cong h := sdet_congr m h
  plus F r s k hr hs hrs := by
    have h := sdet_lin m F r (F s) (F r) k hr
    rw [sdet_other hr hs hrs, rowS_self, mulS_zero, zeroS_add] at h
    rw [← h]
    congr 1
    congr 1
    funext j
    exact addS_comm _ _
  scale F r k u hr := by
    have h := sdet_lin m F r u (fun _ => 0) k hr
    have h0 := sdet_lin m F r (fun _ => 0) (fun _ => 0) 0 hr
    rw [zeroS_mul, zeroS_add] at h0
    have hz : sdet m (rowS F r fun _ => 0) = 0 := by
      have h1 := sdet_lin m F r (fun _ => 0) (fun _ => 0) 1 hr
      have e : (fun _ : Nat => (1 : Ser) * 0 + 0) = fun _ => 0 := by funext j; rw [mulS_zero, addS_zero]
      rw [e, oneS_mul] at h1
      refine Ser.ext_ fun n => ?_
      have := congrFun h1 n
      rw [addS_at] at this
      rw [zeroS_at]
      omega
    rw [hz, addS_zero] at h
    rw [← h]
    congr 1
    congr 1
    funext j
    exact (addS_zero _).symm
/-- The product. -/
def mulM (m : Nat) (F B : Nat → Nat → Ser) (i j : Nat) : Ser := sumS (fun k => F i k * B k j) m
theorem mulM_row (m : Nat) (F B : Nat → Nat → Ser) (r : Nat) (v : Nat → Ser) : mulM m (rowS F r v) B = rowS (mulM m F B) r (fun j => sumS (fun k => v k * B k j) m) := by
  funext a
  show (fun j => sumS (fun k => rowS F r v a k * B k j) m) = rowS (mulM m F B) r (fun j => sumS (fun k => v k * B k j) m) a
  by_cases h : a = r
  · subst h; rw [rowS_at, rowS_at]
  · rw [rowS_ne _ _ h, rowS_ne _ _ h]; rfl
theorem sdetB_isA (m : Nat) (B : Nat → Nat → Ser) : IsA m (fun F => sdet m (mulM m F B)) where
  cong h := sdet_congr m fun i hi j _ => sumS_congr m fun k hk => by rw [h i hi k hk]
  plus F r s k hr hs hrs := by
    show sdet m (mulM m (rowS F r _) B) = sdet m (mulM m F B)
    rw [mulM_row]
    have : (fun j => sumS (fun l => (F r l + k * F s l) * B l j) m) = fun j => mulM m F B r j + k * mulM m F B s j := by
      funext j
      show _ = sumS (fun l => F r l * B l j) m + k * sumS (fun l => F s l * B l j) m
      rw [mul_sumS, ← sumS_add]
      exact sumS_congr m fun l _ => by rw [addS_mul, mulS_assoc]
    rw [this]
    exact (sdet_isA m).plus (mulM m F B) k hr hs hrs
  scale F r k u hr := by
    show sdet m (mulM m (rowS F r _) B) = k * sdet m (mulM m (rowS F r u) B)
    rw [mulM_row, mulM_row]
    have : (fun j => sumS (fun l => (k * u l) * B l j) m) = fun j => k * sumS (fun l => u l * B l j) m := by
      funext j
      rw [mul_sumS]
      exact sumS_congr m fun l _ => by rw [mulS_assoc]
    rw [this]
    exact (sdet_isA m).scale (mulM m F B) k _ hr
/-- A combination of rows above added. -/
theorem IsA.comb {m : Nat} {D : (Nat → Nat → Ser) → Ser} (H : IsA m D) (F : Nat → Nat → Ser) {r : Nat} (w : Nat → Ser) (hr : r < m) : ∀ k, k ≤ r → D (rowS F r (fun j => F r j + sumS (fun i => w i * F i j) k)) = D F
  | 0, _ => by
    have e : (fun j => F r j + sumS (fun i => w i * F i j) 0) = F r := by funext j; exact addS_zero _
    rw [e, rowS_self]
  | k + 1, h => by
    rw [← H.comb F w hr k (by omega)]
    have := H.plus (rowS F r (fun j => F r j + sumS (fun i => w i * F i j) k)) (w k) hr (by omega : k < m) (by omega)
    rw [rowS_twice, rowS_at, rowS_ne _ _ (by omega : k ≠ r)] at this
    rw [← this]
    congr 1
    congr 1
    funext j
    rw [sumS_succ, addS_assoc]
/-- Multiples of row r added to the first n others. -/
def addR (F : Nat → Nat → Ser) (r : Nat) (k : Nat → Ser) (n a : Nat) : Nat → Ser := if a < n ∧ a ≠ r then (fun j => F a j + k a * F r j) else F a
theorem IsA.addR {m : Nat} {D : (Nat → Nat → Ser) → Ser} (H : IsA m D) (F : Nat → Nat → Ser) {r : Nat} (k : Nat → Ser) (hr : r < m) : ∀ n, n ≤ m → D (addR F r k n) = D F
  | 0, _ => by
    have : Go.Proofs.YtinoomcboinokaaGreat.addR F r k 0 = F := by funext a; unfold Go.Proofs.YtinoomcboinokaaGreat.addR; rw [if_neg (by omega)]
    rw [this]
  | n + 1, hn => by
    rw [← H.addR F k hr n (by omega)]
    by_cases h : n = r
    · subst h
      congr 1
      funext a
      unfold Go.Proofs.YtinoomcboinokaaGreat.addR
      by_cases e : a < n
      · rw [if_pos ⟨by omega, by omega⟩, if_pos ⟨e, by omega⟩]
      · rw [if_neg (by omega), if_neg (by omega)]
    · have := H.plus (Go.Proofs.YtinoomcboinokaaGreat.addR F r k n) (k n) (by omega : n < m) hr h
      rw [← this]
      congr 1
      have e1 : Go.Proofs.YtinoomcboinokaaGreat.addR F r k n n = F n := if_neg (by omega)
      have e2 : Go.Proofs.YtinoomcboinokaaGreat.addR F r k n r = F r := if_neg (by omega)
      rw [e1, e2]
      funext a
      unfold rowS
      by_cases e : a = n
      · subst e
        rw [if_pos rfl]
        unfold Go.Proofs.YtinoomcboinokaaGreat.addR
        rw [if_pos ⟨by omega, h⟩]
      · rw [if_neg e]
        unfold Go.Proofs.YtinoomcboinokaaGreat.addR
        by_cases h2 : a < n ∧ a ≠ r
        · rw [if_pos h2, if_pos ⟨by omega, h2.2⟩]
        · rw [if_neg h2, if_neg (by omega)]
/-- The negative. -/
def negS (f : Ser) : Ser := fun n => - f n
/-- The product with what has two coefficients. -/
theorem mulS_two {f g : Ser} (hg : ∀ m, g (m + 2) = 0) (m : Nat) : (f * g) (m + 1) = f (m + 1) * g 0 + f m * g 1 := by
  show sumTo (fun i => f i * g (m + 1 - i)) m + f m * g (m + 1 - m) + f (m + 1) * g (m + 1 - (m + 1)) = _
  rw [sumTo_zero m fun i hi => by rw [show m + 1 - i = (m - 1 - i) + 2 by omega, hg, Int.mul_zero], Nat.sub_self, show m + 1 - m = 1 by omega]
  omega
theorem mulS_nil (f g : Ser) : (f * g) 0 = f 0 * g 0 := by
  show 0 + f 0 * g (0 - 0) = _
  rw [Int.zero_add]
/-- The identity less t times a matrix. -/
def tM (A : Nat → Nat → Int) (i j : Nat) : Ser
  | 0 => if i = j then 1 else 0
  | 1 => - A i j
  | _ + 2 => 0
/-- Its first k rows and columns, the identity beside them. -/
def eM (A : Nat → Nat → Int) (k : Nat) (i j : Nat) : Ser := if i < k ∧ j < k then tM A i j else if i = j then 1 else 0
/-- What lies in row k, times the power of the first k rows and columns. -/
def rowP (A : Nat → Nat → Int) (k : Nat) : Nat → Nat → Int
  | 0 => A k
  | m + 1 => fun j => sumTo (fun i => rowP A k m i * A i j) k
/-- The factor of row k. -/
def sK (A : Nat → Nat → Int) (k : Nat) : Ser
  | 0 => 1
  | 1 => - A k k
  | m + 2 => - sumTo (fun i => rowP A k m i * A i k) k
def wK (A : Nat → Nat → Int) (k i : Nat) : Ser
  | 0 => 0
  | m + 1 => rowP A k m i
theorem sumTo_at (x : Nat → Int) (j : Nat) : ∀ k, sumTo (fun i => x i * (if i = j then 1 else 0)) k = if j < k then x j else 0
  | 0 => rfl
  | k + 1 => by
    rw [sumTo, sumTo_at x j k]
    by_cases h : k = j
    · subst h; simp
    · rw [if_neg h]
      by_cases h2 : j < k
      · rw [if_pos h2, if_pos (by omega)]; simp
      · rw [if_neg h2, if_neg (by omega)]; simp
theorem sumTo_sub (f g : Nat → Int) (n : Nat) : sumTo (fun i => f i + - g i) n = sumTo f n - sumTo g n := by
  have := sumTo_lin f g 1 (-1) n
  simp only [Int.one_mul, Int.neg_mul] at this
  rw [this]; omega
theorem row_gone (A : Nat → Nat → Int) (k j : Nat) (hj : j ≤ k) : tM A k j + sumS (fun i => wK A k i * tM A i j) k = if j = k then sK A k else 0 := by
  refine Ser.ext_ fun m => ?_
  rw [addS_at]
  cases m with
  | zero =>
    have h : sumS (fun i => wK A k i * tM A i j) k 0 = 0 := sumTo_zero k fun i _ => by
      show (wK A k i * tM A i j) 0 = 0
      rw [mulS_nil]
      show 0 * _ = (0 : Int)
      rw [Int.zero_mul]
    rw [h]
    show (if k = j then 1 else 0) + 0 = _
    by_cases e : j = k
    · rw [if_pos e, if_pos e.symm]; rfl
    · rw [if_neg e, if_neg (Ne.symm e)]; rfl
  | succ m =>
    have h : sumS (fun i => wK A k i * tM A i j) k (m + 1) = (if j < k then rowP A k m j else 0) - sumTo (fun i => wK A k i m * A i j) k := by
      rw [← sumTo_at, ← sumTo_sub]
      refine sumTo_congr k fun i _ => ?_
      show (wK A k i * tM A i j) (m + 1) = _
      rw [mulS_two (fun _ => rfl)]
      show rowP A k m i * (if i = j then 1 else 0) + wK A k i m * - A i j = _
      rw [Int.mul_neg]
    rw [h]
    by_cases e : j = k
    · subst e
      rw [if_pos rfl, if_neg (Nat.lt_irrefl _)]
      cases m with
      | zero =>
        rw [sumTo_zero j fun i _ => by show 0 * _ = (0 : Int); rw [Int.zero_mul]]
        show - A j j + (0 - 0) = - A j j
        omega
      | succ m =>
        show 0 + (0 - sumTo (fun i => rowP A j m i * A i j) j) = - sumTo (fun i => rowP A j m i * A i j) j
        omega
    · rw [if_neg e, if_pos (by omega)]
      cases m with
      | zero =>
        rw [sumTo_zero k fun i _ => by show 0 * _ = (0 : Int); rw [Int.zero_mul]]
        show - A k j + (A k j - 0) = 0
        omega
      | succ m =>
        show 0 + (sumTo (fun i => rowP A k m i * A i j) k - sumTo (fun i => rowP A k m i * A i j) k) = 0
        omega
/-- A step of Samuelson and Berkowitz. -/
theorem IsA.step {m : Nat} {D : (Nat → Nat → Ser) → Ser} (H : IsA m D) (A : Nat → Nat → Int) {k : Nat} (hk : k < m) : D (eM A (k + 1)) = sK A k * D (eM A k) := by
  have hin : ∀ i j, i < k + 1 → j < k + 1 → eM A (k + 1) i j = tM A i j := fun i j hi hj => if_pos ⟨hi, hj⟩
  have hout : ∀ i j, ¬ (i < k + 1 ∧ j < k + 1) → eM A (k + 1) i j = if i = j then 1 else 0 := fun i j h => if_neg h
  rw [← H.comb (eM A (k + 1)) (wK A k) hk k (Nat.le_refl _)]
  have e1 : rowS (eM A (k + 1)) k (fun j => eM A (k + 1) k j + sumS (fun i => wK A k i * eM A (k + 1) i j) k) = rowS (eM A (k + 1)) k (fun j => sK A k * (if k = j then 1 else 0)) := by
    congr 1
    funext j
    by_cases hj : j < k + 1
    · rw [hin k j (by omega) hj, sumS_congr k (g := fun i => wK A k i * tM A i j) (fun i hi => by rw [hin i j (by omega) hj]), row_gone A k j (by omega)]
      by_cases e : j = k
      · rw [if_pos e, if_pos e.symm, mulS_one]
      · rw [if_neg e, if_neg (Ne.symm e), mulS_zero]
    · rw [hout k j (by omega), if_neg (by omega), mulS_zero, zeroS_add]
      exact sumS_zero k fun i hi => by rw [hout i j (by omega), if_neg (by omega), mulS_zero]
  rw [e1, H.scale _ _ _ hk]
  congr 1
  have hM1 : ∀ j, rowS (eM A (k + 1)) k (fun j => if k = j then 1 else 0) k j = if k = j then 1 else 0 := fun j => by rw [rowS_at]
  rw [← H.addR (rowS (eM A (k + 1)) k (fun j => if k = j then 1 else 0)) (r := k) (fun a => if a < k then negS (tM A a k) else 0) hk m (Nat.le_refl _)]
  refine H.cong fun i hi j hj => ?_
  unfold Go.Proofs.YtinoomcboinokaaGreat.addR
  by_cases e : i = k
  · subst e
    rw [if_neg (by omega), hM1]
    exact (if_neg (by omega)).symm
  · rw [if_pos ⟨hi, e⟩, rowS_ne _ _ e, rowS_at]
    show eM A (k + 1) i j + (if i < k then negS (tM A i k) else 0) * (if k = j then 1 else 0) = eM A k i j
    by_cases h1 : i < k
    · rw [if_pos h1]
      by_cases h2 : k = j
      · subst h2
        rw [if_pos rfl, mulS_one, hin i k (by omega) (by omega)]
        have : eM A k i k = 0 := by unfold eM; rw [if_neg (by omega), if_neg (by omega)]
        rw [this]
        refine Ser.ext_ fun n => ?_
        show tM A i k n + - tM A i k n = 0
        omega
      · rw [if_neg h2, mulS_zero, addS_zero]
        by_cases h3 : j < k
        · rw [hin i j (by omega) (by omega)]; exact (if_pos ⟨h1, h3⟩).symm
        · rw [hout i j (by omega)]; exact (if_neg (by omega)).symm
    · rw [if_neg h1, zeroS_mul, addS_zero, hout i j (by omega)]
      exact (if_neg (by omega)).symm
/-- The characteristic polynomial, the greatest power first. -/
def berk (A : Nat → Nat → Int) : Nat → Ser
  | 0 => 1
  | k + 1 => berk A k * sK A k
theorem IsA.berk_ {m : Nat} {D : (Nat → Nat → Ser) → Ser} (H : IsA m D) (A : Nat → Nat → Int) : ∀ k, k ≤ m → D (eM A k) = berk A k * D (eM A 0)
  | 0, _ => (oneS_mul _).symm
  | k + 1, h => by
    rw [H.step A (by omega : k < m), H.berk_ A k (by omega), ← mulS_assoc, mulS_comm (sK A k)]
    rfl
theorem IsA.all {m : Nat} {D : (Nat → Nat → Ser) → Ser} (H : IsA m D) (A : Nat → Nat → Int) : D (tM A) = berk A m * D (fun i j => if i = j then 1 else 0) := by
  have h := H.berk_ A m (Nat.le_refl _)
  rw [H.cong (F := eM A m) (G := tM A) fun i hi j hj => if_pos ⟨hi, hj⟩, H.cong (F := eM A 0) (G := fun i j => if i = j then 1 else 0) fun i _ j _ => if_neg (by omega)] at h
  exact h
theorem cS_one : cS 1 = (1 : Ser) := rfl
/-- A matrix of constants. -/
theorem sdet_const : ∀ (n : Nat) (F : Nat → Nat → Int), sdet n (fun i j => cS (F i j)) = cS (ldet n F)
  | 0, _ => rfl
  | n + 1, F => by
    rw [sdet_succ]
    refine Ser.ext_ fun m => ?_
    show sumTo (fun i => smS (sgnN i) (cS (F i 0) * sdet n (fun a b => cS (minor F i a b))) m) (n + 1) = if m = 0 then sumTo (fun i => sgnN i * F i 0 * ldet n (minor F i)) (n + 1) else 0
    rw [sumTo_congr (n + 1) fun i _ => by rw [sdet_const n (minor F i), cS_mul]]
    by_cases h : m = 0
    · subst h
      rw [if_pos rfl]
      exact sumTo_congr _ fun i _ => by
        show sgnN i * (F i 0 * ldet n (minor F i)) = _
        rw [Int.mul_assoc]
    · rw [if_neg h]
      exact sumTo_zero _ fun i _ => by
        show sgnN i * (F i 0 * (if m = 0 then ldet n (minor F i) else 0)) = 0
        rw [if_neg h, Int.mul_zero, Int.mul_zero]
theorem sdet_one (n : Nat) : sdet n (fun i j => if i = j then 1 else 0) = 1 := by
  have h := sdet_const n (fun i j => if j = i then 1 else 0)
  rw [ldet_one] at h
  refine Eq.trans (sdet_congr n fun i _ j _ => ?_) h
  by_cases e : i = j
  · rw [if_pos e, if_pos e.symm]; rfl
  · rw [if_neg e, if_neg (Ne.symm e)]
    exact Ser.ext_ fun m => by unfold cS; split <;> rfl
theorem sdet_tM (n : Nat) (A : Nat → Nat → Int) : sdet n (tM A) = berk A n := by
  rw [(sdet_isA n).all A, sdet_one, mulS_one]

/-- No coefficient beyond d. -/
def Deg (f : Ser) (d : Nat) : Prop := ∀ m, d < m → f m = 0
theorem Deg.mul {f g : Ser} {a b : Nat} (hf : Deg f a) (hg : Deg g b) : Deg (f * g) (a + b) ∧ (f * g) (a + b) = f a * g b := by
  refine ⟨fun m hm => sumTo_zero _ fun i _ => ?_, ?_⟩
  · by_cases h : a < i
    · rw [hf i h, Int.zero_mul]
    · rw [hg (m - i) (by omega), Int.mul_zero]
  · show sumTo (fun i => f i * g (a + b - i)) (a + b + 1) = f a * g b
    have h : ∀ k, sumTo (fun i => f i * g (a + b - i)) k = if a < k then f a * g b else 0 := fun k => by
      induction k with
      | zero => rfl
      | succ k ih =>
        rw [sumTo, ih]
        by_cases e : k = a
        · subst e
          rw [if_neg (Nat.lt_irrefl _), if_pos (by omega), show k + b - k = b by omega, Int.zero_add]
        · by_cases h1 : a < k
          · rw [if_pos h1, if_pos (by omega), hf k h1, Int.zero_mul, Int.add_zero]
          · rw [if_neg h1, if_neg (by omega), hg (a + b - k) (by omega), Int.mul_zero, Int.add_zero]
    rw [h, if_pos (by omega)]
/-- The sum of the first n naturals. -/
def sumN (d : Nat → Nat) : Nat → Nat
  | 0 => 0
  | n + 1 => sumN d n + d n
theorem sumN_skip (d : Nat → Nat) (i : Nat) : ∀ n, sumN (fun a => d (if a < i then a else a + 1)) n + (if i ≤ n then d i else 0) = sumN d (n + 1) - (if i ≤ n then 0 else d n)
  | 0 => by
    by_cases h : i = 0
    · subst h; simp [sumN]
    · rw [if_neg (by omega), if_neg (by omega)]; simp [sumN]
  | n + 1 => by
    have ih := sumN_skip d i n
    show sumN (fun a => d (if a < i then a else a + 1)) n + d (if n < i then n else n + 1) + (if i ≤ n + 1 then d i else 0) = sumN d (n + 1) + d (n + 1) - (if i ≤ n + 1 then 0 else d (n + 1))
    have hs : sumN d (n + 1) = sumN d n + d n := rfl
    rw [hs] at ih ⊢
    by_cases h : i ≤ n
    · rw [if_pos h, if_pos h] at ih
      rw [if_neg (by omega : ¬ n < i), if_pos (by omega), if_pos (by omega)]
      omega
    · rw [if_neg h, if_neg h] at ih
      by_cases h2 : i = n + 1
      · subst h2
        rw [if_pos (by omega), if_pos (by omega), if_pos (by omega)]
        omega
      · rw [if_pos (by omega), if_neg (by omega), if_neg (by omega)]
        omega
theorem sumN_skip' (d : Nat → Nat) (i n : Nat) (h : i ≤ n) : d i + sumN (fun a => d (if a < i then a else a + 1)) n = sumN d (n + 1) := by
  have := sumN_skip d i n
  rw [if_pos h, if_pos h] at this
  omega
/-- The degree of a determinant, and its coefficient there. -/
theorem sdet_deg : ∀ (n : Nat) (F : Nat → Nat → Ser) (d : Nat → Nat), (∀ i, i < n → ∀ j, j < n → Deg (F i j) (d i)) → Deg (sdet n F) (sumN d n) ∧ sdet n F (sumN d n) = ldet n (fun i j => F i j (d i))
  | 0, _, _, _ => ⟨fun m hm => if_neg (by show ¬ m = 0; unfold sumN at hm; omega), rfl⟩
  | n + 1, F, d, h => by
    have hk : ∀ i, i < n + 1 → Deg (F i 0 * sdet n (minS F i)) (sumN d (n + 1)) ∧ (F i 0 * sdet n (minS F i)) (sumN d (n + 1)) = F i 0 (d i) * ldet n (minor (fun i j => F i j (d i)) i) := fun i hi => by
      obtain ⟨h1, h2⟩ := sdet_deg n (minS F i) (fun a => d (if a < i then a else a + 1)) fun a ha b hb => by
        unfold minS
        exact h _ (by split <;> omega) _ (by omega)
      have := (h i hi 0 (by omega)).mul h1
      rw [sumN_skip' d i n (by omega), h2] at this
      exact this
    rw [sdet_succ]
    refine ⟨fun m hm => sumTo_zero _ fun i hi => ?_, sumTo_congr _ fun i hi => ?_⟩
    · show sgnN i * _ = 0
      rw [(hk i hi).1 m hm, Int.mul_zero]
    · show sgnN i * (F i 0 * sdet n (minS F i)) (sumN d (n + 1)) = sgnN i * F i 0 (d i) * ldet n (minor (fun i j => F i j (d i)) i)
      rw [(hk i hi).2, Int.mul_assoc]
theorem sumN_one : ∀ n, sumN (fun _ => 1) n = n
  | 0 => rfl
  | n + 1 => by rw [sumN, sumN_one n]
theorem tM_deg (A : Nat → Nat → Int) (i j : Nat) : Deg (tM A i j) 1 := fun m hm => by
  obtain ⟨k, rfl⟩ : ∃ k, m = k + 2 := ⟨m - 2, by omega⟩
  rfl
theorem berk_deg (A : Nat → Nat → Int) (n : Nat) : Deg (berk A n) n ∧ berk A n n = ldet n (fun i j => - A i j) := by
  have := sdet_deg n (tM A) (fun _ => 1) fun i _ j _ => tM_deg A i j
  rw [sumN_one, sdet_tM] at this
  exact this
theorem ldet_scaleAll {n : Nat} (F : Nat → Nat → Int) (c : Int) : ∀ k, k ≤ n → ldet n (fun i j => if i < k then c * F i j else F i j) = c ^ k * ldet n F
  | 0, _ => by
    rw [Int.pow_zero, Int.one_mul]
    exact ldet_congr n fun i _ j _ => if_neg (by omega)
  | k + 1, h => by
    have e : (fun i j => if i < k + 1 then c * F i j else F i j) = rowTo (fun i j => if i < k then c * F i j else F i j) k (fun j => c * F k j) := by
      funext i
      unfold rowTo
      by_cases h1 : i = k
      · subst h1; funext j; rw [if_pos (by omega), if_pos rfl]
      · rw [if_neg h1]
        funext j
        show (if i < k + 1 then c * F i j else F i j) = if i < k then c * F i j else F i j
        by_cases h2 : i < k
        · rw [if_pos h2, if_pos (by omega)]
        · rw [if_neg h2, if_neg (by omega)]
    have e2 : rowTo (fun i j => if i < k then c * F i j else F i j) k (F k) = fun i j => if i < k then c * F i j else F i j := by
      have := rowTo_self (fun i j => if i < k then c * F i j else F i j) k
      have e3 : (fun j => if k < k then c * F k j else F k j) = F k := by funext j; rw [if_neg (Nat.lt_irrefl _)]
      rw [e3] at this
      exact this
    rw [e, ldet_scale (by omega : k < n), e2, ldet_scaleAll F c k (by omega), Int.pow_succ, ← Int.mul_assoc, Int.mul_comm c]
/-- The last coefficient is the determinant but for the sign. -/
theorem berk_last (A : Nat → Nat → Int) (n : Nat) : berk A n n = (-1) ^ n * ldet n A := by
  rw [(berk_deg A n).2, ← ldet_scaleAll A (-1) n (Nat.le_refl _)]
  refine ldet_congr n fun i hi j _ => ?_
  rw [if_pos hi, Int.neg_mul, Int.one_mul]
theorem berk_zero (A : Nat → Nat → Int) : ∀ n, berk A n 0 = 1
  | 0 => rfl
  | n + 1 => by
    show (berk A n * sK A n) 0 = 1
    rw [mulS_nil, berk_zero A n]; rfl
/-- The second coefficient is the negative trace. -/
theorem berk_trace (A : Nat → Nat → Int) : ∀ n, berk A n 1 = - sumTo (fun i => A i i) n
  | 0 => rfl
  | n + 1 => by
    show 0 + berk A n 0 * sK A n (1 - 0) + berk A n 1 * sK A n (1 - 1) = - (sumTo (fun i => A i i) n + A n n)
    rw [berk_zero, berk_trace A n]
    show 0 + 1 * - A n n + - sumTo (fun i => A i i) n * 1 = _
    omega

/-- Row i replaced by a combination of all rows. -/
theorem sdet_comb {n : Nat} (F : Nat → Nat → Ser) {i : Nat} (w : Nat → Ser) (hi : i < n) : ∀ k, k ≤ n → sdet n (rowS F i (fun j => sumS (fun a => w a * F a j) k)) = if i < k then w i * sdet n F else 0
  | 0, _ => by
    have h := (sdet_isA n).scale F (r := i) 0 (fun _ => 0) hi
    rw [zeroS_mul, zeroS_mul] at h
    rw [if_neg (by omega)]
    exact h
  | k + 1, hk => by
    have e : (fun j => sumS (fun a => w a * F a j) (k + 1)) = fun j => w k * F k j + sumS (fun a => w a * F a j) k := by
      funext j; rw [sumS_succ, addS_comm]
    rw [e, sdet_lin n F i (F k) _ (w k) hi, sdet_comb F w hi k (by omega)]
    by_cases h : k = i
    · subst h
      rw [rowS_self, if_neg (Nat.lt_irrefl _), if_pos (by omega), addS_zero]
    · rw [sdet_other hi (by omega) (Ne.symm h), mulS_zero, zeroS_add]
      by_cases h2 : i < k
      · rw [if_pos h2, if_pos (by omega)]
      · rw [if_neg h2, if_neg (by omega)]
/-- The rows of the powers. -/
def powR (A : Nat → Nat → Int) (n b : Nat) : Nat → Nat → Int
  | 0 => fun j => if b = j then 1 else 0
  | m + 1 => fun j => sumTo (fun i => powR A n b m i * A i j) n
/-- The rows of all powers. -/
def powS (A : Nat → Nat → Int) (n b a : Nat) : Ser := fun m => powR A n b m a
theorem pow_inv (A : Nat → Nat → Int) (n b : Nat) {j : Nat} (hj : j < n) : sumS (fun a => powS A n b a * tM A a j) n = if b = j then 1 else 0 := by
  refine Ser.ext_ fun m => ?_
  cases m with
  | zero =>
    have : sumS (fun a => powS A n b a * tM A a j) n 0 = sumTo (fun a => (if b = a then 1 else 0) * (if a = j then 1 else 0)) n := sumTo_congr n fun a _ => by
      show (powS A n b a * tM A a j) 0 = _
      rw [mulS_nil]; rfl
    rw [this, sumTo_at, if_pos hj]
    by_cases e : b = j
    · rw [if_pos e, if_pos e]; rfl
    · rw [if_neg e, if_neg e]; rfl
  | succ m =>
    have : sumS (fun a => powS A n b a * tM A a j) n (m + 1) = sumTo (fun a => powR A n b (m + 1) a * (if a = j then 1 else 0) + - (powR A n b m a * A a j)) n := sumTo_congr n fun a _ => by
      show (powS A n b a * tM A a j) (m + 1) = _
      rw [mulS_two (fun _ => rfl)]
      show powR A n b (m + 1) a * (if a = j then 1 else 0) + powR A n b m a * - A a j = _
      rw [Int.mul_neg]
    rw [this, sumTo_sub, sumTo_at, if_pos hj]
    have h0 : (if b = j then (1 : Ser) else 0) (m + 1) = 0 := by
      split
      · rfl
      · rfl
    rw [h0]
    show sumTo (fun i => powR A n b m i * A i j) n - sumTo (fun i => powR A n b m i * A i j) n = 0
    omega
theorem sumN_but (n i : Nat) : ∀ k, sumN (fun a => if a = i then 0 else 1) k = if i < k then k - 1 else k
  | 0 => by simp [sumN]
  | k + 1 => by
    rw [sumN, sumN_but n i k]
    by_cases e : k = i
    · subst e; rw [if_pos rfl, if_neg (Nat.lt_irrefl _), if_pos (by omega)]; omega
    · rw [if_neg e]
      by_cases h : i < k
      · rw [if_pos h, if_pos (by omega)]; omega
      · rw [if_neg h, if_neg (by omega)]
/-- The theorem of Cayley and Hamilton. -/
theorem cayley_hamilton (A : Nat → Nat → Int) (n b i : Nat) (_hb : b < n) (hi : i < n) : sumTo (fun m => powR A n b m i * berk A n (n - m)) (n + 1) = 0 := by
  have h := sdet_comb (n := n) (tM A) (i := i) (powS A n b) hi n (Nat.le_refl _)
  rw [if_pos hi, sdet_tM] at h
  have h1 : sdet n (rowS (tM A) i (fun j => sumS (fun a => powS A n b a * tM A a j) n)) n = 0 := by
    have hd := (sdet_deg n (rowS (tM A) i (fun j => sumS (fun a => powS A n b a * tM A a j) n)) (fun a => if a = i then 0 else 1) fun a _ j hj => by
      by_cases e : a = i
      · subst e
        rw [rowS_at, if_pos rfl]
        rw [pow_inv A n b hj]
        intro m hm
        split
        · show (if m = 0 then 1 else 0) = (0 : Int); rw [if_neg (by omega)]
        · rfl
      · rw [rowS_ne _ _ e, if_neg e]
        exact tM_deg A a j).1
    rw [sumN_but n i n, if_pos hi] at hd
    exact hd n (by omega)
  rw [h] at h1
  exact h1
theorem sumTo_cg {p : Int} {f g : Nat → Int} (n : Nat) (h : ∀ i, i < n → Cg p (f i) (g i)) : Cg p (sumTo f n) (sumTo g n) := sumTo_mod n h
end Go.Proofs.YtinoomcboinokaaGreat
