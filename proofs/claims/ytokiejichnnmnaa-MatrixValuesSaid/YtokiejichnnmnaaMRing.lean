/- The ring of square matrices, modulo p: mathematics alone. -/
import Derived.Test.YtokiejichnnmnaaMOne
import Derived.Test.YtokiejichnnmnaaMMul
namespace Go.Proofs.Ytokiejichnnmnaa
open Go Go.RowKit Num

theorem dot_congr {x y : Nat → Int} {g h : Nat → Nat → Int} {j j' : Nat} : ∀ n, (∀ k, k < n → x k * g k j = y k * h k j') → dotTo x g j n = dotTo y h j' n
  | 0, _ => rfl
  | n + 1, H => by rw [dotTo, dotTo, dot_congr n (fun k hk => H k (by omega)), H n (by omega)]
theorem dot_mod {x y : Nat → Int} {g h : Nat → Nat → Int} {p : Int} {j j' : Nat} : ∀ n, (∀ k, k < n → x k * g k j % p = y k * h k j' % p) → dotTo x g j n % p = dotTo y h j' n % p
  | 0, _ => rfl
  | n + 1, H => by rw [dotTo, dotTo, Int.add_emod, dot_mod n (fun k hk => H k (by omega)), H n (by omega), ← Int.add_emod]
theorem dot_zero (g : Nat → Nat → Int) (j : Nat) : ∀ n, dotTo (fun _ => 0) g j n = 0
  | 0 => rfl
  | n + 1 => by rw [dotTo, dot_zero g j n]; simp
theorem dot_add (x y : Nat → Int) (g : Nat → Nat → Int) (j : Nat) : ∀ n, dotTo (fun k => x k + y k) g j n = dotTo x g j n + dotTo y g j n
  | 0 => rfl
  | n + 1 => by rw [dotTo, dotTo, dotTo, dot_add x y g j n, Int.add_mul]; omega
theorem dot_smul (c : Int) (x : Nat → Int) (g : Nat → Nat → Int) (j : Nat) : ∀ n, dotTo (fun k => c * x k) g j n = c * dotTo x g j n
  | 0 => by simp [dotTo]
  | n + 1 => by rw [dotTo, dotTo, dot_smul c x g j n, Int.mul_add, Int.mul_assoc]
theorem dot_addr (x : Nat → Int) (g h : Nat → Nat → Int) (j : Nat) : ∀ n, dotTo x (fun k j => g k j + h k j) j n = dotTo x g j n + dotTo x h j n
  | 0 => rfl
  | n + 1 => by rw [dotTo, dotTo, dotTo, dot_addr x g h j n, Int.mul_add]; omega
theorem dot_assoc (x : Nat → Int) (g h : Nat → Nat → Int) (j m : Nat) : ∀ n, dotTo (fun k => dotTo x g k n) h j m = dotTo x (fun k j => dotTo (g k) h j m) j n
  | 0 => dot_zero h j m
  | n + 1 => by
    show dotTo (fun k => dotTo x g k n + x n * g n k) h j m = _
    rw [dot_add (fun k => dotTo x g k n) (fun k => x n * g n k), dot_assoc x g h j m n, dot_smul, dotTo]
theorem dot_one (x : Nat → Int) (c : Int) (j : Nat) : ∀ n, dotTo x (fun l j => c * oneF l j) j n = if j < n then c * x j else 0
  | 0 => by simp [dotTo]
  | n + 1 => by
    rw [dotTo, dot_one x c j n]
    unfold oneF
    by_cases h : j = n
    · subst h; simp [Int.mul_comm]
    · by_cases h2 : j < n
      · rw [if_pos h2, if_neg h, if_pos (by omega)]; simp
      · rw [if_neg h2, if_neg h, if_neg (by omega)]; simp

/-- Products are associative. -/
theorem mulF_assoc (p : Int) (m : Nat) (f g h : Nat → Nat → Int) (i j : Nat) : mulF p m (mulF p m f g) h i j = mulF p m f (mulF p m g h) i j := by
  have e1 : dotTo (mulF p m f g i) h j m % p = dotTo (fun k => dotTo (f i) g k m) h j m % p := dot_mod m fun k _ => by
    show (dotTo (f i) g k m % p) * h k j % p = _
    rw [Int.mul_emod, Int.emod_emod_of_dvd _ (Int.dvd_refl p), ← Int.mul_emod]
  have e2 : dotTo (f i) (mulF p m g h) j m % p = dotTo (f i) (fun k j => dotTo (g k) h j m) j m % p := dot_mod m fun k _ => by
    show f i k * (dotTo (g k) h j m % p) % p = _
    rw [Int.mul_emod, Int.emod_emod_of_dvd _ (Int.dvd_refl p), ← Int.mul_emod]
  show dotTo (mulF p m f g i) h j m % p = dotTo (f i) (mulF p m g h) j m % p
  rw [e1, e2, dot_assoc]
/-- Products are distributive. -/
theorem mulF_dist (p : Int) (m : Nat) (f g h : Nat → Nat → Int) (i j : Nat) : mulF p m f (fun i => axpy 1 p (g i) (h i)) i j = axpy 1 p (mulF p m f g i) (mulF p m f h i) j := by
  have e1 : dotTo (f i) (fun i => axpy 1 p (g i) (h i)) j m % p = dotTo (f i) (fun k j => g k j + h k j) j m % p := dot_mod m fun k _ => by
    show f i k * ((g k j + 1 * h k j) % p) % p = _
    rw [Int.mul_emod, Int.emod_emod_of_dvd _ (Int.dvd_refl p), ← Int.mul_emod, Int.one_mul]
  show dotTo (f i) (fun i => axpy 1 p (g i) (h i)) j m % p = (dotTo (f i) g j m % p + 1 * (dotTo (f i) h j m % p)) % p
  rw [e1, dot_addr, Int.one_mul, ← Int.add_emod]
/-- The turn of a product. -/
theorem mulF_turn (p : Int) (m : Nat) (f g : Nat → Nat → Int) (i j : Nat) : mulF p m f g j i = mulF p m (fun i j => g j i) (fun i j => f j i) i j := by
  show dotTo (f j) g i m % p = dotTo (fun k => g k i) (fun k j => f j k) j m % p
  rw [dot_congr (y := fun k => g k i) (h := fun k j => f j k) (j' := j) m fun k _ => Int.mul_comm (f j k) (g k i)]
/-- A multiple is a product. -/
theorem mulF_scale (p k : Int) (m : Nat) (f : Nat → Nat → Int) (i j : Nat) (hj : j < m) : axpy k p (fun _ => 0) (f i) j = mulF p m f (fun i => axpy k p (fun _ => 0) (oneF i)) i j := by
  have e1 : dotTo (f i) (fun i => axpy k p (fun _ => 0) (oneF i)) j m % p = dotTo (f i) (fun l j => k * oneF l j) j m % p := dot_mod m fun l _ => by
    show f i l * ((0 + k * oneF l j) % p) % p = _
    rw [Int.mul_emod, Int.emod_emod_of_dvd _ (Int.dvd_refl p), ← Int.mul_emod, Int.zero_add]
  show (0 + k * f i j) % p = dotTo (f i) (fun i => axpy k p (fun _ => 0) (oneF i)) j m % p
  rw [e1, dot_one, if_pos hj, Int.zero_add]
end Go.Proofs.Ytokiejichnnmnaa
