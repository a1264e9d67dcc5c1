/- MATHEMATICS: the characteristic polynomial at a number is the determinant of what is left of the matrix; determinants multiply; a determinant is zero modulo a prime just if some row that is not zero is mapped to zero. -/
import Derived.Test.YtinoomcboinokaaGreatLDet
import Derived.Test.YtinoomcboinokaaGreatLSolM
namespace Go.Proofs.YtinoomcboinokaaGreat

/-- Horner's rule, the first coefficient first. -/
def hor (s : Int) (f : Ser) : Nat → Int
  | 0 => f 0
  | n + 1 => s * hor s f n + f (n + 1)
theorem hor_add (s : Int) (f g : Ser) : ∀ n, hor s (f + g) n = hor s f n + hor s g n
  | 0 => rfl
  | n + 1 => by
    show s * hor s (f + g) n + (f (n + 1) + g (n + 1)) = s * hor s f n + f (n + 1) + (s * hor s g n + g (n + 1))
    rw [hor_add s f g n, Int.mul_add]; omega
theorem hor_sm (s c : Int) (f : Ser) : ∀ n, hor s (smS c f) n = c * hor s f n
  | 0 => rfl
  | n + 1 => by
    show s * hor s (smS c f) n + c * f (n + 1) = c * (s * hor s f n + f (n + 1))
    rw [hor_sm s c f n, Int.mul_add, ← Int.mul_assoc, ← Int.mul_assoc, Int.mul_comm s c]
theorem hor_zero (s : Int) : ∀ n, hor s 0 n = 0
  | 0 => rfl
  | n + 1 => by
    show s * hor s 0 n + 0 = 0
    rw [hor_zero s n]; simp
theorem hor_sum (s : Int) (F : Nat → Ser) (m : Nat) : ∀ n, hor s (sumS F n) m = sumTo (fun i => hor s (F i) m) n
  | 0 => hor_zero s m
  | n + 1 => by
    rw [sumS_succ, hor_add, hor_sum s F m n]; rfl
/-- a + b t. -/
def linS (a b : Int) : Ser
  | 0 => a
  | 1 => b
  | _ + 2 => 0
theorem linS_deg (a b : Int) : Deg (linS a b) 1 := fun m hm => by
  obtain ⟨k, rfl⟩ : ∃ k, m = k + 2 := ⟨m - 2, by omega⟩
  rfl
theorem lin_at (a b : Int) (g : Ser) (m : Nat) : (linS a b * g) (m + 1) = a * g (m + 1) + b * g m := by
  rw [mulS_comm, mulS_two (fun _ => rfl)]
  show g (m + 1) * a + g m * b = _
  rw [Int.mul_comm, Int.mul_comm (g m)]
theorem hor_lin (s a b : Int) (g : Ser) : ∀ n, hor s (linS a b * g) (n + 1) = (a * s + b) * hor s g n + a * g (n + 1)
  | 0 => by
    show s * (linS a b * g) 0 + (linS a b * g) 1 = (a * s + b) * g 0 + a * g 1
    rw [lin_at, mulS_nil]
    show s * (a * g 0) + (a * g 1 + b * g 0) = _
    rw [Int.add_mul, ← Int.mul_assoc, Int.mul_comm s a]; omega
  | n + 1 => by
    show s * hor s (linS a b * g) (n + 1) + (linS a b * g) (n + 1 + 1) = (a * s + b) * (s * hor s g n + g (n + 1)) + a * g (n + 1 + 1)
    rw [hor_lin s a b g n, lin_at]
    generalize hor s g n = h
    rw [Int.mul_add, Int.mul_add (a * s + b), ← Int.mul_assoc, ← Int.mul_assoc (a * s + b), Int.mul_comm s (a * s + b), Int.add_mul (a * s) b (g (n + 1)), ← Int.mul_assoc s a, Int.mul_comm s a]
    omega
/-- The determinant of linear polynomials, at a number. -/
theorem hom_det (s : Int) : ∀ (n : Nat) (α β : Nat → Nat → Int), ldet n (fun i j => α i j * s + β i j) = hor s (sdet n (fun i j => linS (α i j) (β i j))) n
  | 0, _, _ => rfl
  | n + 1, α, β => by
    rw [sdet_succ, hor_sum]
    show sumTo (fun i => sgnN i * (α i 0 * s + β i 0) * ldet n (minor (fun i j => α i j * s + β i j) i)) (n + 1) = _
    refine sumTo_congr (n + 1) fun i _ => ?_
    rw [hor_sm, hor_lin]
    have hd : sdet n (minS (fun i j => linS (α i j) (β i j)) i) (n + 1) = 0 := by
      have h := (sdet_deg n (minS (fun i j => linS (α i j) (β i j)) i) (fun _ => 1) (fun a _ b _ => linS_deg _ _)).1
      rw [sumN_one] at h
      exact h (n + 1) (by omega)
    rw [hd, Int.mul_zero, Int.add_zero, Int.mul_assoc]
    congr 2
    exact hom_det s n (fun a b => α (if a < i then a else a + 1) (b + 1)) (fun a b => β (if a < i then a else a + 1) (b + 1))
theorem tM_lin (A : Nat → Nat → Int) : tM A = fun i j => linS (if i = j then 1 else 0) (- A i j) := by
  funext i j m
  match m with
  | 0 => rfl
  | 1 => rfl
  | _ + 2 => rfl
/-- The characteristic polynomial at x. -/
theorem char_det (x : Int) (n : Nat) (A : Nat → Nat → Int) : hor x (berk A n) n = ldet n (fun i j => (if i = j then 1 else 0) * x + - A i j) := by
  rw [hom_det x n (fun i j => if i = j then 1 else 0) (fun i j => - A i j), ← sdet_tM, tM_lin]
def kM (F : Nat → Nat → Int) : Nat → Nat → Ser := fun i j => cS (F i j)
/-- A product of matrices. -/
def mmZ (n : Nat) (B M : Nat → Nat → Int) (i j : Nat) : Int := sumTo (fun k => B i k * M k j) n
theorem sm_sumTo (f : Nat → Int) : ∀ n, sm f n = sumTo f n
  | 0 => rfl
  | n + 1 => by
    show sm f n + f n = sumTo f n + f n
    rw [sm_sumTo f n]
theorem sumTo_pick (x : Nat → Int) (i : Nat) : ∀ n, sumTo (fun k => (if i = k then 1 else 0) * x k) n = if i < n then x i else 0
  | 0 => rfl
  | n + 1 => by
    show sumTo (fun k => (if i = k then 1 else 0) * x k) n + (if i = n then 1 else 0) * x n = _
    rw [sumTo_pick x i n]
    by_cases e : i = n
    · subst e
      rw [if_neg (Nat.lt_irrefl _), if_pos rfl, if_pos (by omega)]; omega
    · rw [if_neg e]
      by_cases h : i < n
      · rw [if_pos h, if_pos (by omega)]; omega
      · rw [if_neg h, if_neg (by omega)]; omega
theorem sumS_at (F : Nat → Ser) (n m : Nat) : sumS F n m = sumTo (fun i => F i m) n := rfl
theorem mulM_one (n : Nat) (M : Nat → Nat → Int) {i : Nat} (hi : i < n) (j : Nat) : mulM n (fun i j => if i = j then 1 else 0) (kM M) i j = kM M i j := Ser.ext_ fun m => by
  unfold mulM
  rw [sumS_at]
  have h : ∀ k, ((if i = k then (1 : Ser) else 0) * kM M k j) m = (if i = k then (1 : Int) else 0) * kM M k j m := fun k => by
    by_cases e : i = k
    · rw [if_pos e, if_pos e, oneS_mul, Int.one_mul]
    · rw [if_neg e, if_neg e, zeroS_mul, Int.zero_mul]; rfl
  refine Eq.trans (sumTo_congr n fun k _ => h k) ?_
  rw [sumTo_pick (fun k => kM M k j m) i n, if_pos hi]
/-- Determinants multiply. -/
theorem ldet_mul (n : Nat) (B M : Nat → Nat → Int) : ldet n (mmZ n B M) = ldet n B * ldet n M := by
  obtain ⟨A, hA⟩ : ∃ A : Nat → Nat → Int, A = fun i j => (if i = j then 1 else 0) - B i j := ⟨_, rfl⟩
  have h1 := (sdetB_isA n (kM M)).all A
  have h2 : sdet n (mulM n (fun i j => if i = j then 1 else 0) (kM M)) = cS (ldet n M) := by
    rw [sdet_congr n (G := kM M) fun i hi j _ => mulM_one n M hi j]
    exact sdet_const n M
  have h3 : sdet n (mulM n (tM A) (kM M)) = sdet n (fun i j => linS (M i j) (- sumTo (fun k => A i k * M k j) n)) := sdet_congr n fun i hi j _ => Ser.ext_ fun m => by
    unfold mulM
    rw [sumS_at]
    have e : ∀ k, (tM A i k * kM M k j) m = tM A i k m * M k j := fun k => by
      unfold kM
      rw [mulS_comm, cS_mul]
      exact Int.mul_comm _ _
    rw [sumTo_congr n fun k _ => e k]
    match m with
    | 0 =>
      show sumTo (fun k => (if i = k then 1 else 0) * M k j) n = M i j
      rw [sumTo_pick (fun k => M k j) i n, if_pos hi]
    | 1 =>
      show sumTo (fun k => - A i k * M k j) n = - sumTo (fun k => A i k * M k j) n
      rw [← Int.neg_one_mul (sumTo _ n), ← sumTo_mul]
      exact sumTo_congr n fun k _ => by rw [Int.neg_mul, Int.neg_one_mul]
    | m + 2 => exact sumTo_zero n fun k _ => Int.zero_mul _
  rw [h2, h3] at h1
  have h4 : hor 1 _ n = hor 1 _ n := congrArg (fun f => hor 1 f n) h1
  rw [mulS_comm, cS_mul, hor_sm, char_det, ← hom_det 1 n M (fun i j => - sumTo (fun k => A i k * M k j) n)] at h4
  have h5 : ldet n (fun i j => M i j * 1 + - sumTo (fun k => A i k * M k j) n) = ldet n (mmZ n B M) := ldet_congr n fun i hi j _ => by
    have e : sumTo (fun k => A i k * M k j) n = M i j - mmZ n B M i j := by
      have e1 : sumTo (fun k => A i k * M k j) n = sumTo (fun k => (if i = k then 1 else 0) * M k j + - (B i k * M k j)) n := sumTo_congr n fun k _ => by
        rw [hA]
        show ((if i = k then 1 else 0) - B i k) * M k j = _
        rw [Int.sub_mul]; omega
      rw [e1, sumTo_sub, sumTo_pick (fun k => M k j) i n, if_pos hi]; rfl
    rw [e]; omega
  have h6 : ldet n (fun i j => (if i = j then 1 else 0) * 1 + - A i j) = ldet n B := ldet_congr n fun i _ j _ => by
    rw [hA]
    show (if i = j then (1 : Int) else 0) * 1 + - ((if i = j then 1 else 0) - B i j) = B i j
    omega
  rw [h5, h6] at h4
  rw [h4, Int.mul_comm]
theorem prime_dvd {p : Int} (hp : 1 < p) {ι : Int → Int} (hι : InvF p ι) {a b : Int} (h : p ∣ a * b) (ha : ¬ p ∣ a) : p ∣ b := by
  have h1 : 0 < a % p := by
    have h2 := Int.emod_nonneg a (show p ≠ 0 by omega)
    have h3 : a % p ≠ 0 := fun e => ha (Int.dvd_of_emod_eq_zero e)
    omega
  have h2 := hι _ h1 (Int.emod_lt_of_pos _ (by omega))
  have h3 := dvd_mod_sub p (a % p * ι (a % p))
  rw [h2] at h3
  have h4 := Int.dvd_mul_of_dvd_left (c := ι (a % p) * b) (dvd_mod_sub p a)
  have h5 := Int.dvd_mul_of_dvd_right (b := ι (a % p)) h
  have h6 := Int.dvd_mul_of_dvd_left (c := b) h3
  have h7 := Int.dvd_add (Int.dvd_add h6 h4) h5
  generalize ι (a % p) = c at h7
  have e : (1 - a % p * c) * b + (a % p - a) * (c * b) + c * (a * b) = b := by
    rw [Int.sub_mul, Int.sub_mul, Int.one_mul, Int.mul_assoc, ← Int.mul_assoc c a b, Int.mul_comm c a, Int.mul_assoc a c b]; omega
  rwa [e] at h7
theorem ldet_cong {p : Int} {n : Nat} {F G : Nat → Nat → Int} (h : ∀ i, i < n → ∀ j, j < n → p ∣ F i j - G i j) : p ∣ ldet n F - ldet n G := by
  have h1 := ldet_mod (p := p) n (F := F) (G := G) fun i hi j hj => Int.emod_eq_emod_iff_emod_sub_eq_zero.2 (Int.emod_eq_zero_of_dvd (h i hi j hj))
  exact Int.dvd_of_emod_eq_zero (Int.emod_eq_emod_iff_emod_sub_eq_zero.1 h1)
/-- If a row that is not zero is mapped to zero, the determinant is zero. -/
theorem det_of_ker {p : Int} (hp : 1 < p) {ι : Int → Int} (hι : InvF p ι) {n i0 : Nat} (hi : i0 < n) {M : Nat → Nat → Int} {v : Nat → Int} (hv : ¬ p ∣ v i0) (h : ∀ j, j < n → p ∣ sm (fun i => v i * M i j) n) : p ∣ ldet n M := by
  have h1 := sdet_comb (kM M) (i := i0) (fun a => cS (v a)) hi n (Nat.le_refl n)
  rw [if_pos hi] at h1
  have h2 : sdet n (rowS (kM M) i0 (fun j => sumS (fun a => cS (v a) * kM M a j) n)) = cS (ldet n (rowTo M i0 fun j => sumTo (fun a => v a * M a j) n)) := by
    rw [← sdet_const]
    refine sdet_congr n fun a _ j _ => ?_
    unfold rowS rowTo
    by_cases e : a = i0
    · rw [if_pos e, if_pos e]
      refine Ser.ext_ fun m => ?_
      rw [sumS_at]
      have e2 : ∀ k, (cS (v k) * kM M k j) m = v k * cS (M k j) m := fun k => by rw [cS_mul]; rfl
      rw [sumTo_congr n fun k _ => e2 k]
      unfold cS
      by_cases hm : m = 0
      · simp only [hm, if_true]
      · simp only [hm, if_false]
        exact sumTo_zero n fun _ _ => Int.mul_zero _
    · rw [if_neg e, if_neg e]; rfl
  rw [h2, show sdet n (kM M) = cS (ldet n M) from sdet_const n M, cS_mul] at h1
  have h3 := congrArg (fun f : Ser => f 0) h1
  have h4 : ldet n (rowTo M i0 fun j => sumTo (fun a => v a * M a j) n) = v i0 * ldet n M := h3
  have h5 : p ∣ ldet n (rowTo M i0 fun j => sumTo (fun a => v a * M a j) n) - ldet n (rowTo M i0 fun j => 0 * 0) := ldet_cong fun a _ j hj => by
    unfold rowTo
    by_cases e : a = i0
    · rw [if_pos e, if_pos e]
      have := h j hj
      rw [sm_sumTo] at this
      simpa using this
    · rw [if_neg e, if_neg e, Int.sub_self]; exact ⟨0, by simp⟩
  rw [ldet_scale hi, Int.zero_mul, Int.sub_zero, h4] at h5
  exact prime_dvd hp hι h5 hv
/-- What lies in the span of rows has coefficients. -/
theorem SpL.coefs {p : Int} {n : Nat} {M : Nat → Nat → Int} : ∀ (m : Nat) {x : Nat → Int}, SpL p (rowsL n M m) x → ∃ c : Nat → Int, ∀ j, j < n → p ∣ x j - sm (fun i => c i * M i j) m
  | 0, x, h => ⟨fun _ => 0, fun j _ => by
    have h1 : p ∣ x j := h j
    show p ∣ x j - 0
    rwa [Int.sub_zero]⟩
  | m + 1, x, h => by
    rw [rowsL_succ] at h
    obtain ⟨u, hu, t, ht⟩ := SpL.append.1 h
    obtain ⟨c, hc⟩ := SpL.coefs m hu
    refine ⟨fun i => if i = m then t else c i, fun j hj => ?_⟩
    have h1 : p ∣ x j - u j - t * (if j < n then M m j else 0) := ht j
    rw [if_pos hj] at h1
    have h2 := Int.dvd_add h1 (hc j hj)
    have e : sm (fun i => (if i = m then t else c i) * M i j) m = sm (fun i => c i * M i j) m := sm_congr fun i hi => by
      show (if i = m then t else c i) * M i j = _
      rw [if_neg (by omega)]
    show p ∣ x j - (sm (fun i => (if i = m then t else c i) * M i j) m + (if m = m then t else c m) * M m j)
    rw [e, if_pos rfl]
    rwa [show x j - u j - t * M m j + (u j - sm (fun i => c i * M i j) m) = x j - (sm (fun i => c i * M i j) m + t * M m j) by omega] at h2
/-- Of full rank: there is an inverse from the left. -/
theorem full_inv {p : Int} (hp : 1 < p) {ι : Int → Int} (hι : InvF p ι) {n : Nat} {M : Nat → Nat → Int} (h : (pivL n (elimR p n ι (rowsL n M n))).length = n) : ∃ B : Nat → Nat → Int, ∀ i, i < n → ∀ j, j < n → p ∣ mmZ n B M i j - (if i = j then 1 else 0) := by
  obtain ⟨hE, _, hS⟩ := elim_ok hp hι (rowsL n M n) (rowsL_wide n M n)
  have hall : ∀ j, j < n → (elimR p n ι (rowsL n M n) j).isSome := fun j hj => by
    unfold pivL at h
    have h1 := List.length_filter_eq_length_iff.1 (h.trans (List.length_range (n := n)).symm)
    exact h1 j (List.mem_range.2 hj)
  have key : ∀ i, ∃ c : Nat → Int, i < n → ∀ j, j < n → p ∣ (if i = j then 1 else 0) - sm (fun k => c k * M k j) n := fun i => by
    by_cases hi : i < n
    · obtain ⟨r, hr⟩ := Option.isSome_iff_exists.1 (hall i hi)
      obtain ⟨c, hc⟩ := SpL.coefs n ((hS r).1 (InR.row hE hr))
      refine ⟨c, fun _ j hj => ?_⟩
      have e : r j = if i = j then 1 else 0 := by
        by_cases e : i = j
        · subst e; rw [if_pos rfl]; exact hE.one _ _ hr
        · rw [if_neg e]; exact hE.other _ _ _ hr (hall j hj) (Ne.symm e)
      rw [← e]
      exact hc j hj
    · exact ⟨fun _ => 0, fun h => absurd h hi⟩
  obtain ⟨B, hB⟩ := Classical.axiomOfChoice key
  refine ⟨B, fun i hi j hj => ?_⟩
  have h1 := hB i hi j hj
  rw [sm_sumTo] at h1
  have h2 := Int.dvd_neg.2 h1
  rwa [show -((if i = j then 1 else 0) - sumTo (fun k => B i k * M k j) n) = mmZ n B M i j - (if i = j then 1 else 0) by unfold mmZ; omega] at h2
theorem ldet_oneZ (n : Nat) : ldet n (fun i j => if i = j then 1 else 0) = 1 := by
  refine Eq.trans (ldet_congr n (G := fun i j => if j = i then 1 else 0) fun i _ j _ => ?_) (ldet_one n)
  by_cases e : i = j
  · rw [if_pos e, if_pos e.symm]
  · rw [if_neg e, if_neg (Ne.symm e)]
theorem det_ne {p : Int} (hp : 1 < p) {n : Nat} {B M : Nat → Nat → Int} (h : ∀ i, i < n → ∀ j, j < n → p ∣ mmZ n B M i j - (if i = j then 1 else 0)) : ¬ p ∣ ldet n B ∧ ¬ p ∣ ldet n M := by
  have h1 := ldet_cong h
  rw [ldet_mul, ldet_oneZ] at h1
  have hno : ∀ a : Int, p ∣ a → ¬ p ∣ a - 1 := fun a ha h => by
    have h2 := Int.dvd_sub ha h
    rw [show a - (a - 1) = 1 by omega] at h2
    have := Int.le_of_dvd (by omega) h2
    omega
  exact ⟨fun h => hno _ (Int.dvd_mul_of_dvd_left h) h1, fun h => hno _ (Int.dvd_mul_of_dvd_right h) h1⟩
/-- The determinant is zero just if the kernel has a row. -/
theorem det_ker {p : Int} (hp : 1 < p) {ι : Int → Int} (hι : InvF p ι) (n : Nat) (M : Nat → Nat → Int) : p ∣ ldet n M ↔ 0 < (pivL n (afterR n (elimR p (n + n) ι (rowsL (n + n) (markF n M) n)))).length := by
  have hr := ker_rank hp hι n n M
  constructor
  · intro h
    apply Classical.byContradiction
    intro hn
    obtain ⟨B, hB⟩ := full_inv hp hι (n := n) (M := M) (by omega)
    exact (det_ne hp hB).2 h
  · intro h
    have hE := elimR_ech hp hι (n + n) (rowsL (n + n) (markF n M) n)
    have hA := after_ech hE
    obtain ⟨s, hs⟩ := piv_some hA h
    have hj := hA.below _ _ hs
    refine det_of_ker hp hι (i0 := (pivL n (afterR n (elimR p (n + n) ι (rowsL (n + n) (markF n M) n)))).getD 0 0) hj (v := basF n (afterR n (elimR p (n + n) ι (rowsL (n + n) (markF n M) n))) 0) ?_ fun j hj => ker_zero hp hι n n M h hj
    unfold basF
    rw [rowAt_some hs, hA.one _ _ hs]
    intro h1
    have := Int.le_of_dvd (by omega) h1
    omega
/-- The transpose. -/
theorem det_turn {p : Int} (hp : 1 < p) {ι : Int → Int} (hι : InvF p ι) {n : Nat} {M : Nat → Nat → Int} (h : p ∣ ldet n (fun i j => M j i)) : p ∣ ldet n M := by
  apply Classical.byContradiction
  intro hn
  have h0 : ¬ 0 < (pivL n (afterR n (elimR p (n + n) ι (rowsL (n + n) (markF n M) n)))).length := fun h => hn ((det_ker hp hι n M).2 h)
  have hr := ker_rank hp hι n n M
  obtain ⟨B, hB⟩ := full_inv hp hι (n := n) (M := M) (by omega)
  refine (det_ne hp (B := fun i j => M j i) (M := fun i j => B j i) fun i hi j hj => ?_).1 h
  have h1 := hB j hj i hi
  have e1 : mmZ n (fun i j => M j i) (fun i j => B j i) i j = mmZ n B M j i := sumTo_congr n fun k _ => Int.mul_comm _ _
  have e2 : (if i = j then (1 : Int) else 0) = if j = i then 1 else 0 := by
    by_cases e : i = j
    · rw [if_pos e, if_pos e.symm]
    · rw [if_neg e, if_neg (Ne.symm e)]
  rw [e1, e2]; exact h1
end Go.Proofs.YtinoomcboinokaaGreat
