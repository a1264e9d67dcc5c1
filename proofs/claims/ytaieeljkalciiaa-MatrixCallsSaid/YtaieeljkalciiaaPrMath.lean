/- Primes and residues modulo them: the number theory. No program. -/
namespace Go.Proofs.Ytaieeljkalciiaa.Num

/-- A prime. -/
def Pr (p : Nat) : Prop := 2 ≤ p ∧ ∀ d, d ∣ p → d = 1 ∨ d = p

theorem Pr.cop {p a : Nat} (hp : Pr p) (h : ¬ p ∣ a) : Nat.Coprime p a := by
  have h1 : Nat.gcd p a ∣ p := Nat.gcd_dvd_left p a
  rcases hp.2 _ h1 with h2 | h2
  · exact h2
  · exact absurd (h2 ▸ Nat.gcd_dvd_right p a) h
theorem Pr.dvd_mul {p a b : Nat} (hp : Pr p) (h : p ∣ a * b) : p ∣ a ∨ p ∣ b := by
  by_cases ha : p ∣ a
  · exact Or.inl ha
  · exact Or.inr ((hp.cop ha).dvd_of_dvd_mul_left h)
theorem Pr.dvd_pow {p a n : Nat} (hp : Pr p) (h : p ∣ a ^ n) : p ∣ a := by
  induction n with
  | zero =>
    rw [Nat.pow_zero] at h
    have := Nat.le_of_dvd (by decide) h
    have := hp.1
    omega
  | succ n ih =>
    rw [Nat.pow_succ] at h
    rcases hp.dvd_mul h with h | h
    · exact ih h
    · exact h
/-- The least number from 2 on that divides n. -/
def Least (n q : Nat) : Prop := 2 ≤ q ∧ q ∣ n ∧ ∀ d, 2 ≤ d → d ∣ n → q ≤ d
theorem Least.prime {n q : Nat} (h : Least n q) : Pr q := by
  refine ⟨h.1, fun d hd => ?_⟩
  by_cases h1 : d = 1
  · exact Or.inl h1
  · have h0 : d ≠ 0 := by
      rintro rfl
      have := Nat.eq_zero_of_zero_dvd hd
      have := h.1
      omega
    have := h.2.2 d (by omega) (Nat.dvd_trans hd h.2.1)
    have := Nat.le_of_dvd (by have := h.1; omega) hd
    exact Or.inr (by omega)
theorem least_exists (n : Nat) (h : 2 ≤ n) : ∃ q, Least n q := by
  have key : ∀ k, ∀ d, d + k = n → (∀ e, 2 ≤ e → e < d → ¬ e ∣ n) → 2 ≤ d → ∃ q, Least n q := by
    intro k
    induction k with
    | zero =>
      intro d hd hn h2
      refine ⟨n, h, Nat.dvd_refl n, fun e he hdv => ?_⟩
      apply Nat.le_of_not_lt
      intro hlt
      exact hn e he (by omega) hdv
    | succ k ih =>
      intro d hd hn h2
      by_cases hdv : d ∣ n
      · exact ⟨d, h2, hdv, fun e he hev => Nat.le_of_not_lt fun hlt => hn e he hlt hev⟩
      · refine ih (d + 1) (by omega) (fun e he hlt hev => ?_) (by omega)
        by_cases e = d
        · subst e; exact hdv hev
        · exact hn e he (by omega) hev
  exact key (n - 2) 2 (by omega) (fun e h1 h2 => by omega) (by omega)
theorem Least.unique {n q r : Nat} (h : Least n q) (k : Least n r) : q = r :=
  Nat.le_antisymm (h.2.2 r k.1 k.2.1) (k.2.2 q h.1 h.2.1)
theorem pr_iff_least {n : Nat} : Pr n ↔ Least n n := by
  constructor
  · intro h
    refine ⟨h.1, Nat.dvd_refl n, fun d hd hdv => ?_⟩
    rcases h.2 d hdv with e | e <;> omega
  · intro h; exact h.prime
/-- A number with no divisor up to its root is its own least one. -/
theorem least_self {n d : Nat} (h2 : 2 ≤ n) (hd : ∀ e, 2 ≤ e → e < d → ¬ e ∣ n) (hsq : n < d * d) : Least n n := by
  refine ⟨h2, Nat.dvd_refl n, fun e he hev => Nat.le_of_not_lt fun hlt => ?_⟩
  obtain ⟨f, hf⟩ := hev
  have hf2 : 2 ≤ f := by
    rcases f with _ | _ | f
    · omega
    · omega
    · omega
  have he' : d ≤ e := Nat.le_of_not_lt fun h => hd e he h ⟨f, hf⟩
  have hf' : d ≤ f := Nat.le_of_not_lt fun h => hd f hf2 h ⟨e, by rw [hf, Nat.mul_comm]⟩
  have := Nat.mul_le_mul he' hf'
  omega

/-- A list of natural numbers without repetition, all of them from 1 to n, has at most n of them; and if it has n, then all. -/
theorem nodup_le {l : List Nat} {n : Nat} (h : l.Nodup) (hb : ∀ x ∈ l, x < n) : l.length ≤ n := by
  have := h.length_le_of_subset (l₂ := List.range n) (fun x hx => List.mem_range.2 (hb x hx))
  simpa using this
theorem all_in {l : List Nat} {n : Nat} (h : l.Nodup) (hb : ∀ x ∈ l, 1 ≤ x ∧ x ≤ n) (hn : l.length = n) : ∀ x, 1 ≤ x → x ≤ n → x ∈ l := by
  intro x h1 h2
  apply Classical.byContradiction
  intro hx
  have := (List.nodup_cons.2 ⟨hx, h⟩).length_le_of_subset (l₂ := (List.range n).map (· + 1)) (fun y hy => by
    rw [List.mem_map]
    rcases List.mem_cons.1 hy with rfl | hy
    · exact ⟨y - 1, List.mem_range.2 (by omega), by omega⟩
    · have := hb y hy
      exact ⟨y - 1, List.mem_range.2 (by omega), by omega⟩)
  simp at this
  omega
theorem perm_all {l : List Nat} {n : Nat} (h : l.Nodup) (hb : ∀ x ∈ l, 1 ≤ x ∧ x ≤ n) (hn : l.length = n) : l.Perm ((List.range n).map (· + 1)) := by
  have hall := all_in h hb hn
  have h2 : ((List.range n).map (· + 1)).Nodup := by
    refine List.Pairwise.map _ (fun a b hab => ?_) List.nodup_range
    omega
  rw [List.perm_iff_count]
  intro a
  rw [h.count, h2.count]
  have : a ∈ l ↔ a ∈ (List.range n).map (· + 1) := by
    rw [List.mem_map]
    constructor
    · intro ha
      have := hb a ha
      exact ⟨a - 1, List.mem_range.2 (by omega), by omega⟩
    · rintro ⟨b, hb, rfl⟩
      have := List.mem_range.1 hb
      exact hall _ (by omega) (by omega)
  simp only [this]

/-! Fermat -/
theorem mod_ne {p a : Nat} (h : ¬ p ∣ a) : a % p ≠ 0 := fun e => h (Nat.dvd_of_mod_eq_zero e)
theorem pr_not_dvd {p a : Nat} (h1 : 1 ≤ a) (h2 : a < p) : ¬ p ∣ a := fun h => by
  have := Nat.le_of_dvd (by omega) h
  omega
theorem cancel_mod {p a b c : Nat} (hp : Pr p) (hc : ¬ p ∣ c) (h : a * c % p = b * c % p) : a % p = b % p := by
  have hp2 := hp.1
  have key : ∀ a b : Nat, a ≤ b → a * c % p = b * c % p → a % p = b % p := by
    intro a b hab h
    have h1 : (b * c - a * c) % p = 0 := Nat.sub_mod_eq_zero_of_mod_eq h.symm
    rw [← Nat.sub_mul] at h1
    rcases hp.dvd_mul (Nat.dvd_of_mod_eq_zero h1) with h2 | h2
    · obtain ⟨k, hk⟩ := h2
      have : b = a + p * k := by omega
      rw [this, Nat.add_mul_mod_self_left]
    · exact absurd h2 hc
  rcases Nat.le_total a b with hab | hab
  · exact key a b hab h
  · exact (key b a hab h.symm).symm
theorem prod_not_dvd {p : Nat} (hp : Pr p) : ∀ l : List Nat, (∀ x ∈ l, ¬ p ∣ x) → ¬ p ∣ l.prod
  | [], _ => by
    rw [List.prod_nil]
    intro h
    have := Nat.le_of_dvd (by decide) h
    have := hp.1
    omega
  | x :: l, h => by
    rw [List.prod_cons]
    intro hd
    rcases hp.dvd_mul hd with h1 | h1
    · exact h x (by simp) h1
    · exact prod_not_dvd hp l (fun y hy => h y (by simp [hy])) h1
theorem prod_map_mod (a p : Nat) : ∀ l : List Nat, (l.map (fun x => x * a % p)).prod % p = l.prod * a ^ l.length % p
  | [] => by simp
  | x :: l => by
    rw [List.map_cons, List.prod_cons, List.prod_cons, List.length_cons, Nat.mul_mod, prod_map_mod a p l, Nat.mod_mod, ← Nat.mul_mod]
    congr 1
    rw [Nat.pow_succ]
    simp only [Nat.mul_comm, Nat.mul_left_comm, Nat.mul_assoc]
theorem fermat {p a : Nat} (hp : Pr p) (ha : ¬ p ∣ a) : a ^ (p - 1) % p = 1 := by
  have hp2 := hp.1
  let l := (List.range (p - 1)).map (· + 1)
  have hl : l.length = p - 1 := by simp [l]
  have hmem : ∀ x ∈ l, 1 ≤ x ∧ x ≤ p - 1 := by
    intro x hx
    obtain ⟨y, hy, rfl⟩ := List.mem_map.1 hx
    have := List.mem_range.1 hy
    omega
  have hn : ∀ x ∈ l, ¬ p ∣ x := fun x hx => pr_not_dvd (hmem x hx).1 (by have := (hmem x hx).2; omega)
  have hnd : l.Nodup := by
    refine List.Pairwise.map _ (fun a b hab => ?_) List.nodup_range
    omega
  let m := l.map (fun x => x * a % p)
  have hmd : m.Nodup := by
    refine List.pairwise_map.2 ?_
    refine List.Pairwise.imp_of_mem ?_ hnd
    intro x y hx hy hxy he
    have := cancel_mod hp ha he
    have h1 := hmem x hx
    have h2 := hmem y hy
    rw [Nat.mod_eq_of_lt (by omega), Nat.mod_eq_of_lt (by omega)] at this
    exact hxy this
  have hmm : ∀ x ∈ m, 1 ≤ x ∧ x ≤ p - 1 := by
    intro x hx
    obtain ⟨y, hy, rfl⟩ := List.mem_map.1 hx
    have h1 : ¬ p ∣ y * a := fun h => (hp.dvd_mul h).elim (hn y hy) ha
    have h2 := mod_ne h1
    have h3 := Nat.mod_lt (y * a) (show p > 0 by omega)
    omega
  have hperm : m.Perm l := perm_all hmd hmm (by simp [m, hl])
  have h1 := prod_map_mod a p l
  rw [show (l.map (fun x => x * a % p)).prod = l.prod from hperm.prod_nat, hl] at h1
  have h2 : 1 * l.prod % p = a ^ (p - 1) * l.prod % p := by rw [Nat.one_mul, Nat.mul_comm (a ^ (p - 1))]; exact h1
  have h3 := cancel_mod hp (prod_not_dvd hp l hn) h2
  rw [← h3]
  exact Nat.mod_eq_of_lt (by omega)

/-! Orders -/
def Ord (p x d : Nat) : Prop := 1 ≤ d ∧ x ^ d % p = 1 ∧ ∀ k, 1 ≤ k → k < d → x ^ k % p ≠ 1
theorem pow_mul_one {p x d : Nat} (hp : 2 ≤ p) (h : x ^ d % p = 1) (k : Nat) : x ^ (d * k) % p = 1 := by
  rw [Nat.pow_mul, Nat.pow_mod, h, Nat.one_pow]
  exact Nat.mod_eq_of_lt (by omega)
theorem pow_add_mod {p x : Nat} (a b : Nat) : x ^ (a + b) % p = (x ^ a % p) * (x ^ b % p) % p := by
  rw [Nat.pow_add, Nat.mul_mod]
theorem Ord.dvd {p x d : Nat} (hp : 2 ≤ p) (h : Ord p x d) {k : Nat} (hk : x ^ k % p = 1) : d ∣ k := by
  have h1 : x ^ (k % d) % p = 1 := by
    have h2 := pow_add_mod (p := p) (x := x) (d * (k / d)) (k % d)
    rw [Nat.div_add_mod, hk, pow_mul_one hp h.2.1, Nat.one_mul, Nat.mod_mod] at h2
    exact h2.symm
  apply Nat.dvd_of_mod_eq_zero
  apply Classical.byContradiction
  intro h0
  exact h.2.2 (k % d) (by omega) (Nat.mod_lt _ h.1) h1
theorem Ord.one_iff {p x d : Nat} (hp : 2 ≤ p) (h : Ord p x d) (k : Nat) : x ^ k % p = 1 ↔ d ∣ k := by
  constructor
  · exact h.dvd hp
  · rintro ⟨m, rfl⟩; exact pow_mul_one hp h.2.1 m
theorem Ord.unique {p x d e : Nat} (hp : 2 ≤ p) (h : Ord p x d) (k : Ord p x e) : d = e :=
  Nat.dvd_antisymm (h.dvd hp k.2.1) (k.dvd hp h.2.1)
theorem ord_of_dvd {p x d : Nat} (_hp : 2 ≤ p) (h1 : 1 ≤ d) (h : ∀ k, x ^ k % p = 1 ↔ d ∣ k) : Ord p x d := by
  refine ⟨h1, (h d).2 (Nat.dvd_refl d), fun k hk hlt he => ?_⟩
  have := Nat.le_of_dvd (by omega) ((h k).1 he)
  omega
theorem ord_exists {p x n : Nat} (h1 : 1 ≤ n) (h : x ^ n % p = 1) : ∃ d, Ord p x d := by
  induction n using Nat.strongRecOn with
  | ind n ih =>
    by_cases hk : ∃ k, 1 ≤ k ∧ k < n ∧ x ^ k % p = 1
    · obtain ⟨k, a, b, c⟩ := hk
      exact ih k b a c
    · exact ⟨n, h1, h, fun k a b c => hk ⟨k, a, b, c⟩⟩
theorem ord_of_prime {p a : Nat} (hp : Pr p) (ha : ¬ p ∣ a) : ∃ d, Ord p a d ∧ d ∣ p - 1 := by
  obtain ⟨d, hd⟩ := ord_exists (n := p - 1) (by have := hp.1; omega) (fermat hp ha)
  exact ⟨d, hd, hd.dvd hp.1 (fermat hp ha)⟩
theorem not_dvd_of_pow {p x k : Nat} (hk : 1 ≤ k) (h : x ^ k % p = 1) : ¬ p ∣ x := by
  intro hd
  have : p ∣ x ^ k := Nat.dvd_trans hd ⟨x ^ (k - 1), by rw [← Nat.pow_succ', Nat.succ_eq_add_one, show k - 1 + 1 = k by omega]⟩
  rw [Nat.mod_eq_zero_of_dvd this] at h
  omega
theorem Ord.mod {p x d : Nat} (h : Ord p x d) : Ord p (x % p) d := by
  refine ⟨h.1, ?_, fun k a b => ?_⟩
  · rw [← Nat.pow_mod]; exact h.2.1
  · rw [← Nat.pow_mod]; exact h.2.2 k a b
theorem Ord.mul {p x y m n : Nat} (hp : 2 ≤ p) (hx : Ord p x m) (hy : Ord p y n) (hc : Nat.Coprime m n) : Ord p (x * y) (m * n) := by
  have hpow : ∀ k, (x * y) ^ k % p = (x ^ k % p) * (y ^ k % p) % p := by
    intro k; rw [Nat.mul_pow, Nat.mul_mod]
  have h1p : (1 * 1) % p = 1 := Nat.mod_eq_of_lt (by omega)
  have h1p' : 1 % p = 1 := Nat.mod_eq_of_lt (by omega)
  refine ord_of_dvd hp (Nat.mul_pos hx.1 hy.1) (fun k => ⟨fun h => ?_, ?_⟩)
  · apply hc.mul_dvd_of_dvd_of_dvd
    · have e : (x * y) ^ (k * n) % p = 1 := by rw [Nat.pow_mul, Nat.pow_mod, h, Nat.one_pow, h1p']
      rw [hpow, Nat.mul_comm k n, pow_mul_one hp hy.2.1, Nat.mul_one, Nat.mod_mod, Nat.mul_comm n k] at e
      exact hc.dvd_of_dvd_mul_right (hx.dvd hp e)
    · have e : (x * y) ^ (k * m) % p = 1 := by rw [Nat.pow_mul, Nat.pow_mod, h, Nat.one_pow, h1p']
      rw [hpow, Nat.mul_comm k m, pow_mul_one hp hx.2.1, Nat.one_mul, Nat.mod_mod, Nat.mul_comm m k] at e
      exact hc.symm.dvd_of_dvd_mul_right (hy.dvd hp e)
  · rintro ⟨j, rfl⟩
    rw [hpow, Nat.mul_assoc, pow_mul_one hp hx.2.1, Nat.mul_left_comm, pow_mul_one hp hy.2.1, h1p]
theorem Ord.pow {p x d : Nat} (hp : 2 ≤ p) (h : Ord p x d) {k : Nat} (hk : k ∣ d) (hk1 : 1 ≤ k) : Ord p (x ^ (d / k)) k := by
  obtain ⟨e, rfl⟩ := hk
  have he : 1 ≤ e := Nat.pos_of_ne_zero fun e0 => by
    subst e0
    have := h.1
    omega
  rw [Nat.mul_div_cancel_left e hk1]
  refine ord_of_dvd hp hk1 (fun j => ?_)
  rw [← Nat.pow_mul, h.one_iff hp, Nat.mul_comm k e]
  exact ⟨fun ⟨c, hc⟩ => ⟨c, Nat.eq_of_mul_eq_mul_left he (by rw [hc, Nat.mul_assoc])⟩, fun ⟨c, hc⟩ => ⟨c, by rw [hc, Nat.mul_assoc]⟩⟩

/-! Polynomials, as functions -/
inductive Poly : Nat → (Int → Int) → Prop
  | one (f) (h : ∀ x, f x = 1) : Poly 0 f
  | step (m f g) (c : Int) (hg : Poly m g) (h : ∀ x, f x = x * g x + c) : Poly (m + 1) f
theorem Poly.divide {m : Nat} {f : Int → Int} (h : Poly m f) : ∀ k, m = k + 1 → ∀ r, ∃ g, Poly k g ∧ ∀ x, f x = (x - r) * g x + f r := by
  induction h with
  | one f h => intro k hk; omega
  | step m f g c hg h ih =>
    intro k hk r
    have hk' : k = m := by omega
    subst hk'
    cases k with
    | zero =>
      refine ⟨fun _ => 1, .one _ (fun _ => rfl), fun x => ?_⟩
      cases hg with
      | one _ hg => rw [h, h, hg, hg]; show x * 1 + c = (x - r) * 1 + (r * 1 + c); omega
    | succ j =>
      obtain ⟨g', hg', hgx⟩ := ih j rfl r
      refine ⟨fun x => x * g' x + g r, .step j _ g' (g r) hg' (fun _ => rfl), fun x => ?_⟩
      rw [h, h r, hgx x]
      show x * ((x - r) * g' x + g r) + c = (x - r) * (x * g' x + g r) + (r * g r + c)
      rw [Int.mul_add, Int.mul_add, Int.sub_mul x r (g r), ← Int.mul_assoc, ← Int.mul_assoc, Int.mul_comm x (x - r)]
      omega
theorem Pr.int_dvd_mul {p : Nat} (hp : Pr p) {a b : Int} (h : (p : Int) ∣ a * b) : (p : Int) ∣ a ∨ (p : Int) ∣ b := by
  rw [← Int.natAbs_dvd_natAbs, Int.natAbs_mul, Int.natAbs_natCast] at h
  rcases hp.dvd_mul h with h | h
  · exact Or.inl (by rw [← Int.natAbs_dvd_natAbs, Int.natAbs_natCast]; exact h)
  · exact Or.inr (by rw [← Int.natAbs_dvd_natAbs, Int.natAbs_natCast]; exact h)
theorem Poly.roots {p : Nat} (hp : Pr p) : ∀ (l : List Nat) (m : Nat) (f : Int → Int), Poly m f → l.Nodup → (∀ x ∈ l, x < p) → (∀ x ∈ l, (p : Int) ∣ f x) → l.length ≤ m
  | [], _, _, _, _, _, _ => Nat.zero_le _
  | r :: l, 0, f, hf, _, _, hr => by
    cases hf with
    | one _ h =>
      have h1 := hr r (by simp)
      rw [h] at h1
      have := Int.le_of_dvd (by decide) h1
      have := hp.1
      omega
  | r :: l, m + 1, f, hf, hn, hb, hr => by
    obtain ⟨g, hg, he⟩ := hf.divide m rfl r
    have hn' := List.nodup_cons.1 hn
    have := Poly.roots hp l m g hg hn'.2 (fun x hx => hb x (by simp [hx])) (fun x hx => by
      have h1 := hr x (by simp [hx])
      have h2 := hr r (by simp)
      rw [he x] at h1
      have h3 : (p : Int) ∣ (x - r) * g x := by
        have := Int.dvd_sub h1 h2
        rwa [Int.add_sub_cancel] at this
      rcases hp.int_dvd_mul h3 with h4 | h4
      · exfalso
        have hx1 := hb x (by simp [hx])
        have hr1 := hb r (by simp)
        have hne : x ≠ r := fun e => hn'.1 (e ▸ hx)
        obtain ⟨k, hk⟩ := h4
        have hp0 : (0 : Int) < p := by omega
        rcases Int.lt_trichotomy k 0 with hk0 | hk0 | hk0
        · have : (p : Int) * k ≤ (p : Int) * (-1) := Int.mul_le_mul_of_nonneg_left (by omega) (by omega)
          omega
        · subst hk0; omega
        · have : (p : Int) * 1 ≤ (p : Int) * k := Int.mul_le_mul_of_nonneg_left (by omega) (by omega)
          omega
      · exact h4)
    simp only [List.length_cons]
    omega
theorem poly_pow : ∀ m, Poly m (fun x => x ^ m)
  | 0 => .one _ (fun x => Int.pow_zero x)
  | m + 1 => .step m _ _ 0 (poly_pow m) (fun x => by show x ^ (m + 1) = x * x ^ m + 0; rw [Int.pow_succ, Int.mul_comm, Int.add_zero])
/-- Fewer exponents than residues: one residue's power is not 1. -/
theorem some_not_one {p m : Nat} (hp : Pr p) (h1 : 1 ≤ m) (hm : m < p - 1) : ∃ x, 1 ≤ x ∧ x < p ∧ x ^ m % p ≠ 1 := by
  apply Classical.byContradiction
  intro hno
  have hall : ∀ x, 1 ≤ x → x < p → x ^ m % p = 1 := fun x a b => Classical.byContradiction fun c => hno ⟨x, a, b, c⟩
  obtain ⟨k, rfl⟩ : ∃ k, m = k + 1 := ⟨m - 1, by omega⟩
  have hpoly : Poly (k + 1) (fun x => x ^ (k + 1) - 1) := .step k _ _ (-1) (poly_pow k) (fun x => by
    show x ^ (k + 1) - 1 = x * x ^ k + -1
    rw [Int.pow_succ, Int.mul_comm]; omega)
  have := Poly.roots hp ((List.range (p - 1)).map (· + 1)) (k + 1) _ hpoly (by
    refine List.Pairwise.map _ (fun a b hab => ?_) List.nodup_range
    omega) (fun x hx => by
      obtain ⟨y, hy, rfl⟩ := List.mem_map.1 hx
      have := List.mem_range.1 hy
      omega) (fun x hx => by
      obtain ⟨y, hy, rfl⟩ := List.mem_map.1 hx
      have := List.mem_range.1 hy
      have h2 := hall (y + 1) (by omega) (by omega)
      have h3 := Nat.sub_mod_eq_zero_of_mod_eq (m := (y + 1) ^ (k + 1)) (n := 1) (k := p) (by rw [h2]; exact (Nat.mod_eq_of_lt (by omega)).symm)
      have h4 := Nat.dvd_of_mod_eq_zero h3
      have h5 : 1 ≤ (y + 1) ^ (k + 1) := Nat.pos_of_ne_zero (by simp)
      show (p : Int) ∣ ((y + 1 : Nat) : Int) ^ (k + 1) - 1
      rw [← Int.natCast_pow, show ((((y + 1) ^ (k + 1) : Nat)) : Int) - 1 = (((y + 1) ^ (k + 1) - 1 : Nat) : Int) by omega]
      exact Int.natCast_dvd_natCast.2 h4)
  simp at this
  omega
theorem dvd_prime_pow {q : Nat} (hq : Pr q) : ∀ (e d : Nat), d ∣ q ^ e → ∃ j, j ≤ e ∧ d = q ^ j
  | 0, d, h => ⟨0, Nat.le_refl 0, by simpa using h⟩
  | e + 1, d, h => by
    by_cases hd : q ∣ d
    · obtain ⟨d', rfl⟩ := hd
      rw [Nat.pow_succ, Nat.mul_comm (q ^ e)] at h
      have h' := Nat.dvd_of_mul_dvd_mul_left (by have := hq.1; omega) h
      obtain ⟨j, hj, rfl⟩ := dvd_prime_pow hq e d' h'
      exact ⟨j + 1, by omega, by rw [Nat.pow_succ, Nat.mul_comm]⟩
    · rw [Nat.pow_succ] at h
      obtain ⟨j, hj, h2⟩ := dvd_prime_pow hq e d ((hq.cop hd).symm.dvd_of_dvd_mul_right h)
      exact ⟨j, by omega, h2⟩
theorem split_pow {q : Nat} (hq : Pr q) : ∀ n, 1 ≤ n → ∃ e m, n = q ^ e * m ∧ ¬ q ∣ m := by
  intro n
  induction n using Nat.strongRecOn with
  | ind n ih =>
    intro h1
    by_cases hd : q ∣ n
    · obtain ⟨m, rfl⟩ := hd
      have hm : 1 ≤ m := Nat.pos_of_ne_zero fun h => by subst h; omega
      have := hq.1
      have hlt : m < q * m := by
        calc m = 1 * m := (Nat.one_mul m).symm
          _ < q * m := Nat.mul_lt_mul_of_pos_right (by omega) (by omega)
      obtain ⟨e, m', h2, h3⟩ := ih m hlt hm
      exact ⟨e + 1, m', by rw [h2, Nat.pow_succ]; simp only [Nat.mul_comm, Nat.mul_left_comm], h3⟩
    · exact ⟨0, n, by simp, hd⟩
theorem ord_all {p : Nat} (hp : Pr p) : ∀ m, 1 ≤ m → m ∣ p - 1 → ∃ x, Ord p x m := by
  have hp2 := hp.1
  have h1p : 1 % p = 1 := Nat.mod_eq_of_lt (by omega)
  intro m
  induction m using Nat.strongRecOn with
  | ind m ih =>
    intro h1 hd
    by_cases hm1 : m = 1
    · subst hm1
      exact ⟨1, Nat.le_refl 1, by simpa using h1p, fun k a b => by omega⟩
    · obtain ⟨q, hq⟩ := least_exists m (by omega)
      have hqp := hq.prime
      obtain ⟨e, m', hm, hn⟩ := split_pow hqp m h1
      have hq2 := hqp.1
      have he : e ≠ 0 := by
        rintro rfl
        rw [Nat.pow_zero, Nat.one_mul] at hm
        exact hn (hm ▸ hq.2.1)
      obtain ⟨e, rfl⟩ : ∃ k, e = k + 1 := ⟨e - 1, by omega⟩
      have hm' : 1 ≤ m' := Nat.pos_of_ne_zero fun h => by subst h; omega
      have hqe : 1 ≤ q ^ e := Nat.pow_pos (by omega)
      have hlt : m' < m := by
        rw [hm]
        calc m' = 1 * m' := (Nat.one_mul m').symm
          _ < q ^ (e + 1) * m' := Nat.mul_lt_mul_of_pos_right (by
            rw [Nat.pow_succ]
            calc 1 < q := by omega
              _ = 1 * q := (Nat.one_mul q).symm
              _ ≤ q ^ e * q := Nat.mul_le_mul_right q hqe) (by omega)
      have hd' : m' ∣ p - 1 := Nat.dvd_trans ⟨q ^ (e + 1), by rw [hm, Nat.mul_comm]⟩ hd
      obtain ⟨y, hy⟩ := ih m' hlt hm' hd'
      -- an element of order q^(e+1)
      obtain ⟨c, hc⟩ := hd
      have hN : p - 1 = q * (q ^ e * m' * c) := by
        rw [hc, hm, Nat.pow_succ]; simp only [Nat.mul_comm, Nat.mul_left_comm]
      have hpos : 1 ≤ q ^ e * m' * c := Nat.pos_of_ne_zero fun h => by rw [h] at hN; omega
      have hsmall : q ^ e * m' * c < p - 1 := by
        rw [hN]
        calc q ^ e * m' * c = 1 * (q ^ e * m' * c) := (Nat.one_mul _).symm
          _ < q * (q ^ e * m' * c) := Nat.mul_lt_mul_of_pos_right (by omega) hpos
      obtain ⟨x, hx1, hxp, hx⟩ := some_not_one hp hpos hsmall
      have hz1 : (x ^ (m' * c)) ^ (q ^ (e + 1)) % p = 1 := by
        rw [← Nat.pow_mul, show m' * c * q ^ (e + 1) = p - 1 by rw [hN, Nat.pow_succ]; simp only [Nat.mul_comm, Nat.mul_left_comm, Nat.mul_assoc]]
        exact fermat hp (pr_not_dvd hx1 hxp)
      have hz2 : (x ^ (m' * c)) ^ (q ^ e) % p ≠ 1 := by
        rw [← Nat.pow_mul, show m' * c * q ^ e = q ^ e * m' * c by simp only [Nat.mul_comm, Nat.mul_left_comm, Nat.mul_assoc]]
        exact hx
      obtain ⟨d, hdo⟩ := ord_exists (Nat.pow_pos (show 0 < q by omega)) hz1
      obtain ⟨j, hj, hdj⟩ := dvd_prime_pow hqp _ _ (hdo.dvd hp2 hz1)
      have hje : j = e + 1 := by
        apply Classical.byContradiction
        intro hne
        apply hz2
        rw [hdo.one_iff hp2, hdj]
        exact Nat.pow_dvd_pow q (by omega)
      subst hje
      rw [hdj] at hdo
      refine ⟨x ^ (m' * c) * y, ?_⟩
      rw [hm]
      exact hdo.mul hp2 hy ((hqp.cop hn).pow_left _)
/-- The primitive roots. -/
theorem root_exists {p : Nat} (hp : Pr p) : ∃ g, 1 ≤ g ∧ g < p ∧ Ord p g (p - 1) := by
  obtain ⟨x, hx⟩ := ord_all hp (p - 1) (by have := hp.1; omega) (Nat.dvd_refl _)
  have hn := not_dvd_of_pow hx.1 hx.2.1
  refine ⟨x % p, ?_, Nat.mod_lt _ (by have := hp.1; omega), hx.mod⟩
  have := mod_ne hn
  omega
/-- What is tried of a residue: no power by a quotient by a prime is 1. -/
theorem root_iff {p g : Nat} (hp : Pr p) (h1 : 1 ≤ g) (hg : g < p) : Ord p g (p - 1) ↔ ∀ q, Pr q → q ∣ p - 1 → g ^ ((p - 1) / q) % p ≠ 1 := by
  have hp2 := hp.1
  constructor
  · intro h q hq hd he
    obtain ⟨c, hc⟩ := hd
    rw [hc, Nat.mul_div_cancel_left c (by have := hq.1; omega)] at he
    have hc1 : 1 ≤ c := Nat.pos_of_ne_zero fun h => by subst h; omega
    refine h.2.2 c hc1 ?_ he
    rw [hc]
    calc c = 1 * c := (Nat.one_mul c).symm
      _ < q * c := Nat.mul_lt_mul_of_pos_right (by have := hq.1; omega) hc1
  · intro h
    obtain ⟨d, hd, c, hc⟩ := ord_of_prime hp (pr_not_dvd h1 hg)
    by_cases hc1 : c = 1
    · rw [hc, hc1, Nat.mul_one]; exact hd
    · exfalso
      have hc0 : c ≠ 0 := fun h => by subst h; omega
      obtain ⟨q, hq⟩ := least_exists c (by omega)
      obtain ⟨b, hb⟩ := hq.2.1
      have hqq := hq.prime
      refine h q hqq ⟨d * b, by rw [hc, hb]; ac_rfl⟩ ?_
      rw [hc, hb, show d * (q * b) = q * (d * b) by ac_rfl, Nat.mul_div_cancel_left _ (by have := hqq.1; omega)]
      exact pow_mul_one hp2 hd.2.1 b
/-- Logarithms. -/
theorem pow_inj {p g d : Nat} (hp : Pr p) (h : Ord p g d) {i j : Nat} (hi : i < d) (hj : j < d) (he : g ^ i % p = g ^ j % p) : i = j := by
  have key : ∀ i j, i ≤ j → j < d → g ^ i % p = g ^ j % p → i = j := by
    intro i j hij hj he
    have hn := not_dvd_of_pow h.1 h.2.1
    have hni : ¬ p ∣ g ^ i := fun h => hn (hp.dvd_pow h)
    have h2 : 1 * g ^ i % p = g ^ (j - i) * g ^ i % p := by
      rw [Nat.one_mul, ← Nat.pow_add, show j - i + i = j by omega]; exact he
    have h3 := cancel_mod hp hni h2
    rw [Nat.mod_eq_of_lt (by have := hp.1; omega)] at h3
    have h4 := h.dvd hp.1 h3.symm
    have : j - i = 0 := by
      apply Classical.byContradiction
      intro h5
      have := Nat.le_of_dvd (by omega) h4
      omega
    omega
  rcases Nat.le_total i j with hij | hij
  · exact key i j hij hj he
  · exact (key j i hij hi he.symm).symm
theorem log_exists {p g a : Nat} (hp : Pr p) (h : Ord p g (p - 1)) (h1 : 1 ≤ a) (ha : a < p) : ∃ k, k < p - 1 ∧ g ^ k % p = a := by
  have hn := not_dvd_of_pow h.1 h.2.1
  have hp2 := hp.1
  have := all_in (l := (List.range (p - 1)).map (fun k => g ^ k % p)) (n := p - 1) (by
      refine List.pairwise_map.2 ?_
      refine List.Pairwise.imp_of_mem ?_ List.nodup_range
      intro x y hx hy hxy he
      exact hxy (pow_inj hp h (List.mem_range.1 hx) (List.mem_range.1 hy) he))
    (fun x hx => by
      obtain ⟨k, _, rfl⟩ := List.mem_map.1 hx
      have h2 := mod_ne fun h => hn (hp.dvd_pow (n := k) h)
      have h3 := Nat.mod_lt (g ^ k) (show p > 0 by omega)
      omega) (by simp) a h1 (by omega)
  obtain ⟨k, hk, he⟩ := List.mem_map.1 this
  exact ⟨k, List.mem_range.1 hk, he⟩
/-! Prime factors -/
inductive Fac : Nat → List (Nat × Nat) → Prop
  | nil : Fac 1 []
  | cons (n q k m l) (hq : Least n q) (hk : 1 ≤ k) (hn : n = q ^ k * m) (hm : ¬ q ∣ m) (hl : Fac m l) : Fac n ((q, k) :: l)
theorem Fac.pos {n : Nat} {l : List (Nat × Nat)} (h : Fac n l) : 1 ≤ n := by
  induction h with
  | nil => exact Nat.le_refl 1
  | cons n q k m l hq hk hn hm hl ih => rw [hn]; exact Nat.mul_pos (Nat.pow_pos (by have := hq.1; omega)) ih
theorem pow_split_unique {q k k' m m' : Nat} (hq : 2 ≤ q) (h : q ^ k * m = q ^ k' * m') (hm : ¬ q ∣ m) (hm' : ¬ q ∣ m') : k = k' ∧ m = m' := by
  have key : ∀ k k' m m', k ≤ k' → q ^ k * m = q ^ k' * m' → ¬ q ∣ m → k = k' ∧ m = m' := by
    intro k k' m m' hle h hm
    obtain ⟨j, rfl⟩ : ∃ j, k' = k + j := ⟨k' - k, by omega⟩
    rw [Nat.pow_add, Nat.mul_assoc] at h
    have h2 := Nat.eq_of_mul_eq_mul_left (Nat.pow_pos (show 0 < q by omega)) h
    cases j with
    | zero => exact ⟨rfl, by rw [h2, Nat.pow_zero, Nat.one_mul]⟩
    | succ j => exact absurd ⟨q ^ j * m', by rw [h2, Nat.pow_succ]; simp only [Nat.mul_comm, Nat.mul_left_comm]⟩ hm
  rcases Nat.le_total k k' with hle | hle
  · exact key k k' m m' hle h hm
  · obtain ⟨a, b⟩ := key k' k m' m hle h.symm hm'
    exact ⟨a.symm, b.symm⟩
theorem Fac.unique {n : Nat} {l : List (Nat × Nat)} (h : Fac n l) : ∀ {l'}, Fac n l' → l = l' := by
  induction h with
  | nil =>
    intro l' h'
    cases h' with
    | nil => rfl
    | cons _ q k m l hq hk hn hm hl => have := Nat.le_of_dvd (by decide) hq.2.1; have := hq.1; omega
  | cons n q k m l hq hk hn hm hl ih =>
    intro l' h'
    cases h' with
    | nil => have := Nat.le_of_dvd (by decide) hq.2.1; have := hq.1; omega
    | cons _ q' k' m' l' hq' hk' hn' hm' hl' =>
      have := hq.unique hq'
      subst this
      obtain ⟨rfl, rfl⟩ := pow_split_unique hq.1 (hn.symm.trans hn') hm hm'
      rw [ih hl']
theorem fac_exists (n : Nat) (h : 1 ≤ n) : ∃ l, Fac n l := by
  induction n using Nat.strongRecOn with
  | ind n ih =>
    by_cases h1 : n = 1
    · subst h1; exact ⟨[], .nil⟩
    · obtain ⟨q, hq⟩ := least_exists n (by omega)
      obtain ⟨k, m, hn, hm⟩ := split_pow hq.prime n h
      have hk : 1 ≤ k := Nat.pos_of_ne_zero fun h0 => by
        subst h0
        rw [Nat.pow_zero, Nat.one_mul] at hn
        exact hm (hn ▸ hq.2.1)
      have hm1 : 1 ≤ m := Nat.pos_of_ne_zero fun h0 => by subst h0; omega
      have hlt : m < n := by
        have h2 := hq.1
        have : 2 ≤ q ^ k := by
          calc 2 ≤ q := h2
            _ = q ^ 1 := (Nat.pow_one q).symm
            _ ≤ q ^ k := Nat.pow_le_pow_right (by omega) hk
        rw [hn]
        calc m = 1 * m := (Nat.one_mul m).symm
          _ < q ^ k * m := Nat.mul_lt_mul_of_pos_right (by omega) hm1
      obtain ⟨l, hl⟩ := ih m hlt hm1
      exact ⟨(q, k) :: l, .cons n q k m l hq hk hn hm hl⟩
open Classical in
noncomputable def facs (n : Nat) : List (Nat × Nat) := if h : 1 ≤ n then Classical.choose (fac_exists n h) else []
theorem facs_fac {n : Nat} (h : 1 ≤ n) : Fac n (facs n) := by
  unfold facs
  rw [dif_pos h]
  exact Classical.choose_spec (fac_exists n h)
theorem Fac.eq {n : Nat} {l : List (Nat × Nat)} (h : Fac n l) : facs n = l := (facs_fac h.pos).unique h
def prodF : List (Nat × Nat) → Nat
  | [] => 1
  | (q, k) :: l => q ^ k * prodF l
theorem Fac.prod {n : Nat} {l : List (Nat × Nat)} (h : Fac n l) : prodF l = n := by
  induction h with
  | nil => rfl
  | cons n q k m l hq hk hn hm hl ih => show q ^ k * prodF l = n; rw [ih, hn]
theorem Fac.mem {n : Nat} {l : List (Nat × Nat)} (h : Fac n l) : ∀ q, (∃ k, (q, k) ∈ l) ↔ Pr q ∧ q ∣ n := by
  induction h with
  | nil =>
    intro q
    constructor
    · rintro ⟨k, hk⟩; simp at hk
    · rintro ⟨h1, h2⟩; have := Nat.le_of_dvd (by decide) h2; have := h1.1; omega
  | cons n q k m l hq hk hn hm hl ih =>
    intro r
    constructor
    · rintro ⟨j, hj⟩
      rcases List.mem_cons.1 hj with hj | hj
      · obtain ⟨rfl, rfl⟩ := Prod.mk.injEq .. ▸ hj
        exact ⟨hq.prime, hq.2.1⟩
      · obtain ⟨h1, h2⟩ := (ih r).1 ⟨j, hj⟩
        exact ⟨h1, hn ▸ Nat.dvd_trans h2 ⟨q ^ k, Nat.mul_comm _ _⟩⟩
    · rintro ⟨h1, h2⟩
      rw [hn] at h2
      rcases h1.dvd_mul h2 with h3 | h3
      · have h4 := h1.dvd_pow h3
        rcases hq.prime.2 _ h4 with h5 | h5
        · have := h1.1; omega
        · subst h5; exact ⟨k, by simp⟩
      · obtain ⟨j, hj⟩ := (ih r).2 ⟨h1, h3⟩
        exact ⟨j, List.mem_cons_of_mem _ hj⟩
theorem Fac.exps {n : Nat} {l : List (Nat × Nat)} (h : Fac n l) : ∀ x ∈ l, Pr x.1 ∧ x.1 ∣ n ∧ 1 ≤ x.2 ∧ x.1 ^ x.2 ∣ n := by
  induction h with
  | nil => intro x hx; simp at hx
  | cons n q k m l hq hk hn hm hl ih =>
    intro x hx
    rcases List.mem_cons.1 hx with rfl | hx
    · exact ⟨hq.prime, hq.2.1, hk, ⟨m, hn⟩⟩
    · obtain ⟨a, b, c, d⟩ := ih x hx
      exact ⟨a, hn ▸ Nat.dvd_trans b ⟨q ^ k, Nat.mul_comm _ _⟩, c, hn ▸ Nat.dvd_trans d ⟨q ^ k, Nat.mul_comm _ _⟩⟩
theorem Fac.asc {n : Nat} {l : List (Nat × Nat)} (h : Fac n l) : l.Pairwise (fun x y => x.1 < y.1) := by
  induction h with
  | nil => exact .nil
  | cons n q k m l hq hk hn hm hl ih =>
    refine List.pairwise_cons.2 ⟨fun y hy => ?_, ih⟩
    obtain ⟨a, b, c, d⟩ := hl.exps y hy
    have h1 := hq.2.2 y.1 a.1 (hn ▸ Nat.dvd_trans b ⟨q ^ k, Nat.mul_comm _ _⟩)
    have h2 : y.1 ≠ q := fun e => hm (e ▸ b)
    show q < y.1
    omega
theorem Fac.length {n : Nat} {l : List (Nat × Nat)} (h : Fac n l) : 2 ^ l.length ≤ n := by
  induction h with
  | nil => exact Nat.le_refl 1
  | cons n q k m l hq hk hn hm hl ih =>
    rw [List.length_cons, Nat.pow_succ, Nat.mul_comm, hn]
    refine Nat.mul_le_mul ?_ ih
    calc 2 ≤ q := hq.1
      _ = q ^ 1 := (Nat.pow_one q).symm
      _ ≤ q ^ k := Nat.pow_le_pow_right (by have := hq.1; omega) hk

/-! The order of a residue, by taking primes away -/
theorem order_stays {p x q n m : Nat} (hp : 2 ≤ p) (hd : m ∣ n) (h : ¬ (q ∣ n ∧ x ^ (n / q) % p = 1)) (hq : 1 ≤ q) : ¬ (q ∣ m ∧ x ^ (m / q) % p = 1) := by
  rintro ⟨⟨a, ha⟩, h2⟩
  obtain ⟨c, rfl⟩ := hd
  apply h
  subst ha
  refine ⟨⟨a * c, by rw [Nat.mul_assoc]⟩, ?_⟩
  rw [Nat.mul_div_cancel_left a hq] at h2
  rw [Nat.mul_assoc, Nat.mul_div_cancel_left (a * c) hq]
  exact pow_mul_one hp h2 c
theorem order_end {p x n : Nat} (hp : 2 ≤ p) (h1 : 1 ≤ n) (hx : x ^ n % p = 1) (h : ∀ q, Pr q → q ∣ n → ¬ (q ∣ n ∧ x ^ (n / q) % p = 1)) : Ord p x n := by
  obtain ⟨d, hd⟩ := ord_exists h1 hx
  obtain ⟨c, hc⟩ := hd.dvd hp hx
  by_cases hc1 : c = 1
  · rw [hc, hc1, Nat.mul_one]; exact hd
  · exfalso
    have hc0 : c ≠ 0 := fun h => by subst h; omega
    obtain ⟨q, hq⟩ := least_exists c (by omega)
    obtain ⟨b, hb⟩ := hq.2.1
    have hqq := hq.prime
    have hn : n = q * (d * b) := by rw [hc, hb]; simp only [Nat.mul_left_comm]
    refine h q hqq ⟨d * b, hn⟩ ⟨⟨d * b, hn⟩, ?_⟩
    rw [hn, Nat.mul_div_cancel_left _ (by have := hqq.1; omega)]
    exact pow_mul_one hp hd.2.1 b

/-! The least root -/
def RootOf (p g : Nat) : Prop := 1 ≤ g ∧ g < p ∧ Ord p g (p - 1) ∧ ∀ r, 1 ≤ r → r < g → ¬ Ord p r (p - 1)
theorem RootOf.unique {p g h : Nat} (a : RootOf p g) (b : RootOf p h) : g = h := by
  rcases Nat.lt_trichotomy g h with hl | hl | hl
  · exact absurd a.2.2.1 (b.2.2.2 g a.1 hl)
  · exact hl
  · exact absurd b.2.2.1 (a.2.2.2 h b.1 hl)
/-- What is tried: the candidate x. -/
def Tried (p x : Nat) : Prop := ∀ q, Pr q → q ∣ p - 1 → x ^ ((p - 1) / q) % p ≠ 1
/-- The last candidate needs no trial. -/
theorem root_of_last {p x : Nat} (hp : Pr p) (h1 : 1 ≤ x) (hx : x ≤ p - 1) (hno : ∀ r, 1 ≤ r → r < x → ¬ Tried p r) (h : x = p - 1 ∨ Tried p x) : RootOf p x := by
  have hp2 := hp.1
  have hno' : ∀ r, 1 ≤ r → r < x → ¬ Ord p r (p - 1) := fun r a b c => hno r a b ((root_iff hp a (by omega)).1 c)
  refine ⟨h1, by omega, ?_, hno'⟩
  rcases h with h | h
  · obtain ⟨g, g1, gp, hg⟩ := root_exists hp
    by_cases hgx : g < x
    · exact absurd hg (hno' g g1 hgx)
    · have : g = x := by omega
      exact this ▸ hg
  · exact (root_iff hp h1 (by omega)).2 h
theorem rootof_exists {p : Nat} (hp : Pr p) : ∃ g, RootOf p g := by
  have hp2 := hp.1
  have key : ∀ k x, x + k = p - 1 → 1 ≤ x → (∀ r, 1 ≤ r → r < x → ¬ Tried p r) → ∃ g, RootOf p g := by
    intro k
    induction k with
    | zero => intro x hx h1 hno; exact ⟨x, root_of_last hp h1 (by omega) hno (Or.inl (by omega))⟩
    | succ k ih =>
      intro x hx h1 hno
      by_cases ht : Tried p x
      · exact ⟨x, root_of_last hp h1 (by omega) hno (Or.inr ht)⟩
      · refine ih (x + 1) (by omega) (by omega) (fun r a b => ?_)
        by_cases hr : r = x
        · exact hr ▸ ht
        · exact hno r a (by omega)
  exact key (p - 2) 1 (by omega) (Nat.le_refl 1) (fun r a b => by omega)

/-! Logarithms -/
def LogOf (p g a k : Nat) : Prop := k < p - 1 ∧ g ^ k % p = a
theorem LogOf.unique {p g a k m : Nat} (hp : Pr p) (hg : Ord p g (p - 1)) (h : LogOf p g a k) (h' : LogOf p g a m) : k = m :=
  pow_inj hp hg h.1 h'.1 (h.2.trans h'.2.symm)
theorem log_le {p g a x n k j : Nat} (hp : Pr p) (hg : Ord p g (p - 1)) (ha : LogOf p g a k) (_hn : n ≤ k) (hx : x * g ^ n % p = a) (hj : g ^ j % p = x) (hjn : n + j < p - 1) : k = n + j := by
  refine pow_inj hp hg ha.1 hjn ?_
  rw [ha.2, ← hx, ← hj, Nat.mod_mul_mod, ← Nat.pow_add, Nat.add_comm]
theorem log_rest {p g a x n k : Nat} (hp : Pr p) (hg : Ord p g (p - 1)) (ha : LogOf p g a k) (hn : n ≤ k) (hx : x * g ^ n % p = a) (hxp : x < p) : g ^ (k - n) % p = x := by
  have hng := not_dvd_of_pow hg.1 hg.2.1
  have h1 : g ^ (k - n) * g ^ n % p = x * g ^ n % p := by rw [← Nat.pow_add, show k - n + n = k by omega, ha.2, hx]
  have h2 := cancel_mod hp (fun h => hng (hp.dvd_pow h)) h1
  rw [h2]; exact Nat.mod_eq_of_lt hxp
theorem inverse_pow {p x : Nat} (hp : Pr p) (h : ¬ p ∣ x) : x * x ^ (p - 2) % p = 1 := by
  have hp2 := hp.1
  rw [← Nat.pow_succ', show (p - 2).succ = p - 1 by omega]
  exact fermat hp h

/-! Squares -/
def HasSqrt (p x : Nat) : Prop := ∃ s, s < p ∧ s * s % p = x
def SqrtOf (p x s : Nat) : Prop := s < p ∧ s * s % p = x ∧ ∀ t, t < s → t * t % p ≠ x
theorem SqrtOf.unique {p x s t : Nat} (a : SqrtOf p x s) (b : SqrtOf p x t) : s = t := by
  rcases Nat.lt_trichotomy s t with h | h | h
  · exact absurd a.2.1 (b.2.2 s h)
  · exact h
  · exact absurd b.2.1 (a.2.2 t h)
theorem pr_even {p : Nat} (hp : Pr p) (h : p ≠ 2) : 2 ∣ p - 1 := by
  have hp2 := hp.1
  rcases Nat.mod_two_eq_zero_or_one p with h2 | h2
  · rcases hp.2 2 (Nat.dvd_of_mod_eq_zero h2) with h3 | h3 <;> omega
  · exact ⟨(p - 1) / 2, by omega⟩
theorem log_parity {p g s x k : Nat} (hp : Pr p) (hg : Ord p g (p - 1)) (hx : LogOf p g x k) (hs : s * s % p = x) : k % 2 = 0 := by
  have hp2 := hp.1
  by_cases hpp : p = 2
  · subst hpp; have := hx.1; omega
  · obtain ⟨c, hc⟩ := pr_even hp hpp
    have hn := not_dvd_of_pow hg.1 hg.2.1
    have hxn : ¬ p ∣ s := by
      intro hd
      have h1 : s * s % p = 0 := Nat.mod_eq_zero_of_dvd (Nat.dvd_trans hd ⟨s, rfl⟩)
      have h2 := mod_ne (fun h => hn (hp.dvd_pow (n := k) h))
      have := hx.2
      omega
    obtain ⟨m, hm, he⟩ := log_exists hp hg (a := s % p) (by have := mod_ne hxn; omega) (Nat.mod_lt _ (by omega))
    have h1 : g ^ (2 * m) % p = x := by
      rw [Nat.two_mul, pow_add_mod, he, ← Nat.mul_mod, hs]
    -- k ≡ 2m mod p-1
    have h3 : g ^ ((2 * m) % (p - 1)) % p = x := by
      have h4 := pow_add_mod (p := p) (x := g) ((p - 1) * (2 * m / (p - 1))) (2 * m % (p - 1))
      rw [Nat.div_add_mod, h1, pow_mul_one hp2 hg.2.1, Nat.one_mul, Nat.mod_mod] at h4
      exact h4.symm
    have h5 := pow_inj hp hg hx.1 (Nat.mod_lt _ (by omega)) (hx.2.trans h3.symm)
    rw [h5, hc, Nat.mul_mod_mul_left]
    omega
theorem sq_eq {p s y : Nat} (hp : Pr p) (hs : s < p) (hy1 : 1 ≤ y) (hy : y < p) (h : s * s % p = y * y % p) : s = y ∨ s = p - y := by
  have key : ∀ s y : Nat, s ≤ y → 1 ≤ y → y < p → s * s % p = y * y % p → s = y ∨ s = p - y := by
    intro s y hsy h1 hy h
    have h1 : (y * y - s * s) % p = 0 := Nat.sub_mod_eq_zero_of_mod_eq h.symm
    have h2 : y * y - s * s = (y - s) * (y + s) := by
      obtain ⟨d, rfl⟩ : ∃ d, y = s + d := ⟨y - s, by omega⟩
      rw [show s + d - s = d by omega, Nat.add_mul, Nat.mul_add, Nat.mul_add, Nat.mul_add, Nat.mul_add, Nat.mul_comm d s]
      omega
    rw [h2] at h1
    rcases hp.dvd_mul (Nat.dvd_of_mod_eq_zero h1) with h3 | h3
    · left
      apply Classical.byContradiction
      intro hne
      have := Nat.le_of_dvd (by omega) h3
      omega
    · right
      obtain ⟨c, hc⟩ := h3
      have : c = 1 := by
        rcases c with _ | _ | c
        · omega
        · rfl
        · have : p * (c + 1 + 1) = p * c + p + p := by rw [Nat.mul_add, Nat.mul_add]; omega
          omega
      subst this
      omega
  rcases Nat.le_total s y with hl | hl
  · exact key s y hl hy1 hy h
  · rcases key y s hl (by omega) hs h.symm with h1 | h1 <;> omega
theorem neg_sq {p y : Nat} (hy : y ≤ p) : (p - y) * (p - y) % p = y * y % p := by
  obtain ⟨d, rfl⟩ : ∃ d, p = y + d := ⟨p - y, by omega⟩
  rw [show y + d - y = d by omega]
  have h1 : d * d + (y + d) * y = y * y + (y + d) * d := by
    rw [Nat.add_mul, Nat.add_mul, Nat.mul_comm d y]; omega
  have h2 := congrArg (· % (y + d)) h1
  simpa using h2
theorem sqrt_least {p x y : Nat} (hp : Pr p) (hy1 : 1 ≤ y) (hy : y < p) (h : y * y % p = x) : SqrtOf p x (min y (p - y)) := by
  refine ⟨by omega, ?_, fun t ht he => ?_⟩
  · rcases Nat.le_total y (p - y) with hl | hl
    · rw [Nat.min_eq_left hl, h]
    · rw [Nat.min_eq_right hl, neg_sq (by omega), h]
  · have := sq_eq hp (by omega) hy1 hy (he.trans h.symm)
    omega
theorem pow_lt_ne {p g k : Nat} (hp : Pr p) (hn : ¬ p ∣ g) : 1 ≤ g ^ k % p ∧ g ^ k % p < p := by
  have h2 := mod_ne (fun h => hn (hp.dvd_pow (n := k) h))
  have h3 := Nat.mod_lt (g ^ k) (show p > 0 by have := hp.1; omega)
  omega
theorem sqrt_even {p g x k : Nat} (hp : Pr p) (hg : Ord p g (p - 1)) (hx : LogOf p g x k) (he : k % 2 = 0) : SqrtOf p x (min (g ^ (k / 2) % p) (p - g ^ (k / 2) % p)) := by
  have hn := not_dvd_of_pow hg.1 hg.2.1
  obtain ⟨a, b⟩ := pow_lt_ne (k := k / 2) hp hn
  refine sqrt_least hp a b ?_
  rw [← Nat.mul_mod, ← Nat.pow_add, show k / 2 + k / 2 = k by omega, hx.2]
theorem sqrt_odd {p g x k : Nat} (hp : Pr p) (hg : Ord p g (p - 1)) (hx : LogOf p g x k) (he : k % 2 = 1) : ¬ HasSqrt p x := by
  rintro ⟨s, _, hs⟩
  have := log_parity hp hg hx hs
  omega
/-- Euler. -/
theorem euler {p x : Nat} (hp : Pr p) (h1 : 1 ≤ x) (hx : x < p) : x ^ ((p - 1) / 2) % p = 1 ↔ HasSqrt p x := by
  have hp2 := hp.1
  obtain ⟨g, hg1, hgp, hg⟩ := root_exists hp
  obtain ⟨k, hk, he⟩ := log_exists hp hg h1 hx
  have hiff : x ^ ((p - 1) / 2) % p = 1 ↔ k % 2 = 0 := by
    rw [← he, ← Nat.pow_mod, ← Nat.pow_mul, hg.one_iff hp2]
    by_cases hpp : p = 2
    · subst hpp
      have : k = 0 := by omega
      subst this
      simp
    · obtain ⟨c, hc⟩ := pr_even hp hpp
      rw [hc, Nat.mul_div_cancel_left c (by decide)]
      have hc1 : 1 ≤ c := by omega
      constructor
      · rintro ⟨d, hd⟩
        have : k = 2 * d := Nat.eq_of_mul_eq_mul_right hc1 (by rw [hd]; simp only [Nat.mul_comm, Nat.mul_left_comm])
        omega
      · intro h
        exact ⟨k / 2, by
          calc k * c = 2 * (k / 2) * c := by rw [show 2 * (k / 2) = k by omega]
            _ = 2 * c * (k / 2) := by simp only [Nat.mul_comm, Nat.mul_left_comm]⟩
  rw [hiff]
  constructor
  · intro h
    have := sqrt_even hp hg ⟨hk, he⟩ h
    exact ⟨_, this.1, this.2.1⟩
  · rintro ⟨s, _, hs⟩
    exact log_parity hp hg ⟨hk, he⟩ hs
end Go.Proofs.Ytaieeljkalciiaa.Num
