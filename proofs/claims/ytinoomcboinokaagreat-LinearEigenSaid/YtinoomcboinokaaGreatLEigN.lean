/- MATHEMATICS of the law of eigenspaces: eigenspaces are independent; the values are the roots of the characteristic polynomial; the transpose has the same. -/
import Derived.Test.YtinoomcboinokaaGreatLEigM
import Derived.Test.YtinoomcboinokaaGreatLEigen
import Derived.Test.YtinoomcboinokaaGreatLVals
import Derived.Test.YtinoomcboinokaaGreatLSolS
namespace Go.Proofs.YtinoomcboinokaaGreat
open Go Go.RowKit Num

/-- v times the matrix, less z times v. -/
def opT (n : Nat) (f : Nat → Nat → Int) (z : Int) (v : Nat → Int) (j : Nat) : Int := sm (fun i => v i * f i j) n - z * v j
/-- One after the other, for 0, 1, .. -/
def opN (n : Nat) (f : Nat → Nat → Int) (v : Nat → Int) : Nat → Nat → Int
  | 0 => v
  | k + 1 => opT n f k (opN n f v k)
theorem opT_cong {p : Int} {n : Nat} (f : Nat → Nat → Int) (z : Int) {u v : Nat → Int} (h : ∀ j, j < n → p ∣ u j - v j) {j : Nat} (hj : j < n) : p ∣ opT n f z u j - opT n f z v j := by
  unfold opT
  have h1 : p ∣ sm (fun i => u i * f i j) n - sm (fun i => v i * f i j) n := by
    rw [sm_sub]
    refine sm_dvd fun i hi => ?_
    show p ∣ u i * f i j - v i * f i j
    rw [← Int.sub_mul]
    exact Int.dvd_mul_of_dvd_left (h i hi)
  have h2 : p ∣ z * (u j - v j) := Int.dvd_mul_of_dvd_right (h j hj)
  have h3 := Int.dvd_sub h1 h2
  rw [Int.mul_sub] at h3
  rwa [show sm (fun i => u i * f i j) n - sm (fun i => v i * f i j) n - (z * u j - z * v j) = sm (fun i => u i * f i j) n - z * u j - (sm (fun i => v i * f i j) n - z * v j) by omega] at h3
theorem opT_add (n : Nat) (f : Nat → Nat → Int) (z : Int) (u v : Nat → Int) (j : Nat) : opT n f z (fun i => u i + v i) j = opT n f z u j + opT n f z v j := by
  unfold opT
  have h1 : sm (fun i => (u i + v i) * f i j) n = sm (fun i => u i * f i j) n + sm (fun i => v i * f i j) n := by
    rw [sm_add]; exact sm_congr fun i _ => Int.add_mul _ _ _
  rw [h1, Int.mul_add]; omega
theorem opT_smul (n : Nat) (f : Nat → Nat → Int) (z t : Int) (u : Nat → Int) (j : Nat) : opT n f z (fun i => t * u i) j = t * opT n f z u j := by
  unfold opT
  have h1 : sm (fun i => t * u i * f i j) n = t * sm (fun i => u i * f i j) n := by
    rw [sm_mul]; exact sm_congr fun i _ => Int.mul_assoc _ _ _
  rw [h1, Int.mul_sub, ← Int.mul_assoc t z, Int.mul_comm t z, Int.mul_assoc]
theorem opN_cong {p : Int} {n : Nat} (f : Nat → Nat → Int) {u v : Nat → Int} (h : ∀ j, j < n → p ∣ u j - v j) : ∀ (k : Nat) {j : Nat}, j < n → p ∣ opN n f u k j - opN n f v k j
  | 0, _, hj => h _ hj
  | k + 1, _, hj => opT_cong f k (fun _ hi => opN_cong f h k hi) hj
theorem opN_add (n : Nat) (f : Nat → Nat → Int) (u v : Nat → Int) : ∀ (k : Nat), opN n f (fun i => u i + v i) k = fun j => opN n f u k j + opN n f v k j
  | 0 => rfl
  | k + 1 => by
    funext j
    show opT n f k (opN n f (fun i => u i + v i) k) j = _
    rw [opN_add n f u v k, opT_add]; rfl
theorem opN_smul (n : Nat) (f : Nat → Nat → Int) (t : Int) (u : Nat → Int) : ∀ (k : Nat), opN n f (fun i => t * u i) k = fun j => t * opN n f u k j
  | 0 => rfl
  | k + 1 => by
    funext j
    show opT n f k (opN n f (fun i => t * u i) k) j = _
    rw [opN_smul n f t u k, opT_smul]; rfl
/-- What is mapped to 0 by them. -/
def NulP (p : Int) (n : Nat) (f : Nat → Nat → Int) (k : Nat) (v : Nat → Int) : Prop := ∀ j, j < n → p ∣ opN n f v k j
theorem nul_sub (p : Int) (n : Nat) (f : Nat → Nat → Int) (k : Nat) : SubP p (NulP p n f k) := by
  refine ⟨fun j _ => ?_, fun u v hu hv j hj => ?_, fun t u hu j hj => ?_, fun u v hu e j hj => ?_⟩
  · have h := opN_smul n f 0 (fun _ => 0) k
    have e : (fun i : Nat => (0 : Int) * (fun _ : Nat => (0 : Int)) i) = fun _ => 0 := by funext i; simp
    rw [e] at h
    rw [h]; exact ⟨0, by simp⟩
  · rw [opN_add]; exact Int.dvd_add (hu j hj) (hv j hj)
  · rw [opN_smul]; exact Int.dvd_mul_of_dvd_right (hu j hj)
  · have h := Int.dvd_add (opN_cong f (fun j _ => e j) k hj) (hu j hj)
    rwa [Int.sub_add_cancel] at h
theorem SubP.spl {p : Int} {P : (Nat → Int) → Prop} (h : SubP p P) : ∀ {L : List (Nat → Int)} {x : Nat → Int}, (∀ v ∈ L, P v) → SpL p L x → P x
  | [], x, _, hx => h.congr _ _ h.zero fun i => by
    have h1 : p ∣ x i := hx i
    show p ∣ x i - 0
    rwa [Int.sub_zero]
  | v :: L, x, hv, ⟨t, ht⟩ => h.congr _ _ (h.add _ _ (SubP.spl h (fun u hu => hv u (List.mem_cons_of_mem _ hu)) ht) (h.smul t v (hv v (by simp)))) fun i => ⟨0, by
    show x i - (x i - t * v i + t * v i) = p * 0
    omega⟩
/-- A row of the eigenspace of y. -/
def EigP (p : Int) (n : Nat) (f : Nat → Nat → Int) (y : Int) (v : Nat → Int) : Prop := ∀ j, j < n → p ∣ opT n f y v j
theorem eig_sub (p : Int) (n : Nat) (f : Nat → Nat → Int) (y : Int) : SubP p (EigP p n f y) := by
  refine ⟨fun j _ => ?_, fun u v hu hv j hj => ?_, fun t u hu j hj => ?_, fun u v hu e j hj => ?_⟩
  · have h := opT_smul n f y 0 (fun _ => 0) j
    have e : (fun i : Nat => (0 : Int) * (fun _ : Nat => (0 : Int)) i) = fun _ => 0 := by funext i; simp
    rw [e] at h
    rw [h]; exact ⟨0, by simp⟩
  · rw [opT_add]; exact Int.dvd_add (hu j hj) (hv j hj)
  · rw [opT_smul]; exact Int.dvd_mul_of_dvd_right (hu j hj)
  · have h := Int.dvd_add (opT_cong f y (fun j _ => e j) hj) (hu j hj)
    rwa [Int.sub_add_cancel] at h
/-- (y - 0) (y - 1) .. -/
def facP (y : Int) : Nat → Int
  | 0 => 1
  | k + 1 => (y - k) * facP y k
theorem facP_zero (y : Nat) : ∀ k, y < k → facP y k = 0
  | 0, h => absurd h (by omega)
  | k + 1, h => by
    show ((y : Int) - k) * facP y k = 0
    by_cases e : y = k
    · subst e; rw [Int.sub_self, Int.zero_mul]
    · rw [facP_zero y k (by omega), Int.mul_zero]
theorem facP_ne {p : Int} (hp : 1 < p) {ι : Int → Int} (hι : InvF p ι) {y : Nat} (hy : (y : Int) < p) : ∀ k, k ≤ y → ¬ p ∣ facP y k
  | 0, _, h => by
    have := Int.le_of_dvd (by omega) (show p ∣ (1 : Int) from h)
    omega
  | k + 1, hk, h => by
    refine facP_ne hp hι hy k (by omega) (prime_dvd hp hι (a := (y : Int) - k) h fun h1 => ?_)
    have := Int.le_of_dvd (by omega) h1
    omega
theorem opN_eig {p : Int} {n : Nat} {f : Nat → Nat → Int} {y : Int} {v : Nat → Int} (h : EigP p n f y v) : ∀ (k : Nat) {j : Nat}, j < n → p ∣ opN n f v k j - facP y k * v j
  | 0, j, _ => by
    show p ∣ v j - 1 * v j
    rw [Int.one_mul, Int.sub_self]; exact ⟨0, by simp⟩
  | k + 1, j, hj => by
    have ih := fun {i} hi => opN_eig h k (j := i) hi
    have h1 := opT_cong (p := p) f k (u := opN n f v k) (v := fun i => facP y k * v i) (fun i hi => ih hi) hj
    rw [opT_smul] at h1
    have h2 : p ∣ facP y k * opT n f y v j := Int.dvd_mul_of_dvd_right (h j hj)
    have e : opT n f k v j = opT n f y v j + (y - k) * v j := by
      unfold opT
      rw [Int.sub_mul]; omega
    rw [e, Int.mul_add] at h1
    have h3 := Int.dvd_add h1 h2
    show p ∣ opT n f k (opN n f v k) j - (y - k) * facP y k * v j
    have e2 : (y - k) * facP y k * v j = facP y k * ((y - k) * v j) := by rw [Int.mul_comm (y - k), Int.mul_assoc]
    rw [e2]
    rwa [show ∀ a b c : Int, a - (b + c) + b = a - c from fun a b c => by omega] at h3
/-- A reduced basis is its own. -/
theorem elim_basis {p : Int} (hp : 1 < p) {ι : Int → Int} (hι : InvF p ι) {n : Nat} {R : Nat → Option (Nat → Int)} (hE : Ech p n R) (hW : WideR n R) : elimR p n ι (rowsL n (basF n R) (pivL n R).length) = R := by
  obtain ⟨h1, _, h3⟩ := elim_ok hp hι (rowsL n (basF n R) (pivL n R).length) (rowsL_wide _ _ _)
  exact Ech.unique hp h1 hE fun v => (h3 v).trans (bas_span hE hW v)
/-- The rows of the eigenspaces of 0, 1, .. -/
noncomputable def eigU (p : Int) (n : Nat) (f : Nat → Nat → Int) : Nat → List (Nat → Int)
  | 0 => []
  | x + 1 => eigU p n f x ++ rowsL n (basF n (afterR n (kerR p n n (eigF p x f)))) (pivL n (afterR n (kerR p n n (eigF p x f)))).length
/-- The ranks, added up. -/
noncomputable def eigS (p : Int) (n : Nat) (f : Nat → Nat → Int) : Nat → Nat
  | 0 => 0
  | x + 1 => eigS p n f x + (pivL n (afterR n (kerR p n n (eigF p x f)))).length
theorem eigF_cong {p : Int} (hp : 2 ≤ p) (x : Int) (f : Nat → Nat → Int) (i j : Nat) : p ∣ eigF p x f i j - (f i j - x * (if i = j then 1 else 0)) := by
  obtain ⟨pn, rfl⟩ : ∃ pn : Nat, p = pn := ⟨p.toNat, by omega⟩
  unfold eigF axpy sclF
  have h1 := dvd_mod_sub (pn : Int) (f i j + 1 * axpy (resV (-(x % pn)) (pn : Int).toNat : Nat) pn (fun _ => 0) (oneF i) j)
  have h2 : (pn : Int) ∣ axpy (resV (-(x % pn)) (pn : Int).toNat : Nat) pn (fun _ => 0) (oneF i) j - (0 + (resV (-(x % pn)) (pn : Int).toNat : Nat) * oneF i j) := dvd_mod_sub (pn : Int) (0 + (resV (-(x % pn)) (pn : Int).toNat : Nat) * oneF i j)
  have h3 : (pn : Int) ∣ (resV (-(x % pn)) (pn : Int).toNat : Nat) - -x := by
    rw [Int.toNat_natCast, resV_cast _ (by omega)]
    have h4 := dvd_mod_sub (pn : Int) (-(x % pn))
    have h5 := dvd_mod_sub (pn : Int) x
    have h6 := Int.dvd_sub h4 h5
    rwa [show -(x % (pn : Int)) % pn - -(x % pn) - (x % pn - x) = -(x % (pn : Int)) % pn - -x by omega] at h6
  have h4 : (pn : Int) ∣ ((resV (-(x % pn)) (pn : Int).toNat : Nat) - -x) * oneF i j := Int.dvd_mul_of_dvd_left h3
  have e1 : oneF i j = if i = j then 1 else 0 := by
    unfold oneF
    by_cases e : i = j
    · rw [if_pos e, if_pos e.symm]
    · rw [if_neg e, if_neg (Ne.symm e)]
  rw [Int.sub_mul] at h4
  rw [← e1]
  have h5 := Int.dvd_add (Int.dvd_add h1 h2) h4
  generalize axpy (resV (-(x % pn)) (pn : Int).toNat : Nat) pn (fun _ => 0) (oneF i) j = a at h5 ⊢
  generalize ((resV (-(x % pn)) (pn : Int).toNat : Nat) : Int) * oneF i j = b at h5
  rw [Int.neg_mul] at h5
  generalize (f i j + 1 * a) % (pn : Int) = c at h5 ⊢
  rwa [show c - (f i j + 1 * a) + (a - (0 + b)) + (b - -(x * oneF i j)) = c - (f i j - x * oneF i j) by omega] at h5
/-- What is mapped to zero is a row of the eigenspace. -/
theorem eig_of {p : Int} (hp : 2 ≤ p) {x : Int} {f : Nat → Nat → Int} {n : Nat} {v : Nat → Int} (h : ∀ j, j < n → p ∣ sm (fun i => v i * eigF p x f i j) n) : EigP p n f x v := fun j hj => by
  have h1 : p ∣ sm (fun i => v i * eigF p x f i j) n - sm (fun i => v i * (f i j - x * (if i = j then 1 else 0))) n := by
    rw [sm_sub]
    refine sm_dvd fun i _ => ?_
    show p ∣ v i * eigF p x f i j - v i * (f i j - x * (if i = j then 1 else 0))
    rw [← Int.mul_sub]
    exact Int.dvd_mul_of_dvd_right (eigF_cong hp x f i j)
  have h2 := Int.dvd_sub (h j hj) h1
  rw [show ∀ a b : Int, a - (a - b) = b from fun a b => by omega] at h2
  have e : sm (fun i => v i * (f i j - x * (if i = j then 1 else 0))) n = opT n f x v j := by
    unfold opT
    have e1 : sm (fun i => x * v i * (if i = j then 1 else 0)) n = x * v j := by
      rw [sm_one (k := j) hj fun i _ hne => ?_]
      · show x * v j * (if j = j then 1 else 0) = x * v j
        rw [if_pos rfl, Int.mul_one]
      · show x * v i * (if i = j then 1 else 0) = 0
        rw [if_neg hne, Int.mul_zero]
    rw [← e1, sm_sub]
    refine sm_congr fun i _ => ?_
    show v i * (f i j - x * (if i = j then 1 else 0)) = v i * f i j - x * v i * (if i = j then 1 else 0)
    rw [Int.mul_sub, ← Int.mul_assoc, Int.mul_comm (v i) x]
  rwa [e] at h2
theorem ker_wide {p : Int} (hp : 1 < p) (hι : InvF p (invI p)) (n : Nat) (f : Nat → Nat → Int) : Ech p n (afterR n (kerR p n n f)) ∧ WideR n (afterR n (kerR p n n f)) := by
  have h := elim_ok hp hι (rowsL (n + n) (markF n f) n) (rowsL_wide _ _ _)
  exact ⟨after_ech h.1, after_wide h.2.1⟩
theorem eig_rows {p : Int} (hp : 2 ≤ p) (hι : InvF p (invI p)) (n : Nat) (f : Nat → Nat → Int) (x : Int) : ∀ v ∈ rowsL n (basF n (afterR n (kerR p n n (eigF p x f)))) (pivL n (afterR n (kerR p n n (eigF p x f)))).length, EigP p n f x v := fun v hv => by
  obtain ⟨i, hi, rfl⟩ := rowsL_of hv
  refine eig_of hp fun j hj => ?_
  have h := ker_zero (p := p) (by omega) hι n n (eigF p x f) hi hj
  have e : sm (fun k => wideF n (basF n (afterR n (kerR p n n (eigF p x f))) i) k * eigF p x f k j) n = sm (fun k => basF n (afterR n (elimR p (n + n) (invI p) (rowsL (n + n) (markF n (eigF p x f)) n))) i k * eigF p x f k j) n := sm_congr fun k hk => by
    unfold wideF
    rw [if_pos hk]; rfl
  rw [e]; exact h
theorem eigU_wide (p : Int) (n : Nat) (f : Nat → Nat → Int) : ∀ x, ∀ v ∈ eigU p n f x, Wide n v
  | 0, v, hv => absurd hv (by simp [eigU])
  | x + 1, v, hv => by
    rcases List.mem_append.1 hv with h | h
    · exact eigU_wide p n f x v h
    · exact rowsL_wide _ _ _ v h
theorem eigU_nul {p : Int} (hp : 2 ≤ p) (hι : InvF p (invI p)) (n : Nat) (f : Nat → Nat → Int) : ∀ (x y : Nat), x ≤ y → ∀ v ∈ eigU p n f x, NulP p n f y v
  | 0, _, _, v, hv => absurd hv (by simp [eigU])
  | x + 1, y, hxy, v, hv => by
    rcases List.mem_append.1 hv with h | h
    · exact eigU_nul hp hι n f x y (by omega) v h
    · intro j hj
      have h1 := opN_eig (eig_rows hp hι n f x v h) y hj
      rw [facP_zero x y (by omega), Int.zero_mul, Int.sub_zero] at h1
      exact h1
/-- The eigenspaces are independent. -/
theorem eig_rank {p : Int} (hp : 2 ≤ p) (hι : InvF p (invI p)) (n : Nat) (f : Nat → Nat → Int) : ∀ x : Nat, (x : Int) ≤ p → (pivL n (elimR p n (invI p) (eigU p n f x))).length = eigS p n f x
  | 0, _ => by
    show (pivL n fun _ => none).length = 0
    rw [pivL_nil]; rfl
  | x + 1, hx => by
    have ih := eig_rank hp hι n f x (by omega)
    obtain ⟨hKE, hKW⟩ := ker_wide (p := p) (by omega) hι n (eigF p x f)
    have hA := eigU_wide p n f x
    have hB : ∀ v ∈ rowsL n (basF n (afterR n (kerR p n n (eigF p x f)))) (pivL n (afterR n (kerR p n n (eigF p x f)))).length, Wide n v := rowsL_wide _ _ _
    have hr := eig_rows hp hι n f x
    have hb := elim_basis (p := p) (by omega) hι hKE hKW
    show (pivL n (elimR p n (invI p) (eigU p n f x ++ rowsL n (basF n (afterR n (kerR p n n (eigF p x f)))) (pivL n (afterR n (kerR p n n (eigF p x f)))).length))).length = eigS p n f x + (pivL n (afterR n (kerR p n n (eigF p x f)))).length
    generalize hBL : rowsL n (basF n (afterR n (kerR p n n (eigF p x f)))) (pivL n (afterR n (kerR p n n (eigF p x f)))).length = B at hB hr hb
    have ht : ∀ v ∈ (eigU p n f x).map (twice n) ++ B, Wide (n + n) v := fun v hv i hi => by
      rcases List.mem_append.1 hv with h | h
      · obtain ⟨u, hu, rfl⟩ := List.mem_map.1 h
        rw [twice_ge u (by omega)]
        exact hA u hu _ (by omega)
      · exact hB v h i (by omega)
    obtain ⟨hE, hW, hR⟩ := elim_ok (p := p) (by omega) hι _ ht
    have hm := meet_rank (p := p) (by omega) hι hA hB hE hR
    have h0 : (pivL n (afterR n (elimR p (n + n) (invI p) ((eigU p n f x).map (twice n) ++ B)))).length = 0 := by
      apply Classical.byContradiction
      intro hne
      have hi : 0 < (pivL n (afterR n (elimR p (n + n) (invI p) ((eigU p n f x).map (twice n) ++ B)))).length := by omega
      obtain ⟨s, hs⟩ := piv_some (after_ech hE) hi
      have hrow := (meet_rows hA hB hE hW hR s).1 ((bas_span (after_ech hE) (after_wide hW) s).2 (InR.row (after_ech hE) hs))
      have hj := (after_ech hE).below _ _ hs
      have h1 := (nul_sub p n f x).spl (eigU_nul hp hι n f x x (Nat.le_refl x)) hrow.1 _ hj
      have h2 := opN_eig ((eig_sub p n f x).spl hr hrow.2) x hj
      have h3 := Int.dvd_sub h1 h2
      rw [show ∀ a b : Int, a - (a - b) = b from fun a b => by omega, (after_ech hE).one _ _ hs, Int.mul_one] at h3
      exact facP_ne (by omega) hι (by omega) x (Nat.le_refl x) h3
    rw [h0, ih, hb] at hm
    omega
theorem eig_sum {p : Int} (hp : 2 ≤ p) (hι : InvF p (invI p)) (n : Nat) (f : Nat → Nat → Int) {x : Nat} (hx : (x : Int) ≤ p) : eigS p n f x ≤ n := by
  rw [← eig_rank hp hι n f x hx]
  unfold pivL
  exact Nat.le_trans (List.length_filter_le _ _) (by simp)
theorem hor_cong {p s : Int} {f g : Ser} (h : ∀ m, p ∣ f m - g m) : ∀ n, p ∣ hor s f n - hor s g n
  | 0 => h 0
  | n + 1 => by
    show p ∣ s * hor s f n + f (n + 1) - (s * hor s g n + g (n + 1))
    have h1 : p ∣ s * (hor s f n - hor s g n) := Int.dvd_mul_of_dvd_right (hor_cong h n)
    have h2 := Int.dvd_add h1 (h (n + 1))
    rw [Int.mul_sub] at h2
    rwa [show s * hor s f n - s * hor s g n + (f (n + 1) - g (n + 1)) = s * hor s f n + f (n + 1) - (s * hor s g n + g (n + 1)) by omega] at h2
theorem horV_hor (p x : Int) (f : Nat → Nat → Int) (m : Nat) : ∀ k, k ≤ m → p ∣ horV p x (m + 1) (polyF p f m) (k + 1) - hor x (berk f m) k
  | 0, _ => by
    show p ∣ (0 * x + polyF p f m (m + 1 - 1 - 0)) % p - berk f m 0
    have h1 := dvd_mod_sub p (0 * x + polyF p f m (m + 1 - 1 - 0))
    have h2 : p ∣ polyF p f m (m + 1 - 1 - 0) - berk f m 0 := by
      unfold polyF
      rw [show m - (m + 1 - 1 - 0) = 0 by omega]
      exact dvd_mod_sub _ _
    have h3 := Int.dvd_add h1 h2
    rwa [show ∀ a b c : Int, a - (0 * x + b) + (b - c) = a - c from fun a b c => by rw [Int.zero_mul]; omega] at h3
  | k + 1, hk => by
    have ih := horV_hor p x f m k (by omega)
    show p ∣ (horV p x (m + 1) (polyF p f m) (k + 1) * x + polyF p f m (m + 1 - 1 - (k + 1))) % p - (x * hor x (berk f m) k + berk f m (k + 1))
    have h1 := dvd_mod_sub p (horV p x (m + 1) (polyF p f m) (k + 1) * x + polyF p f m (m + 1 - 1 - (k + 1)))
    have h2 : p ∣ polyF p f m (m + 1 - 1 - (k + 1)) - berk f m (k + 1) := by
      unfold polyF
      rw [show m - (m + 1 - 1 - (k + 1)) = k + 1 by omega]
      exact dvd_mod_sub _ _
    have h3 : p ∣ (horV p x (m + 1) (polyF p f m) (k + 1) - hor x (berk f m) k) * x := Int.dvd_mul_of_dvd_left ih
    rw [Int.sub_mul, Int.mul_comm (hor x (berk f m) k)] at h3
    have h4 := Int.dvd_add (Int.dvd_add h1 h2) h3
    rwa [show ∀ a b c d e : Int, a - (b + c) + (c - d) + (b - e) = a - (e + d) from fun a b c d e => by omega] at h4
theorem neg_det (n : Nat) (F : Nat → Nat → Int) : ldet n (fun i j => -1 * F i j) = (-1) ^ n * ldet n F := by
  have h := ldet_scaleAll (n := n) F (-1) n (Nat.le_refl n)
  rw [← h]
  exact ldet_congr n fun i hi j _ => by rw [if_pos hi]
theorem neg_pow (n : Nat) : (-1 : Int) ^ n = 1 ∨ (-1 : Int) ^ n = -1 := by
  induction n with
  | zero => exact .inl rfl
  | succ n ih =>
    rw [Int.pow_succ]
    rcases ih with h | h
    · rw [h]; exact .inr rfl
    · rw [h]; exact .inl rfl
/-- A number is a value just if its eigenspace has a row. -/
theorem val_iff {p : Int} (hp : 2 ≤ p) (n : Nat) (f : Nat → Nat → Int) (x : Nat) : isVal p n f x = true ↔ p ∣ ldet n (eigF p x f) := by
  have h1 := horV_hor p x f n n (Nat.le_refl n)
  have h2 := horV_in (p := p) (by omega) x (n + 1) (polyF p f n) (n + 1)
  have h3 : p ∣ ldet n (eigF p x f) - (-1) ^ n * hor x (berk f n) n := by
    rw [char_det, ← neg_det]
    refine ldet_cong fun i _ j _ => ?_
    have := eigF_cong hp x f i j
    rwa [show f i j - (x : Int) * (if i = j then 1 else 0) = -1 * ((if i = j then 1 else 0) * (x : Int) + -f i j) by rw [Int.mul_comm (x : Int)]; omega] at this
  unfold isVal
  rw [decide_eq_true_iff]
  generalize horV p x (n + 1) (polyF p f n) (n + 1) = y at h1 h2
  generalize hor x (berk f n) n = z at h1 h3
  generalize ldet n (eigF p x f) = d at h3 ⊢
  have h4 : p ∣ z ↔ p ∣ d := by
    rcases neg_pow n with e | e
    · rw [e, Int.one_mul] at h3
      exact ⟨fun h => by have := Int.dvd_add h3 h; rwa [Int.sub_add_cancel] at this, fun h => by have := Int.dvd_sub h h3; rwa [show d - (d - z) = z by omega] at this⟩
    · rw [e] at h3
      exact ⟨fun h => by have := Int.dvd_sub h3 h; rwa [show d - -1 * z - z = d by omega] at this, fun h => by have := Int.dvd_sub h3 h; rwa [show d - -1 * z - d = z by omega] at this⟩
  rw [← h4]
  constructor
  · intro e
    rw [e] at h1
    have := Int.dvd_neg.2 h1
    rwa [show -(0 - z) = z by omega] at this
  · intro h
    have h5 := Int.dvd_add h1 h
    rw [Int.sub_add_cancel] at h5
    have h6 := Int.emod_eq_zero_of_dvd h5
    rwa [Int.emod_eq_of_lt h2.1 h2.2] at h6
theorem val_ker {p : Int} (hp : 2 ≤ p) (hι : InvF p (invI p)) (n : Nat) (f : Nat → Nat → Int) (x : Nat) : isVal p n f x = true ↔ 0 < (kerL n n (kerR p n n (eigF p x f))).length := by
  rw [val_iff hp, ker_len]
  exact det_ker (by omega) hι n _
theorem val_turn {p : Int} (hp : 2 ≤ p) (hι : InvF p (invI p)) (n : Nat) (f : Nat → Nat → Int) : isVal p n (fun i j => f j i) = isVal p n f := by
  funext x
  have key : ∀ g : Nat → Nat → Int, p ∣ ldet n (eigF p x (fun i j => g j i)) → p ∣ ldet n (eigF p x g) := fun g h => by
    refine det_turn (by omega) hι ?_
    have h1 : p ∣ ldet n (fun i j => eigF p x g j i) - ldet n (eigF p x (fun i j => g j i)) := ldet_cong fun i _ j _ => by
      have a := eigF_cong hp x g j i
      have b := eigF_cong hp x (fun i j => g j i) i j
      have e : (if j = i then (1 : Int) else 0) = if i = j then 1 else 0 := by
        by_cases e : i = j
        · rw [if_pos e, if_pos e.symm]
        · rw [if_neg e, if_neg (Ne.symm e)]
      rw [e] at a
      have := Int.dvd_sub a b
      rwa [show ∀ a b c : Int, a - c - (b - c) = a - b from fun a b c => by omega] at this
    have := Int.dvd_add h1 h
    rwa [Int.sub_add_cancel] at this
  have h1 : isVal p n (fun i j => f j i) x = true ↔ isVal p n f x = true := by
    rw [val_iff hp, val_iff hp]
    exact ⟨key f, key fun i j => f j i⟩
  exact Bool.eq_iff_iff.2 h1
end Go.Proofs.YtinoomcboinokaaGreat
