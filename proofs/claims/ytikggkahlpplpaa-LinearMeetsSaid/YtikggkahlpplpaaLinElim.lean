/- MATHEMATICS: the elimination of a list of rows over a field of residues: it is reduced, and has the span of the list. -/
import Derived.Test.YtikggkahlpplpaaLinKeep
namespace Go.Proofs.Ytikggkahlpplpaa

/-- The first place below n where f is not 0. -/
def firstNZ (f : Nat → Int) : Nat → Option Nat
  | 0 => none
  | n + 1 => match firstNZ f n with
    | some j => some j
    | none => if f n = 0 then none else some n
theorem firstNZ_none {f : Nat → Int} : ∀ {n}, firstNZ f n = none → ∀ i, i < n → f i = 0
  | 0, _, i, hi => absurd hi (by omega)
  | n + 1, h, i, hi => by
    unfold firstNZ at h
    cases e : firstNZ f n with
    | some j => rw [e] at h; cases h
    | none =>
      rw [e] at h
      by_cases hn : f n = 0
      · rcases Nat.lt_or_ge i n with hi2 | hi2
        · exact firstNZ_none e i hi2
        · rw [show i = n by omega]; exact hn
      · simp only [hn, if_false] at h
        cases h
theorem firstNZ_some {f : Nat → Int} : ∀ {n j}, firstNZ f n = some j → j < n ∧ f j ≠ 0 ∧ ∀ i, i < j → f i = 0
  | 0, j, h => by cases h
  | n + 1, j, h => by
    unfold firstNZ at h
    cases e : firstNZ f n with
    | some k =>
      rw [e] at h
      injection h with h
      subst h
      have := firstNZ_some e
      exact ⟨by omega, this.2⟩
    | none =>
      rw [e] at h
      by_cases hn : f n = 0
      · simp only [hn, if_true] at h
        cases h
      · simp only [hn, if_false] at h
        injection h with h
        subst h
        exact ⟨by omega, hn, firstNZ_none e⟩
/-- What is kept of a row. -/
def keptRow (p : Int) (ι : Int → Int) (rest : Nat → Int) (j i : Nat) : Int := rest i * ι (rest j) % p
/-- A row is reduced, and kept unless it is 0. -/
def stepR (p : Int) (W : Nat) (ι : Int → Int) (R : Nat → Option (Nat → Int)) (v : Nat → Int) : Nat → Option (Nat → Int) :=
  match firstNZ (redK p R v W) W with
  | none => R
  | some j => keepR p R j (keptRow p ι (redK p R v W) j)
/-- Inverses of the residues other than 0. -/
def InvF (p : Int) (ι : Int → Int) : Prop := ∀ x, 0 < x → x < p → x * ι x % p = 1
theorem redK_low {p : Int} (hp : 1 < p) (R : Nat → Option (Nat → Int)) (v : Nat → Int) (k i : Nat) : 0 ≤ redK p R v k i ∧ redK p R v k i < p :=
  ⟨Int.emod_nonneg _ (by omega), Int.emod_lt_of_pos _ (by omega)⟩
theorem redK_pivot {p : Int} {W : Nat} {R : Nat → Option (Nat → Int)} (hE : Ech p W R) (v : Nat → Int) {k : Nat} (hk : (R k).isSome) : redK p R v W k = 0 := by
  cases hR : R k with
  | none => rw [hR] at hk; cases hk
  | some r =>
    unfold redK
    rw [sm_one (k := k) (hE.below k r hR) fun j _ hne => ?_]
    · show (v k - v k * rowAt R k k) % p = 0
      rw [rowAt_some hR, hE.one k r hR, Int.mul_one, Int.sub_self]
      exact Int.zero_emod p
    · show v j * rowAt R j k = 0
      cases hj : R j with
      | none => rw [rowAt_none hj, Int.mul_zero]
      | some q => rw [rowAt_some hj, hE.other j q k hj hk (Ne.symm hne), Int.mul_zero]
theorem step_new {p : Int} (hp : 1 < p) {ι : Int → Int} (hι : InvF p ι) {W : Nat} {R : Nat → Option (Nat → Int)} (hE : Ech p W R) (v : Nat → Int) {j : Nat} (h : firstNZ (redK p R v W) W = some j) : NewRow p W R j (keptRow p ι (redK p R v W) j) := by
  obtain ⟨h1, h2, h3⟩ := firstNZ_some h
  have hl := redK_low hp R v W j
  refine ⟨h1, hι _ (by omega) hl.2, fun i hi => ?_, fun k hk => ?_, fun i => ⟨Int.emod_nonneg _ (by omega), Int.emod_lt_of_pos _ (by omega)⟩⟩
  · show redK p R v W i * _ % p = 0
    rw [h3 i hi, Int.zero_mul]; exact Int.zero_emod p
  · show redK p R v W k * _ % p = 0
    rw [redK_pivot hE v hk, Int.zero_mul]; exact Int.zero_emod p
/-- A row, but for what is left of it, is in the span. -/
theorem red_in {p : Int} {W : Nat} (R : Nat → Option (Nat → Int)) (v : Nat → Int) : InR p W R (fun i => v i - redK p R v W i) :=
  ⟨v, fun i => by
    show p ∣ v i - redK p R v W i - sm (fun j => v j * rowAt R j i) W
    unfold redK
    rw [Int.emod_def]
    generalize sm (fun j => v j * rowAt R j i) W = s
    generalize (v i - s) / p = z
    exact ⟨z, by omega⟩⟩
/-- All entries from W on are 0. -/
def Wide (W : Nat) (v : Nat → Int) : Prop := ∀ i, W ≤ i → v i = 0
def WideR (W : Nat) (R : Nat → Option (Nat → Int)) : Prop := ∀ j r, R j = some r → Wide W r
theorem redK_wide {p : Int} {W : Nat} {R : Nat → Option (Nat → Int)} (hR : WideR W R) {v : Nat → Int} (hv : Wide W v) (k : Nat) : Wide W (redK p R v k) := fun i hi => by
  unfold redK
  rw [hv i hi, sm_zero fun j _ => ?_]
  · exact Int.zero_emod p
  · show v j * rowAt R j i = 0
    cases h : R j with
    | none => rw [rowAt_none h, Int.mul_zero]
    | some r => rw [rowAt_some h, hR j r h i hi, Int.mul_zero]
theorem step_wide {p : Int} {ι : Int → Int} {W : Nat} {R : Nat → Option (Nat → Int)} (hR : WideR W R) {v : Nat → Int} (hv : Wide W v) : WideR W (stepR p W ι R v) := by
  unfold stepR
  cases h : firstNZ (redK p R v W) W with
  | none => exact hR
  | some j =>
    intro k s hs i hi
    have hq : keptRow p ι (redK p R v W) j i = 0 := by
      show redK p R v W i * _ % p = 0
      rw [redK_wide hR hv W i hi, Int.zero_mul]; exact Int.zero_emod p
    rcases keepR_cases hs with ⟨_, rfl⟩ | ⟨_, r, hr, rfl⟩
    · exact hq
    · show (r i + (p - r j) * keptRow p ι (redK p R v W) j i) % p = 0
      rw [hq, hR k r hr i hi, Int.mul_zero]; exact Int.zero_emod p
theorem step_ech {p : Int} (hp : 1 < p) {ι : Int → Int} (hι : InvF p ι) {W : Nat} {R : Nat → Option (Nat → Int)} (hE : Ech p W R) (v : Nat → Int) : Ech p W (stepR p W ι R v) := by
  unfold stepR
  cases h : firstNZ (redK p R v W) W with
  | none => exact hE
  | some j => exact Ech.keep hp hE (step_new hp hι hE v h)
theorem step_span {p : Int} (hp : 1 < p) {ι : Int → Int} (hι : InvF p ι) {W : Nat} {R : Nat → Option (Nat → Int)} (hE : Ech p W R) (hR : WideR W R) {v : Nat → Int} (hv : Wide W v) (x : Nat → Int) :
    InR p W (stepR p W ι R v) x ↔ ∃ t, InR p W R (fun i => x i - t * v i) := by
  have hin := red_in (p := p) (W := W) R v
  unfold stepR
  cases h : firstNZ (redK p R v W) W with
  | none =>
    have hz : ∀ i, redK p R v W i = 0 := fun i => by
      rcases Nat.lt_or_ge i W with hi | hi
      · exact firstNZ_none h i hi
      · exact redK_wide hR hv W i hi
    have hvin : InR p W R v := hin.congr fun i => by rw [hz i]; exact ⟨0, by omega⟩
    constructor
    · exact fun hx => ⟨0, hx.congr fun i => ⟨0, by rw [Int.zero_mul]; omega⟩⟩
    · rintro ⟨t, ht⟩
      exact (ht.add (hvin.smul t)).congr fun i => ⟨0, by
        show x i - (x i - t * v i + t * v i) = p * 0
        omega⟩
  | some j =>
    have hq := step_new hp hι hE v h
    show InR p W (keepR p R j (keptRow p ι (redK p R v W) j)) x ↔ _
    rw [keep_span hp hE hq]
    have hm : ∀ i, p ∣ keptRow p ι (redK p R v W) j i - redK p R v W i * ι (redK p R v W j) := fun i => by
      show p ∣ redK p R v W i * ι (redK p R v W j) % p - _
      rw [Int.emod_def]
      generalize redK p R v W i * ι (redK p R v W j) = y
      generalize y / p = z
      exact ⟨-z, by rw [Int.mul_neg]; omega⟩
    have hone : p ∣ redK p R v W j * ι (redK p R v W j) - 1 := by
      have h1 : redK p R v W j * ι (redK p R v W j) % p = 1 := hq.one
      rw [Int.emod_def] at h1
      generalize redK p R v W j * ι (redK p R v W j) = y at h1 ⊢
      generalize y / p = z at h1
      exact ⟨z, by omega⟩
    generalize keptRow p ι (redK p R v W) j = q at hm
    generalize ι (redK p R v W j) = u at hm hone
    generalize redK p R v W j = c at hone
    generalize redK p R v W = rest at hin hm
    constructor
    · rintro ⟨t, ht⟩
      refine ⟨t * u, (ht.add (hin.smul (-(t * u)))).congr fun i => ?_⟩
      obtain ⟨z, hz⟩ := hm i
      show p ∣ x i - t * u * v i - (x i - t * q i + -(t * u) * (v i - rest i))
      have hqi : q i = rest i * u + p * z := by omega
      rw [hqi, Int.neg_mul, Int.mul_sub, Int.mul_add, ← Int.mul_assoc t p z, Int.mul_comm t p, Int.mul_assoc p t z, Int.mul_comm (rest i) u, ← Int.mul_assoc t u]
      exact ⟨t * z, by omega⟩
    · rintro ⟨t, ht⟩
      refine ⟨t * c, (ht.add (hin.smul t)).congr fun i => ?_⟩
      obtain ⟨z, hz⟩ := hm i
      obtain ⟨y, hy⟩ := hone
      show p ∣ x i - t * c * q i - (x i - t * v i + t * (v i - rest i))
      have hqi : q i = rest i * u + p * z := by omega
      have hcu : c * u = 1 + p * y := by omega
      have e : t * c * q i = t * rest i + p * (t * (y * rest i) + t * (c * z)) := by
        rw [hqi, Int.mul_assoc, Int.mul_add, Int.mul_comm (rest i) u, ← Int.mul_assoc c u, hcu, Int.add_mul, Int.one_mul, Int.mul_add, Int.mul_add]
        rw [← Int.mul_assoc c p z, Int.mul_comm c p, Int.mul_assoc p c z, ← Int.mul_assoc t p (c * z), Int.mul_comm t p, Int.mul_assoc p t]
        rw [Int.mul_assoc p y, ← Int.mul_assoc t p (y * rest i), Int.mul_comm t p, Int.mul_assoc p t, Int.mul_add]
        omega
      rw [e, Int.mul_sub]
      exact ⟨-(t * (y * rest i) + t * (c * z)), by rw [Int.mul_neg]; omega⟩

/-- In the span of kept rows and of a list. -/
def SpR (p : Int) (W : Nat) (R : Nat → Option (Nat → Int)) : List (Nat → Int) → (Nat → Int) → Prop
  | [], x => InR p W R x
  | v :: L, x => ∃ t, SpR p W R L (fun i => x i - t * v i)
theorem SpR.step {p : Int} (hp : 1 < p) {ι : Int → Int} (hι : InvF p ι) {W : Nat} {R : Nat → Option (Nat → Int)} (hE : Ech p W R) (hR : WideR W R) {v : Nat → Int} (hv : Wide W v) :
    ∀ (L : List (Nat → Int)) (x : Nat → Int), SpR p W (stepR p W ι R v) L x ↔ ∃ t, SpR p W R L (fun i => x i - t * v i)
  | [], x => step_span hp hι hE hR hv x
  | u :: L, x => by
    have ih := SpR.step hp hι hE hR hv L
    constructor
    · rintro ⟨s, hs⟩
      obtain ⟨t, ht⟩ := (ih _).1 hs
      refine ⟨t, s, ?_⟩
      have e : (fun i => x i - t * v i - s * u i) = fun i => x i - s * u i - t * v i := by funext i; omega
      rw [e]; exact ht
    · rintro ⟨t, s, hs⟩
      refine ⟨s, (ih _).2 ⟨t, ?_⟩⟩
      have e : (fun i => x i - s * u i - t * v i) = fun i => x i - t * v i - s * u i := by funext i; omega
      rw [e]; exact hs
/-- The elimination of a list. -/
def elimR (p : Int) (W : Nat) (ι : Int → Int) (L : List (Nat → Int)) : Nat → Option (Nat → Int) := L.foldl (stepR p W ι) fun _ => none
theorem elim_from {p : Int} (hp : 1 < p) {ι : Int → Int} (hι : InvF p ι) {W : Nat} : ∀ (L : List (Nat → Int)) (R : Nat → Option (Nat → Int)), (∀ v ∈ L, Wide W v) → Ech p W R → WideR W R →
    Ech p W (L.foldl (stepR p W ι) R) ∧ WideR W (L.foldl (stepR p W ι) R) ∧ ∀ x, InR p W (L.foldl (stepR p W ι) R) x ↔ SpR p W R L x
  | [], R, _, hE, hR => ⟨hE, hR, fun _ => Iff.rfl⟩
  | v :: L, R, hL, hE, hR => by
    have hv := hL v (by simp)
    have h := elim_from hp hι L (stepR p W ι R v) (fun u hu => hL u (List.mem_cons_of_mem _ hu)) (step_ech hp hι hE v) (step_wide hR hv)
    exact ⟨h.1, h.2.1, fun x => (h.2.2 x).trans (SpR.step hp hι hE hR hv L x)⟩
/-- In the span of a list. -/
def SpL (p : Int) : List (Nat → Int) → (Nat → Int) → Prop
  | [], x => ∀ i, p ∣ x i
  | v :: L, x => ∃ t, SpL p L (fun i => x i - t * v i)
theorem SpR_nil {p : Int} {W : Nat} : ∀ (L : List (Nat → Int)) (x : Nat → Int), SpR p W (fun _ => none) L x ↔ SpL p L x
  | [], x => by
    have hz : ∀ i (c : Nat → Int), sm (fun j => c j * rowAt (fun _ => none) j i) W = 0 := fun i c => sm_zero fun j _ => Int.mul_zero _
    constructor
    · rintro ⟨c, hc⟩ i
      have := hc i
      rwa [hz, Int.sub_zero] at this
    · exact fun h => ⟨fun _ => 0, fun i => by rw [hz, Int.sub_zero]; exact h i⟩
  | v :: L, x => by
    constructor
    · rintro ⟨t, ht⟩
      exact ⟨t, (SpR_nil L _).1 ht⟩
    · rintro ⟨t, ht⟩
      exact ⟨t, (SpR_nil L _).2 ht⟩
/-- THE ELIMINATION IS REDUCED AND HAS THE SPAN OF THE LIST. -/
theorem elim_ok {p : Int} (hp : 1 < p) {ι : Int → Int} (hι : InvF p ι) {W : Nat} (L : List (Nat → Int)) (hL : ∀ v ∈ L, Wide W v) :
    Ech p W (elimR p W ι L) ∧ WideR W (elimR p W ι L) ∧ ∀ x, InR p W (elimR p W ι L) x ↔ SpL p L x := by
  have h := elim_from hp hι L (fun _ => none) hL ⟨fun _ _ h => (by cases h), fun _ _ h => (by cases h), fun _ _ _ h => (by cases h), fun _ _ _ h => (by cases h), fun _ _ _ h => (by cases h)⟩ (fun _ _ h => by cases h)
  exact ⟨h.1, h.2.1, fun x => (h.2.2 x).trans (SpR_nil L x)⟩
/-- .. so that lists of one span have one elimination. -/
theorem elim_same {p : Int} (hp : 1 < p) {ι : Int → Int} (hι : InvF p ι) {W : Nat} {L M : List (Nat → Int)} (hL : ∀ v ∈ L, Wide W v) (hM : ∀ v ∈ M, Wide W v) (h : ∀ x, SpL p L x ↔ SpL p M x) : elimR p W ι L = elimR p W ι M := by
  have h1 := elim_ok hp hι L hL
  have h2 := elim_ok hp hι M hM
  exact Ech.unique hp h1.1 h2.1 fun v => (h1.2.2 v).trans ((h v).trans (h2.2.2 v).symm)
end Go.Proofs.Ytikggkahlpplpaa
