/- MATHEMATICS of the law of kernels and solutions: rows with marks, eliminated below their marks and with them. -/
import Derived.Test.YtinoomcboinokaaGreatLMeetM
import Derived.Test.YtinoomcboinokaaGreatLKernel
namespace Go.Proofs.YtinoomcboinokaaGreat

/-- Rows closed under combinations, modulo p. -/
structure SubP (p : Int) (P : (Nat → Int) → Prop) : Prop where
  zero : P fun _ => 0
  add : ∀ u v, P u → P v → P fun i => u i + v i
  smul : ∀ t u, P u → P fun i => t * u i
  congr : ∀ u v, P u → (∀ i, p ∣ v i - u i) → P v
def RowsP (P : (Nat → Int) → Prop) (R : Nat → Option (Nat → Int)) : Prop := ∀ j r, R j = some r → P r
theorem dvd_mod_sub (p a : Int) : p ∣ a % p - a := ⟨-(a / p), by rw [Int.emod_def, Int.mul_neg]; omega⟩
theorem SubP.sum {p : Int} {P : (Nat → Int) → Prop} (h : SubP p P) {R : Nat → Option (Nat → Int)} (hR : RowsP P R) (c : Nat → Int) : ∀ k, P fun i => sm (fun j => c j * rowAt R j i) k
  | 0 => h.zero
  | k + 1 => by
    show P fun i => sm (fun j => c j * rowAt R j i) k + c k * rowAt R k i
    refine h.add _ _ (SubP.sum h hR c k) ?_
    cases e : R k with
    | none => exact h.congr _ _ h.zero fun i => by rw [rowAt_none e, Int.mul_zero]; exact ⟨0, by simp⟩
    | some r =>
      have h1 : (fun i => c k * rowAt R k i) = fun i => c k * r i := by funext i; rw [rowAt_some e]
      rw [h1]; exact h.smul _ _ (hR _ _ e)
theorem SubP.red {p : Int} {P : (Nat → Int) → Prop} (h : SubP p P) {R : Nat → Option (Nat → Int)} (hR : RowsP P R) {v : Nat → Int} (hv : P v) (k : Nat) : P (redK p R v k) := by
  refine h.congr (fun i => v i + (-1) * sm (fun j => v j * rowAt R j i) k) _ (h.add _ _ hv (h.smul _ _ (h.sum hR v k))) fun i => ?_
  unfold redK
  generalize sm (fun j => v j * rowAt R j i) k = s
  have := dvd_mod_sub p (v i - s)
  rwa [show v i + -1 * s = v i - s by omega]
theorem SubP.keep {p : Int} {P : (Nat → Int) → Prop} (h : SubP p P) {R : Nat → Option (Nat → Int)} (hR : RowsP P R) {j : Nat} {q : Nat → Int} (hq : P q) : RowsP P (keepR p R j q) := fun k s hs => by
  rcases keepR_cases hs with ⟨_, rfl⟩ | ⟨_, r, hr, rfl⟩
  · exact hq
  · exact h.congr (fun i => r i + (p - r j) * q i) _ (h.add _ _ (hR _ _ hr) (h.smul _ _ hq)) fun i => dvd_mod_sub p _
theorem SubP.step {p : Int} {P : (Nat → Int) → Prop} (h : SubP p P) {R : Nat → Option (Nat → Int)} (hR : RowsP P R) {v : Nat → Int} (hv : P v) (W : Nat) (ι : Int → Int) : RowsP P (stepR p W ι R v) := by
  unfold stepR
  cases firstNZ (redK p R v W) W with
  | none => exact hR
  | some j =>
    refine h.keep hR (h.congr (fun i => ι (redK p R v W j) * redK p R v W i) _ (h.smul _ _ (h.red hR hv W)) fun i => ?_)
    show p ∣ redK p R v W i * ι (redK p R v W j) % p - ι (redK p R v W j) * redK p R v W i
    rw [Int.mul_comm (ι (redK p R v W j))]
    exact dvd_mod_sub _ _
theorem SubP.fold {p : Int} {P : (Nat → Int) → Prop} (h : SubP p P) (W : Nat) (ι : Int → Int) : ∀ (L : List (Nat → Int)) (R : Nat → Option (Nat → Int)), RowsP P R → (∀ v ∈ L, P v) → RowsP P (L.foldl (stepR p W ι) R)
  | [], _, hR, _ => hR
  | v :: L, _, hR, hL => SubP.fold h W ι L _ (h.step hR (hL v (by simp)) W ι) fun u hu => hL u (List.mem_cons_of_mem _ hu)
theorem SubP.elim {p : Int} {P : (Nat → Int) → Prop} (h : SubP p P) (W : Nat) (ι : Int → Int) {L : List (Nat → Int)} (hL : ∀ v ∈ L, P v) : RowsP P (elimR p W ι L) :=
  h.fold W ι L _ (fun _ _ h => by cases h) hL
theorem SubP.inR {p : Int} {P : (Nat → Int) → Prop} (h : SubP p P) {R : Nat → Option (Nat → Int)} (hR : RowsP P R) {W : Nat} {v : Nat → Int} (hv : InR p W R v) : P v :=
  InR.ind h.zero (fun u v hu e => h.congr u v hu e) (fun u _ _ r hu hr => h.add u _ hu (h.smul _ r (hR _ _ hr))) hv

/-- Each row, cut. -/
def trR (n : Nat) (R : Nat → Option (Nat → Int)) (k : Nat) : Option (Nat → Int) := (R k).map (trunc n)
theorem trR_row (n : Nat) (R : Nat → Option (Nat → Int)) (k i : Nat) : rowAt (trR n R) k i = if i < n then rowAt R k i else 0 := by
  cases e : R k with
  | none => rw [rowAt_none (show trR n R k = none by unfold trR; rw [e]; rfl), rowAt_none e]; split <;> rfl
  | some r => rw [rowAt_some (show trR n R k = some (trunc n r) by unfold trR; rw [e]; rfl), rowAt_some e]; rfl
theorem redK_tr (p : Int) {n k : Nat} (hk : k ≤ n) (R : Nat → Option (Nat → Int)) (v : Nat → Int) : redK p (trR n R) (trunc n v) k = trunc n (redK p R v k) := by
  funext i
  unfold redK
  by_cases hi : i < n
  · have h1 : sm (fun j => trunc n v j * rowAt (trR n R) j i) k = sm (fun j => v j * rowAt R j i) k := sm_congr fun j hj => by
      show trunc n v j * rowAt (trR n R) j i = v j * rowAt R j i
      rw [trR_row, if_pos hi]
      unfold trunc
      rw [if_pos (by omega)]
    rw [h1]
    unfold trunc
    rw [if_pos hi, if_pos hi]
  · have h1 : sm (fun j => trunc n v j * rowAt (trR n R) j i) k = 0 := sm_zero fun j hj => by
      show trunc n v j * rowAt (trR n R) j i = 0
      rw [trR_row, if_neg hi, Int.mul_zero]
    rw [h1]
    unfold trunc
    rw [if_neg hi, if_neg hi]
    exact Int.zero_emod p
theorem firstNZ_congr {f g : Nat → Int} {n : Nat} (h : ∀ i, i < n → f i = g i) : firstNZ f n = firstNZ g n := by
  cases e : firstNZ f n with
  | none => exact (firstNZ_all fun i hi => by rw [← h i hi]; exact firstNZ_none e i hi).symm
  | some j =>
    obtain ⟨h1, h2, h3⟩ := firstNZ_some e
    exact (firstNZ_is h1 (by rw [← h j h1]; exact h2) fun i hi => by rw [← h i (by omega)]; exact h3 i hi).symm
theorem step_tr (p : Int) (n : Nat) (ι : Int → Int) (R : Nat → Option (Nat → Int)) (v : Nat → Int) : stepR p n ι (trR n R) (trunc n v) = trR n (stepR p n ι R v) := by
  unfold stepR
  rw [redK_tr p (Nat.le_refl n)]
  rw [firstNZ_congr (f := trunc n (redK p R v n)) (g := redK p R v n) (fun i hi => by unfold trunc; rw [if_pos hi])]
  cases h : firstNZ (redK p R v n) n with
  | none => rfl
  | some j =>
    have hj := (firstNZ_some h).1
    generalize redK p R v n = rest
    have hkept : keptRow p ι (trunc n rest) j = trunc n (keptRow p ι rest j) := by
      funext i
      unfold keptRow trunc
      rw [if_pos hj]
      by_cases hi : i < n
      · rw [if_pos hi, if_pos hi]
      · rw [if_neg hi, if_neg hi, Int.zero_mul]; exact Int.zero_emod p
    show keepR p (trR n R) j (keptRow p ι (trunc n rest) j) = trR n (keepR p R j (keptRow p ι rest j))
    rw [hkept]
    generalize keptRow p ι rest j = q
    funext k
    unfold keepR trR
    dsimp only
    by_cases e : k = j
    · rw [if_pos e, if_pos e]; rfl
    · rw [if_neg e, if_neg e]
      cases R k with
      | none => rfl
      | some r =>
        show some _ = some _
        congr 1
        funext i
        unfold trunc
        dsimp only
        rw [if_pos hj]
        by_cases hi : i < n
        · rw [if_pos hi, if_pos hi, if_pos hi]
        · rw [if_neg hi, if_neg hi, if_neg hi, Int.mul_zero, Int.add_zero]; exact Int.zero_emod p
theorem fold_tr (p : Int) (n : Nat) (ι : Int → Int) : ∀ (L : List (Nat → Int)) (R : Nat → Option (Nat → Int)), (L.map (trunc n)).foldl (stepR p n ι) (trR n R) = trR n (L.foldl (stepR p n ι) R)
  | [], _ => rfl
  | v :: L, R => by
    rw [List.map_cons, List.foldl_cons, List.foldl_cons, step_tr]
    exact fold_tr p n ι L _
theorem elim_tr (p : Int) (n : Nat) (ι : Int → Int) (L : List (Nat → Int)) : elimR p n ι (L.map (trunc n)) = trR n (elimR p n ι L) := fold_tr p n ι L fun _ => none
theorem mark_cut (n m : Nat) (F : Nat → Nat → Int) (k : Nat) : (rowsL (n + m) (markF n F) k).map (trunc n) = rowsL n F k := by
  unfold rowsL
  rw [List.map_map]
  refine List.map_congr_left fun i _ => ?_
  funext j
  show trunc n (fun j => if j < n + m then markF n F i j else 0) j = if j < n then F i j else 0
  unfold trunc markF
  dsimp only
  by_cases h : j < n
  · rw [if_pos h, if_pos h, if_pos (by omega), if_pos h]
  · rw [if_neg h, if_neg h]
/-- The elimination below the marks is that of the rows, cut. -/
theorem mark_tr (p : Int) (n m : Nat) (ι : Int → Int) (F : Nat → Nat → Int) (k : Nat) : elimR p n ι (rowsL n F k) = trR n (elimR p n ι (rowsL (n + m) (markF n F) k)) := by
  rw [← mark_cut n m F k, elim_tr]

/-- What stands below the marks is what the marks say. -/
def MkP (p : Int) (n m : Nat) (F : Nat → Nat → Int) (x : Nat → Int) : Prop := ∀ j, j < n → p ∣ x j - sm (fun i => x (n + i) * F i j) m
theorem mk_sub (p : Int) (n m : Nat) (F : Nat → Nat → Int) : SubP p (MkP p n m F) := by
  refine ⟨fun j _ => ?_, fun u v hu hv j hj => ?_, fun t u hu j hj => ?_, fun u v hu e j hj => ?_⟩
  · rw [sm_zero fun i _ => Int.zero_mul _]; exact ⟨0, by simp⟩
  · have h1 : sm (fun i => (u (n + i) + v (n + i)) * F i j) m = sm (fun i => u (n + i) * F i j) m + sm (fun i => v (n + i) * F i j) m := by
      rw [sm_add]; exact sm_congr fun i _ => Int.add_mul _ _ _
    show p ∣ u j + v j - sm (fun i => (u (n + i) + v (n + i)) * F i j) m
    rw [h1]
    have := Int.dvd_add (hu j hj) (hv j hj)
    rwa [show u j - sm (fun i => u (n + i) * F i j) m + (v j - sm (fun i => v (n + i) * F i j) m) = u j + v j - (sm (fun i => u (n + i) * F i j) m + sm (fun i => v (n + i) * F i j) m) by omega] at this
  · have h1 : sm (fun i => t * u (n + i) * F i j) m = t * sm (fun i => u (n + i) * F i j) m := by
      rw [sm_mul]; exact sm_congr fun i _ => Int.mul_assoc _ _ _
    show p ∣ t * u j - sm (fun i => t * u (n + i) * F i j) m
    rw [h1, ← Int.mul_sub]
    exact Int.dvd_mul_of_dvd_right (hu j hj)
  · have h1 : p ∣ sm (fun i => u (n + i) * F i j) m - sm (fun i => v (n + i) * F i j) m := by
      rw [sm_sub]
      refine sm_dvd fun i _ => ?_
      show p ∣ u (n + i) * F i j - v (n + i) * F i j
      rw [← Int.sub_mul, show u (n + i) - v (n + i) = -(v (n + i) - u (n + i)) by omega]
      exact Int.dvd_mul_of_dvd_left (Int.dvd_neg.2 (e (n + i)))
    have := Int.dvd_add (Int.dvd_add (e j) (hu j hj)) h1
    rwa [show v j - u j + (u j - sm (fun i => u (n + i) * F i j) m) + (sm (fun i => u (n + i) * F i j) m - sm (fun i => v (n + i) * F i j) m) = v j - sm (fun i => v (n + i) * F i j) m by omega] at this
theorem mk_row (p : Int) {n m k : Nat} (hk : k < m) (F : Nat → Nat → Int) : MkP p n m F (fun j => if j < n + m then markF n F k j else 0) := fun j hj => by
  have h1 : sm (fun i => (if n + i < n + m then markF n F k (n + i) else 0) * F i j) m = F k j := by
    rw [sm_one (k := k) hk fun i hi hne => ?_]
    · show (if n + k < n + m then markF n F k (n + k) else 0) * F k j = F k j
      unfold markF
      rw [if_pos (by omega), if_neg (by omega), if_pos rfl, Int.one_mul]
    · show (if n + i < n + m then markF n F k (n + i) else 0) * F i j = 0
      unfold markF
      rw [if_pos (by omega), if_neg (by omega), if_neg (by omega), Int.zero_mul]
  show p ∣ (if j < n + m then markF n F k j else 0) - sm (fun i => (if n + i < n + m then markF n F k (n + i) else 0) * F i j) m
  rw [h1, if_pos (by omega)]
  unfold markF
  rw [if_pos hj, Int.sub_self]
  exact ⟨0, by simp⟩
theorem mk_rows (p : Int) (W n m : Nat) (ι : Int → Int) (F : Nat → Nat → Int) {k : Nat} (hk : k ≤ m) : RowsP (MkP p n m F) (elimR p W ι (rowsL (n + m) (markF n F) k)) := by
  refine (mk_sub p n m F).elim W ι fun v hv => ?_
  unfold rowsL at hv
  obtain ⟨i, hi, rfl⟩ := List.mem_map.1 hv
  exact mk_row p (by have := List.mem_range.1 hi; omega) F
/-- What is left of a right side, if nothing is left of it below the marks, says minus the solution. -/
theorem solve_map {p : Int} {n m : Nat} {ι : Int → Int} {F : Nat → Nat → Int} {b : Nat → Int} {rest : Nat → Int} (hr : rest = redK p (elimR p n ι (rowsL (n + m) (markF n F) m)) (catF n b fun _ => 0) n) (h0 : ∀ j, j < n → rest j = 0) {j : Nat} (hj : j < n) : p ∣ b j - sm (fun i => (-rest (n + i)) * F i j) m := by
  have h1 := (mk_sub p n m F).inR (mk_rows p n n m ι F (Nat.le_refl m)) (red_in (p := p) (W := n) (elimR p n ι (rowsL (n + m) (markF n F) m)) (catF n b fun _ => 0)) j hj
  rw [← hr] at h1
  have e1 : catF n b (fun _ => 0) j = b j := by unfold catF; rw [if_pos hj]
  have e2 : sm (fun i => (catF n b (fun _ => 0) (n + i) - rest (n + i)) * F i j) m = sm (fun i => (-rest (n + i)) * F i j) m := sm_congr fun i _ => by
    show (catF n b (fun _ => 0) (n + i) - rest (n + i)) * F i j = (-rest (n + i)) * F i j
    unfold catF
    rw [if_neg (by omega), Int.zero_sub]
  have h2 : p ∣ catF n b (fun _ => 0) j - rest j - sm (fun i => (catF n b (fun _ => 0) (n + i) - rest (n + i)) * F i j) m := h1
  rwa [e1, e2, h0 j hj, Int.sub_zero] at h2
/-- A row that is in the span of those before it. -/
def DropP (p : Int) (n : Nat) (ι : Int → Int) (F : Nat → Nat → Int) (i : Nat) : Prop := inB p n (elimR p n ι (rowsL n F i)) (F i) = true
theorem drop_iff (p : Int) (n m : Nat) (ι : Int → Int) (F : Nat → Nat → Int) (k : Nat) : DropP p n ι F k ↔ firstNZ (redK p (elimR p n ι (rowsL (n + m) (markF n F) k)) (fun j => if j < n + m then markF n F k j else 0) n) n = none := by
  unfold DropP inB
  have e : wideF n (F k) = trunc n (fun j => if j < n + m then markF n F k j else 0) := by
    funext j
    unfold wideF trunc markF
    dsimp only
    by_cases h : j < n
    · rw [if_pos h, if_pos h, if_pos (by omega), if_pos h]
    · rw [if_neg h, if_neg h]
  rw [mark_tr p n m ι F k, e, redK_tr p (Nat.le_refl n), firstNZ_congr (g := redK p (elimR p n ι (rowsL (n + m) (markF n F) k)) (fun j => if j < n + m then markF n F k j else 0) n) (fun i hi => by unfold trunc; rw [if_pos hi])]
  cases firstNZ (redK p (elimR p n ι (rowsL (n + m) (markF n F) k)) (fun j => if j < n + m then markF n F k j else 0) n) n <;> simp
def OffP (p : Int) (n : Nat) (D : Nat → Prop) (x : Nat → Int) : Prop := ∀ i, D i → p ∣ x (n + i)
theorem off_sub (p : Int) (n : Nat) (D : Nat → Prop) : SubP p (OffP p n D) := by
  refine ⟨fun _ _ => ⟨0, by simp⟩, fun u v hu hv i hi => Int.dvd_add (hu i hi) (hv i hi), fun t u hu i hi => Int.dvd_mul_of_dvd_right (hu i hi), fun u v hu e i hi => ?_⟩
  have := Int.dvd_add (e (n + i)) (hu i hi)
  rwa [show v (n + i) - u (n + i) + u (n + i) = v (n + i) by omega] at this
/-- No kept row has a mark of a row that was left out, or that is still to come. -/
theorem drop_zero (p : Int) (n m : Nat) (ι : Int → Int) (F : Nat → Nat → Int) : ∀ k, k ≤ m → RowsP (OffP p n fun i => i < k → DropP p n ι F i) (elimR p n ι (rowsL (n + m) (markF n F) k))
  | 0, _ => fun _ _ h => by cases h
  | k + 1, hk => by
    have ih := drop_zero p n m ι F k (by omega)
    rw [elimR_succ]
    by_cases hd : DropP p n ι F k
    · have h1 := (drop_iff p n m ι F k).1 hd
      have h2 : stepR p n ι (elimR p n ι (rowsL (n + m) (markF n F) k)) (fun j => if j < n + m then markF n F k j else 0) = elimR p n ι (rowsL (n + m) (markF n F) k) := by
        unfold stepR
        rw [h1]
      rw [h2]
      exact fun j r hr i hi => ih j r hr i fun h => hi (by omega)
    · refine (off_sub p n _).step (fun j r hr i hi => ih j r hr i fun h => hi (by omega)) (fun i hi => ?_) n ι
      have hne : i ≠ k := fun e => hd (e ▸ hi (by omega))
      show p ∣ if n + i < n + m then markF n F k (n + i) else 0
      split
      · unfold markF
        rw [if_neg (by omega), if_neg (by omega)]
        exact ⟨0, by simp⟩
      · exact ⟨0, by simp⟩
theorem solve_drop {p : Int} (hp : 1 < p) {n m : Nat} {ι : Int → Int} {F : Nat → Nat → Int} {b : Nat → Int} {i : Nat} (hd : DropP p n ι F i) : redK p (elimR p n ι (rowsL (n + m) (markF n F) m)) (catF n b fun _ => 0) n (n + i) = 0 := by
  have h1 : OffP p n (fun k => k = i) (redK p (elimR p n ι (rowsL (n + m) (markF n F) m)) (catF n b fun _ => 0) n) := by
    refine (off_sub p n _).red (fun j r hr k hk => ?_) (fun k hk => ?_) n
    · subst hk
      exact drop_zero p n m ι F m (Nat.le_refl m) j r hr k fun _ => hd
    · show p ∣ catF n b (fun _ => 0) (n + k)
      unfold catF
      rw [if_neg (by omega)]
      exact ⟨0, by simp⟩
  have h2 := h1 i rfl
  have h3 := redK_low hp (elimR p n ι (rowsL (n + m) (markF n F) m)) (catF n b fun _ => 0) n (n + i)
  have h4 := Int.emod_eq_zero_of_dvd h2
  rwa [Int.emod_eq_of_lt h3.1 h3.2] at h4
/-- Nothing is left below the marks if and only if the right side is in the span. -/
theorem solve_in (p : Int) (n m : Nat) (ι : Int → Int) (F : Nat → Nat → Int) (b : Nat → Int) : inB p n (elimR p n ι (rowsL n F m)) b = !(firstNZ (redK p (elimR p n ι (rowsL (n + m) (markF n F) m)) (catF n b fun _ => 0) n) n).isSome := by
  unfold inB
  have e : wideF n b = trunc n (catF n b fun _ => 0) := by
    funext j
    unfold wideF trunc catF
    dsimp only
    by_cases h : j < n
    · rw [if_pos h, if_pos h]
    · rw [if_neg h, if_neg h]
  rw [mark_tr p n m ι F m, e, redK_tr p (Nat.le_refl n), firstNZ_congr (f := trunc n _) (g := redK p (elimR p n ι (rowsL (n + m) (markF n F) m)) (catF n b fun _ => 0) n) (fun i hi => by unfold trunc; rw [if_pos hi])]

/-- Marked rows are independent. -/
theorem mark_len {p : Int} (hp : 1 < p) {ι : Int → Int} (hι : InvF p ι) (n m : Nat) (F : Nat → Nat → Int) : ∀ k, k ≤ m → (pivL (n + m) (elimR p (n + m) ι (rowsL (n + m) (markF n F) k))).length = k
  | 0, _ => by
    show (pivL (n + m) fun _ => none).length = 0
    rw [pivL_nil]; rfl
  | k + 1, hk => by
    have ih := mark_len hp hι n m F k (by omega)
    have hE := elimR_ech hp hι (n + m) (rowsL (n + m) (markF n F) k)
    rw [elimR_succ, step_len hp hι hE, ih, if_neg]
    intro hn
    have h1 := firstNZ_none hn (n + k) (by omega)
    have hoff : RowsP (OffP p n fun i => k ≤ i) (elimR p (n + m) ι (rowsL (n + m) (markF n F) k)) := by
      refine (off_sub p n _).elim _ ι fun v hv i hi => ?_
      unfold rowsL at hv
      obtain ⟨l, hl, rfl⟩ := List.mem_map.1 hv
      have := List.mem_range.1 hl
      show p ∣ if n + i < n + m then markF n F l (n + i) else 0
      split
      · unfold markF
        rw [if_neg (by omega), if_neg (by omega)]
        exact ⟨0, by simp⟩
      · exact ⟨0, by simp⟩
    unfold redK at h1
    have hs : p ∣ sm (fun j => (if j < n + m then markF n F k j else 0) * rowAt (elimR p (n + m) ι (rowsL (n + m) (markF n F) k)) j (n + k)) (n + m) := sm_dvd fun j _ => by
      refine Int.dvd_mul_of_dvd_right ?_
      cases e : elimR p (n + m) ι (rowsL (n + m) (markF n F) k) j with
      | none => rw [rowAt_none e]; exact ⟨0, by simp⟩
      | some r => rw [rowAt_some e]; exact hoff j r e k (Nat.le_refl k)
    have h2 := Int.dvd_of_emod_eq_zero h1
    have h3 := Int.dvd_add h2 hs
    rw [Int.sub_add_cancel] at h3
    dsimp only at h3
    rw [if_pos (by omega)] at h3
    unfold markF at h3
    rw [if_neg (by omega), if_pos rfl] at h3
    have := Int.le_of_dvd (by omega) h3
    omega
theorem SpL.trunc {p : Int} {n : Nat} : ∀ {L : List (Nat → Int)} {x : Nat → Int}, SpL p (L.map (trunc n)) x ↔ ∃ y, SpL p L y ∧ ∀ i, p ∣ x i - Go.Proofs.YtinoomcboinokaaGreat.trunc n y i
  | [], x => by
    constructor
    · intro h
      refine ⟨fun _ => 0, fun _ => ⟨0, by simp⟩, fun i => ?_⟩
      have : Go.Proofs.YtinoomcboinokaaGreat.trunc n (fun _ => 0) i = 0 := by unfold Go.Proofs.YtinoomcboinokaaGreat.trunc; split <;> rfl
      rw [this, Int.sub_zero]
      exact h i
    · rintro ⟨y, hy, h⟩ i
      have h1 : p ∣ Go.Proofs.YtinoomcboinokaaGreat.trunc n y i := by
        unfold Go.Proofs.YtinoomcboinokaaGreat.trunc
        split
        · exact hy i
        · exact ⟨0, by simp⟩
      have := Int.dvd_add (h i) h1
      rwa [Int.sub_add_cancel] at this
  | v :: L, x => by
    have e : ∀ (y : Nat → Int) t i, Go.Proofs.YtinoomcboinokaaGreat.trunc n (fun i => y i + t * v i) i = Go.Proofs.YtinoomcboinokaaGreat.trunc n y i + t * Go.Proofs.YtinoomcboinokaaGreat.trunc n v i := fun y t i => by
      unfold Go.Proofs.YtinoomcboinokaaGreat.trunc
      split
      · rfl
      · rw [Int.mul_zero]; rfl
    constructor
    · rintro ⟨t, ht⟩
      obtain ⟨y, hy, h⟩ := SpL.trunc.1 ht
      refine ⟨fun i => y i + t * v i, ⟨t, hy.congr fun i => ⟨0, by show y i + t * v i - t * v i - y i = p * 0; omega⟩⟩, fun i => ?_⟩
      rw [e]
      have := h i
      rwa [show x i - t * Go.Proofs.YtinoomcboinokaaGreat.trunc n v i - Go.Proofs.YtinoomcboinokaaGreat.trunc n y i = x i - (Go.Proofs.YtinoomcboinokaaGreat.trunc n y i + t * Go.Proofs.YtinoomcboinokaaGreat.trunc n v i) by omega] at this
    · rintro ⟨y, ⟨t, ht⟩, h⟩
      refine ⟨t, SpL.trunc.2 ⟨_, ht, fun i => ?_⟩⟩
      have h1 := e (fun i => y i - t * v i) t i
      have h2 : (fun i => y i - t * v i + t * v i) = y := by funext i; omega
      rw [h2] at h1
      have h3 := h i
      rw [h1] at h3
      show p ∣ x i - t * Go.Proofs.YtinoomcboinokaaGreat.trunc n v i - _
      rwa [show x i - (Go.Proofs.YtinoomcboinokaaGreat.trunc n (fun i => y i - t * v i) i + t * Go.Proofs.YtinoomcboinokaaGreat.trunc n v i) = x i - t * Go.Proofs.YtinoomcboinokaaGreat.trunc n v i - Go.Proofs.YtinoomcboinokaaGreat.trunc n (fun i => y i - t * v i) i by omega] at h3
theorem mark_wide (n m : Nat) (F : Nat → Nat → Int) (k : Nat) : ∀ v ∈ rowsL (n + m) (markF n F) k, Wide (n + m) v := rowsL_wide _ _ _
/-- The pivots below the marks are those of the rows. -/
theorem ker_pre {p : Int} (hp : 1 < p) {ι : Int → Int} (hι : InvF p ι) (n m : Nat) (F : Nat → Nat → Int) (k : Nat) : preR n (elimR p (n + m) ι (rowsL (n + m) (markF n F) k)) = elimR p n ι (rowsL n F k) := by
  obtain ⟨hE, _, hR⟩ := elim_ok hp hι (rowsL (n + m) (markF n F) k) (mark_wide n m F k)
  obtain ⟨h1, _, h3⟩ := elim_ok hp hι (rowsL n F k) (rowsL_wide n F k)
  refine Ech.unique hp (pre_ech hp hE) h1 fun v => (pre_span hp hE v).trans (Iff.trans ?_ (h3 v).symm)
  rw [← mark_cut n m F k]
  refine Iff.trans ?_ SpL.trunc.symm
  exact ⟨fun ⟨y, hy, h⟩ => ⟨y, (hR y).1 hy, h⟩, fun ⟨y, hy, h⟩ => ⟨y, (hR y).2 hy, h⟩⟩
theorem ker_rank {p : Int} (hp : 1 < p) {ι : Int → Int} (hι : InvF p ι) (n m : Nat) (F : Nat → Nat → Int) : (pivL m (afterR n (elimR p (n + m) ι (rowsL (n + m) (markF n F) m)))).length + (pivL n (elimR p n ι (rowsL n F m))).length = m := by
  have h1 := pivL_split n m (elimR p (n + m) ι (rowsL (n + m) (markF n F) m))
  rw [mark_len hp hι n m F m (Nat.le_refl m), ker_pre hp hι] at h1
  omega
theorem ker_filter (n m : Nat) (R : Nat → Option (Nat → Int)) : kerL n m R = (pivL m (afterR n R)).map (n + ·) := by
  unfold kerL pivL
  rw [List.range_add, List.filter_append, List.filter_append, List.filter_map, List.filter_map]
  have h1 : List.filter (fun j => decide (n ≤ j)) (List.filter (fun k => (R k).isSome) (List.range n)) = [] := by
    rw [List.filter_eq_nil_iff]
    intro j hj
    have := List.mem_range.1 (List.mem_filter.1 hj).1
    simp; omega
  rw [h1, List.nil_append]
  congr 1
  rw [List.filter_filter]
  apply List.filter_congr
  intro k _
  simp only [Function.comp, afterR, Option.isSome_map]
  simp
theorem ker_len (n m : Nat) (R : Nat → Option (Nat → Int)) : (kerL n m R).length = (pivL m (afterR n R)).length := by rw [ker_filter, List.length_map]
theorem ker_bas {n m : Nat} {R : Nat → Option (Nat → Int)} {i : Nat} (hi : i < (kerL n m R).length) (x : Nat) : rowAt R ((kerL n m R).getD i 0) (n + x) = basF m (afterR n R) i x := by
  rw [ker_len] at hi
  unfold basF
  rw [rowAt_after, ker_filter]
  congr 1
  simp only [List.getD_eq_getElem?_getD, List.getElem?_map, List.getElem?_eq_getElem hi, Option.map_some, Option.getD_some]
/-- A row of the kernel is mapped to zero. -/
theorem ker_zero {p : Int} (hp : 1 < p) {ι : Int → Int} (hι : InvF p ι) (n m : Nat) (F : Nat → Nat → Int) {i : Nat} (hi : i < (pivL m (afterR n (elimR p (n + m) ι (rowsL (n + m) (markF n F) m)))).length) {j : Nat} (hj : j < n) : p ∣ sm (fun x => basF m (afterR n (elimR p (n + m) ι (rowsL (n + m) (markF n F) m))) i x * F x j) m := by
  have hE := elimR_ech hp hι (n + m) (rowsL (n + m) (markF n F) m)
  obtain ⟨s, hs⟩ := piv_some (after_ech hE) hi
  obtain ⟨r, hr, e⟩ := afterR_some hs
  have h1 := mk_rows p (n + m) n m ι F (Nat.le_refl m) _ r hr j hj
  rw [hE.lead _ r j hr (by omega), Int.zero_sub] at h1
  have h2 := Int.dvd_neg.1 h1
  have h3 : sm (fun x => basF m (afterR n (elimR p (n + m) ι (rowsL (n + m) (markF n F) m))) i x * F x j) m = sm (fun x => r (n + x) * F x j) m := sm_congr fun x _ => by
    show basF m _ i x * F x j = r (n + x) * F x j
    unfold basF
    rw [rowAt_some hs, e]
  rwa [h3]
end Go.Proofs.YtinoomcboinokaaGreat
