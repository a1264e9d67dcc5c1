/- Decimal texts: products and quotients, digit by digit; plain lists, no program. -/
import Derived.KernelRfl
namespace Go.Proofs.YtpchomhfpfpckaaDoor

/-- The value of a digit, and of a text. -/
def dv (b : UInt8) : Nat := b.toNat - 48
def val (l : List UInt8) : Nat := l.foldl (fun v b => 10 * v + dv b) 0
theorem val_snoc (l : List UInt8) (b : UInt8) : val (l ++ [b]) = 10 * val l + dv b := by simp [val]
theorem val_cons (b : UInt8) (l : List UInt8) : val (b :: l) = dv b * 10 ^ l.length + val l := by
  have h : ∀ (l : List UInt8) (v : Nat), l.foldl (fun v b => 10 * v + dv b) v = v * 10 ^ l.length + l.foldl (fun v b => 10 * v + dv b) 0 := by
    intro l
    induction l with
    | nil => intro v; simp
    | cons c l ih =>
      intro v
      simp only [List.foldl_cons, List.length_cons]
      rw [ih (10 * v + dv c), ih (10 * 0 + dv c), Nat.pow_succ, Nat.add_mul, Nat.add_mul]
      have : 10 * v * 10 ^ l.length = v * (10 ^ l.length * 10) := by rw [Nat.mul_comm 10 v, Nat.mul_assoc, Nat.mul_comm 10]
      omega
  unfold val
  simp only [List.foldl_cons]
  rw [h l (10 * 0 + dv b)]
  simp
/-- Digits only. -/
def AllDig (l : List UInt8) : Prop := ∀ b ∈ l, 48 ≤ b.toNat ∧ b.toNat ≤ 57
/-- No leading zero (the empty text is let in). -/
def NoZero (l : List UInt8) : Prop := ∀ b, l.head? = some b → b ≠ 48
theorem dv_lt {b : UInt8} (h : 48 ≤ b.toNat ∧ b.toNat ≤ 57) : dv b ≤ 9 := by unfold dv; omega
theorem dv_pos {b : UInt8} (h : 48 ≤ b.toNat ∧ b.toNat ≤ 57) (h0 : b ≠ 48) : 1 ≤ dv b := by
  unfold dv
  have : b.toNat ≠ 48 := fun e => h0 (UInt8.toNat_inj.1 (by rw [e]; rfl))
  omega
theorem val_pos {l : List UInt8} (hd : AllDig l) (hz : NoZero l) (hne : l ≠ []) : 1 ≤ val l := by
  cases l with
  | nil => exact absurd rfl hne
  | cons b l =>
    have h1 := dv_pos (hd b (List.mem_cons_self ..)) (hz b rfl)
    have h2 : 1 ≤ 10 ^ l.length := Nat.pow_pos (by decide)
    rw [val_cons]
    have := Nat.mul_le_mul h1 h2
    omega
theorem AllDig.init {l : List UInt8} {b : UInt8} (h : AllDig (l ++ [b])) : AllDig l := fun c hc => h c (List.mem_append_left _ hc)
theorem NoZero.init {l : List UInt8} {b : UInt8} (h : NoZero (l ++ [b])) : NoZero l := fun c hc => by
  cases l with
  | nil => cases hc
  | cons d l => exact h c (by simpa using hc)
/-- A number has one decimal text. -/
theorem val_inj : ∀ (n : Nat) (l m : List UInt8), l.length = n → AllDig l → NoZero l → AllDig m → NoZero m → val l = val m → l = m := by
  intro n
  induction n with
  | zero =>
    intro l m hl _ _ hm hz he
    have : l = [] := List.eq_nil_of_length_eq_zero hl
    subst this
    by_cases h : m = []
    · exact h.symm
    · have := val_pos hm hz h
      rw [← he] at this; simp [val] at this
  | succ n ih =>
    intro l m hl hd hz hm hzm he
    have hne : l ≠ [] := fun e => by subst e; simp at hl
    have hp := val_pos hd hz hne
    have hme : m ≠ [] := fun e => by subst e; rw [he] at hp; simp [val] at hp
    obtain ⟨l', b, rfl⟩ : ∃ l' b, l = l' ++ [b] := ⟨l.dropLast, l.getLast hne, (List.dropLast_concat_getLast hne).symm⟩
    obtain ⟨m', c, rfl⟩ : ∃ l' b, m = l' ++ [b] := ⟨m.dropLast, m.getLast hme, (List.dropLast_concat_getLast hme).symm⟩
    rw [val_snoc, val_snoc] at he
    have hb := hd b (by simp)
    have hc := hm c (by simp)
    have h1 := dv_lt hb
    have h2 := dv_lt hc
    have hv : val l' = val m' := by omega
    have hbc : dv b = dv c := by omega
    have hb' : b = c := UInt8.toNat_inj.1 (by unfold dv at hbc; omega)
    subst hb'
    rw [ih l' m' (by simpa using hl) hd.init hz.init hm.init hzm.init hv]

/-- The digit that a round of the product writes: the carry before it, and the r-th digit from the end. -/
def carryIn (l : List UInt8) (n : Nat) (r c : Nat) : Nat := c + if r < l.length then dv (l.getD (l.length - 1 - r) 48) * n else 0
def digB (c : Nat) : UInt8 := UInt8.ofNat (48 + c % 10)
theorem digB_nat (c : Nat) : (digB c).toNat = 48 + c % 10 := by
  unfold digB
  rw [UInt8.toNat_ofNat']
  omega
theorem dv_digB (c : Nat) : dv (digB c) = c % 10 := by unfold dv; rw [digB_nat]; omega
def runT (l : List UInt8) (n : Nat) : Nat → Nat → List UInt8 → Nat → List UInt8
  | 0, _, out, _ => out
  | f + 1, r, out, c => if r < l.length ∨ 0 < c then runT l n f (r + 1) (digB (carryIn l n r c) :: out) (carryIn l n r c / 10) else out
def prod (l : List UInt8) (n : Nat) : List UInt8 := runT l n 400 0 [] 0

/-- What is known behind r rounds. -/
structure AtT (l : List UInt8) (n r : Nat) (out : List UInt8) (c : Nat) : Prop where
  run : runT l n (400 - r) r out c = prod l n
  len : out.length = r
  low : c * 10 ^ (r - l.length) < n
  eq : (val (l.take (l.length - r)) * n + c) * 10 ^ r + val out = val l * n
  dig : AllDig out
  top : l.length ≤ r → c = 0 → NoZero out

theorem AtT.start (l : List UInt8) {n : Nat} (hn : 1 ≤ n) (hne : l ≠ []) : AtT l n 0 [] 0 :=
  ⟨rfl, rfl, by simp; omega, by simp [val], fun b h => by simp at h, fun h => absurd (List.eq_nil_of_length_eq_zero (by omega)) hne⟩
theorem AtT.small {l : List UInt8} {n r : Nat} {out : List UInt8} {c : Nat} (h : AtT l n r out c) (hn : n ≤ 1000000000) (hl : l.length ≤ 200) (hgo : r < l.length ∨ 0 < c) : r ≤ 300 ∧ c < 1000000000 := by
  have hp : 1 ≤ 10 ^ (r - l.length) := Nat.pow_pos (by decide)
  have hlow := h.low
  have hc : c ≤ c * 10 ^ (r - l.length) := Nat.le_mul_of_pos_right c hp
  refine ⟨?_, by omega⟩
  rcases hgo with hgo | hgo
  · omega
  · rcases Nat.lt_or_ge 300 r with h3 | h3
    · have h4 : 10 ^ 9 ≤ 10 ^ (r - l.length) := Nat.pow_le_pow_right (by decide) (by omega)
      have h5 : 10 ^ (r - l.length) ≤ c * 10 ^ (r - l.length) := Nat.le_mul_of_pos_left _ hgo
      omega
    · exact h3
theorem take_step {l : List UInt8} {r : Nat} (h : r < l.length) : val (l.take (l.length - r)) = 10 * val (l.take (l.length - (r + 1))) + dv (l.getD (l.length - 1 - r) 48) := by
  have e : l.length - r = (l.length - (r + 1)) + 1 := by omega
  have hlt : l.length - (r + 1) < l.length := by omega
  rw [e, List.take_succ_eq_append_getElem hlt, val_snoc]
  congr 2
  rw [List.getD_eq_getElem?_getD, show l.length - 1 - r = l.length - (r + 1) by omega, List.getElem?_eq_getElem hlt]
  rfl
theorem AtT.carry {l : List UInt8} {n r : Nat} {out : List UInt8} {c : Nat} (h : AtT l n r out c) (hd : AllDig l) : c < n ∧ carryIn l n r c < 10 * n := by
  have hp : 1 ≤ 10 ^ (r - l.length) := Nat.pow_pos (by decide)
  have hlow := h.low
  have hc : c ≤ c * 10 ^ (r - l.length) := Nat.le_mul_of_pos_right c hp
  refine ⟨by omega, ?_⟩
  unfold carryIn
  by_cases hr : r < l.length
  · rw [if_pos hr]
    have h9 : dv (l.getD (l.length - 1 - r) 48) ≤ 9 := by
      have hlt : l.length - 1 - r < l.length := by omega
      rw [List.getD_eq_getElem?_getD, List.getElem?_eq_getElem hlt]
      exact dv_lt (hd _ (List.getElem_mem hlt))
    have := Nat.mul_le_mul_right n h9
    omega
  · rw [if_neg hr]; omega
theorem AtT.step {l : List UInt8} {n r : Nat} {out : List UInt8} {c : Nat} (h : AtT l n r out c) (hd : AllDig l) (hz : NoZero l) (hn1 : 1 ≤ n) (hn : n ≤ 1000000000) (hl : l.length ≤ 200) (hgo : r < l.length ∨ 0 < c) :
    AtT l n (r + 1) (digB (carryIn l n r c) :: out) (carryIn l n r c / 10) := by
  have hsm := h.small hn hl hgo
  have hcar := h.carry hd
  refine ⟨?_, by simp [h.len], ?_, ?_, ?_, ?_⟩
  · rw [← h.run, show 400 - r = (400 - (r + 1)) + 1 by omega, runT, if_pos hgo]
  · by_cases hr : r < l.length
    · rw [show r + 1 - l.length = 0 by omega]; omega
    · have e : r + 1 - l.length = (r - l.length) + 1 := by omega
      have hlow := h.low
      have hci : carryIn l n r c = c := by unfold carryIn; rw [if_neg hr, Nat.add_zero]
      rw [hci, e, Nat.pow_succ]
      have h1 : c / 10 * 10 ≤ c := Nat.div_mul_le_self c 10
      have h2 : c / 10 * (10 ^ (r - l.length) * 10) = (c / 10 * 10) * 10 ^ (r - l.length) := by rw [Nat.mul_comm (10 ^ (r - l.length)) 10, ← Nat.mul_assoc]
      rw [h2]
      exact Nat.lt_of_le_of_lt (Nat.mul_le_mul_right _ h1) hlow
  · rw [val_cons, dv_digB, h.len, ← h.eq]
    have key : val (l.take (l.length - r)) * n + c = 10 * (val (l.take (l.length - (r + 1))) * n) + carryIn l n r c := by
      unfold carryIn
      by_cases hr : r < l.length
      · rw [take_step hr, if_pos hr, Nat.add_mul, Nat.mul_assoc]; omega
      · rw [if_neg hr, show l.length - r = 0 by omega, show l.length - (r + 1) = 0 by omega]; simp [val]
    rw [key]
    generalize carryIn l n r c = k
    generalize val (l.take (l.length - (r + 1))) * n = v
    have hk : k = 10 * (k / 10) + k % 10 := (Nat.div_add_mod k 10).symm
    rw [Nat.pow_succ]
    have e1 : (v + k / 10) * (10 ^ r * 10) = (10 * (v + k / 10)) * 10 ^ r := by rw [Nat.mul_comm (10 ^ r) 10, ← Nat.mul_assoc, Nat.mul_comm (v + k / 10) 10]
    have e2 : (10 * v + k) * 10 ^ r = (10 * (v + k / 10)) * 10 ^ r + k % 10 * 10 ^ r := by rw [← Nat.add_mul]; congr 1; omega
    omega
  · intro b hb
    rcases List.mem_cons.1 hb with rfl | hb
    · rw [digB_nat]; omega
    · exact h.dig b hb
  · intro hr hc0 b hb
    have hb' : digB (carryIn l n r c) = b := by simpa using hb
    have hlt : carryIn l n r c < 10 := by omega
    have hpos : 1 ≤ carryIn l n r c := by
      unfold carryIn
      rcases Nat.lt_or_ge r l.length with hr' | hr'
      · rw [if_pos hr']
        have e0 : l.length - 1 - r = 0 := by omega
        rw [e0]
        cases l with
        | nil => simp at hr'
        | cons a l =>
          have h1 := dv_pos (hd a (List.mem_cons_self ..)) (hz a rfl)
          have := Nat.mul_le_mul h1 hn1
          simp at this ⊢
          omega
      · rcases hgo with hgo | hgo
        · omega
        · omega
    intro e
    rw [← hb'] at e
    have := congrArg UInt8.toNat e
    rw [digB_nat] at this
    simp at this
    omega
theorem AtT.done {l : List UInt8} {n r : Nat} {out : List UInt8} {c : Nat} (h : AtT l n r out c) (hno : ¬ (r < l.length ∨ 0 < c)) : prod l n = out ∧ val out = val l * n ∧ AllDig out ∧ NoZero out := by
  have hr : l.length ≤ r := by omega
  have hc : c = 0 := by omega
  refine ⟨?_, ?_, h.dig, h.top hr hc⟩
  · rw [← h.run]
    cases 400 - r with
    | zero => rfl
    | succ f => rw [runT, if_neg hno]
  · have := h.eq
    rw [show l.length - r = 0 by omega, hc] at this
    simpa [val] using this
theorem runT_len (l : List UInt8) (n : Nat) : ∀ (f r : Nat) (out : List UInt8) (c : Nat), out.length ≤ (runT l n f r out c).length := by
  intro f
  induction f with
  | zero => intro r out c; exact Nat.le_refl _
  | succ f ih =>
    intro r out c
    rw [runT]
    by_cases h : r < l.length ∨ 0 < c
    · rw [if_pos h]
      have := ih (r + 1) (digB (carryIn l n r c) :: out) (carryIn l n r c / 10)
      simp at this
      omega
    · rw [if_neg h]; exact Nat.le_refl _
/-- Where the loop goes on behind 200 rounds, the product is too long. -/
theorem AtT.over {l : List UInt8} {n : Nat} {out : List UInt8} {c : Nat} (h : AtT l n 200 out c) (hgo : 200 < l.length ∨ 0 < c) : 200 < (prod l n).length := by
  rw [← h.run, show 400 - 200 = 199 + 1 by omega, runT, if_pos hgo]
  have := runT_len l n 199 201 (digB (carryIn l n 200 c) :: out) (carryIn l n 200 c / 10)
  have := h.len
  simp at *
  omega

/-- A step of the long division. -/
def ratStep (n : Nat) (s : List UInt8 × Nat) (b : UInt8) : List UInt8 × Nat :=
  (if s.1 ≠ [] ∨ n ≤ 10 * s.2 + dv b then s.1 ++ [UInt8.ofNat (48 + (10 * s.2 + dv b) / n)] else s.1, (10 * s.2 + dv b) % n)
def rat (l : List UInt8) (n : Nat) : List UInt8 × Nat := l.foldl (ratStep n) ([], 0)
theorem rat_snoc (l : List UInt8) (n : Nat) (b : UInt8) : rat (l ++ [b]) n = ratStep n (rat l n) b := by simp [rat]
structure RatOk (l : List UInt8) (n : Nat) (s : List UInt8 × Nat) : Prop where
  lt : s.2 < n
  eq : val s.1 * n + s.2 = val l
  dig : AllDig s.1
  top : NoZero s.1
theorem RatOk.start {n : Nat} (hn : 1 ≤ n) : RatOk [] n ([], 0) := ⟨by simp; omega, by simp [val], fun b h => by simp at h, fun b h => by simp at h⟩
theorem RatOk.quot {l : List UInt8} {n : Nat} {s : List UInt8 × Nat} (h : RatOk l n s) {b : UInt8} (hb : 48 ≤ b.toNat ∧ b.toNat ≤ 57) : (10 * s.2 + dv b) / n ≤ 9 ∧ (n ≤ 10 * s.2 + dv b ↔ 0 < (10 * s.2 + dv b) / n) := by
  have h1 := h.lt
  have h2 := dv_lt hb
  have hn : 0 < n := by omega
  refine ⟨?_, ?_⟩
  · have : (10 * s.2 + dv b) / n < 10 := (Nat.div_lt_iff_lt_mul hn).2 (by omega)
    omega
  · rw [Nat.div_pos_iff]; omega
theorem RatOk.step {l : List UInt8} {n : Nat} {s : List UInt8 × Nat} (h : RatOk l n s) {b : UInt8} (hb : 48 ≤ b.toNat ∧ b.toNat ≤ 57) : RatOk (l ++ [b]) n (ratStep n s b) := by
  obtain ⟨hq9, hq0⟩ := h.quot hb
  have h1 := h.lt
  have hn : 0 < n := by omega
  have hnat' : ∀ q, q ≤ 9 → (UInt8.ofNat (48 + q)).toNat = 48 + q := fun q hq => by rw [UInt8.toNat_ofNat']; omega
  have hdm := Nat.div_add_mod (10 * s.2 + dv b) n
  unfold ratStep
  by_cases hc : s.1 ≠ [] ∨ n ≤ 10 * s.2 + dv b
  · rw [if_pos hc]
    have hml : (10 * s.2 + dv b) % n < n := Nat.mod_lt _ hn
    generalize hk : 10 * s.2 + dv b = k at hq9 hq0 hdm hml hc ⊢
    generalize hq : k / n = q at hq9 hq0 hdm ⊢
    have hnat := hnat' q hq9
    refine ⟨hml, ?_, ?_, ?_⟩
    · have e : dv (UInt8.ofNat (48 + q)) = q := by show (UInt8.ofNat (48 + q)).toNat - 48 = q; rw [hnat]; omega
      rw [val_snoc, val_snoc, ← h.eq, e, Nat.add_mul, Nat.mul_assoc, Nat.mul_add]
      rw [Nat.mul_comm n q] at hdm
      omega
    · intro c hcm
      rcases List.mem_append.1 hcm with hcm | hcm
      · exact h.dig c hcm
      · rw [List.mem_singleton] at hcm; rw [hcm, hnat]; omega
    · intro c hcm
      by_cases he : s.1 = []
      · have hge : n ≤ k := by rcases hc with hc | hc; exact absurd he hc; exact hc
        have hp := hq0.1 hge
        dsimp only at hcm
        rw [he] at hcm
        have hce : UInt8.ofNat (48 + q) = c := by simpa using hcm
        intro e48
        rw [← hce] at e48
        have := congrArg UInt8.toNat e48
        rw [hnat] at this
        simp at this
        omega
      · refine h.top c ?_
        cases hs : s.1 with
        | nil => exact absurd hs he
        | cons d t => dsimp only at hcm; rw [hs] at hcm; simpa using hcm
  · rw [if_neg hc]
    have he : s.1 = [] := Classical.byContradiction fun h => hc (.inl h)
    have hlt : 10 * s.2 + dv b < n := by rcases Nat.lt_or_ge (10 * s.2 + dv b) n with h | h; exact h; exact absurd (.inr h) hc
    refine ⟨Nat.mod_lt _ hn, ?_, h.dig, h.top⟩
    dsimp only
    rw [val_snoc, ← h.eq, Nat.mod_eq_of_lt hlt, he]
    simp [val]
theorem rat_ok {n : Nat} (hn : 1 ≤ n) (l : List UInt8) (hd : AllDig l) : RatOk l n (rat l n) := by
  have : ∀ (m : List UInt8) (k : List UInt8) (s : List UInt8 × Nat), AllDig m → RatOk k n s → RatOk (k ++ m) n (m.foldl (ratStep n) s) := by
    intro m
    induction m with
    | nil => intro k s _ h; simpa using h
    | cons b m ih =>
      intro k s hm h
      have := ih (k ++ [b]) (ratStep n s b) (fun c hc => hm c (List.mem_cons_of_mem _ hc)) (h.step (hm b (List.mem_cons_self ..)))
      simpa using this
  simpa [rat] using this l [] ([], 0) hd (RatOk.start hn)

/-- An order: 1 to 200 digits, no leading zero. -/
def OrdOk (l : List UInt8) : Prop := 1 ≤ l.length ∧ l.length ≤ 200 ∧ l.head? ≠ some 48 ∧ AllDig l
instance (l : List UInt8) : Decidable (OrdOk l) := by unfold OrdOk AllDig; infer_instance
theorem OrdOk.noZero {l : List UInt8} (h : OrdOk l) : NoZero l := fun b hb e => h.2.2.1 (by rw [hb, e])
def timesV (l : List UInt8) (n : Int) : List UInt8 × Int :=
  if ¬ OrdOk l then ([], 3) else if n < 1 ∨ 1000000000 < n then ([], 2) else if 200 < (prod l n.toNat).length then ([], 5) else (prod l n.toNat, 0)
def ratioV (l : List UInt8) (n : Int) : List UInt8 × Int :=
  if ¬ OrdOk l then ([], 3) else if n = 0 then ([], 6) else if n < 1 ∨ 1000000000 < n then ([], 2) else if (rat l n.toNat).2 ≠ 0 then ([], 18) else ((rat l n.toNat).1, 0)

/-- The product is always reached: 400 rounds are enough. -/
theorem prod_val {l : List UInt8} {n : Nat} (ho : OrdOk l) (hn1 : 1 ≤ n) (hn : n ≤ 1000000000) : val (prod l n) = val l * n ∧ AllDig (prod l n) ∧ NoZero (prod l n) := by
  have hne : l ≠ [] := fun e => by have := ho.1; rw [e] at this; simp at this
  have : ∀ (f r : Nat) (out : List UInt8) (c : Nat), AtT l n r out c → 400 - r = f → val (prod l n) = val l * n ∧ AllDig (prod l n) ∧ NoZero (prod l n) := by
    intro f
    induction f with
    | zero =>
      intro r out c h hf
      by_cases hgo : r < l.length ∨ 0 < c
      · have := (h.small hn ho.2.1 hgo).1; omega
      · obtain ⟨e, h1, h2, h3⟩ := h.done hgo
        rw [e]; exact ⟨h1, h2, h3⟩
    | succ f ih =>
      intro r out c h hf
      by_cases hgo : r < l.length ∨ 0 < c
      · exact ih (r + 1) _ _ (h.step ho.2.2.2 ho.noZero hn1 hn ho.2.1 hgo) (by omega)
      · obtain ⟨e, h1, h2, h3⟩ := h.done hgo
        rw [e]; exact ⟨h1, h2, h3⟩
  exact this 400 0 [] 0 (AtT.start l hn1 hne) rfl

/-- Ratio undoes Times. -/
theorem ratio_times {l : List UInt8} {n : Int} (h : (timesV l n).2 = 0) : ratioV (timesV l n).1 n = (l, 0) := by
  unfold timesV at h ⊢
  by_cases ho : OrdOk l
  · rw [if_neg (fun h => h ho)] at h ⊢
    by_cases hr : n < 1 ∨ 1000000000 < n
    · rw [if_pos hr] at h; simp at h
    · rw [if_neg hr] at h ⊢
      by_cases hl : 200 < (prod l n.toNat).length
      · rw [if_pos hl] at h; simp at h
      · rw [if_neg hl]
        obtain ⟨hv, hdig, htop⟩ := prod_val (n := n.toNat) ho (by omega) (by omega)
        have hlp := val_pos ho.2.2.2 ho.noZero (fun e => by have := ho.1; rw [e] at this; simp at this)
        have hne : prod l n.toNat ≠ [] := fun e => by
          rw [e] at hv
          have : 1 ≤ val l * n.toNat := Nat.mul_le_mul hlp (show 1 ≤ n.toNat by omega)
          simp [val] at hv this
          omega
        have hlen : 1 ≤ (prod l n.toNat).length := List.length_pos_iff.2 hne
        have hop : OrdOk (prod l n.toNat) := ⟨hlen, by omega, fun e => htop _ e rfl, hdig⟩
        have hro := rat_ok (n := n.toNat) (by omega) (prod l n.toNat) hdig
        unfold ratioV
        dsimp only
        rw [if_neg (fun h => h hop), if_neg (by omega), if_neg hr]
        have heq := hro.eq
        rw [hv] at heq
        have h0 : (rat (prod l n.toNat) n.toNat).2 = 0 := by
          have h1 := congrArg (· % n.toNat) heq
          simp only [Nat.mul_add_mod_self_right, Nat.mul_mod_left] at h1
          rw [Nat.mod_eq_of_lt hro.lt] at h1
          exact h1
        rw [if_neg (by omega)]
        rw [h0, Nat.add_zero] at heq
        have hvv := Nat.eq_of_mul_eq_mul_right (by omega) heq
        rw [val_inj _ _ l rfl hro.dig hro.top ho.2.2.2 ho.noZero hvv]
  · rw [if_pos ho] at h; simp at h
end Go.Proofs.YtpchomhfpfpckaaDoor
