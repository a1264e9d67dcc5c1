/- Groups: powers with integer exponents; the permutations of a degree as lists are a group. No program. -/
import Derived.Test.YtpchomhfpfpckaaDoorCyc
import Derived.Test.YtpchomhfpfpckaaDoorMul
namespace Go.Proofs.YtpchomhfpfpckaaDoor
open Go Go.RowKit

structure IsGrp {α : Type} (mul : α → α → α) (one : α) (inv : α → α) : Prop where
  assoc : ∀ a b c, mul (mul a b) c = mul a (mul b c)
  one_mul : ∀ a, mul one a = a
  mul_one : ∀ a, mul a one = a
  inv_mul : ∀ a, mul (inv a) a = one
  mul_inv : ∀ a, mul a (inv a) = one

section
variable {α : Type} {mul : α → α → α} {one : α} {inv : α → α}
def npow (mul : α → α → α) (one : α) : Nat → α → α
  | 0, _ => one
  | m + 1, a => mul (npow mul one m a) a
def zpow (mul : α → α → α) (one : α) (inv : α → α) (a : α) : Int → α
  | .ofNat m => npow mul one m a
  | .negSucc m => npow mul one (m + 1) (inv a)
variable (G : IsGrp mul one inv)
include G
theorem npow_add (a : α) (m k : Nat) : npow mul one (m + k) a = mul (npow mul one m a) (npow mul one k a) := by
  induction k with
  | zero => rw [Nat.add_zero]; exact (G.mul_one _).symm
  | succ k ih => rw [← Nat.add_assoc]; show mul (npow mul one (m + k) a) a = _; rw [ih, G.assoc]; rfl
theorem npow_sq (a : α) (m : Nat) : npow mul one m (mul a a) = npow mul one (m + m) a := by
  induction m with
  | zero => rfl
  | succ m ih =>
    show mul (npow mul one m (mul a a)) (mul a a) = _
    rw [ih, show m + 1 + (m + 1) = (m + m) + 2 by omega]
    show _ = mul (mul (npow mul one (m + m) a) a) a
    rw [G.assoc]
theorem npow_one (a : α) : npow mul one 1 a = a := G.one_mul a
/-- A step of squaring and multiplying. -/
theorem npow_even (a : α) (m : Nat) (h : m % 2 = 0) : npow mul one m a = npow mul one (m / 2) (mul a a) := by
  rw [npow_sq G, show m / 2 + m / 2 = m by omega]
theorem npow_odd (u a : α) (m : Nat) (h : m % 2 = 1) : mul u (npow mul one m a) = mul (mul u a) (npow mul one (m / 2) (mul a a)) := by
  rw [npow_sq G, G.assoc, show m = 1 + (m / 2 + m / 2) by omega, npow_add G, npow_one G, show (1 + (m / 2 + m / 2)) / 2 = m / 2 by omega]
theorem zpow_succ (a : α) (x : Int) : zpow mul one inv a (x + 1) = mul (zpow mul one inv a x) a := by
  cases x with
  | ofNat m => rfl
  | negSucc m =>
    cases m with
    | zero => show one = mul (mul one (inv a)) a; rw [G.one_mul, G.inv_mul]
    | succ m =>
      show npow mul one (m + 1) (inv a) = mul (mul (npow mul one (m + 1) (inv a)) (inv a)) a
      rw [G.assoc, G.inv_mul, G.mul_one]
theorem zpow_pred (a : α) (x : Int) : zpow mul one inv a (x - 1) = mul (zpow mul one inv a x) (inv a) := by
  have h := zpow_succ G a (x - 1)
  rw [show x - 1 + 1 = x by omega] at h
  rw [h, G.assoc, G.mul_inv, G.mul_one]
theorem zpow_add (a : α) (x y : Int) : zpow mul one inv a (x + y) = mul (zpow mul one inv a x) (zpow mul one inv a y) := by
  have hp : ∀ m : Nat, zpow mul one inv a (x + m) = mul (zpow mul one inv a x) (zpow mul one inv a m) := by
    intro m
    induction m with
    | zero => rw [Int.natCast_zero, Int.add_zero]; exact (G.mul_one _).symm
    | succ m ih => rw [Int.natCast_succ, ← Int.add_assoc, zpow_succ G, ih, zpow_succ G, G.assoc]
  have hn : ∀ m : Nat, zpow mul one inv a (x - m) = mul (zpow mul one inv a x) (zpow mul one inv a (-m)) := by
    intro m
    induction m with
    | zero => rw [Int.natCast_zero, Int.sub_zero]; exact (G.mul_one _).symm
    | succ m ih =>
      rw [show x - ((m + 1 : Nat) : Int) = (x - m) - 1 by omega, zpow_pred G, ih, show -((m + 1 : Nat) : Int) = -(m : Int) - 1 by omega, zpow_pred G, G.assoc]
  rcases Int.le_total 0 y with h | h
  · have := hp y.toNat
    rwa [Int.toNat_of_nonneg h] at this
  · have := hn (-y).toNat
    rwa [Int.toNat_of_nonneg (by omega), show x - -y = x + y by omega, show - -y = y by omega] at this
theorem zpow_neg (a : α) (x : Int) : zpow mul one inv a (-x) = inv (zpow mul one inv a x) := by
  have h := zpow_add G a x (-x)
  rw [show x + -x = 0 by omega] at h
  have h0 : zpow mul one inv a 0 = one := rfl
  rw [h0] at h
  have := congrArg (mul (inv (zpow mul one inv a x))) h
  rw [G.mul_one, ← G.assoc, G.inv_mul, G.one_mul] at this
  exact this.symm
theorem zpow_mul (a : α) (x y : Int) : zpow mul one inv a (x * y) = zpow mul one inv (zpow mul one inv a x) y := by
  have hp : ∀ m : Nat, zpow mul one inv a (x * m) = zpow mul one inv (zpow mul one inv a x) m := by
    intro m
    induction m with
    | zero => rw [Int.natCast_zero, Int.mul_zero]; rfl
    | succ m ih => rw [Int.natCast_succ, Int.mul_add, Int.mul_one, zpow_add G, ih, zpow_succ G]
  have hn : ∀ m : Nat, zpow mul one inv a (x * -m) = zpow mul one inv (zpow mul one inv a x) (-m) := by
    intro m
    induction m with
    | zero => rw [Int.natCast_zero, Int.neg_zero, Int.mul_zero]; rfl
    | succ m ih =>
      rw [show -((m + 1 : Nat) : Int) = -(m : Int) - 1 by omega, zpow_pred G, ← ih, ← zpow_neg G, ← zpow_add G]
      congr 1
      rw [Int.mul_sub, Int.mul_one]
      omega
  rcases Int.le_total 0 y with h | h
  · have := hp y.toNat
    rwa [Int.toNat_of_nonneg h] at this
  · have := hn (-y).toNat
    rwa [Int.toNat_of_nonneg (by omega), show - -y = y by omega] at this
end

/-- Each point is an image. -/
theorem fine_mem {zs : List Int} (hf : Fine zs) {i : Nat} (hi : i < zs.length) : (i : Int) ∈ zs := by
  have h : ∀ k, k ≤ zs.length → k + free zs.length (zs.take k) ≤ zs.length := by
    intro k
    induction k with
    | zero => intro _; have := free_le zs.length (zs.take 0); omega
    | succ k ih =>
      intro hk
      have h1 := ih (by omega)
      have hlt : k < zs.length := by omega
      obtain ⟨h0, hn, hd⟩ := hf k hlt
      have hg : zs.getD k 0 = zs[k] := by simp [List.getD_eq_getElem?_getD, hlt]
      rw [hg] at h0 hn hd
      have hnot : zs[k] ∉ zs.take k := by
        intro hm
        obtain ⟨j, hj⟩ := List.mem_iff_getElem?.1 hm
        have hjk : j < k := by
          have := (List.getElem?_eq_some_iff.1 hj).1
          simp at this; omega
        refine hd j hjk ?_
        rw [List.getElem?_take_of_lt hjk] at hj
        rw [List.getD_eq_getElem?_getD, hj]; rfl
      have hz : zs[k] = ((zs[k].toNat : Nat) : Int) := (Int.toNat_of_nonneg h0).symm
      rw [hz] at hnot
      have := free_lt (n := zs.length) (i := zs[k].toNat) (by omega) hnot
      rw [← hz] at this
      rw [List.take_succ_eq_append_getElem hlt]
      omega
  have h1 := h zs.length (Nat.le_refl _)
  rw [List.take_length] at h1
  have h2 : free zs.length zs = 0 := by omega
  unfold free at h2
  have h3 := List.eq_nil_of_length_eq_zero h2
  rw [List.filter_eq_nil_iff] at h3
  have := h3 i (List.mem_range.2 hi)
  simpa using this
theorem fine_pos {zs : List Int} (hf : Fine zs) {i : Nat} (hi : i < zs.length) : ∃ k, k < zs.length ∧ zs.getD k 0 = (i : Int) := by
  obtain ⟨k, hk⟩ := List.mem_iff_getElem?.1 (fine_mem hf hi)
  exact ⟨k, (List.getElem?_eq_some_iff.1 hk).1, by rw [List.getD_eq_getElem?_getD, hk]; rfl⟩
theorem fine_inj {zs : List Int} (hf : Fine zs) {i j : Nat} (hi : i < zs.length) (hj : j < zs.length) (h : zs.getD i 0 = zs.getD j 0) : i = j := by
  rcases Nat.lt_trichotomy i j with h1 | h1 | h1
  · exact absurd h ((hf j hj).2.2 i h1)
  · exact h1
  · exact absurd h.symm ((hf i hi).2.2 j h1)

/-- Where i stands among the first k images. -/
def posTo (zs : List Int) : Nat → Int → Nat
  | 0, _ => 0
  | k + 1, i => if zs.getD k 0 = i then k else posTo zs k i
def idL (n : Nat) : List Int := (List.range n).map fun (i : Nat) => (i : Int)
def invL (zs : List Int) : List Int := (List.range zs.length).map fun (i : Nat) => (posTo zs zs.length i : Int)
theorem idL_len (n : Nat) : (idL n).length = n := by simp [idL]
theorem idL_get {n i : Nat} (h : i < n) : (idL n).getD i 0 = (i : Int) := by simp [idL, List.getD_eq_getElem?_getD, h]
theorem invL_len (zs : List Int) : (invL zs).length = zs.length := by simp [invL]
theorem invL_get {zs : List Int} {i : Nat} (h : i < zs.length) : (invL zs).getD i 0 = (posTo zs zs.length i : Int) := by simp [invL, List.getD_eq_getElem?_getD, h]
theorem posTo_at {zs : List Int} (hf : Fine zs) : ∀ {k j : Nat}, k ≤ zs.length → j < k → posTo zs k (zs.getD j 0) = j := by
  intro k
  induction k with
  | zero => intro j _ h; omega
  | succ k ih =>
    intro j hk hj
    rw [posTo]
    by_cases e : zs.getD k 0 = zs.getD j 0
    · rw [if_pos e]; exact fine_inj hf (by omega) (by omega) e
    · rw [if_neg e]
      have : j ≠ k := fun h => e (by rw [h])
      exact ih (by omega) (by omega)

/-- The permutations of degree n. -/
def PL (n : Nat) : Type := { l : List Int // l.length = n ∧ Fine l }
theorem PL.ext {n : Nat} {a b : PL n} (h : ∀ i, i < n → a.1.getD i 0 = b.1.getD i 0) : a = b := by
  apply Subtype.ext
  have hl : a.1.length = b.1.length := by rw [a.2.1, b.2.1]
  apply List.ext_getElem hl
  intro i h1 h2
  have := h i (by rw [← a.2.1]; exact h1)
  simpa [List.getD_eq_getElem?_getD, h1, h2] using this
theorem PL.at_ {n : Nat} (a : PL n) {i : Nat} (h : i < n) : ∃ k, k < n ∧ a.1.getD i 0 = ((k : Nat) : Int) := by
  have := a.2.2 i (by rw [a.2.1]; exact h)
  rw [a.2.1] at this
  exact ⟨(a.1.getD i 0).toNat, by omega, by omega⟩
theorem mul_at {n : Nat} (a b : PL n) {i k : Nat} (h : i < n) (e : a.1.getD i 0 = (k : Int)) : (mulL a.1 b.1).getD i 0 = b.1.getD k 0 := mulL_get _ _ _ _ (by rw [a.2.1]; exact h) e
theorem fine_of {l : List Int} (hr : ∀ i, i < l.length → ∃ k, k < l.length ∧ l.getD i 0 = ((k : Nat) : Int)) (hi : ∀ i j, i < l.length → j < l.length → l.getD i 0 = l.getD j 0 → i = j) : Fine l := fun i h => by
  obtain ⟨k, hk, e⟩ := hr i h
  refine ⟨by omega, by omega, fun j hj he => ?_⟩
  have := hi j i (by omega) h he
  omega
def pmul {n : Nat} (a b : PL n) : PL n := ⟨mulL a.1 b.1, by rw [mulL_len]; exact a.2.1, by
  have hl : (mulL a.1 b.1).length = n := by rw [mulL_len]; exact a.2.1
  refine fine_of (fun i hi => ?_) (fun i j hi hj e => ?_)
  · rw [hl] at hi ⊢
    obtain ⟨k, hk, e⟩ := a.at_ hi
    rw [mul_at a b hi e]
    exact b.at_ hk
  · rw [hl] at hi hj
    obtain ⟨k, hk, ek⟩ := a.at_ hi
    obtain ⟨m, hm, em⟩ := a.at_ hj
    rw [mul_at a b hi ek, mul_at a b hj em] at e
    have := fine_inj b.2.2 (by rw [b.2.1]; exact hk) (by rw [b.2.1]; exact hm) e
    refine fine_inj a.2.2 (by rw [a.2.1]; exact hi) (by rw [a.2.1]; exact hj) ?_
    rw [ek, em, this]⟩
def pone (n : Nat) : PL n := ⟨idL n, idL_len n, by
  refine fine_of (fun i hi => ?_) (fun i j hi hj e => ?_)
  · rw [idL_len] at hi ⊢; exact ⟨i, hi, idL_get hi⟩
  · rw [idL_len] at hi hj
    rw [idL_get hi, idL_get hj] at e
    omega⟩
theorem inv_at {n : Nat} (a : PL n) {i : Nat} (h : i < n) : ∃ k, k < n ∧ (invL a.1).getD i 0 = ((k : Nat) : Int) ∧ a.1.getD k 0 = (i : Int) := by
  have hi : i < a.1.length := by rw [a.2.1]; exact h
  obtain ⟨k, hk, e⟩ := fine_pos a.2.2 hi
  refine ⟨k, by rw [← a.2.1]; exact hk, ?_, e⟩
  rw [invL_get hi, ← e, posTo_at a.2.2 (Nat.le_refl _) hk]
def pinv {n : Nat} (a : PL n) : PL n := ⟨invL a.1, by rw [invL_len]; exact a.2.1, by
  have hl : (invL a.1).length = n := by rw [invL_len]; exact a.2.1
  refine fine_of (fun i hi => ?_) (fun i j hi hj e => ?_)
  · rw [hl] at hi ⊢
    obtain ⟨k, hk, e, _⟩ := inv_at a hi
    exact ⟨k, hk, e⟩
  · rw [hl] at hi hj
    obtain ⟨k, _, ek, hk⟩ := inv_at a hi
    obtain ⟨m, _, em, hm⟩ := inv_at a hj
    rw [ek, em] at e
    have : k = m := by omega
    subst this
    rw [hk] at hm
    omega⟩
theorem perm_grp (n : Nat) : IsGrp (@pmul n) (pone n) (@pinv n) := by
  refine ⟨fun a b c => PL.ext fun i hi => ?_, fun a => PL.ext fun i hi => ?_, fun a => PL.ext fun i hi => ?_, fun a => PL.ext fun i hi => ?_, fun a => PL.ext fun i hi => ?_⟩
  · obtain ⟨k, hk, ek⟩ := a.at_ hi
    obtain ⟨m, hm, em⟩ := b.at_ hk
    have h1 : (pmul a b).1.getD i 0 = (m : Int) := by rw [← em]; exact mul_at a b hi ek
    show (mulL (pmul a b).1 c.1).getD i 0 = (mulL a.1 (pmul b c).1).getD i 0
    rw [mul_at (pmul a b) c hi h1, mul_at a (pmul b c) hi ek]
    exact (mul_at b c hk em).symm
  · exact mul_at (pone n) a hi (idL_get hi)
  · obtain ⟨k, hk, ek⟩ := a.at_ hi
    show (mulL a.1 (pone n).1).getD i 0 = _
    rw [mul_at a (pone n) hi ek, ek]
    exact idL_get hk
  · obtain ⟨k, hk, ek, ea⟩ := inv_at a hi
    show (mulL (pinv a).1 a.1).getD i 0 = _
    rw [mul_at (pinv a) a hi ek, ea]
    exact (idL_get hi).symm
  · obtain ⟨k, hk, ek⟩ := a.at_ hi
    obtain ⟨m, hm, em, ea⟩ := inv_at a hk
    show (mulL a.1 (pinv a).1).getD i 0 = _
    rw [mul_at a (pinv a) hi ek]
    show (invL a.1).getD k 0 = _
    rw [em]
    have : m = i := fine_inj a.2.2 (by rw [a.2.1]; exact hm) (by rw [a.2.1]; exact hi) (by rw [ea, ek])
    rw [this]
    exact (idL_get hi).symm
end Go.Proofs.YtpchomhfpfpckaaDoor
