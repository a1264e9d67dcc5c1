/- Base, PrMath, MBase, MCuts, PrA, PrPow, Range, RegH, MRange, joined. -/
import Derived.Below
import Derived.OwnWalk
import Derived.WalkKit
import Derived.Outline
import Derived.Lib.Hide
import Derived.Laws.OwnMore
import Derived.Laws.NewBlocks
import Derived.RangeFuncBox
import Derived.Test.YtinoomcboinokaaGreatProg
import Derived.Laws.MakeOwn
import Derived.Laws.Slices
import Derived.RangeFuncNested
import Derived.RangeFuncBound
import Derived.RangeFuncCalls
import Derived.RangeFuncLeaves
import Derived.OwnWalkIn
import Derived.OrdersIn
import Derived.OrdersHeld

/- Words for slices and small blocks in memory, used by the walks of this seat. -/
namespace Go.Proofs.YtinoomcboinokaaGreat
open Go Go.RowKit

/-- The slice value v reads, in w, as the integers zs; its cells lie below block B. -/
def Ints (w : World) (B : Nat) (v : Value) (zs : List Int) : Prop :=
  ∃ A c, v = .slice A zs.length c ∧ (0 < zs.length → ∃ b o, A = some ⟨b, o, none⟩ ∧ b < B ∧ ∀ j, j < zs.length → w.cell? ⟨b, o + j, none⟩ = some (.int .i64 (zs.getD j 0)))

theorem Ints.keep {w w' : World} {B : Nat} {v : Value} {zs : List Int} (h : Ints w B v zs) (hk : ∀ p : Addr, p.block < B → w'.cell? p = w.cell? p) : Ints w' B v zs := by
  obtain ⟨A, c, rfl, h⟩ := h
  refine ⟨A, c, rfl, fun hn => ?_⟩
  obtain ⟨b, o, rfl, hb, hc⟩ := h hn
  exact ⟨b, o, rfl, hb, fun j hj => (hk _ hb).trans (hc j hj)⟩
theorem Ints.more {w : World} {B B' : Nat} {v : Value} {zs : List Int} (h : Ints w B v zs) (hB : B ≤ B') : Ints w B' v zs := by
  obtain ⟨A, c, rfl, h⟩ := h
  refine ⟨A, c, rfl, fun hn => ?_⟩
  obtain ⟨b, o, rfl, hb, hc⟩ := h hn
  exact ⟨b, o, rfl, by omega, hc⟩
theorem Ints.below {w w' : World} {B : Nat} {v : Value} {zs : List Int} (h : Ints w B v zs) (hb : Below B w w') : Ints w' B v zs := h.keep fun _ hp => hb.cell hp
theorem Ints.alloc {w : World} {B : Nat} {v : Value} {zs : List Int} (h : Ints w B v zs) (hB : B ≤ w.heap.size) (o : Obj) : Ints (w.alloc o) B v zs := h.keep fun p hp => World.cell?_alloc_lt w o p (Nat.lt_of_lt_of_le hp hB)
theorem Ints.at_ {w : World} {B : Nat} {v : Value} {zs : List Int} (h : Ints w B v zs) (hn : 0 < zs.length) :
    ∃ b o c, v = .slice (some ⟨b, o, none⟩) zs.length c ∧ b < B ∧ ∀ j, j < zs.length → w.cell? ⟨b, o + j, none⟩ = some (.int .i64 (zs.getD j 0)) := by
  obtain ⟨A, c, rfl, h⟩ := h
  obtain ⟨b, o, rfl, hb, hc⟩ := h hn
  exact ⟨b, o, c, rfl, hb, hc⟩

/-- Block g holds just the cells cs of type t, none frozen. -/
def Row (w : World) (g : Nat) (t : TypeId) (cs : Array Value) : Prop := w.heap[g]? = some (.cells cs t (0, 0))
theorem Row.lt {w : World} {g : Nat} {t : TypeId} {cs : Array Value} (h : Row w g t cs) : g < w.heap.size := (Array.getElem?_eq_some_iff.1 h).1
theorem Row.new (w : World) (t : TypeId) (cs : Array Value) : Row (w.alloc (.cells cs t)) w.heap.size t cs := World.alloc_heap_new w _
theorem Row.cell {w : World} {g : Nat} {t : TypeId} {cs : Array Value} (h : Row w g t cs) {i : Nat} {u : Value} (hi : cs[i]? = some u) : w.cell? ⟨g, i, none⟩ = some u := by
  simp [World.cell?, show w.heap[g]? = _ from h, hi]
theorem Row.frozen {w : World} {g : Nat} {t : TypeId} {cs : Array Value} (h : Row w g t cs) (i : Nat) : w.frozen? ⟨g, i, none⟩ = false := by
  simp [World.frozen?, show w.heap[g]? = _ from h]
theorem Row.kept {w w' : World} {g : Nat} {t : TypeId} {cs : Array Value} {row : Option Nat} (h : Row w g t cs) (hg : w.grownBy w' row) (hne : some g ≠ row) : Row w' g t cs := (hg.block g h.lt hne).trans h
theorem Row.alloc {w : World} {g : Nat} {t : TypeId} {cs : Array Value} (h : Row w g t cs) (o : Obj) : Row (w.alloc o) g t cs := h.kept (World.grownBy_alloc w o none) (by simp)
theorem Row.set {w : World} {g : Nat} {t : TypeId} {cs : Array Value} (h : Row w g t cs) (i : Nat) (u : Value) : Row (w.setCell ⟨g, i, none⟩ u) g t (cs.setIfInBounds i u) := by
  unfold Row at h ⊢
  simp [World.setCell, Array.getElem?_modify, h]
theorem Row.far {w : World} {g : Nat} {t : TypeId} {cs : Array Value} (h : Row w g t cs) {p : Addr} (hp : g ≠ p.block) (u : Value) : Row (w.setCell p u) g t cs := (Below.heap_setCell w p u g hp).trans h
theorem Row.below {w w' : World} {B g : Nat} {t : TypeId} {cs : Array Value} (h : Row w g t cs) (hb : Below B w w') (hg : g < B) : Row w' g t cs := (hb.block g hg).trans h

theorem ret_int {k : IntKind} {a b : Int} (h : a = b) : Ending.returned (.int k a) = .returned (.int k b) := by rw [h]

/-- What is a permutation's list: each image is in range and occurs once. -/
def Fine (zs : List Int) : Prop := ∀ i, i < zs.length → 0 ≤ zs.getD i 0 ∧ zs.getD i 0 < zs.length ∧ ∀ j, j < i → zs.getD j 0 ≠ zs.getD i 0
instance (zs : List Int) : Decidable (Fine zs) := by unfold Fine; infer_instance
/-- The error of a list, as the document says it. -/
def chk (zs : List Int) : Int := if zs.length < 1 ∨ 64 < zs.length then 2 else if Fine zs then 0 else 3
/-- Its first k images are in range and differ. -/
def FineTo (zs : List Int) (k : Nat) : Prop := ∀ i, i < k → 0 ≤ zs.getD i 0 ∧ zs.getD i 0 < zs.length ∧ ∀ j, j < i → zs.getD j 0 ≠ zs.getD i 0
theorem FineTo.zero (zs : List Int) : FineTo zs 0 := fun i h => absurd h (by omega)
theorem FineTo.fine {zs : List Int} (h : FineTo zs zs.length) : Fine zs := h
theorem FineTo.succ {zs : List Int} {k : Nat} (h : FineTo zs k) (h0 : 0 ≤ zs.getD k 0) (h1 : zs.getD k 0 < zs.length) (h2 : ∀ j, j < k → zs.getD j 0 ≠ zs.getD k 0) : FineTo zs (k + 1) := fun i hi => by
  by_cases e : i = k
  · subst e; exact ⟨h0, h1, h2⟩
  · exact h i (by omega)
/-- The marks behind k images: the i-th says whether i is among them. -/
def marks (zs : List Int) (k : Nat) : Array Value := Array.ofFn (n := 64) fun i => Value.bool (decide (∃ j, j < k ∧ zs.getD j 0 = (i.val : Int)))
theorem marks_get (zs : List Int) (k i : Nat) (hi : i < 64) : (marks zs k)[i]? = some (.bool (decide (∃ j, j < k ∧ zs.getD j 0 = (i : Int)))) := by
  simp [marks, hi]
theorem marks_zero (zs : List Int) : marks zs 0 = Array.replicate 64 (.bool false) := by
  apply Array.ext
  · simp [marks]
  · intro i h1 h2; simp [marks]
theorem marks_succ (zs : List Int) (k i : Nat) (h : zs.getD k 0 = (i : Int)) : (marks zs k).setIfInBounds i (.bool true) = marks zs (k + 1) := by
  apply Array.ext
  · simp [marks]
  · intro j h1 h2
    have hj : j < 64 := by simpa [marks] using h2
    rw [Array.getElem_setIfInBounds (by simpa [marks] using hj)]
    by_cases e : i = j
    · subst e
      simp only [if_true, marks, Array.getElem_ofFn]
      congr 1
      exact (decide_eq_true ⟨k, by omega, h⟩).symm
    · simp only [if_neg e, marks, Array.getElem_ofFn]
      congr 1
      rw [decide_eq_decide]
      constructor
      · rintro ⟨m, hm, he⟩; exact ⟨m, by omega, he⟩
      · rintro ⟨m, hm, he⟩
        refine ⟨m, ?_, he⟩
        by_cases e' : m = k
        · subst e'; rw [h] at he; omega
        · omega

end Go.Proofs.YtinoomcboinokaaGreat

/- Primes and residues modulo them: the number theory. No program. -/
namespace Go.Proofs.YtinoomcboinokaaGreat.Num

/-- A prime. -/
def Pr (p : Nat) : Prop := 2 ≤ p ∧ ∀ d, d ∣ p → d = 1 ∨ d = p

theorem Pr.cop {p a : Nat} (hp : Pr p) (h : ¬ p ∣ a) : Nat.Coprime p a := by
  have h1 : Nat.gcd p a ∣ p := Nat.gcd_dvd_left p a
  rcases hp.2 _ h1 with h2 | h2
  · exact h2
  · exact absurd (h2 ▸ Nat.gcd_dvd_right p a) h
theorem Pr.dvd_mul {p a b : Nat} (hp : Pr p) (h : p ∣ a * b) : p ∣ a ∨ p ∣ b := by
  by_cases ha : p ∣ a
  · exact Or.inl ha
  · exact Or.inr ((hp.cop ha).dvd_of_dvd_mul_left h)
theorem Pr.dvd_pow {p a n : Nat} (hp : Pr p) (h : p ∣ a ^ n) : p ∣ a := by
  induction n with
  | zero =>
    rw [Nat.pow_zero] at h
    have := Nat.le_of_dvd (by decide) h
    have := hp.1
    omega
  | succ n ih =>
    rw [Nat.pow_succ] at h
    rcases hp.dvd_mul h with h | h
    · exact ih h
    · exact h
/-- The least number from 2 on that divides n. -/
def Least (n q : Nat) : Prop := 2 ≤ q ∧ q ∣ n ∧ ∀ d, 2 ≤ d → d ∣ n → q ≤ d
theorem Least.prime {n q : Nat} (h : Least n q) : Pr q := by
  refine ⟨h.1, fun d hd => ?_⟩
  by_cases h1 : d = 1
  · exact Or.inl h1
  · have h0 : d ≠ 0 := by
      rintro rfl
      have := Nat.eq_zero_of_zero_dvd hd
      have := h.1
      omega
    have := h.2.2 d (by omega) (Nat.dvd_trans hd h.2.1)
    have := Nat.le_of_dvd (by have := h.1; omega) hd
    exact Or.inr (by omega)
theorem least_exists (n : Nat) (h : 2 ≤ n) : ∃ q, Least n q := by
  have key : ∀ k, ∀ d, d + k = n → (∀ e, 2 ≤ e → e < d → ¬ e ∣ n) → 2 ≤ d → ∃ q, Least n q := by
    intro k
    induction k with
    | zero =>
      intro d hd hn h2
      refine ⟨n, h, Nat.dvd_refl n, fun e he hdv => ?_⟩
      apply Nat.le_of_not_lt
      intro hlt
      exact hn e he (by omega) hdv
    | succ k ih =>
      intro d hd hn h2
      by_cases hdv : d ∣ n
      · exact ⟨d, h2, hdv, fun e he hev => Nat.le_of_not_lt fun hlt => hn e he hlt hev⟩
      · refine ih (d + 1) (by omega) (fun e he hlt hev => ?_) (by omega)
        by_cases e = d
        · subst e; exact hdv hev
        · exact hn e he (by omega) hev
  exact key (n - 2) 2 (by omega) (fun e h1 h2 => by omega) (by omega)
theorem Least.unique {n q r : Nat} (h : Least n q) (k : Least n r) : q = r :=
  Nat.le_antisymm (h.2.2 r k.1 k.2.1) (k.2.2 q h.1 h.2.1)
theorem pr_iff_least {n : Nat} : Pr n ↔ Least n n := by
  constructor
  · intro h
    refine ⟨h.1, Nat.dvd_refl n, fun d hd hdv => ?_⟩
    rcases h.2 d hdv with e | e <;> omega
  · intro h; exact h.prime
/-- A number with no divisor up to its root is its own least one. -/
theorem least_self {n d : Nat} (h2 : 2 ≤ n) (hd : ∀ e, 2 ≤ e → e < d → ¬ e ∣ n) (hsq : n < d * d) : Least n n := by
  refine ⟨h2, Nat.dvd_refl n, fun e he hev => Nat.le_of_not_lt fun hlt => ?_⟩
  obtain ⟨f, hf⟩ := hev
  have hf2 : 2 ≤ f := by
    rcases f with _ | _ | f
    · omega
    · omega
    · omega
  have he' : d ≤ e := Nat.le_of_not_lt fun h => hd e he h ⟨f, hf⟩
  have hf' : d ≤ f := Nat.le_of_not_lt fun h => hd f hf2 h ⟨e, by rw [hf, Nat.mul_comm]⟩
  have := Nat.mul_le_mul he' hf'
  omega

/-- A list of natural numbers without repetition, all of them from 1 to n, has at most n of them; and if it has n, then all. -/
theorem nodup_le {l : List Nat} {n : Nat} (h : l.Nodup) (hb : ∀ x ∈ l, x < n) : l.length ≤ n := by
  have := h.length_le_of_subset (l₂ := List.range n) (fun x hx => List.mem_range.2 (hb x hx))
  simpa using this
theorem all_in {l : List Nat} {n : Nat} (h : l.Nodup) (hb : ∀ x ∈ l, 1 ≤ x ∧ x ≤ n) (hn : l.length = n) : ∀ x, 1 ≤ x → x ≤ n → x ∈ l := by
  intro x h1 h2
  apply Classical.byContradiction
  intro hx
  have := (List.nodup_cons.2 ⟨hx, h⟩).length_le_of_subset (l₂ := (List.range n).map (· + 1)) (fun y hy => by
    rw [List.mem_map]
    rcases List.mem_cons.1 hy with rfl | hy
    · exact ⟨y - 1, List.mem_range.2 (by omega), by omega⟩
    · have := hb y hy
      exact ⟨y - 1, List.mem_range.2 (by omega), by omega⟩)
  simp at this
  omega
theorem perm_all {l : List Nat} {n : Nat} (h : l.Nodup) (hb : ∀ x ∈ l, 1 ≤ x ∧ x ≤ n) (hn : l.length = n) : l.Perm ((List.range n).map (· + 1)) := by
  have hall := all_in h hb hn
  have h2 : ((List.range n).map (· + 1)).Nodup := by
    refine List.Pairwise.map _ (fun a b hab => ?_) List.nodup_range
    omega
  rw [List.perm_iff_count]
  intro a
  rw [h.count, h2.count]
  have : a ∈ l ↔ a ∈ (List.range n).map (· + 1) := by
    rw [List.mem_map]
    constructor
    · intro ha
      have := hb a ha
      exact ⟨a - 1, List.mem_range.2 (by omega), by omega⟩
    · rintro ⟨b, hb, rfl⟩
      have := List.mem_range.1 hb
      exact hall _ (by omega) (by omega)
  simp only [this]

/-! Fermat -/
theorem mod_ne {p a : Nat} (h : ¬ p ∣ a) : a % p ≠ 0 := fun e => h (Nat.dvd_of_mod_eq_zero e)
theorem pr_not_dvd {p a : Nat} (h1 : 1 ≤ a) (h2 : a < p) : ¬ p ∣ a := fun h => by
  have := Nat.le_of_dvd (by omega) h
  omega
theorem cancel_mod {p a b c : Nat} (hp : Pr p) (hc : ¬ p ∣ c) (h : a * c % p = b * c % p) : a % p = b % p := by
  have hp2 := hp.1
  have key : ∀ a b : Nat, a ≤ b → a * c % p = b * c % p → a % p = b % p := by
    intro a b hab h
    have h1 : (b * c - a * c) % p = 0 := Nat.sub_mod_eq_zero_of_mod_eq h.symm
    rw [← Nat.sub_mul] at h1
    rcases hp.dvd_mul (Nat.dvd_of_mod_eq_zero h1) with h2 | h2
    · obtain ⟨k, hk⟩ := h2
      have : b = a + p * k := by omega
      rw [this, Nat.add_mul_mod_self_left]
    · exact absurd h2 hc
  rcases Nat.le_total a b with hab | hab
  · exact key a b hab h
  · exact (key b a hab h.symm).symm
theorem prod_not_dvd {p : Nat} (hp : Pr p) : ∀ l : List Nat, (∀ x ∈ l, ¬ p ∣ x) → ¬ p ∣ l.prod
  | [], _ => by
    rw [List.prod_nil]
    intro h
    have := Nat.le_of_dvd (by decide) h
    have := hp.1
    omega
  | x :: l, h => by
    rw [List.prod_cons]
    intro hd
    rcases hp.dvd_mul hd with h1 | h1
    · exact h x (by simp) h1
    · exact prod_not_dvd hp l (fun y hy => h y (by simp [hy])) h1
theorem prod_map_mod (a p : Nat) : ∀ l : List Nat, (l.map (fun x => x * a % p)).prod % p = l.prod * a ^ l.length % p
  | [] => by simp
  | x :: l => by
    rw [List.map_cons, List.prod_cons, List.prod_cons, List.length_cons, Nat.mul_mod, prod_map_mod a p l, Nat.mod_mod, ← Nat.mul_mod]
    congr 1
    rw [Nat.pow_succ]
    simp only [Nat.mul_comm, Nat.mul_left_comm, Nat.mul_assoc]
theorem fermat {p a : Nat} (hp : Pr p) (ha : ¬ p ∣ a) : a ^ (p - 1) % p = 1 := by
  have hp2 := hp.1
  let l := (List.range (p - 1)).map (· + 1)
  have hl : l.length = p - 1 := by simp [l]
  have hmem : ∀ x ∈ l, 1 ≤ x ∧ x ≤ p - 1 := by
    intro x hx
    obtain ⟨y, hy, rfl⟩ := List.mem_map.1 hx
    have := List.mem_range.1 hy
    omega
  have hn : ∀ x ∈ l, ¬ p ∣ x := fun x hx => pr_not_dvd (hmem x hx).1 (by have := (hmem x hx).2; omega)
  have hnd : l.Nodup := by
    refine List.Pairwise.map _ (fun a b hab => ?_) List.nodup_range
    omega
  let m := l.map (fun x => x * a % p)
  have hmd : m.Nodup := by
    refine List.pairwise_map.2 ?_
    refine List.Pairwise.imp_of_mem ?_ hnd
    intro x y hx hy hxy he
    have := cancel_mod hp ha he
    have h1 := hmem x hx
    have h2 := hmem y hy
    rw [Nat.mod_eq_of_lt (by omega), Nat.mod_eq_of_lt (by omega)] at this
    exact hxy this
  have hmm : ∀ x ∈ m, 1 ≤ x ∧ x ≤ p - 1 := by
    intro x hx
    obtain ⟨y, hy, rfl⟩ := List.mem_map.1 hx
    have h1 : ¬ p ∣ y * a := fun h => (hp.dvd_mul h).elim (hn y hy) ha
    have h2 := mod_ne h1
    have h3 := Nat.mod_lt (y * a) (show p > 0 by omega)
    omega
  have hperm : m.Perm l := perm_all hmd hmm (by simp [m, hl])
  have h1 := prod_map_mod a p l
  rw [show (l.map (fun x => x * a % p)).prod = l.prod from hperm.prod_nat, hl] at h1
  have h2 : 1 * l.prod % p = a ^ (p - 1) * l.prod % p := by rw [Nat.one_mul, Nat.mul_comm (a ^ (p - 1))]; exact h1
  have h3 := cancel_mod hp (prod_not_dvd hp l hn) h2
  rw [← h3]
  exact Nat.mod_eq_of_lt (by omega)

/-! Orders -/
def Ord (p x d : Nat) : Prop := 1 ≤ d ∧ x ^ d % p = 1 ∧ ∀ k, 1 ≤ k → k < d → x ^ k % p ≠ 1
theorem pow_mul_one {p x d : Nat} (hp : 2 ≤ p) (h : x ^ d % p = 1) (k : Nat) : x ^ (d * k) % p = 1 := by
  rw [Nat.pow_mul, Nat.pow_mod, h, Nat.one_pow]
  exact Nat.mod_eq_of_lt (by omega)
theorem pow_add_mod {p x : Nat} (a b : Nat) : x ^ (a + b) % p = (x ^ a % p) * (x ^ b % p) % p := by
  rw [Nat.pow_add, Nat.mul_mod]
theorem Ord.dvd {p x d : Nat} (hp : 2 ≤ p) (h : Ord p x d) {k : Nat} (hk : x ^ k % p = 1) : d ∣ k := by
  have h1 : x ^ (k % d) % p = 1 := by
    have h2 := pow_add_mod (p := p) (x := x) (d * (k / d)) (k % d)
    rw [Nat.div_add_mod, hk, pow_mul_one hp h.2.1, Nat.one_mul, Nat.mod_mod] at h2
    exact h2.symm
  apply Nat.dvd_of_mod_eq_zero
  apply Classical.byContradiction
  intro h0
  exact h.2.2 (k % d) (by omega) (Nat.mod_lt _ h.1) h1
theorem Ord.one_iff {p x d : Nat} (hp : 2 ≤ p) (h : Ord p x d) (k : Nat) : x ^ k % p = 1 ↔ d ∣ k := by
  constructor
  · exact h.dvd hp
  · rintro ⟨m, rfl⟩; exact pow_mul_one hp h.2.1 m
theorem Ord.unique {p x d e : Nat} (hp : 2 ≤ p) (h : Ord p x d) (k : Ord p x e) : d = e :=
  Nat.dvd_antisymm (h.dvd hp k.2.1) (k.dvd hp h.2.1)
theorem ord_of_dvd {p x d : Nat} (_hp : 2 ≤ p) (h1 : 1 ≤ d) (h : ∀ k, x ^ k % p = 1 ↔ d ∣ k) : Ord p x d := by
  refine ⟨h1, (h d).2 (Nat.dvd_refl d), fun k hk hlt he => ?_⟩
  have := Nat.le_of_dvd (by omega) ((h k).1 he)
  omega
theorem ord_exists {p x n : Nat} (h1 : 1 ≤ n) (h : x ^ n % p = 1) : ∃ d, Ord p x d := by
  induction n using Nat.strongRecOn with
  | ind n ih =>
    by_cases hk : ∃ k, 1 ≤ k ∧ k < n ∧ x ^ k % p = 1
    · obtain ⟨k, a, b, c⟩ := hk
      exact ih k b a c
    · exact ⟨n, h1, h, fun k a b c => hk ⟨k, a, b, c⟩⟩
theorem ord_of_prime {p a : Nat} (hp : Pr p) (ha : ¬ p ∣ a) : ∃ d, Ord p a d ∧ d ∣ p - 1 := by
  obtain ⟨d, hd⟩ := ord_exists (n := p - 1) (by have := hp.1; omega) (fermat hp ha)
  exact ⟨d, hd, hd.dvd hp.1 (fermat hp ha)⟩
theorem not_dvd_of_pow {p x k : Nat} (hk : 1 ≤ k) (h : x ^ k % p = 1) : ¬ p ∣ x := by
  intro hd
  have : p ∣ x ^ k := Nat.dvd_trans hd ⟨x ^ (k - 1), by rw [← Nat.pow_succ', Nat.succ_eq_add_one, show k - 1 + 1 = k by omega]⟩
  rw [Nat.mod_eq_zero_of_dvd this] at h
  omega
theorem Ord.mod {p x d : Nat} (h : Ord p x d) : Ord p (x % p) d := by
  refine ⟨h.1, ?_, fun k a b => ?_⟩
  · rw [← Nat.pow_mod]; exact h.2.1
  · rw [← Nat.pow_mod]; exact h.2.2 k a b
theorem Ord.mul {p x y m n : Nat} (hp : 2 ≤ p) (hx : Ord p x m) (hy : Ord p y n) (hc : Nat.Coprime m n) : Ord p (x * y) (m * n) := by
  have hpow : ∀ k, (x * y) ^ k % p = (x ^ k % p) * (y ^ k % p) % p := by
    intro k; rw [Nat.mul_pow, Nat.mul_mod]
  have h1p : (1 * 1) % p = 1 := Nat.mod_eq_of_lt (by omega)
  have h1p' : 1 % p = 1 := Nat.mod_eq_of_lt (by omega)
  refine ord_of_dvd hp (Nat.mul_pos hx.1 hy.1) (fun k => ⟨fun h => ?_, ?_⟩)
  · apply hc.mul_dvd_of_dvd_of_dvd
    · have e : (x * y) ^ (k * n) % p = 1 := by rw [Nat.pow_mul, Nat.pow_mod, h, Nat.one_pow, h1p']
      rw [hpow, Nat.mul_comm k n, pow_mul_one hp hy.2.1, Nat.mul_one, Nat.mod_mod, Nat.mul_comm n k] at e
      exact hc.dvd_of_dvd_mul_right (hx.dvd hp e)
    · have e : (x * y) ^ (k * m) % p = 1 := by rw [Nat.pow_mul, Nat.pow_mod, h, Nat.one_pow, h1p']
      rw [hpow, Nat.mul_comm k m, pow_mul_one hp hx.2.1, Nat.one_mul, Nat.mod_mod, Nat.mul_comm m k] at e
      exact hc.symm.dvd_of_dvd_mul_right (hy.dvd hp e)
  · rintro ⟨j, rfl⟩
    rw [hpow, Nat.mul_assoc, pow_mul_one hp hx.2.1, Nat.mul_left_comm, pow_mul_one hp hy.2.1, h1p]
theorem Ord.pow {p x d : Nat} (hp : 2 ≤ p) (h : Ord p x d) {k : Nat} (hk : k ∣ d) (hk1 : 1 ≤ k) : Ord p (x ^ (d / k)) k := by
  obtain ⟨e, rfl⟩ := hk
  have he : 1 ≤ e := Nat.pos_of_ne_zero fun e0 => by
    subst e0
    have := h.1
    omega
  rw [Nat.mul_div_cancel_left e hk1]
  refine ord_of_dvd hp hk1 (fun j => ?_)
  rw [← Nat.pow_mul, h.one_iff hp, Nat.mul_comm k e]
  exact ⟨fun ⟨c, hc⟩ => ⟨c, Nat.eq_of_mul_eq_mul_left he (by rw [hc, Nat.mul_assoc])⟩, fun ⟨c, hc⟩ => ⟨c, by rw [hc, Nat.mul_assoc]⟩⟩

/-! Polynomials, as functions -/
inductive Poly : Nat → (Int → Int) → Prop
  | one (f) (h : ∀ x, f x = 1) : Poly 0 f
  | step (m f g) (c : Int) (hg : Poly m g) (h : ∀ x, f x = x * g x + c) : Poly (m + 1) f
theorem Poly.divide {m : Nat} {f : Int → Int} (h : Poly m f) : ∀ k, m = k + 1 → ∀ r, ∃ g, Poly k g ∧ ∀ x, f x = (x - r) * g x + f r := by
  induction h with
  | one f h => intro k hk; omega
  | step m f g c hg h ih =>
    intro k hk r
    have hk' : k = m := by omega
    subst hk'
    cases k with
    | zero =>
      refine ⟨fun _ => 1, .one _ (fun _ => rfl), fun x => ?_⟩
      cases hg with
      | one _ hg => rw [h, h, hg, hg]; show x * 1 + c = (x - r) * 1 + (r * 1 + c); omega
    | succ j =>
      obtain ⟨g', hg', hgx⟩ := ih j rfl r
      refine ⟨fun x => x * g' x + g r, .step j _ g' (g r) hg' (fun _ => rfl), fun x => ?_⟩
      rw [h, h r, hgx x]
      show x * ((x - r) * g' x + g r) + c = (x - r) * (x * g' x + g r) + (r * g r + c)
      rw [Int.mul_add, Int.mul_add, Int.sub_mul x r (g r), ← Int.mul_assoc, ← Int.mul_assoc, Int.mul_comm x (x - r)]
      omega
theorem Pr.int_dvd_mul {p : Nat} (hp : Pr p) {a b : Int} (h : (p : Int) ∣ a * b) : (p : Int) ∣ a ∨ (p : Int) ∣ b := by
  rw [← Int.natAbs_dvd_natAbs, Int.natAbs_mul, Int.natAbs_natCast] at h
  rcases hp.dvd_mul h with h | h
  · exact Or.inl (by rw [← Int.natAbs_dvd_natAbs, Int.natAbs_natCast]; exact h)
  · exact Or.inr (by rw [← Int.natAbs_dvd_natAbs, Int.natAbs_natCast]; exact h)
theorem Poly.roots {p : Nat} (hp : Pr p) : ∀ (l : List Nat) (m : Nat) (f : Int → Int), Poly m f → l.Nodup → (∀ x ∈ l, x < p) → (∀ x ∈ l, (p : Int) ∣ f x) → l.length ≤ m
  | [], _, _, _, _, _, _ => Nat.zero_le _
  | r :: l, 0, f, hf, _, _, hr => by
    cases hf with
    | one _ h =>
      have h1 := hr r (by simp)
      rw [h] at h1
      have := Int.le_of_dvd (by decide) h1
      have := hp.1
      omega
  | r :: l, m + 1, f, hf, hn, hb, hr => by
    obtain ⟨g, hg, he⟩ := hf.divide m rfl r
    have hn' := List.nodup_cons.1 hn
    have := Poly.roots hp l m g hg hn'.2 (fun x hx => hb x (by simp [hx])) (fun x hx => by
      have h1 := hr x (by simp [hx])
      have h2 := hr r (by simp)
      rw [he x] at h1
      have h3 : (p : Int) ∣ (x - r) * g x := by
        have := Int.dvd_sub h1 h2
        rwa [Int.add_sub_cancel] at this
      rcases hp.int_dvd_mul h3 with h4 | h4
      · exfalso
        have hx1 := hb x (by simp [hx])
        have hr1 := hb r (by simp)
        have hne : x ≠ r := fun e => hn'.1 (e ▸ hx)
        obtain ⟨k, hk⟩ := h4
        have hp0 : (0 : Int) < p := by omega
        rcases Int.lt_trichotomy k 0 with hk0 | hk0 | hk0
        · have : (p : Int) * k ≤ (p : Int) * (-1) := Int.mul_le_mul_of_nonneg_left (by omega) (by omega)
          omega
        · subst hk0; omega
        · have : (p : Int) * 1 ≤ (p : Int) * k := Int.mul_le_mul_of_nonneg_left (by omega) (by omega)
          omega
      · exact h4)
    simp only [List.length_cons]
    omega
theorem poly_pow : ∀ m, Poly m (fun x => x ^ m)
  | 0 => .one _ (fun x => Int.pow_zero x)
  | m + 1 => .step m _ _ 0 (poly_pow m) (fun x => by show x ^ (m + 1) = x * x ^ m + 0; rw [Int.pow_succ, Int.mul_comm, Int.add_zero])
/-- Fewer exponents than residues: one residue's power is not 1. -/
theorem some_not_one {p m : Nat} (hp : Pr p) (h1 : 1 ≤ m) (hm : m < p - 1) : ∃ x, 1 ≤ x ∧ x < p ∧ x ^ m % p ≠ 1 := by
  apply Classical.byContradiction
  intro hno
  have hall : ∀ x, 1 ≤ x → x < p → x ^ m % p = 1 := fun x a b => Classical.byContradiction fun c => hno ⟨x, a, b, c⟩
  obtain ⟨k, rfl⟩ : ∃ k, m = k + 1 := ⟨m - 1, by omega⟩
  have hpoly : Poly (k + 1) (fun x => x ^ (k + 1) - 1) := .step k _ _ (-1) (poly_pow k) (fun x => by
    show x ^ (k + 1) - 1 = x * x ^ k + -1
    rw [Int.pow_succ, Int.mul_comm]; omega)
  have := Poly.roots hp ((List.range (p - 1)).map (· + 1)) (k + 1) _ hpoly (by
    refine List.Pairwise.map _ (fun a b hab => ?_) List.nodup_range
    omega) (fun x hx => by
      obtain ⟨y, hy, rfl⟩ := List.mem_map.1 hx
      have := List.mem_range.1 hy
      omega) (fun x hx => by
      obtain ⟨y, hy, rfl⟩ := List.mem_map.1 hx
      have := List.mem_range.1 hy
      have h2 := hall (y + 1) (by omega) (by omega)
      have h3 := Nat.sub_mod_eq_zero_of_mod_eq (m := (y + 1) ^ (k + 1)) (n := 1) (k := p) (by rw [h2]; exact (Nat.mod_eq_of_lt (by omega)).symm)
      have h4 := Nat.dvd_of_mod_eq_zero h3
      have h5 : 1 ≤ (y + 1) ^ (k + 1) := Nat.pos_of_ne_zero (by simp)
      show (p : Int) ∣ ((y + 1 : Nat) : Int) ^ (k + 1) - 1
      rw [← Int.natCast_pow, show ((((y + 1) ^ (k + 1) : Nat)) : Int) - 1 = (((y + 1) ^ (k + 1) - 1 : Nat) : Int) by omega]
      exact Int.natCast_dvd_natCast.2 h4)
  simp at this
  omega
theorem dvd_prime_pow {q : Nat} (hq : Pr q) : ∀ (e d : Nat), d ∣ q ^ e → ∃ j, j ≤ e ∧ d = q ^ j
  | 0, d, h => ⟨0, Nat.le_refl 0, by simpa using h⟩
  | e + 1, d, h => by
    by_cases hd : q ∣ d
    · obtain ⟨d', rfl⟩ := hd
      rw [Nat.pow_succ, Nat.mul_comm (q ^ e)] at h
      have h' := Nat.dvd_of_mul_dvd_mul_left (by have := hq.1; omega) h
      obtain ⟨j, hj, rfl⟩ := dvd_prime_pow hq e d' h'
      exact ⟨j + 1, by omega, by rw [Nat.pow_succ, Nat.mul_comm]⟩
    · rw [Nat.pow_succ] at h
      obtain ⟨j, hj, h2⟩ := dvd_prime_pow hq e d ((hq.cop hd).symm.dvd_of_dvd_mul_right h)
      exact ⟨j, by omega, h2⟩
theorem split_pow {q : Nat} (hq : Pr q) : ∀ n, 1 ≤ n → ∃ e m, n = q ^ e * m ∧ ¬ q ∣ m := by
  intro n
  induction n using Nat.strongRecOn with
  | ind n ih =>
    intro h1
    by_cases hd : q ∣ n
    · obtain ⟨m, rfl⟩ := hd
      have hm : 1 ≤ m := Nat.pos_of_ne_zero fun h => by subst h; omega
      have := hq.1
      have hlt : m < q * m := by
        calc m = 1 * m := (Nat.one_mul m).symm
          _ < q * m := Nat.mul_lt_mul_of_pos_right (by omega) (by omega)
      obtain ⟨e, m', h2, h3⟩ := ih m hlt hm
      exact ⟨e + 1, m', by rw [h2, Nat.pow_succ]; simp only [Nat.mul_comm, Nat.mul_left_comm], h3⟩
    · exact ⟨0, n, by simp, hd⟩
theorem ord_all {p : Nat} (hp : Pr p) : ∀ m, 1 ≤ m → m ∣ p - 1 → ∃ x, Ord p x m := by
  have hp2 := hp.1
  have h1p : 1 % p = 1 := Nat.mod_eq_of_lt (by omega)
  intro m
  induction m using Nat.strongRecOn with
  | ind m ih =>
    intro h1 hd
    by_cases hm1 : m = 1
    · subst hm1
      exact ⟨1, Nat.le_refl 1, by simpa using h1p, fun k a b => by omega⟩
    · obtain ⟨q, hq⟩ := least_exists m (by omega)
      have hqp := hq.prime
      obtain ⟨e, m', hm, hn⟩ := split_pow hqp m h1
      have hq2 := hqp.1
      have he : e ≠ 0 := by
        rintro rfl
        rw [Nat.pow_zero, Nat.one_mul] at hm
        exact hn (hm ▸ hq.2.1)
      obtain ⟨e, rfl⟩ : ∃ k, e = k + 1 := ⟨e - 1, by omega⟩
      have hm' : 1 ≤ m' := Nat.pos_of_ne_zero fun h => by subst h; omega
      have hqe : 1 ≤ q ^ e := Nat.pow_pos (by omega)
      have hlt : m' < m := by
        rw [hm]
        calc m' = 1 * m' := (Nat.one_mul m').symm
          _ < q ^ (e + 1) * m' := Nat.mul_lt_mul_of_pos_right (by
            rw [Nat.pow_succ]
            calc 1 < q := by omega
              _ = 1 * q := (Nat.one_mul q).symm
              _ ≤ q ^ e * q := Nat.mul_le_mul_right q hqe) (by omega)
      have hd' : m' ∣ p - 1 := Nat.dvd_trans ⟨q ^ (e + 1), by rw [hm, Nat.mul_comm]⟩ hd
      obtain ⟨y, hy⟩ := ih m' hlt hm' hd'
      -- an element of order q^(e+1)
      obtain ⟨c, hc⟩ := hd
      have hN : p - 1 = q * (q ^ e * m' * c) := by
        rw [hc, hm, Nat.pow_succ]; simp only [Nat.mul_comm, Nat.mul_left_comm]
      have hpos : 1 ≤ q ^ e * m' * c := Nat.pos_of_ne_zero fun h => by rw [h] at hN; omega
      have hsmall : q ^ e * m' * c < p - 1 := by
        rw [hN]
        calc q ^ e * m' * c = 1 * (q ^ e * m' * c) := (Nat.one_mul _).symm
          _ < q * (q ^ e * m' * c) := Nat.mul_lt_mul_of_pos_right (by omega) hpos
      obtain ⟨x, hx1, hxp, hx⟩ := some_not_one hp hpos hsmall
      have hz1 : (x ^ (m' * c)) ^ (q ^ (e + 1)) % p = 1 := by
        rw [← Nat.pow_mul, show m' * c * q ^ (e + 1) = p - 1 by rw [hN, Nat.pow_succ]; simp only [Nat.mul_comm, Nat.mul_left_comm, Nat.mul_assoc]]
        exact fermat hp (pr_not_dvd hx1 hxp)
      have hz2 : (x ^ (m' * c)) ^ (q ^ e) % p ≠ 1 := by
        rw [← Nat.pow_mul, show m' * c * q ^ e = q ^ e * m' * c by simp only [Nat.mul_comm, Nat.mul_left_comm, Nat.mul_assoc]]
        exact hx
      obtain ⟨d, hdo⟩ := ord_exists (Nat.pow_pos (show 0 < q by omega)) hz1
      obtain ⟨j, hj, hdj⟩ := dvd_prime_pow hqp _ _ (hdo.dvd hp2 hz1)
      have hje : j = e + 1 := by
        apply Classical.byContradiction
        intro hne
        apply hz2
        rw [hdo.one_iff hp2, hdj]
        exact Nat.pow_dvd_pow q (by omega)
      subst hje
      rw [hdj] at hdo
      refine ⟨x ^ (m' * c) * y, ?_⟩
      rw [hm]
      exact hdo.mul hp2 hy ((hqp.cop hn).pow_left _)
/-- The primitive roots. -/
theorem root_exists {p : Nat} (hp : Pr p) : ∃ g, 1 ≤ g ∧ g < p ∧ Ord p g (p - 1) := by
  obtain ⟨x, hx⟩ := ord_all hp (p - 1) (by have := hp.1; omega) (Nat.dvd_refl _)
  have hn := not_dvd_of_pow hx.1 hx.2.1
  refine ⟨x % p, ?_, Nat.mod_lt _ (by have := hp.1; omega), hx.mod⟩
  have := mod_ne hn
  omega
/-- What is tried of a residue: no power by a quotient by a prime is 1. -/
theorem root_iff {p g : Nat} (hp : Pr p) (h1 : 1 ≤ g) (hg : g < p) : Ord p g (p - 1) ↔ ∀ q, Pr q → q ∣ p - 1 → g ^ ((p - 1) / q) % p ≠ 1 := by
  have hp2 := hp.1
  constructor
  · intro h q hq hd he
    obtain ⟨c, hc⟩ := hd
    rw [hc, Nat.mul_div_cancel_left c (by have := hq.1; omega)] at he
    have hc1 : 1 ≤ c := Nat.pos_of_ne_zero fun h => by subst h; omega
    refine h.2.2 c hc1 ?_ he
    rw [hc]
    calc c = 1 * c := (Nat.one_mul c).symm
      _ < q * c := Nat.mul_lt_mul_of_pos_right (by have := hq.1; omega) hc1
  · intro h
    obtain ⟨d, hd, c, hc⟩ := ord_of_prime hp (pr_not_dvd h1 hg)
    by_cases hc1 : c = 1
    · rw [hc, hc1, Nat.mul_one]; exact hd
    · exfalso
      have hc0 : c ≠ 0 := fun h => by subst h; omega
      obtain ⟨q, hq⟩ := least_exists c (by omega)
      obtain ⟨b, hb⟩ := hq.2.1
      have hqq := hq.prime
      refine h q hqq ⟨d * b, by rw [hc, hb]; ac_rfl⟩ ?_
      rw [hc, hb, show d * (q * b) = q * (d * b) by ac_rfl, Nat.mul_div_cancel_left _ (by have := hqq.1; omega)]
      exact pow_mul_one hp2 hd.2.1 b
/-- Logarithms. -/
theorem pow_inj {p g d : Nat} (hp : Pr p) (h : Ord p g d) {i j : Nat} (hi : i < d) (hj : j < d) (he : g ^ i % p = g ^ j % p) : i = j := by
  have key : ∀ i j, i ≤ j → j < d → g ^ i % p = g ^ j % p → i = j := by
    intro i j hij hj he
    have hn := not_dvd_of_pow h.1 h.2.1
    have hni : ¬ p ∣ g ^ i := fun h => hn (hp.dvd_pow h)
    have h2 : 1 * g ^ i % p = g ^ (j - i) * g ^ i % p := by
      rw [Nat.one_mul, ← Nat.pow_add, show j - i + i = j by omega]; exact he
    have h3 := cancel_mod hp hni h2
    rw [Nat.mod_eq_of_lt (by have := hp.1; omega)] at h3
    have h4 := h.dvd hp.1 h3.symm
    have : j - i = 0 := by
      apply Classical.byContradiction
      intro h5
      have := Nat.le_of_dvd (by omega) h4
      omega
    omega
  rcases Nat.le_total i j with hij | hij
  · exact key i j hij hj he
  · exact (key j i hij hi he.symm).symm
theorem log_exists {p g a : Nat} (hp : Pr p) (h : Ord p g (p - 1)) (h1 : 1 ≤ a) (ha : a < p) : ∃ k, k < p - 1 ∧ g ^ k % p = a := by
  have hn := not_dvd_of_pow h.1 h.2.1
  have hp2 := hp.1
  have := all_in (l := (List.range (p - 1)).map (fun k => g ^ k % p)) (n := p - 1) (by
      refine List.pairwise_map.2 ?_
      refine List.Pairwise.imp_of_mem ?_ List.nodup_range
      intro x y hx hy hxy he
      exact hxy (pow_inj hp h (List.mem_range.1 hx) (List.mem_range.1 hy) he))
    (fun x hx => by
      obtain ⟨k, _, rfl⟩ := List.mem_map.1 hx
      have h2 := mod_ne fun h => hn (hp.dvd_pow (n := k) h)
      have h3 := Nat.mod_lt (g ^ k) (show p > 0 by omega)
      omega) (by simp) a h1 (by omega)
  obtain ⟨k, hk, he⟩ := List.mem_map.1 this
  exact ⟨k, List.mem_range.1 hk, he⟩
/-! Prime factors -/
inductive Fac : Nat → List (Nat × Nat) → Prop
  | nil : Fac 1 []
  | cons (n q k m l) (hq : Least n q) (hk : 1 ≤ k) (hn : n = q ^ k * m) (hm : ¬ q ∣ m) (hl : Fac m l) : Fac n ((q, k) :: l)
theorem Fac.pos {n : Nat} {l : List (Nat × Nat)} (h : Fac n l) : 1 ≤ n := by
  induction h with
  | nil => exact Nat.le_refl 1
  | cons n q k m l hq hk hn hm hl ih => rw [hn]; exact Nat.mul_pos (Nat.pow_pos (by have := hq.1; omega)) ih
theorem pow_split_unique {q k k' m m' : Nat} (hq : 2 ≤ q) (h : q ^ k * m = q ^ k' * m') (hm : ¬ q ∣ m) (hm' : ¬ q ∣ m') : k = k' ∧ m = m' := by
  have key : ∀ k k' m m', k ≤ k' → q ^ k * m = q ^ k' * m' → ¬ q ∣ m → k = k' ∧ m = m' := by
    intro k k' m m' hle h hm
    obtain ⟨j, rfl⟩ : ∃ j, k' = k + j := ⟨k' - k, by omega⟩
    rw [Nat.pow_add, Nat.mul_assoc] at h
    have h2 := Nat.eq_of_mul_eq_mul_left (Nat.pow_pos (show 0 < q by omega)) h
    cases j with
    | zero => exact ⟨rfl, by rw [h2, Nat.pow_zero, Nat.one_mul]⟩
    | succ j => exact absurd ⟨q ^ j * m', by rw [h2, Nat.pow_succ]; simp only [Nat.mul_comm, Nat.mul_left_comm]⟩ hm
  rcases Nat.le_total k k' with hle | hle
  · exact key k k' m m' hle h hm
  · obtain ⟨a, b⟩ := key k' k m' m hle h.symm hm'
    exact ⟨a.symm, b.symm⟩
theorem Fac.unique {n : Nat} {l : List (Nat × Nat)} (h : Fac n l) : ∀ {l'}, Fac n l' → l = l' := by
  induction h with
  | nil =>
    intro l' h'
    cases h' with
    | nil => rfl
    | cons _ q k m l hq hk hn hm hl => have := Nat.le_of_dvd (by decide) hq.2.1; have := hq.1; omega
  | cons n q k m l hq hk hn hm hl ih =>
    intro l' h'
    cases h' with
    | nil => have := Nat.le_of_dvd (by decide) hq.2.1; have := hq.1; omega
    | cons _ q' k' m' l' hq' hk' hn' hm' hl' =>
      have := hq.unique hq'
      subst this
      obtain ⟨rfl, rfl⟩ := pow_split_unique hq.1 (hn.symm.trans hn') hm hm'
      rw [ih hl']
theorem fac_exists (n : Nat) (h : 1 ≤ n) : ∃ l, Fac n l := by
  induction n using Nat.strongRecOn with
  | ind n ih =>
    by_cases h1 : n = 1
    · subst h1; exact ⟨[], .nil⟩
    · obtain ⟨q, hq⟩ := least_exists n (by omega)
      obtain ⟨k, m, hn, hm⟩ := split_pow hq.prime n h
      have hk : 1 ≤ k := Nat.pos_of_ne_zero fun h0 => by
        subst h0
        rw [Nat.pow_zero, Nat.one_mul] at hn
        exact hm (hn ▸ hq.2.1)
      have hm1 : 1 ≤ m := Nat.pos_of_ne_zero fun h0 => by subst h0; omega
      have hlt : m < n := by
        have h2 := hq.1
        have : 2 ≤ q ^ k := by
          calc 2 ≤ q := h2
            _ = q ^ 1 := (Nat.pow_one q).symm
            _ ≤ q ^ k := Nat.pow_le_pow_right (by omega) hk
        rw [hn]
        calc m = 1 * m := (Nat.one_mul m).symm
          _ < q ^ k * m := Nat.mul_lt_mul_of_pos_right (by omega) hm1
      obtain ⟨l, hl⟩ := ih m hlt hm1
      exact ⟨(q, k) :: l, .cons n q k m l hq hk hn hm hl⟩
open Classical in
noncomputable def facs (n : Nat) : List (Nat × Nat) := if h : 1 ≤ n then Classical.choose (fac_exists n h) else []
theorem facs_fac {n : Nat} (h : 1 ≤ n) : Fac n (facs n) := by
  unfold facs
  rw [dif_pos h]
  exact Classical.choose_spec (fac_exists n h)
theorem Fac.eq {n : Nat} {l : List (Nat × Nat)} (h : Fac n l) : facs n = l := (facs_fac h.pos).unique h
def prodF : List (Nat × Nat) → Nat
  | [] => 1
  | (q, k) :: l => q ^ k * prodF l
theorem Fac.prod {n : Nat} {l : List (Nat × Nat)} (h : Fac n l) : prodF l = n := by
  induction h with
  | nil => rfl
  | cons n q k m l hq hk hn hm hl ih => show q ^ k * prodF l = n; rw [ih, hn]
theorem Fac.mem {n : Nat} {l : List (Nat × Nat)} (h : Fac n l) : ∀ q, (∃ k, (q, k) ∈ l) ↔ Pr q ∧ q ∣ n := by
  induction h with
  | nil =>
    intro q
    constructor
    · rintro ⟨k, hk⟩; simp at hk
    · rintro ⟨h1, h2⟩; have := Nat.le_of_dvd (by decide) h2; have := h1.1; omega
  | cons n q k m l hq hk hn hm hl ih =>
    intro r
    constructor
    · rintro ⟨j, hj⟩
      rcases List.mem_cons.1 hj with hj | hj
      · obtain ⟨rfl, rfl⟩ := Prod.mk.injEq .. ▸ hj
        exact ⟨hq.prime, hq.2.1⟩
      · obtain ⟨h1, h2⟩ := (ih r).1 ⟨j, hj⟩
        exact ⟨h1, hn ▸ Nat.dvd_trans h2 ⟨q ^ k, Nat.mul_comm _ _⟩⟩
    · rintro ⟨h1, h2⟩
      rw [hn] at h2
      rcases h1.dvd_mul h2 with h3 | h3
      · have h4 := h1.dvd_pow h3
        rcases hq.prime.2 _ h4 with h5 | h5
        · have := h1.1; omega
        · subst h5; exact ⟨k, by simp⟩
      · obtain ⟨j, hj⟩ := (ih r).2 ⟨h1, h3⟩
        exact ⟨j, List.mem_cons_of_mem _ hj⟩
theorem Fac.exps {n : Nat} {l : List (Nat × Nat)} (h : Fac n l) : ∀ x ∈ l, Pr x.1 ∧ x.1 ∣ n ∧ 1 ≤ x.2 ∧ x.1 ^ x.2 ∣ n := by
  induction h with
  | nil => intro x hx; simp at hx
  | cons n q k m l hq hk hn hm hl ih =>
    intro x hx
    rcases List.mem_cons.1 hx with rfl | hx
    · exact ⟨hq.prime, hq.2.1, hk, ⟨m, hn⟩⟩
    · obtain ⟨a, b, c, d⟩ := ih x hx
      exact ⟨a, hn ▸ Nat.dvd_trans b ⟨q ^ k, Nat.mul_comm _ _⟩, c, hn ▸ Nat.dvd_trans d ⟨q ^ k, Nat.mul_comm _ _⟩⟩
theorem Fac.asc {n : Nat} {l : List (Nat × Nat)} (h : Fac n l) : l.Pairwise (fun x y => x.1 < y.1) := by
  induction h with
  | nil => exact .nil
  | cons n q k m l hq hk hn hm hl ih =>
    refine List.pairwise_cons.2 ⟨fun y hy => ?_, ih⟩
    obtain ⟨a, b, c, d⟩ := hl.exps y hy
    have h1 := hq.2.2 y.1 a.1 (hn ▸ Nat.dvd_trans b ⟨q ^ k, Nat.mul_comm _ _⟩)
    have h2 : y.1 ≠ q := fun e => hm (e ▸ b)
    show q < y.1
    omega
theorem Fac.length {n : Nat} {l : List (Nat × Nat)} (h : Fac n l) : 2 ^ l.length ≤ n := by
  induction h with
  | nil => exact Nat.le_refl 1
  | cons n q k m l hq hk hn hm hl ih =>
    rw [List.length_cons, Nat.pow_succ, Nat.mul_comm, hn]
    refine Nat.mul_le_mul ?_ ih
    calc 2 ≤ q := hq.1
      _ = q ^ 1 := (Nat.pow_one q).symm
      _ ≤ q ^ k := Nat.pow_le_pow_right (by have := hq.1; omega) hk

/-! The order of a residue, by taking primes away -/
theorem order_stays {p x q n m : Nat} (hp : 2 ≤ p) (hd : m ∣ n) (h : ¬ (q ∣ n ∧ x ^ (n / q) % p = 1)) (hq : 1 ≤ q) : ¬ (q ∣ m ∧ x ^ (m / q) % p = 1) := by
  rintro ⟨⟨a, ha⟩, h2⟩
  obtain ⟨c, rfl⟩ := hd
  apply h
  subst ha
  refine ⟨⟨a * c, by rw [Nat.mul_assoc]⟩, ?_⟩
  rw [Nat.mul_div_cancel_left a hq] at h2
  rw [Nat.mul_assoc, Nat.mul_div_cancel_left (a * c) hq]
  exact pow_mul_one hp h2 c
theorem order_end {p x n : Nat} (hp : 2 ≤ p) (h1 : 1 ≤ n) (hx : x ^ n % p = 1) (h : ∀ q, Pr q → q ∣ n → ¬ (q ∣ n ∧ x ^ (n / q) % p = 1)) : Ord p x n := by
  obtain ⟨d, hd⟩ := ord_exists h1 hx
  obtain ⟨c, hc⟩ := hd.dvd hp hx
  by_cases hc1 : c = 1
  · rw [hc, hc1, Nat.mul_one]; exact hd
  · exfalso
    have hc0 : c ≠ 0 := fun h => by subst h; omega
    obtain ⟨q, hq⟩ := least_exists c (by omega)
    obtain ⟨b, hb⟩ := hq.2.1
    have hqq := hq.prime
    have hn : n = q * (d * b) := by rw [hc, hb]; simp only [Nat.mul_left_comm]
    refine h q hqq ⟨d * b, hn⟩ ⟨⟨d * b, hn⟩, ?_⟩
    rw [hn, Nat.mul_div_cancel_left _ (by have := hqq.1; omega)]
    exact pow_mul_one hp hd.2.1 b

/-! The least root -/
def RootOf (p g : Nat) : Prop := 1 ≤ g ∧ g < p ∧ Ord p g (p - 1) ∧ ∀ r, 1 ≤ r → r < g → ¬ Ord p r (p - 1)
theorem RootOf.unique {p g h : Nat} (a : RootOf p g) (b : RootOf p h) : g = h := by
  rcases Nat.lt_trichotomy g h with hl | hl | hl
  · exact absurd a.2.2.1 (b.2.2.2 g a.1 hl)
  · exact hl
  · exact absurd b.2.2.1 (a.2.2.2 h b.1 hl)
/-- What is tried: the candidate x. -/
def Tried (p x : Nat) : Prop := ∀ q, Pr q → q ∣ p - 1 → x ^ ((p - 1) / q) % p ≠ 1
/-- The last candidate needs no trial. -/
theorem root_of_last {p x : Nat} (hp : Pr p) (h1 : 1 ≤ x) (hx : x ≤ p - 1) (hno : ∀ r, 1 ≤ r → r < x → ¬ Tried p r) (h : x = p - 1 ∨ Tried p x) : RootOf p x := by
  have hp2 := hp.1
  have hno' : ∀ r, 1 ≤ r → r < x → ¬ Ord p r (p - 1) := fun r a b c => hno r a b ((root_iff hp a (by omega)).1 c)
  refine ⟨h1, by omega, ?_, hno'⟩
  rcases h with h | h
  · obtain ⟨g, g1, gp, hg⟩ := root_exists hp
    by_cases hgx : g < x
    · exact absurd hg (hno' g g1 hgx)
    · have : g = x := by omega
      exact this ▸ hg
  · exact (root_iff hp h1 (by omega)).2 h
theorem rootof_exists {p : Nat} (hp : Pr p) : ∃ g, RootOf p g := by
  have hp2 := hp.1
  have key : ∀ k x, x + k = p - 1 → 1 ≤ x → (∀ r, 1 ≤ r → r < x → ¬ Tried p r) → ∃ g, RootOf p g := by
    intro k
    induction k with
    | zero => intro x hx h1 hno; exact ⟨x, root_of_last hp h1 (by omega) hno (Or.inl (by omega))⟩
    | succ k ih =>
      intro x hx h1 hno
      by_cases ht : Tried p x
      · exact ⟨x, root_of_last hp h1 (by omega) hno (Or.inr ht)⟩
      · refine ih (x + 1) (by omega) (by omega) (fun r a b => ?_)
        by_cases hr : r = x
        · exact hr ▸ ht
        · exact hno r a (by omega)
  exact key (p - 2) 1 (by omega) (Nat.le_refl 1) (fun r a b => by omega)

/-! Logarithms -/
def LogOf (p g a k : Nat) : Prop := k < p - 1 ∧ g ^ k % p = a
theorem LogOf.unique {p g a k m : Nat} (hp : Pr p) (hg : Ord p g (p - 1)) (h : LogOf p g a k) (h' : LogOf p g a m) : k = m :=
  pow_inj hp hg h.1 h'.1 (h.2.trans h'.2.symm)
theorem log_le {p g a x n k j : Nat} (hp : Pr p) (hg : Ord p g (p - 1)) (ha : LogOf p g a k) (_hn : n ≤ k) (hx : x * g ^ n % p = a) (hj : g ^ j % p = x) (hjn : n + j < p - 1) : k = n + j := by
  refine pow_inj hp hg ha.1 hjn ?_
  rw [ha.2, ← hx, ← hj, Nat.mod_mul_mod, ← Nat.pow_add, Nat.add_comm]
theorem log_rest {p g a x n k : Nat} (hp : Pr p) (hg : Ord p g (p - 1)) (ha : LogOf p g a k) (hn : n ≤ k) (hx : x * g ^ n % p = a) (hxp : x < p) : g ^ (k - n) % p = x := by
  have hng := not_dvd_of_pow hg.1 hg.2.1
  have h1 : g ^ (k - n) * g ^ n % p = x * g ^ n % p := by rw [← Nat.pow_add, show k - n + n = k by omega, ha.2, hx]
  have h2 := cancel_mod hp (fun h => hng (hp.dvd_pow h)) h1
  rw [h2]; exact Nat.mod_eq_of_lt hxp
theorem inverse_pow {p x : Nat} (hp : Pr p) (h : ¬ p ∣ x) : x * x ^ (p - 2) % p = 1 := by
  have hp2 := hp.1
  rw [← Nat.pow_succ', show (p - 2).succ = p - 1 by omega]
  exact fermat hp h

/-! Squares -/
def HasSqrt (p x : Nat) : Prop := ∃ s, s < p ∧ s * s % p = x
def SqrtOf (p x s : Nat) : Prop := s < p ∧ s * s % p = x ∧ ∀ t, t < s → t * t % p ≠ x
theorem SqrtOf.unique {p x s t : Nat} (a : SqrtOf p x s) (b : SqrtOf p x t) : s = t := by
  rcases Nat.lt_trichotomy s t with h | h | h
  · exact absurd a.2.1 (b.2.2 s h)
  · exact h
  · exact absurd b.2.1 (a.2.2 t h)
theorem pr_even {p : Nat} (hp : Pr p) (h : p ≠ 2) : 2 ∣ p - 1 := by
  have hp2 := hp.1
  rcases Nat.mod_two_eq_zero_or_one p with h2 | h2
  · rcases hp.2 2 (Nat.dvd_of_mod_eq_zero h2) with h3 | h3 <;> omega
  · exact ⟨(p - 1) / 2, by omega⟩
theorem log_parity {p g s x k : Nat} (hp : Pr p) (hg : Ord p g (p - 1)) (hx : LogOf p g x k) (hs : s * s % p = x) : k % 2 = 0 := by
  have hp2 := hp.1
  by_cases hpp : p = 2
  · subst hpp; have := hx.1; omega
  · obtain ⟨c, hc⟩ := pr_even hp hpp
    have hn := not_dvd_of_pow hg.1 hg.2.1
    have hxn : ¬ p ∣ s := by
      intro hd
      have h1 : s * s % p = 0 := Nat.mod_eq_zero_of_dvd (Nat.dvd_trans hd ⟨s, rfl⟩)
      have h2 := mod_ne (fun h => hn (hp.dvd_pow (n := k) h))
      have := hx.2
      omega
    obtain ⟨m, hm, he⟩ := log_exists hp hg (a := s % p) (by have := mod_ne hxn; omega) (Nat.mod_lt _ (by omega))
    have h1 : g ^ (2 * m) % p = x := by
      rw [Nat.two_mul, pow_add_mod, he, ← Nat.mul_mod, hs]
    -- k ≡ 2m mod p-1
    have h3 : g ^ ((2 * m) % (p - 1)) % p = x := by
      have h4 := pow_add_mod (p := p) (x := g) ((p - 1) * (2 * m / (p - 1))) (2 * m % (p - 1))
      rw [Nat.div_add_mod, h1, pow_mul_one hp2 hg.2.1, Nat.one_mul, Nat.mod_mod] at h4
      exact h4.symm
    have h5 := pow_inj hp hg hx.1 (Nat.mod_lt _ (by omega)) (hx.2.trans h3.symm)
    rw [h5, hc, Nat.mul_mod_mul_left]
    omega
theorem sq_eq {p s y : Nat} (hp : Pr p) (hs : s < p) (hy1 : 1 ≤ y) (hy : y < p) (h : s * s % p = y * y % p) : s = y ∨ s = p - y := by
  have key : ∀ s y : Nat, s ≤ y → 1 ≤ y → y < p → s * s % p = y * y % p → s = y ∨ s = p - y := by
    intro s y hsy h1 hy h
    have h1 : (y * y - s * s) % p = 0 := Nat.sub_mod_eq_zero_of_mod_eq h.symm
    have h2 : y * y - s * s = (y - s) * (y + s) := by
      obtain ⟨d, rfl⟩ : ∃ d, y = s + d := ⟨y - s, by omega⟩
      rw [show s + d - s = d by omega, Nat.add_mul, Nat.mul_add, Nat.mul_add, Nat.mul_add, Nat.mul_add, Nat.mul_comm d s]
      omega
    rw [h2] at h1
    rcases hp.dvd_mul (Nat.dvd_of_mod_eq_zero h1) with h3 | h3
    · left
      apply Classical.byContradiction
      intro hne
      have := Nat.le_of_dvd (by omega) h3
      omega
    · right
      obtain ⟨c, hc⟩ := h3
      have : c = 1 := by
        rcases c with _ | _ | c
        · omega
        · rfl
        · have : p * (c + 1 + 1) = p * c + p + p := by rw [Nat.mul_add, Nat.mul_add]; omega
          omega
      subst this
      omega
  rcases Nat.le_total s y with hl | hl
  · exact key s y hl hy1 hy h
  · rcases key y s hl (by omega) hs h.symm with h1 | h1 <;> omega
theorem neg_sq {p y : Nat} (hy : y ≤ p) : (p - y) * (p - y) % p = y * y % p := by
  obtain ⟨d, rfl⟩ : ∃ d, p = y + d := ⟨p - y, by omega⟩
  rw [show y + d - y = d by omega]
  have h1 : d * d + (y + d) * y = y * y + (y + d) * d := by
    rw [Nat.add_mul, Nat.add_mul, Nat.mul_comm d y]; omega
  have h2 := congrArg (· % (y + d)) h1
  simpa using h2
theorem sqrt_least {p x y : Nat} (hp : Pr p) (hy1 : 1 ≤ y) (hy : y < p) (h : y * y % p = x) : SqrtOf p x (min y (p - y)) := by
  refine ⟨by omega, ?_, fun t ht he => ?_⟩
  · rcases Nat.le_total y (p - y) with hl | hl
    · rw [Nat.min_eq_left hl, h]
    · rw [Nat.min_eq_right hl, neg_sq (by omega), h]
  · have := sq_eq hp (by omega) hy1 hy (he.trans h.symm)
    omega
theorem pow_lt_ne {p g k : Nat} (hp : Pr p) (hn : ¬ p ∣ g) : 1 ≤ g ^ k % p ∧ g ^ k % p < p := by
  have h2 := mod_ne (fun h => hn (hp.dvd_pow (n := k) h))
  have h3 := Nat.mod_lt (g ^ k) (show p > 0 by have := hp.1; omega)
  omega
theorem sqrt_even {p g x k : Nat} (hp : Pr p) (hg : Ord p g (p - 1)) (hx : LogOf p g x k) (he : k % 2 = 0) : SqrtOf p x (min (g ^ (k / 2) % p) (p - g ^ (k / 2) % p)) := by
  have hn := not_dvd_of_pow hg.1 hg.2.1
  obtain ⟨a, b⟩ := pow_lt_ne (k := k / 2) hp hn
  refine sqrt_least hp a b ?_
  rw [← Nat.mul_mod, ← Nat.pow_add, show k / 2 + k / 2 = k by omega, hx.2]
theorem sqrt_odd {p g x k : Nat} (hp : Pr p) (hg : Ord p g (p - 1)) (hx : LogOf p g x k) (he : k % 2 = 1) : ¬ HasSqrt p x := by
  rintro ⟨s, _, hs⟩
  have := log_parity hp hg hx hs
  omega
/-- Euler. -/
theorem euler {p x : Nat} (hp : Pr p) (h1 : 1 ≤ x) (hx : x < p) : x ^ ((p - 1) / 2) % p = 1 ↔ HasSqrt p x := by
  have hp2 := hp.1
  obtain ⟨g, hg1, hgp, hg⟩ := root_exists hp
  obtain ⟨k, hk, he⟩ := log_exists hp hg h1 hx
  have hiff : x ^ ((p - 1) / 2) % p = 1 ↔ k % 2 = 0 := by
    rw [← he, ← Nat.pow_mod, ← Nat.pow_mul, hg.one_iff hp2]
    by_cases hpp : p = 2
    · subst hpp
      have : k = 0 := by omega
      subst this
      simp
    · obtain ⟨c, hc⟩ := pr_even hp hpp
      rw [hc, Nat.mul_div_cancel_left c (by decide)]
      have hc1 : 1 ≤ c := by omega
      constructor
      · rintro ⟨d, hd⟩
        have : k = 2 * d := Nat.eq_of_mul_eq_mul_right hc1 (by rw [hd]; simp only [Nat.mul_comm, Nat.mul_left_comm])
        omega
      · intro h
        exact ⟨k / 2, by
          calc k * c = 2 * (k / 2) * c := by rw [show 2 * (k / 2) = k by omega]
            _ = 2 * c * (k / 2) := by simp only [Nat.mul_comm, Nat.mul_left_comm]⟩
  rw [hiff]
  constructor
  · intro h
    have := sqrt_even hp hg ⟨hk, he⟩ h
    exact ⟨_, this.1, this.2.1⟩
  · rintro ⟨s, _, hs⟩
    exact log_parity hp hg ⟨hk, he⟩ hs
end Go.Proofs.YtinoomcboinokaaGreat.Num

/- Lists and grids of ints in memory, by functions. -/
namespace Go.Proofs.YtinoomcboinokaaGreat
open Go Go.RowKit

/-- The slice v reads, in w, as the n ints f 0, f 1, ..; its cells lie in a block of S. -/
def Vec (w : World) (S : Nat → Prop) (v : Value) (n : Nat) (f : Nat → Int) : Prop :=
  ∃ A c, v = .slice A n c ∧ n ≤ c ∧ (0 < n → ∃ b o, A = some ⟨b, o, none⟩ ∧ S b ∧ ∀ j, j < n → w.cell? ⟨b, o + j, none⟩ = some (.int .i64 (f j)))
theorem Vec.keep {w w' : World} {S S' : Nat → Prop} {v : Value} {n : Nat} {f g : Nat → Int} (h : Vec w S v n f) (hS : ∀ b, S b → S' b) (hk : ∀ p : Addr, S p.block → w'.cell? p = w.cell? p) (hf : ∀ j, j < n → f j = g j) : Vec w' S' v n g := by
  obtain ⟨A, c, rfl, hc, h⟩ := h
  refine ⟨A, c, rfl, hc, fun hn => ?_⟩
  obtain ⟨b, o, rfl, hb, hcc⟩ := h hn
  exact ⟨b, o, rfl, hS _ hb, fun j hj => (hk _ hb).trans (by rw [hcc j hj, hf j hj])⟩
theorem Vec.more {w : World} {S S' : Nat → Prop} {v : Value} {n : Nat} {f : Nat → Int} (h : Vec w S v n f) (hS : ∀ b, S b → S' b) : Vec w S' v n f := h.keep hS (fun _ _ => rfl) (fun _ _ => rfl)
theorem Vec.congr {w : World} {S : Nat → Prop} {v : Value} {n : Nat} {f g : Nat → Int} (h : Vec w S v n f) (hf : ∀ j, j < n → f j = g j) : Vec w S v n g := h.keep (fun _ h => h) (fun _ _ => rfl) hf
theorem Vec.below {w w' : World} {S : Nat → Prop} {B : Nat} {v : Value} {n : Nat} {f : Nat → Int} (h : Vec w S v n f) (hS : ∀ b, S b → b < B) (hb : Below B w w') : Vec w' S v n f := h.keep (fun _ h => h) (fun _ hp => hb.cell (hS _ hp)) (fun _ _ => rfl)
theorem Vec.set {w : World} {S : Nat → Prop} {v : Value} {n : Nat} {f : Nat → Int} (h : Vec w S v n f) {p : Addr} (hp : ¬ S p.block) (u : Value) : Vec (w.setCell p u) S v n f :=
  h.keep (fun _ h => h) (fun q hq => World.cell?_setCell_other _ _ _ _ (fun e => hp (by rw [e]; exact hq))) (fun _ _ => rfl)
theorem Vec.form {w : World} {S : Nat → Prop} {v : Value} {n : Nat} {f : Nat → Int} (h : Vec w S v n f) : ∃ A c, v = .slice A n c ∧ n ≤ c := by
  obtain ⟨A, c, e, h, _⟩ := h; exact ⟨A, c, e, h⟩
theorem Vec.at_ {w : World} {S : Nat → Prop} {v : Value} {n : Nat} {f : Nat → Int} (h : Vec w S v n f) (hn : 0 < n) :
    ∃ b o c, v = .slice (some ⟨b, o, none⟩) n c ∧ n ≤ c ∧ S b ∧ ∀ j, j < n → w.cell? ⟨b, o + j, none⟩ = some (.int .i64 (f j)) := by
  obtain ⟨A, c, rfl, hc, h⟩ := h
  obtain ⟨b, o, rfl, hb, hcc⟩ := h hn
  exact ⟨b, o, c, rfl, hc, hb, hcc⟩
theorem Vec.nil (w : World) (S : Nat → Prop) (f : Nat → Int) : Vec w S (.slice none 0 0) 0 f := ⟨none, 0, rfl, Nat.le_refl _, fun h => absurd h (by omega)⟩

/-- The slice v reads, in w, as m slices; the one at i reads as the n i ints f i. -/
def Grid (w : World) (S : Nat → Prop) (v : Value) (m : Nat) (n : Nat → Nat) (f : Nat → Nat → Int) : Prop :=
  ∃ A c, v = .slice A m c ∧ m ≤ c ∧ (0 < m → ∃ b o, A = some ⟨b, o, none⟩ ∧ S b ∧ ∀ i, i < m → ∃ r, w.cell? ⟨b, o + i, none⟩ = some r ∧ Vec w S r (n i) (f i))
theorem Grid.keep {w w' : World} {S S' : Nat → Prop} {v : Value} {m : Nat} {n n' : Nat → Nat} {f g : Nat → Nat → Int} (h : Grid w S v m n f) (hS : ∀ b, S b → S' b) (hk : ∀ p : Addr, S p.block → w'.cell? p = w.cell? p)
    (hn : ∀ i, i < m → n i = n' i) (hf : ∀ i, i < m → ∀ j, j < n i → f i j = g i j) : Grid w' S' v m n' g := by
  obtain ⟨A, c, rfl, hc, h⟩ := h
  refine ⟨A, c, rfl, hc, fun hn0 => ?_⟩
  obtain ⟨b, o, rfl, hb, hcc⟩ := h hn0
  refine ⟨b, o, rfl, hS _ hb, fun i hi => ?_⟩
  obtain ⟨r, h1, h2⟩ := hcc i hi
  refine ⟨r, (hk _ hb).trans h1, ?_⟩
  rw [← hn i hi]
  exact h2.keep hS hk (hf i hi)
theorem Grid.more {w : World} {S S' : Nat → Prop} {v : Value} {m : Nat} {n : Nat → Nat} {f : Nat → Nat → Int} (h : Grid w S v m n f) (hS : ∀ b, S b → S' b) : Grid w S' v m n f := h.keep hS (fun _ _ => rfl) (fun _ _ => rfl) (fun _ _ _ _ => rfl)
theorem Grid.congr {w : World} {S : Nat → Prop} {v : Value} {m : Nat} {n : Nat → Nat} {f g : Nat → Nat → Int} (h : Grid w S v m n f) (hf : ∀ i, i < m → ∀ j, j < n i → f i j = g i j) : Grid w S v m n g := h.keep (fun _ h => h) (fun _ _ => rfl) (fun _ _ => rfl) hf
theorem Grid.below {w w' : World} {S : Nat → Prop} {B : Nat} {v : Value} {m : Nat} {n : Nat → Nat} {f : Nat → Nat → Int} (h : Grid w S v m n f) (hS : ∀ b, S b → b < B) (hb : Below B w w') : Grid w' S v m n f :=
  h.keep (fun _ h => h) (fun _ hp => hb.cell (hS _ hp)) (fun _ _ => rfl) (fun _ _ _ _ => rfl)
theorem Grid.set {w : World} {S : Nat → Prop} {v : Value} {m : Nat} {n : Nat → Nat} {f : Nat → Nat → Int} (h : Grid w S v m n f) {p : Addr} (hp : ¬ S p.block) (u : Value) : Grid (w.setCell p u) S v m n f :=
  h.keep (fun _ h => h) (fun q hq => World.cell?_setCell_other _ _ _ _ (fun e => hp (by rw [e]; exact hq))) (fun _ _ => rfl) (fun _ _ _ _ => rfl)
theorem Grid.form {w : World} {S : Nat → Prop} {v : Value} {m : Nat} {n : Nat → Nat} {f : Nat → Nat → Int} (h : Grid w S v m n f) : ∃ A c, v = .slice A m c ∧ m ≤ c := by
  obtain ⟨A, c, e, h, _⟩ := h; exact ⟨A, c, e, h⟩
/-- The rows written out: their addresses and capacities. -/
theorem Grid.at_ {w : World} {S : Nat → Prop} {v : Value} {m : Nat} {n : Nat → Nat} {f : Nat → Nat → Int} (h : Grid w S v m n f) (hm : 0 < m) :
    ∃ b o c, ∃ RA : Nat → Option Addr, ∃ RC : Nat → Nat, v = .slice (some ⟨b, o, none⟩) m c ∧ m ≤ c ∧ S b ∧ ∀ i, i < m → w.cell? ⟨b, o + i, none⟩ = some (.slice (RA i) (n i) (RC i)) ∧ Vec w S (.slice (RA i) (n i) (RC i)) (n i) (f i) := by
  obtain ⟨A, c, rfl, hc, h⟩ := h
  obtain ⟨b, o, rfl, hb, hcc⟩ := h hm
  have key : ∀ i, ∃ A' c', i < m → w.cell? ⟨b, o + i, none⟩ = some (.slice A' (n i) c') ∧ Vec w S (.slice A' (n i) c') (n i) (f i) := fun i => by
    by_cases hi : i < m
    · obtain ⟨r, h1, h2⟩ := hcc i hi
      obtain ⟨A', c', rfl, _⟩ := h2.form
      exact ⟨A', c', fun _ => ⟨h1, h2⟩⟩
    · exact ⟨none, 0, fun h => absurd h hi⟩
  refine ⟨b, o, c, fun i => (key i).choose, fun i => (key i).choose_spec.choose, rfl, hc, hb, fun i hi => (key i).choose_spec.choose_spec hi⟩

/-- n cells by a function. -/
def CTab (n : Nat) (g : Nat → Value) : Array Value := Array.ofFn (n := n) fun i => g i.val
theorem CTab_get (n : Nat) (g : Nat → Value) (i : Nat) (hi : i < n) : (CTab n g)[i]? = some (g i) := by simp [CTab, hi]
theorem CTab_size (n : Nat) (g : Nat → Value) : (CTab n g).size = n := by simp [CTab]
theorem CTab_congr (n : Nat) (f g : Nat → Value) (h : ∀ i, i < n → f i = g i) : CTab n f = CTab n g := by
  apply Array.ext
  · simp [CTab]
  · intro j h1 h2
    have hj : j < n := by simpa [CTab] using h2
    simp [CTab, h j hj]
theorem CTab_set (n : Nat) (g : Nat → Value) (i : Nat) (x : Value) : (CTab n g).setIfInBounds i x = CTab n (fun j => if j = i then x else g j) := by
  apply Array.ext
  · simp [CTab]
  · intro j h1 h2
    have hj : j < n := by simpa [CTab] using h2
    rw [Array.getElem_setIfInBounds (by simpa [CTab] using hj)]
    by_cases e : i = j
    · subst e; simp [CTab]
    · simp [CTab, if_neg e, if_neg (Ne.symm e)]
/-- k cells are filled, the others hold z. -/
def part (k : Nat) (g : Nat → Value) (z : Value) (i : Nat) : Value := if i < k then g i else z
theorem part_set (n k : Nat) (g : Nat → Value) (z x : Value) (hx : x = g k) : (CTab n (part k g z)).setIfInBounds k x = CTab n (part (k + 1) g z) := by
  rw [CTab_set, hx]
  refine CTab_congr _ _ _ fun i _ => ?_
  unfold part
  by_cases e : i = k
  · subst e; simp
  · by_cases h : i < k
    · rw [if_neg e, if_pos h, if_pos (by omega)]
    · rw [if_neg e, if_neg h, if_neg (by omega)]
theorem part_zero (n : Nat) (g : Nat → Value) (z : Value) : CTab n (part 0 g z) = CTab n (fun _ => z) := CTab_congr _ _ _ fun i _ => by simp [part]
theorem part_all (n : Nat) (g : Nat → Value) (z : Value) : CTab n (part n g z) = CTab n g := CTab_congr _ _ _ fun i h => by simp [part, h]
theorem part_congr (n k : Nat) (g h : Nat → Value) (z : Value) (e : ∀ i, i < k → g i = h i) : CTab n (part k g z) = CTab n (part k h z) := CTab_congr _ _ _ fun i _ => by
  unfold part; split
  · rename_i hi; exact e i hi
  · rfl
theorem madeCells_one (x : Value) (hx : x.cells = #[x]) (n : Nat) : madeCells x.cells n = CTab n (fun _ => x) := by
  apply Array.ext
  · simp [madeCells, CTab]
  · intro i h1 h2
    simp [madeCells, CTab, hx, Nat.mod_one]
def iv (f : Nat → Int) (i : Nat) : Value := .int .i64 (f i)

theorem info3m : (Tryz.prog.info? 3).map (fun i => (i.zero, i.size, i.bytes)) = some (some (.int .i64 0), 1, 8) := by kernel_rfl
theorem info27m : (Tryz.prog.info? 22).map (fun i => (i.zero, i.size, i.bytes)) = some (some (.slice none 0 0), 1, 24) := by kernel_rfl
theorem make_ints (n : Nat) (hn : n ≤ 5864062014800) (W : World) : (Instr.makeSlice 22 (.int .i64 (n : Int)) (.int .i64 (n : Int))).run Tryz.prog W = .ok (.slice (some ⟨W.heap.size, 0, none⟩) n n) (W.alloc (.cells (CTab n fun _ => .int .i64 0) 3)) := by
  obtain ⟨i0, hi, hz0, hz1, hz2⟩ := info_parts info3m
  have h := run_make (P := Tryz.prog) W 22 3 i0 (.int .i64 0) (by kernel_rfl) hi hz0 .i64 .i64 (n : Int) (n : Int) (by omega) (by omega) (by rw [hz2]; omega) (by omega)
  rw [h, hz1, Nat.mul_one, Int.toNat_natCast, madeCells_one _ rfl]
theorem make_rows (n : Nat) (hn : n ≤ 5864062014800) (W : World) : (Instr.makeSlice 25 (.int .i64 (n : Int)) (.int .i64 (n : Int))).run Tryz.prog W = .ok (.slice (some ⟨W.heap.size, 0, none⟩) n n) (W.alloc (.cells (CTab n fun _ => .slice none 0 0) 22)) := by
  obtain ⟨i0, hi, hz0, hz1, hz2⟩ := info_parts info27m
  have h := run_make (P := Tryz.prog) W 25 22 i0 (.slice none 0 0) (by kernel_rfl) hi hz0 .i64 .i64 (n : Int) (n : Int) (by omega) (by omega) (by rw [hz2]; omega) (by omega)
  rw [h, hz1, Nat.mul_one, Int.toNat_natCast, madeCells_one _ rfl]

/-- A block of ints reads as their list. -/
theorem Row.vec {w : World} {S : Nat → Prop} {g n c : Nat} {f : Nat → Int} (h : Row w g 3 (CTab n (iv f))) (hS : S g) (hc : n ≤ c) : Vec w S (.slice (some ⟨g, 0, none⟩) n c) n f :=
  ⟨_, c, rfl, hc, fun _ => ⟨g, 0, rfl, hS, fun j hj => by rw [Nat.zero_add]; exact h.cell (CTab_get _ _ j hj)⟩⟩
theorem Row.grid {w : World} {S : Nat → Prop} {g m c : Nat} {t : TypeId} {r : Nat → Value} {n : Nat → Nat} {f : Nat → Nat → Int} (h : Row w g t (CTab m r)) (hS : S g) (hc : m ≤ c) (hr : ∀ i, i < m → Vec w S (r i) (n i) (f i)) : Grid w S (.slice (some ⟨g, 0, none⟩) m c) m n f :=
  ⟨_, c, rfl, hc, fun _ => ⟨g, 0, rfl, hS, fun i hi => ⟨r i, by rw [Nat.zero_add]; exact h.cell (CTab_get _ _ i hi), hr i hi⟩⟩⟩

/-- The blocks that are new in w'. -/
def New (w w' : World) (b : Nat) : Prop := w.heap.size ≤ b ∧ b < w'.heap.size
theorem Vec.new_lt {w w' W : World} {v : Value} {n : Nat} {f : Nat → Int} (h : Vec W (New w w') v n f) : Vec W (· < w'.heap.size) v n f := h.more fun _ h => h.2
theorem Vec.new_more {w0 w w' w1 W : World} {v : Value} {n : Nat} {f : Nat → Int} (h : Vec W (New w w') v n f) (h0 : w0.heap.size ≤ w.heap.size) (h1 : w'.heap.size ≤ w1.heap.size) : Vec W (New w0 w1) v n f := h.more fun _ h => ⟨Nat.le_trans h0 h.1, Nat.lt_of_lt_of_le h.2 h1⟩
/-- A call has given a list of ints: new memory; the old one is as it was. -/
def GivesV (w : World) (n : Nat) (f : Nat → Int) (e : Ending) (w' : World) : Prop := ∃ r, e = .returned r ∧ Vec w' (New w w') r n f ∧ Below w.heap.size w w'
theorem bcell {W w1 : World} (hb : Below W.heap.size W w1) : (∀ b o, b < W.heap.size → w1.cell? ⟨b, o, none⟩ = W.cell? ⟨b, o, none⟩) ∧ (∀ b o, b < W.heap.size → w1.frozen? ⟨b, o, none⟩ = W.frozen? ⟨b, o, none⟩) :=
  ⟨fun b o h => hb.cell (p := ⟨b, o, none⟩) h, fun b o h => hb.frozen (p := ⟨b, o, none⟩) h⟩
end Go.Proofs.YtinoomcboinokaaGreat

/- Slices of slices: v[k:], v[:k]. -/
namespace Go.Proofs.YtinoomcboinokaaGreat
open Go Go.RowKit

theorem addr_map (A : Option Addr) (k : Nat) (b o : Nat) (h : A = some ⟨b, o, none⟩) : A.map (·.add (k * 1)) = some ⟨b, o + k, none⟩ := by
  subst h
  by_cases hk : k = 0
  · subst hk; rfl
  · simp [Addr.add, hk]
theorem size3 (W : World) : (sizeOf (Tryz.prog.elem 22)).run Tryz.prog W = .ok 1 W := by
  obtain ⟨i0, hi, hz0, hz1, hz2⟩ := info_parts info3m
  have e : Tryz.prog.elem 22 = 3 := by kernel_rfl
  rw [e]; simp [sizeOf, typeInfo, hi, hz1]
theorem size27 (W : World) : (sizeOf (Tryz.prog.elem 25)).run Tryz.prog W = .ok 1 W := by
  obtain ⟨i0, hi, hz0, hz1, hz2⟩ := info_parts info27m
  have e : Tryz.prog.elem 25 = 22 := by kernel_rfl
  rw [e]; simp [sizeOf, typeInfo, hi, hz1]
theorem run_cutL (A : Option Addr) (n c k : Nat) (hk : k ≤ n) (hc : n ≤ c) : ∃ A', (∀ W, (Instr.slice 22 (.slice A n c) (some (.int .i64 (k : Int))) none none).run Tryz.prog W = .ok (.slice A' (n - k) (c - k)) W) ∧ (k < n → A' = A.map (·.add (k * 1))) := by
  refine ⟨if c = k then A else A.map (·.add (k * 1)), fun W => ?_, fun h => if_neg (by omega)⟩
  rw [run_slice_l W 22 A n c (by kernel_rfl) .i64 k (by omega) (by omega), size3, Int.toNat_natCast]; rfl
theorem run_cutLG (A : Option Addr) (n c k : Nat) (hk : k ≤ n) (hc : n ≤ c) : ∃ A', (∀ W, (Instr.slice 25 (.slice A n c) (some (.int .i64 (k : Int))) none none).run Tryz.prog W = .ok (.slice A' (n - k) (c - k)) W) ∧ (k < n → A' = A.map (·.add (k * 1))) := by
  refine ⟨if c = k then A else A.map (·.add (k * 1)), fun W => ?_, fun h => if_neg (by omega)⟩
  rw [run_slice_l W 25 A n c (by kernel_rfl) .i64 k (by omega) (by omega), size27, Int.toNat_natCast]; rfl
theorem run_cutH (A : Option Addr) (n c k : Nat) (hk : k ≤ n) (hc : n ≤ c) : ∃ A', (∀ W, (Instr.slice 22 (.slice A n c) none (some (.int .i64 (k : Int))) none).run Tryz.prog W = .ok (.slice A' k c) W) ∧ (0 < k → A' = A.map (·.add (0 * 1))) := by
  refine ⟨if c = 0 then A else A.map (·.add (0 * 1)), fun W => ?_, fun h => if_neg (by omega)⟩
  rw [run_slice_h W 22 A n c (by kernel_rfl) .i64 k (by omega) (by omega), size3, Int.toNat_natCast]; rfl
theorem run_cutHG (A : Option Addr) (n c k : Nat) (hk : k ≤ n) (hc : n ≤ c) : ∃ A', (∀ W, (Instr.slice 25 (.slice A n c) none (some (.int .i64 (k : Int))) none).run Tryz.prog W = .ok (.slice A' k c) W) ∧ (0 < k → A' = A.map (·.add (0 * 1))) := by
  refine ⟨if c = 0 then A else A.map (·.add (0 * 1)), fun W => ?_, fun h => if_neg (by omega)⟩
  rw [run_slice_h W 25 A n c (by kernel_rfl) .i64 k (by omega) (by omega), size27, Int.toNat_natCast]; rfl

/-- 'v[k:]' of ints. -/
theorem cut_suf {w : World} {S : Nat → Prop} {A : Option Addr} {n c : Nat} {f : Nat → Int} (h : Vec w S (.slice A n c) n f) {k : Nat} (hk : k ≤ n) :
    ∃ A', (∀ W, (Instr.slice 22 (.slice A n c) (some (.int .i64 (k : Int))) none none).run Tryz.prog W = .ok (.slice A' (n - k) (c - k)) W) ∧ Vec w S (.slice A' (n - k) (c - k)) (n - k) (fun j => f (k + j)) := by
  obtain ⟨A0, c0, e, hc, hv⟩ := h
  injection e with e1 _ e3
  subst e1; subst e3
  obtain ⟨A', h1, h2⟩ := run_cutL A n c k hk hc
  refine ⟨A', h1, A', c - k, rfl, by omega, fun h0 => ?_⟩
  obtain ⟨b, o, e, hb, hcc⟩ := hv (by omega)
  exact ⟨b, o + k, by rw [h2 (by omega), addr_map A k b o e], hb, fun j hj => by rw [Nat.add_assoc]; exact hcc (k + j) (by omega)⟩
/-- 'v[:k]' of ints. -/
theorem cut_pre {w : World} {S : Nat → Prop} {A : Option Addr} {n c : Nat} {f : Nat → Int} (h : Vec w S (.slice A n c) n f) {k : Nat} (hk : k ≤ n) :
    ∃ A', (∀ W, (Instr.slice 22 (.slice A n c) none (some (.int .i64 (k : Int))) none).run Tryz.prog W = .ok (.slice A' k c) W) ∧ Vec w S (.slice A' k c) k f := by
  obtain ⟨A0, c0, e, hc, hv⟩ := h
  injection e with e1 _ e3
  subst e1; subst e3
  obtain ⟨A', h1, h2⟩ := run_cutH A n c k hk hc
  refine ⟨A', h1, A', c, rfl, by omega, fun h0 => ?_⟩
  obtain ⟨b, o, e, hb, hcc⟩ := hv (by omega)
  exact ⟨b, o + 0, by rw [h2 h0, addr_map A 0 b o e], hb, fun j hj => hcc j (by omega)⟩
/-- 'v[k:]' of rows. -/
theorem cut_sufG {w : World} {S : Nat → Prop} {A : Option Addr} {m c : Nat} {n : Nat → Nat} {f : Nat → Nat → Int} (h : Grid w S (.slice A m c) m n f) {k : Nat} (hk : k ≤ m) :
    ∃ A', (∀ W, (Instr.slice 25 (.slice A m c) (some (.int .i64 (k : Int))) none none).run Tryz.prog W = .ok (.slice A' (m - k) (c - k)) W) ∧ Grid w S (.slice A' (m - k) (c - k)) (m - k) (fun i => n (k + i)) (fun i => f (k + i)) := by
  obtain ⟨A0, c0, e, hc, hv⟩ := h
  injection e with e1 _ e3
  subst e1; subst e3
  obtain ⟨A', h1, h2⟩ := run_cutLG A m c k hk hc
  refine ⟨A', h1, A', c - k, rfl, by omega, fun h0 => ?_⟩
  obtain ⟨b, o, e, hb, hcc⟩ := hv (by omega)
  exact ⟨b, o + k, by rw [h2 (by omega), addr_map A k b o e], hb, fun j hj => by rw [Nat.add_assoc]; exact hcc (k + j) (by omega)⟩
/-- 'v[:k]' of rows. -/
theorem cut_preG {w : World} {S : Nat → Prop} {A : Option Addr} {m c : Nat} {n : Nat → Nat} {f : Nat → Nat → Int} (h : Grid w S (.slice A m c) m n f) {k : Nat} (hk : k ≤ m) :
    ∃ A', (∀ W, (Instr.slice 25 (.slice A m c) none (some (.int .i64 (k : Int))) none).run Tryz.prog W = .ok (.slice A' k c) W) ∧ Grid w S (.slice A' k c) k n f := by
  obtain ⟨A0, c0, e, hc, hv⟩ := h
  injection e with e1 _ e3
  subst e1; subst e3
  obtain ⟨A', h1, h2⟩ := run_cutHG A m c k hk hc
  refine ⟨A', h1, A', c, rfl, by omega, fun h0 => ?_⟩
  obtain ⟨b, o, e, hb, hcc⟩ := hv (by omega)
  exact ⟨b, o + 0, by rw [h2 h0, addr_map A 0 b o e], hb, fun j hj => hcc j (by omega)⟩
end Go.Proofs.YtinoomcboinokaaGreat

/- prime.least, Is, product, power, pow. -/
namespace Go.Proofs.YtinoomcboinokaaGreat
open Go Go.RowKit Num

/-- A call has returned v; what lay below lies on. -/
def Ret (w : World) (v : Value) (e : Ending) (w' : World) : Prop := e = .returned v ∧ Below w.heap.size w w'

theorem sq_bound {k n : Nat} (h : k * k ≤ n) (hn : n ≤ 1000000000) : k ≤ 31622 := by
  apply Nat.le_of_not_lt
  intro hlt
  have : 31623 * 31623 ≤ k * k := Nat.mul_le_mul hlt hlt
  omega
/-- Between two rounds of least. -/
def LeastAt (n k : Nat) : Prop := 2 ≤ k ∧ k ≤ 31624 ∧ (k = 2 ∨ k % 2 = 1) ∧ ∀ e, 2 ≤ e → e < k → ¬ e ∣ n
theorem LeastAt.next {n k : Nat} (h : LeastAt n k) (hs : k * k ≤ n) (hn : n ≤ 1000000000) (hd : n % k ≠ 0) : LeastAt n (k + (1 + k % 2)) := by
  obtain ⟨h1, h2, h3, h4⟩ := h
  have hk := sq_bound hs hn
  refine ⟨by omega, by omega, by omega, fun e he hlt hdv => ?_⟩
  by_cases h5 : e < k
  · exact h4 e he h5 hdv
  · by_cases h6 : e = k
    · subst h6; exact hd (Nat.mod_eq_zero_of_dvd hdv)
    · have : e = k + 1 := by omega
      have hk2 : k ≠ 2 := by omega
      have h7 : 2 ∣ e := ⟨e / 2, by omega⟩
      exact h4 2 (Nat.le_refl 2) (by omega) (Nat.dvd_trans h7 hdv)

set_option maxRecDepth 100000 in
set_option maxHeartbeats 400000 in
theorem least_any (n q : Nat) (w : World) (h2 : 2 ≤ n) (hn : n ≤ 1000000000) (hq : Least n q) :
    Calls Tryz.prog 92 #[.int .i64 n] w fun e w' => e = .returned (.int .i64 q) ∧ w' = w := by
  have HQ := Lib.hid hq
  clear hq
  go_enter Tryz.func92, Tryz.ntmps92
  go_wp2
  go_loopw [3] (fun q wr => ∃ k : Nat, q = .int .i64 k ∧ Hid (LeastAt n k) ∧ wr = w) (fun q _ => 40000 - (intOf q).toNat)
  case atStart => exact ⟨2, rfl, Lib.hid ⟨by omega, by omega, by omega, fun e h1 h2 => by omega⟩, rfl⟩
  case round =>
    obtain ⟨k, rfl, hL, rfl⟩ := hrel
    have hk2 := hL.out.1
    have hk3 := hL.out.2.1
    have hm : IntKind.i64.wrap ((k : Int) * (k : Int)) = ((k * k : Nat) : Int) := by
      have : k * k ≤ 31624 * 31624 := Nat.mul_le_mul hk3 hk3
      rw [← Int.natCast_mul]
      exact IntWalk.i64_in _ ⟨by omega, by omega⟩
    have hne : ((k : Int) != 0) = true := by simp; omega
    by_cases hs : k * k ≤ n
    · have hsd : decide (((k * k : Nat) : Int) ≤ (n : Int)) = true := by simp; omega
      by_cases hd : n % k = 0
      · have hdv : Least n k := ⟨hk2, Nat.dvd_of_mod_eq_zero hd, fun e h1 h3 => Nat.le_of_not_lt fun h => hL.out.2.2.2 e h1 h h3⟩
        have HE := Lib.hid (hdv.unique HQ.out)
        have hdd : (((n : Int) % (k : Int)) == 0) = true := by
          rw [← Int.natCast_emod, hd]; rfl
        clear hdv hd
        go_wp2
        go_ret
        exact ⟨ret_int (by rw [HE.out]), rfl⟩
      · have HN := Lib.hid (hL.out.next hs hn hd)
        have hdd : (((n : Int) % (k : Int)) == 0) = false := by
          rw [← Int.natCast_emod]; simp; omega
        clear hd
        go_wp2
        go_roundw
        case rel => exact ⟨k + (1 + k % 2), by go_num, HN, trivial⟩
        case measure => simp [intOf]; omega
    · have hsd : decide (((k * k : Nat) : Int) ≤ (n : Int)) = false := by simp; omega
      have HE := Lib.hid ((least_self (d := k) h2 hL.out.2.2.2 (by omega)).unique HQ.out)
      go_wp2
      go_ret
      exact ⟨ret_int (by rw [HE.out]), rfl⟩

/-- Primes below 1,000,000. -/
def PrI (n : Int) : Prop := 2 ≤ n ∧ n < 1000000 ∧ Pr n.toNat
noncomputable def isP (n : Int) : Bool := @decide (PrI n) (Classical.propDecidable _)
theorem isP_true {n : Int} : isP n = true ↔ PrI n := @decide_eq_true_iff _ (Classical.propDecidable _)
theorem isP_false {n : Int} : isP n = false ↔ ¬ PrI n := @decide_eq_false_iff_not _ (Classical.propDecidable _)
theorem isP_nat {n : Nat} (h : n < 1000000) : isP (n : Int) = true ↔ Pr n := by
  rw [isP_true]
  exact ⟨fun h => h.2.2, fun h2 => ⟨by have := h2.1; omega, by omega, h2⟩⟩

set_option maxRecDepth 100000 in
set_option maxHeartbeats 400000 in
theorem Is_any (n : Int) (w : World) : Calls Tryz.prog 79 #[.int .i64 n] w fun e w' => e = .returned (.bool (isP n)) ∧ w' = w := by
  by_cases h1 : n ≤ 1
  · have HF : isP n = false := isP_false.2 fun h => by have := h.1; omega
    have hd : decide (n > 1) = false := by simp; omega
    rw [HF]
    go_enter Tryz.func79, Tryz.ntmps79
    go_wp2
    go_ret
    exact ⟨rfl, rfl⟩
  · have hd : decide (n > 1) = true := by simp; omega
    by_cases h2 : n < 1000000
    · obtain ⟨k, rfl⟩ : ∃ k : Nat, n = k := ⟨n.toNat, by omega⟩
      have hd2 : decide ((k : Int) < 1000000) = true := by simp; omega
      obtain ⟨q, hq⟩ := least_exists k (by omega)
      have HC := Lib.hid (least_any k q w (by omega) (by omega) hq)
      have HE : isP (k : Int) = ((q : Int) == (k : Int)) := by
        by_cases hqk : q = k
        · subst hqk
          rw [(isP_true (n := (q : Int))).2 ⟨by omega, by omega, hq.prime⟩]
          simp
        · rw [isP_false.2 fun h => hqk (by
            have := pr_iff_least.1 h.2.2
            exact hq.unique this)]
          symm
          simp
          omega
      rw [HE]
      clear HE hq
      go_enter Tryz.func79, Tryz.ntmps79
      go_wp2_with fail
      refine HC.out.mono ?_
      rintro e w' ⟨rfl, rfl⟩
      go_wp2
      go_ret
      exact ⟨rfl, rfl⟩
    · have HF : isP n = false := isP_false.2 fun h => by have := h.2.1; omega
      have hd2 : decide (n < 1000000) = false := by simp; omega
      rw [HF]
      go_enter Tryz.func79, Tryz.ntmps79
      go_wp2
      go_ret
      exact ⟨rfl, rfl⟩
end Go.Proofs.YtinoomcboinokaaGreat

/- prime.product, power, pow. -/
namespace Go.Proofs.YtinoomcboinokaaGreat
open Go Go.RowKit Num

set_option maxRecDepth 100000 in
set_option maxHeartbeats 400000 in
theorem product_any (p : Int) (w : World) : Calls Tryz.prog 101 #[.int .i64 p] w fun e w' =>
    e = .returned (.func (.func 113) #[] #[.pointer (some ⟨w.heap.size, 0, none⟩)]) ∧ w' = w.alloc (.cells #[.int .i64 p] 3) := by
  go_enter Tryz.func101, Tryz.ntmps101
  go_wp2
  go_ret
  exact ⟨rfl, rfl⟩
theorem mul_lt_big {x y p : Nat} (hx : x < p) (hy : y < p) (hp : p ≤ 1000000) : x * y ≤ 1000000000000 :=
  Nat.le_trans (Nat.mul_le_mul (show x ≤ 1000000 by omega) (show y ≤ 1000000 by omega)) (by decide)

set_option maxRecDepth 100000 in
set_option maxHeartbeats 400000 in
theorem times_any (x y p B : Nat) (w : World) (hx : x < p) (hy : y < p) (hp : p ≤ 1000000) (hb : Boxed w B 3 (.int .i64 p)) :
    Calls Tryz.prog 113 #[.int .i64 x, .int .i64 y, .pointer (some ⟨B, 0, none⟩)] w fun e w' => e = .returned (.int .i64 ((x * y % p : Nat) : Int)) ∧ w' = w := by
  have hc := hb.cell
  have hxy := mul_lt_big hx hy hp
  have hm : IntKind.i64.wrap ((x : Int) * (y : Int)) = ((x * y : Nat) : Int) := by
    rw [← Int.natCast_mul]; exact IntWalk.i64_in _ ⟨by omega, by omega⟩
  have hne : ((p : Int) != 0) = true := by simp; omega
  generalize hg : x * y = m at hm hxy ⊢
  have hmod : m % p < p := Nat.mod_lt _ (by omega)
  clear hb hg
  go_enter Tryz.func113, Tryz.ntmps113
  go_wp2
  go_ret
  exact ⟨ret_int (by simp), rfl⟩

/-- Between two rounds of power. -/
def PowAt (p r y m v : Nat) : Prop := r < p ∧ y < p ∧ r * y ^ m % p = v
theorem PowAt.even {p r y m v : Nat} (h : PowAt p r y m v) (he : m % 2 = 0) : PowAt p r (y * y % p) (m / 2) v := by
  obtain ⟨h1, h2, h3⟩ := h
  refine ⟨h1, Nat.mod_lt _ (by omega), ?_⟩
  rw [← h3, Nat.mul_mod, ← Nat.pow_mod, ← Nat.mul_mod, ← Nat.pow_two, ← Nat.pow_mul, show 2 * (m / 2) = m by omega]
theorem PowAt.odd {p r y m v : Nat} (h : PowAt p r y m v) (he : m % 2 = 1) : PowAt p (r * y % p) (y * y % p) (m / 2) v := by
  obtain ⟨h1, h2, h3⟩ := h
  refine ⟨Nat.mod_lt _ (by omega), Nat.mod_lt _ (by omega), ?_⟩
  rw [← h3, Nat.mul_mod, ← Nat.pow_mod, Nat.mod_mod, ← Nat.mul_mod, ← Nat.pow_two, ← Nat.pow_mul, Nat.mul_assoc, ← Nat.pow_succ', show (2 * (m / 2)).succ = m by omega]
theorem PowAt.zero {p r y v : Nat} (h : PowAt p r y 0 v) : r = v := by
  have := h.2.2
  rw [Nat.pow_zero, Nat.mul_one, Nat.mod_eq_of_lt h.1] at this
  exact this

set_option maxRecDepth 100000 in
set_option maxHeartbeats 1000000 in
theorem power_any (x n p B : Nat) (w : World) (hx : x < p) (h2 : 2 ≤ p) (hp : p ≤ 1000000) (hn : n < 18446744073709551616) (hb : Boxed w B 3 (.int .i64 p)) :
    Calls Tryz.prog 100 #[.int .i64 1, .int .i64 x, .int .u64 n, .func (.func 113) #[] #[.pointer (some ⟨B, 0, none⟩)]] w fun e w' => e = .returned (.int .i64 ((x ^ n % p : Nat) : Int)) ∧ w' = w := by
  have HT := fun x y a b => Lib.hid (times_any x y p B w a b hp hb)
  have HS : Hid (PowAt p 1 x n (x ^ n % p)) := Lib.hid ⟨by omega, hx, by rw [Nat.one_mul]⟩
  generalize x ^ n % p = v at HS ⊢
  clear hb
  go_enter Tryz.func100, Tryz.ntmps100
  go_wp2
  go_loopw [1, 2, 9] (fun t1 t2 t9 wr => ∃ r y m : Nat, t9 = .int .i64 r ∧ t1 = .int .i64 y ∧ t2 = .int .u64 m ∧ m < 18446744073709551616 ∧ Hid (PowAt p r y m v) ∧ wr = w) (fun _ t2 _ _ => (intOf t2).toNat)
  case atStart => exact ⟨1, x, n, rfl, rfl, rfl, hn, HS, rfl⟩
  case round =>
    obtain ⟨r, y, m, rfl, rfl, rfl, hm, hA, rfl⟩ := hrel
    have hr := hA.out.1
    have hy := hA.out.2.1
    have hyy : y * y % p < p := Nat.mod_lt _ (by omega)
    have hry : r * y % p < p := Nat.mod_lt _ (by omega)
    by_cases h0 : m = 0
    · subst h0
      have HE := Lib.hid hA.out.zero
      go_wp2
      go_ret
      exact ⟨ret_int (by rw [HE.out]), rfl⟩
    · have hpos : decide ((m : Int) > 0) = true := by simp; omega
      have hq : IntKind.u64.wrap ((m : Int) / 2) = ((m / 2 : Nat) : Int) := by rw [IntKind.wrap_u64]; omega
      have HT1 := HT r y hr hy
      have HT2 := HT y y hy hy
      by_cases h1 : m % 2 = 1
      · have HN := Lib.hid (hA.out.odd h1)
        have hd : (((m : Int) % 2) == 1) = true := by simp; omega
        go_wp2_with fail
        refine HT1.out.mono ?_
        rintro e w' ⟨rfl, rfl⟩
        go_wp2_with fail
        refine HT2.out.mono ?_
        rintro e w' ⟨rfl, rfl⟩
        go_wp2_with fail
        go_roundw
        case rel => exact ⟨_, _, m / 2, rfl, rfl, by go_num, by omega, HN, trivial⟩
        case measure => simp [intOf]; omega
      · have HN := Lib.hid (hA.out.even (by omega))
        have hd : (((m : Int) % 2) == 1) = false := by simp; omega
        go_wp2_with fail
        refine HT2.out.mono ?_
        rintro e w' ⟨rfl, rfl⟩
        go_wp2_with fail
        go_roundw
        case rel => exact ⟨_, _, m / 2, rfl, rfl, by go_num, by omega, HN, trivial⟩
        case measure => simp [intOf]; omega

set_option maxRecDepth 100000 in
set_option maxHeartbeats 400000 in
theorem pow_any (x n p : Nat) (w : World) (hx : x < p) (h2 : 2 ≤ p) (hp : p ≤ 1000000) (hn : n < 18446744073709551616) :
    Calls Tryz.prog 97 #[.int .i64 x, .int .u64 n, .int .i64 p] w fun e w' => e = .returned (.int .i64 ((x ^ n % p : Nat) : Int)) ∧ w' = w.alloc (.cells #[.int .i64 p] 3) := by
  have HC := Lib.hid (power_any x n p w.heap.size (w.alloc (.cells #[.int .i64 p] 3)) hx h2 hp hn (Boxed.new w 3 _))
  have HP := Lib.hid (product_any p w)
  generalize x ^ n % p = v at HC ⊢
  go_enter Tryz.func97, Tryz.ntmps97
  go_wp2_with fail
  refine HP.out.mono ?_
  rintro e w' ⟨rfl, rfl⟩
  go_wp2_with fail
  refine HC.out.mono ?_
  rintro e w' ⟨rfl, rfl⟩
  go_wp2
  go_ret
  exact ⟨rfl, rfl⟩
end Go.Proofs.YtinoomcboinokaaGreat

/- A law of the walk: a range over a function whose iterator keeps memory of its own between two rounds. For every program; the loop's body does not leave the loop. -/
namespace Go.Proofs.YtinoomcboinokaaGreat
open Go Go.RowKit

/-- What the caller says between two rounds abides new blocks, and turns of the iterator's own blocks and of blocks that hold no cells. G: the iterator's own blocks. -/
def AbidesG {α : Type} (B0 : Nat) (I : List α → (Nat → Prop) → World → Prop) : Prop :=
  ∀ s G G' A B row, I s G A → A.grownBy B row → (∀ r, row = some r → G r ∨ (B0 ≤ r ∧ ∃ o : Obj, A.heap[r]? = some o ∧ o.isCells = false)) →
    (∀ k, G' k → G k ∨ (A.heap.size ≤ k ∧ k < B.heap.size)) → I s G' B

/-- What a round keeps: the blocks below n0, the iterator's own, and those that hold no cells. -/
structure KeepG (K0 : Nat → Prop) (G : Nat → Prop) (W W' : World) : Prop where
  size : W.heap.size ≤ W'.heap.size
  same : ∀ (k : Nat) (o : Obj), W.heap[k]? = some o → (K0 k ∨ G k ∨ o.isCells = false) → W'.heap[k]? = some o

theorem KeepG.refl (K0 : Nat → Prop) (G : Nat → Prop) (W : World) : KeepG K0 G W W := ⟨Nat.le_refl _, fun _ _ h _ => h⟩
theorem KeepG.trans {K0 : Nat → Prop} {G : Nat → Prop} {A B C : World} (h : KeepG K0 G A B) (k : KeepG K0 G B C) : KeepG K0 G A C :=
  ⟨Nat.le_trans h.size k.size, fun i o hi ho => k.same i o (h.same i o hi ho) ho⟩
theorem KeepG.grown {K0 : Nat → Prop} {G : Nat → Prop} {A B C : World} {row : Option Nat} (h : KeepG K0 G A B) (hg : B.grownBy C row)
    (hr : ∀ r, row = some r → ¬ K0 r ∧ ¬ G r ∧ ∀ o : Obj, B.heap[r]? = some o → o.isCells = true) : KeepG K0 G A C :=
  h.trans ⟨hg.size, fun k o hk ho => by
    refine (hg.block k (Array.getElem?_eq_some_iff.1 hk).1 ?_).trans hk
    intro e
    obtain ⟨h1, h2, h3⟩ := hr k e.symm
    rcases ho with ho | ho | ho
    · exact h1 ho
    · exact h2 ho
    · rw [h3 o hk] at ho; cases ho⟩
theorem KeepG.alloc {K0 : Nat → Prop} {G : Nat → Prop} {A B : World} (h : KeepG K0 G A B) (o : Obj) : KeepG K0 G A (B.alloc o) :=
  h.grown (World.grownBy_alloc B o none) (fun r e => by cases e)
theorem KeepG.drew {K0 : Nat → Prop} {G : Nat → Prop} {A B : World} (h : KeepG K0 G A B) : KeepG K0 G A B.drew := ⟨h.size, h.same⟩
/-- A store into the caller's own box. -/
theorem KeepG.box {K0 : Nat → Prop} {G : Nat → Prop} {A B : World} (h : KeepG K0 G A B) {b : Nat} {t : TypeId} {v : Value} (hb : Boxed B b t v) (h1 : ¬ K0 b) (h2 : ¬ G b) (u : Value) : KeepG K0 G A (B.setCell ⟨b, 0, none⟩ u) :=
  h.grown (grownBy_setCell' B b u) (fun r e => by
    cases e
    refine ⟨h1, h2, fun o ho => ?_⟩
    rw [show B.heap[b]? = _ from hb] at ho; cases ho; rfl)

/-- The iterator's contract: whatever the body does within KeepG, the iterator hands it x after x, each with H x, and what has come in the end is S. -/
def SeqG {α : Type} (F : Fence) (n : Nat) (P : Program) (g : Nat) (lb : Array Value) (encs : α → Array Value) (K0 : Nat → Prop) (H : List α → α → World → Prop) (S : List α → Prop) (w : World) : Prop :=
  ∀ (l : Nat) (J : List α → (Nat → Prop) → World → Prop) (W : World), Below w.heap.size w W → AbidesG W.heap.size J →
    (∀ pre x G W1, J pre G W1 → H pre x W1 → YieldAt F (n - 1) P l (encs x) W1 fun e W' =>
      e = .returned (.bool true) ∧ J (pre ++ [x]) G W' ∧ W1.heap.size ≤ W'.heap.size ∧ ∀ (k : Nat) (o : Obj), W1.heap[k]? = some o → o.isCells = true → (K0 k ∨ G k) → W'.heap[k]? = some o) →
    J [] (fun _ => False) W →
    CallsIn F n P g (#[.func (.yield l) #[] #[]] ++ lb) W fun e W' => (∃ v, e = .returned v) ∧ ∃ xs G, S xs ∧ J xs G W'

def postG {α : Type} (K0 : Nat → Prop) (G : Nat → Prop) (I : List α → (Nat → Prop) → World → Prop) (xs : List α) (W : World) : Exit → Act → World → Prop
  | .normal, _, W' => KeepG K0 G W W' ∧ I xs G W'
  | _, _, _ => False

variable {F : Fence} {n : Nat} {P : Program}

theorem wpIn_rangeG {α : Type} {g : Operand} {ps : Array Tmp} {assign body : Code} {Q : Exit → Act → World → Prop} {a : Act} {w : World}
    (hro : F.round = none) (h1 : 1 ≤ n) {gf : Nat} {lb : Array Value} (hg : a.eval g = .func (.func gf) #[] lb) (hFg : F.fn gf) (eg : ∀ args w, (callFunc gf args).run P w = .ok (.enter gf args) w)
    {encs : α → Array Value} {K0 : Nat → Prop} {H : List α → α → World → Prop} {S : List α → Prop} (hseq : SeqG F (n - 1) P gf lb encs K0 H S w) (hps : ∀ x, (encs x).size = ps.size)
    (hH : ∀ pre x W l o o', H pre x W → W.heap[l]? = some o → o.isCells = false → H pre x (W.putObj l o'))
    (I : List α → (Nat → Prop) → World → Prop) (hI : AbidesG w.heap.size I) (h0 : I [] (fun _ => False) w) (a₁ : α → Act)
    (hassign : ∀ (l : Nat) (x : α) (W : World) (K : Act → World → Prop), K (a₁ x) W →
      assign.wpIn (F.inRound l) (n - 1 - 1) P (Exit.then K (fun _ _ _ => False)) { tmps := (ps.zip (encs x)).foldl (fun t (p, v) => t.setIfInBounds p v) a.tmps, defers := [] } W)
    (hbody : ∀ (l : Nat) (pre : List α) (x : α) (G : Nat → Prop) (W : World), I pre G W → H pre x W → body.wpIn (F.inRound l) (n - 1 - 1) P (postG K0 G I (pre ++ [x]) W) (a₁ x) W)
    (hdone : ∀ (D : Nat) (xs : List α) (G : Nat → Prop) (W : World), w.heap.size ≤ D → S xs → I xs G W → W.heap[D]? = some (.deferred (some [])) → Q .normal { a with defers := { target := .collected D, args := #[] } :: a.defers } W) :
    (Code.rangeFunc g ps assign body).wpIn F n P Q a w := by
  refine wpIn_rangeFunc ?_
  intro fn hfn
  rw [hro]
  obtain ⟨rec, hrec⟩ : ∃ rec : LoopState → Option Code → Loop, rec = fun st pe => { state := st, pending := pe, fn, tmps := a.tmps, params := ps, assign, body, defers := w.heap.size } := ⟨_, rfl⟩
  obtain ⟨W1, hW1⟩ : ∃ W1, (w.alloc (.deferred (some []))).alloc (.loop (rec .ready none)) = W1 := ⟨_, rfl⟩
  have hL1 : W1.heap[w.heap.size + 1]? = some (.loop (rec .ready none)) := by
    rw [← hW1]; have := World.alloc_heap_new (w.alloc (.deferred (some []))) (.loop (rec .ready none)); rwa [World.size_alloc] at this
  have hK1 : W1.heap[w.heap.size]? = some (.deferred (some [])) := by
    rw [← hW1]; exact (Below.heap_alloc _ _ _ (by simp)).trans (World.alloc_heap_new w _)
  have hI1 : I [] (fun _ => False) W1 := by
    rw [← hW1]
    refine hI _ _ _ _ _ none (hI _ _ _ _ _ none h0 (World.grownBy_alloc _ _ none) (fun r e => by cases e) (fun k h => .inl h)) (World.grownBy_alloc _ _ none) (fun r e => by cases e) (fun k h => .inl h)
  have hb1 : Below w.heap.size w W1 := by
    rw [← hW1]; exact (((Below.refl _ w).alloc (Nat.le_refl _) _).alloc (by simp) _)
  have hz1 : W1.heap.size = w.heap.size + 2 := by rw [← hW1]; simp
  refine ⟨w.heap.size + 1, [{ target := .collected w.heap.size, args := #[] }], W1, { target := .fn (.func gf) lb, args := #[.func (.yield (w.heap.size + 1)) #[] #[]] }, W1, gf,
    #[.func (.yield (w.heap.size + 1)) #[] #[]] ++ lb, W1, ?_, ?_, ?_, ?_, fun _ => h1, ?_⟩
  · rw [← hW1, hrec]; exact run_enterLoop_outer _ _ _ _ _
  · simp only [resolve, hg]
    simp [go_sem]
  · intro f' hf'; simp [Target.leads] at hf'; subst hf'; exact hFg
  · simp [invoke, go_sem, eg]
  · refine (hseq (w.heap.size + 1)
      (fun pre G W => I pre G W ∧ (W.heap[w.heap.size + 1]? = some (.loop (rec .ready none)) ∧ ¬ G (w.heap.size + 1)) ∧ (W.heap[w.heap.size]? = some (.deferred (some [])) ∧ ¬ G w.heap.size))
      W1 hb1 ?_ ?_ ⟨hI1, ⟨hL1, id⟩, ⟨hK1, id⟩⟩).mono ?_
    · rintro s G G' A B row ⟨hi, ⟨hl, hl'⟩, ⟨hk, hk'⟩⟩ hg' hr hG
      have h1 := (Array.getElem?_eq_some_iff.1 hl).1
      have far : ∀ k, k < w.heap.size + 2 → ¬ G k → some k ≠ row := fun k hk hn e => by
        rcases hr k e.symm with h | ⟨h, _⟩
        · exact hn h
        · omega
      refine ⟨hI s G G' A B row hi hg' (fun r e => ?_) hG, ⟨(hg'.block _ h1 (far _ (by omega) hl')).trans hl, fun h => ?_⟩, ⟨(hg'.block _ (by omega) (far _ (by omega) hk')).trans hk, fun h => ?_⟩⟩
      · rcases hr r e with h | ⟨h, h'⟩
        · exact .inl h
        · exact .inr ⟨by omega, h'⟩
      · rcases hG _ h with h | h
        · exact hl' h
        · omega
      · rcases hG _ h with h | h
        · exact hk' h
        · omega
    · rintro pre x G W ⟨hi, ⟨hl, hl'⟩, ⟨hk, hk'⟩⟩ hx
      have hlt : w.heap.size + 1 < W.heap.size := (Array.getElem?_eq_some_iff.1 hl).1
      have hy := run_yield (P := P) (args := encs x) hl (by rw [hrec]; exact hps x)
      rw [hrec] at hy
      refine ⟨fn, _, assign, body, hy, roundIn_of_wpIn hfn (hassign _ x W _ ⟨_, run_beginRound hl (by rw [hrec]), ?_⟩)⟩
      clear hy
      obtain ⟨W2, hW2⟩ : ∃ W2, W.putObj (w.heap.size + 1) (.loop { rec .ready none with state := .busy }) = W2 := ⟨_, rfl⟩
      have hl2 : W2.heap[w.heap.size + 1]? = some (.loop { rec .ready none with state := .busy }) := by rw [← hW2]; exact World.putObj_heap_same hlt
      have hk2 : W2.heap[w.heap.size]? = some (.deferred (some [])) := by rw [← hW2]; exact (World.putObj_heap_other (by omega)).trans hk
      have hi2 : I pre G W2 := by
        rw [← hW2]
        exact hI _ _ _ _ _ _ hi (grownBy_putObj' W _ _) (fun r e => by cases e; exact .inr ⟨by omega, _, hl, rfl⟩) (fun k h => .inl h)
      have hx2 : H pre x W2 := by rw [← hW2]; exact hH pre x W _ _ _ hx hl rfl
      have hs2 : W2.heap.size = W.heap.size := by rw [← hW2]; simp
      have hc2 : ∀ (k : Nat) (o : Obj), W.heap[k]? = some o → o.isCells = true → W2.heap[k]? = some o := fun k o hk ho => by
        rw [← hW2]
        refine (World.putObj_heap_other ?_).trans hk
        rintro rfl
        rw [hl] at hk; cases hk; cases ho
      rw [hW2]
      refine wpIn_mono (hbody _ pre x G W2 hi2 hx2) ?_
      rintro e a3 W3 hp
      cases e with
      | normal =>
        obtain ⟨hk3, hi3⟩ := hp
        have hl3 := hk3.same _ _ hl2 (.inr (.inr rfl))
        have hd3 := hk3.same _ _ hk2 (.inr (.inr rfl))
        have he := run_endRound (P := P) none hl3
        have hlt3 := (Array.getElem?_eq_some_iff.1 hl3).1
        refine ⟨_, _, he, rfl, ⟨?_, ⟨?_, hl'⟩, ⟨(World.putObj_heap_other (by omega)).trans hd3, hk'⟩⟩, ?_, ?_⟩
        · exact hI _ _ _ _ _ _ hi3 (grownBy_putObj' W3 _ _) (fun r e => by cases e; exact .inr ⟨by omega, _, hl3, rfl⟩) (fun k h => .inl h)
        · rw [World.putObj_heap_same hlt3, hrec]; rfl
        · have := hk3.size; simp; omega
        · intro k o hk ho hG
          have h3 := hk3.same k o (hc2 k o hk ho) (by rcases hG with h | h; exact .inl h; exact .inr (.inl h))
          refine (World.putObj_heap_other ?_).trans h3
          rintro rfl
          rw [hl3] at h3; cases h3; cases ho
      | ret => exact hp.elim
      | exit id => exact hp.elim
      | goto t => exact hp.elim
      | panic ch => exact hp.elim
      | outgrown => exact hp.elim
    · rintro e W2 ⟨⟨v, rfl⟩, xs, G, hS, hi, ⟨hl, hl'⟩, ⟨hk, hk'⟩⟩
      have hlt := (Array.getElem?_eq_some_iff.1 hl).1
      refine ⟨none, _, by have := run_endLoop (P := P) hl (by rw [hrec]; simp); rw [hrec] at this; exact this, hdone _ xs G _ (Nat.le_refl _) hS ?_ ((World.putObj_heap_other (by omega)).trans hk)⟩
      exact hI _ _ _ _ _ _ hi (grownBy_putObj' W2 _ _) (fun r e => by cases e; exact .inr ⟨by omega, _, hl, rfl⟩) (fun k h => .inl h)


def noDefer (ops : Array Oper) : Bool := ops.toList.all fun o => match o.op with | .defer _ => false | _ => true
theorem noDefer_spec {ops : Array Oper} (h : noDefer ops = true) (i : Nat) (o : Oper) (ho : ops[i]? = some o) : ∀ c, o.op ≠ Op.defer c := by
  intro c e
  have hm : o ∈ ops.toList := by rw [Array.mem_toList_iff]; exact Array.mem_of_getElem? ho
  have := List.all_eq_true.1 h o hm
  rw [e] at this
  cases this
/-- In a round a region without a defer statement goes as in an activation. -/
theorem wpAnyIn_round {md : Region.Mode} {ops : Array Oper} {Q : Exit → Act → World → Prop} (l : Nat) (hnd : noDefer ops = true) :
    ∀ (fuel : Nat) (listed : Array Bool) (a : Act) (w : World), wpAnyIn F n P md ops Q fuel listed a w → wpAnyIn (F.inRound l) n P md ops Q fuel listed a w := by
  intro fuel
  induction fuel with
  | zero => intro listed a w h; exact h
  | succ fuel ih =>
    intro listed a w h
    refine ⟨h.1, fun i hi => ?_⟩
    have h1 := wpOpIn_mono (fun a w => ih (listed.setIfInBounds i true) a w) (h.2 i hi)
    unfold wpOpIn at h1 ⊢
    cases ho : ops[i]? with
    | none => rw [ho] at h1; exact h1
    | some o =>
      rw [ho] at h1
      simp only at h1 ⊢
      split
      · rename_i hw
        rw [if_pos hw] at h1
        unfold Oper.wpIn at h1 ⊢
        refine ⟨h1.1, ?_⟩
        have h2 := h1.2
        rw [Oper.semAt_plain F _ _ (noDefer_spec hnd i o ho)] at h2
        rw [Oper.semAt_plain (F.inRound l) _ _ (noDefer_spec hnd i o ho)]
        exact h2
      · rename_i hw
        rw [if_neg hw] at h1
        exact h1
theorem region_round {id : Nat} {ops : Array Oper} {Q : Exit → Act → World → Prop} {a : Act} {w : World} (l : Nat) (hnd : noDefer ops = true) (hm : P.follows .mixedOrders = true)
    (h : wpAnyIn F n P .any ops Q ops.size (Array.replicate ops.size false) a w.drew) : (Code.region id ops true).wpIn (F.inRound l) n P Q a w :=
  wpIn_region_any hm (wpAnyIn_round l hnd _ _ _ _ h)
end Go.Proofs.YtinoomcboinokaaGreat

/- For every program: a region that draws its order, in a round of a range over a function: by the laws of a region with held cells. -/
namespace Go.Proofs.YtinoomcboinokaaGreat
open Go Go.RowKit

theorem rowsIn_wide {n : Nat} {P : Program} {row : String} {args : Array Value} {w : World} {R : Value → World → Prop} (h : Rows P row args w R) : RowsIn Fence.wide n P row args w R :=
  fun c cs _ => let ⟨v, w', r, s⟩ := h c cs; ⟨v, w', r, stepsIn_wide.2 s⟩

theorem wpOpIn_wide {n : Nat} {P : Program} {ops : Array Oper} {Q : Exit → Act → World → Prop} (hQ : ¬ LetsOut Q) {i : Nat} {K K' : Act → World → Prop} {a : Act} {w : World}
    (hK : ∀ a w, K a w → K' a w) (h : wpOp P ops Q i K a w) : wpOpIn Fence.wide n P ops Q i K' a w := by
  unfold wpOp at h
  unfold wpOpIn
  cases ho : ops[i]? with
  | none => rw [ho] at h; exact hK _ _ h
  | some o =>
    rw [ho] at h
    simp only at h ⊢
    split
    · rename_i hw
      rw [if_pos hw] at h
      have h := h.resolve_right (fun h => hQ h.2)
      refine ⟨fun _ _ => trivial, ?_⟩
      show o.uponIn Fence.wide n P a K' Q ((execOp a.eval o).run P w)
      unfold Oper.wp at h
      generalize (execOp a.eval o).run P w = r at h ⊢
      cases r with
      | ok x w' =>
        cases x with
        | value v => exact hK _ _ h
        | skip => exact hK _ _ h
        | defer d => exact hK _ _ h
        | enter f args =>
          refine ⟨fun h => by simp [Fence.wide] at h, callsIn_wide.2 (Calls.mono h fun e w'' he => ?_)⟩
          cases e with
          | returned v => exact hK _ _ he
          | panicked ch => exact he
          | outgrown => exact he
        | row row args => exact ⟨fun h => by simp [Fence.wide] at h, rowsIn_wide (Rows.mono h fun v w'' he => hK _ _ he)⟩
        | _ => exact (h : False).elim
      | halt x w' => cases x <;> exact h
    · rename_i hw
      rw [if_neg hw] at h
      exact ⟨fun _ _ => trivial, hK _ _ h⟩

theorem wpAnyIn_wide {n : Nat} {P : Program} {md : Region.Mode} {ops : Array Oper} {Q : Exit → Act → World → Prop} (hQ : ¬ LetsOut Q) :
    ∀ (fuel : Nat) (listed : Array Bool) (a : Act) (w : World), wpAny P md ops Q fuel listed a w → wpAnyIn Fence.wide n P md ops Q fuel listed a w
  | 0, _, _, _, h => h
  | fuel + 1, _, _, _, h => ⟨h.1, fun i hi => wpOpIn_wide hQ (fun a' w' h' => wpAnyIn_wide hQ fuel _ a' w' h') (h.2 i hi)⟩

theorem region_round_held {n : Nat} {P : Program} {id : Nat} {ops : Array Oper} {Q : Exit → Act → World → Prop} {a : Act} {w : World} {S : World → Prop} (l : Nat) (hnd : noDefer ops = true) (hm : P.follows .mixedOrders = true) (hQ : ¬ LetsOut Q)
    (h : wpAnyH P .any ops Q S ops.size (Array.replicate ops.size false) a w.drew) : (Code.region id ops true).wpIn (Fence.wide.inRound l) n P Q a w :=
  region_round l hnd hm (wpAnyIn_wide hQ _ _ _ _ (wpAny_of_held _ _ _ _ h))
/-- Number i may be taken first; the frame written out. -/
theorem takeH {P : Program} {md : Region.Mode} {ops : Array Oper} {Q : Exit → Act → World → Prop} {S : World → Prop} {i d : Nat} {oi : Oper} {v : Value} {fuel : Nat} {listed : Array Bool} {T : Array Value} {D : List Deferred} {w : World} (hi : ops[i]? = some oi) (hd : oi.dst = some d)
    (hs : Region.noSelect ops = true) (hf : Region.free md ops listed i = true) (hr : (Region.ready md ops listed).contains i = true)
    (hQ : ∀ c a w, Q (.panic c) (a.put oi.dst v) w → Q (.panic c) a w) (hw : Region.wanted oi (yielded ops T) = true) (hv : ∀ w, S w → (execOp (Act.eval { tmps := T, defers := D }) oi).run P w = .ok (.value v) w) (hS : S w)
    (h : wpAnyH P md ops Q S fuel (listed.setIfInBounds i true) { tmps := T.setIfInBounds d v, defers := D } w) : wpAnyH P md ops Q S (fuel + 1) listed { tmps := T, defers := D } w :=
  wpAnyH_take hi hs hf hr hQ (Or.inl ⟨hw, hv⟩) hS (by rw [hd]; exact h)
/-- Number i is not wanted. -/
theorem skipH {P : Program} {md : Region.Mode} {ops : Array Oper} {Q : Exit → Act → World → Prop} {S : World → Prop} {i d : Nat} {oi : Oper} {fuel : Nat} {listed : Array Bool} {T : Array Value} {D : List Deferred} {w : World} (hi : ops[i]? = some oi) (hd : oi.dst = some d)
    (hs : Region.noSelect ops = true) (hf : Region.free md ops listed i = true) (hr : (Region.ready md ops listed).contains i = true)
    (hQ : ∀ c a w, Q (.panic c) (a.put oi.dst undef) w → Q (.panic c) a w) (hw : Region.wanted oi (yielded ops T) = false) (hS : S w)
    (h : wpAnyH P md ops Q S fuel (listed.setIfInBounds i true) { tmps := T.setIfInBounds d undef, defers := D } w) : wpAnyH P md ops Q S (fuel + 1) listed { tmps := T, defers := D } w :=
  wpAnyH_take hi hs hf hr hQ (Or.inr ⟨hw, rfl⟩) hS (by rw [hd]; exact h)
theorem _root_.Go.Boxed.drew_ {W : World} {B : Nat} {t : TypeId} {v : Value} (h : Boxed W B t v) : Boxed W.drew B t v := h
end Go.Proofs.YtinoomcboinokaaGreat

/- A law of the walk: a range over a function whose iterator keeps memory of its own between two rounds, and goes on till the loop is left. For every program. -/
namespace Go.Proofs.YtinoomcboinokaaGreat
open Go Go.RowKit

/-- The iterator's contract: it hands over x after x, each with H, till the body leaves the loop; the body's invariant J bounds how many come. -/
def SeqX {α : Type} (F : Fence) (n : Nat) (P : Program) (g : Nat) (lb : Array Value) (encs : α → Array Value) (K0 : Nat → Prop) (H : List α → α → World → Prop) (N : Nat) (w : World) : Prop :=
  ∀ (l : Nat) (J : List α → (Nat → Prop) → World → Prop) (Jx : World → Prop) (W : World), Below w.heap.size w W → AbidesG W.heap.size J → (∀ pre G W1, J pre G W1 → pre.length < N) →
    (∀ pre x G W1, J pre G W1 → H pre x W1 → YieldAt F (n - 1) P l (encs x) W1 fun e W' =>
      (e = .returned (.bool true) ∧ J (pre ++ [x]) G W' ∧ W1.heap.size ≤ W'.heap.size ∧ ∀ (k : Nat) (o : Obj), W1.heap[k]? = some o → o.isCells = true → (K0 k ∨ G k) → W'.heap[k]? = some o) ∨
      (e = .returned (.bool false) ∧ Jx W')) →
    J [] (fun _ => False) W →
    CallsIn F n P g (#[.func (.yield l) #[] #[]] ++ lb) W fun e W' => (∃ v, e = .returned v) ∧ Jx W'

def postX {α : Type} (K0 : Nat → Prop) (G : Nat → Prop) (I : List α → (Nat → Prop) → World → Prop) (Ix : Code → World → Prop) (xs : List α) (W : World) : Exit → Act → World → Prop
  | .normal, _, W' => KeepG K0 G W W' ∧ I xs G W'
  | .exit id, _, W' => KeepG (fun _ => False) (fun _ => False) W W' ∧ Ix (.exit id) W'
  | _, _, _ => False

variable {F : Fence} {n : Nat} {P : Program}

theorem wpIn_rangeX {α : Type} {g : Operand} {ps : Array Tmp} {assign body : Code} {Q : Exit → Act → World → Prop} {a : Act} {w : World}
    (hro : F.round = none) (h1 : 1 ≤ n) {gf : Nat} {lb : Array Value} (hg : a.eval g = .func (.func gf) #[] lb) (hFg : F.fn gf) (eg : ∀ args w, (callFunc gf args).run P w = .ok (.enter gf args) w)
    {encs : α → Array Value} {K0 : Nat → Prop} {H : List α → α → World → Prop} {N : Nat} (hseq : SeqX F (n - 1) P gf lb encs K0 H N w) (hps : ∀ x, (encs x).size = ps.size)
    (hH : ∀ pre x W l o o', H pre x W → W.heap[l]? = some o → o.isCells = false → H pre x (W.putObj l o'))
    (I : List α → (Nat → Prop) → World → Prop) (hI : AbidesG w.heap.size I) (hN : ∀ pre G W, I pre G W → pre.length < N)
    (Ix : Code → World → Prop) (hIx : ∀ c W l o o', Ix c W → w.heap.size ≤ l → W.heap[l]? = some o → o.isCells = false → Ix c (W.putObj l o')) (h0 : I [] (fun _ => False) w) (ob : α → Obj) (_hob : ∀ x, (ob x).isCells = true) (hHa : ∀ pre x W o, H pre x W → H pre x (W.alloc o)) (hGI : ∀ pre G W, I pre G W → ∀ k, G k → k < W.heap.size) (a₁ : α → Nat → Act)
    (hassign : ∀ (l : Nat) (x : α) (W : World) (K : Act → World → Prop), (∀ W', W' = W.alloc (ob x) → K (a₁ x W.heap.size) W') →
      assign.wpIn (F.inRound l) (n - 1 - 1) P (Exit.then K (fun _ _ _ => False)) { tmps := (ps.zip (encs x)).foldl (fun t (p, v) => t.setIfInBounds p v) a.tmps, defers := [] } W)
    (hbody : ∀ (l : Nat) (pre : List α) (x : α) (G : Nat → Prop) (W : World) (B : Nat), I pre G W → H pre x W → W.heap[B]? = some (ob x) → w.heap.size ≤ B → ¬ G B → body.wpIn (F.inRound l) (n - 1 - 1) P (postX K0 G I Ix (pre ++ [x]) W) (a₁ x B) W)
    (hstop : ∀ (D : Nat) (c : Code) (W : World), w.heap.size ≤ D → Ix c W → W.heap[D]? = some (.deferred (some [])) → c.wpIn F n P Q { a with defers := { target := .collected D, args := #[] } :: a.defers } W) :
    (Code.rangeFunc g ps assign body).wpIn F n P Q a w := by
  refine wpIn_rangeFunc ?_
  intro fn hfn
  rw [hro]
  obtain ⟨rec, hrec⟩ : ∃ rec : LoopState → Option Code → Loop, rec = fun st pe => { state := st, pending := pe, fn, tmps := a.tmps, params := ps, assign, body, defers := w.heap.size } := ⟨_, rfl⟩
  obtain ⟨W1, hW1⟩ : ∃ W1, (w.alloc (.deferred (some []))).alloc (.loop (rec .ready none)) = W1 := ⟨_, rfl⟩
  have hL1 : W1.heap[w.heap.size + 1]? = some (.loop (rec .ready none)) := by
    rw [← hW1]; have := World.alloc_heap_new (w.alloc (.deferred (some []))) (.loop (rec .ready none)); rwa [World.size_alloc] at this
  have hK1 : W1.heap[w.heap.size]? = some (.deferred (some [])) := by
    rw [← hW1]; exact (Below.heap_alloc _ _ _ (by simp)).trans (World.alloc_heap_new w _)
  have hI1 : I [] (fun _ => False) W1 := by
    rw [← hW1]
    refine hI _ _ _ _ _ none (hI _ _ _ _ _ none h0 (World.grownBy_alloc _ _ none) (fun r e => by cases e) (fun k h => .inl h)) (World.grownBy_alloc _ _ none) (fun r e => by cases e) (fun k h => .inl h)
  have hb1 : Below w.heap.size w W1 := by
    rw [← hW1]; exact (((Below.refl _ w).alloc (Nat.le_refl _) _).alloc (by simp) _)
  have hz1 : W1.heap.size = w.heap.size + 2 := by rw [← hW1]; simp
  refine ⟨w.heap.size + 1, [{ target := .collected w.heap.size, args := #[] }], W1, { target := .fn (.func gf) lb, args := #[.func (.yield (w.heap.size + 1)) #[] #[]] }, W1, gf,
    #[.func (.yield (w.heap.size + 1)) #[] #[]] ++ lb, W1, ?_, ?_, ?_, ?_, fun _ => h1, ?_⟩
  · rw [← hW1, hrec]; exact run_enterLoop_outer _ _ _ _ _
  · simp only [resolve, hg]
    simp [go_sem]
  · intro f' hf'; simp [Target.leads] at hf'; subst hf'; exact hFg
  · simp [invoke, go_sem, eg]
  · refine (hseq (w.heap.size + 1)
      (fun pre G W => I pre G W ∧ (W.heap[w.heap.size + 1]? = some (.loop (rec .ready none)) ∧ ¬ G (w.heap.size + 1)) ∧ (W.heap[w.heap.size]? = some (.deferred (some [])) ∧ ¬ G w.heap.size))
      (fun W => ∃ c, Ix c W ∧ W.heap[w.heap.size + 1]? = some (.loop (rec .done (some c))) ∧ W.heap[w.heap.size]? = some (.deferred (some [])))
      W1 hb1 ?_ (fun pre G W h => hN pre G W h.1) ?_ ⟨hI1, ⟨hL1, id⟩, ⟨hK1, id⟩⟩).mono ?_
    · rintro s G G' A B row ⟨hi, ⟨hl, hl'⟩, ⟨hk, hk'⟩⟩ hg' hr hG
      have h1 := (Array.getElem?_eq_some_iff.1 hl).1
      have far : ∀ k, k < w.heap.size + 2 → ¬ G k → some k ≠ row := fun k hk hn e => by
        rcases hr k e.symm with h | ⟨h, _⟩
        · exact hn h
        · omega
      refine ⟨hI s G G' A B row hi hg' (fun r e => ?_) hG, ⟨(hg'.block _ h1 (far _ (by omega) hl')).trans hl, fun h => ?_⟩, ⟨(hg'.block _ (by omega) (far _ (by omega) hk')).trans hk, fun h => ?_⟩⟩
      · rcases hr r e with h | ⟨h, h'⟩
        · exact .inl h
        · exact .inr ⟨by omega, h'⟩
      · rcases hG _ h with h | h
        · exact hl' h
        · omega
      · rcases hG _ h with h | h
        · exact hk' h
        · omega
    · rintro pre x G W ⟨hi, ⟨hl, hl'⟩, ⟨hk, hk'⟩⟩ hx
      have hlt : w.heap.size + 1 < W.heap.size := (Array.getElem?_eq_some_iff.1 hl).1
      have hy := run_yield (P := P) (args := encs x) hl (by rw [hrec]; exact hps x)
      rw [hrec] at hy
      refine ⟨fn, _, assign, body, hy, roundIn_of_wpIn hfn (hassign _ x W _ fun W0 hW0 => ?_)⟩
      have hl0 : W0.heap[w.heap.size + 1]? = some (.loop (rec .ready none)) := by rw [hW0]; exact (Below.heap_alloc _ _ _ (by omega)).trans hl
      have hk0 : W0.heap[w.heap.size]? = some (.deferred (some [])) := by rw [hW0]; exact (Below.heap_alloc _ _ _ (by omega)).trans hk
      have hB0 : W0.heap[W.heap.size]? = some (ob x) := by rw [hW0]; exact World.alloc_heap_new W _
      have hz0 : W0.heap.size = W.heap.size + 1 := by rw [hW0]; simp
      have hi0 : I pre G W0 := by rw [hW0]; exact hI _ _ _ _ _ none hi (World.grownBy_alloc _ _ none) (fun r e => by cases e) (fun k h => .inl h)
      have hx0 : H pre x W0 := by rw [hW0]; exact hHa _ _ _ _ hx
      have hc0 : ∀ (k : Nat) (o : Obj), W.heap[k]? = some o → W0.heap[k]? = some o := fun k o hk => by rw [hW0]; exact (Below.heap_alloc _ _ _ (Array.getElem?_eq_some_iff.1 hk).1).trans hk
      have hnG : ¬ G W.heap.size := fun h => by have := hGI _ _ _ hi _ h; omega
      refine ⟨_, run_beginRound hl0 (by rw [hrec]), ?_⟩
      clear hy hW0
      obtain ⟨W2, hW2⟩ : ∃ W2, W0.putObj (w.heap.size + 1) (.loop { rec .ready none with state := .busy }) = W2 := ⟨_, rfl⟩
      have hl2 : W2.heap[w.heap.size + 1]? = some (.loop { rec .ready none with state := .busy }) := by rw [← hW2]; exact World.putObj_heap_same (by omega)
      have hk2 : W2.heap[w.heap.size]? = some (.deferred (some [])) := by rw [← hW2]; exact (World.putObj_heap_other (by omega)).trans hk0
      have hB2 : W2.heap[W.heap.size]? = some (ob x) := by rw [← hW2]; exact (World.putObj_heap_other (by omega)).trans hB0
      have hi2 : I pre G W2 := by
        rw [← hW2]
        exact hI _ _ _ _ _ _ hi0 (grownBy_putObj' W0 _ _) (fun r e => by cases e; exact .inr ⟨by omega, _, hl0, rfl⟩) (fun k h => .inl h)
      have hx2 : H pre x W2 := by rw [← hW2]; exact hH pre x W0 _ _ _ hx0 hl0 rfl
      have hs2 : W2.heap.size = W0.heap.size := by rw [← hW2]; simp
      have hc2 : ∀ (k : Nat) (o : Obj), W.heap[k]? = some o → o.isCells = true → W2.heap[k]? = some o := fun k o hk ho => by
        rw [← hW2]
        refine (World.putObj_heap_other ?_).trans (hc0 k o hk)
        rintro rfl
        rw [hl] at hk; cases hk; cases ho
      rw [hW2]
      refine wpIn_mono (hbody _ pre x G W2 W.heap.size hi2 hx2 hB2 (by omega) hnG) ?_
      rintro e a3 W3 hp
      cases e with
      | normal =>
        obtain ⟨hk3, hi3⟩ := hp
        have hl3 := hk3.same _ _ hl2 (.inr (.inr rfl))
        have hd3 := hk3.same _ _ hk2 (.inr (.inr rfl))
        have he := run_endRound (P := P) none hl3
        have hlt3 := (Array.getElem?_eq_some_iff.1 hl3).1
        refine ⟨_, _, he, .inl ⟨rfl, ⟨?_, ⟨?_, hl'⟩, ⟨(World.putObj_heap_other (by omega)).trans hd3, hk'⟩⟩, ?_, ?_⟩⟩
        · exact hI _ _ _ _ _ _ hi3 (grownBy_putObj' W3 _ _) (fun r e => by cases e; exact .inr ⟨by omega, _, hl3, rfl⟩) (fun k h => .inl h)
        · rw [World.putObj_heap_same hlt3, hrec]; rfl
        · have := hk3.size; simp; omega
        · intro k o hk ho hG
          have h3 := hk3.same k o (hc2 k o hk ho) (by rcases hG with h | h; exact .inl h; exact .inr (.inl h))
          refine (World.putObj_heap_other ?_).trans h3
          rintro rfl
          rw [hl3] at h3; cases h3; cases ho
      | ret => exact hp.elim
      | exit id =>
        obtain ⟨hk3, hi3⟩ := hp
        have hl3 := hk3.same _ _ hl2 (.inr (.inr rfl))
        have hd3 := hk3.same _ _ hk2 (.inr (.inr rfl))
        have he := run_endRound (P := P) (some (.exit id)) hl3
        have hlt3 := (Array.getElem?_eq_some_iff.1 hl3).1
        refine ⟨_, _, he, .inr ⟨rfl, .exit id, hIx _ _ _ _ _ hi3 (by omega) hl3 rfl, ?_, (World.putObj_heap_other (by omega)).trans hd3⟩⟩
        rw [World.putObj_heap_same hlt3, hrec]; rfl
      | goto t => exact hp.elim
      | panic ch => exact hp.elim
      | outgrown => exact hp.elim
    · rintro e W2 ⟨⟨v, rfl⟩, c, hx, hl, hk⟩
      have hlt := (Array.getElem?_eq_some_iff.1 hl).1
      refine ⟨some c, _, by have := run_endLoop (P := P) hl (by rw [hrec]; simp); rw [hrec] at this; exact this, ?_⟩
      exact hstop _ c _ (Nat.le_refl _) (hIx _ _ _ _ _ hx (by omega) hl rfl) ((World.putObj_heap_other (by omega)).trans hk)
end Go.Proofs.YtinoomcboinokaaGreat
