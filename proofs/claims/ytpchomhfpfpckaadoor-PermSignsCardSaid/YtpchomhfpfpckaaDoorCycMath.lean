/- The cycles of a permutation close; they cover the points; powers go along them. No program. -/
import Derived.Test.YtpchomhfpfpckaaDoorCyc
import Derived.Test.YtpchomhfpfpckaaDoorGroupMath
namespace Go.Proofs.YtpchomhfpfpckaaDoor
open Go Go.RowKit

/-- What a walk is. -/
def WalkOk (zs S : List Int) (i : Int) (c : List Int) : Prop :=
  (∀ x ∈ c, x ∉ S) ∧ c.Nodup ∧ InR zs.length c ∧ (c ≠ [] → c.getD 0 0 = i) ∧ (∀ t, t + 1 < c.length → zs.getD (c.getD t 0).toNat 0 = c.getD (t + 1) 0) ∧
  (c ≠ [] → zs.getD (c.getD (c.length - 1) 0).toNat 0 ∈ S ++ c) ∧ (c = [] → i ∈ S)
theorem walk_ok {zs : List Int} (hf : Fine zs) : ∀ (f : Nat) (S : List Int) (i : Int), 0 ≤ i → i < (zs.length : Int) → free zs.length S < f → WalkOk zs S i (walk zs f S i) := by
  intro f
  induction f with
  | zero => intro S i _ _ h; omega
  | succ f ih =>
    intro S i h0 h1 hfr
    by_cases hi : i ∈ S
    · rw [walk_mem hi]
      exact ⟨fun x h => by simp at h, List.nodup_nil, fun x h => by simp at h, fun h => absurd rfl h, fun t h => by simp at h, fun h => absurd rfl h, fun _ => hi⟩
    · rw [walk_new hi]
      obtain ⟨m, rfl⟩ : ∃ m : Nat, i = (m : Int) := ⟨i.toNat, by omega⟩
      have hm : m < zs.length := by omega
      have hlt := free_lt hm hi
      have hn := fine_next hf hm
      obtain ⟨w1, w2, w3, w4, w5, w6, w7⟩ := ih (S ++ [(m : Int)]) (zs.getD (m : Int).toNat 0) (by simpa using hn.1) (by simpa using hn.2) (by omega)
      generalize walk zs f (S ++ [(m : Int)]) (zs.getD (m : Int).toNat 0) = c at w1 w2 w3 w4 w5 w6 w7
      refine ⟨?_, ?_, ?_, fun _ => rfl, ?_, fun _ => ?_, fun h => by simp at h⟩
      · intro x hx
        rcases List.mem_cons.1 hx with rfl | hx
        · exact hi
        · have := w1 x hx; simp at this; exact this.1
      · refine List.nodup_cons.2 ⟨fun h => ?_, w2⟩
        have := w1 _ h; simp at this
      · intro x hx
        rcases List.mem_cons.1 hx with rfl | hx
        · exact ⟨by omega, by omega⟩
        · exact w3 x hx
      · intro t ht
        cases t with
        | zero =>
          have hc : c ≠ [] := fun e => by rw [e] at ht; simp at ht
          show zs.getD (m : Int).toNat 0 = c.getD 0 0
          exact (w4 hc).symm
        | succ t => exact w5 t (by simpa using ht)
      · by_cases hc : c = []
        · subst hc
          have := w7 rfl
          show zs.getD (m : Int).toNat 0 ∈ S ++ [(m : Int)]
          exact this
        · have h2 := w6 hc
          have hp : 0 < c.length := List.length_pos_iff.2 hc
          have e : ((m : Int) :: c).getD (((m : Int) :: c).length - 1) 0 = c.getD (c.length - 1) 0 := by
            have : ((m : Int) :: c).length - 1 = (c.length - 1) + 1 := by simp; omega
            rw [this]; rfl
          rw [e]
          simpa using h2

/-- The images go round the list. -/
def Closes (zs c : List Int) : Prop := 0 < c.length ∧ InR zs.length c ∧ ∀ t, t < c.length → zs.getD (c.getD t 0).toNat 0 = c.getD ((t + 1) % c.length) 0
/-- Each point of L is the image of a point of L. -/
def Closed (zs L : List Int) : Prop := ∀ x ∈ L, ∃ k : Nat, k < zs.length ∧ (k : Int) ∈ L ∧ zs.getD k 0 = x
theorem getD_mem {c : List Int} {t : Nat} (h : t < c.length) : c.getD t 0 ∈ c := by
  simp [List.getD_eq_getElem?_getD, h]
theorem walk_closes {zs L : List Int} {k : Nat} {c : List Int} (hf : Fine zs) (h : WalkOk zs L k c) (hL : Closed zs L) (hc : c ≠ []) : Closes zs c := by
  obtain ⟨w1, w2, w3, w4, w5, w6, _⟩ := h
  have hp : 0 < c.length := List.length_pos_iff.2 hc
  refine ⟨hp, w3, fun t ht => ?_⟩
  by_cases hl : t + 1 < c.length
  · rw [Nat.mod_eq_of_lt hl]; exact w5 t hl
  · have e : t + 1 = c.length := by omega
    rw [e, Nat.mod_self]
    have h6 := w6 hc
    have et : c.length - 1 = t := by omega
    rw [et] at h6
    obtain ⟨r0, r1⟩ := w3 _ (getD_mem ht)
    have hlast : ((c.getD t 0).toNat : Int) = c.getD t 0 := Int.toNat_of_nonneg r0
    rcases List.mem_append.1 h6 with h6 | h6
    · obtain ⟨q, hq, hqL, hqe⟩ := hL _ h6
      have := fine_inj hf (i := q) (j := (c.getD t 0).toNat) hq (by omega) hqe
      rw [this, hlast] at hqL
      exact absurd hqL (w1 _ (getD_mem ht))
    · obtain ⟨s, hs, hse⟩ : ∃ s, s < c.length ∧ c.getD s 0 = zs.getD (c.getD t 0).toNat 0 := by
        obtain ⟨s, hs⟩ := List.mem_iff_getElem?.1 h6
        exact ⟨s, (List.getElem?_eq_some_iff.1 hs).1, by rw [List.getD_eq_getElem?_getD, hs]; rfl⟩
      cases s with
      | zero => exact hse.symm
      | succ s =>
        have h5 := w5 s hs
        obtain ⟨q0, q1⟩ := w3 _ (getD_mem (show s < c.length by omega))
        have hi := fine_inj hf (i := (c.getD s 0).toNat) (j := (c.getD t 0).toNat) (by omega) (by omega) (h5.trans hse)
        have he : c.getD s 0 = c.getD t 0 := by omega
        have hst : s < c.length := by omega
        have : s = t := by
          simp only [List.getD_eq_getElem?_getD, List.getElem?_eq_getElem hst, List.getElem?_eq_getElem ht, Option.getD_some] at he
          have hp := List.pairwise_iff_getElem.1 w2
          rcases Nat.lt_trichotomy s t with h | h | h
          · exact absurd he (hp s t hst ht h)
          · exact h
          · exact absurd he.symm (hp t s ht hst h)
        omega

/-- What is known of the cycles of the first k points. -/
def UpOk (zs : List Int) (k : Nat) : Prop :=
  Closed zs (upTo zs k).1 ∧ (∀ c ∈ (upTo zs k).2, Closes zs c) ∧ (∀ j : Nat, j < k → (j : Int) ∈ (upTo zs k).1) ∧ (upTo zs k).1 = (upTo zs k).2.flatten
theorem upOk {zs : List Int} (hf : Fine zs) (h64 : zs.length ≤ 64) : ∀ k, k ≤ zs.length → UpOk zs k := by
  intro k
  induction k with
  | zero => intro _; exact ⟨fun x h => by simp [upTo] at h, fun c h => by simp [upTo] at h, fun j h => by omega, by simp [upTo]⟩
  | succ k ih =>
    intro hk
    obtain ⟨h1, h2, h3, h4⟩ := ih (by omega)
    have hw := walk_ok hf 65 (upTo zs k).1 k (by omega) (by omega) (by have := free_le zs.length (upTo zs k).1; omega)
    by_cases hn : walk zs 65 (upTo zs k).1 k = []
    · unfold UpOk
      rw [upTo_none hn]
      refine ⟨h1, h2, fun j hj => ?_, h4⟩
      by_cases e : j = k
      · subst e; exact hw.2.2.2.2.2.2 hn
      · exact h3 j (by omega)
    · have hcl := walk_closes hf hw h1 hn
      unfold UpOk
      rw [upTo_some hn]
      generalize walk zs 65 (upTo zs k).1 k = c at hw hn hcl
      obtain ⟨c1, c2, c3⟩ := hcl
      refine ⟨fun x hx => ?_, fun d hd => ?_, fun j hj => ?_, ?_⟩
      · rcases List.mem_append.1 hx with hx | hx
        · obtain ⟨q, hq, hqL, he⟩ := h1 x hx
          exact ⟨q, hq, List.mem_append_left _ hqL, he⟩
        · obtain ⟨s, hs⟩ := List.mem_iff_getElem?.1 hx
          have hsl := (List.getElem?_eq_some_iff.1 hs).1
          have hsx : c.getD s 0 = x := by rw [List.getD_eq_getElem?_getD, hs]; rfl
          obtain ⟨t, ht, hte⟩ : ∃ t, t < c.length ∧ (t + 1) % c.length = s := by
            by_cases e : s = 0
            · subst e; exact ⟨c.length - 1, by omega, by rw [Nat.sub_add_cancel c1, Nat.mod_self]⟩
            · exact ⟨s - 1, by omega, by rw [Nat.sub_add_cancel (by omega), Nat.mod_eq_of_lt hsl]⟩
          have := c3 t ht
          rw [hte, hsx] at this
          obtain ⟨r0, r1⟩ := c2 _ (getD_mem ht)
          refine ⟨(c.getD t 0).toNat, by omega, ?_, this⟩
          rw [Int.toNat_of_nonneg r0]
          exact List.mem_append_right _ (getD_mem ht)
      · rcases List.mem_append.1 hd with hd | hd
        · exact h2 d hd
        · rw [List.mem_singleton] at hd; subst hd; exact ⟨c1, c2, c3⟩
      · by_cases e : j = k
        · subst e
          have h0 := hw.2.2.2.1 hn
          rw [← h0]
          exact List.mem_append_right _ (getD_mem c1)
        · exact List.mem_append_left _ (h3 j (by omega))
      · rw [List.flatten_append, ← h4]; simp

theorem npow_along {n : Nat} (a : PL n) {c : List Int} (h : Closes a.1 c) (t : Nat) (ht : t < c.length) : ∀ m : Nat, (npow pmul (pone n) m a).1.getD (c.getD t 0).toNat 0 = c.getD ((t + m) % c.length) 0 := by
  obtain ⟨h1, h2, h3⟩ := h
  have hl := a.2.1
  have hr : ∀ s, s < c.length → ∃ k : Nat, k < n ∧ c.getD s 0 = (k : Int) := fun s hs => by
    obtain ⟨r0, r1⟩ := h2 _ (getD_mem hs)
    exact ⟨(c.getD s 0).toNat, by omega, by omega⟩
  intro m
  induction m with
  | zero =>
    obtain ⟨k, hk, e⟩ := hr t ht
    rw [Nat.add_zero, Nat.mod_eq_of_lt ht, e]
    exact idL_get hk
  | succ m ih =>
    obtain ⟨k, hk, e⟩ := hr t ht
    have hs : (t + m) % c.length < c.length := Nat.mod_lt _ h1
    obtain ⟨q, hq, e2⟩ := hr _ hs
    rw [e, Int.toNat_natCast] at ih ⊢
    rw [e2] at ih
    have h4 := mul_at (npow pmul (pone n) m a) a hk ih
    have h5 := h3 _ hs
    rw [e2, Int.toNat_natCast] at h5
    show (mulL (npow pmul (pone n) m a).1 a.1).getD k 0 = _
    rw [h4, h5]
    congr 1
    rw [← Nat.add_assoc, Nat.mod_add_mod]
theorem zpow_along {n : Nat} (a : PL n) {c : List Int} (h : Closes a.1 c) (t : Nat) (ht : t < c.length) (x : Int) : (zpow pmul (pone n) pinv a x).1.getD (c.getD t 0).toNat 0 = c.getD (((t : Int) + x) % (c.length : Int)).toNat 0 := by
  have h1 := h.1
  have hpos : 0 ≤ ((c.length * x.natAbs : Nat) : Int) + x := by
    have : x.natAbs ≤ c.length * x.natAbs := Nat.le_mul_of_pos_left _ h1
    omega
  obtain ⟨m, hm⟩ : ∃ m : Nat, ((c.length * x.natAbs : Nat) : Int) + x = (m : Int) := ⟨_, (Int.toNat_of_nonneg hpos).symm⟩
  have hz := zpow_add (perm_grp n) a ((c.length * x.natAbs : Nat) : Int) x
  rw [hm] at hz
  have e1 := npow_along a h t ht (c.length * x.natAbs)
  have e2 := npow_along a h t ht m
  rw [Nat.add_mul_mod_self_left, Nat.mod_eq_of_lt ht] at e1
  obtain ⟨r0, r1⟩ := h.2.1 _ (getD_mem ht)
  have hl := a.2.1
  have hk : (c.getD t 0).toNat < n := by omega
  have hcast : c.getD t 0 = (((c.getD t 0).toNat : Nat) : Int) := (Int.toNat_of_nonneg r0).symm
  have e3 := mul_at (npow pmul (pone n) (c.length * x.natAbs) a) (zpow pmul (pone n) pinv a x) hk (e1.trans hcast)
  have hz' : npow pmul (pone n) m a = pmul (npow pmul (pone n) (c.length * x.natAbs) a) (zpow pmul (pone n) pinv a x) := hz
  rw [hz'] at e2
  have e4 : (zpow pmul (pone n) pinv a x).1.getD (c.getD t 0).toNat 0 = c.getD ((t + m) % c.length) 0 := e3.symm.trans e2
  rw [e4]
  congr 1
  have : ((t : Int) + x) % (c.length : Int) = (((t + m) % c.length : Nat) : Int) := by
    rw [Int.natCast_emod, Int.natCast_add, ← hm, Int.natCast_mul, ← Int.add_assoc, Int.add_right_comm, Int.add_mul_emod_self_left]
  rw [this, Int.toNat_natCast]
end Go.Proofs.YtpchomhfpfpckaaDoor
