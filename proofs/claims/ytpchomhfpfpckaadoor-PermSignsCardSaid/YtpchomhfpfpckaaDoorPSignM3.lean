/- PermSigns' mathematics: orders. -/
import Derived.Test.YtpchomhfpfpckaaDoorPSignM2
namespace Go.Proofs.YtpchomhfpfpckaaDoor
open Go Go.RowKit

theorem ordStep_lcm (o : Nat) (c : List Int) : ordStep o c = Nat.lcm o c.length := by
  unfold ordStep Nat.lcm
  rw [Nat.div_mul_right_comm (Nat.gcd_dvd_left _ _)]
theorem ordN_fold : ∀ (cs : List (List Int)) (o : Nat), o ∣ cs.foldl ordStep o ∧ (∀ c ∈ cs, c.length ∣ cs.foldl ordStep o) ∧ ∀ m, o ∣ m → (∀ c ∈ cs, c.length ∣ m) → cs.foldl ordStep o ∣ m := by
  intro cs
  induction cs with
  | nil => intro o; exact ⟨Nat.dvd_refl _, fun c h => absurd h (by simp), fun m h _ => h⟩
  | cons c cs ih =>
    intro o
    obtain ⟨h1, h2, h3⟩ := ih (ordStep o c)
    rw [List.foldl_cons]
    have e := ordStep_lcm o c
    refine ⟨Nat.dvd_trans (by rw [e]; exact Nat.dvd_lcm_left _ _) h1, fun d hd => ?_, fun m hm hd => h3 m (by rw [e]; exact Nat.lcm_dvd hm (hd c (by simp))) (fun d hd' => hd d (List.mem_cons_of_mem _ hd'))⟩
    rcases List.mem_cons.1 hd with rfl | hd
    · exact Nat.dvd_trans (by rw [e]; exact Nat.dvd_lcm_right _ _) h1
    · exact h2 d hd
/-- The least common multiples of what adds up to s. -/
def lands : Nat → Nat → List Nat
  | 0, _ => [1]
  | f + 1, s => 1 :: (List.range s).flatMap fun l => (lands f (s - (l + 1))).map fun v => Nat.lcm (l + 1) v
theorem lands_ok : ∀ (f : Nat) (L : List Nat) (s : Nat), s ≤ f → (∀ x ∈ L, 1 ≤ x) → L.sum ≤ s → L.foldr Nat.lcm 1 ∈ lands f s := by
  intro f
  induction f with
  | zero =>
    intro L s hs hL h
    cases L with
    | nil => simp [lands]
    | cons x L => have := hL x (by simp); simp at h; omega
  | succ f ih =>
    intro L s hs hL h
    cases L with
    | nil => simp [lands]
    | cons x L =>
      have hx := hL x (by simp)
      rw [List.sum_cons] at h
      have h2 := ih L (s - x) (by omega) (fun y hy => hL y (List.mem_cons_of_mem _ hy)) (by omega)
      rw [lands, List.foldr_cons]
      refine List.mem_cons_of_mem _ (List.mem_flatMap.2 ⟨x - 1, List.mem_range.2 (by omega), ?_⟩)
      rw [show x - 1 + 1 = x by omega]
      exact List.mem_map.2 ⟨_, h2, rfl⟩
set_option maxRecDepth 100000 in
theorem lands_le : ∀ s, s < 13 → ∀ v ∈ lands 12 s, v ≤ 60 := by decide +kernel
theorem ordN_le {cs : List (List Int)} (h : ∀ c ∈ cs, 1 ≤ c.length) (hs : (cs.map List.length).sum ≤ 12) : ordN cs ≤ 60 := by
  have h1 := lands_ok 12 (cs.map List.length) 12 (Nat.le_refl _) (fun x hx => by obtain ⟨c, hc, rfl⟩ := List.mem_map.1 hx; exact h c hc) hs
  have h2 := lands_le 12 (by decide) _ h1
  have hfold : ∀ L : List Nat, (∀ x ∈ L, x ∣ L.foldr Nat.lcm 1) := by
    intro L
    induction L with
    | nil => intro x h; cases h
    | cons y L ih =>
      intro x hx
      rw [List.foldr_cons]
      rcases List.mem_cons.1 hx with rfl | hx
      · exact Nat.dvd_lcm_left _ _
      · exact Nat.dvd_trans (ih x hx) (Nat.dvd_lcm_right _ _)
  have hpos : ∀ L : List Nat, (∀ x ∈ L, 1 ≤ x) → 0 < L.foldr Nat.lcm 1 := by
    intro L
    induction L with
    | nil => intro _; decide
    | cons y L ih =>
      intro h
      rw [List.foldr_cons]
      exact Nat.lcm_pos (h y (by simp)) (ih (fun x hx => h x (List.mem_cons_of_mem _ hx)))
  have h3 : ordN cs ∣ (cs.map List.length).foldr Nat.lcm 1 := (ordN_fold cs 1).2.2 _ (Nat.one_dvd _) (fun c hc => hfold _ _ (List.mem_map_of_mem hc))
  exact Nat.le_trans (Nat.le_of_dvd (hpos _ (fun x hx => by obtain ⟨c, hc, rfl⟩ := List.mem_map.1 hx; exact h c hc)) h3) h2
/-- What PermSigns asks of the order. -/
structure OrdFacts {n : Nat} (a : PL n) (k : Nat) : Prop where
  pos : 1 ≤ k
  le : k ≤ 60
  back : ∀ i, 1 ≤ i → i ≤ k → ((npow pmul (pone n) i a).1 = idL n ↔ i = k)
  dvd : ∀ x ∈ typeV a.1, 1 ≤ x ∧ (k : Int) % x = 0
theorem ord_facts {n : Nat} (h1 : 1 ≤ n) (h12 : n ≤ 12) (a : PL n) : OrdFacts a (ordN (cycs a.1)) ∧ ordV a.1 = (ordN (cycs a.1) : Int) := by
  have hl := a.2.1
  have hD := decomp_cycs a.2.2 (by omega)
  have hpos : ∀ c ∈ cycs a.1, 1 ≤ c.length := fun c hc => (hD.cl c hc).1
  have hchk : chk a.1 = 0 := by unfold chk; rw [if_neg (by omega), if_pos a.2.2]
  obtain ⟨f1, f2, f3⟩ := ordN_fold (cycs a.1) 1
  have hk1 : 1 ≤ ordN (cycs a.1) := (ordN_ok _ hpos).1
  have hsum : ((cycs a.1).map List.length).sum ≤ 12 := by
    have h2 : (cycs a.1).flatten.length ≤ n := nodup_lenD _ _ hD.nd (fun x hx => by
      obtain ⟨c, hc, hxc⟩ := List.mem_flatten.1 hx
      have := (hD.cl c hc).2.1 x hxc
      rwa [hl] at this)
    rw [List.length_flatten] at h2
    omega
  have hall : ∀ m, (∀ c ∈ cycs a.1, c.length ∣ m) → (npow pmul (pone n) m a).1 = idL n := fun m hm => by
    have : npow pmul (pone n) m a = pone n := PL.ext fun i hi => by
      obtain ⟨c, hc, hic⟩ := List.mem_flatten.1 (hD.all i (by omega))
      obtain ⟨t, ht⟩ := List.mem_iff_getElem?.1 hic
      have htl := (List.getElem?_eq_some_iff.1 ht).1
      have hte : c.getD t 0 = (i : Int) := by rw [List.getD_eq_getElem?_getD, ht]; rfl
      have h4 := npow_along a (hD.cl c hc) t htl m
      obtain ⟨q, hq⟩ := hm c hc
      rw [hte, Int.toNat_natCast, hq, Nat.add_mul_mod_self_left, Nat.mod_eq_of_lt htl, hte] at h4
      show (npow pmul (pone n) m a).1.getD i 0 = (idL n).getD i 0
      rw [idL_get hi, hq]
      exact h4
    rw [this]; rfl
  refine ⟨⟨hk1, ordN_le hpos hsum, fun i hi1 hik => ⟨fun e => ?_, fun e => ?_⟩, fun x hx => ?_⟩, by unfold ordV; rw [if_pos hchk]⟩
  · have hdv : ordN (cycs a.1) ∣ i := f3 i (Nat.one_dvd _) (fun c hc => by
      have hC := hD.cl c hc
      have h4 := npow_along a hC 0 hC.1 i
      rw [e, Nat.zero_add] at h4
      obtain ⟨r0, r1⟩ := hC.2.1 _ (getD_mem hC.1)
      rw [idL_get (show (c.getD 0 0).toNat < n by omega), Int.toNat_of_nonneg r0] at h4
      have := nodup_inj (hD.nodup hc) hC.1 (Nat.mod_lt i hC.1) h4
      exact Nat.dvd_of_mod_eq_zero this.symm)
    have := Nat.le_of_dvd hi1 hdv
    omega
  · rw [e]; exact hall _ f2
  · unfold typeV at hx
    rw [if_pos hchk, List.mem_reverse] at hx
    have hx2 : x ∈ lens (cycs a.1) := (List.mergeSort_perm (lens (cycs a.1)) _).mem_iff.1 hx
    obtain ⟨c, hc, rfl⟩ := List.mem_map.1 hx2
    have h5 := hpos c hc
    refine ⟨by omega, ?_⟩
    obtain ⟨q, hq⟩ := f2 c hc
    have hq2 : ordN (cycs a.1) = c.length * q := hq
    rw [hq2, Int.natCast_mul, Int.mul_emod_right]
theorem count_leD : ∀ cs : List (List Int), (∀ c ∈ cs, 1 ≤ c.length) → cs.length ≤ cs.flatten.length := by
  intro cs
  induction cs with
  | nil => intro _; simp
  | cons c cs ih =>
    intro h
    have h1 := ih (fun d hd => h d (List.mem_cons_of_mem _ hd))
    have h2 := h c (by simp)
    rw [List.flatten_cons, List.length_append, List.length_cons]
    omega
end Go.Proofs.YtpchomhfpfpckaaDoor
