/- Signs, types and orders of permutations: pure, no program. -/
import Derived.Test.YtpchomhfpfpckaaDoorPBackM2
import Derived.Test.YtpchomhfpfpckaaDoorPDec
import Derived.Test.YtpchomhfpfpckaaDoorSign
import Derived.Test.YtpchomhfpfpckaaDoorTypeC
import Derived.Test.YtpchomhfpfpckaaDoorConj
namespace Go.Proofs.YtpchomhfpfpckaaDoor
open Go Go.RowKit

/-! Sums. -/
def sm : Nat → (Nat → Nat) → Nat
  | 0, _ => 0
  | k + 1, g => sm k g + g k
theorem sm_congr {n : Nat} {f g : Nat → Nat} (h : ∀ i, i < n → f i = g i) : sm n f = sm n g := by
  induction n with
  | zero => rfl
  | succ n ih => rw [sm, sm, ih (fun i hi => h i (by omega)), h n (by omega)]
theorem sm_add (n : Nat) (f g : Nat → Nat) : sm n (fun i => f i + g i) = sm n f + sm n g := by
  induction n with
  | zero => rfl
  | succ n ih => rw [sm, sm, sm, ih]; omega
theorem sm_mul (n k : Nat) (f : Nat → Nat) : sm n (fun i => k * f i) = k * sm n f := by
  induction n with
  | zero => rfl
  | succ n ih => rw [sm, sm, ih, Nat.mul_add]
theorem sm_zero (n : Nat) : sm n (fun _ => 0) = 0 := by
  induction n with
  | zero => rfl
  | succ n ih => rw [sm, ih]
theorem sm_swap (n m : Nat) (s : Nat → Nat → Nat) : sm n (fun i => sm m (s i)) = sm m (fun j => sm n (fun i => s i j)) := by
  induction n with
  | zero => exact (sm_zero m).symm
  | succ n ih =>
    rw [sm, ih, ← sm_add]
    rfl
theorem sm_single {n k : Nat} (hk : k < n) (h : Nat → Nat) : sm n (fun p => if k = p then h p else 0) = h k := by
  induction n with
  | zero => omega
  | succ n ih =>
    rw [sm]
    by_cases e : k = n
    · subst e
      rw [if_pos rfl, sm_congr (g := fun _ => 0) (fun i hi => if_neg (by omega)), sm_zero, Nat.zero_add]
    · rw [if_neg e, ih (by omega), Nat.add_zero]
theorem sm_reindex {n : Nat} {f r : Nat → Nat} (hf : ∀ i, i < n → f i < n) (hr : ∀ p, p < n → r p < n) (h1 : ∀ p, p < n → f (r p) = p) (h2 : ∀ i, i < n → r (f i) = i) (g : Nat → Nat) : sm n (fun i => g (f i)) = sm n g := by
  have e1 : sm n (fun i => g (f i)) = sm n (fun i => sm n (fun p => if f i = p then g p else 0)) := sm_congr fun i hi => (sm_single (hf i hi) g).symm
  rw [e1, sm_swap]
  refine sm_congr fun p hp => ?_
  rw [sm_congr (g := fun i => if r p = i then g p else 0) (fun i hi => ?_)]
  · exact sm_single (hr p hp) (fun _ => g p)
  · by_cases e : f i = p
    · rw [if_pos e, if_pos (by rw [← e]; exact h2 i hi)]
    · rw [if_neg e, if_neg (fun e2 => e (by rw [← e2]; exact h1 p hp))]
def tri (n : Nat) (s : Nat → Nat → Nat) : Nat := sm n (fun i => sm i (s i))
theorem full_tri (n : Nat) (s : Nat → Nat → Nat) (hs : ∀ i j, s i j = s j i) (h0 : ∀ i, s i i = 0) : sm n (fun i => sm n (s i)) = 2 * tri n s := by
  induction n with
  | zero => rfl
  | succ n ih =>
    have e1 : sm n (fun i => sm (n + 1) (s i)) = sm n (fun i => sm n (s i)) + sm n (fun i => s i n) := by
      rw [← sm_add]; rfl
    have e2 : sm n (fun i => s i n) = sm n (s n) := sm_congr fun i _ => hs i n
    show sm n (fun i => sm (n + 1) (s i)) + sm (n + 1) (s n) = 2 * (sm n (fun i => sm i (s i)) + sm n (s n))
    rw [e1, ih, e2]
    show _ + (sm n (s n) + s n n) = _
    rw [h0]
    unfold tri
    omega
/-- Whether two points are turned round. -/
def inv2 (f : Nat → Nat) (i j : Nat) : Nat := if (i < j ∧ f j < f i) ∨ (j < i ∧ f i < f j) then 1 else 0
theorem inv2_comm (f : Nat → Nat) (i j : Nat) : inv2 f i j = inv2 f j i := by
  unfold inv2
  by_cases h : (i < j ∧ f j < f i) ∨ (j < i ∧ f i < f j)
  · rw [if_pos h, if_pos (by omega)]
  · rw [if_neg h, if_neg (by omega)]
theorem inv2_self (f : Nat → Nat) (i : Nat) : inv2 f i i = 0 := by unfold inv2; rw [if_neg (by omega)]
theorem inv2_mul (f g : Nat → Nat) {i j : Nat} (hf : i ≠ j → f i ≠ f j) (hg : f i ≠ f j → g (f i) ≠ g (f j)) : inv2 (fun i => g (f i)) i j + 2 * (inv2 f i j * inv2 g (f i) (f j)) = inv2 f i j + inv2 g (f i) (f j) := by
  by_cases e : i = j
  · subst e; rw [inv2_self, inv2_self, inv2_self]
  · have h1 := hf e
    have h2 := hg h1
    unfold inv2
    simp only []
    by_cases a1 : (i < j ∧ f j < f i) ∨ (j < i ∧ f i < f j)
    · rw [if_pos a1]
      by_cases a2 : (f i < f j ∧ g (f j) < g (f i)) ∨ (f j < f i ∧ g (f i) < g (f j))
      · rw [if_pos a2, if_neg (by omega)]
      · rw [if_neg a2, if_pos (by omega)]
    · rw [if_neg a1]
      by_cases a2 : (f i < f j ∧ g (f j) < g (f i)) ∨ (f j < f i ∧ g (f i) < g (f j))
      · rw [if_pos a2, if_pos (by omega)]
      · rw [if_neg a2, if_neg (by omega)]

/-! A permutation's images as numbers. -/
def av {n : Nat} (a : PL n) (i : Nat) : Nat := (a.1.getD i 0).toNat
theorem av_lt {n : Nat} (a : PL n) {i : Nat} (h : i < n) : av a i < n := by
  obtain ⟨k, hk, e⟩ := a.at_ h
  unfold av; rw [e]; simpa using hk
theorem av_at {n : Nat} (a : PL n) {i : Nat} (h : i < n) : a.1.getD i 0 = (av a i : Int) := by
  obtain ⟨k, hk, e⟩ := a.at_ h
  unfold av; rw [e]; simp
theorem av_mul {n : Nat} (a b : PL n) {i : Nat} (h : i < n) : av (pmul a b) i = av b (av a i) := by
  have h1 : (pmul a b).1.getD i 0 = b.1.getD (av a i) 0 := mul_at a b h (av_at a h)
  unfold av at h1 ⊢
  rw [h1]
theorem av_one {n i : Nat} (h : i < n) : av (pone n) i = i := by
  unfold av
  show ((idL n).getD i 0).toNat = i
  rw [idL_get h]; simp
theorem av_inv1 {n : Nat} (a : PL n) {i : Nat} (h : i < n) : av a (av (pinv a) i) = i := by
  have h1 := av_mul (pinv a) a h
  rw [(perm_grp n).inv_mul, av_one h] at h1
  exact h1.symm
theorem av_inv2 {n : Nat} (a : PL n) {i : Nat} (h : i < n) : av (pinv a) (av a i) = i := by
  have h1 := av_mul a (pinv a) h
  rw [(perm_grp n).mul_inv, av_one h] at h1
  exact h1.symm
theorem av_inj {n : Nat} (a : PL n) {i j : Nat} (hi : i < n) (hj : j < n) (h : av a i = av a j) : i = j := by
  have := av_inv2 a hi
  rw [h, av_inv2 a hj] at this
  exact this.symm
theorem av_ext {n : Nat} {a b : PL n} (h : ∀ i, i < n → av a i = av b i) : a = b := PL.ext fun i hi => by rw [av_at a hi, av_at b hi, h i hi]
/-- How many pairs are turned round. -/
def invs {n : Nat} (a : PL n) : Nat := tri n (inv2 (av a))
theorem tri_congr {n : Nat} {s t : Nat → Nat → Nat} (h : ∀ i j, i < n → j < n → s i j = t i j) : tri n s = tri n t :=
  sm_congr fun i hi => sm_congr fun j hj => h i j hi (by omega)
theorem invs_mul {n : Nat} (a b : PL n) : ∃ m, invs (pmul a b) + 2 * m = invs a + invs b := by
  refine ⟨tri n (fun i j => inv2 (av a) i j * inv2 (av b) (av a i) (av a j)), ?_⟩
  have e1 := full_tri n (inv2 (av a)) (inv2_comm _) (inv2_self _)
  have e2 := full_tri n (inv2 (av b)) (inv2_comm _) (inv2_self _)
  have e3 := full_tri n (inv2 (fun i => av b (av a i))) (inv2_comm _) (inv2_self _)
  have e4 := full_tri n (fun i j => inv2 (av a) i j * inv2 (av b) (av a i) (av a j)) (fun i j => by rw [inv2_comm (av a) i j, inv2_comm (av b)]) (fun i => by rw [inv2_self]; exact Nat.zero_mul _)
  have e5 : sm n (fun i => sm n (fun j => inv2 (av b) (av a i) (av a j))) = sm n (fun i => sm n (inv2 (av b) i)) := by
    have h1 : sm n (fun i => sm n (fun j => inv2 (av b) (av a i) (av a j))) = sm n (fun i => sm n (inv2 (av b) (av a i))) :=
      sm_congr fun i _ => sm_reindex (f := av a) (r := av (pinv a)) (fun i h => av_lt a h) (fun i h => av_lt _ h) (fun i h => av_inv1 a h) (fun i h => av_inv2 a h) (inv2 (av b) (av a i))
    rw [h1]
    exact sm_reindex (f := av a) (r := av (pinv a)) (fun i h => av_lt a h) (fun i h => av_lt _ h) (fun i h => av_inv1 a h) (fun i h => av_inv2 a h) (fun p => sm n (inv2 (av b) p))
  have e6 : sm n (fun i => sm n (inv2 (fun i => av b (av a i)) i)) + 2 * sm n (fun i => sm n (fun j => inv2 (av a) i j * inv2 (av b) (av a i) (av a j))) = sm n (fun i => sm n (inv2 (av a) i)) + sm n (fun i => sm n (fun j => inv2 (av b) (av a i) (av a j))) := by
    rw [← sm_mul, ← sm_add, ← sm_add]
    refine sm_congr fun i hi => ?_
    rw [← sm_mul, ← sm_add, ← sm_add]
    exact sm_congr fun j hj => inv2_mul (av a) (av b) (fun h e => h (av_inj a hi hj e)) (fun h e => h (av_inj b (av_lt a hi) (av_lt a hj) e))
  rw [e5, e1, e2, e3, e4] at e6
  have e7 : invs (pmul a b) = tri n (inv2 (fun i => av b (av a i))) := tri_congr fun i j hi hj => by
    unfold inv2
    rw [av_mul a b hi, av_mul a b hj]
  rw [e7]
  unfold invs
  omega
theorem invs_one (n : Nat) : invs (pone n) = 0 := by
  unfold invs
  rw [tri_congr (t := fun _ _ => 0) (fun i j hi hj => by unfold inv2; rw [av_one hi, av_one hj, if_neg (by omega)])]
  unfold tri
  rw [sm_congr (g := fun _ => 0) (fun i _ => sm_zero i), sm_zero]

/-! A cycle's parity, for degrees up to 12. -/
def swf (x y i : Nat) : Nat := if i = x then y else if i = y then x else i
set_option maxRecDepth 100000 in
theorem swap_odd : ∀ n, n < 13 → ∀ x, x < n → ∀ y, y < n → x ≠ y → tri n (inv2 (swf x y)) % 2 = 1 := by decide +kernel
theorem swf_lt {n x y i : Nat} (hx : x < n) (hy : y < n) (hi : i < n) : swf x y i < n := by
  unfold swf
  split
  · exact hy
  · split
    · exact hx
    · exact hi
theorem swf_swf (x y i : Nat) : swf x y (swf x y i) = i := by
  unfold swf
  by_cases h1 : i = x
  · rw [if_pos h1]
    by_cases h2 : y = x
    · rw [if_pos h2]; omega
    · rw [if_neg h2, if_pos rfl]; exact h1.symm
  · rw [if_neg h1]
    by_cases h2 : i = y
    · rw [if_pos h2, if_pos rfl]; exact h2.symm
    · rw [if_neg h2, if_neg h1, if_neg h2]
def swpP (n x y : Nat) (hx : x < n) (hy : y < n) : PL n := ⟨(List.range n).map fun i => (swf x y i : Int), by simp, by
  have hl : ((List.range n).map fun i => (swf x y i : Int)).length = n := by simp
  have hg : ∀ i, i < n → ((List.range n).map fun i => (swf x y i : Int)).getD i 0 = (swf x y i : Int) := fun i hi => by simp [List.getD_eq_getElem?_getD, hi]
  refine fine_of (fun i hi => ?_) (fun i j hi hj e => ?_)
  · rw [hl] at hi ⊢
    exact ⟨_, swf_lt hx hy hi, hg i hi⟩
  · rw [hl] at hi hj
    rw [hg i hi, hg j hj] at e
    have e2 : swf x y i = swf x y j := by omega
    have := congrArg (swf x y) e2
    rwa [swf_swf, swf_swf] at this⟩
theorem av_swp {n x y : Nat} (hx : x < n) (hy : y < n) {i : Nat} (hi : i < n) : av (swpP n x y hx hy) i = swf x y i := by
  unfold av swpP
  simp [List.getD_eq_getElem?_getD, hi]
theorem invs_swp {n x y : Nat} (h12 : n ≤ 12) (hx : x < n) (hy : y < n) (hne : x ≠ y) : invs (swpP n x y hx hy) % 2 = 1 := by
  have := swap_odd n (by omega) x hx y hy hne
  unfold invs
  rwa [tri_congr (t := inv2 (swf x y)) (fun i j hi hj => by unfold inv2; rw [av_swp hx hy hi, av_swp hx hy hj])]
/-- A single cycle as a permutation, and its parity. -/
theorem cyc_par {n : Nat} (h12 : n ≤ 12) : ∀ (c : List Int), 0 < c.length → InR n c → c.Nodup → ∃ Q : PL n, Q.1 = joinL (idL n) c ∧ invs Q % 2 = (c.length + 1) % 2 := by
  intro c
  induction c with
  | nil => intro h; simp at h
  | cons x c ih =>
    intro _ hin hnd
    obtain ⟨x0, x1⟩ := hin x (by simp)
    obtain ⟨X, rfl⟩ : ∃ X : Nat, x = (X : Int) := ⟨x.toNat, by omega⟩
    have hX : X < n := by omega
    have hidl : InR (idL n).length ((X : Int) :: c) := by rw [idL_len]; exact hin
    have hll : (joinL (idL n) ((X : Int) :: c)).length = n := by rw [joinL, joinTo_length, idL_len]
    cases c with
    | nil =>
      refine ⟨pone n, ?_, by rw [invs_one]; simp⟩
      apply List.ext_getElem ((pone n).2.1.trans hll.symm)
      intro i g1 g2
      have hi : i < n := by rw [hll] at g2; exact g2
      have key : (pone n).1.getD i 0 = (joinL (idL n) [(X : Int)]).getD i 0 := by
        show (idL n).getD i 0 = _
        by_cases e : i = X
        · subst e
          have := joinTo_at hidl hnd 1 (Nat.le_refl _) 0 (by omega)
          rw [idL_get hi]
          simpa [joinL] using this.symm
        · exact (joinTo_off hidl (i := i) (by simp; omega) 1 (Nat.le_refl _)).symm
      simpa [List.getD_eq_getElem?_getD, g1, g2] using key
    | cons y r =>
      obtain ⟨y0, y1⟩ := hin y (by simp)
      obtain ⟨Y, rfl⟩ : ∃ Y : Nat, y = (Y : Int) := ⟨y.toNat, by omega⟩
      have hY : Y < n := by omega
      have hin' : InR n ((Y : Int) :: r) := fun z hz => hin z (List.mem_cons_of_mem _ hz)
      have hnd' := (List.nodup_cons.1 hnd).2
      have hXc := (List.nodup_cons.1 hnd).1
      obtain ⟨Q, hQ, hp⟩ := ih (by simp) hin' hnd'
      have hne : X ≠ Y := fun e => hXc (by rw [e]; simp)
      have hidl' : InR (idL n).length ((Y : Int) :: r) := by rw [idL_len]; exact hin'
      refine ⟨pmul Q (swpP n X Y hX hY), ?_, ?_⟩
      · apply List.ext_getElem ((pmul Q (swpP n X Y hX hY)).2.1.trans hll.symm)
        intro i g1 g2
        have hi : i < n := by rw [hll] at g2; exact g2
        have hav := av_mul Q (swpP n X Y hX hY) hi
        rw [av_swp hX hY (av_lt Q hi)] at hav
        have hL := av_at (pmul Q (swpP n X Y hX hY)) hi
        rw [hav] at hL
        have hQi := av_at Q hi
        rw [hQ] at hQi
        have key : (pmul Q (swpP n X Y hX hY)).1.getD i 0 = (joinL (idL n) ((X : Int) :: (Y : Int) :: r)).getD i 0 := by
          rw [hL]
          by_cases hic : (i : Int) ∈ (Y : Int) :: r
          · obtain ⟨t, ht⟩ := List.mem_iff_getElem?.1 hic
            have htl := (List.getElem?_eq_some_iff.1 ht).1
            have hte : ((Y : Int) :: r).getD t 0 = (i : Int) := by rw [List.getD_eq_getElem?_getD, ht]; rfl
            have j1 := joinTo_at hidl' hnd' _ (Nat.le_refl _) t htl
            have j2 := joinTo_at hidl hnd _ (Nat.le_refl _) (t + 1) (by simpa using htl)
            have hte2 : ((X : Int) :: (Y : Int) :: r).getD (t + 1) 0 = (i : Int) := hte
            rw [hte, Int.toNat_natCast] at j1
            rw [hte2, Int.toNat_natCast] at j2
            have j3 : (joinL (idL n) ((Y : Int) :: r)).getD i 0 = _ := j1
            have j4 : (joinL (idL n) ((X : Int) :: (Y : Int) :: r)).getD i 0 = _ := j2
            rw [j4]
            rw [j3] at hQi
            have hlc : ((X : Int) :: (Y : Int) :: r).length = ((Y : Int) :: r).length + 1 := rfl
            by_cases hlast : t + 1 < ((Y : Int) :: r).length
            · rw [Nat.mod_eq_of_lt hlast] at hQi
              rw [hlc, Nat.mod_eq_of_lt (by omega)]
              show _ = ((Y : Int) :: r).getD (t + 1) 0
              rw [hQi]
              have hm1 : (av Q i : Int) ∈ (Y : Int) :: r := by rw [← hQi]; exact getD_mem hlast
              have n1 : av Q i ≠ X := fun e => hXc (by rw [← e]; exact hm1)
              have n2 : av Q i ≠ Y := fun e => by
                have h0 : ((Y : Int) :: r).getD (t + 1) 0 = ((Y : Int) :: r).getD 0 0 := by rw [hQi, e]; rfl
                have := nodup_inj hnd' hlast (by simp) h0
                omega
              unfold swf
              rw [if_neg n1, if_neg n2]
            · have et : t + 1 = ((Y : Int) :: r).length := by omega
              rw [et, Nat.mod_self] at hQi
              rw [hlc, show t + 1 + 1 = ((Y : Int) :: r).length + 1 by omega, Nat.mod_self]
              have hY2 : av Q i = Y := by
                have : ((Y : Int) :: r).getD 0 0 = (Y : Int) := rfl
                rw [this] at hQi
                omega
              rw [hY2]
              show ((swf X Y Y : Nat) : Int) = (X : Int)
              unfold swf
              rw [if_neg (fun e => hne e.symm), if_pos rfl]
          · have j1 := joinTo_off hidl' hic _ (Nat.le_refl _)
            rw [idL_get hi] at j1
            have j3 : (joinL (idL n) ((Y : Int) :: r)).getD i 0 = _ := j1
            rw [j3] at hQi
            have hQe : av Q i = i := by omega
            rw [hQe]
            by_cases e : i = X
            · subst e
              have j2 := joinTo_at hidl hnd _ (Nat.le_refl _) 0 (by simp)
              have j4 : (joinL (idL n) ((i : Int) :: (Y : Int) :: r)).getD i 0 = ((i : Int) :: (Y : Int) :: r).getD ((0 + 1) % ((i : Int) :: (Y : Int) :: r).length) 0 := by
                have h0 : ((i : Int) :: (Y : Int) :: r).getD 0 0 = (i : Int) := rfl
                rw [h0, Int.toNat_natCast] at j2
                exact j2
              rw [j4, Nat.mod_eq_of_lt (by simp)]
              unfold swf
              rw [if_pos rfl]
              rfl
            · have hic2 : (i : Int) ∉ (X : Int) :: (Y : Int) :: r := by
                intro hm
                rcases List.mem_cons.1 hm with hm | hm
                · omega
                · exact hic hm
              have j2 := joinTo_off hidl hic2 _ (Nat.le_refl _)
              rw [idL_get hi] at j2
              have j4 : (joinL (idL n) ((X : Int) :: (Y : Int) :: r)).getD i 0 = (i : Int) := j2
              rw [j4]
              have n2 : i ≠ Y := fun e2 => hic (by rw [e2]; simp)
              unfold swf
              rw [if_neg e, if_neg n2]
        simpa [List.getD_eq_getElem?_getD, g1, g2] using key
      · obtain ⟨m, hm⟩ := invs_mul Q (swpP n X Y hX hY)
        have h3 := invs_swp h12 hX hY hne
        simp only [List.length_cons] at hp ⊢
        omega
def parS (cs : List (List Int)) : Nat := (cs.map fun c => c.length + 1).sum
theorem parS_snoc (cs : List (List Int)) (c : List Int) : parS (cs ++ [c]) = parS cs + (c.length + 1) := by
  unfold parS
  rw [List.map_append, List.sum_append]
  simp
theorem sgnOf_par (cs : List (List Int)) : ∀ k, k ≤ cs.length → sgnOf (cs.take k) = if parS (cs.take k) % 2 = 0 then 1 else -1 := by
  intro k
  induction k with
  | zero => intro _; rfl
  | succ k ih =>
    intro hk
    rw [List.take_succ_eq_append_getElem (by omega), sgnOf_snoc, ih (by omega)]
    rw [parS_snoc]
    unfold sgStep
    by_cases h1 : parS (cs.take k) % 2 = 0
    · rw [if_pos h1]
      by_cases h2 : cs[k].length % 2 = 0
      · rw [if_pos h2, if_neg (by omega)]
      · rw [if_neg h2, if_pos (by omega)]
    · rw [if_neg h1]
      by_cases h2 : cs[k].length % 2 = 0
      · rw [if_pos h2, if_pos (by omega)]; rfl
      · rw [if_neg h2, if_neg (by omega)]
/-- The sign counts the pairs that are turned round. -/
theorem sign_invs {n : Nat} (h12 : n ≤ 12) (a : PL n) : sgnOf (cycs a.1) = if invs a % 2 = 0 then 1 else -1 := by
  obtain ⟨zs, hzl, hzf⟩ := a
  subst hzl
  obtain ⟨hb, hnd, hcl, _⟩ := cycs_back hzf (by omega)
  have hL : Longs zs (cycs zs) := ⟨hcl, hnd, hb⟩
  have hk : ∀ k, k ≤ (cycs zs).length → ∃ P : PL zs.length, P.1 = joins (idL zs.length) ((cycs zs).take k) ∧ invs P % 2 = parS ((cycs zs).take k) % 2 := by
    intro k
    induction k with
    | zero => intro _; exact ⟨pone _, rfl, by rw [invs_one]; rfl⟩
    | succ k ih =>
      intro hk
      obtain ⟨P, hP, hpp⟩ := ih (by omega)
      have hm : (cycs zs)[k] ∈ cycs zs := List.getElem_mem (by omega)
      obtain ⟨Q, hQ, hqp⟩ := cyc_par h12 (cycs zs)[k] (hcl _ hm).1 (hcl _ hm).2.1 (hL.nodup hm)
      obtain ⟨m, hmm⟩ := invs_mul Q P
      refine ⟨pmul Q P, whole_step hL (by omega) hP hQ, ?_⟩
      rw [List.take_succ_eq_append_getElem (by omega)]
      rw [parS_snoc]
      omega
  obtain ⟨P, hP, hpp⟩ := hk _ (Nat.le_refl _)
  have hs := sgnOf_par (cycs zs) _ (Nat.le_refl _)
  rw [List.take_length] at hs hP hpp
  rw [hb] at hP
  have hPa : P = ⟨zs, rfl, hzf⟩ := Subtype.ext hP
  show sgnOf (cycs zs) = _
  rw [hs, ← hPa, hpp]
end Go.Proofs.YtpchomhfpfpckaaDoor
