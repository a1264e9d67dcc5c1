/- matrix.vector, matrix.number. -/
import Derived.Test.YtokiejichnnmnaaMLaw2
namespace Go.Proofs.Ytokiejichnnmnaa
open Go Go.RowKit Num

/-- The entry i of the vector with the number k. -/
def digN (p n k i : Nat) : Nat := k / p ^ (n - 1 - i) % p
def digF (p n k : Nat) (i : Nat) : Int := (digN p n k i : Nat)
/-- The entries from i on are laid. -/
def digC (p n k i : Nat) (j : Nat) : Value := if i ≤ j then iv (digF p n k) j else .int .i64 0
theorem digC_start (p n k : Nat) : CTab n (digC p n k n) = CTab n (fun _ => .int .i64 0) := CTab_congr _ _ _ fun i hi => by unfold digC; rw [if_neg (by omega)]
theorem digC_end (p n k : Nat) : CTab n (digC p n k 0) = CTab n (iv (digF p n k)) := CTab_congr _ _ _ fun i _ => by unfold digC; rw [if_pos (Nat.zero_le _)]
theorem digC_step (p n k i : Nat) : (CTab n (digC p n k (i + 1))).setIfInBounds i (.int .i64 (digF p n k i)) = CTab n (digC p n k i) := by
  rw [CTab_set]
  refine CTab_congr _ _ _ fun j _ => ?_
  unfold digC
  by_cases e : j = i
  · subst e; rw [if_pos rfl, if_pos (Nat.le_refl _)]; rfl
  · rw [if_neg e]
    by_cases h : i + 1 ≤ j
    · rw [if_pos h, if_pos (by omega)]
    · rw [if_neg h, if_neg (by omega)]

set_option maxRecDepth 100000 in
set_option maxHeartbeats 1000000 in
theorem vector_any (k n p : Nat) (w : World) (hn : n ≤ 1000) (hp2 : 2 ≤ p) (hp : p ≤ 10000) (hk : k ≤ 1000000) :
    Calls Try.prog 124 #[.int .i64 k, .int .i64 n, .int .i64 p] w (GivesV w n (digF p n k)) := by
  have hmk := fun W => make_ints n (by omega) W
  have HS := Lib.hid (show Row (w.alloc (.cells (CTab n fun _ => .int .i64 0) 3)) w.heap.size 3 (CTab n (digC p n k n)) from by rw [digC_start]; exact row_new rfl _ _)
  have HB := Lib.hid ((Below.refl w.heap.size w).alloc (Nat.le_refl _) (.cells (CTab n fun _ => .int .i64 0) 3))
  go_enter Try.func124, Try.ntmps124
  go_wp2
  clear hmk
  go_loopw [0, 8] (fun t0 t8 wr => ∃ i : Nat, t8 = .int .i64 ((i : Int) - 1) ∧ i ≤ n ∧ t0 = .int .i64 ((k / p ^ (n - i) : Nat) : Int) ∧ Row wr w.heap.size 3 (CTab n (digC p n k i)) ∧ Below w.heap.size w wr) (fun _ t8 _ => (intOf t8 + 1).toNat)
  case atStart => exact ⟨n, rfl, Nat.le_refl _, by rw [Nat.sub_self, Nat.pow_zero, Nat.div_one], HS.out, HB.out⟩
  case round =>
    obtain ⟨i, rfl, hi, rfl, hR, hB⟩ := hrel
    have HR := Lib.hid hR
    have HB2 := Lib.hid hB
    cases i with
    | zero =>
      have hd : decide ((((0 : Nat) : Int) - 1) ≥ 0) = false := by decide
      have HV := Lib.hid (show Vec wr (New w wr) (.slice (some ⟨w.heap.size, 0, none⟩) n n) n (digF p n k) from by
        rw [digC_end] at hR; exact hR.vec ⟨Nat.le_refl _, hR.lt⟩ (Nat.le_refl _))
      clear hR hB
      go_wp2
      go_ret
      exact ⟨_, rfl, HV.out, HB2.out⟩
    | succ i =>
      rw [show ((i + 1 : Nat) : Int) - 1 = (i : Int) by omega]
      have hlt : i < n := by omega
      have hu : k / p ^ (n - (i + 1)) ≤ 1000000 := Nat.le_trans (Nat.div_le_self _ _) hk
      have HD := Lib.hid (show digN p n k i = k / p ^ (n - (i + 1)) % p from by unfold digN; rw [show n - 1 - i = n - (i + 1) by omega])
      have HU := Lib.hid (show k / p ^ (n - i) = k / p ^ (n - (i + 1)) / p from by rw [show n - i = n - (i + 1) + 1 by omega, Nat.pow_succ, Nat.div_div_eq_div_mul])
      generalize k / p ^ (n - (i + 1)) = u at hu HD HU ⊢
      obtain ⟨d, hd⟩ : ∃ d, u % p = d := ⟨_, rfl⟩
      obtain ⟨u2, hu2⟩ : ∃ u2, u / p = u2 := ⟨_, rfl⟩
      have k7 : (u : Int) % (p : Int) = (d : Int) := by rw [← Int.natCast_emod, hd]
      have k8 : (u : Int) / (p : Int) = (u2 : Int) := by rw [← Int.natCast_ediv, hu2]
      have hu2b : u2 ≤ 1000000 := by rw [← hu2]; exact Nat.le_trans (Nat.div_le_self _ _) hu
      have hb9 : d ≤ 10000 := by have := Nat.mod_lt u (show 0 < p by omega); omega
      have HDD := Lib.hid (show digF p n k i = (d : Int) from by unfold digF; rw [HD.out, hd])
      have HUU := Lib.hid (show k / p ^ (n - i) = u2 from HU.out.trans hu2)
      have hc : wr.cell? ⟨w.heap.size, i, none⟩ = some (.int .i64 0) := by
        refine hR.cell (CTab_get _ _ i hlt |>.trans ?_)
        unfold digC; rw [if_neg (by omega)]
      have hf := hR.frozen i
      have HN := Lib.hid (show Row (wr.setCell ⟨w.heap.size, i, none⟩ (.int .i64 d)) w.heap.size 3 (CTab n (digC p n k i)) from by
        have := hR.set i (.int .i64 d)
        have e := digC_step p n k i
        rw [HDD.out] at e
        rwa [e] at this)
      have HNB := Lib.hid (hB.setCell (p := ⟨w.heap.size, i, none⟩) (Nat.le_refl _) (.int .i64 d))
      have h0 : (0 : Int) ≤ i := by omega
      have hd0 : decide ((i : Int) ≥ 0) = true := decide_eq_true (by omega)
      have h00 : (i : Int) < n := by omega
      have hp0 : ((p : Int) == 0) = false := by simp; omega
      clear hR hB hd hu2 HD HU HDD
      go_wp2
      go_roundw
      case rel => exact ⟨i, by go_num, by omega, by rw [HUU.out], HN.out, HNB.out⟩
      case measure => simp [intOf]

/-- The number of a vector. -/
def numN (p : Nat) (g : Nat → Nat) : Nat → Nat
  | 0 => 0
  | i + 1 => numN p g i * p + g i
theorem numN_lt {p n : Nat} {g : Nat → Nat} (h : ∀ i, i < n → g i < p) : ∀ i, i ≤ n → numN p g i < p ^ i
  | 0, _ => by simp [numN]
  | i + 1, hi => by
    have h1 := numN_lt h i (by omega)
    have h2 := h i (by omega)
    rw [numN, Nat.pow_succ]
    have h3 : (numN p g i + 1) * p ≤ p ^ i * p := Nat.mul_le_mul_right p h1
    rw [Nat.add_mul, Nat.one_mul] at h3
    omega

set_option maxRecDepth 100000 in
set_option maxHeartbeats 1000000 in
theorem number_any (v : Value) (n p : Nat) (f : Nat → Int) (w : World) (S : Nat → Prop) (hn : n ≤ 1000) (hp : p ≤ 10000) (hv : Vec w S v n f) (hf : InP p n f) (hpn : p ^ n ≤ 1000000) :
    Calls Try.prog 123 #[v, .int .i64 p] w fun e w' => e = .returned (.int .i64 ((numN p (fun i => (f i).toNat) n : Nat) : Int)) ∧ w' = w := by
  obtain ⟨A, c, rfl, hc, hcell⟩ := hv
  have hlt := numN_lt (p := p) (n := n) (g := fun i => (f i).toNat) (fun i hi => by have := hf i hi; omega)
  have hpw : ∀ i, i < n → p ^ (i + 1) ≤ 1000000 := fun i hi => by
    by_cases h0 : p = 0
    · subst h0; rw [Nat.zero_pow (by omega)]; omega
    · exact Nat.le_trans (Nat.pow_le_pow_right (by omega) (by omega)) hpn
  have HA := Lib.hid (show ∀ i, i < n → ∃ b o, A = some ⟨b, o, none⟩ ∧ w.cell? ⟨b, o + i, none⟩ = some (.int .i64 (f i)) from fun i hi => by
    obtain ⟨b, o, e, _, h⟩ := hcell (by omega); exact ⟨b, o, e, h i hi⟩)
  have HL := Lib.hid hlt
  have HP := Lib.hid hpw
  have HF := Lib.hid hf
  have HE := Lib.hid (show ∀ i, numN p (fun i => (f i).toNat) (i + 1) = numN p (fun i => (f i).toNat) i * p + (f i).toNat from fun i => rfl)
  clear hcell hlt hpw hf hpn
  go_enter Try.func123, Try.ntmps123
  go_wp2
  go_loop [5, 10] (fun t5 t10 => ∃ i : Nat, t10 = .int .i64 i ∧ i ≤ n ∧ t5 = .int .i64 ((numN p (fun i => (f i).toNat) i : Nat) : Int)) (fun _ t10 => n - (intOf t10).toNat)
  case atStart => exact ⟨0, rfl, Nat.zero_le _, rfl⟩
  case round =>
    obtain ⟨i, rfl, hi, rfl⟩ := hrel
    by_cases hin : i < n
    · obtain ⟨b, o, rfl, hcl⟩ := HA.out i hin
      have h1 := HL.out i hi
      have h2 := HL.out (i + 1) (by omega)
      have h3 := HP.out i hin
      have h4 := HF.out i hin
      have HE2 := Lib.hid (HE.out i)
      rw [HE.out i] at h2
      obtain ⟨x, hx⟩ : ∃ x : Nat, f i = x := ⟨(f i).toNat, by omega⟩
      rw [hx] at hcl h4 h2 HE2
      rw [Int.toNat_natCast] at h2 HE2
      generalize numN p (fun i => (f i).toNat) i = a at h1 h2 HE2 ⊢
      obtain ⟨q, hq⟩ : ∃ q, a * p = q := ⟨_, rfl⟩
      rw [hq] at h2 HE2
      have mz := wrap_mul hq (by omega)
      have hqb : q + x ≤ 1000000 := by omega
      have h0 : (0 : Int) ≤ i := by omega
      have h00 : (i : Int) < n := by omega
      clear hq h1 h2 h3 hx h4
      go_wp2
      go_round
      case rel => exact ⟨i + 1, by go_num, by omega, by rw [HE2.out]; go_num⟩
      case measure => simp [intOf]; omega
    · have e : i = n := by omega
      subst e
      go_wp2
      go_ret
      exact ⟨rfl, rfl⟩
end Go.Proofs.Ytokiejichnnmnaa
