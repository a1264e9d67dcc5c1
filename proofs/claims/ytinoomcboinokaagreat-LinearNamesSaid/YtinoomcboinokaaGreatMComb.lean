/- matrix.plus and its closure; combine over two lists of ints with it. -/
import Derived.Test.YtinoomcboinokaaGreatMFound
import Derived.Test.YtinoomcboinokaaGreatMPrime
namespace Go.Proofs.YtinoomcboinokaaGreat
open Go Go.RowKit Num

theorem mul_in {a b p q : Int} (ha : 0 ≤ a ∧ a ≤ p) (hb : 0 ≤ b ∧ b ≤ q) (hp : p ≤ 10000) (hq : q ≤ 10000) : 0 ≤ a * b ∧ a * b ≤ 100000000 := by
  refine ⟨Int.mul_nonneg ha.1 hb.1, ?_⟩
  have h1 : a * b ≤ 10000 * b := Int.mul_le_mul_of_nonneg_right (by omega) hb.1
  omega

set_option maxRecDepth 100000 in
set_option maxHeartbeats 400000 in
theorem plus_any (k p : Int) (w : World) : Calls Tryz.prog 60 #[.int .i64 k, .int .i64 p] w fun e w' =>
    e = .returned (.func (.func 80) #[] #[.pointer (some ⟨w.heap.size, 0, none⟩), .pointer (some ⟨w.heap.size + 1, 0, none⟩)]) ∧ w' = (w.alloc (.cells #[.int .i64 k] 3)).alloc (.cells #[.int .i64 p] 3) := by
  go_enter Tryz.func60, Tryz.ntmps60
  go_wp2
  go_ret
  exact ⟨rfl, rfl⟩

set_option maxRecDepth 100000 in
set_option maxHeartbeats 400000 in
theorem plus1_any (x k y p : Int) (B C : Nat) (w : World) (hp1 : p ≤ 10000) (hx : 0 ≤ x ∧ x < p) (hk : 0 ≤ k ∧ k ≤ p) (hy : 0 ≤ y ∧ y < p) (hb : Boxed w B 3 (.int .i64 k)) (hc : Boxed w C 3 (.int .i64 p)) :
    Calls Tryz.prog 80 #[.int .i64 x, .int .i64 y, .pointer (some ⟨B, 0, none⟩), .pointer (some ⟨C, 0, none⟩)] w fun e w' => e = .returned (.int .i64 ((x + k * y) % p)) ∧ w' = w := by
  have h1 := hb.cell
  have h2 := hc.cell
  have hm := mul_in hk ⟨hy.1, show y ≤ p by omega⟩ hp1 hp1
  obtain ⟨m, hmm⟩ : ∃ m, k * y = m := ⟨_, rfl⟩
  rw [hmm] at hm ⊢
  have hw : IntKind.i64.wrap (k * y) = m := by rw [hmm]; exact IntWalk.i64_in _ ⟨by omega, by omega⟩
  have hw2 : IntKind.i64.wrap (x + m) = x + m := IntWalk.i64_in _ ⟨by omega, by omega⟩
  have hne : (p != 0) = true := by simp; omega
  have hr : (x + m).tmod p = (x + m) % p := Int.tmod_eq_emod_of_nonneg (by omega)
  have hr1 : 0 ≤ (x + m) % p := Int.emod_nonneg _ (by omega)
  have hr2 : (x + m) % p < p := Int.emod_lt_of_pos _ (by omega)
  have hw3 : IntKind.i64.wrap ((x + m) % p) = (x + m) % p := IntWalk.i64_in _ ⟨by omega, by omega⟩
  clear hb hc hmm
  go_enter Tryz.func80, Tryz.ntmps80
  go_wp2
  go_ret
  exact ⟨rfl, rfl⟩

theorem boxBelow {W W' : World} {B N : Nat} {t : TypeId} {v : Value} (h : Boxed W B t v) (hb : Below N W W') (hB : B < N) : Boxed W' B t v := (hb.block B hB).trans h
/-- Residues. -/
def InP (p : Int) (n : Nat) (f : Nat → Int) : Prop := ∀ j, j < n → 0 ≤ f j ∧ f j < p
/-- A row and k times another. -/
def axpy (k p : Int) (f g : Nat → Int) (j : Nat) : Int := (f j + k * g j) % p
theorem axpy_in {k p : Int} (hp : 0 < p) (f g : Nat → Int) (n : Nat) : InP p n (axpy k p f g) := fun j _ => ⟨Int.emod_nonneg _ (by omega), Int.emod_lt_of_pos _ hp⟩

/-- Between two rounds of a call that fills a block of its own. -/
def Fill (w : World) (t : TypeId) (n : Nat) (g : Nat → Value) (z : Value) (k : Nat) (wr : World) : Prop :=
  k ≤ n ∧ Row wr w.heap.size t (CTab n (part k g z)) ∧ Below w.heap.size w wr
theorem Fill.start (w : World) (t : TypeId) (n : Nat) (g : Nat → Value) (z : Value) : Fill w t n g z 0 (w.alloc (.cells (CTab n fun _ => z) t)) :=
  ⟨Nat.zero_le _, by rw [part_zero]; exact Row.new w t _, (Below.refl _ _).alloc (Nat.le_refl _) _⟩
theorem Fill.step {w wr : World} {t : TypeId} {n : Nat} {g : Nat → Value} {z : Value} {k : Nat} (h : Fill w t n g z k wr) (hk : k < n) : Fill w t n g z (k + 1) (wr.setCell ⟨w.heap.size, k, none⟩ (g k)) :=
  ⟨by omega, by rw [← part_set n k g z (g k) rfl]; exact h.2.1.set k _, h.2.2.setCell (p := ⟨w.heap.size, k, none⟩) (Nat.le_refl _) _⟩

set_option maxRecDepth 100000 in
set_option maxHeartbeats 400000 in
theorem combine_plus (v u : Value) (n m : Nat) (f g : Nat → Int) (k p : Int) (B C : Nat) (S : Nat → Prop) (w : World) (hS : ∀ b, S b → b < w.heap.size) (hB : B < w.heap.size) (hC : C < w.heap.size) (hn : n ≤ 1000000) (hnm : n ≤ m)
    (hv : Vec w S v n f) (hu : Vec w S u m g) (hp1 : p ≤ 10000) (hf : InP p n f) (hg : InP p n g) (hk : 0 ≤ k ∧ k ≤ p) (hb : Boxed w B 3 (.int .i64 k)) (hc : Boxed w C 3 (.int .i64 p)) :
    Calls Tryz.prog 59 #[v, u, .func (.func 80) #[] #[.pointer (some ⟨B, 0, none⟩), .pointer (some ⟨C, 0, none⟩)]] w (GivesV w n (axpy k p f g)) := by
  have hmk := make_ints n (by omega)
  have H0 := Lib.hid (Fill.start w 3 n (iv (axpy k p f g)) (.int .i64 0))
  have hfin : ∀ wr, Fill w 3 n (iv (axpy k p f g)) (.int .i64 0) n wr → Vec wr (New w wr) (.slice (some ⟨w.heap.size, 0, none⟩) n n) n (axpy k p f g) ∧ Below w.heap.size w wr := fun wr h =>
    ⟨Row.vec (by have := h.2.1; rw [part_all] at this; exact this) ⟨Nat.le_refl _, h.2.1.lt⟩ (Nat.le_refl _), h.2.2⟩
  have HF := Lib.hid hfin
  clear hfin
  obtain ⟨A, c, rfl, hnc, hv⟩ := hv
  obtain ⟨A2, c2, rfl, hmc, hu⟩ := hu
  have HS := Lib.hid hS
  have HP := fun x y W a b c d => Lib.hid (plus1_any x k y p B C W hp1 a hk b c d)
  have HCV := Lib.hid hv
  have HCU := Lib.hid hu
  have HFI := Lib.hid hf
  have HGI := Lib.hid hg
  clear hv hu hf hg hS
  go_enter Tryz.func59, Tryz.ntmps59
  go_wp2
  go_loopw [15] (fun i wr => ∃ j : Nat, i = .int .i64 j ∧ Fill w 3 n (iv (axpy k p f g)) (.int .i64 0) j wr) (fun i _ => n - (intOf i).toNat)
  case atStart => exact ⟨0, rfl, H0.out⟩
  case round =>
    obtain ⟨j, rfl, hA⟩ := hrel
    have hj := hA.1
    by_cases hlt : j < n
    · obtain ⟨b, o, rfl, hb1, hcv⟩ := HCV.out (by omega)
      obtain ⟨b2, o2, rfl, hb2, hcu⟩ := HCU.out (by omega)
      have hb1' := HS.out _ hb1
      have hb2' := HS.out _ hb2
      have hx : wr.cell? ⟨b, o + j, none⟩ = some (.int .i64 (f j)) := (hA.2.2.cell (p := ⟨b, o + j, none⟩) hb1').trans (hcv j hlt)
      have hy : wr.cell? ⟨b2, o2 + j, none⟩ = some (.int .i64 (g j)) := (hA.2.2.cell (p := ⟨b2, o2 + j, none⟩) hb2').trans (hcu j (by omega))
      have hC1 := HP (f j) (g j) wr (HFI.out j hlt) (HGI.out j hlt) (boxBelow hb hA.2.2 hB) (boxBelow hc hA.2.2 hC)
      have hS := Lib.hid (hA.step hlt)
      have hct := hA.2.1.cell (CTab_get n (part j (iv (axpy k p f g)) (.int .i64 0)) j hlt)
      have hft := hA.2.1.frozen j
      have hjm : j < m := by omega
      generalize part j (iv (axpy k p f g)) (.int .i64 0) j = u0 at hct
      change Hid (Fill w 3 n (iv (axpy k p f g)) (.int .i64 0) (j + 1) (wr.setCell ⟨w.heap.size, j, none⟩ (.int .i64 ((f j + k * g j) % p)))) at hS
      generalize (f j + k * g j) % p = z at hC1 hS
      generalize f j = x at hx hC1
      generalize g j = y at hy hC1
      clear hA hb hc hcv hcu
      go_wp2_with fail
      refine hC1.out.mono ?_
      rintro e w' ⟨rfl, rfl⟩
      go_wp2
      go_roundw
      case rel => exact ⟨j + 1, by go_num, hS.out⟩
      case measure => simp [intOf]; omega
    · have hA' : Fill w 3 n (iv (axpy k p f g)) (.int .i64 0) n wr := by rw [show j = n by omega] at hA; exact hA
      have HA := Lib.hid (HF.out _ hA')
      clear hA hA' hb hc
      go_wp2
      go_ret
      exact ⟨_, rfl, HA.out⟩
end Go.Proofs.YtinoomcboinokaaGreat
